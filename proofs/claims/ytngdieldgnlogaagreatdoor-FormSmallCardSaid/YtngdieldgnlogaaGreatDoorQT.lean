/- The reference's term and Term. The reference's rows. The reference's row, for every formula. The reference's rows of a formula and of its parts. The reference's Right and Schema. The program's Term. -/
import Derived.Test.YtngdieldgnlogaaGreatDoorMM
import Derived.Test.YtngdieldgnlogaaGreatDoorMR
import Derived.Test.YtngdieldgnlogaaGreatDoorQD
import Derived.Test.YtngdieldgnlogaaGreatDoorQN
namespace Go.Proofs.YtngdieldgnlogaaGreatDoor
open Go Go.RowKit
set_option maxRecDepth 100000
set_option linter.unusedVariables false
def RTerm (N:Nat):Prop:=∀ (ts:Ts) (v:Bool) (n:ByteArray) (sc:Bool) (sa:Value) (w:World),ts.size≤N→TSl w ts sa→ts.size≤1000000→n.size+ts.wt≤4000000 →
 Calls Tryz.prog 82 #[.agg #[.bool v,.string n,sa],.bool sc] w fun e w'=>e=.returned (.bool (rightT sc v n ts))∧Below w.heap.size w w'
set_option maxHeartbeats 4000000 in
theorem refTm_any (N:Nat):RTerm N:=by
 induction N using Nat.strongRecOn with
 | _ N ih =>
 intro ts v n sc sa w hN hts hs hwt
 have ihh:=h_X ih
 have hst:=TS.start (v:=v) (n:=n) (t:=46) hts
 obtain⟨p,c,b,o,rfl,hp,ht⟩:=TSl.opened hts
 have hll:=ts.len_le
 obtain⟨W1,hW1⟩:∃ W1,w.alloc (.cells #[.bool v,.string n,.slice p ts.len c] 46)=W1:=⟨_,rfl⟩
 rw[hW1] at hst
 obtain⟨g,hg⟩:∃ g,w.heap.size=g:=⟨_,rfl⟩
 have hgh:=h_X hg
 rw[hg] at hst
 have k1h:=h_X hst
 have hth:=h_X (TsAt.below hst.2.2.2.1 ht)
 have HV:=h_X (fun W=>(by have:=refVar_any n W (by omega);rw[←var_eq] at this;exact this:Calls Tryz.prog 43 #[.string n] W fun e w'=>e=.returned (.bool (isVar n))∧W=w'))
 have HF:=h_X (fun W=>(by have:=refFun_any n W (by omega);rw[←fun_eq] at this;exact this:Calls Tryz.prog 44 #[.string n] W fun e w'=>e=.returned (.bool (isFun n))∧W=w'))
 have HM:=h_X (fun W=>(by have:=ofTerms_any n W (by omega);rw[←marked_eq isFun refFun fun_eq (fun s h=>spelled_empty _ _ _ s h)] at this;exact this:Calls Tryz.prog 92 #[.string n] W fun e w'=>e=.returned (.bool (markedB isFun n))∧W=w'))
 have hwth:=h_X hwt
 clear ih hst hts ht hwt
 cases v with
 | true =>
  by_cases hz:ts.len=0
  ·have hz':((ts.len:Int) == 0)=true:=by rw[beq_iff_eq];omega
   have hr:Hid (rightT sc true n ts=(isVar n || (sc && markedB isFun n))):=h_X (by simp[rightT,hz])
   clear hz
   go_enter Tryz.func82,Tryz.ntmps82
   obtain⟨c0,c1,c2,-⟩:=k1h.out
   go_wp2_with fail
   refine(HV.out _).mono ?_
   rintro e w2 ⟨rfl,rfl⟩
   cases hv:isVar n with
   | true =>
    have hfin:Hid (rightT sc true n ts=true):=h_X (by rw[hr.out,hv];rfl)
    have hb:=h_X k1h.out.2.2.2.1
    clear hv
    go_wp2_with fail
    go_ret
    refine⟨?_,hb.out⟩
    rw[hfin.out]
    rfl
   | false =>
    cases sc with
    | false =>
     have hfin:Hid (rightT false true n ts=false):=h_X (by rw[hr.out,hv];rfl)
     have hb:=h_X k1h.out.2.2.2.1
     clear hv
     go_wp2_with fail
     go_ret
     refine⟨?_,hb.out⟩
     rw[hfin.out]
     rfl
    | true =>
     have hfin:Hid (rightT true true n ts=markedB isFun n):=h_X (by rw[hr.out,hv];simp)
     have hb:=h_X k1h.out.2.2.2.1
     clear hv
     go_wp2_with fail
     refine(HM.out _).mono ?_
     rintro e w3 ⟨rfl,rfl⟩
     go_wp2_with fail
     go_ret
     refine⟨?_,hb.out⟩
     rw[hfin.out]
     rfl
  ·have hz':((ts.len:Int) == 0)=false:=beq_eq_false_iff_ne.2 (by omega)
   have hr:Hid (rightT sc true n ts=false):=h_X (by simp[rightT,hz])
   have hb:=h_X k1h.out.2.2.2.1
   go_enter Tryz.func82,Tryz.ntmps82
   obtain⟨c0,c1,c2,-⟩:=k1h.out
   go_wp2_with fail
   go_ret
   refine⟨?_,hb.out⟩
   rw[hr.out]
   rfl
 | false =>
  have hwt2:ts.wt≤4000000:=by have:=hwth.out;omega
  have hr:Hid (rightT sc false n ts=(isFun n && decide (ts.len≤4) && ts.right sc)):=h_X (by simp[rightT])
  go_enter Tryz.func82,Tryz.ntmps82
  obtain⟨c0,c1,c2,-⟩:=k1h.out
  go_wp2_with fail
  clear c0 c1 c2 hW1 hg
  go_loopw [5] (fun i wr=>∃ (k:Nat) (r:Ts),i=.int .i64 (k:Int)∧k+r.len=ts.len∧r.size≤ts.size∧r.wt≤ts.wt∧ts.right sc=r.right sc∧TsAt wr r b (o+k*3)∧Below W1.heap.size W1 wr) (fun i _=>ts.len - (intOf i).toNat)
  case atStart=>exact⟨0,ts,rfl,by omega,Nat.le_refl _,Nat.le_refl _,rfl,by simpa using hth.out,Below.refl _ _⟩
  case round =>
   obtain⟨k,r,rfl,hk,hrz,hrw,hrr,hat,hbw⟩:=hrel
   have hbwh:=h_X hbw
   obtain⟨c0,c1,c2,-⟩:=k1h.out.next hbw
   clear hbw
   cases r with
   | nil =>
    simp only[Ts.len,Nat.add_zero] at hk
    subst hk
    have hfin:Hid (rightT sc false n ts=(isFun n && decide (ts.len≤4))):=h_X (by rw[hr.out,hrr];simp[Ts.right])
    have hb:=h_X (bS k1h.out.2.2.2.1 hbwh.out)
    clear hrr hrw hrz hat
    go_wp2_with fail
    refine(HF.out _).mono ?_
    rintro e w2 ⟨rfl,rfl⟩
    cases hf:isFun n with
    | false =>
     have hfin2:Hid (rightT sc false n ts=false):=h_X (by rw[hfin.out,hf];rfl)
     clear hf
     go_wp2_with fail
     go_ret
     refine⟨?_,hb.out⟩
     rw[hfin2.out]
     rfl
    | true =>
     have hle:decide ((ts.len:Int)≤4)=decide (ts.len≤4):=by by_cases h:ts.len≤4<;>simp[h]<;>omega
     have hfin2:Hid (rightT sc false n ts=decide ((ts.len:Int)≤4)):=h_X (by rw[hfin.out,hf,hle];rfl)
     clear hf hle
     go_wp2_with fail
     go_ret
     refine⟨?_,hb.out⟩
     rw[hfin2.out]
     rfl
   | cons v nm us r =>
    simp only[Ts.len,Ts.size,Ts.wt] at hk hrz hrw
    have hkl:(k:Int) < (ts.len:Int):=by omega
    have hk0:(0:Int)≤(k:Int):=by omega
    obtain rfl:=hp.resolve_left (by omega)
    obtain⟨d0,d1,⟨s,d2,hus⟩,hrest⟩:=hat
    have hresth:=h_X hrest
    have HC:=h_X (ihh.out us.size (by omega) us v nm sc s wr (Nat.le_refl _) hus (by omega) (by omega))
    obtain⟨ps,cs,rfl,-⟩:=id hus
    have hw3:IntKind.i64.wrap ((k:Int)+1)=(k:Int)+1:=IntWalk.i64_in _ (by omega)
    have hrr':Hid (ts.right sc=(rightT sc v nm us && r.right sc)):=h_X hrr
    have hkh:=h_X hk
    have hrzh:=h_X (show r.size≤ts.size by omega)
    have hrwh:=h_X (show r.wt≤ts.wt by omega)
    clear hrest hus hk hN hrz hrw hrr
    go_wp2_with fail
    refine HC.out.mono ?_
    rintro e w' ⟨rfl,hb'⟩
    have hbwh:=h_X (bS hbwh.out hb')
    have hresth:=h_X (TsAt.below hb' hresth.out)
    clear HC c0 c1 c2 d0 d1 d2 hb'
    cases hq:rightT sc v nm us with
    | false =>
     have hfin2:Hid (rightT sc false n ts=false):=h_X (by rw[hr.out,hrr'.out,hq];simp)
     have hb:=h_X (bS k1h.out.2.2.2.1 hbwh.out)
     clear hq
     go_wp2_with fail
     go_ret
     refine⟨?_,hb.out⟩
     rw[hfin2.out]
     rfl
    | true =>
     have hrr2:Hid (ts.right sc=r.right sc):=h_X (by rw[hrr'.out,hq];rfl)
     clear hq
     go_wp2_with fail
     go_roundw
     case rel=>exact⟨k+1,r,by congr 1,by have:=hkh.out;omega,hrzh.out,hrwh.out,hrr2.out,by have:=hresth.out;rwa [show o+(k+1)*3=o+k*3+3 by omega],hbwh.out⟩
     case measure=>have:=hkh.out;simp[intOf];omega
theorem refTermT_any (ts:Ts) (v:Bool) (n:ByteArray) (sa:Value) (w:World) (hts:TSl w ts sa) (hs:ts.size≤1000000) (hwt:n.size+ts.wt≤4000000) :
  Calls Tryz.prog 34 #[.agg #[.bool v,.string n,sa]] w fun e w'=>e=.returned (.bool (rightT false v n ts))∧Below w.heap.size w w':=by
 have hst:=TS.start (v:=v) (n:=n) (t:=46) hts
 have HC:=h_X (refTm_any ts.size ts v n false sa _ (Nat.le_refl _) hst.2.2.2.2 hs hwt)
 obtain⟨p,c,rfl,-⟩:=id hts
 have hb:=h_X hst.2.2.2.1
 clear hst hts
 go_enter Tryz.func34,Tryz.ntmps34
 go_wp2_with fail
 refine HC.out.mono ?_
 rintro e w2 ⟨rfl,hb2⟩
 have hfin:=h_X (bS hb.out hb2)
 clear HC hb2
 go_wp2_with fail
 go_ret
 exact⟨rfl,hfin.out⟩
end Go.Proofs.YtngdieldgnlogaaGreatDoor
namespace Go.Proofs.YtngdieldgnlogaaGreatDoor
open Go Go.RowKit
set_option maxRecDepth 100000
set_option linter.unusedVariables false
def inst2:Ts→Bool
 | .cons v1 n1 _ (.cons v2 n2 _ .nil)=>v1 && isVar n1 && v2 && markedB isFun n2
 | _=>false
def rowR (sc:Bool) (op:Int) (n:ByteArray) (ts:Ts) (k:Nat):Bool :=
 if op=1 then isPred n && decide (ts.len≤4) && decide (k=0)
 else if op=2 then n.toList.isEmpty && decide (ts.len=0) && decide (k=0)
 else if op=3∨op=10∨op=11∨op=12∨op=13 then n.toList.isEmpty && decide (ts.len=0) && decide (k=1)
 else if op=4∨op=5∨op=6∨op=7∨op=14 then n.toList.isEmpty && decide (ts.len=0) && decide (k=2)
 else if op=8∨op=9 then isVar n && decide (ts.len=0) && decide (k=1)
 else if op=15 then sc && markedB isPred n && decide (ts.len=0) && decide (k=0)
 else if op=16 then sc && markedB isPred n && decide (ts.len=2) && decide (k=0) && inst2 ts
 else false
set_option maxHeartbeats 1000000 in
theorem row_empty (f:FT) (sc:Bool) (v:Value) (w:World) (hv:FVal w f v) (c:Nat) (hop:f.op=2∧c=0∨(f.op=3∨f.op=10∨f.op=11∨f.op=12∨f.op=13)∧c=1∨(f.op=4∨f.op=5∨f.op=6∨f.op=7∨f.op=14)∧c=2) :
    Calls Tryz.prog 105 #[v,.bool sc] w fun e w'=>e=.returned (.bool (f.n.toList.isEmpty && decide (f.ts.len=0) && decide (f.sub.len=c)))∧Below w.heap.size w w':=by
  obtain⟨sa,ss,rfl,ha,hss⟩:=id hv
  obtain⟨pa,ca,hsa,-⟩:=id ha
  obtain⟨p,d,hsb,-⟩:=id hss
  subst hsa hsb
  have hst:=FS.start (t:=25) hv
  have k1h:=h_X hst.2.2.2.2.1
  obtain⟨b0,b1,b2,b3,-⟩:=hst
  clear ha hss hv
  obtain⟨op,hof⟩:∃ op,f.op=op:=⟨_,rfl⟩
  rw[hof] at hop b0 k1h ⊢
  clear hof
  generalize hn:f.n=n at b1 k1h ⊢
  generalize ha:f.ts.len=a at b2 k1h ⊢
  generalize hk:f.sub.len=k at b3 k1h ⊢
  clear hn ha hk
  cases he:n.toList.isEmpty with
  | false =>
    rcases hop with ⟨rfl,rfl⟩ | ⟨rfl | rfl | rfl | rfl | rfl,rfl⟩ | ⟨rfl | rfl | rfl | rfl | rfl,rfl⟩ <;>
    ( go_enter Tryz.func105,Tryz.ntmps105
      go_wp2_with fail
      go_ret
      exact⟨rfl,k1h.out⟩ )
  | true =>
    by_cases ha:a=0
    · have ha':((a:Int) == 0)=true:=by rw[beq_iff_eq];omega
      rw[decide_eq_true ha,show decide (k=c)=((k:Int) == (c:Int)) by rw[Bool.eq_iff_iff];simp;omega]
      clear ha
      rcases hop with ⟨rfl,rfl⟩ | ⟨rfl | rfl | rfl | rfl | rfl,rfl⟩ | ⟨rfl | rfl | rfl | rfl | rfl,rfl⟩ <;>
      ( go_enter Tryz.func105,Tryz.ntmps105
        go_wp2_with fail
        go_ret
        exact⟨rfl,k1h.out⟩ )
    · have ha':((a:Int) == 0)=false:=by rw[beq_eq_false_iff_ne];omega
      rw[decide_eq_false ha,Bool.and_false,Bool.false_and]
      clear ha
      rcases hop with ⟨rfl,rfl⟩ | ⟨rfl | rfl | rfl | rfl | rfl,rfl⟩ | ⟨rfl | rfl | rfl | rfl | rfl,rfl⟩ <;>
      ( go_enter Tryz.func105,Tryz.ntmps105
        go_wp2_with fail
        go_ret
        exact⟨rfl,k1h.out⟩ )
set_option maxHeartbeats 1000000 in
theorem row_named (f:FT) (sc:Bool) (v:Value) (w:World) (hv:FVal w f v) (hz:f.n.size≤4000000) (hop:f.op=1∨f.op=8∨f.op=9) :
    Calls Tryz.prog 105 #[v,.bool sc] w fun e w'=>e=.returned (.bool (rowR sc f.op f.n f.ts f.sub.len))∧Below w.heap.size w w':=by
  obtain⟨sa,ss,rfl,ha,hss⟩:=id hv
  obtain⟨pa,ca,hsa,-⟩:=id ha
  obtain⟨p,d,hsb,-⟩:=id hss
  subst hsa hsb
  have hst:=FS.start (t:=25) hv
  have k1h:=h_X hst.2.2.2.2.1
  obtain⟨b0,b1,b2,b3,-⟩:=hst
  clear ha hss hv
  obtain⟨op,hof⟩:∃ op,f.op=op:=⟨_,rfl⟩
  rw[hof] at hop b0 k1h ⊢
  clear hof
  generalize hn:f.n=n at b1 k1h hz ⊢
  generalize hts:f.ts=ts at b2 k1h ⊢
  generalize hk:f.sub.len=k at b3 k1h ⊢
  clear hn hts hk
  have HP:=h_X (fun W=>(by have:=refPred_any n W (by omega);rw[←pred_eq] at this;exact this:Calls Tryz.prog 46 #[.string n] W fun e w'=>e=.returned (.bool (isPred n))∧W=w'))
  have HV:=h_X (fun W=>(by have:=refVar_any n W (by omega);rw[←var_eq] at this;exact this:Calls Tryz.prog 43 #[.string n] W fun e w'=>e=.returned (.bool (isVar n))∧W=w'))
  clear hz
  have hk0:decide (k=0)=((k:Int) == 0):=by rw[Bool.eq_iff_iff];simp
  have hk1:decide (k=1)=((k:Int) == 1):=by rw[Bool.eq_iff_iff];simp;omega
  have hsp:op=1∨op≠1∧(op=8∨op=9):=by omega
  rcases hsp with rfl | ⟨h1,hop⟩
  · have hr:rowR sc 1 n ts k=(isPred n && decide (ts.len≤4) && ((k:Int) == 0)):=by simp[rowR,hk0]
    rw[hr]
    clear hr hop hk0 hk1
    cases hp:isPred n with
    | false =>
      rw[hp] at HP
      clear hp
      go_enter Tryz.func105,Tryz.ntmps105
      go_wp2_with fail
      refine(HP.out _).mono ?_
      rintro e w2 ⟨rfl,rfl⟩
      go_wp2_with fail
      go_ret
      exact⟨rfl,k1h.out⟩
    | true =>
      rw[hp] at HP
      clear hp
      by_cases hl:ts.len≤4
      · have hl':(ts.len:Int)≤4:=by omega
        rw[decide_eq_true hl]
        clear hl
        go_enter Tryz.func105,Tryz.ntmps105
        go_wp2_with fail
        refine(HP.out _).mono ?_
        rintro e w2 ⟨rfl,rfl⟩
        go_wp2_with fail
        go_ret
        exact⟨rfl,k1h.out⟩
      · have hl':4 < (ts.len:Int):=by omega
        rw[decide_eq_false hl]
        clear hl
        go_enter Tryz.func105,Tryz.ntmps105
        go_wp2_with fail
        refine(HP.out _).mono ?_
        rintro e w2 ⟨rfl,rfl⟩
        go_wp2_with fail
        go_ret
        exact⟨rfl,k1h.out⟩
  · have hr:rowR sc op n ts k=(isVar n && decide (ts.len=0) && ((k:Int) == 1)):=by rcases hop with rfl | rfl<;>simp[rowR,hk1]
    rw[hr]
    clear hr hk0 hk1 h1
    cases hp:isVar n with
    | false =>
      rw[hp] at HV
      clear hp
      rcases hop with rfl | rfl <;>
      ( go_enter Tryz.func105,Tryz.ntmps105
        go_wp2_with fail
        refine(HV.out _).mono ?_
        rintro e w2 ⟨rfl,rfl⟩
        go_wp2_with fail
        go_ret
        exact⟨rfl,k1h.out⟩ )
    | true =>
      rw[hp] at HV
      clear hp
      by_cases hl:ts.len=0
      · have hl':((ts.len:Int) == 0)=true:=by rw[beq_iff_eq];omega
        rw[decide_eq_true hl]
        clear hl
        rcases hop with rfl | rfl <;>
        ( go_enter Tryz.func105,Tryz.ntmps105
          go_wp2_with fail
          refine(HV.out _).mono ?_
          rintro e w2 ⟨rfl,rfl⟩
          go_wp2_with fail
          go_ret
          exact⟨rfl,k1h.out⟩ )
      · have hl':((ts.len:Int) == 0)=false:=by rw[beq_eq_false_iff_ne];omega
        rw[decide_eq_false hl]
        clear hl
        rcases hop with rfl | rfl <;>
        ( go_enter Tryz.func105,Tryz.ntmps105
          go_wp2_with fail
          refine(HV.out _).mono ?_
          rintro e w2 ⟨rfl,rfl⟩
          go_wp2_with fail
          go_ret
          exact⟨rfl,k1h.out⟩ )
end Go.Proofs.YtngdieldgnlogaaGreatDoor
namespace Go.Proofs.YtngdieldgnlogaaGreatDoor
open Go Go.RowKit
set_option maxRecDepth 100000
set_option linter.unusedVariables false
set_option maxHeartbeats 1000000 in
theorem row_meta (f:FT) (sc:Bool) (v:Value) (w:World) (hv:FVal w f v) (hz:f.n.size+f.ts.wt≤4000000) (hop:f.op=15) :
  Calls Tryz.prog 105 #[v,.bool sc] w fun e w'=>e=.returned (.bool (rowR sc f.op f.n f.ts f.sub.len))∧Below w.heap.size w w':=by
 obtain⟨sa,ss,rfl,ha,hss⟩:=id hv
 obtain⟨pa,ca,hsa,-⟩:=id ha
 obtain⟨p,d,hsb,-⟩:=id hss
 subst hsa hsb
 have hst:=FS.start (t:=25) hv
 have k1h:=h_X hst.2.2.2.2.1
 have hta:=h_X hst.2.2.2.2.2.1
 obtain⟨b0,b1,b2,b3,-⟩:=hst
 clear ha hss hv
 rw[hop] at b0 b1 b2 b3 k1h hta ⊢
 generalize hn:f.n=n at b0 b1 b2 b3 k1h hta hz ⊢
 generalize hts:f.ts=ts at b0 b1 b2 b3 k1h hta hz ⊢
 generalize hk:f.sub.len=k at b0 b1 b2 b3 k1h hta ⊢
 clear hn hts hk hop
 have HP:=h_X (fun W=>(by have:=ofForms_any n W (by omega);rw[←marked_eq isPred refPred pred_eq (fun s h=>spelled_empty _ _ _ s h)] at this;exact this:Calls Tryz.prog 91 #[.string n] W fun e w'=>e=.returned (.bool (markedB isPred n))∧W=w'))
 clear hz hta
 have hk0:decide (k=0)=((k:Int) == 0):=by rw[Bool.eq_iff_iff];simp
 have hr:rowR sc 15 n ts k=(sc && markedB isPred n && decide (ts.len=0) && ((k:Int) == 0)):=by simp[rowR,hk0]
 rw[hr]
 clear hr hk0
 cases sc with
 | false =>
  go_enter Tryz.func105,Tryz.ntmps105
  go_wp2_with fail
  go_ret
  exact⟨rfl,k1h.out⟩
 | true =>
  cases hp:markedB isPred n with
  | false =>
   rw[hp] at HP
   clear hp
   go_enter Tryz.func105,Tryz.ntmps105
   go_wp2_with fail
   refine(HP.out _).mono ?_
   rintro e w2 ⟨rfl,rfl⟩
   go_wp2_with fail
   go_ret
   exact⟨rfl,k1h.out⟩
  | true =>
   rw[hp] at HP
   clear hp
   by_cases hl:ts.len=0
   ·have hl':((ts.len:Int) == 0)=true:=by rw[beq_iff_eq];omega
    rw[decide_eq_true hl]
    clear hl
    go_enter Tryz.func105,Tryz.ntmps105
    go_wp2_with fail
    refine(HP.out _).mono ?_
    rintro e w2 ⟨rfl,rfl⟩
    go_wp2_with fail
    go_ret
    exact⟨rfl,k1h.out⟩
   ·have hl':((ts.len:Int) == 0)=false:=by rw[beq_eq_false_iff_ne];omega
    rw[decide_eq_false hl]
    clear hl
    go_enter Tryz.func105,Tryz.ntmps105
    go_wp2_with fail
    refine(HP.out _).mono ?_
    rintro e w2 ⟨rfl,rfl⟩
    go_wp2_with fail
    go_ret
    exact⟨rfl,k1h.out⟩
theorem two_of {ts:Ts} (h:ts.len=2):∃ v1 n1 u1 v2 n2 u2,ts=.cons v1 n1 u1 (.cons v2 n2 u2 .nil):=by
 cases ts with
 | nil=>simp[Ts.len] at h
 | cons v1 n1 u1 r =>
  cases r with
  | nil=>simp[Ts.len] at h
  | cons v2 n2 u2 r2 =>
   cases r2 with
   | nil=>exact⟨v1,n1,u1,v2,n2,u2,rfl⟩
   | cons _ _ _ r3=>simp only[Ts.len] at h;omega
set_option maxHeartbeats 1000000 in
theorem row_inst (f:FT) (sc:Bool) (v:Value) (w:World) (hv:FVal w f v) (hz:f.n.size+f.ts.wt≤4000000) (hop:f.op=16) :
  Calls Tryz.prog 105 #[v,.bool sc] w fun e w'=>e=.returned (.bool (rowR sc f.op f.n f.ts f.sub.len))∧Below w.heap.size w w':=by
 obtain⟨sa,ss,rfl,ha,hss⟩:=id hv
 obtain⟨pa,ca,hsa,-⟩:=id ha
 obtain⟨p,d,hsb,-⟩:=id hss
 subst hsa hsb
 have hst:=FS.start (t:=25) hv
 have k1h:=h_X hst.2.2.2.2.1
 have hta:=h_X hst.2.2.2.2.2.1
 obtain⟨b0,b1,b2,b3,-⟩:=hst
 clear ha hss hv
 rw[hop] at b0 b1 b2 b3 k1h hta ⊢
 generalize hn:f.n=n at b0 b1 b2 b3 k1h hta hz ⊢
 generalize hts:f.ts=ts at b0 b1 b2 b3 k1h hta hz ⊢
 generalize hk:f.sub.len=k at b0 b1 b2 b3 k1h hta ⊢
 clear hn hts hk hop
 have HP:=h_X (fun W=>(by have:=ofForms_any n W (by omega);rw[←marked_eq isPred refPred pred_eq (fun s h=>spelled_empty _ _ _ s h)] at this;exact this:Calls Tryz.prog 91 #[.string n] W fun e w'=>e=.returned (.bool (markedB isPred n))∧W=w'))
 have hk0:decide (k=0)=((k:Int) == 0):=by rw[Bool.eq_iff_iff];simp
 have hr:rowR sc 16 n ts k=(sc && markedB isPred n && decide (ts.len=2) && ((k:Int) == 0) && inst2 ts):=by simp[rowR,hk0]
 rw[hr]
 clear hr hk0
 cases sc with
 | false =>
  clear hz hta
  go_enter Tryz.func105,Tryz.ntmps105
  go_wp2_with fail
  go_ret
  exact⟨rfl,k1h.out⟩
 | true =>
  cases hp:markedB isPred n with
  | false =>
   rw[hp] at HP
   clear hp hz hta
   go_enter Tryz.func105,Tryz.ntmps105
   go_wp2_with fail
   refine(HP.out _).mono ?_
   rintro e w2 ⟨rfl,rfl⟩
   go_wp2_with fail
   go_ret
   exact⟨rfl,k1h.out⟩
  | true =>
   rw[hp] at HP
   clear hp
   by_cases hl:ts.len=2
   rotate_left
   ·have hl':((ts.len:Int) == 2)=false:=by rw[beq_eq_false_iff_ne];omega
    rw[decide_eq_false hl]
    clear hl hz hta
    go_enter Tryz.func105,Tryz.ntmps105
    go_wp2_with fail
    refine(HP.out _).mono ?_
    rintro e w2 ⟨rfl,rfl⟩
    go_wp2_with fail
    go_ret
    exact⟨rfl,k1h.out⟩
   cases hk:((k:Int) == 0) with
   | false =>
    have hl':((ts.len:Int) == 2)=true:=by rw[beq_iff_eq];omega
    rw[decide_eq_true hl]
    clear hl hz hta
    go_enter Tryz.func105,Tryz.ntmps105
    go_wp2_with fail
    refine(HP.out _).mono ?_
    rintro e w2 ⟨rfl,rfl⟩
    go_wp2_with fail
    go_ret
    exact⟨rfl,k1h.out⟩
   | true =>
    obtain⟨v1,n1,u1,v2,n2,u2,rfl⟩:=two_of hl
    obtain⟨pa,ca',b,o,he,hp,ht⟩:=TSl.opened hta.out
    cases he
    obtain rfl:=hp.resolve_left (by rw[hl];omega)
    obtain⟨d0,d1,-,d3,d4,-,-⟩:=ht
    simp only[Ts.wt] at hz
    have HV:=h_X (fun W=>(by have:=refVar_any n1 W (by omega);rw[←var_eq] at this;exact this:Calls Tryz.prog 43 #[.string n1] W fun e w'=>e=.returned (.bool (isVar n1))∧W=w'))
    have HM:=h_X (fun W=>(by have:=ofTerms_any n2 W (by omega);rw[←marked_eq isFun refFun fun_eq (fun s h=>spelled_empty _ _ _ s h)] at this;exact this:Calls Tryz.prog 92 #[.string n2] W fun e w'=>e=.returned (.bool (markedB isFun n2))∧W=w'))
    have hi:inst2 (.cons v1 n1 u1 (.cons v2 n2 u2 .nil))=(v1 && isVar n1 && v2 && markedB isFun n2):=rfl
    rw[hi,decide_eq_true hl]
    have hl2:(Ts.cons v1 n1 u1 (.cons v2 n2 u2 .nil)).len=2:=hl
    rw[hl2] at b0 b1 b2 b3 d0 d1 d3 d4 k1h ⊢
    generalize hxx:Ts.cons v1 n1 u1 (.cons v2 n2 u2 .nil)=xx at k1h
    obtain⟨W1,hW1⟩:∃ W1,w.alloc (.cells #[.int .u8 16,.string n,.slice (some ⟨b,o,none⟩) 2 ca,.slice p k d] 25)=W1:=⟨_,rfl⟩
    rw[hW1] at b0 b1 b2 b3 d0 d1 d3 d4 k1h
    clear hl hz hta hp hl2 hxx hi
    cases v1 with
    | false =>
     go_enter Tryz.func105,Tryz.ntmps105
     go_wp2_with fail
     refine(HP.out _).mono ?_
     rintro e w2 ⟨rfl,rfl⟩
     go_wp2_with fail
     go_ret
     exact⟨rfl,k1h.out⟩
    | true =>
     cases hv1:isVar n1 with
     | false =>
      rw[hv1] at HV
      clear hv1
      go_enter Tryz.func105,Tryz.ntmps105
      go_wp2_with fail
      refine(HP.out _).mono ?_
      rintro e w2 ⟨rfl,rfl⟩
      go_wp2_with fail
      refine(HV.out _).mono ?_
      rintro e w2 ⟨rfl,rfl⟩
      go_wp2_with fail
      go_ret
      exact⟨rfl,k1h.out⟩
     | true =>
      rw[hv1] at HV
      clear hv1
      cases v2 with
      | false =>
       go_enter Tryz.func105,Tryz.ntmps105
       go_wp2_with fail
       refine(HP.out _).mono ?_
       rintro e w2 ⟨rfl,rfl⟩
       go_wp2_with fail
       refine(HV.out _).mono ?_
       rintro e w2 ⟨rfl,rfl⟩
       go_wp2_with fail
       go_ret
       exact⟨rfl,k1h.out⟩
      | true =>
       go_enter Tryz.func105,Tryz.ntmps105
       go_wp2_with fail
       refine(HP.out _).mono ?_
       rintro e w2 ⟨rfl,rfl⟩
       go_wp2_with fail
       refine(HV.out _).mono ?_
       rintro e w2 ⟨rfl,rfl⟩
       go_wp2_with fail
       refine(HM.out _).mono ?_
       rintro e w2 ⟨rfl,rfl⟩
       go_wp2_with fail
       go_ret
       exact⟨rfl,k1h.out⟩
set_option maxHeartbeats 1000000 in
theorem row_else (f:FT) (sc:Bool) (v:Value) (w:World) (hv:FVal w f v) (hop:¬ (1≤f.op∧f.op≤16)) :
  Calls Tryz.prog 105 #[v,.bool sc] w fun e w'=>e=.returned (.bool (rowR sc f.op f.n f.ts f.sub.len))∧Below w.heap.size w w':=by
 have hr:rowR sc f.op f.n f.ts f.sub.len=false:=by
  unfold rowR
  iterate 7 rw[if_neg (by omega)]
 rw[hr]
 clear hr
 obtain⟨sa,ss,rfl,ha,hss⟩:=id hv
 obtain⟨pa,ca,hsa,-⟩:=id ha
 obtain⟨p,d,hsb,-⟩:=id hss
 subst hsa hsb
 have hst:=FS.start (t:=25) hv
 have k1h:=h_X hst.2.2.2.2.1
 obtain⟨b0,b1,b2,b3,-⟩:=hst
 clear ha hss hv
 have n1:(f.op == 1)=false:=by rw[beq_eq_false_iff_ne];omega
 have n2:(f.op == 2)=false:=by rw[beq_eq_false_iff_ne];omega
 have n3:(f.op == 3)=false:=by rw[beq_eq_false_iff_ne];omega
 have n4:(f.op == 4)=false:=by rw[beq_eq_false_iff_ne];omega
 have n5:(f.op == 5)=false:=by rw[beq_eq_false_iff_ne];omega
 have n6:(f.op == 6)=false:=by rw[beq_eq_false_iff_ne];omega
 have n7:(f.op == 7)=false:=by rw[beq_eq_false_iff_ne];omega
 have n8:(f.op == 8)=false:=by rw[beq_eq_false_iff_ne];omega
 have n9:(f.op == 9)=false:=by rw[beq_eq_false_iff_ne];omega
 have n10:(f.op == 10)=false:=by rw[beq_eq_false_iff_ne];omega
 have n11:(f.op == 11)=false:=by rw[beq_eq_false_iff_ne];omega
 have n12:(f.op == 12)=false:=by rw[beq_eq_false_iff_ne];omega
 have n13:(f.op == 13)=false:=by rw[beq_eq_false_iff_ne];omega
 have n14:(f.op == 14)=false:=by rw[beq_eq_false_iff_ne];omega
 have n15:(f.op == 15)=false:=by rw[beq_eq_false_iff_ne];omega
 have n16:(f.op == 16)=false:=by rw[beq_eq_false_iff_ne];omega
 clear hop
 go_enter Tryz.func105,Tryz.ntmps105
 go_wp2_with fail
 go_ret
 exact⟨rfl,k1h.out⟩
theorem row_any (f:FT) (sc:Bool) (v:Value) (w:World) (hv:FVal w f v) (hz:f.n.size+f.ts.wt≤4000000) :
  Calls Tryz.prog 105 #[v,.bool sc] w fun e w'=>e=.returned (.bool (rowR sc f.op f.n f.ts f.sub.len))∧Below w.heap.size w w':=by
 by_cases h0:1≤f.op∧f.op≤16
 rotate_left
 ·exact row_else f sc v w hv h0
 by_cases h1:f.op=1∨f.op=8∨f.op=9
 ·exact row_named f sc v w hv (by omega) h1
 by_cases h15:f.op=15
 ·exact row_meta f sc v w hv hz h15
 by_cases h16:f.op=16
 ·exact row_inst f sc v w hv hz h16
 obtain⟨c,hc⟩:∃ c:Nat,f.op=2∧c=0∨(f.op=3∨f.op=10∨f.op=11∨f.op=12∨f.op=13)∧c=1∨(f.op=4∨f.op=5∨f.op=6∨f.op=7∨f.op=14)∧c=2:=by
  by_cases h2:f.op=2
  ·exact⟨0,by omega⟩
  by_cases h3:f.op=3∨f.op=10∨f.op=11∨f.op=12∨f.op=13
  ·exact⟨1,by omega⟩
  ·exact⟨2,by omega⟩
 have hr:rowR sc f.op f.n f.ts f.sub.len=(f.n.toList.isEmpty && decide (f.ts.len=0) && decide (f.sub.len=c)):=by
  rcases hc with ⟨h,rfl⟩ | ⟨h,rfl⟩ | ⟨h,rfl⟩
  ·unfold rowR
   rw[if_neg (by omega),if_pos h]
  ·unfold rowR
   rw[if_neg (by omega),if_neg (by omega),if_pos h]
  ·unfold rowR
   rw[if_neg (by omega),if_neg (by omega),if_neg (by omega),if_pos h]
 rw[hr]
 exact row_empty f sc v w hv c hc
end Go.Proofs.YtngdieldgnlogaaGreatDoor
namespace Go.Proofs.YtngdieldgnlogaaGreatDoor
open Go Go.RowKit
set_option maxRecDepth 100000
set_option linter.unusedVariables false
theorem fun_notVar {s:ByteArray} (h:isFun s=true):isVar s=false:=by
 simp only[isFun,isVar,spelled,Bool.and_eq_true,decide_eq_true_eq] at h ⊢
 have:¬ (117≤byteI s 0):=by omega
 simp[this]
theorem fun_notMeta {s:ByteArray} (h:isFun s=true) (m:ByteArray→Bool):markedB m s=false:=by
 simp only[isFun,markedB,spelled,Bool.and_eq_true,decide_eq_true_eq] at h ⊢
 have:¬ (byteI s 0=63):=by omega
 simp[this]
theorem inst_right (ts:Ts) (sc:Bool) (h:ts.right sc=true) (hl:ts.len≤2):(decide (ts.len=2) && inst2 ts)=instB ts:=by
 by_cases h2:ts.len=2
 ·obtain⟨v1,n1,u1,v2,n2,u2,rfl⟩:=two_of h2
  rw[decide_eq_true h2,Bool.true_and]
  simp only[Ts.right,Bool.and_true,Bool.and_eq_true] at h
  obtain⟨r1,r2⟩:=h
  show (v1 && isVar n1 && v2 && markedB isFun n2)=(isVar n1 && markedB isFun n2)
  cases v1 with
  | false =>
   have:isFun n1=true:=by simp only[Bool.false_eq_true,if_false,Bool.and_eq_true] at r1;exact r1.1.1
   rw[fun_notVar this];simp
  | true =>
   cases v2 with
   | false =>
    have:isFun n2=true:=by simp only[Bool.false_eq_true,if_false,Bool.and_eq_true] at r2;exact r2.1.1
    rw[fun_notMeta this];simp
   | true=>simp
 ·rw[decide_eq_false h2,instB_len h2];rfl
theorem row_right (sc:Bool) (op:Int) (n:ByteArray) (ts:Ts) (k:Nat):(rowR sc op n ts k && ts.right sc)=formOk sc op n ts k:=by
 cases hr:ts.right sc with
 | false=>simp[formOk,hr]
 | true =>
  rw[Bool.and_true]
  unfold formOk
  rw[hr,Bool.and_true]
  by_cases h0:1≤op∧op≤16
  rotate_left
  ·have:rowR sc op n ts k=false:=by
    unfold rowR
    iterate 7 rw[if_neg (by omega)]
   rw[this]
   by_cases h1:1≤op
   ·have:¬ op≤lastOp sc:=by cases sc<;>simp[lastOp]<;>omega
    simp[this]
   ·simp[h1]
  ·obtain⟨h1,h2⟩:=h0
   by_cases h16:op=16
   ·subst h16
    cases sc with
    | false=>simp[rowR,lastOp]
    | true =>
     show (true && markedB isPred n && decide (ts.len=2) && decide (k=0) && inst2 ts)=(decide ((1:Int)≤16) && decide ((16:Int)≤16) && markedB isPred n && decide (ts.len≤2) && decide (k=0) && (!((16:Int) == 16) || instB ts))
     by_cases hl:ts.len≤2
     ·rw[←inst_right ts true hr hl]
      have e1:(decide ((1:Int)≤16) && decide ((16:Int)≤16))=true:=by decide
      have e2:(!((16:Int) == 16))=false:=by decide
      rw[e1,e2,decide_eq_true hl]
      cases markedB isPred n<;>cases decide (ts.len=2)<;>cases decide (k=0)<;>cases inst2 ts<;>rfl
     ·have h3:¬ ts.len=2:=by omega
      rw[decide_eq_false hl,decide_eq_false h3];simp
   ·have ho:op=1∨op=2∨op=3∨op=4∨op=5∨op=6∨op=7∨op=8∨op=9∨op=10∨op=11∨op=12∨op=13∨op=14∨op=15:=by omega
    rcases ho with rfl | rfl | rfl | rfl | rfl | rfl | rfl | rfl | rfl | rfl | rfl | rfl | rfl | rfl | rfl<;>cases sc<;>simp[rowR,rowK,rowA,rowS,nameOk,lastOp]
def RRows (N:Nat):Prop:=∀ (f:FT) (sc:Bool) (v:Value) (w:World),f.size≤N→FVal w f v→f.size≤1000000→f.wt≤4000000 →
 Calls Tryz.prog 66 #[v,.bool sc] w fun e w'=>e=.returned (.bool (f.right sc))∧Below w.heap.size w w'
set_option maxHeartbeats 4000000 in
theorem refRows_any (N:Nat):RRows N:=by
 induction N using Nat.strongRecOn with
 | _ N ih =>
 intro f sc v w hN hv hs hwt
 have ihh:=h_X ih
 obtain⟨sa,ss,rfl,ha,hss⟩:=id hv
 obtain⟨pa,ca,b1,o1,rfl,hp1,ht1⟩:=TSl.opened ha
 obtain⟨p,c,b,o,rfl,hp,ht⟩:=FSl.opened hss
 have hll:=f.ts.len_le
 have hll2:=f.sub.len_le
 have ez:f.size=f.ts.size+f.sub.size+1:=rfl
 have ew:f.wt=f.n.size+f.ts.wt+f.sub.wt+1:=rfl
 have hst:=FS.start (t:=25) hv
 obtain⟨W1,hW1⟩:∃ W1,w.alloc (.cells #[.int .u8 f.op,.string f.n,.slice pa f.ts.len ca,.slice p f.sub.len c] 25)=W1:=⟨_,rfl⟩
 rw[hW1] at hst
 obtain⟨g,hg⟩:∃ g,w.heap.size=g:=⟨_,rfl⟩
 have hgh:=h_X hg
 rw[hg] at hst
 have k1h:=h_X hst
 have hth1:=h_X (TsAt.below hst.2.2.2.2.1 ht1)
 have hth:=h_X (FsAt.below hst.2.2.2.2.1 ht)
 have HR:=h_X (row_any f sc _ W1 hst.val (by omega))
 obtain⟨rr,hrr⟩:∃ rr,f.right sc=rr:=⟨_,rfl⟩
 have hdef:Hid (rr=(rowR sc f.op f.n f.ts f.sub.len && f.ts.right sc && f.sub.right sc)):=h_X (by rw[←hrr,row_right];rfl)
 rw[hrr]
 clear ih hst hv ha hss ht ht1 hrr
 go_enter Tryz.func66,Tryz.ntmps66
 obtain⟨c0,c1,c2,c3,-⟩:=k1h.out
 go_wp2_with fail
 refine HR.out.mono ?_
 rintro e w2 ⟨rfl,hb2⟩
 have hb2h:=h_X hb2
 clear HR hW1 c0 c1 c2 c3
 cases hq:rowR sc f.op f.n f.ts f.sub.len with
 | false =>
  have hfin2:Hid (rr=false):=h_X (by rw[hdef.out,hq];rfl)
  have hb:=h_X (bS k1h.out.2.2.2.2.1 hb2)
  clear hq hb2
  go_wp2_with fail
  go_ret
  refine⟨?_,hb.out⟩
  rw[hfin2.out]
  rfl
 | true =>
 have hdef2:Hid (rr=(f.ts.right sc && f.sub.right sc)):=h_X (by rw[hdef.out,hq];rfl)
 obtain⟨c0,c1,c2,c3,-⟩:=k1h.out.next hb2
 clear hq hb2 hdef
 go_wp2_with fail
 clear c0 c1 c2 c3
 go_loopw [5] (fun i wr=>∃ (k:Nat) (r:Ts),i=.int .i64 (k:Int)∧k+r.len=f.ts.len∧r.size≤f.ts.size∧r.wt≤f.ts.wt∧f.ts.right sc=r.right sc∧TsAt wr r b1 (o1+k*3)∧Below W1.heap.size W1 wr) (fun i _=>f.ts.len - (intOf i).toNat)
 case atStart=>exact⟨0,f.ts,rfl,by omega,Nat.le_refl _,Nat.le_refl _,rfl,TsAt.below hb2h.out (by simpa using hth1.out),hb2h.out⟩
 case round =>
  obtain⟨k,r,rfl,hk,hrz,hrw,hrr,hat,hbw⟩:=hrel
  have hbwh:=h_X hbw
  obtain⟨c0,c1,c2,c3,-⟩:=k1h.out.next hbw
  clear hbw
  cases r with
  | cons v nm us r =>
   simp only[Ts.len,Ts.size,Ts.wt] at hk hrz hrw
   have hkl:(k:Int) < (f.ts.len:Int):=by omega
   have hk0:(0:Int)≤(k:Int):=by omega
   obtain rfl:=hp1.resolve_left (by omega)
   obtain⟨d0,d1,⟨s,d2,hus⟩,hrest⟩:=hat
   have hresth:=h_X hrest
   have HC:=h_X (refTm_any us.size us v nm sc s wr (Nat.le_refl _) hus (by omega) (by omega))
   obtain⟨ps,cs,rfl,-⟩:=id hus
   have hw3:IntKind.i64.wrap ((k:Int)+1)=(k:Int)+1:=IntWalk.i64_in _ (by omega)
   have hrr':Hid (f.ts.right sc=(rightT sc v nm us && r.right sc)):=h_X hrr
   have hkh:=h_X hk
   have hrzh:=h_X (show r.size≤f.ts.size by omega)
   have hrwh:=h_X (show r.wt≤f.ts.wt by omega)
   clear hrest hus hk hrz hrw hrr
   go_wp2_with fail
   refine HC.out.mono ?_
   rintro e w' ⟨rfl,hb'⟩
   have hbwh:=h_X (bS hbwh.out hb')
   have hresth:=h_X (TsAt.below hb' hresth.out)
   clear HC c0 c1 c2 c3 d0 d1 d2 hb'
   cases hq:rightT sc v nm us with
   | false =>
    have hfin2:Hid (rr=false):=h_X (by rw[hdef2.out,hrr'.out,hq];simp)
    have hb:=h_X (bS k1h.out.2.2.2.2.1 hbwh.out)
    clear hq
    go_wp2_with fail
    go_ret
    refine⟨?_,hb.out⟩
    rw[hfin2.out]
    rfl
   | true =>
    have hrr2:Hid (f.ts.right sc=r.right sc):=h_X (by rw[hrr'.out,hq];rfl)
    clear hq
    go_wp2_with fail
    go_roundw
    case rel=>exact⟨k+1,r,by congr 1,by have:=hkh.out;omega,hrzh.out,hrwh.out,hrr2.out,by have:=hresth.out;rwa [show o1+(k+1)*3=o1+k*3+3 by omega],hbwh.out⟩
    case measure=>have:=hkh.out;simp[intOf];omega
  | nil =>
   simp only[Ts.len,Nat.add_zero] at hk
   subst hk
   have hdef3:Hid (rr=f.sub.right sc):=h_X (by rw[hdef2.out,hrr];rfl)
   clear hrr hrw hrz hat hdef2
   have hth2:=h_X (FsAt.below hbwh.out hth.out)
   go_wp2_with fail
   clear c0 c1 c2 c3
   go_loopw [6] (fun i wr=>∃ (k:Nat) (r:Fs),i=.int .i64 (k:Int)∧k+r.len=f.sub.len∧r.size≤f.sub.size∧r.wt≤f.sub.wt∧f.sub.right sc=r.right sc∧FsAt wr r b (o+k*4)∧Below W1.heap.size W1 wr) (fun i _=>f.sub.len - (intOf i).toNat)
   case atStart=>exact⟨0,f.sub,rfl,by omega,Nat.le_refl _,Nat.le_refl _,rfl,by simpa using hth2.out,hbwh.out⟩
   case round =>
    obtain⟨k,r,rfl,hk,hrz,hrw,hrr,hat,hbw⟩:=hrel
    have hbwh:=h_X hbw
    obtain⟨c0,c1,c2,c3,-⟩:=k1h.out.next hbw
    clear hbw
    cases r with
    | nil =>
     simp only[Fs.len,Nat.add_zero] at hk
     subst hk
     have hfin2:Hid (rr=true):=h_X (by rw[hdef3.out,hrr];rfl)
     have hb:=h_X (bS k1h.out.2.2.2.2.1 hbwh.out)
     clear hrr hrw hrz hat
     go_wp2_with fail
     go_ret
     refine⟨?_,hb.out⟩
     rw[hfin2.out]
     rfl
    | cons op nm us sub r =>
     simp only[Fs.len,Fs.size,Fs.wt] at hk hrz hrw
     have hkl:(k:Int) < (f.sub.len:Int):=by omega
     have hk0:(0:Int)≤(k:Int):=by omega
     obtain rfl:=hp.resolve_left (by omega)
     obtain⟨d0,d1,⟨s,d2,hus⟩,⟨s',d3,hfs⟩,hrest⟩:=hat
     have hresth:=h_X hrest
     have ez1:(FT.mk op nm us sub).size=us.size+sub.size+1:=rfl
     have ew1:(FT.mk op nm us sub).wt=nm.size+us.wt+sub.wt+1:=rfl
     have HC:=h_X (ihh.out (FT.mk op nm us sub).size (by omega) ⟨op,nm,us,sub⟩ sc (fval ⟨op,nm,us,sub⟩ s s') wr (Nat.le_refl _) ⟨_,_,rfl,hus,hfs⟩ (by omega) (by omega))
     obtain⟨ps,cs,rfl,-⟩:=id hus
     obtain⟨ps',cs',rfl,-⟩:=id hfs
     have hw3:IntKind.i64.wrap ((k:Int)+1)=(k:Int)+1:=IntWalk.i64_in _ (by omega)
     have hrr':Hid (f.sub.right sc=((FT.mk op nm us sub).right sc && r.right sc)):=h_X hrr
     have hkh:=h_X hk
     have hrzh:=h_X (show r.size≤f.sub.size by omega)
     have hrwh:=h_X (show r.wt≤f.sub.wt by omega)
     clear hrest hus hfs hk hrz hrw hrr ez1 ew1
     go_wp2_with fail
     refine HC.out.mono ?_
     rintro e w' ⟨rfl,hb'⟩
     have hbwh:=h_X (bS hbwh.out hb')
     have hresth:=h_X (FsAt.below hb' hresth.out)
     clear HC c0 c1 c2 c3 d0 d1 d2 d3 hb'
     cases hq:(FT.mk op nm us sub).right sc with
     | false =>
      have hfin2:Hid (rr=false):=h_X (by rw[hdef3.out,hrr'.out,hq];simp)
      have hb:=h_X (bS k1h.out.2.2.2.2.1 hbwh.out)
      clear hq
      go_wp2_with fail
      go_ret
      refine⟨?_,hb.out⟩
      rw[hfin2.out]
      rfl
     | true =>
      have hrr2:Hid (f.sub.right sc=r.right sc):=h_X (by rw[hrr'.out,hq];rfl)
      clear hq
      go_wp2_with fail
      go_roundw
      case rel=>exact⟨k+1,r,by congr 1,by have:=hkh.out;omega,hrzh.out,hrwh.out,hrr2.out,by have:=hresth.out;rwa [show o+(k+1)*4=o+k*4+4 by omega],hbwh.out⟩
      case measure=>have:=hkh.out;simp[intOf];omega
end Go.Proofs.YtngdieldgnlogaaGreatDoor
namespace Go.Proofs.YtngdieldgnlogaaGreatDoor
open Go Go.RowKit
set_option maxRecDepth 100000
set_option linter.unusedVariables false
set_option maxHeartbeats 1000000 in
theorem refRight_any (f:FT) (hs:f.size≤1000000) (hwt:f.wt≤4000000) (v:Value) (w:World) (hv:FVal w f v) :
  Calls Tryz.prog 16 #[v] w fun e w'=>e=.returned (.bool (f.fits && f.right false))∧Below w.heap.size w w':=by
 obtain⟨sa,ss,rfl,ha,hss⟩:=id hv
 obtain⟨pa,ca,hsa,-⟩:=id ha
 obtain⟨p,c,hsb,-⟩:=id hss
 subst hsa hsb
 have hst:=FS.start (t:=25) hv
 obtain⟨W1,hW1⟩:∃ W1,w.alloc (.cells #[.int .u8 f.op,.string f.n,.slice pa f.ts.len ca,.slice p f.sub.len c] 25)=W1:=⟨_,rfl⟩
 rw[hW1] at hst
 obtain⟨g,hg⟩:∃ g,w.heap.size=g:=⟨_,rfl⟩
 have hgh:=h_X hg
 rw[hg] at hst
 have k1h:=h_X hst
 have HR:=h_X (refRows_any f.size f false _ W1 (Nat.le_refl _) hst.val hs hwt)
 have HN:=h_X (fun W (hv:FVal W f (.agg #[.int .u8 f.op,.string f.n,.slice pa f.ts.len ca,.slice p f.sub.len c]))=>refNodes_any f.size f _ W (Nat.le_refl _) hv hs)
 have HD:=h_X (fun W (hv:FVal W f (.agg #[.int .u8 f.op,.string f.n,.slice pa f.ts.len ca,.slice p f.sub.len c]))=>refDepth_any f.size f _ W (Nat.le_refl _) hv hs)
 obtain⟨rr,hrr⟩:∃ rr,(f.fits && f.right false)=rr:=⟨_,rfl⟩
 have hdef:Hid (rr=(f.right false && decide (f.size≤400) && decide (f.deep≤40))):=h_X (by rw[←hrr,FT.fits];cases f.right false<;>simp)
 rw[hrr]
 clear hv ha hss hst hrr
 go_enter Tryz.func16,Tryz.ntmps16
 obtain⟨c0,c1,c2,c3,-⟩:=k1h.out
 go_wp2_with fail
 refine HR.out.mono ?_
 rintro e w2 ⟨rfl,hb2⟩
 have hb2h:=h_X hb2
 have k2h:=h_X (k1h.out.next hb2)
 clear HR hW1 c0 c1 c2 c3 hb2
 cases hq:f.right false with
 | false =>
  have hfin2:Hid (rr=false):=h_X (by rw[hdef.out,hq];rfl)
  have hb:=h_X k2h.out.2.2.2.2.1
  clear hq
  go_wp2_with fail
  go_ret
  refine⟨?_,hb.out⟩
  rw[hfin2.out]
  rfl
 | true =>
 have hdef2:Hid (rr=(decide (f.size≤400) && decide (f.deep≤40))):=h_X (by rw[hdef.out,hq];rfl)
 obtain⟨c0,c1,c2,c3,-⟩:=k2h.out
 clear hq hdef
 go_wp2_with fail
 refine(HN.out _ k2h.out.val).mono ?_
 rintro e w3 ⟨rfl,hb3⟩
 have k3h:=h_X (k2h.out.next hb3)
 clear HN c0 c1 c2 c3 hb3
 by_cases hq:f.size≤400
 rotate_left
 ·have hfin2:Hid (rr=false):=h_X (by rw[hdef2.out,decide_eq_false hq];rfl)
  have hb:=h_X k3h.out.2.2.2.2.1
  have hq':400 < (f.size:Int):=by omega
  clear hq
  go_wp2_with fail
  go_ret
  refine⟨?_,by have:=hb.out;rwa [hgh.out] at this⟩
  rw[hfin2.out]
  rfl
 have hq':(f.size:Int)≤400:=by omega
 have hdef3:Hid (rr=decide ((f.deep:Int)≤40)):=h_X (by rw[hdef2.out,decide_eq_true hq,Bool.true_and];exact decide_eq_decide.2 (by omega))
 obtain⟨c0,c1,c2,c3,-⟩:=k3h.out
 clear hq hdef2
 go_wp2_with fail
 refine(HD.out _ k3h.out.val).mono ?_
 rintro e w4 ⟨rfl,hb4⟩
 have hb:=h_X (k3h.out.next hb4).2.2.2.2.1
 clear HD c0 c1 c2 c3 hb4
 go_wp2_with fail
 go_ret
 refine⟨?_,hb.out⟩
 rw[hdef3.out]
 rfl
set_option maxHeartbeats 1000000 in
theorem refSchema_any (f:FT) (hs:f.size≤1000000) (hwt:f.wt≤4000000) (v:Value) (w:World) (hv:FVal w f v) :
  Calls Tryz.prog 18 #[v] w fun e w'=>e=.returned (.bool (f.fits && f.right true))∧Below w.heap.size w w':=by
 obtain⟨sa,ss,rfl,ha,hss⟩:=id hv
 obtain⟨pa,ca,hsa,-⟩:=id ha
 obtain⟨p,c,hsb,-⟩:=id hss
 subst hsa hsb
 have hst:=FS.start (t:=25) hv
 obtain⟨W1,hW1⟩:∃ W1,w.alloc (.cells #[.int .u8 f.op,.string f.n,.slice pa f.ts.len ca,.slice p f.sub.len c] 25)=W1:=⟨_,rfl⟩
 rw[hW1] at hst
 obtain⟨g,hg⟩:∃ g,w.heap.size=g:=⟨_,rfl⟩
 have hgh:=h_X hg
 rw[hg] at hst
 have k1h:=h_X hst
 have HR:=h_X (refRows_any f.size f true _ W1 (Nat.le_refl _) hst.val hs hwt)
 have HN:=h_X (fun W (hv:FVal W f (.agg #[.int .u8 f.op,.string f.n,.slice pa f.ts.len ca,.slice p f.sub.len c]))=>refNodes_any f.size f _ W (Nat.le_refl _) hv hs)
 have HD:=h_X (fun W (hv:FVal W f (.agg #[.int .u8 f.op,.string f.n,.slice pa f.ts.len ca,.slice p f.sub.len c]))=>refDepth_any f.size f _ W (Nat.le_refl _) hv hs)
 obtain⟨rr,hrr⟩:∃ rr,(f.fits && f.right true)=rr:=⟨_,rfl⟩
 have hdef:Hid (rr=(f.right true && decide (f.size≤400) && decide (f.deep≤40))):=h_X (by rw[←hrr,FT.fits];cases f.right true<;>simp)
 rw[hrr]
 clear hv ha hss hst hrr
 go_enter Tryz.func18,Tryz.ntmps18
 obtain⟨c0,c1,c2,c3,-⟩:=k1h.out
 go_wp2_with fail
 refine HR.out.mono ?_
 rintro e w2 ⟨rfl,hb2⟩
 have hb2h:=h_X hb2
 have k2h:=h_X (k1h.out.next hb2)
 clear HR hW1 c0 c1 c2 c3 hb2
 cases hq:f.right true with
 | false =>
  have hfin2:Hid (rr=false):=h_X (by rw[hdef.out,hq];rfl)
  have hb:=h_X k2h.out.2.2.2.2.1
  clear hq
  go_wp2_with fail
  go_ret
  refine⟨?_,hb.out⟩
  rw[hfin2.out]
  rfl
 | true =>
 have hdef2:Hid (rr=(decide (f.size≤400) && decide (f.deep≤40))):=h_X (by rw[hdef.out,hq];rfl)
 obtain⟨c0,c1,c2,c3,-⟩:=k2h.out
 clear hq hdef
 go_wp2_with fail
 refine(HN.out _ k2h.out.val).mono ?_
 rintro e w3 ⟨rfl,hb3⟩
 have k3h:=h_X (k2h.out.next hb3)
 clear HN c0 c1 c2 c3 hb3
 by_cases hq:f.size≤400
 rotate_left
 ·have hfin2:Hid (rr=false):=h_X (by rw[hdef2.out,decide_eq_false hq];rfl)
  have hb:=h_X k3h.out.2.2.2.2.1
  have hq':400 < (f.size:Int):=by omega
  clear hq
  go_wp2_with fail
  go_ret
  refine⟨?_,by have:=hb.out;rwa [hgh.out] at this⟩
  rw[hfin2.out]
  rfl
 have hq':(f.size:Int)≤400:=by omega
 have hdef3:Hid (rr=decide ((f.deep:Int)≤40)):=h_X (by rw[hdef2.out,decide_eq_true hq,Bool.true_and];exact decide_eq_decide.2 (by omega))
 obtain⟨c0,c1,c2,c3,-⟩:=k3h.out
 clear hq hdef2
 go_wp2_with fail
 refine(HD.out _ k3h.out.val).mono ?_
 rintro e w4 ⟨rfl,hb4⟩
 have hb:=h_X (k3h.out.next hb4).2.2.2.2.1
 clear HD c0 c1 c2 c3 hb4
 go_wp2_with fail
 go_ret
 refine⟨?_,hb.out⟩
 rw[hdef3.out]
 rfl
end Go.Proofs.YtngdieldgnlogaaGreatDoor
namespace Go.Proofs.YtngdieldgnlogaaGreatDoor
open Go Go.RowKit
set_option maxRecDepth 100000
set_option linter.unusedVariables false
theorem term33_any (ts:Ts) (v:Bool) (n:ByteArray) (sa:Value) (w:World) (hts:TSl w ts sa) (hs:ts.size≤1000000) :
  Calls Tryz.prog 33 #[.agg #[.bool v,.string n,sa]] w fun e w'=>e=.returned (.bool (rightT false v n ts))∧Below w.heap.size w w':=by
 have hst:=TS.start (v:=v) (n:=n) (t:=46) hts
 have HC:=h_X (rightTerm_any ts false v n sa _ hst.2.2.2.2 hs)
 obtain⟨p,c,rfl,-⟩:=id hts
 have hb:=h_X hst.2.2.2.1
 clear hst hts
 go_enter Tryz.func33,Tryz.ntmps33
 go_wp2_with fail
 refine HC.out.mono ?_
 rintro e w2 ⟨rfl,hb2⟩
 have hfin:=h_X (bS hb.out hb2)
 clear HC hb2
 go_wp2_with fail
 go_ret
 exact⟨rfl,hfin.out⟩
end Go.Proofs.YtngdieldgnlogaaGreatDoor
