/- Right terms. Names and instances by their rows. Right formulas. Right. -/
import Derived.Test.YtngdieldgnlogaaGreatDoorMN
import Derived.Test.YtngdieldgnlogaaGreatDoorMH
namespace Go.Proofs.YtngdieldgnlogaaGreatDoor
open Go Go.RowKit
set_option maxRecDepth 100000
set_option linter.unusedVariables false
def Ts.right (sc:Bool):Ts→Bool
 | .nil=>true
 | .cons v n ts r=>(if v then decide (ts.len=0) && (isVar n || (sc && markedB isFun n)) else isFun n && decide (ts.len≤4) && ts.right sc) && r.right sc
def rightT (sc v:Bool) (n:ByteArray) (ts:Ts):Bool:=if v then decide (ts.len=0) && (isVar n || (sc && markedB isFun n)) else isFun n && decide (ts.len≤4) && ts.right sc
def RightTerm (ts:Ts):Prop:=∀ (sc v:Bool) (n:ByteArray) (sa:Value) (w:World),TSl w ts sa→ts.size≤1000000 →
 Calls Tryz.prog 81 #[.agg #[.bool v,.string n,sa],.bool sc] w fun e w'=>e=.returned (.bool (rightT sc v n ts))∧Below w.heap.size w w'
def TS (v:Bool) (n:ByteArray) (ts:Ts) (sa:Value) (w:World) (g:Nat) (V:World):Prop :=
 V.cell? ⟨g,0,none⟩=some (.bool v)∧V.cell? ⟨g,1,none⟩=some (.string n)∧V.cell? ⟨g,2,none⟩=some sa∧Below w.heap.size w V∧TSl V ts sa
theorem TS.next {v:Bool} {n:ByteArray} {ts:Ts} {sa:Value} {w V V':World} {g:Nat} (h:TS v n ts sa w g V) (hb:Below V.heap.size V V'):TS v n ts sa w g V' :=
 ⟨c_B hb h.1,c_B hb h.2.1,c_B hb h.2.2.1,bS h.2.2.2.1 hb,TSl.below hb h.2.2.2.2⟩
theorem TS.start {v:Bool} {n:ByteArray} {ts:Ts} {sa:Value} {w:World} {t:TypeId} (h:TSl w ts sa):TS v n ts sa w w.heap.size (w.alloc (.cells #[.bool v,.string n,sa] t)) :=
 ⟨by rw[cell_new];rfl,by rw[cell_new];rfl,by rw[cell_new];rfl,bel_laid _ _,TSl.below (bel_laid _ _) h⟩
set_option maxHeartbeats 2000000 in
theorem rightTerm_step (ts:Ts) (ih:∀ t:Ts,t.size < ts.size→RightTerm t):RightTerm ts:=by
 intro sc v n sa w hv hs
 have hst:=TS.start (v:=v) (n:=n) (t:=46) hv
 obtain⟨p,c,b,o,rfl,-,-⟩:=TSl.opened hv
 clear hv
 have HV:=h_X (variable_any n)
 have HM:=h_X (termMeta_any n)
 have HF:=h_X (function_any n)
 have hlen:=ts.len_le
 cases v with
 | true =>
  by_cases hz:ts.len=0
  rotate_left
  ·have hr:rightT sc true n ts=false:=by simp[rightT,hz]
   have hz':((ts.len:Int) == 0)=false:=beq_eq_false_iff_ne.2 (by omega)
   rw[hr]
   clear hr
   go_enter Tryz.func81,Tryz.ntmps81
   go_wp2_with fail
   go_ret
   exact⟨rfl,bel_laid _ _⟩
  have hr:rightT sc true n ts=(isVar n || (sc && markedB isFun n)):=by simp[rightT,hz]
  rw[hz] at hst
  have hz':((ts.len:Int) == 0)=true:=by rw[beq_iff_eq];omega
  rw[hr]
  clear hr
  cases hvn:isVar n with
  | true =>
   rw[hvn] at HV
   clear hvn
   rw[Bool.true_or]
   go_enter Tryz.func81,Tryz.ntmps81
   go_wp2_with fail
   refine(HV.out _).mono ?_
   rintro e w1 ⟨rfl,hb2⟩
   have hfin:=(hst.next hb2).2.2.2.1
   clear hb2 hst
   go_wp2_with fail
   go_ret
   exact⟨rfl,hfin⟩
  | false =>
   rw[hvn] at HV
   clear hvn
   rw[Bool.false_or]
   cases sc with
   | false =>
    rw[Bool.false_and]
    go_enter Tryz.func81,Tryz.ntmps81
    go_wp2_with fail
    refine(HV.out _).mono ?_
    rintro e w1 ⟨rfl,hb2⟩
    have hfin:=(hst.next hb2).2.2.2.1
    clear hb2 hst
    go_wp2_with fail
    go_ret
    exact⟨rfl,hfin⟩
   | true =>
    rw[Bool.true_and]
    generalize markedB isFun n=q at HM ⊢
    go_enter Tryz.func81,Tryz.ntmps81
    go_wp2_with fail
    refine(HV.out _).mono ?_
    rintro e w1 ⟨rfl,hb2⟩
    replace hst:=hst.next hb2
    clear hb2
    generalize w.heap.size=g at hst ⊢
    have hst1:=hst
    obtain⟨k0,k1,k2,-⟩:=hst1
    go_wp2_with fail
    refine(HM.out _).mono ?_
    rintro e w2 ⟨rfl,hb2⟩
    have hfin:=(hst.next hb2).2.2.2.1
    clear hb2 hst k0 k1 k2
    go_wp2_with fail
    go_ret
    exact⟨rfl,hfin⟩
 | false =>
  have hr0:rightT sc false n ts=(isFun n && decide (ts.len≤4) && ts.right sc):=by simp[rightT]
  cases hvn:isFun n with
  | false =>
   have hr:rightT sc false n ts=false:=by rw[hr0,hvn];rfl
   rw[hr]
   rw[hvn] at HF
   clear hvn hr hr0
   go_enter Tryz.func81,Tryz.ntmps81
   go_wp2_with fail
   refine(HF.out _).mono ?_
   rintro e w1 ⟨rfl,hb2⟩
   have hfin:=(hst.next hb2).2.2.2.1
   clear hb2 hst
   go_wp2_with fail
   go_ret
   exact⟨rfl,hfin⟩
  | true =>
   by_cases h4:ts.len≤4
   rotate_left
   ·have hr:rightT sc false n ts=false:=by rw[hr0,decide_eq_false h4];simp
    have h4':(4:Int) < (ts.len:Int):=by omega
    rw[hr]
    rw[hvn] at HF
    clear hvn hr hr0
    go_enter Tryz.func81,Tryz.ntmps81
    go_wp2_with fail
    refine(HF.out _).mono ?_
    rintro e w1 ⟨rfl,hb2⟩
    replace hst:=hst.next hb2
    clear hb2
    generalize w.heap.size=g at hst ⊢
    have hfin:=hst.2.2.2.1
    obtain⟨k0,k1,k2,-⟩:=hst
    go_wp2_with fail
    go_ret
    exact⟨rfl,hfin⟩
   have hr:rightT sc false n ts=ts.right sc:=by rw[hr0,hvn,decide_eq_true h4];rfl
   have h4':(ts.len:Int)≤4:=by omega
   rw[hr]
   rw[hvn] at HF
   clear hvn hr hr0 HV HM
   obtain⟨rr,hrr⟩:∃ rr,ts.right sc=rr:=⟨_,rfl⟩
   rw[hrr]
   replace hrr:=h_X hrr
   go_enter Tryz.func81,Tryz.ntmps81
   go_wp2_with fail
   refine(HF.out _).mono ?_
   rintro e w1 ⟨rfl,hb2⟩
   replace hst:=hst.next hb2
   clear hb2 HF
   obtain⟨g,hg⟩:∃ g,w.heap.size=g:=⟨_,rfl⟩
   rw[hg] at hst ⊢
   obtain⟨k0,k1,k2,hfin,hts⟩:=hst
   obtain⟨p',c',b,o,hse,hp,ht⟩:=TSl.opened hts
   simp at hse
   obtain⟨rfl,rfl⟩:=hse
   clear hts
   go_wp2_with fail
   clear k0 k1 k2
   go_loopw [39] (fun i wr=>∃ (k:Nat) (r:Ts),i=.int .i64 k∧k+r.len=ts.len∧r.size≤ts.size∧TsAt wr r b (o+k*3)∧r.right sc=rr∧Below w.heap.size w wr) (fun i _=>ts.len - (intOf i).toNat)
   case atStart=>exact⟨0,ts,rfl,by omega,Nat.le_refl _,by simpa using ht,hrr.out,hfin⟩
   case round =>
    obtain⟨k,r,rfl,hk,hrs,hat,hall,hbw⟩:=hrel
    replace hall:=h_X hall
    cases r with
    | nil =>
     simp only[Ts.len] at hk
     have hk':k=ts.len:=by omega
     subst hk'
     have:rr=true:=by rw[←hall.out];rfl
     subst this
     go_wp2_with fail
     go_ret
     exact⟨rfl,hbw⟩
    | cons v2 n2 t2 r' =>
     simp only[Ts.len] at hk
     obtain⟨c0,c1,⟨s,c2,hs2⟩,hat'⟩:=hat
     have hs3:=h_X hs2
     obtain⟨ps,cs,rfl,-⟩:=hs2
     rcases hp with hp | hp
     ·omega
     subst hp
     have hlt:(k:Int) < (ts.len:Int):=by omega
     have hsz:t2.size < ts.size:=by simp only[Ts.size] at hrs;omega
     have ih':=h_X (ih t2 hsz sc v2 n2)
     clear ih
     have hsplit:(rightT sc v2 n2 t2 && r'.right sc)=rr:=by rw[←hall.out];rfl
     cases hq:rightT sc v2 n2 t2 with
     | true =>
      rw[hq] at hsplit ih'
      rw[Bool.true_and] at hsplit
      clear hq
      replace hsplit:=h_X hsplit
      go_wp2_with (go_at_call 81;refine(ih'.out (.slice ps t2.len cs) _ (TSl.below (bel_laid _ _) hs3.out) (by omega)).mono ?_;rintro e w' ⟨rfl,hb2⟩)
      go_roundw
      case rel =>
       refine⟨k+1,r',by go_num,by omega,by simp only[Ts.size] at hrs;omega,?_,hsplit.out,bel_stepLaid hbw hb2⟩
       have:=TsAt.below (bS (bel_laid wr _) hb2) hat'
       rwa [show o+(k+1)*3=o+k*3+3 by omega]
      case measure=>simp[intOf];omega
     | false =>
      rw[hq] at hsplit ih'
      rw[Bool.false_and] at hsplit
      clear hq
      subst hsplit
      go_wp2_with (go_at_call 81;refine(ih'.out (.slice ps t2.len cs) _ (TSl.below (bel_laid _ _) hs3.out) (by omega)).mono ?_;rintro e w' ⟨rfl,hb2⟩)
      go_ret
      exact⟨rfl,bel_stepLaid hbw hb2⟩
theorem rightTerm_any (ts:Ts):RightTerm ts:=rightTerm_step ts (fun t _=>rightTerm_any t)
termination_by ts.size
end Go.Proofs.YtngdieldgnlogaaGreatDoor
namespace Go.Proofs.YtngdieldgnlogaaGreatDoor
open Go Go.RowKit
set_option maxRecDepth 100000
set_option linter.unusedVariables false
def nameOk (k:Nat) (s:ByteArray):Bool:=match k with
 | 1=>isPred s
 | 2=>isVar s
 | 3=>markedB isPred s
 | _=>s.toList.isEmpty
theorem rightName_any (k:Nat) (hk:k≤3) (s:ByteArray) (w:World):Calls Tryz.prog 103 #[.string s,.int .u8 (k:Int)] w fun e w'=>e=.returned (.bool (nameOk k s))∧Below w.heap.size w w':=by
 rcases show k=0∨k=1∨k=2∨k=3 by omega with rfl | rfl | rfl | rfl
 ·have hn:nameOk 0 s=s.toList.isEmpty:=rfl
  rw[hn]
  clear hn
  go_enter Tryz.func103,Tryz.ntmps103
  go_wp2
  go_ret
  exact⟨rfl,Below.refl _ _⟩
 ·have hc:=h_X (predicate_any s)
  have hn:nameOk 1 s=isPred s:=rfl
  rw[hn]
  clear hn
  go_enter Tryz.func103,Tryz.ntmps103
  go_wp2_with (go_at_call 45;refine(hc.out _).mono ?_;rintro e w1 ⟨rfl,hb1⟩)
  go_ret
  exact⟨rfl,hb1⟩
 ·have hc:=h_X (variable_any s)
  have hn:nameOk 2 s=isVar s:=rfl
  rw[hn]
  clear hn
  go_enter Tryz.func103,Tryz.ntmps103
  go_wp2_with (go_at_call 40;refine(hc.out _).mono ?_;rintro e w1 ⟨rfl,hb1⟩)
  go_ret
  exact⟨rfl,hb1⟩
 ·have hc:=h_X (formMeta_any s)
  have hn:nameOk 3 s=markedB isPred s:=rfl
  rw[hn]
  clear hn
  go_enter Tryz.func103,Tryz.ntmps103
  go_wp2_with (go_at_call 87;refine(hc.out _).mono ?_;rintro e w1 ⟨rfl,hb1⟩)
  go_ret
  exact⟨rfl,hb1⟩
def instB:Ts→Bool
 | .cons _ n1 _ (.cons _ n2 _ .nil)=>isVar n1 && markedB isFun n2
 | _=>false
theorem instB_len {ts:Ts} (h:ts.len≠2):instB ts=false:=by
 unfold instB
 split
 ·simp[Ts.len] at h
 ·rfl
theorem instance_any (ts:Ts) (sa:Value) (w:World) (hv:TSl w ts sa):Calls Tryz.prog 104 #[sa] w fun e w'=>e=.returned (.bool (instB ts))∧Below w.heap.size w w':=by
 obtain⟨p,c,b,o,rfl,hp,ht⟩:=TSl.opened hv
 by_cases h2:ts.len=2
 rotate_left
 ·rw[instB_len h2]
  have h2':((ts.len:Int) == 2)=false:=beq_eq_false_iff_ne.2 (by omega)
  go_enter Tryz.func104,Tryz.ntmps104
  go_wp2
  go_ret
  exact⟨rfl,Below.refl _ _⟩
 match ts,h2,hp,ht with
 | .cons v1 n1 t1 (.cons v2 n2 t2 .nil),_,hp,ht =>
  obtain⟨c0,c1,⟨s,c2,hs2⟩,d0,d1,-,-⟩:=ht
  rcases hp with hp | hp
  ·simp[Ts.len] at hp
  subst hp
  have hi:instB (.cons v1 n1 t1 (.cons v2 n2 t2 .nil))=(isVar n1 && markedB isFun n2):=rfl
  rw[hi]
  simp only[Ts.len]
  clear hi c0 c2 hs2 d0 hv
  have HV:=h_X (variable_any n1)
  have HM:=h_X (termMeta_any n2)
  generalize markedB isFun n2=q at HM ⊢
  cases hvn:isVar n1 with
  | false =>
   rw[hvn] at HV
   rw[Bool.false_and]
   clear hvn
   go_enter Tryz.func104,Tryz.ntmps104
   go_wp2_with fail
   refine(HV.out _).mono ?_
   rintro e w1 ⟨rfl,hb1⟩
   go_wp2_with fail
   go_ret
   exact⟨rfl,hb1⟩
  | true =>
   rw[hvn] at HV
   rw[Bool.true_and]
   clear hvn
   go_enter Tryz.func104,Tryz.ntmps104
   go_wp2_with fail
   refine(HV.out _).mono ?_
   rintro e w1 ⟨rfl,hb1⟩
   have k1:=c_B hb1 d1
   clear c1 d1
   go_wp2_with fail
   refine(HM.out _).mono ?_
   rintro e w2 ⟨rfl,hb2⟩
   go_wp2_with fail
   go_ret
   exact⟨rfl,bS hb1 hb2⟩
def rowK (op:Nat):Nat:=[0,1,0,0,0,0,0,0,2,2,0,0,0,0,0,3,3].getD op 0
def rowA (op:Nat):Nat:=[0,4,0,0,0,0,0,0,0,0,0,0,0,0,0,0,2].getD op 0
def rowS (op:Nat):Nat:=[0,0,0,1,2,2,2,2,1,1,1,1,1,1,2,0,0].getD op 0
def rowCells:Array Value:=((List.range 17).flatMap fun i=>[Value.int .u8 (rowK i:Int),.int .i64 (rowA i:Int),.int .i64 (rowS i:Int)]).toArray
def Rws (w:World):Prop:=∃ t fr,w.heap[0]? = some (.cells rowCells t fr)
theorem Rws.pos {w:World} (h:Rws w):0 < w.heap.size:=by
 obtain⟨t,fr,h⟩:=h
 rcases Nat.eq_zero_or_pos w.heap.size with e | e
 ·rw[Array.getElem?_eq_none (by omega)] at h;cases h
 ·exact e
theorem Rws.of {w w':World} (h:Rws w) (hb:Below w.heap.size w w'):Rws w':=by
 have hp:=h.pos
 obtain⟨t,fr,h⟩:=h
 exact⟨t,fr,(hb.block 0 hp).trans h⟩
theorem Rws.row {w:World} (h:Rws w) (op:Nat) (ho:op≤16):w.cell? ⟨0,op*3,none⟩=some (.int .u8 (rowK op:Int))∧w.cell? ⟨0,op*3+1,none⟩=some (.int .i64 (rowA op:Int))∧w.cell? ⟨0,op*3+2,none⟩=some (.int .i64 (rowS op:Int)):=by
 obtain⟨t,fr,h⟩:=h
 have hc:∀ i,w.cell? ⟨0,i,none⟩=rowCells[i]?:=fun i=>by simp[World.cell?,h]
 rw[hc,hc,hc]
 rcases show op=0∨op=1∨op=2∨op=3∨op=4∨op=5∨op=6∨op=7∨op=8∨op=9∨op=10∨op=11∨op=12∨op=13∨op=14∨op=15∨op=16 by omega with rfl | rfl | rfl | rfl | rfl | rfl | rfl | rfl | rfl | rfl | rfl | rfl | rfl | rfl | rfl | rfl | rfl
 all_goals exact⟨rfl,rfl,rfl⟩
theorem rowK_le (op:Nat):rowK op≤3:=by
 unfold rowK
 by_cases ho:op≤16
 ·rcases show op=0∨op=1∨op=2∨op=3∨op=4∨op=5∨op=6∨op=7∨op=8∨op=9∨op=10∨op=11∨op=12∨op=13∨op=14∨op=15∨op=16 by omega with rfl | rfl | rfl | rfl | rfl | rfl | rfl | rfl | rfl | rfl | rfl | rfl | rfl | rfl | rfl | rfl | rfl<;>decide
 ·rw[List.getD_eq_getElem?_getD,List.getElem?_eq_none (by simp;omega)];simp
end Go.Proofs.YtngdieldgnlogaaGreatDoor
namespace Go.Proofs.YtngdieldgnlogaaGreatDoor
open Go Go.RowKit
set_option maxRecDepth 100000
set_option linter.unusedVariables false
def lastOp (sc:Bool):Int:=if sc then 16 else 14
def formOk (sc:Bool) (op:Int) (n:ByteArray) (ts:Ts) (k:Nat):Bool :=
 decide (1≤op) && decide (op≤lastOp sc) && nameOk (rowK op.toNat) n && decide (ts.len≤rowA op.toNat) && decide (k=rowS op.toNat) && (!(op == 16) || instB ts) && ts.right sc
def Fs.right (sc:Bool):Fs→Bool
 | .nil=>true
 | .cons op n ts sub r=>formOk sc op n ts sub.len && sub.right sc && r.right sc
def FT.right (sc:Bool) (f:FT):Bool:=formOk sc f.op f.n f.ts f.sub.len && f.sub.right sc
def RightForm (f:FT):Prop:=∀ (sc:Bool) (v:Value) (w:World),Rws w→FVal w f v→f.size≤1000000 →
 Calls Tryz.prog 65 #[v,.int .u8 (lastOp sc)] w fun e w'=>e=.returned (.bool (f.right sc))∧Below w.heap.size w w'
set_option maxHeartbeats 4000000 in
theorem rightForm_step (f:FT) (ih:∀ t:FT,t.size≤f.sub.size→RightForm t):RightForm f:=by
 intro sc v w hrw hv hs
 obtain⟨sa,ss,rfl,ha,hss⟩:=id hv
 obtain⟨pa,ca,hsa,-⟩:=id ha
 obtain⟨p,c,hsb,-⟩:=id hss
 subst hsa hsb
 have hst:=FS.start (t:=25) hv
 clear ha hss hv
 obtain⟨rr,hrr⟩:∃ rr,f.right sc=rr:=⟨_,rfl⟩
 rw[hrr]
 have hdef:f.right sc=(formOk sc f.op f.n f.ts f.sub.len && f.sub.right sc):=rfl
 obtain⟨last,hlast⟩:∃ last,lastOp sc=last:=⟨_,rfl⟩
 rw[hlast]
 by_cases h1:1≤f.op
 rotate_left
 ·have:rr=false:=by rw[←hrr,hdef];simp[formOk,h1]
  subst this
  clear hrr hdef hlast
  have h1':f.op < 1:=by omega
  go_enter Tryz.func65,Tryz.ntmps65
  go_wp2_with fail
  go_ret
  exact⟨rfl,bel_laid _ _⟩
 by_cases h2:f.op≤last
 rotate_left
 ·have:rr=false:=by rw[←hrr,hdef];simp[formOk,hlast,h2]
  subst this
  clear hrr hdef hlast
  have h2':last < f.op:=by omega
  go_enter Tryz.func65,Tryz.ntmps65
  go_wp2_with fail
  go_ret
  exact⟨rfl,bel_laid _ _⟩
 have hl16:last≤16:=by rw[←hlast];cases sc<;>decide
 obtain⟨op,hop⟩:∃ op:Nat,f.op=(op:Int):=⟨f.op.toNat,by omega⟩
 rw[hop] at h1 h2
 have hdef2:f.right sc=(nameOk (rowK op) f.n && decide (f.ts.len≤rowA op) && decide (f.sub.len=rowS op) && (!((op:Int) == 16) || instB f.ts) && f.ts.right sc && f.sub.right sc):=by
  rw[hdef]
  simp only[formOk,hlast,hop,decide_eq_true h1,decide_eq_true h2,Int.toNat_natCast,Bool.true_and]
 have ho16:op≤16:=by omega
 rw[hop] at hst ⊢
 have hopH:=h_X hop
 clear hop hdef
 have hrow:=hrw.row op ho16
 have hrw1:=hrw.of (bel_laid w (.cells #[.int .u8 (op:Int),.string f.n,.slice pa f.ts.len ca,.slice p f.sub.len c] 25))
 have hrow1:=hrw1.row op ho16
 have HN:=h_X (rightName_any (rowK op) (rowK_le op) f.n)
 replace hdef2:=h_X hdef2
 replace hrr:=h_X hrr
 have hsc14:=h_X (show decide ((14:Int) < last)=sc by rw[←hlast];cases sc<;>rfl)
 go_enter Tryz.func65,Tryz.ntmps65
 go_wp2_with fail
 clear hrow hrow1
 refine(HN.out _).mono ?_
 rintro e w2 ⟨rfl,hb2⟩
 have r0:=c_B hb2 (show ((w.alloc (.cells #[.int .u8 (op:Int),.string f.n,.slice pa f.ts.len ca,.slice p f.sub.len c] 25)).alloc (.cells #[.int .u8 (rowK op:Int),.int .i64 (rowA op:Int),.int .i64 (rowS op:Int)] 104)).cell? ⟨(w.alloc (.cells #[.int .u8 (op:Int),.string f.n,.slice pa f.ts.len ca,.slice p f.sub.len c] 25)).heap.size,0,none⟩=some _ by rw[cell_new];rfl)
 have r1:=c_B hb2 (show ((w.alloc (.cells #[.int .u8 (op:Int),.string f.n,.slice pa f.ts.len ca,.slice p f.sub.len c] 25)).alloc (.cells #[.int .u8 (rowK op:Int),.int .i64 (rowA op:Int),.int .i64 (rowS op:Int)] 104)).cell? ⟨(w.alloc (.cells #[.int .u8 (op:Int),.string f.n,.slice pa f.ts.len ca,.slice p f.sub.len c] 25)).heap.size,1,none⟩=some _ by rw[cell_new];rfl)
 have r2:=c_B hb2 (show ((w.alloc (.cells #[.int .u8 (op:Int),.string f.n,.slice pa f.ts.len ca,.slice p f.sub.len c] 25)).alloc (.cells #[.int .u8 (rowK op:Int),.int .i64 (rowA op:Int),.int .i64 (rowS op:Int)] 104)).cell? ⟨(w.alloc (.cells #[.int .u8 (op:Int),.string f.n,.slice pa f.ts.len ca,.slice p f.sub.len c] 25)).heap.size,2,none⟩=some _ by rw[cell_new];rfl)
 rw[World.size_alloc] at r0 r1 r2
 replace hst:=(hst.next (bel_laid _ _)).next hb2
 replace hrw1:=(hrw1.of (bel_laid _ _)).of hb2
 clear hb2 HN hrw
 have hfs:=hst
 obtain⟨b0,b1,b2,b3,hk⟩:=hst
 rw[hopH.out] at b0
 generalize hgg:w.heap.size=g at b0 b1 b2 b3 r0 r1 r2 hfs ⊢
 cases hq:nameOk (rowK op) f.n with
 | false =>
  have:rr=false:=by rw[←hrr.out,hdef2.out,hq];simp
  subst this
  go_wp2_with fail
  go_ret
  exact⟨rfl,hk.1⟩
 | true =>
  replace hq:=h_X hq
  by_cases h4:f.ts.len≤rowA op
  rotate_left
  ·have:rr=false:=by rw[←hrr.out,hdef2.out,decide_eq_false h4];simp
   subst this
   have h4':(rowA op:Int) < (f.ts.len:Int):=by omega
   go_wp2_with fail
   go_ret
   exact⟨rfl,hk.1⟩
  have h4':(f.ts.len:Int)≤(rowA op:Int):=by omega
  by_cases h5:f.sub.len=rowS op
  rotate_left
  ·have:rr=false:=by rw[←hrr.out,hdef2.out,decide_eq_false h5];simp
   subst this
   have h5':((f.sub.len:Int) != (rowS op:Int))=true:=bne_iff_ne.2 (by omega)
   go_wp2_with fail
   go_ret
   exact⟨rfl,hk.1⟩
  have h5':(rowS op:Int)=(f.sub.len:Int):=by omega
  rw[h5'] at r2
  have hdef3:f.right sc=((!((op:Int) == 16) || instB f.ts) && f.ts.right sc && f.sub.right sc):=by rw[hdef2.out,hq.out,decide_eq_true h4,decide_eq_true h5];rfl
  replace hdef3:=h_X hdef3
  clear hdef2 hq h5 h4 h5'
  have h4n:decide (rowA op < f.ts.len)=false:=decide_eq_false (by omega)
  have hee:((f.sub.len:Int) != (f.sub.len:Int))=false:=by simp
  by_cases h16:op=16
  ·have e16:((op:Int) == 16)=true:=by rw[beq_iff_eq];omega
   clear h16
   have HI:=h_X (instance_any f.ts (.slice pa f.ts.len ca) w2 hfs.2.2.2.2.2.1)
   go_wp2_with fail
   refine HI.out.mono ?_
   rintro e w3 ⟨rfl,hb3⟩
   replace hfs:=hfs.next hb3
   replace hrw1:=hrw1.of hb3
   replace hk:=hfs.2.2.2.2
   clear b0 b1 b2 b3 r0 r1 r2 hb3 HI
   have b2:=hfs.2.2.1
   have b3:=hfs.2.2.2.1
   cases hi:instB f.ts with
   | false =>
    have:rr=false:=by rw[←hrr.out,hdef3.out,e16,hi];simp
    subst this
    go_wp2_with fail
    go_ret
    exact⟨rfl,hk.1⟩
   | true =>
    have hdef4:=h_X (show (f.ts.right sc && f.sub.right sc)=rr by rw[←hrr.out,hdef3.out,hi];simp)
    clear hdef3 hrr hi e16
    go_wp2_with fail
    have hts:=hk.2.1
    obtain⟨pa',ca',ba,oa,hse,hpa,hta⟩:=TSl.opened hts
    simp at hse
    obtain⟨rfl,rfl⟩:=hse
    have hlent:=f.ts.len_le
    have hszt:f.ts.size≤1000000:=by simp only[FT.size] at hs;omega
    have hszf:f.sub.size≤1000000:=by simp only[FT.size] at hs;omega
    clear hts b2
    go_loopw [57] (fun i wr=>∃ (k:Nat) (r:Ts),i=.int .i64 k∧k+r.len=f.ts.len∧r.size≤f.ts.size∧TsAt wr r ba (oa+k*3)∧(r.right sc && f.sub.right sc)=rr∧Below w3.heap.size w3 wr) (fun i _=>f.ts.len - (intOf i).toNat)
    case atStart=>exact⟨0,f.ts,rfl,by omega,Nat.le_refl _,by simpa using hta,hdef4.out,Below.refl _ _⟩
    case round =>
     obtain⟨k,r,rfl,hkr,hrs,hat,hall,hbw⟩:=hrel
     replace hall:=h_X hall
     cases r with
     | cons v2 n2 t2 r' =>
      simp only[Ts.len] at hkr
      obtain⟨c0,c1,⟨s,c2,hs2⟩,hat'⟩:=hat
      have hs3:=h_X hs2
      obtain⟨ps,cs,rfl,-⟩:=hs2
      rcases hpa with hpa | hpa
      ·omega
      subst hpa
      have hlt:(k:Int) < (f.ts.len:Int):=by omega
      have hsz:t2.size≤1000000:=by simp only[Ts.size] at hrs;omega
      have ih':=h_X (rightTerm_any t2 sc v2 n2)
      have hsplit:(rightT sc v2 n2 t2 && (r'.right sc && f.sub.right sc))=rr:=by rw[←hall.out,←Bool.and_assoc];rfl
      have hscl:=hsc14.out
      cases hq:rightT sc v2 n2 t2 with
      | true =>
       rw[hq] at hsplit ih'
       rw[Bool.true_and] at hsplit
       clear hq
       replace hsplit:=h_X hsplit
       go_wp2_with (go_at_call 81;refine(ih'.out (.slice ps t2.len cs) _ (TSl.below (bel_laid _ _) hs3.out) hsz).mono ?_;rintro e w' ⟨rfl,hb2⟩)
       go_roundw
       case rel =>
        refine⟨k+1,r',by go_num,by omega,by simp only[Ts.size] at hrs;omega,?_,hsplit.out,bel_stepLaid hbw hb2⟩
        have:=TsAt.below (bS (bel_laid wr _) hb2) hat'
        rwa [show oa+(k+1)*3=oa+k*3+3 by omega]
       case measure=>simp[intOf];omega
      | false =>
       rw[hq] at hsplit ih'
       rw[Bool.false_and] at hsplit
       clear hq
       subst hsplit
       go_wp2_with (go_at_call 81;refine(ih'.out (.slice ps t2.len cs) _ (TSl.below (bel_laid _ _) hs3.out) hsz).mono ?_;rintro e w' ⟨rfl,hb2⟩)
       go_ret
       exact⟨rfl,bS hk.1 (bel_stepLaid hbw hb2)⟩
     | nil =>
      simp only[Ts.len] at hkr
      have hk':k=f.ts.len:=by omega
      subst hk'
      have hdef5:=h_X (show f.sub.right sc=rr by rw[←hall.out];simp[Ts.right])
      clear hall hpa hta hdef4
      have k3:=c_B hbw b3
      have hfs':=hfs.next hbw
      have hrw3:=hrw1.of hbw
      clear hfs hrw1 hk b3
      have hfl:=hfs'.2.2.2.2.2.2
      have hbel:=hfs'.2.2.2.2.1
      obtain⟨p',c',bf,of,hse,hpf,htf⟩:=FSl.opened hfl
      simp at hse
      obtain⟨rfl,rfl⟩:=hse
      have hlenf:=f.sub.len_le
      clear hfl hfs' hbw
      obtain⟨wo,rfl⟩:∃ wo,wo=wr:=⟨_,rfl⟩
      go_wp2_with fail
      go_loopw [70] (fun i wr=>∃ (k:Nat) (r:Fs),i=.int .i64 k∧k+r.len=f.sub.len∧r.size≤f.sub.size∧FsAt wr r bf (of+k*4)∧r.right sc=rr∧Below wo.heap.size wo wr) (fun i _=>f.sub.len - (intOf i).toNat)
      case atStart=>exact⟨0,f.sub,rfl,by omega,Nat.le_refl _,by simpa using htf,hdef5.out,Below.refl _ _⟩
      case round =>
       obtain⟨k,r,rfl,hkr,hrs,hat,hall,hbw⟩:=hrel
       replace hall:=h_X hall
       cases r with
       | nil =>
        simp only[Fs.len] at hkr
        have hk':k=f.sub.len:=by omega
        subst hk'
        have:rr=true:=by rw[←hall.out];rfl
        subst this
        go_wp2_with fail
        go_ret
        exact⟨rfl,bS hbel hbw⟩
       | cons op2 n2 t2 sub2 r' =>
        simp only[Fs.len] at hkr
        obtain⟨c0,c1,⟨s,c2,hs2⟩,⟨s',c3,hs2'⟩,hat'⟩:=hat
        have hs3:=h_X hs2
        have hs3':=h_X hs2'
        obtain⟨ps,cs,rfl,-⟩:=hs2
        obtain⟨ps',cs',rfl,-⟩:=hs2'
        rcases hpf with hpf | hpf
        ·omega
        subst hpf
        have hlt:(k:Int) < (f.sub.len:Int):=by omega
        have hsz:(FT.mk op2 n2 t2 sub2).size≤f.sub.size:=by simp only[FT.size];simp only[Fs.size] at hrs;omega
        have hsz2:(FT.mk op2 n2 t2 sub2).size≤1000000:=by omega
        have ih':=h_X (ih ⟨op2,n2,t2,sub2⟩ hsz sc)
        rw[hlast] at ih'
        have hrwq:=hrw3.of hbw
        have hsplit:((FT.mk op2 n2 t2 sub2).right sc && r'.right sc)=rr:=by rw[←hall.out];rfl
        cases hq:(FT.mk op2 n2 t2 sub2).right sc with
        | true =>
         rw[hq] at hsplit ih'
         rw[Bool.true_and] at hsplit
         clear hq
         replace hsplit:=h_X hsplit
         go_wp2_with (go_at_call 65;refine(ih'.out _ _ (hrwq.of (bel_laid _ _)) ⟨_,_,rfl,TSl.below (bel_laid _ _) hs3.out,FSl.below (bel_laid _ _) hs3'.out⟩ hsz2).mono ?_;rintro e w' ⟨rfl,hb2⟩)
         go_roundw
         case rel =>
          refine⟨k+1,r',by go_num,by omega,by simp only[Fs.size] at hrs;omega,?_,hsplit.out,bel_stepLaid hbw hb2⟩
          have:=FsAt.below (bS (bel_laid wr _) hb2) hat'
          rwa [show of+(k+1)*4=of+k*4+4 by omega]
         case measure=>simp[intOf];omega
        | false =>
         rw[hq] at hsplit ih'
         rw[Bool.false_and] at hsplit
         clear hq
         subst hsplit
         go_wp2_with (go_at_call 65;refine(ih'.out _ _ (hrwq.of (bel_laid _ _)) ⟨_,_,rfl,TSl.below (bel_laid _ _) hs3.out,FSl.below (bel_laid _ _) hs3'.out⟩ hsz2).mono ?_;rintro e w' ⟨rfl,hb2⟩)
         go_ret
         exact⟨rfl,bS hbel (bel_stepLaid hbw hb2)⟩
  ·have e16:((op:Int) == 16)=false:=beq_eq_false_iff_ne.2 (by omega)
   have hdef4:=h_X (show (f.ts.right sc && f.sub.right sc)=rr by rw[←hrr.out,hdef3.out,e16];simp)
   clear hdef3 hrr h16
   go_wp2_with fail
   clear b1 r0 r1 r2 e16
   have hts:=hk.2.1
   obtain⟨pa',ca',ba,oa,hse,hpa,hta⟩:=TSl.opened hts
   simp at hse
   obtain⟨rfl,rfl⟩:=hse
   have hlent:=f.ts.len_le
   have hszt:f.ts.size≤1000000:=by simp only[FT.size] at hs;omega
   have hszf:f.sub.size≤1000000:=by simp only[FT.size] at hs;omega
   clear hts b2
   go_loopw [57] (fun i wr=>∃ (k:Nat) (r:Ts),i=.int .i64 k∧k+r.len=f.ts.len∧r.size≤f.ts.size∧TsAt wr r ba (oa+k*3)∧(r.right sc && f.sub.right sc)=rr∧Below w2.heap.size w2 wr) (fun i _=>f.ts.len - (intOf i).toNat)
   case atStart=>exact⟨0,f.ts,rfl,by omega,Nat.le_refl _,by simpa using hta,hdef4.out,Below.refl _ _⟩
   case round =>
    obtain⟨k,r,rfl,hkr,hrs,hat,hall,hbw⟩:=hrel
    replace hall:=h_X hall
    cases r with
    | cons v2 n2 t2 r' =>
     simp only[Ts.len] at hkr
     obtain⟨c0,c1,⟨s,c2,hs2⟩,hat'⟩:=hat
     have hs3:=h_X hs2
     obtain⟨ps,cs,rfl,-⟩:=hs2
     rcases hpa with hpa | hpa
     ·omega
     subst hpa
     have hlt:(k:Int) < (f.ts.len:Int):=by omega
     have hsz:t2.size≤1000000:=by simp only[Ts.size] at hrs;omega
     have ih':=h_X (rightTerm_any t2 sc v2 n2)
     have hsplit:(rightT sc v2 n2 t2 && (r'.right sc && f.sub.right sc))=rr:=by rw[←hall.out,←Bool.and_assoc];rfl
     have hscl:=hsc14.out
     cases hq:rightT sc v2 n2 t2 with
     | true =>
      rw[hq] at hsplit ih'
      rw[Bool.true_and] at hsplit
      clear hq
      replace hsplit:=h_X hsplit
      go_wp2_with (go_at_call 81;refine(ih'.out (.slice ps t2.len cs) _ (TSl.below (bel_laid _ _) hs3.out) hsz).mono ?_;rintro e w' ⟨rfl,hb2⟩)
      go_roundw
      case rel =>
       refine⟨k+1,r',by go_num,by omega,by simp only[Ts.size] at hrs;omega,?_,hsplit.out,bel_stepLaid hbw hb2⟩
       have:=TsAt.below (bS (bel_laid wr _) hb2) hat'
       rwa [show oa+(k+1)*3=oa+k*3+3 by omega]
      case measure=>simp[intOf];omega
     | false =>
      rw[hq] at hsplit ih'
      rw[Bool.false_and] at hsplit
      clear hq
      subst hsplit
      go_wp2_with (go_at_call 81;refine(ih'.out (.slice ps t2.len cs) _ (TSl.below (bel_laid _ _) hs3.out) hsz).mono ?_;rintro e w' ⟨rfl,hb2⟩)
      go_ret
      exact⟨rfl,bS hk.1 (bel_stepLaid hbw hb2)⟩
    | nil =>
     simp only[Ts.len] at hkr
     have hk':k=f.ts.len:=by omega
     subst hk'
     have hdef5:=h_X (show f.sub.right sc=rr by rw[←hall.out];simp[Ts.right])
     clear hall hpa hta hdef4
     have k3:=c_B hbw b3
     have hfs':=hfs.next hbw
     have hrw2:=hrw1.of hbw
     clear hfs hrw1 hk b3
     have hfl:=hfs'.2.2.2.2.2.2
     have hbel:=hfs'.2.2.2.2.1
     obtain⟨p',c',bf,of,hse,hpf,htf⟩:=FSl.opened hfl
     simp at hse
     obtain⟨rfl,rfl⟩:=hse
     have hlenf:=f.sub.len_le
     clear hfl hfs' hbw
     obtain⟨wo,rfl⟩:∃ wo,wo=wr:=⟨_,rfl⟩
     go_wp2_with fail
     go_loopw [70] (fun i wr=>∃ (k:Nat) (r:Fs),i=.int .i64 k∧k+r.len=f.sub.len∧r.size≤f.sub.size∧FsAt wr r bf (of+k*4)∧r.right sc=rr∧Below wo.heap.size wo wr) (fun i _=>f.sub.len - (intOf i).toNat)
     case atStart=>exact⟨0,f.sub,rfl,by omega,Nat.le_refl _,by simpa using htf,hdef5.out,Below.refl _ _⟩
     case round =>
      obtain⟨k,r,rfl,hkr,hrs,hat,hall,hbw⟩:=hrel
      replace hall:=h_X hall
      cases r with
      | nil =>
       simp only[Fs.len] at hkr
       have hk':k=f.sub.len:=by omega
       subst hk'
       have:rr=true:=by rw[←hall.out];rfl
       subst this
       go_wp2_with fail
       go_ret
       exact⟨rfl,bS hbel hbw⟩
      | cons op2 n2 t2 sub2 r' =>
       simp only[Fs.len] at hkr
       obtain⟨c0,c1,⟨s,c2,hs2⟩,⟨s',c3,hs2'⟩,hat'⟩:=hat
       have hs3:=h_X hs2
       have hs3':=h_X hs2'
       obtain⟨ps,cs,rfl,-⟩:=hs2
       obtain⟨ps',cs',rfl,-⟩:=hs2'
       rcases hpf with hpf | hpf
       ·omega
       subst hpf
       have hlt:(k:Int) < (f.sub.len:Int):=by omega
       have hsz:(FT.mk op2 n2 t2 sub2).size≤f.sub.size:=by simp only[FT.size];simp only[Fs.size] at hrs;omega
       have hsz2:(FT.mk op2 n2 t2 sub2).size≤1000000:=by omega
       have ih':=h_X (ih ⟨op2,n2,t2,sub2⟩ hsz sc)
       rw[hlast] at ih'
       have hrwq:=hrw2.of hbw
       have hsplit:((FT.mk op2 n2 t2 sub2).right sc && r'.right sc)=rr:=by rw[←hall.out];rfl
       cases hq:(FT.mk op2 n2 t2 sub2).right sc with
       | true =>
        rw[hq] at hsplit ih'
        rw[Bool.true_and] at hsplit
        clear hq
        replace hsplit:=h_X hsplit
        go_wp2_with (go_at_call 65;refine(ih'.out _ _ (hrwq.of (bel_laid _ _)) ⟨_,_,rfl,TSl.below (bel_laid _ _) hs3.out,FSl.below (bel_laid _ _) hs3'.out⟩ hsz2).mono ?_;rintro e w' ⟨rfl,hb2⟩)
        go_roundw
        case rel =>
         refine⟨k+1,r',by go_num,by omega,by simp only[Fs.size] at hrs;omega,?_,hsplit.out,bel_stepLaid hbw hb2⟩
         have:=FsAt.below (bS (bel_laid wr _) hb2) hat'
         rwa [show of+(k+1)*4=of+k*4+4 by omega]
        case measure=>simp[intOf];omega
       | false =>
        rw[hq] at hsplit ih'
        rw[Bool.false_and] at hsplit
        clear hq
        subst hsplit
        go_wp2_with (go_at_call 65;refine(ih'.out _ _ (hrwq.of (bel_laid _ _)) ⟨_,_,rfl,TSl.below (bel_laid _ _) hs3.out,FSl.below (bel_laid _ _) hs3'.out⟩ hsz2).mono ?_;rintro e w' ⟨rfl,hb2⟩)
        go_ret
        exact⟨rfl,bS hbel (bel_stepLaid hbw hb2)⟩
theorem rightForm_any (f:FT):RightForm f:=rightForm_step f (fun t _=>rightForm_any t)
termination_by f.size
decreasing_by rename_i h;simp only[FT.size] at *;omega
end Go.Proofs.YtngdieldgnlogaaGreatDoor
namespace Go.Proofs.YtngdieldgnlogaaGreatDoor
open Go Go.RowKit
set_option maxRecDepth 100000
set_option linter.unusedVariables false
set_option maxHeartbeats 1000000 in
theorem right_any (f:FT) (hs:f.size≤1000000) (v:Value) (w:World) (hrw:Rws w) (hv:FVal w f v) :
  Calls Tryz.prog 15 #[v] w fun e w'=>e=.returned (.bool (f.fits && f.right false))∧Below w.heap.size w w':=by
 obtain⟨sa,ss,rfl,ha,hss⟩:=id hv
 obtain⟨pa,ca,hsa,-⟩:=id ha
 obtain⟨p,c,hsb,-⟩:=id hss
 subst hsa hsb
 have hst:=FS.start (t:=25) hv
 have HW:=h_X (fits_any f hs)
 have HR:=h_X (rightForm_any f false)
 clear ha hss hv
 cases hf:f.fits with
 | true =>
  rw[hf] at HW
  rw[Bool.true_and]
  clear hf
  generalize f.right false=r at HR ⊢
  go_enter Tryz.func15,Tryz.ntmps15
  go_wp2_with fail
  refine(HW.out _ _ hst.val).mono ?_
  rintro e W2 ⟨rfl,hb⟩
  have hrw2:=(hrw.of (bel_laid w _)).of hb
  have hS:=hst.next hb
  clear hst hb
  generalize w.heap.size=g at hS ⊢
  have hS':=hS
  obtain⟨b0,b1,b2,b3,-⟩:=hS'
  go_wp2_with fail
  refine(HR.out _ _ hrw2 hS.val hs).mono ?_
  rintro e W3 ⟨rfl,hb⟩
  have hS3:=(hS.next hb).2.2.2.2.1
  clear hS hb b0 b1 b2 b3
  go_wp2_with fail
  go_ret
  exact⟨rfl,hS3⟩
 | false =>
  rw[hf] at HW
  rw[Bool.false_and]
  clear hf
  go_enter Tryz.func15,Tryz.ntmps15
  go_wp2_with fail
  refine(HW.out _ _ hst.val).mono ?_
  rintro e W2 ⟨rfl,hb⟩
  have hS3:=(hst.next hb).2.2.2.2.1
  clear hst hb
  go_wp2_with fail
  go_ret
  exact⟨rfl,hS3⟩
end Go.Proofs.YtngdieldgnlogaaGreatDoor
