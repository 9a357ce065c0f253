/- The reference's comparison of terms. The reference's comparison of formulas. Same of the reference, both comparisons of terms, and FormCompares. -/
import Derived.Test.YtngdieldgnlogaaGreatDoorMP
import Derived.Test.YtngdieldgnlogaaGreatDoorD7
import Derived.Deep.RegionHeld3
import Derived.Test.YtngdieldgnlogaaGreatDoorQE
namespace Go.Proofs.YtngdieldgnlogaaGreatDoor
open Go Go.RowKit
set_option maxRecDepth 100000
set_option linter.unusedVariables false
theorem refStr_any (x y:ByteArray) (w:World):Calls Tryz.prog 121 #[.string x,.string y] w fun e w'=>e=.returned (.int .i64 (cmpS x y))∧w=w':=by
 cases h1:Op.bytesLess x.toList y.toList with
 | true =>
  have hd:cmpS x y = -1:=by simp[cmpS,h1]
  rw[hd]
  clear hd
  go_enter Tryz.func121,Tryz.ntmps121
  go_wp2
  go_ret
  exact⟨rfl,rfl⟩
 | false =>
  cases h2:(x.toList == y.toList) with
  | true =>
   have hd:cmpS x y=0:=by simp only[cmpS,h1,h2];rfl
   rw[hd]
   clear hd
   go_enter Tryz.func121,Tryz.ntmps121
   go_wp2
   go_ret
   exact⟨rfl,rfl⟩
  | false =>
   have hd:cmpS x y=1:=by simp only[cmpS,h1,h2];rfl
   rw[hd]
   clear hd
   go_enter Tryz.func121,Tryz.ntmps121
   go_wp2
   go_ret
   exact⟨rfl,rfl⟩
def RefTerm (ts:Ts):Prop:=∀ (v:Bool) (n:ByteArray) (sa:Value) (v':Bool) (n':ByteArray) (ts':Ts) (sb:Value) (w:World),TSl w ts sa→TSl w ts' sb→ts.size≤1000000→ts'.size≤1000000 →
 Calls Tryz.prog 123 #[.agg #[.bool v,.string n,sa],.agg #[.bool v',.string n',sb]] w fun e w'=>e=.returned (.int .i64 (cmpTerm v n ts v' n' ts'))∧Below w.heap.size w w'
set_option maxHeartbeats 2000000 in
theorem refLT_any (a:Ts) (ih:∀ t:Ts,t.size < a.size→RefTerm t) (b:Ts) (sa sb:Value) (w:World) (ha:TSl w a sa) (hb:TSl w b sb) (hs:a.size≤1000000) (hs':b.size≤1000000) :
    Calls Tryz.prog 122 #[sa,sb] w fun e w'=>e=.returned (.int .i64 (a.cmp b))∧Below w.heap.size w w':=by
  obtain⟨p,c,ba,oa,rfl,hpa,hta⟩:=TSl.opened ha
  obtain⟨p',c',bb,ob,rfl,hpb,htb⟩:=TSl.opened hb
  by_cases hl:a.len=b.len
  rotate_left
  · rcases Nat.lt_or_gt_of_ne hl with h1 | h1
    · have hq:cmpI a.len b.len = -1:=by unfold cmpI;rw[if_pos (by omega)]
      have hr:a.cmp b = -1:=by rw[Ts.cmp,hq];rfl
      have g1:(a.len:Int) < (b.len:Int):=by omega
      rw[hr]
      clear hr hq hl
      go_enter Tryz.func122,Tryz.ntmps122
      go_wp2_with fail
      go_ret
      exact⟨rfl,Below.refl _ _⟩
    · have hq:cmpI a.len b.len=1:=by unfold cmpI;rw[if_neg (by omega),if_pos (by omega)]
      have hr:a.cmp b=1:=by rw[Ts.cmp,hq];rfl
      have g1:(b.len:Int) < (a.len:Int):=by omega
      have g2:¬ (a.len:Int) < (b.len:Int):=by omega
      have g3:decide (a.len < b.len)=false:=decide_eq_false (by omega)
      rw[hr]
      clear hr hq hl
      go_enter Tryz.func122,Tryz.ntmps122
      go_wp2_with fail
      go_ret
      exact⟨rfl,Below.refl _ _⟩
  have hz:cmpI a.len b.len=0:=by rw[hl];simp[cmpI]
  have hr:a.cmp b=a.cmpE b:=by rw[Ts.cmp,if_pos hz]
  have g2:¬ (a.len:Int) < (b.len:Int):=by omega
  have g3:¬ (b.len:Int) < (a.len:Int):=by omega
  have g4:decide (a.len < b.len)=false:=decide_eq_false (by omega)
  have g5:decide (b.len < a.len)=false:=decide_eq_false (by omega)
  rw[hr]
  clear hr hz
  obtain⟨rr,hrr⟩:∃ rr,a.cmpE b=rr:=⟨_,rfl⟩
  rw[hrr]
  replace hrr:=h_X hrr
  replace hl:=h_X hl
  have hlen:=a.len_le
  go_enter Tryz.func122,Tryz.ntmps122
  go_wp2_with fail
  clear g2 g3 g4 g5
  go_loopw [5] (fun i wr=>∃ (k:Nat) (x y:Ts),i=.int .i64 k∧k+x.len=a.len∧k+y.len=b.len∧x.size≤a.size∧y.size≤b.size∧TsAt w x ba (oa+k*3)∧TsAt w y bb (ob+k*3)∧x.cmpE y=rr∧Below w.heap.size w wr) (fun i _=>a.len - (intOf i).toNat)
  case atStart=>exact⟨0,a,b,rfl,by omega,by omega,Nat.le_refl _,Nat.le_refl _,by simpa using hta,by simpa using htb,hrr.out,Below.refl _ _⟩
  case round =>
    obtain⟨k,x,y,rfl,hkx,hky,hxs,hys,hax,hay,hsm,hbw⟩:=hrel
    replace hsm:=h_X hsm
    replace hkx:=h_X hkx
    replace hky:=h_X hky
    cases x with
    | nil =>
      have hk':k=a.len:=by have:=hkx.out;simp only[Ts.len] at this;omega
      have:rr=0:=by rw[←hsm.out];rfl
      subst this
      subst hk'
      clear hkx hky
      go_wp2_with fail
      go_ret
      exact⟨rfl,hbw⟩
    | cons v n t x' =>
      cases y with
      | nil=>exfalso;have:=hky.out;have:=hkx.out;have:=hl.out;simp only[Ts.len] at *;omega
      | cons v2 n2 t2 y' =>
        obtain⟨c0,c1,⟨s,c2,hs2⟩,hax'⟩:=hax
        obtain⟨d0,d1,⟨s',d2,hs2'⟩,hay'⟩:=hay
        have hlt:(k:Int) < (a.len:Int):=by have:=hkx.out;simp only[Ts.len] at this;omega
        have hlt2:(k:Int) < (b.len:Int):=by have:=hky.out;simp only[Ts.len] at this;omega
        rcases hpa with hpa | hpa
        · omega
        subst hpa
        rcases hpb with hpb | hpb
        · omega
        subst hpb
        simp only[Ts.size] at hxs hys
        have htz:t.size < a.size∧t.size≤1000000∧t2.size≤1000000:=by omega
        have hK:KTT t t2 s s' w wr:=⟨hbw,TSl.below hbw hs2,TSl.below hbw hs2'⟩
        obtain⟨ps,cs,rfl,-⟩:=hs2
        obtain⟨ps',cs',rfl,-⟩:=hs2'
        replace c0:=c_B hbw c0
        replace c1:=c_B hbw c1
        replace c2:=c_B hbw c2
        replace d0:=c_B hbw d0
        replace d1:=c_B hbw d1
        replace d2:=c_B hbw d2
        have hdef:=hsm.out
        rw[cmpE_cons] at hdef
        have ih':=ih t htz.1
        obtain⟨q,hq⟩:∃ q,cmpTerm v n t v2 n2 t2=q:=⟨_,rfl⟩
        have HC:=h_X (fun V (hV:V.cell? ⟨ba,oa+k*3,none⟩=some (.bool v)∧V.cell? ⟨ba,oa+k*3+1,none⟩=some (.string n)∧V.cell? ⟨ba,oa+k*3+2,none⟩=some (.slice ps t.len cs)∧V.cell? ⟨bb,ob+k*3,none⟩=some (.bool v2)∧V.cell? ⟨bb,ob+k*3+1,none⟩=some (.string n2)∧V.cell? ⟨bb,ob+k*3+2,none⟩=some (.slice ps' t2.len cs')∧KTT t t2 (.slice ps t.len cs) (.slice ps' t2.len cs') w V) =>
          (ih' v n _ v2 n2 t2 _ V hV.2.2.2.2.2.2.2.1 hV.2.2.2.2.2.2.2.2 htz.2.1 htz.2.2).mono (fun e w' (he:e=.returned (.int .i64 (cmpTerm v n t v2 n2 t2))∧Below V.heap.size V w') =>
            show e=.returned (.int .i64 q)∧(w'.cell? ⟨ba,oa+k*3,none⟩=some (.bool v)∧w'.cell? ⟨ba,oa+k*3+1,none⟩=some (.string n)∧w'.cell? ⟨ba,oa+k*3+2,none⟩=some (.slice ps t.len cs)∧w'.cell? ⟨bb,ob+k*3,none⟩=some (.bool v2)∧w'.cell? ⟨bb,ob+k*3+1,none⟩=some (.string n2)∧w'.cell? ⟨bb,ob+k*3+2,none⟩=some (.slice ps' t2.len cs')∧KTT t t2 (.slice ps t.len cs) (.slice ps' t2.len cs') w w') from
            ⟨by rw[he.1,hq],c_B he.2 hV.1,c_B he.2 hV.2.1,c_B he.2 hV.2.2.1,c_B he.2 hV.2.2.2.1,c_B he.2 hV.2.2.2.2.1,c_B he.2 hV.2.2.2.2.2.1,hV.2.2.2.2.2.2.next he.2⟩))
        rw[hq] at hdef
        replace hdef:=h_X hdef
        have hKd:KTT t t2 (.slice ps t.len cs) (.slice ps' t2.len cs') w wr.drew:=hK.next (bel_drew wr)
        clear ih ih' hsm hK hq ha hb
        go_wp2_with fail
        go_region_held3 (fun V=>V.cell? ⟨ba,oa+k*3,none⟩=some (.bool v)∧V.cell? ⟨ba,oa+k*3+1,none⟩=some (.string n)∧V.cell? ⟨ba,oa+k*3+2,none⟩=some (.slice ps t.len cs)∧V.cell? ⟨bb,ob+k*3,none⟩=some (.bool v2)∧V.cell? ⟨bb,ob+k*3+1,none⟩=some (.string n2)∧V.cell? ⟨bb,ob+k*3+2,none⟩=some (.slice ps' t2.len cs')∧KTT t t2 (.slice ps t.len cs) (.slice ps' t2.len cs') w V) (first | assumption | exact⟨c0,c1,c2,d0,d1,d2,hKd⟩)
          (first
            | (go_at_call 123;refine(HC.out _ (by assumption)).mono ?_;rintro e w' ⟨rfl,hSS⟩))
        have hbl:=hSS.2.2.2.2.2.2.1
        clear hSS
        by_cases hq0:q=0
        · subst hq0
          have hd2:=h_X (show x'.cmpE y'=rr by rw[←hdef.out,if_pos rfl])
          clear hdef c0 c1 c2 d0 d1 d2 hKd HC
          go_wp2_with fail
          go_roundw
          case rel =>
            refine⟨k+1,x',y',by go_num,by have:=hkx.out;simp only[Ts.len] at this;omega,by have:=hky.out;simp only[Ts.len] at this;omega,by omega,by omega,?_,?_,hd2.out,hbl⟩
            · rwa [show oa+(k+1)*3=oa+k*3+3 by omega]
            · rwa [show ob+(k+1)*3=ob+k*3+3 by omega]
          case measure=>simp[intOf];omega
        · have hq1:(q != 0)=true:=bne_iff_ne.2 hq0
          have:rr=q:=by rw[←hdef.out,if_neg hq0]
          subst this
          clear hdef c0 c1 c2 d0 d1 d2 hKd HC hrr hq0
          go_wp2_with fail
          go_ret
          exact⟨rfl,hbl⟩
set_option maxHeartbeats 2000000 in
theorem refTerm_any (ts:Ts):RefTerm ts:=by
 intro v n sa v' n' ts' sb w ha hb hs hs'
 have hC:=h_X (refLT_any ts (fun t _=>refTerm_any t) ts')
 have hS:=h_X (refStr_any n n')
 obtain⟨p,c,hse,-⟩:=id ha
 subst hse
 obtain⟨p',c',hse,-⟩:=id hb
 subst hse
 have hbl:=bS (bel_laid w (.cells #[.bool v,.string n,.slice p ts.len c] 46)) (bel_laid (w.alloc (.cells #[.bool v,.string n,.slice p ts.len c] 46)) (.cells #[.bool v',.string n',.slice p' ts'.len c'] 46))
 have ha2:=h_X (TSl.below hbl ha)
 have hb2:=h_X (TSl.below hbl hb)
 clear ha hb
 by_cases hv:v=v'
 rotate_left
 ·have hv1:(v != v')=true:=bne_iff_ne.2 hv
  have hd:cmpTerm v n ts v' n' ts'=if v then -1 else 1:=by rw[cmpTerm,if_neg hv]
  rw[hd]
  cases v with
  | true =>
   simp only[if_true]
   obtain rfl:v'=false:=by cases v'<;>simp_all
   clear hd hv hv1
   go_enter Tryz.func123,Tryz.ntmps123
   go_wp2_with fail
   go_ret
   exact⟨rfl,hbl⟩
  | false =>
   simp only[Bool.false_eq_true,if_false]
   obtain rfl:v'=true:=by cases v'<;>simp_all
   clear hd hv hv1
   go_enter Tryz.func123,Tryz.ntmps123
   go_wp2_with fail
   go_ret
   exact⟨rfl,hbl⟩
 subst hv
 have hv1:(v != v)=false:=by simp
 by_cases hz:cmpS n n'=0
 rotate_left
 ·have hz1:(n.toList == n'.toList)=false:=beq_eq_false_iff_ne.2 (fun e=>hz ((cmpS_eq n n').2 e))
  have hd:cmpTerm v n ts v n' ts'=cmpS n n':=by rw[cmpTerm,if_pos rfl,if_neg hz]
  rw[hd]
  clear hd hz
  generalize cmpS n n'=q at hS hz1 ⊢
  go_enter Tryz.func123,Tryz.ntmps123
  go_wp2_with (go_at_call 121;refine(hS.out _).mono ?_;rintro e w1 ⟨rfl,rfl⟩)
  go_ret
  exact⟨rfl,hbl⟩
 have hd:cmpTerm v n ts v n' ts'=ts.cmp ts':=by rw[cmpTerm,if_pos rfl,if_pos hz]
 rw[hd]
 have hz1:(n.toList == n'.toList)=true:=beq_iff_eq.2 ((cmpS_eq n n').1 hz)
 clear hd hz hS
 generalize ts.cmp ts'=q at hC ⊢
 go_enter Tryz.func123,Tryz.ntmps123
 go_wp2_with (first
  | (go_at_call 122;refine(hC.out _ _ _ ha2.out hb2.out hs hs').mono ?_;rintro e w2 ⟨rfl,hb3⟩))
 go_ret
 exact⟨rfl,bS hbl hb3⟩
termination_by ts.size
end Go.Proofs.YtngdieldgnlogaaGreatDoor
namespace Go.Proofs.YtngdieldgnlogaaGreatDoor
open Go Go.RowKit
set_option maxRecDepth 100000
set_option linter.unusedVariables false
def RefForm (f:FT):Prop:=∀ (v:Value) (g:FT) (v':Value) (w:World),FVal w f v→FVal w g v'→f.size≤1000000→g.size≤1000000 →
 Calls Tryz.prog 94 #[v,v'] w fun e w'=>e=.returned (.int .i64 (cmpForm f g))∧Below w.heap.size w w'
def KR (e e':FT) (v v':Value) (f g:FT) (sa ss sb st:Value) (w:World) (X Y:Nat) (V:World):Prop:=KFF e e' v v' w V∧F2 f g sa ss sb st w X Y V
theorem KR.next {e e':FT} {v v':Value} {f g:FT} {sa ss sb st:Value} {w V V':World} {X Y:Nat} (h:KR e e' v v' f g sa ss sb st w X Y V) (hb:Below V.heap.size V V'):KR e e' v v' f g sa ss sb st w X Y V':=⟨h.1.next hb,h.2.next hb⟩
set_option maxHeartbeats 8000000 in
theorem refForm_step (f:FT) (ih:∀ t:FT,t.size < f.size→RefForm t):RefForm f:=by
  intro v g v' w hv hv' hs hs'
  have HT:=h_X (refLT_any f.ts (fun t _=>refTerm_any t) g.ts)
  have HS:=h_X (refStr_any f.n g.n)
  have z1:f.ts.size≤1000000∧f.sub.size≤1000000:=by simp only[FT.size] at hs;omega
  have z2:g.ts.size≤1000000∧g.sub.size≤1000000:=by simp only[FT.size] at hs';omega
  have ihh:=h_X ih
  have hv0:=hv
  have hv0':=hv'
  obtain⟨sa,ss,rfl,ha,hss⟩:=hv
  obtain⟨pa,ca,rfl,-⟩:=id ha
  obtain⟨p,c,ba,oa,rfl,hpa,hta⟩:=FSl.opened hss
  obtain⟨sb,st,rfl,hb,hst⟩:=hv'
  obtain⟨pb,cb,rfl,-⟩:=id hb
  obtain⟨pt,ct,bb,ob,rfl,hpb,htb⟩:=FSl.opened hst
  have hbl1:=bel_laid w (.cells #[.int .u8 f.op,.string f.n,.slice pa f.ts.len ca,.slice p f.sub.len c] 25)
  have hS1:=(FS.start (t:=25) hv0).next (bel_laid _ (.cells #[.int .u8 g.op,.string g.n,.slice pb g.ts.len cb,.slice pt g.sub.len ct] 25))
  have hS2':=FS.start (t:=25) (FVal.below hbl1 hv0')
  have hS2:FS g (.slice pb g.ts.len cb) (.slice pt g.sub.len ct) w (w.heap.size+1) ((w.alloc (.cells #[.int .u8 f.op,.string f.n,.slice pa f.ts.len ca,.slice p f.sub.len c] 25)).alloc (.cells #[.int .u8 g.op,.string g.n,.slice pb g.ts.len cb,.slice pt g.sub.len ct] 25)):=by
    rw[World.size_alloc] at hS2'
    exact⟨hS2'.1,hS2'.2.1,hS2'.2.2.1,hS2'.2.2.2.1,bS hbl1 hS2'.2.2.2.2.1,hS2'.2.2.2.2.2⟩
  clear hS2' hbl1 ha hss hb hst hv0 hv0' ih
  have h2:F2 f g _ _ _ _ w w.heap.size (w.heap.size+1) _:=⟨hS1,hS2⟩
  clear hS1 hS2
  obtain⟨rr,hrr⟩:∃ rr,cmpForm f g=rr:=⟨_,rfl⟩
  rw[hrr]
  unfold cmpForm at hrr
  replace hrr:=h_X hrr
  have htah:=h_X hta
  have htbh:=h_X htb
  clear hta htb
  by_cases o1:f.op < g.op
  · have q1:cmpI f.op g.op = -1:=by simp[cmpI,o1]
    have:rr = -1:=by rw[←hrr.out,q1];rfl
    subst this
    clear hrr q1
    have hfin:=h2.1.2.2.2.2.1
    clear h2
    go_enter Tryz.func94,Tryz.ntmps94
    go_wp2_with fail
    go_ret
    exact⟨rfl,hfin⟩
  by_cases o2:g.op < f.op
  · have q1:cmpI f.op g.op=1:=by simp[cmpI,o1,o2]
    have:rr=1:=by rw[←hrr.out,q1];rfl
    subst this
    clear hrr q1
    have hfin:=h2.1.2.2.2.2.1
    clear h2
    go_enter Tryz.func94,Tryz.ntmps94
    go_wp2_with fail
    go_ret
    exact⟨rfl,hfin⟩
  have q1:cmpI f.op g.op=0:=by simp[cmpI,o1,o2]
  by_cases q2:cmpS f.n g.n=0
  rotate_left
  · have hz1:(f.n.toList == g.n.toList)=false:=beq_eq_false_iff_ne.2 (fun e=>q2 ((cmpS_eq _ _).2 e))
    have:rr=cmpS f.n g.n:=by rw[←hrr.out,if_pos q1,if_neg q2]
    subst this
    clear hrr q1 q2
    generalize cmpS f.n g.n=q at HS ⊢
    have hfin:=h2.1.2.2.2.2.1
    clear h2
    go_enter Tryz.func94,Tryz.ntmps94
    go_wp2_with (go_at_call 121;refine(HS.out _).mono ?_;rintro e w1 ⟨rfl,rfl⟩)
    go_ret
    exact⟨rfl,hfin⟩
  have hz1:(f.n.toList == g.n.toList)=true:=beq_iff_eq.2 ((cmpS_eq _ _).1 q2)
  replace hrr:=h_X (show (if f.ts.cmp g.ts=0 then f.sub.cmp g.sub else f.ts.cmp g.ts)=rr by rw[←hrr.out,if_pos q1,if_pos q2])
  clear q1 q2 HS
  by_cases q3:f.ts.cmp g.ts=0
  rotate_left
  · have q3':(f.ts.cmp g.ts != 0)=true:=bne_iff_ne.2 q3
    have:rr=f.ts.cmp g.ts:=by rw[←hrr.out,if_neg q3]
    subst this
    clear hrr q3
    generalize f.ts.cmp g.ts=q at HT q3' ⊢
    go_enter Tryz.func94,Tryz.ntmps94
    go_wp2_with (go_at_call 122;refine(HT.out _ _ _ h2.1.2.2.2.2.2.1 h2.2.2.2.2.2.2.1 z1.1 z2.1).mono ?_;rintro e w2 ⟨rfl,hb3⟩)
    go_ret
    exact⟨rfl,(h2.next hb3).1.2.2.2.2.1⟩
  have hfr:=h_X (show f.sub.cmp g.sub=rr by rw[←hrr.out,if_pos q3])
  rw[q3] at HT
  clear q3 hrr
  go_enter Tryz.func94,Tryz.ntmps94
  go_wp2_with fail
  refine(HT.out _ _ _ h2.1.2.2.2.2.2.1 h2.2.2.2.2.2.2.1 z1.1 z2.1).mono ?_
  rintro e w2 ⟨rfl,hb3⟩
  replace h2:=h2.next hb3
  clear hb3 HT hz1 o1 o2
  generalize w.heap.size+1=Y at h2 ⊢
  generalize hX:w.heap.size=X at h2 ⊢
  have h2h:=h_X h2
  obtain⟨⟨-,-,-,b3,-⟩,⟨-,-,-,d3,-⟩⟩:=h2
  have hlen:=f.sub.len_le
  have hlen':=g.sub.len_le
  by_cases l1:f.sub.len < g.sub.len
  · have hq:cmpI f.sub.len g.sub.len = -1:=by unfold cmpI;rw[if_pos (by omega)]
    have:rr = -1:=by rw[←hfr.out,Fs.cmp,hq];rfl
    subst this
    have g1:(f.sub.len:Int) < (g.sub.len:Int):=by omega
    clear hq
    go_wp2_with fail
    go_ret
    exact⟨rfl,h2h.out.1.2.2.2.2.1⟩
  by_cases l2:g.sub.len < f.sub.len
  · have hq:cmpI f.sub.len g.sub.len=1:=by unfold cmpI;rw[if_neg (by omega),if_pos (by omega)]
    have:rr=1:=by rw[←hfr.out,Fs.cmp,hq];rfl
    subst this
    have g1:(g.sub.len:Int) < (f.sub.len:Int):=by omega
    have g2:¬ (f.sub.len:Int) < (g.sub.len:Int):=by omega
    have g3:decide (f.sub.len < g.sub.len)=false:=decide_eq_false (by omega)
    clear hq
    go_wp2_with fail
    go_ret
    exact⟨rfl,h2h.out.1.2.2.2.2.1⟩
  have hl:f.sub.len=g.sub.len:=by omega
  have hrr:=h_X (show f.sub.cmpE g.sub=rr by
    have hq:cmpI f.sub.len g.sub.len=0:=by rw[hl];simp[cmpI]
    rw[←hfr.out,Fs.cmp,if_pos hq])
  have g2:¬ (f.sub.len:Int) < (g.sub.len:Int):=by omega
  have g3:¬ (g.sub.len:Int) < (f.sub.len:Int):=by omega
  have g4:decide (f.sub.len < g.sub.len)=false:=decide_eq_false (by omega)
  have g5:decide (g.sub.len < f.sub.len)=false:=decide_eq_false (by omega)
  replace hl:=h_X hl
  clear l1 l2 hfr
  go_wp2_with fail
  clear g2 g3 g4 g5 b3 d3
  go_loopw [6] (fun i wr=>∃ (k:Nat) (x y:Fs),i=.int .i64 k∧k+x.len=f.sub.len∧k+y.len=g.sub.len∧x.size≤f.sub.size∧y.size≤g.sub.size∧FsAt w x ba (oa+k*4)∧FsAt w y bb (ob+k*4)∧x.cmpE y=rr∧F2 f g (.slice pa f.ts.len ca) (.slice p f.sub.len c) (.slice pb g.ts.len cb) (.slice pt g.sub.len ct) w X Y wr) (fun i _=>f.sub.len - (intOf i).toNat)
  case atStart=>exact⟨0,f.sub,g.sub,rfl,by omega,by have:=hl.out;omega,Nat.le_refl _,Nat.le_refl _,by simpa using htah.out,by simpa using htbh.out,hrr.out,h2h.out⟩
  case round =>
    obtain⟨k,x,y,rfl,hkx,hky,hxs,hys,hax,hay,hsm,hF⟩:=hrel
    replace hsm:=h_X hsm
    replace hkx:=h_X hkx
    replace hky:=h_X hky
    have hbw:Below w.heap.size w wr:=hF.1.2.2.2.2.1
    have hFh:=h_X hF
    obtain⟨⟨-,-,-,b3,-⟩,⟨-,-,-,d3,-⟩⟩:=hF
    clear h2h
    cases x with
    | nil =>
      have hk':k=f.sub.len:=by have:=hkx.out;simp only[Fs.len] at this;omega
      have:rr=0:=by rw[←hsm.out];rfl
      subst this
      subst hk'
      clear hkx hky
      go_wp2_with fail
      go_ret
      exact⟨rfl,hbw⟩
    | cons op n t u x' =>
      cases y with
      | nil=>exfalso;have:=hky.out;have:=hkx.out;have:=hl.out;simp only[Fs.len] at *;omega
      | cons op2 n2 t2 u2 y' =>
        obtain⟨c0,c1,⟨s,c2,hs2⟩,⟨r,c3,hr2⟩,hax'⟩:=hax
        obtain⟨d0,d1,⟨s',d2,hs2'⟩,⟨r',d3',hr2'⟩,hay'⟩:=hay
        have hlt:(k:Int) < (f.sub.len:Int):=by have:=hkx.out;simp only[Fs.len] at this;omega
        have hlt2:(k:Int) < (g.sub.len:Int):=by have:=hky.out;simp only[Fs.len] at this;omega
        rcases hpa with hpa | hpa
        · omega
        subst hpa
        rcases hpb with hpb | hpb
        · omega
        subst hpb
        simp only[Fs.size] at hxs hys
        have htz:(FT.mk op n t u).size < f.size∧(FT.mk op n t u).size≤1000000∧(FT.mk op2 n2 t2 u2).size≤1000000:=by simp only[FT.size];omega
        have hK:KR ⟨op,n,t,u⟩ ⟨op2,n2,t2,u2⟩ (.agg #[.int .u8 op,.string n,s,r]) (.agg #[.int .u8 op2,.string n2,s',r']) f g _ _ _ _ w X Y wr :=
          ⟨⟨hbw,FVal.below hbw ⟨s,r,rfl,hs2,hr2⟩,FVal.below hbw ⟨s',r',rfl,hs2',hr2'⟩⟩,hFh.out⟩
        obtain⟨ps,cs,rfl,-⟩:=hs2
        obtain⟨ps',cs',rfl,-⟩:=hs2'
        obtain⟨pr,cr,rfl,-⟩:=hr2
        obtain⟨pr',cr',rfl,-⟩:=hr2'
        replace c0:=c_B hbw c0
        replace c1:=c_B hbw c1
        replace c2:=c_B hbw c2
        replace c3:=c_B hbw c3
        replace d0:=c_B hbw d0
        replace d1:=c_B hbw d1
        replace d2:=c_B hbw d2
        replace d3':=c_B hbw d3'
        have hdef:=hsm.out
        rw[cmpE_consF] at hdef
        have ih':=ihh.out ⟨op,n,t,u⟩ htz.1
        obtain⟨q,hq⟩:∃ q,cmpForm ⟨op,n,t,u⟩ ⟨op2,n2,t2,u2⟩=q:=⟨_,rfl⟩
        obtain⟨S,hS⟩:∃ S:World→Prop,S=(fun V=>V.cell? ⟨X,3,none⟩=some (.slice (some ⟨ba,oa,none⟩) f.sub.len c)∧V.cell? ⟨Y,3,none⟩=some (.slice (some ⟨bb,ob,none⟩) g.sub.len ct)∧V.cell? ⟨ba,oa+k*4,none⟩=some (.int .u8 op)∧V.cell? ⟨ba,oa+k*4+1,none⟩=some (.string n)∧V.cell? ⟨ba,oa+k*4+2,none⟩=some (.slice ps t.len cs)∧V.cell? ⟨ba,oa+k*4+3,none⟩=some (.slice pr u.len cr) ∧
          V.cell? ⟨bb,ob+k*4,none⟩=some (.int .u8 op2)∧V.cell? ⟨bb,ob+k*4+1,none⟩=some (.string n2)∧V.cell? ⟨bb,ob+k*4+2,none⟩=some (.slice ps' t2.len cs')∧V.cell? ⟨bb,ob+k*4+3,none⟩=some (.slice pr' u2.len cr') ∧
          KR ⟨op,n,t,u⟩ ⟨op2,n2,t2,u2⟩ (.agg #[.int .u8 op,.string n,.slice ps t.len cs,.slice pr u.len cr]) (.agg #[.int .u8 op2,.string n2,.slice ps' t2.len cs',.slice pr' u2.len cr']) f g (.slice pa f.ts.len ca) (.slice (some ⟨ba,oa,none⟩) f.sub.len c) (.slice pb g.ts.len cb) (.slice (some ⟨bb,ob,none⟩) g.sub.len ct) w X Y V):=⟨_,rfl⟩
        have HC:=h_X (fun V (hV:S V)=>show Calls Tryz.prog 94 #[.agg #[.int .u8 op,.string n,.slice ps t.len cs,.slice pr u.len cr],.agg #[.int .u8 op2,.string n2,.slice ps' t2.len cs',.slice pr' u2.len cr']] V fun e w'=>e=.returned (.int .i64 q)∧S w' from by
          rw[hS] at hV ⊢
          obtain⟨v0,v1,v2,v3,v4,v5,v6,v7,v8,v9,v10⟩:=hV
          exact(ih' _ _ _ V v10.1.2.1 v10.1.2.2 htz.2.1 htz.2.2).mono (fun e w' he =>
            ⟨by rw[he.1,hq],c_B he.2 v0,c_B he.2 v1,c_B he.2 v2,c_B he.2 v3,c_B he.2 v4,c_B he.2 v5,c_B he.2 v6,c_B he.2 v7,c_B he.2 v8,c_B he.2 v9,v10.next he.2⟩))
        subst hS
        rw[hq] at hdef
        replace hdef:=h_X hdef
        have hKd:=hK.next (bel_drew wr)
        clear ih' hsm hK hq hFh
        go_wp2_with fail
        go_region_held3 (fun V=>V.cell? ⟨X,3,none⟩=some (.slice (some ⟨ba,oa,none⟩) f.sub.len c)∧V.cell? ⟨Y,3,none⟩=some (.slice (some ⟨bb,ob,none⟩) g.sub.len ct)∧V.cell? ⟨ba,oa+k*4,none⟩=some (.int .u8 op)∧V.cell? ⟨ba,oa+k*4+1,none⟩=some (.string n)∧V.cell? ⟨ba,oa+k*4+2,none⟩=some (.slice ps t.len cs)∧V.cell? ⟨ba,oa+k*4+3,none⟩=some (.slice pr u.len cr) ∧
          V.cell? ⟨bb,ob+k*4,none⟩=some (.int .u8 op2)∧V.cell? ⟨bb,ob+k*4+1,none⟩=some (.string n2)∧V.cell? ⟨bb,ob+k*4+2,none⟩=some (.slice ps' t2.len cs')∧V.cell? ⟨bb,ob+k*4+3,none⟩=some (.slice pr' u2.len cr') ∧
          KR ⟨op,n,t,u⟩ ⟨op2,n2,t2,u2⟩ (.agg #[.int .u8 op,.string n,.slice ps t.len cs,.slice pr u.len cr]) (.agg #[.int .u8 op2,.string n2,.slice ps' t2.len cs',.slice pr' u2.len cr']) f g (.slice pa f.ts.len ca) (.slice (some ⟨ba,oa,none⟩) f.sub.len c) (.slice pb g.ts.len cb) (.slice (some ⟨bb,ob,none⟩) g.sub.len ct) w X Y V) (first | assumption | exact⟨b3,d3,c0,c1,c2,c3,d0,d1,d2,d3',hKd⟩)
          (first
            | (go_at_call 94;refine(HC.out _ (by assumption)).mono ?_;rintro e w' ⟨rfl,hSS⟩))
        obtain⟨-,-,-,-,-,-,-,-,-,-,hKR⟩:=hSS
        have hF2:=h_X hKR.2
        have hbl:=hKR.1.1
        clear hKR
        by_cases hq0:q=0
        · subst hq0
          have hd2:=h_X (show x'.cmpE y'=rr by rw[←hdef.out,if_pos rfl])
          clear hdef b3 d3 c0 c1 c2 c3 d0 d1 d2 d3' hKd HC
          go_wp2_with fail
          go_roundw
          case rel =>
            refine⟨k+1,x',y',by go_num,by have:=hkx.out;simp only[Fs.len] at this;omega,by have:=hky.out;simp only[Fs.len] at this;omega,by omega,by omega,?_,?_,hd2.out,hF2.out⟩
            · rwa [show oa+(k+1)*4=oa+k*4+4 by omega]
            · rwa [show ob+(k+1)*4=ob+k*4+4 by omega]
          case measure=>simp[intOf];omega
        · have hq1:(q != 0)=true:=bne_iff_ne.2 hq0
          have:rr=q:=by rw[←hdef.out,if_neg hq0]
          subst this
          clear hdef b3 d3 c0 c1 c2 c3 d0 d1 d2 d3' hKd HC hrr hq0
          go_wp2_with fail
          go_ret
          exact⟨rfl,hbl⟩
theorem refForm_any (f:FT):RefForm f:=refForm_step f fun t _=>refForm_any t
termination_by f.size
decreasing_by assumption
end Go.Proofs.YtngdieldgnlogaaGreatDoor
namespace Go.Proofs.YtngdieldgnlogaaGreatDoor
open Go Go.RowKit
set_option maxRecDepth 100000
set_option linter.unusedVariables false
theorem refSame_any (f:FT) (v:Value) (g:FT) (v':Value) (w:World) (hv:FVal w f v) (hv':FVal w g v') (hs:f.size≤1000000) (hs':g.size≤1000000) :
  Calls Tryz.prog 77 #[v,v'] w fun e w'=>e=.returned (.bool (cmpForm f g == 0))∧Below w.heap.size w w':=by
 have HC:=refForm_any f
 obtain⟨q,hq⟩:∃ q,cmpForm f g=q:=⟨_,rfl⟩
 rw[hq]
 obtain⟨sa,ss,rfl,ha,hss⟩:=id hv
 obtain⟨pa,ca,rfl,-⟩:=id ha
 obtain⟨p,c,rfl,-⟩:=id hss
 obtain⟨sb,st,rfl,hb,hst'⟩:=id hv'
 obtain⟨pb,cb,rfl,-⟩:=id hb
 obtain⟨pt,ct,rfl,-⟩:=id hst'
 have hbl:=bS (bel_laid w (.cells #[.int .u8 f.op,.string f.n,.slice pa f.ts.len ca,.slice p f.sub.len c] 25)) (bel_laid (w.alloc (.cells #[.int .u8 f.op,.string f.n,.slice pa f.ts.len ca,.slice p f.sub.len c] 25)) (.cells #[.int .u8 g.op,.string g.n,.slice pb g.ts.len cb,.slice pt g.sub.len ct] 25))
 have HC':=h_X (HC _ g _ _ (FVal.below hbl hv) (FVal.below hbl hv') hs hs')
 rw[hq] at HC'
 clear HC ha hss hb hst' hv hv' hq
 go_enter Tryz.func77,Tryz.ntmps77
 go_wp2_with fail
 refine HC'.out.mono ?_
 rintro e w2 ⟨rfl,hb3⟩
 have hfin:=bS hbl hb3
 clear hbl hb3 HC'
 go_wp2_with fail
 go_ret
 exact⟨rfl,hfin⟩
theorem sameTerm36_any (ts:Ts) (v:Bool) (n:ByteArray) (sa:Value) (v':Bool) (n':ByteArray) (ts':Ts) (sb:Value) (w:World) (ha:TSl w ts sa) (hb:TSl w ts' sb) (hs:ts.size≤1000000) (hs':ts'.size≤1000000) :
  Calls Tryz.prog 95 #[.agg #[.bool v,.string n,sa],.agg #[.bool v',.string n',sb]] w fun e w'=>e=.returned (.bool (cmpTerm v n ts v' n' ts' == 0))∧Below w.heap.size w w':=by
 have HC:=cmpTerm_any ts v n
 obtain⟨q,hq⟩:∃ q,cmpTerm v n ts v' n' ts'=q:=⟨_,rfl⟩
 rw[hq]
 obtain⟨pa,ca,rfl,-⟩:=id ha
 obtain⟨pb,cb,rfl,-⟩:=id hb
 have hbl:=bS (bel_laid w (.cells #[.bool v,.string n,.slice pa ts.len ca] 46)) (bel_laid (w.alloc (.cells #[.bool v,.string n,.slice pa ts.len ca] 46)) (.cells #[.bool v',.string n',.slice pb ts'.len cb] 46))
 have HC':=h_X (HC _ v' n' ts' _ _ (TSl.below hbl ha) (TSl.below hbl hb) hs hs')
 rw[hq] at HC'
 clear HC ha hb hq
 go_enter Tryz.func95,Tryz.ntmps95
 go_wp2_with fail
 refine HC'.out.mono ?_
 rintro e w2 ⟨rfl,hb3⟩
 have hfin:=bS hbl hb3
 clear hbl hb3 HC'
 go_wp2_with fail
 go_ret
 exact⟨rfl,hfin⟩
theorem sameTerm37_any (ts:Ts) (v:Bool) (n:ByteArray) (sa:Value) (v':Bool) (n':ByteArray) (ts':Ts) (sb:Value) (w:World) (ha:TSl w ts sa) (hb:TSl w ts' sb) (hs:ts.size≤1000000) (hs':ts'.size≤1000000) :
  Calls Tryz.prog 96 #[.agg #[.bool v,.string n,sa],.agg #[.bool v',.string n',sb]] w fun e w'=>e=.returned (.bool (cmpTerm v n ts v' n' ts' == 0))∧Below w.heap.size w w':=by
 have HC:=refTerm_any ts v n
 obtain⟨q,hq⟩:∃ q,cmpTerm v n ts v' n' ts'=q:=⟨_,rfl⟩
 rw[hq]
 obtain⟨pa,ca,rfl,-⟩:=id ha
 obtain⟨pb,cb,rfl,-⟩:=id hb
 have hbl:=bS (bel_laid w (.cells #[.bool v,.string n,.slice pa ts.len ca] 46)) (bel_laid (w.alloc (.cells #[.bool v,.string n,.slice pa ts.len ca] 46)) (.cells #[.bool v',.string n',.slice pb ts'.len cb] 46))
 have HC':=h_X (HC _ v' n' ts' _ _ (TSl.below hbl ha) (TSl.below hbl hb) hs hs')
 rw[hq] at HC'
 clear HC ha hb hq
 go_enter Tryz.func96,Tryz.ntmps96
 go_wp2_with fail
 refine HC'.out.mono ?_
 rintro e w2 ⟨rfl,hb3⟩
 have hfin:=bS hbl hb3
 clear hbl hb3 HC'
 go_wp2_with fail
 go_ret
 exact⟨rfl,hfin⟩
end Go.Proofs.YtngdieldgnlogaaGreatDoor
