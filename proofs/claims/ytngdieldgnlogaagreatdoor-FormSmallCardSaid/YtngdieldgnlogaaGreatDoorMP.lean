/- cmp.Compare at bytes, numbers, strings. Comparing terms. Comparing formulas. Compare and Same. cmp.Or of two numbers. Is the part among those of its size: Parts$1, IndexFunc, ContainsFunc. The order of symbols: inOrder$1. -/
import Derived.Test.YtngdieldgnlogaaGreatDoorMH
import Derived.Test.YtngdieldgnlogaaGreatDoorMN
import Derived.Test.YtngdieldgnlogaaGreatDoorMR
import Derived.Test.YtngdieldgnlogaaGreatDoorMT
import Derived.Deep.RegionHeld3
import Derived.Sort.Grow
namespace Go.Proofs.YtngdieldgnlogaaGreatDoor
open Go Go.RowKit
set_option maxRecDepth 100000
set_option linter.unusedVariables false
def cmpI (x y:Int):Int:=if x < y then -1 else if y < x then 1 else 0
def cmpS (x y:ByteArray):Int:=if Op.bytesLess x.toList y.toList then -1 else if x.toList == y.toList then 0 else 1
theorem cmpByte_any (x y:Int) (w:World):Calls Tryz.prog 117 #[.int .u8 x,.int .u8 y] w fun e w'=>e=.returned (.int .i64 (cmpI x y))∧w=w':=by
 have e1:(x != x)=false:=by simp
 have e2:(y != y)=false:=by simp
 by_cases h1:x < y
 ·have hd:cmpI x y = -1:=by simp[cmpI,h1]
  rw[hd]
  clear hd
  go_enter Tryz.func117,Tryz.ntmps117
  go_wp2
  go_ret
  exact⟨rfl,rfl⟩
 ·by_cases h2:y < x
  ·have hd:cmpI x y=1:=by simp[cmpI,h1,h2]
   rw[hd]
   clear hd
   go_enter Tryz.func117,Tryz.ntmps117
   go_wp2
   go_ret
   exact⟨rfl,rfl⟩
  ·have hd:cmpI x y=0:=by simp[cmpI,h1,h2]
   rw[hd]
   clear hd
   go_enter Tryz.func117,Tryz.ntmps117
   go_wp2
   go_ret
   exact⟨rfl,rfl⟩
theorem cmpInt_any (x y:Int) (w:World):Calls Tryz.prog 112 #[.int .i64 x,.int .i64 y] w fun e w'=>e=.returned (.int .i64 (cmpI x y))∧w=w':=by
 have e1:(x != x)=false:=by simp
 have e2:(y != y)=false:=by simp
 by_cases h1:x < y
 ·have hd:cmpI x y = -1:=by simp[cmpI,h1]
  rw[hd]
  clear hd
  go_enter Tryz.func112,Tryz.ntmps112
  go_wp2
  go_ret
  exact⟨rfl,rfl⟩
 ·by_cases h2:y < x
  ·have hd:cmpI x y=1:=by simp[cmpI,h1,h2]
   rw[hd]
   clear hd
   go_enter Tryz.func112,Tryz.ntmps112
   go_wp2
   go_ret
   exact⟨rfl,rfl⟩
  ·have hd:cmpI x y=0:=by simp[cmpI,h1,h2]
   rw[hd]
   clear hd
   go_enter Tryz.func112,Tryz.ntmps112
   go_wp2
   go_ret
   exact⟨rfl,rfl⟩
theorem bytesLess_irrefl:∀ l:List UInt8,Op.bytesLess l l=false:=by
 intro l
 induction l with
 | nil=>rfl
 | cons a l ih=>simp[Op.bytesLess,ih]
theorem cmpStr_any (x y:ByteArray) (w:World):Calls Tryz.prog 111 #[.string x,.string y] w fun e w'=>e=.returned (.int .i64 (cmpS x y))∧w=w':=by
 have e1:(x.toList != x.toList)=false:=by simp
 have e2:(y.toList != y.toList)=false:=by simp
 cases h1:Op.bytesLess x.toList y.toList with
 | true =>
  have hd:cmpS x y = -1:=by simp[cmpS,h1]
  rw[hd]
  clear hd
  go_enter Tryz.func111,Tryz.ntmps111
  go_wp2
  go_ret
  exact⟨rfl,rfl⟩
 | false =>
  cases h2:(x.toList == y.toList) with
  | true =>
   have hd:cmpS x y=0:=by simp only[cmpS,h1,h2];rfl
   rw[hd]
   clear hd
   go_enter Tryz.func111,Tryz.ntmps111
   go_wp2
   go_ret
   exact⟨rfl,rfl⟩
  | false =>
   have hd:cmpS x y=1:=by simp only[cmpS,h1,h2];rfl
   rw[hd]
   clear hd
   go_enter Tryz.func111,Tryz.ntmps111
   go_wp2
   go_ret
   exact⟨rfl,rfl⟩
theorem cmpS_zero (x y:ByteArray):(cmpS x y == 0)=(x.toList == y.toList):=by
 unfold cmpS
 cases h:(x.toList == y.toList) with
 | true =>
  have e:x.toList=y.toList:=by simpa using h
  rw[e,bytesLess_irrefl]
  rfl
 | false=>cases Op.bytesLess x.toList y.toList<;>rfl
theorem cmpI_zero (x y:Int):(cmpI x y == 0)=(x == y):=by
 unfold cmpI
 by_cases h1:x < y
 ·rw[if_pos h1,beq_eq_false_iff_ne.2 (show x≠y by omega)];rfl
 ·by_cases h2:y < x
  ·rw[if_neg h1,if_pos h2,beq_eq_false_iff_ne.2 (show x≠y by omega)];rfl
  ·have:x=y:=by omega
   subst this
   simp
def Ts.cmpE:Ts→Ts→Int
 | .cons v n ts r,.cons v' n' ts' r' =>
  let c:=if v=v' then (if cmpS n n'=0 then (if cmpI ts.len ts'.len=0 then ts.cmpE ts' else cmpI ts.len ts'.len) else cmpS n n') else if v then -1 else 1
  if c=0 then r.cmpE r' else c
 | _,_=>0
def Ts.cmp (a b:Ts):Int:=if cmpI a.len b.len=0 then a.cmpE b else cmpI a.len b.len
def cmpTerm (v:Bool) (n:ByteArray) (ts:Ts) (v':Bool) (n':ByteArray) (ts':Ts):Int:=if v=v' then (if cmpS n n'=0 then ts.cmp ts' else cmpS n n') else if v then -1 else 1
def CmpTerm (ts:Ts):Prop:=∀ (v:Bool) (n:ByteArray) (sa:Value) (v':Bool) (n':ByteArray) (ts':Ts) (sb:Value) (w:World),TSl w ts sa→TSl w ts' sb→ts.size≤1000000→ts'.size≤1000000 →
 Calls Tryz.prog 119 #[.agg #[.bool v,.string n,sa],.agg #[.bool v',.string n',sb]] w fun e w'=>e=.returned (.int .i64 (cmpTerm v n ts v' n' ts'))∧Below w.heap.size w w'
end Go.Proofs.YtngdieldgnlogaaGreatDoor
namespace Go.Proofs.YtngdieldgnlogaaGreatDoor
open Go Go.RowKit
set_option maxRecDepth 100000
set_option linter.unusedVariables false
theorem cmpE_cons (v:Bool) (n:ByteArray) (ts r:Ts) (v':Bool) (n':ByteArray) (ts' r':Ts) :
  (Ts.cons v n ts r).cmpE (.cons v' n' ts' r')=if cmpTerm v n ts v' n' ts'=0 then r.cmpE r' else cmpTerm v n ts v' n' ts':=by
 rfl
def KTT (t t2:Ts) (s s2:Value) (w V:World):Prop:=Below w.heap.size w V∧TSl V t s∧TSl V t2 s2
theorem KTT.next {t t2:Ts} {s s2:Value} {w V V':World} (h:KTT t t2 s s2 w V) (hb:Below V.heap.size V V'):KTT t t2 s s2 w V':=⟨bS h.1 hb,TSl.below hb h.2.1,TSl.below hb h.2.2⟩
set_option maxHeartbeats 2000000 in
theorem cmpLT_any (a:Ts) (ih:∀ t:Ts,t.size < a.size→CmpTerm t) (b:Ts) (sa sb:Value) (w:World) (ha:TSl w a sa) (hb:TSl w b sb) (hs:a.size≤1000000) (hs':b.size≤1000000) :
    Calls Tryz.prog 118 #[sa,sb,.func (.func 119) #[] #[]] w fun e w'=>e=.returned (.int .i64 (a.cmp b))∧Below w.heap.size w w':=by
  obtain⟨p,c,ba,oa,rfl,hpa,hta⟩:=TSl.opened ha
  obtain⟨p',c',bb,ob,rfl,hpb,htb⟩:=TSl.opened hb
  have HL:=h_X (cmpInt_any (a.len:Int) (b.len:Int))
  by_cases hl:a.len=b.len
  rotate_left
  · have hne:cmpI a.len b.len≠0:=by
      intro h
      have:=cmpI_zero (a.len:Int) (b.len:Int)
      rw[h] at this
      simp at this
      omega
    have hr:a.cmp b=cmpI a.len b.len:=by rw[Ts.cmp,if_neg hne]
    have hne':(cmpI a.len b.len != 0)=true:=bne_iff_ne.2 hne
    rw[hr]
    clear hr hne
    generalize cmpI (a.len:Int) (b.len:Int)=q at HL hne' ⊢
    go_enter Tryz.func118,Tryz.ntmps118
    go_wp2_with (go_at_call 112;refine(HL.out _).mono ?_;rintro e w1 ⟨rfl,rfl⟩)
    go_ret
    exact⟨rfl,Below.refl _ _⟩
  have hz:cmpI a.len b.len=0:=by rw[hl];simp[cmpI]
  have hr:a.cmp b=a.cmpE b:=by rw[Ts.cmp,if_pos hz]
  rw[hz] at HL
  rw[hr]
  clear hr hz
  obtain⟨rr,hrr⟩:∃ rr,a.cmpE b=rr:=⟨_,rfl⟩
  rw[hrr]
  replace hrr:=h_X hrr
  replace hl:=h_X hl
  have hlen:=a.len_le
  go_enter Tryz.func118,Tryz.ntmps118
  go_wp2_with (go_at_call 112;refine(HL.out _).mono ?_;rintro e w1 ⟨rfl,rfl⟩)
  clear HL
  go_loopw [20] (fun i wr=>∃ (k:Nat) (x y:Ts),i=.int .i64 k∧k+x.len=a.len∧k+y.len=b.len∧x.size≤a.size∧y.size≤b.size∧TsAt w x ba (oa+k*3)∧TsAt w y bb (ob+k*3)∧x.cmpE y=rr∧Below w.heap.size w wr) (fun i _=>a.len - (intOf i).toNat)
  case atStart=>exact⟨0,a,b,rfl,by omega,by omega,Nat.le_refl _,Nat.le_refl _,by simpa using hta,by simpa using htb,hrr.out,Below.refl _ _⟩
  case round =>
    obtain⟨k,x,y,rfl,hkx,hky,hxs,hys,hax,hay,hsm,hbw⟩:=hrel
    replace hsm:=h_X hsm
    replace hkx:=h_X hkx
    replace hky:=h_X hky
    cases x with
    | nil =>
      have hk':k=a.len:=by have:=hkx.out;simp only[Ts.len] at this;omega
      have:rr=0:=by rw[←hsm.out];rfl
      subst this
      subst hk'
      clear hkx hky
      go_wp2_with fail
      go_ret
      exact⟨rfl,hbw⟩
    | cons v n t x' =>
      cases y with
      | nil=>exfalso;have:=hky.out;have:=hkx.out;have:=hl.out;simp only[Ts.len] at *;omega
      | cons v2 n2 t2 y' =>
        obtain⟨c0,c1,⟨s,c2,hs2⟩,hax'⟩:=hax
        obtain⟨d0,d1,⟨s',d2,hs2'⟩,hay'⟩:=hay
        have hlt:(k:Int) < (a.len:Int):=by have:=hkx.out;simp only[Ts.len] at this;omega
        have hlt2:(k:Int) < (b.len:Int):=by have:=hky.out;simp only[Ts.len] at this;omega
        rcases hpa with hpa | hpa
        · omega
        subst hpa
        rcases hpb with hpb | hpb
        · omega
        subst hpb
        simp only[Ts.size] at hxs hys
        have htz:t.size < a.size∧t.size≤1000000∧t2.size≤1000000:=by omega
        have hK:KTT t t2 s s' w wr:=⟨hbw,TSl.below hbw hs2,TSl.below hbw hs2'⟩
        obtain⟨ps,cs,rfl,-⟩:=hs2
        obtain⟨ps',cs',rfl,-⟩:=hs2'
        replace c0:=c_B hbw c0
        replace c1:=c_B hbw c1
        replace c2:=c_B hbw c2
        replace d0:=c_B hbw d0
        replace d1:=c_B hbw d1
        replace d2:=c_B hbw d2
        have hdef:=hsm.out
        rw[cmpE_cons] at hdef
        have ih':=ih t htz.1
        obtain⟨q,hq⟩:∃ q,cmpTerm v n t v2 n2 t2=q:=⟨_,rfl⟩
        have HC:=h_X (fun V (hV:V.cell? ⟨ba,oa+k*3,none⟩=some (.bool v)∧V.cell? ⟨ba,oa+k*3+1,none⟩=some (.string n)∧V.cell? ⟨ba,oa+k*3+2,none⟩=some (.slice ps t.len cs)∧V.cell? ⟨bb,ob+k*3,none⟩=some (.bool v2)∧V.cell? ⟨bb,ob+k*3+1,none⟩=some (.string n2)∧V.cell? ⟨bb,ob+k*3+2,none⟩=some (.slice ps' t2.len cs')∧KTT t t2 (.slice ps t.len cs) (.slice ps' t2.len cs') w V) =>
          (ih' v n _ v2 n2 t2 _ V hV.2.2.2.2.2.2.2.1 hV.2.2.2.2.2.2.2.2 htz.2.1 htz.2.2).mono (fun e w' (he:e=.returned (.int .i64 (cmpTerm v n t v2 n2 t2))∧Below V.heap.size V w') =>
            show e=.returned (.int .i64 q)∧(w'.cell? ⟨ba,oa+k*3,none⟩=some (.bool v)∧w'.cell? ⟨ba,oa+k*3+1,none⟩=some (.string n)∧w'.cell? ⟨ba,oa+k*3+2,none⟩=some (.slice ps t.len cs)∧w'.cell? ⟨bb,ob+k*3,none⟩=some (.bool v2)∧w'.cell? ⟨bb,ob+k*3+1,none⟩=some (.string n2)∧w'.cell? ⟨bb,ob+k*3+2,none⟩=some (.slice ps' t2.len cs')∧KTT t t2 (.slice ps t.len cs) (.slice ps' t2.len cs') w w') from
            ⟨by rw[he.1,hq],c_B he.2 hV.1,c_B he.2 hV.2.1,c_B he.2 hV.2.2.1,c_B he.2 hV.2.2.2.1,c_B he.2 hV.2.2.2.2.1,c_B he.2 hV.2.2.2.2.2.1,hV.2.2.2.2.2.2.next he.2⟩))
        rw[hq] at hdef
        replace hdef:=h_X hdef
        have hKd:KTT t t2 (.slice ps t.len cs) (.slice ps' t2.len cs') w wr.drew:=hK.next (bel_drew wr)
        clear ih ih' hsm hK hq ha hb
        go_wp2_with fail
        go_region_held3 (fun V=>V.cell? ⟨ba,oa+k*3,none⟩=some (.bool v)∧V.cell? ⟨ba,oa+k*3+1,none⟩=some (.string n)∧V.cell? ⟨ba,oa+k*3+2,none⟩=some (.slice ps t.len cs)∧V.cell? ⟨bb,ob+k*3,none⟩=some (.bool v2)∧V.cell? ⟨bb,ob+k*3+1,none⟩=some (.string n2)∧V.cell? ⟨bb,ob+k*3+2,none⟩=some (.slice ps' t2.len cs')∧KTT t t2 (.slice ps t.len cs) (.slice ps' t2.len cs') w V) (first | assumption | exact⟨c0,c1,c2,d0,d1,d2,hKd⟩)
          (first
            | (go_at_call 119;refine(HC.out _ (by assumption)).mono ?_;rintro e w' ⟨rfl,hSS⟩))
        have hbl:=hSS.2.2.2.2.2.2.1
        clear hSS
        by_cases hq0:q=0
        · subst hq0
          have hd2:=h_X (show x'.cmpE y'=rr by rw[←hdef.out,if_pos rfl])
          clear hdef c0 c1 c2 d0 d1 d2 hKd HC
          go_wp2_with fail
          go_roundw
          case rel =>
            refine⟨k+1,x',y',by go_num,by have:=hkx.out;simp only[Ts.len] at this;omega,by have:=hky.out;simp only[Ts.len] at this;omega,by omega,by omega,?_,?_,hd2.out,hbl⟩
            · rwa [show oa+(k+1)*3=oa+k*3+3 by omega]
            · rwa [show ob+(k+1)*3=ob+k*3+3 by omega]
          case measure=>simp[intOf];omega
        · have hq1:(q != 0)=true:=bne_iff_ne.2 hq0
          have:rr=q:=by rw[←hdef.out,if_neg hq0]
          subst this
          clear hdef c0 c1 c2 d0 d1 d2 hKd HC hrr hq0
          go_wp2_with fail
          go_ret
          exact⟨rfl,hbl⟩
set_option maxHeartbeats 2000000 in
theorem cmpTerm_any (ts:Ts):CmpTerm ts:=by
 intro v n sa v' n' ts' sb w ha hb hs hs'
 have hC:=h_X (cmpLT_any ts (fun t _=>cmpTerm_any t) ts')
 have hS:=h_X (cmpStr_any n n')
 obtain⟨p,c,hse,-⟩:=id ha
 subst hse
 obtain⟨p',c',hse,-⟩:=id hb
 subst hse
 have hbl:=bS (bel_laid w (.cells #[.bool v,.string n,.slice p ts.len c] 46)) (bel_laid (w.alloc (.cells #[.bool v,.string n,.slice p ts.len c] 46)) (.cells #[.bool v',.string n',.slice p' ts'.len c'] 46))
 have ha2:=h_X (TSl.below hbl ha)
 have hb2:=h_X (TSl.below hbl hb)
 clear ha hb
 by_cases hv:v=v'
 rotate_left
 ·have hv1:(v != v')=true:=bne_iff_ne.2 hv
  have hd:cmpTerm v n ts v' n' ts'=if v then -1 else 1:=by rw[cmpTerm,if_neg hv]
  rw[hd]
  cases v with
  | true =>
   simp only[if_true]
   obtain rfl:v'=false:=by cases v'<;>simp_all
   clear hd hv hv1
   go_enter Tryz.func119,Tryz.ntmps119
   go_wp2_with fail
   go_ret
   exact⟨rfl,hbl⟩
  | false =>
   simp only[Bool.false_eq_true,if_false]
   obtain rfl:v'=true:=by cases v'<;>simp_all
   clear hd hv hv1
   go_enter Tryz.func119,Tryz.ntmps119
   go_wp2_with fail
   go_ret
   exact⟨rfl,hbl⟩
 subst hv
 have hv1:(v != v)=false:=by simp
 by_cases hz:cmpS n n'=0
 rotate_left
 ·have hz1:(cmpS n n' != 0)=true:=bne_iff_ne.2 hz
  have hd:cmpTerm v n ts v n' ts'=cmpS n n':=by rw[cmpTerm,if_pos rfl,if_neg hz]
  rw[hd]
  clear hd hz
  generalize cmpS n n'=q at hS hz1 ⊢
  go_enter Tryz.func119,Tryz.ntmps119
  go_wp2_with (go_at_call 111;refine(hS.out _).mono ?_;rintro e w1 ⟨rfl,rfl⟩)
  go_ret
  exact⟨rfl,hbl⟩
 have hd:cmpTerm v n ts v n' ts'=ts.cmp ts':=by rw[cmpTerm,if_pos rfl,if_pos hz]
 rw[hd]
 rw[hz] at hS
 clear hd hz
 generalize ts.cmp ts'=q at hC ⊢
 go_enter Tryz.func119,Tryz.ntmps119
 go_wp2_with (first
  | (go_at_call 111;refine(hS.out _).mono ?_;rintro e w1 ⟨rfl,rfl⟩)
  | (go_at_call 118;refine(hC.out _ _ _ ha2.out hb2.out hs hs').mono ?_;rintro e w2 ⟨rfl,hb3⟩))
 go_ret
 exact⟨rfl,bS hbl hb3⟩
termination_by ts.size
end Go.Proofs.YtngdieldgnlogaaGreatDoor
namespace Go.Proofs.YtngdieldgnlogaaGreatDoor
open Go Go.RowKit
set_option maxRecDepth 100000
set_option linter.unusedVariables false
def Fs.cmpE:Fs→Fs→Int
 | .cons op n ts sub r,.cons op' n' ts' sub' r' =>
  let c:=if cmpI op op'=0 then (if cmpS n n'=0 then (if ts.cmp ts'=0 then (if cmpI sub.len sub'.len=0 then sub.cmpE sub' else cmpI sub.len sub'.len) else ts.cmp ts') else cmpS n n') else cmpI op op'
  if c=0 then r.cmpE r' else c
 | _,_=>0
def Fs.cmp (a b:Fs):Int:=if cmpI a.len b.len=0 then a.cmpE b else cmpI a.len b.len
def cmpForm (f g:FT):Int:=if cmpI f.op g.op=0 then (if cmpS f.n g.n=0 then (if f.ts.cmp g.ts=0 then f.sub.cmp g.sub else f.ts.cmp g.ts) else cmpS f.n g.n) else cmpI f.op g.op
theorem cmpE_consF (op:Int) (n:ByteArray) (ts:Ts) (sub r:Fs) (op':Int) (n':ByteArray) (ts':Ts) (sub' r':Fs) :
  (Fs.cons op n ts sub r).cmpE (.cons op' n' ts' sub' r')=if cmpForm ⟨op,n,ts,sub⟩ ⟨op',n',ts',sub'⟩=0 then r.cmpE r' else cmpForm ⟨op,n,ts,sub⟩ ⟨op',n',ts',sub'⟩:=rfl
def CmpForm (f:FT):Prop:=∀ (v:Value) (g:FT) (v':Value) (w:World),FVal w f v→FVal w g v'→f.size≤1000000→g.size≤1000000 →
 Calls Tryz.prog 93 #[v,v'] w fun e w'=>e=.returned (.int .i64 (cmpForm f g))∧Below w.heap.size w w'
def KFF (f g:FT) (v v':Value) (w V:World):Prop:=Below w.heap.size w V∧FVal V f v∧FVal V g v'
theorem KFF.next {f g:FT} {v v':Value} {w V V':World} (h:KFF f g v v' w V) (hb:Below V.heap.size V V'):KFF f g v v' w V':=⟨bS h.1 hb,FVal.below hb h.2.1,FVal.below hb h.2.2⟩
set_option maxHeartbeats 4000000 in
theorem cmpLF_any (a:Fs) (ih:∀ t:FT,t.size≤a.size→CmpForm t) (b:Fs) (sa sb:Value) (w:World) (ha:FSl w a sa) (hb:FSl w b sb) (hs:a.size≤1000000) (hs':b.size≤1000000) :
    Calls Tryz.prog 120 #[sa,sb,.func (.func 93) #[] #[]] w fun e w'=>e=.returned (.int .i64 (a.cmp b))∧Below w.heap.size w w':=by
  obtain⟨p,c,ba,oa,rfl,hpa,hta⟩:=FSl.opened ha
  obtain⟨p',c',bb,ob,rfl,hpb,htb⟩:=FSl.opened hb
  have HL:=h_X (cmpInt_any (a.len:Int) (b.len:Int))
  by_cases hl:a.len=b.len
  rotate_left
  · have hne:cmpI a.len b.len≠0:=by
      intro h
      have:=cmpI_zero (a.len:Int) (b.len:Int)
      rw[h] at this
      simp at this
      omega
    have hr:a.cmp b=cmpI a.len b.len:=by rw[Fs.cmp,if_neg hne]
    have hne':(cmpI a.len b.len != 0)=true:=bne_iff_ne.2 hne
    rw[hr]
    clear hr hne
    generalize cmpI (a.len:Int) (b.len:Int)=q at HL hne' ⊢
    go_enter Tryz.func120,Tryz.ntmps120
    go_wp2_with (go_at_call 112;refine(HL.out _).mono ?_;rintro e w1 ⟨rfl,rfl⟩)
    go_ret
    exact⟨rfl,Below.refl _ _⟩
  have hz:cmpI a.len b.len=0:=by rw[hl];simp[cmpI]
  have hr:a.cmp b=a.cmpE b:=by rw[Fs.cmp,if_pos hz]
  rw[hz] at HL
  rw[hr]
  clear hr hz
  obtain⟨rr,hrr⟩:∃ rr,a.cmpE b=rr:=⟨_,rfl⟩
  rw[hrr]
  replace hrr:=h_X hrr
  replace hl:=h_X hl
  have hlen:=a.len_le
  go_enter Tryz.func120,Tryz.ntmps120
  go_wp2_with (go_at_call 112;refine(HL.out _).mono ?_;rintro e w1 ⟨rfl,rfl⟩)
  clear HL
  go_loopw [20] (fun i wr=>∃ (k:Nat) (x y:Fs),i=.int .i64 k∧k+x.len=a.len∧k+y.len=b.len∧x.size≤a.size∧y.size≤b.size∧FsAt w x ba (oa+k*4)∧FsAt w y bb (ob+k*4)∧x.cmpE y=rr∧Below w.heap.size w wr) (fun i _=>a.len - (intOf i).toNat)
  case atStart=>exact⟨0,a,b,rfl,by omega,by omega,Nat.le_refl _,Nat.le_refl _,by simpa using hta,by simpa using htb,hrr.out,Below.refl _ _⟩
  case round =>
    obtain⟨k,x,y,rfl,hkx,hky,hxs,hys,hax,hay,hsm,hbw⟩:=hrel
    replace hsm:=h_X hsm
    replace hkx:=h_X hkx
    replace hky:=h_X hky
    cases x with
    | nil =>
      have hk':k=a.len:=by have:=hkx.out;simp only[Fs.len] at this;omega
      have:rr=0:=by rw[←hsm.out];rfl
      subst this
      subst hk'
      clear hkx hky
      go_wp2_with fail
      go_ret
      exact⟨rfl,hbw⟩
    | cons op n t u x' =>
      cases y with
      | nil=>exfalso;have:=hky.out;have:=hkx.out;have:=hl.out;simp only[Fs.len] at *;omega
      | cons op2 n2 t2 u2 y' =>
        obtain⟨c0,c1,⟨s,c2,hs2⟩,⟨r,c3,hr2⟩,hax'⟩:=hax
        obtain⟨d0,d1,⟨s',d2,hs2'⟩,⟨r',d3,hr2'⟩,hay'⟩:=hay
        have hlt:(k:Int) < (a.len:Int):=by have:=hkx.out;simp only[Fs.len] at this;omega
        have hlt2:(k:Int) < (b.len:Int):=by have:=hky.out;simp only[Fs.len] at this;omega
        rcases hpa with hpa | hpa
        · omega
        subst hpa
        rcases hpb with hpb | hpb
        · omega
        subst hpb
        simp only[Fs.size] at hxs hys
        have htz:(FT.mk op n t u).size≤a.size∧(FT.mk op n t u).size≤1000000∧(FT.mk op2 n2 t2 u2).size≤1000000:=by simp only[FT.size];omega
        have hK:KFF ⟨op,n,t,u⟩ ⟨op2,n2,t2,u2⟩ (.agg #[.int .u8 op,.string n,s,r]) (.agg #[.int .u8 op2,.string n2,s',r']) w wr :=
          ⟨hbw,FVal.below hbw ⟨s,r,rfl,hs2,hr2⟩,FVal.below hbw ⟨s',r',rfl,hs2',hr2'⟩⟩
        obtain⟨ps,cs,rfl,-⟩:=hs2
        obtain⟨ps',cs',rfl,-⟩:=hs2'
        obtain⟨pr,cr,rfl,-⟩:=hr2
        obtain⟨pr',cr',rfl,-⟩:=hr2'
        replace c0:=c_B hbw c0
        replace c1:=c_B hbw c1
        replace c2:=c_B hbw c2
        replace c3:=c_B hbw c3
        replace d0:=c_B hbw d0
        replace d1:=c_B hbw d1
        replace d2:=c_B hbw d2
        replace d3:=c_B hbw d3
        have hdef:=hsm.out
        rw[cmpE_consF] at hdef
        have ih':=ih ⟨op,n,t,u⟩ htz.1
        obtain⟨q,hq⟩:∃ q,cmpForm ⟨op,n,t,u⟩ ⟨op2,n2,t2,u2⟩=q:=⟨_,rfl⟩
        obtain⟨S,hS⟩:∃ S:World→Prop,S=(fun V=>V.cell? ⟨ba,oa+k*4,none⟩=some (.int .u8 op)∧V.cell? ⟨ba,oa+k*4+1,none⟩=some (.string n)∧V.cell? ⟨ba,oa+k*4+2,none⟩=some (.slice ps t.len cs)∧V.cell? ⟨ba,oa+k*4+3,none⟩=some (.slice pr u.len cr) ∧
          V.cell? ⟨bb,ob+k*4,none⟩=some (.int .u8 op2)∧V.cell? ⟨bb,ob+k*4+1,none⟩=some (.string n2)∧V.cell? ⟨bb,ob+k*4+2,none⟩=some (.slice ps' t2.len cs')∧V.cell? ⟨bb,ob+k*4+3,none⟩=some (.slice pr' u2.len cr') ∧
          KFF ⟨op,n,t,u⟩ ⟨op2,n2,t2,u2⟩ (.agg #[.int .u8 op,.string n,.slice ps t.len cs,.slice pr u.len cr]) (.agg #[.int .u8 op2,.string n2,.slice ps' t2.len cs',.slice pr' u2.len cr']) w V):=⟨_,rfl⟩
        have HC:=h_X (fun V (hV:S V)=>show Calls Tryz.prog 93 #[.agg #[.int .u8 op,.string n,.slice ps t.len cs,.slice pr u.len cr],.agg #[.int .u8 op2,.string n2,.slice ps' t2.len cs',.slice pr' u2.len cr']] V fun e w'=>e=.returned (.int .i64 q)∧S w' from by
          rw[hS] at hV ⊢
          exact(ih' _ _ _ V hV.2.2.2.2.2.2.2.2.2.1 hV.2.2.2.2.2.2.2.2.2.2 htz.2.1 htz.2.2).mono (fun e w' he =>
            ⟨by rw[he.1,hq],c_B he.2 hV.1,c_B he.2 hV.2.1,c_B he.2 hV.2.2.1,c_B he.2 hV.2.2.2.1,c_B he.2 hV.2.2.2.2.1,c_B he.2 hV.2.2.2.2.2.1,c_B he.2 hV.2.2.2.2.2.2.1,c_B he.2 hV.2.2.2.2.2.2.2.1,hV.2.2.2.2.2.2.2.2.next he.2⟩))
        subst hS
        rw[hq] at hdef
        replace hdef:=h_X hdef
        have hKd:=hK.next (bel_drew wr)
        clear ih ih' hsm hK hq ha hb
        go_wp2_with fail
        go_region_held3 (fun V=>V.cell? ⟨ba,oa+k*4,none⟩=some (.int .u8 op)∧V.cell? ⟨ba,oa+k*4+1,none⟩=some (.string n)∧V.cell? ⟨ba,oa+k*4+2,none⟩=some (.slice ps t.len cs)∧V.cell? ⟨ba,oa+k*4+3,none⟩=some (.slice pr u.len cr) ∧
          V.cell? ⟨bb,ob+k*4,none⟩=some (.int .u8 op2)∧V.cell? ⟨bb,ob+k*4+1,none⟩=some (.string n2)∧V.cell? ⟨bb,ob+k*4+2,none⟩=some (.slice ps' t2.len cs')∧V.cell? ⟨bb,ob+k*4+3,none⟩=some (.slice pr' u2.len cr') ∧
          KFF ⟨op,n,t,u⟩ ⟨op2,n2,t2,u2⟩ (.agg #[.int .u8 op,.string n,.slice ps t.len cs,.slice pr u.len cr]) (.agg #[.int .u8 op2,.string n2,.slice ps' t2.len cs',.slice pr' u2.len cr']) w V) (first | assumption | exact⟨c0,c1,c2,c3,d0,d1,d2,d3,hKd⟩)
          (first
            | (go_at_call 93;refine(HC.out _ (by assumption)).mono ?_;rintro e w' ⟨rfl,hSS⟩))
        have hbl:=hSS.2.2.2.2.2.2.2.2.1
        clear hSS
        by_cases hq0:q=0
        · subst hq0
          have hd2:=h_X (show x'.cmpE y'=rr by rw[←hdef.out,if_pos rfl])
          clear hdef c0 c1 c2 c3 d0 d1 d2 d3 hKd HC
          go_wp2_with fail
          go_roundw
          case rel =>
            refine⟨k+1,x',y',by go_num,by have:=hkx.out;simp only[Fs.len] at this;omega,by have:=hky.out;simp only[Fs.len] at this;omega,by omega,by omega,?_,?_,hd2.out,hbl⟩
            · rwa [show oa+(k+1)*4=oa+k*4+4 by omega]
            · rwa [show ob+(k+1)*4=ob+k*4+4 by omega]
          case measure=>simp[intOf];omega
        · have hq1:(q != 0)=true:=bne_iff_ne.2 hq0
          have:rr=q:=by rw[←hdef.out,if_neg hq0]
          subst this
          clear hdef c0 c1 c2 c3 d0 d1 d2 d3 hKd HC hrr hq0
          go_wp2_with fail
          go_ret
          exact⟨rfl,hbl⟩
end Go.Proofs.YtngdieldgnlogaaGreatDoor
namespace Go.Proofs.YtngdieldgnlogaaGreatDoor
open Go Go.RowKit
set_option maxRecDepth 100000
set_option linter.unusedVariables false
def F2 (f g:FT) (sa ss sb st:Value) (w:World) (x y:Nat) (V:World):Prop:=FS f sa ss w x V∧FS g sb st w y V
theorem F2.next {f g:FT} {sa ss sb st:Value} {w V V':World} {x y:Nat} (h:F2 f g sa ss sb st w x y V) (hb:Below V.heap.size V V'):F2 f g sa ss sb st w x y V':=⟨h.1.next hb,h.2.next hb⟩
set_option maxHeartbeats 4000000 in
theorem cmpForm_any (f:FT):CmpForm f:=by
 intro v g v' w hv hv' hs hs'
 have HT:=h_X (cmpLT_any f.ts (fun t _=>cmpTerm_any t) g.ts)
 have HF:=h_X (cmpLF_any f.sub (fun t _=>cmpForm_any t) g.sub)
 have HB:=h_X (cmpByte_any f.op g.op)
 have HS:=h_X (cmpStr_any f.n g.n)
 have z1:f.ts.size≤1000000∧f.sub.size≤1000000:=by simp only[FT.size] at hs;omega
 have z2:g.ts.size≤1000000∧g.sub.size≤1000000:=by simp only[FT.size] at hs';omega
 have hv0:=hv
 have hv0':=hv'
 obtain⟨sa,ss,rfl,ha,hss⟩:=hv
 obtain⟨pa,ca,rfl,-⟩:=id ha
 obtain⟨p,c,rfl,-⟩:=id hss
 obtain⟨sb,st,rfl,hb,hst⟩:=hv'
 obtain⟨pb,cb,rfl,-⟩:=id hb
 obtain⟨pt,ct,rfl,-⟩:=id hst
 have hbl1:=bel_laid w (.cells #[.int .u8 f.op,.string f.n,.slice pa f.ts.len ca,.slice p f.sub.len c] 25)
 have hS1:=(FS.start (t:=25) hv0).next (bel_laid _ (.cells #[.int .u8 g.op,.string g.n,.slice pb g.ts.len cb,.slice pt g.sub.len ct] 25))
 have hS2':=FS.start (t:=25) (FVal.below hbl1 hv0')
 have hS2:FS g (.slice pb g.ts.len cb) (.slice pt g.sub.len ct) w (w.heap.size+1) ((w.alloc (.cells #[.int .u8 f.op,.string f.n,.slice pa f.ts.len ca,.slice p f.sub.len c] 25)).alloc (.cells #[.int .u8 g.op,.string g.n,.slice pb g.ts.len cb,.slice pt g.sub.len ct] 25)):=by
  rw[World.size_alloc] at hS2'
  exact⟨hS2'.1,hS2'.2.1,hS2'.2.2.1,hS2'.2.2.2.1,bS hbl1 hS2'.2.2.2.2.1,hS2'.2.2.2.2.2⟩
 clear hS2' hbl1 ha hss hb hst hv0 hv0'
 have h2:F2 f g _ _ _ _ w w.heap.size (w.heap.size+1) _:=⟨hS1,hS2⟩
 clear hS1 hS2
 obtain⟨rr,hrr⟩:∃ rr,cmpForm f g=rr:=⟨_,rfl⟩
 rw[hrr]
 unfold cmpForm at hrr
 replace hrr:=h_X hrr
 by_cases q1:cmpI f.op g.op=0
 rotate_left
 ·have q1':(cmpI f.op g.op != 0)=true:=bne_iff_ne.2 q1
  have:rr=cmpI f.op g.op:=by rw[←hrr.out,if_neg q1]
  subst this
  clear hrr q1
  generalize cmpI f.op g.op=q at HB q1' ⊢
  have hfin:=h2.1.2.2.2.2.1
  clear h2
  go_enter Tryz.func93,Tryz.ntmps93
  go_wp2_with (go_at_call 117;refine(HB.out _).mono ?_;rintro e w1 ⟨rfl,rfl⟩)
  go_ret
  exact⟨rfl,hfin⟩
 rw[q1] at HB
 by_cases q2:cmpS f.n g.n=0
 rotate_left
 ·have q2':(cmpS f.n g.n != 0)=true:=bne_iff_ne.2 q2
  have:rr=cmpS f.n g.n:=by rw[←hrr.out,if_pos q1,if_neg q2]
  subst this
  clear hrr q1 q2
  generalize cmpS f.n g.n=q at HS q2' ⊢
  have hfin:=h2.1.2.2.2.2.1
  clear h2
  go_enter Tryz.func93,Tryz.ntmps93
  go_wp2_with (first
   | (go_at_call 117;refine(HB.out _).mono ?_;rintro e w1 ⟨rfl,rfl⟩)
   | (go_at_call 111;refine(HS.out _).mono ?_;rintro e w1 ⟨rfl,rfl⟩))
  go_ret
  exact⟨rfl,hfin⟩
 rw[q2] at HS
 replace hrr:=h_X (show (if f.ts.cmp g.ts=0 then f.sub.cmp g.sub else f.ts.cmp g.ts)=rr by rw[←hrr.out,if_pos q1,if_pos q2])
 clear q1 q2
 by_cases q3:f.ts.cmp g.ts=0
 rotate_left
 ·have q3':(f.ts.cmp g.ts != 0)=true:=bne_iff_ne.2 q3
  have:rr=f.ts.cmp g.ts:=by rw[←hrr.out,if_neg q3]
  subst this
  clear hrr q3
  generalize f.ts.cmp g.ts=q at HT q3' ⊢
  go_enter Tryz.func93,Tryz.ntmps93
  go_wp2_with (first
   | (go_at_call 117;refine(HB.out _).mono ?_;rintro e w1 ⟨rfl,rfl⟩)
   | (go_at_call 111;refine(HS.out _).mono ?_;rintro e w1 ⟨rfl,rfl⟩)
   | (go_at_call 118;refine(HT.out _ _ _ h2.1.2.2.2.2.2.1 h2.2.2.2.2.2.2.1 z1.1 z2.1).mono ?_;rintro e w2 ⟨rfl,hb3⟩))
  go_ret
  exact⟨rfl,(h2.next hb3).1.2.2.2.2.1⟩
 have hfr:f.sub.cmp g.sub=rr:=by rw[←hrr.out,if_pos q3]
 rw[q3] at HT
 rw[hfr] at HF
 clear q3 hfr hrr
 go_enter Tryz.func93,Tryz.ntmps93
 go_wp2_with (first
  | (go_at_call 117;refine(HB.out _).mono ?_;rintro e w1 ⟨rfl,rfl⟩)
  | (go_at_call 111;refine(HS.out _).mono ?_;rintro e w1 ⟨rfl,rfl⟩))
 refine(HT.out _ _ _ h2.1.2.2.2.2.2.1 h2.2.2.2.2.2.2.1 z1.1 z2.1).mono ?_
 rintro e w2 ⟨rfl,hb3⟩
 replace h2:=h2.next hb3
 clear hb3 HT HB HS
 generalize w.heap.size+1=y at h2 ⊢
 generalize w.heap.size=x at h2 ⊢
 have h2h:=h_X h2
 obtain⟨⟨-,-,-,b3,-⟩,⟨-,-,-,d3,-⟩⟩:=h2
 go_wp2_with fail
 refine(HF.out _ _ _ h2h.out.1.2.2.2.2.2.2 h2h.out.2.2.2.2.2.2.2 z1.2 z2.2).mono ?_
 rintro e w3 ⟨rfl,hb4⟩
 have hfin:=(h2h.out.next hb4).1.2.2.2.2.1
 clear hb4 HF h2h b3 d3
 go_wp2_with fail
 go_ret
 exact⟨rfl,hfin⟩
termination_by f.size
decreasing_by rename_i h;simp only[FT.size] at *;omega
theorem same_any (f:FT) (v:Value) (g:FT) (v':Value) (w:World) (hv:FVal w f v) (hv':FVal w g v') (hs:f.size≤1000000) (hs':g.size≤1000000) :
  Calls Tryz.prog 62 #[v,v'] w fun e w'=>e=.returned (.bool (cmpForm f g == 0))∧Below w.heap.size w w':=by
 have HC:=cmpForm_any f
 obtain⟨q,hq⟩:∃ q,cmpForm f g=q:=⟨_,rfl⟩
 rw[hq]
 obtain⟨sa,ss,rfl,ha,hss⟩:=id hv
 obtain⟨pa,ca,rfl,-⟩:=id ha
 obtain⟨p,c,rfl,-⟩:=id hss
 obtain⟨sb,st,rfl,hb,hst'⟩:=id hv'
 obtain⟨pb,cb,rfl,-⟩:=id hb
 obtain⟨pt,ct,rfl,-⟩:=id hst'
 have hbl:=bS (bel_laid w (.cells #[.int .u8 f.op,.string f.n,.slice pa f.ts.len ca,.slice p f.sub.len c] 25)) (bel_laid (w.alloc (.cells #[.int .u8 f.op,.string f.n,.slice pa f.ts.len ca,.slice p f.sub.len c] 25)) (.cells #[.int .u8 g.op,.string g.n,.slice pb g.ts.len cb,.slice pt g.sub.len ct] 25))
 have HC':=h_X (HC _ g _ _ (FVal.below hbl hv) (FVal.below hbl hv') hs hs')
 rw[hq] at HC'
 clear HC ha hss hb hst' hv hv' hq
 go_enter Tryz.func62,Tryz.ntmps62
 go_wp2_with fail
 refine HC'.out.mono ?_
 rintro e w2 ⟨rfl,hb3⟩
 have hfin:=bS hbl hb3
 clear hbl hb3 HC'
 go_wp2_with fail
 go_ret
 exact⟨rfl,hfin⟩
end Go.Proofs.YtngdieldgnlogaaGreatDoor
namespace Go.Proofs.YtngdieldgnlogaaGreatDoor
open Go Go.RowKit
set_option maxRecDepth 100000
set_option linter.unusedVariables false
theorem or2_any (x y:Int) (b:Nat) (w:World) (h0:w.cell? ⟨b,0,none⟩=some (.int .i64 x)) (h1:w.cell? ⟨b,1,none⟩=some (.int .i64 y)) :
  Calls Tryz.prog 110 #[.slice (some ⟨b,0,none⟩) 2 2] w fun e w'=>e=.returned (.int .i64 (if x=0 then y else x))∧w'=w:=by
 by_cases hx:x=0
 ·subst hx
  rw[if_pos rfl]
  by_cases hy:y=0
  ·subst hy
   go_enter Tryz.func110,Tryz.ntmps110
   go_wp2
   go_loopw [5,8] (fun v i wr=>wr=w∧(v=undef∧i=.int .i64 0∨v=.int .i64 0∧i=.int .i64 1∨v=.int .i64 0∧i=.int .i64 2)) (fun _ i _=>2 - (intOf i).toNat)
   case atStart=>exact⟨rfl,.inl ⟨rfl,rfl⟩⟩
   case round =>
    obtain⟨rfl,⟨rfl,rfl⟩ | ⟨rfl,rfl⟩ | ⟨rfl,rfl⟩⟩:=hrel
    ·go_wp2
     go_roundw
     case rel=>exact⟨trivial,.inr (.inl ⟨rfl,rfl⟩)⟩
     case measure=>simp[intOf]
    ·go_wp2
     go_roundw
     case rel=>exact⟨trivial,.inr (.inr ⟨rfl,rfl⟩)⟩
     case measure=>simp[intOf]
    ·go_wp2
     go_ret
     exact⟨rfl,rfl⟩
  ·have hy':(y != 0)=true:=bne_iff_ne.2 hy
   go_enter Tryz.func110,Tryz.ntmps110
   go_wp2
   go_loopw [5,8] (fun v i wr=>wr=w∧(v=undef∧i=.int .i64 0∨v=.int .i64 0∧i=.int .i64 1)) (fun _ i _=>2 - (intOf i).toNat)
   case atStart=>exact⟨rfl,.inl ⟨rfl,rfl⟩⟩
   case round =>
    obtain⟨rfl,⟨rfl,rfl⟩ | ⟨rfl,rfl⟩⟩:=hrel
    ·go_wp2
     go_roundw
     case rel=>exact⟨trivial,.inr ⟨rfl,rfl⟩⟩
     case measure=>simp[intOf]
    ·go_wp2
     go_ret
     exact⟨rfl,rfl⟩
 ·rw[if_neg hx]
  have hx':(x != 0)=true:=bne_iff_ne.2 hx
  go_enter Tryz.func110,Tryz.ntmps110
  go_wp2
  go_loopw [5,8] (fun v i wr=>wr=w∧v=undef∧i=.int .i64 0) (fun _ i _=>2 - (intOf i).toNat)
  case atStart=>exact⟨rfl,rfl,rfl⟩
  case round =>
   obtain⟨rfl,rfl,rfl⟩:=hrel
   go_wp2
   go_ret
   exact⟨rfl,rfl⟩
end Go.Proofs.YtngdieldgnlogaaGreatDoor
namespace Go.Proofs.YtngdieldgnlogaaGreatDoor
open Go Go.RowKit
set_option maxRecDepth 100000
set_option linter.unusedVariables false
def Fs.idx:Fs→FT→Nat→Int
 | .nil,_,_=>-1
 | .cons op n ts sub r,g,k=>if cmpForm ⟨op,n,ts,sub⟩ g=0 then (k:Int) else r.idx g (k+1)
def Fs.has:Fs→FT→Bool
 | .nil,_=>false
 | .cons op n ts sub r,g=>(cmpForm ⟨op,n,ts,sub⟩ g == 0) || r.has g
theorem Fs.idx_has:∀ (l:Fs) (g:FT) (k:Nat),decide (0≤l.idx g k)=l.has g
 | .nil,g,k=>by simp[Fs.idx,Fs.has]
 | .cons op n ts sub r,g,k=>by
  have ih:=Fs.idx_has r g (k+1)
  by_cases h:cmpForm ⟨op,n,ts,sub⟩ g=0
  ·have e:Fs.idx (.cons op n ts sub r) g k=(k:Int):=by rw[Fs.idx,if_pos h]
   have e':Fs.has (.cons op n ts sub r) g=true:=by rw[Fs.has,h];rfl
   rw[e'];simp[e]
  ·have e:Fs.idx (.cons op n ts sub r) g k=r.idx g (k+1):=by rw[Fs.idx,if_neg h]
   have e':Fs.has (.cons op n ts sub r) g=r.has g:=by rw[Fs.has,beq_eq_false_iff_ne.2 h];rfl
   rw[e',←ih];simp only[e]
def FBox (f:FT) (g:Nat) (V:World):Prop:=∃ sa ss,FS f sa ss V g V
theorem FBox.below {f:FT} {g:Nat} {V V':World} (hb:Below V.heap.size V V') (h:FBox f g V):FBox f g V':=by
 obtain⟨sa,ss,h⟩:=h
 have h':=h.next hb
 exact⟨sa,ss,h'.1,h'.2.1,h'.2.2.1,h'.2.2.2.1,Below.refl _ _,h'.2.2.2.2.2⟩
set_option maxHeartbeats 1000000 in
theorem same1_any (f g:FT) (v:Value) (b:Nat) (w:World) (hg:FBox g b w) (hv:FVal w f v) (hs:f.size≤1000000) (hs':g.size≤1000000) :
  Calls Tryz.prog 61 #[v,.pointer (some ⟨b,0,none⟩)] w fun e w'=>e=.returned (.bool (cmpForm f g == 0))∧Below w.heap.size w w':=by
 obtain⟨sa,ss,hg⟩:=hg
 obtain⟨sb,st,rfl,hb,hst⟩:=id hv
 obtain⟨pb,cb,rfl,-⟩:=id hb
 obtain⟨pt,ct,rfl,-⟩:=id hst
 clear hb hst
 have hk:=hg.next (bel_laid w (.cells #[.int .u8 f.op,.string f.n,.slice pb f.ts.len cb,.slice pt f.sub.len ct] 25))
 have hvk:=hk.val
 have hfk:=FVal.below (bel_laid w (.cells #[.int .u8 f.op,.string f.n,.slice pb f.ts.len cb,.slice pt f.sub.len ct] 25)) hv
 have hbl:=bel_laid w (.cells #[.int .u8 f.op,.string f.n,.slice pb f.ts.len cb,.slice pt f.sub.len ct] 25)
 have HC:=h_X (same_any f _ g _ _ hfk hvk hs hs')
 obtain⟨q,hq⟩:∃ q,(cmpForm f g == 0)=q:=⟨_,rfl⟩
 rw[hq] at HC ⊢
 clear hq hfk hvk hv hg
 obtain⟨k0,k1,k2,k3,hkk⟩:=hk
 obtain⟨pa,ca,rfl,-⟩:=id hkk.2.1
 obtain⟨p,c,rfl,-⟩:=id hkk.2.2
 clear hkk
 go_enter Tryz.func61,Tryz.ntmps61
 go_wp2_with fail
 refine HC.out.mono ?_
 rintro e w1 ⟨rfl,hb1⟩
 replace hb1:=bS hbl hb1
 clear HC
 go_wp2_with fail
 go_ret
 exact⟨rfl,hb1⟩
set_option maxHeartbeats 2000000 in
theorem index_any (l:Fs) (g:FT) (sl:Value) (b:Nat) (w:World) (hg:FBox g b w) (hl:FSl w l sl) (hs:l.size≤1000000) (hs':g.size≤1000000) :
  Calls Tryz.prog 102 #[sl,.func (.func 61) #[] #[.pointer (some ⟨b,0,none⟩)]] w fun e w'=>e=.returned (.int .i64 (l.idx g 0))∧Below w.heap.size w w':=by
 obtain⟨p,c,bs,os,rfl,hp,ht⟩:=FSl.opened hl
 clear hl
 have hlen:=l.len_le
 obtain⟨rr,hrr⟩:∃ rr,l.idx g 0=rr:=⟨_,rfl⟩
 rw[hrr]
 replace hrr:=h_X hrr
 go_enter Tryz.func102,Tryz.ntmps102
 go_wp2
 go_loopw [5,8] (fun _ i wr=>∃ (k:Nat) (r:Fs),i=.int .i64 k∧k+r.len=l.len∧r.size≤l.size∧FsAt wr r bs (os+k*4)∧FBox g b wr∧r.idx g k=rr∧Below w.heap.size w wr) (fun _ i _=>l.len - (intOf i).toNat)
 case atStart=>exact⟨0,l,rfl,by omega,Nat.le_refl _,by simpa using ht,hg,hrr.out,Below.refl _ _⟩
 case round =>
  obtain⟨k,r,rfl,hk,hrs,hat,hgb,hix,hbw⟩:=hrel
  replace hix:=h_X hix
  cases r with
  | nil =>
   have hk':k=l.len:=by simpa[Fs.len] using hk
   subst hk'
   have:rr = -1:=by rw[←hix.out];rfl
   subst this
   clear hix hrr
   go_wp2
   go_ret
   exact⟨rfl,hbw⟩
  | cons op n ts sub r' =>
   have hlt:(k:Int) < (l.len:Int):=by simp only[Fs.len] at hk;omega
   rcases hp with hp | hp
   ·omega
   subst hp
   have hv:∀ sa ss,wr.cell? ⟨bs,os+k*4+2,none⟩=some sa→wr.cell? ⟨bs,os+k*4+3,none⟩=some ss→True:=fun _ _ _ _=>trivial
   clear hv
   have hat0:=h_X hat
   obtain⟨c0,c1,⟨sa,c2,hsa⟩,⟨ss,c3,hss⟩,hat'⟩:=hat
   have hfv:FVal wr ⟨op,n,ts,sub⟩ (.agg #[.int .u8 op,.string n,sa,ss]):=⟨sa,ss,rfl,hsa,hss⟩
   have hfs:(⟨op,n,ts,sub⟩:FT).size≤1000000:=by simp only[FT.size];simp only[Fs.size] at hrs;omega
   have HC:=h_X (same1_any ⟨op,n,ts,sub⟩ g _ b wr hgb hfv hfs hs')
   have hata:=h_X hat'
   obtain⟨pa,ca,rfl,-⟩:=id hsa
   obtain⟨pp,cc,rfl,-⟩:=id hss
   clear hfv hfs hat' hsa hss
   by_cases hc:cmpForm ⟨op,n,ts,sub⟩ g=0
   ·have:rr=(k:Int):=by rw[←hix.out,Fs.idx,if_pos hc]
    subst this
    rw[show (cmpForm ⟨op,n,ts,sub⟩ g == 0)=true by rw[hc];rfl] at HC
    clear hix hrr hc
    go_wp2_with fail
    refine HC.out.mono ?_
    rintro e w1 ⟨rfl,hb1⟩
    have hfin:=bS hbw hb1
    clear HC
    go_wp2_with fail
    go_ret
    exact⟨rfl,hfin⟩
   ·have hix':=h_X (show r'.idx g (k+1)=rr by rw[←hix.out,Fs.idx,if_neg hc])
    rw[beq_eq_false_iff_ne.2 hc] at HC
    clear hix hc
    go_wp2_with fail
    refine HC.out.mono ?_
    rintro e w1 ⟨rfl,hb1⟩
    have hfin:=bS hbw hb1
    clear HC
    go_wp2_with fail
    go_roundw
    case rel=>exact⟨k+1,r',by go_num,by simp only[Fs.len] at hk;omega,by simp only[Fs.size] at hrs;omega,by (have:=FsAt.below hb1 hata.out;rwa [show os+(k+1)*4=os+k*4+4 by omega]),hgb.below hb1,hix'.out,hfin⟩
    case measure=>simp[intOf];omega
theorem contains_any (l:Fs) (g:FT) (sl:Value) (b:Nat) (w:World) (hg:FBox g b w) (hl:FSl w l sl) (hs:l.size≤1000000) (hs':g.size≤1000000) :
  Calls Tryz.prog 63 #[sl,.func (.func 61) #[] #[.pointer (some ⟨b,0,none⟩)]] w fun e w'=>e=.returned (.bool (l.has g))∧Below w.heap.size w w':=by
 have HI:=h_X (index_any l g sl b w hg hl hs hs')
 have hd:=Fs.idx_has l g 0
 obtain⟨p,c,bs,os,rfl,-⟩:=FSl.opened hl
 obtain⟨q,hq⟩:∃ q,l.idx g 0=q:=⟨_,rfl⟩
 rw[←hd,hq]
 rw[hq] at HI
 clear hd hq
 go_enter Tryz.func63,Tryz.ntmps63
 go_wp2_with fail
 refine HI.out.mono ?_
 rintro e w1 ⟨rfl,hb1⟩
 go_wp2_with fail
 go_ret
 exact⟨rfl,hb1⟩
end Go.Proofs.YtngdieldgnlogaaGreatDoor
namespace Go.Proofs.YtngdieldgnlogaaGreatDoor
open Go Go.RowKit
set_option maxRecDepth 100000
set_option linter.unusedVariables false
def symCmp (s:ByteArray) (x:Int) (t:ByteArray) (y:Int):Int:=if cmpS s t=0 then cmpI x y else cmpS s t
def SS (s:ByteArray) (x:Int) (t:ByteArray) (y:Int) (w:World) (g:Nat) (V:World):Prop :=
 V.cell? ⟨g,0,none⟩=some (.string s)∧V.cell? ⟨g,1,none⟩=some (.int .i64 x)∧V.cell? ⟨g+1,0,none⟩=some (.string t)∧V.cell? ⟨g+1,1,none⟩=some (.int .i64 y)∧Below w.heap.size w V
theorem SS.next {s t:ByteArray} {x y:Int} {w V V':World} {g:Nat} (h:SS s x t y w g V) (hb:Below V.heap.size V V'):SS s x t y w g V' :=
 ⟨c_B hb h.1,c_B hb h.2.1,c_B hb h.2.2.1,c_B hb h.2.2.2.1,bS h.2.2.2.2 hb⟩
set_option maxHeartbeats 1000000 in
theorem symCmp_any (s:ByteArray) (x:Int) (t:ByteArray) (y:Int) (w:World) :
    Calls Tryz.prog 109 #[.agg #[.string s,.int .i64 x],.agg #[.string t,.int .i64 y]] w fun e w'=>e=.returned (.int .i64 (symCmp s x t y))∧∃ m os',w'=Sort.grow (w.drewN m) os':=by
  have HS:=h_X (fun V=>cmpStr_any s t V)
  have HI:=h_X (fun V=>cmpInt_any x y V)
  have HO:=h_X (fun b V=>or2_any (cmpS s t) (cmpI x y) b V)
  have hst:SS s x t y w w.heap.size ((w.alloc (.cells #[.string s,.int .i64 x] 56)).alloc (.cells #[.string t,.int .i64 y] 56)):=by
    have h1:=bel_laid (w.alloc (.cells #[.string s,.int .i64 x] 56)) (.cells #[.string t,.int .i64 y] 56)
    have k1:=cell_new w #[.string s,.int .i64 x] 56
    have k2:=cell_new (w.alloc (.cells #[.string s,.int .i64 x] 56)) #[.string t,.int .i64 y] 56
    rw[World.size_alloc] at k2
    exact⟨c_B h1 (k1 0),c_B h1 (k1 1),k2 0,k2 1,bS (bel_laid w _) h1⟩
  unfold symCmp
  obtain⟨p,hp⟩:∃ p,cmpS s t=p:=⟨_,rfl⟩
  obtain⟨q,hq⟩:∃ q,cmpI x y=q:=⟨_,rfl⟩
  rw[hp,hq] at HO ⊢
  rw[hp] at HS
  rw[hq] at HI
  clear hp hq
  obtain⟨r,hr⟩:∃ r,(if p=0 then q else p)=r:=⟨_,rfl⟩
  rw[hr] at HO ⊢
  clear hr
  go_enter Tryz.func109,Tryz.ntmps109
  go_wp2_with fail
  obtain⟨W,hW⟩:∃ W,(w.alloc (.cells #[.string s,.int .i64 x] 56)).alloc (.cells #[.string t,.int .i64 y] 56)=W:=⟨_,rfl⟩
  rw[hW] at hst ⊢
  replace hW:=h_X hW
  generalize w.heap.size=g at hst ⊢
  have hs1:SS s x t y w g W.drew:=hst.next (bel_drew _)
  have hs2:SS s x t y w g (W.alloc (Obj.cells #[.int .i64 p,.int .i64 q] 3)).drew:=(hst.next (bel_laid _ _)).next (bel_drew _)
  have k3:(W.alloc (Obj.cells #[.int .i64 p,.int .i64 q] 3)).drew.cell? ⟨W.heap.size,0,none⟩=some (.int .i64 p):=by
    have:=cell_new W #[.int .i64 p,.int .i64 q] 3 0
    exact c_B (bel_drew _) this
  have k4:(W.alloc (Obj.cells #[.int .i64 p,.int .i64 q] 3)).drew.cell? ⟨W.heap.size,1,none⟩=some (.int .i64 q):=by
    have:=cell_new W #[.int .i64 p,.int .i64 q] 3 1
    exact c_B (bel_drew _) this
  clear hst
  go_region_held3 (fun V=>V.cell? ⟨g,0,none⟩=some (.string s)∧V.cell? ⟨g,1,none⟩=some (.int .i64 x)∧V.cell? ⟨g+1,0,none⟩=some (.string t)∧V.cell? ⟨g+1,1,none⟩=some (.int .i64 y)∧Below w.heap.size w V) (first | assumption | exact hs1 | exact hs2)
    (first
      | (go_at_call 111;with_reducible refine(HS.out _).mono ?_;rintro e w1 ⟨rfl,rfl⟩)
      | (go_at_call 112;with_reducible refine(HI.out _).mono ?_;rintro e w1 ⟨rfl,rfl⟩)
      | (go_at_call 110;with_reducible refine(HO.out _ _ (by assumption) (by assumption)).mono ?_;rintro e w1 ⟨rfl,rfl⟩))
  have hfin:∃ m os',(W.alloc (Obj.cells #[.int .i64 p,.int .i64 q] 3)).drew=Sort.grow (w.drewN m) os' :=
    ⟨1,_,by rw[←hW.out,Sort.alloc_eq_grow,Sort.alloc_eq_grow,Sort.alloc_eq_grow,Sort.grow_grow,Sort.grow_grow];rfl⟩
  clear hs1 hs2 k3 k4 HS HI HO
  go_wp2
  go_ret
  exact⟨rfl,hfin⟩
end Go.Proofs.YtngdieldgnlogaaGreatDoor
