/- Copies of terms. copies and copyTerm. Copies of formulas. Copy, find, At. find and At. -/
import Derived.Test.YtngdieldgnlogaaGreatDoorMH
namespace Go.Proofs.YtngdieldgnlogaaGreatDoor
open Go Go.RowKit
set_option maxRecDepth 100000
set_option linter.unusedVariables false
theorem info50:(Tryz.prog.info? 46).map (fun i=>(i.zero,i.size,i.bytes))=some (some (.agg #[.bool false,.string ⟨#[]⟩,.slice none 0 0]),3,48):=by kernel_rfl
theorem info27:(Tryz.prog.info? 25).map (fun i=>(i.zero,i.size,i.bytes))=some (some (.agg #[.int .u8 0,.string ⟨#[]⟩,.slice none 0 0,.slice none 0 0]),4,72):=by kernel_rfl
theorem make_terms (n:Nat) (hn:n≤1000000) (w:World):(Instr.makeSlice 22 (.int .i64 (n:Int)) (.int .i64 (n:Int))).run Tryz.prog w=.ok (.slice (some ⟨w.heap.size,0,none⟩) n n) (w.alloc (.cells (madeCells #[.bool false,.string ⟨#[]⟩,.slice none 0 0] (n*3)) 46)):=by
 obtain⟨i,hi,hzz⟩:=Option.map_eq_some_iff.1 info50
 simp only[Prod.mk.injEq] at hzz
 obtain⟨hz,hs,hb⟩:=hzz
 have hr:=run_make (P:=Tryz.prog) w 22 46 i _ Tryz.underlying22 hi hz .i64 .i64 n n (by omega) (Int.le_refl _) (by rw[hb];omega) (by omega)
 simp only[Int.toNat_natCast,hs] at hr
 exact hr
theorem make_forms (n:Nat) (hn:n≤1000000) (w:World):(Instr.makeSlice 23 (.int .i64 (n:Int)) (.int .i64 (n:Int))).run Tryz.prog w=.ok (.slice (some ⟨w.heap.size,0,none⟩) n n) (w.alloc (.cells (madeCells #[.int .u8 0,.string ⟨#[]⟩,.slice none 0 0,.slice none 0 0] (n*4)) 25)):=by
 obtain⟨i,hi,hzz⟩:=Option.map_eq_some_iff.1 info27
 simp only[Prod.mk.injEq] at hzz
 obtain⟨hz,hs,hb⟩:=hzz
 have hr:=run_make (P:=Tryz.prog) w 23 25 i _ Tryz.underlying23 hi hz .i64 .i64 n n (by omega) (Int.le_refl _) (by rw[hb];omega) (by omega)
 simp only[Int.toNat_natCast,hs] at hr
 exact hr
def TsAb (W:World) (lo:Nat):Ts→Nat→Nat→Prop
 | .nil,_,_=>True
 | .cons v n ts r,b,o=>W.cell? ⟨b,o,none⟩=some (.bool v)∧W.cell? ⟨b,o+1,none⟩=some (.string n)∧(∃ s,W.cell? ⟨b,o+2,none⟩=some s∧SlOf (fun b' o'=>lo≤b'∧TsAb W lo ts b' o') ts.len s)∧TsAb W lo r b (o+3)
abbrev TOwn (W:World) (lo:Nat) (ts:Ts) (s:Value):Prop:=SlOf (fun b' o'=>lo≤b'∧TsAb W lo ts b' o') ts.len s
theorem TsAb.at {W:World} {lo:Nat}:∀ {t:Ts} {b o:Nat},TsAb W lo t b o→TsAt W t b o
 | .nil,_,_,_=>trivial
 | .cons _ _ _ _,_,_,⟨h0,h1,⟨s,h2,hs⟩,hr⟩=>⟨h0,h1,⟨s,h2,hs.imp fun _ _ h=>TsAb.at h.2⟩,TsAb.at hr⟩
theorem TOwn.at {W:World} {lo:Nat} {t:Ts} {s:Value} (h:TOwn W lo t s):TSl W t s:=h.imp fun _ _ h=>TsAb.at h.2
theorem TsAb.less {W:World} {lo lo':Nat} (hl:lo'≤lo):∀ {t:Ts} {b o:Nat},TsAb W lo t b o→TsAb W lo' t b o
 | .nil,_,_,_=>trivial
 | .cons _ _ _ _,_,_,⟨h0,h1,⟨s,h2,hs⟩,hr⟩=>⟨h0,h1,⟨s,h2,hs.imp fun _ _ h=>⟨Nat.le_trans hl h.1,TsAb.less hl h.2⟩⟩,TsAb.less hl hr⟩
theorem TOwn.less {W:World} {lo lo':Nat} (hl:lo'≤lo) {t:Ts} {s:Value} (h:TOwn W lo t s):TOwn W lo' t s:=h.imp fun _ _ h=>⟨Nat.le_trans hl h.1,TsAb.less hl h.2⟩
theorem TsAb.keep {W W':World} {lo:Nat} (hlo:∀ b o v,lo≤b→W.cell? ⟨b,o,none⟩=some v→W'.cell? ⟨b,o,none⟩=some v) :
  ∀ {t:Ts} {b o:Nat},(∀ i v,i < o+t.len*3→W.cell? ⟨b,i,none⟩=some v→W'.cell? ⟨b,i,none⟩=some v)→TsAb W lo t b o→TsAb W' lo t b o
 | .nil,_,_,_,_=>trivial
 | .cons _ _ ts r,b,o,hb,⟨h0,h1,⟨s,h2,hs⟩,hr⟩=>by
  simp only[Ts.len] at hb
  exact⟨hb _ _ (by omega) h0,hb _ _ (by omega) h1,⟨s,hb _ _ (by omega) h2,hs.imp fun b' o' h=>⟨h.1,TsAb.keep hlo (fun i v _ hc=>hlo b' i v h.1 hc) h.2⟩⟩,TsAb.keep hlo (fun i v hi hc=>hb i v (by omega) hc) hr⟩
theorem TsAb.below {W W':World} {lo:Nat} (hb:Below W.heap.size W W') {t:Ts} {b o:Nat} (h:TsAb W lo t b o):TsAb W' lo t b o :=
 TsAb.keep (fun _ _ _ _ hc=>c_B hb hc) (fun _ _ _ hc=>c_B hb hc) h
theorem TOwn.below {W W':World} {lo:Nat} (hb:Below W.heap.size W W') {t:Ts} {s:Value} (h:TOwn W lo t s):TOwn W' lo t s:=h.imp fun _ _ h=>⟨h.1,TsAb.below hb h.2⟩
def Ts.app:Ts→Ts→Ts
 | .nil,r=>r
 | .cons v n ts q,r=>.cons v n ts (q.app r)
theorem Ts.len_app:∀ (q r:Ts),(q.app r).len=q.len+r.len
 | .nil,r=>by simp[Ts.app,Ts.len]
 | .cons _ _ _ q,r=>by simp[Ts.app,Ts.len,Ts.len_app q r];omega
theorem Ts.app_assoc:∀ (q r s:Ts),(q.app r).app s=q.app (r.app s)
 | .nil,_,_=>rfl
 | .cons _ _ _ q,r,s=>by simp[Ts.app,Ts.app_assoc q r s]
theorem Ts.app_nil:∀ q:Ts,q.app .nil=q
 | .nil=>rfl
 | .cons _ _ _ q=>by simp[Ts.app,Ts.app_nil q]
theorem TsAb.app {W:World} {lo:Nat}:∀ {q r:Ts} {b o:Nat},TsAb W lo q b o→TsAb W lo r b (o+q.len*3)→TsAb W lo (q.app r) b o
 | .nil,r,b,o,_,h=>by simpa[Ts.app,Ts.len] using h
 | .cons v n ts q,r,b,o,⟨h0,h1,h2,hr⟩,h=>⟨h0,h1,h2,TsAb.app hr (by simp only[Ts.len] at h;rwa [show o+3+q.len*3=o+(q.len+1)*3 by omega])⟩
def Free (W:World) (g m:Nat):Prop:=∀ j,j < m→(∃ u,W.cell? ⟨g,j,none⟩=some u)∧W.frozen? ⟨g,j,none⟩=false
theorem Free.below {W W':World} {g m:Nat} (hb:Below W.heap.size W W') (h:Free W g m):Free W' g m:=fun j hj=>by
 obtain⟨⟨u,hu⟩,hf⟩:=h j hj
 exact⟨⟨u,c_B hb hu⟩,(hb.frozen (p:=⟨g,j,none⟩) (lt_of_cell hu)).trans hf⟩
theorem Free.set {W:World} {g m:Nat} (h:Free W g m) (i:Nat) (v:Value):Free (W.setCell ⟨g,i,none⟩ v) g m:=fun j hj=>by
 obtain⟨⟨u,hu⟩,hf⟩:=h j hj
 refine⟨?_,by rw[World.frozen?_setCell];exact hf⟩
 by_cases e:i=j
 ·subst e;exact⟨v,World.cell?_setCell_same _ _ _ hu⟩
 ·exact⟨u,by rw[World.cell?_setCell_other _ _ _ _ (fun h=>e (by injection h))];exact hu⟩
theorem Free.made (W:World) (z:Array Value) (n:Nat) (t:TypeId):Free (W.alloc (.cells (madeCells z n) t)) W.heap.size n:=fun j hj=>by
 refine⟨?_,?_⟩
 ·rw[cell_new]
  exact⟨_,Array.getElem?_eq_getElem (by rw[size_madeCells];exact hj)⟩
 ·have h0:=World.frozen?_alloc_mark W (madeCells z n) t 0 0 j
  rw[h0];simp
theorem Free.lit (W:World) (cs:Array Value) (t:TypeId):Free (W.alloc (.cells cs t)) W.heap.size cs.size:=fun j hj=>by
 refine⟨?_,?_⟩
 ·rw[cell_new]
  exact⟨_,Array.getElem?_eq_getElem hj⟩
 ·have h0:=World.frozen?_alloc_mark W cs t 0 0 j
  rw[h0];simp
theorem TOwn.keep {W W':World} {lo:Nat} {t:Ts} {s:Value} (hlo:∀ b o v,lo≤b→W.cell? ⟨b,o,none⟩=some v→W'.cell? ⟨b,o,none⟩=some v) (h:TOwn W lo t s):TOwn W' lo t s :=
 h.imp fun b' o' h=>⟨h.1,TsAb.keep hlo (fun i v _ hc=>hlo _ _ _ h.1 hc) h.2⟩
theorem size_setCell (W:World) (a:Addr) (v:Value):(W.setCell a v).heap.size=W.heap.size:=by simp[World.setCell]
theorem set_off {W:World} {g i b j:Nat} {v:Value} (h:b≠g∨j≠i):(W.setCell ⟨g,i,none⟩ v).cell? ⟨b,j,none⟩=W.cell? ⟨b,j,none⟩ :=
 World.cell?_setCell_other _ _ _ _ (fun e=>by injection e with e1 e2 _;rcases h with h | h<;>omega)
theorem set_on {W:World} {g i:Nat} {v u:Value} (h:W.cell? ⟨g,i,none⟩=some u):(W.setCell ⟨g,i,none⟩ v).cell? ⟨g,i,none⟩=some v:=World.cell?_setCell_same _ _ _ h
theorem TsAb.push {W:World} {g m:Nat} {q:Ts} {v:Bool} {n:ByteArray} {t:Ts} {s:Value} (hown:TsAb W (g+1) q g 0) (h5:TOwn W (g+1) t s) (hf:Free W g m) (hm:q.len*3+2 < m) :
  TsAb (((W.setCell ⟨g,q.len*3,none⟩ (.bool v)).setCell ⟨g,q.len*3+1,none⟩ (.string n)).setCell ⟨g,q.len*3+2,none⟩ s) (g+1) (q.app (.cons v n t .nil)) g 0:=by
 obtain⟨⟨u0,d0⟩,-⟩:=hf (q.len*3) (by omega)
 obtain⟨⟨u1,d1⟩,-⟩:=hf (q.len*3+1) (by omega)
 obtain⟨⟨u2,d2⟩,-⟩:=hf (q.len*3+2) (by omega)
 have hfar:∀ b o v',g+1≤b→W.cell? ⟨b,o,none⟩=some v'→(((W.setCell ⟨g,q.len*3,none⟩ (.bool v)).setCell ⟨g,q.len*3+1,none⟩ (.string n)).setCell ⟨g,q.len*3+2,none⟩ s).cell? ⟨b,o,none⟩=some v':=fun b o v' hb hc=>by
  rw[set_off (.inl (by omega)),set_off (.inl (by omega)),set_off (.inl (by omega))];exact hc
 refine TsAb.app (TsAb.keep hfar (fun i v' hi hc=>?_) hown) ⟨?_,?_,⟨s,?_,h5.imp fun b' o' h=>⟨h.1,TsAb.keep hfar (fun i v' _ hc=>hfar _ _ _ h.1 hc) h.2⟩⟩,trivial⟩
 ·rw[set_off (.inr (by omega)),set_off (.inr (by omega)),set_off (.inr (by omega))];exact hc
 ·rw[Nat.zero_add,set_off (.inr (by omega)),set_off (.inr (by omega))];exact set_on d0
 ·rw[Nat.zero_add,set_off (.inr (by omega))];exact set_on (by rw[set_off (.inr (by omega))];exact d1)
 ·rw[Nat.zero_add];exact set_on (by rw[set_off (.inr (by omega)),set_off (.inr (by omega))];exact d2)
end Go.Proofs.YtngdieldgnlogaaGreatDoor
namespace Go.Proofs.YtngdieldgnlogaaGreatDoor
open Go Go.RowKit
set_option maxRecDepth 100000
set_option linter.unusedVariables false
def CopyTerm (ts:Ts):Prop:=∀ (v:Bool) (n:ByteArray) (sa:Value) (w:World),TSl w ts sa→ts.size≤1000000 →
 Calls Tryz.prog 57 #[.agg #[.bool v,.string n,sa]] w fun e w'=>∃ s',e=.returned (.agg #[.bool v,.string n,s'])∧TOwn w' w.heap.size ts s'∧Below w.heap.size w w'
set_option maxHeartbeats 4000000 in
theorem copiesT_any (ts:Ts) (ih:∀ t:Ts,t.size < ts.size→CopyTerm t) (sa:Value) (w:World) (hv:TSl w ts sa) (hs:ts.size≤1000000) :
  Calls Tryz.prog 56 #[sa,.func (.func 57) #[] #[]] w fun e w'=>∃ s',e=.returned s'∧TOwn w' w.heap.size ts s'∧Below w.heap.size w w':=by
 obtain⟨p,c,b,o,rfl,hp,ht⟩:=TSl.opened hv
 have hlen:=ts.len_le
 by_cases hz:ts.len=0
 ·have hz':((ts.len:Int) == 0)=true:=by rw[beq_iff_eq];omega
  go_enter Tryz.func56,Tryz.ntmps56
  go_wp2
  go_ret
  exact⟨.slice none 0 0,rfl,⟨none,0,by rw[hz],.inl hz⟩,Below.refl _ _⟩
 have hz':((ts.len:Int) == 0)=false:=beq_eq_false_iff_ne.2 (by omega)
 have hmk:=make_terms ts.len (by omega)
 have hp':p=some ⟨b,o,none⟩:=hp.resolve_left hz
 subst hp'
 clear hp
 go_enter Tryz.func56,Tryz.ntmps56
 go_wp2
 have hfr:=Free.made w #[.bool false,.string ⟨#[]⟩,.slice none 0 0] (ts.len*3) 46
 have hbl:=bel_laid w (.cells (madeCells #[.bool false,.string ⟨#[]⟩,.slice none 0 0] (ts.len*3)) 46)
 have hgs:w.heap.size < (w.alloc (.cells (madeCells #[.bool false,.string ⟨#[]⟩,.slice none 0 0] (ts.len*3)) 46)).heap.size:=by simp
 generalize w.alloc (.cells (madeCells #[.bool false,.string ⟨#[]⟩,.slice none 0 0] (ts.len*3)) 46)=W1 at hfr hbl hgs ⊢
 obtain⟨g,hg⟩:∃ g,w.heap.size=g:=⟨_,rfl⟩
 rw[hg] at hfr hgs ⊢
 clear hmk
 go_loopw [16] (fun i wr=>∃ (k:Nat) (q r:Ts),i=.int .i64 k∧q.len=k∧q.app r=ts∧r.size≤ts.size∧TsAt w r b (o+k*3)∧TsAb wr (g+1) q g 0∧Free wr g (ts.len*3)∧g < wr.heap.size∧Below w.heap.size w wr) (fun i _=>ts.len - (intOf i).toNat)
 case atStart=>exact⟨0,.nil,ts,rfl,rfl,rfl,Nat.le_refl _,by simpa using ht,trivial,hfr,hgs,hbl⟩
 case round =>
  obtain⟨k,q,r,rfl,hq,hqr,hrs,hat,hown,hfree,hgw,hbw⟩:=hrel
  have hll:=Ts.len_app q r
  rw[hqr] at hll
  replace hll:=h_X hll
  replace hqr:=h_X hqr
  cases r with
  | nil =>
   have hk':k=ts.len:=by have:=hll.out;simp only[Ts.len] at this;omega
   have hqt:q=ts:=by have:=hqr.out;rwa [Ts.app_nil] at this
   clear hll hqr hq
   subst hqt
   subst hk'
   clear hz' ih hv
   go_wp2_with fail
   go_ret
   exact⟨_,rfl,⟨_,_,rfl,.inr ⟨g,0,rfl,by omega,TsAb.less (by omega) hown⟩⟩,hbw⟩
  | cons v n t2 r' =>
   obtain⟨c0,c1,⟨s,c2,hs2⟩,hat'⟩:=hat
   replace c0:=c_B hbw c0
   replace c1:=c_B hbw c1
   replace c2:=c_B hbw c2
   have hs3:=h_X (TSl.below hbw hs2)
   obtain⟨ps,cs,rfl,-⟩:=hs2
   have hlt:(k:Int) < (ts.len:Int):=by have:=hll.out;simp only[Ts.len] at this;omega
   simp only[Ts.size] at hrs
   have hsz:t2.size < ts.size:=by omega
   have ih':=h_X (ih t2 hsz)
   clear ih hz'
   go_wp2_with fail
   refine(ih'.out v n (.slice ps t2.len cs) _ (TSl.below (bel_laid _ _) hs3.out) (by omega)).mono ?_
   rintro e w5 ⟨s',rfl,hown5,hb5⟩
   have hb6:=bS (bel_laid wr _) hb5
   rw[World.size_alloc] at hown5
   replace hfree:=hfree.below hb6
   replace hown:=TsAb.below hb6 hown
   replace hown5:TOwn w5 (g+1) t2 s':=TOwn.less (by omega) hown5
   have hbw5:=bS hbw hb6
   have hgw5:g < w5.heap.size:=Nat.lt_of_lt_of_le hgw hb6.size
   clear hb5 hb6 hs3 ih'
   obtain⟨ps',cs',hse,-⟩:=id hown5
   subst hse
   obtain⟨⟨u0,d0⟩,f0⟩:=hfree (k*3) (by omega)
   obtain⟨⟨u1,d1⟩,f1⟩:=hfree (k*3+1) (by omega)
   obtain⟨⟨u2,d2⟩,f2⟩:=hfree (k*3+2) (by omega)
   have hfreeh:=h_X hfree
   have hownh:=h_X hown
   have hown5h:=h_X hown5
   clear hfree hown hown5 c0 c1 c2
   go_wp2_with fail
   subst hq
   refine⟨⟨q.len+1,q.app (.cons v n t2 .nil),r',by go_num,by rw[Ts.len_app];rfl,by rw[Ts.app_assoc];exact hqr.out,by omega,by rwa [show o+(q.len+1)*3=o+q.len*3+3 by omega],TsAb.push hownh.out hown5h.out hfreeh.out (by omega),((hfreeh.out.set _ _).set _ _).set _ _,by rw[size_setCell,size_setCell,size_setCell];exact hgw5,((hbw5.setCell (p:=⟨g,_,none⟩) (by simp;omega) _).setCell (p:=⟨g,_,none⟩) (by simp;omega) _).setCell (p:=⟨g,_,none⟩) (by simp;omega) _⟩,?_⟩
   simp[intOf]
   omega
theorem copyTerm_any (ts:Ts):CopyTerm ts:=by
 intro v n sa w hv hs
 have hc:=h_X (copiesT_any ts (fun t _=>copyTerm_any t))
 obtain⟨p,c,hse,-⟩:=id hv
 subst hse
 go_enter Tryz.func57,Tryz.ntmps57
 go_wp2_with fail
 have hF1:=(Free.lit w #[.bool v,.string n,.slice p ts.len c] 46).below (bel_laid (w.alloc (.cells #[.bool v,.string n,.slice p ts.len c] 46)) (.cells #[.bool false,.string ⟨#[]⟩,.slice none 0 0] 46))
 have hF2:=Free.lit (w.alloc (.cells #[.bool v,.string n,.slice p ts.len c] 46)) #[.bool false,.string ⟨#[]⟩,.slice none 0 0] 46
 have hb2:=bS (bel_laid w (.cells #[.bool v,.string n,.slice p ts.len c] 46)) (bel_laid (w.alloc (.cells #[.bool v,.string n,.slice p ts.len c] 46)) (.cells #[.bool false,.string ⟨#[]⟩,.slice none 0 0] 46))
 have k0:=c_B (bel_laid (w.alloc (.cells #[.bool v,.string n,.slice p ts.len c] 46)) (.cells #[.bool false,.string ⟨#[]⟩,.slice none 0 0] 46)) (show (w.alloc (.cells #[.bool v,.string n,.slice p ts.len c] 46)).cell? ⟨w.heap.size,0,none⟩=some (.bool v) by rw[cell_new];rfl)
 have k1:=c_B (bel_laid (w.alloc (.cells #[.bool v,.string n,.slice p ts.len c] 46)) (.cells #[.bool false,.string ⟨#[]⟩,.slice none 0 0] 46)) (show (w.alloc (.cells #[.bool v,.string n,.slice p ts.len c] 46)).cell? ⟨w.heap.size,1,none⟩=some (.string n) by rw[cell_new];rfl)
 have hgs:((w.alloc (.cells #[.bool v,.string n,.slice p ts.len c] 46)).alloc (.cells #[.bool false,.string ⟨#[]⟩,.slice none 0 0] 46)).heap.size=w.heap.size+2:=by simp
 rw[World.size_alloc] at hF2
 generalize (w.alloc (.cells #[.bool v,.string n,.slice p ts.len c] 46)).alloc (.cells #[.bool false,.string ⟨#[]⟩,.slice none 0 0] 46)=W2 at hF1 hF2 hb2 k0 k1 hgs ⊢
 refine(hc.out _ W2 (TSl.below hb2 hv) hs).mono ?_
 rintro e W3 ⟨s',rfl,hown,hb3⟩
 rw[hgs] at hown
 replace hF1:=hF1.below hb3
 replace hF2:=hF2.below hb3
 replace k0:=c_B hb3 k0
 replace k1:=c_B hb3 k1
 have hbb:=bS hb2 hb3
 have hg3:w.heap.size+2≤W3.heap.size:=by have:=hb3.size;omega
 clear hb2 hb3 hc hgs hv
 obtain⟨p',c',hse,-⟩:=id hown
 subst hse
 obtain⟨g,hg⟩:∃ g,w.heap.size=g:=⟨_,rfl⟩
 rw[hg] at hF1 hF2 k0 k1 hg3 hown ⊢
 obtain⟨⟨u2,d2⟩,f2⟩:=hF1 2 (by simp)
 obtain⟨⟨x0,y0⟩,z0⟩:=hF2 0 (by simp)
 obtain⟨⟨x1,y1⟩,z1⟩:=hF2 1 (by simp)
 obtain⟨⟨x2,y2⟩,z2⟩:=hF2 2 (by simp)
 clear hF1 hF2
 go_wp2_with fail
 obtain⟨W4,hW4⟩:∃ W4,((((W3.setCell ⟨g,2,none⟩ (.slice p' ts.len c')).setCell ⟨g+1,0,none⟩ (.bool v)).setCell ⟨g+1,1,none⟩ (.string n)).setCell ⟨g+1,2,none⟩ (.slice p' ts.len c'))=W4:=⟨_,rfl⟩
 have e0:W4.cell? ⟨g+1,0,none⟩=some (.bool v):=by
  rw[←hW4,set_off (.inr (by omega)),set_off (.inr (by omega))];exact set_on (by rw[set_off (.inl (by omega))];exact y0)
 have e1:W4.cell? ⟨g+1,1,none⟩=some (.string n):=by
  rw[←hW4,set_off (.inr (by omega))];exact set_on (by rw[set_off (.inr (by omega)),set_off (.inl (by omega))];exact y1)
 have e2:W4.cell? ⟨g+1,2,none⟩=some (.slice p' ts.len c'):=by
  rw[←hW4];exact set_on (by rw[set_off (.inr (by omega)),set_off (.inr (by omega)),set_off (.inl (by omega))];exact y2)
 have hfar:∀ b o v',g+2≤b→W3.cell? ⟨b,o,none⟩=some v'→W4.cell? ⟨b,o,none⟩=some v':=fun b o v' hb hc=>by
  rw[←hW4,set_off (.inl (by omega)),set_off (.inl (by omega)),set_off (.inl (by omega)),set_off (.inl (by omega))];exact hc
 have hb4:Below w.heap.size w W4:=by
  rw[←hW4]
  exact(((hbb.setCell (p:=⟨g,_,none⟩) (by simp;omega) _).setCell (p:=⟨g+1,_,none⟩) (by simp;omega) _).setCell (p:=⟨g+1,_,none⟩) (by simp;omega) _).setCell (p:=⟨g+1,_,none⟩) (by simp;omega) _
 rw[hW4]
 refine bodyPost_ret (v:=.agg #[.bool v,.string n,.slice p' ts.len c']) ?_ rfl ⟨_,rfl,TOwn.less (by omega) (TOwn.keep hfar hown),hb4⟩
 simp[results,Tryz.results57,go_sem,e0,e1,e2]
termination_by ts.size
end Go.Proofs.YtngdieldgnlogaaGreatDoor
namespace Go.Proofs.YtngdieldgnlogaaGreatDoor
open Go Go.RowKit
set_option maxRecDepth 100000
set_option linter.unusedVariables false
def FsAb (W:World) (lo:Nat):Fs→Nat→Nat→Prop
 | .nil,_,_=>True
 | .cons op n ts sub r,b,o=>W.cell? ⟨b,o,none⟩=some (.int .u8 op)∧W.cell? ⟨b,o+1,none⟩=some (.string n)∧(∃ s,W.cell? ⟨b,o+2,none⟩=some s∧TOwn W lo ts s) ∧
  (∃ s,W.cell? ⟨b,o+3,none⟩=some s∧SlOf (fun b' o'=>lo≤b'∧FsAb W lo sub b' o') sub.len s)∧FsAb W lo r b (o+4)
abbrev FOwn (W:World) (lo:Nat) (ts:Fs) (s:Value):Prop:=SlOf (fun b' o'=>lo≤b'∧FsAb W lo ts b' o') ts.len s
theorem FsAb.at {W:World} {lo:Nat}:∀ {t:Fs} {b o:Nat},FsAb W lo t b o→FsAt W t b o
 | .nil,_,_,_=>trivial
 | .cons _ _ _ _ _,_,_,⟨h0,h1,⟨s,h2,hs⟩,⟨s',h3,hs'⟩,hr⟩=>⟨h0,h1,⟨s,h2,TOwn.at hs⟩,⟨s',h3,hs'.imp fun _ _ h=>FsAb.at h.2⟩,FsAb.at hr⟩
theorem FOwn.at {W:World} {lo:Nat} {t:Fs} {s:Value} (h:FOwn W lo t s):FSl W t s:=h.imp fun _ _ h=>FsAb.at h.2
theorem FsAb.less {W:World} {lo lo':Nat} (hl:lo'≤lo):∀ {t:Fs} {b o:Nat},FsAb W lo t b o→FsAb W lo' t b o
 | .nil,_,_,_=>trivial
 | .cons _ _ _ _ _,_,_,⟨h0,h1,⟨s,h2,hs⟩,⟨s',h3,hs'⟩,hr⟩=>⟨h0,h1,⟨s,h2,TOwn.less hl hs⟩,⟨s',h3,hs'.imp fun _ _ h=>⟨Nat.le_trans hl h.1,FsAb.less hl h.2⟩⟩,FsAb.less hl hr⟩
theorem FOwn.less {W:World} {lo lo':Nat} (hl:lo'≤lo) {t:Fs} {s:Value} (h:FOwn W lo t s):FOwn W lo' t s:=h.imp fun _ _ h=>⟨Nat.le_trans hl h.1,FsAb.less hl h.2⟩
theorem FsAb.keep {W W':World} {lo:Nat} (hlo:∀ b o v,lo≤b→W.cell? ⟨b,o,none⟩=some v→W'.cell? ⟨b,o,none⟩=some v) :
  ∀ {t:Fs} {b o:Nat},(∀ i v,i < o+t.len*4→W.cell? ⟨b,i,none⟩=some v→W'.cell? ⟨b,i,none⟩=some v)→FsAb W lo t b o→FsAb W' lo t b o
 | .nil,_,_,_,_=>trivial
 | .cons _ _ ts sub r,b,o,hb,⟨h0,h1,⟨s,h2,hs⟩,⟨s',h3,hs'⟩,hr⟩=>by
  simp only[Fs.len] at hb
  exact⟨hb _ _ (by omega) h0,hb _ _ (by omega) h1,⟨s,hb _ _ (by omega) h2,TOwn.keep hlo hs⟩,⟨s',hb _ _ (by omega) h3,hs'.imp fun b' o' h=>⟨h.1,FsAb.keep hlo (fun i v _ hc=>hlo b' i v h.1 hc) h.2⟩⟩,FsAb.keep hlo (fun i v hi hc=>hb i v (by omega) hc) hr⟩
theorem FOwn.keep {W W':World} {lo:Nat} {t:Fs} {s:Value} (hlo:∀ b o v,lo≤b→W.cell? ⟨b,o,none⟩=some v→W'.cell? ⟨b,o,none⟩=some v) (h:FOwn W lo t s):FOwn W' lo t s :=
 h.imp fun b' o' h=>⟨h.1,FsAb.keep hlo (fun i v _ hc=>hlo _ _ _ h.1 hc) h.2⟩
theorem FsAb.below {W W':World} {lo:Nat} (hb:Below W.heap.size W W') {t:Fs} {b o:Nat} (h:FsAb W lo t b o):FsAb W' lo t b o :=
 FsAb.keep (fun _ _ _ _ hc=>c_B hb hc) (fun _ _ _ hc=>c_B hb hc) h
theorem FOwn.below {W W':World} {lo:Nat} (hb:Below W.heap.size W W') {t:Fs} {s:Value} (h:FOwn W lo t s):FOwn W' lo t s:=h.imp fun _ _ h=>⟨h.1,FsAb.below hb h.2⟩
def Fs.app:Fs→Fs→Fs
 | .nil,r=>r
 | .cons op n ts sub q,r=>.cons op n ts sub (q.app r)
theorem Fs.len_app:∀ (q r:Fs),(q.app r).len=q.len+r.len
 | .nil,r=>by simp[Fs.app,Fs.len]
 | .cons _ _ _ _ q,r=>by simp[Fs.app,Fs.len,Fs.len_app q r];omega
theorem Fs.app_assoc:∀ (q r s:Fs),(q.app r).app s=q.app (r.app s)
 | .nil,_,_=>rfl
 | .cons _ _ _ _ q,r,s=>by simp[Fs.app,Fs.app_assoc q r s]
theorem Fs.app_nil:∀ q:Fs,q.app .nil=q
 | .nil=>rfl
 | .cons _ _ _ _ q=>by simp[Fs.app,Fs.app_nil q]
theorem FsAb.app {W:World} {lo:Nat}:∀ {q r:Fs} {b o:Nat},FsAb W lo q b o→FsAb W lo r b (o+q.len*4)→FsAb W lo (q.app r) b o
 | .nil,r,b,o,_,h=>by simpa[Fs.app,Fs.len] using h
 | .cons op n ts sub q,r,b,o,⟨h0,h1,h2,h3,hr⟩,h=>⟨h0,h1,h2,h3,FsAb.app hr (by simp only[Fs.len] at h;rwa [show o+4+q.len*4=o+(q.len+1)*4 by omega])⟩
theorem FsAb.push {W:World} {g m:Nat} {q:Fs} {op:Int} {n:ByteArray} {t:Ts} {sub:Fs} {s s':Value} (hown:FsAb W (g+1) q g 0) (h5:TOwn W (g+1) t s) (h6:FOwn W (g+1) sub s') (hf:Free W g m) (hm:q.len*4+3 < m) :
  FsAb ((((W.setCell ⟨g,q.len*4,none⟩ (.int .u8 op)).setCell ⟨g,q.len*4+1,none⟩ (.string n)).setCell ⟨g,q.len*4+2,none⟩ s).setCell ⟨g,q.len*4+3,none⟩ s') (g+1) (q.app (.cons op n t sub .nil)) g 0:=by
 obtain⟨⟨u0,d0⟩,-⟩:=hf (q.len*4) (by omega)
 obtain⟨⟨u1,d1⟩,-⟩:=hf (q.len*4+1) (by omega)
 obtain⟨⟨u2,d2⟩,-⟩:=hf (q.len*4+2) (by omega)
 obtain⟨⟨u3,d3⟩,-⟩:=hf (q.len*4+3) (by omega)
 have hfar:∀ b o v',g+1≤b→W.cell? ⟨b,o,none⟩=some v'→((((W.setCell ⟨g,q.len*4,none⟩ (.int .u8 op)).setCell ⟨g,q.len*4+1,none⟩ (.string n)).setCell ⟨g,q.len*4+2,none⟩ s).setCell ⟨g,q.len*4+3,none⟩ s').cell? ⟨b,o,none⟩=some v':=fun b o v' hb hc=>by
  rw[set_off (.inl (by omega)),set_off (.inl (by omega)),set_off (.inl (by omega)),set_off (.inl (by omega))];exact hc
 refine FsAb.app (FsAb.keep hfar (fun i v' hi hc=>?_) hown) ⟨?_,?_,⟨s,?_,TOwn.keep hfar h5⟩,⟨s',?_,FOwn.keep hfar h6⟩,trivial⟩
 ·rw[set_off (.inr (by omega)),set_off (.inr (by omega)),set_off (.inr (by omega)),set_off (.inr (by omega))];exact hc
 ·rw[Nat.zero_add,set_off (.inr (by omega)),set_off (.inr (by omega)),set_off (.inr (by omega))];exact set_on d0
 ·rw[Nat.zero_add,set_off (.inr (by omega)),set_off (.inr (by omega))];exact set_on (by rw[set_off (.inr (by omega))];exact d1)
 ·rw[Nat.zero_add,set_off (.inr (by omega))];exact set_on (by rw[set_off (.inr (by omega)),set_off (.inr (by omega))];exact d2)
 ·rw[Nat.zero_add];exact set_on (by rw[set_off (.inr (by omega)),set_off (.inr (by omega)),set_off (.inr (by omega))];exact d3)
def FVOwn (W:World) (lo:Nat) (f:FT) (v:Value):Prop:=∃ sa ss,v=fval f sa ss∧TOwn W lo f.ts sa∧FOwn W lo f.sub ss
theorem FVOwn.at {W:World} {lo:Nat} {f:FT} {v:Value} (h:FVOwn W lo f v):FVal W f v:=by
 obtain⟨sa,ss,hv,h1,h2⟩:=h
 exact⟨sa,ss,hv,TOwn.at h1,FOwn.at h2⟩
def CopyForm (f:FT):Prop:=∀ (v:Value) (w:World),FVal w f v→f.size≤1000000 →
 Calls Tryz.prog 13 #[v] w fun e w'=>∃ v',e=.returned v'∧FVOwn w' w.heap.size f v'∧Below w.heap.size w w'
set_option maxHeartbeats 4000000 in
theorem copiesF_any (ts:Fs) (ih:∀ t:FT,t.size≤ts.size→CopyForm t) (sa:Value) (w:World) (hv:FSl w ts sa) (hs:ts.size≤1000000) :
  Calls Tryz.prog 58 #[sa,.func (.func 13) #[] #[]] w fun e w'=>∃ s',e=.returned s'∧FOwn w' w.heap.size ts s'∧Below w.heap.size w w':=by
 obtain⟨p,c,b,o,rfl,hp,ht⟩:=FSl.opened hv
 have hlen:=ts.len_le
 by_cases hz:ts.len=0
 ·have hz':((ts.len:Int) == 0)=true:=by rw[beq_iff_eq];omega
  go_enter Tryz.func58,Tryz.ntmps58
  go_wp2
  go_ret
  exact⟨.slice none 0 0,rfl,⟨none,0,by rw[hz],.inl hz⟩,Below.refl _ _⟩
 have hz':((ts.len:Int) == 0)=false:=beq_eq_false_iff_ne.2 (by omega)
 have hmk:=make_forms ts.len (by omega)
 have hp':p=some ⟨b,o,none⟩:=hp.resolve_left hz
 subst hp'
 clear hp
 go_enter Tryz.func58,Tryz.ntmps58
 go_wp2
 have hfr:=Free.made w #[.int .u8 0,.string ⟨#[]⟩,.slice none 0 0,.slice none 0 0] (ts.len*4) 25
 have hbl:=bel_laid w (.cells (madeCells #[.int .u8 0,.string ⟨#[]⟩,.slice none 0 0,.slice none 0 0] (ts.len*4)) 25)
 have hgs:w.heap.size < (w.alloc (.cells (madeCells #[.int .u8 0,.string ⟨#[]⟩,.slice none 0 0,.slice none 0 0] (ts.len*4)) 25)).heap.size:=by simp
 generalize w.alloc (.cells (madeCells #[.int .u8 0,.string ⟨#[]⟩,.slice none 0 0,.slice none 0 0] (ts.len*4)) 25)=W1 at hfr hbl hgs ⊢
 obtain⟨g,hg⟩:∃ g,w.heap.size=g:=⟨_,rfl⟩
 rw[hg] at hfr hgs ⊢
 clear hmk
 go_loopw [16] (fun i wr=>∃ (k:Nat) (q r:Fs),i=.int .i64 k∧q.len=k∧q.app r=ts∧r.size≤ts.size∧FsAt w r b (o+k*4)∧FsAb wr (g+1) q g 0∧Free wr g (ts.len*4)∧g < wr.heap.size∧Below w.heap.size w wr) (fun i _=>ts.len - (intOf i).toNat)
 case atStart=>exact⟨0,.nil,ts,rfl,rfl,rfl,Nat.le_refl _,by simpa using ht,trivial,hfr,hgs,hbl⟩
 case round =>
  obtain⟨k,q,r,rfl,hq,hqr,hrs,hat,hown,hfree,hgw,hbw⟩:=hrel
  have hll:=Fs.len_app q r
  rw[hqr] at hll
  replace hll:=h_X hll
  replace hqr:=h_X hqr
  cases r with
  | nil =>
   have hk':k=ts.len:=by have:=hll.out;simp only[Fs.len] at this;omega
   have hqt:q=ts:=by have:=hqr.out;rwa [Fs.app_nil] at this
   clear hll hqr hq
   subst hqt
   subst hk'
   clear hz' ih hv
   go_wp2_with fail
   go_ret
   exact⟨_,rfl,⟨_,_,rfl,.inr ⟨g,0,rfl,by omega,FsAb.less (by omega) hown⟩⟩,hbw⟩
  | cons op n t2 sub r' =>
   obtain⟨c0,c1,⟨s,c2,hs2⟩,⟨s1,c3,hs2'⟩,hat'⟩:=hat
   replace c0:=c_B hbw c0
   replace c1:=c_B hbw c1
   replace c2:=c_B hbw c2
   replace c3:=c_B hbw c3
   have hs3:=h_X (TSl.below hbw hs2)
   have hs3':=h_X (FSl.below hbw hs2')
   obtain⟨ps,cs,rfl,-⟩:=hs2
   obtain⟨pt,ct,rfl,-⟩:=hs2'
   have hlt:(k:Int) < (ts.len:Int):=by have:=hll.out;simp only[Fs.len] at this;omega
   simp only[Fs.size] at hrs
   have hsz:(FT.mk op n t2 sub).size≤ts.size:=by simp only[FT.size];omega
   have hsz2:(FT.mk op n t2 sub).size≤1000000:=by omega
   have ih':=h_X (ih ⟨op,n,t2,sub⟩ hsz)
   clear ih hz'
   go_wp2_with fail
   refine(ih'.out _ _ ⟨_,_,rfl,TSl.below (bel_laid _ _) hs3.out,FSl.below (bel_laid _ _) hs3'.out⟩ hsz2).mono ?_
   rintro e w5 ⟨v',rfl,⟨s',s2',rfl,hown5,hown6⟩,hb5⟩
   have hb6:=bS (bel_laid wr _) hb5
   rw[World.size_alloc] at hown5 hown6
   replace hfree:=hfree.below hb6
   replace hown:=FsAb.below hb6 hown
   replace hown5:TOwn w5 (g+1) t2 s':=TOwn.less (by omega) hown5
   replace hown6:FOwn w5 (g+1) sub s2':=FOwn.less (by omega) hown6
   have hbw5:=bS hbw hb6
   have hgw5:g < w5.heap.size:=Nat.lt_of_lt_of_le hgw hb6.size
   clear hb5 hb6 hs3 hs3' ih'
   obtain⟨ps',cs',hse,-⟩:=id hown5
   subst hse
   obtain⟨pt',ct',hse,-⟩:=id hown6
   subst hse
   obtain⟨⟨u0,d0⟩,f0⟩:=hfree (k*4) (by omega)
   obtain⟨⟨u1,d1⟩,f1⟩:=hfree (k*4+1) (by omega)
   obtain⟨⟨u2,d2⟩,f2⟩:=hfree (k*4+2) (by omega)
   obtain⟨⟨u3,d3⟩,f3⟩:=hfree (k*4+3) (by omega)
   have hfreeh:=h_X hfree
   have hownh:=h_X hown
   have hown5h:=h_X hown5
   have hown6h:=h_X hown6
   clear hfree hown hown5 hown6 c0 c1 c2 c3
   go_wp2_with fail
   subst hq
   refine⟨⟨q.len+1,q.app (.cons op n t2 sub .nil),r',by go_num,by rw[Fs.len_app];rfl,by rw[Fs.app_assoc];exact hqr.out,by omega,by rwa [show o+(q.len+1)*4=o+q.len*4+4 by omega],FsAb.push hownh.out hown5h.out hown6h.out hfreeh.out (by omega),(((hfreeh.out.set _ _).set _ _).set _ _).set _ _,by rw[size_setCell,size_setCell,size_setCell,size_setCell];exact hgw5,(((hbw5.setCell (p:=⟨g,_,none⟩) (by simp;omega) _).setCell (p:=⟨g,_,none⟩) (by simp;omega) _).setCell (p:=⟨g,_,none⟩) (by simp;omega) _).setCell (p:=⟨g,_,none⟩) (by simp;omega) _⟩,?_⟩
   simp[intOf]
   omega
end Go.Proofs.YtngdieldgnlogaaGreatDoor
namespace Go.Proofs.YtngdieldgnlogaaGreatDoor
open Go Go.RowKit
set_option maxRecDepth 100000
set_option linter.unusedVariables false
set_option maxHeartbeats 4000000 in
theorem copy_any (f:FT):CopyForm f:=by
 intro v w hv hs
 have hc:=h_X (copiesT_any f.ts (fun t _=>copyTerm_any t))
 have hd:=h_X (copiesF_any f.sub (fun t _=>copy_any t))
 have hs1:f.ts.size≤1000000:=by simp only[FT.size] at hs;omega
 have hs2:f.sub.size≤1000000:=by simp only[FT.size] at hs;omega
 have hv0:=hv
 obtain⟨sa,ss,rfl,ha,hss⟩:=hv
 obtain⟨pa,ca,rfl,-⟩:=id ha
 obtain⟨p,c,rfl,-⟩:=id hss
 have hst:=(FS.start (t:=25) hv0).next (bel_laid _ (.cells #[.int .u8 0,.string ⟨#[]⟩,.slice none 0 0,.slice none 0 0] 25))
 have hF1:=(Free.lit w #[.int .u8 f.op,.string f.n,.slice pa f.ts.len ca,.slice p f.sub.len c] 25).below (bel_laid _ (.cells #[.int .u8 0,.string ⟨#[]⟩,.slice none 0 0,.slice none 0 0] 25))
 have hF2:=Free.lit (w.alloc (.cells #[.int .u8 f.op,.string f.n,.slice pa f.ts.len ca,.slice p f.sub.len c] 25)) #[.int .u8 0,.string ⟨#[]⟩,.slice none 0 0,.slice none 0 0] 25
 have hgs:((w.alloc (.cells #[.int .u8 f.op,.string f.n,.slice pa f.ts.len ca,.slice p f.sub.len c] 25)).alloc (.cells #[.int .u8 0,.string ⟨#[]⟩,.slice none 0 0,.slice none 0 0] 25)).heap.size=w.heap.size+2:=by simp
 rw[World.size_alloc] at hF2
 have hssh:=h_X hss
 clear hv0 ha hss
 go_enter Tryz.func13,Tryz.ntmps13
 go_wp2_with fail
 generalize (w.alloc (.cells #[.int .u8 f.op,.string f.n,.slice pa f.ts.len ca,.slice p f.sub.len c] 25)).alloc (.cells #[.int .u8 0,.string ⟨#[]⟩,.slice none 0 0,.slice none 0 0] 25)=W2 at hst hF1 hF2 hgs ⊢
 refine(hc.out _ W2 hst.2.2.2.2.2.1 hs1).mono ?_
 rintro e W3 ⟨s1,rfl,hown1,hb3⟩
 rw[hgs] at hown1
 replace hst:=hst.next hb3
 replace hF1:=hF1.below hb3
 replace hF2:=hF2.below hb3
 have hg3:w.heap.size+2≤W3.heap.size:=by have:=hb3.size;omega
 clear hb3 hc hgs
 obtain⟨g,hg⟩:∃ g,w.heap.size=g:=⟨_,rfl⟩
 rw[hg] at hst hF1 hF2 hg3 hown1 ⊢
 obtain⟨p1,c1,hse,-⟩:=id hown1
 subst hse
 obtain⟨⟨u2,d2⟩,f2⟩:=hF1 2 (by simp)
 obtain⟨b0,b1,b2,b3,hk⟩:=hst
 go_wp2_with fail
 have hbs:=hk.1.setCell (p:=⟨g,2,none⟩) (by simp;omega) (.slice p1 f.ts.len c1)
 obtain⟨W4,hW4⟩:∃ W4,W3.setCell ⟨g,2,none⟩ (.slice p1 f.ts.len c1)=W4:=⟨_,rfl⟩
 have hfar3:∀ b o v',b≠g→W3.cell? ⟨b,o,none⟩=some v'→W4.cell? ⟨b,o,none⟩=some v':=fun b o v' hb hcl=>by
  rw[←hW4,set_off (.inl hb)];exact hcl
 have h0:W4.cell? ⟨g,0,none⟩=some (.int .u8 f.op):=by rw[←hW4,set_off (.inr (by omega))];exact b0
 have h1:W4.cell? ⟨g,1,none⟩=some (.string f.n):=by rw[←hW4,set_off (.inr (by omega))];exact b1
 have h2:W4.cell? ⟨g,2,none⟩=some (.slice p1 f.ts.len c1):=by rw[←hW4];exact set_on d2
 have h3:W4.cell? ⟨g,3,none⟩=some (.slice p f.sub.len c):=by rw[←hW4,set_off (.inr (by omega))];exact b3
 have hF14:Free W4 g 4:=by rw[←hW4];exact hF1.set _ _
 have hF24:Free W4 (g+1) 4:=fun j hj=>by
  obtain⟨⟨u,hu⟩,hf⟩:=hF2 j hj
  exact⟨⟨u,hfar3 _ _ _ (by omega) hu⟩,by rw[←hW4,World.frozen?_setCell];exact hf⟩
 have hsz4:W4.heap.size=W3.heap.size:=by rw[←hW4,size_setCell]
 replace hown1:TOwn W4 (g+2) f.ts (.slice p1 f.ts.len c1):=TOwn.keep (fun b o v' hb hcl=>hfar3 b o v' (by omega) hcl) hown1
 rw[hW4] at hbs ⊢
 have hss4:=h_X (FSl.below hbs hssh.out)
 clear hW4 hfar3 hF1 hF2 d2 f2 b0 b1 b2 b3 hk hssh
 go_wp2_with fail
 refine(hd.out _ W4 hss4.out hs2).mono ?_
 rintro e W5 ⟨s2,rfl,hown2,hb5⟩
 replace hown2:FOwn W5 (g+2) f.sub s2:=FOwn.less (by omega) hown2
 replace hown1:=TOwn.below hb5 hown1
 replace h0:=c_B hb5 h0
 replace h1:=c_B hb5 h1
 replace h2:=c_B hb5 h2
 replace hF14:=hF14.below hb5
 replace hF24:=hF24.below hb5
 have hbs5:=bS hbs hb5
 have hg5:g+2≤W5.heap.size:=by have:=hb5.size;omega
 clear hb5 hd hss4 h3 hsz4 hg3 hbs
 obtain⟨p2,c2,hse,-⟩:=id hown2
 subst hse
 obtain⟨⟨u3,d3⟩,f3⟩:=hF14 3 (by simp)
 obtain⟨⟨x0,y0⟩,z0⟩:=hF24 0 (by simp)
 obtain⟨⟨x1,y1⟩,z1⟩:=hF24 1 (by simp)
 obtain⟨⟨x2,y2⟩,z2⟩:=hF24 2 (by simp)
 obtain⟨⟨x3,y3⟩,z3⟩:=hF24 3 (by simp)
 clear hF14 hF24
 have hown1h:=h_X hown1
 have hown2h:=h_X hown2
 clear hown1 hown2
 go_wp2_with fail
 obtain⟨W6,hW6⟩:∃ W6,(((((W5.setCell ⟨g,3,none⟩ (.slice p2 f.sub.len c2)).setCell ⟨g+1,0,none⟩ (.int .u8 f.op)).setCell ⟨g+1,1,none⟩ (.string f.n)).setCell ⟨g+1,2,none⟩ (.slice p1 f.ts.len c1)).setCell ⟨g+1,3,none⟩ (.slice p2 f.sub.len c2))=W6:=⟨_,rfl⟩
 have e0:W6.cell? ⟨g+1,0,none⟩=some (.int .u8 f.op):=by
  rw[←hW6,set_off (.inr (by omega)),set_off (.inr (by omega)),set_off (.inr (by omega))];exact set_on (by rw[set_off (.inl (by omega))];exact y0)
 have e1:W6.cell? ⟨g+1,1,none⟩=some (.string f.n):=by
  rw[←hW6,set_off (.inr (by omega)),set_off (.inr (by omega))];exact set_on (by rw[set_off (.inr (by omega)),set_off (.inl (by omega))];exact y1)
 have e2:W6.cell? ⟨g+1,2,none⟩=some (.slice p1 f.ts.len c1):=by
  rw[←hW6,set_off (.inr (by omega))];exact set_on (by rw[set_off (.inr (by omega)),set_off (.inr (by omega)),set_off (.inl (by omega))];exact y2)
 have e3:W6.cell? ⟨g+1,3,none⟩=some (.slice p2 f.sub.len c2):=by
  rw[←hW6];exact set_on (by rw[set_off (.inr (by omega)),set_off (.inr (by omega)),set_off (.inr (by omega)),set_off (.inl (by omega))];exact y3)
 have hfar:∀ b o v',g+2≤b→W5.cell? ⟨b,o,none⟩=some v'→W6.cell? ⟨b,o,none⟩=some v':=fun b o v' hb hcl=>by
  rw[←hW6,set_off (.inl (by omega)),set_off (.inl (by omega)),set_off (.inl (by omega)),set_off (.inl (by omega)),set_off (.inl (by omega))];exact hcl
 have hb6:Below w.heap.size w W6:=by
  rw[←hW6]
  exact((((hbs5.setCell (p:=⟨g,_,none⟩) (by simp;omega) _).setCell (p:=⟨g+1,_,none⟩) (by simp;omega) _).setCell (p:=⟨g+1,_,none⟩) (by simp;omega) _).setCell (p:=⟨g+1,_,none⟩) (by simp;omega) _).setCell (p:=⟨g+1,_,none⟩) (by simp;omega) _
 rw[hW6]
 refine bodyPost_ret (v:=fval f (.slice p1 f.ts.len c1) (.slice p2 f.sub.len c2)) ?_ rfl ⟨_,rfl,⟨_,_,rfl,TOwn.less (by omega) (TOwn.keep hfar hown1h.out),FOwn.less (by omega) (FOwn.keep hfar hown2h.out)⟩,hb6⟩
 simp[results,Tryz.results13,go_sem,e0,e1,e2,e3]
termination_by f.size
decreasing_by rename_i h;simp only[FT.size] at *;omega
end Go.Proofs.YtngdieldgnlogaaGreatDoor
namespace Go.Proofs.YtngdieldgnlogaaGreatDoor
open Go Go.RowKit
set_option maxRecDepth 100000
set_option linter.unusedVariables false
def FAt (W:World) (f:FT) (b o:Nat):Prop :=
 W.cell? ⟨b,o,none⟩=some (.int .u8 f.op)∧W.cell? ⟨b,o+1,none⟩=some (.string f.n)∧(∃ s,W.cell? ⟨b,o+2,none⟩=some s∧TSl W f.ts s)∧(∃ s,W.cell? ⟨b,o+3,none⟩=some s∧FSl W f.sub s)
theorem FAt.val {W:World} {f:FT} {b o:Nat} (h:FAt W f b o):∃ sa ss,W.cell? ⟨b,o+2,none⟩=some sa∧W.cell? ⟨b,o+3,none⟩=some ss∧FVal W f (fval f sa ss):=by
 obtain⟨h0,h1,⟨s,h2,h3⟩,⟨s',h4,h5⟩⟩:=h
 exact⟨s,s',h2,h4,s,s',rfl,h3,h5⟩
def LsAt (W:World):List Int→Nat→Nat→Prop
 | [],_,_=>True
 | x :: l,b,o=>W.cell? ⟨b,o,none⟩=some (.int .i64 x)∧LsAt W l b (o+1)
abbrev LSl (W:World) (l:List Int) (s:Value):Prop:=SlOf (LsAt W l) l.length s
theorem LsAt.below {w W:World} (hb:Below w.heap.size w W):∀ {l:List Int} {b o:Nat},LsAt w l b o→LsAt W l b o
 | [],_,_,_=>trivial
 | _ :: _,_,_,⟨h,hr⟩=>⟨c_B hb h,LsAt.below hb hr⟩
theorem LSl.below {w W:World} (hb:Below w.heap.size w W) {l:List Int} {s:Value} (h:LSl w l s):LSl W l s:=h.imp fun _ _ h=>LsAt.below hb h
theorem LSl.opened {W:World} {l:List Int} {s:Value} (h:LSl W l s):∃ p c b o,s=.slice p l.length c∧(l.length=0∨p=some ⟨b,o,none⟩)∧LsAt W l b o:=by
 obtain⟨p,c,hs,h0 | ⟨b,o,hp,h⟩⟩:=h
 ·exact⟨p,c,0,0,hs,.inl h0,by rw[List.eq_nil_of_length_eq_zero h0];trivial⟩
 ·exact⟨p,c,b,o,hs,.inr hp,h⟩
def Fs.get:Fs→Nat→FT
 | .nil,_=>⟨0,⟨#[]⟩,.nil,.nil⟩
 | .cons op n ts sub _,0=>⟨op,n,ts,sub⟩
 | .cons _ _ _ _ r,k+1=>r.get k
theorem FsAt.get {W:World}:∀ {t:Fs} {k b o:Nat},FsAt W t b o→k < t.len→FAt W (t.get k) b (o+k*4)
 | .nil,k,_,_,_,h=>by simp[Fs.len] at h
 | .cons op n ts sub r,0,b,o,⟨h0,h1,h2,h3,hr⟩,_=>by simpa[Fs.get] using ⟨h0,h1,h2,h3⟩
 | .cons _ _ _ _ r,k+1,b,o,⟨h0,h1,h2,h3,hr⟩,h=>by
  have:=FsAt.get (k:=k) hr (by simp only[Fs.len] at h;omega)
  rw[show o+3+1+k*4=o+(k+1)*4 by omega] at this
  exact this
def FT.part:FT→List Int→Option FT
 | f,[]=>some f
 | f,i :: l=>if 0≤i∧i < f.sub.len then (f.sub.get i.toNat).part l else none
theorem Fs.get_size:∀ (t:Fs) (k:Nat),k < t.len→(t.get k).size≤t.size
 | .nil,k,h=>by simp[Fs.len] at h
 | .cons _ _ ts sub r,0,_=>by simp only[Fs.get,FT.size,Fs.size];omega
 | .cons _ _ ts sub r,k+1,h=>by
  have:=Fs.get_size r k (by simp only[Fs.len] at h;omega)
  simp only[Fs.get,Fs.size]
  omega
def Found (W:World) (r:Option FT) (v:Value):Prop:=match r with
 | none=>v=.pointer none
 | some g=>∃ b o,v=.pointer (some ⟨b,o,none⟩)∧FAt W g b o
set_option maxHeartbeats 2000000 in
theorem find_any (f:FT) (l:List Int) (b0 o0:Nat) (sl:Value) (w:World) (hf:FAt w f b0 o0) (hl:LSl w l sl) (hn:l.length≤1000000) :
  Calls Tryz.prog 83 #[.pointer (some ⟨b0,o0,none⟩),sl] w fun e w'=>(∃ v,e=.returned v∧Found w (f.part l) v)∧w=w':=by
 obtain⟨p,c,bp,op,rfl,hp,ht⟩:=LSl.opened hl
 obtain⟨res,hres⟩:∃ res,f.part l=res:=⟨_,rfl⟩
 rw[hres]
 replace hres:=h_X hres
 go_enter Tryz.func83,Tryz.ntmps83
 go_wp2
 go_loopw [0,9] (fun q i wr=>∃ (k:Nat) (r:List Int) (g:FT) (b o:Nat),q=.pointer (some ⟨b,o,none⟩)∧i=.int .i64 k∧k+r.length=l.length∧LsAt w r bp (op+k)∧FAt w g b o∧g.part r=res∧w=wr) (fun _ i _=>l.length - (intOf i).toNat)
 case atStart=>exact⟨0,l,f,b0,o0,rfl,rfl,by omega,by simpa using ht,hf,hres.out,rfl⟩
 case round =>
  obtain⟨k,r,g,b,o,rfl,rfl,hk,hat,hg,hpart,rfl⟩:=hrel
  replace hpart:=h_X hpart
  cases r with
  | nil =>
   have hk':k=l.length:=by simpa using hk
   subst hk'
   have:res=some g:=by rw[←hpart.out];rfl
   subst this
   go_wp2
   go_ret
   exact⟨⟨_,rfl,b,o,rfl,hg⟩,rfl⟩
  | cons x r' =>
   rcases hp with hp | hp
   ·simp only[List.length_cons] at hk;omega
   subst hp
   obtain⟨hx,hat'⟩:=hat
   have hlt:(k:Int) < (l.length:Int):=by simp only[List.length_cons] at hk;omega
   have hg':=h_X hg
   obtain⟨g0,g1,-,⟨ss,g3,hss⟩⟩:=hg
   obtain⟨ps,cs,bs,os,rfl,hps,hfs⟩:=FSl.opened hss
   clear hss g0 g1
   by_cases h1:0≤x
   ·by_cases h2:x < g.sub.len
    ·have hsub:=hps.resolve_left (by omega)
     subst hsub
     obtain⟨xn,hxn⟩:∃ xn:Nat,x=(xn:Int):=⟨x.toNat,by omega⟩
     subst hxn
     have hch:=h_X (FsAt.get hfs (k:=xn) (by omega))
     have hp2:=h_X (show (g.sub.get xn).part r'=res by rw[←hpart.out,FT.part,if_pos ⟨h1,h2⟩];rfl)
     clear hfs hps
     go_wp2
     go_roundw
     case rel=>exact⟨k+1,r',g.sub.get xn,bs,os+xn*4,rfl,by go_num,by simp only[List.length_cons] at hk;omega,by rwa [show op+(k+1)=op+k+1 by omega],hch.out,hp2.out,trivial⟩
     case measure=>simp[intOf];omega
    ·have:res=none:=by rw[←hpart.out,FT.part,if_neg (by omega)]
     subst this
     have h2':(g.sub.len:Int)≤x:=by omega
     go_wp2
     go_ret
     exact⟨⟨_,rfl,rfl⟩,rfl⟩
   ·have:res=none:=by rw[←hpart.out,FT.part,if_neg (by omega)]
    subst this
    have h1':x < 0:=by omega
    go_wp2
    go_ret
    exact⟨⟨_,rfl,rfl⟩,rfl⟩
theorem Fs.part_size:∀ (l:List Int) (f g:FT),f.part l=some g→g.size≤f.size
 | [],f,g,h=>by simp[FT.part] at h;subst h;exact Nat.le_refl _
 | i :: l,f,g,h=>by
  rw[FT.part] at h
  split at h
  ·rename_i hi
   have h1:=Fs.part_size l _ g h
   have h2:=Fs.get_size f.sub i.toNat (by omega)
   simp only[FT.size] at *
   omega
  ·cases h
theorem set4 (W:World) (g:Nat) (a0 a1 a2 a3:Value) {x0 x1 x2 x3:Value} (y0:W.cell? ⟨g,0,none⟩=some x0) (y1:W.cell? ⟨g,1,none⟩=some x1) (y2:W.cell? ⟨g,2,none⟩=some x2) (y3:W.cell? ⟨g,3,none⟩=some x3) :
  ∃ W',(((W.setCell ⟨g,0,none⟩ a0).setCell ⟨g,1,none⟩ a1).setCell ⟨g,2,none⟩ a2).setCell ⟨g,3,none⟩ a3=W'∧W'.cell? ⟨g,0,none⟩=some a0∧W'.cell? ⟨g,1,none⟩=some a1∧W'.cell? ⟨g,2,none⟩=some a2∧W'.cell? ⟨g,3,none⟩=some a3 ∧
   (∀ b o v,b≠g→W.cell? ⟨b,o,none⟩=some v→W'.cell? ⟨b,o,none⟩=some v)∧(∀ B w0,Below B w0 W→B≤g→Below B w0 W'):=by
 refine⟨_,rfl,?_,?_,?_,?_,fun b o v hb hc=>?_,fun B w0 h hB=>((((h.setCell (p:=⟨g,_,none⟩) hB _).setCell (p:=⟨g,_,none⟩) hB _).setCell (p:=⟨g,_,none⟩) hB _).setCell (p:=⟨g,_,none⟩) hB _)⟩
 ·rw[set_off (.inr (by omega)),set_off (.inr (by omega)),set_off (.inr (by omega))];exact set_on y0
 ·rw[set_off (.inr (by omega)),set_off (.inr (by omega))];exact set_on (by rw[set_off (.inr (by omega))];exact y1)
 ·rw[set_off (.inr (by omega))];exact set_on (by rw[set_off (.inr (by omega)),set_off (.inr (by omega))];exact y2)
 ·exact set_on (by rw[set_off (.inr (by omega)),set_off (.inr (by omega)),set_off (.inr (by omega))];exact y3)
 ·rw[set_off (.inl hb),set_off (.inl hb),set_off (.inl hb),set_off (.inl hb)];exact hc
def AtRes (W:World) (lo:Nat) (r:Option FT) (v:Value) (e:Int):Prop:=match r with
 | none=>v=fval ⟨0,⟨#[]⟩,.nil,.nil⟩ (.slice none 0 0) (.slice none 0 0)∧e=6
 | some g=>FVOwn W lo g v∧e=0
set_option maxHeartbeats 4000000 in
theorem at_any (f:FT) (l:List Int) (v sl:Value) (w:World) (hv:FVal w f v) (hl:LSl w l sl) (hn:l.length≤1000000) (hs:f.size≤1000000) :
  Calls Tryz.prog 38 #[v,sl] w fun e w'=>(∃ v' er,e=.returned (.tuple #[v',.int .i64 er])∧AtRes w' w.heap.size (f.part l) v' er)∧Below w.heap.size w w':=by
 have hv0:=hv
 obtain⟨sa,ss,rfl,ha,hss⟩:=hv
 obtain⟨pa,ca,rfl,-⟩:=id ha
 obtain⟨p,c,rfl,-⟩:=id hss
 obtain⟨pl,cl,rfl,-⟩:=id hl
 have hst:=(FS.start (t:=25) hv0).next (bel_laid _ (.cells #[.int .u8 0,.string ⟨#[]⟩,.slice none 0 0,.slice none 0 0] 25))
 have hF2:=Free.lit (w.alloc (.cells #[.int .u8 f.op,.string f.n,.slice pa f.ts.len ca,.slice p f.sub.len c] 25)) #[.int .u8 0,.string ⟨#[]⟩,.slice none 0 0,.slice none 0 0] 25
 have hl2:=LSl.below (bel_laid _ (.cells #[.int .u8 0,.string ⟨#[]⟩,.slice none 0 0,.slice none 0 0] 25)) (LSl.below (bel_laid w (.cells #[.int .u8 f.op,.string f.n,.slice pa f.ts.len ca,.slice p f.sub.len c] 25)) hl)
 have hgs:((w.alloc (.cells #[.int .u8 f.op,.string f.n,.slice pa f.ts.len ca,.slice p f.sub.len c] 25)).alloc (.cells #[.int .u8 0,.string ⟨#[]⟩,.slice none 0 0,.slice none 0 0] 25)).heap.size=w.heap.size+2:=by simp
 have hz0:=cell_new (w.alloc (.cells #[.int .u8 f.op,.string f.n,.slice pa f.ts.len ca,.slice p f.sub.len c] 25)) #[.int .u8 0,.string ⟨#[]⟩,.slice none 0 0,.slice none 0 0] 25
 rw[World.size_alloc] at hF2 hz0
 clear hv0 ha hss hl
 obtain⟨res,hres⟩:∃ res,f.part l=res:=⟨_,rfl⟩
 have hsz:∀ g,res=some g→g.size≤1000000:=fun g hg=>Nat.le_trans (Fs.part_size l f g (hres.trans hg)) hs
 have HFd:=h_X (fun V (hV:FAt V f w.heap.size 0) hl=>find_any f l w.heap.size 0 (.slice pl l.length cl) V hV hl hn)
 rw[hres] at HFd ⊢
 clear hres
 go_enter Tryz.func38,Tryz.ntmps38
 go_wp2_with fail
 generalize (w.alloc (.cells #[.int .u8 f.op,.string f.n,.slice pa f.ts.len ca,.slice p f.sub.len c] 25)).alloc (.cells #[.int .u8 0,.string ⟨#[]⟩,.slice none 0 0,.slice none 0 0] 25)=W2 at hst hF2 hl2 hgs hz0 ⊢
 refine(HFd.out W2 ⟨hst.1,hst.2.1,⟨_,hst.2.2.1,hst.2.2.2.2.2.1⟩,⟨_,hst.2.2.2.1,hst.2.2.2.2.2.2⟩⟩ hl2).mono ?_
 rintro e W3 ⟨⟨vp,rfl,hfound⟩,rfl⟩
 have hbel:=hst.2.2.2.2.1
 clear HFd hst hl2
 obtain⟨g,hg⟩:∃ g,w.heap.size=g:=⟨_,rfl⟩
 rw[hg] at hF2 hgs hz0 ⊢
 cases res with
 | none =>
  obtain rfl:vp=.pointer none:=hfound
  obtain⟨⟨x0,y0⟩,z0⟩:=hF2 0 (by simp)
  obtain⟨⟨x1,y1⟩,z1⟩:=hF2 1 (by simp)
  obtain⟨⟨x2,y2⟩,z2⟩:=hF2 2 (by simp)
  obtain⟨⟨x3,y3⟩,z3⟩:=hF2 3 (by simp)
  clear hF2 hz0
  go_wp2_with fail
  obtain⟨W5,hW5,e0,e1,e2,e3,hfar,hbl⟩:=set4 W2 (g+1) (.int .u8 0) (.string ⟨#[]⟩) (.slice none 0 0) (.slice none 0 0) y0 y1 y2 y3
  rw[hW5]
  refine bodyPost_ret (v:=.tuple #[fval ⟨0,⟨#[]⟩,.nil,.nil⟩ (.slice none 0 0) (.slice none 0 0),.int .i64 6]) ?_ rfl ⟨⟨_,_,rfl,rfl,rfl⟩,hbl _ _ hbel (by omega)⟩
  simp[results,Tryz.results38,go_sem,e0,e1,e2,e3]
 | some ft =>
  obtain⟨b,o,rfl,hft⟩:=hfound
  obtain⟨sx,sy,m2,m3,hfv⟩:=hft.val
  obtain⟨m0,m1,-,-⟩:=hft
  have HC:=h_X (copy_any ft _ W2 hfv (hsz ft rfl))
  clear hfv
  go_wp2_with fail
  refine HC.out.mono ?_
  rintro e W4 ⟨v',rfl,⟨s1,s2,rfl,hown1,hown2⟩,hb4⟩
  rw[hgs] at hown1 hown2
  replace hF2:=hF2.below hb4
  have hb5:=bS hbel hb4
  clear hb4 HC m0 m1 m2 m3 hz0
  obtain⟨p1,c1,hse,-⟩:=id hown1
  subst hse
  obtain⟨p2,c2,hse,-⟩:=id hown2
  subst hse
  obtain⟨⟨x0,y0⟩,z0⟩:=hF2 0 (by simp)
  obtain⟨⟨x1,y1⟩,z1⟩:=hF2 1 (by simp)
  obtain⟨⟨x2,y2⟩,z2⟩:=hF2 2 (by simp)
  obtain⟨⟨x3,y3⟩,z3⟩:=hF2 3 (by simp)
  have hown1h:=h_X hown1
  have hown2h:=h_X hown2
  clear hF2 hown1 hown2
  go_wp2_with fail
  obtain⟨W5,hW5,e0,e1,e2,e3,hfar,hbl⟩:=set4 W4 (g+1) (.int .u8 ft.op) (.string ft.n) (.slice p1 ft.ts.len c1) (.slice p2 ft.sub.len c2) y0 y1 y2 y3
  rw[hW5]
  have hown:FVOwn W5 w.heap.size ft (fval ft (.slice p1 ft.ts.len c1) (.slice p2 ft.sub.len c2)) :=
   ⟨_,_,rfl,TOwn.less (by omega) (TOwn.keep (fun b o v hb hc=>hfar b o v (by omega) hc) hown1h.out),FOwn.less (by omega) (FOwn.keep (fun b o v hb hc=>hfar b o v (by omega) hc) hown2h.out)⟩
  refine bodyPost_ret (v:=.tuple #[fval ft (.slice p1 ft.ts.len c1) (.slice p2 ft.sub.len c2),.int .i64 0]) ?_ rfl ⟨⟨_,_,rfl,hown,rfl⟩,hbl _ _ hb5 (by omega)⟩
  simp[results,Tryz.results38,go_sem,e0,e1,e2,e3]
end Go.Proofs.YtngdieldgnlogaaGreatDoor
