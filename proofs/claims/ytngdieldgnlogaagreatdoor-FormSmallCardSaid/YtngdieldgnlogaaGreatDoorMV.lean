/- What the rounds of Parts keep: the list that is handed back, and the rows of a map. The steps of a round of Parts, and what it picks. What the operations do, kind by kind; a store into the last element of a row. -/
import Derived.Test.YtngdieldgnlogaaGreatDoorMU
import Derived.Test.YtngdieldgnlogaaGreatDoorMG
import Derived.Test.YtngdieldgnlogaaGreatDoorMS
import Derived.Test.YtngdieldgnlogaaGreatDoorMP
import Derived.Test.YtngdieldgnlogaaGreatDoorMC
import Derived.Test.YtngdieldgnlogaaGreatDoorSP
import Derived.Maps.Views
import Derived.Deep.MidRow
import Derived.Deep.Upon
namespace Go.Proofs.YtngdieldgnlogaaGreatDoor
open Go Go.RowKit Go.Shelf
set_option maxRecDepth 100000
set_option linter.unusedVariables false
def RT (v:Value):Option (DataW Value × List MemPlace):=some (.held v,[])
def rowAt (D:DataW Value) (n:Int):DataW Value:=D.atKey (.int .i64 n) (.held (.slice none 0 0))
def cells4:Value→List Value
 | .agg cs=>cs.toList
 | _=>[]
def flatV (l:List Value):List Value:=l.flatMap cells4
theorem flatV_snoc (l:List Value) (v:Value):flatV (l ++ [v])=flatV l ++ cells4 v:=by simp[flatV]
def okI (n:Int):Prop:=(Lit.int .i64 n).wf=true
theorem okI_nat (n:Nat) (h:n≤1000000):okI (n:Int):=by
 have h1:IntKind.i64.min = -9223372036854775808:=by kernel_rfl
 have h2:IntKind.i64.max=9223372036854775807:=by kernel_rfl
 show (decide (IntKind.i64.min≤(n:Int)) && decide ((n:Int)≤IntKind.i64.max))=true
 rw[h1,h2,decide_eq_true (by omega),decide_eq_true (by omega)]
 rfl
theorem key3:Maps.Keyed Tryz.prog 3:=Maps.int_keyed Tryz.underlying3
theorem keyOf3 {n:Int} (h:okI n):keyOf Tryz.prog 3 (.int .i64 n)=some (.int .i64 n):=Maps.keyOf_int_mk Tryz.underlying3 h
theorem zero25 (w:World):(zeroValue 23).run Tryz.prog w=.ok (.slice none 0 0) w:=by
 have:Tryz.t23.zero=some (.slice none 0 0):=by kernel_rfl
 simp[zeroValue,go_sem,this]
theorem ownsMap_block {V V':World} {m n:Nat} {D:DataW Value} (h:V.ownsMap Tryz.prog 3 RT m n D) (he:V'.heap[m]? = V.heap[m]?):V'.ownsMap Tryz.prog 3 RT m n D:=by
 obtain⟨es,cl,h1,h2⟩:=h
 exact⟨es,cl,he.trans h1,h2⟩
theorem ownsMap_D {V:World} {m n n':Nat} {D D':DataW Value} (h:V.ownsMap Tryz.prog 3 RT m n D) (h':V.ownsMap Tryz.prog 3 RT m n' D'):D=D':=by
 obtain⟨es,cl,h1,-,-,rfl⟩:=h
 obtain⟨es',cl',h1',-,-,rfl⟩:=h'
 rw[h1] at h1'
 cases h1'
 rfl
theorem row_some {V:World} {m k:Nat} {D:DataW Value} (h:V.ownsMap Tryz.prog 3 RT m k D) {n:Int} (hn:okI n) :
  ∃ v,(Instr.lookup 67 (.map (some m)) (.int .i64 n) false).run Tryz.prog V=.ok v V∧rowAt D n=.held v:=by
 obtain⟨v,ps,hrun,hR⟩:=h.lookup key3 Tryz.underlying67 (zero25 V) (R:=RT) (zd:=.held (.slice none 0 0)) (zp:=[]) rfl (keyOf3 hn)
 refine⟨v,hrun,?_⟩
 simp only[RT,Option.some.injEq,Prod.mk.injEq] at hR
 exact hR.1.symm
def rowF {w0:World} (acc:List (FV w0)) (n:Int):List (FV w0):=acc.filter fun x=>decide ((x.t.size:Int)=n)
def SP (c m:Nat) (V:World) (b:Nat):Prop :=
 ∃ s D k,V.cell? ⟨c,0,none⟩=some s∧V.ownsMap Tryz.prog 3 RT m k D∧b≠c∧s.ownBlock≠some b∧∀ n v,okI n→rowAt D n=.held v→v.ownBlock≠some b
def Tr (c m:Nat) (S:Nat→Prop) (V:World) (v:Value) (f:FT):Prop:=FVSp V f v S∧∀ b,S b→b < V.heap.size∧SP c m V b
def Trs (c m:Nat) (V:World):(Nat→Prop)→List Value→List FT→Prop
 | _,[],[]=>True
 | S,v :: l,f :: r=>∃ S1 S2:Nat→Prop,(∀ x,S1 x→S x)∧(∀ x,S2 x→S x∧¬ S1 x)∧Tr c m S1 V v f∧Trs c m V S2 l r
 | _,_,_=>False
theorem Trs.imp {c m:Nat} {V V':World} (h:∀ S v f,Tr c m S V v f→Tr c m S V' v f):∀ {S:Nat→Prop} {l:List Value} {r:List FT},Trs c m V S l r→Trs c m V' S l r
 | _,[],[],_=>trivial
 | _,_ :: _,_ :: _,⟨S1,S2,q1,q2,h1,h2⟩=>⟨S1,S2,q1,q2,h _ _ _ h1,Trs.imp h h2⟩
theorem Trs.mono {c m:Nat} {V:World} {S S':Nat→Prop} (hs:∀ x,S x→S' x):∀ {l:List Value} {r:List FT},Trs c m V S l r→Trs c m V S' l r
 | [],[],_=>trivial
 | _ :: _,_ :: _,⟨S1,S2,q1,q2,h1,h2⟩=>⟨S1,S2,fun x h=>hs x (q1 x h),fun x h=>⟨hs x (q2 x h).1,(q2 x h).2⟩,h1,h2⟩
theorem Trs.snoc {c m:Nat} {V:World} {T:Nat→Prop} {v:Value} {f:FT} (h:Tr c m T V v f):∀ {S S':Nat→Prop} {l:List Value} {r:List FT},(∀ x,T x→S' x∧¬ S x)→(∀ x,S x→S' x)→Trs c m V S l r→Trs c m V S' (l ++ [v]) (r ++ [f])
 | _,_,[],[],hT,_,_=>⟨T,fun _=>False,fun x hx=>(hT x hx).1,fun _ h=>h.elim,h,trivial⟩
 | S,S',_ :: _,_ :: _,hT,hS,⟨S1,S2,q1,q2,h1,h2⟩ =>
  ⟨S1,fun x=>S' x∧¬ S1 x,fun x hx=>hS x (q1 x hx),fun _ hx=>hx,h1,Trs.snoc h (fun x hx=>⟨⟨(hT x hx).1,fun h'=>(hT x hx).2 (q1 x h')⟩,fun h'=>(hT x hx).2 (q2 x h').1⟩) (fun x hx=>⟨hS x (q2 x hx).1,(q2 x hx).2⟩) h2⟩
structure PD (c m B lo:Nat) {w0:World} (accR accF:List (FV w0)) (s1:Value) (l1:List Value) (D:DataW Value) (V:World):Prop where
 cell:V.cell? ⟨c,0,none⟩=some s1
 mark:V.frozen? ⟨c,0,none⟩=false
 own:V.ownsRow B 25 4 s1 accF.length (flatV l1)
 map:V.ownsMap Tryz.prog 3 RT m accR.length D
 row:∀ n v,okI n→rowAt D n=.held v→V.ownsRow B 25 4 v (rowF accR n).length (flatV ((rowF accR n).map (·.1.2)))
 apart:∀ n n' v v' g,okI n→okI n'→n≠n'→rowAt D n=.held v→rowAt D n'=.held v'→v.ownBlock=some g→v'.ownBlock≠some g
 off:∀ n v g,okI n→rowAt D n=.held v→v.ownBlock=some g→s1.ownBlock≠some g
 trees:Trs c m V (Rg lo V.heap.size) l1 (accF.map FV.t)
def GP (c m B lo:Nat) (w0:World) (V:World):Prop:=∃ (acc:List (FV w0)) (s1:Value) (l1:List Value) (D:DataW Value),PD c m B lo acc acc s1 l1 D V
theorem SP.below {c m:Nat} {A V:World} {b:Nat} (hb:Below A.heap.size A V) (h:SP c m A b):SP c m V b:=by
 obtain⟨s,D,k,h1,h2,h3⟩:=h
 exact⟨s,D,k,c_B hb h1,ownsMap_block h2 (hb.block m h2.lt),h3⟩
theorem owns_below {A V:World} {B:Nat} {e:TypeId} {z:Nat} {s:Value} {n:Nat} {xs:List Value} (hb:Below A.heap.size A V) (h:A.ownsRow B e z s n xs):V.ownsRow B e z s n xs :=
 owns_of_block h fun g o hg ho _=>(hb.block g (Array.getElem?_eq_some_iff.1 ho).1).trans ho
theorem Tr.below {c m:Nat} {S:Nat→Prop} {A V:World} (hb:Below A.heap.size A V) {v:Value} {f:FT} (h:Tr c m S A v f):Tr c m S V v f :=
 ⟨h.1.below hb,fun b hs=>⟨Nat.lt_of_lt_of_le (h.2 b hs).1 hb.size,SP.below hb (h.2 b hs).2⟩⟩
theorem Rg.more {lo hi hi':Nat} (h:hi≤hi'):∀ x,Rg lo hi x→Rg lo hi' x:=fun _ hx=>⟨hx.1,Nat.lt_of_lt_of_le hx.2 h⟩
section
variable {c m B lo : Nat} {w0 : World} {accR accF : List (FV w0)} {s1 : Value} {l1 : List Value} {D : DataW Value} {V V' : World}
theorem PD.below (h:PD c m B lo accR accF s1 l1 D V) (hb:Below V.heap.size V V'):PD c m B lo accR accF s1 l1 D V' where
 cell:=c_B hb h.cell
 mark:=by rw[World.frozen?_of_block (hb.block c (lt_of_cell h.cell))];exact h.mark
 own:=owns_below hb h.own
 map:=ownsMap_block h.map (hb.block m h.map.lt)
 row:=fun n v hn hv=>owns_below hb (h.row n v hn hv)
 apart:=h.apart
 off:=h.off
 trees:=Trs.mono (Rg.more hb.size) (Trs.imp (fun _ _ _=>Tr.below hb) h.trees)
theorem PD.safe (h:PD c m B lo accR accF s1 l1 D V) {b:Nat} (hc:b≠c) (hb:b < B∨V.heap.size≤b):SP c m V b :=
 ⟨s1,D,_,h.cell,h.map,hc,fun e=>by have:=h.own.lt _ e;omega,fun n v hn hv e=>by have:=(h.row n v hn hv).lt _ e;omega⟩
end
theorem lives0 (c m B lo:Nat) (w0:World) (hc:w0.heap.size≤c) (hB:c < B):Lives0 w0 (GP c m B lo w0) (SP c m) where
 sb:=fun h _ hs=>hs.below h
 gb:=fun h ⟨acc,s1,l1,D,hp⟩=>⟨acc,s1,l1,D,hp.below h⟩
 fr:=by
  rintro W o ⟨acc,s1,l1,D,hp⟩
  have hl:=lt_of_cell hp.cell
  have hs:SP c m W W.heap.size:=hp.safe (Nat.ne_of_gt hl) (.inr (Nat.le_refl _))
  exact hs.below (bel_laid W o)
 s0:=by
  rintro W b ⟨acc,s1,l1,D,hp⟩ hb
  exact hp.safe (by omega) (.inl (by omega))
theorem KS.put0 {c m:Nat} {G:World→Prop} {K:Nat} {W:World} {l:Nat} {o:Obj} (o':Obj) (hl:W.heap[l]? = some o) (ho:o.isCells=false) (hm:m < l) (hK:l < K) (hG:G W→G (W.putObj l o')):KS G (SP c m) K W (W.putObj l o'):=by
 have hkl:=KL.put (L:=[]) o' hl ho hK
 refine⟨hkl.1,fun b i v _ hc=>⟨hkl.2.1 b i v (by simp) hc,World.frozen?_of_block (World.putObj_heap_other (ne_of_cells hc hl ho))⟩,?_,hG,hkl.2.2⟩
 rintro b hb ⟨s,D,k,h1,h2,h3⟩
 exact⟨s,D,k,hkl.2.1 _ _ _ (by simp) h1,ownsMap_block h2 (World.putObj_heap_other (by omega)),h3⟩
end Go.Proofs.YtngdieldgnlogaaGreatDoor
namespace Go.Proofs.YtngdieldgnlogaaGreatDoor
open Go Go.RowKit Go.Shelf
set_option maxRecDepth 100000
set_option linter.unusedVariables false
theorem rowAt_same {D:DataW Value} (hD:Maps.IsMap D) {n:Int} (hn:okI n) (v:Value):rowAt (D.put (.int .i64 n) (.held v)) n=.held v :=
 Maps.atKey_put_same hD (key3.key (keyOf3 hn)) _ _
theorem rowAt_other {D:DataW Value} {n n':Int} (hne:n'≠n) (v:Value):rowAt (D.put (.int .i64 n) (.held v)) n'=rowAt D n' :=
 Maps.atKey_put_other (by simp[hne]) _ _
theorem rowF_same {w0:World} (acc:List (FV w0)) (x:FV w0):rowF (acc ++ [x]) (x.t.size:Int)=rowF acc (x.t.size:Int) ++ [x]:=by simp[rowF]
theorem rowF_other {w0:World} (acc:List (FV w0)) (x:FV w0) {n:Int} (hn:n≠(x.t.size:Int)):rowF (acc ++ [x]) n=rowF acc n:=by
 have:¬ (x.t.size:Int)=n:=fun e=>hn e.symm
 simp[rowF,this]
theorem Tr.ks {c m:Nat} {S:Nat→Prop} {G:World→Prop} {K:Nat} {A V:World} (hk:KS G (SP c m) K A V) {v:Value} {f:FT} (h:Tr c m S A v f):Tr c m S V v f :=
 ⟨FVSp.keep (fun x i v hs hc=>⟨(hk.2.1 x i v (h.2 x hs).2 hc.1).1,(hk.2.1 x i v (h.2 x hs).2 hc.1).2.trans hc.2⟩) h.1,fun b hs=>⟨Nat.lt_of_lt_of_le (h.2 b hs).1 hk.1,hk.2.2.1 b (h.2 b hs).1 (h.2 b hs).2⟩⟩
section
variable {c m B lo K : Nat} {w0 : World} {accR accF : List (FV w0)} {s1 : Value} {l1 : List Value} {D : DataW Value} {V V2 V3 : World}
theorem PD.cm (h:PD c m B lo accR accF s1 l1 D V):c≠m:=by
 obtain⟨es,cl,hb,-⟩:=h.map
 exact ne_of_cells h.cell hb rfl
theorem PD.rowStep (h:PD c m B lo accR accF s1 l1 D V) (hcB:c < B) (hmB:m < B) (hK:m < K) (x:FV w0) (hn:okI (x.t.size:Int)) {v v':Value} (hv:rowAt D (x.t.size:Int)=.held v)
  (hg:V.grownBy V2 v.ownBlock) (ho:V2.ownsRow B 25 4 v' ((rowF accR (x.t.size:Int)).length+1) (flatV ((rowF accR (x.t.size:Int)).map (·.1.2)) ++ cells4 x.1.2))
  (hob:v'.ownBlock=v.ownBlock∨v'.ownBlock=some V.heap.size) (hmap:V3.ownsMap Tryz.prog 3 RT m (accR.length+1) (D.put (.int .i64 (x.t.size:Int)) (.held v'))) (hg3:V2.grownBy V3 (some m)) :
  PD c m B lo (accR ++ [x]) accF s1 l1 (D.put (.int .i64 (x.t.size:Int)) (.held v')) V3∧KS (fun _=>True) (SP c m) K V V3∧∀ (w:World) (b0:Nat),b0≤m→b0≤V.heap.size→Below b0 w V→Below b0 w V3:=by
 have hcm:=h.cm
 have hcV:=lt_of_cell h.cell
 have hlt:=(h.row _ v hn hv).lt
 have hge:∀ k,v.ownBlock=some k→B≤k:=fun k e=>(hlt k e).1
 have hD:=h.map.isMap
 have hblk:∀ k,k < V.heap.size→v.ownBlock≠some k→k≠m→V3.heap[k]? = V.heap[k]?:=fun k hk h1 h2 =>
  (hg3.block k (Nat.lt_of_lt_of_le hk hg.size) (fun e=>h2 (by cases e;rfl))).trans (hg.block k hk (fun e=>h1 e.symm))
 have hcc:V3.heap[c]? = V.heap[c]?:=hblk c hcV (fun e=>by have:=hge c e;omega) hcm
 have hcell:V3.cell? ⟨c,0,none⟩=some s1:=(World.cell?_of_block hcc).trans h.cell
 have hob':∀ g,v'.ownBlock=some g→v.ownBlock=some g∨g=V.heap.size:=fun g e=>by
  rcases hob with e' | e'
  ·exact .inl (e' ▸ e)
  ·rw[e'] at e;cases e;exact .inr rfl
 have hks:KS (fun _=>True) (SP c m) K V V3:=by
  refine⟨Nat.le_trans hg.size hg3.size,?_,?_,fun _=>trivial,?_⟩
  ·rintro b o u ⟨s,D',k,h1,h2,h3,h4,h5⟩ hc
   have:=ownsMap_D h2 h.map
   subst this
   obtain⟨es,cl,hbm,-⟩:=h.map
   exact⟨(World.cell?_of_block (hblk b (lt_of_cell hc) (h5 _ _ hn hv) (ne_of_cells hc hbm rfl))).trans hc,World.frozen?_of_block (hblk b (lt_of_cell hc) (h5 _ _ hn hv) (ne_of_cells hc hbm rfl))⟩
  ·rintro b hb ⟨s,D',k,h1,h2,h3,h4,h5⟩
   have:=ownsMap_D h2 h.map
   subst this
   rw[h.cell] at h1
   cases h1
   refine⟨s1,_,_,hcell,hmap,h3,h4,fun n u hn' hu e=>?_⟩
   by_cases hnn:n=(x.t.size:Int)
   ·subst hnn
    rw[rowAt_same hD hn] at hu
    cases hu
    rcases hob' b e with e | e
    ·exact h5 _ _ hn hv e
    ·omega
   ·rw[rowAt_other hnn] at hu
    exact h5 _ _ hn' hu e
  ·intro k o hk hko hnc
   refine(hblk k (Array.getElem?_eq_some_iff.1 hko).1 (fun e=>?_) (by omega)).trans hko
   obtain⟨o',ho',hn'⟩:=owns_cells (h.row _ v hn hv) e
   rw[hko] at ho'
   cases ho'
   rw[hnc] at hn'
   cases hn'
 refine⟨?_,hks,fun w b0 h1 h2 hb=>(hb.grown hg h2 (fun k e=>by have:=hge k e;omega)).grown hg3 (Nat.le_trans h2 hg.size) (fun k e=>by cases e;exact h1)⟩
 constructor
 ·exact hcell
 ·rw[World.frozen?_of_block hcc];exact h.mark
 ·refine owns_of_block h.own fun g o hgo hb _=>?_
  refine(hblk g (Array.getElem?_eq_some_iff.1 hb).1 (fun e=>h.off _ _ _ hn hv e hgo) (fun e=>?_)).trans hb
  have:=(h.own.lt g hgo).1
  omega
 ·rw[List.length_append];exact hmap
 ·intro n u hn' hu
  by_cases hnn:n=(x.t.size:Int)
  ·subst hnn
   rw[rowAt_same hD hn] at hu
   cases hu
   rw[rowF_same,List.length_append,List.map_append,List.map_singleton,flatV_snoc]
   refine owns_of_block ho fun g o hgo hb _=>?_
   refine(hg3.block g (Array.getElem?_eq_some_iff.1 hb).1 (fun e=>?_)).trans hb
   have:=(ho.lt g hgo).1
   cases e
   omega
  ·rw[rowAt_other hnn] at hu
   rw[rowF_other _ _ hnn]
   refine owns_of_block (h.row n u hn' hu) fun g o hgo hb _=>?_
   refine(hblk g (Array.getElem?_eq_some_iff.1 hb).1 (fun e=>h.apart _ _ _ _ _ hn' hn hnn hu hv hgo e) (fun e=>?_)).trans hb
   have:=((h.row n u hn' hu).lt g hgo).1
   omega
 ·intro n n' u u' g hn1 hn2 hne hu hu' hg1 hg2
  by_cases h1:n=(x.t.size:Int)
  ·subst h1
   rw[rowAt_same hD hn] at hu
   rw[rowAt_other (Ne.symm hne)] at hu'
   cases hu
   rcases hob' g hg1 with e | e
   ·exact h.apart _ _ _ _ _ hn hn2 hne hv hu' e hg2
   ·have:=((h.row _ _ hn2 hu').lt g hg2).2
    omega
  ·rw[rowAt_other h1] at hu
   by_cases h2:n'=(x.t.size:Int)
   ·subst h2
    rw[rowAt_same hD hn] at hu'
    cases hu'
    rcases hob' g hg2 with e | e
    ·exact h.apart _ _ _ _ _ hn1 hn hne hu hv hg1 e
    ·have:=((h.row _ _ hn1 hu).lt g hg1).2
     omega
   ·rw[rowAt_other h2] at hu'
    exact h.apart _ _ _ _ _ hn1 hn2 hne hu hu' hg1 hg2
 ·intro n u g hn' hu hg1 hg2
  by_cases h1:n=(x.t.size:Int)
  ·subst h1
   rw[rowAt_same hD hn] at hu
   cases hu
   rcases hob' g hg1 with e | e
   ·exact h.off _ _ _ hn hv e hg2
   ·have:=(h.own.lt g hg2).2
    omega
  ·rw[rowAt_other h1] at hu
   exact h.off _ _ _ hn' hu hg1 hg2
 ·exact Trs.mono (Rg.more hks.1) (Trs.imp (fun _ _ _=>Tr.ks hks) h.trees)
theorem PD.firstStep (h:PD c m B lo accR accF s1 l1 D V) (hcB:c < B) (hmB:m < B) (x:FV w0) {s1' vc:Value} (hsz:V.heap.size≤V3.heap.size) (hblk:∀ k,k < V.heap.size→k≠c→s1.ownBlock≠some k→V3.heap[k]? = V.heap[k]?)
  (hcell:V3.cell? ⟨c,0,none⟩=some s1') (hmark:V3.frozen? ⟨c,0,none⟩=false) (ho:V3.ownsRow B 25 4 s1' (accF.length+1) (flatV l1 ++ cells4 vc)) (hob:s1'.ownBlock=s1.ownBlock∨∃ g,V.heap.size≤g∧s1'.ownBlock=some g)
  {z:Nat} (hlz:lo≤z) (hz:∃ A:World,A.heap.size=z∧PD c m B lo accR accF s1 l1 D A∧Below A.heap.size A V) (ht:Tr c m (Rg z V.heap.size) V vc x.t):PD c m B lo accR (accF ++ [x]) s1' (l1 ++ [vc]) D V3∧KS (fun _=>True) (SP c m) K V V3:=by
 have hcm:=h.cm
 have hml:=h.map.lt
 have hgeo:∀ k,s1.ownBlock=some k→B≤k:=fun k e=>(h.own.lt k e).1
 have hm3:V3.heap[m]? = V.heap[m]?:=hblk m hml (Ne.symm hcm) (fun e=>by have:=hgeo m e;omega)
 have hob':∀ g,s1'.ownBlock=some g→s1.ownBlock=some g∨V.heap.size≤g:=fun g e=>by
  rcases hob with e' | ⟨g',hg',e'⟩
  ·exact .inl (e' ▸ e)
  ·rw[e'] at e;cases e;exact .inr hg'
 have hks:KS (fun _=>True) (SP c m) K V V3:=by
  refine⟨hsz,?_,?_,fun _=>trivial,?_⟩
  ·rintro b o u ⟨s,D',k,h1,h2,h3,h4,h5⟩ hc
   rw[h.cell] at h1
   cases h1
   exact⟨(World.cell?_of_block (hblk b (lt_of_cell hc) h3 h4)).trans hc,World.frozen?_of_block (hblk b (lt_of_cell hc) h3 h4)⟩
  ·rintro b hb ⟨s,D',k,h1,h2,h3,h4,h5⟩
   rw[h.cell] at h1
   cases h1
   refine⟨s1',D',k,hcell,ownsMap_block h2 hm3,h3,fun e=>?_,h5⟩
   rcases hob' b e with e | e
   ·exact h4 e
   ·omega
  ·intro k o hk hko hnc
   refine(hblk k (Array.getElem?_eq_some_iff.1 hko).1 (Ne.symm (ne_of_cells h.cell hko hnc)) (fun e=>?_)).trans hko
   obtain⟨o',ho',hn'⟩:=owns_cells h.own e
   rw[hko] at ho'
   cases ho'
   rw[hnc] at hn'
   cases hn'
 refine⟨?_,hks⟩
 constructor
 ·exact hcell
 ·exact hmark
 ·rw[List.length_append,flatV_snoc];exact ho
 ·exact ownsMap_block h.map hm3
 ·intro n u hn' hu
  refine owns_of_block (h.row n u hn' hu) fun g o hgo hb _=>?_
  refine(hblk g (Array.getElem?_eq_some_iff.1 hb).1 (fun e=>?_) (h.off _ _ _ hn' hu hgo)).trans hb
  have:=((h.row n u hn' hu).lt g hgo).1
  omega
 ·exact h.apart
 ·intro n u g hn' hu hg1 hg2
  rcases hob' g hg2 with e | e
  ·exact h.off _ _ _ hn' hu hg1 e
  ·have:=((h.row _ _ hn' hu).lt g hg1).2
   omega
 ·rw[List.map_append]
  obtain⟨A,rfl,hA,hbA⟩:=hz
  have hz':=hbA.size
  exact Trs.snoc (Tr.ks hks ht) (fun x hx=>⟨⟨Nat.le_trans hlz hx.1,Nat.lt_of_lt_of_le hx.2 hks.1⟩,fun h'=>by have:=h'.2;have:=hx.1;omega⟩) (Rg.more (Nat.le_trans hz' hks.1)) (Trs.imp (fun _ _ _ h=>Tr.ks hks (h.below hbA)) hA.trees)
end
def hideLow (V:World) (z:Nat):World:={ V with heap:=V.heap.mapIdx fun i o=>if i < z then .deferred none else o }
theorem hideLow_cell {V:World} {z b o:Nat} {u:Value} (h:(hideLow V z).cell? ⟨b,o,none⟩=some u):z≤b∧V.cell? ⟨b,o,none⟩=some u:=by
 unfold World.cell? hideLow at h
 simp only[Array.getElem?_mapIdx] at h
 cases hb:V.heap[b]? with
 | none=>simp[hb] at h
 | some ob =>
  by_cases hz:b < z
  ·simp[hb,hz] at h
  ·refine⟨by omega,?_⟩
   unfold World.cell?
   simp only[hb,Option.map_some,if_neg hz] at h ⊢
   exact h
theorem hideLow_keep {V:World} {z b o:Nat} {u:Value} (hz:z≤b) (h:V.cell? ⟨b,o,none⟩=some u):(hideLow V z).cell? ⟨b,o,none⟩=some u:=by
 unfold World.cell? at h ⊢
 unfold hideLow
 simp only[Array.getElem?_mapIdx]
 cases hb:V.heap[b]? with
 | none=>simp[hb] at h
 | some ob =>
  have:¬ b < z:=by omega
  simp only[hb,Option.map_some,if_neg this] at h ⊢
  exact h
theorem tr_new {c m B lo:Nat} {w0:World} {accR accF:List (FV w0)} {s1:Value} {l1:List Value} {D:DataW Value} {V V2:World} (h:PD c m B lo accR accF s1 l1 D V) (hb:Below V.heap.size V V2) {f:FT} {v:Value} {z y:Nat} (hlo:V.heap.size≤z) (hy:y≤V2.heap.size) (ho:FVSp V2 f v (Rg z y)):Tr c m (Rg z V2.heap.size) V2 v f:=by
 have hcV:=lt_of_cell h.cell
 exact⟨ho.mono (Rg.more hy),fun b hs=>⟨hs.2,(h.safe (by have:=hs.1;omega) (.inr (Nat.le_trans hlo hs.1))).below hb⟩⟩
def toFs:List FT→Fs
 | []=>.nil
 | f :: r=>.cons f.op f.n f.ts f.sub (toFs r)
theorem toFs_len:∀ l:List FT,(toFs l).len=l.length
 | []=>rfl
 | _ :: r=>by simp[toFs,Fs.len,toFs_len r]
theorem toFs_has:∀ (l:List FT) (g:FT),(toFs l).has g=l.any fun f=>cmpForm f g == 0
 | [],_=>rfl
 | f :: r,g=>by simp[toFs,Fs.has,toFs_has r g]
theorem toFs_size {N:Nat}:∀ (l:List FT),(∀ f∈l,f.size≤N)→(toFs l).size≤l.length*N
 | [],_=>by simp[toFs,Fs.size]
 | f :: r,h=>by
  have h1:=h f (by simp)
  have h2:=toFs_size r (fun x hx=>h x (by simp[hx]))
  simp only[toFs,Fs.size,List.length_cons,FT.size] at h1 ⊢
  rw[Nat.add_mul]
  omega
theorem TsAt.kept {w W:World} (hb:Ext w W):∀ {t:Ts} {b o:Nat},TsAt w t b o→TsAt W t b o
 | .nil,_,_,_=>trivial
 | .cons _ _ _ _,_,_,⟨h0,h1,⟨s,h2,hs⟩,hr⟩=>⟨hb _ _ _ h0,hb _ _ _ h1,⟨s,hb _ _ _ h2,hs.imp fun _ _ h=>TsAt.kept hb h⟩,TsAt.kept hb hr⟩
theorem FsAt.kept {w W:World} (hb:Ext w W):∀ {t:Fs} {b o:Nat},FsAt w t b o→FsAt W t b o
 | .nil,_,_,_=>trivial
 | .cons _ _ _ _ _,_,_,⟨h0,h1,⟨s,h2,hs⟩,⟨s',h3,hs'⟩,hr⟩=>⟨hb _ _ _ h0,hb _ _ _ h1,⟨s,hb _ _ _ h2,hs.imp fun _ _ h=>TsAt.kept hb h⟩,⟨s',hb _ _ _ h3,hs'.imp fun _ _ h=>FsAt.kept hb h⟩,FsAt.kept hb hr⟩
theorem rowAt_tree {w0 V:World} (hE:Ext w0 V) {g:Nat}:∀ (l:List (FV w0)) (o:Nat),(∀ j u,(flatV (l.map (·.1.2)))[j]? = some u→V.cell? ⟨g,o+j,none⟩=some u)→FsAt V (toFs (l.map FV.t)) g o
 | [],_,_=>trivial
 | x :: r,o,h=>by
  obtain⟨sa,ss,hv,h1,h2⟩:=x.2
  have hf:flatV ((x :: r).map (·.1.2))=[.int .u8 x.t.op,.string x.t.n,sa,ss] ++ flatV (r.map (·.1.2)):=by
   simp only[flatV,List.map_cons,List.flatMap_cons,hv,cells4]
   rfl
  rw[hf] at h
  simp only[List.map_cons,toFs,FsAt]
  refine⟨h 0 _ rfl,h 1 _ rfl,⟨sa,h 2 _ rfl,h1.imp fun b o hh=>?_⟩,⟨ss,h 3 _ rfl,h2.imp fun b o hh=>?_⟩,rowAt_tree hE r (o+4) fun j u hj=>?_⟩
  ·exact TsAt.kept hE hh
  ·exact FsAt.kept hE hh
  ·rw[show o+4+j=o+(j+4) by omega]
   exact h (j+4) u (by simpa using hj)
theorem row_reads {w0 V:World} (hE:Ext w0 V) {B:Nat} {v:Value} {l:List (FV w0)} (h:V.ownsRow B 25 4 v l.length (flatV (l.map (·.1.2)))):FSl V (toFs (l.map FV.t)) v:=by
 have hl:=toFs_len (l.map FV.t)
 rw[List.length_map] at hl
 obtain⟨h1,⟨rfl,h0⟩ | ⟨g,cap,cur,rfl,h2,h3,h4⟩⟩:=id h
 ·rw[h0] at hl
  exact⟨none,0,by rw[hl],.inl hl⟩
 ·refine⟨some ⟨g,0,none⟩,cap,by rw[hl],.inr ⟨g,0,rfl,rowAt_tree hE l 0 fun j u hj=>?_⟩⟩
  have:=h.cells (g:=g) rfl j u hj
  rw[Nat.zero_add]
  by_cases hj0:j=0
  ·subst hj0;simpa[Addr.add] using this
  ·simpa[Addr.add,hj0] using this
def pick {w0:World} (acc:List (FV w0)) (x:FV w0):List (FV w0):=if ((rowF acc (x.t.size:Int)).map FV.t).any (fun f=>cmpForm f x.t == 0) then acc else acc ++ [x]
def picked {w0:World} (l:List (FV w0)):List (FV w0):=l.foldl pick []
theorem picked_snoc {w0:World} (l:List (FV w0)) (x:FV w0):picked (l ++ [x])=pick (picked l) x:=by simp[picked]
theorem picked_len {w0:World} (l:List (FV w0)):(picked l).length≤l.length:=by
 have:∀ (l acc:List (FV w0)),(l.foldl pick acc).length≤acc.length+l.length:=by
  intro l
  induction l with
  | nil=>intro acc;simp
  | cons x r ih =>
   intro acc
   rw[List.foldl_cons,List.length_cons]
   have h1:=ih (pick acc x)
   have h2:(pick acc x).length≤acc.length+1:=by unfold pick;split<;>simp
   omega
 simpa[picked] using this l []
theorem picked_sub {w0:World} (l:List (FV w0)):∀ x∈picked l,x∈l:=by
 have:∀ (l acc:List (FV w0)),∀ x∈l.foldl pick acc,x∈acc∨x∈l:=by
  intro l
  induction l with
  | nil=>intro acc x hx;exact .inl hx
  | cons y r ih =>
   intro acc x hx
   rw[List.foldl_cons] at hx
   rcases ih _ x hx with h | h
   ·unfold pick at h
    split at h
    ·exact .inl h
    ·simp only[List.mem_append,List.mem_singleton] at h
     rcases h with h | h
     ·exact .inl h
     ·exact .inr (by simp[h])
   ·exact .inr (by simp[h])
 intro x hx
 rcases this l [] x hx with h | h
 ·cases h
 ·exact h
def pickT (acc:List FT) (f:FT):List FT:=if (acc.filter fun g=>decide ((g.size:Int)=(f.size:Int))).any (fun g=>cmpForm g f == 0) then acc else acc ++ [f]
def pickedT (l:List FT):List FT:=l.foldl pickT []
theorem pick_t {w0:World} (acc:List (FV w0)) (x:FV w0):(pick acc x).map FV.t=pickT (acc.map FV.t) x.t:=by
 have e:(rowF acc (x.t.size:Int)).map FV.t=(acc.map FV.t).filter fun g=>decide ((g.size:Int)=(x.t.size:Int)):=by
  rw[List.filter_map];rfl
 unfold pick pickT
 rw[e]
 split<;>simp
theorem picked_t {w0:World} (l:List (FV w0)):(picked l).map FV.t=pickedT (l.map FV.t):=by
 have:∀ (l acc:List (FV w0)),(l.foldl pick acc).map FV.t=(l.map FV.t).foldl pickT (acc.map FV.t):=by
  intro l
  induction l with
  | nil=>intro acc;rfl
  | cons x r ih=>intro acc;rw[List.foldl_cons,List.map_cons,List.foldl_cons,ih,pick_t]
 exact this l []
end Go.Proofs.YtngdieldgnlogaaGreatDoor
namespace Go.Proofs.YtngdieldgnlogaaGreatDoor
open Go Go.RowKit
set_option maxRecDepth 100000
section
variable {P : Program} {a : Act} {w w' : World} {o : Oper} {v u : Value}
theorem ex_load {t:TypeId} {x:Operand} (hop:o.op=.load t x) (hx:a.eval x=u) (hr:(Instr.loadAt t u).run P w=.ok v w):(execOp a.eval o).run P w=.ok (.value v) w:=by
 simp[execOp,hop,hx,hr,Result.andThen]
theorem ex_move {x:Operand} (hop:o.op=.move x) (hx:a.eval x=v):(execOp a.eval o).run P w=.ok (.value v) w:=by
 simp[execOp,hop,hx]
theorem ex_assign {x:Operand} (hop:o.op=.assign x) (hx:a.eval x=v):(execOp a.eval o).run P w=.ok (.value v) w:=by
 simp[execOp,hop,hx]
theorem ex_lookup {t:TypeId} {x y:Operand} {r:Value} (hop:o.op=.lookup t x y false) (hx:a.eval x=u) (hy:a.eval y=r) (hr:(Instr.lookup t u r false).run P w=.ok v w):(execOp a.eval o).run P w=.ok (.value v) w:=by
 simp[execOp,hop,hx,hy,hr,Result.andThen]
theorem ex_buildSlice {t:TypeId} {n:Nat} {x:Operand} (hop:o.op=.buildSlice t n #[(0,x)]) (hx:a.eval x=u) (hr:(Instr.buildSlice t n #[(0,u)]).run P w=.ok v w'):(execOp a.eval o).run P w=.ok (.value v) w':=by
 simp[execOp,hop,hx,hr,Result.andThen]
theorem ex_append {t:TypeId} {x y:Operand} {r:Value} (hop:o.op=.call { callee:=.builtin .append,args:=#[x,y],argTypes:=#[t,t] }) (hx:a.eval x=u) (hy:a.eval y=r) (hr:(Builtin.append_ #[t,t] o.type #[u,r]).run P w=.ok v w') :
  (execOp a.eval o).run P w=.ok (.value v) w':=by
 simp[execOp,hop,resolve,invoke,builtin,hx,hy,hr,Result.andThen]
theorem ex_mapUpdate {t:TypeId} {x y z:Operand} {r s:Value} (hop:o.op=.mapUpdate t x y z) (hx:a.eval x=u) (hy:a.eval y=r) (hz:a.eval z=s) (hr:(Instr.mapUpdate t u r s).run P w=.ok () w'):(execOp a.eval o).run P w=.ok .skip w':=by
 simp[execOp,hop,hx,hy,hz,hr,Result.andThen]
theorem ex_store {t:TypeId} {x y:Operand} {r:Value} (hop:o.op=.store t x y) (hx:a.eval x=u) (hy:a.eval y=r) (hr:(Instr.storeAt t u r).run P w=.ok () w'):(execOp a.eval o).run P w=.ok .skip w':=by
 simp[execOp,hop,hx,hy,hr,Result.andThen]
theorem ex_indexAddr {t:TypeId} {x y:Operand} {r:Value} (hop:o.op=.indexAddr t x y) (hx:a.eval x=u) (hy:a.eval y=r) (hr:(Instr.indexAt t u r).run P w=.ok v w):(execOp a.eval o).run P w=.ok (.value v) w:=by
 simp[execOp,hop,hx,hy,hr,Result.andThen]
end
theorem heap_setCells_at (g:Nat) (e:TypeId):∀ (vs:List Value) (o:Nat) (w:World) (cur:Array Value),w.heap[g]? = some (.cells cur e (0,0)) →
  ∃ cur':Array Value,(w.setCells g o vs).heap[g]? = some (.cells cur' e (0,0))∧cur'.size=cur.size∧∀ j,j < cur.size→cur'[j]? = if o≤j∧j < o+vs.length then vs[j - o]? else cur[j]?
 | [],o,w,cur,h=>⟨cur,h,rfl,fun j _=>by rw[if_neg (by simp)]⟩
 | v :: r,o,w,cur,h=>by
  obtain⟨cur',h1,h2,h3⟩:=heap_setCells_at g e r (o+1) (w.setCell ⟨g,o,none⟩ v) _ (heap_setCell_same w g o cur e v h)
  refine⟨cur',h1,by simpa using h2,fun j hj=>?_⟩
  rw[h3 j (by simpa using hj)]
  by_cases h4:o+1≤j∧j < o+1+r.length
  ·rw[if_pos h4,if_pos (by simp;omega)]
   obtain⟨k,hk⟩:∃ k,j=o+1+k:=⟨j - (o+1),by omega⟩
   subst hk
   rw[show o+1+k - (o+1)=k by omega,show o+1+k - o=k+1 by omega]
   rfl
  ·rw[if_neg h4]
   by_cases h5:j=o
   ·subst h5
    rw[if_pos (by simp)]
    simp[hj]
   ·rw[if_neg (by simp;omega),Array.getElem?_setIfInBounds_ne (by omega)]
theorem row_store {W:World} {B n:Nat} {s:Value} {xs zs vs:List Value} (h:W.ownsRow B 25 4 s (n+1) (xs ++ zs)) (hx:xs.length=n*4) (hv:vs.length=4) {g:Nat} (hg:s.ownBlock=some g) :
  (W.setCells g (n*4) vs).ownsRow B 25 4 s (n+1) (xs ++ vs)∧W.there g (n*4) 4:=by
 obtain⟨h0,⟨-,hz⟩ | ⟨g',cap,cur,rfl,h1,h2,h3,h4,h5,h6⟩⟩:=h
 ·omega
 obtain rfl:g=g':=by cases hg;rfl
 obtain⟨cur',e1,e2,e3⟩:=heap_setCells_at g 25 vs (n*4) W cur h2
 have hsz:(n+1)*4≤cur.size:=by rw[h5];exact Nat.mul_le_mul_right _ h3
 refine⟨⟨by rw[List.length_append,hx,hv];omega,.inr ⟨g,cap,cur',rfl,h1,e1,h3,h4,e2.trans h5,?_⟩⟩,fun j hj=>⟨?_,?_⟩⟩
 ·apply List.ext_getElem?
  intro j
  by_cases hj:j < (n+1)*4
  ·have hjs:j < cur.size:=by omega
   have k1:=e3 j hjs
   rw[List.getElem?_take_of_lt hj,Array.getElem?_toList,k1]
   by_cases hq:n*4≤j
   ·rw[if_pos ⟨hq,by omega⟩,List.getElem?_append_right (by omega),hx]
   ·rw[if_neg (by omega),List.getElem?_append_left (by omega)]
    have:=congrArg (fun l=>l[j]?) h6
    rw[List.getElem?_take_of_lt hj,Array.getElem?_toList,List.getElem?_append_left (by omega)] at this
    exact this
  ·rw[List.getElem?_eq_none (by simp;omega),List.getElem?_eq_none (by simp[hx,hv];omega)]
 ·have:n*4+j < cur.size:=by omega
  unfold World.cell?
  rw[show W.heap[(⟨g,n*4+j,none⟩:Addr).block]? = W.heap[g]? from rfl,h2]
  simp[this]
 ·unfold World.frozen?
  rw[show W.heap[(⟨g,n*4+j,none⟩:Addr).block]? = W.heap[g]? from rfl,h2]
  simp
theorem build_one (w:World) (c0 c1 c2 c3:Value):(Instr.buildSlice 23 1 #[(0,.agg #[c0,c1,c2,c3])]).run Tryz.prog w=.ok (.slice (some ⟨w.heap.size,0,none⟩) 1 1) (w.alloc (.cells #[c0,c1,c2,c3] 25)):=by
 simp[Instr.buildSlice,go_sem]
end Go.Proofs.YtngdieldgnlogaaGreatDoor
