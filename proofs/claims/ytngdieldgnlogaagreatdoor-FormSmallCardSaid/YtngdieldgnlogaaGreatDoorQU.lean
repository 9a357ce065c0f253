/- Parts. What more operations do. A drawn region in which every operation leaves what is known beforehand: the frame behind it, written out. -/
import Derived.Test.YtngdieldgnlogaaGreatDoorMV
import Derived.Test.YtngdieldgnlogaaGreatDoorMH
import Derived.Test.YtngdieldgnlogaaGreatDoorQS
import Derived.Carry
import Derived.Test.YtngdieldgnlogaaGreatDoorMS
namespace Go.Proofs.YtngdieldgnlogaaGreatDoor
open Go Go.RowKit Go.Shelf
set_option maxRecDepth 100000
set_option linter.unusedVariables false
attribute [local go_sem] Oper.semAt_some run_makeMap
section
variable {c m B lo K : Nat} {w0 : World} {accR accF : List (FV w0)} {s1 : Value} {l1 : List Value} {D : DataW Value} {V V' : World} {row : Option Nat}
theorem SP.grown {b:Nat} (h:SP c m V b) (hg:V.grownBy V' row) (hr:∀ r,row=some r→m < r∧∃ o:Obj,V.heap[r]? = some o∧o.isCells=false):SP c m V' b:=by
 obtain⟨s,D,k,h1,h2,h3⟩:=h
 exact⟨s,D,k,cell_kept h1 hg (fun r e=>(hr r e).2),ownsMap_block h2 (hg.block m h2.lt (fun e=>by have:=(hr m e.symm).1;omega)),h3⟩
theorem owns_grown {e:TypeId} {z:Nat} {s:Value} {n:Nat} {xs:List Value} (h:V.ownsRow B e z s n xs) (hg:V.grownBy V' row) (hr:∀ r,row=some r→∃ o:Obj,V.heap[r]? = some o∧o.isCells=false):V'.ownsRow B e z s n xs :=
 owns_of_block h fun g o hgo hb hc=>(hg.block g (Array.getElem?_eq_some_iff.1 hb).1 (fun e=>by
  obtain⟨o',ho',hn⟩:=hr g e.symm
  rw[hb] at ho'
  cases ho'
  rw[hc] at hn
  cases hn)).trans hb
theorem PD.grown (h:PD c m B lo accR accF s1 l1 D V) (hg:V.grownBy V' row) (hr:∀ r,row=some r→m < r∧∃ o:Obj,V.heap[r]? = some o∧o.isCells=false):PD c m B lo accR accF s1 l1 D V' where
 cell:=cell_kept h.cell hg (fun r e=>(hr r e).2)
 mark:=(frozen_kept h.cell hg (fun r e=>(hr r e).2)).trans h.mark
 own:=owns_grown h.own hg (fun r e=>(hr r e).2)
 map:=ownsMap_block h.map (hg.block m h.map.lt (fun e=>by have:=(hr m e.symm).1;omega))
 row:=fun n v hn hv=>owns_grown (h.row n v hn hv) hg (fun r e=>(hr r e).2)
 apart:=h.apart
 off:=h.off
 trees:=Trs.mono (Rg.more hg.size) (Trs.imp (fun S v f ⟨h1,h2⟩=>⟨FVSp.keep (fun x i v hs hc=>⟨cell_kept hc.1 hg (fun r e=>(hr r e).2),(frozen_kept hc.1 hg (fun r e=>(hr r e).2)).trans hc.2⟩) h1,fun b hs=>⟨Nat.lt_of_lt_of_le (h2 b hs).1 hg.size,(h2 b hs).2.grown hg hr⟩⟩) h.trees)
end
def Sps (V:World):(Nat→Prop)→List Value→List FT→Prop
 | _,[],[]=>True
 | S,v :: l,f :: r=>∃ S1 S2:Nat→Prop,(∀ x,S1 x→S x)∧(∀ x,S2 x→S x∧¬ S1 x)∧FVSp V f v S1∧Sps V S2 l r
 | _,_,_=>False
theorem Trs.sps {c m:Nat} {V:World} {s:Value} (hc:V.cell? ⟨c,0,none⟩=some s):∀ {S:Nat→Prop} {l:List Value} {r:List FT},Trs c m V S l r→Sps V (fun x=>S x∧s.ownBlock≠some x) l r
 | _,[],[],_=>trivial
 | S,_ :: _,_ :: _,⟨S1,S2,q1,q2,h1,h2⟩=>by
  refine⟨S1,_,fun x hx=>⟨q1 x hx,?_⟩,fun x hx=>⟨⟨(q2 x hx.1).1,hx.2⟩,(q2 x hx.1).2⟩,h1.1,Trs.sps hc h2⟩
  obtain⟨s',D,k,h1,-,-,h4,-⟩:=(h1.2 x hx).2
  rw[hc] at h1
  cases h1
  exact h4
def PartsR (f:FT) (lo:Nat) (s:Value) (V:World):Prop :=
 (1000 < f.size∧s=.slice none 0 0)∨(f.size≤1000∧∃ l1:List Value,V.ownsRow lo 25 4 s (pickedT f.parts).length (flatV l1)∧Sps V (fun x=>Rg lo V.heap.size x∧s.ownBlock≠some x) l1 (pickedT f.parts))
def PI (c m c4 B lo:Nat) (w:World) (pre:List (FV w)) (V:World):Prop:=(∃ s1 l1 D,PD c m B lo (picked pre) (picked pre) s1 l1 D V)∧V.cell? ⟨c4,0,none⟩=some (.map (some m))∧Below w.heap.size w V
theorem grown_put (V:World) (l:Nat) (o':Obj):V.grownBy (V.putObj l o') (some l) :=
 ⟨rfl,rfl,rfl,by simp[World.putObj],fun k _ hk=>World.putObj_heap_other (fun e=>hk (by rw[e]))⟩
theorem GP.put {c m B lo:Nat} {w0 V:World} {l:Nat} {o:Obj} (o':Obj) (hm:m < l) (hl:V.heap[l]? = some o) (ho:o.isCells=false) (h:GP c m B lo w0 V):GP c m B lo w0 (V.putObj l o'):=by
 obtain⟨acc,s1,l1,D,hp⟩:=h
 exact⟨acc,s1,l1,D,hp.grown (grown_put V l o') (fun r e=>by cases e;exact⟨hm,o,hl,ho⟩)⟩
theorem PI.put {c m c4 B lo:Nat} {w V:World} {pre:List (FV w)} (h:PI c m c4 B lo w pre V):GP c m B lo w V:=by
 obtain⟨⟨s1,l1,D,hp⟩,-⟩:=h
 exact⟨_,s1,l1,D,hp⟩
theorem mem_subs_le:∀ {l:Fs} {p:FT},p∈l.parts→p.size≤l.size
 | .cons op n ts sub r,p,h=>by
  simp only[Fs.parts,List.mem_cons,List.mem_append] at h
  simp only[Fs.size]
  rcases h with rfl | h | h
  ·simp only[FT.size];omega
  ·have:=mem_subs_le h
   omega
  ·have:=mem_subs_le h
   omega
theorem mem_parts_le {f p:FT} (h:p∈f.parts):p.size≤f.size:=by
 simp only[FT.parts,List.mem_cons] at h
 rcases h with rfl | h
 ·exact Nat.le_refl _
 ·have:=mem_subs_le h
  have e:f.size=f.ts.size+f.sub.size+1:=rfl
  omega
theorem owns_base {V:World} {B B':Nat} {e:TypeId} {z:Nat} {s:Value} {n:Nat} {xs:List Value} (hB:B'≤B) (h:V.ownsRow B e z s n xs):V.ownsRow B' e z s n xs:=by
 obtain⟨h0,⟨rfl,hz⟩ | ⟨g,cap,cur,rfl,h1,h2⟩⟩:=h
 ·exact⟨h0,.inl ⟨rfl,hz⟩⟩
 ·exact⟨h0,.inr ⟨g,cap,cur,rfl,Nat.le_trans hB h1,h2⟩⟩
def App (B:Nat) {w0:World} (row:List (FV w0)) (vx v:Value) (V2:World) (u:Value) (W:World):Prop :=
 ∃ Wa Wb,Below V2.heap.size V2 Wa∧Wa.grownBy Wb v.ownBlock∧Wb.ownsRow B 25 4 u (row.length+1) (flatV (row.map (·.1.2)) ++ cells4 vx)∧(u.ownBlock=v.ownBlock∨u.ownBlock=some Wa.heap.size)∧Below Wb.heap.size Wb W
def VTa (c bx:Nat) (n:Int) (v vx:Value) (cx:List Value) (z:Nat) (d:Nat) (u:Value) (W:World):Prop :=
 if d=3 then u=.pointer (some ⟨c,0,none⟩)
 else if d=4 then u=.pointer (some ⟨c+1+1,0,none⟩)
 else if d=5 then u=.pointer (some ⟨bx,0,none⟩)
 else if d=6∨d=25∨d=27 then u=.int .i64 n
 else if d=24∨d=26 then u=.map (some (c+1))
 else if d=28 then u=v
 else if d=29 then u=vx
 else if d=30 then ∃ g,u=.slice (some ⟨g,0,none⟩) 1 1∧z≤g∧W.rangeAt g 0 cx
 else True
def Ia (c m bx B z:Nat) {w0:World} (row:List (FV w0)) (vx v:Value) (cx:List Value) (D:DataW Value) (k:Nat) (V2:World) (L:Array Bool) (a:Act) (W:World):Prop :=
 W.cell? ⟨c+1+1,0,none⟩=some (.map (some m))∧W.rangeAt bx 0 cx∧W.ownsMap Tryz.prog 3 RT m k D∧z≤W.heap.size∧(L.getD 7 false=false→Below V2.heap.size V2 W)∧(L.getD 7 false=true→∃ u,a.tmps[31]? = some u∧App B row vx v V2 u W)
section
variable {c m bx B z k : Nat} {w0 : World} {row : List (FV w0)} {vx v : Value} {cx : List Value} {D : DataW Value} {V2 W W' : World} {L : Array Bool} {a : Act}
theorem App.below {u:Value} (h:App B row vx v V2 u W) (hb:Below W.heap.size W W'):App B row vx v V2 u W':=by
 obtain⟨Wa,Wb,h1,h2,h3,h4,h5⟩:=h
 exact⟨Wa,Wb,h1,h2,h3,h4,bS h5 hb⟩
theorem range_below {g o:Nat} {l:List Value} (h:W.rangeAt g o l) (hb:Below W.heap.size W W'):W'.rangeAt g o l:=fun j u hj=>c_B hb (h j u hj)
theorem Ia.step (h:Ia c m bx B z row vx v cx D k V2 L a W) {i d:Nat} (hi:i≠7) (hd:d≠31) (u:Value) (hb:Below W.heap.size W W'):Ia c m bx B z row vx v cx D k V2 (L.setIfInBounds i true) (a.put (some d) u) W':=by
 obtain⟨h1,h2,h3,h4,h5,h6⟩:=h
 refine⟨c_B hb h1,range_below h2 hb,ownsMap_block h3 (hb.block m h3.lt),Nat.le_trans h4 hb.size,fun hl=>?_,fun hl=>?_⟩
 ·rw[getD_set_ne false hi] at hl
  exact bS (h5 hl) hb
 ·rw[getD_set_ne false hi] at hl
  obtain⟨y,hy,ha⟩:=h6 hl
  exact⟨y,by simpa[Act.put,Array.getElem?_setIfInBounds_ne hd] using hy,ha.below hb⟩
theorem grow_refl (W:World) (row:Option Nat):W.grownBy W row:=⟨rfl,rfl,rfl,Nat.le_refl _,fun _ _ _=>rfl⟩
theorem grow_below (hb:Below W.heap.size W W') (row:Option Nat):W.grownBy W' row:=⟨hb.os,hb.tape,hb.output,hb.size,fun k hk _=>hb.block k hk⟩
end
theorem VTa.grow {c bx:Nat} {n:Int} {v vx:Value} {cx:List Value} {z d:Nat} {u:Value} {A B:World} (hg:A.grownBy B v.ownBlock) (hv:∀ g,v.ownBlock=some g→g < z) (h:VTa c bx n v vx cx z d u A):VTa c bx n v vx cx z d u B:=by
 unfold VTa at h ⊢
 by_cases h3:d=3
 ·rw[if_pos h3] at h ⊢;exact h
 rw[if_neg h3] at h ⊢
 by_cases h4:d=4
 ·rw[if_pos h4] at h ⊢;exact h
 rw[if_neg h4] at h ⊢
 by_cases h5:d=5
 ·rw[if_pos h5] at h ⊢;exact h
 rw[if_neg h5] at h ⊢
 by_cases h6:d=6∨d=25∨d=27
 ·rw[if_pos h6] at h ⊢;exact h
 rw[if_neg h6] at h ⊢
 by_cases h7:d=24∨d=26
 ·rw[if_pos h7] at h ⊢;exact h
 rw[if_neg h7] at h ⊢
 by_cases h8:d=28
 ·rw[if_pos h8] at h ⊢;exact h
 rw[if_neg h8] at h ⊢
 by_cases h9:d=29
 ·rw[if_pos h9] at h ⊢;exact h
 rw[if_neg h9] at h ⊢
 by_cases h10:d=30
 ·rw[if_pos h10] at h ⊢
  obtain⟨g,h1,h2,h3⟩:=h
  exact⟨g,h1,h2,fun j x hj=>hg.cell (h3 j x hj) (fun e=>by have:=hv g e.symm;omega)⟩
 ·rw[if_neg h10] at h ⊢;exact h
theorem KS.withG {G:World→Prop} {Sf:World→Nat→Prop} {K:Nat} {A B:World} (h:KS (fun _=>True) Sf K A B) (hg:G B):KS G Sf K A B:=⟨h.1,h.2.1,h.2.2.1,fun _=>hg,h.2.2.2.2⟩
theorem KS.noG {G:World→Prop} {Sf:World→Nat→Prop} {K:Nat} {A B:World} (h:KS G Sf K A B):KS (fun _=>True) Sf K A B:=⟨h.1,h.2.1,h.2.2.1,fun _=>trivial,h.2.2.2.2⟩
theorem KS.bel0 {c m K:Nat} {A B:World} (h:Below A.heap.size A B):KS (fun _=>True) (SP c m) K A B :=
 ⟨h.size,fun b o _ _ hc=>⟨c_B h hc,h.frozen (p:=⟨b,o,none⟩) (lt_of_cell hc)⟩,fun _ _ hs=>hs.below h,fun _=>trivial,fun k _ _ ho _=>(h.block k (Array.getElem?_eq_some_iff.1 ho).1).trans ho⟩
theorem load88 {W:World} {g:Nat} {v:Value} (h:W.cell? ⟨g,0,none⟩=some v):(Instr.loadAt 67 (.pointer (some ⟨g,0,none⟩))).run Tryz.prog W=.ok v W:=by
 simp[Instr.loadAt,go_sem,h]
theorem load25 {W:World} {g:Nat} {v:Value} (h:W.cell? ⟨g,0,none⟩=some v):(Instr.loadAt 23 (.pointer (some ⟨g,0,none⟩))).run Tryz.prog W=.ok v W:=by
 simp[Instr.loadAt,go_sem,h]
theorem load27 {W:World} {g:Nat} {c0 c1 c2 c3:Value} (h:W.rangeAt g 0 [c0,c1,c2,c3]):(Instr.loadAt 25 (.pointer (some ⟨g,0,none⟩))).run Tryz.prog W=.ok (.agg #[c0,c1,c2,c3]) W:=by
 have hi:(Tryz.prog.info? 25).map (·.size)=some 4:=by kernel_rfl
 exact run_loadAt_mid W g 0 25 [c0,c1,c2,c3] _ h Tryz.underlying25 rfl hi
theorem FVOwn.less {W:World} {lo lo':Nat} (hl:lo'≤lo) {f:FT} {v:Value} (h:FVOwn W lo f v):FVOwn W lo' f v:=by
 obtain⟨sa,ss,e,h1,h2⟩:=h
 exact⟨sa,ss,e,TOwn.less hl h1,FOwn.less hl h2⟩
theorem FVOwn.below {W W':World} {lo:Nat} (hb:Below W.heap.size W W') {f:FT} {v:Value} (h:FVOwn W lo f v):FVOwn W' lo f v:=by
 obtain⟨sa,ss,e,h1,h2⟩:=h
 exact⟨sa,ss,e,TOwn.below hb h1,FOwn.below hb h2⟩
def VTb (c bx:Nat) (ft:FT) (vx s1:Value) (n:Int) (z:Nat) (d:Nat) (u:Value) (W:World):Prop :=
 if d=3 then u=.pointer (some ⟨c,0,none⟩)
 else if d=5 then u=.pointer (some ⟨bx,0,none⟩)
 else if d=32 then u=s1
 else if d=33 then u=vx
 else if d=34 then FVSp W ft u (Rg z W.heap.size)
 else if d=35 then u=.int .i64 n
 else if d=36 then ∃ g,u=.slice (some ⟨g,0,none⟩) 1 1∧W.rangeAt g 0 [.int .u8 0,.string ⟨#[]⟩,.slice none 0 0,.slice none 0 0]
 else True
theorem VTb.below {c bx:Nat} {ft:FT} {vx s1:Value} {n:Int} {z d:Nat} {u:Value} {A B:World} (hb:Below A.heap.size A B) (h:VTb c bx ft vx s1 n z d u A):VTb c bx ft vx s1 n z d u B:=by
 unfold VTb at h ⊢
 by_cases h3:d=3
 ·rw[if_pos h3] at h ⊢;exact h
 rw[if_neg h3] at h ⊢
 by_cases h4:d=5
 ·rw[if_pos h4] at h ⊢;exact h
 rw[if_neg h4] at h ⊢
 by_cases h5:d=32
 ·rw[if_pos h5] at h ⊢;exact h
 rw[if_neg h5] at h ⊢
 by_cases h6:d=33
 ·rw[if_pos h6] at h ⊢;exact h
 rw[if_neg h6] at h ⊢
 by_cases h7:d=34
 ·rw[if_pos h7] at h ⊢;exact(h.below hb).mono (Rg.more hb.size)
 rw[if_neg h7] at h ⊢
 by_cases h8:d=35
 ·rw[if_pos h8] at h ⊢;exact h
 rw[if_neg h8] at h ⊢
 by_cases h9:d=36
 ·rw[if_pos h9] at h ⊢
  obtain⟨g,h1,h2⟩:=h
  exact⟨g,h1,range_below h2 hb⟩
 ·rw[if_neg h9] at h ⊢;exact h
theorem ex_call1 {P:Program} {a:Act} {w:World} {o:Oper} {u:Value} {f:Nat} {x:Operand} {t:TypeId} (he:∀ args w,(callFunc f args).run P w=.ok (.enter f args) w) (hop:o.op=.call { callee:=.value (.func f),args:=#[x],argTypes:=#[t] }) (hx:a.eval x=u):(execOp a.eval o).run P w=.ok (.enter f #[u]) w:=by
 have e1:a.eval (.func f)=.func (.func f) #[] #[]:=rfl
 simp[execOp,hop,resolve,invoke,hx,e1,he,Deferred.ofValue]
theorem ex_len {P:Program} {a:Act} {w:World} {o:Oper} {u:Value} {x:Operand} {t:TypeId} {p:Option Addr} {n k:Nat} {e:TypeId} (ht:P.underlying t=some (.slice e)) (hop:o.op=.call { callee:=.builtin .len,args:=#[x],argTypes:=#[t] }) (hx:a.eval x=u) (hu:u=.slice p n k):(execOp a.eval o).run P w=.ok (.value (.int .i64 n)) w:=by
 subst hu
 simp[execOp,hop,resolve,invoke,builtin,hx,Builtin.len_,run_underlying ht,Result.andThen,goInt]
theorem store25 {W:World} {g:Nat} {u v:Value} (h:W.cell? ⟨g,0,none⟩=some u) (hf:W.frozen? ⟨g,0,none⟩=false) (hv:∃ p n k,v=.slice p n k):(Instr.storeAt 23 (.pointer (some ⟨g,0,none⟩)) v).run Tryz.prog W=.ok () (W.setCell ⟨g,0,none⟩ v):=by
 obtain⟨p,n,k,rfl⟩:=hv
 simp[Instr.storeAt,go_sem,h,hf]
theorem below_setCells {B:Nat} {w:World} {g:Nat} (hg:B≤g):∀ (vs:List Value) (o:Nat) (W:World),Below B w W→Below B w (W.setCells g o vs)
 | [],_,_,h=>h
 | v :: r,o,W,h=>below_setCells hg r (o+1) _ (h.setCell (p:=⟨g,o,none⟩) hg v)
theorem index25 {W:World} {g n k:Nat} (hn:n≤1000000) (hl:n+1≤k):(Instr.indexAt 23 (.slice (some ⟨g,0,none⟩) (n+1) k) (.int .i64 n)).run Tryz.prog W=.ok (.pointer (some ⟨g,n*4,none⟩)) W:=by
 have hi:(Tryz.prog.info? 25).map (·.size)=some 4:=by kernel_rfl
 simp[Instr.indexAt,go_sem]
structure Fin (c m lo:Nat) {w0:World} (accR accF:List (FV w0)) (x:FV w0) (s1 s' vc:Value) (l1:List Value) (V W:World):Prop where
 size:V.heap.size≤W.heap.size
 block:∀ k,k < V.heap.size→k≠c→s1.ownBlock≠some k→W.heap[k]? = V.heap[k]?
 cell:W.cell? ⟨c,0,none⟩=some s'
 mark:W.frozen? ⟨c,0,none⟩=false
 own:W.ownsRow (c+3) 25 4 s' (accF.length+1) (flatV l1 ++ cells4 vc)
 below:∀ (w:World) (b0:Nat),b0≤c→b0≤V.heap.size→Below b0 w V→Below b0 w W
theorem cells4_own {V:World} {S:Nat→Prop} {f:FT} {v:Value} (h:FVSp V f v S):∃ c0 c1 c2 c3,v=.agg #[c0,c1,c2,c3]∧c0.oneCell'=true∧c1.oneCell'=true∧c2.oneCell'=true∧c3.oneCell'=true:=by
 obtain⟨sa,ss,S1,S2,rfl,-,-,⟨_,_,rfl,-⟩,⟨_,_,rfl,-⟩⟩:=h
 exact⟨_,_,_,_,rfl,rfl,rfl,rfl,rfl⟩
theorem put_same {a:Act} {d:Nat} (h:d < a.tmps.size) (v:Value):(a.put (some d) v).tmps[d]? = some v:=by simp[Act.put,h]
theorem put_ne {a:Act} {d d':Nat} (h:d≠d') (v:Value):(a.put (some d) v).tmps[d']? = a.tmps[d']?:=by simp[Act.put,Array.getElem?_setIfInBounds_ne h]
theorem put_none (a:Act) (u:Value):a.put none u=a:=rfl
theorem pstart (W:World) {w:World} (lo:Nat):∃ X,((W.alloc (.cells #[.slice none 0 0] 23)).alloc (.map #[] 0)).alloc (.cells #[.map (some (W.heap.size+1))] 67)=X∧Below W.heap.size W X∧X.heap.size=W.heap.size+3 ∧
  PD (w0:=w) W.heap.size (W.heap.size+1) (W.heap.size+3) lo [] [] (.slice none 0 0) [] (.map []) X∧X.cell? ⟨W.heap.size+1+1,0,none⟩=some (.map (some (W.heap.size+1))):=by
 refine⟨_,rfl,((bel_laid _ _).trans ((bel_laid _ _).mono (by simp))).trans ((bel_laid _ _).mono (by simp;omega)),by simp,?_,?_⟩
 ·have k:=cell_new W #[.slice none 0 0] 23 0
  have hm:=World.ownsMap_made (W.alloc (.cells #[.slice none 0 0] 23)) Tryz.prog 3 RT
  rw[World.size_alloc] at hm
  have hb:=bel_laid ((W.alloc (.cells #[.slice none 0 0] 23)).alloc (.map #[] 0)) (.cells #[.map (some (W.heap.size+1))] 67)
  have hb0:=bel_laid (W.alloc (.cells #[.slice none 0 0] 23)) (.map #[] 0)
  have hr:∀ n v,rowAt (.map []) n=.held v→v=.slice none 0 0:=fun n v h=>by
   have:rowAt (.map []) n=.held (.slice none 0 0):=rfl
   rw[this] at h
   cases h
   rfl
  constructor
  ·exact c_B hb (c_B hb0 k)
  ·rw[World.frozen?_of_block (hb.block W.heap.size (by simp;omega)),World.frozen?_of_block (hb0.block W.heap.size (by simp))]
   simp
  ·exact World.ownsRow_nil _ _ _ _
  ·exact hm.alloc _
  ·intro n v _ hv
   rw[hr n v hv]
   exact World.ownsRow_nil _ _ _ _
  ·intro n n' v v' g _ _ _ h1 _ h2
   rw[hr n v h1] at h2
   cases h2
  ·intro n v g _ h1 h2
   rw[hr n v h1] at h2
   cases h2
  ·trivial
 ·have k:=cell_new ((W.alloc (.cells #[.slice none 0 0] 23)).alloc (.map #[] 0)) #[.map (some (W.heap.size+1))] 67 0
  rw[World.size_alloc,World.size_alloc] at k
  exact k
set_option maxHeartbeats 4000000 in
theorem parts31_few (f:FT) (hs:f.size≤1000) (v:Value) (w:World) (hv:FVal w f v) :
  Calls Tryz.prog 14 #[v] w fun e w'=>(∃ s,e=.returned s∧PartsR f w.heap.size s w')∧Below w.heap.size w w':=by
 refine(callsIn_wide (n:=9)).1 ?_
 obtain⟨sa,ss,rfl,ha,hss⟩:=id hv
 obtain⟨pa,ca,hsa,-⟩:=id ha
 obtain⟨p,cc,hsb,-⟩:=id hss
 subst hsa hsb
 have hst:=FS.start (t:=25) hv
 have hvh:=h_X hv
 have HF:=h_X (few_any f (by omega) 1000 (by decide) (.agg #[.int .u8 f.op,.string f.n,.slice pa f.ts.len ca,.slice p f.sub.len cc]))
 have HP:=h_X (fun V g=>parts_keep f (.slice pa f.ts.len ca) (.slice p f.sub.len cc) w g V)
 have hle:decide (f.size≤1000)=true:=decide_eq_true hs
 rw[hle,show ((1000:Nat):Int)=1000 from rfl] at HF
 clear hle
 have hall:=f.length_all
 have hpl:f.parts.length≤1000:=by omega
 clear hall ha hss hv
 refine callsIn_of_wp_marks Tryz.func14 rfl trivial ?_ rfl
 simp only[Tryz.ntmps14,List.size_toArray,List.length_cons,List.length_nil,Nat.reduceAdd,Nat.reduceSub,Array.replicate_succ,Array.replicate_zero,List.push_toArray,List.append_toArray,List.nil_append,List.cons_append]
 gi_wp2
 refine⟨trivial,(callsIn_wide.2 (HF.out _ hst.val)).mono ?_⟩
 rintro e W1 ⟨rfl,hb1⟩
 replace hst:=hst.next hb1
 obtain⟨X,hX,hbX,hXs,hP0,hc4⟩:=pstart W1 (w:=w) w.heap.size
 have hstX:=hst.next hbX
 have hb1s:=hb1.size
 simp at hb1s
 obtain⟨x0,x1,x2,x3,hkX⟩:=id hstX
 obtain⟨b0,b1,b2,b3,-⟩:=id hst
 gi_wp2
 clear hX b0 b1 b2 b3 x0 x1 x2 x3
 have hPA:=parts_any _ X f hstX.val
 refine⟨trivial,(callsIn_wide.2 hPA).mono ?_⟩
 clear hPA
 rintro e W2 ⟨rfl,hb2,hlt2,sa2,ss2,he2,hbox⟩
 simp at he2
 obtain⟨rfl,rfl⟩:=he2
 replace hP0:=hP0.below hb2
 replace hc4:=c_B hb2 hc4
 have hbw1:Below w.heap.size w W1:=bS (bel_laid w _) hb1
 have hbw2:Below w.heap.size w W2:=bS (bS hbw1 hbX) hb2
 rw[hXs] at hlt2 hbox ⊢
 clear hb2 hXs hbX hstX hkX hst HP HF hb1
 obtain⟨c,hc⟩:∃ c,W1.heap.size=c:=⟨_,rfl⟩
 rw[hc] at hP0 hc4 hb1s hlt2 hbox ⊢
 clear hc
 gi_wp2
 have hLv:=lives0 c (c+1) (c+3) w.heap.size w (by omega) (by omega)
 refine wpIn_rangeFunc_O (gf:=100) (lb:=#[.pointer (some ⟨c+3,0,none⟩)]) (w0:=W2) (T:=f.parts) (tr:=FV.t) (Kp:=KS (GP c (c+1) (c+3) w.heap.size w) (SP c (c+1)) (W2.heap.size+2)) (encs:=fun x:FV w=>#[x.1.2]) rfl (enters_of Tryz.func100 (by kernel_rfl) rfl)
  (parts_seq0 f (by omega) (c+3) (W2.heap.size+2) w W2 hLv ⟨[],_,_,_,hP0⟩ _ _ (Ext.of_below hbw2) hbox hvh.out _) (fun h h'=>h.trans h') (fun V l' o o' h1 h2 ho hc _=>KS.put0 o' ho hc (by omega) h2 (GP.put o' (by omega) ho hc)) (Below.refl _ _) (fun _=>rfl)
  (fun pre V=>PI c (c+1) (c+2) (c+3) w.heap.size w pre V)
  (fun cd pre V=>False)
  ?hI ?hIx ⟨⟨_,_,_,hP0⟩,hc4,hbw2⟩
  (fun x a' V=>∃ (bx:Nat) (sa ss:Value),x.1.2=fval x.t sa ss∧Boxed4 V bx x.t.op x.t.n sa ss∧SP c (c+1) V bx∧a' = { tmps:=#[.agg #[.int .u8 f.op,.string f.n,.slice pa f.ts.len ca,.slice p f.sub.len cc],.pointer (some ⟨w.heap.size,0,none⟩),.slice none 0 0,.pointer (some ⟨c,0,none⟩),.pointer (some ⟨c+1+1,0,none⟩),.pointer (some ⟨bx,0,none⟩),undef,undef,.agg #[.int .u8 f.op,.string f.n,.slice pa f.ts.len ca,.slice p f.sub.len cc],.bool true,.bool false,.map (some (c+1)),.agg #[.int .u8 f.op,.string f.n,.slice pa f.ts.len ca,.slice p f.sub.len cc],.func (.func 100) #[] #[.pointer (some ⟨c+3,0,none⟩)],x.1.2,undef,undef,undef,undef,undef,undef,undef,undef,undef,undef,undef,undef,undef,undef,undef,undef,undef,undef,undef,undef,undef,undef,undef,undef,undef],defers:=[] })
  ?hAx ?assign ?body ?done ?stop
 case hI =>
  rintro pre A B row ⟨⟨s1,l1,D,h1⟩,h2,h3⟩ hg hr
  have hr':∀ r,row=some r→c+1 < r∧∃ o:Obj,A.heap[r]? = some o∧o.isCells=false:=fun r e=>⟨by have:=(hr r e).1;omega,(hr r e).2⟩
  exact⟨⟨s1,l1,D,h1.grown hg hr'⟩,cell_kept h2 hg (fun r e=>(hr r e).2),h3.grown hg h3.size (fun k e=>by have:=(hr k e).1;omega)⟩
 case hIx =>
  rintro cd pre A B row h
  exact h.elim
 case hAx =>
  rintro x a' _ A B row ⟨bx,sa,ss,h1,h2,hsp,h3⟩ hg hr
  have hr':∀ r,row=some r→∃ o:Obj,A.heap[r]? = some o∧o.isCells=false:=fun r e=>(hr r e).2
  exact⟨bx,sa,ss,h1,⟨cell_kept h2.1 hg hr',cell_kept h2.2.1 hg hr',cell_kept h2.2.2.1 hg hr',cell_kept h2.2.2.2 hg hr'⟩,hsp.grown hg (fun r e=>⟨by have:=(hr r e).1;omega,(hr r e).2⟩),h3⟩
 case assign =>
  rintro m l' pre ⟨⟨ft,vx⟩,hvx⟩ V Kq hi hK
  obtain⟨sx,tx,hvx',hx1,hx2⟩:=id hvx
  simp only at hvx'
  subst hvx'
  replace hx1:TSl w ft.ts sx:=hx1
  replace hx2:FSl w ft.sub tx:=hx2
  obtain⟨px,cx,hsx,-⟩:=id hx1
  subst hsx
  obtain⟨py,cy,hsy,-⟩:=id hx2
  subst hsy
  have hK':=h_X hK
  clear hK
  have hG:=hi.put
  obtain⟨⟨s1,l1,D,hp⟩,h2,h3⟩:=hi
  gi_wp2
  have hl:=bel_laid V (.cells #[.int .u8 ft.op,.string ft.n,.slice px ft.ts.len cx,.slice py ft.sub.len cy] 25)
  have hks:KS (GP c (c+1) (c+3) w.heap.size w) (SP c (c+1)) (W2.heap.size+2) V (V.alloc (.cells #[.int .u8 ft.op,.string ft.n,.slice px ft.ts.len cx,.slice py ft.sub.len cy] 25)):=KS.of_below0 hLv hl
  have hks0:KS (GP c (c+1) (c+3) w.heap.size w) (SP c (c+1)) W2.heap.size V (V.alloc (.cells #[.int .u8 ft.op,.string ft.n,.slice px ft.ts.len cx,.slice py ft.sub.len cy] 25)):=KS.of_below0 hLv hl
  exact hK'.out _ _ (hks0.from (Nat.le_refl _)) hks ⟨⟨s1,l1,D,hp.below hl⟩,c_B hl h2,bS h3 hl⟩ ⟨V.heap.size,_,_,rfl,Boxed4.laid _ _ _ _ _ _,hLv.fr V _ hG,rfl⟩
 case body =>
  rintro m l' pre ⟨⟨ft,vx⟩,hvx⟩ a' V hl' ⟨rr,hrr⟩ ⟨⟨s1,l1,D,hp⟩,hc4V,hbV⟩ ⟨bx,sa,ss,hvv,hbxx,hspx,rfl⟩ hpre
  replace hvv:vx=fval ft sa ss:=hvv
  subst hvv
  replace hbxx:Boxed4 V bx ft.op ft.n sa ss:=hbxx
  have hE:=Ext.of_below hbV
  have hfm:ft∈f.parts:=hpre.subset (by simp[FV.t])
  have hfs:ft.size≤1000:=by have:=mem_parts_le hfm;omega
  have hfv:FVal V ft (fval ft sa ss):=FVal.ext hE hvx
  obtain⟨sa',ss',he',ha',hss'⟩:=id hfv
  simp at he'
  obtain⟨rfl,rfl⟩:=he'
  have hfb:FS ft sa ss V bx V:=⟨hbxx.1,hbxx.2.1,hbxx.2.2.1,hbxx.2.2.2,Below.refl _ _,ha',hss'⟩
  obtain⟨px,cx,hsx,-⟩:=id ha'
  subst hsx
  obtain⟨py,cy,hsy,-⟩:=id hss'
  subst hsy
  obtain⟨k0,k1,k2,k3⟩:=hbxx
  have HN:=h_X (nodes_any ft (by omega) _ V hfv)
  clear ha' hss'
  have hEh:=h_X hE
  clear hE
  gi_wp2
  refine⟨trivial,hdd _,(callsIn_wide.2 HN.out).mono ?_⟩
  clear HN
  rintro e V1 ⟨rfl,hb1⟩
  have hp1:=hp.below hb1
  have hc41:=c_B hb1 hc4V
  have hfb1:=hfb.next hb1
  have hok:=okI_nat ft.size (by omega)
  obtain⟨v,hrun,hrow⟩:=row_some hp1.map hok
  have hEE:Ext w V1:=hEh.out.trans (Ext.of_below hb1)
  have hreads:=row_reads hEE (hp1.row _ v hok hrow)
  have hpl2:(picked pre).length≤1000:=by
   have h1:=hpre.length_le
   have h2:=picked_len pre
   simp only[List.length_map,List.length_append,List.length_singleton] at h1
   omega
  have hnum:((rowF (picked pre) (ft.size:Int)).map FV.t).length≤1000:=by
   rw[List.length_map]
   exact Nat.le_trans (List.length_filter_le _ _) hpl2
  have hsum:(toFs ((rowF (picked pre) (ft.size:Int)).map FV.t)).size≤1000000:=by
   have:=toFs_size (N:=1000) ((rowF (picked pre) (ft.size:Int)).map FV.t) (fun g hg=>by
    obtain⟨x,hx,rfl⟩:=List.mem_map.1 hg
    have h1:=picked_sub pre x (List.mem_filter.1 hx).1
    have h2:x.t∈f.parts:=hpre.subset (by rw[List.map_append];exact List.mem_append_left _ (List.mem_map.2 ⟨x,h1,rfl⟩))
    have:=mem_parts_le h2
    omega)
   have h3:=Nat.mul_le_mul_right 1000 hnum
   omega
  have HC:=h_X (contains_any _ ft v bx V1 ⟨_,_,hfb1.1,hfb1.2.1,hfb1.2.2.1,hfb1.2.2.2.1,Below.refl _ _,hfb1.2.2.2.2.2⟩ hreads hsum (by omega))
  rw[toFs_has] at HC
  obtain⟨q,hq⟩:∃ q,((rowF (picked pre) (ft.size:Int)).map FV.t).any (fun g=>cmpForm g ft == 0)=q:=⟨_,rfl⟩
  rw[hq] at HC
  clear hreads
  have hsn:picked (pre ++ [(⟨(ft,fval ft (.slice px ft.ts.len cx) (.slice py ft.sub.len cy)),hvx⟩:FV w)])=if q=true then picked pre else picked pre ++ [⟨(ft,fval ft (.slice px ft.ts.len cx) (.slice py ft.sub.len cy)),hvx⟩]:=by
   rw[picked_snoc,pick,←hq]
   rfl
  have hsnh:=h_X hsn
  clear hsn
  have hqh:=h_X hq
  clear hq
  gi_wp2
  refine⟨trivial,hdd _,(callsIn_wide.2 HC.out).mono ?_⟩
  clear HC
  rintro e V2 ⟨rfl,hb2⟩
  have hbb:=bS hb1 hb2
  have hp2:=hp1.below hb2
  have hc42:=c_B hb2 hc41
  have hfb2:=hfb1.next hb2
  replace hspx:=SP.below hbb hspx
  have hks2:KS (GP c (c+1) (c+3) w.heap.size w) (SP c (c+1)) (W2.heap.size+2) V V2:=KS.of_below0 hLv hbb
  have hks20:KS (GP c (c+1) (c+3) w.heap.size w) (SP c (c+1)) W2.heap.size V V2:=KS.of_below0 hLv hbb
  have hbw3:=bS hbV hbb
  clear hrun hc41 hp1 hfb1 hb2
  cases q with
  | true =>
   gi_wp2
   refine⟨hks20.from (Nat.le_refl _),hks2,?_⟩
   show PI _ _ _ _ _ _ _ _
   unfold PI
   rw[hsnh.out,if_pos trivial]
   exact⟨⟨s1,l1,D,hp2⟩,hc42,hbw3⟩
  | false =>
   gi_wp2
   rename_i Kx hKx
   have hcells:V2.rangeAt bx 0 [.int .u8 ft.op,.string ft.n,.slice px ft.ts.len cx,.slice py ft.sub.len cy]:=by
    intro j u hj
    match j,hj with
    | 0,hj=>simp at hj;subst hj;exact hfb2.1
    | 1,hj=>simp at hj;subst hj;exact hfb2.2.1
    | 2,hj=>simp at hj;subst hj;exact hfb2.2.2.1
    | 3,hj=>simp at hj;subst hj;exact hfb2.2.2.2.1
   have hvlt:=(hp2.row _ v hok hrow).lt
   have hvbx:v.ownBlock≠some bx:=by
    obtain⟨s,D',k,g1,g2,g3,g4,g5⟩:=hspx
    have:=ownsMap_D g2 hp2.map
    subst this
    exact g5 _ _ hok hrow
   have hKxh:=h_X hKx
   clear hKx
   refine wpIn_region_held_slots (by kernel_rfl) 8 40 [3,4,5,6] (VTa c bx ft.size v (fval ft (.slice px ft.ts.len cx) (.slice py ft.sub.len cy)) [.int .u8 ft.op,.string ft.n,.slice px ft.ts.len cx,.slice py ft.sub.len cy] V2.heap.size)
    (Ia c (c+1) bx (c+3) V2.heap.size (rowF (picked pre) (ft.size:Int)) (fval ft (.slice px ft.ts.len cx) (.slice py ft.sub.len cy)) v [.int .u8 ft.op,.string ft.n,.slice px ft.ts.len cx,.slice py ft.sub.len cy] D (picked pre).length V2)
    (fun W W'=>W.grownBy W' v.ownBlock∧V2.heap.size≤W.heap.size) (by kernel_rfl) ?hVT rfl ?hI0 ?hb0 ?hst ?hend
   case hVT =>
    rintro d u A B ⟨hg,hz⟩ h
    refine VTa.grow hg ?_ h
    intro g hgv
    exact(hvlt g hgv).2
   case hI0 =>
    exact⟨hc42,hcells,hp2.map,Nat.le_refl _,fun _=>bel_drew V2,fun h=>by cases h⟩
   case hb0 =>
    intro d hd
    simp only[List.mem_cons,List.not_mem_nil,or_false] at hd
    rcases hd with rfl | rfl | rfl | rfl
    all_goals exact⟨_,rfl,rfl⟩
   case hst =>
    refine⟨?_,?_,?_,?_,?_,?_,?_,?_,trivial⟩
    ·intro L a W hLs hL hn hd hI hb hl
     obtain⟨u4,h4,e4⟩:=hb 4 (by simp)
     replace e4:u4=.pointer (some ⟨c+1+1,0,none⟩):=e4
     subst e4
     exact opIn_val (fun _=>trivial) (by intro c h;cases h) rfl rfl (ex_load rfl (eval_tmp h4) (load88 hI.1)) ⟨_,rfl,fun d hd=>by cases hd;rfl,hI.step (by decide) (by decide) _ (Below.refl _ _),grow_refl _ _,hI.2.2.2.1⟩
    ·intro L a W hLs hL hn hd hI hb hl
     obtain⟨u6,h6,e6⟩:=hb 6 (by simp)
     replace e6:u6=.int .i64 ft.size:=e6
     subst e6
     exact opIn_val (fun _=>trivial) (by intro c h;cases h) rfl rfl (ex_move rfl (eval_tmp h6)) ⟨_,rfl,fun d hd=>by cases hd;rfl,hI.step (by decide) (by decide) _ (Below.refl _ _),grow_refl _ _,hI.2.2.2.1⟩
    ·intro L a W hLs hL hn hd hI hb hl
     obtain⟨u4,h4,e4⟩:=hb 4 (by simp)
     replace e4:u4=.pointer (some ⟨c+1+1,0,none⟩):=e4
     subst e4
     exact opIn_val (fun _=>trivial) (by intro c h;cases h) rfl rfl (ex_load rfl (eval_tmp h4) (load88 hI.1)) ⟨_,rfl,fun d hd=>by cases hd;rfl,hI.step (by decide) (by decide) _ (Below.refl _ _),grow_refl _ _,hI.2.2.2.1⟩
    ·intro L a W hLs hL hn hd hI hb hl
     obtain⟨u6,h6,e6⟩:=hb 6 (by simp)
     replace e6:u6=.int .i64 ft.size:=e6
     subst e6
     exact opIn_val (fun _=>trivial) (by intro c h;cases h) rfl rfl (ex_move rfl (eval_tmp h6)) ⟨_,rfl,fun d hd=>by cases hd;rfl,hI.step (by decide) (by decide) _ (Below.refl _ _),grow_refl _ _,hI.2.2.2.1⟩
    ·intro L a W hLs hL hn hd hI hb hl
     obtain⟨u26,h26,e26⟩:=hl 26 (by simp[Oper.looksAt,Op.operands])
     obtain⟨u27,h27,e27⟩:=hl 27 (by simp[Oper.looksAt,Op.operands])
     replace e26:u26=.map (some (c+1)):=e26
     replace e27:u27=.int .i64 ft.size:=e27
     subst e26 e27
     obtain⟨v',hrun',hrow'⟩:=row_some hI.2.2.1 hok
     rw[hrow] at hrow'
     cases hrow'
     exact opIn_val (fun _=>trivial) (by intro c h;cases h) rfl rfl (ex_lookup rfl (eval_tmp h26) (eval_tmp h27) hrun') ⟨_,rfl,fun d hd=>by cases hd;rfl,hI.step (by decide) (by decide) _ (Below.refl _ _),grow_refl _ _,hI.2.2.2.1⟩
    ·intro L a W hLs hL hn hd hI hb hl
     obtain⟨u5,h5,e5⟩:=hb 5 (by simp)
     replace e5:u5=.pointer (some ⟨bx,0,none⟩):=e5
     subst e5
     exact opIn_val (fun _=>trivial) (by intro c h;cases h) rfl rfl (ex_load rfl (eval_tmp h5) (load27 hI.2.1)) ⟨_,rfl,fun d hd=>by cases hd;rfl,hI.step (by decide) (by decide) _ (Below.refl _ _),grow_refl _ _,hI.2.2.2.1⟩
    ·intro L a W hLs hL hn hd hI hb hl
     obtain⟨u29,h29,e29⟩:=hl 29 (by simp[Oper.looksAt,Op.operands])
     replace e29:u29=fval ft (.slice px ft.ts.len cx) (.slice py ft.sub.len cy):=e29
     subst e29
     have hbl:=bel_laid W (.cells #[.int .u8 ft.op,.string ft.n,.slice px ft.ts.len cx,.slice py ft.sub.len cy] 25)
     refine opIn_val (fun _=>trivial) (by intro c h;cases h) rfl rfl (ex_buildSlice rfl (eval_tmp h29) (build_one W _ _ _ _)) ⟨_,rfl,?_,hI.step (by decide) (by decide) _ hbl,grow_below hbl _,hI.2.2.2.1⟩
     intro d hd
     cases hd
     refine⟨W.heap.size,rfl,hI.2.2.2.1,fun j u hj=>?_⟩
     rw[Nat.zero_add,cell_new]
     simpa using hj
    ·intro L a W hLs hL hn hd hI hb hl
     obtain⟨u28,h28,e28⟩:=hl 28 (by simp[Oper.looksAt,Op.operands,Call.operands])
     obtain⟨u30,h30,e30⟩:=hl 30 (by simp[Oper.looksAt,Op.operands,Call.operands])
     replace e28:u28=v:=e28
     subst e28
     obtain⟨g,e30,hg1,hg2⟩:∃ g,u30=.slice (some ⟨g,0,none⟩) 1 1∧V2.heap.size≤g∧W.rangeAt g 0 [.int .u8 ft.op,.string ft.n,.slice px ft.ts.len cx,.slice py ft.sub.len cy]:=e30
     subst e30
     have hbW:=hI.2.2.2.2.1 (by
      have:7 < L.size:=by rw[hLs];decide
      simp only[Array.getD_eq_getD_getElem?,Array.getElem?_eq_getElem this,Option.getD_some] at hL ⊢
      exact hL)
     have hown:=owns_below hbW (hp2.row _ u28 hok hrow)
     obtain⟨i0,hi,hz0,hz1,hz2⟩:=info_parts info27
     have hrl:(rowF (picked pre) (ft.size:Int)).length≤1000:=Nat.le_trans (List.length_filter_le _ _) hpl2
     obtain⟨v',W',hr,ho',hg',-,hob'⟩:=run_append_own_at (P:=Tryz.prog) W (c+3) 23 23 25 i0 (.agg #[.int .u8 0,.string ⟨#[]⟩,.slice none 0 0,.slice none 0 0]) 4 72 Tryz.underlying23 hi hz0 hz1 hz2 rfl (by decide) u28 _ _ hown ⟨g,0,none⟩ 1 1 [.int .u8 ft.op,.string ft.n,.slice px ft.ts.len cx,.slice py ft.sub.len cy] rfl
      (fun j u hj=>by have:=hg2 j u hj;rw[Nat.zero_add] at this;rw[Addr.add_mid,Nat.zero_add];exact this) (by simp[Value.oneCell']) (by unfold maxLen;omega) (by omega) (by have:=(hp2.own.lt);have:=lt_of_cell hc42;have:=hbW.size;omega)
     refine opIn_val (fun _=>trivial) (by intro c h;cases h) rfl rfl (ex_append rfl (eval_tmp h28) (eval_tmp h30) hr) ⟨_,rfl,fun d hd=>by cases hd;trivial,⟨?_,?_,?_,Nat.le_trans hI.2.2.2.1 hg'.size,?_,?_⟩,hg',hI.2.2.2.1⟩
     ·exact hg'.cell hI.1 (fun e=>by have:=hvlt _ e.symm;simp at this;omega)
     ·exact fun j u hj=>hg'.cell (hI.2.1 j u hj) (fun e=>hvbx e.symm)
     ·exact ownsMap_block hI.2.2.1 (hg'.block (c+1) hI.2.2.1.lt (fun e=>by have:=hvlt _ e.symm;omega))
     ·intro h
      have:7 < L.size:=by rw[hLs];decide
      simp[this] at h
     ·intro _
      refine⟨v',?_,W,W',hbW,hg',ho',hob',Below.refl _ _⟩
      simp[Act.put,hn]
   case hend =>
    intro a3 W' hH
    obtain⟨u3,h3,e3⟩:=hH.base 3 (by simp)
    obtain⟨u5,h5,e5⟩:=hH.base 5 (by simp)
    obtain⟨u24,h24,e24⟩:=hH.made 0 24 rfl rfl
    obtain⟨u25,h25,e25⟩:=hH.made 1 25 rfl rfl
    replace e3:u3=.pointer (some ⟨c,0,none⟩):=e3
    replace e5:u5=.pointer (some ⟨bx,0,none⟩):=e5
    replace e24:u24=.map (some (c+1)):=e24
    replace e25:u25=.int .i64 ft.size:=e25
    subst e3 e5 e24 e25
    obtain⟨i1,i2,i3,i4,-,i6⟩:=hH.inv
    obtain⟨u31,h31,Wa,Wb,a1,a2,a3',a4,a5⟩:=i6 rfl
    obtain⟨W3,hrun3,hmap3,hg3⟩:=i3.update key3 Tryz.underlying67 (by unfold maxLen;omega) (keyOf3 hok) (val:=u31) (d:=.held u31) (ps:=[]) rfl
    have hgW:Wa.grownBy W' v.ownBlock:=a2.trans (grow_below a5 _)
    have hpa:=hp2.below a1
    obtain⟨hp3,hks3,hbel3⟩:=hpa.rowStep (K:=W2.heap.size) (by omega) (by omega) (by omega) ⟨(ft,fval ft (.slice px ft.ts.len cx) (.slice py ft.sub.len cy)),hvx⟩ hok hrow hgW (owns_below a5 a3') a4 hmap3 hg3
    have hbw4:=hbel3 w w.heap.size (by omega) (by have:=hbw3.size;have:=a1.size;omega) (bS hbw3 a1)
    have hks23:KS (fun _=>True) (SP c (c+1)) W2.heap.size V2 W3:=(KS.bel0 a1).trans hks3
    have hspx3:SP c (c+1) W3 bx:=hks23.2.2.1 bx (lt_of_cell (hcells 0 _ rfl)) hspx
    have hcells3:W3.rangeAt bx 0 [.int .u8 ft.op,.string ft.n,.slice px ft.ts.len cx,.slice py ft.sub.len cy]:=fun j u hj=>(hks23.2.1 _ _ _ hspx (hcells j u hj)).1
    have hc43:W3.cell? ⟨c+1+1,0,none⟩=some (.map (some (c+1))):=(hks23.2.1 _ _ _ (hp2.safe (by omega) (.inl (by omega))) hc42).1
    refine anyIn_one (i:=8) (by kernel_rfl) ?_
    refine opIn_skip (fun _=>trivial) (by intro c h;cases h) rfl rfl (ex_mapUpdate rfl (eval_tmp h24) (eval_tmp h25) (eval_tmp h31) hrun3) ?_
    refine anyIn_none (by kernel_rfl) ?_
    show Kx a3 W3
    have hsz3:=hH.size
    clear hH i1 i2 i3 i4 i6 h24 h25 h31 hrun3 hmap3 hg3 hgW hpa a1 a2 a3' a4 a5 hks3 hbel3
    refine hKxh.out _ _ ?_
    clear hKxh
    have HY:=h_X (fun V hV=>copy_sp ft (fval ft (.slice px ft.ts.len cx) (.slice py ft.sub.len cy)) V hV (by omega))
    have hEh3:=Ext.of_below hbw4
    have hfv3:=FVal.ext hEh3 hvx
    obtain⟨ps1,cs1,hs1⟩:∃ p1 c1,s1=.slice p1 (picked pre).length c1:=by
     obtain⟨-,⟨rfl,h0⟩ | ⟨g,cap,cur,rfl,-⟩⟩:=hp3.own
     ·exact⟨none,0,by rw[h0]⟩
     ·exact⟨_,_,rfl⟩
    refine wpIn_region_held_slots (by kernel_rfl) 5 40 [3,5] (VTb c bx ft (fval ft (.slice px ft.ts.len cx) (.slice py ft.sub.len cy)) s1 (picked pre).length W3.heap.size)
     (fun _ _ W=>Below W3.heap.size W3 W) (fun W W'=>Below W.heap.size W W') (by kernel_rfl) ?hVT hsz3 ?hI0 ?hb0 ?hst ?hend
    case hVT=>exact fun d u A B hb h=>VTb.below hb h
    case hI0=>exact bel_drew W3
    case hb0 =>
     intro d hd
     simp only[List.mem_cons,List.not_mem_nil,or_false] at hd
     rcases hd with rfl | rfl
     ·exact⟨_,h3,rfl⟩
     ·exact⟨_,h5,rfl⟩
    case hst =>
     refine⟨?_,?_,?_,?_,?_,trivial⟩
     ·intro L a W hLs hL hn hd hI hb hl
      obtain⟨u3,h3,e3⟩:=hb 3 (by simp)
      replace e3:u3=.pointer (some ⟨c,0,none⟩):=e3
      subst e3
      exact opIn_val (fun _=>trivial) (by intro c h;cases h) rfl rfl (ex_load rfl (eval_tmp h3) (load25 (c_B hI hp3.cell))) ⟨_,rfl,fun d hd=>by cases hd;rfl,hI,Below.refl _ _⟩
     ·intro L a W hLs hL hn hd hI hb hl
      obtain⟨u5,h5,e5⟩:=hb 5 (by simp)
      replace e5:u5=.pointer (some ⟨bx,0,none⟩):=e5
      subst e5
      exact opIn_val (fun _=>trivial) (by intro c h;cases h) rfl rfl (ex_load rfl (eval_tmp h5) (load27 (range_below hcells3 hI))) ⟨_,rfl,fun d hd=>by cases hd;rfl,hI,Below.refl _ _⟩
     ·intro L a W hLs hL hn hd hI hb hl
      obtain⟨u33,h33,e33⟩:=hl 33 (by simp[Oper.looksAt,Op.operands,Call.operands])
      replace e33:u33=fval ft (.slice px ft.ts.len cx) (.slice py ft.sub.len cy):=e33
      subst e33
      refine opIn_call (fun _=>trivial) rfl (by intro c h;cases h) rfl rfl (ex_call1 (enters_of Tryz.func13 (by kernel_rfl) rfl) rfl (eval_tmp h33)) ((callsIn_wide.2 (HY.out W (FVal.below hI hfv3))).mono ?_)
      rintro e W' ⟨v',rfl,ho',hb'⟩
      exact⟨v',rfl,_,rfl,fun d hd=>by cases hd;exact FVSp.mono (fun x hx=>⟨Nat.le_trans hI.size hx.1,hx.2⟩) ho',bS hI hb',hb'⟩
     ·intro L a W hLs hL hn hd hI hb hl
      obtain⟨u32,h32,e32⟩:=hl 32 (by simp[Oper.looksAt,Op.operands,Call.operands])
      replace e32:u32=s1:=e32
      subst e32
      exact opIn_val (fun _=>trivial) (by intro c h;cases h) rfl rfl (ex_len Tryz.underlying23 rfl (eval_tmp h32) hs1) ⟨_,rfl,fun d hd=>by cases hd;rfl,hI,Below.refl _ _⟩
     ·intro L a W hLs hL hn hd hI hb hl
      have hbl:=bel_laid W (.cells #[.int .u8 0,.string ⟨#[]⟩,.slice none 0 0,.slice none 0 0] 25)
      refine opIn_val (fun _=>trivial) (by intro c h;cases h) rfl rfl (ex_buildSlice rfl rfl (build_one W _ _ _ _)) ⟨_,rfl,?_,bS hI hbl,hbl⟩
      intro d hd
      cases hd
      refine⟨W.heap.size,rfl,fun j u hj=>?_⟩
      rw[Nat.zero_add,cell_new]
      simpa using hj
    case hend =>
     intro a4 W4 hH4
     obtain⟨u3,h3,e3⟩:=hH4.base 3 (by simp)
     obtain⟨u32,h32,e32⟩:=hH4.made 0 32 rfl rfl
     obtain⟨u34,h34,e34⟩:=hH4.made 2 34 rfl rfl
     obtain⟨u35,h35,e35⟩:=hH4.made 3 35 rfl rfl
     obtain⟨u36,h36,e36⟩:=hH4.made 4 36 rfl rfl
     replace e3:u3=.pointer (some ⟨c,0,none⟩):=e3
     replace e32:u32=s1:=e32
     replace e34:FVSp W4 ft u34 (Rg W3.heap.size W4.heap.size):=e34
     replace e35:u35=.int .i64 (picked pre).length:=e35
     obtain⟨g6,e36,hg6⟩:∃ g,u36=.slice (some ⟨g,0,none⟩) 1 1∧W4.rangeAt g 0 [.int .u8 0,.string ⟨#[]⟩,.slice none 0 0,.slice none 0 0]:=e36
     subst e3 e32 e35 e36
     have hb4:Below W3.heap.size W3 W4:=hH4.inv
     have hsz4:=hH4.size
     clear hH4 HY
     have hp4:=hp3.below hb4
     have htree:Tr c (c+1) (Rg W3.heap.size W4.heap.size) W4 u34 ft:=tr_new hp3 hb4 (Nat.le_refl _) (Nat.le_refl _) e34
     obtain⟨y0,y1,y2,y3,hu34,o0,o1,o2,o3⟩:=cells4_own e34
     have hcu:cells4 u34=[y0,y1,y2,y3]:=by rw[hu34];rfl
     obtain⟨i0,hi,hz0,hz1,hz2⟩:=info_parts info27
     have hcW4:=lt_of_cell (c_B hb4 hc43)
     obtain⟨s',W5,hr,ho5,hg5,-,hob5⟩:=run_append_own_at (P:=Tryz.prog) W4 (c+3) 23 23 25 i0 (.agg #[.int .u8 0,.string ⟨#[]⟩,.slice none 0 0,.slice none 0 0]) 4 72 Tryz.underlying23 hi hz0 hz1 hz2 rfl (by decide) u32 _ _ hp4.own ⟨g6,0,none⟩ 1 1 [.int .u8 0,.string ⟨#[]⟩,.slice none 0 0,.slice none 0 0] rfl
      (fun j u hj=>by have:=hg6 j u hj;rw[Nat.zero_add] at this;rw[Addr.add_mid,Nat.zero_add];exact this) (by simp[Value.oneCell']) (by unfold maxLen;omega) (by omega) (by omega)
     obtain⟨g',cap',hs',hcap⟩:∃ g' cap',s'=.slice (some ⟨g',0,none⟩) ((picked pre).length+1) cap'∧(picked pre).length+1≤cap':=by
      obtain⟨-,⟨-,h0⟩ | ⟨g,cap,cur,hv,-,-,hc,-⟩⟩:=id ho5
      ·omega
      ·exact⟨g,cap,hv,hc⟩
     have hog:s'.ownBlock=some g':=by rw[hs'];rfl
     have hgc:c+3≤g':=(ho5.lt g' hog).1
     have hog1:u32.ownBlock=some g'∨g'=W4.heap.size:=by
      rcases hob5 with e | e
      ·exact .inl (e ▸ hog)
      ·rw[e] at hog;cases hog;exact .inr rfl
     have hge1:∀ k,u32.ownBlock=some k→c+3≤k:=fun k e=>(hp4.own.lt k e).1
     have hcc5:W5.heap[c]? = W4.heap[c]?:=hg5.block c (lt_of_cell hp4.cell) (fun e=>by have:=hge1 c e.symm;omega)
     have hc5:W5.cell? ⟨c,0,none⟩=some u32:=(World.cell?_of_block hcc5).trans hp4.cell
     have hm5:W5.frozen? ⟨c,0,none⟩=false:=by rw[World.frozen?_of_block hcc5];exact hp4.mark
     have hxl:(flatV l1).length=(picked pre).length*4:=hp4.own.1
     have hinf:(Tryz.prog.info? 25).map (·.size)=some 4:=by kernel_rfl
     have hone:(#[y0,y1,y2,y3]:Array Value).all (·.oneCell')=true:=by simp[o0,o1,o2,o3]
     have sA:=row_store ho5 hxl (vs:=[y0,y1,y2,y3]) rfl hog
     have hoB:=ownsRow_setCell_below ho5 (a:=⟨c,0,none⟩) (by show c < c+3;omega) s'
     have sB:=row_store hoB hxl (vs:=[y0,y1,y2,y3]) rfl hog
     have hcell5':(W5.setCell ⟨c,0,none⟩ s').cell? ⟨c,0,none⟩=some s':=World.cell?_setCell_same _ _ _ hc5
     have st7A:=run_storeAt_mid (P:=Tryz.prog) W5 g' ((picked pre).length*4) 25 #[y0,y1,y2,y3] sA.2 hinf hone
     have st7B:=run_storeAt_mid (P:=Tryz.prog) (W5.setCell ⟨c,0,none⟩ s') g' ((picked pre).length*4) 25 #[y0,y1,y2,y3] sB.2 hinf hone
     have hcA:(W5.setCells g' ((picked pre).length*4) [y0,y1,y2,y3]).cell? ⟨c,0,none⟩=some u32:=by
      rw[World.cell?_setCells_out g' _ _ _ _ (fun e=>by simp at e;omega)]
      exact hc5
     have hmA:(W5.setCells g' ((picked pre).length*4) [y0,y1,y2,y3]).frozen? ⟨c,0,none⟩=false:=by
      rw[World.frozen?_setCells]
      exact hm5
     have st8A:=store25 hcA hmA ⟨_,_,_,hs'⟩
     have st8B:=store25 hc5 hm5 ⟨_,_,_,hs'⟩
     have hblk5:∀ k,k < W4.heap.size→u32.ownBlock≠some k→W5.heap[k]? = W4.heap[k]?:=fun k hk h=>hg5.block k hk (fun e=>h e.symm)
     have hkg:∀ k,k < W4.heap.size→u32.ownBlock≠some k→k≠g':=fun k hk h e=>by
      subst e
      rcases hog1 with e | e
      ·exact h e
      ·omega
     have bel5:∀ (w':World) (b0:Nat),b0≤c→b0≤W4.heap.size→Below b0 w' W4→Below b0 w' W5:=fun w' b0 h1 h2 hb=>hb.grown hg5 h2 (fun k e=>by have:=hge1 k e;omega)
     have FA:Fin c (c+1) w.heap.size (picked pre) (picked pre) (⟨(ft,fval ft (.slice px ft.ts.len cx) (.slice py ft.sub.len cy)),hvx⟩:FV w) u32 s' u34 l1 W4 ((W5.setCells g' ((picked pre).length*4) [y0,y1,y2,y3]).setCell ⟨c,0,none⟩ s'):=by
      have hz:=(below_setCells (g:=g') (Nat.zero_le _) [y0,y1,y2,y3] ((picked pre).length*4) W5 (Below.refl 0 W5)).size
      refine⟨Nat.le_trans hg5.size (Nat.le_trans hz (KeepsOthers.setCell _ ⟨c,0,none⟩ s').size),fun k hk h1 h2=>?_,World.cell?_setCell_same _ _ _ hcA,by rw[World.frozen?_setCell];exact hmA,?_,fun w' b0 h1 h2 hb=>?_⟩
      ·rw[heap_setCell_other _ _ _ _ h1,World.heap_setCells_other _ _ _ _ (Nat.lt_of_lt_of_le hk hg5.size) (hkg k hk h2)]
       exact hblk5 k hk h2
      ·rw[hcu]
       exact ownsRow_setCell_below sA.1 (a:=⟨c,0,none⟩) (by show c < c+3;omega) s'
      ·exact(below_setCells (by omega) _ _ _ (bel5 w' b0 h1 h2 hb)).setCell (p:=⟨c,0,none⟩) h1 _
     have FB:Fin c (c+1) w.heap.size (picked pre) (picked pre) (⟨(ft,fval ft (.slice px ft.ts.len cx) (.slice py ft.sub.len cy)),hvx⟩:FV w) u32 s' u34 l1 W4 ((W5.setCell ⟨c,0,none⟩ s').setCells g' ((picked pre).length*4) [y0,y1,y2,y3]):=by
      have hz:=(below_setCells (g:=g') (Nat.zero_le _) [y0,y1,y2,y3] ((picked pre).length*4) (W5.setCell ⟨c,0,none⟩ s') (Below.refl 0 _)).size
      have hz1:=(KeepsOthers.setCell W5 ⟨c,0,none⟩ s').size
      refine⟨Nat.le_trans hg5.size (Nat.le_trans hz1 hz),fun k hk h1 h2=>?_,?_,by rw[World.frozen?_setCells,World.frozen?_setCell];exact hm5,?_,fun w' b0 h1 h2 hb=>?_⟩
      ·rw[World.heap_setCells_other _ _ _ _ (Nat.lt_of_lt_of_le hk (Nat.le_trans hg5.size hz1)) (hkg k hk h2),heap_setCell_other _ _ _ _ h1]
       exact hblk5 k hk h2
      ·rw[World.cell?_setCells_out g' _ _ _ _ (fun e=>by simp at e;omega)]
       exact hcell5'
      ·rw[hcu]
       exact sB.1
      ·exact below_setCells (by omega) _ _ _ ((bel5 w' b0 h1 h2 hb).setCell (p:=⟨c,0,none⟩) h1 _)
     have hclose:∀ W:World,Fin c (c+1) w.heap.size (picked pre) (picked pre) (⟨(ft,fval ft (.slice px ft.ts.len cx) (.slice py ft.sub.len cy)),hvx⟩:FV w) u32 s' u34 l1 W4 W →
       KeepsFrom W2.heap.size V W∧KS (GP c (c+1) (c+3) w.heap.size w) (SP c (c+1)) (W2.heap.size+2) V W∧PI c (c+1) (c+2) (c+3) w.heap.size w (pre ++ [⟨(ft,fval ft (.slice px ft.ts.len cx) (.slice py ft.sub.len cy)),hvx⟩]) W:=by
      intro W hF
      obtain⟨hpf,hkf⟩:=hp4.firstStep (K:=W2.heap.size) (by omega) (by omega) ⟨(ft,fval ft (.slice px ft.ts.len cx) (.slice py ft.sub.len cy)),hvx⟩ hF.size hF.block hF.cell hF.mark hF.own
       (hob5.imp id fun e=>⟨_,Nat.le_refl _,e⟩) hbw4.size ⟨W3,rfl,hp3,hb4⟩ htree
      have hkk:KS (fun _=>True) (SP c (c+1)) W2.heap.size V W:=(hks20.noG.trans hks23).trans ((KS.bel0 hb4).trans hkf)
      have hPI:PI c (c+1) (c+2) (c+3) w.heap.size w (pre ++ [⟨(ft,fval ft (.slice px ft.ts.len cx) (.slice py ft.sub.len cy)),hvx⟩]) W:=by
       unfold PI
       rw[hsnh.out,if_neg (by simp)]
       refine⟨⟨_,_,_,hpf⟩,?_,hF.below w w.heap.size (by omega) (by have:=hbw4.size;have:=hb4.size;omega) (bS hbw4 hb4)⟩
       exact(hkf.2.1 _ _ _ (hp4.safe (by omega) (.inl (by omega))) (c_B hb4 hc43)).1
      exact⟨hkk.from (Nat.le_refl _),(hkk.withG hPI.put).more (by omega),hPI⟩
     have hcA':=hclose _ FA
     have hcB':=hclose _ FB
     clear hclose FA FB
     rw[hu34] at h34
     refine anyIn_one (i:=5) (by kernel_rfl) (opIn_val (fun _=>trivial) (by intro c h;cases h) rfl rfl (ex_append rfl (eval_tmp h32) (eval_tmp h36) hr) ?_)
     have q37:=put_same (a:=a4) (d:=37) (by omega) s'
     have q35:=(put_ne (a:=a4) (d:=37) (d':=35) (by decide) s').trans h35
     have q34:=(put_ne (a:=a4) (d:=37) (d':=34) (by decide) s').trans h34
     have q3:=(put_ne (a:=a4) (d:=37) (d':=3) (by decide) s').trans h3
     have qs:(a4.put (some 37) s').tmps.size=40:=by simp[Act.put,hsz4]
     show wpAnyIn _ _ _ _ _ _ _ _ (a4.put (some 37) s') W5
     generalize a4.put (some 37) s'=a5 at q37 q35 q34 q3 qs ⊢
     have hix:=index25 (W:=W5) (g:=g') (n:=(picked pre).length) (k:=cap') (by omega) hcap
     rw[←hs'] at hix
     have r38:=put_same (a:=a5) (d:=38) (by omega) (.pointer (some ⟨g',(picked pre).length*4,none⟩))
     have r37:=(put_ne (a:=a5) (d:=38) (d':=37) (by decide) (.pointer (some ⟨g',(picked pre).length*4,none⟩))).trans q37
     have r34:=(put_ne (a:=a5) (d:=38) (d':=34) (by decide) (.pointer (some ⟨g',(picked pre).length*4,none⟩))).trans q34
     have r3:=(put_ne (a:=a5) (d:=38) (d':=3) (by decide) (.pointer (some ⟨g',(picked pre).length*4,none⟩))).trans q3
     refine anyIn_two (i:=6) (j:=8) (by kernel_rfl) ?_ ?_
     ·refine opIn_val (fun _=>trivial) (by intro c h;cases h) rfl rfl (ex_indexAddr rfl (eval_tmp q37) (eval_tmp q35) hix) ?_
      show wpAnyIn _ _ _ _ _ _ _ _ (a5.put (some 38) (.pointer (some ⟨g',(picked pre).length*4,none⟩))) W5
      generalize a5.put (some 38) (.pointer (some ⟨g',(picked pre).length*4,none⟩))=a6 at r38 r37 r34 r3 ⊢
      refine anyIn_two (i:=7) (j:=8) (by kernel_rfl) ?_ ?_
      ·refine opIn_skip (fun _=>trivial) (by intro c h;cases h) rfl rfl (ex_store rfl (eval_tmp r38) (eval_tmp r34) st7A) ?_
       refine anyIn_one (i:=8) (by kernel_rfl) (opIn_skip (fun _=>trivial) (by intro c h;cases h) rfl rfl (ex_store rfl (eval_tmp r3) (eval_tmp r37) st8A) ?_)
       refine anyIn_none (by kernel_rfl) ?_
       exact hcA'
      ·refine opIn_skip (fun _=>trivial) (by intro c h;cases h) rfl rfl (ex_store rfl (eval_tmp r3) (eval_tmp r37) st8B) ?_
       refine anyIn_one (i:=7) (by kernel_rfl) (opIn_skip (fun _=>trivial) (by intro c h;cases h) rfl rfl (ex_store rfl (eval_tmp r38) (eval_tmp r34) st7B) ?_)
       refine anyIn_none (by kernel_rfl) ?_
       exact hcB'
     ·refine opIn_skip (fun _=>trivial) (by intro c h;cases h) rfl rfl (ex_store rfl (eval_tmp q3) (eval_tmp q37) st8B) ?_
      have hix':=index25 (W:=W5.setCell ⟨c,0,none⟩ s') (g:=g') (n:=(picked pre).length) (k:=cap') (by omega) hcap
      rw[←hs'] at hix'
      refine anyIn_one (i:=6) (by kernel_rfl) (opIn_val (fun _=>trivial) (by intro c h;cases h) rfl rfl (ex_indexAddr rfl (eval_tmp q37) (eval_tmp q35) hix') ?_)
      show wpAnyIn _ _ _ _ _ _ _ _ (a5.put (some 38) (.pointer (some ⟨g',(picked pre).length*4,none⟩))) _
      generalize a5.put (some 38) (.pointer (some ⟨g',(picked pre).length*4,none⟩))=a6 at r38 r37 r34 r3 ⊢
      refine anyIn_one (i:=7) (by kernel_rfl) (opIn_skip (fun _=>trivial) (by intro c h;cases h) rfl rfl (ex_store rfl (eval_tmp r38) (eval_tmp r34) st7B) ?_)
      refine anyIn_none (by kernel_rfl) ?_
      exact hcB'
 case done =>
  rintro D xs V hDD hxs ⟨⟨s1,l1,Dm,hp⟩,h2,h3⟩ hd
  have hpt:=picked_t xs
  rw[hxs] at hpt
  have hpc:=hp.cell
  have hfin:∀ o',PartsR f w.heap.size s1 (V.putObj D o'):=by
   intro o'
   have hp':=hp.grown (grown_put V D o') (fun r e=>by cases e;exact⟨by omega,_,hd,rfl⟩)
   refine .inr ⟨hs,l1,?_,?_⟩
   ·rw[←hpt,List.length_map]
    exact owns_base (by omega) hp'.own
   ·rw[←hpt]
    exact hp'.trees.sps hp'.cell
  gi_wp2
  refine⟨by simp,.inl ⟨_,_,rfl,run_takeDeferred hd,_,results_tmp rfl _ _ _,?_⟩⟩
  exact⟨⟨_,rfl,hfin _⟩,h3.trans (bel_put _ _ (by omega))⟩
 case stop =>
  rintro D cd pre V hD hpre h
  exact h.elim
set_option maxHeartbeats 1000000 in
theorem parts31_many (f:FT) (hs:f.size≤1000000) (hm:1000 < f.size) (v:Value) (w:World) (hv:FVal w f v) :
  Calls Tryz.prog 14 #[v] w fun e w'=>(∃ s,e=.returned s∧PartsR f w.heap.size s w')∧Below w.heap.size w w':=by
 obtain⟨sa,ss,rfl,ha,hss⟩:=id hv
 obtain⟨pa,ca,hsa,-⟩:=id ha
 obtain⟨p,cc,hsb,-⟩:=id hss
 subst hsa hsb
 have hst:=FS.start (t:=25) hv
 have HF:=h_X (few_any f hs 1000 (by decide) (.agg #[.int .u8 f.op,.string f.n,.slice pa f.ts.len ca,.slice p f.sub.len cc]))
 have hle:decide (f.size≤1000)=false:=decide_eq_false (by omega)
 rw[hle,show ((1000:Nat):Int)=1000 from rfl] at HF
 clear hle ha hss hv
 go_enter Tryz.func14,Tryz.ntmps14
 go_wp2_with fail
 refine(HF.out _ hst.val).mono ?_
 rintro e W1 ⟨rfl,hb1⟩
 have hfin:=bS (bel_laid w _) hb1
 clear HF hst hb1
 go_wp2_with fail
 go_ret
 exact⟨⟨_,rfl,.inl ⟨hm,rfl⟩⟩,hfin⟩
theorem parts31_any (f:FT) (hs:f.size≤1000000) (v:Value) (w:World) (hv:FVal w f v) :
  Calls Tryz.prog 14 #[v] w fun e w'=>(∃ s,e=.returned s∧PartsR f w.heap.size s w')∧Below w.heap.size w w':=by
 by_cases h:f.size≤1000
 ·exact parts31_few f h v w hv
 ·exact parts31_many f hs (by omega) v w hv
end Go.Proofs.YtngdieldgnlogaaGreatDoor
namespace Go.Proofs.YtngdieldgnlogaaGreatDoor
open Go Go.RowKit
set_option maxRecDepth 100000
section
variable {a : Act} {w w' : World} {o : Oper} {v u r : Value} {x y : Operand}
theorem ex_pick {P:Program} {z:Operand} (hop:o.op=.pick x y z) (hx:a.eval x=.bool true) (hy:a.eval y=v):(execOp a.eval o).run P w=.ok (.value v) w:=by
 simp[execOp,hop,hx,hy,asBool]
theorem ex_not {P:Program} {t:TypeId} {b:Bool} (hop:o.op=.unOp .not t x) (hx:a.eval x=.bool b):(execOp a.eval o).run P w=.ok (.value (.bool !b)) w:=by
 simp[execOp,hop,hx,Op.unary]
theorem ex_bin {P:Program} {k:BinOp} {t t':TypeId} (hop:o.op=.binOp k t x y t') (hx:a.eval x=u) (hy:a.eval y=r) (hg:(eqGuard k t x y u r).run P w=.ok () w) (hr:(binOp k t u r).run P w=.ok v w):(execOp a.eval o).run P w=.ok (.value v) w:=by
 simp[execOp,hop,hx,hy,hg,hr,Result.andThen]
theorem ex_build2 {P:Program} {t:TypeId} (hop:o.op=.build t #[(0,x),(1,y)]) (hx:a.eval x=u) (hy:a.eval y=r) (hr:(Instr.build t #[(0,u),(1,r)]).run P w=.ok v w):(execOp a.eval o).run P w=.ok (.value v) w:=by
 simp[execOp,hop,hx,hy,hr,Result.andThen]
theorem ex_call2 {P:Program} {f:Nat} {t t':TypeId} (he:∀ args w,(callFunc f args).run P w=.ok (.enter f args) w) (hop:o.op=.call { callee:=.value (.func f),args:=#[x,y],argTypes:=#[t,t'] }) (hx:a.eval x=u) (hy:a.eval y=r):(execOp a.eval o).run P w=.ok (.enter f #[u,r]) w:=by
 have e1:a.eval (.func f)=.func (.func f) #[] #[]:=rfl
 simp[execOp,hop,resolve,invoke,hx,hy,e1,he,Deferred.ofValue]
end
theorem guard_int {t:TypeId} {k:IntKind} (x y:Operand) (m n:Int) (w:World):(eqGuard .eql t x y (.int k m) (.int k n)).run Tryz.prog w=.ok () w:=by
 simp[eqGuard]
theorem eql_int (m n:Int) (w:World):(binOp .eql 3 (.int .i64 m) (.int .i64 n)).run Tryz.prog w=.ok (.bool (m == n)) w:=by
 simp[go_sem]
theorem eql_errno (m n:Int) (w:World):(binOp .eql 50 (.int .i64 m) (.int .i64 n)).run Tryz.prog w=.ok (.bool (m == n)) w:=by
 simp[go_sem]
theorem guard_sym (x y:Operand) (s t:ByteArray) (m n:Int) (w:World):(eqGuard .eql 56 x y (.agg #[.string s,.int .i64 m]) (.agg #[.string t,.int .i64 n])).run Tryz.prog w=.ok () w:=by
 simp[eqGuard]
theorem build_sym (s:ByteArray) (m:Int) (w:World):(Instr.build 56 #[(0,.string s),(1,.int .i64 m)]).run Tryz.prog w=.ok (.agg #[.string s,.int .i64 m]) w:=by
 simp[Instr.build,go_sem]
theorem index39 {W:World} {g c:Nat} (i:Nat) (hi:i < 2):(Instr.indexAt 40 (.slice (some ⟨g,0,none⟩) 2 c) (.int .i64 i)).run Tryz.prog W=.ok (.pointer (some ⟨g,i*2,none⟩)) W:=by
 simp[Instr.indexAt,go_sem]
 omega
theorem load46 {W:World} {g o:Nat} {c0 c1:Value} (h0:W.cell? ⟨g,o,none⟩=some c0) (h1:W.cell? ⟨g,o+1,none⟩=some c1):(Instr.loadAt 56 (.pointer (some ⟨g,o,none⟩))).run Tryz.prog W=.ok (.agg #[c0,c1]) W:=by
 have hi:(Tryz.prog.info? 56).map (·.size)=some 2:=by kernel_rfl
 refine run_loadAt_mid W g o 56 [c0,c1] _ ?_ Tryz.underlying56 rfl hi
 intro j u hj
 match j,hj with
 | 0,hj=>simp at hj;subst hj;exact h0
 | 1,hj=>simp at hj;subst hj;exact h1
end Go.Proofs.YtngdieldgnlogaaGreatDoor
namespace Go.Proofs.YtngdieldgnlogaaGreatDoor
open Go Go.RowKit
set_option maxRecDepth 100000
def puts (a:Act):List (Nat × Value)→Act
 | []=>a
 | (d,v) :: r=>puts (a.put (some d) v) r
def keyB (vals:List (Nat × Value)) (d:Nat):Bool:=vals.any fun p=>p.1 == d
def slotV (a:Act):List (Nat × Value)→Nat→Value
 | [],d=>a.tmps.getD d undef
 | (k,v) :: r,d=>if k == d then v else slotV a r d
def VTp (a:Act) (vals:List (Nat × Value)) (d:Nat) (v:Value) (_:World):Prop:=v=slotV a vals d
def keysB (ops:Array Oper) (n:Nat) (vals:List (Nat × Value)):Bool :=
 (List.range vals.length).all (fun i=>(List.range vals.length).all fun j=>i == j || (vals[i]?).map (·.1) != (vals[j]?).map (·.1)) &&
 vals.all (fun p=>decide (p.1 < n) && ops.any fun o=>o.dst == some p.1)
theorem puts_size (vals:List (Nat × Value)):∀ a:Act,(puts a vals).tmps.size=a.tmps.size:=by
 induction vals with
 | nil=>intro a;rfl
 | cons p r ih=>intro a;simp[puts,ih,Act.put]
theorem puts_defs (vals:List (Nat × Value)):∀ a:Act,(puts a vals).defers=a.defers:=by
 induction vals with
 | nil=>intro a;rfl
 | cons p r ih=>intro a;simp[puts,ih,Act.put]
theorem puts_other (vals:List (Nat × Value)):∀ (a:Act) (d:Nat),keyB vals d=false→(puts a vals).tmps[d]? = a.tmps[d]?:=by
 induction vals with
 | nil=>intro a d _;rfl
 | cons p r ih =>
  intro a d h
  simp only[keyB,List.any_cons,Bool.or_eq_false_iff,beq_eq_false_iff_ne] at h
  rw[puts,ih _ d (by simpa[keyB] using h.2)]
  simp[Act.put,Array.getElem?_setIfInBounds_ne h.1]
theorem puts_same (vals:List (Nat × Value)):∀ (a a0:Act) (d:Nat),vals.Pairwise (fun p q=>p.1≠q.1)→keyB vals d=true→d < a.tmps.size→(puts a vals).tmps[d]? = some (slotV a0 vals d):=by
 induction vals with
 | nil=>intro a a0 d _ h;simp[keyB] at h
 | cons p r ih =>
  intro a a0 d hp h hd
  obtain⟨k,v⟩:=p
  rw[List.pairwise_cons] at hp
  by_cases hk:k=d
  ·subst hk
   have hno:keyB r k=false:=by
    cases hb:keyB r k with
    | false=>rfl
    | true =>
     simp only[keyB,List.any_eq_true,beq_iff_eq] at hb
     obtain⟨q,hq,e⟩:=hb
     exact absurd e.symm (hp.1 q hq)
   rw[puts,puts_other _ _ _ hno]
   simp[Act.put,slotV,hd]
  ·have hb:keyB r d=true:=by
    simp only[keyB,List.any_cons,Bool.or_eq_true,beq_iff_eq] at h
    rcases h with h | h
    ·exact absurd h hk
    ·simpa[keyB] using h
   rw[puts,ih _ a0 d hp.2 hb (by simpa[Act.put] using hd)]
   simp[slotV,hk]
theorem slotV_other (vals:List (Nat × Value)) (a:Act) (d:Nat) (h:keyB vals d=false):slotV a vals d=a.tmps.getD d undef:=by
 induction vals with
 | nil=>rfl
 | cons p r ih =>
  obtain⟨k,v⟩:=p
  simp only[keyB,List.any_cons,Bool.or_eq_false_iff,beq_eq_false_iff_ne] at h
  simp[slotV,h.1,ih (by simpa[keyB] using h.2)]
theorem pairwise_keys {vals:List (Nat × Value)} (h:(List.range vals.length).all (fun i=>(List.range vals.length).all fun j=>i == j || (vals[i]?).map (·.1) != (vals[j]?).map (·.1))=true):vals.Pairwise (fun p q=>p.1≠q.1):=by
 rw[List.pairwise_iff_getElem]
 intro i j hi hj hij he
 simp only[List.all_eq_true,List.mem_range,Bool.or_eq_true,beq_iff_eq,bne_iff_ne] at h
 rcases h i hi j hj with h | h
 ·omega
 ·rw[List.getElem?_eq_getElem hi,List.getElem?_eq_getElem hj] at h
  exact h (by simp[he])
theorem wp_region_puts {P:Program} {ops:Array Oper} {Q:Exit→Act→World→Prop} {id:Nat} {a:Act} {w:World} (hm:P.follows .mixedOrders=true) (n:Nat) (vals:List (Nat × Value)) (I:World→Prop) (R:World→World→Prop)
  (hf:fitG .any ops ops.size n ((List.range n).filter fun d=>!keyB vals d)=true) (hk:keysB ops n vals=true) (h1:a.tmps.size=n) (h3:I w.drew)
  (hst:StepsG ops (wpOp P ops Q) n ((List.range n).filter fun d=>!keyB vals d) (VTp a vals) (fun _ _ W=>I W) R a.defers 0 ops.toList)
  (hend:∀ w',I w'→Q .normal (puts a vals) w'):(Code.region id ops true).wp P Q a w:=by
 simp only[keysB,Bool.and_eq_true,List.all_eq_true,decide_eq_true_eq] at hk
 obtain⟨hk1,hk2⟩:=hk
 have hpw:vals.Pairwise (fun p q=>p.1≠q.1):=pairwise_keys (by simpa only[List.all_eq_true] using hk1)
 refine wp_region_held_slots hm ops.size n _ (VTp a vals) (fun _ _ W=>I W) R hf (fun d u A B _ h=>h) h1 h3 ?_ ?_ ?_
 ·intro d hd
  obtain⟨hlt,hno⟩:=List.mem_filter.1 hd
  have hno':keyB vals d=false:=by simpa using hno
  have hlt':d < a.tmps.size:=by rw[h1];exact List.mem_range.1 hlt
  exact⟨a.tmps[d],by simp[hlt'],by unfold VTp;rw[slotV_other _ _ _ hno'];simp[hlt']⟩
 ·rw[List.take_of_length_le (by simp)]
  exact hst
 ·intro a' w' hH
  have hall:∀ i,i < ops.size→(headUp ops.size ops.size).getD i false=true:=fun i hi=>by simp[headUp,hi]
  have e:a'=puts a vals:=by
   have et:a'.tmps=(puts a vals).tmps:=by
    apply Array.ext_getElem?
    intro d
    by_cases hd:d < n
    ·cases hb:keyB vals d with
     | false =>
      rw[puts_other _ _ _ hb]
      obtain⟨v,hv,e⟩:=hH.base d (List.mem_filter.2 ⟨List.mem_range.2 hd,by simp[hb]⟩)
      unfold VTp at e
      rw[slotV_other _ _ _ hb] at e
      have hlt:d < a.tmps.size:=by omega
      rw[hv,e]
      simp[hlt]
     | true =>
      rw[puts_same _ a a d hpw hb (by omega)]
      obtain⟨p,hp,e⟩:∃ p∈vals,p.1=d:=by simpa[keyB] using hb
      have:=(hk2 p hp).2
      obtain⟨o,ho,hod⟩:=Array.any_eq_true'.1 this
      obtain⟨i,hi,hoi⟩:=Array.getElem_of_mem ho
      obtain⟨v,hv,e2⟩:=hH.made i d (hall i hi) (by
       have hod':o.dst=some p.1:=by simpa using hod
       simp[dstAt,Array.getElem?_eq_getElem hi,hoi,hod',e])
      rw[hv]
      exact congrArg some e2
    ·have h2:=hH.size
     rw[Array.getElem?_eq_none (by omega),Array.getElem?_eq_none (by rw[puts_size];omega)]
   have ed:a'.defers=(puts a vals).defers:=by rw[puts_defs];exact hH.defs
   cases a'
   cases hq:puts a vals
   rw[hq] at et ed
   simp only at et ed
   rw[et,ed]
  subst e
  refine any_none ?_ (hend w' hH.inv)
  rw[List.eq_nil_iff_forall_not_mem]
  intro i hi
  obtain⟨h,o,ho,-⟩:=mem_ready.1 hi
  have hiN:i < ops.size:=(Array.getElem?_eq_some_iff.1 ho).1
  simp[headUp,hiN] at h
section
variable {P : Program} {ops : Array Oper} {Q : Exit → Act → World → Prop} {K : Act → World → Prop} {a : Act} {w : World} {i j d : Nat} {o : Oper}
theorem wants_yes (b:Bool) (hg:o.guard=some (j,b)) (hj:dstAt ops j=some d) (hd:a.tmps[d]? = some (.bool b)):Region.wanted o (yielded ops a.tmps)=true:=by
 have:((ops[j]?).bind (·.dst))=some d:=hj
 simp[Region.wanted,hg,yielded,this,hd]
theorem wants_no (b:Bool) (hg:o.guard=some (j,b)) (hj:dstAt ops j=some d) (hd:a.tmps[d]? = some (.bool !b)):Region.wanted o (yielded ops a.tmps)=false:=by
 have:((ops[j]?).bind (·.dst))=some d:=hj
 cases b<;>simp[Region.wanted,hg,yielded,this,hd]
theorem op_out (ho:ops[i]? = some o) (hw:Region.wanted o (yielded ops a.tmps)=false) (hK:K (a.put o.dst undef) w):wpOp P ops Q i K a w:=by
 unfold wpOp
 simp only[ho,hw]
 exact hK
end
theorem ex_pickF {P:Program} {a:Act} {w:World} {o:Oper} {v:Value} {x y z:Operand} (hop:o.op=.pick x y z) (hx:a.eval x=.bool false) (hz:a.eval z=v):(execOp a.eval o).run P w=.ok (.value v) w:=by
 simp[execOp,hop,hx,hz,asBool]
theorem ex_field {P:Program} {a:Act} {w:World} {o:Oper} {u v:Value} {x:Operand} {t:TypeId} {k:Nat} (hop:o.op=.fieldAddr t x k) (hx:a.eval x=u) (hr:(Instr.fieldAt t u k).run P w=.ok v w):(execOp a.eval o).run P w=.ok (.value v) w:=by
 simp[execOp,hop,hx,hr,Result.andThen]
end Go.Proofs.YtngdieldgnlogaaGreatDoor
