/- Trees that lie in blocks of their own, apart from each other, and may be written. -/
import Derived.Test.YtngdieldgnlogaaGreatDoorMC
namespace Go.Proofs.YtngdieldgnlogaaGreatDoor
open Go Go.RowKit
set_option maxRecDepth 100000
set_option linter.unusedVariables false
def Wc (W:World) (b o:Nat) (v:Value):Prop:=W.cell? ⟨b,o,none⟩=some v∧W.frozen? ⟨b,o,none⟩=false
theorem Wc.below {w W:World} (hb:Below w.heap.size w W) {b o:Nat} {v:Value} (h:Wc w b o v):Wc W b o v :=
 ⟨c_B hb h.1,(hb.frozen (p:=⟨b,o,none⟩) (lt_of_cell h.1)).trans h.2⟩
theorem Wc.lt {W:World} {b o:Nat} {v:Value} (h:Wc W b o v):b < W.heap.size:=lt_of_cell h.1
def SlSp (L:Nat→Nat→(Nat→Prop)→Prop) (k:Nat) (s:Value) (S:Nat→Prop):Prop :=
 ∃ p c,s=.slice p k c∧(k=0∨∃ b o,p=some ⟨b,o,none⟩∧S b∧L b o (fun x=>S x∧x≠b))
def TsSp (W:World):Ts→Nat→Nat→(Nat→Prop)→Prop
 | .nil,_,_,_=>True
 | .cons v n ts r,b,o,S=>Wc W b o (.bool v)∧Wc W b (o+1) (.string n)∧∃ S1 S2:Nat→Prop,(∀ x,S1 x→S x)∧(∀ x,S2 x→S x∧¬ S1 x) ∧
  (∃ s,Wc W b (o+2) s∧SlSp (TsSp W ts) ts.len s S1)∧TsSp W r b (o+3) S2
abbrev TSp (W:World) (ts:Ts) (s:Value) (S:Nat→Prop):Prop:=SlSp (TsSp W ts) ts.len s S
def FsSp (W:World):Fs→Nat→Nat→(Nat→Prop)→Prop
 | .nil,_,_,_=>True
 | .cons op n ts sub r,b,o,S=>Wc W b o (.int .u8 op)∧Wc W b (o+1) (.string n)∧∃ S1 S2 S3:Nat→Prop,(∀ x,S1 x→S x)∧(∀ x,S2 x→S x∧¬ S1 x)∧(∀ x,S3 x→S x∧¬ S1 x∧¬ S2 x) ∧
  (∃ s,Wc W b (o+2) s∧TSp W ts s S1)∧(∃ s,Wc W b (o+3) s∧SlSp (FsSp W sub) sub.len s S2)∧FsSp W r b (o+4) S3
abbrev FSp (W:World) (ts:Fs) (s:Value) (S:Nat→Prop):Prop:=SlSp (FsSp W ts) ts.len s S
theorem SlSp.imp {L L':Nat→Nat→(Nat→Prop)→Prop} {k:Nat} {s:Value} {S S':Nat→Prop} (h:SlSp L k s S) (hs:∀ x,S x→S' x) (hl:∀ b o,S b→L b o (fun x=>S x∧x≠b)→L' b o (fun x=>S' x∧x≠b)):SlSp L' k s S':=by
 obtain⟨p,c,e,hp⟩:=h
 exact⟨p,c,e,hp.imp_right fun ⟨b,o,e,hb,h⟩=>⟨b,o,e,hs b hb,hl b o hb h⟩⟩
theorem SlSp.slice {L:Nat→Nat→(Nat→Prop)→Prop} {k:Nat} {s:Value} {S:Nat→Prop} (h:SlSp L k s S):∃ p c,s=.slice p k c:=by
 obtain⟨p,c,e,-⟩:=h
 exact⟨p,c,e⟩
theorem TsSp.mono {W:World}:∀ {t:Ts} {b o:Nat} {S S':Nat→Prop},(∀ x,S x→S' x)→TsSp W t b o S→TsSp W t b o S'
 | .nil,_,_,_,_,_,_=>trivial
 | .cons _ _ _ _,_,_,_,_,hs,⟨h0,h1,S1,S2,h2,h3,h4,h5⟩=>⟨h0,h1,S1,S2,fun x h=>hs x (h2 x h),fun x h=>⟨hs x (h3 x h).1,(h3 x h).2⟩,h4,h5⟩
theorem TSp.mono {W:World} {t:Ts} {s:Value} {S S':Nat→Prop} (hs:∀ x,S x→S' x) (h:TSp W t s S):TSp W t s S' :=
 h.imp hs fun b o _ h=>TsSp.mono (fun x hx=>⟨hs x hx.1,hx.2⟩) h
theorem FsSp.mono {W:World}:∀ {t:Fs} {b o:Nat} {S S':Nat→Prop},(∀ x,S x→S' x)→FsSp W t b o S→FsSp W t b o S'
 | .nil,_,_,_,_,_,_=>trivial
 | .cons _ _ _ _ _,_,_,_,_,hs,⟨h0,h1,S1,S2,S3,h2,h3,h4,h5⟩=>⟨h0,h1,S1,S2,S3,fun x h=>hs x (h2 x h),fun x h=>⟨hs x (h3 x h).1,(h3 x h).2⟩,fun x h=>⟨hs x (h4 x h).1,(h4 x h).2⟩,h5⟩
theorem FSp.mono {W:World} {t:Fs} {s:Value} {S S':Nat→Prop} (hs:∀ x,S x→S' x) (h:FSp W t s S):FSp W t s S' :=
 h.imp hs fun b o _ h=>FsSp.mono (fun x hx=>⟨hs x hx.1,hx.2⟩) h
theorem TsSp.at {W:World}:∀ {t:Ts} {b o:Nat} {S:Nat→Prop},TsSp W t b o S→TsAt W t b o
 | .nil,_,_,_,_=>trivial
 | .cons _ _ _ _,_,_,_,⟨h0,h1,_,_,_,_,⟨s,h2,p,c,e,hs⟩,hr⟩=>⟨h0.1,h1.1,⟨s,h2.1,p,c,e,hs.imp_right fun ⟨b,o,e,_,h⟩=>⟨b,o,e,TsSp.at h⟩⟩,TsSp.at hr⟩
theorem TSp.at {W:World} {t:Ts} {s:Value} {S:Nat→Prop} (h:TSp W t s S):TSl W t s:=by
 obtain⟨p,c,e,hs⟩:=h
 exact⟨p,c,e,hs.imp_right fun ⟨b,o,e,_,h⟩=>⟨b,o,e,TsSp.at h⟩⟩
theorem FsSp.at {W:World}:∀ {t:Fs} {b o:Nat} {S:Nat→Prop},FsSp W t b o S→FsAt W t b o
 | .nil,_,_,_,_=>trivial
 | .cons _ _ _ _ _,_,_,_,⟨h0,h1,_,_,_,_,_,_,⟨s,h2,hs⟩,⟨s',h3,p,c,e,hs'⟩,hr⟩=>⟨h0.1,h1.1,⟨s,h2.1,TSp.at hs⟩,⟨s',h3.1,p,c,e,hs'.imp_right fun ⟨b,o,e,_,h⟩=>⟨b,o,e,FsSp.at h⟩⟩,FsSp.at hr⟩
theorem FSp.at {W:World} {t:Fs} {s:Value} {S:Nat→Prop} (h:FSp W t s S):FSl W t s:=by
 obtain⟨p,c,e,hs⟩:=h
 exact⟨p,c,e,hs.imp_right fun ⟨b,o,e,_,h⟩=>⟨b,o,e,FsSp.at h⟩⟩
theorem TsSp.keep {W W':World}:∀ {t:Ts} {b o:Nat} {S:Nat→Prop},(∀ x i v,S x→Wc W x i v→Wc W' x i v)→(∀ i v,o≤i→i < o+t.len*3→Wc W b i v→Wc W' b i v)→TsSp W t b o S→TsSp W' t b o S
 | .nil,_,_,_,_,_,_=>trivial
 | .cons _ _ ts r,b,o,S,hS,hb,⟨h0,h1,S1,S2,q1,q2,⟨s,h2,p,c,e,hs⟩,hr⟩=>by
  simp only[Ts.len] at hb
  exact⟨hb _ _ (by omega) (by omega) h0,hb _ _ (by omega) (by omega) h1,S1,S2,q1,q2,⟨s,hb _ _ (by omega) (by omega) h2,p,c,e,hs.imp_right fun ⟨b',o',e,hb',h⟩=>⟨b',o',e,hb',TsSp.keep (fun x i v hx=>hS x i v (q1 x hx.1)) (fun i v _ _=>hS b' i v (q1 b' hb')) h⟩⟩,
   TsSp.keep (fun x i v hx=>hS x i v (q2 x hx).1) (fun i v hi hj=>hb i v (by omega) (by omega)) hr⟩
theorem TSp.keep {W W':World} {t:Ts} {s:Value} {S:Nat→Prop} (hS:∀ x i v,S x→Wc W x i v→Wc W' x i v) (h:TSp W t s S):TSp W' t s S :=
 h.imp (fun _ h=>h) fun b o hb h=>TsSp.keep (fun x i v hx=>hS x i v hx.1) (fun i v _ _=>hS b i v hb) h
theorem FsSp.keep {W W':World}:∀ {t:Fs} {b o:Nat} {S:Nat→Prop},(∀ x i v,S x→Wc W x i v→Wc W' x i v)→(∀ i v,o≤i→i < o+t.len*4→Wc W b i v→Wc W' b i v)→FsSp W t b o S→FsSp W' t b o S
 | .nil,_,_,_,_,_,_=>trivial
 | .cons _ _ ts sub r,b,o,S,hS,hb,⟨h0,h1,S1,S2,S3,q1,q2,q3,⟨s,h2,hs⟩,⟨s',h3,p,c,e,hs'⟩,hr⟩=>by
  simp only[Fs.len] at hb
  exact⟨hb _ _ (by omega) (by omega) h0,hb _ _ (by omega) (by omega) h1,S1,S2,S3,q1,q2,q3,⟨s,hb _ _ (by omega) (by omega) h2,TSp.keep (fun x i v hx=>hS x i v (q1 x hx)) hs⟩,
   ⟨s',hb _ _ (by omega) (by omega) h3,p,c,e,hs'.imp_right fun ⟨b',o',e,hb',h⟩=>⟨b',o',e,hb',FsSp.keep (fun x i v hx=>hS x i v (q2 x hx.1).1) (fun i v _ _=>hS b' i v (q2 b' hb').1) h⟩⟩,
   FsSp.keep (fun x i v hx=>hS x i v (q3 x hx).1) (fun i v hi hj=>hb i v (by omega) (by omega)) hr⟩
theorem FSp.keep {W W':World} {t:Fs} {s:Value} {S:Nat→Prop} (hS:∀ x i v,S x→Wc W x i v→Wc W' x i v) (h:FSp W t s S):FSp W' t s S :=
 h.imp (fun _ h=>h) fun b o hb h=>FsSp.keep (fun x i v hx=>hS x i v hx.1) (fun i v _ _=>hS b i v hb) h
theorem TsSp.below {W W':World} (hb:Below W.heap.size W W') {t:Ts} {b o:Nat} {S:Nat→Prop} (h:TsSp W t b o S):TsSp W' t b o S :=
 TsSp.keep (fun _ _ _ _ hc=>hc.below hb) (fun _ _ _ _ hc=>hc.below hb) h
theorem TSp.below {W W':World} (hb:Below W.heap.size W W') {t:Ts} {s:Value} {S:Nat→Prop} (h:TSp W t s S):TSp W' t s S:=TSp.keep (fun _ _ _ _ hc=>hc.below hb) h
theorem FsSp.below {W W':World} (hb:Below W.heap.size W W') {t:Fs} {b o:Nat} {S:Nat→Prop} (h:FsSp W t b o S):FsSp W' t b o S :=
 FsSp.keep (fun _ _ _ _ hc=>hc.below hb) (fun _ _ _ _ hc=>hc.below hb) h
theorem FSp.below {W W':World} (hb:Below W.heap.size W W') {t:Fs} {s:Value} {S:Nat→Prop} (h:FSp W t s S):FSp W' t s S:=FSp.keep (fun _ _ _ _ hc=>hc.below hb) h
theorem TsSp.app {W:World}:∀ {q r:Ts} {b o:Nat} {S S1 S2:Nat→Prop},(∀ x,S1 x→S x)→(∀ x,S2 x→S x∧¬ S1 x)→TsSp W q b o S1→TsSp W r b (o+q.len*3) S2→TsSp W (q.app r) b o S
 | .nil,r,b,o,S,S1,S2,h1,h2,_,h=>by
  refine TsSp.mono (fun x hx=>(h2 x hx).1) ?_
  simpa[Ts.app,Ts.len] using h
 | .cons v n ts q,r,b,o,S,S1,S2,h1,h2,⟨c0,c1,A,B,hA,hB,c2,hr⟩,h =>
  ⟨c0,c1,A,fun x=>B x∨S2 x,fun x hx=>h1 x (hA x hx),fun x hx=>hx.elim (fun hx=>⟨h1 x (hB x hx).1,(hB x hx).2⟩) (fun hx=>⟨(h2 x hx).1,fun ha=>(h2 x hx).2 (hA x ha)⟩),c2,
   TsSp.app (fun x hx=>.inl hx) (fun x hx=>⟨.inr hx,fun hb=>(h2 x hx).2 (hB x hb).1⟩) hr (by simp only[Ts.len] at h;rwa [show o+3+q.len*3=o+(q.len+1)*3 by omega])⟩
theorem FsSp.app {W:World}:∀ {q r:Fs} {b o:Nat} {S S1 S2:Nat→Prop},(∀ x,S1 x→S x)→(∀ x,S2 x→S x∧¬ S1 x)→FsSp W q b o S1→FsSp W r b (o+q.len*4) S2→FsSp W (q.app r) b o S
 | .nil,r,b,o,S,S1,S2,h1,h2,_,h=>by
  refine FsSp.mono (fun x hx=>(h2 x hx).1) ?_
  simpa[Fs.app,Fs.len] using h
 | .cons v n ts sub q,r,b,o,S,S1,S2,h1,h2,⟨c0,c1,A,B,C,hA,hB,hC,c2,c3,hr⟩,h =>
  ⟨c0,c1,A,B,fun x=>C x∨S2 x,fun x hx=>h1 x (hA x hx),fun x hx=>⟨h1 x (hB x hx).1,(hB x hx).2⟩,
   fun x hx=>hx.elim (fun hx=>⟨h1 x (hC x hx).1,(hC x hx).2⟩) (fun hx=>⟨(h2 x hx).1,fun ha=>(h2 x hx).2 (hA x ha),fun hb=>(h2 x hx).2 (hB x hb).1⟩),c2,c3,
   FsSp.app (fun x hx=>.inl hx) (fun x hx=>⟨.inr hx,fun hc=>(h2 x hx).2 (hC x hc).1⟩) hr (by simp only[Fs.len] at h;rwa [show o+4+q.len*4=o+(q.len+1)*4 by omega])⟩
def FVSp (W:World) (f:FT) (v:Value) (S:Nat→Prop):Prop:=∃ sa ss,∃ S1 S2:Nat→Prop,v=fval f sa ss∧(∀ x,S1 x→S x)∧(∀ x,S2 x→S x∧¬ S1 x)∧TSp W f.ts sa S1∧FSp W f.sub ss S2
theorem FVSp.at {W:World} {f:FT} {v:Value} {S:Nat→Prop} (h:FVSp W f v S):FVal W f v:=by
 obtain⟨sa,ss,S1,S2,hv,-,-,h1,h2⟩:=h
 exact⟨sa,ss,hv,TSp.at h1,FSp.at h2⟩
theorem FVSp.mono {W:World} {f:FT} {v:Value} {S S':Nat→Prop} (hs:∀ x,S x→S' x) (h:FVSp W f v S):FVSp W f v S':=by
 obtain⟨sa,ss,S1,S2,hv,q1,q2,h1,h2⟩:=h
 exact⟨sa,ss,S1,S2,hv,fun x h=>hs x (q1 x h),fun x h=>⟨hs x (q2 x h).1,(q2 x h).2⟩,h1,h2⟩
theorem FVSp.keep {W W':World} {f:FT} {v:Value} {S:Nat→Prop} (hS:∀ x i v,S x→Wc W x i v→Wc W' x i v) (h:FVSp W f v S):FVSp W' f v S:=by
 obtain⟨sa,ss,S1,S2,hv,q1,q2,h1,h2⟩:=h
 exact⟨sa,ss,S1,S2,hv,q1,q2,TSp.keep (fun x i v h=>hS x i v (q1 x h)) h1,FSp.keep (fun x i v h=>hS x i v (q2 x h).1) h2⟩
theorem FVSp.below {W W':World} (hb:Below W.heap.size W W') {f:FT} {v:Value} {S:Nat→Prop} (h:FVSp W f v S):FVSp W' f v S:=FVSp.keep (fun _ _ _ _ hc=>hc.below hb) h
def Rg (lo hi:Nat):Nat→Prop:=fun x=>lo≤x∧x < hi
theorem wc_off {W:World} {g i b j:Nat} {v u:Value} (h:b≠g∨j≠i) (hc:Wc W b j u):Wc (W.setCell ⟨g,i,none⟩ v) b j u :=
 ⟨by rw[set_off h];exact hc.1,by rw[World.frozen?_setCell];exact hc.2⟩
theorem wc_on {W:World} {g i:Nat} {v u:Value} (h:W.cell? ⟨g,i,none⟩=some u) (hf:W.frozen? ⟨g,i,none⟩=false):Wc (W.setCell ⟨g,i,none⟩ v) g i v :=
 ⟨set_on h,by rw[World.frozen?_setCell];exact hf⟩
theorem TsSp.push {W:World} {g m h1 h2:Nat} {q:Ts} {v:Bool} {n:ByteArray} {t:Ts} {s:Value} (hg:g < h1) (hh:h1≤h2) (hown:TsSp W q g 0 (Rg (g+1) h1)) (h5:TSp W t s (Rg h1 h2)) (hf:Free W g m) (hm:q.len*3+2 < m) :
  TsSp (((W.setCell ⟨g,q.len*3,none⟩ (.bool v)).setCell ⟨g,q.len*3+1,none⟩ (.string n)).setCell ⟨g,q.len*3+2,none⟩ s) (q.app (.cons v n t .nil)) g 0 (Rg (g+1) h2):=by
 obtain⟨⟨u0,d0⟩,f0⟩:=hf (q.len*3) (by omega)
 obtain⟨⟨u1,d1⟩,f1⟩:=hf (q.len*3+1) (by omega)
 obtain⟨⟨u2,d2⟩,f2⟩:=hf (q.len*3+2) (by omega)
 have hfar:∀ b o v',b≠g→Wc W b o v'→Wc (((W.setCell ⟨g,q.len*3,none⟩ (.bool v)).setCell ⟨g,q.len*3+1,none⟩ (.string n)).setCell ⟨g,q.len*3+2,none⟩ s) b o v':=fun b o v' hb hc =>
  wc_off (.inl hb) (wc_off (.inl hb) (wc_off (.inl hb) hc))
 refine TsSp.app (S1:=Rg (g+1) h1) (S2:=Rg h1 h2) (fun x hx=>⟨hx.1,by have:=hx.2;omega⟩) (fun x hx=>⟨⟨by have:=hx.1;omega,hx.2⟩,fun h=>by have:=hx.1;have:=h.2;omega⟩)
  (TsSp.keep (fun x i v' hx hc=>hfar x i v' (by have:=hx.1;omega) hc) (fun i v' hi hj hc=>wc_off (.inr (by omega)) (wc_off (.inr (by omega)) (wc_off (.inr (by omega)) hc))) hown)
  ⟨?_,?_,Rg h1 h2,fun _=>False,fun _ h=>h,fun _ h=>h.elim,⟨s,?_,TSp.keep (fun x i v' hx hc=>hfar x i v' (by have:=hx.1;omega) hc) h5⟩,trivial⟩
 ·rw[Nat.zero_add];exact wc_off (.inr (by omega)) (wc_off (.inr (by omega)) (wc_on d0 f0))
 ·rw[Nat.zero_add];exact wc_off (.inr (by omega)) (wc_on (by rw[set_off (.inr (by omega))];exact d1) (by rw[World.frozen?_setCell];exact f1))
 ·rw[Nat.zero_add];exact wc_on (by rw[set_off (.inr (by omega)),set_off (.inr (by omega))];exact d2) (by rw[World.frozen?_setCell,World.frozen?_setCell];exact f2)
theorem FsSp.push {W:World} {g m h1 h2:Nat} {q:Fs} {op:Int} {n:ByteArray} {t:Ts} {sub:Fs} {s s':Value} (hg:g < h1) (hh:h1≤h2) (hown:FsSp W q g 0 (Rg (g+1) h1)) (h5:FVSp W ⟨op,n,t,sub⟩ (fval ⟨op,n,t,sub⟩ s s') (Rg h1 h2)) (hf:Free W g m) (hm:q.len*4+3 < m) :
  FsSp ((((W.setCell ⟨g,q.len*4,none⟩ (.int .u8 op)).setCell ⟨g,q.len*4+1,none⟩ (.string n)).setCell ⟨g,q.len*4+2,none⟩ s).setCell ⟨g,q.len*4+3,none⟩ s') (q.app (.cons op n t sub .nil)) g 0 (Rg (g+1) h2):=by
 obtain⟨⟨u0,d0⟩,f0⟩:=hf (q.len*4) (by omega)
 obtain⟨⟨u1,d1⟩,f1⟩:=hf (q.len*4+1) (by omega)
 obtain⟨⟨u2,d2⟩,f2⟩:=hf (q.len*4+2) (by omega)
 obtain⟨⟨u3,d3⟩,f3⟩:=hf (q.len*4+3) (by omega)
 obtain⟨sa,ss,A,B,e,hA,hB,hsa,hss⟩:=h5
 have e':s=sa∧s'=ss:=by simp[fval] at e;exact e
 obtain⟨rfl,rfl⟩:=e'
 have hfar:∀ b o v',b≠g→Wc W b o v'→Wc ((((W.setCell ⟨g,q.len*4,none⟩ (.int .u8 op)).setCell ⟨g,q.len*4+1,none⟩ (.string n)).setCell ⟨g,q.len*4+2,none⟩ s).setCell ⟨g,q.len*4+3,none⟩ s') b o v':=fun b o v' hb hc =>
  wc_off (.inl hb) (wc_off (.inl hb) (wc_off (.inl hb) (wc_off (.inl hb) hc)))
 refine FsSp.app (S1:=Rg (g+1) h1) (S2:=Rg h1 h2) (fun x hx=>⟨hx.1,by have:=hx.2;omega⟩) (fun x hx=>⟨⟨by have:=hx.1;omega,hx.2⟩,fun h=>by have:=hx.1;have:=h.2;omega⟩)
  (FsSp.keep (fun x i v' hx hc=>hfar x i v' (by have:=hx.1;omega) hc) (fun i v' hi hj hc=>wc_off (.inr (by omega)) (wc_off (.inr (by omega)) (wc_off (.inr (by omega)) (wc_off (.inr (by omega)) hc)))) hown)
  ⟨?_,?_,A,B,fun _=>False,hA,hB,fun _ h=>h.elim,⟨s,?_,TSp.keep (fun x i v' hx hc=>hfar x i v' (by have:=(hA x hx).1;omega) hc) hsa⟩,⟨s',?_,FSp.keep (fun x i v' hx hc=>hfar x i v' (by have:=(hB x hx).1.1;omega) hc) hss⟩,trivial⟩
 ·rw[Nat.zero_add];exact wc_off (.inr (by omega)) (wc_off (.inr (by omega)) (wc_off (.inr (by omega)) (wc_on d0 f0)))
 ·rw[Nat.zero_add];exact wc_off (.inr (by omega)) (wc_off (.inr (by omega)) (wc_on (by rw[set_off (.inr (by omega))];exact d1) (by rw[World.frozen?_setCell];exact f1)))
 ·rw[Nat.zero_add];exact wc_off (.inr (by omega)) (wc_on (by rw[set_off (.inr (by omega)),set_off (.inr (by omega))];exact d2) (by rw[World.frozen?_setCell,World.frozen?_setCell];exact f2))
 ·rw[Nat.zero_add];exact wc_on (by rw[set_off (.inr (by omega)),set_off (.inr (by omega)),set_off (.inr (by omega))];exact d3) (by rw[World.frozen?_setCell,World.frozen?_setCell,World.frozen?_setCell];exact f3)
end Go.Proofs.YtngdieldgnlogaaGreatDoor
