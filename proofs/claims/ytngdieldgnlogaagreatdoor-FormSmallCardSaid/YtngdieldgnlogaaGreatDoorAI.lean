/- A world in which two blocks hold nothing; variables that hold formulas and terms; rows of terms. -/
import Derived.Test.YtngdieldgnlogaaGreatDoorAG
namespace Go.Proofs.YtngdieldgnlogaaGreatDoor
set_option linter.unusedSimpArgs false
open Go Go.RowKit
set_option maxRecDepth 100000
set_option linter.unusedVariables false
theorem punch_comm (W:World) (g h:Nat):punch (punch W g) h=punch (punch W h) g:=by
 unfold punch
 simp only[World.mk.injEq,and_true,true_and]
 apply Array.ext_getElem?
 intro j
 simp only[Array.getElem?_setIfInBounds,Array.size_setIfInBounds]
 by_cases h1:g=j
 ·by_cases h2:h=j
  ·subst h1;subst h2;rfl
  ·subst h1;simp[h2]
 ·by_cases h2:h=j
  ·subst h2;simp[h1]
  ·simp[h1,h2]
def pun (W:World) (g h:Nat):World:=punch (punch W g) h
theorem pun_size (W:World) (g h:Nat):(pun W g h).heap.size=W.heap.size:=by unfold pun;rw[punch_size,punch_size]
theorem pun_ext (W:World) (g h:Nat):Ext (pun W g h) W:=Ext.trans (punch_ext _ _) (punch_ext _ _)
theorem pun_below {W W':World} {g h:Nat} (hb:Below W.heap.size W W'):Below (pun W g h).heap.size (pun W g h) (pun W' g h):=punch_below (punch_below hb)
theorem pun_alloc {W:World} {g h:Nat} (hg:g < W.heap.size) (hh:h < W.heap.size) (o:Obj):pun (W.alloc o) g h=(pun W g h).alloc o:=by
 unfold pun
 rw[punch_alloc hg,punch_alloc (by rw[punch_size];exact hh)]
theorem pun_set1 (W:World) (g h i:Nat) (v:Value):pun (W.setCell ⟨g,i,none⟩ v) g h=pun W g h:=by unfold pun;rw[punch_set]
theorem pun_set2 (W:World) (g h i:Nat) (v:Value):pun (W.setCell ⟨h,i,none⟩ v) g h=pun W g h:=by unfold pun;rw[punch_comm,punch_set,punch_comm]
structure BU (U:World) (F:FT) (v:Value) (g:Nat) (W:World):Prop where
 c0:Wc W g 0 (.int .u8 F.op)
 c1:Wc W g 1 (.string F.n)
 c2:∃ p c,Wc W g 2 (.slice p F.ts.len c)∧∃ q d,Wc W g 3 (.slice q F.sub.len d)∧v=fval F (.slice p F.ts.len c) (.slice q F.sub.len d)
 val:FVal U F v
structure TU (U:World) (t:TT) (v:Value) (g:Nat) (W:World):Prop where
 c0:Wc W g 0 (.bool t.v)
 c1:Wc W g 1 (.string t.n)
 c2:∃ p c,Wc W g 2 (.slice p t.ts.len c)∧v=.agg #[.bool t.v,.string t.n,.slice p t.ts.len c]∧TSl U t.ts (.slice p t.ts.len c)
theorem BU.keep {U U' W W':World} {F:FT} {v:Value} {g:Nat} (h:BU U F v g W) (hU:Ext U U') (hW:∀ i x,Wc W g i x→Wc W' g i x):BU U' F v g W':=by
 obtain⟨h0,h1,⟨p,c,h2,q,d,h3,hv⟩,h4⟩:=h
 exact⟨hW _ _ h0,hW _ _ h1,⟨p,c,hW _ _ h2,q,d,hW _ _ h3,hv⟩,FVal.ext hU h4⟩
theorem TU.keep {U U' W W':World} {t:TT} {v:Value} {g:Nat} (h:TU U t v g W) (hU:Ext U U') (hW:∀ i x,Wc W g i x→Wc W' g i x):TU U' t v g W':=by
 obtain⟨h0,h1,⟨p,c,h2,hv,h4⟩⟩:=h
 exact⟨hW _ _ h0,hW _ _ h1,⟨p,c,hW _ _ h2,hv,TSl.ext hU h4⟩⟩
theorem BU.below {g h W W' F v x} (hh:BU (pun W g h) F v x W) (hb:Below W.heap.size W W'):BU (pun W' g h) F v x W':=hh.keep (Ext.of_below (pun_below hb)) fun _ _ hc=>hc.below hb
theorem TU.below {g h W W' t v x} (hh:TU (pun W g h) t v x W) (hb:Below W.heap.size W W'):TU (pun W' g h) t v x W':=hh.keep (Ext.of_below (pun_below hb)) fun _ _ hc=>hc.below hb
theorem BU.at {g h W F v x} (hh:BU (pun W g h) F v x W):FVal W F v:=FVal.ext (pun_ext W g h) hh.val
theorem wc_set4 {W:World} {g x i:Nat} {u a b c d:Value} (hne:x≠g) (h:Wc W x i u):Wc ((((W.setCell ⟨g,0,none⟩ a).setCell ⟨g,1,none⟩ b).setCell ⟨g,2,none⟩ c).setCell ⟨g,3,none⟩ d) x i u :=
 wc_off (.inl hne) (wc_off (.inl hne) (wc_off (.inl hne) (wc_off (.inl hne) h)))
theorem wc_set3 {W:World} {g x i:Nat} {u a b c:Value} (hne:x≠g) (h:Wc W x i u):Wc (((W.setCell ⟨g,0,none⟩ a).setCell ⟨g,1,none⟩ b).setCell ⟨g,2,none⟩ c) x i u :=
 wc_off (.inl hne) (wc_off (.inl hne) (wc_off (.inl hne) h))
theorem BU.set {F G:FT} {v:Value} {g k:Nat} {W:World} {p q:Option Addr} {m n:Nat} (h:BU (pun W g k) F v g W) (hv:FVal (pun W g k) G (fval G (.slice p G.ts.len m) (.slice q G.sub.len n))) :
  ∃ W',(Instr.storeAt 25 (.pointer (some ⟨g,0,none⟩)) (fval G (.slice p G.ts.len m) (.slice q G.sub.len n))).run Tryz.prog W=.ok () W'∧BU (pun W' g k) G (fval G (.slice p G.ts.len m) (.slice q G.sub.len n)) g W'∧pun W' g k=pun W g k∧(∀ x i u,x≠g→Wc W x i u→Wc W' x i u)∧∀ B w,Below B w W→B≤g→Below B w W':=by
 obtain⟨h0,h1,⟨p',c',h2,q',d',h3,-⟩,-⟩:=h
 have e:pun ((((W.setCell ⟨g,0,none⟩ (.int .u8 G.op)).setCell ⟨g,1,none⟩ (.string G.n)).setCell ⟨g,2,none⟩ (.slice p G.ts.len m)).setCell ⟨g,3,none⟩ (.slice q G.sub.len n)) g k=pun W g k:=by
  rw[pun_set1,pun_set1,pun_set1,pun_set1]
 refine⟨_,storeF h0 h1 h2 h3,⟨?_,?_,⟨p,m,?_,q,n,?_,rfl⟩,by rw[e];exact hv⟩,e,fun x i u hx hc=>wc_set4 hx hc,fun B w hb hB=>below_set4 hb hB⟩
 ·exact wc_off (.inr (by decide)) (wc_off (.inr (by decide)) (wc_off (.inr (by decide)) (wc_on h0.1 h0.2)))
 ·exact wc_off (.inr (by decide)) (wc_off (.inr (by decide)) (wc_on (wc_off (.inr (by decide)) h1).1 (wc_off (.inr (by decide)) h1).2))
 ·exact wc_off (.inr (by decide)) (wc_on (wc_off (.inr (by decide)) (wc_off (.inr (by decide)) h2)).1 (wc_off (.inr (by decide)) (wc_off (.inr (by decide)) h2)).2)
 ·exact wc_on (wc_off (.inr (by decide)) (wc_off (.inr (by decide)) (wc_off (.inr (by decide)) h3))).1 (wc_off (.inr (by decide)) (wc_off (.inr (by decide)) (wc_off (.inr (by decide)) h3))).2
theorem storeT {W:World} {b:Nat} {t:TT} {p:Option Addr} {m:Nat} {u0 u1 u2:Value} (y0:Wc W b 0 u0) (y1:Wc W b 1 u1) (y2:Wc W b 2 u2):(Instr.storeAt 46 (.pointer (some ⟨b,0,none⟩)) (.agg #[.bool t.v,.string t.n,.slice p t.ts.len m])).run Tryz.prog W =
  .ok () (((W.setCell ⟨b,0,none⟩ (.bool t.v)).setCell ⟨b,1,none⟩ (.string t.n)).setCell ⟨b,2,none⟩ (.slice p t.ts.len m)):=by
 have a0:=y0.1
 have a1:=y1.1
 have a2:=y2.1
 have b0:=y0.2
 have b1:=y1.2
 have b2:=y2.2
 simp[Instr.storeAt,go_sem,a0,a1,a2,b0,b1,b2]
theorem TU.set {t s:TT} {v:Value} {g k:Nat} {W:World} {p:Option Addr} {m:Nat} (h:TU (pun W k g) t v g W) (hv:TSl (pun W k g) s.ts (.slice p s.ts.len m)) :
  ∃ W',(Instr.storeAt 46 (.pointer (some ⟨g,0,none⟩)) (.agg #[.bool s.v,.string s.n,.slice p s.ts.len m])).run Tryz.prog W=.ok () W'∧TU (pun W' k g) s (.agg #[.bool s.v,.string s.n,.slice p s.ts.len m]) g W'∧pun W' k g=pun W k g∧(∀ x i u,x≠g→Wc W x i u→Wc W' x i u)∧∀ B w,Below B w W→B≤g→Below B w W':=by
 obtain⟨h0,h1,⟨p',c',h2,-,-⟩⟩:=h
 have e:pun (((W.setCell ⟨g,0,none⟩ (.bool s.v)).setCell ⟨g,1,none⟩ (.string s.n)).setCell ⟨g,2,none⟩ (.slice p s.ts.len m)) k g=pun W k g:=by
  rw[pun_set2,pun_set2,pun_set2]
 refine⟨_,storeT h0 h1 h2,⟨?_,?_,⟨p,m,?_,rfl,by rw[e];exact hv⟩⟩,e,fun x i u hx hc=>wc_set3 hx hc,fun B w hb hB=>((hb.setCell (p:=⟨g,0,none⟩) hB _).setCell (p:=⟨g,1,none⟩) hB _).setCell (p:=⟨g,2,none⟩) hB _⟩
 ·exact wc_off (.inr (by decide)) (wc_off (.inr (by decide)) (wc_on h0.1 h0.2))
 ·exact wc_off (.inr (by decide)) (wc_on (wc_off (.inr (by decide)) h1).1 (wc_off (.inr (by decide)) h1).2)
 ·exact wc_on (wc_off (.inr (by decide)) (wc_off (.inr (by decide)) h2)).1 (wc_off (.inr (by decide)) (wc_off (.inr (by decide)) h2)).2
def TVc (U:World) (ch:UInt8) (ts:Ts) (v:Value):Prop:=∃ b p c,v=.agg #[.bool b,.string ⟨#[ch]⟩,.slice p ts.len c]∧TSl U ts (.slice p ts.len c)
theorem TVc.ext {U U':World} {ch:UInt8} {ts:Ts} {v:Value} (hU:Ext U U') (h:TVc U ch ts v):TVc U' ch ts v:=by
 obtain⟨b,p,c,e,h⟩:=h
 exact⟨b,p,c,e,TSl.ext hU h⟩
theorem term_formU (ch:UInt8) (ts:Ts) (s:Value) (g h:Nat) (W:World) (hs:TSl (pun W g h) ts s):Calls Tryz.prog 48 #[.string ⟨#[ch]⟩,s] W fun e W'=>(∃ v,e=.returned v∧TVc (pun W' g h) ch ts v)∧Below W.heap.size W W':=by
 obtain⟨p,c,rfl,hp⟩:=id hs
 exact(term_all ch p ts.len c W).mono fun e W' ⟨⟨b,he⟩,hb⟩=>⟨⟨_,he,b,p,c,rfl,TSl.ext (Ext.of_below (pun_below hb)) hs⟩,hb⟩
theorem term_form (ch:UInt8) (ts:Ts) (s:Value) (W:World) (hs:TSl W ts s):Calls Tryz.prog 48 #[.string ⟨#[ch]⟩,s] W fun e W'=>(∃ v,e=.returned v∧TVc W' ch ts v)∧Below W.heap.size W W':=by
 obtain⟨p,c,rfl,hp⟩:=id hs
 exact(term_all ch p ts.len c W).mono fun e W' ⟨⟨b,he⟩,hb⟩=>⟨⟨_,he,b,p,c,rfl,TSl.ext (Ext.of_below hb) hs⟩,hb⟩
theorem of_formU (op:Int) (n:ByteArray) (L:Fs) (s:Value) (g k:Nat) (W:World) (h:FSl (pun W g k) L s):Calls Tryz.prog 49 #[.int .u8 op,.string n,s] W fun e W'=>(∃ v,e=.returned v∧FVal (pun W' g k) ⟨op,n,.nil,L⟩ v)∧Below W.heap.size W W':=by
 obtain⟨p,c,rfl,hp⟩:=id h
 exact(of_all op n p L.len c W).mono fun e W' ⟨he,hb⟩=>⟨⟨_,he,fval_of (FSl.below (pun_below hb) h)⟩,hb⟩
theorem of_formW (op:Int) (n:ByteArray) (L:Fs) (s:Value) (W:World) (h:FSl W L s):Calls Tryz.prog 49 #[.int .u8 op,.string n,s] W fun e W'=>(∃ v,e=.returned v∧FVal W' ⟨op,n,.nil,L⟩ v)∧Below W.heap.size W W':=by
 obtain⟨p,c,rfl,hp⟩:=id h
 exact(of_all op n p L.len c W).mono fun e W' ⟨he,hb⟩=>⟨⟨_,he,fval_of (FSl.below hb h)⟩,hb⟩
theorem atom_form (n:ByteArray) (ts:Ts) (s:Value) (W:World) (h:TSl W ts s):Calls Tryz.prog 39 #[.string n,s] W fun e W'=>(∃ v,e=.returned v∧FVal W' ⟨1,n,ts,.nil⟩ v)∧Below W.heap.size W W':=by
 obtain⟨p,c,rfl,hp⟩:=id h
 exact(atom_all n p ts.len c W).mono fun e W' ⟨he,hb⟩=>⟨⟨_,he,fval_atom (TSl.below hb h)⟩,hb⟩
theorem one_term {b:Bool} {n:ByteArray} {ts:Ts} {p:Option Addr} {c:Nat} {W:World} (h:TSl W ts (.slice p ts.len c)) (t:TypeId):TSl (W.alloc (.cells #[.bool b,.string n,.slice p ts.len c] t)) (.cons b n ts .nil) (.slice (some ⟨W.heap.size,0,none⟩) 1 1):=by
 have cN:=fun i=>cell_new W #[.bool b,.string n,.slice p ts.len c] t i
 exact⟨_,_,rfl,.inr ⟨_,_,rfl,cN 0,cN 1,⟨_,cN 2,TSl.below (bel_laid W _) h⟩,trivial⟩⟩
theorem one_termU {b:Bool} {n:ByteArray} {ts:Ts} {p:Option Addr} {c g k:Nat} {W:World} (hg:g < W.heap.size) (hk:k < W.heap.size) (h:TSl (pun W g k) ts (.slice p ts.len c)) (t:TypeId):TSl (pun (W.alloc (.cells #[.bool b,.string n,.slice p ts.len c] t)) g k) (.cons b n ts .nil) (.slice (some ⟨W.heap.size,0,none⟩) 1 1):=by
 have h2:=one_term (b:=b) (n:=n) h t
 rw[pun_size] at h2
 rw[pun_alloc hg hk]
 exact h2
theorem one_listU {F:FT} {p q:Option Addr} {a b g k:Nat} {W:World} (hg:g < W.heap.size) (hk:k < W.heap.size) (hv:FVal (pun W g k) F (fval F (.slice p F.ts.len a) (.slice q F.sub.len b))) (t:TypeId) :
  FSl (pun (W.alloc (.cells #[.int .u8 F.op,.string F.n,.slice p F.ts.len a,.slice q F.sub.len b] t)) g k) (.cons F.op F.n F.ts F.sub .nil) (.slice (some ⟨W.heap.size,0,none⟩) 1 1):=by
 have h:=one_listP hv t
 rw[pun_size] at h
 rw[pun_alloc hg hk]
 exact h
theorem build_t1 (w:World) (c0 c1 c2:Value):(Instr.buildSlice 22 1 #[(0,.agg #[c0,c1,c2])]).run Tryz.prog w=.ok (.slice (some ⟨w.heap.size,0,none⟩) 1 1) (w.alloc (.cells #[c0,c1,c2] 46)):=by
 simp[Instr.buildSlice,go_sem]
def cells3:Value→List Value
 | .agg a=>a.toList
 | v=>[v]
def flatT (l:List Value):List Value:=l.flatMap cells3
def TL (W:World):List Value→Ts→Prop
 | [],.nil=>True
 | v :: l,.cons b n ts r=>(∃ p c,v=.agg #[.bool b,.string n,.slice p ts.len c]∧TSl W ts (.slice p ts.len c))∧TL W l r
 | _,_=>False
theorem TL.at {W:World} {g:Nat}:∀ {l:List Value} {r:Ts} {o:Nat},TL W l r→(∀ j u,(flatT l)[j]? = some u→W.cell? ⟨g,o+j,none⟩=some u)→TsAt W r g o
 | [],.nil,_,_,_=>trivial
 | _ :: l,.cons b n ts r,o,⟨⟨p,c,hv,h1⟩,h2⟩,hc=>by
  subst hv
  have hf:flatT (Value.agg #[.bool b,.string n,.slice p ts.len c] :: l)=[.bool b,.string n,.slice p ts.len c] ++ flatT l:=rfl
  rw[hf] at hc
  refine⟨hc 0 _ rfl,hc 1 _ rfl,⟨_,hc 2 _ rfl,h1⟩,TL.at h2 fun j u hj=>?_⟩
  rw[show o+3+j=o+(j+3) by omega]
  exact hc (j+3) u (by simpa using hj)
theorem TL.ext {W W':World} (h:Ext W W'):∀ {l:List Value} {r:Ts},TL W l r→TL W' l r
 | [],.nil,_=>trivial
 | _ :: _,.cons ..,⟨⟨p,c,hv,h1⟩,h2⟩=>⟨⟨p,c,hv,TSl.ext h h1⟩,TL.ext h h2⟩
theorem lit_wc {W:World} {cs:Array Value} {t:TypeId} {i:Nat} {v:Value} (h:cs[i]? = some v):Wc (W.alloc (.cells cs t)) W.heap.size i v :=
 ⟨(cell_new W cs t i).trans h,(Free.lit W cs t i (Array.getElem?_eq_some_iff.1 h).1).2⟩
def G2 (g:Nat) (W:World):Prop:=Wc W g 0 (.int .u8 1)∧Wc W g 1 (.string ⟨#[80]⟩)∧Wc W g 2 (.slice none 0 0)∧Wc W g 3 (.slice none 0 0)
theorem G2.keep {g:Nat} {W W':World} (h:G2 g W) (hk:∀ i u,Wc W g i u→Wc W' g i u):G2 g W':=⟨hk _ _ h.1,hk _ _ h.2.1,hk _ _ h.2.2.1,hk _ _ h.2.2.2⟩
theorem loadT46b {W:World} {b o k c:Nat} {v:Bool} {n:ByteArray} {p:Option Addr} (h0:W.cell? ⟨b,o,none⟩=some (.bool v)) (h1:W.cell? ⟨b,o+1,none⟩=some (.string n)) (h2:W.cell? ⟨b,o+2,none⟩=some (.slice p k c)):(Instr.loadAt 46 (.pointer (some ⟨b,o,none⟩))).run Tryz.prog W=.ok (.agg #[.bool v,.string n,.slice p k c]) W:=by
 simp[Instr.loadAt,go_sem,h0,h1,h2]
theorem index0 {W:World} {b o n c:Nat} (hn:0 < n):(Instr.indexAt 23 (.slice (some ⟨b,o,none⟩) n c) (.int .i64 0)).run Tryz.prog W=.ok (.pointer (some ⟨b,o,none⟩)) W:=by
 have h1:(0:Int) < (n:Int):=by omega
 simp[Instr.indexAt,go_sem,hn]
theorem f25_3 {W:World} {b:Nat}:(Instr.fieldAt 25 (.pointer (some ⟨b,0,none⟩)) 3).run Tryz.prog W=.ok (.pointer (some ⟨b,3,none⟩)) W:=by
 simp[Instr.fieldAt,go_sem]
theorem Ts.app_size:∀ (a b:Ts),(a.app b).size=a.size+b.size
 | .nil,b=>by simp[Ts.app,Ts.size]
 | .cons _ _ ts r,b=>by simp only[Ts.app,Ts.size,Ts.app_size r b];omega
theorem Ts.app_len:∀ (a b:Ts),(a.app b).len=a.len+b.len
 | .nil,b=>by simp[Ts.app,Ts.len]
 | .cons _ _ ts r,b=>by simp only[Ts.app,Ts.len,Ts.app_len r b];omega
theorem Ts.app_wt:∀ (a b:Ts),(a.app b).wt=a.wt+b.wt
 | .nil,b=>by simp[Ts.app,Ts.wt]
 | .cons _ _ ts r,b=>by simp only[Ts.app,Ts.wt,Ts.app_wt r b];omega
theorem TL.snoc {W:World} {b:Bool} {n:ByteArray} {ts:Ts} {p:Option Addr} {c:Nat} (h:TSl W ts (.slice p ts.len c)):∀ {l:List Value} {r:Ts},TL W l r→TL W (l ++ [.agg #[.bool b,.string n,.slice p ts.len c]]) (r.app (.cons b n ts .nil))
 | [],.nil,_=>⟨⟨p,c,rfl,h⟩,trivial⟩
 | _ :: _,.cons ..,⟨h1,h2⟩=>⟨h1,TL.snoc h h2⟩
theorem flatT_snoc (l:List Value) (b:Bool) (n:ByteArray) (s:Value):flatT (l ++ [.agg #[.bool b,.string n,s]])=flatT l ++ [.bool b,.string n,s]:=by simp[flatT,cells3]
theorem four_terms {b1 b2 b3 b4:Bool} {n1 n2 n3 n4:ByteArray} {t1 t2 t3 t4:Ts} {p1 p2 p3 p4:Option Addr} {c1 c2 c3 c4:Nat} {W:World} (h1:TSl W t1 (.slice p1 t1.len c1)) (h2:TSl W t2 (.slice p2 t2.len c2)) (h3:TSl W t3 (.slice p3 t3.len c3)) (h4:TSl W t4 (.slice p4 t4.len c4)) (t:TypeId) :
  TSl (W.alloc (.cells #[.bool b1,.string n1,.slice p1 t1.len c1,.bool b2,.string n2,.slice p2 t2.len c2,.bool b3,.string n3,.slice p3 t3.len c3,.bool b4,.string n4,.slice p4 t4.len c4] t)) (.cons b1 n1 t1 (.cons b2 n2 t2 (.cons b3 n3 t3 (.cons b4 n4 t4 .nil)))) (.slice (some ⟨W.heap.size,0,none⟩) 4 4):=by
 have cN:=fun i=>cell_new W #[.bool b1,.string n1,.slice p1 t1.len c1,.bool b2,.string n2,.slice p2 t2.len c2,.bool b3,.string n3,.slice p3 t3.len c3,.bool b4,.string n4,.slice p4 t4.len c4] t i
 have hb:=bel_laid W (.cells #[.bool b1,.string n1,.slice p1 t1.len c1,.bool b2,.string n2,.slice p2 t2.len c2,.bool b3,.string n3,.slice p3 t3.len c3,.bool b4,.string n4,.slice p4 t4.len c4] t)
 exact⟨_,_,rfl,.inr ⟨_,_,rfl,cN 0,cN 1,⟨_,cN 2,TSl.below hb h1⟩,cN 3,cN 4,⟨_,cN 5,TSl.below hb h2⟩,cN 6,cN 7,⟨_,cN 8,TSl.below hb h3⟩,cN 9,cN 10,⟨_,cN 11,TSl.below hb h4⟩,trivial⟩⟩
theorem nil_terms (W:World):TSl W .nil (.slice none Ts.nil.len 0):=⟨none,0,rfl,.inl rfl⟩
theorem TSl.of_owns {W:World} {B j:Nat} {e:TypeId} {s:Value} {xs:List Value} {ts:Ts} (hl:ts.len=j) (h:W.ownsRow B e 3 s j (flatT xs)) (ht:TL W xs ts):TSl W ts s:=by
 subst hl
 obtain⟨-,⟨rfl,hz⟩ | ⟨g,cap,cur,rfl,hg,hb,-⟩⟩:=id h
 ·exact⟨none,0,by rw[hz],.inl hz⟩
 ·exact⟨some ⟨g,0,none⟩,cap,rfl,.inr ⟨g,0,rfl,TL.at ht fun j u hu=>by rw[Nat.zero_add];exact(owns_wc h hu).1⟩⟩
theorem hideLow_size (W:World) (z:Nat):(hideLow W z).heap.size=W.heap.size:=by simp[hideLow]
theorem hideLow_alloc {W:World} {z:Nat} (h:z≤W.heap.size) (o:Obj):hideLow (W.alloc o) z=(hideLow W z).alloc o:=by
 unfold hideLow World.alloc
 simp only[World.mk.injEq,and_true,true_and]
 apply Array.ext_getElem?
 intro i
 simp only[Array.getElem?_mapIdx,Array.getElem?_push,Array.size_mapIdx]
 by_cases hi:i=W.heap.size
 ·subst hi
  have:¬ W.heap.size < z:=by omega
  simp[this]
 ·simp[hi]
theorem hideLow_below {W W':World} {z:Nat} (hb:Below W.heap.size W W'):Below (hideLow W z).heap.size (hideLow W z) (hideLow W' z):=by
 rw[hideLow_size]
 refine⟨hb.os,hb.tape,hb.output,by rw[hideLow_size,hideLow_size];exact hb.size,fun k hk=>?_⟩
 unfold hideLow
 simp only[Array.getElem?_mapIdx]
 rw[hb.block k hk]
theorem term_formH (ch:UInt8) (ts:Ts) (s:Value) (z:Nat) (W:World) (hs:TSl (hideLow W z) ts s):Calls Tryz.prog 48 #[.string ⟨#[ch]⟩,s] W fun e W'=>(∃ v,e=.returned v∧TVc (hideLow W' z) ch ts v)∧Below W.heap.size W W':=by
 obtain⟨p,c,rfl,hp⟩:=id hs
 exact(term_all ch p ts.len c W).mono fun e W' ⟨⟨b,he⟩,hb⟩=>⟨⟨_,he,b,p,c,rfl,TSl.ext (Ext.of_below (hideLow_below hb)) hs⟩,hb⟩
theorem four_termsH {b1 b2 b3 b4:Bool} {n1 n2 n3 n4:ByteArray} {t1 t2 t3 t4:Ts} {p1 p2 p3 p4:Option Addr} {c1 c2 c3 c4 z:Nat} {W:World} (hz:z≤W.heap.size) (h1:TSl (hideLow W z) t1 (.slice p1 t1.len c1)) (h2:TSl (hideLow W z) t2 (.slice p2 t2.len c2)) (h3:TSl (hideLow W z) t3 (.slice p3 t3.len c3)) (h4:TSl (hideLow W z) t4 (.slice p4 t4.len c4)) (t:TypeId) :
  TSl (hideLow (W.alloc (.cells #[.bool b1,.string n1,.slice p1 t1.len c1,.bool b2,.string n2,.slice p2 t2.len c2,.bool b3,.string n3,.slice p3 t3.len c3,.bool b4,.string n4,.slice p4 t4.len c4] t)) z) (.cons b1 n1 t1 (.cons b2 n2 t2 (.cons b3 n3 t3 (.cons b4 n4 t4 .nil)))) (.slice (some ⟨W.heap.size,0,none⟩) 4 4):=by
 have h:=four_terms (b1:=b1) (b2:=b2) (b3:=b3) (b4:=b4) (n1:=n1) (n2:=n2) (n3:=n3) (n4:=n4) h1 h2 h3 h4 t
 rw[hideLow_size] at h
 rw[hideLow_alloc hz]
 exact h
theorem tl_step {xs:List Value} {ts S:Ts} {b:Bool} {n:ByteArray} {p:Option Addr} {c:Nat} {wr VN v99:World} {u vv:Value} (hb:Below wr.heap.size wr VN) (hlt:∀ r,u.ownBlock=some r→r < wr.heap.size) (h1:∀ r,u.ownBlock=some r→TL (punch wr r) xs ts) (h0:u.ownBlock=none→xs=[]∧ts=.nil)
  (hS:TSl (hideLow VN wr.heap.size) S (.slice p S.len c)) (hg:VN.grownBy v99 u.ownBlock) (hob:vv.ownBlock=u.ownBlock∨vv.ownBlock=some VN.heap.size):∀ r,vv.ownBlock=some r→TL (punch v99 r) (xs ++ [.agg #[.bool b,.string n,.slice p S.len c]]) (ts.app (.cons b n S .nil)):=by
 intro r hr
 have hr2:(u.ownBlock=some r)∨r=VN.heap.size:=by
  rcases hob with e | e
  ·exact .inl (e ▸ hr)
  ·rw[e] at hr;cases hr;exact .inr rfl
 have E2:Ext (hideLow VN wr.heap.size) (punch v99 r):=by
  intro b' o y hc
  obtain⟨k1,k2⟩:=hideLow_cell hc
  have k3:=lt_of_cell k2
  have hne:b'≠r:=by
   rcases hr2 with e | e
   ·have:=hlt r e;omega
   ·omega
  rw[punch_cell hne]
  exact hg.cell k2 (fun e=>by have:=hlt b' e.symm;omega)
 refine TL.snoc (TSl.ext E2 hS) ?_
 cases hu:u.ownBlock with
 | none =>
  obtain⟨rfl,rfl⟩:=h0 hu
  trivial
 | some r0 =>
  refine TL.ext (fun b' o y hc=>?_) (h1 r0 hu)
  have hb0:b'≠r0:=fun e=>by subst e;rw[punch_none] at hc;cases hc
  rw[punch_cell hb0] at hc
  have k2:=c_B hb hc
  have k3:=lt_of_cell k2
  have hne:b'≠r:=by
   rcases hr2 with e | e
   ·rw[hu] at e;cases e;exact hb0
   ·omega
  rw[punch_cell hne]
  exact hg.cell k2 (fun e=>by rw[hu] at e;cases e;exact hb0 rfl)
theorem opn_atom (n:ByteArray) (ts:Ts):Opn ⟨1,n,ts,.nil⟩:=fun p hp=>by
 simp only[FT.parts,Fs.parts,List.mem_cons,List.not_mem_nil,or_false] at hp
 subst hp
 show (0:Int)≤1
 decide
theorem opn_of1 {op:Int} {n:ByteArray} {F:FT} (ho:0≤op) (h:Opn F):Opn ⟨op,n,.nil,.cons F.op F.n F.ts F.sub .nil⟩:=N1.open ho h
end Go.Proofs.YtngdieldgnlogaaGreatDoor
