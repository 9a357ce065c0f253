/- The law's places, for all formulas. -/
import Derived.Test.YtngdieldgnlogaaGreatDoorZB
import Derived.Test.YtngdieldgnlogaaGreatDoorAE
import Derived.Deep.Cut
import Derived.Deep.RegionHeld3
namespace Go.Proofs.YtngdieldgnlogaaGreatDoor
set_option linter.unusedSimpArgs false
open Go Go.RowKit
set_option maxRecDepth 100000
set_option linter.unusedVariables false
abbrev zF:FT:=⟨0,⟨#[]⟩,.nil,.nil⟩
theorem two_list {f h:FT} {p q p' q':Option Addr} {a b a' b':Nat} {W:World} (hv:FVal W f (fval f (.slice p f.ts.len a) (.slice q f.sub.len b))) (hv':FVal W h (fval h (.slice p' h.ts.len a') (.slice q' h.sub.len b'))) (t:TypeId) :
  FSl (W.alloc (.cells #[.int .u8 f.op,.string f.n,.slice p f.ts.len a,.slice q f.sub.len b,.int .u8 h.op,.string h.n,.slice p' h.ts.len a',.slice q' h.sub.len b'] t)) (.cons f.op f.n f.ts f.sub (.cons h.op h.n h.ts h.sub .nil)) (.slice (some ⟨W.heap.size,0,none⟩) 2 2):=by
 have cN:=fun i=>cell_new W #[.int .u8 f.op,.string f.n,.slice p f.ts.len a,.slice q f.sub.len b,.int .u8 h.op,.string h.n,.slice p' h.ts.len a',.slice q' h.sub.len b'] t i
 have b5:=bel_laid W (.cells #[.int .u8 f.op,.string f.n,.slice p f.ts.len a,.slice q f.sub.len b,.int .u8 h.op,.string h.n,.slice p' h.ts.len a',.slice q' h.sub.len b'] t)
 obtain⟨_,_,e,t1,t2⟩:=hv
 obtain⟨_,_,e',t3,t4⟩:=hv'
 simp at e e'
 obtain⟨rfl,rfl⟩:=e
 obtain⟨rfl,rfl⟩:=e'
 exact⟨_,_,rfl,.inr ⟨_,_,rfl,cN 0,cN 1,⟨_,cN 2,TSl.below b5 t1⟩,⟨_,cN 3,FSl.below b5 t2⟩,cN 4,cN 5,⟨_,cN 6,TSl.below b5 t3⟩,⟨_,cN 7,FSl.below b5 t4⟩,trivial⟩⟩
def ZS (w:World) (g:Nat) (V:World):Prop :=
 V.cell? ⟨g,0,none⟩=some (.int .u8 0)∧V.cell? ⟨g,1,none⟩=some (.string ⟨#[]⟩)∧V.cell? ⟨g,2,none⟩=some (.slice none 0 0)∧V.cell? ⟨g,3,none⟩=some (.slice none 0 0)∧Below w.heap.size w V
theorem ZS.next {w V V':World} {g:Nat} (h:ZS w g V) (hb:Below V.heap.size V V'):ZS w g V':=⟨c_B hb h.1,c_B hb h.2.1,c_B hb h.2.2.1,c_B hb h.2.2.2.1,bS h.2.2.2.2 hb⟩
theorem LsAt.get {W:World}:∀ {l:List Int} {b o k:Nat},LsAt W l b o→(h:k < l.length)→W.cell? ⟨b,o+k,none⟩=some (.int .i64 l[k])
 | [],_,_,_,_,h=>by simp at h
 | x :: l,b,o,0,⟨h0,_⟩,_=>h0
 | x :: l,b,o,k+1,⟨_,hr⟩,h=>by
  have:=LsAt.get (k:=k) hr (by simpa using h)
  rw[show o+(k+1)=o+1+k by omega]
  simpa using this
end Go.Proofs.YtngdieldgnlogaaGreatDoor
namespace Go.Proofs.YtngdieldgnlogaaGreatDoor
open Go Go.RowKit
set_option maxRecDepth 100000
set_option linter.unusedVariables false
def gt (r:Option FT):FT:=r.getD zF
def ec (r:Option FT):Int:=if r.isSome then 0 else 6
theorem zero_sp (W:World) (S:Nat→Prop):FVSp W zF (fval zF (.slice none 0 0) (.slice none 0 0)) S :=
 ⟨_,_,fun _=>False,fun _=>False,rfl,fun _ h=>h.elim,fun _ h=>h.elim,⟨none,0,rfl,.inl rfl⟩,⟨none,0,rfl,.inl rfl⟩⟩
theorem FVSp.spelt {W:World} {g:FT} {v:Value} {S:Nat→Prop} (h:FVSp W g v S):∃ p n p' n',v=fval g (.slice p g.ts.len n) (.slice p' g.sub.len n'):=by
 obtain⟨sa,ss,S1,S2,rfl,-,-,⟨p,c,rfl,-⟩,⟨p',c',rfl,-⟩⟩:=h
 exact⟨_,_,_,_,rfl⟩
theorem at_u (f:FT) (l:List Int) (v sl:Value) (w:World) (hv:FVal w f v) (hl:LSl w l sl) (hn:l.length≤1000000) (hs:f.size≤1000000) :
  Calls Tryz.prog 38 #[v,sl] w fun e w'=>(∃ p n p' n',e=.returned (.tuple #[fval (gt (f.part l)) (.slice p (gt (f.part l)).ts.len n) (.slice p' (gt (f.part l)).sub.len n'),.int .i64 (ec (f.part l))]) ∧
   FVSp w' (gt (f.part l)) (fval (gt (f.part l)) (.slice p (gt (f.part l)).ts.len n) (.slice p' (gt (f.part l)).sub.len n')) (Rg w.heap.size w'.heap.size))∧Below w.heap.size w w' :=
 (at_sp f l v sl w hv hl hn hs).mono fun e w' ⟨⟨v',er,he,hr⟩,hb⟩=>by
  cases hp:f.part l with
  | none =>
   rw[hp] at hr
   obtain⟨rfl,rfl⟩:=hr
   exact⟨⟨none,0,none,0,he,zero_sp _ _⟩,hb⟩
  | some g =>
   rw[hp] at hr
   obtain⟨hr,rfl⟩:=hr
   obtain⟨p,n,p',n',rfl⟩:=hr.spelt
   exact⟨⟨p,n,p',n',he,hr⟩,hb⟩
theorem with_u (f h:FT) (l:List Int) (v vp sl:Value) (w:World) (hv:FVal w f v) (hvp:FVal w h vp) (hl:LSl w l sl) (hn:l.length≤1000000) (hs:f.size≤1000000) (hs':h.size≤1000000) :
  Calls Tryz.prog 97 #[v,sl,vp] w fun e w'=>(∃ p n p' n',e=.returned (.tuple #[fval (gt (f.put l h)) (.slice p (gt (f.put l h)).ts.len n) (.slice p' (gt (f.put l h)).sub.len n'),.int .i64 (ec (f.put l h))]) ∧
   FVSp w' (gt (f.put l h)) (fval (gt (f.put l h)) (.slice p (gt (f.put l h)).ts.len n) (.slice p' (gt (f.put l h)).sub.len n')) (Rg w.heap.size w'.heap.size))∧Below w.heap.size w w' :=
 (with_any f h l v vp sl w hv hvp hl hn hs hs').mono fun e w' ⟨⟨v',er,he,hr⟩,hb⟩=>by
  cases hp:f.put l h with
  | none =>
   rw[hp] at hr
   obtain⟨rfl,rfl⟩:=hr
   exact⟨⟨none,0,none,0,he,zero_sp _ _⟩,hb⟩
  | some g =>
   rw[hp] at hr
   obtain⟨hr,rfl⟩:=hr
   obtain⟨p,n,p',n',rfl⟩:=hr.spelt
   exact⟨⟨p,n,p',n',he,hr⟩,hb⟩
theorem RAt.u {W:World} {r:Option FT} {v:Value} {e:Int} (h:RAt W r v e):FVal W (gt r) v∧e=ec r:=by
 cases r with
 | none =>
  obtain⟨rfl,rfl⟩:=h
  exact⟨(zero_sp W (fun _=>False)).at,rfl⟩
 | some g=>exact⟨h.1,h.2⟩
theorem rat_u (f:FT) (l:List Int) (v:Value) (p:Option Addr) (c:Nat) (w:World) (hv:FVal w f v) (hl:LSl w l (.slice p l.length c)) (hc:l.length≤c) (hcm:c≤maxLen) (hs:f.size≤1000000) :
  Calls Tryz.prog 98 #[v,.slice p l.length c] w fun e w'=>(∃ p n p' n',e=.returned (.tuple #[fval (gt (f.part l)) (.slice p (gt (f.part l)).ts.len n) (.slice p' (gt (f.part l)).sub.len n'),.int .i64 (ec (f.part l))]) ∧
   FVal w' (gt (f.part l)) (fval (gt (f.part l)) (.slice p (gt (f.part l)).ts.len n) (.slice p' (gt (f.part l)).sub.len n')))∧Below w.heap.size w w' :=
 (refAt_any l f v p c w w hv (Below.refl _ _) hl hc hcm hs).mono fun e w' ⟨⟨v',er,he,hr⟩,hb⟩=>by
  obtain⟨h1,rfl⟩:=hr.u
  obtain⟨p,n,p',n',rfl⟩:=h1.spelt
  exact⟨⟨p,n,p',n',he,FVal.below hb h1⟩,hb⟩
theorem rw_u (f h:FT) (l:List Int) (v vp:Value) (p:Option Addr) (c:Nat) (w:World) (hv:FVal w f v) (hvp:FVal w h vp) (hl:LSl w l (.slice p l.length c)) (hc:l.length≤c) (hcm:c≤maxLen) (hs:f.size≤1000000) :
  Calls Tryz.prog 99 #[v,.slice p l.length c,vp] w fun e w'=>(∃ p n p' n',e=.returned (.tuple #[fval (gt (f.put l h)) (.slice p (gt (f.put l h)).ts.len n) (.slice p' (gt (f.put l h)).sub.len n'),.int .i64 (ec (f.put l h))]) ∧
   FVal w' (gt (f.put l h)) (fval (gt (f.put l h)) (.slice p (gt (f.put l h)).ts.len n) (.slice p' (gt (f.put l h)).sub.len n')))∧Below w.heap.size w w' :=
 (refW_any l f h v vp p c w w hv hvp (Below.refl _ _) hl hc hcm hs).mono fun e w' ⟨⟨v',er,he,U,hr,hU⟩,hb⟩=>by
  obtain⟨h1,rfl⟩:=hr.u
  obtain⟨p,n,p',n',rfl⟩:=h1.spelt
  exact⟨⟨p,n,p',n',he,FVal.ext (fun b o y hc=>(hU b o y hc).1) h1⟩,hb⟩
def VPl (a:Act) (f h:FT) (vf vh:Value) (d:Nat) (u:Value) (W:World):Prop :=
 if d=17 then u=vf else if d=18 then FVal W f u else if d=19 then u=vh else if d=20 then FVal W h u else if d=7∨d=8 then True else u=a.tmps.getD d undef
theorem VPl.below {a:Act} {f h:FT} {vf vh:Value} {d:Nat} {u:Value} {A B:World} (hb:Below A.heap.size A B) (hh:VPl a f h vf vh d u A):VPl a f h vf vh d u B:=by
 unfold VPl at hh ⊢
 by_cases k1:d=17
 ·rw[if_pos k1] at hh ⊢;exact hh
 rw[if_neg k1] at hh ⊢
 by_cases k2:d=18
 ·rw[if_pos k2] at hh ⊢;exact FVal.below hb hh
 rw[if_neg k2] at hh ⊢
 by_cases k3:d=19
 ·rw[if_pos k3] at hh ⊢;exact hh
 rw[if_neg k3] at hh ⊢
 by_cases k4:d=20
 ·rw[if_pos k4] at hh ⊢;exact FVal.below hb hh
 rw[if_neg k4] at hh ⊢
 exact hh
end Go.Proofs.YtngdieldgnlogaaGreatDoor
namespace Go.Proofs.YtngdieldgnlogaaGreatDoor
open Go Go.RowKit
set_option maxRecDepth 100000
set_option linter.unusedVariables false
theorem loadF {W:World} {g:Nat} {f:FT} {p q:Option Addr} {m n:Nat} (h0:W.cell? ⟨g,0,none⟩=some (.int .u8 f.op)) (h1:W.cell? ⟨g,1,none⟩=some (.string f.n)) (h2:W.cell? ⟨g,2,none⟩=some (.slice p f.ts.len m)) (h3:W.cell? ⟨g,3,none⟩=some (.slice q f.sub.len n)) :
  (Instr.loadAt 25 (.pointer (some ⟨g,0,none⟩))).run Tryz.prog W=.ok (fval f (.slice p f.ts.len m) (.slice q f.sub.len n)) W:=by
 simp[Instr.loadAt,go_sem,h0,h1,h2,h3]
theorem J2.new {lo n:Nat} {a:Act} {W:World}:J2 lo (Array.replicate n false) a W:=by
 have hf:∀ j,(Array.replicate n false).getD j false=false:=fun j=>by
  by_cases hj:j < n
  ·simp[hj]
  ·simp[hj]
 refine⟨fun h=>?_,fun h=>?_,fun h=>?_⟩
 all_goals (rw[hf] at h;cases h)
def VP6 (f h:FT) (vf vh:Value) (d:Nat) (u:Value) (W:World):Prop :=
 if d=17 then u=vf else if d=19 then u=vh else True
theorem VP6.below {f h:FT} {vf vh:Value} {d:Nat} {u:Value} {A B:World} (hb:Below A.heap.size A B) (hh:VP6 f h vf vh d u A):VP6 f h vf vh d u B:=by
 exact hh
def KC (i d:Nat) (F:FT) (L:Array Bool) (a:Act) (W:World):Prop:=L.getD i false=true→∃ v U,a.tmps[d]? = some v∧FVal U F v∧∀ b o y,U.cell? ⟨b,o,none⟩=some y→W.cell? ⟨b,o,none⟩=some y ∧
 (L.getD 4 false=true→a.tmps[7]?≠some (.pointer (some ⟨b,0,none⟩)))∧(L.getD 5 false=true→a.tmps[8]?≠some (.pointer (some ⟨b,0,none⟩)))
theorem KC.new {i d n:Nat} {F:FT} {a:Act} {W:World}:KC i d F (Array.replicate n false) a W:=by
 intro h
 have hf:(Array.replicate n false).getD i false=false:=by
  by_cases hj:i < n
  ·simp[hj]
  ·simp[hj]
 rw[hf] at h;cases h
theorem KC.other {i d j e:Nat} {F:FT} {L:Array Bool} {a:Act} {W W':World} {v:Value} (h:KC i d F L a W) (hb:Below W.heap.size W W') (hji:j≠i) (h4:j≠4) (h5:j≠5) (he:e≠d) (h7:e≠7) (h8:e≠8):KC i d F (L.setIfInBounds j true) (a.put (some e) v) W':=by
 have ed:(a.put (some e) v).tmps[d]? = a.tmps[d]?:=by simp[Act.put,Array.getElem?_setIfInBounds_ne he]
 have e7:(a.put (some e) v).tmps[7]? = a.tmps[7]?:=by simp[Act.put,Array.getElem?_setIfInBounds_ne h7]
 have e8:(a.put (some e) v).tmps[8]? = a.tmps[8]?:=by simp[Act.put,Array.getElem?_setIfInBounds_ne h8]
 unfold KC
 rw[getD_other hji,getD_other h4,getD_other h5,ed,e7,e8]
 intro hl
 obtain⟨v,U,hv,hF,hU⟩:=h hl
 exact⟨v,U,hv,hF,fun b o y hc=>⟨c_B hb (hU b o y hc).1,(hU b o y hc).2⟩⟩
theorem KC.made {i d lo:Nat} {F:FT} {L:Array Bool} {a:Act} {W W':World} {v:Value} (hJ:J2 lo L a W) (ho:FVOwn W' W.heap.size F v) (h4:i≠4) (h5:i≠5) (h7:d≠7) (h8:d≠8) (hn:d < a.tmps.size):KC i d F (L.setIfInBounds i true) (a.put (some d) v) W':=by
 have ed:(a.put (some d) v).tmps[d]? = some v:=by simp[Act.put,hn]
 have e7:(a.put (some d) v).tmps[7]? = a.tmps[7]?:=by simp[Act.put,Array.getElem?_setIfInBounds_ne h7]
 have e8:(a.put (some d) v).tmps[8]? = a.tmps[8]?:=by simp[Act.put,Array.getElem?_setIfInBounds_ne h8]
 unfold KC
 rw[getD_other h4,getD_other h5,ed,e7,e8]
 intro _
 refine⟨v,hideLow W' W.heap.size,rfl,FVOwn.at (FVOwn.keep (fun b o y hz hc=>hideLow_keep hz hc) ho),fun b o y hc=>?_⟩
 obtain⟨hz,hc'⟩:=hideLow_cell hc
 refine⟨hc',fun hl e=>?_,fun hl e=>?_⟩
 ·obtain⟨b7,t7,-,hF⟩:=hJ.1 hl
  rw[t7] at e
  simp at e
  obtain⟨u,hu⟩:=hF 0 (by omega)
  have:=hu.lt
  omega
 ·obtain⟨b7,t7,-,hF⟩:=hJ.2.1 hl
  rw[t7] at e
  simp at e
  obtain⟨u,hu⟩:=hF 0 (by omega)
  have:=hu.lt
  omega
theorem KC.seven {i d:Nat} {F:FT} {L:Array Bool} {a:Act} {W:World} (h:KC i d F L a W) (hi:i≠4) (hd:d≠7) (hn:8 < a.tmps.size):KC i d F (L.setIfInBounds 4 true) (a.put (some 7) (.pointer (some ⟨W.heap.size,0,none⟩))) (W.alloc (.cells #[.int .u8 0,.string ⟨#[]⟩,.slice none 0 0,.slice none 0 0] 25)):=by
 have ed:(a.put (some 7) (.pointer (some ⟨W.heap.size,0,none⟩))).tmps[d]? = a.tmps[d]?:=by simp[Act.put,Array.getElem?_setIfInBounds_ne (Ne.symm hd)]
 have e7:(a.put (some 7) (.pointer (some ⟨W.heap.size,0,none⟩))).tmps[7]? = some (.pointer (some ⟨W.heap.size,0,none⟩)):=by simp[Act.put,show 7 < a.tmps.size by omega]
 have e8:(a.put (some 7) (.pointer (some ⟨W.heap.size,0,none⟩))).tmps[8]? = a.tmps[8]?:=by simp[Act.put]
 unfold KC
 rw[getD_other (Ne.symm hi),getD_other (show 4≠5 by decide),ed,e7,e8]
 intro hl
 obtain⟨v,U,hv,hF,hU⟩:=h hl
 refine⟨v,U,hv,hF,fun b o y hc=>⟨c_B (bel_laid _ _) (hU b o y hc).1,fun _ e=>?_,(hU b o y hc).2.2⟩⟩
 have:=lt_of_cell (hU b o y hc).1
 simp at e
 try omega
theorem KC.eight {i d:Nat} {F:FT} {L:Array Bool} {a:Act} {W:World} (h:KC i d F L a W) (hi:i≠5) (hd:d≠8) (hn:8 < a.tmps.size):KC i d F (L.setIfInBounds 5 true) (a.put (some 8) (.pointer (some ⟨W.heap.size,0,none⟩))) (W.alloc (.cells #[.int .u8 0,.string ⟨#[]⟩,.slice none 0 0,.slice none 0 0] 25)):=by
 have ed:(a.put (some 8) (.pointer (some ⟨W.heap.size,0,none⟩))).tmps[d]? = a.tmps[d]?:=by simp[Act.put,Array.getElem?_setIfInBounds_ne (Ne.symm hd)]
 have e7:(a.put (some 8) (.pointer (some ⟨W.heap.size,0,none⟩))).tmps[7]? = a.tmps[7]?:=by simp[Act.put]
 have e8:(a.put (some 8) (.pointer (some ⟨W.heap.size,0,none⟩))).tmps[8]? = some (.pointer (some ⟨W.heap.size,0,none⟩)):=by simp[Act.put,show 8 < a.tmps.size by omega]
 unfold KC
 rw[getD_other (Ne.symm hi),getD_other (show 5≠4 by decide),ed,e7,e8]
 intro hl
 obtain⟨v,U,hv,hF,hU⟩:=h hl
 refine⟨v,U,hv,hF,fun b o y hc=>⟨c_B (bel_laid _ _) (hU b o y hc).1,(hU b o y hc).2.1,fun _ e=>?_⟩⟩
 have:=lt_of_cell (hU b o y hc).1
 simp at e
 try omega
theorem sizes_AB (f h:FT) (l:List Int):(gt (f.part l)).size≤f.size∧(gt (f.put l h)).size≤f.size+h.size:=by
 have h1:1≤f.size:=by have:f.size=f.ts.size+f.sub.size+1:=rfl;omega
 cases hp:f.part l with
 | none =>
  rw[FT.put_none l f h hp]
  exact⟨h1,Nat.le_trans h1 (Nat.le_add_right _ _)⟩
 | some o =>
  obtain⟨g,hg,-,-,hs⟩:=FT.put_part l f h o hp
  rw[hg]
  have:=Fs.part_size l f o hp
  exact⟨this,by show g.size≤_;omega⟩
theorem two_sp {f h:FT} {p q p' q':Option Addr} {a b a' b':Nat} {W:World} {S T:Nat→Prop} (hv:FVSp W f (fval f (.slice p f.ts.len a) (.slice q f.sub.len b)) S) (hv':FVSp W h (fval h (.slice p' h.ts.len a') (.slice q' h.sub.len b')) T) (hST:∀ x,T x→¬ S x) (hS:∀ x,S x→x < W.heap.size) (hT:∀ x,T x→x < W.heap.size) (t:TypeId) :
  FSp (W.alloc (.cells #[.int .u8 f.op,.string f.n,.slice p f.ts.len a,.slice q f.sub.len b,.int .u8 h.op,.string h.n,.slice p' h.ts.len a',.slice q' h.sub.len b'] t)) (.cons f.op f.n f.ts f.sub (.cons h.op h.n h.ts h.sub .nil)) (.slice (some ⟨W.heap.size,0,none⟩) 2 2) (fun x=>S x∨T x∨x=W.heap.size):=by
 have cN:=fun i v (hi:#[Value.int .u8 f.op,.string f.n,.slice p f.ts.len a,.slice q f.sub.len b,.int .u8 h.op,.string h.n,.slice p' h.ts.len a',.slice q' h.sub.len b'][i]? = some v)=>(show Wc (W.alloc (.cells #[.int .u8 f.op,.string f.n,.slice p f.ts.len a,.slice q f.sub.len b,.int .u8 h.op,.string h.n,.slice p' h.ts.len a',.slice q' h.sub.len b'] t)) W.heap.size i v from
  ⟨(cell_new W _ t i).trans hi,((Free.lit W #[.int .u8 f.op,.string f.n,.slice p f.ts.len a,.slice q f.sub.len b,.int .u8 h.op,.string h.n,.slice p' h.ts.len a',.slice q' h.sub.len b'] t) i (Array.getElem?_eq_some_iff.1 hi).1).2⟩)
 have b5:=bel_laid W (.cells #[.int .u8 f.op,.string f.n,.slice p f.ts.len a,.slice q f.sub.len b,.int .u8 h.op,.string h.n,.slice p' h.ts.len a',.slice q' h.sub.len b'] t)
 obtain⟨_,_,S1,S2,e,hA1,hA2,t1,t2⟩:=hv
 obtain⟨_,_,T1,T2,e',hB1,hB2,t3,t4⟩:=hv'
 simp at e e'
 obtain⟨rfl,rfl⟩:=e
 obtain⟨rfl,rfl⟩:=e'
 refine⟨_,_,rfl,.inr ⟨_,_,rfl,.inr (.inr rfl),cN 0 _ rfl,cN 1 _ rfl,S1,S2,T,fun x hx=>⟨.inl (hA1 x hx),?_⟩,fun x hx=>⟨⟨.inl (hA2 x hx).1,?_⟩,(hA2 x hx).2⟩,fun x hx=>⟨⟨.inr (.inl hx),?_⟩,fun h1=>hST x hx (hA1 x h1),fun h2=>hST x hx (hA2 x h2).1⟩,⟨_,cN 2 _ rfl,TSp.below b5 t1⟩,⟨_,cN 3 _ rfl,FSp.below b5 t2⟩,
  cN 4 _ rfl,cN 5 _ rfl,T1,T2,fun _=>False,hB1,hB2,fun _ h=>h.elim,⟨_,cN 6 _ rfl,TSp.below b5 t3⟩,⟨_,cN 7 _ rfl,FSp.below b5 t4⟩,trivial⟩⟩
 ·have:=hS x (hA1 x hx);omega
 ·have:=hS x (hA2 x hx).1;omega
 ·have:=hT x hx;omega
set_option maxHeartbeats 8000000 in
theorem places_any (f h:FT) (l:List Int) (va vb:Value) (p:Option Addr) (c:Nat) (w:World) (hva:FVal w f va) (hvb:FVal w h vb) (hl:LSl w l (.slice p l.length c)) (hc:l.length≤c) (hcm:c≤maxLen) (hn:l.length≤1000000) (hs:f.size+h.size≤400000) :
  Calls Tryz.prog 51 #[va,vb,.slice p l.length c] w fun e w'=>e=.returned (.bool true)∧Below w.heap.size w w':=by
 have hlh:=h_X hl
 obtain⟨sa,ua,rfl,ha,hua⟩:=id hva
 obtain⟨sb,ub,rfl,hb,hub⟩:=id hvb
 obtain⟨pa,ca,rfl,-⟩:=id ha
 obtain⟨pb,cb,rfl,-⟩:=id hb
 obtain⟨qa,da,rfl,-⟩:=id hua
 obtain⟨qb,db,rfl,-⟩:=id hub
 clear ha hb hua hub hl
 obtain⟨W1,W2,hW1,hW2,s1,s2,k1,k2⟩:=in_boxes hva hvb 25
 have k1h:=h_X k1
 have k2h:=h_X k2
 obtain⟨g,hg⟩:∃ g,w.heap.size=g:=⟨_,rfl⟩
 have hgh:=h_X hg
 rw[hg] at s1 s2 k1h k2h
 have s2h:=h_X s2
 have sf:f.size≤1000000:=by omega
 have sh:h.size≤1000000:=by omega
 clear k1 k2 hva hvb
 go_enter Tryz.func51,Tryz.ntmps51
 go_wp2_with fail
 rename_i Kx hKx
 have hKxh:=h_X hKx
 clear hKx hW1 hW2 hg s1 s2
 have hfs1:∀ W,Below W2.heap.size W2 W→FS f (.slice pa f.ts.len ca) (.slice qa f.sub.len da) w g W:=fun W hb=>k1h.out.next hb
 have hfs2:∀ W,Below W2.heap.size W2 W→FS h (.slice pb h.ts.len cb) (.slice qb h.sub.len db) w (g+1) W:=fun W hb=>k2h.out.next hb
 refine wp_region_rel (by kernel_rfl) 6 91 [17,18,19,20,7,8] (VP6 f h (fval f (.slice pa f.ts.len ca) (.slice qa f.sub.len da)) (fval h (.slice pb h.ts.len cb) (.slice qb h.sub.len db))) (fun L a W=>Below W2.heap.size W2 W∧a.tmps.size=91∧J2 W2.heap.size L a W∧KC 1 18 f L a W∧KC 3 20 h L a W) (fun W W'=>Below W.heap.size W W')
  (by decide) (by kernel_rfl) (by kernel_rfl) (of_decide_eq_true (by kernel_rfl)) (fun d u A B hb h=>VP6.below hb h) rfl ⟨bel_drew W2,rfl,J2.new,KC.new,KC.new⟩ ?hst ?hend
 case hst =>
  refine⟨?_,?_,?_,?_,?_,?_,trivial⟩
  ·intro L a W hLs hL hn hd hI hb hl
   obtain⟨u3,h3,e3⟩:=hb 3 (cM (by kernel_rfl))
   replace e3:u3=.pointer (some ⟨g,0,none⟩):=e3
   subst e3
   obtain⟨c0,c1,c2,c3,-⟩:=hfs1 W hI.1
   exact op_val rfl rfl (ex_load rfl (eval_tmp h3) (loadF c0 c1 c2 c3)) ⟨_,rfl,fun d hd=>by cases hd;rfl,⟨hI.1,by simp[Act.put,hn],hI.2.2.1.other (Below.refl _ _) (by decide) (by decide) (by decide) (by decide),hI.2.2.2.1.other (Below.refl _ _) (by decide) (by decide) (by decide) (by decide) (by decide) (by decide),hI.2.2.2.2.other (Below.refl _ _) (by decide) (by decide) (by decide) (by decide) (by decide) (by decide)⟩,Below.refl _ _⟩
  ·intro L a W hLs hL hn hd hI hb hl
   obtain⟨u17,h17,e17⟩:=hl 17 (cM (by kernel_rfl))
   replace e17:u17=fval f (.slice pa f.ts.len ca) (.slice qa f.sub.len da):=e17
   subst e17
   refine op_call rfl rfl (ex_call1 (enters_of Tryz.func12 (by kernel_rfl) rfl) rfl (eval_tmp h17)) ((copyF_any f _ W (hfs1 W hI.1).val sf).mono ?_)
   rintro e W' ⟨⟨v',rfl,ho⟩,hb'⟩
   exact⟨_,rfl,_,rfl,fun d hd=>by cases hd;trivial,⟨bS hI.1 hb',by simp[Act.put,hn],hI.2.2.1.other hb' (by decide) (by decide) (by decide) (by decide),KC.made hI.2.2.1 ho (by decide) (by decide) (by decide) (by decide) (by omega),hI.2.2.2.2.other hb' (by decide) (by decide) (by decide) (by decide) (by decide) (by decide)⟩,hb'⟩
  ·intro L a W hLs hL hn hd hI hb hl
   obtain⟨u4,h4,e4⟩:=hb 4 (cM (by kernel_rfl))
   replace e4:u4=.pointer (some ⟨g+1,0,none⟩):=e4
   subst e4
   obtain⟨c0,c1,c2,c3,-⟩:=hfs2 W hI.1
   exact op_val rfl rfl (ex_load rfl (eval_tmp h4) (loadF c0 c1 c2 c3)) ⟨_,rfl,fun d hd=>by cases hd;rfl,⟨hI.1,by simp[Act.put,hn],hI.2.2.1.other (Below.refl _ _) (by decide) (by decide) (by decide) (by decide),hI.2.2.2.1.other (Below.refl _ _) (by decide) (by decide) (by decide) (by decide) (by decide) (by decide),hI.2.2.2.2.other (Below.refl _ _) (by decide) (by decide) (by decide) (by decide) (by decide) (by decide)⟩,Below.refl _ _⟩
  ·intro L a W hLs hL hn hd hI hb hl
   obtain⟨u19,h19,e19⟩:=hl 19 (cM (by kernel_rfl))
   replace e19:u19=fval h (.slice pb h.ts.len cb) (.slice qb h.sub.len db):=e19
   subst e19
   refine op_call rfl rfl (ex_call1 (enters_of Tryz.func12 (by kernel_rfl) rfl) rfl (eval_tmp h19)) ((copyF_any h _ W (hfs2 W hI.1).val sh).mono ?_)
   rintro e W' ⟨⟨v',rfl,ho⟩,hb'⟩
   exact⟨_,rfl,_,rfl,fun d hd=>by cases hd;trivial,⟨bS hI.1 hb',by simp[Act.put,hn],hI.2.2.1.other hb' (by decide) (by decide) (by decide) (by decide),hI.2.2.2.1.other hb' (by decide) (by decide) (by decide) (by decide) (by decide) (by decide),KC.made hI.2.2.1 ho (by decide) (by decide) (by decide) (by decide) (by omega)⟩,hb'⟩
  ·intro L a W hLs hL hn hd hI hb hl
   exact op_val rfl rfl (ex_alloc rfl) ⟨_,rfl,fun d hd=>by cases hd;trivial,⟨bS hI.1 (bel_laid _ _),by simp[Act.put,hn],hI.2.2.1.seven hI.1.size (by omega),hI.2.2.2.1.seven (by decide) (by decide) (by omega),hI.2.2.2.2.seven (by decide) (by decide) (by omega)⟩,bel_laid _ _⟩
  ·intro L a W hLs hL hn hd hI hb hl
   exact op_val rfl rfl (ex_alloc rfl) ⟨_,rfl,fun d hd=>by cases hd;trivial,⟨bS hI.1 (bel_laid _ _),by simp[Act.put,hn],hI.2.2.1.eight hI.1.size (by omega),hI.2.2.2.1.eight (by decide) (by decide) (by omega),hI.2.2.2.2.eight (by decide) (by decide) (by omega)⟩,bel_laid _ _⟩
 case hend =>
  intro gv W3 hv hI
  obtain⟨hb3,-,⟨hj7,hj8,hj⟩,hk1,hk3⟩:=hI
  obtain⟨b7,t7,hb7,hF7⟩:=hj7 (by kernel_rfl)
  obtain⟨b8,t8,hb8,hF8⟩:=hj8 (by kernel_rfl)
  have hne:=hj (by kernel_rfl) (by kernel_rfl)
  rw[t7,t8] at hne
  have hne78:b8≠b7:=fun e=>hne (by rw[e])
  obtain⟨v18,U7,e18,hU7,hc7⟩:=hk1 (by kernel_rfl)
  obtain⟨v20,U8,e20,hU8,hc8⟩:=hk3 (by kernel_rfl)
  have hc7':∀ b o y,U7.cell? ⟨b,o,none⟩=some y→W3.cell? ⟨b,o,none⟩=some y∧b≠b7∧b≠b8:=fun b o y hc=>by
   obtain⟨h1,h2,h3⟩:=hc7 b o y hc
   exact⟨h1,fun e=>h2 (by kernel_rfl) (by rw[t7,e]),fun e=>h3 (by kernel_rfl) (by rw[t8,e])⟩
  have hc8':∀ b o y,U8.cell? ⟨b,o,none⟩=some y→W3.cell? ⟨b,o,none⟩=some y∧b≠b7∧b≠b8:=fun b o y hc=>by
   obtain⟨h1,h2,h3⟩:=hc8 b o y hc
   exact⟨h1,fun e=>h2 (by kernel_rfl) (by rw[t7,e]),fun e=>h3 (by kernel_rfl) (by rw[t8,e])⟩
  have e7:gv 7=.pointer (some ⟨b7,0,none⟩):=Option.some.inj t7
  have e8:gv 8=.pointer (some ⟨b8,0,none⟩):=Option.some.inj t8
  have v17:gv 17=fval f (.slice pa f.ts.len ca) (.slice qa f.sub.len da):=hv 17 rfl
  have v19:gv 19=fval h (.slice pb h.ts.len cb) (.slice qb h.sub.len db):=hv 19 rfl
  obtain⟨p1,n1,p2,n2,rfl⟩:=hU7.spelt
  obtain⟨p3,n3,p4,n4,rfl⟩:=hU8.spelt
  have g18:gv 18=fval f (.slice p1 f.ts.len n1) (.slice p2 f.sub.len n2):=Option.some.inj e18
  have g20:gv 20=fval h (.slice p3 h.ts.len n3) (.slice p4 h.sub.len n4):=Option.some.inj e20
  obtain⟨W4,hst4,m0,m1,m2,m3,hk4,hcell4,hbel4,hs4⟩:=store_box (g:=f) (p:=p1) (q:=p2) (m:=n1) (n:=n2) hF7
  have hF84:Fr4' b8 W4:=fun j hj=>(hF8 j hj).imp fun _ h=>hk4 _ _ _ hne78 h
  obtain⟨W5,hst5,r0,r1,r2,r3,hk5,hcell5,hbel5,hs5⟩:=store_box (g:=h) (p:=p3) (q:=p4) (m:=n3) (n:=n4) hF84
  have hb25:Below W2.heap.size W2 W5:=hbel5 _ _ (hbel4 _ _ hb3 hb7) hb8
  have hx7:Ext U7 W5:=fun b o y hc=>hcell5 _ _ _ (hc7' b o y hc).2.2 (hcell4 _ _ _ (hc7' b o y hc).2.1 (hc7' b o y hc).1)
  have hx8:Ext U8 W5:=fun b o y hc=>hcell5 _ _ _ (hc8' b o y hc).2.2 (hcell4 _ _ _ (hc8' b o y hc).2.1 (hc8' b o y hc).1)
  have k1h:=h_X (hfs1 W5 hb25)
  have k2h:=h_X (hfs2 W5 hb25)
  have i1:=h_X (show FS f (.slice p1 f.ts.len n1) (.slice p2 f.sub.len n2) w b7 W5 from ⟨hcell5 _ _ _ (Ne.symm hne78) m0,hcell5 _ _ _ (Ne.symm hne78) m1,hcell5 _ _ _ (Ne.symm hne78) m2,hcell5 _ _ _ (Ne.symm hne78) m3,k1h.out.2.2.2.2.1,by
   obtain⟨_,_,he,h1,h2⟩:=FVal.ext hx7 hU7
   simp at he
   obtain⟨rfl,rfl⟩:=he
   exact⟨h1,h2⟩⟩)
  have i2:=h_X (show FS h (.slice p3 h.ts.len n3) (.slice p4 h.sub.len n4) w b8 W5 from ⟨r0,r1,r2,r3,k1h.out.2.2.2.2.1,by
   obtain⟨_,_,he,h1,h2⟩:=FVal.ext hx8 hU8
   simp at he
   obtain⟨rfl,rfl⟩:=he
   exact⟨h1,h2⟩⟩)
  refine any_one (i:=6) (by kernel_rfl) (op_skip rfl rfl (ex_store rfl (eval_tmp t7) (eval_tmp e18) hst4) ?_)
  refine any_one (i:=7) (by kernel_rfl) (op_skip rfl rfl (ex_store rfl (eval_tmp t8) (eval_tmp e20) hst5) ?_)
  refine any_none (by kernel_rfl) ?_
  refine hKxh.out _ _ ?_
  clear hKxh hst4 hst5 m0 m1 m2 m3 hk4 hcell4 hbel4 hs4 r0 r1 r2 r3 hk5 hcell5 hbel5 hs5 hF84 hx7 hx8 hc7 hc8 hc7' hc8' t7 t8 e18 e20 hU7 hU8 hF7 hF8 hj hj7 hj8 hk1 hk3 hne hv
  simp only[zipV,List.map_cons,List.map_nil,puts,Act.put,List.setIfInBounds_toArray,List.set_cons_succ,List.set_cons_zero,e7,e8,v17,v19,g18,g20]
  clear e7 e8 v17 v19 g18 g20
  have kk1:=h_X k1h.out
  have kk2:=h_X k2h.out
  obtain⟨A,hA⟩:∃ A,gt (f.part l)=A:=⟨_,rfl⟩
  obtain⟨B,hB⟩:∃ B,gt (f.put l h)=B:=⟨_,rfl⟩
  obtain⟨er1,her1⟩:∃ er,ec (f.part l)=er:=⟨_,rfl⟩
  obtain⟨er2,her2⟩:∃ er,ec (f.put l h)=er:=⟨_,rfl⟩
  have hsz:=sizes_AB f h l
  rw[hA,hB] at hsz
  obtain⟨hsA,hsB⟩:=hsz
  have sA:A.size≤1000000:=by omega
  have sB:B.size≤1000000:=by omega
  have hL:=h_X (fun V (hV:Below w.heap.size w V)=>LSl.below hV hlh.out)
  have HC1:=h_X (at_u f l _ _ W5 i1.out.val (hL.out W5 i1.out.2.2.2.2.1) hn sf)
  have HW:=h_X (fun V (hV:Below w.heap.size w V) v vp (h1:FVal V f v) (h2:FVal V h vp)=>with_u f h l v vp _ V h1 h2 (hL.out V hV) hn sf sh)
  have HRA:=h_X (fun V (hV:Below w.heap.size w V) v (h1:FVal V f v)=>rat_u f l v p c V h1 (hL.out V hV) hc hcm sf)
  have HRW:=h_X (fun V (hV:Below w.heap.size w V) v vp (h1:FVal V f v) (h2:FVal V h vp)=>rw_u f h l v vp p c V h1 h2 (hL.out V hV) hc hcm sf)
  rw[hA,her1] at HC1 HRA
  rw[hB,her2] at HW HRW
  clear hA hB her1 her2 hfs1 hfs2 hb3 hc hcm
  obtain⟨c70,c71,c72,c73,-⟩:=i1.out
  go_wp2_with fail
  refine HC1.out.mono ?_
  rintro e w6 ⟨⟨q1,m1,q2,m2,rfl,hspA⟩,hb6⟩
  obtain⟨W7,hW7,hbx7,k9⟩:=box_of (w:=w) (bS i1.out.2.2.2.2.1 hb6) hspA.at 25
  have hb67:=bS hb6 hbx7
  have hs67:W7.heap.size=w6.heap.size+1:=by rw[←hW7];exact World.size_alloc _ _
  have hs56:=hb6.size
  have hspAh:=h_X (hspA.below hbx7)
  have k1h:=h_X (k1h.out.next hb67)
  have k2h:=h_X (k2h.out.next hb67)
  have j1h:=h_X (i1.out.next hb67)
  have j2h:=h_X (i2.out.next hb67)
  have k9h:=h_X k9
  have hb57h:=h_X hb67
  have HC2:=h_X (HW.out W7 k9.2.2.2.2.1 _ _ j1h.out.val j2h.out.val)
  clear HC1 c70 c71 c72 c73 hspA hb6 hbx7 hb67 k9
  obtain⟨c70,c71,c72,c73,-⟩:=j1h.out
  obtain⟨c80,c81,c82,c83,-⟩:=j2h.out
  go_wp2_with fail
  refine HC2.out.mono ?_
  rintro e w8 ⟨⟨q3,m3,q4,m4,rfl,hspB⟩,hb8⟩
  obtain⟨W9,hW9,hbx9,k11⟩:=box_of (w:=w) (bS k9h.out.2.2.2.2.1 hb8) hspB.at 25
  have hb89:=bS hb8 hbx9
  have hs89:W9.heap.size=w8.heap.size+1:=by rw[←hW9];exact World.size_alloc _ _
  have hs78:=hb8.size
  have hspAh:=h_X (hspAh.out.below hb89)
  have hspBh:=h_X (hspB.below hbx9)
  have k1h:=h_X (k1h.out.next hb89)
  have k2h:=h_X (k2h.out.next hb89)
  have k9h:=h_X (k9h.out.next hb89)
  have k11h:=h_X k11
  have hb59h:=h_X (bS hb57h.out hb89)
  have HC3:=h_X (HRA.out W9 k11.2.2.2.2.1 _ k1h.out.val)
  clear HC2 HW HRA c70 c71 c72 c73 c80 c81 c82 c83 hspB hb8 hbx9 hb89 k11 hW7 j1h j2h hb57h
  obtain⟨c10,c11,c12,c13,-⟩:=k1h.out
  go_wp2_with fail
  refine HC3.out.mono ?_
  rintro e w10 ⟨⟨q5,m5,q6,m6,rfl,hvx⟩,hb10⟩
  obtain⟨W11,hW11,hbx11,k13⟩:=box_of (w:=w) (bS k11h.out.2.2.2.2.1 hb10) hvx 25
  have hb1011:=bS hb10 hbx11
  have hspAh:=h_X (hspAh.out.below hb1011)
  have hspBh:=h_X (hspBh.out.below hb1011)
  have k1h:=h_X (k1h.out.next hb1011)
  have k2h:=h_X (k2h.out.next hb1011)
  have k9h:=h_X (k9h.out.next hb1011)
  have k11h:=h_X (k11h.out.next hb1011)
  have k13h:=h_X k13
  have hb511h:=h_X (bS hb59h.out hb1011)
  have HC4:=h_X (HRW.out W11 k13.2.2.2.2.1 _ _ k1h.out.val k2h.out.val)
  clear HC3 HRW c10 c11 c12 c13 hvx hb10 hbx11 hb1011 k13 hW9 hb59h
  obtain⟨c10,c11,c12,c13,-⟩:=k1h.out
  obtain⟨c20,c21,c22,c23,-⟩:=k2h.out
  go_wp2_with fail
  refine HC4.out.mono ?_
  rintro e w12 ⟨⟨q7,m7,q8,m8,rfl,hvy⟩,hb12⟩
  obtain⟨W13,hW13,hbx13,k15⟩:=box_of (w:=w) (bS k13h.out.2.2.2.2.1 hb12) hvy 25
  have hb1213:=bS hb12 hbx13
  have hspAh:=h_X (hspAh.out.below hb1213)
  have hspBh:=h_X (hspBh.out.below hb1213)
  have k9h:=h_X (k9h.out.next hb1213)
  have k11h:=h_X (k11h.out.next hb1213)
  have k13h:=h_X (k13h.out.next hb1213)
  have k15h:=h_X k15
  have hb513h:=h_X (bS hb511h.out hb1213)
  have HS1:=h_X (sameF_any A _ A _ W13 k9h.out.val k13h.out.val sA sA)
  rw[FT.eqB_refl] at HS1
  clear HC4 c10 c11 c12 c13 c20 c21 c22 c23 hvy hb12 hbx13 hb1213 k15 hW11 hb511h k1h k2h
  obtain⟨c90,c91,c92,c93,-⟩:=k9h.out
  obtain⟨d0,d1,d2,d3,-⟩:=k13h.out
  go_wp2_with fail
  refine HS1.out.mono ?_
  rintro e w14 ⟨rfl,hb14⟩
  have hspAh:=h_X (hspAh.out.below hb14)
  have hspBh:=h_X (hspBh.out.below hb14)
  have k9h:=h_X (k9h.out.next hb14)
  have k11h:=h_X (k11h.out.next hb14)
  have k15h:=h_X (k15h.out.next hb14)
  have hb514h:=h_X (bS hb513h.out hb14)
  have HS2:=h_X (sameF_any B _ B _ w14 k11h.out.val k15h.out.val sB sB)
  rw[FT.eqB_refl] at HS2
  clear HS1 c90 c91 c92 c93 d0 d1 d2 d3 hb14 hW13 hb513h k13h
  obtain⟨c90,c91,c92,c93,-⟩:=k11h.out
  obtain⟨d0,d1,d2,d3,-⟩:=k15h.out
  go_wp2_with fail
  refine HS2.out.mono ?_
  rintro e w15 ⟨rfl,hb15⟩
  have hspAh:=h_X (hspAh.out.below hb15)
  have hspBh:=h_X (hspBh.out.below hb15)
  have k9h:=h_X (k9h.out.next hb15)
  have k11h:=h_X (k11h.out.next hb15)
  have hb515h:=h_X (bS hb514h.out hb15)
  clear HS2 c90 c91 c92 c93 d0 d1 d2 d3 hb15 hb514h k15h
  obtain⟨c90,c91,c92,c93,-⟩:=k9h.out
  obtain⟨d0,d1,d2,d3,-⟩:=k11h.out
  go_wp2_with fail
  have hlt15:W5.heap.size≤w15.heap.size:=hb515h.out.size
  have g9:w6.heap.size < w15.heap.size:=lt_of_cell c90
  have g11:w8.heap.size < w15.heap.size:=lt_of_cell d0
  have hT0:∀ x,(Rg W5.heap.size w6.heap.size x∨Rg W7.heap.size w8.heap.size x∨x=w15.heap.size)→W5.heap.size≤x∧x≠w6.heap.size∧x≠w8.heap.size:=fun x hx=>by
   rcases hx with hx | hx | hx
   ·have:=hx.1;have:=hx.2;omega
   ·have:=hx.1;have:=hx.2;omega
   ·omega
  have hsp2:=two_sp hspAh.out hspBh.out (fun x hx hx'=>by have:=hx.1;have:=hx'.2;omega) (fun x hx=>by have:=hx.2;omega) (fun x hx=>by have:=hx.2;omega) 25
  have hb1516:=bel_laid w15 (.cells #[.int .u8 A.op,.string A.n,.slice q1 A.ts.len m1,.slice q2 A.sub.len m2,.int .u8 B.op,.string B.n,.slice q3 B.ts.len m3,.slice q4 B.sub.len m4] 25)
  have hcn:=cell_new w15 #[.int .u8 A.op,.string A.n,.slice q1 A.ts.len m1,.slice q2 A.sub.len m2,.int .u8 B.op,.string B.n,.slice q3 B.ts.len m3,.slice q4 B.sub.len m4] 25
  have hcn2:=hcn 2
  have hcn3:=hcn 3
  have hcn6:=hcn 6
  have hcn7:=hcn 7
  have hb516h:=h_X (bS hb515h.out hb1516)
  have a2:=c_B hb1516 c92
  have a3:=c_B hb1516 c93
  have b2:=c_B hb1516 d2
  have b3:=c_B hb1516 d3
  have hAs:=A.ts.len_le
  have hAss:=A.sub.len_le
  have hBs:=B.ts.len_le
  have hBss:=B.sub.len_le
  have hAz:A.size=A.ts.size+A.sub.size+1:=rfl
  have hBz:B.size=B.ts.size+B.sub.size+1:=rfl
  have HO:=h_X (overF_any _ _ _ _ hsp2 (by simp only[Fs.size];omega))
  clear hcn hb1516 hsp2 hspAh hspBh c90 c91 c92 c93 d0 d1 d2 d3 hb515h
  refine HO.out.mono ?_
  rintro e w17 ⟨⟨rv,rfl⟩,-,hov,hbut⟩
  obtain⟨S1,S2,S3,u1,u2,u3,⟨x1,hx1,hT1⟩,⟨x2,hx2,hF1⟩,T1,T2,T3,u4,u5,-,⟨x3,hx3,hT2⟩,⟨x4,hx4,hF2⟩,-⟩:=hov _ _ _ rfl
  obtain rfl:x1=.slice q1 A.ts.len m1:=Option.some.inj (hx1.symm.trans hcn2)
  obtain rfl:x2=.slice q2 A.sub.len m2:=Option.some.inj (hx2.symm.trans hcn3)
  obtain rfl:x3=.slice q3 B.ts.len m3:=Option.some.inj (hx3.symm.trans hcn6)
  obtain rfl:x4=.slice q4 B.sub.len m4:=Option.some.inj (hx4.symm.trans hcn7)
  have hz1:∀ x,S1 x→W5.heap.size≤x∧x≠w6.heap.size∧x≠w8.heap.size:=fun x hx=>hT0 x (u1 x hx).1
  have hz2:∀ x,S2 x→W5.heap.size≤x∧x≠w6.heap.size∧x≠w8.heap.size:=fun x hx=>hT0 x (u2 x hx).1.1
  have hz3:∀ x,T1 x→W5.heap.size≤x∧x≠w6.heap.size∧x≠w8.heap.size:=fun x hx=>hT0 x (u3 x (u4 x hx)).1.1
  have hz4:∀ x,T2 x→W5.heap.size≤x∧x≠w6.heap.size∧x≠w8.heap.size:=fun x hx=>hT0 x (u3 x (u5 x hx).1).1.1
  have h13:∀ x,T1 x→¬ S1 x∧¬ S2 x:=fun x hx=>(u3 x (u4 x hx)).2
  have h14:∀ x,T2 x→¬ S1 x∧¬ S2 x:=fun x hx=>(u3 x (u5 x hx).1).2
  have hb17h:=h_X (hb516h.out.trans (hbut.below (B:=W5.heap.size) (fun x hx=>(hT0 x hx).1) hb516h.out.size))
  replace a2:=cell_but hbut (fun h=>(hT0 _ h).2.1 rfl) a2
  replace a3:=cell_but hbut (fun h=>(hT0 _ h).2.1 rfl) a3
  replace b2:=cell_but hbut (fun h=>(hT0 _ h).2.2 rfl) b2
  replace b3:=cell_but hbut (fun h=>(hT0 _ h).2.2 rfl) b3
  have hF1h:=h_X hF1
  have hT2h:=h_X hT2
  have hF2h:=h_X hF2
  have HO2:=h_X (overT_any (leafT A.ts.len) _ S1 w17 hT1 (by rw[leafT_size];omega))
  have u2h:=h_X u2
  have u5h:=h_X u5
  clear HO hov hbut hcn2 hcn3 hcn6 hcn7 hx1 hx2 hx3 hx4 hT1 hF1 hT2 hF2 hb516h u1 u2 u3 u4 u5
  go_wp2_with fail
  refine HO2.out.mono ?_
  rintro e w18 ⟨⟨rv2,rfl⟩,-,hbut⟩
  have hb18h:=h_X (hb17h.out.trans (hbut.below (B:=W5.heap.size) (fun x hx=>(hz1 x hx).1) hb17h.out.size))
  replace a3:=cell_but hbut (fun h=>(hz1 _ h).2.1 rfl) a3
  replace b2:=cell_but hbut (fun h=>(hz1 _ h).2.2 rfl) b2
  replace b3:=cell_but hbut (fun h=>(hz1 _ h).2.2 rfl) b3
  have hF1w:=FSp.keep (W':=w18) (fun x i v hx hc=>Wc.but hbut (u2h.out x hx).2 hc) hF1h.out
  have hT2h:=h_X (TSp.keep (W':=w18) (fun x i v hx hc=>Wc.but hbut (h13 x hx).1 hc) hT2h.out)
  have hF2h:=h_X (FSp.keep (W':=w18) (fun x i v hx hc=>Wc.but hbut (h14 x hx).1 hc) hF2h.out)
  have HO3:=h_X (overF_any (leafF A.sub.len) _ S2 w18 hF1w (by rw[leafF_size];omega))
  clear HO2 hbut hF1w hF1h hb17h a2
  go_wp2_with fail
  refine HO3.out.mono ?_
  rintro e w19 ⟨⟨rv3,rfl⟩,-,-,hbut⟩
  have hb19h:=h_X (hb18h.out.trans (hbut.below (B:=W5.heap.size) (fun x hx=>(hz2 x hx).1) hb18h.out.size))
  replace b2:=cell_but hbut (fun h=>(hz2 _ h).2.2 rfl) b2
  replace b3:=cell_but hbut (fun h=>(hz2 _ h).2.2 rfl) b3
  have hT2w:=TSp.keep (W':=w19) (fun x i v hx hc=>Wc.but hbut (h13 x hx).2 hc) hT2h.out
  have hF2h:=h_X (FSp.keep (W':=w19) (fun x i v hx hc=>Wc.but hbut (h14 x hx).2 hc) hF2h.out)
  have HO4:=h_X (overT_any (leafT B.ts.len) _ T1 w19 hT2w (by rw[leafT_size];omega))
  clear HO3 hbut hT2w hT2h hb18h a3
  go_wp2_with fail
  refine HO4.out.mono ?_
  rintro e w20 ⟨⟨rv4,rfl⟩,-,hbut⟩
  have hb20h:=h_X (hb19h.out.trans (hbut.below (B:=W5.heap.size) (fun x hx=>(hz3 x hx).1) hb19h.out.size))
  replace b3:=cell_but hbut (fun h=>(hz3 _ h).2.2 rfl) b3
  have hF2w:=FSp.keep (W':=w20) (fun x i v hx hc=>Wc.but hbut (u5h.out x hx).2 hc) hF2h.out
  have HO5:=h_X (overF_any (leafF B.sub.len) _ T2 w20 hF2w (by rw[leafF_size];omega))
  clear HO4 hbut hF2w hF2h hb19h b2
  go_wp2_with fail
  refine HO5.out.mono ?_
  rintro e w21 ⟨⟨rv5,rfl⟩,-,-,hbut⟩
  have hb21:=hb20h.out.trans (hbut.below (B:=W5.heap.size) (fun x hx=>(hz4 x hx).1) hb20h.out.size)
  have k1h:=h_X (kk1.out.next hb21)
  have k2h:=h_X (kk2.out.next hb21)
  have i1h:=h_X (i1.out.next hb21)
  have i2h:=h_X (i2.out.next hb21)
  have HS1:=h_X (sameF_any f _ f _ w21 i1h.out.val k1h.out.val sf sf)
  rw[FT.eqB_refl] at HS1
  clear HO5 hbut hb20h b3 hb21
  obtain⟨c90,c91,c92,c93,-⟩:=i1h.out
  obtain⟨d0,d1,d2,d3,-⟩:=k1h.out
  go_wp2_with fail
  refine HS1.out.mono ?_
  rintro e w22 ⟨rfl,hb22⟩
  have k2h:=h_X (k2h.out.next hb22)
  have i2h:=h_X (i2h.out.next hb22)
  have HS2:=h_X (sameF_any h _ h _ w22 i2h.out.val k2h.out.val sh sh)
  rw[FT.eqB_refl] at HS2
  clear HS1 c90 c91 c92 c93 d0 d1 d2 d3 hb22
  obtain⟨c90,c91,c92,c93,-⟩:=i2h.out
  obtain⟨d0,d1,d2,d3,-⟩:=k2h.out
  go_wp2_with fail
  refine HS2.out.mono ?_
  rintro e w23 ⟨rfl,hb23⟩
  have hfin:=h_X (bS k2h.out.2.2.2.2.1 hb23)
  clear HS2 c90 c91 c92 c93 d0 d1 d2 d3 hb23
  go_wp2_with fail
  go_ret
  exact⟨rfl,hfin.out⟩
end Go.Proofs.YtngdieldgnlogaaGreatDoor
