/- The law's own makers: term, atom, Of, example. Predicates and Functions of the law's example. Two symbols in order. At, Right, Nodes, Depth of the law's example. -/
import Derived.Test.YtngdieldgnlogaaGreatDoorMC
import Derived.Test.YtngdieldgnlogaaGreatDoorMN
import Derived.Test.YtngdieldgnlogaaGreatDoorQZ
import Derived.Test.YtngdieldgnlogaaGreatDoorMK
import Derived.Test.YtngdieldgnlogaaGreatDoorMR
import Derived.Test.YtngdieldgnlogaaGreatDoorMT
namespace Go.Proofs.YtngdieldgnlogaaGreatDoor
open Go Go.RowKit
set_option maxRecDepth 100000
set_option linter.unusedVariables false
theorem term_mk (s:ByteArray) (p:Option Addr) (k c:Nat) (w:World) (hs:0 < s.size) :
  Calls Tryz.prog 48 #[.string s,.slice p k c] w fun e w'=>e=.returned (.agg #[.bool (decide (117≤byteI s 0)),.string s,.slice p k c])∧Below w.heap.size w w':=by
 have e0:=byteI_lt s 0 hs
 have hz':(0:Int) < (s.size:Int):=by omega
 go_enter Tryz.func48,Tryz.ntmps48
 go_wp2
 have k:=cell_new w #[.bool (decide (117≤byteI s 0)),.string s,.slice p k c] 46
 refine bodyPost_ret (v:=.agg #[.bool (decide (117≤byteI s 0)),.string s,.slice p _ c]) ?_ rfl ⟨rfl,bel_laid _ _⟩
 simp[results,Tryz.results48,go_sem]
theorem atom_mk (s:ByteArray) (p:Option Addr) (k c:Nat) (w:World) :
  Calls Tryz.prog 39 #[.string s,.slice p k c] w fun e w'=>e=.returned (.agg #[.int .u8 1,.string s,.slice p k c,.slice none 0 0])∧Below w.heap.size w w':=by
 go_enter Tryz.func39,Tryz.ntmps39
 go_wp2
 refine bodyPost_ret (v:=.agg #[.int .u8 1,.string s,.slice p k c,.slice none 0 0]) ?_ rfl ⟨rfl,bel_laid _ _⟩
 simp[results,Tryz.results39,go_sem]
theorem of_mk (op:Int) (s:ByteArray) (p:Option Addr) (k c:Nat) (w:World) :
  Calls Tryz.prog 49 #[.int .u8 op,.string s,.slice p k c] w fun e w'=>e=.returned (.agg #[.int .u8 op,.string s,.slice none 0 0,.slice p k c])∧Below w.heap.size w w':=by
 go_enter Tryz.func49,Tryz.ntmps49
 go_wp2
 refine bodyPost_ret (v:=.agg #[.int .u8 op,.string s,.slice none 0 0,.slice p k c]) ?_ rfl ⟨rfl,bel_laid _ _⟩
 simp[results,Tryz.results49,go_sem]
def exF:FT:=⟨9,⟨#[120]⟩,.nil,.cons 4 ⟨#[]⟩ .nil (.cons 1 ⟨#[80]⟩ (.cons true ⟨#[120]⟩ .nil (.cons false ⟨#[102]⟩ (.cons false ⟨#[97]⟩ .nil .nil) .nil)) .nil (.cons 3 ⟨#[]⟩ .nil (.cons 1 ⟨#[81]⟩ .nil .nil .nil) .nil)) .nil⟩
set_option maxHeartbeats 2000000 in
theorem example_any (w:World):Calls Tryz.prog 37 #[] w fun e w'=>(∃ v,e=.returned v∧FVal w' exF v)∧Below w.heap.size w w':=by
 have T1:=h_X (fun V=>term_mk ⟨#[120]⟩ none 0 0 V (by decide))
 have T2:=h_X (fun V=>term_mk ⟨#[97]⟩ none 0 0 V (by decide))
 have T3:=h_X (fun V a=>term_mk ⟨#[102]⟩ (some a) 1 1 V (by decide))
 rw[show decide (117≤byteI ⟨#[120]⟩ 0)=true by decide] at T1
 rw[show decide (117≤byteI ⟨#[97]⟩ 0)=false by decide] at T2
 rw[show decide (117≤byteI ⟨#[102]⟩ 0)=false by decide] at T3
 go_enter Tryz.func37,Tryz.ntmps37
 go_wp2_with fail
 refine(T1.out _).mono ?_
 rintro e w1 ⟨rfl,h1⟩
 go_wp2_with fail
 refine(T2.out _).mono ?_
 rintro e w2 ⟨rfl,h2⟩
 replace h2:=bS h1 h2
 clear h1 T1 T2
 have hin0:Below w.heap.size w (w.alloc (.cells #[.int .u8 0,.string ⟨#[]⟩,.slice none 0 0,.slice none 0 0] 25)):=bel_laid _ _
 go_wp2_with fail
 have k3:=cell_new w2 #[.bool false,.string ⟨#[97]⟩,.slice none 0 0] 46
 have l3:=bel_laid w2 (.cells #[.bool false,.string ⟨#[97]⟩,.slice none 0 0] 46)
 generalize w2.alloc (.cells #[.bool false,.string ⟨#[97]⟩,.slice none 0 0] 46)=X3 at k3 l3 ⊢
 have s3:TOwn X3 (w.alloc (.cells #[.int .u8 0,.string ⟨#[]⟩,.slice none 0 0,.slice none 0 0] 25)).heap.size (.cons false ⟨#[97]⟩ .nil .nil) (.slice (some ⟨w2.heap.size,0,none⟩) 1 1) :=
  ⟨_,_,rfl,.inr ⟨_,_,rfl,h2.size,k3 0,k3 1,⟨_,k3 2,none,0,rfl,.inl rfl⟩,trivial⟩⟩
 replace l3:=bS h2 l3
 clear k3 h2
 generalize w2.heap.size=g3 at s3 ⊢
 refine(T3.out _ _).mono ?_
 rintro e w4 ⟨rfl,h4⟩
 replace s3:=TOwn.below h4 s3
 replace h4:=bS l3 h4
 clear l3 T3
 go_wp2_with fail
 have k5:=cell_new w4 #[.bool true,.string ⟨#[120]⟩,.slice none 0 0,.bool false,.string ⟨#[102]⟩,.slice (some ⟨g3,0,none⟩) 1 1] 46
 have l5:=bel_laid w4 (.cells #[.bool true,.string ⟨#[120]⟩,.slice none 0 0,.bool false,.string ⟨#[102]⟩,.slice (some ⟨g3,0,none⟩) 1 1] 46)
 generalize w4.alloc (.cells #[.bool true,.string ⟨#[120]⟩,.slice none 0 0,.bool false,.string ⟨#[102]⟩,.slice (some ⟨g3,0,none⟩) 1 1] 46)=X5 at k5 l5 ⊢
 have s5:TOwn X5 (w.alloc (.cells #[.int .u8 0,.string ⟨#[]⟩,.slice none 0 0,.slice none 0 0] 25)).heap.size (.cons true ⟨#[120]⟩ .nil (.cons false ⟨#[102]⟩ (.cons false ⟨#[97]⟩ .nil .nil) .nil)) (.slice (some ⟨w4.heap.size,0,none⟩) 2 2) :=
  ⟨_,_,rfl,.inr ⟨_,_,rfl,h4.size,k5 0,k5 1,⟨_,k5 2,none,0,rfl,.inl rfl⟩,k5 3,k5 4,⟨_,k5 5,TOwn.below l5 s3⟩,trivial⟩⟩
 replace l5:=bS h4 l5
 clear k5 s3 h4
 generalize w4.heap.size=g5 at s5 ⊢
 have A1:=h_X (fun V=>atom_mk ⟨#[80]⟩ (some ⟨g5,0,none⟩) 2 2 V)
 have A2:=h_X (fun V=>atom_mk ⟨#[81]⟩ none 0 0 V)
 refine(A1.out _).mono ?_
 rintro e w6 ⟨rfl,h6⟩
 replace s5:=TOwn.below h6 s5
 replace h6:=bS l5 h6
 clear l5 A1
 go_wp2_with fail
 refine(A2.out _).mono ?_
 rintro e w7 ⟨rfl,h7⟩
 replace s5:=TOwn.below h7 s5
 replace h7:=bS h6 h7
 clear h6 A2
 go_wp2_with fail
 have k8:=cell_new w7 #[.int .u8 1,.string ⟨#[81]⟩,.slice none 0 0,.slice none 0 0] 25
 have l8:=bel_laid w7 (.cells #[.int .u8 1,.string ⟨#[81]⟩,.slice none 0 0,.slice none 0 0] 25)
 generalize w7.alloc (.cells #[.int .u8 1,.string ⟨#[81]⟩,.slice none 0 0,.slice none 0 0] 25)=X8 at k8 l8 ⊢
 have s8:FOwn X8 (w.alloc (.cells #[.int .u8 0,.string ⟨#[]⟩,.slice none 0 0,.slice none 0 0] 25)).heap.size (.cons 1 ⟨#[81]⟩ .nil .nil .nil) (.slice (some ⟨w7.heap.size,0,none⟩) 1 1) :=
  ⟨_,_,rfl,.inr ⟨_,_,rfl,h7.size,k8 0,k8 1,⟨_,k8 2,none,0,rfl,.inl rfl⟩,⟨_,k8 3,none,0,rfl,.inl rfl⟩,trivial⟩⟩
 replace s5:=TOwn.below l8 s5
 replace l8:=bS h7 l8
 clear k8 h7
 generalize w7.heap.size=g8 at s8 ⊢
 have O1:=h_X (fun V=>of_mk 3 ⟨#[]⟩ (some ⟨g8,0,none⟩) 1 1 V)
 refine(O1.out _).mono ?_
 rintro e w9 ⟨rfl,h9⟩
 replace s5:=TOwn.below h9 s5
 replace s8:=FOwn.below h9 s8
 replace h9:=bS l8 h9
 clear l8 O1
 go_wp2_with fail
 have k10:=cell_new w9 #[.int .u8 1,.string ⟨#[80]⟩,.slice (some ⟨g5,0,none⟩) 2 2,.slice none 0 0,.int .u8 3,.string ⟨#[]⟩,.slice none 0 0,.slice (some ⟨g8,0,none⟩) 1 1] 25
 have l10:=bel_laid w9 (.cells #[.int .u8 1,.string ⟨#[80]⟩,.slice (some ⟨g5,0,none⟩) 2 2,.slice none 0 0,.int .u8 3,.string ⟨#[]⟩,.slice none 0 0,.slice (some ⟨g8,0,none⟩) 1 1] 25)
 generalize w9.alloc (.cells #[.int .u8 1,.string ⟨#[80]⟩,.slice (some ⟨g5,0,none⟩) 2 2,.slice none 0 0,.int .u8 3,.string ⟨#[]⟩,.slice none 0 0,.slice (some ⟨g8,0,none⟩) 1 1] 25)=X10 at k10 l10 ⊢
 have s10:FOwn X10 (w.alloc (.cells #[.int .u8 0,.string ⟨#[]⟩,.slice none 0 0,.slice none 0 0] 25)).heap.size (.cons 1 ⟨#[80]⟩ (.cons true ⟨#[120]⟩ .nil (.cons false ⟨#[102]⟩ (.cons false ⟨#[97]⟩ .nil .nil) .nil)) .nil (.cons 3 ⟨#[]⟩ .nil (.cons 1 ⟨#[81]⟩ .nil .nil .nil) .nil)) (.slice (some ⟨w9.heap.size,0,none⟩) 2 2) :=
  ⟨_,_,rfl,.inr ⟨_,_,rfl,h9.size,k10 0,k10 1,⟨_,k10 2,TOwn.below l10 s5⟩,⟨_,k10 3,none,0,rfl,.inl rfl⟩,k10 4,k10 5,⟨_,k10 6,none,0,rfl,.inl rfl⟩,⟨_,k10 7,FOwn.below l10 s8⟩,trivial⟩⟩
 replace l10:=bS h9 l10
 clear k10 h9 s5 s8
 generalize w9.heap.size=g10 at s10 ⊢
 have O2:=h_X (fun V=>of_mk 4 ⟨#[]⟩ (some ⟨g10,0,none⟩) 2 2 V)
 refine(O2.out _).mono ?_
 rintro e w11 ⟨rfl,h11⟩
 replace s10:=FOwn.below h11 s10
 replace h11:=bS l10 h11
 clear l10 O2
 go_wp2_with fail
 have k12:=cell_new w11 #[.int .u8 4,.string ⟨#[]⟩,.slice none 0 0,.slice (some ⟨g10,0,none⟩) 2 2] 25
 have l12:=bel_laid w11 (.cells #[.int .u8 4,.string ⟨#[]⟩,.slice none 0 0,.slice (some ⟨g10,0,none⟩) 2 2] 25)
 generalize w11.alloc (.cells #[.int .u8 4,.string ⟨#[]⟩,.slice none 0 0,.slice (some ⟨g10,0,none⟩) 2 2] 25)=X12 at k12 l12 ⊢
 have s12:FOwn X12 (w.alloc (.cells #[.int .u8 0,.string ⟨#[]⟩,.slice none 0 0,.slice none 0 0] 25)).heap.size exF.sub (.slice (some ⟨w11.heap.size,0,none⟩) 1 1) :=
  ⟨_,_,rfl,.inr ⟨_,_,rfl,h11.size,k12 0,k12 1,⟨_,k12 2,none,0,rfl,.inl rfl⟩,⟨_,k12 3,FOwn.below l12 s10⟩,trivial⟩⟩
 replace l12:=bS h11 l12
 clear k12 h11 s10
 generalize w11.heap.size=g12 at s12 ⊢
 have O3:=h_X (fun V=>of_mk 9 ⟨#[120]⟩ (some ⟨g12,0,none⟩) 1 1 V)
 refine(O3.out _).mono ?_
 rintro e w13 ⟨rfl,h13⟩
 replace s12:=FOwn.below h13 s12
 replace h13:=bS l12 h13
 clear l12 O3
 have hF:=(Free.lit w #[.int .u8 0,.string ⟨#[]⟩,.slice none 0 0,.slice none 0 0] 25).below h13
 have hfin:=bS hin0 h13
 have hgs:w.heap.size < w13.heap.size:=by have:=h13.size;simp at this;omega
 clear hin0 h13
 obtain⟨g,hg⟩:∃ g,w.heap.size=g:=⟨_,rfl⟩
 rw[hg] at hF hgs ⊢
 obtain⟨⟨x0,y0⟩,z0⟩:=hF 0 (by simp)
 obtain⟨⟨x1,y1⟩,z1⟩:=hF 1 (by simp)
 obtain⟨⟨x2,y2⟩,z2⟩:=hF 2 (by simp)
 obtain⟨⟨x3,y3⟩,z3⟩:=hF 3 (by simp)
 clear hF
 go_wp2_with fail
 obtain⟨W5,hW5,e0,e1,e2,e3,hfar,hbl⟩:=set4 w13 g (.int .u8 9) (.string ⟨#[120]⟩) (.slice none 0 0) (.slice (some ⟨g12,0,none⟩) 1 1) y0 y1 y2 y3
 rw[hW5]
 rw[World.size_alloc,hg] at s12
 have hown:FOwn W5 (g+1) exF.sub (.slice (some ⟨g12,0,none⟩) 1 1):=FOwn.keep (fun b o v hb hc=>hfar b o v (by omega) hc) s12
 refine bodyPost_ret (v:=.agg #[.int .u8 9,.string ⟨#[120]⟩,.slice none 0 0,.slice (some ⟨g12,0,none⟩) 1 1]) ?_ rfl ⟨⟨_,rfl,_,_,rfl,⟨none,0,rfl,.inl rfl⟩,FOwn.at hown⟩,hbl _ _ hfin (by omega)⟩
 simp[results,Tryz.results37,go_sem,e0,e1,e2,e3]
end Go.Proofs.YtngdieldgnlogaaGreatDoor
namespace Go.Proofs.YtngdieldgnlogaaGreatDoor
open Go Go.RowKit
set_option maxRecDepth 100000
theorem SyAt.kept {w W:World} (hb:Ext w W):∀ {l:List Sy} {b o:Nat},SyAt w l b o→SyAt W l b o
 | [],_,_,_=>trivial
 | (_,_) :: _,_,_,⟨h1,h2,h3⟩=>⟨hb _ _ _ h1,hb _ _ _ h2,SyAt.kept hb h3⟩
theorem ordered_put (l:List Sy) (v:Value) (V:World) (D:Nat) (o o':Obj) (h:V.heap[D]? = some o) (ho:o.isCells=false) (hR:Ordered l v V):Ordered l v (V.putObj D o'):=by
 obtain⟨l',g,cap,h1,h2,h3,h4⟩:=hR
 exact⟨l',g,cap,h1,h2,h3,h4.kept fun b i u hc=>(KL.put (L:=[]) o' h ho (Nat.lt_succ_self D)).2.1 b i u (by simp) hc⟩
theorem pred_ex (v:Value) (w:World) (hv:FVal w exF v) :
  Calls Tryz.prog 29 #[v] w fun e w'=>(∃ v',e=.returned v'∧Ordered [(⟨#[80]⟩,2),(⟨#[81]⟩,0)] v' w')∧Below w.heap.size w w':=by
 have e:exF.parts.flatMap symP=[(⟨#[80]⟩,2),(⟨#[81]⟩,0)]:=rfl
 have:=predicates_any _ _ inOrder_any ordered_put exF (by rw[e];exact⟨by simp,by simp[Differ,ByteArray.toList]⟩) (by decide) v w hv
 rwa [e] at this
theorem func_ex (v:Value) (w:World) (hv:FVal w exF v) :
  Calls Tryz.prog 31 #[v] w fun e w'=>(∃ v',e=.returned v'∧Ordered [(⟨#[102]⟩,1),(⟨#[97]⟩,0)] v' w')∧Below w.heap.size w w':=by
 have e:exF.terms.flatMap symT=[(⟨#[102]⟩,1),(⟨#[97]⟩,0)]:=rfl
 have:=functions_any _ _ inOrder_any ordered_put exF (by rw[e];exact⟨by simp,by simp[Differ,ByteArray.toList]⟩) (by decide) v w hv
 rwa [e] at this
end Go.Proofs.YtngdieldgnlogaaGreatDoor
namespace Go.Proofs.YtngdieldgnlogaaGreatDoor
open Go Go.RowKit Go.Sort
set_option maxRecDepth 100000
theorem perm_two {a b:Sy} {l:List Sy} (h:l.Perm [a,b]):l=[a,b]∨l=[b,a]:=by
 have hl:=h.length_eq
 match l,hl with
 | [x,y],_ =>
  have hx:x∈[a,b]:=h.subset (by simp)
  simp only[List.mem_cons,List.not_mem_nil,or_false] at hx
  rcases hx with rfl | rfl
  ·have:=(List.perm_cons x).1 h
   left
   rw[List.perm_singleton.1 this]
  ·have:=(List.perm_cons x).1 (h.trans (List.Perm.swap x a []))
   right
   rw[List.perm_singleton.1 this]
theorem ordered_two {a b:Sy} (h:sySym a b < 0) {l:List Sy} (hl:l.Perm [a,b]) {v:Value} {V:World} (hR:Ordered l v V):∃ g cap,v=.slice (some ⟨g,0,none⟩) 2 cap∧SyAt V [a,b] g 0:=by
 obtain⟨l',g,cap,h1,h2,rfl,h4⟩:=hR
 rcases perm_two (h1.trans hl) with rfl | rfl
 ·exact⟨g,cap,rfl,h4⟩
 ·exfalso
  have:=h2 0 1 (by omega) (by omega) (by simp)
  simp[ltOf] at this
  omega
theorem pred_two (v:Value) (w:World) (hv:FVal w exF v) :
  Calls Tryz.prog 29 #[v] w fun e w'=>(∃ g cap,e=.returned (.slice (some ⟨g,0,none⟩) 2 cap)∧SyAt w' [(⟨#[80]⟩,2),(⟨#[81]⟩,0)] g 0)∧Below w.heap.size w w' :=
 (pred_ex v w hv).mono fun e w' ⟨⟨v',he,hR⟩,hb⟩=>by
  obtain⟨g,cap,rfl,hs⟩:=ordered_two (a:=(⟨#[80]⟩,2)) (b:=(⟨#[81]⟩,0)) (by rw[symCmp_lt];left;rw[show (⟨#[80]⟩:ByteArray).toList=[80] by kernel_rfl,show (⟨#[81]⟩:ByteArray).toList=[81] by kernel_rfl];decide) (List.Perm.refl _) hR
  exact⟨⟨g,cap,he,hs⟩,hb⟩
theorem func_two (v:Value) (w:World) (hv:FVal w exF v) :
  Calls Tryz.prog 31 #[v] w fun e w'=>(∃ g cap,e=.returned (.slice (some ⟨g,0,none⟩) 2 cap)∧SyAt w' [(⟨#[97]⟩,0),(⟨#[102]⟩,1)] g 0)∧Below w.heap.size w w' :=
 (func_ex v w hv).mono fun e w' ⟨⟨v',he,hR⟩,hb⟩=>by
  obtain⟨g,cap,rfl,hs⟩:=ordered_two (a:=(⟨#[97]⟩,0)) (b:=(⟨#[102]⟩,1)) (by rw[symCmp_lt];left;rw[show (⟨#[97]⟩:ByteArray).toList=[97] by kernel_rfl,show (⟨#[102]⟩:ByteArray).toList=[102] by kernel_rfl];decide) (List.Perm.swap _ _ _) hR
  exact⟨⟨g,cap,he,hs⟩,hb⟩
end Go.Proofs.YtngdieldgnlogaaGreatDoor
namespace Go.Proofs.YtngdieldgnlogaaGreatDoor
open Go Go.RowKit
set_option maxRecDepth 100000
theorem at_ex (v sl:Value) (w:World) (hv:FVal w exF v) (hl:LSl w [0,1,0] sl) :
  Calls Tryz.prog 38 #[v,sl] w fun e w'=>(∃ p c q d,e=.returned (.tuple #[.agg #[.int .u8 1,.string ⟨#[81]⟩,.slice p 0 c,.slice q 0 d],.int .i64 0]))∧Below w.heap.size w w' :=
 (at_any exF [0,1,0] v sl w hv hl (by decide) (by decide)).mono fun e w' ⟨⟨v',er,he,hr⟩,hb⟩=>by
  have hp:exF.part [0,1,0]=some ⟨1,⟨#[81]⟩,.nil,.nil⟩:=by simp[exF,FT.part,Fs.get,Fs.len]
  rw[hp] at hr
  obtain⟨⟨sa,ss,rfl,h1,h2⟩,rfl⟩:=hr
  obtain⟨p,c,rfl,-⟩:=h1
  obtain⟨q,d,rfl,-⟩:=h2
  exact⟨⟨p,c,q,d,he⟩,hb⟩
theorem nodes_ex (v:Value) (w:World) (hv:FVal w exF v):Calls Tryz.prog 19 #[v] w fun e w'=>e=.returned (.int .i64 8)∧Below w.heap.size w w' :=
 nodes_any exF (by decide) v w hv
theorem depth_ex (v:Value) (w:World) (hv:FVal w exF v):Calls Tryz.prog 21 #[v] w fun e w'=>e=.returned (.int .i64 5)∧Below w.heap.size w w' :=
 depth_any exF v w hv (by decide)
theorem right_ex (v:Value) (w:World) (hrw:Rws w) (hv:FVal w exF v):Calls Tryz.prog 15 #[v] w fun e w'=>e=.returned (.bool true)∧Below w.heap.size w w':=by
 have h:=right_any exF (by decide) v w hrw hv
 rwa [show (exF.fits && exF.right false)=true by kernel_rfl] at h
end Go.Proofs.YtngdieldgnlogaaGreatDoor
