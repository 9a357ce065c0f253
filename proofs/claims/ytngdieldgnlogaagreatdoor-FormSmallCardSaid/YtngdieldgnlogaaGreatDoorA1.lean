/- The law's wake-up. -/
import Derived.Test.YtngdieldgnlogaaGreatDoorQU
import Derived.Test.YtngdieldgnlogaaGreatDoorME
import Derived.Test.YtngdieldgnlogaaGreatDoorMN
namespace Go.Proofs.YtngdieldgnlogaaGreatDoor
open Go Go.RowKit
set_option maxRecDepth 100000
set_option linter.unusedVariables false
theorem parts_ex (v:Value) (w:World) (hv:FVal w exF v):Calls Tryz.prog 14 #[v] w fun e w'=>(∃ p c,e=.returned (.slice p 5 c))∧Below w.heap.size w w' :=
 (parts31_any exF (by decide) v w hv).mono fun e w' ⟨⟨s,he,hR⟩,hb⟩=>by
  have hl:(pickedT exF.parts).length=5:=by kernel_rfl
  rcases hR with ⟨h,-⟩ | ⟨-,l1,ho,-⟩
  ·exact absurd h (by decide)
  ·rw[hl] at ho
   obtain⟨-,⟨-,h0⟩ | ⟨g,cap,cur,rfl,-⟩⟩:=ho
   ·cases h0
   ·exact⟨⟨_,_,he⟩,hb⟩
def VTw (b1 b2:Nat) (fv qv:Value) (d:Nat) (u:Value) (W:World):Prop :=
 if d=1 then u=.pointer (some ⟨b1,0,none⟩)
 else if d=2 then u=.pointer (some ⟨b2,0,none⟩)
 else if d=3∨d=36 then u=.int .i64 0
 else if d=21 then u=.int .i64 8
 else if d=26∨d=32 then u=.int .i64 5
 else if d=40 then u=qv
 else if d=41 then u=.agg #[.int .u8 1,.string ⟨#[81]⟩,.slice none 0 0,.slice none 0 0]
 else if d=46∨d=58 then u=.int .i64 2
 else if d=52∨d=53 then u=.agg #[.string ⟨#[80]⟩,.int .i64 2]
 else if d=64∨d=65 then u=.agg #[.string ⟨#[102]⟩,.int .i64 1]
 else if d=72∨d=79∨d=86 then u=.bool false
 else if d=13∨d=15∨d=17∨d=20∨d=25∨d=30 then u=fv
 else if d=31 then ∃ p c,u=.slice p 5 c
 else if d=4∨d=14∨d=45∨d=50 then ∃ g k,u=.slice (some ⟨g,0,none⟩) 2 k∧SyAt W [(⟨#[80]⟩,2),(⟨#[81]⟩,0)] g 0
 else if d=5∨d=16∨d=57∨d=62 then ∃ g k,u=.slice (some ⟨g,0,none⟩) 2 k∧SyAt W [(⟨#[97]⟩,0),(⟨#[102]⟩,1)] g 0
 else if d=51 then ∃ g,u=.pointer (some ⟨g,0*2,none⟩)∧SyAt W [(⟨#[80]⟩,2),(⟨#[81]⟩,0)] g 0
 else if d=63 then ∃ g,u=.pointer (some ⟨g,1*2,none⟩)∧SyAt W [(⟨#[97]⟩,0),(⟨#[102]⟩,1)] g 0
 else u=.bool true
theorem VTw.below {b1 b2:Nat} {fv qv:Value} {d:Nat} {u:Value} {A B:World} (hb:Below A.heap.size A B) (h:VTw b1 b2 fv qv d u A):VTw b1 b2 fv qv d u B:=by
 unfold VTw at h ⊢
 by_cases k1:d=1
 ·rw[if_pos k1] at h ⊢;exact h
 rw[if_neg k1] at h ⊢
 by_cases k2:d=2
 ·rw[if_pos k2] at h ⊢;exact h
 rw[if_neg k2] at h ⊢
 by_cases k3:d=3∨d=36
 ·rw[if_pos k3] at h ⊢;exact h
 rw[if_neg k3] at h ⊢
 by_cases k4:d=21
 ·rw[if_pos k4] at h ⊢;exact h
 rw[if_neg k4] at h ⊢
 by_cases k5:d=26∨d=32
 ·rw[if_pos k5] at h ⊢;exact h
 rw[if_neg k5] at h ⊢
 by_cases k6:d=40
 ·rw[if_pos k6] at h ⊢;exact h
 rw[if_neg k6] at h ⊢
 by_cases k7:d=41
 ·rw[if_pos k7] at h ⊢;exact h
 rw[if_neg k7] at h ⊢
 by_cases k8:d=46∨d=58
 ·rw[if_pos k8] at h ⊢;exact h
 rw[if_neg k8] at h ⊢
 by_cases k9:d=52∨d=53
 ·rw[if_pos k9] at h ⊢;exact h
 rw[if_neg k9] at h ⊢
 by_cases k10:d=64∨d=65
 ·rw[if_pos k10] at h ⊢;exact h
 rw[if_neg k10] at h ⊢
 by_cases k11:d=72∨d=79∨d=86
 ·rw[if_pos k11] at h ⊢;exact h
 rw[if_neg k11] at h ⊢
 by_cases k12:d=13∨d=15∨d=17∨d=20∨d=25∨d=30
 ·rw[if_pos k12] at h ⊢;exact h
 rw[if_neg k12] at h ⊢
 by_cases k13:d=31
 ·rw[if_pos k13] at h ⊢;exact h
 rw[if_neg k13] at h ⊢
 by_cases k14:d=4∨d=14∨d=45∨d=50
 ·rw[if_pos k14] at h ⊢
  obtain⟨g,k,e,y⟩:=h
  exact⟨g,k,e,y.below hb⟩
 rw[if_neg k14] at h ⊢
 by_cases k15:d=5∨d=16∨d=57∨d=62
 ·rw[if_pos k15] at h ⊢
  obtain⟨g,k,e,y⟩:=h
  exact⟨g,k,e,y.below hb⟩
 rw[if_neg k15] at h ⊢
 by_cases k16:d=51
 ·rw[if_pos k16] at h ⊢
  obtain⟨g,e,y⟩:=h
  exact⟨g,e,y.below hb⟩
 rw[if_neg k16] at h ⊢
 by_cases k17:d=63
 ·rw[if_pos k17] at h ⊢
  obtain⟨g,e,y⟩:=h
  exact⟨g,e,y.below hb⟩
 rw[if_neg k17] at h ⊢
 exact h
set_option maxHeartbeats 4000000 in
theorem awake_any (w:World) (hrw:Rws w):Calls Tryz.prog 7 #[] w fun e w'=>e=.returned (.bool true)∧Below w.heap.size w w':=by
 have HE:=h_X (fun V=>example_any V)
 have hrwh:=h_X hrw
 clear hrw
 go_enter Tryz.func7,Tryz.ntmps7
 go_wp2_with fail
 refine(HE.out _).mono ?_
 rintro e w1 ⟨⟨v,rfl,hv⟩,h1⟩
 clear HE
 obtain⟨sa,ss,rfl,ha,hss⟩:=id hv
 obtain⟨pa,ca,hsa,-⟩:=id ha
 obtain⟨p,cc,hsb,-⟩:=id hss
 subst hsa hsb
 clear ha hss
 have hst:=FS.start (t:=25) hv
 go_wp2_with fail
 have hb0:=bel_laid w1 (.cells #[.int .u8 exF.op,.string exF.n,.slice pa exF.ts.len ca,.slice p exF.sub.len cc] 25)
 have hb2:=bel_laid (w1.alloc (.cells #[.int .u8 exF.op,.string exF.n,.slice pa exF.ts.len ca,.slice p exF.sub.len cc] 25)) (.cells #[.int .i64 0,.int .i64 1,.int .i64 0] 3)
 have hst2:=hst.next hb2
 have hls:LSl ((w1.alloc (.cells #[.int .u8 exF.op,.string exF.n,.slice pa exF.ts.len ca,.slice p exF.sub.len cc] 25)).alloc (.cells #[.int .i64 0,.int .i64 1,.int .i64 0] 3)) [0,1,0] (.slice (some ⟨w1.heap.size+1,0,none⟩) 3 3):=by
  have k:=fun i=>cell_new (w1.alloc (.cells #[.int .u8 exF.op,.string exF.n,.slice pa exF.ts.len ca,.slice p exF.sub.len cc] 25)) #[.int .i64 0,.int .i64 1,.int .i64 0] 3 i
  rw[World.size_alloc] at k
  exact⟨_,_,rfl,.inr ⟨_,_,rfl,k 0,k 1,k 2,trivial⟩⟩
 refine(at_ex _ _ _ hst2.val hls).mono ?_
 rintro e W3 ⟨⟨p1,c1,q1,d1,rfl⟩,h3⟩
 have hst3:=hst2.next h3
 have hbw:=bS (bS (bS h1 hb0) hb2) h3
 have hb1lt:w1.heap.size < W3.heap.size:=by have:=h3.size;simp at this;omega
 clear hst hst2 hls h1 hb0 hb2 h3
 generalize w1.heap.size=b1 at hst3 hb1lt ⊢
 have hb4:=bel_laid W3 (.cells #[.int .u8 1,.string ⟨#[81]⟩,.slice p1 0 c1,.slice q1 0 d1] 25)
 have hst4:=hst3.next hb4
 have hbw4:=bS hbw hb4
 have hk:=cell_new W3 #[.int .u8 1,.string ⟨#[81]⟩,.slice p1 0 c1,.slice q1 0 d1] 25
 have hbox2:(W3.alloc (.cells #[.int .u8 1,.string ⟨#[81]⟩,.slice p1 0 c1,.slice q1 0 d1] 25)).rangeAt W3.heap.size 0 [.int .u8 1,.string ⟨#[81]⟩,.slice p1 0 c1,.slice q1 0 d1]:=by
  intro j u hj
  rw[Nat.zero_add,hk]
  simpa using hj
 clear hk hb4 hst3 hbw
 have hbox2h:=h_X hbox2
 have hrwh2:=h_X (hrwh.out.of hbw4)
 have hst4h:=h_X hst4
 clear hbox2 hrwh hst4
 go_wp2_with fail
 rename_i Kx hKx
 have hKxh:=h_X hKx
 clear hKx
 generalize hW4:W3.alloc (.cells #[.int .u8 1,.string ⟨#[81]⟩,.slice p1 0 c1,.slice q1 0 d1] 25)=W4 at hbox2h hrwh2 hst4h hbw4 ⊢
 clear hW4
 have hrw5:∀ W,Below W4.heap.size W4 W→Rws W:=fun W hb=>hrwh2.out.of hb
 have hfv5:∀ W,Below W4.heap.size W4 W→FVal W exF (.agg #[.int .u8 exF.op,.string exF.n,.slice pa exF.ts.len ca,.slice p exF.sub.len cc]):=fun W hb=>(hst4h.out.next hb).val
 have hrng2:∀ W,Below W4.heap.size W4 W→W.rangeAt W3.heap.size 0 [.int .u8 1,.string ⟨#[81]⟩,.slice p1 0 c1,.slice q1 0 d1]:=fun W hb=>range_below hbox2h.out hb
 have hrng1:∀ W,Below W4.heap.size W4 W→W.rangeAt b1 0 [.int .u8 exF.op,.string exF.n,.slice pa exF.ts.len ca,.slice p exF.sub.len cc]:=by
  intro W hb j u hj
  have hf:=hst4h.out.next hb
  match j,hj with
  | 0,hj=>simp at hj;subst hj;exact hf.1
  | 1,hj=>simp at hj;subst hj;exact hf.2.1
  | 2,hj=>simp at hj;subst hj;exact hf.2.2.1
  | 3,hj=>simp at hj;subst hj;exact hf.2.2.2.1
 have RT_:=h_X (fun W hr hv=>right_ex (.agg #[.int .u8 exF.op,.string exF.n,.slice pa exF.ts.len ca,.slice p exF.sub.len cc]) W hr hv)
 have ND:=h_X (fun W hv=>nodes_ex (.agg #[.int .u8 exF.op,.string exF.n,.slice pa exF.ts.len ca,.slice p exF.sub.len cc]) W hv)
 have DP:=h_X (fun W hv=>depth_ex (.agg #[.int .u8 exF.op,.string exF.n,.slice pa exF.ts.len ca,.slice p exF.sub.len cc]) W hv)
 have PT:=h_X (fun W hv=>parts_ex (.agg #[.int .u8 exF.op,.string exF.n,.slice pa exF.ts.len ca,.slice p exF.sub.len cc]) W hv)
 have PD2:=h_X (fun W hv=>pred_two (.agg #[.int .u8 exF.op,.string exF.n,.slice pa exF.ts.len ca,.slice p exF.sub.len cc]) W hv)
 have FN2:=h_X (fun W hv=>func_two (.agg #[.int .u8 exF.op,.string exF.n,.slice pa exF.ts.len ca,.slice p exF.sub.len cc]) W hv)
 have AT:=h_X (fun W=>atom_mk ⟨#[81]⟩ none 0 0 W)
 have SL:=h_X (fun W=>sameLeaf 1 ⟨#[81]⟩ p1 none q1 none c1 0 d1 0 W)
 refine wp_region_held_slots (by kernel_rfl) 6 89 [1,2,3] (VTw b1 W3.heap.size (.agg #[.int .u8 exF.op,.string exF.n,.slice pa exF.ts.len ca,.slice p exF.sub.len cc]) (.agg #[.int .u8 1,.string ⟨#[81]⟩,.slice p1 0 c1,.slice q1 0 d1]))
  (fun _ _ W=>Below W4.heap.size W4 W) (fun W W'=>Below W.heap.size W W') (by kernel_rfl) (fun d u A B hb h=>VTw.below hb h) rfl (bel_drew W4) ?hb0 ?hst ?hend
 case hb0 =>
  intro d hd
  simp only[List.mem_cons,List.not_mem_nil,or_false] at hd
  rcases hd with rfl | rfl | rfl
  all_goals exact⟨_,rfl,rfl⟩
 case hst =>
  refine⟨?_,?_,?_,?_,?_,?_,trivial⟩
  ·intro L a W hLs hL hn hd hI hb hl
   obtain⟨u1,h1,e1⟩:=hb 1 (by simp)
   replace e1:u1=.pointer (some ⟨b1,0,none⟩):=e1
   subst e1
   exact op_val rfl rfl (ex_load rfl (eval_tmp h1) (load27 (hrng1 W hI))) ⟨_,rfl,fun d hd=>by cases hd;rfl,hI,Below.refl _ _⟩
  ·intro L a W hLs hL hn hd hI hb hl
   obtain⟨u13,h13,e13⟩:=hl 13 (cM (by kernel_rfl))
   replace e13:u13=.agg #[.int .u8 exF.op,.string exF.n,.slice pa exF.ts.len ca,.slice p exF.sub.len cc]:=e13
   subst e13
   refine op_call rfl rfl (ex_call1 (enters_of Tryz.func29 (by kernel_rfl) rfl) rfl (eval_tmp h13)) ((PD2.out W (hfv5 W hI)).mono ?_)
   rintro e W' ⟨⟨g,k,rfl,hy⟩,hb'⟩
   exact⟨_,rfl,_,rfl,fun d hd=>by cases hd;exact⟨_,_,rfl,hy⟩,bS hI hb',hb'⟩
  ·intro L a W hLs hL hn hd hI hb hl
   obtain⟨u1,h1,e1⟩:=hb 1 (by simp)
   replace e1:u1=.pointer (some ⟨b1,0,none⟩):=e1
   subst e1
   exact op_val rfl rfl (ex_load rfl (eval_tmp h1) (load27 (hrng1 W hI))) ⟨_,rfl,fun d hd=>by cases hd;rfl,hI,Below.refl _ _⟩
  ·intro L a W hLs hL hn hd hI hb hl
   obtain⟨u15,h15,e15⟩:=hl 15 (cM (by kernel_rfl))
   replace e15:u15=.agg #[.int .u8 exF.op,.string exF.n,.slice pa exF.ts.len ca,.slice p exF.sub.len cc]:=e15
   subst e15
   refine op_call rfl rfl (ex_call1 (enters_of Tryz.func31 (by kernel_rfl) rfl) rfl (eval_tmp h15)) ((FN2.out W (hfv5 W hI)).mono ?_)
   rintro e W' ⟨⟨g,k,rfl,hy⟩,hb'⟩
   exact⟨_,rfl,_,rfl,fun d hd=>by cases hd;exact⟨_,_,rfl,hy⟩,bS hI hb',hb'⟩
  ·intro L a W hLs hL hn hd hI hb hl
   obtain⟨u14,h14,e14⟩:=hl 14 (cM (by kernel_rfl))
   exact op_val rfl rfl (ex_assign rfl (eval_tmp h14)) ⟨_,rfl,fun d hd=>by cases hd;exact e14,hI,Below.refl _ _⟩
  ·intro L a W hLs hL hn hd hI hb hl
   obtain⟨u16,h16,e16⟩:=hl 16 (cM (by kernel_rfl))
   exact op_val rfl rfl (ex_assign rfl (eval_tmp h16)) ⟨_,rfl,fun d hd=>by cases hd;exact e16,hI,Below.refl _ _⟩
 case hend =>
  intro a3 W5 hH
  refine any_none (by kernel_rfl) ?_
  show Kx a3 W5
  refine hKxh.out _ _ ?_
  clear hKxh PD2 FN2
  have hI5:=hH.inv
  have hs5:=hH.size
  have hd5:=hH.defs
  have hB5:∀ d∈[1,2,3,4,5],∃ v,a3.tmps[d]? = some v∧VTw b1 W3.heap.size (.agg #[.int .u8 exF.op,.string exF.n,.slice pa exF.ts.len ca,.slice p exF.sub.len cc]) (.agg #[.int .u8 1,.string ⟨#[81]⟩,.slice p1 0 c1,.slice q1 0 d1]) d v W5.drew:=by
   intro d hd
   simp only[List.mem_cons,List.not_mem_nil,or_false] at hd
   have hk:∃ v,a3.tmps[d]? = some v∧VTw b1 W3.heap.size (.agg #[.int .u8 exF.op,.string exF.n,.slice pa exF.ts.len ca,.slice p exF.sub.len cc]) (.agg #[.int .u8 1,.string ⟨#[81]⟩,.slice p1 0 c1,.slice q1 0 d1]) d v W5:=by
    rcases hd with rfl | rfl | rfl | rfl | rfl
    ·exact hH.base 1 (by simp)
    ·exact hH.base 2 (by simp)
    ·exact hH.base 3 (by simp)
    ·exact hH.made 4 4 rfl rfl
    ·exact hH.made 5 5 rfl rfl
   obtain⟨v,h1,h2⟩:=hk
   exact⟨v,h1,VTw.below (bel_drew W5) h2⟩
  clear hH
  go_wp2_with fail
  rename_i Ky hKy
  have hKyh:=h_X hKy
  clear hKy
  refine wp_region_held_slots (by kernel_rfl) 73 89 [1,2,3,4,5] (VTw b1 W3.heap.size (.agg #[.int .u8 exF.op,.string exF.n,.slice pa exF.ts.len ca,.slice p exF.sub.len cc]) (.agg #[.int .u8 1,.string ⟨#[81]⟩,.slice p1 0 c1,.slice q1 0 d1]))
   (fun _ _ W=>Below W4.heap.size W4 W) (fun W W'=>Below W.heap.size W W') (by kernel_rfl) (fun d u A B hb h=>VTw.below hb h) hs5 (bS hI5 (bel_drew W5)) hB5 ?hst ?hend
  case hst =>
   refine⟨?_,?_,?_,?_,?_,?_,?_,?_,?_,?_,?_,?_,?_,?_,?_,?_,?_,?_,?_,?_,?_,?_,?_,?_,?_,?_,?_,?_,?_,?_,?_,?_,?_,?_,?_,?_,?_,?_,?_,?_,?_,?_,?_,?_,?_,?_,?_,?_,?_,?_,?_,?_,?_,?_,?_,?_,?_,?_,?_,?_,?_,?_,?_,?_,?_,?_,?_,?_,?_,?_,?_,?_,?_,trivial⟩
   ·intro L a W hLs hL hn hd hI hb hl
    obtain⟨u1,h1,e1⟩:=hb 1 (by simp)
    replace e1:u1=.pointer (some ⟨b1,0,none⟩):=e1
    subst e1
    exact op_val rfl rfl (ex_load rfl (eval_tmp h1) (load27 (hrng1 W hI))) ⟨_,rfl,fun d hd=>by cases hd;rfl,hI,Below.refl _ _⟩
   ·intro L a W hLs hL hn hd hI hb hl
    obtain⟨u17,h17,e17⟩:=hl 17 (cM (by kernel_rfl))
    replace e17:u17=.agg #[.int .u8 exF.op,.string exF.n,.slice pa exF.ts.len ca,.slice p exF.sub.len cc]:=e17
    subst e17
    refine op_call rfl rfl (ex_call1 (enters_of Tryz.func15 (by kernel_rfl) rfl) rfl (eval_tmp h17)) ((RT_.out W (hrw5 W hI) (hfv5 W hI)).mono ?_)
    rintro e W' ⟨rfl,hb'⟩
    exact⟨_,rfl,_,rfl,fun d hd=>by cases hd;rfl,bS hI hb',hb'⟩
   ·intro L a W hLs hL hn hd hI hb hl
    obtain⟨u18,h18,e18⟩:=hl 18 (cM (by kernel_rfl))
    replace e18:u18=.bool true:=e18
    subst e18
    exact op_val rfl rfl (ex_move rfl (eval_tmp h18)) ⟨_,rfl,fun d hd=>by cases hd;rfl,hI,Below.refl _ _⟩
   ·intro L a W hLs hL hn hd hI hb hl
    obtain⟨ug,hg,eg⟩:=hl 19 (cM (by kernel_rfl))
    replace eg:ug=.bool true:=eg
    subst eg
    obtain⟨u1,h1,e1⟩:=hb 1 (by simp)
    replace e1:u1=.pointer (some ⟨b1,0,none⟩):=e1
    subst e1
    exact op_val rfl (wants_on rfl (by kernel_rfl) hg) (ex_load rfl (eval_tmp h1) (load27 (hrng1 W hI))) ⟨_,rfl,fun d hd=>by cases hd;rfl,hI,Below.refl _ _⟩
   ·intro L a W hLs hL hn hd hI hb hl
    obtain⟨ug,hg,eg⟩:=hl 19 (cM (by kernel_rfl))
    replace eg:ug=.bool true:=eg
    subst eg
    obtain⟨u20,h20,e20⟩:=hl 20 (cM (by kernel_rfl))
    replace e20:u20=.agg #[.int .u8 exF.op,.string exF.n,.slice pa exF.ts.len ca,.slice p exF.sub.len cc]:=e20
    subst e20
    refine op_call rfl (wants_on rfl (by kernel_rfl) hg) (ex_call1 (enters_of Tryz.func19 (by kernel_rfl) rfl) rfl (eval_tmp h20)) ((ND.out W (hfv5 W hI)).mono ?_)
    rintro e W' ⟨rfl,hb'⟩
    exact⟨_,rfl,_,rfl,fun d hd=>by cases hd;rfl,bS hI hb',hb'⟩
   ·intro L a W hLs hL hn hd hI hb hl
    obtain⟨ug,hg,eg⟩:=hl 19 (cM (by kernel_rfl))
    replace eg:ug=.bool true:=eg
    subst eg
    obtain⟨u21,h21,e21⟩:=hl 21 (cM (by kernel_rfl))
    replace e21:u21=.int .i64 8:=e21
    subst e21
    exact op_val rfl (wants_on rfl (by kernel_rfl) hg) (ex_bin rfl (eval_tmp h21) rfl (guard_int _ _ _ _ _) (eql_int _ _ W)) ⟨_,rfl,fun d hd=>by cases hd;rfl,hI,Below.refl _ _⟩
   ·intro L a W hLs hL hn hd hI hb hl
    obtain⟨u19,h19,e19⟩:=hl 19 (cM (by kernel_rfl))
    replace e19:u19=.bool true:=e19
    subst e19
    obtain⟨u22,h22,e22⟩:=hl 22 (cM (by kernel_rfl))
    replace e22:u22=.bool true:=e22
    subst e22
    exact op_val rfl rfl (ex_pick rfl (eval_tmp h19) (eval_tmp h22)) ⟨_,rfl,fun d hd=>by cases hd;rfl,hI,Below.refl _ _⟩
   ·intro L a W hLs hL hn hd hI hb hl
    obtain⟨u23,h23,e23⟩:=hl 23 (cM (by kernel_rfl))
    replace e23:u23=.bool true:=e23
    subst e23
    exact op_val rfl rfl (ex_move rfl (eval_tmp h23)) ⟨_,rfl,fun d hd=>by cases hd;rfl,hI,Below.refl _ _⟩
   ·intro L a W hLs hL hn hd hI hb hl
    obtain⟨ug,hg,eg⟩:=hl 24 (cM (by kernel_rfl))
    replace eg:ug=.bool true:=eg
    subst eg
    obtain⟨u1,h1,e1⟩:=hb 1 (by simp)
    replace e1:u1=.pointer (some ⟨b1,0,none⟩):=e1
    subst e1
    exact op_val rfl (wants_on rfl (by kernel_rfl) hg) (ex_load rfl (eval_tmp h1) (load27 (hrng1 W hI))) ⟨_,rfl,fun d hd=>by cases hd;rfl,hI,Below.refl _ _⟩
   ·intro L a W hLs hL hn hd hI hb hl
    obtain⟨ug,hg,eg⟩:=hl 24 (cM (by kernel_rfl))
    replace eg:ug=.bool true:=eg
    subst eg
    obtain⟨u25,h25,e25⟩:=hl 25 (cM (by kernel_rfl))
    replace e25:u25=.agg #[.int .u8 exF.op,.string exF.n,.slice pa exF.ts.len ca,.slice p exF.sub.len cc]:=e25
    subst e25
    refine op_call rfl (wants_on rfl (by kernel_rfl) hg) (ex_call1 (enters_of Tryz.func21 (by kernel_rfl) rfl) rfl (eval_tmp h25)) ((DP.out W (hfv5 W hI)).mono ?_)
    rintro e W' ⟨rfl,hb'⟩
    exact⟨_,rfl,_,rfl,fun d hd=>by cases hd;rfl,bS hI hb',hb'⟩
   ·intro L a W hLs hL hn hd hI hb hl
    obtain⟨ug,hg,eg⟩:=hl 24 (cM (by kernel_rfl))
    replace eg:ug=.bool true:=eg
    subst eg
    obtain⟨u26,h26,e26⟩:=hl 26 (cM (by kernel_rfl))
    replace e26:u26=.int .i64 5:=e26
    subst e26
    exact op_val rfl (wants_on rfl (by kernel_rfl) hg) (ex_bin rfl (eval_tmp h26) rfl (guard_int _ _ _ _ _) (eql_int _ _ W)) ⟨_,rfl,fun d hd=>by cases hd;rfl,hI,Below.refl _ _⟩
   ·intro L a W hLs hL hn hd hI hb hl
    obtain⟨u24,h24,e24⟩:=hl 24 (cM (by kernel_rfl))
    replace e24:u24=.bool true:=e24
    subst e24
    obtain⟨u27,h27,e27⟩:=hl 27 (cM (by kernel_rfl))
    replace e27:u27=.bool true:=e27
    subst e27
    exact op_val rfl rfl (ex_pick rfl (eval_tmp h24) (eval_tmp h27)) ⟨_,rfl,fun d hd=>by cases hd;rfl,hI,Below.refl _ _⟩
   ·intro L a W hLs hL hn hd hI hb hl
    obtain⟨u28,h28,e28⟩:=hl 28 (cM (by kernel_rfl))
    replace e28:u28=.bool true:=e28
    subst e28
    exact op_val rfl rfl (ex_move rfl (eval_tmp h28)) ⟨_,rfl,fun d hd=>by cases hd;rfl,hI,Below.refl _ _⟩
   ·intro L a W hLs hL hn hd hI hb hl
    obtain⟨ug,hg,eg⟩:=hl 29 (cM (by kernel_rfl))
    replace eg:ug=.bool true:=eg
    subst eg
    obtain⟨u1,h1,e1⟩:=hb 1 (by simp)
    replace e1:u1=.pointer (some ⟨b1,0,none⟩):=e1
    subst e1
    exact op_val rfl (wants_on rfl (by kernel_rfl) hg) (ex_load rfl (eval_tmp h1) (load27 (hrng1 W hI))) ⟨_,rfl,fun d hd=>by cases hd;rfl,hI,Below.refl _ _⟩
   ·intro L a W hLs hL hn hd hI hb hl
    obtain⟨ug,hg,eg⟩:=hl 29 (cM (by kernel_rfl))
    replace eg:ug=.bool true:=eg
    subst eg
    obtain⟨u30,h30,e30⟩:=hl 30 (cM (by kernel_rfl))
    replace e30:u30=.agg #[.int .u8 exF.op,.string exF.n,.slice pa exF.ts.len ca,.slice p exF.sub.len cc]:=e30
    subst e30
    refine op_call rfl (wants_on rfl (by kernel_rfl) hg) (ex_call1 (enters_of Tryz.func14 (by kernel_rfl) rfl) rfl (eval_tmp h30)) ((PT.out W (hfv5 W hI)).mono ?_)
    rintro e W' ⟨⟨p5,c5,rfl⟩,hb'⟩
    exact⟨_,rfl,_,rfl,fun d hd=>by cases hd;exact⟨_,_,rfl⟩,bS hI hb',hb'⟩
   ·intro L a W hLs hL hn hd hI hb hl
    obtain⟨ug,hg,eg⟩:=hl 29 (cM (by kernel_rfl))
    replace eg:ug=.bool true:=eg
    subst eg
    obtain⟨u31,h31,e31⟩:=hl 31 (cM (by kernel_rfl))
    obtain⟨p31,c31,e31⟩:∃ p c,u31=.slice p 5 c:=e31
    subst e31
    exact op_val rfl (wants_on rfl (by kernel_rfl) hg) (ex_len Tryz.underlying23 rfl (eval_tmp h31) rfl) ⟨_,rfl,fun d hd=>by cases hd;rfl,hI,Below.refl _ _⟩
   ·intro L a W hLs hL hn hd hI hb hl
    obtain⟨ug,hg,eg⟩:=hl 29 (cM (by kernel_rfl))
    replace eg:ug=.bool true:=eg
    subst eg
    obtain⟨u32,h32,e32⟩:=hl 32 (cM (by kernel_rfl))
    replace e32:u32=.int .i64 5:=e32
    subst e32
    exact op_val rfl (wants_on rfl (by kernel_rfl) hg) (ex_bin rfl (eval_tmp h32) rfl (guard_int _ _ _ _ _) (eql_int _ _ W)) ⟨_,rfl,fun d hd=>by cases hd;rfl,hI,Below.refl _ _⟩
   ·intro L a W hLs hL hn hd hI hb hl
    obtain⟨u29,h29,e29⟩:=hl 29 (cM (by kernel_rfl))
    replace e29:u29=.bool true:=e29
    subst e29
    obtain⟨u33,h33,e33⟩:=hl 33 (cM (by kernel_rfl))
    replace e33:u33=.bool true:=e33
    subst e33
    exact op_val rfl rfl (ex_pick rfl (eval_tmp h29) (eval_tmp h33)) ⟨_,rfl,fun d hd=>by cases hd;rfl,hI,Below.refl _ _⟩
   ·intro L a W hLs hL hn hd hI hb hl
    obtain⟨u34,h34,e34⟩:=hl 34 (cM (by kernel_rfl))
    replace e34:u34=.bool true:=e34
    subst e34
    exact op_val rfl rfl (ex_move rfl (eval_tmp h34)) ⟨_,rfl,fun d hd=>by cases hd;rfl,hI,Below.refl _ _⟩
   ·intro L a W hLs hL hn hd hI hb hl
    obtain⟨ug,hg,eg⟩:=hl 35 (cM (by kernel_rfl))
    replace eg:ug=.bool true:=eg
    subst eg
    obtain⟨u3,h3,e3⟩:=hb 3 (by simp)
    replace e3:u3=.int .i64 0:=e3
    subst e3
    exact op_val rfl (wants_on rfl (by kernel_rfl) hg) (ex_move rfl (eval_tmp h3)) ⟨_,rfl,fun d hd=>by cases hd;rfl,hI,Below.refl _ _⟩
   ·intro L a W hLs hL hn hd hI hb hl
    obtain⟨ug,hg,eg⟩:=hl 35 (cM (by kernel_rfl))
    replace eg:ug=.bool true:=eg
    subst eg
    obtain⟨u36,h36,e36⟩:=hl 36 (cM (by kernel_rfl))
    replace e36:u36=.int .i64 0:=e36
    subst e36
    exact op_val rfl (wants_on rfl (by kernel_rfl) hg) (ex_bin rfl (eval_tmp h36) rfl (guard_int _ _ _ _ _) (eql_errno _ _ W)) ⟨_,rfl,fun d hd=>by cases hd;rfl,hI,Below.refl _ _⟩
   ·intro L a W hLs hL hn hd hI hb hl
    obtain⟨u35,h35,e35⟩:=hl 35 (cM (by kernel_rfl))
    replace e35:u35=.bool true:=e35
    subst e35
    obtain⟨u37,h37,e37⟩:=hl 37 (cM (by kernel_rfl))
    replace e37:u37=.bool true:=e37
    subst e37
    exact op_val rfl rfl (ex_pick rfl (eval_tmp h35) (eval_tmp h37)) ⟨_,rfl,fun d hd=>by cases hd;rfl,hI,Below.refl _ _⟩
   ·intro L a W hLs hL hn hd hI hb hl
    obtain⟨u38,h38,e38⟩:=hl 38 (cM (by kernel_rfl))
    replace e38:u38=.bool true:=e38
    subst e38
    exact op_val rfl rfl (ex_move rfl (eval_tmp h38)) ⟨_,rfl,fun d hd=>by cases hd;rfl,hI,Below.refl _ _⟩
   ·intro L a W hLs hL hn hd hI hb hl
    obtain⟨ug,hg,eg⟩:=hl 39 (cM (by kernel_rfl))
    replace eg:ug=.bool true:=eg
    subst eg
    obtain⟨u2,h2,e2⟩:=hb 2 (by simp)
    replace e2:u2=.pointer (some ⟨W3.heap.size,0,none⟩):=e2
    subst e2
    exact op_val rfl (wants_on rfl (by kernel_rfl) hg) (ex_load rfl (eval_tmp h2) (load27 (hrng2 W hI))) ⟨_,rfl,fun d hd=>by cases hd;rfl,hI,Below.refl _ _⟩
   ·intro L a W hLs hL hn hd hI hb hl
    obtain⟨ug,hg,eg⟩:=hl 39 (cM (by kernel_rfl))
    replace eg:ug=.bool true:=eg
    subst eg
    refine op_call rfl (wants_on rfl (by kernel_rfl) hg) (ex_call2 (enters_of Tryz.func39 (by kernel_rfl) rfl) rfl rfl rfl) ((AT.out W).mono ?_)
    rintro e W' ⟨rfl,hb'⟩
    exact⟨_,rfl,_,rfl,fun d hd=>by cases hd;rfl,bS hI hb',hb'⟩
   ·intro L a W hLs hL hn hd hI hb hl
    obtain⟨ug,hg,eg⟩:=hl 39 (cM (by kernel_rfl))
    replace eg:ug=.bool true:=eg
    subst eg
    obtain⟨u40,h40,e40⟩:=hl 40 (cM (by kernel_rfl))
    replace e40:u40=.agg #[.int .u8 1,.string ⟨#[81]⟩,.slice p1 0 c1,.slice q1 0 d1]:=e40
    subst e40
    obtain⟨u41,h41,e41⟩:=hl 41 (cM (by kernel_rfl))
    replace e41:u41=.agg #[.int .u8 1,.string ⟨#[81]⟩,.slice none 0 0,.slice none 0 0]:=e41
    subst e41
    refine op_call rfl (wants_on rfl (by kernel_rfl) hg) (ex_call2 (enters_of Tryz.func25 (by kernel_rfl) rfl) rfl (eval_tmp h40) (eval_tmp h41)) ((SL.out W).mono ?_)
    rintro e W' ⟨rfl,hb'⟩
    exact⟨_,rfl,_,rfl,fun d hd=>by cases hd;rfl,bS hI hb',hb'⟩
   ·intro L a W hLs hL hn hd hI hb hl
    obtain⟨u39,h39,e39⟩:=hl 39 (cM (by kernel_rfl))
    replace e39:u39=.bool true:=e39
    subst e39
    obtain⟨u42,h42,e42⟩:=hl 42 (cM (by kernel_rfl))
    replace e42:u42=.bool true:=e42
    subst e42
    exact op_val rfl rfl (ex_pick rfl (eval_tmp h39) (eval_tmp h42)) ⟨_,rfl,fun d hd=>by cases hd;rfl,hI,Below.refl _ _⟩
   ·intro L a W hLs hL hn hd hI hb hl
    obtain⟨u43,h43,e43⟩:=hl 43 (cM (by kernel_rfl))
    replace e43:u43=.bool true:=e43
    subst e43
    exact op_val rfl rfl (ex_move rfl (eval_tmp h43)) ⟨_,rfl,fun d hd=>by cases hd;rfl,hI,Below.refl _ _⟩
   ·intro L a W hLs hL hn hd hI hb hl
    obtain⟨ug,hg,eg⟩:=hl 44 (cM (by kernel_rfl))
    replace eg:ug=.bool true:=eg
    subst eg
    obtain⟨u4,h4,e4⟩:=hb 4 (by simp)
    obtain⟨g4,k4,e4,y4⟩:∃ g k,u4=.slice (some ⟨g,0,none⟩) 2 k∧SyAt W [(⟨#[80]⟩,2),(⟨#[81]⟩,0)] g 0:=e4
    subst e4
    exact op_val rfl (wants_on rfl (by kernel_rfl) hg) (ex_move rfl (eval_tmp h4)) ⟨_,rfl,fun d hd=>by cases hd;exact⟨_,_,rfl,y4⟩,hI,Below.refl _ _⟩
   ·intro L a W hLs hL hn hd hI hb hl
    obtain⟨ug,hg,eg⟩:=hl 44 (cM (by kernel_rfl))
    replace eg:ug=.bool true:=eg
    subst eg
    obtain⟨u45,h45,e45⟩:=hl 45 (cM (by kernel_rfl))
    obtain⟨g45,k45,e45,y45⟩:∃ g k,u45=.slice (some ⟨g,0,none⟩) 2 k∧SyAt W [(⟨#[80]⟩,2),(⟨#[81]⟩,0)] g 0:=e45
    subst e45
    exact op_val rfl (wants_on rfl (by kernel_rfl) hg) (ex_len Tryz.underlying40 rfl (eval_tmp h45) rfl) ⟨_,rfl,fun d hd=>by cases hd;rfl,hI,Below.refl _ _⟩
   ·intro L a W hLs hL hn hd hI hb hl
    obtain⟨ug,hg,eg⟩:=hl 44 (cM (by kernel_rfl))
    replace eg:ug=.bool true:=eg
    subst eg
    obtain⟨u46,h46,e46⟩:=hl 46 (cM (by kernel_rfl))
    replace e46:u46=.int .i64 2:=e46
    subst e46
    exact op_val rfl (wants_on rfl (by kernel_rfl) hg) (ex_bin rfl (eval_tmp h46) rfl (guard_int _ _ _ _ _) (eql_int _ _ W)) ⟨_,rfl,fun d hd=>by cases hd;rfl,hI,Below.refl _ _⟩
   ·intro L a W hLs hL hn hd hI hb hl
    obtain⟨u44,h44,e44⟩:=hl 44 (cM (by kernel_rfl))
    replace e44:u44=.bool true:=e44
    subst e44
    obtain⟨u47,h47,e47⟩:=hl 47 (cM (by kernel_rfl))
    replace e47:u47=.bool true:=e47
    subst e47
    exact op_val rfl rfl (ex_pick rfl (eval_tmp h44) (eval_tmp h47)) ⟨_,rfl,fun d hd=>by cases hd;rfl,hI,Below.refl _ _⟩
   ·intro L a W hLs hL hn hd hI hb hl
    obtain⟨u48,h48,e48⟩:=hl 48 (cM (by kernel_rfl))
    replace e48:u48=.bool true:=e48
    subst e48
    exact op_val rfl rfl (ex_move rfl (eval_tmp h48)) ⟨_,rfl,fun d hd=>by cases hd;rfl,hI,Below.refl _ _⟩
   ·intro L a W hLs hL hn hd hI hb hl
    obtain⟨ug,hg,eg⟩:=hl 49 (cM (by kernel_rfl))
    replace eg:ug=.bool true:=eg
    subst eg
    obtain⟨u4,h4,e4⟩:=hb 4 (by simp)
    obtain⟨g4,k4,e4,y4⟩:∃ g k,u4=.slice (some ⟨g,0,none⟩) 2 k∧SyAt W [(⟨#[80]⟩,2),(⟨#[81]⟩,0)] g 0:=e4
    subst e4
    exact op_val rfl (wants_on rfl (by kernel_rfl) hg) (ex_move rfl (eval_tmp h4)) ⟨_,rfl,fun d hd=>by cases hd;exact⟨_,_,rfl,y4⟩,hI,Below.refl _ _⟩
   ·intro L a W hLs hL hn hd hI hb hl
    obtain⟨ug,hg,eg⟩:=hl 49 (cM (by kernel_rfl))
    replace eg:ug=.bool true:=eg
    subst eg
    obtain⟨u50,h50,e50⟩:=hl 50 (cM (by kernel_rfl))
    obtain⟨g50,k50,e50,y50⟩:∃ g k,u50=.slice (some ⟨g,0,none⟩) 2 k∧SyAt W [(⟨#[80]⟩,2),(⟨#[81]⟩,0)] g 0:=e50
    subst e50
    exact op_val rfl (wants_on rfl (by kernel_rfl) hg) (ex_indexAddr rfl (eval_tmp h50) rfl (index39 0 (by decide))) ⟨_,rfl,fun d hd=>by cases hd;exact⟨_,rfl,y50⟩,hI,Below.refl _ _⟩
   ·intro L a W hLs hL hn hd hI hb hl
    obtain⟨ug,hg,eg⟩:=hl 49 (cM (by kernel_rfl))
    replace eg:ug=.bool true:=eg
    subst eg
    obtain⟨u51,h51,e51⟩:=hl 51 (cM (by kernel_rfl))
    obtain⟨g51,e51,y51⟩:∃ g,u51=.pointer (some ⟨g,0*2,none⟩)∧SyAt W [(⟨#[80]⟩,2),(⟨#[81]⟩,0)] g 0:=e51
    subst e51
    exact op_val rfl (wants_on rfl (by kernel_rfl) hg) (ex_load rfl (eval_tmp h51) (load46 y51.1 y51.2.1)) ⟨_,rfl,fun d hd=>by cases hd;rfl,hI,Below.refl _ _⟩
   ·intro L a W hLs hL hn hd hI hb hl
    obtain⟨ug,hg,eg⟩:=hl 49 (cM (by kernel_rfl))
    replace eg:ug=.bool true:=eg
    subst eg
    exact op_val rfl (wants_on rfl (by kernel_rfl) hg) (ex_build2 rfl rfl rfl (build_sym _ _ W)) ⟨_,rfl,fun d hd=>by cases hd;rfl,hI,Below.refl _ _⟩
   ·intro L a W hLs hL hn hd hI hb hl
    obtain⟨ug,hg,eg⟩:=hl 49 (cM (by kernel_rfl))
    replace eg:ug=.bool true:=eg
    subst eg
    obtain⟨u52,h52,e52⟩:=hl 52 (cM (by kernel_rfl))
    replace e52:u52=.agg #[.string ⟨#[80]⟩,.int .i64 2]:=e52
    subst e52
    obtain⟨u53,h53,e53⟩:=hl 53 (cM (by kernel_rfl))
    replace e53:u53=.agg #[.string ⟨#[80]⟩,.int .i64 2]:=e53
    subst e53
    exact op_val rfl (wants_on rfl (by kernel_rfl) hg) (ex_bin rfl (eval_tmp h52) (eval_tmp h53) (guard_sym _ _ _ _ _ _ _) (eql46 _ _ _ _ W)) ⟨_,rfl,fun d hd=>by cases hd;exact congrArg Value.bool (by kernel_rfl),hI,Below.refl _ _⟩
   ·intro L a W hLs hL hn hd hI hb hl
    obtain⟨u49,h49,e49⟩:=hl 49 (cM (by kernel_rfl))
    replace e49:u49=.bool true:=e49
    subst e49
    obtain⟨u54,h54,e54⟩:=hl 54 (cM (by kernel_rfl))
    replace e54:u54=.bool true:=e54
    subst e54
    exact op_val rfl rfl (ex_pick rfl (eval_tmp h49) (eval_tmp h54)) ⟨_,rfl,fun d hd=>by cases hd;rfl,hI,Below.refl _ _⟩
   ·intro L a W hLs hL hn hd hI hb hl
    obtain⟨u55,h55,e55⟩:=hl 55 (cM (by kernel_rfl))
    replace e55:u55=.bool true:=e55
    subst e55
    exact op_val rfl rfl (ex_move rfl (eval_tmp h55)) ⟨_,rfl,fun d hd=>by cases hd;rfl,hI,Below.refl _ _⟩
   ·intro L a W hLs hL hn hd hI hb hl
    obtain⟨ug,hg,eg⟩:=hl 56 (cM (by kernel_rfl))
    replace eg:ug=.bool true:=eg
    subst eg
    obtain⟨u5,h5,e5⟩:=hb 5 (by simp)
    obtain⟨g5,k5,e5,y5⟩:∃ g k,u5=.slice (some ⟨g,0,none⟩) 2 k∧SyAt W [(⟨#[97]⟩,0),(⟨#[102]⟩,1)] g 0:=e5
    subst e5
    exact op_val rfl (wants_on rfl (by kernel_rfl) hg) (ex_move rfl (eval_tmp h5)) ⟨_,rfl,fun d hd=>by cases hd;exact⟨_,_,rfl,y5⟩,hI,Below.refl _ _⟩
   ·intro L a W hLs hL hn hd hI hb hl
    obtain⟨ug,hg,eg⟩:=hl 56 (cM (by kernel_rfl))
    replace eg:ug=.bool true:=eg
    subst eg
    obtain⟨u57,h57,e57⟩:=hl 57 (cM (by kernel_rfl))
    obtain⟨g57,k57,e57,y57⟩:∃ g k,u57=.slice (some ⟨g,0,none⟩) 2 k∧SyAt W [(⟨#[97]⟩,0),(⟨#[102]⟩,1)] g 0:=e57
    subst e57
    exact op_val rfl (wants_on rfl (by kernel_rfl) hg) (ex_len Tryz.underlying40 rfl (eval_tmp h57) rfl) ⟨_,rfl,fun d hd=>by cases hd;rfl,hI,Below.refl _ _⟩
   ·intro L a W hLs hL hn hd hI hb hl
    obtain⟨ug,hg,eg⟩:=hl 56 (cM (by kernel_rfl))
    replace eg:ug=.bool true:=eg
    subst eg
    obtain⟨u58,h58,e58⟩:=hl 58 (cM (by kernel_rfl))
    replace e58:u58=.int .i64 2:=e58
    subst e58
    exact op_val rfl (wants_on rfl (by kernel_rfl) hg) (ex_bin rfl (eval_tmp h58) rfl (guard_int _ _ _ _ _) (eql_int _ _ W)) ⟨_,rfl,fun d hd=>by cases hd;rfl,hI,Below.refl _ _⟩
   ·intro L a W hLs hL hn hd hI hb hl
    obtain⟨u56,h56,e56⟩:=hl 56 (cM (by kernel_rfl))
    replace e56:u56=.bool true:=e56
    subst e56
    obtain⟨u59,h59,e59⟩:=hl 59 (cM (by kernel_rfl))
    replace e59:u59=.bool true:=e59
    subst e59
    exact op_val rfl rfl (ex_pick rfl (eval_tmp h56) (eval_tmp h59)) ⟨_,rfl,fun d hd=>by cases hd;rfl,hI,Below.refl _ _⟩
   ·intro L a W hLs hL hn hd hI hb hl
    obtain⟨u60,h60,e60⟩:=hl 60 (cM (by kernel_rfl))
    replace e60:u60=.bool true:=e60
    subst e60
    exact op_val rfl rfl (ex_move rfl (eval_tmp h60)) ⟨_,rfl,fun d hd=>by cases hd;rfl,hI,Below.refl _ _⟩
   ·intro L a W hLs hL hn hd hI hb hl
    obtain⟨ug,hg,eg⟩:=hl 61 (cM (by kernel_rfl))
    replace eg:ug=.bool true:=eg
    subst eg
    obtain⟨u5,h5,e5⟩:=hb 5 (by simp)
    obtain⟨g5,k5,e5,y5⟩:∃ g k,u5=.slice (some ⟨g,0,none⟩) 2 k∧SyAt W [(⟨#[97]⟩,0),(⟨#[102]⟩,1)] g 0:=e5
    subst e5
    exact op_val rfl (wants_on rfl (by kernel_rfl) hg) (ex_move rfl (eval_tmp h5)) ⟨_,rfl,fun d hd=>by cases hd;exact⟨_,_,rfl,y5⟩,hI,Below.refl _ _⟩
   ·intro L a W hLs hL hn hd hI hb hl
    obtain⟨ug,hg,eg⟩:=hl 61 (cM (by kernel_rfl))
    replace eg:ug=.bool true:=eg
    subst eg
    obtain⟨u62,h62,e62⟩:=hl 62 (cM (by kernel_rfl))
    obtain⟨g62,k62,e62,y62⟩:∃ g k,u62=.slice (some ⟨g,0,none⟩) 2 k∧SyAt W [(⟨#[97]⟩,0),(⟨#[102]⟩,1)] g 0:=e62
    subst e62
    exact op_val rfl (wants_on rfl (by kernel_rfl) hg) (ex_indexAddr rfl (eval_tmp h62) rfl (index39 1 (by decide))) ⟨_,rfl,fun d hd=>by cases hd;exact⟨_,rfl,y62⟩,hI,Below.refl _ _⟩
   ·intro L a W hLs hL hn hd hI hb hl
    obtain⟨ug,hg,eg⟩:=hl 61 (cM (by kernel_rfl))
    replace eg:ug=.bool true:=eg
    subst eg
    obtain⟨u63,h63,e63⟩:=hl 63 (cM (by kernel_rfl))
    obtain⟨g63,e63,y63⟩:∃ g,u63=.pointer (some ⟨g,1*2,none⟩)∧SyAt W [(⟨#[97]⟩,0),(⟨#[102]⟩,1)] g 0:=e63
    subst e63
    exact op_val rfl (wants_on rfl (by kernel_rfl) hg) (ex_load rfl (eval_tmp h63) (load46 y63.2.2.1 y63.2.2.2.1)) ⟨_,rfl,fun d hd=>by cases hd;rfl,hI,Below.refl _ _⟩
   ·intro L a W hLs hL hn hd hI hb hl
    obtain⟨ug,hg,eg⟩:=hl 61 (cM (by kernel_rfl))
    replace eg:ug=.bool true:=eg
    subst eg
    exact op_val rfl (wants_on rfl (by kernel_rfl) hg) (ex_build2 rfl rfl rfl (build_sym _ _ W)) ⟨_,rfl,fun d hd=>by cases hd;rfl,hI,Below.refl _ _⟩
   ·intro L a W hLs hL hn hd hI hb hl
    obtain⟨ug,hg,eg⟩:=hl 61 (cM (by kernel_rfl))
    replace eg:ug=.bool true:=eg
    subst eg
    obtain⟨u64,h64,e64⟩:=hl 64 (cM (by kernel_rfl))
    replace e64:u64=.agg #[.string ⟨#[102]⟩,.int .i64 1]:=e64
    subst e64
    obtain⟨u65,h65,e65⟩:=hl 65 (cM (by kernel_rfl))
    replace e65:u65=.agg #[.string ⟨#[102]⟩,.int .i64 1]:=e65
    subst e65
    exact op_val rfl (wants_on rfl (by kernel_rfl) hg) (ex_bin rfl (eval_tmp h64) (eval_tmp h65) (guard_sym _ _ _ _ _ _ _) (eql46 _ _ _ _ W)) ⟨_,rfl,fun d hd=>by cases hd;exact congrArg Value.bool (by kernel_rfl),hI,Below.refl _ _⟩
   ·intro L a W hLs hL hn hd hI hb hl
    obtain⟨u61,h61,e61⟩:=hl 61 (cM (by kernel_rfl))
    replace e61:u61=.bool true:=e61
    subst e61
    obtain⟨u66,h66,e66⟩:=hl 66 (cM (by kernel_rfl))
    replace e66:u66=.bool true:=e66
    subst e66
    exact op_val rfl rfl (ex_pick rfl (eval_tmp h61) (eval_tmp h66)) ⟨_,rfl,fun d hd=>by cases hd;rfl,hI,Below.refl _ _⟩
   ·intro L a W hLs hL hn hd hI hb hl
    obtain⟨u67,h67,e67⟩:=hl 67 (cM (by kernel_rfl))
    replace e67:u67=.bool true:=e67
    subst e67
    exact op_val rfl rfl (ex_move rfl (eval_tmp h67)) ⟨_,rfl,fun d hd=>by cases hd;rfl,hI,Below.refl _ _⟩
   ·intro L a W hLs hL hn hd hI hb hl
    obtain⟨ug,hg,eg⟩:=hl 68 (cM (by kernel_rfl))
    replace eg:ug=.bool true:=eg
    subst eg
    refine op_call rfl (wants_on rfl (by kernel_rfl) hg) (ex_call1 (enters_of Tryz.func40 (by kernel_rfl) rfl) rfl rfl) ((var_x10 W).mono ?_)
    rintro e W' ⟨rfl,hb'⟩
    exact⟨_,rfl,_,rfl,fun d hd=>by cases hd;rfl,bS hI hb',hb'⟩
   ·intro L a W hLs hL hn hd hI hb hl
    obtain⟨u68,h68,e68⟩:=hl 68 (cM (by kernel_rfl))
    replace e68:u68=.bool true:=e68
    subst e68
    obtain⟨u69,h69,e69⟩:=hl 69 (cM (by kernel_rfl))
    replace e69:u69=.bool true:=e69
    subst e69
    exact op_val rfl rfl (ex_pick rfl (eval_tmp h68) (eval_tmp h69)) ⟨_,rfl,fun d hd=>by cases hd;rfl,hI,Below.refl _ _⟩
   ·intro L a W hLs hL hn hd hI hb hl
    obtain⟨u70,h70,e70⟩:=hl 70 (cM (by kernel_rfl))
    replace e70:u70=.bool true:=e70
    subst e70
    exact op_val rfl rfl (ex_move rfl (eval_tmp h70)) ⟨_,rfl,fun d hd=>by cases hd;rfl,hI,Below.refl _ _⟩
   ·intro L a W hLs hL hn hd hI hb hl
    obtain⟨ug,hg,eg⟩:=hl 71 (cM (by kernel_rfl))
    replace eg:ug=.bool true:=eg
    subst eg
    refine op_call rfl (wants_on rfl (by kernel_rfl) hg) (ex_call1 (enters_of Tryz.func40 (by kernel_rfl) rfl) rfl rfl) ((var_xy W).mono ?_)
    rintro e W' ⟨rfl,hb'⟩
    exact⟨_,rfl,_,rfl,fun d hd=>by cases hd;rfl,bS hI hb',hb'⟩
   ·intro L a W hLs hL hn hd hI hb hl
    obtain⟨ug,hg,eg⟩:=hl 71 (cM (by kernel_rfl))
    replace eg:ug=.bool true:=eg
    subst eg
    obtain⟨u72,h72,e72⟩:=hl 72 (cM (by kernel_rfl))
    replace e72:u72=.bool false:=e72
    subst e72
    exact op_val rfl (wants_on rfl (by kernel_rfl) hg) (ex_not rfl (eval_tmp h72)) ⟨_,rfl,fun d hd=>by cases hd;rfl,hI,Below.refl _ _⟩
   ·intro L a W hLs hL hn hd hI hb hl
    obtain⟨u71,h71,e71⟩:=hl 71 (cM (by kernel_rfl))
    replace e71:u71=.bool true:=e71
    subst e71
    obtain⟨u73,h73,e73⟩:=hl 73 (cM (by kernel_rfl))
    replace e73:u73=.bool true:=e73
    subst e73
    exact op_val rfl rfl (ex_pick rfl (eval_tmp h71) (eval_tmp h73)) ⟨_,rfl,fun d hd=>by cases hd;rfl,hI,Below.refl _ _⟩
   ·intro L a W hLs hL hn hd hI hb hl
    obtain⟨u74,h74,e74⟩:=hl 74 (cM (by kernel_rfl))
    replace e74:u74=.bool true:=e74
    subst e74
    exact op_val rfl rfl (ex_move rfl (eval_tmp h74)) ⟨_,rfl,fun d hd=>by cases hd;rfl,hI,Below.refl _ _⟩
   ·intro L a W hLs hL hn hd hI hb hl
    obtain⟨ug,hg,eg⟩:=hl 75 (cM (by kernel_rfl))
    replace eg:ug=.bool true:=eg
    subst eg
    refine op_call rfl (wants_on rfl (by kernel_rfl) hg) (ex_call1 (enters_of Tryz.func41 (by kernel_rfl) rfl) rfl rfl) ((fun_next1 W).mono ?_)
    rintro e W' ⟨rfl,hb'⟩
    exact⟨_,rfl,_,rfl,fun d hd=>by cases hd;rfl,bS hI hb',hb'⟩
   ·intro L a W hLs hL hn hd hI hb hl
    obtain⟨u75,h75,e75⟩:=hl 75 (cM (by kernel_rfl))
    replace e75:u75=.bool true:=e75
    subst e75
    obtain⟨u76,h76,e76⟩:=hl 76 (cM (by kernel_rfl))
    replace e76:u76=.bool true:=e76
    subst e76
    exact op_val rfl rfl (ex_pick rfl (eval_tmp h75) (eval_tmp h76)) ⟨_,rfl,fun d hd=>by cases hd;rfl,hI,Below.refl _ _⟩
   ·intro L a W hLs hL hn hd hI hb hl
    obtain⟨u77,h77,e77⟩:=hl 77 (cM (by kernel_rfl))
    replace e77:u77=.bool true:=e77
    subst e77
    exact op_val rfl rfl (ex_move rfl (eval_tmp h77)) ⟨_,rfl,fun d hd=>by cases hd;rfl,hI,Below.refl _ _⟩
   ·intro L a W hLs hL hn hd hI hb hl
    obtain⟨ug,hg,eg⟩:=hl 78 (cM (by kernel_rfl))
    replace eg:ug=.bool true:=eg
    subst eg
    refine op_call rfl (wants_on rfl (by kernel_rfl) hg) (ex_call1 (enters_of Tryz.func41 (by kernel_rfl) rfl) rfl rfl) ((fun_all W).mono ?_)
    rintro e W' ⟨rfl,hb'⟩
    exact⟨_,rfl,_,rfl,fun d hd=>by cases hd;rfl,bS hI hb',hb'⟩
   ·intro L a W hLs hL hn hd hI hb hl
    obtain⟨ug,hg,eg⟩:=hl 78 (cM (by kernel_rfl))
    replace eg:ug=.bool true:=eg
    subst eg
    obtain⟨u79,h79,e79⟩:=hl 79 (cM (by kernel_rfl))
    replace e79:u79=.bool false:=e79
    subst e79
    exact op_val rfl (wants_on rfl (by kernel_rfl) hg) (ex_not rfl (eval_tmp h79)) ⟨_,rfl,fun d hd=>by cases hd;rfl,hI,Below.refl _ _⟩
   ·intro L a W hLs hL hn hd hI hb hl
    obtain⟨u78,h78,e78⟩:=hl 78 (cM (by kernel_rfl))
    replace e78:u78=.bool true:=e78
    subst e78
    obtain⟨u80,h80,e80⟩:=hl 80 (cM (by kernel_rfl))
    replace e80:u80=.bool true:=e80
    subst e80
    exact op_val rfl rfl (ex_pick rfl (eval_tmp h78) (eval_tmp h80)) ⟨_,rfl,fun d hd=>by cases hd;rfl,hI,Below.refl _ _⟩
   ·intro L a W hLs hL hn hd hI hb hl
    obtain⟨u81,h81,e81⟩:=hl 81 (cM (by kernel_rfl))
    replace e81:u81=.bool true:=e81
    subst e81
    exact op_val rfl rfl (ex_move rfl (eval_tmp h81)) ⟨_,rfl,fun d hd=>by cases hd;rfl,hI,Below.refl _ _⟩
   ·intro L a W hLs hL hn hd hI hb hl
    obtain⟨ug,hg,eg⟩:=hl 82 (cM (by kernel_rfl))
    replace eg:ug=.bool true:=eg
    subst eg
    refine op_call rfl (wants_on rfl (by kernel_rfl) hg) (ex_call1 (enters_of Tryz.func42 (by kernel_rfl) rfl) rfl rfl) ((meta_t W).mono ?_)
    rintro e W' ⟨rfl,hb'⟩
    exact⟨_,rfl,_,rfl,fun d hd=>by cases hd;rfl,bS hI hb',hb'⟩
   ·intro L a W hLs hL hn hd hI hb hl
    obtain⟨u82,h82,e82⟩:=hl 82 (cM (by kernel_rfl))
    replace e82:u82=.bool true:=e82
    subst e82
    obtain⟨u83,h83,e83⟩:=hl 83 (cM (by kernel_rfl))
    replace e83:u83=.bool true:=e83
    subst e83
    exact op_val rfl rfl (ex_pick rfl (eval_tmp h82) (eval_tmp h83)) ⟨_,rfl,fun d hd=>by cases hd;rfl,hI,Below.refl _ _⟩
   ·intro L a W hLs hL hn hd hI hb hl
    obtain⟨u84,h84,e84⟩:=hl 84 (cM (by kernel_rfl))
    replace e84:u84=.bool true:=e84
    subst e84
    exact op_val rfl rfl (ex_move rfl (eval_tmp h84)) ⟨_,rfl,fun d hd=>by cases hd;rfl,hI,Below.refl _ _⟩
   ·intro L a W hLs hL hn hd hI hb hl
    obtain⟨ug,hg,eg⟩:=hl 85 (cM (by kernel_rfl))
    replace eg:ug=.bool true:=eg
    subst eg
    refine op_call rfl (wants_on rfl (by kernel_rfl) hg) (ex_call1 (enters_of Tryz.func42 (by kernel_rfl) rfl) rfl rfl) ((meta_u W).mono ?_)
    rintro e W' ⟨rfl,hb'⟩
    exact⟨_,rfl,_,rfl,fun d hd=>by cases hd;rfl,bS hI hb',hb'⟩
   ·intro L a W hLs hL hn hd hI hb hl
    obtain⟨ug,hg,eg⟩:=hl 85 (cM (by kernel_rfl))
    replace eg:ug=.bool true:=eg
    subst eg
    obtain⟨u86,h86,e86⟩:=hl 86 (cM (by kernel_rfl))
    replace e86:u86=.bool false:=e86
    subst e86
    exact op_val rfl (wants_on rfl (by kernel_rfl) hg) (ex_not rfl (eval_tmp h86)) ⟨_,rfl,fun d hd=>by cases hd;rfl,hI,Below.refl _ _⟩
   ·intro L a W hLs hL hn hd hI hb hl
    obtain⟨u85,h85,e85⟩:=hl 85 (cM (by kernel_rfl))
    replace e85:u85=.bool true:=e85
    subst e85
    obtain⟨u87,h87,e87⟩:=hl 87 (cM (by kernel_rfl))
    replace e87:u87=.bool true:=e87
    subst e87
    exact op_val rfl rfl (ex_pick rfl (eval_tmp h85) (eval_tmp h87)) ⟨_,rfl,fun d hd=>by cases hd;rfl,hI,Below.refl _ _⟩
   ·intro L a W hLs hL hn hd hI hb hl
    obtain⟨u88,h88,e88⟩:=hl 88 (cM (by kernel_rfl))
    replace e88:u88=.bool true:=e88
    subst e88
    exact op_val rfl rfl (ex_assign rfl (eval_tmp h88)) ⟨_,rfl,fun d hd=>by cases hd;rfl,hI,Below.refl _ _⟩
  case hend =>
   intro a6 W6 hH
   refine any_none (by kernel_rfl) ?_
   show Ky a6 W6
   obtain⟨u0,h0,e0⟩:=hH.made 72 0 (by kernel_rfl) (by kernel_rfl)
   replace e0:u0=.bool true:=e0
   subst e0
   have hI6:=hH.inv
   have hd6:=hH.defs
   rw[hd5] at hd6
   clear hH
   refine hKyh.out _ _ ?_
   go_wp2_with fail
   refine bodyPost_ret (v:=.bool true) ?_ hd6 ⟨rfl,bS hbw4 hI6⟩
   simp[results,Tryz.results7,go_sem,h0]
end Go.Proofs.YtngdieldgnlogaaGreatDoor
