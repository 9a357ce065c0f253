/- placed: the parts at all places are those of a formula, and are listed. -/
import Derived.Test.YtngdieldgnlogaaDoorVL
import Derived.Test.YtngdieldgnlogaaDoorD4
namespace Go.Proofs.YtngdieldgnlogaaDoor
open Go Go.RowKit
set_option maxRecDepth 100000
set_option linter.unusedVariables false
/-- Whether one of the first k of a list is this one. -/
def anyK (L : Fs) (g : FT) (k : Nat) : Bool := (List.range k).any fun j => (L.get j).eqB g
theorem anyK_succ (L : Fs) (g : FT) (k : Nat) : anyK L g (k + 1) = (anyK L g k || (L.get k).eqB g) := by
  simp [anyK, List.range_succ, List.any_append]
def Listed (L : Fs) (g : FT) : Prop := ∀ h ∈ g.parts, ∃ k, k < L.len ∧ (L.get k).eqB h = true
theorem Listed.any {L : Fs} {g : FT} (h : Listed L g) : anyK L g L.len = true := by
  obtain ⟨k, hk, he⟩ := h g (by simp [FT.parts])
  exact List.any_eq_true.2 ⟨k, List.mem_range.2 hk, he⟩
theorem Fs.parts_get : ∀ (t : Fs) (k : Nat), k < t.len → ∀ h ∈ (t.get k).parts, h ∈ t.parts
  | .nil, k, hk => by simp [Fs.len] at hk
  | .cons op n ts sub r, 0, _ => by
    intro h hh
    simp only [Fs.get, FT.parts, List.mem_cons] at hh
    simp only [Fs.parts, List.mem_cons, List.mem_append]
    rcases hh with hh | hh
    · exact .inl hh
    · exact .inr (.inl hh)
  | .cons op n ts sub r, k + 1, hk => by
    intro h hh
    have := Fs.parts_get r k (by simp only [Fs.len] at hk; omega) h hh
    simp only [Fs.parts, List.mem_cons, List.mem_append]
    exact .inr (.inr this)
theorem Listed.get {L : Fs} {g : FT} (h : Listed L g) {k : Nat} (hk : k < g.sub.len) : Listed L (g.sub.get k) := fun x hx => h x (by
  simp only [FT.parts, List.mem_cons]
  exact .inr (Fs.parts_get g.sub k hk x hx))
theorem guard_sub (x y : Operand) (m n : Value) (w : World) : (eqGuard .sub 3 x y m n).run Tryd.prog w = .ok () w := rfl
theorem sub_left {left : Nat} (h : Hid (IntKind.i64.wrap ((left : Int) - 1) = ((left - 1 : Nat) : Int))) (w : World) : (binOp .sub 3 (.int .i64 (left : Int)) (.int .i64 1)).run Tryd.prog w = .ok (.int .i64 ((left - 1 : Nat) : Int)) w := by
  rw [← h.out]
  rfl
def Placed (left : Nat) : Prop := ∀ (f g : FT) (L : Fs) (pl : List Int) (vf vg vp vl : Value) (w : World), FVal w f vf → FVal w g vg → LSl w pl vp → FSl w L vl → f.part pl = some g → Listed L g →
  f.size ≤ 1000000 → g.size ≤ 1000000 → L.size ≤ 1000000 → pl.length + left ≤ 1000 →
  Calls Tryd.prog 22 #[vf, vg, vp, vl, .int .i64 left] w fun e w' => e = .returned (.bool true) ∧ Below w.heap.size w w'
set_option maxHeartbeats 8000000 in
theorem placed_step (left : Nat) (ih : ∀ m, m < left → Placed m) : Placed left := by
  intro f g L pl vf vg vp vl w hvf hvg hlp hfl hpt hli sf sg sL hpn
  have ihh := Lib.hid ih
  have hlih := Lib.hid hli
  have hpth := Lib.hid hpt
  have hlph := Lib.hid hlp
  have hflh := Lib.hid hfl
  obtain ⟨sa, ua, rfl, ha, hua⟩ := id hvf
  obtain ⟨sb, ub, rfl, hb, hub⟩ := id hvg
  obtain ⟨pa, ca, rfl, -⟩ := id ha
  obtain ⟨pb, cb, rfl, -⟩ := id hb
  obtain ⟨qa, da, rfl, -⟩ := id hua
  obtain ⟨qb, db, rfl, -⟩ := id hub
  obtain ⟨pp, cp, rfl, -⟩ := id hlp
  obtain ⟨plq, cl, rfl, -⟩ := id hfl
  have hLlen := Lib.hid L.len_le
  have hglen : Hid (g.sub.len ≤ 1000000) := Lib.hid (by have := g.sub.len_le; have : g.size = g.ts.size + g.sub.size + 1 := rfl; omega)
  clear ha hb hua hub ih hli hpt hlp hfl
  obtain ⟨W1, W2, hW1, hW2, s1, s2, k1, k2⟩ := in_boxes hvf hvg 25
  have k1h := Lib.hid k1
  have k2h := Lib.hid k2
  obtain ⟨b5, hb5⟩ : ∃ b, w.heap.size = b := ⟨_, rfl⟩
  have hb5h := Lib.hid hb5
  rw [hb5] at s1 s2 k1h k2h
  have s2h := Lib.hid s2
  clear k1 k2 hvf hvg
  have HA := Lib.hid (fun W (hB : Below W2.heap.size W2 W) => at_any f pl _ (.slice pp pl.length cp) W (k1h.out.next hB).val (LSl.below (bel_step k1h.out.2.2.2.2.1 hB) hlph.out) (by omega) sf)
  go_enter Tryd.func22, Tryd.ntmps22
  have hk := k1h.out
  obtain ⟨c0, c1, c2, c3, -⟩ := hk
  go_wp2_with fail
  clear hW1 hW2 hb5 s1 s2
  refine (HA.out _ (Below.refl _ _)).mono ?_
  rintro e w3 ⟨⟨v', er, rfl, hres⟩, hb3⟩
  rw [hpth.out] at hres
  obtain ⟨hown, rfl⟩ := hres
  obtain ⟨p1, n1, p2, n2, rfl⟩ := (hown.at).spelt
  have hval := Lib.hid hown.at
  have hb3h := Lib.hid hb3
  clear hown hb3 c0 c1 c2 c3
  go_wp2_with fail
  obtain ⟨W4, hW4⟩ : ∃ W4, w3.alloc (.cells #[.int .u8 g.op, .string g.n, .slice p1 g.ts.len n1, .slice p2 g.sub.len n2] 25) = W4 := ⟨_, rfl⟩
  have hk3 := FS.start (t := 25) hval.out
  have hb34 := bel_laid w3 (.cells #[.int .u8 g.op, .string g.n, .slice p1 g.ts.len n1, .slice p2 g.sub.len n2] 25)
  rw [hW4] at hk3 hb34 ⊢
  have h24 := Lib.hid (bel_step hb3h.out hb34)
  have k1h := Lib.hid (k1h.out.next h24.out)
  have k2h := Lib.hid (k2h.out.next h24.out)
  have k3h := Lib.hid hk3
  obtain ⟨b11, hb11⟩ : ∃ b, w3.heap.size = b := ⟨_, rfl⟩
  rw [hb11] at k3h ⊢
  clear hk3 hb34 hW4 hb11 HA
  go_loopw [13, 14] (fun s13 s14 wr => ∃ k : Nat, s13 = .bool (anyK L g k) ∧ s14 = .int .i64 (k : Int) ∧ k ≤ L.len ∧ Below W4.heap.size W4 wr) (fun _ s14 _ => L.len - (intOf s14).toNat)
  case atStart => exact ⟨0, rfl, rfl, Nat.zero_le _, Below.refl _ _⟩
  case round =>
    obtain ⟨k, rfl, rfl, hkl, hbw⟩ := hrel
    have hW4r := Lib.hid hbw
    clear hbw
    by_cases hke : k = L.len
    · subst hke
      rw [(hlih.out).any]
      have k3 := k3h.out.next hW4r.out
      have k2 := k2h.out.next hW4r.out
      have HS := Lib.hid (sameF_any g _ g _ wr k3.val k2.val sg sg)
      obtain ⟨x0, x1, x2, x3, -⟩ := k3
      obtain ⟨g0, g1, g2, g3, -⟩ := k2
      go_wp2_with fail
      refine HS.out.mono ?_
      rintro e w5 ⟨rfl, hb5'⟩
      rw [FT.eqB_refl]
      have h45 := Lib.hid (bel_step hW4r.out hb5')
      clear x0 x1 x2 x3 g0 g1 g2 g3 HS hb5'
      go_wp2_with fail
      go_loopw [15] (fun s15 wr => ∃ i : Nat, s15 = .int .i64 (i : Int) ∧ i ≤ g.sub.len ∧ Below W4.heap.size W4 wr) (fun s15 _ => g.sub.len - (intOf s15).toNat)
      case atStart => exact ⟨0, rfl, Nat.zero_le _, h45.out⟩
      case round =>
        obtain ⟨i, rfl, hil, hbr⟩ := hrel
        have h4r := Lib.hid hbr
        clear hbr
        have hk2 := k2h.out.next h4r.out
        have hk1 := k1h.out.next h4r.out
        obtain ⟨g0, g1, g2, g3, -⟩ := id hk2
        by_cases hin : i < g.sub.len ∧ 0 < left
        · have hi1 : (i : Int) < (g.sub.len : Int) := by omega
          have hl1 : (0 : Int) < (left : Int) := by omega
          go_wp2_with fail
          have hig := hin.1
          have hil2 := hin.2
          have hkw : IntKind.i64.wrap ((i : Int) + 1) = (i : Int) + 1 := IntWalk.i64_in _ (by have := hglen.out; omega)
          have hlf : Hid (IntKind.i64.wrap ((left : Int) - 1) = ((left - 1 : Nat) : Int)) := Lib.hid (by rw [IntWalk.i64_in _ (by omega)]; omega)
          have hpl6 : pl.length ≤ 1000000 := by omega
          have fv' := hk1.val
          obtain ⟨f0, f1, f2, f3, -⟩ := id hk1
          have gv' := hk2.val
          obtain ⟨_, _, he, -, hss⟩ := gv'
          simp at he
          obtain ⟨rfl, rfl⟩ := he
          obtain ⟨_, _, he, hss'⟩ := hss
          simp at he
          obtain ⟨rfl, rfl⟩ := he
          obtain ⟨bu, ou, hqb, hfs⟩ := hss'.resolve_left (by omega)
          subst hqb
          obtain ⟨l0, l1, ⟨ss, l2, ls⟩, ⟨st, l3, lt⟩⟩ := hfs.get hig
          have lv : FVal wr (g.sub.get i) (fval (g.sub.get i) ss st) := ⟨_, _, rfl, ls, lt⟩
          obtain ⟨ps, cs, rfl, -⟩ := ls
          obtain ⟨pt, ct, rfl, -⟩ := lt
          have sK : (g.sub.get i).size ≤ 1000000 := by have := Fs.get_size g.sub i hig; have : g.size = g.ts.size + g.sub.size + 1 := rfl; omega
          have hpart' : f.part (pl ++ [(i : Int)]) = some (g.sub.get i) := FT.part_snoc hpth.out hig
          have hwr0 : Below w.heap.size w wr := bel_step k1h.out.2.2.2.2.1 h4r.out
          have lpl : LSl wr pl (.slice pp pl.length cp) := LSl.below hwr0 hlph.out
          have lL : FSl wr L (.slice plq L.len cl) := FSl.below hwr0 hflh.out
          obtain ⟨i0, hi, hz0, hz1, hz2⟩ := info_parts infoI3
          clear hin hss'
          refine wp_region_run (by kernel_rfl) 94 [62, 63, 64, 65, 66, 67, 68, 69, 70, 71, 72, 73, 74, 75, 76, 77, 78] (fun l gv W => JV wr [(0, 62, .agg #[.int .u8 f.op, .string f.n, .slice pa f.ts.len ca, .slice qa f.sub.len da]), (1, 63, .pointer (some ⟨b5 + 1, 3, none⟩)), (2, 64, .slice (some ⟨bu, ou, none⟩) g.sub.len db), (3, 65, .int .i64 (i : Int)), (4, 66, .pointer (some ⟨bu, ou + i * 4, none⟩)), (5, 67, fval (g.sub.get i) (.slice ps (g.sub.get i).ts.len cs) (.slice pt (g.sub.get i).sub.len ct)), (7, 69, .slice pp pl.length cp), (9, 71, .int .i64 (i : Int)), (12, 74, .slice plq L.len cl), (13, 75, .int .i64 (left : Int)), (14, 76, .int .i64 ((left - 1 : Nat) : Int)), (15, 77, .bool true), (16, 78, .bool false)] l gv W ∧ JL wr.heap.size pl (i : Int) 6 68 8 70 10 72 11 73 l gv W) (by kernel_rfl) rfl ⟨JV.start _ _, JL.start _ _⟩ ?hst ?hend
          case hst =>
            have hok : okV [(0, 62, .agg #[.int .u8 f.op, .string f.n, .slice pa f.ts.len ca, .slice qa f.sub.len da]), (1, 63, .pointer (some ⟨b5 + 1, 3, none⟩)), (2, 64, .slice (some ⟨bu, ou, none⟩) g.sub.len db), (3, 65, .int .i64 (i : Int)), (4, 66, .pointer (some ⟨bu, ou + i * 4, none⟩)), (5, 67, fval (g.sub.get i) (.slice ps (g.sub.get i).ts.len cs) (.slice pt (g.sub.get i).sub.len ct)), (7, 69, .slice pp pl.length cp), (9, 71, .int .i64 (i : Int)), (12, 74, .slice plq L.len cl), (13, 75, .int .i64 (left : Int)), (14, 76, .int .i64 ((left - 1 : Nat) : Int)), (15, 77, .bool true), (16, 78, .bool false)] = true := by kernel_rfl
            have hokL : okL 6 68 8 70 10 72 11 73 = true := by kernel_rfl
            refine ⟨?_, ?_, ?_, ?_, ?_, ?_, ?_, ?_, ?_, ?_, ?_, ?_, ?_, ?_, ?_, ?_, ?_, trivial⟩
            · rintro l gv W hun hdep hcl ⟨hJ, hL⟩ hg ha hp
              refine' op_val ?h1 ?hw1 ?hr1 ?hK1
              case h1 => rfl
              case hw1 => exact rfl
              case hr1 => exact (ex_load rfl (eval_tmp ((ha 5 (by kernel_rfl)).trans rfl)) (loadFo (cell_below hJ.low f0) (cell_below hJ.low f1) (cell_below hJ.low f2) (cell_below hJ.low f3)))
              case hK1 => exact ⟨_, hp 62 _ (by kernel_rfl), JV.same hok hJ (.head _), JL.other hL (by kernel_rfl) (Below.refl _ _)⟩
            · rintro l gv W hun hdep hcl ⟨hJ, hL⟩ hg ha hp
              refine' op_val ?h2 ?hw2 ?hr2 ?hK2
              case h2 => rfl
              case hw2 => exact rfl
              case hr2 => exact (ex_field rfl (eval_tmp ((ha 6 (by kernel_rfl)).trans rfl)) field25_3)
              case hK2 => exact ⟨_, hp 63 _ (by kernel_rfl), JV.same hok hJ (.tail _ (.head _)), JL.other hL (by kernel_rfl) (Below.refl _ _)⟩
            · rintro l gv W hun hdep hcl ⟨hJ, hL⟩ hg ha hp
              refine' op_val ?h3 ?hw3 ?hr3 ?hK3
              case h3 => rfl
              case hw3 => exact rfl
              case hr3 => exact (ex_load rfl ((eval_tmp (hg 63 (by kernel_rfl))).trans (hJ.lit _ (.tail _ (.head _)) (hdep 1 (by kernel_rfl)))) (loadFs (cell_below hJ.low g3)))
              case hK3 => exact ⟨_, hp 64 _ (by kernel_rfl), JV.same hok hJ (.tail _ (.tail _ (.head _))), JL.other hL (by kernel_rfl) (Below.refl _ _)⟩
            · rintro l gv W hun hdep hcl ⟨hJ, hL⟩ hg ha hp
              refine' op_val ?h4 ?hw4 ?hr4 ?hK4
              case h4 => rfl
              case hw4 => exact rfl
              case hr4 => exact (ex_move rfl (eval_tmp ((ha 15 (by kernel_rfl)).trans rfl)))
              case hK4 => exact ⟨_, hp 65 _ (by kernel_rfl), JV.same hok hJ (.tail _ (.tail _ (.tail _ (.head _)))), JL.other hL (by kernel_rfl) (Below.refl _ _)⟩
            · rintro l gv W hun hdep hcl ⟨hJ, hL⟩ hg ha hp
              refine' op_val ?h5 ?hw5 ?hr5 ?hK5
              case h5 => rfl
              case hw5 => exact rfl
              case hr5 => exact (ex_indexAddr rfl ((eval_tmp (hg 64 (by kernel_rfl))).trans (hJ.lit _ (.tail _ (.tail _ (.head _))) (hdep 2 (by kernel_rfl)))) ((eval_tmp (hg 65 (by kernel_rfl))).trans (hJ.lit _ (.tail _ (.tail _ (.tail _ (.head _)))) (hdep 3 (by kernel_rfl)))) (indexFs hig))
              case hK5 => exact ⟨_, hp 66 _ (by kernel_rfl), JV.same hok hJ (.tail _ (.tail _ (.tail _ (.tail _ (.head _))))), JL.other hL (by kernel_rfl) (Below.refl _ _)⟩
            · rintro l gv W hun hdep hcl ⟨hJ, hL⟩ hg ha hp
              refine' op_val ?h6 ?hw6 ?hr6 ?hK6
              case h6 => rfl
              case hw6 => exact rfl
              case hr6 => exact (ex_load rfl ((eval_tmp (hg 66 (by kernel_rfl))).trans (hJ.lit _ (.tail _ (.tail _ (.tail _ (.tail _ (.head _))))) (hdep 4 (by kernel_rfl)))) (loadFo (cell_below hJ.low l0) (cell_below hJ.low l1) (cell_below hJ.low l2) (cell_below hJ.low l3)))
              case hK6 => exact ⟨_, hp 67 _ (by kernel_rfl), JV.same hok hJ (.tail _ (.tail _ (.tail _ (.tail _ (.tail _ (.head _)))))), JL.other hL (by kernel_rfl) (Below.refl _ _)⟩
            · rintro l gv W hun hdep hcl ⟨hJ, hL⟩ hg ha hp
              have h2 : l 8 = false := off_of (fun h => hcl 8 6 h (by kernel_rfl)) hun
              refine' op_val ?h7 ?hw7 ?hr7 ?hK7
              case h7 => rfl
              case hw7 => exact rfl
              case hr7 => exact (ex_buildSlice0 rfl lay0)
              case hK7 => exact ⟨_, hp 68 _ (by kernel_rfl), JV.side hJ (by kernel_rfl) (bel_step hJ.low (bel_laid _ _)), JL.lay1 hokL hL hJ.low.size h2⟩
            · rintro l gv W hun hdep hcl ⟨hJ, hL⟩ hg ha hp
              refine' op_val ?h8 ?hw8 ?hr8 ?hK8
              case h8 => rfl
              case hw8 => exact rfl
              case hr8 => exact (ex_move rfl (eval_tmp ((ha 2 (by kernel_rfl)).trans rfl)))
              case hK8 => exact ⟨_, hp 69 _ (by kernel_rfl), JV.same hok hJ (.tail _ (.tail _ (.tail _ (.tail _ (.tail _ (.tail _ (.head _))))))), JL.other hL (by kernel_rfl) (Below.refl _ _)⟩
            · rintro l gv W hun hdep hcl ⟨hJ, hL⟩ hg ha hp
              have h4 : l 11 = false := off_of (fun h => hcl 11 8 h (by kernel_rfl)) hun
              have hown := hL.e1 (hdep 6 (by kernel_rfl)) hun
              obtain ⟨v9, W9, hr, hown9, hg9, hat9⟩ := run_app_ints 26 hown (LSl.below hJ.low lpl) hpl6 hJ.low.size
              refine' op_val ?h9 ?hw9 ?hr9 ?hK9
              case h9 => rfl
              case hw9 => exact rfl
              case hr9 => exact (ex_append rfl (eval_tmp (hg 68 (by kernel_rfl))) ((eval_tmp (hg 69 (by kernel_rfl))).trans (hJ.lit _ (.tail _ (.tail _ (.tail _ (.tail _ (.tail _ (.tail _ (.head _))))))) (hdep 7 (by kernel_rfl)))) hr)
              case hK9 => exact ⟨_, hp 70 _ (by kernel_rfl), JV.side hJ (by kernel_rfl) (hJ.low.grown hg9 hJ.low.size (fun k e => (hown.lt k e).1)), JL.app1 hokL hL (hdep 6 (by kernel_rfl)) hun h4 hown9 hg9 hat9⟩
            · rintro l gv W hun hdep hcl ⟨hJ, hL⟩ hg ha hp
              refine' op_val ?h10 ?hw10 ?hr10 ?hK10
              case h10 => rfl
              case hw10 => exact rfl
              case hr10 => exact (ex_move rfl (eval_tmp ((ha 15 (by kernel_rfl)).trans rfl)))
              case hK10 => exact ⟨_, hp 71 _ (by kernel_rfl), JV.same hok hJ (.tail _ (.tail _ (.tail _ (.tail _ (.tail _ (.tail _ (.tail _ (.head _)))))))), JL.other hL (by kernel_rfl) (Below.refl _ _)⟩
            · rintro l gv W hun hdep hcl ⟨hJ, hL⟩ hg ha hp
              have h4 : l 11 = false := off_of (fun h => hcl 11 10 h (by kernel_rfl)) hun
              refine' op_val ?h11 ?hw11 ?hr11 ?hK11
              case h11 => rfl
              case hw11 => exact rfl
              case hr11 => exact (ex_buildSlice rfl ((eval_tmp (hg 71 (by kernel_rfl))).trans (hJ.lit _ (.tail _ (.tail _ (.tail _ (.tail _ (.tail _ (.tail _ (.tail _ (.head _)))))))) (hdep 9 (by kernel_rfl)))) layI)
              case hK11 => exact ⟨_, hp 72 _ (by kernel_rfl), JV.side hJ (by kernel_rfl) (bel_step hJ.low (bel_laid _ _)), JL.lay2 hokL hL h4⟩
            · rintro l gv W hun hdep hcl ⟨hJ, hL⟩ hg ha hp
              have hown := hL.e2 (hdep 8 (by kernel_rfl)) hun
              obtain ⟨bn, e72, hbn, hc, -, -⟩ := hL.e3 (hdep 10 (by kernel_rfl)) hun
              refine' wpOp_step ?hA73 (fun K' hK => ?_)
              case hA73 => rfl
              refine step_append_lies _ rfl (.tmp 70) (.tmp 72) _ rfl wr.heap.size 3 i0 _ 1 8 Tryd.underlying26 hi hz0 hz1 hz2 rfl (by omega) (gv 70) pl.length (intsL pl) (eval_tmp (hg 70 (by kernel_rfl))) hown
                ⟨bn, 0, none⟩ 1 1 [.int .i64 (i : Int)] ((eval_tmp (hg 72 (by kernel_rfl))).trans e72) rfl (fun j u hu => by
                  match j, hu with
                  | 0, hu => simp at hu; subst hu; exact hc) (by intro y hy; simp at hy; subst hy; rfl) (by omega) (by unfold maxLen; omega) (by omega) hJ.low.size W.heap.size rfl ?_
              intro gg cap wq hown1 hgrow hat hlt
              have hls : LSl wq (pl ++ [(i : Int)]) (.slice (some ⟨gg, 0, none⟩) (pl.length + 1) cap) := rowL (z := wr.heap.size) (by rw [ints_snoc, List.length_append, List.length_singleton]; exact hown1)
              exact hK _ _ ⟨_, hp 73 _ (by kernel_rfl), JV.side hJ (by kernel_rfl) (hJ.low.grown hgrow hJ.low.size (fun k e => (hown.lt k e).1)), JL.app2 hokL hL (hdep 8 (by kernel_rfl)) hls⟩
            · rintro l gv W hun hdep hcl ⟨hJ, hL⟩ hg ha hp
              refine' op_val ?h12 ?hw12 ?hr12 ?hK12
              case h12 => rfl
              case hw12 => exact rfl
              case hr12 => exact (ex_move rfl (eval_tmp ((ha 3 (by kernel_rfl)).trans rfl)))
              case hK12 => exact ⟨_, hp 74 _ (by kernel_rfl), JV.same hok hJ (.tail _ (.tail _ (.tail _ (.tail _ (.tail _ (.tail _ (.tail _ (.tail _ (.head _))))))))), JL.other hL (by kernel_rfl) (Below.refl _ _)⟩
            · rintro l gv W hun hdep hcl ⟨hJ, hL⟩ hg ha hp
              refine' op_val ?h13 ?hw13 ?hr13 ?hK13
              case h13 => rfl
              case hw13 => exact rfl
              case hr13 => exact (ex_move rfl (eval_tmp ((ha 4 (by kernel_rfl)).trans rfl)))
              case hK13 => exact ⟨_, hp 75 _ (by kernel_rfl), JV.same hok hJ (.tail _ (.tail _ (.tail _ (.tail _ (.tail _ (.tail _ (.tail _ (.tail _ (.tail _ (.head _)))))))))), JL.other hL (by kernel_rfl) (Below.refl _ _)⟩
            · rintro l gv W hun hdep hcl ⟨hJ, hL⟩ hg ha hp
              refine' op_val ?h14 ?hw14 ?hr14 ?hK14
              case h14 => rfl
              case hw14 => exact rfl
              case hr14 => exact (ex_bin rfl ((eval_tmp (hg 75 (by kernel_rfl))).trans (hJ.lit _ (.tail _ (.tail _ (.tail _ (.tail _ (.tail _ (.tail _ (.tail _ (.tail _ (.tail _ (.head _)))))))))) (hdep 13 (by kernel_rfl)))) rfl (guard_sub _ _ _ _ W) (sub_left hlf W))
              case hK14 => exact ⟨_, hp 76 _ (by kernel_rfl), JV.same hok hJ (.tail _ (.tail _ (.tail _ (.tail _ (.tail _ (.tail _ (.tail _ (.tail _ (.tail _ (.tail _ (.head _))))))))))), JL.other hL (by kernel_rfl) (Below.refl _ _)⟩
            · rintro l gv W hun hdep hcl ⟨hJ, hL⟩ hg ha hp
              refine' op_call ?h15 ?hw15 ?hr15 ?hc15
              case h15 => rfl
              case hw15 => exact rfl
              case hr15 => exact (ex_call5 (enters_of Tryd.func22 (by kernel_rfl) rfl) rfl ((eval_tmp (hg 62 (by kernel_rfl))).trans (hJ.lit _ (.head _) (hdep 0 (by kernel_rfl)))) ((eval_tmp (hg 67 (by kernel_rfl))).trans (hJ.lit _ (.tail _ (.tail _ (.tail _ (.tail _ (.tail _ (.head _)))))) (hdep 5 (by kernel_rfl)))) (eval_tmp (hg 73 (by kernel_rfl))) ((eval_tmp (hg 74 (by kernel_rfl))).trans (hJ.lit _ (.tail _ (.tail _ (.tail _ (.tail _ (.tail _ (.tail _ (.tail _ (.tail _ (.head _))))))))) (hdep 12 (by kernel_rfl)))) ((eval_tmp (hg 76 (by kernel_rfl))).trans (hJ.lit _ (.tail _ (.tail _ (.tail _ (.tail _ (.tail _ (.tail _ (.tail _ (.tail _ (.tail _ (.tail _ (.head _))))))))))) (hdep 14 (by kernel_rfl)))))
              refine ((ihh.out (left - 1) (by omega) f (g.sub.get i) L (pl ++ [(i : Int)]) _ _ _ _ W (FVal.below hJ.low fv') (FVal.below hJ.low lv) (hL.e4 (hdep 11 (by kernel_rfl))) (FSl.below hJ.low lL) hpart' (hlih.out.get hig) sf sK sL (by rw [List.length_append, List.length_singleton]; omega)).mono ?_)
              rintro e W' ⟨rfl, hb⟩
              exact ⟨_, rfl, _, hp 77 _ (by kernel_rfl), JV.made hok hJ (.tail _ (.tail _ (.tail _ (.tail _ (.tail _ (.tail _ (.tail _ (.tail _ (.tail _ (.tail _ (.tail _ (.head _)))))))))))) (bel_step hJ.low hb), JL.other hL (by kernel_rfl) hb⟩
            · rintro l gv W hun hdep hcl ⟨hJ, hL⟩ hg ha hp
              refine' op_val ?h16 ?hw16 ?hr16 ?hK16
              case h16 => rfl
              case hw16 => exact rfl
              case hr16 => exact (ex_not rfl ((eval_tmp (hg 77 (by kernel_rfl))).trans (hJ.lit _ (.tail _ (.tail _ (.tail _ (.tail _ (.tail _ (.tail _ (.tail _ (.tail _ (.tail _ (.tail _ (.tail _ (.head _)))))))))))) (hdep 15 (by kernel_rfl)))))
              case hK16 => exact ⟨_, hp 78 _ (by kernel_rfl), JV.same hok hJ (.tail _ (.tail _ (.tail _ (.tail _ (.tail _ (.tail _ (.tail _ (.tail _ (.tail _ (.tail _ (.tail _ (.tail _ (.head _))))))))))))), JL.other hL (by kernel_rfl) (Below.refl _ _)⟩
          case hend =>
            rintro ll gv W9 hl ⟨hJ, -⟩
            have e62 := hJ.lit _ (.head _) (hl 0 (of_decide_eq_true (by kernel_rfl)))
            have e63 := hJ.lit _ (.tail _ (.head _)) (hl 1 (of_decide_eq_true (by kernel_rfl)))
            have e64 := hJ.lit _ (.tail _ (.tail _ (.head _))) (hl 2 (of_decide_eq_true (by kernel_rfl)))
            have e65 := hJ.lit _ (.tail _ (.tail _ (.tail _ (.head _)))) (hl 3 (of_decide_eq_true (by kernel_rfl)))
            have e66 := hJ.lit _ (.tail _ (.tail _ (.tail _ (.tail _ (.head _))))) (hl 4 (of_decide_eq_true (by kernel_rfl)))
            have e67 := hJ.lit _ (.tail _ (.tail _ (.tail _ (.tail _ (.tail _ (.head _)))))) (hl 5 (of_decide_eq_true (by kernel_rfl)))
            have e69 := hJ.lit _ (.tail _ (.tail _ (.tail _ (.tail _ (.tail _ (.tail _ (.head _))))))) (hl 7 (of_decide_eq_true (by kernel_rfl)))
            have e71 := hJ.lit _ (.tail _ (.tail _ (.tail _ (.tail _ (.tail _ (.tail _ (.tail _ (.head _)))))))) (hl 9 (of_decide_eq_true (by kernel_rfl)))
            have e74 := hJ.lit _ (.tail _ (.tail _ (.tail _ (.tail _ (.tail _ (.tail _ (.tail _ (.tail _ (.head _))))))))) (hl 12 (of_decide_eq_true (by kernel_rfl)))
            have e75 := hJ.lit _ (.tail _ (.tail _ (.tail _ (.tail _ (.tail _ (.tail _ (.tail _ (.tail _ (.tail _ (.head _)))))))))) (hl 13 (of_decide_eq_true (by kernel_rfl)))
            have e76 := hJ.lit _ (.tail _ (.tail _ (.tail _ (.tail _ (.tail _ (.tail _ (.tail _ (.tail _ (.tail _ (.tail _ (.head _))))))))))) (hl 14 (of_decide_eq_true (by kernel_rfl)))
            have e77 := hJ.lit _ (.tail _ (.tail _ (.tail _ (.tail _ (.tail _ (.tail _ (.tail _ (.tail _ (.tail _ (.tail _ (.tail _ (.head _)))))))))))) (hl 15 (of_decide_eq_true (by kernel_rfl)))
            have e78 := hJ.lit _ (.tail _ (.tail _ (.tail _ (.tail _ (.tail _ (.tail _ (.tail _ (.tail _ (.tail _ (.tail _ (.tail _ (.tail _ (.head _))))))))))))) (hl 16 (of_decide_eq_true (by kernel_rfl)))
            simp only at e62 e63 e64 e65 e66 e67 e69 e71 e74 e75 e76 e77 e78
            simp only [zipV, List.map_cons, List.map_nil, puts, Act.put, List.setIfInBounds_toArray, List.set_cons_succ, List.set_cons_zero, e62, e63, e64, e65, e66, e67, e69, e71, e74, e75, e76, e77, e78]
            have hlow := Lib.hid hJ.low
            clear e62 e63 e64 e65 e66 e67 e69 e71 e74 e75 e76 e77 e78 hJ hl
            obtain ⟨u68, hu68⟩ : ∃ u, gv 68 = u := ⟨_, rfl⟩
            rw [hu68]
            obtain ⟨u70, hu70⟩ : ∃ u, gv 70 = u := ⟨_, rfl⟩
            rw [hu70]
            obtain ⟨u72, hu72⟩ : ∃ u, gv 72 = u := ⟨_, rfl⟩
            rw [hu72]
            obtain ⟨u73, hu73⟩ : ∃ u, gv 73 = u := ⟨_, rfl⟩
            rw [hu73]
            clear hu68 hu70 hu72 hu73
            go_wp2_with fail
            go_roundw
            case rel => exact ⟨i + 1, by congr 1, by omega, bel_step h4r.out hlow.out⟩
            case measure => simp [intOf]; omega
        · by_cases hi2 : i < g.sub.len
          · have hi1 : (i : Int) < (g.sub.len : Int) := by omega
            have hl1 : ¬ (0 : Int) < (left : Int) := by omega
            go_wp2_with fail
            have hpl6 : pl.length ≤ 1000000 := by omega
            have fv' := hk1.val
            obtain ⟨f0, f1, f2, f3, -⟩ := id hk1
            have hnone : f.part (pl ++ [(g.sub.len : Int)]) = none := by
              rw [FT.part_app, hpth.out]
              show g.part [(g.sub.len : Int)] = none
              rw [FT.part, if_neg (by omega)]
            have hwr0 : Below w.heap.size w wr := bel_step k1h.out.2.2.2.2.1 h4r.out
            have lpl : LSl wr pl (.slice pp pl.length cp) := LSl.below hwr0 hlph.out
            have lL : FSl wr L (.slice plq L.len cl) := FSl.below hwr0 hflh.out
            obtain ⟨i0, hi, hz0, hz1, hz2⟩ := info_parts infoI3
            refine wp_region_run (by kernel_rfl) 94 [80, 81, 82, 83, 84, 85, 86, 87, 88, 89, 79, 90, 91, 16, 17] (fun l gv W => JV wr [(0, 80, .agg #[.int .u8 f.op, .string f.n, .slice pa f.ts.len ca, .slice qa f.sub.len da]), (2, 82, .slice pp pl.length cp), (4, 84, .pointer (some ⟨b5 + 1, 3, none⟩)), (5, 85, .slice qb g.sub.len db), (6, 86, .int .i64 (g.sub.len : Int)), (9, 89, .tuple #[fval ⟨0, ⟨#[]⟩, .nil, .nil⟩ (.slice none 0 0) (.slice none 0 0), .int .i64 6]), (10, 79, .tuple #[fval ⟨0, ⟨#[]⟩, .nil, .nil⟩ (.slice none 0 0) (.slice none 0 0), .int .i64 6]), (11, 90, fval ⟨0, ⟨#[]⟩, .nil, .nil⟩ (.slice none 0 0) (.slice none 0 0)), (12, 91, .int .i64 6), (15, 17, .int .i64 6)] l gv W ∧ (l 14 = false → JL wr.heap.size pl (g.sub.len : Int) 1 81 3 83 7 87 8 88 l gv W) ∧ AL wr.heap.size 13 16 14 1 81 3 83 l gv W ∧ BL 3 83 l gv W) (by kernel_rfl) rfl ⟨JV.start _ _, fun _ => JL.start _ _, AL.start _ _, BL.start _ _⟩ ?hst ?hend
            case hst =>
              have hok : okV [(0, 80, .agg #[.int .u8 f.op, .string f.n, .slice pa f.ts.len ca, .slice qa f.sub.len da]), (2, 82, .slice pp pl.length cp), (4, 84, .pointer (some ⟨b5 + 1, 3, none⟩)), (5, 85, .slice qb g.sub.len db), (6, 86, .int .i64 (g.sub.len : Int)), (9, 89, .tuple #[fval ⟨0, ⟨#[]⟩, .nil, .nil⟩ (.slice none 0 0) (.slice none 0 0), .int .i64 6]), (10, 79, .tuple #[fval ⟨0, ⟨#[]⟩, .nil, .nil⟩ (.slice none 0 0) (.slice none 0 0), .int .i64 6]), (11, 90, fval ⟨0, ⟨#[]⟩, .nil, .nil⟩ (.slice none 0 0) (.slice none 0 0)), (12, 91, .int .i64 6), (15, 17, .int .i64 6)] = true := by kernel_rfl
              have hokL : okL 1 81 3 83 7 87 8 88 = true := by kernel_rfl
              have hokA : okAL 13 16 14 1 81 3 83 = true := by kernel_rfl
              refine ⟨?_, ?_, ?_, ?_, ?_, ?_, ?_, ?_, ?_, ?_, ?_, ?_, ?_, ?_, ?_, ?_, trivial⟩
              · rintro l gv W hun hdep hcl ⟨hJ, hL0, hA, hB⟩ hg ha hp
                refine' op_val ?h17 ?hw17 ?hr17 ?hK17
                case h17 => rfl
                case hw17 => exact rfl
                case hr17 => exact (ex_load rfl (eval_tmp ((ha 5 (by kernel_rfl)).trans rfl)) (loadFo (cell_below hJ.low f0) (cell_below hJ.low f1) (cell_below hJ.low f2) (cell_below hJ.low f3)))
                case hK17 => exact ⟨_, hp 80 _ (by kernel_rfl), JV.same hok hJ (.head _), fun h => JL.other (hL0 h) (by kernel_rfl) (Below.refl _ _), hA.other (by kernel_rfl) (Below.refl _ _), hB.other (by kernel_rfl) (Nat.le_refl _)⟩
              · rintro l gv W hun hdep hcl ⟨hJ, hL0, hA, hB⟩ hg ha hp
                have hS : l 14 = false := off_of (fun h => hcl 14 1 h (by kernel_rfl)) hun
                have hL := hL0 hS
                have h2 : l 3 = false := off_of (fun h => hcl 3 1 h (by kernel_rfl)) hun
                refine' op_val ?h18 ?hw18 ?hr18 ?hK18
                case h18 => rfl
                case hw18 => exact rfl
                case hr18 => exact (ex_buildSlice0 rfl lay0)
                case hK18 => exact ⟨_, hp 81 _ (by kernel_rfl), JV.side hJ (by kernel_rfl) (bel_step hJ.low (bel_laid _ _)), fun _ => JL.lay1 hokL hL hJ.low.size h2, hA.lay1 hokA h2, hB.other (by kernel_rfl) (bel_laid _ _).size⟩
              · rintro l gv W hun hdep hcl ⟨hJ, hL0, hA, hB⟩ hg ha hp
                refine' op_val ?h19 ?hw19 ?hr19 ?hK19
                case h19 => rfl
                case hw19 => exact rfl
                case hr19 => exact (ex_move rfl (eval_tmp ((ha 2 (by kernel_rfl)).trans rfl)))
                case hK19 => exact ⟨_, hp 82 _ (by kernel_rfl), JV.same hok hJ (.tail _ (.head _)), fun h => JL.other (hL0 h) (by kernel_rfl) (Below.refl _ _), hA.other (by kernel_rfl) (Below.refl _ _), hB.other (by kernel_rfl) (Nat.le_refl _)⟩
              · rintro l gv W hun hdep hcl ⟨hJ, hL0, hA, hB⟩ hg ha hp
                have hS : l 14 = false := off_of (fun h => hcl 14 3 h (by kernel_rfl)) hun
                have hL := hL0 hS
                have h4 : l 8 = false := off_of (fun h => hcl 8 3 h (by kernel_rfl)) hun
                have hown := hL.e1 (hdep 1 (by kernel_rfl)) hun
                obtain ⟨v9, W9, hr, hown9, hg9, hat9⟩ := run_app_ints 26 hown (LSl.below hJ.low lpl) hpl6 hJ.low.size
                refine' op_val ?h20 ?hw20 ?hr20 ?hK20
                case h20 => rfl
                case hw20 => exact rfl
                case hr20 => exact (ex_append rfl (eval_tmp (hg 81 (by kernel_rfl))) ((eval_tmp (hg 82 (by kernel_rfl))).trans (hJ.lit _ (.tail _ (.head _)) (hdep 2 (by kernel_rfl)))) hr)
                case hK20 => exact ⟨_, hp 83 _ (by kernel_rfl), JV.side hJ (by kernel_rfl) (hJ.low.grown hg9 hJ.low.size (fun k e => (hown.lt k e).1)), fun _ => JL.app1 hokL hL (hdep 1 (by kernel_rfl)) hun h4 hown9 hg9 hat9, hA.app1 hokA (hdep 1 (by kernel_rfl)) hun hg9 hat9, BL.made (fun k e => (hown9.lt k e).2)⟩
              · rintro l gv W hun hdep hcl ⟨hJ, hL0, hA, hB⟩ hg ha hp
                refine' op_val ?h21 ?hw21 ?hr21 ?hK21
                case h21 => rfl
                case hw21 => exact rfl
                case hr21 => exact (ex_field rfl (eval_tmp ((ha 6 (by kernel_rfl)).trans rfl)) field25_3)
                case hK21 => exact ⟨_, hp 84 _ (by kernel_rfl), JV.same hok hJ (.tail _ (.tail _ (.head _))), fun h => JL.other (hL0 h) (by kernel_rfl) (Below.refl _ _), hA.other (by kernel_rfl) (Below.refl _ _), hB.other (by kernel_rfl) (Nat.le_refl _)⟩
              · rintro l gv W hun hdep hcl ⟨hJ, hL0, hA, hB⟩ hg ha hp
                refine' op_val ?h22 ?hw22 ?hr22 ?hK22
                case h22 => rfl
                case hw22 => exact rfl
                case hr22 => exact (ex_load rfl ((eval_tmp (hg 84 (by kernel_rfl))).trans (hJ.lit _ (.tail _ (.tail _ (.head _))) (hdep 4 (by kernel_rfl)))) (loadFs (cell_below hJ.low g3)))
                case hK22 => exact ⟨_, hp 85 _ (by kernel_rfl), JV.same hok hJ (.tail _ (.tail _ (.tail _ (.head _)))), fun h => JL.other (hL0 h) (by kernel_rfl) (Below.refl _ _), hA.other (by kernel_rfl) (Below.refl _ _), hB.other (by kernel_rfl) (Nat.le_refl _)⟩
              · rintro l gv W hun hdep hcl ⟨hJ, hL0, hA, hB⟩ hg ha hp
                refine' op_val ?h23 ?hw23 ?hr23 ?hK23
                case h23 => rfl
                case hw23 => exact rfl
                case hr23 => exact (ex_len Tryd.underlying23 rfl ((eval_tmp (hg 85 (by kernel_rfl))).trans (hJ.lit _ (.tail _ (.tail _ (.tail _ (.head _)))) (hdep 5 (by kernel_rfl)))) rfl)
                case hK23 => exact ⟨_, hp 86 _ (by kernel_rfl), JV.same hok hJ (.tail _ (.tail _ (.tail _ (.tail _ (.head _))))), fun h => JL.other (hL0 h) (by kernel_rfl) (Below.refl _ _), hA.other (by kernel_rfl) (Below.refl _ _), hB.other (by kernel_rfl) (Nat.le_refl _)⟩
              · rintro l gv W hun hdep hcl ⟨hJ, hL0, hA, hB⟩ hg ha hp
                have hS : l 14 = false := off_of (fun h => hcl 14 7 h (by kernel_rfl)) hun
                have hL := hL0 hS
                have h4 : l 8 = false := off_of (fun h => hcl 8 7 h (by kernel_rfl)) hun
                refine' op_val ?h24 ?hw24 ?hr24 ?hK24
                case h24 => rfl
                case hw24 => exact rfl
                case hr24 => exact (ex_buildSlice rfl ((eval_tmp (hg 86 (by kernel_rfl))).trans (hJ.lit _ (.tail _ (.tail _ (.tail _ (.tail _ (.head _))))) (hdep 6 (by kernel_rfl)))) layI)
                case hK24 => exact ⟨_, hp 87 _ (by kernel_rfl), JV.side hJ (by kernel_rfl) (bel_step hJ.low (bel_laid _ _)), fun _ => JL.lay2 hokL hL h4, hA.other (by kernel_rfl) (bel_laid _ _), hB.other (by kernel_rfl) (bel_laid _ _).size⟩
              · rintro l gv W hun hdep hcl ⟨hJ, hL0, hA, hB⟩ hg ha hp
                have hS : l 14 = false := off_of (fun h => hcl 14 8 h (by kernel_rfl)) hun
                have hL := hL0 hS
                have hown := hL.e2 (hdep 3 (by kernel_rfl)) hun
                obtain ⟨bn, e72, hbn, hc, -, -⟩ := hL.e3 (hdep 7 (by kernel_rfl)) hun
                refine' wpOp_step ?hA88 (fun K' hK => ?_)
                case hA88 => rfl
                refine step_append_lies _ rfl (.tmp 83) (.tmp 87) _ rfl wr.heap.size 3 i0 _ 1 8 Tryd.underlying26 hi hz0 hz1 hz2 rfl (by omega) (gv 83) pl.length (intsL pl) (eval_tmp (hg 83 (by kernel_rfl))) hown
                  ⟨bn, 0, none⟩ 1 1 [.int .i64 (g.sub.len : Int)] ((eval_tmp (hg 87 (by kernel_rfl))).trans e72) rfl (fun j u hu => by
                    match j, hu with
                    | 0, hu => simp at hu; subst hu; exact hc) (by intro y hy; simp at hy; subst hy; rfl) (by omega) (by unfold maxLen; omega) (by omega) hJ.low.size W.heap.size rfl ?_
                intro gg cap wq hown1 hgrow hat hlt
                have hls : LSl wq (pl ++ [(g.sub.len : Int)]) (.slice (some ⟨gg, 0, none⟩) (pl.length + 1) cap) := rowL (z := wr.heap.size) (by rw [ints_snoc, List.length_append, List.length_singleton]; exact hown1)
                exact hK _ _ ⟨_, hp 88 _ (by kernel_rfl), JV.side hJ (by kernel_rfl) (hJ.low.grown hgrow hJ.low.size (fun k e => (hown.lt k e).1)), fun _ => JL.app2 hokL hL (hdep 3 (by kernel_rfl)) hls, hA.grow (hdep 3 (by kernel_rfl)) (by kernel_rfl) hgrow, hB.other (by kernel_rfl) hgrow.size⟩
              · rintro l gv W hun hdep hcl ⟨hJ, hL0, hA, hB⟩ hg ha hp
                have hS : l 14 = false := off_of (fun h => hcl 14 9 h (by kernel_rfl)) hun
                have hL := hL0 hS
                refine' op_call ?h25 ?hw25 ?hr25 ?hc25
                case h25 => rfl
                case hw25 => exact rfl
                case hr25 => exact (ex_call2 (enters_of Tryd.func10 (by kernel_rfl) rfl) rfl ((eval_tmp (hg 80 (by kernel_rfl))).trans (hJ.lit _ (.head _) (hdep 0 (by kernel_rfl)))) (eval_tmp (hg 88 (by kernel_rfl))))
                refine ((at_any f (pl ++ [(g.sub.len : Int)]) _ _ W (FVal.below hJ.low fv') (hL.e4 (hdep 8 (by kernel_rfl))) (by rw [List.length_append, List.length_singleton]; omega) sf).mono ?_)
                rintro e W' ⟨⟨v', er, rfl, hres⟩, hb⟩
                rw [hnone] at hres
                obtain ⟨rfl, rfl⟩ := hres
                exact ⟨_, rfl, _, hp 89 _ (by kernel_rfl), JV.made hok hJ (.tail _ (.tail _ (.tail _ (.tail _ (.tail _ (.head _)))))) (bel_step hJ.low hb), fun _ => JL.other hL (by kernel_rfl) hb, hA.other (by kernel_rfl) hb, hB.other (by kernel_rfl) hb.size⟩
              · rintro l gv W hun hdep hcl ⟨hJ, hL0, hA, hB⟩ hg ha hp
                refine' op_val ?h26 ?hw26 ?hr26 ?hK26
                case h26 => rfl
                case hw26 => exact rfl
                case hr26 => exact (ex_move rfl ((eval_tmp (hg 89 (by kernel_rfl))).trans (hJ.lit _ (.tail _ (.tail _ (.tail _ (.tail _ (.tail _ (.head _)))))) (hdep 9 (by kernel_rfl)))))
                case hK26 => exact ⟨_, hp 79 _ (by kernel_rfl), JV.same hok hJ (.tail _ (.tail _ (.tail _ (.tail _ (.tail _ (.tail _ (.head _))))))), fun h => JL.other (hL0 h) (by kernel_rfl) (Below.refl _ _), hA.other (by kernel_rfl) (Below.refl _ _), hB.other (by kernel_rfl) (Nat.le_refl _)⟩
              · rintro l gv W hun hdep hcl ⟨hJ, hL0, hA, hB⟩ hg ha hp
                refine' op_val ?h27 ?hw27 ?hr27 ?hK27
                case h27 => rfl
                case hw27 => exact rfl
                case hr27 => exact (ex_extr rfl ((eval_tmp (hg 79 (by kernel_rfl))).trans (hJ.lit _ (.tail _ (.tail _ (.tail _ (.tail _ (.tail _ (.tail _ (.head _))))))) (hdep 10 (by kernel_rfl)))) rfl)
                case hK27 => exact ⟨_, hp 90 _ (by kernel_rfl), JV.same hok hJ (.tail _ (.tail _ (.tail _ (.tail _ (.tail _ (.tail _ (.tail _ (.head _)))))))), fun h => JL.other (hL0 h) (by kernel_rfl) (Below.refl _ _), hA.other (by kernel_rfl) (Below.refl _ _), hB.other (by kernel_rfl) (Nat.le_refl _)⟩
              · rintro l gv W hun hdep hcl ⟨hJ, hL0, hA, hB⟩ hg ha hp
                refine' op_val ?h28 ?hw28 ?hr28 ?hK28
                case h28 => rfl
                case hw28 => exact rfl
                case hr28 => exact (ex_extr rfl ((eval_tmp (hg 79 (by kernel_rfl))).trans (hJ.lit _ (.tail _ (.tail _ (.tail _ (.tail _ (.tail _ (.tail _ (.head _))))))) (hdep 10 (by kernel_rfl)))) rfl)
                case hK28 => exact ⟨_, hp 91 _ (by kernel_rfl), JV.same hok hJ (.tail _ (.tail _ (.tail _ (.tail _ (.tail _ (.tail _ (.tail _ (.tail _ (.head _))))))))), fun h => JL.other (hL0 h) (by kernel_rfl) (Below.refl _ _), hA.other (by kernel_rfl) (Below.refl _ _), hB.other (by kernel_rfl) (Nat.le_refl _)⟩
              · rintro l gv W hun hdep hcl ⟨hJ, hL0, hA, hB⟩ hg ha hp
                have hS : l 14 = false := off_of (fun h => hcl 14 13 h (by kernel_rfl)) hun
                have hL := hL0 hS
                refine' op_val ?h29 ?hw29 ?hr29 ?hK29
                case h29 => rfl
                case hw29 => exact rfl
                case hr29 => exact (ex_alloc rfl)
                case hK29 => exact ⟨_, hp 16 _ (by kernel_rfl), JV.side hJ (by kernel_rfl) (bel_step hJ.low (bel_laid _ _)), fun _ => JL.other hL (by kernel_rfl) (bel_laid _ _), AL.lay hokA hJ.low.size (fun h1 h2 k e => ((hL.e1 h1 h2).lt k e).2) hB, hB.other (by kernel_rfl) (bel_laid _ _).size⟩
              · rintro l gv W hun hdep hcl ⟨hJ, hL0, hA, hB⟩ hg ha hp
                obtain ⟨b, e16, hlo, hbs, hF, -, -⟩ := hA.a (hdep 13 (by kernel_rfl)) hun
                obtain ⟨W', hst, -, -, -, -, -, -, hbel', hsz⟩ := store_box (g := ⟨0, ⟨#[]⟩, .nil, .nil⟩) (p := none) (q := none) (m := 0) (n := 0) hF
                refine' op_skip ?h30 ?hw30 ?hr30 ?hK30
                case h30 => rfl
                case hw30 => exact rfl
                case hr30 => exact (ex_store rfl ((eval_tmp (hg 16 (by kernel_rfl))).trans e16) ((eval_tmp (hg 90 (by kernel_rfl))).trans (hJ.lit _ (.tail _ (.tail _ (.tail _ (.tail _ (.tail _ (.tail _ (.tail _ (.head _)))))))) (hdep 11 (by kernel_rfl)))) hst)
                case hK30 => exact ⟨gv, put_none _ _, JV.sideOp hJ (by kernel_rfl) (hbel' _ _ hJ.low hlo), fun h => (by rw [upd_same] at h; cases h), AL.gone rfl, hB.otherOp (by kernel_rfl) (Nat.le_of_eq hsz.symm)⟩
              · rintro l gv W hun hdep hcl ⟨hJ, hL0, hA, hB⟩ hg ha hp
                refine' op_val ?h31 ?hw31 ?hr31 ?hK31
                case h31 => rfl
                case hw31 => exact rfl
                case hr31 => exact (ex_assign rfl ((eval_tmp (hg 91 (by kernel_rfl))).trans (hJ.lit _ (.tail _ (.tail _ (.tail _ (.tail _ (.tail _ (.tail _ (.tail _ (.tail _ (.head _))))))))) (hdep 12 (by kernel_rfl)))))
                case hK31 => exact ⟨_, hp 17 _ (by kernel_rfl), JV.same hok hJ (.tail _ (.tail _ (.tail _ (.tail _ (.tail _ (.tail _ (.tail _ (.tail _ (.tail _ (.head _)))))))))), fun h => JL.other (hL0 h) (by kernel_rfl) (Below.refl _ _), hA.other (by kernel_rfl) (Below.refl _ _), hB.other (by kernel_rfl) (Nat.le_refl _)⟩
            case hend =>
              rintro ll gv W9 hl ⟨hJ, -⟩
              have e80 := hJ.lit _ (.head _) (hl 0 (of_decide_eq_true (by kernel_rfl)))
              have e82 := hJ.lit _ (.tail _ (.head _)) (hl 2 (of_decide_eq_true (by kernel_rfl)))
              have e84 := hJ.lit _ (.tail _ (.tail _ (.head _))) (hl 4 (of_decide_eq_true (by kernel_rfl)))
              have e85 := hJ.lit _ (.tail _ (.tail _ (.tail _ (.head _)))) (hl 5 (of_decide_eq_true (by kernel_rfl)))
              have e86 := hJ.lit _ (.tail _ (.tail _ (.tail _ (.tail _ (.head _))))) (hl 6 (of_decide_eq_true (by kernel_rfl)))
              have e89 := hJ.lit _ (.tail _ (.tail _ (.tail _ (.tail _ (.tail _ (.head _)))))) (hl 9 (of_decide_eq_true (by kernel_rfl)))
              have e79 := hJ.lit _ (.tail _ (.tail _ (.tail _ (.tail _ (.tail _ (.tail _ (.head _))))))) (hl 10 (of_decide_eq_true (by kernel_rfl)))
              have e90 := hJ.lit _ (.tail _ (.tail _ (.tail _ (.tail _ (.tail _ (.tail _ (.tail _ (.head _)))))))) (hl 11 (of_decide_eq_true (by kernel_rfl)))
              have e91 := hJ.lit _ (.tail _ (.tail _ (.tail _ (.tail _ (.tail _ (.tail _ (.tail _ (.tail _ (.head _))))))))) (hl 12 (of_decide_eq_true (by kernel_rfl)))
              have e17 := hJ.lit _ (.tail _ (.tail _ (.tail _ (.tail _ (.tail _ (.tail _ (.tail _ (.tail _ (.tail _ (.head _)))))))))) (hl 15 (of_decide_eq_true (by kernel_rfl)))
              simp only at e80 e82 e84 e85 e86 e89 e79 e90 e91 e17
              simp only [zipV, List.map_cons, List.map_nil, puts, Act.put, List.setIfInBounds_toArray, List.set_cons_succ, List.set_cons_zero, e80, e82, e84, e85, e86, e89, e79, e90, e91, e17]
              have hlow := Lib.hid (bel_step hwr0 hJ.low)
              clear e80 e82 e84 e85 e86 e89 e79 e90 e91 e17 hJ hl
              obtain ⟨u81, hu81⟩ : ∃ u, gv 81 = u := ⟨_, rfl⟩
              rw [hu81]
              obtain ⟨u83, hu83⟩ : ∃ u, gv 83 = u := ⟨_, rfl⟩
              rw [hu83]
              obtain ⟨u87, hu87⟩ : ∃ u, gv 87 = u := ⟨_, rfl⟩
              rw [hu87]
              obtain ⟨u88, hu88⟩ : ∃ u, gv 88 = u := ⟨_, rfl⟩
              rw [hu88]
              obtain ⟨u16, hu16⟩ : ∃ u, gv 16 = u := ⟨_, rfl⟩
              rw [hu16]
              clear hu81 hu83 hu87 hu88 hu16
              go_wp2_with fail
              go_ret
              exact ⟨rfl, hlow.out⟩
          · have hi1 : ¬ (i : Int) < (g.sub.len : Int) := by omega
            go_wp2_with fail
            have hpl6 : pl.length ≤ 1000000 := by omega
            have fv' := hk1.val
            obtain ⟨f0, f1, f2, f3, -⟩ := id hk1
            have hnone : f.part (pl ++ [(g.sub.len : Int)]) = none := by
              rw [FT.part_app, hpth.out]
              show g.part [(g.sub.len : Int)] = none
              rw [FT.part, if_neg (by omega)]
            have hwr0 : Below w.heap.size w wr := bel_step k1h.out.2.2.2.2.1 h4r.out
            have lpl : LSl wr pl (.slice pp pl.length cp) := LSl.below hwr0 hlph.out
            have lL : FSl wr L (.slice plq L.len cl) := FSl.below hwr0 hflh.out
            obtain ⟨i0, hi, hz0, hz1, hz2⟩ := info_parts infoI3
            refine wp_region_run (by kernel_rfl) 94 [80, 81, 82, 83, 84, 85, 86, 87, 88, 89, 79, 90, 91, 16, 17] (fun l gv W => JV wr [(0, 80, .agg #[.int .u8 f.op, .string f.n, .slice pa f.ts.len ca, .slice qa f.sub.len da]), (2, 82, .slice pp pl.length cp), (4, 84, .pointer (some ⟨b5 + 1, 3, none⟩)), (5, 85, .slice qb g.sub.len db), (6, 86, .int .i64 (g.sub.len : Int)), (9, 89, .tuple #[fval ⟨0, ⟨#[]⟩, .nil, .nil⟩ (.slice none 0 0) (.slice none 0 0), .int .i64 6]), (10, 79, .tuple #[fval ⟨0, ⟨#[]⟩, .nil, .nil⟩ (.slice none 0 0) (.slice none 0 0), .int .i64 6]), (11, 90, fval ⟨0, ⟨#[]⟩, .nil, .nil⟩ (.slice none 0 0) (.slice none 0 0)), (12, 91, .int .i64 6), (15, 17, .int .i64 6)] l gv W ∧ (l 14 = false → JL wr.heap.size pl (g.sub.len : Int) 1 81 3 83 7 87 8 88 l gv W) ∧ AL wr.heap.size 13 16 14 1 81 3 83 l gv W ∧ BL 3 83 l gv W) (by kernel_rfl) rfl ⟨JV.start _ _, fun _ => JL.start _ _, AL.start _ _, BL.start _ _⟩ ?hst ?hend
            case hst =>
              have hok : okV [(0, 80, .agg #[.int .u8 f.op, .string f.n, .slice pa f.ts.len ca, .slice qa f.sub.len da]), (2, 82, .slice pp pl.length cp), (4, 84, .pointer (some ⟨b5 + 1, 3, none⟩)), (5, 85, .slice qb g.sub.len db), (6, 86, .int .i64 (g.sub.len : Int)), (9, 89, .tuple #[fval ⟨0, ⟨#[]⟩, .nil, .nil⟩ (.slice none 0 0) (.slice none 0 0), .int .i64 6]), (10, 79, .tuple #[fval ⟨0, ⟨#[]⟩, .nil, .nil⟩ (.slice none 0 0) (.slice none 0 0), .int .i64 6]), (11, 90, fval ⟨0, ⟨#[]⟩, .nil, .nil⟩ (.slice none 0 0) (.slice none 0 0)), (12, 91, .int .i64 6), (15, 17, .int .i64 6)] = true := by kernel_rfl
              have hokL : okL 1 81 3 83 7 87 8 88 = true := by kernel_rfl
              have hokA : okAL 13 16 14 1 81 3 83 = true := by kernel_rfl
              refine ⟨?_, ?_, ?_, ?_, ?_, ?_, ?_, ?_, ?_, ?_, ?_, ?_, ?_, ?_, ?_, ?_, trivial⟩
              · rintro l gv W hun hdep hcl ⟨hJ, hL0, hA, hB⟩ hg ha hp
                refine' op_val ?h32 ?hw32 ?hr32 ?hK32
                case h32 => rfl
                case hw32 => exact rfl
                case hr32 => exact (ex_load rfl (eval_tmp ((ha 5 (by kernel_rfl)).trans rfl)) (loadFo (cell_below hJ.low f0) (cell_below hJ.low f1) (cell_below hJ.low f2) (cell_below hJ.low f3)))
                case hK32 => exact ⟨_, hp 80 _ (by kernel_rfl), JV.same hok hJ (.head _), fun h => JL.other (hL0 h) (by kernel_rfl) (Below.refl _ _), hA.other (by kernel_rfl) (Below.refl _ _), hB.other (by kernel_rfl) (Nat.le_refl _)⟩
              · rintro l gv W hun hdep hcl ⟨hJ, hL0, hA, hB⟩ hg ha hp
                have hS : l 14 = false := off_of (fun h => hcl 14 1 h (by kernel_rfl)) hun
                have hL := hL0 hS
                have h2 : l 3 = false := off_of (fun h => hcl 3 1 h (by kernel_rfl)) hun
                refine' op_val ?h33 ?hw33 ?hr33 ?hK33
                case h33 => rfl
                case hw33 => exact rfl
                case hr33 => exact (ex_buildSlice0 rfl lay0)
                case hK33 => exact ⟨_, hp 81 _ (by kernel_rfl), JV.side hJ (by kernel_rfl) (bel_step hJ.low (bel_laid _ _)), fun _ => JL.lay1 hokL hL hJ.low.size h2, hA.lay1 hokA h2, hB.other (by kernel_rfl) (bel_laid _ _).size⟩
              · rintro l gv W hun hdep hcl ⟨hJ, hL0, hA, hB⟩ hg ha hp
                refine' op_val ?h34 ?hw34 ?hr34 ?hK34
                case h34 => rfl
                case hw34 => exact rfl
                case hr34 => exact (ex_move rfl (eval_tmp ((ha 2 (by kernel_rfl)).trans rfl)))
                case hK34 => exact ⟨_, hp 82 _ (by kernel_rfl), JV.same hok hJ (.tail _ (.head _)), fun h => JL.other (hL0 h) (by kernel_rfl) (Below.refl _ _), hA.other (by kernel_rfl) (Below.refl _ _), hB.other (by kernel_rfl) (Nat.le_refl _)⟩
              · rintro l gv W hun hdep hcl ⟨hJ, hL0, hA, hB⟩ hg ha hp
                have hS : l 14 = false := off_of (fun h => hcl 14 3 h (by kernel_rfl)) hun
                have hL := hL0 hS
                have h4 : l 8 = false := off_of (fun h => hcl 8 3 h (by kernel_rfl)) hun
                have hown := hL.e1 (hdep 1 (by kernel_rfl)) hun
                obtain ⟨v9, W9, hr, hown9, hg9, hat9⟩ := run_app_ints 26 hown (LSl.below hJ.low lpl) hpl6 hJ.low.size
                refine' op_val ?h35 ?hw35 ?hr35 ?hK35
                case h35 => rfl
                case hw35 => exact rfl
                case hr35 => exact (ex_append rfl (eval_tmp (hg 81 (by kernel_rfl))) ((eval_tmp (hg 82 (by kernel_rfl))).trans (hJ.lit _ (.tail _ (.head _)) (hdep 2 (by kernel_rfl)))) hr)
                case hK35 => exact ⟨_, hp 83 _ (by kernel_rfl), JV.side hJ (by kernel_rfl) (hJ.low.grown hg9 hJ.low.size (fun k e => (hown.lt k e).1)), fun _ => JL.app1 hokL hL (hdep 1 (by kernel_rfl)) hun h4 hown9 hg9 hat9, hA.app1 hokA (hdep 1 (by kernel_rfl)) hun hg9 hat9, BL.made (fun k e => (hown9.lt k e).2)⟩
              · rintro l gv W hun hdep hcl ⟨hJ, hL0, hA, hB⟩ hg ha hp
                refine' op_val ?h36 ?hw36 ?hr36 ?hK36
                case h36 => rfl
                case hw36 => exact rfl
                case hr36 => exact (ex_field rfl (eval_tmp ((ha 6 (by kernel_rfl)).trans rfl)) field25_3)
                case hK36 => exact ⟨_, hp 84 _ (by kernel_rfl), JV.same hok hJ (.tail _ (.tail _ (.head _))), fun h => JL.other (hL0 h) (by kernel_rfl) (Below.refl _ _), hA.other (by kernel_rfl) (Below.refl _ _), hB.other (by kernel_rfl) (Nat.le_refl _)⟩
              · rintro l gv W hun hdep hcl ⟨hJ, hL0, hA, hB⟩ hg ha hp
                refine' op_val ?h37 ?hw37 ?hr37 ?hK37
                case h37 => rfl
                case hw37 => exact rfl
                case hr37 => exact (ex_load rfl ((eval_tmp (hg 84 (by kernel_rfl))).trans (hJ.lit _ (.tail _ (.tail _ (.head _))) (hdep 4 (by kernel_rfl)))) (loadFs (cell_below hJ.low g3)))
                case hK37 => exact ⟨_, hp 85 _ (by kernel_rfl), JV.same hok hJ (.tail _ (.tail _ (.tail _ (.head _)))), fun h => JL.other (hL0 h) (by kernel_rfl) (Below.refl _ _), hA.other (by kernel_rfl) (Below.refl _ _), hB.other (by kernel_rfl) (Nat.le_refl _)⟩
              · rintro l gv W hun hdep hcl ⟨hJ, hL0, hA, hB⟩ hg ha hp
                refine' op_val ?h38 ?hw38 ?hr38 ?hK38
                case h38 => rfl
                case hw38 => exact rfl
                case hr38 => exact (ex_len Tryd.underlying23 rfl ((eval_tmp (hg 85 (by kernel_rfl))).trans (hJ.lit _ (.tail _ (.tail _ (.tail _ (.head _)))) (hdep 5 (by kernel_rfl)))) rfl)
                case hK38 => exact ⟨_, hp 86 _ (by kernel_rfl), JV.same hok hJ (.tail _ (.tail _ (.tail _ (.tail _ (.head _))))), fun h => JL.other (hL0 h) (by kernel_rfl) (Below.refl _ _), hA.other (by kernel_rfl) (Below.refl _ _), hB.other (by kernel_rfl) (Nat.le_refl _)⟩
              · rintro l gv W hun hdep hcl ⟨hJ, hL0, hA, hB⟩ hg ha hp
                have hS : l 14 = false := off_of (fun h => hcl 14 7 h (by kernel_rfl)) hun
                have hL := hL0 hS
                have h4 : l 8 = false := off_of (fun h => hcl 8 7 h (by kernel_rfl)) hun
                refine' op_val ?h39 ?hw39 ?hr39 ?hK39
                case h39 => rfl
                case hw39 => exact rfl
                case hr39 => exact (ex_buildSlice rfl ((eval_tmp (hg 86 (by kernel_rfl))).trans (hJ.lit _ (.tail _ (.tail _ (.tail _ (.tail _ (.head _))))) (hdep 6 (by kernel_rfl)))) layI)
                case hK39 => exact ⟨_, hp 87 _ (by kernel_rfl), JV.side hJ (by kernel_rfl) (bel_step hJ.low (bel_laid _ _)), fun _ => JL.lay2 hokL hL h4, hA.other (by kernel_rfl) (bel_laid _ _), hB.other (by kernel_rfl) (bel_laid _ _).size⟩
              · rintro l gv W hun hdep hcl ⟨hJ, hL0, hA, hB⟩ hg ha hp
                have hS : l 14 = false := off_of (fun h => hcl 14 8 h (by kernel_rfl)) hun
                have hL := hL0 hS
                have hown := hL.e2 (hdep 3 (by kernel_rfl)) hun
                obtain ⟨bn, e72, hbn, hc, -, -⟩ := hL.e3 (hdep 7 (by kernel_rfl)) hun
                refine' wpOp_step ?hA88 (fun K' hK => ?_)
                case hA88 => rfl
                refine step_append_lies _ rfl (.tmp 83) (.tmp 87) _ rfl wr.heap.size 3 i0 _ 1 8 Tryd.underlying26 hi hz0 hz1 hz2 rfl (by omega) (gv 83) pl.length (intsL pl) (eval_tmp (hg 83 (by kernel_rfl))) hown
                  ⟨bn, 0, none⟩ 1 1 [.int .i64 (g.sub.len : Int)] ((eval_tmp (hg 87 (by kernel_rfl))).trans e72) rfl (fun j u hu => by
                    match j, hu with
                    | 0, hu => simp at hu; subst hu; exact hc) (by intro y hy; simp at hy; subst hy; rfl) (by omega) (by unfold maxLen; omega) (by omega) hJ.low.size W.heap.size rfl ?_
                intro gg cap wq hown1 hgrow hat hlt
                have hls : LSl wq (pl ++ [(g.sub.len : Int)]) (.slice (some ⟨gg, 0, none⟩) (pl.length + 1) cap) := rowL (z := wr.heap.size) (by rw [ints_snoc, List.length_append, List.length_singleton]; exact hown1)
                exact hK _ _ ⟨_, hp 88 _ (by kernel_rfl), JV.side hJ (by kernel_rfl) (hJ.low.grown hgrow hJ.low.size (fun k e => (hown.lt k e).1)), fun _ => JL.app2 hokL hL (hdep 3 (by kernel_rfl)) hls, hA.grow (hdep 3 (by kernel_rfl)) (by kernel_rfl) hgrow, hB.other (by kernel_rfl) hgrow.size⟩
              · rintro l gv W hun hdep hcl ⟨hJ, hL0, hA, hB⟩ hg ha hp
                have hS : l 14 = false := off_of (fun h => hcl 14 9 h (by kernel_rfl)) hun
                have hL := hL0 hS
                refine' op_call ?h40 ?hw40 ?hr40 ?hc40
                case h40 => rfl
                case hw40 => exact rfl
                case hr40 => exact (ex_call2 (enters_of Tryd.func10 (by kernel_rfl) rfl) rfl ((eval_tmp (hg 80 (by kernel_rfl))).trans (hJ.lit _ (.head _) (hdep 0 (by kernel_rfl)))) (eval_tmp (hg 88 (by kernel_rfl))))
                refine ((at_any f (pl ++ [(g.sub.len : Int)]) _ _ W (FVal.below hJ.low fv') (hL.e4 (hdep 8 (by kernel_rfl))) (by rw [List.length_append, List.length_singleton]; omega) sf).mono ?_)
                rintro e W' ⟨⟨v', er, rfl, hres⟩, hb⟩
                rw [hnone] at hres
                obtain ⟨rfl, rfl⟩ := hres
                exact ⟨_, rfl, _, hp 89 _ (by kernel_rfl), JV.made hok hJ (.tail _ (.tail _ (.tail _ (.tail _ (.tail _ (.head _)))))) (bel_step hJ.low hb), fun _ => JL.other hL (by kernel_rfl) hb, hA.other (by kernel_rfl) hb, hB.other (by kernel_rfl) hb.size⟩
              · rintro l gv W hun hdep hcl ⟨hJ, hL0, hA, hB⟩ hg ha hp
                refine' op_val ?h41 ?hw41 ?hr41 ?hK41
                case h41 => rfl
                case hw41 => exact rfl
                case hr41 => exact (ex_move rfl ((eval_tmp (hg 89 (by kernel_rfl))).trans (hJ.lit _ (.tail _ (.tail _ (.tail _ (.tail _ (.tail _ (.head _)))))) (hdep 9 (by kernel_rfl)))))
                case hK41 => exact ⟨_, hp 79 _ (by kernel_rfl), JV.same hok hJ (.tail _ (.tail _ (.tail _ (.tail _ (.tail _ (.tail _ (.head _))))))), fun h => JL.other (hL0 h) (by kernel_rfl) (Below.refl _ _), hA.other (by kernel_rfl) (Below.refl _ _), hB.other (by kernel_rfl) (Nat.le_refl _)⟩
              · rintro l gv W hun hdep hcl ⟨hJ, hL0, hA, hB⟩ hg ha hp
                refine' op_val ?h42 ?hw42 ?hr42 ?hK42
                case h42 => rfl
                case hw42 => exact rfl
                case hr42 => exact (ex_extr rfl ((eval_tmp (hg 79 (by kernel_rfl))).trans (hJ.lit _ (.tail _ (.tail _ (.tail _ (.tail _ (.tail _ (.tail _ (.head _))))))) (hdep 10 (by kernel_rfl)))) rfl)
                case hK42 => exact ⟨_, hp 90 _ (by kernel_rfl), JV.same hok hJ (.tail _ (.tail _ (.tail _ (.tail _ (.tail _ (.tail _ (.tail _ (.head _)))))))), fun h => JL.other (hL0 h) (by kernel_rfl) (Below.refl _ _), hA.other (by kernel_rfl) (Below.refl _ _), hB.other (by kernel_rfl) (Nat.le_refl _)⟩
              · rintro l gv W hun hdep hcl ⟨hJ, hL0, hA, hB⟩ hg ha hp
                refine' op_val ?h43 ?hw43 ?hr43 ?hK43
                case h43 => rfl
                case hw43 => exact rfl
                case hr43 => exact (ex_extr rfl ((eval_tmp (hg 79 (by kernel_rfl))).trans (hJ.lit _ (.tail _ (.tail _ (.tail _ (.tail _ (.tail _ (.tail _ (.head _))))))) (hdep 10 (by kernel_rfl)))) rfl)
                case hK43 => exact ⟨_, hp 91 _ (by kernel_rfl), JV.same hok hJ (.tail _ (.tail _ (.tail _ (.tail _ (.tail _ (.tail _ (.tail _ (.tail _ (.head _))))))))), fun h => JL.other (hL0 h) (by kernel_rfl) (Below.refl _ _), hA.other (by kernel_rfl) (Below.refl _ _), hB.other (by kernel_rfl) (Nat.le_refl _)⟩
              · rintro l gv W hun hdep hcl ⟨hJ, hL0, hA, hB⟩ hg ha hp
                have hS : l 14 = false := off_of (fun h => hcl 14 13 h (by kernel_rfl)) hun
                have hL := hL0 hS
                refine' op_val ?h44 ?hw44 ?hr44 ?hK44
                case h44 => rfl
                case hw44 => exact rfl
                case hr44 => exact (ex_alloc rfl)
                case hK44 => exact ⟨_, hp 16 _ (by kernel_rfl), JV.side hJ (by kernel_rfl) (bel_step hJ.low (bel_laid _ _)), fun _ => JL.other hL (by kernel_rfl) (bel_laid _ _), AL.lay hokA hJ.low.size (fun h1 h2 k e => ((hL.e1 h1 h2).lt k e).2) hB, hB.other (by kernel_rfl) (bel_laid _ _).size⟩
              · rintro l gv W hun hdep hcl ⟨hJ, hL0, hA, hB⟩ hg ha hp
                obtain ⟨b, e16, hlo, hbs, hF, -, -⟩ := hA.a (hdep 13 (by kernel_rfl)) hun
                obtain ⟨W', hst, -, -, -, -, -, -, hbel', hsz⟩ := store_box (g := ⟨0, ⟨#[]⟩, .nil, .nil⟩) (p := none) (q := none) (m := 0) (n := 0) hF
                refine' op_skip ?h45 ?hw45 ?hr45 ?hK45
                case h45 => rfl
                case hw45 => exact rfl
                case hr45 => exact (ex_store rfl ((eval_tmp (hg 16 (by kernel_rfl))).trans e16) ((eval_tmp (hg 90 (by kernel_rfl))).trans (hJ.lit _ (.tail _ (.tail _ (.tail _ (.tail _ (.tail _ (.tail _ (.tail _ (.head _)))))))) (hdep 11 (by kernel_rfl)))) hst)
                case hK45 => exact ⟨gv, put_none _ _, JV.sideOp hJ (by kernel_rfl) (hbel' _ _ hJ.low hlo), fun h => (by rw [upd_same] at h; cases h), AL.gone rfl, hB.otherOp (by kernel_rfl) (Nat.le_of_eq hsz.symm)⟩
              · rintro l gv W hun hdep hcl ⟨hJ, hL0, hA, hB⟩ hg ha hp
                refine' op_val ?h46 ?hw46 ?hr46 ?hK46
                case h46 => rfl
                case hw46 => exact rfl
                case hr46 => exact (ex_assign rfl ((eval_tmp (hg 91 (by kernel_rfl))).trans (hJ.lit _ (.tail _ (.tail _ (.tail _ (.tail _ (.tail _ (.tail _ (.tail _ (.tail _ (.head _))))))))) (hdep 12 (by kernel_rfl)))))
                case hK46 => exact ⟨_, hp 17 _ (by kernel_rfl), JV.same hok hJ (.tail _ (.tail _ (.tail _ (.tail _ (.tail _ (.tail _ (.tail _ (.tail _ (.tail _ (.head _)))))))))), fun h => JL.other (hL0 h) (by kernel_rfl) (Below.refl _ _), hA.other (by kernel_rfl) (Below.refl _ _), hB.other (by kernel_rfl) (Nat.le_refl _)⟩
            case hend =>
              rintro ll gv W9 hl ⟨hJ, -⟩
              have e80 := hJ.lit _ (.head _) (hl 0 (of_decide_eq_true (by kernel_rfl)))
              have e82 := hJ.lit _ (.tail _ (.head _)) (hl 2 (of_decide_eq_true (by kernel_rfl)))
              have e84 := hJ.lit _ (.tail _ (.tail _ (.head _))) (hl 4 (of_decide_eq_true (by kernel_rfl)))
              have e85 := hJ.lit _ (.tail _ (.tail _ (.tail _ (.head _)))) (hl 5 (of_decide_eq_true (by kernel_rfl)))
              have e86 := hJ.lit _ (.tail _ (.tail _ (.tail _ (.tail _ (.head _))))) (hl 6 (of_decide_eq_true (by kernel_rfl)))
              have e89 := hJ.lit _ (.tail _ (.tail _ (.tail _ (.tail _ (.tail _ (.head _)))))) (hl 9 (of_decide_eq_true (by kernel_rfl)))
              have e79 := hJ.lit _ (.tail _ (.tail _ (.tail _ (.tail _ (.tail _ (.tail _ (.head _))))))) (hl 10 (of_decide_eq_true (by kernel_rfl)))
              have e90 := hJ.lit _ (.tail _ (.tail _ (.tail _ (.tail _ (.tail _ (.tail _ (.tail _ (.head _)))))))) (hl 11 (of_decide_eq_true (by kernel_rfl)))
              have e91 := hJ.lit _ (.tail _ (.tail _ (.tail _ (.tail _ (.tail _ (.tail _ (.tail _ (.tail _ (.head _))))))))) (hl 12 (of_decide_eq_true (by kernel_rfl)))
              have e17 := hJ.lit _ (.tail _ (.tail _ (.tail _ (.tail _ (.tail _ (.tail _ (.tail _ (.tail _ (.tail _ (.head _)))))))))) (hl 15 (of_decide_eq_true (by kernel_rfl)))
              simp only at e80 e82 e84 e85 e86 e89 e79 e90 e91 e17
              simp only [zipV, List.map_cons, List.map_nil, puts, Act.put, List.setIfInBounds_toArray, List.set_cons_succ, List.set_cons_zero, e80, e82, e84, e85, e86, e89, e79, e90, e91, e17]
              have hlow := Lib.hid (bel_step hwr0 hJ.low)
              clear e80 e82 e84 e85 e86 e89 e79 e90 e91 e17 hJ hl
              obtain ⟨u81, hu81⟩ : ∃ u, gv 81 = u := ⟨_, rfl⟩
              rw [hu81]
              obtain ⟨u83, hu83⟩ : ∃ u, gv 83 = u := ⟨_, rfl⟩
              rw [hu83]
              obtain ⟨u87, hu87⟩ : ∃ u, gv 87 = u := ⟨_, rfl⟩
              rw [hu87]
              obtain ⟨u88, hu88⟩ : ∃ u, gv 88 = u := ⟨_, rfl⟩
              rw [hu88]
              obtain ⟨u16, hu16⟩ : ∃ u, gv 16 = u := ⟨_, rfl⟩
              rw [hu16]
              clear hu81 hu83 hu87 hu88 hu16
              go_wp2_with fail
              go_ret
              exact ⟨rfl, hlow.out⟩
    · have hkL : k < L.len := by omega
      have hlt : (k : Int) < (L.len : Int) := by omega
      obtain ⟨_, _, he, hL⟩ := hflh.out
      cases he
      obtain ⟨bl, ol, hpl, hL'⟩ := hL.resolve_left (by omega)
      subst hpl
      clear hL
      have hLk := (FsAt.below (bel_step k1h.out.2.2.2.2.1 hW4r.out) hL').get hkL
      obtain ⟨l0, l1, ⟨ss, l2, ls⟩, ⟨st, l3, lt⟩⟩ := hLk
      have lv : FVal wr (L.get k) (fval (L.get k) ss st) := ⟨_, _, rfl, ls, lt⟩
      obtain ⟨ps, cs, rfl, -⟩ := ls
      obtain ⟨pt, ct, rfl, -⟩ := lt
      have hk2 := k2h.out.next hW4r.out
      have gv' := hk2.val
      obtain ⟨g0, g1, g2, g3, -⟩ := hk2
      have sK : (L.get k).size ≤ 1000000 := Nat.le_trans (Fs.get_size L k hkL) sL
      have hkw : IntKind.i64.wrap ((k : Int) + 1) = (k : Int) + 1 := IntWalk.i64_in _ (by have := hLlen.out; omega)
      go_wp2_with fail
      cases hbb : anyK L g k with
      | true =>
        have hbk := Lib.hid hbb
        clear hbb
        refine wp_region_run (by kernel_rfl) 94 [30, 31, 32, 33, 34, 35, 36, 37, 38, 13] (fun l gv W => JV wr [(0, 30, .bool true), (1, 31, .bool true), (2, 32, undef), (3, 33, undef), (4, 34, undef), (5, 35, undef), (6, 36, undef), (7, 37, undef), (8, 38, .bool true), (9, 13, .bool true)] l gv W ∧ (l 9 = false → gv 13 = .bool true)) (by kernel_rfl) rfl ⟨JV.start _ _, fun _ => rfl⟩ ?hst ?hend
        case hst =>
          have hok : okV [(0, 30, .bool true), (1, 31, .bool true), (2, 32, undef), (3, 33, undef), (4, 34, undef), (5, 35, undef), (6, 36, undef), (7, 37, undef), (8, 38, .bool true), (9, 13, .bool true)] = true := by kernel_rfl
          refine ⟨?_, ?_, ?_, ?_, ?_, ?_, ?_, ?_, ?_, ?_, trivial⟩
          · rintro l gv W hun hdep hcl ⟨hJ, h13⟩ hg ha hp
            refine' op_val ?h47 ?hw47 ?hr47 ?hK47
            case h47 => rfl
            case hw47 => exact rfl
            case hr47 => exact (ex_move rfl ((eval_tmp (hg 13 (by kernel_rfl))).trans (h13 (off_of (fun h => hcl 9 0 h (by kernel_rfl)) hun))))
            case hK47 => exact ⟨_, hp 30 _ (by kernel_rfl), JV.made hok hJ (.head _) hJ.low, h13⟩
          · rintro l gv W hun hdep hcl ⟨hJ, h13⟩ hg ha hp
            refine' op_val ?h48 ?hw48 ?hr48 ?hK48
            case h48 => rfl
            case hw48 => exact rfl
            case hr48 => exact (ex_move rfl ((eval_tmp (hg 30 (by kernel_rfl))).trans (hJ.lit _ (.head _) (hdep 0 (by kernel_rfl)))))
            case hK48 => exact ⟨_, hp 31 _ (by kernel_rfl), JV.made hok hJ (.tail _ (.head _)) hJ.low, h13⟩
          · rintro l gv W hun hdep hcl ⟨hJ, h13⟩ hg ha hp
            have e31 : gv 31 = .bool true := hJ.lit _ (.tail _ (.head _)) (hdep 1 (by kernel_rfl))
            have h31 := (hg 31 (by kernel_rfl)).trans (congrArg some e31)
            refine' op_out ?h49 ?hw49 ?hK49
            case h49 => rfl
            case hw49 => exact (wants_no false rfl (by kernel_rfl) h31)
            case hK49 => exact ⟨_, hp 32 _ (by kernel_rfl), JV.made hok hJ (.tail _ (.tail _ (.head _))) hJ.low, h13⟩
          · rintro l gv W hun hdep hcl ⟨hJ, h13⟩ hg ha hp
            have e31 : gv 31 = .bool true := hJ.lit _ (.tail _ (.head _)) (hdep 1 (by kernel_rfl))
            have h31 := (hg 31 (by kernel_rfl)).trans (congrArg some e31)
            refine' op_out ?h50 ?hw50 ?hK50
            case h50 => rfl
            case hw50 => exact (wants_no false rfl (by kernel_rfl) h31)
            case hK50 => exact ⟨_, hp 33 _ (by kernel_rfl), JV.made hok hJ (.tail _ (.tail _ (.tail _ (.head _)))) hJ.low, h13⟩
          · rintro l gv W hun hdep hcl ⟨hJ, h13⟩ hg ha hp
            have e31 : gv 31 = .bool true := hJ.lit _ (.tail _ (.head _)) (hdep 1 (by kernel_rfl))
            have h31 := (hg 31 (by kernel_rfl)).trans (congrArg some e31)
            refine' op_out ?h51 ?hw51 ?hK51
            case h51 => rfl
            case hw51 => exact (wants_no false rfl (by kernel_rfl) h31)
            case hK51 => exact ⟨_, hp 34 _ (by kernel_rfl), JV.made hok hJ (.tail _ (.tail _ (.tail _ (.tail _ (.head _))))) hJ.low, h13⟩
          · rintro l gv W hun hdep hcl ⟨hJ, h13⟩ hg ha hp
            have e31 : gv 31 = .bool true := hJ.lit _ (.tail _ (.head _)) (hdep 1 (by kernel_rfl))
            have h31 := (hg 31 (by kernel_rfl)).trans (congrArg some e31)
            refine' op_out ?h52 ?hw52 ?hK52
            case h52 => rfl
            case hw52 => exact (wants_no false rfl (by kernel_rfl) h31)
            case hK52 => exact ⟨_, hp 35 _ (by kernel_rfl), JV.made hok hJ (.tail _ (.tail _ (.tail _ (.tail _ (.tail _ (.head _)))))) hJ.low, h13⟩
          · rintro l gv W hun hdep hcl ⟨hJ, h13⟩ hg ha hp
            have e31 : gv 31 = .bool true := hJ.lit _ (.tail _ (.head _)) (hdep 1 (by kernel_rfl))
            have h31 := (hg 31 (by kernel_rfl)).trans (congrArg some e31)
            refine' op_out ?h53 ?hw53 ?hK53
            case h53 => rfl
            case hw53 => exact (wants_no false rfl (by kernel_rfl) h31)
            case hK53 => exact ⟨_, hp 36 _ (by kernel_rfl), JV.made hok hJ (.tail _ (.tail _ (.tail _ (.tail _ (.tail _ (.tail _ (.head _))))))) hJ.low, h13⟩
          · rintro l gv W hun hdep hcl ⟨hJ, h13⟩ hg ha hp
            have e31 : gv 31 = .bool true := hJ.lit _ (.tail _ (.head _)) (hdep 1 (by kernel_rfl))
            have h31 := (hg 31 (by kernel_rfl)).trans (congrArg some e31)
            refine' op_out ?h54 ?hw54 ?hK54
            case h54 => rfl
            case hw54 => exact (wants_no false rfl (by kernel_rfl) h31)
            case hK54 => exact ⟨_, hp 37 _ (by kernel_rfl), JV.made hok hJ (.tail _ (.tail _ (.tail _ (.tail _ (.tail _ (.tail _ (.tail _ (.head _)))))))) hJ.low, h13⟩
          · rintro l gv W hun hdep hcl ⟨hJ, h13⟩ hg ha hp
            refine' op_val ?h55 ?hw55 ?hr55 ?hK55
            case h55 => rfl
            case hw55 => exact rfl
            case hr55 => exact (ex_pick rfl ((eval_tmp (hg 31 (by kernel_rfl))).trans (hJ.lit _ (.tail _ (.head _)) (hdep 1 (by kernel_rfl)))) rfl)
            case hK55 => exact ⟨_, hp 38 _ (by kernel_rfl), JV.made hok hJ (.tail _ (.tail _ (.tail _ (.tail _ (.tail _ (.tail _ (.tail _ (.tail _ (.head _))))))))) hJ.low, h13⟩
          · rintro l gv W hun hdep hcl ⟨hJ, h13⟩ hg ha hp
            refine' op_val ?h56 ?hw56 ?hr56 ?hK56
            case h56 => rfl
            case hw56 => exact rfl
            case hr56 => exact (ex_assign rfl ((eval_tmp (hg 38 (by kernel_rfl))).trans (hJ.lit _ (.tail _ (.tail _ (.tail _ (.tail _ (.tail _ (.tail _ (.tail _ (.tail _ (.head _))))))))) (hdep 8 (by kernel_rfl)))))
            case hK56 => exact ⟨_, hp 13 _ (by kernel_rfl), JV.made hok hJ (.tail _ (.tail _ (.tail _ (.tail _ (.tail _ (.tail _ (.tail _ (.tail _ (.tail _ (.head _)))))))))) hJ.low, fun h => (by cases h)⟩
        case hend =>
          rintro ll gv W9 hl ⟨hJ, -⟩
          have e30 := hJ.lit _ (.head _) (hl 0 (of_decide_eq_true (by kernel_rfl)))
          have e31 := hJ.lit _ (.tail _ (.head _)) (hl 1 (of_decide_eq_true (by kernel_rfl)))
          have e32 := hJ.lit _ (.tail _ (.tail _ (.head _))) (hl 2 (of_decide_eq_true (by kernel_rfl)))
          have e33 := hJ.lit _ (.tail _ (.tail _ (.tail _ (.head _)))) (hl 3 (of_decide_eq_true (by kernel_rfl)))
          have e34 := hJ.lit _ (.tail _ (.tail _ (.tail _ (.tail _ (.head _))))) (hl 4 (of_decide_eq_true (by kernel_rfl)))
          have e35 := hJ.lit _ (.tail _ (.tail _ (.tail _ (.tail _ (.tail _ (.head _)))))) (hl 5 (of_decide_eq_true (by kernel_rfl)))
          have e36 := hJ.lit _ (.tail _ (.tail _ (.tail _ (.tail _ (.tail _ (.tail _ (.head _))))))) (hl 6 (of_decide_eq_true (by kernel_rfl)))
          have e37 := hJ.lit _ (.tail _ (.tail _ (.tail _ (.tail _ (.tail _ (.tail _ (.tail _ (.head _)))))))) (hl 7 (of_decide_eq_true (by kernel_rfl)))
          have e38 := hJ.lit _ (.tail _ (.tail _ (.tail _ (.tail _ (.tail _ (.tail _ (.tail _ (.tail _ (.head _))))))))) (hl 8 (of_decide_eq_true (by kernel_rfl)))
          have e13 := hJ.lit _ (.tail _ (.tail _ (.tail _ (.tail _ (.tail _ (.tail _ (.tail _ (.tail _ (.tail _ (.head _)))))))))) (hl 9 (of_decide_eq_true (by kernel_rfl)))
          simp only at e30 e31 e32 e33 e34 e35 e36 e37 e38 e13
          simp only [zipV, List.map_cons, List.map_nil, puts, Act.put, List.setIfInBounds_toArray, List.set_cons_succ, List.set_cons_zero, e30, e31, e32, e33, e34, e35, e36, e37, e38, e13]
          have hlow := Lib.hid hJ.low
          clear e30 e31 e32 e33 e34 e35 e36 e37 e38 e13 hJ hl
          have hres : Hid (true = anyK L g (k + 1)) := Lib.hid (by rw [anyK_succ, hbk.out]; simp)
          go_wp2_with fail
          go_roundw
          case rel => exact ⟨k + 1, by rw [hres.out], by congr 1, by omega, bel_step hW4r.out hlow.out⟩
          case measure => simp [intOf]; omega
      | false =>
        have hbk := Lib.hid hbb
        clear hbb
        refine wp_region_run (by kernel_rfl) 94 [30, 31, 32, 33, 34, 35, 36, 37, 38, 13] (fun l gv W => JV wr [(0, 30, .bool false), (1, 31, .bool false), (2, 32, .slice (some ⟨bl, ol, none⟩) L.len cl), (3, 33, .int .i64 (k : Int)), (4, 34, .pointer (some ⟨bl, ol + k * 4, none⟩)), (5, 35, fval (L.get k) (.slice ps (L.get k).ts.len cs) (.slice pt (L.get k).sub.len ct)), (6, 36, fval g (.slice pb g.ts.len cb) (.slice qb g.sub.len db)), (7, 37, .bool ((L.get k).eqB g)), (8, 38, .bool ((L.get k).eqB g)), (9, 13, .bool ((L.get k).eqB g))] l gv W ∧ (l 9 = false → gv 13 = .bool false)) (by kernel_rfl) rfl ⟨JV.start _ _, fun _ => rfl⟩ ?hst ?hend
        case hst =>
          have hok : okV [(0, 30, .bool false), (1, 31, .bool false), (2, 32, .slice (some ⟨bl, ol, none⟩) L.len cl), (3, 33, .int .i64 (k : Int)), (4, 34, .pointer (some ⟨bl, ol + k * 4, none⟩)), (5, 35, fval (L.get k) (.slice ps (L.get k).ts.len cs) (.slice pt (L.get k).sub.len ct)), (6, 36, fval g (.slice pb g.ts.len cb) (.slice qb g.sub.len db)), (7, 37, .bool ((L.get k).eqB g)), (8, 38, .bool ((L.get k).eqB g)), (9, 13, .bool ((L.get k).eqB g))] = true := by kernel_rfl
          refine ⟨?_, ?_, ?_, ?_, ?_, ?_, ?_, ?_, ?_, ?_, trivial⟩
          · rintro l gv W hun hdep hcl ⟨hJ, h13⟩ hg ha hp
            refine' op_val ?h57 ?hw57 ?hr57 ?hK57
            case h57 => rfl
            case hw57 => exact rfl
            case hr57 => exact (ex_move rfl ((eval_tmp (hg 13 (by kernel_rfl))).trans (h13 (off_of (fun h => hcl 9 0 h (by kernel_rfl)) hun))))
            case hK57 => exact ⟨_, hp 30 _ (by kernel_rfl), JV.made hok hJ (.head _) hJ.low, h13⟩
          · rintro l gv W hun hdep hcl ⟨hJ, h13⟩ hg ha hp
            refine' op_val ?h58 ?hw58 ?hr58 ?hK58
            case h58 => rfl
            case hw58 => exact rfl
            case hr58 => exact (ex_move rfl ((eval_tmp (hg 30 (by kernel_rfl))).trans (hJ.lit _ (.head _) (hdep 0 (by kernel_rfl)))))
            case hK58 => exact ⟨_, hp 31 _ (by kernel_rfl), JV.made hok hJ (.tail _ (.head _)) hJ.low, h13⟩
          · rintro l gv W hun hdep hcl ⟨hJ, h13⟩ hg ha hp
            have e31 : gv 31 = .bool false := hJ.lit _ (.tail _ (.head _)) (hdep 1 (by kernel_rfl))
            have h31 := (hg 31 (by kernel_rfl)).trans (congrArg some e31)
            refine' op_val ?h59 ?hw59 ?hr59 ?hK59
            case h59 => rfl
            case hw59 => exact (wants_yes false rfl (by kernel_rfl) h31)
            case hr59 => exact (ex_move rfl (eval_tmp ((ha 3 (by kernel_rfl)).trans rfl)))
            case hK59 => exact ⟨_, hp 32 _ (by kernel_rfl), JV.made hok hJ (.tail _ (.tail _ (.head _))) hJ.low, h13⟩
          · rintro l gv W hun hdep hcl ⟨hJ, h13⟩ hg ha hp
            have e31 : gv 31 = .bool false := hJ.lit _ (.tail _ (.head _)) (hdep 1 (by kernel_rfl))
            have h31 := (hg 31 (by kernel_rfl)).trans (congrArg some e31)
            refine' op_val ?h60 ?hw60 ?hr60 ?hK60
            case h60 => rfl
            case hw60 => exact (wants_yes false rfl (by kernel_rfl) h31)
            case hr60 => exact (ex_move rfl (eval_tmp ((ha 14 (by kernel_rfl)).trans rfl)))
            case hK60 => exact ⟨_, hp 33 _ (by kernel_rfl), JV.made hok hJ (.tail _ (.tail _ (.tail _ (.head _)))) hJ.low, h13⟩
          · rintro l gv W hun hdep hcl ⟨hJ, h13⟩ hg ha hp
            have e31 : gv 31 = .bool false := hJ.lit _ (.tail _ (.head _)) (hdep 1 (by kernel_rfl))
            have h31 := (hg 31 (by kernel_rfl)).trans (congrArg some e31)
            refine' op_val ?h61 ?hw61 ?hr61 ?hK61
            case h61 => rfl
            case hw61 => exact (wants_yes false rfl (by kernel_rfl) h31)
            case hr61 => exact (ex_indexAddr rfl ((eval_tmp (hg 32 (by kernel_rfl))).trans (hJ.lit _ (.tail _ (.tail _ (.head _))) (hdep 2 (by kernel_rfl)))) ((eval_tmp (hg 33 (by kernel_rfl))).trans (hJ.lit _ (.tail _ (.tail _ (.tail _ (.head _)))) (hdep 3 (by kernel_rfl)))) (indexFs hkL))
            case hK61 => exact ⟨_, hp 34 _ (by kernel_rfl), JV.made hok hJ (.tail _ (.tail _ (.tail _ (.tail _ (.head _))))) hJ.low, h13⟩
          · rintro l gv W hun hdep hcl ⟨hJ, h13⟩ hg ha hp
            have e31 : gv 31 = .bool false := hJ.lit _ (.tail _ (.head _)) (hdep 1 (by kernel_rfl))
            have h31 := (hg 31 (by kernel_rfl)).trans (congrArg some e31)
            refine' op_val ?h62 ?hw62 ?hr62 ?hK62
            case h62 => rfl
            case hw62 => exact (wants_yes false rfl (by kernel_rfl) h31)
            case hr62 => exact (ex_load rfl ((eval_tmp (hg 34 (by kernel_rfl))).trans (hJ.lit _ (.tail _ (.tail _ (.tail _ (.tail _ (.head _))))) (hdep 4 (by kernel_rfl)))) (loadFo (cell_below hJ.low l0) (cell_below hJ.low l1) (cell_below hJ.low l2) (cell_below hJ.low l3)))
            case hK62 => exact ⟨_, hp 35 _ (by kernel_rfl), JV.made hok hJ (.tail _ (.tail _ (.tail _ (.tail _ (.tail _ (.head _)))))) hJ.low, h13⟩
          · rintro l gv W hun hdep hcl ⟨hJ, h13⟩ hg ha hp
            have e31 : gv 31 = .bool false := hJ.lit _ (.tail _ (.head _)) (hdep 1 (by kernel_rfl))
            have h31 := (hg 31 (by kernel_rfl)).trans (congrArg some e31)
            refine' op_val ?h63 ?hw63 ?hr63 ?hK63
            case h63 => rfl
            case hw63 => exact (wants_yes false rfl (by kernel_rfl) h31)
            case hr63 => exact (ex_load rfl (eval_tmp ((ha 6 (by kernel_rfl)).trans rfl)) (loadFo (cell_below hJ.low g0) (cell_below hJ.low g1) (cell_below hJ.low g2) (cell_below hJ.low g3)))
            case hK63 => exact ⟨_, hp 36 _ (by kernel_rfl), JV.made hok hJ (.tail _ (.tail _ (.tail _ (.tail _ (.tail _ (.tail _ (.head _))))))) hJ.low, h13⟩
          · rintro l gv W hun hdep hcl ⟨hJ, h13⟩ hg ha hp
            have e31 : gv 31 = .bool false := hJ.lit _ (.tail _ (.head _)) (hdep 1 (by kernel_rfl))
            have h31 := (hg 31 (by kernel_rfl)).trans (congrArg some e31)
            refine' op_call ?h64 ?hw64 ?hr64 ?hc64
            case h64 => rfl
            case hw64 => exact (wants_yes false rfl (by kernel_rfl) h31)
            case hr64 => exact (ex_call2 (enters_of Tryd.func12 (by kernel_rfl) rfl) rfl ((eval_tmp (hg 35 (by kernel_rfl))).trans (hJ.lit _ (.tail _ (.tail _ (.tail _ (.tail _ (.tail _ (.head _)))))) (hdep 5 (by kernel_rfl)))) ((eval_tmp (hg 36 (by kernel_rfl))).trans (hJ.lit _ (.tail _ (.tail _ (.tail _ (.tail _ (.tail _ (.tail _ (.head _))))))) (hdep 6 (by kernel_rfl)))))
            refine ((sameF_any _ _ _ _ W (FVal.below hJ.low lv) (FVal.below hJ.low gv') sK sg).mono ?_)
            rintro e W' ⟨rfl, hb⟩
            exact ⟨_, rfl, _, hp 37 _ (by kernel_rfl), JV.made hok hJ (.tail _ (.tail _ (.tail _ (.tail _ (.tail _ (.tail _ (.tail _ (.head _)))))))) (bel_step hJ.low hb), h13⟩
          · rintro l gv W hun hdep hcl ⟨hJ, h13⟩ hg ha hp
            refine' op_val ?h65 ?hw65 ?hr65 ?hK65
            case h65 => rfl
            case hw65 => exact rfl
            case hr65 => exact (ex_pickF rfl ((eval_tmp (hg 31 (by kernel_rfl))).trans (hJ.lit _ (.tail _ (.head _)) (hdep 1 (by kernel_rfl)))) ((eval_tmp (hg 37 (by kernel_rfl))).trans (hJ.lit _ (.tail _ (.tail _ (.tail _ (.tail _ (.tail _ (.tail _ (.tail _ (.head _)))))))) (hdep 7 (by kernel_rfl)))))
            case hK65 => exact ⟨_, hp 38 _ (by kernel_rfl), JV.made hok hJ (.tail _ (.tail _ (.tail _ (.tail _ (.tail _ (.tail _ (.tail _ (.tail _ (.head _))))))))) hJ.low, h13⟩
          · rintro l gv W hun hdep hcl ⟨hJ, h13⟩ hg ha hp
            refine' op_val ?h66 ?hw66 ?hr66 ?hK66
            case h66 => rfl
            case hw66 => exact rfl
            case hr66 => exact (ex_assign rfl ((eval_tmp (hg 38 (by kernel_rfl))).trans (hJ.lit _ (.tail _ (.tail _ (.tail _ (.tail _ (.tail _ (.tail _ (.tail _ (.tail _ (.head _))))))))) (hdep 8 (by kernel_rfl)))))
            case hK66 => exact ⟨_, hp 13 _ (by kernel_rfl), JV.made hok hJ (.tail _ (.tail _ (.tail _ (.tail _ (.tail _ (.tail _ (.tail _ (.tail _ (.tail _ (.head _)))))))))) hJ.low, fun h => (by cases h)⟩
        case hend =>
          rintro ll gv W9 hl ⟨hJ, -⟩
          have e30 := hJ.lit _ (.head _) (hl 0 (of_decide_eq_true (by kernel_rfl)))
          have e31 := hJ.lit _ (.tail _ (.head _)) (hl 1 (of_decide_eq_true (by kernel_rfl)))
          have e32 := hJ.lit _ (.tail _ (.tail _ (.head _))) (hl 2 (of_decide_eq_true (by kernel_rfl)))
          have e33 := hJ.lit _ (.tail _ (.tail _ (.tail _ (.head _)))) (hl 3 (of_decide_eq_true (by kernel_rfl)))
          have e34 := hJ.lit _ (.tail _ (.tail _ (.tail _ (.tail _ (.head _))))) (hl 4 (of_decide_eq_true (by kernel_rfl)))
          have e35 := hJ.lit _ (.tail _ (.tail _ (.tail _ (.tail _ (.tail _ (.head _)))))) (hl 5 (of_decide_eq_true (by kernel_rfl)))
          have e36 := hJ.lit _ (.tail _ (.tail _ (.tail _ (.tail _ (.tail _ (.tail _ (.head _))))))) (hl 6 (of_decide_eq_true (by kernel_rfl)))
          have e37 := hJ.lit _ (.tail _ (.tail _ (.tail _ (.tail _ (.tail _ (.tail _ (.tail _ (.head _)))))))) (hl 7 (of_decide_eq_true (by kernel_rfl)))
          have e38 := hJ.lit _ (.tail _ (.tail _ (.tail _ (.tail _ (.tail _ (.tail _ (.tail _ (.tail _ (.head _))))))))) (hl 8 (of_decide_eq_true (by kernel_rfl)))
          have e13 := hJ.lit _ (.tail _ (.tail _ (.tail _ (.tail _ (.tail _ (.tail _ (.tail _ (.tail _ (.tail _ (.head _)))))))))) (hl 9 (of_decide_eq_true (by kernel_rfl)))
          simp only at e30 e31 e32 e33 e34 e35 e36 e37 e38 e13
          simp only [zipV, List.map_cons, List.map_nil, puts, Act.put, List.setIfInBounds_toArray, List.set_cons_succ, List.set_cons_zero, e30, e31, e32, e33, e34, e35, e36, e37, e38, e13]
          have hlow := Lib.hid hJ.low
          clear e30 e31 e32 e33 e34 e35 e36 e37 e38 e13 hJ hl
          have hres : Hid (((L.get k).eqB g) = anyK L g (k + 1)) := Lib.hid (by rw [anyK_succ, hbk.out]; simp)
          go_wp2_with fail
          go_roundw
          case rel => exact ⟨k + 1, by rw [hres.out], by congr 1, by omega, bel_step hW4r.out hlow.out⟩
          case measure => simp [intOf]; omega
theorem placed_any (left : Nat) : Placed left := by
  induction left using Nat.strongRecOn with
  | _ n ih => exact placed_step n ih
end Go.Proofs.YtngdieldgnlogaaDoor
