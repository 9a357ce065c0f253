/- SeedWrong's walk: what is out of range, wrong or too long is rejected. -/
import Derived.Test.YthalafjbkmemhaaDoorX9
import Derived.Test.YthalafjbkmemhaaDoorW4
namespace Go.Proofs.YthalafjbkmemhaaDoor
open Go Go.RowKit
set_option maxRecDepth 100000
theorem BK.mk2 {key : Int} {w W : World} {g : Nat} (h : BK key w g W) (o : Obj) : BK key w g (W.alloc o) := h.next (Below.alloc (Below.refl _ _) (Nat.le_refl _) _)
theorem cells_new (w : World) (cs : Array Value) (t : TypeId) (W : World) (hb : Below (w.heap.size + 1) (w.alloc (.cells cs t)) W) (i : Nat) : W.cell? ⟨w.heap.size, i, none⟩ = cs[i]? :=
  (hb.cell (p := ⟨w.heap.size, i, none⟩) (by simp)).trans (cell_new w cs t i)
set_option maxHeartbeats 8000000 in
theorem wrong_0 (key n : Int) (s : ByteArray) (w : World) (h : Stp w) (n0 : -9223372036854775808 ≤ n) (n1 : n ≤ -1) (hm : s.size ≤ 140737488351232) :
    Calls Tryd.prog 11 #[.int .u64 key, .int .i64 n, .string s] w fun e w' => e = .returned (.bool true) ∧ Below w.heap.size w w' := by
  have hst := h
  go_enter Tryd.func11, Tryd.ntmps11
  go_wp2_with fail
  refine (awake_any w hst).mono ?_
  rintro en W1 ⟨rfl, hb1⟩
  go_wp2_with fail
  have hA1 := BK.new key w W1 hst hb1
  generalize hg : W1.heap.size = g at hA1 ⊢
  generalize (W1.alloc (.cells #[.int .u64 key] 33)) = W2 at hA1 ⊢
  clear hg hb1
  with_reducible refine (word_no key _ W2 (by omega)).mono ?_
  rintro en W3 ⟨rfl, hb3⟩
  have hA3 := hA1.next hb3
  clear hA1 hb3
  have k3 := hA3.cell
  go_wp2_with fail
  with_reducible refine (word_no key _ W3 (by omega)).mono ?_
  rintro en W4 ⟨rfl, hb4⟩
  have hA4 := hA3.next hb4
  clear hA3 hb4 k3
  go_wp2_with fail
  generalize hWn : W4.alloc (.cells #[.int .i64 n, .int .i64 1099511627777] 3) = W5
  have hc0 : W5.cell? ⟨W4.heap.size, 0, none⟩ = some (.int .i64 n) := by rw [← hWn]; exact cell_new W4 _ 3 0
  have hc1 : W5.cell? ⟨W4.heap.size, 1, none⟩ = some (.int .i64 1099511627777) := by rw [← hWn]; exact cell_new W4 _ 3 1
  have hA5 : BK key w g W5 := by rw [← hWn]; exact hA4.mk2 _
  have hlt5 : W4.heap.size < W5.heap.size := by rw [← hWn]; simp
  clear hWn hA4
  generalize W4.heap.size = g5 at hc0 hc1 hlt5 ⊢
  go_loopw [97] (fun a wr => ∃ j : Nat, j ≤ 2 ∧ a = .int .i64 j ∧ Below W5.heap.size W5 wr) (fun a _ => 2 - (intOf a).toNat)
  case atStart => exact ⟨0, by omega, rfl, Below.refl _ _⟩
  case round =>
    obtain ⟨j, hj, rfl, hbw⟩ := hrel
    have hB := hA5.next hbw
    by_cases hlt : j < 2
    · obtain ⟨x, hx, hcx⟩ : ∃ x : Int, (¬ (0 ≤ x ∧ x ≤ 1099511627776)) ∧ wr.cell? ⟨g5, j, none⟩ = some (.int .i64 x) := by
        rcases (show j = 0 ∨ j = 1 by omega) with rfl | rfl
        · exact ⟨_, by omega, (hbw.cell (p := ⟨g5, 0, none⟩) hlt5).trans hc0⟩
        · exact ⟨_, by omega, (hbw.cell (p := ⟨g5, 1, none⟩) hlt5).trans hc1⟩
      have HX := Lib.hid hx
      have k0 := hB.cell
      clear hc0 hc1 hx hA5
      go_wp2_with fail
      with_reducible refine (below_no key _ 5 wr (.inl HX.out)).mono ?_
      rintro en V1 ⟨rfl, b1⟩
      have B1 := hB.next b1
      have t1 := hbw.trans (b1.mono hbw.size)
      clear hB hbw b1 k0 hcx
      have k0 := B1.cell
      go_wp2_with fail
      with_reducible refine (perm_no key _ 0 V1 (.inl HX.out)).mono ?_
      rintro en V2 ⟨rfl, b2⟩
      have B2 := B1.next b2
      have t2 := t1.trans (b2.mono t1.size)
      clear B1 b2 t1 k0
      have k0 := B2.cell
      go_wp2_with fail
      with_reducible refine (choose_no key _ 0 0 V2 (.inl HX.out)).mono ?_
      rintro en V3 ⟨rfl, b3⟩
      have B3 := B2.next b3
      have t3 := t2.trans (b3.mono t2.size)
      clear B2 b3 t2 k0
      have k0 := B3.cell
      go_wp2_with fail
      have B4 := B3.mk2 (.cells #[.int .i64 1] 3)
      have t4 := t3.trans ((Below.alloc (Below.refl _ _) (Nat.le_refl _) (.cells #[.int .i64 1] 3)).mono t3.size)
      refine (weigh_no key _ _ [1] _ (rd_new V3 [1] 3) (by decide) (.inl HX.out)).mono ?_
      rintro en V4 ⟨rfl, b5⟩
      have t5 := t4.trans (b5.mono t4.size)
      clear B3 B4 b5 t4 t3 k0
      go_wp2_with fail
      go_roundw
      case rel => exact ⟨j + 1, by omega, by go_num, t5⟩
      case measure => simp [intOf]; omega
    · clear hc0 hc1 hA5
      have k0 := hB.cell
      go_wp2_with fail
      clear hbw
      generalize wr = Z0 at hB k0 ⊢
      with_reducible refine (below_no key 0 _ Z0 (.inr (by omega))).mono ?_
      rintro en Z1 ⟨rfl, b1⟩
      have B1 := hB.next b1
      clear hB b1 k0
      have k0 := B1.cell
      go_wp2_with fail
      with_reducible refine (perm_no key 0 _ Z1 (.inr (by omega))).mono ?_
      rintro en Z2 ⟨rfl, b2⟩
      have B2 := B1.next b2
      clear B1 b2 k0
      have k0 := B2.cell
      go_wp2_with fail
      with_reducible refine (perm_no key 0 _ Z2 (.inr (by omega))).mono ?_
      rintro en Z3 ⟨rfl, b3⟩
      have B3 := B2.next b3
      clear B2 b3 k0
      have k0 := B3.cell
      go_wp2_with fail
      with_reducible refine (choose_no key 0 5 _ Z3 (.inr (by omega))).mono ?_
      rintro en Z4 ⟨rfl, b4⟩
      have B4 := B3.next b4
      clear B3 b4 k0
      have k0 := B4.cell
      go_wp2_with fail
      with_reducible refine (choose_no key 0 5 _ Z4 (.inr (by omega))).mono ?_
      rintro en Z5 ⟨rfl, b5⟩
      have B5 := B4.next b5
      clear B4 b5 k0
      have k0 := B5.cell
      go_wp2_with fail
      have B6 := B5.mk2 (.cells #[.int .i64 3, .int .i64 n] 3)
      refine (weigh_no key 0 _ [3, n] _ (rd_new Z5 [3, n] 3) (by simp) (.inr (by simp [sumB, okW] <;> omega))).mono ?_
      rintro en Z6 ⟨rfl, b6⟩
      have B7 := B6.next b6
      clear B6 B5 b6 k0
      have k0 := B7.cell
      go_wp2_with fail
      have B8 := B7.mk2 (.cells #[.int .i64 0, .int .i64 0] 3)
      refine (weigh_no key 0 _ [0, 0] _ (rd_new Z6 [0, 0] 3) (by simp) (.inr (by decide))).mono ?_
      rintro en Z7 ⟨rfl, b7⟩
      have B9 := B8.next b7
      clear B8 B7 b7 k0
      have k0 := B9.cell
      go_wp2_with fail
      have C1 := B9.mk2 (.cells #[.int .i64 1099511627777] 3)
      refine (weigh_no key 0 _ [1099511627777] _ (rd_new Z7 [1099511627777] 3) (by simp) (.inr (by simp [sumB, okW] <;> omega))).mono ?_
      rintro en Z8 ⟨rfl, b8⟩
      have C2 := C1.next b8
      clear C1 B9 b8 k0
      have k0 := C2.cell
      go_wp2_with fail
      refine (sub_empty key _ Z8 rfl).mono ?_
      rintro en Z9 ⟨rfl, b9⟩
      have C3 := C2.next b9
      clear C2 b9 k0
      have k0 := C3.cell
      have gl := C3.lt
      go_wp2_with fail
      have C4 := C3.mk2 (.cells #[.int .u64 0] 33)
      have hz := cell_new Z9 #[.int .u64 0] 33 0
      have hzl : Z9.heap.size < (Z9.alloc (.cells #[.int .u64 0] 33)).heap.size := by simp
      refine (sub_long key _ _ (by rw [ByteArray.size_append]; show 32 < 33 + s.size; omega) (by rw [ByteArray.size_append]; show 33 + s.size ≤ 9223372036854775807; omega)).mono ?_
      rintro en Y1 ⟨rfl, b10⟩
      have C5 := C4.next b10
      have hz1 : Y1.cell? ⟨Z9.heap.size, 0, none⟩ = some (.int .u64 0) := (b10.cell (p := ⟨Z9.heap.size, 0, none⟩) hzl).trans hz
      have hzl1 : Z9.heap.size < Y1.heap.size := Nat.lt_of_lt_of_le hzl b10.size
      clear C4 C3 b10 k0 gl hz hzl
      generalize Z9.heap.size = g52 at hz1 hzl1 ⊢
      go_wp2_with fail
      refine wp_loop_rounds 10 ?_
      iterate 9
        rw [rounds_succ]
        go_wp2
      rw [rounds_succ]
      go_wp2
      go_ret
      exact ⟨rfl, C5.below.trans (Below.alloc (Below.alloc (Below.refl _ _) C5.below.size _) (by simp; have := C5.below.size; omega) _)⟩
set_option maxHeartbeats 8000000 in
theorem wrong_1 (key n : Int) (s : ByteArray) (w : World) (h : Stp w) (n0 : 0 ≤ n) (n1 : n ≤ 0) (hm : s.size ≤ 140737488351232) :
    Calls Tryd.prog 11 #[.int .u64 key, .int .i64 n, .string s] w fun e w' => e = .returned (.bool true) ∧ Below w.heap.size w w' := by
  have hst := h
  go_enter Tryd.func11, Tryd.ntmps11
  go_wp2_with fail
  refine (awake_any w hst).mono ?_
  rintro en W1 ⟨rfl, hb1⟩
  go_wp2_with fail
  have hA1 := BK.new key w W1 hst hb1
  generalize hg : W1.heap.size = g at hA1 ⊢
  generalize (W1.alloc (.cells #[.int .u64 key] 33)) = W2 at hA1 ⊢
  clear hg hb1
  with_reducible refine (word_no key _ W2 (by omega)).mono ?_
  rintro en W3 ⟨rfl, hb3⟩
  have hA3 := hA1.next hb3
  clear hA1 hb3
  have k3 := hA3.cell
  go_wp2_with fail
  with_reducible refine (word_no key _ W3 (by omega)).mono ?_
  rintro en W4 ⟨rfl, hb4⟩
  have hA4 := hA3.next hb4
  clear hA3 hb4 k3
  go_wp2_with fail
  generalize hWn : W4.alloc (.cells #[.int .i64 (-1), .int .i64 1099511627777] 3) = W5
  have hc0 : W5.cell? ⟨W4.heap.size, 0, none⟩ = some (.int .i64 (-1)) := by rw [← hWn]; exact cell_new W4 _ 3 0
  have hc1 : W5.cell? ⟨W4.heap.size, 1, none⟩ = some (.int .i64 1099511627777) := by rw [← hWn]; exact cell_new W4 _ 3 1
  have hA5 : BK key w g W5 := by rw [← hWn]; exact hA4.mk2 _
  have hlt5 : W4.heap.size < W5.heap.size := by rw [← hWn]; simp
  clear hWn hA4
  generalize W4.heap.size = g5 at hc0 hc1 hlt5 ⊢
  go_loopw [97] (fun a wr => ∃ j : Nat, j ≤ 2 ∧ a = .int .i64 j ∧ Below W5.heap.size W5 wr) (fun a _ => 2 - (intOf a).toNat)
  case atStart => exact ⟨0, by omega, rfl, Below.refl _ _⟩
  case round =>
    obtain ⟨j, hj, rfl, hbw⟩ := hrel
    have hB := hA5.next hbw
    by_cases hlt : j < 2
    · obtain ⟨x, hx, hcx⟩ : ∃ x : Int, (¬ (0 ≤ x ∧ x ≤ 1099511627776)) ∧ wr.cell? ⟨g5, j, none⟩ = some (.int .i64 x) := by
        rcases (show j = 0 ∨ j = 1 by omega) with rfl | rfl
        · exact ⟨_, by omega, (hbw.cell (p := ⟨g5, 0, none⟩) hlt5).trans hc0⟩
        · exact ⟨_, by omega, (hbw.cell (p := ⟨g5, 1, none⟩) hlt5).trans hc1⟩
      have HX := Lib.hid hx
      have k0 := hB.cell
      clear hc0 hc1 hx hA5
      go_wp2_with fail
      with_reducible refine (below_no key _ 5 wr (.inl HX.out)).mono ?_
      rintro en V1 ⟨rfl, b1⟩
      have B1 := hB.next b1
      have t1 := hbw.trans (b1.mono hbw.size)
      clear hB hbw b1 k0 hcx
      have k0 := B1.cell
      go_wp2_with fail
      with_reducible refine (perm_no key _ 0 V1 (.inl HX.out)).mono ?_
      rintro en V2 ⟨rfl, b2⟩
      have B2 := B1.next b2
      have t2 := t1.trans (b2.mono t1.size)
      clear B1 b2 t1 k0
      have k0 := B2.cell
      go_wp2_with fail
      with_reducible refine (choose_no key _ 0 0 V2 (.inl HX.out)).mono ?_
      rintro en V3 ⟨rfl, b3⟩
      have B3 := B2.next b3
      have t3 := t2.trans (b3.mono t2.size)
      clear B2 b3 t2 k0
      have k0 := B3.cell
      go_wp2_with fail
      have B4 := B3.mk2 (.cells #[.int .i64 1] 3)
      have t4 := t3.trans ((Below.alloc (Below.refl _ _) (Nat.le_refl _) (.cells #[.int .i64 1] 3)).mono t3.size)
      refine (weigh_no key _ _ [1] _ (rd_new V3 [1] 3) (by decide) (.inl HX.out)).mono ?_
      rintro en V4 ⟨rfl, b5⟩
      have t5 := t4.trans (b5.mono t4.size)
      clear B3 B4 b5 t4 t3 k0
      go_wp2_with fail
      go_roundw
      case rel => exact ⟨j + 1, by omega, by go_num, t5⟩
      case measure => simp [intOf]; omega
    · clear hc0 hc1 hA5
      have k0 := hB.cell
      go_wp2_with fail
      clear hbw
      generalize wr = Z0 at hB k0 ⊢
      with_reducible refine (below_no key 0 _ Z0 (.inr (by omega))).mono ?_
      rintro en Z1 ⟨rfl, b1⟩
      have B1 := hB.next b1
      clear hB b1 k0
      have k0 := B1.cell
      go_wp2_with fail
      with_reducible refine (perm_no key 0 _ Z1 (.inr (by omega))).mono ?_
      rintro en Z2 ⟨rfl, b2⟩
      have B2 := B1.next b2
      clear B1 b2 k0
      have k0 := B2.cell
      go_wp2_with fail
      with_reducible refine (perm_no key 0 _ Z2 (.inr (by omega))).mono ?_
      rintro en Z3 ⟨rfl, b3⟩
      have B3 := B2.next b3
      clear B2 b3 k0
      have k0 := B3.cell
      go_wp2_with fail
      with_reducible refine (choose_no key 0 5 _ Z3 (.inr (by omega))).mono ?_
      rintro en Z4 ⟨rfl, b4⟩
      have B4 := B3.next b4
      clear B3 b4 k0
      have k0 := B4.cell
      go_wp2_with fail
      with_reducible refine (choose_no key 0 5 _ Z4 (.inr (by omega))).mono ?_
      rintro en Z5 ⟨rfl, b5⟩
      have B5 := B4.next b5
      clear B4 b5 k0
      have k0 := B5.cell
      go_wp2_with fail
      have B6 := B5.mk2 (.cells #[.int .i64 3, .int .i64 (-1)] 3)
      refine (weigh_no key 0 _ [3, (-1)] _ (rd_new Z5 [3, (-1)] 3) (by simp) (.inr (by simp [sumB, okW] <;> omega))).mono ?_
      rintro en Z6 ⟨rfl, b6⟩
      have B7 := B6.next b6
      clear B6 B5 b6 k0
      have k0 := B7.cell
      go_wp2_with fail
      have B8 := B7.mk2 (.cells #[.int .i64 0, .int .i64 0] 3)
      refine (weigh_no key 0 _ [0, 0] _ (rd_new Z6 [0, 0] 3) (by simp) (.inr (by decide))).mono ?_
      rintro en Z7 ⟨rfl, b7⟩
      have B9 := B8.next b7
      clear B8 B7 b7 k0
      have k0 := B9.cell
      go_wp2_with fail
      have C1 := B9.mk2 (.cells #[.int .i64 1099511627777] 3)
      refine (weigh_no key 0 _ [1099511627777] _ (rd_new Z7 [1099511627777] 3) (by simp) (.inr (by simp [sumB, okW] <;> omega))).mono ?_
      rintro en Z8 ⟨rfl, b8⟩
      have C2 := C1.next b8
      clear C1 B9 b8 k0
      have k0 := C2.cell
      go_wp2_with fail
      refine (sub_empty key _ Z8 rfl).mono ?_
      rintro en Z9 ⟨rfl, b9⟩
      have C3 := C2.next b9
      clear C2 b9 k0
      have k0 := C3.cell
      have gl := C3.lt
      go_wp2_with fail
      have C4 := C3.mk2 (.cells #[.int .u64 0] 33)
      have hz := cell_new Z9 #[.int .u64 0] 33 0
      have hzl : Z9.heap.size < (Z9.alloc (.cells #[.int .u64 0] 33)).heap.size := by simp
      refine (sub_long key _ _ (by rw [ByteArray.size_append]; show 32 < 33 + s.size; omega) (by rw [ByteArray.size_append]; show 33 + s.size ≤ 9223372036854775807; omega)).mono ?_
      rintro en Y1 ⟨rfl, b10⟩
      have C5 := C4.next b10
      have hz1 : Y1.cell? ⟨Z9.heap.size, 0, none⟩ = some (.int .u64 0) := (b10.cell (p := ⟨Z9.heap.size, 0, none⟩) hzl).trans hz
      have hzl1 : Z9.heap.size < Y1.heap.size := Nat.lt_of_lt_of_le hzl b10.size
      clear C4 C3 b10 k0 gl hz hzl
      generalize Z9.heap.size = g52 at hz1 hzl1 ⊢
      go_wp2_with fail
      refine wp_loop_rounds 10 ?_
      iterate 9
        rw [rounds_succ]
        go_wp2
      rw [rounds_succ]
      go_wp2
      go_ret
      exact ⟨rfl, C5.below.trans (Below.alloc (Below.alloc (Below.refl _ _) C5.below.size _) (by simp; have := C5.below.size; omega) _)⟩
set_option maxHeartbeats 8000000 in
theorem wrong_2 (key n : Int) (s : ByteArray) (w : World) (h : Stp w) (n0 : 1 ≤ n) (n1 : n ≤ 5) (hm : s.size ≤ 140737488351232) :
    Calls Tryd.prog 11 #[.int .u64 key, .int .i64 n, .string s] w fun e w' => e = .returned (.bool true) ∧ Below w.heap.size w w' := by
  have hst := h
  go_enter Tryd.func11, Tryd.ntmps11
  go_wp2_with fail
  refine (awake_any w hst).mono ?_
  rintro en W1 ⟨rfl, hb1⟩
  go_wp2_with fail
  have hA1 := BK.new key w W1 hst hb1
  generalize hg : W1.heap.size = g at hA1 ⊢
  generalize (W1.alloc (.cells #[.int .u64 key] 33)) = W2 at hA1 ⊢
  clear hg hb1
  with_reducible refine (word_no key _ W2 (by omega)).mono ?_
  rintro en W3 ⟨rfl, hb3⟩
  have hA3 := hA1.next hb3
  clear hA1 hb3
  have k3 := hA3.cell
  go_wp2_with fail
  with_reducible refine (word_no key _ W3 (by omega)).mono ?_
  rintro en W4 ⟨rfl, hb4⟩
  have hA4 := hA3.next hb4
  clear hA3 hb4 k3
  go_wp2_with fail
  generalize hWn : W4.alloc (.cells #[.int .i64 (-1), .int .i64 1099511627777] 3) = W5
  have hc0 : W5.cell? ⟨W4.heap.size, 0, none⟩ = some (.int .i64 (-1)) := by rw [← hWn]; exact cell_new W4 _ 3 0
  have hc1 : W5.cell? ⟨W4.heap.size, 1, none⟩ = some (.int .i64 1099511627777) := by rw [← hWn]; exact cell_new W4 _ 3 1
  have hA5 : BK key w g W5 := by rw [← hWn]; exact hA4.mk2 _
  have hlt5 : W4.heap.size < W5.heap.size := by rw [← hWn]; simp
  clear hWn hA4
  generalize W4.heap.size = g5 at hc0 hc1 hlt5 ⊢
  go_loopw [97] (fun a wr => ∃ j : Nat, j ≤ 2 ∧ a = .int .i64 j ∧ Below W5.heap.size W5 wr) (fun a _ => 2 - (intOf a).toNat)
  case atStart => exact ⟨0, by omega, rfl, Below.refl _ _⟩
  case round =>
    obtain ⟨j, hj, rfl, hbw⟩ := hrel
    have hB := hA5.next hbw
    by_cases hlt : j < 2
    · obtain ⟨x, hx, hcx⟩ : ∃ x : Int, (¬ (0 ≤ x ∧ x ≤ 1099511627776)) ∧ wr.cell? ⟨g5, j, none⟩ = some (.int .i64 x) := by
        rcases (show j = 0 ∨ j = 1 by omega) with rfl | rfl
        · exact ⟨_, by omega, (hbw.cell (p := ⟨g5, 0, none⟩) hlt5).trans hc0⟩
        · exact ⟨_, by omega, (hbw.cell (p := ⟨g5, 1, none⟩) hlt5).trans hc1⟩
      have HX := Lib.hid hx
      have k0 := hB.cell
      clear hc0 hc1 hx hA5
      go_wp2_with fail
      with_reducible refine (below_no key _ 5 wr (.inl HX.out)).mono ?_
      rintro en V1 ⟨rfl, b1⟩
      have B1 := hB.next b1
      have t1 := hbw.trans (b1.mono hbw.size)
      clear hB hbw b1 k0 hcx
      have k0 := B1.cell
      go_wp2_with fail
      with_reducible refine (perm_no key _ 0 V1 (.inl HX.out)).mono ?_
      rintro en V2 ⟨rfl, b2⟩
      have B2 := B1.next b2
      have t2 := t1.trans (b2.mono t1.size)
      clear B1 b2 t1 k0
      have k0 := B2.cell
      go_wp2_with fail
      with_reducible refine (choose_no key _ 0 0 V2 (.inl HX.out)).mono ?_
      rintro en V3 ⟨rfl, b3⟩
      have B3 := B2.next b3
      have t3 := t2.trans (b3.mono t2.size)
      clear B2 b3 t2 k0
      have k0 := B3.cell
      go_wp2_with fail
      have B4 := B3.mk2 (.cells #[.int .i64 1] 3)
      have t4 := t3.trans ((Below.alloc (Below.refl _ _) (Nat.le_refl _) (.cells #[.int .i64 1] 3)).mono t3.size)
      refine (weigh_no key _ _ [1] _ (rd_new V3 [1] 3) (by decide) (.inl HX.out)).mono ?_
      rintro en V4 ⟨rfl, b5⟩
      have t5 := t4.trans (b5.mono t4.size)
      clear B3 B4 b5 t4 t3 k0
      go_wp2_with fail
      go_roundw
      case rel => exact ⟨j + 1, by omega, by go_num, t5⟩
      case measure => simp [intOf]; omega
    · clear hc0 hc1 hA5
      have k0 := hB.cell
      go_wp2_with fail
      clear hbw
      generalize wr = Z0 at hB k0 ⊢
      with_reducible refine (below_no key 0 _ Z0 (.inr (by omega))).mono ?_
      rintro en Z1 ⟨rfl, b1⟩
      have B1 := hB.next b1
      clear hB b1 k0
      have k0 := B1.cell
      go_wp2_with fail
      with_reducible refine (perm_no key 0 _ Z1 (.inr (by omega))).mono ?_
      rintro en Z2 ⟨rfl, b2⟩
      have B2 := B1.next b2
      clear B1 b2 k0
      have k0 := B2.cell
      go_wp2_with fail
      with_reducible refine (perm_no key 0 _ Z2 (.inr (by omega))).mono ?_
      rintro en Z3 ⟨rfl, b3⟩
      have B3 := B2.next b3
      clear B2 b3 k0
      have k0 := B3.cell
      go_wp2_with fail
      with_reducible refine (choose_no key 0 5 _ Z3 (.inr (by omega))).mono ?_
      rintro en Z4 ⟨rfl, b4⟩
      have B4 := B3.next b4
      clear B3 b4 k0
      have k0 := B4.cell
      go_wp2_with fail
      with_reducible refine (choose_no key 0 5 _ Z4 (.inr (by omega))).mono ?_
      rintro en Z5 ⟨rfl, b5⟩
      have B5 := B4.next b5
      clear B4 b5 k0
      have k0 := B5.cell
      go_wp2_with fail
      have B6 := B5.mk2 (.cells #[.int .i64 3, .int .i64 (-1)] 3)
      refine (weigh_no key 0 _ [3, (-1)] _ (rd_new Z5 [3, (-1)] 3) (by simp) (.inr (by simp [sumB, okW] <;> omega))).mono ?_
      rintro en Z6 ⟨rfl, b6⟩
      have B7 := B6.next b6
      clear B6 B5 b6 k0
      have k0 := B7.cell
      go_wp2_with fail
      have B8 := B7.mk2 (.cells #[.int .i64 0, .int .i64 0] 3)
      refine (weigh_no key 0 _ [0, 0] _ (rd_new Z6 [0, 0] 3) (by simp) (.inr (by decide))).mono ?_
      rintro en Z7 ⟨rfl, b7⟩
      have B9 := B8.next b7
      clear B8 B7 b7 k0
      have k0 := B9.cell
      go_wp2_with fail
      have C1 := B9.mk2 (.cells #[.int .i64 1099511627777] 3)
      refine (weigh_no key 0 _ [1099511627777] _ (rd_new Z7 [1099511627777] 3) (by simp) (.inr (by simp [sumB, okW] <;> omega))).mono ?_
      rintro en Z8 ⟨rfl, b8⟩
      have C2 := C1.next b8
      clear C1 B9 b8 k0
      have k0 := C2.cell
      go_wp2_with fail
      refine (sub_empty key _ Z8 rfl).mono ?_
      rintro en Z9 ⟨rfl, b9⟩
      have C3 := C2.next b9
      clear C2 b9 k0
      have k0 := C3.cell
      have gl := C3.lt
      go_wp2_with fail
      have C4 := C3.mk2 (.cells #[.int .u64 0] 33)
      have hz := cell_new Z9 #[.int .u64 0] 33 0
      have hzl : Z9.heap.size < (Z9.alloc (.cells #[.int .u64 0] 33)).heap.size := by simp
      refine (sub_long key _ _ (by rw [ByteArray.size_append]; show 32 < 33 + s.size; omega) (by rw [ByteArray.size_append]; show 33 + s.size ≤ 9223372036854775807; omega)).mono ?_
      rintro en Y1 ⟨rfl, b10⟩
      have C5 := C4.next b10
      have hz1 : Y1.cell? ⟨Z9.heap.size, 0, none⟩ = some (.int .u64 0) := (b10.cell (p := ⟨Z9.heap.size, 0, none⟩) hzl).trans hz
      have hzl1 : Z9.heap.size < Y1.heap.size := Nat.lt_of_lt_of_le hzl b10.size
      clear C4 C3 b10 k0 gl hz hzl
      generalize Z9.heap.size = g52 at hz1 hzl1 ⊢
      go_wp2_with fail
      refine wp_loop_rounds 10 ?_
      iterate 9
        rw [rounds_succ]
        go_wp2
      rw [rounds_succ]
      go_wp2
      go_ret
      exact ⟨rfl, C5.below.trans (Below.alloc (Below.alloc (Below.refl _ _) C5.below.size _) (by simp; have := C5.below.size; omega) _)⟩
set_option maxHeartbeats 8000000 in
theorem wrong_3 (key n : Int) (s : ByteArray) (w : World) (h : Stp w) (n0 : 6 ≤ n) (n1 : n ≤ 1000) (hm : s.size ≤ 140737488351232) :
    Calls Tryd.prog 11 #[.int .u64 key, .int .i64 n, .string s] w fun e w' => e = .returned (.bool true) ∧ Below w.heap.size w w' := by
  have hst := h
  go_enter Tryd.func11, Tryd.ntmps11
  go_wp2_with fail
  refine (awake_any w hst).mono ?_
  rintro en W1 ⟨rfl, hb1⟩
  go_wp2_with fail
  have hA1 := BK.new key w W1 hst hb1
  generalize hg : W1.heap.size = g at hA1 ⊢
  generalize (W1.alloc (.cells #[.int .u64 key] 33)) = W2 at hA1 ⊢
  clear hg hb1
  with_reducible refine (word_no key _ W2 (by omega)).mono ?_
  rintro en W3 ⟨rfl, hb3⟩
  have hA3 := hA1.next hb3
  clear hA1 hb3
  have k3 := hA3.cell
  go_wp2_with fail
  with_reducible refine (word_no key _ W3 (by omega)).mono ?_
  rintro en W4 ⟨rfl, hb4⟩
  have hA4 := hA3.next hb4
  clear hA3 hb4 k3
  go_wp2_with fail
  generalize hWn : W4.alloc (.cells #[.int .i64 (-1), .int .i64 1099511627777] 3) = W5
  have hc0 : W5.cell? ⟨W4.heap.size, 0, none⟩ = some (.int .i64 (-1)) := by rw [← hWn]; exact cell_new W4 _ 3 0
  have hc1 : W5.cell? ⟨W4.heap.size, 1, none⟩ = some (.int .i64 1099511627777) := by rw [← hWn]; exact cell_new W4 _ 3 1
  have hA5 : BK key w g W5 := by rw [← hWn]; exact hA4.mk2 _
  have hlt5 : W4.heap.size < W5.heap.size := by rw [← hWn]; simp
  clear hWn hA4
  generalize W4.heap.size = g5 at hc0 hc1 hlt5 ⊢
  go_loopw [97] (fun a wr => ∃ j : Nat, j ≤ 2 ∧ a = .int .i64 j ∧ Below W5.heap.size W5 wr) (fun a _ => 2 - (intOf a).toNat)
  case atStart => exact ⟨0, by omega, rfl, Below.refl _ _⟩
  case round =>
    obtain ⟨j, hj, rfl, hbw⟩ := hrel
    have hB := hA5.next hbw
    by_cases hlt : j < 2
    · obtain ⟨x, hx, hcx⟩ : ∃ x : Int, (¬ (0 ≤ x ∧ x ≤ 1099511627776)) ∧ wr.cell? ⟨g5, j, none⟩ = some (.int .i64 x) := by
        rcases (show j = 0 ∨ j = 1 by omega) with rfl | rfl
        · exact ⟨_, by omega, (hbw.cell (p := ⟨g5, 0, none⟩) hlt5).trans hc0⟩
        · exact ⟨_, by omega, (hbw.cell (p := ⟨g5, 1, none⟩) hlt5).trans hc1⟩
      have HX := Lib.hid hx
      have k0 := hB.cell
      clear hc0 hc1 hx hA5
      go_wp2_with fail
      with_reducible refine (below_no key _ 5 wr (.inl HX.out)).mono ?_
      rintro en V1 ⟨rfl, b1⟩
      have B1 := hB.next b1
      have t1 := hbw.trans (b1.mono hbw.size)
      clear hB hbw b1 k0 hcx
      have k0 := B1.cell
      go_wp2_with fail
      with_reducible refine (perm_no key _ 0 V1 (.inl HX.out)).mono ?_
      rintro en V2 ⟨rfl, b2⟩
      have B2 := B1.next b2
      have t2 := t1.trans (b2.mono t1.size)
      clear B1 b2 t1 k0
      have k0 := B2.cell
      go_wp2_with fail
      with_reducible refine (choose_no key _ 0 0 V2 (.inl HX.out)).mono ?_
      rintro en V3 ⟨rfl, b3⟩
      have B3 := B2.next b3
      have t3 := t2.trans (b3.mono t2.size)
      clear B2 b3 t2 k0
      have k0 := B3.cell
      go_wp2_with fail
      have B4 := B3.mk2 (.cells #[.int .i64 1] 3)
      have t4 := t3.trans ((Below.alloc (Below.refl _ _) (Nat.le_refl _) (.cells #[.int .i64 1] 3)).mono t3.size)
      refine (weigh_no key _ _ [1] _ (rd_new V3 [1] 3) (by decide) (.inl HX.out)).mono ?_
      rintro en V4 ⟨rfl, b5⟩
      have t5 := t4.trans (b5.mono t4.size)
      clear B3 B4 b5 t4 t3 k0
      go_wp2_with fail
      go_roundw
      case rel => exact ⟨j + 1, by omega, by go_num, t5⟩
      case measure => simp [intOf]; omega
    · clear hc0 hc1 hA5
      have k0 := hB.cell
      go_wp2_with fail
      clear hbw
      generalize wr = Z0 at hB k0 ⊢
      with_reducible refine (below_no key 0 _ Z0 (.inr (by omega))).mono ?_
      rintro en Z1 ⟨rfl, b1⟩
      have B1 := hB.next b1
      clear hB b1 k0
      have k0 := B1.cell
      go_wp2_with fail
      with_reducible refine (perm_no key 0 _ Z1 (.inr (by omega))).mono ?_
      rintro en Z2 ⟨rfl, b2⟩
      have B2 := B1.next b2
      clear B1 b2 k0
      have k0 := B2.cell
      go_wp2_with fail
      with_reducible refine (perm_no key 0 _ Z2 (.inr (by omega))).mono ?_
      rintro en Z3 ⟨rfl, b3⟩
      have B3 := B2.next b3
      clear B2 b3 k0
      have k0 := B3.cell
      go_wp2_with fail
      with_reducible refine (choose_no key 0 5 _ Z3 (.inr (by omega))).mono ?_
      rintro en Z4 ⟨rfl, b4⟩
      have B4 := B3.next b4
      clear B3 b4 k0
      have k0 := B4.cell
      go_wp2_with fail
      with_reducible refine (choose_no key 0 5 _ Z4 (.inr (by omega))).mono ?_
      rintro en Z5 ⟨rfl, b5⟩
      have B5 := B4.next b5
      clear B4 b5 k0
      have k0 := B5.cell
      go_wp2_with fail
      have B6 := B5.mk2 (.cells #[.int .i64 3, .int .i64 (-1)] 3)
      refine (weigh_no key 0 _ [3, (-1)] _ (rd_new Z5 [3, (-1)] 3) (by simp) (.inr (by simp [sumB, okW] <;> omega))).mono ?_
      rintro en Z6 ⟨rfl, b6⟩
      have B7 := B6.next b6
      clear B6 B5 b6 k0
      have k0 := B7.cell
      go_wp2_with fail
      have B8 := B7.mk2 (.cells #[.int .i64 0, .int .i64 0] 3)
      refine (weigh_no key 0 _ [0, 0] _ (rd_new Z6 [0, 0] 3) (by simp) (.inr (by decide))).mono ?_
      rintro en Z7 ⟨rfl, b7⟩
      have B9 := B8.next b7
      clear B8 B7 b7 k0
      have k0 := B9.cell
      go_wp2_with fail
      have C1 := B9.mk2 (.cells #[.int .i64 1099511627777] 3)
      refine (weigh_no key 0 _ [1099511627777] _ (rd_new Z7 [1099511627777] 3) (by simp) (.inr (by simp [sumB, okW] <;> omega))).mono ?_
      rintro en Z8 ⟨rfl, b8⟩
      have C2 := C1.next b8
      clear C1 B9 b8 k0
      have k0 := C2.cell
      go_wp2_with fail
      refine (sub_empty key _ Z8 rfl).mono ?_
      rintro en Z9 ⟨rfl, b9⟩
      have C3 := C2.next b9
      clear C2 b9 k0
      have k0 := C3.cell
      have gl := C3.lt
      go_wp2_with fail
      have C4 := C3.mk2 (.cells #[.int .u64 0] 33)
      have hz := cell_new Z9 #[.int .u64 0] 33 0
      have hzl : Z9.heap.size < (Z9.alloc (.cells #[.int .u64 0] 33)).heap.size := by simp
      refine (sub_long key _ _ (by rw [ByteArray.size_append]; show 32 < 33 + s.size; omega) (by rw [ByteArray.size_append]; show 33 + s.size ≤ 9223372036854775807; omega)).mono ?_
      rintro en Y1 ⟨rfl, b10⟩
      have C5 := C4.next b10
      have hz1 : Y1.cell? ⟨Z9.heap.size, 0, none⟩ = some (.int .u64 0) := (b10.cell (p := ⟨Z9.heap.size, 0, none⟩) hzl).trans hz
      have hzl1 : Z9.heap.size < Y1.heap.size := Nat.lt_of_lt_of_le hzl b10.size
      clear C4 C3 b10 k0 gl hz hzl
      generalize Z9.heap.size = g52 at hz1 hzl1 ⊢
      go_wp2_with fail
      refine wp_loop_rounds 10 ?_
      iterate 9
        rw [rounds_succ]
        go_wp2
      rw [rounds_succ]
      go_wp2
      go_ret
      exact ⟨rfl, C5.below.trans (Below.alloc (Below.alloc (Below.refl _ _) C5.below.size _) (by simp; have := C5.below.size; omega) _)⟩
set_option maxHeartbeats 8000000 in
theorem wrong_4 (key n : Int) (s : ByteArray) (w : World) (h : Stp w) (n0 : 1001 ≤ n) (n1 : n ≤ 1099511627775) (hm : s.size ≤ 140737488351232) :
    Calls Tryd.prog 11 #[.int .u64 key, .int .i64 n, .string s] w fun e w' => e = .returned (.bool true) ∧ Below w.heap.size w w' := by
  have hst := h
  go_enter Tryd.func11, Tryd.ntmps11
  go_wp2_with fail
  refine (awake_any w hst).mono ?_
  rintro en W1 ⟨rfl, hb1⟩
  go_wp2_with fail
  have hA1 := BK.new key w W1 hst hb1
  generalize hg : W1.heap.size = g at hA1 ⊢
  generalize (W1.alloc (.cells #[.int .u64 key] 33)) = W2 at hA1 ⊢
  clear hg hb1
  with_reducible refine (word_no key _ W2 (by omega)).mono ?_
  rintro en W3 ⟨rfl, hb3⟩
  have hA3 := hA1.next hb3
  clear hA1 hb3
  have k3 := hA3.cell
  go_wp2_with fail
  with_reducible refine (word_no key _ W3 (by omega)).mono ?_
  rintro en W4 ⟨rfl, hb4⟩
  have hA4 := hA3.next hb4
  clear hA3 hb4 k3
  go_wp2_with fail
  generalize hWn : W4.alloc (.cells #[.int .i64 (-1), .int .i64 1099511627777] 3) = W5
  have hc0 : W5.cell? ⟨W4.heap.size, 0, none⟩ = some (.int .i64 (-1)) := by rw [← hWn]; exact cell_new W4 _ 3 0
  have hc1 : W5.cell? ⟨W4.heap.size, 1, none⟩ = some (.int .i64 1099511627777) := by rw [← hWn]; exact cell_new W4 _ 3 1
  have hA5 : BK key w g W5 := by rw [← hWn]; exact hA4.mk2 _
  have hlt5 : W4.heap.size < W5.heap.size := by rw [← hWn]; simp
  clear hWn hA4
  generalize W4.heap.size = g5 at hc0 hc1 hlt5 ⊢
  go_loopw [97] (fun a wr => ∃ j : Nat, j ≤ 2 ∧ a = .int .i64 j ∧ Below W5.heap.size W5 wr) (fun a _ => 2 - (intOf a).toNat)
  case atStart => exact ⟨0, by omega, rfl, Below.refl _ _⟩
  case round =>
    obtain ⟨j, hj, rfl, hbw⟩ := hrel
    have hB := hA5.next hbw
    by_cases hlt : j < 2
    · obtain ⟨x, hx, hcx⟩ : ∃ x : Int, (¬ (0 ≤ x ∧ x ≤ 1099511627776)) ∧ wr.cell? ⟨g5, j, none⟩ = some (.int .i64 x) := by
        rcases (show j = 0 ∨ j = 1 by omega) with rfl | rfl
        · exact ⟨_, by omega, (hbw.cell (p := ⟨g5, 0, none⟩) hlt5).trans hc0⟩
        · exact ⟨_, by omega, (hbw.cell (p := ⟨g5, 1, none⟩) hlt5).trans hc1⟩
      have HX := Lib.hid hx
      have k0 := hB.cell
      clear hc0 hc1 hx hA5
      go_wp2_with fail
      with_reducible refine (below_no key _ 5 wr (.inl HX.out)).mono ?_
      rintro en V1 ⟨rfl, b1⟩
      have B1 := hB.next b1
      have t1 := hbw.trans (b1.mono hbw.size)
      clear hB hbw b1 k0 hcx
      have k0 := B1.cell
      go_wp2_with fail
      with_reducible refine (perm_no key _ 0 V1 (.inl HX.out)).mono ?_
      rintro en V2 ⟨rfl, b2⟩
      have B2 := B1.next b2
      have t2 := t1.trans (b2.mono t1.size)
      clear B1 b2 t1 k0
      have k0 := B2.cell
      go_wp2_with fail
      with_reducible refine (choose_no key _ 0 0 V2 (.inl HX.out)).mono ?_
      rintro en V3 ⟨rfl, b3⟩
      have B3 := B2.next b3
      have t3 := t2.trans (b3.mono t2.size)
      clear B2 b3 t2 k0
      have k0 := B3.cell
      go_wp2_with fail
      have B4 := B3.mk2 (.cells #[.int .i64 1] 3)
      have t4 := t3.trans ((Below.alloc (Below.refl _ _) (Nat.le_refl _) (.cells #[.int .i64 1] 3)).mono t3.size)
      refine (weigh_no key _ _ [1] _ (rd_new V3 [1] 3) (by decide) (.inl HX.out)).mono ?_
      rintro en V4 ⟨rfl, b5⟩
      have t5 := t4.trans (b5.mono t4.size)
      clear B3 B4 b5 t4 t3 k0
      go_wp2_with fail
      go_roundw
      case rel => exact ⟨j + 1, by omega, by go_num, t5⟩
      case measure => simp [intOf]; omega
    · clear hc0 hc1 hA5
      have k0 := hB.cell
      go_wp2_with fail
      clear hbw
      generalize wr = Z0 at hB k0 ⊢
      with_reducible refine (below_no key 0 _ Z0 (.inr (by omega))).mono ?_
      rintro en Z1 ⟨rfl, b1⟩
      have B1 := hB.next b1
      clear hB b1 k0
      have k0 := B1.cell
      go_wp2_with fail
      with_reducible refine (perm_no key 0 _ Z1 (.inr (by omega))).mono ?_
      rintro en Z2 ⟨rfl, b2⟩
      have B2 := B1.next b2
      clear B1 b2 k0
      have k0 := B2.cell
      go_wp2_with fail
      with_reducible refine (perm_no key 0 _ Z2 (.inr (by omega))).mono ?_
      rintro en Z3 ⟨rfl, b3⟩
      have B3 := B2.next b3
      clear B2 b3 k0
      have k0 := B3.cell
      go_wp2_with fail
      with_reducible refine (choose_no key 0 5 _ Z3 (.inr (by omega))).mono ?_
      rintro en Z4 ⟨rfl, b4⟩
      have B4 := B3.next b4
      clear B3 b4 k0
      have k0 := B4.cell
      go_wp2_with fail
      with_reducible refine (choose_no key 0 5 _ Z4 (.inr (by omega))).mono ?_
      rintro en Z5 ⟨rfl, b5⟩
      have B5 := B4.next b5
      clear B4 b5 k0
      have k0 := B5.cell
      go_wp2_with fail
      have B6 := B5.mk2 (.cells #[.int .i64 3, .int .i64 (-1)] 3)
      refine (weigh_no key 0 _ [3, (-1)] _ (rd_new Z5 [3, (-1)] 3) (by simp) (.inr (by simp [sumB, okW] <;> omega))).mono ?_
      rintro en Z6 ⟨rfl, b6⟩
      have B7 := B6.next b6
      clear B6 B5 b6 k0
      have k0 := B7.cell
      go_wp2_with fail
      have B8 := B7.mk2 (.cells #[.int .i64 0, .int .i64 0] 3)
      refine (weigh_no key 0 _ [0, 0] _ (rd_new Z6 [0, 0] 3) (by simp) (.inr (by decide))).mono ?_
      rintro en Z7 ⟨rfl, b7⟩
      have B9 := B8.next b7
      clear B8 B7 b7 k0
      have k0 := B9.cell
      go_wp2_with fail
      have C1 := B9.mk2 (.cells #[.int .i64 1099511627777] 3)
      refine (weigh_no key 0 _ [1099511627777] _ (rd_new Z7 [1099511627777] 3) (by simp) (.inr (by simp [sumB, okW] <;> omega))).mono ?_
      rintro en Z8 ⟨rfl, b8⟩
      have C2 := C1.next b8
      clear C1 B9 b8 k0
      have k0 := C2.cell
      go_wp2_with fail
      refine (sub_empty key _ Z8 rfl).mono ?_
      rintro en Z9 ⟨rfl, b9⟩
      have C3 := C2.next b9
      clear C2 b9 k0
      have k0 := C3.cell
      have gl := C3.lt
      go_wp2_with fail
      have C4 := C3.mk2 (.cells #[.int .u64 0] 33)
      have hz := cell_new Z9 #[.int .u64 0] 33 0
      have hzl : Z9.heap.size < (Z9.alloc (.cells #[.int .u64 0] 33)).heap.size := by simp
      refine (sub_long key _ _ (by rw [ByteArray.size_append]; show 32 < 33 + s.size; omega) (by rw [ByteArray.size_append]; show 33 + s.size ≤ 9223372036854775807; omega)).mono ?_
      rintro en Y1 ⟨rfl, b10⟩
      have C5 := C4.next b10
      have hz1 : Y1.cell? ⟨Z9.heap.size, 0, none⟩ = some (.int .u64 0) := (b10.cell (p := ⟨Z9.heap.size, 0, none⟩) hzl).trans hz
      have hzl1 : Z9.heap.size < Y1.heap.size := Nat.lt_of_lt_of_le hzl b10.size
      clear C4 C3 b10 k0 gl hz hzl
      generalize Z9.heap.size = g52 at hz1 hzl1 ⊢
      go_wp2_with fail
      refine wp_loop_rounds 10 ?_
      iterate 9
        rw [rounds_succ]
        go_wp2
      rw [rounds_succ]
      go_wp2
      go_ret
      exact ⟨rfl, C5.below.trans (Below.alloc (Below.alloc (Below.refl _ _) C5.below.size _) (by simp; have := C5.below.size; omega) _)⟩
set_option maxHeartbeats 8000000 in
theorem wrong_5 (key n : Int) (s : ByteArray) (w : World) (h : Stp w) (n0 : 1099511627776 ≤ n) (n1 : n ≤ 1099511627776) (hm : s.size ≤ 140737488351232) :
    Calls Tryd.prog 11 #[.int .u64 key, .int .i64 n, .string s] w fun e w' => e = .returned (.bool true) ∧ Below w.heap.size w w' := by
  have hst := h
  go_enter Tryd.func11, Tryd.ntmps11
  go_wp2_with fail
  refine (awake_any w hst).mono ?_
  rintro en W1 ⟨rfl, hb1⟩
  go_wp2_with fail
  have hA1 := BK.new key w W1 hst hb1
  generalize hg : W1.heap.size = g at hA1 ⊢
  generalize (W1.alloc (.cells #[.int .u64 key] 33)) = W2 at hA1 ⊢
  clear hg hb1
  with_reducible refine (word_no key _ W2 (by omega)).mono ?_
  rintro en W3 ⟨rfl, hb3⟩
  have hA3 := hA1.next hb3
  clear hA1 hb3
  have k3 := hA3.cell
  go_wp2_with fail
  with_reducible refine (word_no key _ W3 (by omega)).mono ?_
  rintro en W4 ⟨rfl, hb4⟩
  have hA4 := hA3.next hb4
  clear hA3 hb4 k3
  go_wp2_with fail
  generalize hWn : W4.alloc (.cells #[.int .i64 (-1), .int .i64 1099511627777] 3) = W5
  have hc0 : W5.cell? ⟨W4.heap.size, 0, none⟩ = some (.int .i64 (-1)) := by rw [← hWn]; exact cell_new W4 _ 3 0
  have hc1 : W5.cell? ⟨W4.heap.size, 1, none⟩ = some (.int .i64 1099511627777) := by rw [← hWn]; exact cell_new W4 _ 3 1
  have hA5 : BK key w g W5 := by rw [← hWn]; exact hA4.mk2 _
  have hlt5 : W4.heap.size < W5.heap.size := by rw [← hWn]; simp
  clear hWn hA4
  generalize W4.heap.size = g5 at hc0 hc1 hlt5 ⊢
  go_loopw [97] (fun a wr => ∃ j : Nat, j ≤ 2 ∧ a = .int .i64 j ∧ Below W5.heap.size W5 wr) (fun a _ => 2 - (intOf a).toNat)
  case atStart => exact ⟨0, by omega, rfl, Below.refl _ _⟩
  case round =>
    obtain ⟨j, hj, rfl, hbw⟩ := hrel
    have hB := hA5.next hbw
    by_cases hlt : j < 2
    · obtain ⟨x, hx, hcx⟩ : ∃ x : Int, (¬ (0 ≤ x ∧ x ≤ 1099511627776)) ∧ wr.cell? ⟨g5, j, none⟩ = some (.int .i64 x) := by
        rcases (show j = 0 ∨ j = 1 by omega) with rfl | rfl
        · exact ⟨_, by omega, (hbw.cell (p := ⟨g5, 0, none⟩) hlt5).trans hc0⟩
        · exact ⟨_, by omega, (hbw.cell (p := ⟨g5, 1, none⟩) hlt5).trans hc1⟩
      have HX := Lib.hid hx
      have k0 := hB.cell
      clear hc0 hc1 hx hA5
      go_wp2_with fail
      with_reducible refine (below_no key _ 5 wr (.inl HX.out)).mono ?_
      rintro en V1 ⟨rfl, b1⟩
      have B1 := hB.next b1
      have t1 := hbw.trans (b1.mono hbw.size)
      clear hB hbw b1 k0 hcx
      have k0 := B1.cell
      go_wp2_with fail
      with_reducible refine (perm_no key _ 0 V1 (.inl HX.out)).mono ?_
      rintro en V2 ⟨rfl, b2⟩
      have B2 := B1.next b2
      have t2 := t1.trans (b2.mono t1.size)
      clear B1 b2 t1 k0
      have k0 := B2.cell
      go_wp2_with fail
      with_reducible refine (choose_no key _ 0 0 V2 (.inl HX.out)).mono ?_
      rintro en V3 ⟨rfl, b3⟩
      have B3 := B2.next b3
      have t3 := t2.trans (b3.mono t2.size)
      clear B2 b3 t2 k0
      have k0 := B3.cell
      go_wp2_with fail
      have B4 := B3.mk2 (.cells #[.int .i64 1] 3)
      have t4 := t3.trans ((Below.alloc (Below.refl _ _) (Nat.le_refl _) (.cells #[.int .i64 1] 3)).mono t3.size)
      refine (weigh_no key _ _ [1] _ (rd_new V3 [1] 3) (by decide) (.inl HX.out)).mono ?_
      rintro en V4 ⟨rfl, b5⟩
      have t5 := t4.trans (b5.mono t4.size)
      clear B3 B4 b5 t4 t3 k0
      go_wp2_with fail
      go_roundw
      case rel => exact ⟨j + 1, by omega, by go_num, t5⟩
      case measure => simp [intOf]; omega
    · clear hc0 hc1 hA5
      have k0 := hB.cell
      go_wp2_with fail
      clear hbw
      generalize wr = Z0 at hB k0 ⊢
      with_reducible refine (below_no key 0 _ Z0 (.inr (by omega))).mono ?_
      rintro en Z1 ⟨rfl, b1⟩
      have B1 := hB.next b1
      clear hB b1 k0
      have k0 := B1.cell
      go_wp2_with fail
      with_reducible refine (perm_no key 0 _ Z1 (.inr (by omega))).mono ?_
      rintro en Z2 ⟨rfl, b2⟩
      have B2 := B1.next b2
      clear B1 b2 k0
      have k0 := B2.cell
      go_wp2_with fail
      with_reducible refine (perm_no key 0 _ Z2 (.inr (by omega))).mono ?_
      rintro en Z3 ⟨rfl, b3⟩
      have B3 := B2.next b3
      clear B2 b3 k0
      have k0 := B3.cell
      go_wp2_with fail
      with_reducible refine (choose_no key 0 5 _ Z3 (.inr (by omega))).mono ?_
      rintro en Z4 ⟨rfl, b4⟩
      have B4 := B3.next b4
      clear B3 b4 k0
      have k0 := B4.cell
      go_wp2_with fail
      with_reducible refine (choose_no key 0 5 _ Z4 (.inr (by omega))).mono ?_
      rintro en Z5 ⟨rfl, b5⟩
      have B5 := B4.next b5
      clear B4 b5 k0
      have k0 := B5.cell
      go_wp2_with fail
      have B6 := B5.mk2 (.cells #[.int .i64 3, .int .i64 (-1)] 3)
      refine (weigh_no key 0 _ [3, (-1)] _ (rd_new Z5 [3, (-1)] 3) (by simp) (.inr (by simp [sumB, okW] <;> omega))).mono ?_
      rintro en Z6 ⟨rfl, b6⟩
      have B7 := B6.next b6
      clear B6 B5 b6 k0
      have k0 := B7.cell
      go_wp2_with fail
      have B8 := B7.mk2 (.cells #[.int .i64 0, .int .i64 0] 3)
      refine (weigh_no key 0 _ [0, 0] _ (rd_new Z6 [0, 0] 3) (by simp) (.inr (by decide))).mono ?_
      rintro en Z7 ⟨rfl, b7⟩
      have B9 := B8.next b7
      clear B8 B7 b7 k0
      have k0 := B9.cell
      go_wp2_with fail
      have C1 := B9.mk2 (.cells #[.int .i64 1099511627777] 3)
      refine (weigh_no key 0 _ [1099511627777] _ (rd_new Z7 [1099511627777] 3) (by simp) (.inr (by simp [sumB, okW] <;> omega))).mono ?_
      rintro en Z8 ⟨rfl, b8⟩
      have C2 := C1.next b8
      clear C1 B9 b8 k0
      have k0 := C2.cell
      go_wp2_with fail
      refine (sub_empty key _ Z8 rfl).mono ?_
      rintro en Z9 ⟨rfl, b9⟩
      have C3 := C2.next b9
      clear C2 b9 k0
      have k0 := C3.cell
      have gl := C3.lt
      go_wp2_with fail
      have C4 := C3.mk2 (.cells #[.int .u64 0] 33)
      have hz := cell_new Z9 #[.int .u64 0] 33 0
      have hzl : Z9.heap.size < (Z9.alloc (.cells #[.int .u64 0] 33)).heap.size := by simp
      refine (sub_long key _ _ (by rw [ByteArray.size_append]; show 32 < 33 + s.size; omega) (by rw [ByteArray.size_append]; show 33 + s.size ≤ 9223372036854775807; omega)).mono ?_
      rintro en Y1 ⟨rfl, b10⟩
      have C5 := C4.next b10
      have hz1 : Y1.cell? ⟨Z9.heap.size, 0, none⟩ = some (.int .u64 0) := (b10.cell (p := ⟨Z9.heap.size, 0, none⟩) hzl).trans hz
      have hzl1 : Z9.heap.size < Y1.heap.size := Nat.lt_of_lt_of_le hzl b10.size
      clear C4 C3 b10 k0 gl hz hzl
      generalize Z9.heap.size = g52 at hz1 hzl1 ⊢
      go_wp2_with fail
      refine wp_loop_rounds 10 ?_
      iterate 9
        rw [rounds_succ]
        go_wp2
      rw [rounds_succ]
      go_wp2
      go_ret
      exact ⟨rfl, C5.below.trans (Below.alloc (Below.alloc (Below.refl _ _) C5.below.size _) (by simp; have := C5.below.size; omega) _)⟩
set_option maxHeartbeats 8000000 in
theorem wrong_6 (key n : Int) (s : ByteArray) (w : World) (h : Stp w) (n0 : 1099511627777 ≤ n) (n1 : n ≤ 9223372036854775807) (hm : s.size ≤ 140737488351232) :
    Calls Tryd.prog 11 #[.int .u64 key, .int .i64 n, .string s] w fun e w' => e = .returned (.bool true) ∧ Below w.heap.size w w' := by
  have hst := h
  go_enter Tryd.func11, Tryd.ntmps11
  go_wp2_with fail
  refine (awake_any w hst).mono ?_
  rintro en W1 ⟨rfl, hb1⟩
  go_wp2_with fail
  have hA1 := BK.new key w W1 hst hb1
  generalize hg : W1.heap.size = g at hA1 ⊢
  generalize (W1.alloc (.cells #[.int .u64 key] 33)) = W2 at hA1 ⊢
  clear hg hb1
  with_reducible refine (word_no key _ W2 (by omega)).mono ?_
  rintro en W3 ⟨rfl, hb3⟩
  have hA3 := hA1.next hb3
  clear hA1 hb3
  have k3 := hA3.cell
  go_wp2_with fail
  with_reducible refine (word_no key _ W3 (by omega)).mono ?_
  rintro en W4 ⟨rfl, hb4⟩
  have hA4 := hA3.next hb4
  clear hA3 hb4 k3
  go_wp2_with fail
  generalize hWn : W4.alloc (.cells #[.int .i64 (-1), .int .i64 n] 3) = W5
  have hc0 : W5.cell? ⟨W4.heap.size, 0, none⟩ = some (.int .i64 (-1)) := by rw [← hWn]; exact cell_new W4 _ 3 0
  have hc1 : W5.cell? ⟨W4.heap.size, 1, none⟩ = some (.int .i64 n) := by rw [← hWn]; exact cell_new W4 _ 3 1
  have hA5 : BK key w g W5 := by rw [← hWn]; exact hA4.mk2 _
  have hlt5 : W4.heap.size < W5.heap.size := by rw [← hWn]; simp
  clear hWn hA4
  generalize W4.heap.size = g5 at hc0 hc1 hlt5 ⊢
  go_loopw [97] (fun a wr => ∃ j : Nat, j ≤ 2 ∧ a = .int .i64 j ∧ Below W5.heap.size W5 wr) (fun a _ => 2 - (intOf a).toNat)
  case atStart => exact ⟨0, by omega, rfl, Below.refl _ _⟩
  case round =>
    obtain ⟨j, hj, rfl, hbw⟩ := hrel
    have hB := hA5.next hbw
    by_cases hlt : j < 2
    · obtain ⟨x, hx, hcx⟩ : ∃ x : Int, (¬ (0 ≤ x ∧ x ≤ 1099511627776)) ∧ wr.cell? ⟨g5, j, none⟩ = some (.int .i64 x) := by
        rcases (show j = 0 ∨ j = 1 by omega) with rfl | rfl
        · exact ⟨_, by omega, (hbw.cell (p := ⟨g5, 0, none⟩) hlt5).trans hc0⟩
        · exact ⟨_, by omega, (hbw.cell (p := ⟨g5, 1, none⟩) hlt5).trans hc1⟩
      have HX := Lib.hid hx
      have k0 := hB.cell
      clear hc0 hc1 hx hA5
      go_wp2_with fail
      with_reducible refine (below_no key _ 5 wr (.inl HX.out)).mono ?_
      rintro en V1 ⟨rfl, b1⟩
      have B1 := hB.next b1
      have t1 := hbw.trans (b1.mono hbw.size)
      clear hB hbw b1 k0 hcx
      have k0 := B1.cell
      go_wp2_with fail
      with_reducible refine (perm_no key _ 0 V1 (.inl HX.out)).mono ?_
      rintro en V2 ⟨rfl, b2⟩
      have B2 := B1.next b2
      have t2 := t1.trans (b2.mono t1.size)
      clear B1 b2 t1 k0
      have k0 := B2.cell
      go_wp2_with fail
      with_reducible refine (choose_no key _ 0 0 V2 (.inl HX.out)).mono ?_
      rintro en V3 ⟨rfl, b3⟩
      have B3 := B2.next b3
      have t3 := t2.trans (b3.mono t2.size)
      clear B2 b3 t2 k0
      have k0 := B3.cell
      go_wp2_with fail
      have B4 := B3.mk2 (.cells #[.int .i64 1] 3)
      have t4 := t3.trans ((Below.alloc (Below.refl _ _) (Nat.le_refl _) (.cells #[.int .i64 1] 3)).mono t3.size)
      refine (weigh_no key _ _ [1] _ (rd_new V3 [1] 3) (by decide) (.inl HX.out)).mono ?_
      rintro en V4 ⟨rfl, b5⟩
      have t5 := t4.trans (b5.mono t4.size)
      clear B3 B4 b5 t4 t3 k0
      go_wp2_with fail
      go_roundw
      case rel => exact ⟨j + 1, by omega, by go_num, t5⟩
      case measure => simp [intOf]; omega
    · clear hc0 hc1 hA5
      have k0 := hB.cell
      go_wp2_with fail
      clear hbw
      generalize wr = Z0 at hB k0 ⊢
      with_reducible refine (below_no key 0 _ Z0 (.inr (by omega))).mono ?_
      rintro en Z1 ⟨rfl, b1⟩
      have B1 := hB.next b1
      clear hB b1 k0
      have k0 := B1.cell
      go_wp2_with fail
      with_reducible refine (perm_no key 0 _ Z1 (.inr (by omega))).mono ?_
      rintro en Z2 ⟨rfl, b2⟩
      have B2 := B1.next b2
      clear B1 b2 k0
      have k0 := B2.cell
      go_wp2_with fail
      with_reducible refine (perm_no key 0 _ Z2 (.inr (by omega))).mono ?_
      rintro en Z3 ⟨rfl, b3⟩
      have B3 := B2.next b3
      clear B2 b3 k0
      have k0 := B3.cell
      go_wp2_with fail
      with_reducible refine (choose_no key 0 5 _ Z3 (.inr (by omega))).mono ?_
      rintro en Z4 ⟨rfl, b4⟩
      have B4 := B3.next b4
      clear B3 b4 k0
      have k0 := B4.cell
      go_wp2_with fail
      with_reducible refine (choose_no key 0 5 _ Z4 (.inr (by omega))).mono ?_
      rintro en Z5 ⟨rfl, b5⟩
      have B5 := B4.next b5
      clear B4 b5 k0
      have k0 := B5.cell
      go_wp2_with fail
      have B6 := B5.mk2 (.cells #[.int .i64 3, .int .i64 (-1)] 3)
      refine (weigh_no key 0 _ [3, (-1)] _ (rd_new Z5 [3, (-1)] 3) (by simp) (.inr (by simp [sumB, okW] <;> omega))).mono ?_
      rintro en Z6 ⟨rfl, b6⟩
      have B7 := B6.next b6
      clear B6 B5 b6 k0
      have k0 := B7.cell
      go_wp2_with fail
      have B8 := B7.mk2 (.cells #[.int .i64 0, .int .i64 0] 3)
      refine (weigh_no key 0 _ [0, 0] _ (rd_new Z6 [0, 0] 3) (by simp) (.inr (by decide))).mono ?_
      rintro en Z7 ⟨rfl, b7⟩
      have B9 := B8.next b7
      clear B8 B7 b7 k0
      have k0 := B9.cell
      go_wp2_with fail
      have C1 := B9.mk2 (.cells #[.int .i64 n] 3)
      refine (weigh_no key 0 _ [n] _ (rd_new Z7 [n] 3) (by simp) (.inr (by simp [sumB, okW] <;> omega))).mono ?_
      rintro en Z8 ⟨rfl, b8⟩
      have C2 := C1.next b8
      clear C1 B9 b8 k0
      have k0 := C2.cell
      go_wp2_with fail
      refine (sub_empty key _ Z8 rfl).mono ?_
      rintro en Z9 ⟨rfl, b9⟩
      have C3 := C2.next b9
      clear C2 b9 k0
      have k0 := C3.cell
      have gl := C3.lt
      go_wp2_with fail
      have C4 := C3.mk2 (.cells #[.int .u64 0] 33)
      have hz := cell_new Z9 #[.int .u64 0] 33 0
      have hzl : Z9.heap.size < (Z9.alloc (.cells #[.int .u64 0] 33)).heap.size := by simp
      refine (sub_long key _ _ (by rw [ByteArray.size_append]; show 32 < 33 + s.size; omega) (by rw [ByteArray.size_append]; show 33 + s.size ≤ 9223372036854775807; omega)).mono ?_
      rintro en Y1 ⟨rfl, b10⟩
      have C5 := C4.next b10
      have hz1 : Y1.cell? ⟨Z9.heap.size, 0, none⟩ = some (.int .u64 0) := (b10.cell (p := ⟨Z9.heap.size, 0, none⟩) hzl).trans hz
      have hzl1 : Z9.heap.size < Y1.heap.size := Nat.lt_of_lt_of_le hzl b10.size
      clear C4 C3 b10 k0 gl hz hzl
      generalize Z9.heap.size = g52 at hz1 hzl1 ⊢
      go_wp2_with fail
      refine wp_loop_rounds 10 ?_
      iterate 9
        rw [rounds_succ]
        go_wp2
      rw [rounds_succ]
      go_wp2
      go_ret
      exact ⟨rfl, C5.below.trans (Below.alloc (Below.alloc (Below.refl _ _) C5.below.size _) (by simp; have := C5.below.size; omega) _)⟩
theorem seedWrong_walk (key n : Int) (s : ByteArray) (w : World) (h : Stp w) (_w0 : (Lit.int .u64 key).wf = true) (w1 : (Lit.int .i64 n).wf = true) (w2 : s.size ≤ 140737488351232) :
    Calls Tryd.prog 11 #[.int .u64 key, .int .i64 n, .string s] w fun e w' => e = .returned (.bool true) ∧ Below w.heap.size w w' := by
  obtain ⟨n0, n1⟩ := bounds_i64 w1
  by_cases h0 : n ≤ -1
  · exact wrong_0 key n s w h (by omega) h0 w2
  · by_cases h1 : n ≤ 0
    · exact wrong_1 key n s w h (by omega) h1 w2
    · by_cases h2 : n ≤ 5
      · exact wrong_2 key n s w h (by omega) h2 w2
      · by_cases h3 : n ≤ 1000
        · exact wrong_3 key n s w h (by omega) h3 w2
        · by_cases h4 : n ≤ 1099511627775
          · exact wrong_4 key n s w h (by omega) h4 w2
          · by_cases h5 : n ≤ 1099511627776
            · exact wrong_5 key n s w h (by omega) h5 w2
            · exact wrong_6 key n s w h (by omega) n1 w2
end Go.Proofs.YthalafjbkmemhaaDoor
