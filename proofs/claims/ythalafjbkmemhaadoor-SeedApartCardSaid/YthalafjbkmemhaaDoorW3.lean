/- SeedTells' walk: Mix, Unmix, New, At, Sub and Word return what the document's own answers return. -/
import Derived.Test.YthalafjbkmemhaaDoorR6
import Derived.Test.YthalafjbkmemhaaDoorW4
namespace Go.Proofs.YthalafjbkmemhaaDoor
open Go Go.RowKit
set_option maxRecDepth 100000
theorem sub_both (k : Int) (s : ByteArray) (k0 : 0 ≤ k) (k1 : k ≤ 18446744073709551615) (hm : s.size ≤ 9223372036854775807) : ∃ x e : Int,
    (∀ w, Stp w → Calls Tryd.prog 25 #[.agg #[.int .u64 k], .string s] w fun en w' => en = .returned (.tuple #[.agg #[.int .u64 x], .int .i64 e]) ∧ Below w.heap.size w w') ∧
    (∀ w, Calls Tryd.prog 31 #[.int .u64 k, .string s] w fun en w' => en = .returned (.tuple #[.int .u64 x, .int .i64 e]) ∧ w = w') := by
  by_cases h0 : s.size = 0
  · exact ⟨0, 2, fun w _ => sub_empty k s w h0, fun w => rsub_empty k s w h0⟩
  · by_cases h1 : s.size ≤ 32
    · exact ⟨_, 0, fun w hw => sub_ok k s w hw (by omega) h1, fun w => rsub_ok k s w k0 k1 (by omega) h1⟩
    · exact ⟨0, 3, fun w _ => sub_long k s w (by omega) hm, fun w => rsub_long k s w (by omega) hm⟩
theorem word_both (k i : Int) : ∃ x e : Int,
    (∀ w, Stp w → Calls Tryd.prog 24 #[.agg #[.int .u64 k], .int .i64 i] w fun en w' => en = .returned (.tuple #[.int .u64 x, .int .i64 e]) ∧ Below w.heap.size w w') ∧
    (∀ w, Calls Tryd.prog 32 #[.int .u64 k, .int .i64 i] w fun en w' => en = .returned (.tuple #[.int .u64 x, .int .i64 e]) ∧ w = w') := by
  by_cases h : 0 ≤ i ∧ i < 1099511627776
  · exact ⟨_, 0, fun w hw => word_ok k i w hw h.1 h.2, fun w => rword_ok k i w h.1 h.2⟩
  · exact ⟨0, 2, fun w _ => word_no k i w (by omega), fun w => rword_no k i w (by omega)⟩
theorem field33 (x : Int) (w : World) : (Instr.field 33 (.agg #[.int .u64 x]) 0).run Tryd.prog w = .ok (.int .u64 x) w := by kernel_rfl
set_option maxHeartbeats 4000000 in
theorem names_any (key : Int) (s : ByteArray) (n i : Int) (w : World) (h : Stp w) (k0 : 0 ≤ key) (k1 : key ≤ 18446744073709551615) (hm : s.size ≤ 9223372036854775807) :
    Calls Tryd.prog 12 #[.int .u64 key, .string s, .int .i64 n, .int .i64 i] w fun e w' => e = .returned (.bool true) ∧ Below w.heap.size w w' := by
  obtain ⟨a, e, c1, c2⟩ := sub_both key s k0 k1 hm
  obtain ⟨b, f, c3, c4⟩ := word_both key i
  have C1 := Lib.hid c1
  have C2 := Lib.hid c2
  have C3 := Lib.hid c3
  have C4 := Lib.hid c4
  have U := Lib.hid (fun w => runmix_any key w k0 k1)
  have M := Lib.hid (fun w => rmix_any key w k0 k1)
  have N := Lib.hid (fun w => rnew_any key w k0 k1)
  clear c1 c2 c3 c4 k0 k1
  have hA := BK.new key w w h (Below.refl _ _)
  have hfl := field33
  go_enter Tryd.func12, Tryd.ntmps12
  go_wp2_with fail
  with_reducible refine (C1.out _ hA.stp).mono ?_
  rintro en W1 ⟨rfl, hb1⟩
  have hA1 := hA.next hb1
  clear hA hb1
  go_wp2_with fail
  have hn : Below W1.heap.size W1 (W1.alloc (.cells #[.int .u64 a] 33)) := Below.alloc (Below.refl _ _) (Nat.le_refl _) _
  have hA2 := hA1.next hn
  have hc := cell_new W1 #[.int .u64 a] 33 0
  have hl : W1.heap.size < (W1.alloc (.cells #[.int .u64 a] 33)).heap.size := by simp
  generalize hg : W1.heap.size = g2 at hc hl ⊢
  clear hg hn hA1
  generalize (W1.alloc (.cells #[.int .u64 a] 33)) = W2 at hc hl hA2 ⊢
  simp only [List.getElem?_toArray, List.getElem?_cons_zero] at hc
  have k2 := hA2.cell
  with_reducible refine (C2.out _).mono ?_
  rintro en W3 ⟨rfl, rfl⟩
  go_wp2_with fail
  with_reducible refine (C3.out _ hA2.stp).mono ?_
  rintro en W3 ⟨rfl, hb3⟩
  have hA3 := hA2.next hb3
  have hc3 := (hb3.cell (p := ⟨g2, 0, none⟩) hl).trans hc
  clear hA2 hb3 hc k2 hl
  go_wp2_with fail
  with_reducible refine (C4.out _).mono ?_
  rintro en W4 ⟨rfl, rfl⟩
  have k3 := hA3.cell
  go_wp2_with fail
  with_reducible refine (at_any key n _ hA3.stp).mono ?_
  rintro en W4 ⟨rfl, hb4⟩
  have hA4 := hA3.next hb4
  clear hA3 hb4 hc3 k3
  go_wp2_with fail
  with_reducible refine (rat_any key n _).mono ?_
  rintro en W5 ⟨rfl, rfl⟩
  go_wp2_with fail
  with_reducible refine (new_any key _ hA4.stp).mono ?_
  rintro en W5 ⟨rfl, hb5⟩
  have hA5 := hA4.next hb5
  clear hA4 hb5
  go_wp2_with fail
  with_reducible refine (N.out _).mono ?_
  rintro en W6 ⟨rfl, rfl⟩
  go_wp2_with fail
  with_reducible refine (mix_any key _ hA5.stp).mono ?_
  rintro en W6 ⟨rfl, hb6⟩
  have hA6 := hA5.next hb6
  clear hA5 hb6
  go_wp2_with fail
  with_reducible refine (M.out _).mono ?_
  rintro en W7 ⟨rfl, rfl⟩
  go_wp2_with fail
  with_reducible refine (unmix_any key _ hA6.stp).mono ?_
  rintro en W7 ⟨rfl, hb7⟩
  have hA7 := hA6.next hb7
  clear hA6 hb7
  go_wp2_with fail
  with_reducible refine (U.out _).mono ?_
  rintro en W8 ⟨rfl, rfl⟩
  go_wp2_with fail
  go_ret
  exact ⟨rfl, hA7.below⟩
set_option maxHeartbeats 1000000 in
theorem seedTells_walk (key : Int) (s : ByteArray) (n i : Int) (w : World) (h : Stp w) (w0 : (Lit.int .u64 key).wf = true) (w1 : s.size ≤ maxLen) (_w2 : (Lit.int .i64 n).wf = true) (_w3 : (Lit.int .i64 i).wf = true) :
    Calls Tryd.prog 3 #[.int .u64 key, .string s, .int .i64 n, .int .i64 i] w fun e w' => e = .returned (.bool true) ∧ Below w.heap.size w w' := by
  have hk := bounds_u64 w0
  unfold maxLen at w1
  have CN := Lib.hid (names_any key s n i w h hk.1 hk.2 w1)
  clear w0 hk w1
  go_enter Tryd.func3, Tryd.ntmps3
  go_wp2_with fail
  refine CN.out.mono ?_
  rintro en W1 ⟨rfl, hb1⟩
  go_wp2_with fail
  refine (awake_any W1 (h.of hb1)).mono ?_
  rintro en W2 ⟨rfl, hb2⟩
  go_wp2_with fail
  go_ret
  exact ⟨rfl, hb1.trans (hb2.mono hb1.size)⟩
end Go.Proofs.YthalafjbkmemhaaDoor
