/- SeedFair's walk: the words have the rests 0 to n - 1 in turn. -/
import Derived.Test.YthalafjbkmemhaaDoorX8
import Derived.OpenShut
namespace Go.Proofs.YthalafjbkmemhaaDoor
open Go Go.RowKit
set_option maxRecDepth 100000
theorem rest_yes (x n : Int) (w : World) (h0 : 0 ≤ x) (h1 : 1 ≤ n) (h2 : n ≤ 9223372036854775807) (h : x ≤ lim n) :
    Calls Tryd.prog 18 #[.int .u64 x, .int .i64 n] w fun e w' => e = .returned (.tuple #[.int .i64 (x % n), .bool true]) ∧ w = w' :=
  (rest_any x n w h0 h2).mono fun _ _ ⟨he, hw⟩ => ⟨by rw [he]; simp [restV, restB, h1, h], hw⟩
theorem rest_not (x n : Int) (w : World) (h0 : 0 ≤ x) (h2 : n ≤ 9223372036854775807) (h : n < 1 ∨ lim n < x) :
    Calls Tryd.prog 18 #[.int .u64 x, .int .i64 n] w fun e w' => e = .returned (.tuple #[.int .i64 0, .bool false]) ∧ w = w' :=
  (rest_any x n w h0 h2).mono fun _ _ ⟨he, hw⟩ => ⟨by
    rw [he]
    have e : ¬ (1 ≤ n ∧ x ≤ lim n) := by omega
    simp only [restV, restB, if_neg e, decide_eq_false e], hw⟩
theorem lim_facts (n : Int) (h1 : 1 ≤ n) : 18446744073709551615 - n < lim n ∧ lim n ≤ 18446744073709551615 ∧ lim n % n = n - 1 := by
  have l1 : 0 ≤ (18446744073709551616 : Int) % n := Int.emod_nonneg _ (by omega)
  have l2 : (18446744073709551616 : Int) % n < n := Int.emod_lt_of_pos _ (by omega)
  have e := Int.emod_add_mul_ediv 18446744073709551616 n
  have hl : lim n = 18446744073709551615 - 18446744073709551616 % n := rfl
  refine ⟨by omega, by omega, ?_⟩
  generalize (18446744073709551616 : Int) % n = r at *
  have : lim n = (n - 1) + n * (18446744073709551616 / n - 1) := by
    rw [hl, Int.mul_sub]
    omega
  rw [this, Int.add_mul_emod_self_left, Int.emod_eq_of_lt (by omega) (by omega)]
theorem next_rest (x n : Int) (h1 : 1 ≤ n) : (x % n = n - 1 ∧ (x + 1) % n = 0) ∨ (x % n ≠ n - 1 ∧ (x + 1) % n = x % n + 1) := by
  have l1 : 0 ≤ x % n := Int.emod_nonneg _ (by omega)
  have l2 : x % n < n := Int.emod_lt_of_pos _ (by omega)
  by_cases h : x % n = n - 1
  · refine .inl ⟨h, ?_⟩
    rw [Int.add_emod, h]
    by_cases hn : n = 1
    · subst hn; simp
    · rw [Int.emod_eq_of_lt (a := 1) (by omega) (by omega), show n - 1 + 1 = n by omega, Int.emod_self]
  · refine .inr ⟨h, ?_⟩
    rw [Int.add_emod, Int.emod_eq_of_lt (a := 1) (by omega) (by omega), Int.emod_eq_of_lt (by omega) (by omega)]
theorem wf_u64 {x : Int} (h : (Lit.int .u64 x).wf = true) : 0 ≤ x ∧ x ≤ 18446744073709551615 := by
  simpa [Lit.wf, IntKind.min, IntKind.max, IntKind.signed, IntKind.bits] using h
theorem wf_i64 {x : Int} (h : (Lit.int .i64 x).wf = true) : -9223372036854775808 ≤ x ∧ x ≤ 9223372036854775807 := by
  simpa [Lit.wf, IntKind.min, IntKind.max, IntKind.signed, IntKind.bits] using h
theorem not_u64 (x : Int) (h0 : 0 ≤ x) (h1 : x ≤ 18446744073709551615) : bits .xor .u64 (if IntKind.u64.signed = true then -1 else IntKind.u64.max) x = 18446744073709551615 - x := by
  have e3 : (if IntKind.u64.signed = true then -1 else IntKind.u64.max) = (18446744073709551615 : Int) := rfl
  rw [e3, u64_xor _ _ (by decide) (by decide) h0 (by omega)]
  obtain ⟨k, rfl⟩ := Int.eq_ofNat_of_zero_le h0
  rw [show (18446744073709551615 : Int).toNat = 18446744073709551615 from rfl, Int.toNat_natCast, nat_not k (by omega)]
  omega
set_option maxHeartbeats 2000000 in
theorem fair_small (x n : Int) (w : World) (h : Stp w) (w0 : 0 ≤ x) (hn : n < 1) (hn2 : n ≤ 9223372036854775807) :
    Calls Tryd.prog 7 #[.int .u64 x, .int .i64 n] w fun e w' => e = .returned (.bool true) ∧ Below w.heap.size w w' := by
  go_enter Tryd.func7, Tryd.ntmps7
  go_wp2_with fail
  refine (awake_any w h).mono ?_
  rintro e w1 ⟨rfl, hb⟩
  go_wp2_with fail
  with_reducible refine (rest_not x n w1 w0 hn2 (.inl hn)).mono ?_
  rintro e w2 ⟨rfl, rfl⟩
  go_wp2_with fail
  go_ret
  exact ⟨rfl, hb⟩
set_option maxHeartbeats 2000000 in
theorem fair_no (x n : Int) (w : World) (h : Stp w) (w0 : 0 ≤ x) (wx : x ≤ 18446744073709551615) (hn : 1 ≤ n) (hn2 : n ≤ 9223372036854775807) (hx : lim n < x) :
    Calls Tryd.prog 7 #[.int .u64 x, .int .i64 n] w fun e w' => e = .returned (.bool true) ∧ Below w.heap.size w w' := by
  obtain ⟨l1, l2, _⟩ := lim_facts n hn
  have hnot := not_u64 x w0 wx
  have hlt : 18446744073709551615 - x < n - 1 := by omega
  have m0 : (0 : Int) ≤ n - 1 := by omega
  by_cases hm : x = 18446744073709551615
  · have t1 : (x == 18446744073709551615) = true := by simpa using hm
    clear hm
    go_enter Tryd.func7, Tryd.ntmps7
    go_wp2_with fail
    refine (awake_any w h).mono ?_
    rintro e w1 ⟨rfl, hb⟩
    go_wp2_with fail
    with_reducible refine (rest_not x n w1 w0 hn2 (.inr hx)).mono ?_
    rintro e w2 ⟨rfl, rfl⟩
    go_wp2_with fail
    with_reducible refine (rest_yes 0 n w1 (by omega) hn hn2 (by omega)).mono ?_
    rintro e w2 ⟨rfl, rfl⟩
    go_wp2_with fail
    go_ret
    exact ⟨rfl, hb⟩
  · have t1 : (x == 18446744073709551615) = false := by simpa using hm
    have x1 : x + 1 ≤ 18446744073709551615 := by omega
    clear hm
    go_enter Tryd.func7, Tryd.ntmps7
    go_wp2_with fail
    refine (awake_any w h).mono ?_
    rintro e w1 ⟨rfl, hb⟩
    go_wp2_with fail
    with_reducible refine (rest_not x n w1 w0 hn2 (.inr hx)).mono ?_
    rintro e w2 ⟨rfl, rfl⟩
    go_wp2_with fail
    with_reducible refine (rest_yes 0 n w1 (by omega) hn hn2 (by omega)).mono ?_
    rintro e w2 ⟨rfl, rfl⟩
    go_wp2_with fail
    with_reducible refine (rest_not (x + 1) n w1 (by omega) hn2 (.inr (by omega))).mono ?_
    rintro e w2 ⟨rfl, rfl⟩
    go_wp2_with fail
    go_ret
    exact ⟨rfl, hb⟩
set_option maxHeartbeats 2000000 in
theorem fair_yes (x n : Int) (w : World) (h : Stp w) (w0 : 0 ≤ x) (wx : x ≤ 18446744073709551615) (hn : 1 ≤ n) (hn2 : n ≤ 9223372036854775807) (hx : x ≤ lim n) :
    Calls Tryd.prog 7 #[.int .u64 x, .int .i64 n] w fun e w' => e = .returned (.bool true) ∧ Below w.heap.size w w' := by
  obtain ⟨l1, l2, l3⟩ := lim_facts n hn
  have v0 : 0 ≤ x % n := Int.emod_nonneg _ (by omega)
  have v1 : x % n < n := Int.emod_lt_of_pos _ (by omega)
  have L3 := Lib.hid l3
  have NX := Lib.hid (next_rest x n hn)
  clear l3
  by_cases hm : x = 18446744073709551615
  · have t1 : (x == 18446744073709551615) = true := by simpa using hm
    have e1 : x % n = n - 1 := by
      have : x = lim n := by omega
      rw [this]; exact L3.out
    have t2 : (x % n == n - 1) = true := by simpa using e1
    clear hm e1
    go_enter Tryd.func7, Tryd.ntmps7
    go_wp2_with fail
    refine (awake_any w h).mono ?_
    rintro e w1 ⟨rfl, hb⟩
    go_wp2_with fail
    with_reducible refine (rest_yes x n w1 w0 hn hn2 hx).mono ?_
    rintro e w2 ⟨rfl, rfl⟩
    go_wp2_with fail
    with_reducible refine (rest_yes 0 n w1 (by omega) hn hn2 (by omega)).mono ?_
    rintro e w2 ⟨rfl, rfl⟩
    go_wp2_with fail
    go_ret
    exact ⟨rfl, hb⟩
  · have t1 : (x == 18446744073709551615) = false := by simpa using hm
    have x1 : x + 1 ≤ 18446744073709551615 := by omega
    by_cases hl : x + 1 ≤ lim n
    · rcases NX.out with ⟨e1, e2⟩ | ⟨e1, e2⟩
      · have t2 : (x % n == n - 1) = true := by simpa using e1
        have t3 : ((x + 1) % n == 0) = true := by simpa using e2
        clear hm e1 e2
        go_enter Tryd.func7, Tryd.ntmps7
        go_wp2_with fail
        refine (awake_any w h).mono ?_
        rintro e w1 ⟨rfl, hb⟩
        go_wp2_with fail
        with_reducible refine (rest_yes x n w1 w0 hn hn2 hx).mono ?_
        rintro e w2 ⟨rfl, rfl⟩
        go_wp2_with fail
        with_reducible refine (rest_yes 0 n w1 (by omega) hn hn2 (by omega)).mono ?_
        rintro e w2 ⟨rfl, rfl⟩
        go_wp2_with fail
        with_reducible refine (rest_yes (x + 1) n w1 (by omega) hn hn2 hl).mono ?_
        rintro e w2 ⟨rfl, rfl⟩
        go_wp2_with fail
        go_ret
        exact ⟨rfl, hb⟩
      · have t2 : (x % n == n - 1) = false := by simpa using e1
        have t3 : ((x + 1) % n == x % n + 1) = true := by simpa using e2
        clear hm e1 e2
        go_enter Tryd.func7, Tryd.ntmps7
        go_wp2_with fail
        refine (awake_any w h).mono ?_
        rintro e w1 ⟨rfl, hb⟩
        go_wp2_with fail
        with_reducible refine (rest_yes x n w1 w0 hn hn2 hx).mono ?_
        rintro e w2 ⟨rfl, rfl⟩
        go_wp2_with fail
        with_reducible refine (rest_yes 0 n w1 (by omega) hn hn2 (by omega)).mono ?_
        rintro e w2 ⟨rfl, rfl⟩
        go_wp2_with fail
        with_reducible refine (rest_yes (x + 1) n w1 (by omega) hn hn2 hl).mono ?_
        rintro e w2 ⟨rfl, rfl⟩
        go_wp2_with fail
        go_ret
        exact ⟨rfl, hb⟩
    · have e1 : x % n = n - 1 := by
        have : x = lim n := by omega
        rw [this]; exact L3.out
      have t2 : (x % n == n - 1) = true := by simpa using e1
      clear hm e1
      go_enter Tryd.func7, Tryd.ntmps7
      go_wp2_with fail
      refine (awake_any w h).mono ?_
      rintro e w1 ⟨rfl, hb⟩
      go_wp2_with fail
      with_reducible refine (rest_yes x n w1 w0 hn hn2 hx).mono ?_
      rintro e w2 ⟨rfl, rfl⟩
      go_wp2_with fail
      with_reducible refine (rest_yes 0 n w1 (by omega) hn hn2 (by omega)).mono ?_
      rintro e w2 ⟨rfl, rfl⟩
      go_wp2_with fail
      with_reducible refine (rest_not (x + 1) n w1 (by omega) hn2 (.inr (by omega))).mono ?_
      rintro e w2 ⟨rfl, rfl⟩
      go_wp2_with fail
      go_ret
      exact ⟨rfl, hb⟩
theorem seedFair_walk (x n : Int) (w : World) (h : Stp w) (w0 : (Lit.int .u64 x).wf = true) (w1 : (Lit.int .i64 n).wf = true) :
    Calls Tryd.prog 7 #[.int .u64 x, .int .i64 n] w fun e w' => e = .returned (.bool true) ∧ Below w.heap.size w w' := by
  obtain ⟨x0, x1⟩ := bounds_u64 w0
  obtain ⟨n0, n1⟩ := bounds_i64 w1
  by_cases hn : n < 1
  · exact fair_small x n w h x0 hn n1
  · by_cases hx : x ≤ lim n
    · exact fair_yes x n w h x0 x1 (by omega) n1 hx
    · exact fair_no x n w h x0 x1 (by omega) n1 (by omega)
end Go.Proofs.YthalafjbkmemhaaDoor
