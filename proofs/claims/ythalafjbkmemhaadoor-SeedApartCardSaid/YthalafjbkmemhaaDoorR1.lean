/- What the document's own answers for Mix, New, At, Sub, Word, Rest and Below return, for every input. -/
import Derived.Test.YthalafjbkmemhaaDoorX9
import Derived.Test.YthalafjbkmemhaaDoorW7
namespace Go.Proofs.YthalafjbkmemhaaDoor
open Go Go.RowKit
set_option maxRecDepth 100000
theorem xor_range (a b : Int) (a0 : 0 ≤ a) (a1 : a ≤ 18446744073709551615) (b0 : 0 ≤ b) (b1 : b ≤ 18446744073709551615) : 0 ≤ bits .xor .u64 a b ∧ bits .xor .u64 a b ≤ 18446744073709551615 := by
  rw [u64_xor _ _ a0 (by omega) b0 (by omega)]
  have := Nat.xor_lt_two_pow (x := a.toNat) (y := b.toNat) (n := 64) (by omega) (by omega)
  omega
theorem wrap_in (a : Int) (a0 : 0 ≤ a) (a1 : a ≤ 18446744073709551615) : IntKind.u64.wrap a = a := by
  rw [IntKind.wrap_u64]; omega
theorem wrap_le (a : Int) : IntKind.u64.wrap a ≤ 18446744073709551615 := by
  rw [IntKind.wrap_u64]; omega
theorem div_range (a c : Int) (a0 : 0 ≤ a) (a1 : a ≤ 18446744073709551615) (c1 : 1 ≤ c) : 0 ≤ a / c ∧ a / c ≤ 18446744073709551615 := by
  have h1 := Int.ediv_nonneg a0 (show 0 ≤ c by omega)
  have h2 := Int.ediv_le_self c a0
  omega
theorem tdiv_wrap (a c : Int) (a0 : 0 ≤ a) (a1 : a ≤ 18446744073709551615) (c1 : 1 ≤ c) : IntKind.u64.wrap (a.tdiv c) = a / c := by
  rw [Int.tdiv_eq_ediv_of_nonneg a0]
  have := div_range a c a0 a1 c1
  exact wrap_in _ this.1 this.2
def rm1 (x : Int) : Int := IntKind.u64.wrap (bits .xor .u64 x (IntKind.u64.wrap (x.tdiv 1073741824)) * 13787848793156543929)
def rm2 (x : Int) : Int := IntKind.u64.wrap (bits .xor .u64 x (IntKind.u64.wrap (x.tdiv 134217728)) * 10723151780598845931)
def rm3 (x : Int) : Int := bits .xor .u64 x (IntKind.u64.wrap (x.tdiv 2147483648))
theorem rmix_eq (x : Int) (h0 : 0 ≤ x) (h1 : x ≤ 18446744073709551615) : rm3 (rm2 (rm1 x)) = mixI x := by
  have e1 : rm1 x = mix1 x := by
    unfold rm1 mix1
    rw [tdiv_wrap x _ h0 h1 (by decide)]
  have e2 : rm2 (mix1 x) = mix2 (mix1 x) := by
    unfold rm2 mix2
    rw [tdiv_wrap (mix1 x) _ (wrap_nn _) (wrap_le _) (by decide)]
  have e3 : rm3 (mix2 (mix1 x)) = mix3 (mix2 (mix1 x)) := by
    unfold rm3 mix3
    rw [tdiv_wrap (mix2 (mix1 x)) _ (wrap_nn _) (wrap_le _) (by decide)]
    have d := div_range (mix2 (mix1 x)) 2147483648 (wrap_nn _) (wrap_le _) (by decide)
    have r := xor_range (mix2 (mix1 x)) (mix2 (mix1 x) / 2147483648) (wrap_nn _) (wrap_le _) d.1 d.2
    rw [wrap_in _ r.1 r.2]
  rw [e1, e2, e3]
  rfl
theorem mixI_le (x : Int) : mixI x ≤ 18446744073709551615 := wrap_le _
theorem wordI_le (k i : Int) : wordI k i ≤ 18446744073709551615 := mixI_le _
theorem rmix_any (x : Int) (w : World) (h0 : 0 ≤ x) (h1 : x ≤ 18446744073709551615) :
    Calls Tryd.prog 35 #[.int .u64 x] w fun e w' => e = .returned (.int .u64 (mixI x)) ∧ w = w' := by
  have HE := Lib.hid (rmix_eq x h0 h1)
  clear h0 h1
  go_enter Tryd.func35, Tryd.ntmps35
  go_wp2
  go_ret
  exact ⟨by rw [← HE.out]; rfl, rfl⟩
theorem rnew_any (x : Int) (w : World) (h0 : 0 ≤ x) (h1 : x ≤ 18446744073709551615) :
    Calls Tryd.prog 34 #[.int .u64 x] w fun e w' => e = .returned (.int .u64 (mixI x)) ∧ w = w' := by
  go_enter Tryd.func34, Tryd.ntmps34
  go_wp2_with fail
  refine (rmix_any _ _ h0 h1).mono ?_
  rintro e w' ⟨rfl, rfl⟩
  go_wp2_with fail
  go_ret
  exact ⟨rfl, rfl⟩
theorem rat_any (k n : Int) (w : World) :
    Calls Tryd.prog 33 #[.int .u64 k, .int .i64 n] w fun e w' => e = .returned (.int .u64 (atI k n)) ∧ w = w' := by
  go_enter Tryd.func33, Tryd.ntmps33
  go_wp2_with fail
  refine (rmix_any _ _ (wrap_nn _) (wrap_le _)).mono ?_
  rintro e w' ⟨rfl, rfl⟩
  go_wp2_with fail
  have r := xor_range (mixI (IntKind.u64.wrap (k + 1))) (IntKind.u64.wrap n) (mixI_nn _) (mixI_le _) (wrap_nn _) (wrap_le _)
  refine (rmix_any _ _ r.1 r.2).mono ?_
  rintro e w' ⟨rfl, rfl⟩
  go_wp2_with fail
  go_ret
  exact ⟨rfl, rfl⟩
theorem rword_ok (k i : Int) (w : World) (h1 : 0 ≤ i) (h2 : i < 1099511627776) :
    Calls Tryd.prog 32 #[.int .u64 k, .int .i64 i] w fun e w' => e = .returned (.tuple #[.int .u64 (wordI k i), .int .i64 0]) ∧ w = w' := by
  go_enter Tryd.func32, Tryd.ntmps32
  go_wp2_with fail
  refine (rmix_any _ _ (wrap_nn _) (wrap_le _)).mono ?_
  rintro e w' ⟨rfl, rfl⟩
  go_wp2_with fail
  go_ret2
  exact ⟨rfl, rfl⟩
theorem rword_no (k i : Int) (w : World) (h : i < 0 ∨ 1099511627776 ≤ i) :
    Calls Tryd.prog 32 #[.int .u64 k, .int .i64 i] w fun e w' => e = .returned (.tuple #[.int .u64 0, .int .i64 2]) ∧ w = w' := by
  rcases h with h | h
  · go_enter Tryd.func32, Tryd.ntmps32
    go_wp2_with fail
    go_ret2
    exact ⟨rfl, rfl⟩
  · have h' : ¬ i < 0 := by omega
    go_enter Tryd.func32, Tryd.ntmps32
    go_wp2_with fail
    go_ret2
    exact ⟨rfl, rfl⟩
theorem rest_math (x n : Int) (h0 : 0 ≤ x) (_hx : x ≤ 18446744073709551615) (h1 : 1 ≤ n) :
    0 ≤ x - x % n ∧ x - x % n ≤ x ∧ (x ≤ lim n → n - 1 ≤ 18446744073709551615 - (x - x % n)) ∧ (lim n < x → 18446744073709551615 - (x - x % n) < n - 1) := by
  have v0 : 0 ≤ x % n := Int.emod_nonneg _ (by omega)
  have v1 : x % n < n := Int.emod_lt_of_pos _ (by omega)
  have q0 : 0 ≤ x / n := Int.ediv_nonneg h0 (by omega)
  have e := Int.emod_add_mul_ediv x n
  have r0 : 0 ≤ (18446744073709551616 : Int) % n := Int.emod_nonneg _ (by omega)
  have r1 : (18446744073709551616 : Int) % n < n := Int.emod_lt_of_pos _ (by omega)
  have e2 := Int.emod_add_mul_ediv 18446744073709551616 n
  have hl : lim n = 18446744073709551615 - 18446744073709551616 % n := rfl
  have p0 : 0 ≤ n * (x / n) := Int.mul_nonneg (by omega) q0
  refine ⟨by omega, by omega, fun h => ?_, fun h => ?_⟩
  · have hq : x / n < 18446744073709551616 / n := by
      by_cases hc : x / n < 18446744073709551616 / n
      · exact hc
      · have := Int.mul_le_mul_of_nonneg_left (show 18446744073709551616 / n ≤ x / n by omega) (show 0 ≤ n by omega)
        omega
    have := Int.mul_le_mul_of_nonneg_left (show x / n + 1 ≤ 18446744073709551616 / n by omega) (show 0 ≤ n by omega)
    rw [Int.mul_add, Int.mul_one] at this
    omega
  · have hq : 18446744073709551616 / n ≤ x / n := by
      by_cases hc : 18446744073709551616 / n ≤ x / n
      · exact hc
      · have := Int.mul_le_mul_of_nonneg_left (show x / n + 1 ≤ 18446744073709551616 / n by omega) (show 0 ≤ n by omega)
        rw [Int.mul_add, Int.mul_one] at this
        omega
    have := Int.mul_le_mul_of_nonneg_left hq (show 0 ≤ n by omega)
    omega
set_option maxHeartbeats 1000000 in
theorem rrest_any (x n : Int) (w : World) (h0 : 0 ≤ x) (hx : x ≤ 18446744073709551615) (h2 : n ≤ 9223372036854775807) :
    Calls Tryd.prog 43 #[.int .u64 x, .int .i64 n] w fun e w' => e = .returned (.tuple #[.int .i64 (restV x n), .bool (restB x n)]) ∧ w = w' := by
  by_cases h1 : 1 ≤ n
  · obtain ⟨m1, m2, m3, m4⟩ := rest_math x n h0 hx h1
    have v0 : 0 ≤ x % n := Int.emod_nonneg _ (by omega)
    have v1 : x % n < n := Int.emod_lt_of_pos _ (by omega)
    by_cases hl : x ≤ lim n
    · have e1 : restV x n = x % n := by simp [restV, h1, hl]
      have e2 : restB x n = true := by simp [restB, h1, hl]
      rw [e1, e2]
      have m5 := m3 hl
      clear e1 e2 m3 m4
      go_enter Tryd.func43, Tryd.ntmps43
      go_wp2_with fail
      go_ret2
      exact ⟨rfl, rfl⟩
    · have e1 : restV x n = 0 := by simp [restV, hl]
      have e2 : restB x n = false := by simp [restB, hl]
      rw [e1, e2]
      have m5 := m4 (by omega)
      clear e1 e2 m3 m4
      go_enter Tryd.func43, Tryd.ntmps43
      go_wp2_with fail
      go_ret2
      exact ⟨rfl, rfl⟩
  · have e1 : restV x n = 0 := by simp [restV, h1]
    have e2 : restB x n = false := by simp [restB, h1]
    rw [e1, e2]
    clear e1 e2
    go_enter Tryd.func43, Tryd.ntmps43
    go_wp2_with fail
    go_ret2
    exact ⟨rfl, rfl⟩
end Go.Proofs.YthalafjbkmemhaaDoor
