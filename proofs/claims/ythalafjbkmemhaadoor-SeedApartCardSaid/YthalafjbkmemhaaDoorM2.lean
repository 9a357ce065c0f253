/- Plain arithmetic: a step of undoing a shift, bit by bit; a step of dividing by an odd number, bit by bit. -/
import Derived.Laws.BitsAllLaws
import Derived.Laws.Wrap64
namespace Go.Proofs.YthalafjbkmemhaaDoor
open Go
theorem nat_in {a : Nat} (h : a < 18446744073709551616) : IntKind.u64.wrap (a : Int) = (a : Int) := by
  rw [IntKind.wrap_u64]; omega
theorem wrap_nat (a : Nat) : IntKind.u64.wrap (a : Int) = ((a % 18446744073709551616 : Nat) : Int) := by
  rw [IntKind.wrap_u64]; omega
theorem bit_div (X j : Nat) : X / 2 ^ j % 2 = (X.testBit j).toNat := by
  rw [Nat.testBit_eq_decide_div_mod_eq]
  have := Nat.mod_two_eq_zero_or_one (X / 2 ^ j)
  rcases this with h | h <;> simp [h]
theorem and_one (a : Nat) (h : a < 18446744073709551616) : bits .and .u64 (a : Int) 1 = ((a % 2 : Nat) : Int) := by
  have := u64_and_nat a 1 h (by omega)
  rw [Nat.and_one_is_mod] at this
  exact this
theorem div_lt64 {X : Nat} (h : X < 18446744073709551616) (j : Nat) : X / 2 ^ j < 18446744073709551616 := Nat.lt_of_le_of_lt (Nat.div_le_self _ _) h
theorem pow_lt64 {j : Nat} (h : j < 64) : 2 ^ j < 18446744073709551616 := by
  have := Nat.pow_lt_pow_right (a := 2) (by omega) h
  simpa using this
theorem top_split (U j : Nat) : U / 2 ^ j * 2 ^ j = U / 2 ^ (j + 1) * 2 ^ (j + 1) + (U.testBit j).toNat * 2 ^ j := by
  have e : U / 2 ^ (j + 1) = U / 2 ^ j / 2 := by rw [Nat.pow_succ, Nat.div_div_eq_div_mul]
  have h := Nat.div_add_mod (U / 2 ^ j) 2
  rw [bit_div] at h
  rw [e, Nat.pow_succ]
  have : U / 2 ^ j * 2 ^ j = (2 * (U / 2 ^ j / 2) + (U.testBit j).toNat) * 2 ^ j := by rw [h]
  rw [this, Nat.add_mul]
  congr 1
  rw [Nat.mul_comm 2, Nat.mul_assoc, Nat.mul_comm 2 (2 ^ j)]
theorem or_top (U j c : Nat) (hU : U < 18446744073709551616) (hj : j < 64) (hc : c = (U.testBit j).toNat) :
    bits .or .u64 ((U / 2 ^ (j + 1) * 2 ^ (j + 1) : Nat) : Int) (IntKind.u64.wrap ((c : Int) * 2 ^ j)) = ((U / 2 ^ j * 2 ^ j : Nat) : Int) := by
  have hc1 : c ≤ 1 := by rw [hc]; exact Bool.toNat_le _
  have hp := pow_lt64 hj
  have hcp : c * 2 ^ j ≤ 2 ^ j := by
    have := Nat.mul_le_mul_right (2 ^ j) hc1
    omega
  have e1 : ((c : Int) * 2 ^ j) = ((c * 2 ^ j : Nat) : Int) := by push_cast; rfl
  have htop : U / 2 ^ (j + 1) * 2 ^ (j + 1) < 18446744073709551616 := Nat.lt_of_le_of_lt (Nat.div_mul_le_self _ _) hU
  rw [e1, nat_in (by omega), u64_or_nat _ _ htop (by omega)]
  congr 1
  rw [top_split U j, ← hc, Nat.mul_comm (U / 2 ^ (j + 1))]
  have hlt : c * 2 ^ j < 2 ^ (j + 1) := by
    rw [Nat.pow_succ]; have := Nat.two_pow_pos j; omega
  rw [Nat.two_pow_add_eq_or_of_lt hlt]
theorem step_high (U X j : Nat) (hU : U < 18446744073709551616) (hX : X < 18446744073709551616) (hj : j < 64) (hb : U.testBit j = X.testBit j) :
    bits .or .u64 ((U / 2 ^ (j + 1) * 2 ^ (j + 1) : Nat) : Int) (IntKind.u64.wrap (bits .and .u64 ((X : Int) / 2 ^ j) 1 * 2 ^ j)) = ((U / 2 ^ j * 2 ^ j : Nat) : Int) := by
  have e : ((X : Int) / 2 ^ j) = ((X / 2 ^ j : Nat) : Int) := by push_cast; rfl
  rw [e, and_one _ (div_lt64 hX j)]
  exact or_top U j _ hU hj (by rw [bit_div, hb])
theorem step_low (U X j k : Nat) (hU : U < 18446744073709551616) (hX : X < 18446744073709551616) (hk : 1 ≤ k) (hj : j < 64) (hb : U.testBit j = (X.testBit j ^^ U.testBit (j + k))) :
    bits .or .u64 ((U / 2 ^ (j + 1) * 2 ^ (j + 1) : Nat) : Int) (IntKind.u64.wrap (bits .xor .u64 (bits .and .u64 ((X : Int) / 2 ^ j) 1) (bits .and .u64 (((U / 2 ^ (j + 1) * 2 ^ (j + 1) : Nat) : Int) / 2 ^ (j + k)) 1) * 2 ^ j)) = ((U / 2 ^ j * 2 ^ j : Nat) : Int) := by
  have e : ((X : Int) / 2 ^ j) = ((X / 2 ^ j : Nat) : Int) := by push_cast; rfl
  have htop : U / 2 ^ (j + 1) * 2 ^ (j + 1) < 18446744073709551616 := Nat.lt_of_le_of_lt (Nat.div_mul_le_self _ _) hU
  have e2 : (((U / 2 ^ (j + 1) * 2 ^ (j + 1) : Nat) : Int) / 2 ^ (j + k)) = ((U / 2 ^ (j + k) : Nat) : Int) := by
    have h1 : U / 2 ^ (j + 1) * 2 ^ (j + 1) / 2 ^ (j + k) = U / 2 ^ (j + k) := by
      obtain ⟨m, rfl⟩ : ∃ m, k = m + 1 := ⟨k - 1, by omega⟩
      rw [show j + (m + 1) = (j + 1) + m from by omega, Nat.pow_add 2 (j + 1) m, ← Nat.div_div_eq_div_mul, Nat.mul_div_cancel _ (Nat.two_pow_pos _), Nat.div_div_eq_div_mul]
    rw [← h1]; push_cast; rfl
  rw [e, e2, and_one _ (div_lt64 hX j), and_one _ (div_lt64 hU (j + k)), u64_xor_nat _ _ (by omega) (by omega)]
  refine or_top U j _ hU hj ?_
  rw [bit_div, bit_div, hb]
  cases X.testBit j <;> cases U.testBit (j + k) <;> rfl
theorem xor_shift_bits (X k : Nat) (h : X < 18446744073709551616) (hk : 22 ≤ k) (j : Nat) :
    (X ^^^ X / 2 ^ k ^^^ X / 2 ^ (2 * k)).testBit j = (X.testBit j ^^ (X ^^^ X / 2 ^ k ^^^ X / 2 ^ (2 * k)).testBit (j + k)) := by
  have hbig : ∀ m, 64 ≤ m → X.testBit m = false := by
    intro m hm
    apply Nat.testBit_lt_two_pow
    have : 2 ^ 64 ≤ 2 ^ m := Nat.pow_le_pow_right (by omega) hm
    omega
  simp only [Nat.testBit_xor, Nat.testBit_div_two_pow]
  rw [hbig (j + k + 2 * k) (by omega), show j + 2 * k = j + k + k from by omega]
  cases X.testBit j <;> cases X.testBit (j + k) <;> cases X.testBit (j + k + k) <;> rfl
theorem xor3_lt (X k : Nat) (h : X < 18446744073709551616) : X ^^^ X / 2 ^ k ^^^ X / 2 ^ (2 * k) < 18446744073709551616 := by
  have h1 := Nat.xor_lt_two_pow (n := 64) (show X < 2 ^ 64 from h) (show X / 2 ^ k < 2 ^ 64 from div_lt64 h k)
  exact Nat.xor_lt_two_pow (n := 64) h1 (show X / 2 ^ (2 * k) < 2 ^ 64 from div_lt64 h (2 * k))
theorem and_pow (D j : Nat) : D &&& 2 ^ j = (D.testBit j).toNat * 2 ^ j := by
  apply Nat.eq_of_testBit_eq
  intro i
  rw [Nat.testBit_and, Nat.testBit_two_pow]
  cases h : D.testBit j
  · by_cases e : j = i
    · subst e; simp [h]
    · simp [e]
  · by_cases e : j = i
    · subst e; simp [h]
    · simp [e]
theorem mod_succ (Y j : Nat) : Y % 2 ^ (j + 1) = Y % 2 ^ j + 2 ^ j * (Y.testBit j).toNat := by
  rw [Nat.mod_pow_succ, bit_div]
/-- Dividing by an odd number. -/
theorem div_bit (x Y C j : Nat) (hj : j < 64) (hodd : C % 2 = 1) (hY : Y * C % 18446744073709551616 = x % 18446744073709551616) :
    bits .and .u64 (IntKind.u64.wrap ((x : Int) - IntKind.u64.wrap (((Y % 2 ^ j : Nat) : Int) * (C : Int)))) ((2 ^ j : Nat) : Int) = (((Y.testBit j).toNat * 2 ^ j : Nat) : Int) := by
  have hdm := Nat.div_add_mod Y (2 ^ j)
  obtain ⟨D, hD, hDlt⟩ : ∃ D : Nat, IntKind.u64.wrap ((x : Int) - IntKind.u64.wrap (((Y % 2 ^ j : Nat) : Int) * (C : Int))) = (D : Int) ∧ D < 18446744073709551616 := by
    rw [IntKind.wrap_u64]
    exact ⟨(((x : Int) - IntKind.u64.wrap (((Y % 2 ^ j : Nat) : Int) * (C : Int))) % 18446744073709551616).toNat, by omega, by omega⟩
  have hmod : D = (2 ^ j * (Y / 2 ^ j * C)) % 18446744073709551616 := by
    have e1 : ((Y % 2 ^ j : Nat) : Int) * (C : Int) = ((Y % 2 ^ j * C : Nat) : Int) := by push_cast; rfl
    rw [e1, IntKind.wrap_u64, IntKind.wrap_u64] at hD
    have e2 : Y * C = 2 ^ j * (Y / 2 ^ j * C) + Y % 2 ^ j * C := by
      rw [← Nat.mul_assoc, ← Nat.add_mul, hdm]
    rw [e2] at hY
    generalize 2 ^ j * (Y / 2 ^ j * C) = a at hY ⊢
    generalize Y % 2 ^ j * C = b at hY hD
    omega
  rw [hD, u64_and_nat D _ hDlt (pow_lt64 hj), and_pow]
  congr 2
  have h1 : D.testBit j = Y.testBit j := by
    rw [hmod, show (18446744073709551616 : Nat) = 2 ^ 64 from rfl, Nat.testBit_mod_two_pow, decide_eq_true hj, Bool.true_and, Nat.testBit_eq_decide_div_mod_eq, Nat.testBit_eq_decide_div_mod_eq, Nat.mul_div_cancel_left _ (Nat.two_pow_pos j), Nat.mul_mod, hodd, Nat.mul_one, Nat.mod_mod]
  rw [h1]
theorem or_pow (Y j : Nat) (hj : j < 64) (hb : Y.testBit j = true) : bits .or .u64 ((Y % 2 ^ j : Nat) : Int) ((2 ^ j : Nat) : Int) = ((Y % 2 ^ (j + 1) : Nat) : Int) := by
  have hp := pow_lt64 hj
  have hlt := Nat.mod_lt Y (Nat.two_pow_pos j)
  rw [u64_or_nat _ _ (by omega) hp]
  congr 1
  rw [mod_succ, hb, Nat.or_comm]
  have := Nat.two_pow_add_eq_or_of_lt hlt 1
  rw [Nat.mul_one] at this
  rw [← this]
  simp [Nat.add_comm]
theorem mod_same (Y j : Nat) (hb : Y.testBit j = false) : Y % 2 ^ (j + 1) = Y % 2 ^ j := by
  rw [mod_succ, hb]; simp
theorem wrap_double (j : Nat) : IntKind.u64.wrap (((2 ^ j % 18446744073709551616 : Nat) : Int) * 2) = ((2 ^ (j + 1) % 18446744073709551616 : Nat) : Int) := by
  rw [IntKind.wrap_u64, Nat.pow_succ]
  generalize 2 ^ j = a
  omega
end Go.Proofs.YthalafjbkmemhaaDoor
