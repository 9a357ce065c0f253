/- Plain arithmetic: mixing and undoing the mixing undo each other; so different words have different streams. -/
import Derived.Test.YthalafjbkmemhaaDoorR6
namespace Go.Proofs.YthalafjbkmemhaaDoor
open Go Go.RowKit
set_option maxRecDepth 100000
def shN (X k : Nat) : Nat := X ^^^ X / 2 ^ k
theorem shN_lt {X : Nat} (h : X < 18446744073709551616) (k : Nat) : shN X k < 18446744073709551616 :=
  Nat.xor_lt_two_pow (n := 64) (show X < 2 ^ 64 from h) (show X / 2 ^ k < 2 ^ 64 from div_lt64 h k)
theorem unN_lt {X : Nat} (h : X < 18446744073709551616) (k : Nat) : unN X k < 18446744073709551616 := xor3_lt X k h
theorem un_sh (X k : Nat) (h : X < 18446744073709551616) (hk : 22 ≤ k) : unN (shN X k) k = X := by
  have hbig : ∀ m, 64 ≤ m → X.testBit m = false := by
    intro m hm
    apply Nat.testBit_lt_two_pow
    have : 2 ^ 64 ≤ 2 ^ m := Nat.pow_le_pow_right (by omega) hm
    omega
  apply Nat.eq_of_testBit_eq
  intro j
  simp only [unN, shN, Nat.testBit_xor, Nat.testBit_div_two_pow]
  rw [hbig (j + 2 * k + k) (by omega), show j + k + k = j + 2 * k from by omega]
  cases X.testBit j <;> cases X.testBit (j + k) <;> cases X.testBit (j + 2 * k) <;> rfl
theorem sh_un (X k : Nat) (h : X < 18446744073709551616) (hk : 22 ≤ k) : shN (unN X k) k = X := by
  apply Nat.eq_of_testBit_eq
  intro j
  have hb := xor_shift_bits X k h hk j
  simp only [shN, Nat.testBit_xor, Nat.testBit_div_two_pow]
  unfold unN
  rw [hb]
  cases X.testBit j <;> cases (X ^^^ X / 2 ^ k ^^^ X / 2 ^ (2 * k)).testBit (j + k) <;> rfl
theorem sh_nat (X k : Nat) (hX : X < 18446744073709551616) (p : Int) (hp : p = ((2 ^ k : Nat) : Int)) :
    bits .xor .u64 (X : Int) ((X : Int) / p) = ((shN X k : Nat) : Int) := by
  subst hp
  have e1 : ((X : Int) / ((2 ^ k : Nat) : Int)) = ((X / 2 ^ k : Nat) : Int) := by push_cast; rfl
  rw [e1, u64_xor_nat _ _ hX (div_lt64 hX k)]
  rfl
def U (x : Int) : Prop := 0 ≤ x ∧ x ≤ 18446744073709551615
theorem U.nat {x : Int} (h : U x) : ∃ X : Nat, x = X ∧ X < 18446744073709551616 := by
  obtain ⟨h0, h1⟩ := h
  exact ⟨x.toNat, by omega, by omega⟩
theorem U_wrap (x : Int) : U (IntKind.u64.wrap x) := ⟨wrap_nn x, wrap_le x⟩
theorem U_mix (x : Int) : U (mixI x) := ⟨mixI_nn x, mixI_le x⟩
theorem U_xor {a b : Int} (ha : U a) (hb : U b) : U (bits .xor .u64 a b) := xor_range a b ha.1 ha.2 hb.1 hb.2
theorem U_in {x : Int} (h : U x) : IntKind.u64.wrap x = x := wrap_in x h.1 h.2
def shI (p x : Int) : Int := bits .xor .u64 x (x / p)
theorem U_sh {x : Int} (h : U x) (p : Int) (hp : 1 ≤ p) : U (shI p x) := U_xor h (div_range x p h.1 h.2 hp)
def unI (p q x : Int) : Int := bits .xor .u64 (bits .xor .u64 x (x / p)) (x / q)
theorem U_un {x : Int} (h : U x) (p q : Int) (hp : 1 ≤ p) (hq : 1 ≤ q) : U (unI p q x) := U_xor (U_xor h (div_range x p h.1 h.2 hp)) (div_range x q h.1 h.2 hq)
theorem unI_shI {x : Int} (h : U x) (k : Nat) (hk : 22 ≤ k) (p q : Int) (hp : p = ((2 ^ k : Nat) : Int)) (hq : q = ((2 ^ (2 * k) : Nat) : Int)) : unI p q (shI p x) = x := by
  obtain ⟨X, rfl, hX⟩ := h.nat
  unfold shI
  rw [sh_nat X k hX p hp]
  unfold unI
  rw [un_nat (shN X k) k (shN_lt hX k) p q hp hq, un_sh X k hX hk]
theorem shI_unI {x : Int} (h : U x) (k : Nat) (hk : 22 ≤ k) (p q : Int) (hp : p = ((2 ^ k : Nat) : Int)) (hq : q = ((2 ^ (2 * k) : Nat) : Int)) : shI p (unI p q x) = x := by
  obtain ⟨X, rfl, hX⟩ := h.nat
  unfold unI
  rw [un_nat X k hX p q hp hq]
  unfold shI
  rw [sh_nat (unN X k) k (unN_lt hX k) p hp, sh_un X k hX hk]
theorem mul_inv {a : Int} (h : U a) (c v : Int) (hcv : c * v % 18446744073709551616 = 1) : IntKind.u64.wrap (IntKind.u64.wrap (a * c) * v) = a := by
  obtain ⟨h0, h1⟩ := h
  rw [IntKind.wrap_u64, IntKind.wrap_u64, Int.mul_emod, Int.emod_emod_of_dvd _ (Int.dvd_refl _), ← Int.mul_emod, Int.mul_assoc, Int.mul_emod, hcv, Int.mul_one, Int.emod_emod_of_dvd _ (Int.dvd_refl _)]
  omega
def k1 : Int := 13787848793156543929
def k2 : Int := 10723151780598845931
def v1 : Int := 10871156337175269513
def v2 : Int := 3573116690164977347
theorem kv1 : k1 * v1 % 18446744073709551616 = 1 := by decide
theorem kv2 : k2 * v2 % 18446744073709551616 = 1 := by decide
theorem vk1 : v1 * k1 % 18446744073709551616 = 1 := by decide
theorem vk2 : v2 * k2 % 18446744073709551616 = 1 := by decide
theorem mixI_eq (x : Int) : mixI x = IntKind.u64.wrap (shI 2147483648 (IntKind.u64.wrap (shI 134217728 (IntKind.u64.wrap (shI 1073741824 x * k1)) * k2))) := rfl
theorem unmixI_eq (x : Int) : unmixI x = unI 1073741824 1152921504606846976 (IntKind.u64.wrap (unI 134217728 18014398509481984 (IntKind.u64.wrap (unI 2147483648 4611686018427387904 (IntKind.u64.wrap x) * v2)) * v1)) := rfl
theorem unmix_mix {x : Int} (h : U x) : unmixI (mixI x) = x := by
  rw [mixI_eq, unmixI_eq]
  have u1 := U_sh h 1073741824 (by decide)
  have w1 := U_wrap (shI 1073741824 x * k1)
  have u2 := U_sh w1 134217728 (by decide)
  have w2 := U_wrap (shI 134217728 (IntKind.u64.wrap (shI 1073741824 x * k1)) * k2)
  have u3 := U_sh w2 2147483648 (by decide)
  rw [U_in u3, U_in u3, unI_shI w2 31 (by decide) 2147483648 4611686018427387904 rfl rfl, mul_inv u2 k2 v2 kv2, unI_shI w1 27 (by decide) 134217728 18014398509481984 rfl rfl, mul_inv u1 k1 v1 kv1, unI_shI h 30 (by decide) 1073741824 1152921504606846976 rfl rfl]
theorem mix_unmix {x : Int} (h : U x) : mixI (unmixI x) = x := by
  rw [mixI_eq, unmixI_eq, U_in h]
  have u1 := U_un h 2147483648 4611686018427387904 (by decide) (by decide)
  have w1 := U_wrap (unI 2147483648 4611686018427387904 x * v2)
  have u2 := U_un w1 134217728 18014398509481984 (by decide) (by decide)
  have w2 := U_wrap (unI 134217728 18014398509481984 (IntKind.u64.wrap (unI 2147483648 4611686018427387904 x * v2)) * v1)
  rw [shI_unI w2 30 (by decide) 1073741824 1152921504606846976 rfl rfl, mul_inv u2 v1 k1 vk1, shI_unI w1 27 (by decide) 134217728 18014398509481984 rfl rfl, mul_inv u1 v2 k2 vk2, shI_unI h 31 (by decide) 2147483648 4611686018427387904 rfl rfl, U_in h]
theorem mix_inj {x y : Int} (hx : U x) (hy : U y) (h : mixI x = mixI y) : x = y := by
  rw [← unmix_mix hx, ← unmix_mix hy, h]
theorem xor_cancel {a b c : Int} (ha : U a) (hb : U b) (hc : U c) (h : bits .xor .u64 a b = bits .xor .u64 a c) : b = c := by
  obtain ⟨A, rfl, hA⟩ := ha.nat
  obtain ⟨B, rfl, hB⟩ := hb.nat
  obtain ⟨C, rfl, hC⟩ := hc.nat
  rw [u64_xor_nat _ _ hA hB, u64_xor_nat _ _ hA hC] at h
  have h2 : A ^^^ B = A ^^^ C := by omega
  have h3 := congrArg (A ^^^ ·) h2
  simp only [← Nat.xor_assoc, Nat.xor_self, Nat.zero_xor] at h3
  rw [h3]
theorem xor_cancel' {a b c : Int} (ha : U a) (hb : U b) (hc : U c) (h : bits .xor .u64 b a = bits .xor .u64 c a) : b = c := by
  obtain ⟨A, rfl, hA⟩ := ha.nat
  obtain ⟨B, rfl, hB⟩ := hb.nat
  obtain ⟨C, rfl, hC⟩ := hc.nat
  rw [u64_xor_nat _ _ hB hA, u64_xor_nat _ _ hC hA] at h
  have h2 : B ^^^ A = C ^^^ A := by omega
  have h3 := congrArg (· ^^^ A) h2
  simp only [Nat.xor_assoc, Nat.xor_self, Nat.xor_zero] at h3
  rw [h3]
theorem at_inj_n {k i j : Int} (hi0 : -9223372036854775808 ≤ i) (hi1 : i ≤ 9223372036854775807) (hj0 : -9223372036854775808 ≤ j) (hj1 : j ≤ 9223372036854775807) (h : atI k i = atI k j) : i = j := by
  have h2 := mix_inj (U_xor (U_mix _) (U_wrap _)) (U_xor (U_mix _) (U_wrap _)) h
  have h3 := xor_cancel (U_mix _) (U_wrap _) (U_wrap _) h2
  rw [IntKind.wrap_u64, IntKind.wrap_u64] at h3
  omega
theorem at_inj_k {k l i : Int} (hk : U k) (hl : U l) (h : atI k i = atI l i) : k = l := by
  have h2 := mix_inj (U_xor (U_mix _) (U_wrap _)) (U_xor (U_mix _) (U_wrap _)) h
  have h3 := xor_cancel' (U_wrap _) (U_mix _) (U_mix _) h2
  have h4 := mix_inj (U_wrap _) (U_wrap _) h3
  rw [IntKind.wrap_u64, IntKind.wrap_u64] at h4
  obtain ⟨a, b⟩ := hk
  obtain ⟨c, d⟩ := hl
  omega
def sd : Int := 11400714819323198485
def sv : Int := 17428512612931826493
theorem sdv : sd * sv % 18446744073709551616 = 1 := by decide
theorem stride_inj {a b : Int} (ha : U a) (hb : U b) (h : IntKind.u64.wrap (a * sd) = IntKind.u64.wrap (b * sd)) : a = b := by
  rw [← mul_inv ha sd sv sdv, h, mul_inv hb sd sv sdv]
theorem word_inj {k i j : Int} (hk : U k) (hi0 : 0 ≤ i) (hi1 : i < 1099511627776) (hj0 : 0 ≤ j) (hj1 : j < 1099511627776) (h : wordI k i = wordI k j) : i = j := by
  have h2 := mix_inj (U_wrap _) (U_wrap _) h
  have h3 : IntKind.u64.wrap ((i + 1) * 11400714819323198485) = IntKind.u64.wrap ((j + 1) * 11400714819323198485) := by
    have a := U_wrap ((i + 1) * 11400714819323198485)
    have b := U_wrap ((j + 1) * 11400714819323198485)
    generalize IntKind.u64.wrap ((i + 1) * 11400714819323198485) = p at h2 a ⊢
    generalize IntKind.u64.wrap ((j + 1) * 11400714819323198485) = q at h2 b ⊢
    rw [IntKind.wrap_u64, IntKind.wrap_u64] at h2
    obtain ⟨a1, a2⟩ := a
    obtain ⟨b1, b2⟩ := b
    obtain ⟨k1, k2⟩ := hk
    omega
  have := stride_inj (a := i + 1) (b := j + 1) ⟨by omega, by omega⟩ ⟨by omega, by omega⟩ h3
  omega
end Go.Proofs.YthalafjbkmemhaaDoor
