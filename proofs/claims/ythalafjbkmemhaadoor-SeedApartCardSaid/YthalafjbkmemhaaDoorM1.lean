/- Plain arithmetic on 64-bit numbers: the greatest word that is accepted for a number n. -/
import Derived.Laws.BitsAllLaws
import Derived.Laws.Wrap64
namespace Go.Proofs.YthalafjbkmemhaaDoor
open Go
def lim (n : Int) : Int := 18446744073709551615 - 18446744073709551616 % n
theorem nat_not (b : Nat) (hb : b < 2 ^ 64) : (18446744073709551615 : Nat) ^^^ b = 18446744073709551615 - b := by
  have h := congrArg BitVec.toNat (BitVec.allOnes_xor (x := BitVec.ofNat 64 b))
  rw [BitVec.toNat_xor, BitVec.toNat_not, BitVec.toNat_allOnes, BitVec.toNat_ofNat, Nat.mod_eq_of_lt hb] at h
  exact h
theorem not_lim (n : Int) (h1 : 1 ≤ n) (h2 : n ≤ 9223372036854775807) : bits .xor .u64 (if IntKind.u64.signed = true then -1 else IntKind.u64.max) ((IntKind.u64.wrap (-n)).tmod n) = lim n := by
  have e1 : IntKind.u64.wrap (-n) = 18446744073709551616 - n := by rw [IntKind.wrap_u64]; omega
  have e2 : (IntKind.u64.wrap (-n)).tmod n = 18446744073709551616 % n := by
    rw [e1, Int.tmod_eq_emod_of_nonneg (by omega), Int.sub_emod_right]
  have l1 : 0 ≤ (18446744073709551616 : Int) % n := Int.emod_nonneg _ (by omega)
  have l2 : (18446744073709551616 : Int) % n < n := Int.emod_lt_of_pos _ (by omega)
  have e3 : (if IntKind.u64.signed = true then -1 else IntKind.u64.max) = (18446744073709551615 : Int) := rfl
  rw [e2, e3, u64_xor _ _ (by decide) (by decide) l1 (by omega)]
  unfold lim
  generalize (18446744073709551616 : Int) % n = m at l1 l2 ⊢
  obtain ⟨k, rfl⟩ := Int.eq_ofNat_of_zero_le l1
  rw [show (18446744073709551615 : Int).toNat = 18446744073709551615 from rfl, Int.toNat_natCast, nat_not k (by omega)]
  omega
end Go.Proofs.YthalafjbkmemhaaDoor
