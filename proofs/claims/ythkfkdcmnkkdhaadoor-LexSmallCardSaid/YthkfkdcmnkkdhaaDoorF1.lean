/- The small functions: what a byte is; the six words. -/
import Derived.Test.YthkfkdcmnkkdhaaDoorN1
import Derived.Test.YthkfkdcmnkkdhaaDoorL1
namespace Go.Proofs.YthkfkdcmnkkdhaaDoor
open Go Go.RowKit
set_option maxRecDepth 100000
set_option linter.unusedVariables false
def letC (c : Int) : Bool := (decide (97 ≤ c) && decide (c ≤ 122)) || (decide (65 ≤ c) && decide (c ≤ 90))
def digC (c : Int) : Bool := decide (48 ≤ c) && decide (c ≤ 57)
def blaC (c : Int) : Bool := c == 32 || c == 9 || c == 10 || c == 13
theorem lexLetter_any (c : Int) (w : World) : Calls Tryd.prog 42 #[.int .u8 c] w fun e w' => e = .returned (.bool (letC c)) ∧ w' = w := by
  by_cases h1 : 97 ≤ c <;> by_cases h2 : c ≤ 122 <;> by_cases h3 : 65 ≤ c <;> by_cases h4 : c ≤ 90
  all_goals first
    | (exfalso; omega)
    | skip
  all_goals
    obtain ⟨x, hx⟩ : ∃ x, letC c = x := ⟨_, rfl⟩
    have hx' := Lib.hid hx
    simp only [letC, h1, h2, h3, h4, decide_true, decide_false, Bool.and_true, Bool.and_false, Bool.or_true, Bool.or_false] at hx
    rw [hx'.out]
    subst hx
    clear hx'
    go_enter Tryd.func42, Tryd.ntmps42
    go_wp2
    go_ret
    exact ⟨rfl, rfl⟩
theorem refLetter_any (c : Int) (w : World) : Calls Tryd.prog 30 #[.int .u8 c] w fun e w' => e = .returned (.bool (letC c)) ∧ w' = w := by
  by_cases h1 : 97 ≤ c <;> by_cases h2 : c ≤ 122 <;> by_cases h3 : 65 ≤ c <;> by_cases h4 : c ≤ 90
  all_goals first
    | (exfalso; omega)
    | skip
  all_goals
    obtain ⟨x, hx⟩ : ∃ x, letC c = x := ⟨_, rfl⟩
    have hx' := Lib.hid hx
    simp only [letC, h1, h2, h3, h4, decide_true, decide_false, Bool.and_true, Bool.and_false, Bool.or_true, Bool.or_false] at hx
    rw [hx'.out]
    subst hx
    clear hx'
    go_enter Tryd.func30, Tryd.ntmps30
    go_wp2
    go_ret
    exact ⟨rfl, rfl⟩
theorem lexDigit_any (c : Int) (w : World) : Calls Tryd.prog 53 #[.int .u8 c] w fun e w' => e = .returned (.bool (digC c)) ∧ w' = w := by
  by_cases h1 : 48 ≤ c <;> by_cases h2 : c ≤ 57
  all_goals
    obtain ⟨x, hx⟩ : ∃ x, digC c = x := ⟨_, rfl⟩
    have hx' := Lib.hid hx
    simp only [digC, h1, h2, decide_true, decide_false, Bool.and_true, Bool.and_false] at hx
    rw [hx'.out]
    subst hx
    clear hx'
    go_enter Tryd.func53, Tryd.ntmps53
    go_wp2
    go_ret
    exact ⟨rfl, rfl⟩
theorem refDigit_any (c : Int) (w : World) : Calls Tryd.prog 32 #[.int .u8 c] w fun e w' => e = .returned (.bool (digC c)) ∧ w' = w := by
  by_cases h1 : 48 ≤ c <;> by_cases h2 : c ≤ 57
  all_goals
    obtain ⟨x, hx⟩ : ∃ x, digC c = x := ⟨_, rfl⟩
    have hx' := Lib.hid hx
    simp only [digC, h1, h2, decide_true, decide_false, Bool.and_true, Bool.and_false] at hx
    rw [hx'.out]
    subst hx
    clear hx'
    go_enter Tryd.func32, Tryd.ntmps32
    go_wp2
    go_ret
    exact ⟨rfl, rfl⟩
theorem lexBlank_any (c : Int) (w : World) : Calls Tryd.prog 44 #[.int .u8 c] w fun e w' => e = .returned (.bool (blaC c)) ∧ w' = w := by
  cases h1 : c == 32 <;> cases h2 : c == 9 <;> cases h3 : c == 10 <;> cases h4 : c == 13
  all_goals
    obtain ⟨x, hx⟩ : ∃ x, blaC c = x := ⟨_, rfl⟩
    have hx' := Lib.hid hx
    simp only [blaC, h1, h2, h3, h4, Bool.or_true, Bool.or_false] at hx
    rw [hx'.out]
    subst hx
    clear hx'
    go_enter Tryd.func44, Tryd.ntmps44
    go_wp2
    go_ret
    exact ⟨rfl, rfl⟩
theorem lexWord_any (s : ByteArray) (w : World) : Calls Tryd.prog 19 #[.string s] w fun e w' => e = .returned (.bool (isWordB s.toList)) ∧ w' = w := by
  go_enter Tryd.func19, Tryd.ntmps19
  go_wp2
  all_goals first
    | (exfalso; simp_all; done)
    | skip
  all_goals go_ret
  all_goals refine ⟨?_, rfl⟩
  all_goals simp [isWordB, *]
theorem refWord_any (s : ByteArray) (w : World) : Calls Tryd.prog 20 #[.string s] w fun e w' => e = .returned (.bool (isWordB s.toList)) ∧ w' = w := by
  go_enter Tryd.func20, Tryd.ntmps20
  go_wp2
  all_goals first
    | (exfalso; simp_all; done)
    | skip
  all_goals go_ret
  all_goals refine ⟨?_, rfl⟩
  all_goals simp [isWordB, *]
theorem letC_of (b : UInt8) : letC (b.toNat : Int) = Lx.letter b := by
  rw [Bool.eq_iff_iff]
  simp only [letC, Lx.letter, Bool.or_eq_true, Bool.and_eq_true, decide_eq_true_eq, UInt8.le_iff_toNat_le]
  have e1 : (97 : UInt8).toNat = 97 := rfl
  have e2 : (122 : UInt8).toNat = 122 := rfl
  have e3 : (65 : UInt8).toNat = 65 := rfl
  have e4 : (90 : UInt8).toNat = 90 := rfl
  rw [e1, e2, e3, e4]
  omega
theorem digC_of (b : UInt8) : digC (b.toNat : Int) = (decide (48 ≤ b) && decide (b ≤ 57)) := by
  rw [Bool.eq_iff_iff]
  simp only [digC, Bool.and_eq_true, decide_eq_true_eq, UInt8.le_iff_toNat_le]
  have e1 : (48 : UInt8).toNat = 48 := rfl
  have e2 : (57 : UInt8).toNat = 57 := rfl
  rw [e1, e2]
  omega
theorem ldC_of (b : UInt8) : (letC (b.toNat : Int) || digC (b.toNat : Int)) = Lx.ld b := by rw [letC_of, digC_of]; rfl
theorem byte_eq (b : UInt8) (n : Nat) (h : n < 256) : (((b.toNat : Int) == (n : Int)) : Bool) = (b == UInt8.ofNat n) := by
  rw [Bool.eq_iff_iff]
  simp only [beq_iff_eq]
  constructor
  · intro e
    have e' : b.toNat = n := by omega
    apply UInt8.toNat_inj.1
    rw [e', UInt8.toNat_ofNat']
    omega
  · rintro rfl
    rw [UInt8.toNat_ofNat']
    omega
theorem blaC_of (b : UInt8) : blaC (b.toNat : Int) = Lx.blank b := by
  have h1 := byte_eq b 32 (by omega)
  have h2 := byte_eq b 9 (by omega)
  have h3 := byte_eq b 10 (by omega)
  have h4 := byte_eq b 13 (by omega)
  unfold blaC Lx.blank
  rw [show (32 : Int) = ((32 : Nat) : Int) from rfl, show (9 : Int) = ((9 : Nat) : Int) from rfl, show (10 : Int) = ((10 : Nat) : Int) from rfl, show (13 : Int) = ((13 : Nat) : Int) from rfl, h1, h2, h3, h4]
  rfl
end Go.Proofs.YthkfkdcmnkkdhaaDoor
