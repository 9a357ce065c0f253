/- What the document's own answer for Unmix returns: the same as Unmix. -/
import Derived.Test.YthalafjbkmemhaaDoorR2
import Derived.Test.YthalafjbkmemhaaDoorM2
namespace Go.Proofs.YthalafjbkmemhaaDoor
open Go Go.RowKit
set_option maxRecDepth 100000
def unN (X k : Nat) : Nat := X ^^^ X / 2 ^ k ^^^ X / 2 ^ (2 * k)
set_option maxHeartbeats 1000000 in
theorem runshift (X k : Nat) (w : World) (hX : X < 18446744073709551616) (hk : 22 ≤ k) (hk2 : k ≤ 63) :
    Calls Tryd.prog 49 #[.int .u64 (X : Int), .int .i64 (k : Int)] w fun e w' => e = .returned (.int .u64 ((unN X k : Nat) : Int)) ∧ w = w' := by
  have hU : unN X k < 18446744073709551616 := xor3_lt X k hX
  have HU := Lib.hid hU
  have HX := Lib.hid hX
  have X0 : 0 ≤ (X : Int) := by omega
  have X1 : (X : Int) ≤ 18446744073709551615 := by omega
  have HB := Lib.hid (fun j => xor_shift_bits X k hX hk j)
  have Hhigh := Lib.hid (fun j (h : 64 ≤ j) => (Nat.testBit_lt_two_pow (Nat.lt_of_lt_of_le hU (show 18446744073709551616 ≤ 2 ^ j from Nat.pow_le_pow_right (n := 2) (by omega) h)) : (unN X k).testBit j = false))
  clear hU hX
  go_enter Tryd.func49, Tryd.ntmps49
  go_wp2
  go_loop [5, 6] (fun a i => ∃ j : Nat, j ≤ 64 ∧ i = .int .i64 ((j : Int) - 1) ∧ a = .int .u64 ((unN X k / 2 ^ j * 2 ^ j : Nat) : Int)) (fun _ i => (1 + intOf i).toNat)
  case atStart =>
    refine ⟨64, by omega, rfl, ?_⟩
    have : unN X k / 2 ^ 64 = 0 := Nat.div_eq_of_lt HU.out
    rw [this]
    rfl
  case round =>
    obtain ⟨j, hj, rfl, rfl⟩ := hrel
    have htop : unN X k / 2 ^ j * 2 ^ j < 18446744073709551616 := Nat.lt_of_le_of_lt (Nat.div_mul_le_self _ _) HU.out
    obtain ⟨y, hy⟩ : ∃ y : Nat, unN X k / 2 ^ j * 2 ^ j = y := ⟨_, rfl⟩
    rw [hy] at htop ⊢
    have HY := Lib.hid hy
    clear hy
    have y0 : 0 ≤ (y : Int) := by omega
    have y1 : (y : Int) ≤ 18446744073709551615 := by omega
    clear htop
    by_cases hlt : 0 < j
    · obtain ⟨j', rfl⟩ : ∃ j', j = j' + 1 := ⟨j - 1, by omega⟩
      by_cases h2 : j' + k < 64
      · have t1 : (j' : Int) + k < 64 := by omega
        have HS := Lib.hid (step_low (unN X k) X j' k HU.out HX.out (by omega) (by omega) (HB.out j'))
        go_wp2
        go_round
        case rel => exact ⟨j', by omega, rfl, by rw [← HS.out, HY.out]⟩
        case measure => simp [intOf]; omega
      · have t1 : ¬ (j' : Int) + k < 64 := by omega
        have HS := Lib.hid (step_high (unN X k) X j' HU.out HX.out (by omega) (by
          have h := HB.out j'
          have h' := Hhigh.out (j' + k) (by omega)
          unfold unN at h' ⊢
          rw [h, h']
          simp))
        go_wp2
        go_round
        case rel => exact ⟨j', by omega, rfl, by rw [← HS.out, HY.out]⟩
        case measure => simp [intOf]; omega
    · obtain rfl : j = 0 := by omega
      go_wp2
      go_ret
      have e : y = unN X k := by rw [← HY.out]; simp
      exact ⟨by rw [e]; rfl, rfl⟩
def dmsI (n : Int) : Nat := if n = 0 then 0 else (18446744073709551616 - n).toNat
def dms (v : Value) : Nat := dmsI (intOf v)
theorem dms_lt (j : Nat) (h : j < 64) : dms (.int .u64 ((2 ^ (j + 1) % 18446744073709551616 : Nat) : Int)) < dms (.int .u64 ((2 ^ j % 18446744073709551616 : Nat) : Int)) := by
  have hp := pow_lt64 h
  have hpos := Nat.two_pow_pos j
  have hle : 2 ^ j * 2 ≤ 18446744073709551616 := by
    have := Nat.pow_le_pow_right (n := 2) (by omega) (show j + 1 ≤ 64 by omega)
    rw [Nat.pow_succ] at this
    exact this
  show dmsI ((2 ^ (j + 1) % 18446744073709551616 : Nat) : Int) < dmsI ((2 ^ j % 18446744073709551616 : Nat) : Int)
  unfold dmsI
  rw [Nat.mod_eq_of_lt hp, Nat.pow_succ]
  generalize 2 ^ j = a at hp hpos hle ⊢
  rw [if_neg (show ¬ ((a : Nat) : Int) = 0 by omega)]
  by_cases hz : ((a * 2 % 18446744073709551616 : Nat) : Int) = 0
  · rw [if_pos hz]; omega
  · rw [if_neg hz]; omega
set_option maxHeartbeats 1000000 in
theorem rdivide (x C Y : Nat) (w : World) (hY : Y < 18446744073709551616) (hodd : C % 2 = 1) (he : Y * C % 18446744073709551616 = x % 18446744073709551616) :
    Calls Tryd.prog 50 #[.int .u64 (x : Int), .int .u64 (C : Int)] w fun e w' => e = .returned (.int .u64 (Y : Int)) ∧ w = w' := by
  have HD := Lib.hid (fun j (hj : j < 64) => div_bit x Y C j hj hodd he)
  have HO := Lib.hid (fun j (hj : j < 64) (hb : Y.testBit j = true) => or_pow Y j hj hb)
  have HM := Lib.hid (fun j (hb : Y.testBit j = false) => mod_same Y j hb)
  have HY := Lib.hid hY
  clear hY hodd he
  go_enter Tryd.func50, Tryd.ntmps50
  go_wp2
  go_loop [5, 6] (fun a i => ∃ j : Nat, j ≤ 64 ∧ i = .int .u64 ((2 ^ j % 18446744073709551616 : Nat) : Int) ∧ a = .int .u64 ((Y % 2 ^ j : Nat) : Int)) (fun _ i => dms i)
  case atStart =>
    refine ⟨0, by omega, rfl, ?_⟩
    rw [Nat.pow_zero, Nat.mod_one]
    rfl
  case round =>
    obtain ⟨j, hj, rfl, rfl⟩ := hrel
    by_cases hlt : j < 64
    · have hp := pow_lt64 hlt
      have hpos := Nat.two_pow_pos j
      have hd := HD.out j hlt
      have hdbl := Lib.hid (wrap_double j)
      have hms := Lib.hid (dms_lt j hlt)
      have ho := HO.out j hlt
      have hm := HM.out j
      have eb : 2 ^ j % 18446744073709551616 = 2 ^ j := Nat.mod_eq_of_lt hp
      obtain ⟨b, hb⟩ : ∃ b : Nat, 2 ^ j % 18446744073709551616 = b := ⟨_, rfl⟩
      obtain ⟨y, hy⟩ : ∃ y : Nat, Y % 2 ^ j = y := ⟨_, rfl⟩
      have hbj : 2 ^ j = b := by omega
      rw [hb] at hdbl hms ⊢
      rw [hy] at hd ho hm ⊢
      rw [hbj] at hd ho hpos
      have t0 : ((b : Int) != 0) = true := by rw [bne_iff_ne]; omega
      have t0' : ((b : Int) == 0) = false := beq_eq_false_iff_ne.2 (by omega)
      have HB := Lib.hid hb
      have HYY := Lib.hid hy
      have HBJ := Lib.hid hbj
      clear hb hy hbj eb hp
      cases ht : Y.testBit j
      · rw [ht] at hd
        have t1 : (bits .and .u64 (IntKind.u64.wrap ((x : Int) - IntKind.u64.wrap ((y : Int) * (C : Int)))) (b : Int) != 0) = false := by rw [hd]; simp
        have t2 : (bits .and .u64 (IntKind.u64.wrap ((x : Int) - IntKind.u64.wrap ((y : Int) * (C : Int)))) (b : Int) == 0) = true := by rw [hd]; simp
        have HM2 := Lib.hid (hm ht)
        clear hd ho hm ht
        go_wp2
        go_round
        case rel => exact ⟨j + 1, by omega, by rw [← hdbl.out], by rw [HM2.out]⟩
        case measure =>
          rw [hdbl.out]
          exact hms.out
      · rw [ht] at hd
        have hd' : bits .and .u64 (IntKind.u64.wrap ((x : Int) - IntKind.u64.wrap ((y : Int) * (C : Int)))) (b : Int) = (b : Int) := by
          rw [hd]; simp
        have t1 : (bits .and .u64 (IntKind.u64.wrap ((x : Int) - IntKind.u64.wrap ((y : Int) * (C : Int)))) (b : Int) != 0) = true := by rw [hd']; exact t0
        have t2 : (bits .and .u64 (IntKind.u64.wrap ((x : Int) - IntKind.u64.wrap ((y : Int) * (C : Int)))) (b : Int) == 0) = false := by rw [hd']; exact t0'
        have HO2 := Lib.hid (ho ht)
        clear hd hd' ho hm ht
        go_wp2
        go_round
        case rel => exact ⟨j + 1, by omega, by rw [← hdbl.out], by rw [← HO2.out]⟩
        case measure =>
          rw [hdbl.out]
          exact hms.out
    · obtain rfl : j = 64 := by omega
      have e0 : ((2 ^ 64 % 18446744073709551616 : Nat) : Int) = 0 := rfl
      have e1 : Y % 2 ^ 64 = Y := Nat.mod_eq_of_lt HY.out
      rw [e0, e1]
      go_wp2
      go_ret
      exact ⟨rfl, rfl⟩
theorem un_nat (X k : Nat) (hX : X < 18446744073709551616) (p q : Int) (hp : p = ((2 ^ k : Nat) : Int)) (hq : q = ((2 ^ (2 * k) : Nat) : Int)) :
    bits .xor .u64 (bits .xor .u64 (X : Int) ((X : Int) / p)) ((X : Int) / q) = ((unN X k : Nat) : Int) := by
  subst hp hq
  have e1 : ((X : Int) / ((2 ^ k : Nat) : Int)) = ((X / 2 ^ k : Nat) : Int) := by push_cast; rfl
  have e2 : ((X : Int) / ((2 ^ (2 * k) : Nat) : Int)) = ((X / 2 ^ (2 * k) : Nat) : Int) := by push_cast; rfl
  rw [e1, e2, u64_xor_nat _ _ hX (div_lt64 hX k), u64_xor_nat _ _ (Nat.xor_lt_two_pow (n := 64) hX (div_lt64 hX k)) (div_lt64 hX (2 * k))]
  rfl
theorem inv_mul (A V C M : Nat) (h : V * C % M = 1) : A * V % M * C % M = A % M := by
  rw [Nat.mul_mod, Nat.mod_mod, ← Nat.mul_mod, Nat.mul_assoc, Nat.mul_mod A, h, Nat.mul_one, Nat.mod_mod]
theorem inv_one : 3573116690164977347 * 10723151780598845931 % 18446744073709551616 = 1 := rfl
theorem inv_two : 10871156337175269513 * 13787848793156543929 % 18446744073709551616 = 1 := rfl
theorem runmix_any (x : Int) (w : World) (h0 : 0 ≤ x) (h1 : x ≤ 18446744073709551615) :
    Calls Tryd.prog 36 #[.int .u64 x] w fun e w' => e = .returned (.int .u64 (unmixI x)) ∧ w = w' := by
  obtain ⟨X, rfl⟩ := Int.eq_ofNat_of_zero_le h0
  have hX : X < 18446744073709551616 := by omega
  have hA : unN X 31 < 18446744073709551616 := xor3_lt X 31 hX
  obtain ⟨A, eA⟩ : ∃ A, unN X 31 = A := ⟨_, rfl⟩
  obtain ⟨B, eB⟩ : ∃ B, A * 3573116690164977347 % 18446744073709551616 = B := ⟨_, rfl⟩
  have hB : B < 18446744073709551616 := by rw [← eB]; exact Nat.mod_lt _ (by decide)
  have hC : unN B 27 < 18446744073709551616 := xor3_lt B 27 hB
  obtain ⟨C, eC⟩ : ∃ C, unN B 27 = C := ⟨_, rfl⟩
  obtain ⟨D, eD⟩ : ∃ D, C * 10871156337175269513 % 18446744073709551616 = D := ⟨_, rfl⟩
  have hD : D < 18446744073709551616 := by rw [← eD]; exact Nat.mod_lt _ (by decide)
  have hfin : unmixI (X : Int) = ((unN D 30 : Nat) : Int) := by
    unfold unmixI
    rw [nat_in hX]
    have u1 : un31 (X : Int) = (A : Int) := by rw [← eA]; exact un_nat X 31 hX _ _ rfl rfl
    rw [u1]
    have m1 : IntKind.u64.wrap ((A : Int) * 3573116690164977347) = (B : Int) := by
      rw [← eB]; exact wrap_nat (A * 3573116690164977347)
    rw [m1]
    have u2 : un27 (B : Int) = (C : Int) := by rw [← eC]; exact un_nat B 27 hB _ _ rfl rfl
    rw [u2]
    have m2 : IntKind.u64.wrap ((C : Int) * 10871156337175269513) = (D : Int) := by
      rw [← eD]; exact wrap_nat (C * 10871156337175269513)
    rw [m2]
    exact un_nat D 30 hD _ _ rfl rfl
  have s1 := Lib.hid (fun w => runshift X 31 w hX (by omega) (by omega))
  have s2 := Lib.hid (fun w => rdivide A 10723151780598845931 B w hB (by decide) (by rw [← eB]; exact inv_mul _ _ _ _ inv_one))
  have s3 := Lib.hid (fun w => runshift B 27 w hB (by omega) (by omega))
  have s4 := Lib.hid (fun w => rdivide C 13787848793156543929 D w hD (by decide) (by rw [← eD]; exact inv_mul _ _ _ _ inv_two))
  have s5 := Lib.hid (fun w => runshift D 30 w hD (by omega) (by omega))
  rw [eA] at s1
  rw [eC] at s3
  have HF := Lib.hid hfin
  clear hfin eA eB eC eD hA hB hC hD hX
  go_enter Tryd.func36, Tryd.ntmps36
  go_wp2_with fail
  refine (s1.out w).mono ?_
  rintro e w' ⟨rfl, rfl⟩
  go_wp2_with fail
  refine (s2.out w).mono ?_
  rintro e w' ⟨rfl, rfl⟩
  go_wp2_with fail
  refine (s3.out w).mono ?_
  rintro e w' ⟨rfl, rfl⟩
  go_wp2_with fail
  refine (s4.out w).mono ?_
  rintro e w' ⟨rfl, rfl⟩
  go_wp2_with fail
  refine (s5.out w).mono ?_
  rintro e w' ⟨rfl, rfl⟩
  go_wp2_with fail
  go_ret
  exact ⟨by rw [HF.out]; rfl, rfl⟩
end Go.Proofs.YthalafjbkmemhaaDoor
