/- What the document's own answers for Sub, Below, Perm, Choose and Weigh return, for every input. -/
import Derived.Test.YthalafjbkmemhaaDoorR1
namespace Go.Proofs.YthalafjbkmemhaaDoor
open Go Go.RowKit
set_option maxRecDepth 100000
theorem rsub_empty (k : Int) (s : ByteArray) (w : World) (hs : s.size = 0) :
    Calls Tryd.prog 31 #[.int .u64 k, .string s] w fun e w' => e = .returned (.tuple #[.int .u64 0, .int .i64 2]) ∧ w = w' := by
  obtain rfl : s = ByteArray.empty := by
    apply ByteArray.ext
    exact Array.eq_empty_of_size_eq_zero hs
  go_enter Tryd.func31, Tryd.ntmps31
  go_wp2_with fail
  go_ret2
  exact ⟨rfl, rfl⟩
theorem rsub_long (k : Int) (s : ByteArray) (w : World) (hs : 32 < s.size) (hm : s.size ≤ 9223372036854775807) :
    Calls Tryd.prog 31 #[.int .u64 k, .string s] w fun e w' => e = .returned (.tuple #[.int .u64 0, .int .i64 3]) ∧ w = w' := by
  have h1 : ((s.size : Int) == 0) = false := beq_eq_false_iff_ne.2 (by omega)
  go_enter Tryd.func31, Tryd.ntmps31
  go_wp2_with fail
  go_ret2
  exact ⟨rfl, rfl⟩
theorem subTo_range (k : Int) (l : List UInt8) (h0 : 0 ≤ k) (h1 : k ≤ 18446744073709551615) : 0 ≤ subTo k l ∧ subTo k l ≤ 18446744073709551615 := by
  induction l generalizing k with
  | nil => exact ⟨h0, h1⟩
  | cons c l ih => exact ih _ (mixI_nn _) (mixI_le _)
set_option maxHeartbeats 1000000 in
theorem rsub_ok (k : Int) (s : ByteArray) (w : World) (k0 : 0 ≤ k) (k1 : k ≤ 18446744073709551615) (hs : 0 < s.size) (hm : s.size ≤ 32) :
    Calls Tryd.prog 31 #[.int .u64 k, .string s] w fun e w' => e = .returned (.tuple #[.int .u64 (subI k s.data.toList), .int .i64 0]) ∧ w = w' := by
  have h1 : ((s.size : Int) == 0) = false := beq_eq_false_iff_ne.2 (by omega)
  have hk : subI k s.data.toList = subTo (mixI (bits .xor .u64 k (s.size : Int))) s.data.toList := by
    unfold subI
    rw [show s.data.toList.length = s.size from by simp]
  have HK := Lib.hid hk
  clear hk
  have r := xor_range k (s.size : Int) k0 k1 (by omega) (by omega)
  go_enter Tryd.func31, Tryd.ntmps31
  go_wp2_with fail
  refine (rmix_any _ _ r.1 r.2).mono ?_
  rintro e w' ⟨rfl, rfl⟩
  clear r
  have hr := subTo_range (mixI (bits .xor .u64 k (s.size : Int)))
  have hr' := Lib.hid (fun l => hr l (mixI_nn _) (mixI_le _))
  clear hr
  generalize hbase : mixI (bits .xor .u64 k (s.size : Int)) = m0 at HK hr' ⊢
  clear hbase
  go_wp2_with fail
  go_loop [6, 7] (fun a i => ∃ j : Nat, j ≤ s.size ∧ i = .int .i64 j ∧ a = .int .u64 (subTo m0 (s.data.toList.take j))) (fun _ i => s.size - (intOf i).toNat)
  case atStart => exact ⟨0, Nat.zero_le _, rfl, rfl⟩
  case round =>
    obtain ⟨j, hj, rfl, rfl⟩ := hrel
    by_cases hlt : j < s.size
    · have ts := Lib.hid (take_snoc s j hlt)
      have q := hr'.out (s.data.toList.take j)
      have r := xor_range (subTo m0 (s.data.toList.take j)) (IntKind.u64.wrap (s[j].toNat : Int)) q.1 q.2 (wrap_nn _) (wrap_le _)
      have R := Lib.hid r
      clear r q
      go_wp2_with fail
      refine (rmix_any _ _ R.out.1 R.out.2).mono ?_
      rintro e w2 ⟨rfl, rfl⟩
      go_wp2_with fail
      go_round
      case rel => exact ⟨j + 1, by omega, by go_num, by rw [ts.out, subTo_snoc]⟩
      case measure => simp [intOf]; omega
    · obtain rfl : j = s.size := by omega
      go_wp2_with fail
      go_ret2
      refine ⟨?_, rfl⟩
      rw [HK.out]
      have e : s.data.toList.take s.size = s.data.toList := List.take_of_length_le (by simp)
      rw [e]
      rfl
set_option maxHeartbeats 1000000 in
theorem rbelow_ok (k i n : Int) (w : World) (h1 : 0 ≤ i) (h2 : i ≤ 1099511627776) (h3 : 1 ≤ n) (h4 : n ≤ 9223372036854775807) :
    Calls Tryd.prog 37 #[.int .u64 k, .int .i64 i, .int .i64 n] w fun e w' => e = .returned (.tuple #[.int .i64 (bV (belowR k i n)), .int .i64 (bN (belowR k i n)), .int .i64 (bE (belowR k i n))]) ∧ w = w' := by
  go_enter Tryd.func37, Tryd.ntmps37
  go_wp2_with fail
  go_loop [1] (fun a => ∃ j : Int, i ≤ j ∧ j ≤ 1099511627776 ∧ a = .int .i64 j ∧ Hid (belowR k i n = belowR k j n)) (fun a => (1099511627776 - intOf a).toNat)
  case atStart => exact ⟨i, by omega, h2, rfl, Lib.hid rfl⟩
  case round =>
    obtain ⟨j, hj1, hj2, rfl, hj3⟩ := hrel
    by_cases hlt : j < 1099511627776
    · go_wp2_with fail
      refine (rword_ok _ _ _ (by omega) hlt).mono ?_
      rintro e w1 ⟨rfl, rfl⟩
      go_wp2_with fail
      refine (rrest_any _ _ _ (wordI_nn _ _) (wordI_le _ _) h4).mono ?_
      rintro e w2 ⟨rfl, rfl⟩
      have hstep := Lib.hid (belowR_step k j n hlt)
      cases hr : restB (wordI k j) n
      · go_wp2_with fail
        go_round
        case rel => exact ⟨j + 1, by omega, by omega, rfl, Lib.hid (by rw [hj3.out, hstep.out, hr]; rfl)⟩
        case measure => simp [intOf]; omega
      · go_wp2_with fail
        go_ret3
        refine ⟨?_, rfl⟩
        rw [hj3.out, hstep.out, hr]
        rfl
    · obtain rfl : j = 1099511627776 := by omega
      go_wp2_with fail
      go_ret3
      refine ⟨?_, rfl⟩
      rw [hj3.out, belowR_end]
      rfl
set_option maxHeartbeats 1000000 in
theorem rbelow_no (k i n : Int) (w : World) (h : ¬ (0 ≤ i ∧ i ≤ 1099511627776) ∨ n < 1) :
    Calls Tryd.prog 37 #[.int .u64 k, .int .i64 i, .int .i64 n] w fun e w' => e = .returned (.tuple #[.int .i64 0, .int .i64 0, .int .i64 2]) ∧ w = w' := by
  by_cases hi : i < 0
  · clear h
    go_enter Tryd.func37, Tryd.ntmps37
    go_wp2_with fail
    go_ret3
    exact ⟨rfl, rfl⟩
  · by_cases hj : 1099511627776 < i
    · clear h
      go_enter Tryd.func37, Tryd.ntmps37
      go_wp2_with fail
      go_ret3
      exact ⟨rfl, rfl⟩
    · have hn : n < 1 := by rcases h with h | h; exact absurd ⟨by omega, by omega⟩ h; exact h
      clear h
      go_enter Tryd.func37, Tryd.ntmps37
      go_wp2_with fail
      go_ret3
      exact ⟨rfl, rfl⟩
theorem rbelow_some (k i n v nx : Int) (w : World) (h1 : 0 ≤ i) (h2 : i ≤ 1099511627776) (h3 : 1 ≤ n) (h4 : n ≤ 9223372036854775807) (hr : belowR k i n = some (v, nx)) :
    Calls Tryd.prog 37 #[.int .u64 k, .int .i64 i, .int .i64 n] w fun e w' => e = .returned (.tuple #[.int .i64 v, .int .i64 nx, .int .i64 0]) ∧ w = w' :=
  (rbelow_ok k i n w h1 h2 h3 h4).mono fun _ _ ⟨he, hb⟩ => ⟨by rw [he, hr]; rfl, hb⟩
theorem rbelow_none (k i n : Int) (w : World) (h1 : 0 ≤ i) (h2 : i ≤ 1099511627776) (h3 : 1 ≤ n) (h4 : n ≤ 9223372036854775807) (hr : belowR k i n = none) :
    Calls Tryd.prog 37 #[.int .u64 k, .int .i64 i, .int .i64 n] w fun e w' => e = .returned (.tuple #[.int .i64 0, .int .i64 0, .int .i64 4]) ∧ w = w' :=
  (rbelow_ok k i n w h1 h2 h3 h4).mono fun _ _ ⟨he, hb⟩ => ⟨by rw [he, hr]; rfl, hb⟩
end Go.Proofs.YthalafjbkmemhaaDoor
