/- SeedSmall's walk: each of its small cases holds by what holds of every input. -/
import Derived.Test.YthalafjbkmemhaaDoorW3
import Derived.Test.YthalafjbkmemhaaDoorX10
namespace Go.Proofs.YthalafjbkmemhaaDoor
open Go Go.RowKit
set_option maxRecDepth 100000
theorem rests_any (x n : Int) (w : World) (h0 : 0 ≤ x) (hx : x ≤ 18446744073709551615) (h2 : n ≤ 9223372036854775807) :
    Calls Tryd.prog 16 #[.int .u64 x, .int .i64 n] w fun e w' => e = .returned (.bool true) ∧ w = w' := by
  go_enter Tryd.func16, Tryd.ntmps16
  go_wp2_with fail
  refine (rest_any x n w h0 h2).mono ?_
  rintro e w' ⟨rfl, rfl⟩
  go_wp2_with fail
  refine (rrest_any x n w h0 hx h2).mono ?_
  rintro e w' ⟨rfl, rfl⟩
  go_wp2_with fail
  go_ret
  simp
theorem wrap64_le (x : Int) : wrap64 x ≤ 9223372036854775807 := by
  simp only [wrap64]
  omega
set_option maxHeartbeats 4000000 in
theorem small_any (w : World) (h : Stp w) :
    Calls Tryd.prog 6 #[] w fun e w' => e = .returned (.bool true) ∧ Below w.heap.size w w' := by
  go_enter Tryd.func6, Tryd.ntmps6
  go_wp2_with fail
  go_loop [1] (fun a => ∃ n : Int, -1 ≤ n ∧ n ≤ 301 ∧ a = .int .i64 n) (fun a => (301 - intOf a).toNat)
  case atStart => exact ⟨-1, by omega, by omega, rfl⟩
  case round =>
    obtain ⟨n, hn0, hn1, rfl⟩ := hrel
    by_cases hlt : n ≤ 300
    · go_wp2_with fail
      go_loop [2] (fun a => ∃ k : Int, 0 ≤ k ∧ k ≤ 300 ∧ a = .int .u64 k) (fun a => (300 - intOf a).toNat)
      case atStart => exact ⟨0, by omega, by omega, rfl⟩
      case round =>
        obtain ⟨k, hk0, hk1, rfl⟩ := hrel
        by_cases hlt2 : k < 300
        · go_wp2_with fail
          refine (rests_any k n w hk0 (by omega) (by omega)).mono ?_
          rintro e w' ⟨rfl, rfl⟩
          have hnot := not_u64 k hk0 (by omega)
          go_wp2_with fail
          refine (rests_any _ n w (by omega) (by omega) (by omega)).mono ?_
          rintro e w' ⟨rfl, rfl⟩
          go_wp2_with fail
          go_round
          case rel => exact ⟨k + 1, by omega, by omega, by go_num⟩
          case measure => simp [intOf]; omega
        · go_wp2_with fail
          go_round
          case rel => exact ⟨n + 1, by omega, by omega, by go_num⟩
          case measure => simp [intOf]; omega
    · go_wp2_with fail
      have hb0 : Below w.heap.size w w := Below.refl _ _
      go_loopw [3] (fun a wr => ∃ k : Nat, k ≤ 64 ∧ a = .int .i64 k ∧ Below w.heap.size w wr) (fun a _ => (64 - intOf a).toNat)
      case atStart => exact ⟨0, by omega, rfl, hb0⟩
      case round =>
        clear hb0
        obtain ⟨k, hk, rfl, hb1⟩ := hrel
        by_cases hlt3 : k < 64
        · have h64 : (k : Int) < 64 := by omega
          go_wp2_with fail
          generalize wr = w3 at hb1 ⊢
          go_loopw [4] (fun a wr => ∃ d : Int, -3 ≤ d ∧ d ≤ 4 ∧ a = .int .i64 d ∧ Below w.heap.size w wr) (fun a _ => (4 - intOf a).toNat)
          case atStart => exact ⟨-3, by omega, by omega, rfl, hb1⟩
          case round =>
            clear hb1
            obtain ⟨d, hd0, hd1, rfl, hb2⟩ := hrel
            by_cases hlt4 : d ≤ 3
            · go_wp2_with fail
              obtain ⟨p1, hp1⟩ : ∃ p1, IntKind.u64.wrap (2 ^ k) = p1 := ⟨_, rfl⟩
              obtain ⟨p2, hp2⟩ : ∃ p2, IntKind.u64.wrap d = p2 := ⟨_, rfl⟩
              rw [hp1, hp2]
              clear hp1 hp2
              obtain ⟨p3, hp3⟩ : ∃ p3, IntKind.u64.wrap (p1 + p2) = p3 := ⟨_, rfl⟩
              rw [hp3]
              clear hp3
              obtain ⟨x, hx⟩ : ∃ x, wrap64 p3 = x := ⟨_, rfl⟩
              have x1 : x ≤ 9223372036854775807 := by rw [← hx]; exact wrap64_le _
              rw [hx]
              clear hx
              generalize wr = w4 at hb2 ⊢
              go_loopw [6] (fun a wr => ∃ v : Int, 0 ≤ v ∧ v ≤ 4 ∧ a = .int .u64 v ∧ Below w.heap.size w wr) (fun a _ => (4 - intOf a).toNat)
              case atStart => exact ⟨0, by omega, by omega, rfl, hb2⟩
              case round =>
                clear hb2
                obtain ⟨v, hv0, hv1, rfl, hb3⟩ := hrel
                by_cases hlt5 : v < 4
                · have hst := h.of hb3
                  have hnot := not_u64 v hv0 (by omega)
                  have NM := Lib.hid (names_any (IntKind.u64.wrap x) ⟨#[120]⟩ x x wr hst (wrap_nn _) (wrap_le _) (by decide))
                  go_wp2_with fail
                  with_reducible refine (rests_any v x wr hv0 (by omega) x1).mono ?_
                  rintro e w' ⟨rfl, rfl⟩
                  go_wp2_with fail
                  with_reducible refine (rests_any _ x wr (by omega) (by omega) x1).mono ?_
                  rintro e w' ⟨rfl, rfl⟩
                  go_wp2_with fail
                  with_reducible refine (rests_any _ x wr (wrap_nn _) (wrap_le _) x1).mono ?_
                  rintro e w' ⟨rfl, rfl⟩
                  go_wp2_with fail
                  with_reducible refine (rests_any _ x wr (wrap_nn _) (wrap_le _) x1).mono ?_
                  rintro e w' ⟨rfl, rfl⟩
                  go_wp2_with fail
                  refine NM.out.mono ?_
                  rintro e w' ⟨rfl, hb4⟩
                  go_wp2_with fail
                  go_roundw
                  case rel => exact ⟨v + 1, by omega, by omega, by go_num, hb3.trans (hb4.mono hb3.size)⟩
                  case measure => simp [intOf]; omega
                · go_wp2_with fail
                  go_roundw
                  case rel => exact ⟨d + 1, by omega, by omega, by go_num, hb3⟩
                  case measure => simp [intOf]; omega
            · go_wp2_with fail
              go_roundw
              case rel => exact ⟨k + 1, by omega, by go_num, hb2⟩
              case measure => simp [intOf]; omega
        · go_wp2_with fail
          generalize wr = w5 at hb1 ⊢
          go_loopw [7] (fun a wr => ∃ key : Int, 0 ≤ key ∧ key ≤ 40 ∧ a = .int .u64 key ∧ Below w.heap.size w wr) (fun a _ => (40 - intOf a).toNat)
          case atStart => exact ⟨0, by omega, by omega, rfl, hb1⟩
          case round =>
            clear hb1
            obtain ⟨key, hq0, hq1, rfl, hb2⟩ := hrel
            by_cases hlt6 : key < 40
            · go_wp2_with fail
              generalize wr = w6 at hb2 ⊢
              go_loopw [8] (fun a wr => ∃ m : Int, -1 ≤ m ∧ m ≤ 8 ∧ a = .int .i64 m ∧ Below w.heap.size w wr) (fun a _ => (8 - intOf a).toNat)
              case atStart => exact ⟨-1, by omega, by omega, rfl, hb2⟩
              case round =>
                clear hb2
                obtain ⟨m, hm0, hm1, rfl, hb3⟩ := hrel
                by_cases hlt7 : m ≤ 7
                · go_wp2_with fail
                  generalize wr = w7 at hb3 ⊢
                  go_loopw [9] (fun a wr => ∃ c : Int, -1 ≤ c ∧ c ≤ m + 2 ∧ a = .int .i64 c ∧ Below w.heap.size w wr) (fun a _ => (m + 2 - intOf a).toNat)
                  case atStart => exact ⟨-1, by omega, by omega, rfl, hb3⟩
                  case round =>
                    clear hb3
                    obtain ⟨c, hc0, hc1, rfl, hb4⟩ := hrel
                    by_cases hlt8 : c ≤ m + 1
                    · go_wp2_with fail
                      have hrd := rd_new wr [-1, 0, 1, 5, 1099511627770, 1099511627773, 1099511627775, 1099511627776, 1099511627777] 3
                      generalize hW : wr.alloc (.cells #[.int .i64 (-1), .int .i64 0, .int .i64 1, .int .i64 5, .int .i64 1099511627770, .int .i64 1099511627773, .int .i64 1099511627775, .int .i64 1099511627776, .int .i64 1099511627777] 3) = w8
                      have hrd2 : Rd w8 (.slice (some ⟨wr.heap.size, 0, none⟩) 9 9) [-1, 0, 1, 5, 1099511627770, 1099511627773, 1099511627775, 1099511627776, 1099511627777] := by rw [← hW]; exact hrd
                      have hb5 : Below w.heap.size w w8 := by rw [← hW]; exact hb4.alloc hb4.size _
                      clear hrd hW hb4
                      obtain ⟨b9, off9, cap9, e9, hbl9, hcells⟩ := hrd2.some (by decide)
                      have HC : Hid (∀ j, j < 9 → ∃ x : Int, w8.cell? ⟨b9, off9 + j, none⟩ = some (.int .i64 x)) := Lib.hid (fun j hj => ⟨_, hcells j hj⟩)
                      rw [show (Value.slice (some ⟨wr.heap.size, 0, none⟩) 9 9) = .slice (some ⟨b9, off9, none⟩) 9 9 by cases e9; rfl]
                      clear e9 hcells hrd2
                      go_loopw [105] (fun a wr => ∃ j : Nat, j ≤ 9 ∧ a = .int .i64 j ∧ Below w8.heap.size w8 wr) (fun a _ => (9 - intOf a).toNat)
                      case atStart => exact ⟨0, by omega, rfl, Below.refl _ _⟩
                      case round =>
                        obtain ⟨j, hj, rfl, hb6⟩ := hrel
                        by_cases hlt9 : j < 9
                        · obtain ⟨x, hx⟩ := HC.out j hlt9
                          have hcx := (hb6.cell (p := ⟨b9, off9 + j, none⟩) hbl9).trans hx
                          have DR := Lib.hid (draws_any key x m c wr ((h.of hb5).of hb6) (by omega))
                          clear hx
                          go_wp2_with fail
                          refine DR.out.mono ?_
                          rintro e w' ⟨rfl, hb7⟩
                          go_wp2_with fail
                          go_roundw
                          case rel => exact ⟨j + 1, by omega, by go_num, hb6.trans (hb7.mono hb6.size)⟩
                          case measure => simp [intOf]; omega
                        · go_wp2_with fail
                          go_roundw
                          case rel => exact ⟨c + 1, by omega, by omega, by go_num, hb5.trans (hb6.mono hb5.size)⟩
                          case measure => simp [intOf]; omega
                    · go_wp2_with fail
                      go_roundw
                      case rel => exact ⟨m + 1, by omega, by omega, by go_num, hb4⟩
                      case measure => simp [intOf]; omega
                · go_wp2_with fail
                  go_roundw
                  case rel => exact ⟨key + 1, by omega, by omega, by go_num, hb3⟩
                  case measure => simp [intOf]; omega
            · go_wp2_with fail
              generalize wr = w9 at hb2 ⊢
              go_loopw [12, 116] (fun b a wr => ∃ (j : Nat) (s : ByteArray), j ≤ 35 ∧ a = .int .i64 j ∧ b = .string s ∧ s.size ≤ j ∧ Below w.heap.size w wr) (fun _ a _ => (35 - intOf a).toNat)
              case atStart => exact ⟨0, _, by omega, rfl, rfl, by decide, hb2⟩
              case round =>
                clear hb2
                obtain ⟨j, s, hj, rfl, rfl, hs, hb3⟩ := hrel
                by_cases hltA : j < 35
                · have NM := Lib.hid (names_any 7 s 1 1 wr (h.of hb3) (by omega) (by omega) (by omega))
                  go_wp2_with fail
                  refine NM.out.mono ?_
                  rintro e w' ⟨rfl, hb4⟩
                  go_wp2_with fail
                  go_roundw
                  case rel => exact ⟨j + 1, _, by omega, by go_num, rfl, by rw [ByteArray.size_append]; show s.size + 1 ≤ j + 1; omega, hb3.trans (hb4.mono hb3.size)⟩
                  case measure => simp [intOf]; omega
                · have LI := Lib.hid (lists_any wr (h.of hb3))
                  go_wp2_with fail
                  refine LI.out.mono ?_
                  rintro e w' ⟨rfl, hb4⟩
                  have hb5 := hb3.trans (hb4.mono hb3.size)
                  go_wp2_with fail
                  refine (awake_any w' (h.of hb5)).mono ?_
                  rintro e w'' ⟨rfl, hb6⟩
                  go_wp2_with fail
                  go_ret
                  exact ⟨rfl, hb5.trans (hb6.mono hb5.size)⟩
theorem seedSmall_walk (w : World) (h : Stp w) :
    Calls Tryd.prog 6 #[] w fun e w' => e = .returned (.bool true) ∧ Below w.heap.size w w' := small_any w h
end Go.Proofs.YthalafjbkmemhaaDoor
