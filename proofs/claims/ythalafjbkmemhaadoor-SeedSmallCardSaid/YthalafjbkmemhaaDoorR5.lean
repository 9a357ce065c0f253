/- What the document's own answer for Weigh returns, for every input. -/
import Derived.Test.YthalafjbkmemhaaDoorW4
namespace Go.Proofs.YthalafjbkmemhaaDoor
open Go Go.RowKit
set_option maxRecDepth 100000
theorem all_ok_of_take {l : List Int} (h : sumB l = false) (hl : l.length ≤ 1000) (ha : l.all okW = true) : l.sum = 0 := by
  have := (sum_nn l ha).1
  simp [sumB, hl, ha] at h
  omega
/-- v reads in w as the list l, wherever an empty slice of no room may lie. -/
def RdW (w : World) (v : Value) (l : List Int) : Prop := Rd w v l ∨ ∃ x, v = .slice (some x) 0 0 ∧ l = []
theorem RdW.val {w : World} {v : Value} {l : List Int} (h : RdW w v l) : ∃ a cap, v = .slice a l.length cap := by
  rcases h with h | ⟨x, rfl, rfl⟩
  · exact h.val
  · exact ⟨_, 0, rfl⟩
theorem RdW.some {w : World} {v : Value} {l : List Int} (h : RdW w v l) (hl : 0 < l.length) : ∃ b off cap, v = .slice (some ⟨b, off, none⟩) l.length cap ∧ b < w.heap.size ∧ ∀ i, i < l.length → w.cell? ⟨b, off + i, none⟩ = some (.int .i64 (l.getD i 0)) := by
  rcases h with h | ⟨x, rfl, rfl⟩
  · exact h.some hl
  · simp at hl
theorem RdW.rd {w : World} {v : Value} {l : List Int} (h : RdW w v l) (hl : 0 < l.length) : Rd w v l := by
  rcases h with h | ⟨x, rfl, rfl⟩
  · exact h
  · simp at hl
theorem RdW.below {w w' : World} {B : Nat} {v : Value} {l : List Int} (h : RdW w v l) (hb : Below B w w') (hB : w.heap.size ≤ B) : RdW w' v l := by
  rcases h with h | h
  · exact .inl (h.below hb hB)
  · exact .inr h
set_option maxHeartbeats 2000000 in
theorem rweigh_ok (k i : Int) (v : Value) (l : List Int) (w : World) (hv : Rd w v l) (h1 : 0 ≤ i) (h2 : i ≤ 1099511627776) (hs : sumB l = true) :
    Calls Tryd.prog 41 #[.int .u64 k, .int .i64 i, v] w fun e w' => e = .returned (.tuple #[.int .i64 (bV (weighR k i l)), .int .i64 (bN (weighR k i l)), .int .i64 (bE (weighR k i l))]) ∧ w = w' := by
  obtain ⟨q1, q2, q3, q4⟩ := sumB_facts hs
  have HA := Lib.hid q2
  clear hs q2
  have hl0 : 0 < l.length := by
    rcases l with _ | ⟨x, l⟩
    · simp at q3
    · simp
  obtain ⟨b, off, cap, rfl, hblt, hc⟩ := hv.some hl0
  clear hv
  have hl1 : (l.length : Int) ≤ 1000 := by omega
  go_enter Tryd.func41, Tryd.ntmps41
  go_wp2_with fail
  go_loop [9, 10] (fun s a => ∃ j : Nat, j ≤ l.length ∧ a = .int .i64 j ∧ s = .int .i64 (l.take j).sum ∧ 0 ≤ (l.take j).sum ∧ (l.take j).sum ≤ 1099511627776 * j) (fun _ a => l.length - (intOf a).toNat)
  case atStart => exact ⟨0, Nat.zero_le _, rfl, rfl, by simp, by simp⟩
  case round =>
    obtain ⟨j, hj, rfl, rfl, s0, s1⟩ := hrel
    by_cases hlt : j < l.length
    · have hcj := hc j hlt
      have hok := okW_getD HA.out hlt
      have HTK := Lib.hid (take_sum l j hlt)
      clear hc
      generalize l.getD j 0 = x at hcj hok HTK
      have x0 := hok.1
      have x1 := hok.2
      have s2 : (l.take j).sum ≤ 1099511627776000 := by omega
      clear hok
      go_wp2_with fail
      go_round
      case rel => exact ⟨j + 1, by omega, by go_num, by rw [HTK.out], by rw [HTK.out]; omega, by rw [HTK.out]; push_cast; omega⟩
      case measure => simp [intOf]; omega
    · have hT : l.take j = l := List.take_of_length_le (by omega)
      rw [hT] at s0 s1 ⊢
      have t0 : (l.sum == 0) = false := beq_eq_false_iff_ne.2 (by omega)
      clear hT s0 s1
      cases hr : belowR k i l.sum with
      | none =>
        have HR := Lib.hid hr
        clear hr
        have e1 : weighR k i l = none := by
          unfold weighR
          rw [HR.out]
        have HE := Lib.hid e1
        clear e1
        go_wp2_with fail
        with_reducible refine (rbelow_none k i l.sum w h1 h2 q3 (by omega) HR.out).mono ?_
        rintro e w3 ⟨rfl, rfl⟩
        go_wp2_with fail
        go_ret3
        exact ⟨by rw [HE.out]; rfl, rfl⟩
      | some p =>
        obtain ⟨t, nx⟩ := p
        have hvr := below_range hr
        have HR := Lib.hid hr
        clear hr
        have ht0 := hvr.1
        have htl := Lib.hid hvr.2.1
        clear hvr
        have e1 : weighR k i l = some (((weighL l t : Nat) : Int), nx) := by
          unfold weighR
          rw [HR.out]
        have HE := Lib.hid e1
        clear e1
        go_wp2_with fail
        with_reducible refine (rbelow_some k i l.sum t nx w h1 h2 q3 (by omega) HR.out).mono ?_
        rintro e w3 ⟨rfl, rfl⟩
        go_wp2_with fail
        go_loop [14, 15] (fun a s => ∃ (j : Nat) (u : Int), j < l.length ∧ s = .int .i64 j ∧ a = .int .i64 u ∧ 0 ≤ u ∧ u ≤ t ∧ Hid (u = (l.take j).sum) ∧ Hid (weighL l t = j + weighL (l.drop j) (t - u))) (fun _ s => l.length - (intOf s).toNat)
        case atStart => exact ⟨0, 0, hl0, rfl, rfl, by omega, ht0, Lib.hid (by simp), Lib.hid (by simp)⟩
        case round =>
          obtain ⟨j2, u, hj2, rfl, rfl, hu1, hu2, hu, hw⟩ := hrel
          have hcj := hc j2 hj2
          have hok := okW_getD HA.out hj2
          have HST := Lib.hid (weigh_step l (t - u) j2 hj2)
          have HTK := Lib.hid (take_sum l j2 hj2)
          clear hc
          generalize l.getD j2 0 = x at hcj hok HST HTK
          have hx1 := hok.1
          have hx2 := hok.2
          clear hok
          have hu3 : u ≤ 1099511627776000 := by have := htl.out; omega
          by_cases hxu : x ≤ t - u
          · have hj1 : j2 + 1 < l.length := by
              by_cases hlt : j2 + 1 < l.length
              · exact hlt
              · have e := HTK.out
                rw [List.take_of_length_le (by omega)] at e
                have := hu.out
                have := htl.out
                omega
            have hw2 := Lib.hid (show weighL l t = (j2 + 1) + weighL (l.drop (j2 + 1)) (t - (u + x)) by
              have a := hw.out
              rw [HST.out, if_pos hxu] at a
              rw [show t - (u + x) = t - u - x from by omega]
              omega)
            have hu2' := Lib.hid (show u + x = (l.take (j2 + 1)).sum by have a := hu.out; have b := HTK.out; omega)
            have hut : u + x ≤ t := by omega
            clear hw hu HST HTK
            go_wp2_with fail
            go_round
            case rel => exact ⟨j2 + 1, u + x, hj1, by go_num, rfl, by omega, by omega, hu2', hw2⟩
            case measure => simp [intOf]; omega
          · have hw2 := Lib.hid (show weighL l t = j2 by have a := hw.out; rw [HST.out, if_neg hxu] at a; omega)
            have hut : t < u + x := by omega
            clear hw hu HST HTK
            go_wp2_with fail
            go_ret3
            refine ⟨?_, rfl⟩
            rw [HE.out, hw2.out]
            rfl
set_option maxHeartbeats 2000000 in
theorem rweigh_no (k i : Int) (v : Value) (l : List Int) (w : World) (hv : RdW w v l) (hm : l.length ≤ 9223372036854775807) (h : ¬ (0 ≤ i ∧ i ≤ 1099511627776) ∨ sumB l = false) :
    Calls Tryd.prog 41 #[.int .u64 k, .int .i64 i, v] w fun e w' => e = .returned (.tuple #[.int .i64 0, .int .i64 0, .int .i64 2]) ∧ w = w' := by
  by_cases hi : i < 0
  · obtain ⟨a, cap, rfl⟩ := hv.val
    clear h hv
    go_enter Tryd.func41, Tryd.ntmps41
    go_wp2_with fail
    go_ret3
    exact ⟨rfl, rfl⟩
  · by_cases hj : 1099511627776 < i
    · obtain ⟨a, cap, rfl⟩ := hv.val
      clear h hv
      go_enter Tryd.func41, Tryd.ntmps41
      go_wp2_with fail
      go_ret3
      exact ⟨rfl, rfl⟩
    · by_cases hl : 1000 < l.length
      · obtain ⟨a, cap, rfl⟩ := hv.val
        have hl1 : (1000 : Int) < (l.length : Int) := by omega
        clear h hv
        go_enter Tryd.func41, Tryd.ntmps41
        go_wp2_with fail
        go_ret3
        exact ⟨rfl, rfl⟩
      · have hl1 : (l.length : Int) ≤ 1000 := by omega
        have hs : sumB l = false := by rcases h with h | h; exact absurd ⟨by omega, by omega⟩ h; exact h
        have HS := Lib.hid hs
        clear h hs
        by_cases h0 : l.length = 0
        · obtain rfl := List.eq_nil_of_length_eq_zero h0
          obtain ⟨a, cap, rfl⟩ := hv.val
          clear hv h0
          go_enter Tryd.func41, Tryd.ntmps41
          go_wp2_with fail
          go_rounds 1
          go_ret3
          exact ⟨rfl, rfl⟩
        · obtain ⟨b, off, cap, rfl, hblt, hc⟩ := hv.some (by omega)
          clear hv h0
          go_enter Tryd.func41, Tryd.ntmps41
          go_wp2_with fail
          go_loop [9, 10] (fun s a => ∃ j : Nat, j ≤ l.length ∧ a = .int .i64 j ∧ s = .int .i64 (l.take j).sum ∧ 0 ≤ (l.take j).sum ∧ (l.take j).sum ≤ 1099511627776 * j ∧ Hid ((l.take j).all okW = true)) (fun _ a => l.length - (intOf a).toNat)
          case atStart => exact ⟨0, Nat.zero_le _, rfl, rfl, by simp, by simp, Lib.hid rfl⟩
          case round =>
            obtain ⟨j, hj, rfl, rfl, s0, s1, hall⟩ := hrel
            by_cases hlt : j < l.length
            · have hcj := hc j hlt
              have ta := Lib.hid (take_all l j hlt)
              have HTK := Lib.hid (take_sum l j hlt)
              have s2 : (l.take j).sum ≤ 1099511627776000 := by omega
              clear hc
              generalize l.getD j 0 = x at hcj ta HTK
              by_cases x0 : x < 0
              · clear ta HTK
                go_wp2_with fail
                go_ret3
                exact ⟨rfl, rfl⟩
              · by_cases x1 : 1099511627776 < x
                · clear ta HTK
                  go_wp2_with fail
                  go_ret3
                  exact ⟨rfl, rfl⟩
                · have ta2 := Lib.hid (show (l.take (j + 1)).all okW = true by rw [ta.out, hall.out]; simp [okW]; omega)
                  clear ta
                  have x2 : 0 ≤ x := by omega
                  have x3 : x ≤ 1099511627776 := by omega
                  go_wp2_with fail
                  go_round
                  case rel => exact ⟨j + 1, by omega, by go_num, by rw [HTK.out], by rw [HTK.out]; omega, by rw [HTK.out]; push_cast; omega, ta2⟩
                  case measure => simp [intOf]; omega
            · have hT : l.take j = l := List.take_of_length_le (by omega)
              rw [hT] at s0 s1 hall ⊢
              have e0 := all_ok_of_take HS.out (by omega) hall.out
              have t0 : (l.sum == 0) = true := by rw [e0]; rfl
              clear hT s0 s1 e0
              go_wp2_with fail
              go_ret3
              exact ⟨rfl, rfl⟩
end Go.Proofs.YthalafjbkmemhaaDoor
