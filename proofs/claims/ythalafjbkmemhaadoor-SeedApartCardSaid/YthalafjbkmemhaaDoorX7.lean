/- What Weigh returns, for every input. -/
import Derived.Test.YthalafjbkmemhaaDoorX6
namespace Go.Proofs.YthalafjbkmemhaaDoor
open Go Go.RowKit
set_option maxRecDepth 100000
def weighL : List Int → Int → Nat
  | [], _ => 0
  | x :: l, t => if x ≤ t then weighL l (t - x) + 1 else 0
theorem weigh_step (l : List Int) (t : Int) (j : Nat) (h : j < l.length) : weighL (l.drop j) t = if l.getD j 0 ≤ t then weighL (l.drop (j + 1)) (t - l.getD j 0) + 1 else 0 := by
  rw [List.drop_eq_getElem_cons h]
  simp [weighL, List.getD, h]
def weighR (k i : Int) (l : List Int) : Option (Int × Int) := match belowR k i l.sum with
  | none => none
  | some (t, nx) => some (((weighL l t : Nat) : Int), nx)
theorem sumB_facts {l : List Int} (h : sumB l = true) : l.length ≤ 1000 ∧ l.all okW = true ∧ 1 ≤ l.sum ∧ l.sum ≤ 1099511627776000 := by
  simp only [sumB, Bool.and_eq_true, decide_eq_true_eq] at h
  have := (sum_nn l h.1.2).2
  refine ⟨h.1.1, h.1.2, ?_, ?_⟩ <;> omega
theorem okW_getD {l : List Int} (h : l.all okW = true) {j : Nat} (hj : j < l.length) : 0 ≤ l.getD j 0 ∧ l.getD j 0 ≤ 1099511627776 := by
  rw [List.all_eq_true] at h
  have := h (l.getD j 0) (by simp [List.getD, hj])
  simpa [okW] using this
set_option maxHeartbeats 2000000 in
theorem weigh_ok (k i : Int) (v : Value) (l : List Int) (w : World) (h : Stp w) (hv : Rd w v l) (h1 : 0 ≤ i) (h2 : i ≤ 1099511627776) (hs : sumB l = true) :
    Calls Tryd.prog 29 #[.agg #[.int .u64 k], .int .i64 i, v] w fun e w' => e = .returned (.tuple #[.int .i64 (bV (weighR k i l)), .int .i64 (bN (weighR k i l)), .int .i64 (bE (weighR k i l))]) ∧ Below w.heap.size w w' := by
  have hmf : ∀ (fn : Fn) (first cap : Array Value) (w : World), (Instr.makeFunc fn first cap).run Tryd.prog w = .ok (.func fn first cap) w := fun _ _ _ _ => rfl
  obtain ⟨q1, q2, q3, q4⟩ := sumB_facts hs
  have HA := Lib.hid q2
  have HS := Lib.hid hs
  have HV := Lib.hid (show sumV l = l.sum by simp [sumV, hs])
  clear hs q2
  have hl0 : 0 < l.length := by
    rcases l with _ | ⟨x, l⟩
    · simp at q3
    · simp
  obtain ⟨b, off, cap, rfl, hblt, hc⟩ := hv.some hl0
  have hvb := Lib.hid hv
  clear hv
  go_enter Tryd.func29, Tryd.ntmps29
  go_wp2_with fail
  refine (sum_any _ l _ (hvb.out.below ((Below.refl _ _).alloc (Nat.le_refl _) _) (Nat.le_refl _)) (by omega)).mono ?_
  rintro e w' ⟨rfl, rfl⟩
  rw [HS.out, HV.out]
  go_wp2_with fail
  refine (index_yes _ _ h1 h2).mono ?_
  rintro e w' ⟨rfl, rfl⟩
  go_wp2_with fail
  refine (drawer_any _ _).mono ?_
  rintro e w1 ⟨rfl, rfl⟩
  go_wp2_with fail
  have hst : Stp ((w.alloc (.cells #[.int .u64 k] 33)).alloc (.cells #[.int .i64 i] 3)) := h.of (Below.alloc (Below.alloc (Below.refl _ _) (Nat.le_refl _) _) (by simp) _)
  have hoc : Own ((w.alloc (.cells #[.int .u64 k] 33)).alloc (.cells #[.int .i64 i] 3)) (w.heap.size + 1) [i] := by
    refine ⟨3, ?_⟩
    have := heap_alloc_new (w.alloc (.cells #[.int .u64 k] 33)) (.cells #[.int .i64 i] 3)
    simpa using this
  have hb2 : Below w.heap.size w ((w.alloc (.cells #[.int .u64 k] 33)).alloc (.cells #[.int .i64 i] 3)) := Below.alloc (Below.alloc (Below.refl _ _) (Nat.le_refl _) _) (by simp) _
  have hsz : w.heap.size + 2 ≤ ((w.alloc (.cells #[.int .u64 k] 33)).alloc (.cells #[.int .i64 i] 3)).heap.size := by simp
  generalize ((w.alloc (.cells #[.int .u64 k] 33)).alloc (.cells #[.int .i64 i] 3)) = w2 at hst hoc hb2 hsz ⊢
  cases hr : belowR k i l.sum with
  | none =>
    have HR := Lib.hid hr
    clear hr
    with_reducible refine (draw_none k i l.sum (w.heap.size + 1) w2 hst hoc h1 h2 q3 (by omega) HR.out).mono ?_
    rintro e w3 ⟨rfl, hb3⟩
    go_wp2_with fail
    go_ret3
    have e1 : weighR k i l = none := by
      unfold weighR
      rw [HR.out]
    rw [e1]
    exact ⟨rfl, hb2.trans (hb3.mono (by omega))⟩
  | some p =>
    obtain ⟨t, nx⟩ := p
    have hvr := below_range hr
    have HR := Lib.hid hr
    clear hr
    have ht0 := hvr.1
    have htl := Lib.hid hvr.2.1
    clear hvr
    with_reducible refine (draw_some k i l.sum t nx (w.heap.size + 1) w2 hst hoc h1 h2 q3 (by omega) HR.out).mono ?_
    rintro e w3 ⟨rfl, hg3, hoc3⟩
    have hb3 : Below w.heap.size w w3 := hb2.trans (below_of_grown hg3 (by omega) (by omega))
    have e1 : weighR k i l = some (((weighL l t : Nat) : Int), nx) := by
      unfold weighR
      rw [HR.out]
    have HE := Lib.hid e1
    clear e1 hg3 hoc3 hoc hst hb2 hsz
    go_wp2_with fail
    go_loop [12, 15] (fun a s => ∃ (j : Nat) (u : Int), j < l.length ∧ s = .int .i64 j ∧ a = .int .i64 u ∧ 0 ≤ u ∧ u ≤ 1099511627776000 ∧ Hid (u = t - (l.take j).sum) ∧ Hid (weighL l t = j + weighL (l.drop j) u)) (fun _ s => l.length - (intOf s).toNat)
    case atStart => exact ⟨0, t, hl0, rfl, rfl, ht0, by have := htl.out; omega, Lib.hid (by simp), Lib.hid (by simp)⟩
    case round =>
      obtain ⟨j, u, hj, rfl, rfl, hu1, hu2, hu, hw⟩ := hrel
      have hcj := (hb3.cell (p := ⟨b, off + j, none⟩) hblt).trans (hc j hj)
      have hok := okW_getD HA.out hj
      have HST := Lib.hid (weigh_step l u j hj)
      have HTK := Lib.hid (take_sum l j hj)
      clear hc
      generalize l.getD j 0 = x at hcj hok HST HTK
      have hx1 := hok.1
      have hx2 := hok.2
      clear hok
      by_cases hxu : x ≤ u
      · have hj1 : j + 1 < l.length := by
          by_cases hlt : j + 1 < l.length
          · exact hlt
          · have e := HTK.out
            rw [List.take_of_length_le (by omega)] at e
            have := hu.out
            have := htl.out
            omega
        have hw2 := Lib.hid (show weighL l t = (j + 1) + weighL (l.drop (j + 1)) (u - x) by have a := hw.out; rw [HST.out, if_pos hxu] at a; omega)
        have hu2' := Lib.hid (show u - x = t - (l.take (j + 1)).sum by have a := hu.out; have b := HTK.out; omega)
        clear hw hu HST HTK
        go_wp2_with fail
        go_round
        case rel => exact ⟨j + 1, u - x, hj1, by go_num, rfl, by omega, by omega, hu2', hw2⟩
        case measure => simp [intOf]; omega
      · have hw2 := Lib.hid (show weighL l t = j by have a := hw.out; rw [HST.out, if_neg hxu] at a; omega)
        clear hw hu HST HTK
        go_wp2_with fail
        go_ret3
        refine ⟨?_, hb3⟩
        rw [HE.out, hw2.out]
        rfl
set_option maxHeartbeats 1000000 in
theorem weigh_no (k i : Int) (v : Value) (l : List Int) (w : World) (hv : Rd w v l) (hl : l.length ≤ 9223372036854775807) (h : ¬ (0 ≤ i ∧ i ≤ 1099511627776) ∨ sumB l = false) :
    Calls Tryd.prog 29 #[.agg #[.int .u64 k], .int .i64 i, v] w fun e w' => e = .returned (.tuple #[.int .i64 0, .int .i64 0, .int .i64 2]) ∧ Below w.heap.size w w' := by
  obtain ⟨a, cap, rfl⟩ := hv.val
  have hvb := Lib.hid hv
  clear hv
  by_cases hi : 0 ≤ i ∧ i ≤ 1099511627776
  · have hn : sumB l = false := by rcases h with h | h; exact absurd hi h; exact h
    have HN := Lib.hid hn
    clear h hn
    go_enter Tryd.func29, Tryd.ntmps29
    go_wp2_with fail
    refine (sum_any _ l _ (hvb.out.below ((Below.refl _ _).alloc (Nat.le_refl _) _) (Nat.le_refl _)) hl).mono ?_
    rintro e w' ⟨rfl, rfl⟩
    rw [HN.out]
    go_wp2_with fail
    refine (index_yes _ _ hi.1 hi.2).mono ?_
    rintro e w' ⟨rfl, rfl⟩
    go_wp2_with fail
    go_ret3
    exact ⟨rfl, (Below.refl _ _).alloc (Nat.le_refl _) _⟩
  · clear h
    cases hs : sumB l <;>
    · have HN := Lib.hid hs
      clear hs
      go_enter Tryd.func29, Tryd.ntmps29
      go_wp2_with fail
      refine (sum_any _ l _ (hvb.out.below ((Below.refl _ _).alloc (Nat.le_refl _) _) (Nat.le_refl _)) hl).mono ?_
      rintro e w' ⟨rfl, rfl⟩
      rw [HN.out]
      go_wp2_with fail
      refine (index_no _ _ hi).mono ?_
      rintro e w' ⟨rfl, rfl⟩
      go_wp2_with fail
      go_ret3
      exact ⟨rfl, (Below.refl _ _).alloc (Nat.le_refl _) _⟩
end Go.Proofs.YthalafjbkmemhaaDoor
