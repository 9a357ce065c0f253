/- KeptInts returns true where the copy and its marks are still so. -/
import Derived.Test.YthalafjbkmemhaaDoorK1
namespace Go.Proofs.YthalafjbkmemhaaDoor
open Go Go.RowKit
set_option maxRecDepth 1000000
theorem lent_low {l : List Int} {j : Nat} (h : j < l.length) : (l ++ marks 12).getD j 0 = l.getD j 0 := by
  rw [List.getD_eq_getElem?_getD, List.getD_eq_getElem?_getD, List.getElem?_append_left h]
theorem lent_high {l : List Int} {j : Nat} (h : l.length ≤ j) (h2 : j < l.length + 12) : (l ++ marks 12).getD j 0 = 8000024 + ((j : Int) - (l.length : Int)) := by
  rw [List.getD_eq_getElem?_getD, List.getElem?_append_right h]
  unfold marks
  rw [List.getElem?_map, List.getElem?_range (by omega)]
  simp only [Option.map_some, Option.getD_some]
  omega
set_option maxHeartbeats 4000000 in
theorem kept_any (v u : Value) (l : List Int) (w : World) (hv : Lent w v l) (hu : RdW w u l) (hm : (l.length : Int) ≤ 17592186043904) :
    Calls Tryd.prog 42 #[v, u] w fun e w' => e = .returned (.bool true) ∧ Below w.heap.size w w' := by
  obtain ⟨g, cap, rfl, hcap, hcm, hg, hc⟩ := hv
  obtain ⟨a2, cap2, hu2⟩ := hu.val
  have hcell2 : ∀ j, j < l.length → ∃ b off, a2 = some ⟨b, off, none⟩ ∧ b < w.heap.size ∧ w.cell? ⟨b, off + j, none⟩ = some (.int .i64 (l.getD j 0)) := by
    intro j hj
    obtain ⟨b, off, cap', e, hb, h⟩ := hu.some (by omega)
    rw [hu2] at e
    cases e
    exact ⟨b, off, rfl, hb, h j hj⟩
  subst hu2
  clear hu
  have b1 : (l.length : Int) + 12 ≤ (cap : Int) := by omega
  have b2 : l.length + 12 ≤ cap := by omega
  unfold maxLen at hcm
  have e1 : ((l.length : Int) != (l.length : Int)) = false := by simp
  by_cases h0 : l.length = 0
  · have h1 : l.length ≤ 0 := by omega
    clear h0 hcell2
    go_enter Tryd.func42, Tryd.ntmps42
    go_wp2_with fail
    go_loopw [6] (fun a wr => ∃ j : Nat, j ≤ l.length + 12 ∧ a = .int .i64 j ∧ Below w.heap.size w wr) (fun a _ => l.length + 12 - (intOf a).toNat)
    case atStart => exact ⟨0, by omega, rfl, Below.refl _ _⟩
    case round =>
      obtain ⟨j, hj, rfl, hbw⟩ := hrel
      have hlt : ¬ j < l.length := by omega
      by_cases hlt2 : j < l.length + 12
      · have c1 := (hbw.cell (p := ⟨g, j, none⟩) hg).trans (hc j hlt2)
        rw [lent_high (by omega) hlt2] at c1
        clear hc
        have d1 : decide (j < l.length) = false := decide_eq_false hlt
        have d2 : decide (l.length ≤ j) = true := decide_eq_true (by omega)
        have i2 : (j : Int) < (l.length : Int) + 12 := by omega
        have i3 : 0 ≤ (j : Int) - (l.length : Int) := by omega
        have i4 : (j : Int) - (l.length : Int) ≤ 1000 := by omega
        have M := Lib.hid (fun w => mark_any ((j : Int) - (l.length : Int)) w i3 i4)
        go_wp2_with fail
        go_quiet ((go_at_call 51; exact quiet_left (M.out _)))
        go_wp2
        go_roundw
        case rel => exact ⟨j + 1, by omega, by go_num, below_drewN hbw _⟩
        case measure => simp [intOf]; omega
      · have i2 : ¬ (j : Int) < (l.length : Int) + 12 := by omega
        clear hc
        go_wp2
        go_ret
        exact ⟨rfl, hbw⟩
  · obtain ⟨b, off, rfl, hb, _⟩ := hcell2 0 (by omega)
    have hcl : ∀ j, j < l.length → w.cell? ⟨b, off + j, none⟩ = some (.int .i64 (l.getD j 0)) := by
      intro j hj
      obtain ⟨b', off', e, _, h⟩ := hcell2 j hj
      cases e
      exact h
    clear hcell2 h0
    go_enter Tryd.func42, Tryd.ntmps42
    go_wp2_with fail
    go_loopw [6] (fun a wr => ∃ j : Nat, j ≤ l.length + 12 ∧ a = .int .i64 j ∧ Below w.heap.size w wr) (fun a _ => l.length + 12 - (intOf a).toNat)
    case atStart => exact ⟨0, by omega, rfl, Below.refl _ _⟩
    case round =>
      obtain ⟨j, hj, rfl, hbw⟩ := hrel
      by_cases hlt : j < l.length
      · have c1 := (hbw.cell (p := ⟨g, j, none⟩) hg).trans (hc j (by omega))
        have c2 := (hbw.cell (p := ⟨b, off + j, none⟩) hb).trans (hcl j hlt)
        rw [lent_low hlt] at c1
        clear hc hcl
        generalize l.getD j 0 = x at c1 c2
        have d2 : decide (l.length ≤ j) = false := decide_eq_false (by omega)
        have i1 : (j : Int) < (l.length : Int) := by omega
        have i2 : (j : Int) < (l.length : Int) + 12 := by omega
        go_wp2_with fail
        go_quiet (fail)
        go_wp2
        go_roundw
        case rel => exact ⟨j + 1, by omega, by go_num, below_drewN hbw _⟩
        case measure => simp [intOf]; omega
      · by_cases hlt2 : j < l.length + 12
        · have c1 := (hbw.cell (p := ⟨g, j, none⟩) hg).trans (hc j hlt2)
          rw [lent_high (by omega) hlt2] at c1
          clear hc hcl
          have d1 : decide (j < l.length) = false := decide_eq_false hlt
          have d2 : decide (l.length ≤ j) = true := decide_eq_true (by omega)
          have i2 : (j : Int) < (l.length : Int) + 12 := by omega
          have i3 : 0 ≤ (j : Int) - (l.length : Int) := by omega
          have i4 : (j : Int) - (l.length : Int) ≤ 1000 := by omega
          have M := Lib.hid (fun w => mark_any ((j : Int) - (l.length : Int)) w i3 i4)
          go_wp2_with fail
          go_quiet ((go_at_call 51; exact quiet_left (M.out _)))
          go_wp2
          go_roundw
          case rel => exact ⟨j + 1, by omega, by go_num, below_drewN hbw _⟩
          case measure => simp [intOf]; omega
        · have i2 : ¬ (j : Int) < (l.length : Int) + 12 := by omega
          clear hc hcl
          go_wp2
          go_ret
          exact ⟨rfl, hbw⟩
end Go.Proofs.YthalafjbkmemhaaDoor
