/- The listed variable 'signs' reads as its datum, so its cells hold the signs; and what the door's run leaves meets that. -/
import Derived.Test.YthkfkdcmnkkdhaaDoorF3
import Derived.Test.YthkfkdcmnkkdhaaDoorTie
import Derived.Test.YthkfkdcmnkkdhaaDoorCards
import Derived.ProofKit
import Derived.OpenShut
import Derived.ShutString
import Derived.LaidMore
import Derived.Stop.Joined
import Derived.SevenTiedAt
import Derived.Deep.Strs
import Derived.ChangeOld
import Derived.Below
namespace Go.Proofs.YthkfkdcmnkkdhaaDoor
open Go.ChangeShapes Go.WideShapes Go.ChangeAt Go.RowKit
set_option maxRecDepth 100000
theorem own : ownKnob Tryd.prog.godebug = none := by kernel_rfl
theorem laidOut : laidOutB Tryd.prog = true := by kernel_rfl
def laid1 : List (String × DataW Unit) := [("lyceum/lex.signs", Rows.laid_lyceum_lex_signs)]
theorem gRows : Tryd.prog.globalNamed "lyceum/lex.signs" = some 0 := by kernel_rfl
theorem tRows : (Tryd.prog.globals[0]?).map (·.type) = some 82 := by kernel_rfl
theorem cells9 : Tryd.prog.cellsOf 9 = 1 := by kernel_rfl
theorem cells82 : Tryd.prog.cellsOf 82 = 13 := by kernel_rfl
theorem door_met (os : Os) (args : Array Value) : laidMetH Tryd.prog laid1 ((World.doorLaid Tryd.prog 14 os).forCall (fun _ _ => 0) ⟨#[], args, []⟩).memory :=
  laidMetH_of_parts3 (fuel := 8) (laidMet_of_run' 8 (by kernel_rfl) (by kernel_rfl)) (by kernel_rfl) (by kernel_rfl)
theorem cell_of {H : Type} {enc : TypeId × Value → H} {W : World} {base : Nat} {sp : Nat → Bool} {held : Bool} {fuel : Nat} {cs : List Value} {p : List MemPlace} {l : List UInt8}
    (h : DataW.trod enc Tryd.prog W base sp held fuel 9 cs = some (.lit (.string l), p)) : cs = [.string ⟨l.toArray⟩] := by
  obtain ⟨s, e, y, _⟩ := DataW.trod_string Tryd.underlying9 h
  rw [e]
  simp only [Prod.mk.injEq, DataW.lit.injEq, Lit.string.injEq] at y
  rw [y.1]
theorem of_laid {W : World} (h : laidMetH Tryd.prog laid1 W) : Sgs W := by
  rw [MakeChecks.laidMetH_plain _ _ _ (by kernel_rfl)] at h
  obtain ⟨ps, ⟨g0, t0, cs0, f0, p0, q0, hg0, ht0, hv0, hd0, _, _⟩, _, _⟩ := h
  obtain rfl := Option.some.inj (gRows.symm.trans hg0)
  obtain rfl := Option.some.inj (tRows.symm.trans ht0)
  obtain ⟨xs, m, _, hx, hl, hn, hel⟩ := DataW.trod_array Tryd.underlying82 hd0
  rw [cells82] at hl
  simp only [Rows.laid_lyceum_lex_signs, Prod.mk.injEq, DataW.agg.injEq] at hx
  obtain ⟨hx, -⟩ := hx
  have hrow : ∀ i, i < 13 → cs0.toList[i]? = sgCells.toList[i]? := by
    intro i hi
    have h1 := hel i hi
    rw [cells9] at h1
    have hlt : i < xs.length := by omega
    have h2 : (xs.map (·.1))[i]? = some xs[i].1 := by simp [hlt]
    rw [List.getElem?_eq_getElem hlt] at h1
    rw [← hx] at h2
    generalize xs[i] = x at h1 h2
    obtain ⟨y, q⟩ := x
    clear hx hel hn hl
    have h3 : ∀ l : List UInt8, y = .lit (.string l) → cs0.toList[i]? = some (.string ⟨l.toArray⟩) := by
      rintro l rfl
      have h4 := cell_of h1
      have h5 := congrArg (fun l : List Value => l[0]?) h4
      simpa using h5
    rcases show i = 0 ∨ i = 1 ∨ i = 2 ∨ i = 3 ∨ i = 4 ∨ i = 5 ∨ i = 6 ∨ i = 7 ∨ i = 8 ∨ i = 9 ∨ i = 10 ∨ i = 11 ∨ i = 12 by omega with rfl | rfl | rfl | rfl | rfl | rfl | rfl | rfl | rfl | rfl | rfl | rfl | rfl
    all_goals
      simp at h2
      exact (h3 _ h2.symm).trans rfl
  have hcs : cs0 = sgCells := by
    apply Array.ext'
    apply List.ext_getElem?
    intro j
    by_cases hj : j < 13
    · exact hrow j hj
    · rw [List.getElem?_eq_none (by omega), List.getElem?_eq_none (by
        have : sgCells.toList.length = 13 := by kernel_rfl
        omega)]
  unfold World.var? at hv0
  rw [gRows] at hv0
  simp only [Option.bind_some] at hv0
  split at hv0
  · rename_i cs t fr hh
    cases hv0
    exact ⟨t, fr, by rw [← hcs]; exact hh⟩
  · cases hv0
end Go.Proofs.YthkfkdcmnkkdhaaDoor
