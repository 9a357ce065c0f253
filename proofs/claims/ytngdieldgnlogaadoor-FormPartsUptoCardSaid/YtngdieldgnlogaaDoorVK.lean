/- A drawn region whose slots are known beforehand, or known by what they are: what is so on the way. -/
import Derived.Test.YtngdieldgnlogaaDoorVS
namespace Go.Proofs.YtngdieldgnlogaaDoor
open Go Go.RowKit
set_option maxRecDepth 100000
set_option linter.unusedVariables false
structure JK (w0 : World) (lits : List (Nat × Nat × Value)) (prs : List (Nat × Nat × (Value → World → Prop))) (l : Nat → Bool) (g : Nat → Value) (W : World) : Prop where
  lit : ∀ p ∈ lits, l p.1 = true → g p.2.1 = p.2.2
  pr : ∀ p ∈ prs, l p.1 = true → p.2.2 (g p.2.1) W
  low : Below w0.heap.size w0 W
def okK (lits : List (Nat × Nat × Value)) (prs : List (Nat × Nat × (Value → World → Prop))) : Bool :=
  decide ((lits.map (fun p => p.1) ++ prs.map (fun p => p.1)).Pairwise (· ≠ ·)) && decide ((lits.map (fun p => p.2.1) ++ prs.map (fun p => p.2.1)).Pairwise (· ≠ ·))
/-- What a slot is stays so. -/
def Stb (P : Value → World → Prop) : Prop := ∀ v W W', Below W.heap.size W W' → P v W → P v W'
section
variable {w0 : World} {lits : List (Nat × Nat × Value)} {prs : List (Nat × Nat × (Value → World → Prop))} {l : Nat → Bool} {g : Nat → Value} {W : World}
theorem okK.out (ok : okK lits prs = true) : (lits.map fun p => p.1).Pairwise (· ≠ ·) ∧ (prs.map fun p => p.1).Pairwise (· ≠ ·) ∧ (∀ p ∈ lits, ∀ q ∈ prs, p.1 ≠ q.1) ∧ (lits.map fun p => p.2.1).Pairwise (· ≠ ·) ∧ (prs.map fun p => p.2.1).Pairwise (· ≠ ·) ∧ (∀ p ∈ lits, ∀ q ∈ prs, p.2.1 ≠ q.2.1) := by
  simp only [okK, Bool.and_eq_true, decide_eq_true_eq, List.pairwise_append] at ok
  obtain ⟨⟨a1, a2, a3⟩, ⟨b1, b2, b3⟩⟩ := ok
  exact ⟨a1, a2, fun p hp q hq => a3 _ (List.mem_map.2 ⟨p, hp, rfl⟩) _ (List.mem_map.2 ⟨q, hq, rfl⟩), b1, b2, fun p hp q hq => b3 _ (List.mem_map.2 ⟨p, hp, rfl⟩) _ (List.mem_map.2 ⟨q, hq, rfl⟩)⟩
theorem JK.start (g : Nat → Value) (w : World) : JK w lits prs (fun _ => false) g w.drew :=
  ⟨fun p _ h => (by cases h), fun p _ h => (by cases h), bel_drew w⟩
theorem JK.made (ok : okK lits prs = true) (hst : ∀ p ∈ prs, Stb p.2.2) (h : JK w0 lits prs l g W) {i d : Nat} {v : Value} (hi : (i, d, v) ∈ lits) {W' : World} (hb : Below W.heap.size W W') : JK w0 lits prs (upd l i true) (upd g d v) W' := by
  obtain ⟨a1, a2, a3, b1, b2, b3⟩ := okK.out ok
  refine ⟨fun p hp hl => ?_, fun p hp hl => ?_, bel_step h.low hb⟩
  · by_cases ep : p.1 = i
    · have := uniq_map _ a1 hp hi ep
      subst this
      exact upd_same _ _ _
    · rw [upd_ne _ _ ep] at hl
      rw [upd_ne _ _ (fun ed => ep (by have := uniq_map (fun p : Nat × Nat × Value => p.2.1) b1 hp hi ed; rw [this])), h.lit p hp hl]
  · rw [upd_ne _ _ (Ne.symm (a3 _ hi p hp))] at hl
    rw [upd_ne _ _ (Ne.symm (b3 _ hi p hp))]
    exact hst p hp _ _ _ hb (h.pr p hp hl)
theorem JK.madeP (ok : okK lits prs = true) (hst : ∀ p ∈ prs, Stb p.2.2) (h : JK w0 lits prs l g W) {i d : Nat} {P : Value → World → Prop} (hi : (i, d, P) ∈ prs) {v : Value} {W' : World} (hv : P v W') (hb : Below W.heap.size W W') : JK w0 lits prs (upd l i true) (upd g d v) W' := by
  obtain ⟨a1, a2, a3, b1, b2, b3⟩ := okK.out ok
  refine ⟨fun p hp hl => ?_, fun p hp hl => ?_, bel_step h.low hb⟩
  · rw [upd_ne _ _ (a3 p hp _ hi)] at hl
    rw [upd_ne _ _ (b3 p hp _ hi), h.lit p hp hl]
  · by_cases ep : p.1 = i
    · have := uniq_map _ a2 hp hi ep
      subst this
      rw [upd_same]
      exact hv
    · rw [upd_ne _ _ ep] at hl
      rw [upd_ne _ _ (fun ed => ep (by have := uniq_map (fun p : Nat × Nat × (Value → World → Prop) => p.2.1) b2 hp hi ed; rw [this]))]
      exact hst p hp _ _ _ hb (h.pr p hp hl)
end
end Go.Proofs.YtngdieldgnlogaaDoor
