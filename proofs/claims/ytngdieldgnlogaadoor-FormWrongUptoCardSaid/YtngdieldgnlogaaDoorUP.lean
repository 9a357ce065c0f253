/- Frames that differ in some slots; a fresh struct variable. -/
import Derived.Test.YtngdieldgnlogaaDoorU9
import Derived.Test.YtngdieldgnlogaaDoorWT
namespace Go.Proofs.YtngdieldgnlogaaDoor
open Go Go.RowKit
set_option maxRecDepth 100000
set_option linter.unusedVariables false
theorem act_puts {a a' : Act} {n : Nat} {vals : List (Nat × Value)} (hn : a.tmps.size = n) (hn' : a'.tmps.size = n) (hd : a'.defers = a.defers) (hpw : vals.Pairwise (fun p q => p.1 ≠ q.1))
    (hb : ∀ d, d < n → keyB vals d = false → a'.tmps[d]? = a.tmps[d]?) (hv : ∀ d, d < n → keyB vals d = true → a'.tmps[d]? = some (slotV a vals d)) : a' = puts a vals := by
  have et : a'.tmps = (puts a vals).tmps := by
    apply Array.ext_getElem?
    intro d
    by_cases hdn : d < n
    · cases hk : keyB vals d with
      | false => rw [puts_other _ _ _ hk]; exact hb d hdn hk
      | true => rw [puts_same _ a a d hpw hk (by omega)]; exact hv d hdn hk
    · rw [Array.getElem?_eq_none (by omega), Array.getElem?_eq_none (by rw [puts_size]; omega)]
  have ed : a'.defers = (puts a vals).defers := by rw [puts_defs]; exact hd
  cases a'
  cases h : puts a vals
  simp_all
theorem ex_alloc {o : Oper} {ev : Operand → Value} {w : World} (hop : o.op = .alloc 25) : (execOp ev o).run Tryd.prog w = .ok (.value (.pointer (some ⟨w.heap.size, 0, none⟩))) (w.alloc (.cells #[.int .u8 0, .string ⟨#[]⟩, .slice none 0 0, .slice none 0 0] 25)) := by
  simp [execOp, hop, go_sem]
def Fr4' (g : Nat) (W : World) : Prop := ∀ j, j < 4 → ∃ u, Wc W g j u
theorem Fr4'.below {g : Nat} {W W' : World} (hb : Below W.heap.size W W') (h : Fr4' g W) : Fr4' g W' := fun j hj => (h j hj).imp fun _ h => h.below hb
theorem Fr4'.new (W : World) : Fr4' W.heap.size (W.alloc (.cells #[.int .u8 0, .string ⟨#[]⟩, .slice none 0 0, .slice none 0 0] 25)) := fun j hj => (Free.lit W #[.int .u8 0, .string ⟨#[]⟩, .slice none 0 0, .slice none 0 0] 25).wc (by simpa using hj)
/-- Two fresh struct variables, of which neither, one or both are there. -/
def J2 (lo : Nat) (L : Array Bool) (a : Act) (W : World) : Prop :=
  (L.getD 4 false = true → ∃ b, a.tmps[7]? = some (.pointer (some ⟨b, 0, none⟩)) ∧ lo ≤ b ∧ Fr4' b W) ∧ (L.getD 5 false = true → ∃ b, a.tmps[8]? = some (.pointer (some ⟨b, 0, none⟩)) ∧ lo ≤ b ∧ Fr4' b W) ∧
  (L.getD 4 false = true → L.getD 5 false = true → a.tmps[7]? ≠ a.tmps[8]?)
theorem getD_other {L : Array Bool} {i j : Nat} (h : i ≠ j) : (L.setIfInBounds i true).getD j false = L.getD j false := by
  simp [Array.getD_eq_getD_getElem?, Array.getElem?_setIfInBounds_ne h]
theorem J2.other {lo : Nat} {L : Array Bool} {a : Act} {W W' : World} {i d : Nat} {v : Value} (h : J2 lo L a W) (hb : Below W.heap.size W W') (h4 : i ≠ 4) (h5 : i ≠ 5) (h7 : d ≠ 7) (h8 : d ≠ 8) : J2 lo (L.setIfInBounds i true) (a.put (some d) v) W' := by
  have e7 : (a.put (some d) v).tmps[7]? = a.tmps[7]? := by simp [Act.put, Array.getElem?_setIfInBounds_ne h7]
  have e8 : (a.put (some d) v).tmps[8]? = a.tmps[8]? := by simp [Act.put, Array.getElem?_setIfInBounds_ne h8]
  unfold J2
  rw [getD_other h4, getD_other h5, e7, e8]
  exact ⟨fun hl => (h.1 hl).imp fun b hb' => ⟨hb'.1, hb'.2.1, hb'.2.2.below hb⟩, fun hl => (h.2.1 hl).imp fun b hb' => ⟨hb'.1, hb'.2.1, hb'.2.2.below hb⟩, h.2.2⟩
theorem J2.seven {lo : Nat} {L : Array Bool} {a : Act} {W : World} (h : J2 lo L a W) (hlo : lo ≤ W.heap.size) (hn : 8 < a.tmps.size) :
    J2 lo (L.setIfInBounds 4 true) (a.put (some 7) (.pointer (some ⟨W.heap.size, 0, none⟩))) (W.alloc (.cells #[.int .u8 0, .string ⟨#[]⟩, .slice none 0 0, .slice none 0 0] 25)) := by
  have e7 : (a.put (some 7) (.pointer (some ⟨W.heap.size, 0, none⟩))).tmps[7]? = some (.pointer (some ⟨W.heap.size, 0, none⟩)) := by simp [Act.put, show 7 < a.tmps.size by omega]
  have e8 : (a.put (some 7) (.pointer (some ⟨W.heap.size, 0, none⟩))).tmps[8]? = a.tmps[8]? := by simp [Act.put]
  unfold J2
  rw [getD_other (show 4 ≠ 5 by decide), e7, e8]
  refine ⟨fun _ => ⟨_, rfl, hlo, Fr4'.new W⟩, fun hl => (h.2.1 hl).imp fun b hb' => ⟨hb'.1, hb'.2.1, hb'.2.2.below (bel_laid _ _)⟩, fun _ hl e => ?_⟩
  obtain ⟨b, hb1, -, hb3⟩ := h.2.1 hl
  rw [hb1] at e
  simp at e
  obtain ⟨u, hu⟩ := hb3 0 (by omega)
  have := hu.lt
  omega
theorem J2.eight {lo : Nat} {L : Array Bool} {a : Act} {W : World} (h : J2 lo L a W) (hlo : lo ≤ W.heap.size) (hn : 8 < a.tmps.size) :
    J2 lo (L.setIfInBounds 5 true) (a.put (some 8) (.pointer (some ⟨W.heap.size, 0, none⟩))) (W.alloc (.cells #[.int .u8 0, .string ⟨#[]⟩, .slice none 0 0, .slice none 0 0] 25)) := by
  have e7 : (a.put (some 8) (.pointer (some ⟨W.heap.size, 0, none⟩))).tmps[7]? = a.tmps[7]? := by simp [Act.put]
  have e8 : (a.put (some 8) (.pointer (some ⟨W.heap.size, 0, none⟩))).tmps[8]? = some (.pointer (some ⟨W.heap.size, 0, none⟩)) := by simp [Act.put, hn]
  unfold J2
  rw [getD_other (show 5 ≠ 4 by decide), e7, e8]
  refine ⟨fun hl => (h.1 hl).imp fun b hb' => ⟨hb'.1, hb'.2.1, hb'.2.2.below (bel_laid _ _)⟩, fun _ => ⟨_, rfl, hlo, Fr4'.new W⟩, fun hl _ e => ?_⟩
  obtain ⟨b, hb1, -, hb3⟩ := h.1 hl
  rw [hb1] at e
  simp at e
  obtain ⟨u, hu⟩ := hb3 0 (by omega)
  have := hu.lt
  omega
end Go.Proofs.YtngdieldgnlogaaDoor
