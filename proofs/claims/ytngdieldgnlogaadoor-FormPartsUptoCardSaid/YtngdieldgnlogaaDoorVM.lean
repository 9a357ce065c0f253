/- A right formula is a right schema. -/
import Derived.Test.YtngdieldgnlogaaDoorMR
namespace Go.Proofs.YtngdieldgnlogaaDoor
open Go Go.RowKit
set_option maxRecDepth 100000
set_option linter.unusedVariables false
theorem Ts.right_mono : ∀ {t : Ts}, t.right false = true → t.right true = true
  | .nil, _ => rfl
  | .cons v n ts r, h => by
    simp only [Ts.right, Bool.and_eq_true] at h
    simp only [Ts.right, Bool.and_eq_true]
    refine ⟨?_, Ts.right_mono h.2⟩
    cases v
    · simp at h ⊢
      exact ⟨h.1.1, Ts.right_mono h.1.2⟩
    · simp at h ⊢
      exact ⟨h.1.1, .inl h.1.2⟩
theorem formOk_mono {op : Int} {n : ByteArray} {ts : Ts} {k : Nat} (h : formOk false op n ts k = true) : formOk true op n ts k = true := by
  simp only [formOk, lastOp, Bool.and_eq_true, decide_eq_true_eq] at h ⊢
  obtain ⟨⟨⟨⟨⟨⟨h1, h2⟩, h3⟩, h4⟩, h5⟩, h6⟩, h7⟩ := h
  exact ⟨⟨⟨⟨⟨⟨h1, by simp at h2 ⊢; omega⟩, h3⟩, h4⟩, h5⟩, h6⟩, Ts.right_mono h7⟩
theorem Fs.right_mono : ∀ {t : Fs}, t.right false = true → t.right true = true
  | .nil, _ => rfl
  | .cons op n ts sub r, h => by
    simp only [Fs.right, Bool.and_eq_true] at h ⊢
    exact ⟨⟨formOk_mono h.1.1, Fs.right_mono h.1.2⟩, Fs.right_mono h.2⟩
theorem FT.right_mono {f : FT} (h : f.right false = true) : f.right true = true := by
  simp only [FT.right, Bool.and_eq_true] at h ⊢
  exact ⟨formOk_mono h.1, Fs.right_mono h.2⟩
end Go.Proofs.YtngdieldgnlogaaDoor
