/- Faults in right formulas (mathematics alone). -/
import Derived.Test.YtngdieldgnlogaaDoorPM
import Derived.Test.YtngdieldgnlogaaDoorMR
namespace Go.Proofs.YtngdieldgnlogaaDoor
open Go Go.RowKit
set_option maxRecDepth 100000
set_option linter.unusedVariables false
theorem Fs.get_right : ∀ {t : Fs} {k : Nat} {sc : Bool}, k < t.len → t.right sc = true → (t.get k).right sc = true
  | .nil, _, _, h, _ => by simp [Fs.len] at h
  | .cons op n ts sub r, 0, sc, _, h => by
    simp only [Fs.right, Bool.and_eq_true] at h
    simp only [Fs.get, FT.right, Bool.and_eq_true]
    exact h.1
  | .cons op n ts sub r, k + 1, sc, hk, h => by
    simp only [Fs.right, Bool.and_eq_true] at h
    simp only [Fs.len] at hk
    exact Fs.get_right (t := r) (k := k) (by omega) h.2
theorem Fs.set_right : ∀ {t : Fs} {k : Nat} {sc : Bool} {g : FT}, k < t.len → t.right sc = true → g.right sc = true → (t.set k g).right sc = true
  | .nil, _, _, _, h, _, _ => by simp [Fs.len] at h
  | .cons op n ts sub r, 0, sc, g, _, h, hg => by
    simp only [Fs.right, Bool.and_eq_true] at h
    simp only [FT.right, Bool.and_eq_true] at hg
    simp only [Fs.set, Fs.right, Bool.and_eq_true]
    exact ⟨hg, h.2⟩
  | .cons op n ts sub r, k + 1, sc, g, hk, h, hg => by
    simp only [Fs.right, Bool.and_eq_true] at h
    simp only [Fs.len] at hk
    simp only [Fs.set, Fs.right, Bool.and_eq_true]
    exact ⟨h.1, Fs.set_right (by omega) h.2 hg⟩
theorem FT.part_right : ∀ {l : List Int} {f o : FT} {sc : Bool}, f.part l = some o → f.right sc = true → o.right sc = true
  | [], f, o, sc, h, hf => by simp only [FT.part, Option.some.injEq] at h; subst h; exact hf
  | i :: l, f, o, sc, h, hf => by
    rw [FT.part] at h
    split at h
    · rename_i hi
      simp only [FT.right, Bool.and_eq_true] at hf
      exact FT.part_right h (Fs.get_right (by omega) hf.2)
    · cases h
theorem FT.put_right : ∀ {l : List Int} {f b g : FT} {sc : Bool}, f.put l b = some g → f.right sc = true → b.right sc = true → g.right sc = true
  | [], f, b, g, sc, h, _, hb => by simp only [FT.put, Option.some.injEq] at h; subst h; exact hb
  | i :: l, f, b, g, sc, h, hf, hb => by
    rw [FT.put] at h
    split at h
    · rename_i hi
      obtain ⟨q, hq, rfl⟩ := Option.map_eq_some_iff.1 h
      simp only [FT.right, Bool.and_eq_true] at hf
      have hk : i.toNat < f.sub.len := by omega
      simp only [FT.right, Bool.and_eq_true, Fs.len_set]
      exact ⟨hf.1, Fs.set_right hk hf.2 (FT.put_right hq (Fs.get_right hk hf.2) hb)⟩
    · cases h
theorem Fs.set_deep : ∀ {t : Fs} {k : Nat} {g : FT}, k < t.len → g.deep ≤ (t.get k).deep → (t.set k g).deep ≤ t.deep
  | .nil, _, _, h, _ => by simp [Fs.len] at h
  | .cons op n ts sub r, 0, g, _, h => by
    simp only [Fs.get, FT.deep] at h
    simp only [Fs.set, Fs.deep]
    omega
  | .cons op n ts sub r, k + 1, g, hk, h => by
    simp only [Fs.len] at hk
    have := Fs.set_deep (t := r) (k := k) (g := g) (by omega) h
    simp only [Fs.set, Fs.deep]
    omega
theorem FT.put_deep : ∀ {l : List Int} {f b g o : FT}, f.put l b = some g → f.part l = some o → b.deep ≤ o.deep → g.deep ≤ f.deep
  | [], f, b, g, o, h, ho, hb => by
    simp only [FT.put, Option.some.injEq] at h
    simp only [FT.part, Option.some.injEq] at ho
    subst h ho
    exact hb
  | i :: l, f, b, g, o, h, ho, hb => by
    rw [FT.put] at h
    rw [FT.part] at ho
    split at h
    · rename_i hi
      rw [if_pos hi] at ho
      obtain ⟨q, hq, rfl⟩ := Option.map_eq_some_iff.1 h
      have h1 := FT.put_deep hq ho hb
      have h2 := Fs.set_deep (t := f.sub) (k := i.toNat) (g := q) (by omega) h1
      simp only [FT.deep]
      omega
    · cases h
theorem Ts.right_mono : ∀ {t : Ts}, t.right false = true → t.right true = true
  | .nil, _ => rfl
  | .cons v n ts r, h => by
    simp only [Ts.right, Bool.and_eq_true] at h
    simp only [Ts.right, Bool.and_eq_true]
    refine ⟨?_, Ts.right_mono h.2⟩
    cases v
    · simp at h ⊢
      exact ⟨h.1.1, Ts.right_mono h.1.2⟩
    · simp at h ⊢
      exact ⟨h.1.1, .inl h.1.2⟩
theorem formOk_mono {op : Int} {n : ByteArray} {ts : Ts} {k : Nat} (h : formOk false op n ts k = true) : formOk true op n ts k = true := by
  simp only [formOk, lastOp, Bool.and_eq_true, decide_eq_true_eq] at h ⊢
  obtain ⟨⟨⟨⟨⟨⟨h1, h2⟩, h3⟩, h4⟩, h5⟩, h6⟩, h7⟩ := h
  exact ⟨⟨⟨⟨⟨⟨h1, by simp at h2 ⊢; omega⟩, h3⟩, h4⟩, h5⟩, h6⟩, Ts.right_mono h7⟩
theorem Fs.right_mono : ∀ {t : Fs}, t.right false = true → t.right true = true
  | .nil, _ => rfl
  | .cons op n ts sub r, h => by
    simp only [Fs.right, Bool.and_eq_true] at h ⊢
    exact ⟨⟨formOk_mono h.1.1, Fs.right_mono h.1.2⟩, Fs.right_mono h.2⟩
theorem FT.right_mono {f : FT} (h : f.right false = true) : f.right true = true := by
  simp only [FT.right, Bool.and_eq_true] at h ⊢
  exact ⟨formOk_mono h.1, Fs.right_mono h.2⟩
theorem Ts.right_app : ∀ {q r : Ts} {sc : Bool}, (q.app r).right sc = (q.right sc && r.right sc)
  | .nil, r, sc => by simp [Ts.app, Ts.right]
  | .cons v n ts q, r, sc => by simp only [Ts.app, Ts.right, Ts.right_app (q := q) (r := r), Bool.and_assoc]
end Go.Proofs.YtngdieldgnlogaaDoor
