/- A fault put at a place (mathematics alone). -/
import Derived.Test.YtngdieldgnlogaaDoorMX
namespace Go.Proofs.YtngdieldgnlogaaDoor
open Go Go.RowKit
set_option maxRecDepth 100000
set_option linter.unusedVariables false
theorem Ts.size_app : ∀ (q r : Ts), (q.app r).size = q.size + r.size
  | .nil, r => by simp [Ts.app, Ts.size]
  | .cons v n ts q, r => by simp only [Ts.app, Ts.size, Ts.size_app q r]; omega
theorem Fs.size_app : ∀ (q r : Fs), (q.app r).size = q.size + r.size
  | .nil, r => by simp [Fs.app, Fs.size]
  | .cons op n ts sub q, r => by simp only [Fs.app, Fs.size, Fs.size_app q r]; omega
theorem FT.bad_size (o : FT) (k : Nat) : (o.bad k).size ≤ o.size + 6 := by
  have hz : o.size = o.ts.size + o.sub.size + 1 := rfl
  match k with
  | 0 => show o.ts.size + o.sub.size + 1 ≤ _; omega
  | 1 => show o.ts.size + o.sub.size + 1 ≤ _; omega
  | 2 => show o.ts.size + o.sub.size + 1 ≤ _; omega
  | 3 =>
    show o.ts.size + (o.sub.app _).size + 1 ≤ _
    rw [Fs.size_app]
    simp only [Fs.size, Ts.size]
    omega
  | 4 =>
    show (o.ts.app _).size + o.sub.size + 1 ≤ _
    rw [Ts.size_app]
    simp only [Ts.size]
    omega
  | 5 => show 0 + 0 + 1 ≤ _; omega
  | 6 =>
    show (o.ts.app _).size + o.sub.size + 1 ≤ _
    rw [Ts.size_app]
    simp only [Ts.size]
    omega
  | k + 7 => show o.ts.size + o.sub.size + 1 ≤ _; omega
theorem FT.name_size {o : FT} (ho : o.right false = true) : o.n.size ≤ 16 := by
  simp only [FT.right, Bool.and_eq_true] at ho
  obtain ⟨a1, a2, a3, -⟩ := formOk_parts ho.1
  have hK := rowK_low o.op.toNat (by omega)
  rcases show rowK o.op.toNat = 0 ∨ rowK o.op.toNat = 1 ∨ rowK o.op.toNat = 2 by omega with e | e | e
  all_goals rw [e] at a3
  · have h : o.n.toList.isEmpty = true := a3
    rw [empty_toList] at h
    have := of_decide_eq_true h
    omega
  · have h : isPred o.n = true := a3
    simp only [isPred, spelled, Bool.and_eq_true, decide_eq_true_eq] at h
    exact h.1.1.1.1.2
  · have h : isVar o.n = true := a3
    simp only [isVar, spelled, Bool.and_eq_true, decide_eq_true_eq] at h
    exact h.1.1.1.1.2
theorem FT.bad_put {f o : FT} {l : List Int} (hpt : f.part l = some o) (hfr : f.right false = true) (hs : f.size ≤ 1000) (r : Nat) :
    ∃ h, f.put l (o.bad r) = some h ∧ h.size ≤ 1000000 ∧ (h.fits && h.right false) = false ∧ (r = 5 → f.fits = true → (h.fits && h.right true) = true) ∧ (o.bad r).size ≤ 1000000 := by
  obtain ⟨h, h1, h2, -, h4⟩ := FT.put_part l f (o.bad r) o hpt
  have hbz := o.bad_size r
  have hoz := Fs.part_size l f o hpt
  refine ⟨h, h1, by omega, ?_, ?_, by omega⟩
  · cases hq : h.right false with
    | false => simp
    | true =>
      have h5 := FT.part_right h2 hq
      rw [FT.bad_right o (FT.part_right hpt hfr) r] at h5
      cases h5
  · rintro rfl hfits
    have h6 : h.right true = true := FT.put_right h1 (FT.right_mono hfr) meta_right
    have h7 : h.size ≤ f.size := by
      have : (o.bad 5).size = 1 := rfl
      have : 1 ≤ o.size := by have : o.size = o.ts.size + o.sub.size + 1 := rfl; omega
      omega
    have h8 : h.deep ≤ f.deep := FT.put_deep h1 hpt (by
      show 0 + 1 ≤ o.deep
      have : o.deep = max o.ts.deep o.sub.deep + 1 := rfl
      omega)
    simp only [FT.fits, Bool.and_eq_true, decide_eq_true_eq] at hfits ⊢
    exact ⟨⟨by omega, by omega⟩, h6⟩
end Go.Proofs.YtngdieldgnlogaaDoor
