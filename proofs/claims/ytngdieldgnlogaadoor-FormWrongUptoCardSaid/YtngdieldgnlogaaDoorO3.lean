/- Lists of numbers that come in. -/
import Derived.Test.YtngdieldgnlogaaDoorO2
import Derived.Test.YtngdieldgnlogaaDoorMC
import Derived.ChangeSlices
import Derived.WideShapes
namespace Go.Proofs.YtngdieldgnlogaaDoor
open Go Go.RowKit
set_option maxRecDepth 100000
set_option linter.unusedVariables false
theorem kInt : Tryd.prog.cellsOf 3 = 1 := by kernel_rfl
/-- A list of numbers that comes in. -/
theorem open_list {H : Type} {enc : TypeId × Value → H} {w : World} {base b0 : Nat} {sp : Nat → Bool} {held : Bool} {r : Reach} {v : Value} {d : DataW H} {p : List MemPlace}
    (hv : Value.okWide Tryd.prog w r b0 26 v) (h : DataW.Trod enc Tryd.prog w base sp held 26 v d p) : ∃ (l : List Int) (a : Option Addr) (c : Nat), v = .slice a l.length c ∧ LSl w l v ∧ l.length ≤ c ∧ c ≤ maxLen := by
  obtain ⟨a, len, cap, rfl⟩ := Go.WideShapes.okWide_slice Tryd.underlying26 hv
  obtain ⟨fuel, hf⟩ := h
  replace hf : DataW.trod enc Tryd.prog w base sp held fuel 26 [.slice a len cap] = some (d, p) := hf
  rcases Go.ChangeShapes.open_ints Tryd.underlying26 Tryd.underlying3 kInt hf with ⟨h0, -⟩ | ⟨a', len', cap', zs, h0, -, h1, h2, h3, -, h4, -⟩
  · simp at h0
    obtain ⟨rfl, rfl, rfl⟩ := h0
    exact ⟨[], none, 0, rfl, ⟨none, 0, rfl, .inl rfl⟩, Nat.le_refl _, by unfold maxLen; omega⟩
  · simp at h0
    obtain ⟨rfl, rfl, rfl⟩ := h0
    have hlz : len ≤ zs.length := by rw [h3]; split <;> omega
    have hll : (zs.take len).length = len := by simp; omega
    refine ⟨zs.take len, some a', cap, by rw [hll], ⟨some a', cap, by rw [hll], ?_⟩, by omega, h2⟩
    rcases Nat.eq_zero_or_pos len with rfl | hpos
    · exact .inl hll
    · have h40 := h4 0 (by omega)
      obtain ⟨b, o, rfl⟩ : ∃ b o, a' = ⟨b, o, none⟩ := by
        have e : w.cell? a' = some (.int .i64 (zs.getD 0 0)) := h40
        refine ⟨a'.block, a'.off, ?_⟩
        obtain ⟨bb, oo, s⟩ := a'
        cases s with
        | none => rfl
        | some q => simp [World.cell?] at e; split at e <;> simp_all
      have hadd : ∀ i, Addr.add ⟨b, o, none⟩ i = ⟨b, o + i, none⟩ := fun i => by
        by_cases h0 : i = 0
        · subst h0; rfl
        · simp [Addr.add, h0]
      refine .inr ⟨b, o, rfl, ?_⟩
      have hall : ∀ (l : List Int) (k : Nat), (∀ j (hj : j < l.length), w.cell? ⟨b, o + (k + j), none⟩ = some (.int .i64 l[j])) → LsAt w l b (o + k) := by
        intro l
        induction l with
        | nil => intro k _; trivial
        | cons x l ih =>
          intro k hj
          refine ⟨by have h9 := hj 0 (by simp); rw [Nat.add_zero] at h9; exact h9, ?_⟩
          have := ih (k + 1) (fun j hj' => by
            have := hj (j + 1) (by simpa using hj')
            rw [show k + 1 + j = k + (j + 1) by omega]
            simpa using this)
          rwa [show o + (k + 1) = o + k + 1 by omega] at this
      refine hall _ 0 (fun j hj => ?_)
      rw [hll] at hj
      have := h4 j (by omega)
      rw [hadd] at this
      rw [Nat.zero_add, this]
      simp [List.getD, List.getElem?_eq_getElem (show j < zs.length by omega)]
end Go.Proofs.YtngdieldgnlogaaDoor
