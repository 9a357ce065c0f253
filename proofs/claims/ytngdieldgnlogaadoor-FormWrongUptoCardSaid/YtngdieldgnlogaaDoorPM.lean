/- What is put at a place (mathematics alone). -/
import Derived.Test.YtngdieldgnlogaaDoorSF
namespace Go.Proofs.YtngdieldgnlogaaDoor
open Go Go.RowKit
set_option linter.unusedVariables false
theorem Fs.get_set : ∀ (t : Fs) (k : Nat) (h : FT), k < t.len → (t.set k h).get k = h
  | .nil, _, _, hk => by simp [Fs.len] at hk
  | .cons _ _ _ _ _, 0, _, _ => rfl
  | .cons _ _ _ _ r, k + 1, h, hk => by simp only [Fs.set, Fs.get]; exact Fs.get_set r k h (by simp only [Fs.len] at hk; omega)
theorem Fs.get_set_ne : ∀ (t : Fs) (k j : Nat) (h : FT), j ≠ k → (t.set k h).get j = t.get j
  | .nil, _, _, _, _ => rfl
  | .cons _ _ _ _ _, 0, 0, _, hj => (hj rfl).elim
  | .cons _ _ _ _ _, 0, _ + 1, _, _ => rfl
  | .cons _ _ _ _ _, _ + 1, 0, _, _ => rfl
  | .cons _ _ _ _ r, k + 1, j + 1, h, hj => by simp only [Fs.set, Fs.get]; exact Fs.get_set_ne r k j h (by omega)
theorem Fs.set_get : ∀ (t : Fs) (k : Nat), k < t.len → t.set k (t.get k) = t
  | .nil, _, hk => by simp [Fs.len] at hk
  | .cons _ _ _ _ _, 0, _ => rfl
  | .cons _ _ _ _ r, k + 1, hk => by simp only [Fs.set, Fs.get, Fs.set_get r k (by simp only [Fs.len] at hk; omega)]
theorem Fs.set_set : ∀ (t : Fs) (k : Nat) (g h : FT), (t.set k g).set k h = t.set k h
  | .nil, _, _, _ => rfl
  | .cons _ _ _ _ _, 0, _, _ => rfl
  | .cons _ _ _ _ r, k + 1, g, h => by simp only [Fs.set, Fs.set_set r k g h]
theorem Fs.size_set : ∀ (t : Fs) (k : Nat) (h : FT), k < t.len → (t.set k h).size + (t.get k).size = t.size + h.size
  | .nil, _, _, hk => by simp [Fs.len] at hk
  | .cons _ _ _ _ _, 0, _, _ => by simp only [Fs.set, Fs.get, Fs.size, FT.size]; omega
  | .cons _ _ _ _ r, k + 1, h, hk => by
    have := Fs.size_set r k h (by simp only [Fs.len] at hk; omega)
    simp only [Fs.set, Fs.get, Fs.size]; omega
theorem FT.put_part : ∀ (l : List Int) (f h o : FT), f.part l = some o → ∃ g, f.put l h = some g ∧ g.part l = some h ∧ g.put l o = some f ∧ g.size + o.size = f.size + h.size
  | [], f, h, o, e => by
    simp only [FT.part, Option.some.injEq] at e
    subst e
    exact ⟨h, rfl, rfl, rfl, by omega⟩
  | i :: l, f, h, o, e => by
    rw [FT.part] at e
    split at e
    · rename_i hi
      obtain ⟨g, h1, h2, h3, h4⟩ := FT.put_part l _ h o e
      have hs := Fs.size_set f.sub i.toNat g (by omega)
      refine ⟨⟨f.op, f.n, f.ts, f.sub.set i.toNat g⟩, by rw [FT.put, if_pos hi, h1]; rfl, ?_, ?_, by simp only [FT.size] at h4 hs ⊢; omega⟩
      · rw [FT.part, if_pos (by rw [Fs.len_set]; exact hi)]
        rw [Fs.get_set _ _ _ (by omega)]
        exact h2
      · rw [FT.put, if_pos (by rw [Fs.len_set]; exact hi)]
        rw [Fs.get_set _ _ _ (by omega), h3]
        simp only [Option.map_some, Fs.set_set, Fs.set_get _ _ (show i.toNat < f.sub.len by omega)]
    · cases e
/-- Other places stay as they are. -/
theorem FT.part_other : ∀ (l m : List Int) (f h g : FT) (k : Nat), k < l.length → k < m.length → l.take k = m.take k → l[k]? ≠ m[k]? → f.put l h = some g → g.part m = f.part m
  | [], _, _, _, _, _, hk, _, _, _, _ => by simp at hk
  | _, [], _, _, _, _, _, hk, _, _, _ => by simp at hk
  | i :: l, j :: m, f, h, g, k, hk, hm, ht, hne, hp => by
    rw [FT.put] at hp
    split at hp
    · rename_i hi
      obtain ⟨q, hq, rfl⟩ := Option.map_eq_some_iff.1 hp
      rw [FT.part, FT.part, Fs.len_set]
      split
      · rename_i hj
        by_cases hij : j.toNat = i.toNat
        · cases k with
          | zero => simp at hne; omega
          | succ k =>
            rw [hij, Fs.get_set _ _ _ (by omega)]
            simp only [List.take_succ_cons, List.cons.injEq] at ht
            simp only [List.getElem?_cons_succ] at hne
            exact FT.part_other l m _ h q k (by simpa using hk) (by simpa using hm) ht.2 hne hq
        · rw [Fs.get_set_ne _ _ _ _ hij]
      · rfl
    · cases hp
end Go.Proofs.YtngdieldgnlogaaDoor
