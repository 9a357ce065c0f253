/- Where the next token stands in the text. -/
import Derived.Test.YthkfkdcmnkkdhaaDoorF6
import Derived.Test.YthkfkdcmnkkdhaaDoorL4
namespace Go.Proofs.YthkfkdcmnkkdhaaDoor
open Go
set_option linter.unusedVariables false
theorem lex_at (x : ByteArray) (p : Nat) (hp : p ≤ x.size) (l : List Lx.Tok) (h : Lx.lex rkL mkL (x.data.toList.drop p) p = .ok l) :
    ∃ (q : Nat) (t : Lx.Tok) (rest : List Lx.Tok), l = t :: rest ∧ t.at' = (q : Int) ∧ p ≤ q ∧ q ≤ x.size ∧ Blanks x p q ∧
      ((q = x.size ∧ t.k = 5 ∧ t.t = [] ∧ rest = []) ∨
       (t.k ≠ 5 ∧ ∃ n, 1 ≤ n ∧ q + n ≤ x.size ∧ t.t = (x.data.toList.drop q).take n ∧ t.t.length = n ∧ rest ≠ [] ∧ Lx.lex rkL mkL (x.data.toList.drop (q + n)) (q + n) = .ok rest)) := by
  obtain ⟨q, h1, h2, h3, h4⟩ := nx_at x (x.size - p) p (Nat.le_refl _) hp
  have hc := Lx.nx_cases rkL mkL kinds (x.data.toList.drop p) p
  rcases h4 with ⟨rfl, h4⟩ | ⟨hlt, hb, h4⟩
  · rw [h4] at hc
    have hlen : p + (x.data.toList.drop p).length = x.size := by
      rw [List.length_drop]
      have : x.data.toList.length = x.size := by simp
      omega
    rcases hc with ⟨c1, c2⟩ | ⟨a, e, z, c0, c1, c2⟩ | ⟨t, z, q', c0, c3, c4, c1, c2⟩
    · rw [h] at c2
      cases c2
      exact ⟨x.size, _, [], rfl, by rw [hlen], h1, Nat.le_refl _, h3, .inl ⟨rfl, rfl, rfl, rfl⟩⟩
    · simp only [Prod.mk.injEq] at c1
      exact absurd c1.2.1.symm c0
    · simp only [Prod.mk.injEq] at c1
      rw [← c1.1] at c0
      exact absurd rfl c0
  · rw [h4] at hc
    have hxl : x.data.toList.length = x.size := by simp
    cases htk : Lx.tk rkL mkL x[q] (x.data.toList.drop (q + 1)) with
    | err e =>
      have he := Lx.tk_err rkL mkL htk
      rw [htk] at hc
      rcases hc with ⟨c1, c2⟩ | ⟨a, e', z, c0, c1, c2⟩ | ⟨t, z, q', c0, c3, c4, c1, c2⟩
      · simp only [Prod.mk.injEq] at c1
        omega
      · rw [h] at c2
        cases c2
      · simp only [Prod.mk.injEq] at c1
        omega
    | tok k m =>
      have hk := kinds _ _ _ _ htk
      have hm := Lx.tk_le rkL mkL _ _ _ _ htk
      rw [List.length_drop, hxl] at hm
      rw [htk] at hc
      rcases hc with ⟨c1, c2⟩ | ⟨a, e', z, c0, c1, c2⟩ | ⟨t, z, q', c0, c3, c4, c1, c2⟩
      · simp only [Prod.mk.injEq, Lx.Tok.mk.injEq] at c1
        exact absurd c1.1.1 hk
      · simp only [Prod.mk.injEq] at c1
        exact absurd c1.2.1.symm c0
      · simp only [Prod.mk.injEq] at c1
        obtain ⟨c5, -, c6, c7⟩ := c1
        cases hz : Lx.lex rkL mkL z q' with
        | bad a e => rw [hz, h] at c2; cases c2
        | ok rest =>
          rw [hz, h] at c2
          cases c2
          rw [← c6, ← c7, List.drop_drop] at hz
          subst c5
          have hl : (x[q] :: (x.data.toList.drop (q + 1)).take m).length = m + 1 := by
            rw [List.length_cons, List.length_take, List.length_drop, hxl]
            omega
          refine ⟨q, _, rest, rfl, rfl, h1, h2, h3, .inr ⟨hk, m + 1, by omega, by omega, ?_, hl, ?_, ?_⟩⟩
          · rw [drop_cons x q hlt, List.take_succ_cons]
          · rintro rfl
            obtain ⟨l0, e1, -⟩ := Lx.lex_shape rkL mkL kinds _ _ _ _ (Nat.le_refl _) hz
            simp at e1
          · rw [show q + (m + 1) = q + 1 + m by omega]
            exact hz
end Go.Proofs.YthkfkdcmnkkdhaaDoor
