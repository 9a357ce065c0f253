/- Tokens that stand directly behind one another; where tokens stand. -/
import Derived.Test.YthkfkdcmnkkdhaaDoorL4
import Derived.Test.YthkfkdcmnkkdhaaDoorF6
namespace Go.Proofs.YthkfkdcmnkkdhaaDoor
open Go
set_option linter.unusedVariables false
/-- What holds of two tokens, one behind the other. -/
def PairOK (t u : Lx.Tok) : Prop := u.at' = t.at' + t.t.length →
  Lx.lex rkL mkL (t.t ++ u.t) 0 = .ok [⟨t.k, t.t, 0⟩, ⟨u.k, u.t, (t.t.length : Int)⟩, ⟨5, [], ((t.t ++ u.t).length : Int)⟩] ∧ (t.k = 4 ∨ u.k = 4 ∨ u.k = 2)
theorem lex_ge : ∀ (n : Nat) (x : List UInt8) (p : Nat) (l : List Lx.Tok), x.length ≤ n → Lx.lex rkL mkL x p = .ok l → ∀ t ∈ l, (p : Int) ≤ t.at'
  | _, [], p, l, _, h => by
    rw [Lx.lex_nil] at h
    cases h
    intro t ht
    simp at ht
    subst ht
    exact Int.le_refl _
  | 0, _ :: _, _, _, hn, _ => by simp at hn
  | n + 1, c :: r, p, l, hn, h => by
    simp only [List.length_cons] at hn
    cases hb : Lx.blank c with
    | true =>
      rw [Lx.lex_blank _ _ _ _ _ hb] at h
      intro t ht
      have := lex_ge n r (p + 1) l (by omega) h t ht
      omega
    | false =>
      cases htk : Lx.tk rkL mkL c r with
      | err e => rw [Lx.lex_err _ _ _ _ _ hb htk] at h; cases h
      | tok k m =>
        rw [Lx.lex_tok _ _ _ _ _ hb htk] at h
        cases hq : Lx.lex rkL mkL (r.drop m) (p + 1 + m) with
        | bad a e => rw [hq] at h; cases h
        | ok l' =>
          rw [hq] at h
          cases h
          intro t ht
          rcases List.mem_cons.1 ht with rfl | ht
          · exact Int.le_refl _
          · have := lex_ge n (r.drop m) (p + 1 + m) l' (by rw [List.length_drop]; omega) hq t ht
            omega
theorem lex_le : ∀ (n : Nat) (x : List UInt8) (p : Nat) (l : List Lx.Tok), x.length ≤ n → Lx.lex rkL mkL x p = .ok l → ∀ t ∈ l, t.at' + (t.t.length : Int) ≤ (p + x.length : Nat)
  | _, [], p, l, _, h => by
    rw [Lx.lex_nil] at h
    cases h
    intro t ht
    simp at ht
    subst ht
    simp
  | 0, _ :: _, _, _, hn, _ => by simp at hn
  | n + 1, c :: r, p, l, hn, h => by
    simp only [List.length_cons] at hn
    cases hb : Lx.blank c with
    | true =>
      rw [Lx.lex_blank _ _ _ _ _ hb] at h
      intro t ht
      have := lex_le n r (p + 1) l (by omega) h t ht
      simp only [List.length_cons]
      omega
    | false =>
      cases htk : Lx.tk rkL mkL c r with
      | err e => rw [Lx.lex_err _ _ _ _ _ hb htk] at h; cases h
      | tok k m =>
        rw [Lx.lex_tok _ _ _ _ _ hb htk] at h
        cases hq : Lx.lex rkL mkL (r.drop m) (p + 1 + m) with
        | bad a e => rw [hq] at h; cases h
        | ok l' =>
          rw [hq] at h
          cases h
          intro t ht
          rcases List.mem_cons.1 ht with rfl | ht
          · have hm := Lx.tk_le rkL mkL c r k m htk
            simp only [List.length_cons, List.length_take]
            omega
          · have := lex_le n (r.drop m) (p + 1 + m) l' (by rw [List.length_drop]; omega) hq t ht
            have hm := Lx.tk_le rkL mkL c r k m htk
            rw [List.length_drop] at this
            simp only [List.length_cons]
            omega
theorem kind_sign {c : UInt8} {r : List UInt8} {k : Int} {m : Nat} (h : Lx.tk rkL mkL c r = .tok k m) : Lx.letter c = true ∧ m = Lx.run r ∨ c = 63 ∧ k = 2 ∧ m = Lx.run r ∨ k = 4 := by
  unfold Lx.tk at h
  cases hl : Lx.letter c with
  | true =>
    rw [hl, if_pos rfl] at h
    split at h
    · cases h
    · cases h; exact .inl ⟨rfl, rfl⟩
  | false =>
    rw [hl, if_neg (by simp)] at h
    split at h
    · rename_i h63
      split at h
      · cases h
      · rename_i hk
        cases h
        have := mkB_or ⟨(c :: r.take (Lx.run r)).toArray⟩
        refine .inr (.inl ⟨h63, ?_, rfl⟩)
        unfold mkL at hk ⊢
        omega
    · split at h
      · cases h
      · cases h; exact .inr (.inr rfl)
theorem letter_ld {c : UInt8} (h : Lx.letter c = true) : Lx.ld c = true := by unfold Lx.ld; rw [h]; rfl
/-- Two tokens without a blank between them. -/
theorem pair_math {c d : UInt8} {r r2 : List UInt8} {k k2 : Int} {m m2 : Nat} (p : Nat) (hb : Lx.blank c = false) (h : Lx.tk rkL mkL c r = .tok k m) (hd : r.drop m = d :: r2) (hb2 : Lx.blank d = false) (h2 : Lx.tk rkL mkL d r2 = .tok k2 m2) :
    Lx.lex rkL mkL ((c :: r.take m) ++ (d :: r2.take m2)) 0 = .ok [⟨k, c :: r.take m, 0⟩, ⟨k2, d :: r2.take m2, ((c :: r.take m).length : Int)⟩, ⟨5, [], (((c :: r.take m) ++ (d :: r2.take m2)).length : Int)⟩] ∧ (k = 4 ∨ k2 = 4 ∨ k2 = 2) := by
  have hm := Lx.tk_le rkL mkL c r k m h
  have hm2 := Lx.tk_le rkL mkL d r2 k2 m2 h2
  have hlm : (r.take m).length = m := by rw [List.length_take]; omega
  have hr : r = (r.take m ++ (d :: r2.take m2)) ++ r2.drop m2 := by
    rw [List.append_assoc, List.cons_append, List.take_append_drop, ← hd, List.take_append_drop]
  constructor
  · have hc := Lx.tk_cut rkL mkL c (r.take m ++ (d :: r2.take m2)) (r2.drop m2) k m (by rw [← hr]; exact h) (by rw [List.length_append, hlm]; omega)
    have hg := Lx.good_of rkL mkL d r2 k2 m2 hb2 h2
    rw [List.cons_append, Lx.lex_tok _ _ _ _ _ hb hc]
    have e1 : (r.take m ++ d :: r2.take m2).drop m = d :: r2.take m2 := List.drop_left' hlm
    have e2 : (r.take m ++ d :: r2.take m2).take m = r.take m := List.take_left' hlm
    rw [e1, e2, Lx.lex_good_end rkL mkL (d :: r2.take m2) k2 _ hg]
    simp only [Lx.Out.cons, List.length_cons, List.length_append, hlm]
    congr 4
    · congr 1
      simp
      omega
    · congr 2
      simp
      omega
  · rcases kind_sign h with ⟨hl, hrun⟩ | ⟨-, -, hrun⟩ | h4
    · have hld := Lx.run_next r d r2 (by rw [← hrun]; exact hd)
      rcases kind_sign h2 with ⟨hl2, -⟩ | ⟨-, hk2, -⟩ | h4
      · rw [letter_ld hl2] at hld; cases hld
      · exact .inr (.inr hk2)
      · exact .inr (.inl h4)
    · have hld := Lx.run_next r d r2 (by rw [← hrun]; exact hd)
      rcases kind_sign h2 with ⟨hl2, -⟩ | ⟨-, hk2, -⟩ | h4
      · rw [letter_ld hl2] at hld; cases hld
      · exact .inr (.inr hk2)
      · exact .inr (.inl h4)
    · exact .inl h4
/-- All pairs of a text's tokens, the end left out. -/
theorem lex_pairs : ∀ (n : Nat) (x : List UInt8) (p : Nat) (l : List Lx.Tok), x.length ≤ n → Lx.lex rkL mkL x p = .ok l → ∀ (i : Nat) (t u : Lx.Tok), i + 2 < l.length → l[i]? = some t → l[i + 1]? = some u → PairOK t u
  | _, [], p, l, _, h => by
    rw [Lx.lex_nil] at h
    cases h
    intro i t u hi
    simp at hi
  | 0, _ :: _, _, _, hn, _ => by simp at hn
  | n + 1, c :: r, p, l, hn, h => by
    simp only [List.length_cons] at hn
    cases hb : Lx.blank c with
    | true =>
      rw [Lx.lex_blank _ _ _ _ _ hb] at h
      exact lex_pairs n r (p + 1) l (by omega) h
    | false =>
      cases htk : Lx.tk rkL mkL c r with
      | err e => rw [Lx.lex_err _ _ _ _ _ hb htk] at h; cases h
      | tok k m =>
        have hm := Lx.tk_le rkL mkL c r k m htk
        rw [Lx.lex_tok _ _ _ _ _ hb htk] at h
        cases hq : Lx.lex rkL mkL (r.drop m) (p + 1 + m) with
        | bad a e => rw [hq] at h; cases h
        | ok l' =>
          rw [hq] at h
          cases h
          have hdl : (r.drop m).length ≤ n := by rw [List.length_drop]; omega
          intro i t u hi ht hu
          cases i with
          | succ i => exact lex_pairs n (r.drop m) (p + 1 + m) l' hdl hq i t u (by simp only [List.length_cons] at hi; omega) (by simpa using ht) (by simpa using hu)
          | zero =>
            simp at ht
            subst ht
            simp at hu hi
            intro hadj
            have hlm : (c :: r.take m).length = m + 1 := by rw [List.length_cons, List.length_take]; omega
            simp only [hlm] at hadj
            have hul : u ∈ l' := List.mem_of_getElem? hu
            cases hr : r.drop m with
            | nil =>
              rw [hr, Lx.lex_nil] at hq
              cases hq
              simp at hi
            | cons d r2 =>
              rw [hr] at hq hdl
              simp only [List.length_cons] at hdl
              cases hb2 : Lx.blank d with
              | true =>
                rw [Lx.lex_blank _ _ _ _ _ hb2] at hq
                have := lex_ge r2.length r2 (p + 1 + m + 1) l' (Nat.le_refl _) hq u hul
                omega
              | false =>
                cases htk2 : Lx.tk rkL mkL d r2 with
                | err e => rw [Lx.lex_err _ _ _ _ _ hb2 htk2] at hq; cases hq
                | tok k2 m2 =>
                  rw [Lx.lex_tok _ _ _ _ _ hb2 htk2] at hq
                  cases hq2 : Lx.lex rkL mkL (r2.drop m2) (p + 1 + m + 1 + m2) with
                  | bad a e => rw [hq2] at hq; cases hq
                  | ok l2 =>
                    rw [hq2] at hq
                    cases hq
                    simp at hu
                    subst hu
                    exact pair_math p hb htk hr hb2 htk2
end Go.Proofs.YthkfkdcmnkkdhaaDoor
