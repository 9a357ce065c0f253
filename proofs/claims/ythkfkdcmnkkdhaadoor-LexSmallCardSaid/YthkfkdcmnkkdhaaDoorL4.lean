/- What is asked of tokens: their lengths, their errors, their shape. -/
import Derived.Test.YthkfkdcmnkkdhaaDoorL3
namespace Go.Proofs.YthkfkdcmnkkdhaaDoor.Lx
def sumLen : List Tok → Nat
  | [] => 0
  | t :: l => t.t.length + sumLen l
section
variable (rk mk : List UInt8 → Int)
theorem lex_bad_e (hk : Kinds rk mk) : ∀ (n : Nat) (x : List UInt8) (p a : Nat) (e : Int), x.length ≤ n → lex rk mk x p = .bad a e → e = 40 ∨ e = 41
  | _, [], p, a, e, _, h => by rw [lex_nil] at h; cases h
  | 0, _ :: _, _, _, _, h, _ => by simp at h
  | n + 1, c :: r, p, a, e, hn, h => by
    simp only [List.length_cons] at hn
    cases hb : blank c with
    | true =>
      rw [lex_blank _ _ _ _ _ hb] at h
      exact lex_bad_e hk n r (p + 1) a e (by omega) h
    | false =>
      cases ht : tk rk mk c r with
      | err e' =>
        rw [lex_err _ _ _ _ _ hb ht] at h
        cases h
        exact tk_err rk mk ht
      | tok k m =>
        rw [lex_tok _ _ _ _ _ hb ht] at h
        cases hq : lex rk mk (r.drop m) (p + 1 + m) with
        | ok l => rw [hq] at h; cases h
        | bad a' e' =>
          rw [hq] at h
          cases h
          exact lex_bad_e hk n (r.drop m) (p + 1 + m) a e (by rw [List.length_drop]; omega) hq
theorem lex_shape (hk : Kinds rk mk) : ∀ (n : Nat) (x : List UInt8) (p : Nat) (l : List Tok), x.length ≤ n → lex rk mk x p = .ok l →
    ∃ l0, l = l0 ++ [⟨5, [], ((p + x.length : Nat) : Int)⟩] ∧ (∀ t ∈ l0, Good rk mk t.t t.k ∧ t.k ≠ 5) ∧ sumLen l0 ≤ x.length
  | n, [], p, l, _, h => by
    rw [lex_nil] at h
    cases h
    exact ⟨[], by simp, by simp, Nat.le_refl _⟩
  | 0, _ :: _, _, _, hn, _ => by simp at hn
  | n + 1, c :: r, p, l, hn, h => by
    simp only [List.length_cons] at hn
    cases hb : blank c with
    | true =>
      rw [lex_blank _ _ _ _ _ hb] at h
      obtain ⟨l0, h1, h2, h3⟩ := lex_shape hk n r (p + 1) l (by omega) h
      exact ⟨l0, by rw [h1]; simp only [List.length_cons]; rw [show p + 1 + r.length = p + (r.length + 1) by omega], h2, by simp only [List.length_cons]; omega⟩
    | false =>
      cases ht : tk rk mk c r with
      | err e => rw [lex_err _ _ _ _ _ hb ht] at h; cases h
      | tok k m =>
        have hm := tk_le rk mk c r k m ht
        rw [lex_tok _ _ _ _ _ hb ht] at h
        cases hq : lex rk mk (r.drop m) (p + 1 + m) with
        | bad a e => rw [hq] at h; cases h
        | ok l' =>
          rw [hq] at h
          cases h
          obtain ⟨l0, h1, h2, h3⟩ := lex_shape hk n (r.drop m) (p + 1 + m) l' (by rw [List.length_drop]; omega) hq
          refine ⟨⟨k, c :: r.take m, (p : Int)⟩ :: l0, ?_, ?_, ?_⟩
          · rw [h1, List.length_drop]
            simp only [List.length_cons, List.cons_append]
            rw [show p + 1 + m + (r.length - m) = p + (r.length + 1) by omega]
          · intro t htm
            rcases List.mem_cons.1 htm with rfl | htm
            · exact ⟨good_of rk mk c r k m hb ht, hk c r k m ht⟩
            · exact h2 t htm
          · rw [List.length_drop] at h3
            simp only [sumLen, List.length_cons, List.length_take]
            omega
end
theorem good_pos {rk mk : List UInt8 → Int} {t : List UInt8} {k : Int} (h : Good rk mk t k) : 1 ≤ t.length := by
  obtain ⟨c, u, rfl, -, -⟩ := h
  simp
theorem len_sum : ∀ (l : List Tok), (∀ t ∈ l, 1 ≤ t.t.length) → l.length ≤ sumLen l
  | [], _ => Nat.le_refl _
  | t :: l, h => by
    have h1 := h t (by simp)
    have h2 := len_sum l (fun u hu => h u (by simp [hu]))
    simp only [List.length_cons, sumLen]
    omega
theorem mem_sum : ∀ (l : List Tok) (t : Tok), t ∈ l → t.t.length ≤ sumLen l
  | a :: l, t, h => by
    simp only [sumLen]
    rcases List.mem_cons.1 h with rfl | h
    · omega
    · have := mem_sum l t h
      omega
theorem join_sum : ∀ (l : List Tok), (joinT (l.map (·.t))).length ≤ sumLen l + l.length
  | [] => by simp [joinT, sumLen]
  | [t] => by simp [joinT, sumLen]
  | t :: u :: r => by
    have := join_sum (u :: r)
    simp only [List.map_cons, joinT, List.length_append, List.length_cons, sumLen] at this ⊢
    omega
theorem alike_app : ∀ {l m : List Tok} {a b : Tok}, Alike l m → a.k = b.k → a.t = b.t → Alike (l ++ [a]) (m ++ [b])
  | [], [], _, _, _, h1, h2 => ⟨h1, h2, trivial⟩
  | _ :: _, _ :: _, _, _, h, h1, h2 => ⟨h.1, h.2.1, alike_app h.2.2 h1 h2⟩
theorem alike_refl : ∀ (l : List Tok), Alike l l
  | [] => trivial
  | _ :: l => ⟨rfl, rfl, alike_refl l⟩
end Go.Proofs.YthkfkdcmnkkdhaaDoor.Lx
