/- The mathematics of tokens: a token does not hang on what stands behind a blank, nor on what is cut off behind it. -/
import Derived.Test.YthkfkdcmnkkdhaaDoorL1
namespace Go.Proofs.YthkfkdcmnkkdhaaDoor.Lx
theorem blank_not_ld {b : UInt8} (h : blank b = true) : ld b = false := by
  simp only [blank, Bool.or_eq_true, beq_iff_eq] at h
  rcases h with ((rfl | rfl) | rfl) | rfl <;> rfl
theorem run_stop (r : List UInt8) (b : UInt8) (t : List UInt8) (hb : ld b = false) : run (r ++ b :: t) = run r := by
  unfold run
  induction r with
  | nil => simp [hb]
  | cons c r ih =>
    simp only [List.cons_append, List.takeWhile_cons]
    split
    · simp only [List.length_cons, ih]
    · rfl
theorem run_le' (r : List UInt8) : run r ≤ r.length := by
  unfold run
  exact (List.takeWhile_sublist _).length_le
theorem run_cut (u z : List UInt8) (h : run (u ++ z) ≤ u.length) : run u = run (u ++ z) := by
  induction u with
  | nil => simp only [List.nil_append, List.length_nil] at h; simp only [List.nil_append]; have : run ([] : List UInt8) = 0 := rfl; omega
  | cons c u ih =>
    have e1 : ∀ v, run (c :: v) = if ld c then run v + 1 else 0 := fun v => by
      unfold run
      rw [List.takeWhile_cons]
      split <;> simp
    rw [List.cons_append, e1] at h
    rw [List.cons_append, e1, e1]
    split
    · rename_i hc
      rw [if_pos hc, List.length_cons] at h
      rw [ih (by omega)]
    · rfl
theorem run_next (r : List UInt8) (c : UInt8) (t : List UInt8) (h : r.drop (run r) = c :: t) : ld c = false := by
  induction r with
  | nil => simp at h
  | cons d r ih =>
    have e1 : run (d :: r) = if ld d then run r + 1 else 0 := by
      unfold run
      rw [List.takeWhile_cons]
      split <;> simp
    rw [e1] at h
    split at h
    · exact ih (by simpa using h)
    · rename_i hd
      simp at h
      rw [← h.1]
      simpa using hd
theorem sgs_blank : ∀ s ∈ sgs, ∀ b ∈ s, blank b = false := by decide
theorem sgs_pos : ∀ s ∈ sgs, 1 ≤ s.length := by decide
theorem prefix_blank (s x : List UInt8) (b : UInt8) (t : List UInt8) (hs : ∀ c ∈ s, blank c = false) (hb : blank b = true) : s.isPrefixOf (x ++ b :: t) = s.isPrefixOf x := by
  induction x generalizing s with
  | nil =>
    cases s with
    | nil => simp
    | cons c s =>
      have := hs c (by simp)
      have hne : (c == b) = false := by
        rw [beq_eq_false_iff_ne]
        rintro rfl
        rw [hb] at this
        cases this
      simp [List.isPrefixOf, hne]
  | cons d x ih =>
    cases s with
    | nil => simp
    | cons c s =>
      simp only [List.cons_append, List.isPrefixOf]
      rw [ih s (fun c' hc => hs c' (by simp [hc]))]
theorem find_congr' {α : Type} (p q : α → Bool) : ∀ (l : List α), (∀ a ∈ l, p a = q a) → l.find? p = l.find? q
  | [], _ => rfl
  | a :: l, h => by
    rw [List.find?_cons, List.find?_cons, h a (by simp), find_congr' p q l (fun b hb => h b (by simp [hb]))]
theorem sgn_blank (x : List UInt8) (b : UInt8) (t : List UInt8) (hb : blank b = true) : sgn (x ++ b :: t) = sgn x :=
  find_congr' _ _ _ fun s hs => prefix_blank s x b t (sgs_blank s hs) hb
theorem prefix_cut (s u z : List UInt8) (h : s.isPrefixOf u = true) : s.isPrefixOf (u ++ z) = true := by
  rw [List.isPrefixOf_iff_prefix] at h ⊢
  exact h.trans (List.prefix_append u z)
theorem prefix_short (s u z : List UInt8) (h : s.isPrefixOf (u ++ z) = true) (hl : s.length ≤ u.length) : s.isPrefixOf u = true := by
  rw [List.isPrefixOf_iff_prefix] at h ⊢
  exact List.prefix_of_prefix_length_le h (List.prefix_append u z) hl
theorem find_cut (u z : List UInt8) : ∀ (l : List (List UInt8)) (s : List UInt8), l.find? (fun s => s.isPrefixOf (u ++ z)) = some s → s.length ≤ u.length → l.find? (fun s => s.isPrefixOf u) = some s
  | [], _, h, _ => by simp at h
  | a :: l, s, h, hl => by
    rw [List.find?_cons] at h ⊢
    cases ha : a.isPrefixOf (u ++ z) with
    | true =>
      rw [ha] at h
      cases h
      rw [prefix_short a u z ha hl]
    | false =>
      rw [ha] at h
      have : a.isPrefixOf u = false := by
        cases hq : a.isPrefixOf u with
        | false => rfl
        | true => rw [prefix_cut a u z hq] at ha; cases ha
      rw [this]
      exact find_cut u z l s h hl
theorem sgn_cut (u z s : List UInt8) (h : sgn (u ++ z) = some s) (hl : s.length ≤ u.length) : sgn u = some s := find_cut u z _ s h hl
theorem sgn_mem {x s : List UInt8} (h : sgn x = some s) : s ∈ sgs ∧ s.isPrefixOf x = true := ⟨List.mem_of_find?_eq_some h, by simpa using List.find?_some h⟩
section
variable (rk mk : List UInt8 → Int)
theorem take_app (r : List UInt8) (b : UInt8) (t : List UInt8) (n : Nat) (h : n ≤ r.length) : (r ++ b :: t).take n = r.take n := by
  rw [List.take_append_of_le_length h]
/-- What stands behind a blank does not matter. -/
theorem tk_blank (c : UInt8) (r : List UInt8) (b : UInt8) (t : List UInt8) (hb : blank b = true) : tk rk mk c (r ++ b :: t) = tk rk mk c r := by
  have h1 := run_stop r b t (blank_not_ld hb)
  have h2 := take_app r b t (run r) (run_le' r)
  have h3 : sgn (c :: (r ++ b :: t)) = sgn (c :: r) := sgn_blank (c :: r) b t hb
  unfold tk
  rw [h1, h2, h3]
/-- What is cut off behind a token does not matter. -/
theorem tk_cut (c : UInt8) (u z : List UInt8) (k : Int) (m : Nat) (h : tk rk mk c (u ++ z) = .tok k m) (hm : m ≤ u.length) : tk rk mk c u = .tok k m := by
  unfold tk at h ⊢
  split at h
  · rename_i hl
    rw [if_pos hl]
    split at h
    · cases h
    · rename_i hk
      cases h
      have e := run_cut u z hm
      rw [List.take_append_of_le_length hm] at hk ⊢
      rw [e, if_neg hk]
  · rename_i hl
    rw [if_neg hl]
    split at h
    · rename_i h63
      rw [if_pos h63]
      split at h
      · cases h
      · rename_i hk
        cases h
        have e := run_cut u z hm
        rw [List.take_append_of_le_length hm] at hk ⊢
        rw [e, if_neg hk]
    · rename_i h63
      rw [if_neg h63]
      split at h
      · cases h
      · rename_i s hs
        cases h
        have hp := sgs_pos s (sgn_mem hs).1
        rw [sgn_cut (c :: u) z s hs (by simp only [List.length_cons]; omega)]
theorem tk_le (c : UInt8) (r : List UInt8) (k : Int) (m : Nat) (h : tk rk mk c r = .tok k m) : m ≤ r.length := by
  unfold tk at h
  split at h
  · split at h
    · cases h
    · cases h; exact run_le' r
  · split at h
    · split at h
      · cases h
      · cases h; exact run_le' r
    · split at h
      · cases h
      · rename_i s hs
        cases h
        have := (List.isPrefixOf_iff_prefix.1 (sgn_mem hs).2).length_le
        simp only [List.length_cons] at this
        omega
theorem tk_self (c : UInt8) (r : List UInt8) (k : Int) (m : Nat) (h : tk rk mk c r = .tok k m) : tk rk mk c (r.take m) = .tok k m := by
  have hm := tk_le rk mk c r k m h
  refine tk_cut rk mk c (r.take m) (r.drop m) k m (by rwa [List.take_append_drop]) ?_
  rw [List.length_take]
  omega
/-- A text of one token: it is told whole. -/
def Good (t : List UInt8) (k : Int) : Prop := ∃ c u, t = c :: u ∧ blank c = false ∧ tk rk mk c u = .tok k u.length
theorem good_of (c : UInt8) (r : List UInt8) (k : Int) (m : Nat) (hb : blank c = false) (h : tk rk mk c r = .tok k m) : Good rk mk (c :: r.take m) k := by
  have hm := tk_le rk mk c r k m h
  refine ⟨c, r.take m, rfl, hb, ?_⟩
  rw [List.length_take, Nat.min_eq_left hm]
  exact tk_self rk mk c r k m h
/-- All tokens but the end are good; the end stands last. -/
theorem lex_good : ∀ (n : Nat) (x : List UInt8) (p : Nat) (l : List Tok), x.length ≤ n → lex rk mk x p = .ok l → ∃ l0, l = l0 ++ [⟨5, [], ((p + x.length : Nat) : Int)⟩] ∧ ∀ t ∈ l0, Good rk mk t.t t.k
  | n, [], p, l, _, h => by
    rw [lex_nil] at h
    cases h
    exact ⟨[], by simp, by simp⟩
  | 0, _ :: _, _, _, hn, _ => by simp at hn
  | n + 1, c :: r, p, l, hn, h => by
    simp only [List.length_cons] at hn
    cases hb : blank c with
    | true =>
      rw [lex_blank _ _ _ _ _ hb] at h
      obtain ⟨l0, h1, h2⟩ := lex_good n r (p + 1) l (by omega) h
      exact ⟨l0, by rw [h1]; simp only [List.length_cons]; rw [show p + 1 + r.length = p + (r.length + 1) by omega], h2⟩
    | false =>
      cases ht : tk rk mk c r with
      | err e => rw [lex_err _ _ _ _ _ hb ht] at h; cases h
      | tok k m =>
        have hm := tk_le rk mk c r k m ht
        rw [lex_tok _ _ _ _ _ hb ht] at h
        cases hq : lex rk mk (r.drop m) (p + 1 + m) with
        | bad a e => rw [hq] at h; cases h
        | ok l' =>
          rw [hq] at h
          cases h
          obtain ⟨l0, h1, h2⟩ := lex_good n (r.drop m) (p + 1 + m) l' (by rw [List.length_drop]; omega) hq
          refine ⟨⟨k, c :: r.take m, (p : Int)⟩ :: l0, ?_, ?_⟩
          · rw [h1, List.length_drop]
            simp only [List.length_cons, List.cons_append]
            rw [show p + 1 + m + (r.length - m) = p + (r.length + 1) by omega]
          · intro t htm
            rcases List.mem_cons.1 htm with rfl | htm
            · exact good_of rk mk c r k m hb ht
            · exact h2 t htm
/-- A good token and a blank ahead of a text. -/
theorem lex_good_blank (t : List UInt8) (k : Int) (b : UInt8) (z : List UInt8) (p : Nat) (hg : Good rk mk t k) (hb : blank b = true) : lex rk mk (t ++ b :: z) p = (lex rk mk z (p + t.length + 1)).cons ⟨k, t, (p : Int)⟩ := by
  obtain ⟨c, u, rfl, hc, ht⟩ := hg
  rw [List.cons_append, lex_tok _ _ _ _ _ hc ((tk_blank rk mk c u b z hb).trans ht), List.drop_left, List.take_left, lex_blank _ _ _ _ _ hb]
  simp only [List.length_cons]
  rw [show p + 1 + u.length + 1 = p + (u.length + 1) + 1 by omega]
theorem lex_good_end (t : List UInt8) (k : Int) (p : Nat) (hg : Good rk mk t k) : lex rk mk t p = .ok [⟨k, t, (p : Int)⟩, ⟨5, [], ((p + t.length : Nat) : Int)⟩] := by
  obtain ⟨c, u, rfl, hc, ht⟩ := hg
  rw [lex_tok _ _ _ _ _ hc ht, List.drop_length, List.take_length, lex_nil]
  simp only [Out.cons, List.length_cons]
  rw [show p + 1 + u.length = p + (u.length + 1) by omega]
/-- Tokens alike but for their places. -/
def Alike : List Tok → List Tok → Prop
  | [], [] => True
  | a :: l, b :: r => a.k = b.k ∧ a.t = b.t ∧ Alike l r
  | _, _ => False
/-- The text of tokens, the end left out. -/
def joinT : List (List UInt8) → List UInt8
  | [] => []
  | [t] => t
  | t :: u :: r => t ++ 32 :: joinT (u :: r)
theorem lex_join : ∀ (l : List Tok) (p : Nat), (∀ t ∈ l, Good rk mk t.t t.k) → ∃ m, lex rk mk (joinT (l.map (·.t))) p = .ok (m ++ [⟨5, [], ((p + (joinT (l.map (·.t))).length : Nat) : Int)⟩]) ∧ Alike l m
  | [], p, _ => ⟨[], by simp [joinT, lex_nil], trivial⟩
  | [t], p, h => by
    refine ⟨[⟨t.k, t.t, (p : Int)⟩], ?_, rfl, rfl, trivial⟩
    simp only [List.map_cons, List.map_nil, joinT]
    rw [lex_good_end rk mk t.t t.k p (h t (by simp))]
    rfl
  | t :: u :: r, p, h => by
    obtain ⟨m, h1, h2⟩ := lex_join (u :: r) (p + t.t.length + 1) (fun x hx => h x (by simp [hx]))
    refine ⟨⟨t.k, t.t, (p : Int)⟩ :: m, ?_, rfl, rfl, h2⟩
    have e : joinT ((t :: u :: r).map (·.t)) = t.t ++ 32 :: joinT ((u :: r).map (·.t)) := rfl
    rw [e, lex_good_blank rk mk t.t t.k 32 _ p (h t (by simp)) rfl, h1]
    simp only [Out.cons, List.cons_append, List.length_append, List.length_cons]
    rw [show p + t.t.length + 1 + (joinT ((u :: r).map (·.t))).length = p + (t.t.length + ((joinT ((u :: r).map (·.t))).length + 1)) by omega]
def Out.shift (d : Nat) : Out → Out
  | .ok l => .ok (l.map fun t => ⟨t.k, t.t, t.at' + d⟩)
  | .bad a e => .bad (a + d) e
def Out.app (l : List Tok) : Out → Out
  | .ok r => .ok (l ++ r)
  | .bad a e => .bad a e
theorem lex_shift (d : Nat) : ∀ (n : Nat) (x : List UInt8) (p : Nat), x.length ≤ n → lex rk mk x (p + d) = (lex rk mk x p).shift d
  | _, [], p, _ => by
    rw [lex_nil, lex_nil]
    simp only [Out.shift, List.map_cons, List.map_nil]
    rw [Int.natCast_add]
  | 0, _ :: _, _, h => by simp at h
  | n + 1, c :: r, p, h => by
    simp only [List.length_cons] at h
    cases hb : blank c with
    | true => rw [lex_blank _ _ _ _ _ hb, lex_blank _ _ _ _ _ hb, show p + d + 1 = p + 1 + d by omega, lex_shift d n r (p + 1) (by omega)]
    | false =>
      cases ht : tk rk mk c r with
      | err e => rw [lex_err _ _ _ _ _ hb ht, lex_err _ _ _ _ _ hb ht]; rfl
      | tok k m =>
        rw [lex_tok _ _ _ _ _ hb ht, lex_tok _ _ _ _ _ hb ht, show p + d + 1 + m = p + 1 + m + d by omega, lex_shift d n (r.drop m) (p + 1 + m) (by rw [List.length_drop]; omega)]
        cases lex rk mk (r.drop m) (p + 1 + m) with
        | ok l => simp only [Out.shift, Out.cons, List.map_cons]; rw [Int.natCast_add]
        | bad a e => rfl
/-- Two texts with a blank between them. -/
theorem lex_both (b : UInt8) (t : List UInt8) (hb : blank b = true) : ∀ (n : Nat) (x : List UInt8) (p : Nat), x.length ≤ n →
    (∃ a e, lex rk mk x p = .bad a e ∧ lex rk mk (x ++ b :: t) p = .bad a e) ∨
    (∃ l0, lex rk mk x p = .ok (l0 ++ [⟨5, [], ((p + x.length : Nat) : Int)⟩]) ∧ lex rk mk (x ++ b :: t) p = (lex rk mk t (p + x.length + 1)).app l0)
  | _, [], p, _ => by
    refine .inr ⟨[], by rw [lex_nil]; simp, ?_⟩
    rw [List.nil_append, lex_blank _ _ _ _ _ hb]
    simp only [List.length_nil, Nat.add_zero]
    cases lex rk mk t (p + 1) <;> rfl
  | 0, _ :: _, _, h => by simp at h
  | n + 1, c :: r, p, h => by
    simp only [List.length_cons] at h
    cases hc : blank c with
    | true =>
      rw [List.cons_append, lex_blank _ _ _ _ _ hc, lex_blank _ _ _ _ _ hc]
      rcases lex_both b t hb n r (p + 1) (by omega) with ⟨a, e, h1, h2⟩ | ⟨l0, h1, h2⟩
      · exact .inl ⟨a, e, h1, h2⟩
      · refine .inr ⟨l0, ?_, ?_⟩
        · rw [h1, List.length_cons, show p + 1 + r.length = p + (r.length + 1) by omega]
        · rw [h2, List.length_cons, show p + 1 + r.length + 1 = p + (r.length + 1) + 1 by omega]
    | false =>
      cases ht : tk rk mk c r with
      | err e =>
        refine .inl ⟨p, e, lex_err _ _ _ _ _ hc ht, ?_⟩
        rw [List.cons_append, lex_err _ _ _ _ _ hc ((tk_blank rk mk c r b t hb).trans ht)]
      | tok k m =>
        have hm := tk_le rk mk c r k m ht
        rw [List.cons_append, lex_tok _ _ _ _ _ hc ht, lex_tok _ _ _ _ _ hc ((tk_blank rk mk c r b t hb).trans ht), List.drop_append_of_le_length hm, List.take_append_of_le_length hm]
        rcases lex_both b t hb n (r.drop m) (p + 1 + m) (by rw [List.length_drop]; omega) with ⟨a, e, h1, h2⟩ | ⟨l0, h1, h2⟩
        · exact .inl ⟨a, e, by rw [h1]; rfl, by rw [h2]; rfl⟩
        · refine .inr ⟨⟨k, c :: r.take m, (p : Int)⟩ :: l0, ?_, ?_⟩
          · rw [h1, List.length_drop, List.length_cons, show p + 1 + m + (r.length - m) = p + (r.length + 1) by omega]
            rfl
          · rw [h2, List.length_drop, List.length_cons, show p + 1 + m + (r.length - m) + 1 = p + (r.length + 1) + 1 by omega]
            cases lex rk mk t (p + (r.length + 1) + 1) <;> rfl
end
end Go.Proofs.YthkfkdcmnkkdhaaDoor.Lx
