/- The tokens one after the other: what comes next, and all that comes. -/
import Derived.Test.YthkfkdcmnkkdhaaDoorL2
namespace Go.Proofs.YthkfkdcmnkkdhaaDoor.Lx
section
variable (rk mk : List UInt8 → Int)
/-- What comes next: the token, the error, the text behind it, its place. -/
def nx : List UInt8 → Nat → Tok × Int × List UInt8 × Nat
  | [], p => (⟨5, [], (p : Int)⟩, 0, [], p)
  | c :: r, p => if blank c then nx r (p + 1) else match tk rk mk c r with
    | .err e => (⟨0, [], (p : Int)⟩, e, c :: r, p)
    | .tok k m => (⟨k, c :: r.take m, (p : Int)⟩, 0, r.drop m, p + 1 + m)
def yl : Nat → List UInt8 → Nat → List (Tok × Int)
  | 0, _, _ => []
  | n + 1, r, p => if (nx rk mk r p).2.1 ≠ 0 ∨ (nx rk mk r p).1.k = 5 then [((nx rk mk r p).1, (nx rk mk r p).2.1)]
    else ((nx rk mk r p).1, (nx rk mk r p).2.1) :: yl n (nx rk mk r p).2.2.1 (nx rk mk r p).2.2.2
/-- No token of the text is of the end's kind. -/
def Kinds : Prop := ∀ c r k m, tk rk mk c r = .tok k m → k ≠ 5
theorem tk_err {c : UInt8} {r : List UInt8} {e : Int} (h : tk rk mk c r = .err e) : e = 40 ∨ e = 41 := by
  unfold tk at h
  split at h
  · split at h
    · cases h; exact .inr rfl
    · cases h
  · split at h
    · split at h
      · cases h; exact .inr rfl
      · cases h
    · split at h
      · cases h; exact .inl rfl
      · cases h
/-- The three ways of what comes next. -/
theorem nx_cases (hk : Kinds rk mk) : ∀ (r : List UInt8) (p : Nat),
    (nx rk mk r p = (⟨5, [], ((p + r.length : Nat) : Int)⟩, 0, [], p + r.length) ∧ lex rk mk r p = .ok [⟨5, [], ((p + r.length : Nat) : Int)⟩]) ∨
    (∃ (a : Nat) (e : Int) (z : List UInt8), e ≠ 0 ∧ nx rk mk r p = (⟨0, [], (a : Int)⟩, e, z, a) ∧ lex rk mk r p = .bad a e) ∨
    (∃ (t : Tok) (z : List UInt8) (q : Nat), t.k ≠ 5 ∧ z.length < r.length ∧ q + z.length = p + r.length ∧ nx rk mk r p = (t, 0, z, q) ∧ lex rk mk r p = (lex rk mk z q).cons t)
  | [], p => .inl ⟨rfl, by rw [lex_nil]; rfl⟩
  | c :: r, p => by
    cases hb : blank c with
    | true =>
      have e : nx rk mk (c :: r) p = nx rk mk r (p + 1) := by simp only [nx, hb, if_true]
      rw [e, lex_blank _ _ _ _ _ hb]
      rcases nx_cases hk r (p + 1) with ⟨h1, h2⟩ | ⟨a, e, z, h0, h1, h2⟩ | ⟨t, z, q, h0, h3, h4, h1, h2⟩
      · refine .inl ⟨?_, ?_⟩
        · rw [h1, List.length_cons, show p + 1 + r.length = p + (r.length + 1) by omega]
        · rw [h2, List.length_cons, show p + 1 + r.length = p + (r.length + 1) by omega]
      · exact .inr (.inl ⟨a, e, z, h0, h1, h2⟩)
      · exact .inr (.inr ⟨t, z, q, h0, by rw [List.length_cons]; omega, by rw [List.length_cons]; omega, h1, h2⟩)
    | false =>
      cases ht : tk rk mk c r with
      | err e =>
        have he := tk_err rk mk ht
        refine .inr (.inl ⟨p, e, c :: r, by omega, ?_, lex_err _ _ _ _ _ hb ht⟩)
        simp only [nx, hb, ht]
        rfl
      | tok k m =>
        have hm := tk_le rk mk c r k m ht
        refine .inr (.inr ⟨⟨k, c :: r.take m, (p : Int)⟩, r.drop m, p + 1 + m, hk c r k m ht, by rw [List.length_drop, List.length_cons]; omega, by rw [List.length_drop, List.length_cons]; omega, ?_, lex_tok _ _ _ _ _ hb ht⟩)
        simp only [nx, hb, ht]
        rfl
def ylOf : Out → List (Tok × Int) → Prop
  | .ok l, y => y = l.map fun t => (t, 0)
  | .bad a e, y => e ≠ 0 ∧ ∃ l0 : List Tok, y = l0.map (fun t => (t, 0)) ++ [(⟨0, [], (a : Int)⟩, e)]
theorem yl_spec (hk : Kinds rk mk) : ∀ (n : Nat) (r : List UInt8) (p : Nat), r.length < n → ylOf (lex rk mk r p) (yl rk mk n r p)
  | 0, _, _, h => by omega
  | n + 1, r, p, h => by
    rcases nx_cases rk mk hk r p with ⟨h1, h2⟩ | ⟨a, e, z, h0, h1, h2⟩ | ⟨t, z, q, h0, h3, h4, h1, h2⟩
    · rw [h2]; simp only [yl, h1]; simp [ylOf]
    · rw [h2]; simp only [yl, h1]
      rw [if_pos (.inl h0)]
      exact ⟨h0, [], rfl⟩
    · have ih := yl_spec hk n z q (by omega)
      rw [h2]; simp only [yl, h1]
      rw [if_neg (by simp; exact h0)]
      cases hq : lex rk mk z q with
      | ok l => rw [hq] at ih; simp only [ylOf] at ih; rw [ih]; rfl
      | bad a e =>
        rw [hq] at ih
        obtain ⟨h5, l0, h6⟩ := ih
        refine ⟨h5, t :: l0, ?_⟩
        rw [h6]; rfl
/-- One step of all that comes. -/
theorem yl_step (n : Nat) (r : List UInt8) (p : Nat) : yl rk mk (n + 1) r p = if (nx rk mk r p).2.1 ≠ 0 ∨ (nx rk mk r p).1.k = 5 then [((nx rk mk r p).1, (nx rk mk r p).2.1)]
    else ((nx rk mk r p).1, (nx rk mk r p).2.1) :: yl rk mk n (nx rk mk r p).2.2.1 (nx rk mk r p).2.2.2 := rfl
theorem yl_any (hk : Kinds rk mk) : ∀ (n n' : Nat) (r : List UInt8) (p : Nat), r.length < n → r.length < n' → yl rk mk n r p = yl rk mk n' r p
  | 0, _, _, _, h, _ => by omega
  | _, 0, _, _, _, h => by omega
  | n + 1, n' + 1, r, p, h, h' => by
    rw [yl_step, yl_step]
    rcases nx_cases rk mk hk r p with ⟨h1, h2⟩ | ⟨a, e, z, h0, h1, h2⟩ | ⟨t, z, q, h0, h3, h4, h1, h2⟩
    · rw [h1, if_pos (.inr rfl), if_pos (.inr rfl)]
    · rw [h1, if_pos (.inl h0), if_pos (.inl h0)]
    · rw [h1]
      simp only
      rw [yl_any hk n n' z q (by omega) (by omega)]
/-- All that comes of a text. -/
def ys (r : List UInt8) (p : Nat) : List (Tok × Int) := yl rk mk (r.length + 1) r p
theorem ys_step (hk : Kinds rk mk) (r : List UInt8) (p : Nat) : ys rk mk r p = if (nx rk mk r p).2.1 ≠ 0 ∨ (nx rk mk r p).1.k = 5 then [((nx rk mk r p).1, (nx rk mk r p).2.1)]
    else ((nx rk mk r p).1, (nx rk mk r p).2.1) :: ys rk mk (nx rk mk r p).2.2.1 (nx rk mk r p).2.2.2 := by
  unfold ys
  rw [yl_step]
  rcases nx_cases rk mk hk r p with ⟨h1, h2⟩ | ⟨a, e, z, h0, h1, h2⟩ | ⟨t, z, q, h0, h3, h4, h1, h2⟩
  · rw [h1, if_pos (.inr rfl), if_pos (.inr rfl)]
  · rw [h1, if_pos (.inl h0), if_pos (.inl h0)]
  · rw [h1]
    simp only
    rw [yl_any rk mk hk r.length (z.length + 1) z q (by omega) (by omega)]
/-- A step that is not the last one goes on. -/
theorem nx_on (hk : Kinds rk mk) (r : List UInt8) (p : Nat) (h0 : (nx rk mk r p).2.1 = 0) (h5 : (nx rk mk r p).1.k ≠ 5) : (nx rk mk r p).2.2.1.length < r.length := by
  rcases nx_cases rk mk hk r p with ⟨h1, h2⟩ | ⟨a, e, z, h0', h1, h2⟩ | ⟨t, z, q, h0', h3, h4, h1, h2⟩
  · rw [h1] at h5; exact absurd rfl h5
  · rw [h1] at h0; exact absurd h0 h0'
  · rw [h1]; exact h3
end
end Go.Proofs.YthkfkdcmnkkdhaaDoor.Lx
