/- The tokens of a text, as mathematics: lists of bytes. What kinds runs and marks have is left open (rk, mk). -/
import Derived.Test.YthkfkdcmnkkdhaaDoorN1
namespace Go.Proofs.YthkfkdcmnkkdhaaDoor.Lx
/-- A token: its kind, its text, its place. -/
structure Tok where
  k : Int
  t : List UInt8
  at' : Int
deriving DecidableEq
/-- What Lex tells. -/
inductive Out where
  | ok (l : List Tok)
  | bad (at' : Nat) (e : Int)
deriving DecidableEq
def Out.cons (t : Tok) : Out → Out
  | .ok l => .ok (t :: l)
  | .bad a e => .bad a e
/-- What begins at a byte: an error, or a token of m + 1 bytes. -/
inductive Tk where
  | err (e : Int)
  | tok (k : Int) (m : Nat)
def blank (c : UInt8) : Bool := c == 32 || c == 9 || c == 10 || c == 13
def letter (c : UInt8) : Bool := (97 ≤ c && c ≤ 122) || (65 ≤ c && c ≤ 90)
def ld (c : UInt8) : Bool := letter c || (48 ≤ c && c ≤ 57)
def sgs : List (List UInt8) := [[60, 45, 62], [45, 62], [91, 93], [60, 62], [40], [41], [44], [126], [38], [124], [47], [91], [93]]
/-- The first sign that a text begins with. -/
def sgn (x : List UInt8) : Option (List UInt8) := sgs.find? fun s => s.isPrefixOf x
def run (r : List UInt8) : Nat := (r.takeWhile ld).length
section
variable (rk mk : List UInt8 → Int)
def tk (c : UInt8) (r : List UInt8) : Tk :=
  if letter c then (if rk (c :: r.take (run r)) = 0 then .err 41 else .tok (rk (c :: r.take (run r))) (run r))
  else if c = 63 then (if mk (c :: r.take (run r)) = 0 then .err 41 else .tok (mk (c :: r.take (run r))) (run r))
  else match sgn (c :: r) with
    | none => .err 40
    | some s => .tok 4 (s.length - 1)
def lexN : Nat → List UInt8 → Nat → Out
  | 0, _, _ => .bad 0 0
  | _ + 1, [], p => .ok [⟨5, [], (p : Int)⟩]
  | n + 1, c :: r, p => if blank c then lexN n r (p + 1) else match tk rk mk c r with
    | .err e => .bad p e
    | .tok k m => (lexN n (r.drop m) (p + 1 + m)).cons ⟨k, c :: r.take m, (p : Int)⟩
def lex (x : List UInt8) (p : Nat) : Out := lexN rk mk (x.length + 1) x p
theorem lexN_any : ∀ (n n' : Nat) (x : List UInt8) (p : Nat), x.length < n → x.length < n' → lexN rk mk n x p = lexN rk mk n' x p
  | 0, _, _, _, h, _ => absurd h (by omega)
  | _, 0, _, _, _, h => absurd h (by omega)
  | n + 1, n' + 1, [], p, _, _ => rfl
  | n + 1, n' + 1, c :: r, p, h, h' => by
    simp only [List.length_cons] at h h'
    simp only [lexN]
    rw [lexN_any n n' r (p + 1) (by omega) (by omega)]
    split
    · rfl
    · split
      · rfl
      · rename_i k m _
        rw [lexN_any n n' (r.drop m) (p + 1 + m) (by rw [List.length_drop]; omega) (by rw [List.length_drop]; omega)]
theorem lex_nil (p : Nat) : lex rk mk [] p = .ok [⟨5, [], (p : Int)⟩] := rfl
theorem lex_cons (c : UInt8) (r : List UInt8) (p : Nat) : lex rk mk (c :: r) p = if blank c then lex rk mk r (p + 1) else match tk rk mk c r with
    | .err e => .bad p e
    | .tok k m => (lex rk mk (r.drop m) (p + 1 + m)).cons ⟨k, c :: r.take m, (p : Int)⟩ := by
  unfold lex
  simp only [lexN, List.length_cons]
  split
  · rfl
  · split
    · rfl
    · rename_i k m _
      rw [lexN_any rk mk (r.length + 1) ((r.drop m).length + 1) (r.drop m) (p + 1 + m) (by rw [List.length_drop]; omega) (by omega)]
theorem lex_blank (c : UInt8) (r : List UInt8) (p : Nat) (h : blank c = true) : lex rk mk (c :: r) p = lex rk mk r (p + 1) := by rw [lex_cons, if_pos h]
theorem lex_err (c : UInt8) (r : List UInt8) (p : Nat) (h : blank c = false) {e : Int} (ht : tk rk mk c r = .err e) : lex rk mk (c :: r) p = .bad p e := by rw [lex_cons, if_neg (by simp [h]), ht]
theorem lex_tok (c : UInt8) (r : List UInt8) (p : Nat) (h : blank c = false) {k : Int} {m : Nat} (ht : tk rk mk c r = .tok k m) : lex rk mk (c :: r) p = (lex rk mk (r.drop m) (p + 1 + m)).cons ⟨k, c :: r.take m, (p : Int)⟩ := by rw [lex_cons, if_neg (by simp [h]), ht]
end
end Go.Proofs.YthkfkdcmnkkdhaaDoor.Lx
