/- The order of formulas is total. -/
import Derived.Test.YtngdieldgnlogaaGreatDoorMP
import Derived.Test.YtngdieldgnlogaaGreatDoorQE
import Derived.Sort.Walk0
namespace Go.Proofs.YtngdieldgnlogaaGreatDoor
open Go
set_option maxRecDepth 100000
/-- What the answers for three pairs have to do with each other. -/
def Tr3 (x y z : Int) : Prop := x ≤ 0 → y ≤ 0 → z ≤ 0 ∧ (z = 0 ↔ x = 0 ∧ y = 0)
def RgC (x : Int) : Prop := x = -1 ∨ x = 0 ∨ x = 1
/-- First one, then, where it is 0, the other. -/
def lex (x y : Int) : Int := if x = 0 then y else x
theorem Tr3.lex {x1 y1 z1 x2 y2 z2 : Int} (h1 : Tr3 x1 y1 z1) (h2 : x1 = 0 → y1 = 0 → Tr3 x2 y2 z2) : Tr3 (lex x1 x2) (lex y1 y2) (lex z1 z2) := by
  unfold Tr3 YtngdieldgnlogaaGreatDoor.lex at *
  intro hx hy
  by_cases a : x1 = 0
  · by_cases b : y1 = 0
    · have h2' := h2 a b
      have h1' := h1 (by omega) (by omega)
      have c : z1 = 0 := h1'.2.2 ⟨a, b⟩
      simp only [a, b, c, if_true] at hx hy ⊢
      exact h2' hx hy
    · simp only [if_neg b] at hy ⊢
      have h1' := h1 (by omega) hy
      have c : ¬ z1 = 0 := fun c => b (h1'.2.1 c).2
      simp only [if_neg c]
      exact ⟨h1'.1, ⟨fun e => absurd e c, fun e => absurd e.2 b⟩⟩
  · simp only [if_neg a] at hx ⊢
    have hy1 : y1 ≤ 0 := by
      by_cases b : y1 = 0
      · omega
      · simpa only [if_neg b] using hy
    have h1' := h1 hx hy1
    have c : ¬ z1 = 0 := fun c => a (h1'.2.1 c).1
    simp only [if_neg c]
    exact ⟨h1'.1, ⟨fun e => absurd e c, fun e => absurd e.1 a⟩⟩
theorem lex_neg {x y x' y' : Int} (h : x' = -x) (h' : x = 0 → y' = -y) : lex x' y' = -lex x y := by
  unfold lex
  by_cases a : x = 0
  · have : x' = 0 := by omega
    rw [if_pos a, if_pos this, h' a]
  · have : ¬ x' = 0 := by omega
    rw [if_neg a, if_neg this, h]
theorem lex_rg {x y : Int} (h : RgC x) (h' : RgC y) : RgC (lex x y) := by
  unfold lex
  split
  · exact h'
  · exact h
theorem lex_zero {x y : Int} : lex x y = 0 ↔ x = 0 ∧ y = 0 := by
  unfold lex
  by_cases a : x = 0
  · simp [a]
  · simp [a]
theorem cmpI_rg (x y : Int) : RgC (cmpI x y) := cmpI_cases x y
theorem cmpI_neg (x y : Int) : cmpI y x = -cmpI x y := by
  unfold cmpI
  by_cases a : x < y
  · have : ¬ y < x := by omega
    simp [a, this]
  · by_cases b : y < x
    · simp [a, b]
    · simp [a, b]
theorem cmpI_eq (x y : Int) : cmpI x y = 0 ↔ x = y := by
  unfold cmpI
  by_cases a : x < y
  · simp [a]; omega
  · by_cases b : y < x
    · simp [a, b]; omega
    · simp [a, b]; omega
theorem cmpI_tr (x y z : Int) : Tr3 (cmpI x y) (cmpI y z) (cmpI x z) := by
  unfold Tr3 cmpI
  by_cases a : x < y
  · by_cases b : y < z
    · have : x < z := by omega
      simp [a, b, this]
    · by_cases c : z < y
      · simp [a, b, c]
      · have : x < z := by omega
        simp [a, b, c, this]
  · by_cases b : y < x
    · simp [a, b]
    · have : x = y := by omega
      subst this
      simp
theorem cmpS_rg (x y : ByteArray) : RgC (cmpS x y) := cmpS_cases x y
theorem cmpS_eq (x y : ByteArray) : cmpS x y = 0 ↔ x.toList = y.toList := by
  have := cmpS_zero x y
  rw [← beq_iff_eq (a := cmpS x y), this, beq_iff_eq]
theorem cmpS_lt (x y : ByteArray) : cmpS x y = -1 ↔ x.toList < y.toList := by
  unfold cmpS
  rw [bytesLess_eq]
  by_cases h : x.toList < y.toList
  · simp [h]
  · simp only [h, decide_false, Bool.false_eq_true, if_false, iff_false]
    split <;> omega
theorem cmpS_neg (x y : ByteArray) : cmpS y x = -cmpS x y := by
  have tri : x.toList < y.toList ∨ x.toList = y.toList ∨ y.toList < x.toList := by
    by_cases h : x.toList < y.toList
    · exact .inl h
    · by_cases h' : y.toList < x.toList
      · exact .inr (.inr h')
      · exact .inr (.inl (List.le_antisymm (List.not_lt.1 h') (List.not_lt.1 h)))
  rcases tri with h | h | h
  · have h1 := (cmpS_lt x y).2 h
    have h2 : ¬ y.toList < x.toList := List.lt_asymm h
    have h3 : y.toList ≠ x.toList := fun e => by rw [e] at h; exact List.lt_irrefl _ h
    have h4 := mt (cmpS_lt y x).1 h2
    have h5 := mt (cmpS_eq y x).1 h3
    rcases cmpS_rg y x with e | e | e <;> omega
  · have h1 := (cmpS_eq x y).2 h
    have h2 := (cmpS_eq y x).2 h.symm
    omega
  · have h1 := (cmpS_lt y x).2 h
    have h2 : ¬ x.toList < y.toList := List.lt_asymm h
    have h3 : x.toList ≠ y.toList := fun e => by rw [e] at h; exact List.lt_irrefl _ h
    have h4 := mt (cmpS_lt x y).1 h2
    have h5 := mt (cmpS_eq x y).1 h3
    rcases cmpS_rg x y with e | e | e <;> omega
theorem cmpS_tr (x y z : ByteArray) : Tr3 (cmpS x y) (cmpS y z) (cmpS x z) := by
  intro hx hy
  have rx := cmpS_rg x y
  have ry := cmpS_rg y z
  by_cases a : cmpS x y = 0
  · have ea := (cmpS_eq x y).1 a
    have : cmpS x z = cmpS y z := by unfold cmpS; rw [ea]
    rw [this]
    exact ⟨hy, ⟨fun e => ⟨a, e⟩, fun e => e.2⟩⟩
  · have la := (cmpS_lt x y).1 (by unfold RgC at rx; omega)
    by_cases b : cmpS y z = 0
    · have eb := (cmpS_eq y z).1 b
      have : cmpS x z = cmpS x y := by unfold cmpS; rw [eb]
      rw [this]
      exact ⟨hx, ⟨fun e => absurd e a, fun e => absurd e.1 a⟩⟩
    · have lb := (cmpS_lt y z).1 (by unfold RgC at ry; omega)
      have := (cmpS_lt x z).2 (List.lt_trans la lb)
      exact ⟨by omega, ⟨fun e => by omega, fun e => absurd e.1 a⟩⟩
/-- A variable comes ahead of what is none. -/
def cmpB (v v' : Bool) : Int := if v = v' then 0 else if v then -1 else 1
theorem cmpB_rg (x y : Bool) : RgC (cmpB x y) := by cases x <;> cases y <;> simp [cmpB, RgC]
theorem cmpB_neg (x y : Bool) : cmpB y x = -cmpB x y := by cases x <;> cases y <;> simp [cmpB]
theorem cmpB_eq (x y : Bool) : cmpB x y = 0 ↔ x = y := by cases x <;> cases y <;> simp [cmpB]
theorem cmpB_tr (x y z : Bool) : Tr3 (cmpB x y) (cmpB y z) (cmpB x z) := by cases x <;> cases y <;> cases z <;> simp [cmpB, Tr3]
theorem Ts.cmp_lex (a b : Ts) : a.cmp b = lex (cmpI a.len b.len) (a.cmpE b) := rfl
theorem cmpTerm_lex (v : Bool) (n : ByteArray) (ts : Ts) (v' : Bool) (n' : ByteArray) (ts' : Ts) : cmpTerm v n ts v' n' ts' = lex (cmpB v v') (lex (cmpS n n') (ts.cmp ts')) := by
  unfold cmpTerm lex cmpB
  by_cases h : v = v'
  · simp only [h, if_true]
  · rw [if_neg h, if_neg h]
    cases v <;> simp
theorem Ts.cmpE_lex (v : Bool) (n : ByteArray) (ts r : Ts) (v' : Bool) (n' : ByteArray) (ts' r' : Ts) : (Ts.cons v n ts r).cmpE (.cons v' n' ts' r') = lex (lex (cmpB v v') (lex (cmpS n n') (ts.cmp ts'))) (r.cmpE r') := by
  rw [← cmpTerm_lex]; exact cmpE_cons v n ts r v' n' ts' r'
theorem Ts.cmpE_rg (a : Ts) : ∀ b : Ts, RgC (a.cmpE b) := by
  induction a with
  | nil => intro b; cases b <;> simp [Ts.cmpE, RgC]
  | cons v n ts r iht ihr =>
    intro b
    cases b with
    | nil => simp [Ts.cmpE, RgC]
    | cons v' n' ts' r' =>
      rw [Ts.cmpE_lex]
      exact lex_rg (lex_rg (cmpB_rg ..) (lex_rg (cmpS_rg ..) (lex_rg (cmpI_rg ..) (iht ts')))) (ihr r')
theorem Ts.cmpE_neg (a : Ts) : ∀ b : Ts, a.len = b.len → b.cmpE a = -a.cmpE b := by
  induction a with
  | nil => intro b h; cases b <;> simp [Ts.cmpE]
  | cons v n ts r iht ihr =>
    intro b h
    cases b with
    | nil => simp [Ts.cmpE]
    | cons v' n' ts' r' =>
      simp only [Ts.len] at h
      rw [Ts.cmpE_lex, Ts.cmpE_lex]
      exact lex_neg (lex_neg (cmpB_neg ..) fun _ => lex_neg (cmpS_neg ..) fun _ => lex_neg (cmpI_neg ..) fun e => iht ts' (by have := (cmpI_eq ..).1 e; omega)) fun _ => ihr r' (by omega)
theorem Ts.cmpE_eq (a : Ts) : ∀ b : Ts, a.len = b.len → (a.cmpE b = 0 ↔ a.eqB b = true) := by
  induction a with
  | nil => intro b h; cases b with
    | nil => simp [Ts.cmpE, Ts.eqB]
    | cons _ _ _ _ => simp [Ts.len] at h
  | cons v n ts r iht ihr =>
    intro b h
    cases b with
    | nil => simp [Ts.len] at h
    | cons v' n' ts' r' =>
      simp only [Ts.len] at h
      rw [Ts.cmpE_lex, Ts.cmp_lex]
      simp only [lex_zero, cmpB_eq, cmpS_eq, Ts.eqB, Bool.and_eq_true, beq_iff_eq]
      constructor
      · rintro ⟨⟨h1, h2, h3, h4⟩, h5⟩
        exact ⟨⟨⟨h1, h2⟩, (iht ts' (by have := (cmpI_eq ..).1 h3; omega)).1 h4⟩, (ihr r' (by omega)).1 h5⟩
      · rintro ⟨⟨⟨h1, h2⟩, h4⟩, h5⟩
        have e := Ts.eqB_len h4
        exact ⟨⟨h1, h2, (cmpI_eq ..).2 (by omega), (iht ts' e).2 h4⟩, (ihr r' (by omega)).2 h5⟩
theorem Ts.cmpE_tr (a : Ts) : ∀ b c : Ts, a.len = b.len → b.len = c.len → Tr3 (a.cmpE b) (b.cmpE c) (a.cmpE c) := by
  induction a with
  | nil => intro b c h h'; cases b with
    | nil => cases c <;> simp [Ts.cmpE, Tr3]
    | cons _ _ _ _ => simp [Ts.len] at h
  | cons v n ts r iht ihr =>
    intro b c h h'
    cases b with
    | nil => simp [Ts.len] at h
    | cons v' n' ts' r' =>
      cases c with
      | nil => simp [Ts.len] at h'
      | cons v'' n'' ts'' r'' =>
        simp only [Ts.len] at h h'
        rw [Ts.cmpE_lex, Ts.cmpE_lex, Ts.cmpE_lex]
        exact Tr3.lex (Tr3.lex (cmpB_tr _ _ _) fun _ _ => Tr3.lex (cmpS_tr _ _ _) fun _ _ => Tr3.lex (cmpI_tr _ _ _) fun e e' => iht ts' ts'' (by have := (cmpI_eq ..).1 e; omega) (by have := (cmpI_eq ..).1 e'; omega)) fun _ _ => ihr r' r'' (by omega) (by omega)
theorem Ts.cmp_rg (a b : Ts) : RgC (a.cmp b) := lex_rg (cmpI_rg ..) (Ts.cmpE_rg ..)
theorem Ts.cmp_neg (a b : Ts) : b.cmp a = -a.cmp b := lex_neg (cmpI_neg ..) fun e => Ts.cmpE_neg _ _ (by have := (cmpI_eq ..).1 e; omega)
theorem Ts.cmp_tr (a b c : Ts) : Tr3 (a.cmp b) (b.cmp c) (a.cmp c) := Tr3.lex (cmpI_tr _ _ _) fun e e' => Ts.cmpE_tr _ _ _ (by have := (cmpI_eq ..).1 e; omega) (by have := (cmpI_eq ..).1 e'; omega)
theorem Ts.cmp_eq (a b : Ts) : a.cmp b = 0 ↔ a.eqB b = true := by
  rw [Ts.cmp_lex, lex_zero]
  constructor
  · rintro ⟨h1, h2⟩
    exact (Ts.cmpE_eq a b (by have := (cmpI_eq ..).1 h1; omega)).1 h2
  · intro h
    have e := Ts.eqB_len h
    exact ⟨(cmpI_eq ..).2 (by omega), (Ts.cmpE_eq a b e).2 h⟩
/-- The order of two formulas, as first this, then that. -/
theorem cmpForm_lex (f g : FT) : cmpForm f g = lex (cmpI f.op g.op) (lex (cmpS f.n g.n) (lex (f.ts.cmp g.ts) (lex (cmpI f.sub.len g.sub.len) (f.sub.cmpE g.sub)))) := rfl
theorem Fs.cmpE_lex (op : Int) (n : ByteArray) (ts : Ts) (sub r : Fs) (op' : Int) (n' : ByteArray) (ts' : Ts) (sub' r' : Fs) : (Fs.cons op n ts sub r).cmpE (.cons op' n' ts' sub' r') = lex (lex (cmpI op op') (lex (cmpS n n') (lex (ts.cmp ts') (lex (cmpI sub.len sub'.len) (sub.cmpE sub'))))) (r.cmpE r') := by
  rw [cmpE_consF, cmpForm_lex]; rfl
theorem Fs.cmpE_rg (a : Fs) : ∀ b : Fs, RgC (a.cmpE b) := by
  induction a with
  | nil => intro b; cases b <;> simp [Fs.cmpE, RgC]
  | cons op n ts sub r ihs ihr =>
    intro b
    cases b with
    | nil => simp [Fs.cmpE, RgC]
    | cons op' n' ts' sub' r' =>
      rw [Fs.cmpE_lex]
      exact lex_rg (lex_rg (cmpI_rg ..) (lex_rg (cmpS_rg ..) (lex_rg (Ts.cmp_rg ..) (lex_rg (cmpI_rg ..) (ihs sub'))))) (ihr r')
theorem Fs.cmpE_neg (a : Fs) : ∀ b : Fs, a.len = b.len → b.cmpE a = -a.cmpE b := by
  induction a with
  | nil => intro b h; cases b <;> simp [Fs.cmpE]
  | cons op n ts sub r ihs ihr =>
    intro b h
    cases b with
    | nil => simp [Fs.cmpE]
    | cons op' n' ts' sub' r' =>
      simp only [Fs.len] at h
      rw [Fs.cmpE_lex, Fs.cmpE_lex]
      exact lex_neg (lex_neg (cmpI_neg ..) fun _ => lex_neg (cmpS_neg ..) fun _ => lex_neg (Ts.cmp_neg ..) fun _ => lex_neg (cmpI_neg ..) fun e => ihs sub' (by have := (cmpI_eq ..).1 e; omega)) fun _ => ihr r' (by omega)
theorem Fs.cmpE_eq (a : Fs) : ∀ b : Fs, a.len = b.len → (a.cmpE b = 0 ↔ a.eqB b = true) := by
  induction a with
  | nil => intro b h; cases b with
    | nil => simp [Fs.cmpE, Fs.eqB]
    | cons _ _ _ _ _ => simp [Fs.len] at h
  | cons op n ts sub r ihs ihr =>
    intro b h
    cases b with
    | nil => simp [Fs.len] at h
    | cons op' n' ts' sub' r' =>
      simp only [Fs.len] at h
      rw [Fs.cmpE_lex]
      simp only [lex_zero, cmpS_eq, Ts.cmp_eq, Fs.eqB, Bool.and_eq_true, beq_iff_eq]
      constructor
      · rintro ⟨⟨h1, h2, h3, h4, h5⟩, h6⟩
        exact ⟨⟨⟨⟨(cmpI_eq ..).1 h1, h2⟩, h3⟩, (ihs sub' (by have := (cmpI_eq ..).1 h4; omega)).1 h5⟩, (ihr r' (by omega)).1 h6⟩
      · rintro ⟨⟨⟨⟨h1, h2⟩, h3⟩, h5⟩, h6⟩
        have e := Fs.eqB_len h5
        exact ⟨⟨(cmpI_eq ..).2 h1, h2, h3, (cmpI_eq ..).2 (by omega), (ihs sub' e).2 h5⟩, (ihr r' (by omega)).2 h6⟩
theorem Fs.cmpE_tr (a : Fs) : ∀ b c : Fs, a.len = b.len → b.len = c.len → Tr3 (a.cmpE b) (b.cmpE c) (a.cmpE c) := by
  induction a with
  | nil => intro b c h h'; cases b with
    | nil => cases c <;> simp [Fs.cmpE, Tr3]
    | cons _ _ _ _ _ => simp [Fs.len] at h
  | cons op n ts sub r ihs ihr =>
    intro b c h h'
    cases b with
    | nil => simp [Fs.len] at h
    | cons op' n' ts' sub' r' =>
      cases c with
      | nil => simp [Fs.len] at h'
      | cons op'' n'' ts'' sub'' r'' =>
        simp only [Fs.len] at h h'
        rw [Fs.cmpE_lex, Fs.cmpE_lex, Fs.cmpE_lex]
        exact Tr3.lex (Tr3.lex (cmpI_tr _ _ _) fun _ _ => Tr3.lex (cmpS_tr _ _ _) fun _ _ => Tr3.lex (Ts.cmp_tr _ _ _) fun _ _ => Tr3.lex (cmpI_tr _ _ _) fun e e' => ihs sub' sub'' (by have := (cmpI_eq ..).1 e; omega) (by have := (cmpI_eq ..).1 e'; omega)) fun _ _ => ihr r' r'' (by omega) (by omega)
theorem cmpForm_rg (f g : FT) : RgC (cmpForm f g) := by
  rw [cmpForm_lex]
  exact lex_rg (cmpI_rg ..) (lex_rg (cmpS_rg ..) (lex_rg (Ts.cmp_rg ..) (lex_rg (cmpI_rg ..) (Fs.cmpE_rg ..))))
theorem cmpForm_neg (f g : FT) : cmpForm g f = -cmpForm f g := by
  rw [cmpForm_lex, cmpForm_lex]
  exact lex_neg (cmpI_neg ..) fun _ => lex_neg (cmpS_neg ..) fun _ => lex_neg (Ts.cmp_neg ..) fun _ => lex_neg (cmpI_neg ..) fun e => Fs.cmpE_neg _ _ (by have := (cmpI_eq ..).1 e; omega)
theorem cmpForm_tr (f g h : FT) : Tr3 (cmpForm f g) (cmpForm g h) (cmpForm f h) := by
  rw [cmpForm_lex, cmpForm_lex, cmpForm_lex]
  exact Tr3.lex (cmpI_tr _ _ _) fun _ _ => Tr3.lex (cmpS_tr _ _ _) fun _ _ => Tr3.lex (Ts.cmp_tr _ _ _) fun _ _ => Tr3.lex (cmpI_tr _ _ _) fun e e' => Fs.cmpE_tr _ _ _ (by have := (cmpI_eq ..).1 e; omega) (by have := (cmpI_eq ..).1 e'; omega)
theorem cmpForm_eq (f g : FT) : cmpForm f g = 0 ↔ f.eqB g = true := by
  rw [cmpForm_lex]
  simp only [lex_zero, cmpS_eq, Ts.cmp_eq, FT.eqB, Bool.and_eq_true, beq_iff_eq]
  constructor
  · rintro ⟨h1, h2, h3, h4, h5⟩
    exact ⟨⟨⟨(cmpI_eq ..).1 h1, h2⟩, h3⟩, (Fs.cmpE_eq _ _ (by have := (cmpI_eq ..).1 h4; omega)).1 h5⟩
  · rintro ⟨⟨⟨h1, h2⟩, h3⟩, h5⟩
    have e := Fs.eqB_len h5
    exact ⟨(cmpI_eq ..).2 h1, h2, h3, (cmpI_eq ..).2 (by omega), (Fs.cmpE_eq _ _ e).2 h5⟩
end Go.Proofs.YtngdieldgnlogaaGreatDoor
