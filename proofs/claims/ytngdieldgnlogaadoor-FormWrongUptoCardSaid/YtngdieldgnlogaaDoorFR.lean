/- The walk of FormReplaces. -/
import Derived.Test.YtngdieldgnlogaaDoorWT
import Derived.Test.YtngdieldgnlogaaDoorPM
import Derived.Test.YtngdieldgnlogaaDoorA1
import Derived.Test.YtngdieldgnlogaaDoorD2
import Derived.Test.YtngdieldgnlogaaDoorD4
import Derived.Test.YtngdieldgnlogaaDoorL0
import Derived.Deep.Cut
import Derived.Deep.RegionHeld3
namespace Go.Proofs.YtngdieldgnlogaaDoor
open Go Go.RowKit
set_option maxRecDepth 100000
set_option linter.unusedVariables false
theorem Ts.eqB_refl : ∀ a : Ts, a.eqB a = true
  | .nil => rfl
  | .cons v n ts r => by simp [Ts.eqB, Ts.eqB_refl ts, Ts.eqB_refl r]
theorem Fs.eqB_refl : ∀ a : Fs, a.eqB a = true
  | .nil => rfl
  | .cons op n ts sub r => by simp [Fs.eqB, Ts.eqB_refl ts, Fs.eqB_refl sub, Fs.eqB_refl r]
theorem FT.eqB_refl (f : FT) : f.eqB f = true := by simp [FT.eqB, Ts.eqB_refl, Fs.eqB_refl]
abbrev zF : FT := ⟨0, ⟨#[]⟩, .nil, .nil⟩
theorem at_some (f g : FT) (l : List Int) (h : f.part l = some g) (v sl : Value) (w : World) (hv : FVal w f v) (hl : LSl w l sl) (hn : l.length ≤ 1000000) (hs : f.size ≤ 1000000) :
    Calls Tryd.prog 10 #[v, sl] w fun e w' => (∃ p n p' n', e = .returned (.tuple #[fval g (.slice p g.ts.len n) (.slice p' g.sub.len n'), .int .i64 0]) ∧ FVal w' g (fval g (.slice p g.ts.len n) (.slice p' g.sub.len n'))) ∧ Below w.heap.size w w' :=
  (at_any f l v sl w hv hl hn hs).mono fun e w' ⟨⟨v', er, he, hr⟩, hb⟩ => by
    rw [h] at hr
    obtain ⟨hr, rfl⟩ := hr
    have hv' := hr.at
    obtain ⟨sa, ss, rfl, ⟨p, n, rfl, -⟩, ⟨p', n', rfl, -⟩⟩ := hr
    exact ⟨⟨p, n, p', n', he, hv'⟩, hb⟩
theorem at_none (f : FT) (l : List Int) (h : f.part l = none) (v sl : Value) (w : World) (hv : FVal w f v) (hl : LSl w l sl) (hn : l.length ≤ 1000000) (hs : f.size ≤ 1000000) :
    Calls Tryd.prog 10 #[v, sl] w fun e w' => e = .returned (.tuple #[.agg #[.int .u8 0, .string ⟨#[]⟩, .slice none 0 0, .slice none 0 0], .int .i64 6]) ∧ Below w.heap.size w w' :=
  (at_any f l v sl w hv hl hn hs).mono fun e w' ⟨⟨v', er, he, hr⟩, hb⟩ => by
    rw [h] at hr
    obtain ⟨rfl, rfl⟩ := hr
    exact ⟨he, hb⟩
theorem with_some (f h g : FT) (l : List Int) (hg : f.put l h = some g) (v vp sl : Value) (w : World) (hv : FVal w f v) (hvp : FVal w h vp) (hl : LSl w l sl) (hn : l.length ≤ 1000000) (hs : f.size ≤ 1000000) (hs' : h.size ≤ 1000000) :
    Calls Tryd.prog 11 #[v, sl, vp] w fun e w' => (∃ p n p' n', e = .returned (.tuple #[fval g (.slice p g.ts.len n) (.slice p' g.sub.len n'), .int .i64 0]) ∧ FVal w' g (fval g (.slice p g.ts.len n) (.slice p' g.sub.len n'))) ∧ Below w.heap.size w w' :=
  (with_any f h l v vp sl w hv hvp hl hn hs hs').mono fun e w' ⟨⟨v', er, he, hr⟩, hb⟩ => by
    rw [hg] at hr
    obtain ⟨hr, rfl⟩ := hr
    have hv' := hr.at
    obtain ⟨sa, ss, S1, S2, rfl, -, -, ⟨p, n, rfl, -⟩, ⟨p', n', rfl, -⟩⟩ := hr
    exact ⟨⟨p, n, p', n', he, hv'⟩, hb⟩
theorem with_none (f h : FT) (l : List Int) (hg : f.put l h = none) (v vp sl : Value) (w : World) (hv : FVal w f v) (hvp : FVal w h vp) (hl : LSl w l sl) (hn : l.length ≤ 1000000) (hs : f.size ≤ 1000000) (hs' : h.size ≤ 1000000) :
    Calls Tryd.prog 11 #[v, sl, vp] w fun e w' => e = .returned (.tuple #[.agg #[.int .u8 0, .string ⟨#[]⟩, .slice none 0 0, .slice none 0 0], .int .i64 6]) ∧ Below w.heap.size w w' :=
  (with_any f h l v vp sl w hv hvp hl hn hs hs').mono fun e w' ⟨⟨v', er, he, hr⟩, hb⟩ => by
    rw [hg] at hr
    obtain ⟨rfl, rfl⟩ := hr
    exact ⟨he, hb⟩
/-- The boxes of two formulas that came in. -/
theorem in_boxes {f h : FT} {sa ss sb sc : Value} {w : World} (hv : FVal w f (fval f sa ss)) (hv' : FVal w h (fval h sb sc)) (t : TypeId) :
    ∃ W1 W2, w.alloc (.cells #[.int .u8 f.op, .string f.n, sa, ss] t) = W1 ∧ W1.alloc (.cells #[.int .u8 h.op, .string h.n, sb, sc] t) = W2 ∧ W1.heap.size = w.heap.size + 1 ∧ W2.heap.size = w.heap.size + 2 ∧
      FS f sa ss w w.heap.size W2 ∧ FS h sb sc w (w.heap.size + 1) W2 := by
  have e1 := bel_laid w (.cells #[.int .u8 f.op, .string f.n, sa, ss] t)
  have k2 := FS.start (t := t) (FVal.below e1 hv')
  rw [World.size_alloc] at k2
  exact ⟨_, _, rfl, rfl, by simp, by simp, (FS.start (t := t) hv).next (bel_laid _ _), ⟨k2.1, k2.2.1, k2.2.2.1, k2.2.2.2.1, bel_step e1 k2.2.2.2.2.1, k2.2.2.2.2.2⟩⟩
/-- A list of two formulas in a block of their own. -/
theorem two_list {f h : FT} {p q p' q' : Option Addr} {a b a' b' : Nat} {W : World} (hv : FVal W f (fval f (.slice p f.ts.len a) (.slice q f.sub.len b))) (hv' : FVal W h (fval h (.slice p' h.ts.len a') (.slice q' h.sub.len b'))) (t : TypeId) :
    FSl (W.alloc (.cells #[.int .u8 f.op, .string f.n, .slice p f.ts.len a, .slice q f.sub.len b, .int .u8 h.op, .string h.n, .slice p' h.ts.len a', .slice q' h.sub.len b'] t)) (.cons f.op f.n f.ts f.sub (.cons h.op h.n h.ts h.sub .nil)) (.slice (some ⟨W.heap.size, 0, none⟩) 2 2) := by
  have cN := fun i => cell_new W #[.int .u8 f.op, .string f.n, .slice p f.ts.len a, .slice q f.sub.len b, .int .u8 h.op, .string h.n, .slice p' h.ts.len a', .slice q' h.sub.len b'] t i
  have b5 := bel_laid W (.cells #[.int .u8 f.op, .string f.n, .slice p f.ts.len a, .slice q f.sub.len b, .int .u8 h.op, .string h.n, .slice p' h.ts.len a', .slice q' h.sub.len b'] t)
  obtain ⟨_, _, e, t1, t2⟩ := hv
  obtain ⟨_, _, e', t3, t4⟩ := hv'
  simp at e e'
  obtain ⟨rfl, rfl⟩ := e
  obtain ⟨rfl, rfl⟩ := e'
  exact ⟨_, _, rfl, .inr ⟨_, _, rfl, cN 0, cN 1, ⟨_, cN 2, TSl.below b5 t1⟩, ⟨_, cN 3, FSl.below b5 t2⟩, cN 4, cN 5, ⟨_, cN 6, TSl.below b5 t3⟩, ⟨_, cN 7, FSl.below b5 t4⟩, trivial⟩⟩
-- BOXOF
theorem box_of {g : FT} {sa ss : Value} {w W : World} (hb : Below w.heap.size w W) (hv : FVal W g (fval g sa ss)) (t : TypeId) :
    ∃ W', W.alloc (.cells #[.int .u8 g.op, .string g.n, sa, ss] t) = W' ∧ Below W.heap.size W W' ∧ FS g sa ss w W.heap.size W' := by
  have k := FS.start (t := t) hv
  exact ⟨_, rfl, bel_laid _ _, k.1, k.2.1, k.2.2.1, k.2.2.2.1, bel_step hb (bel_laid _ _), k.2.2.2.2.2⟩
/-- The box of an empty formula. -/
def ZS (w : World) (g : Nat) (V : World) : Prop :=
  V.cell? ⟨g, 0, none⟩ = some (.int .u8 0) ∧ V.cell? ⟨g, 1, none⟩ = some (.string ⟨#[]⟩) ∧ V.cell? ⟨g, 2, none⟩ = some (.slice none 0 0) ∧ V.cell? ⟨g, 3, none⟩ = some (.slice none 0 0) ∧ Below w.heap.size w V
theorem ZS.next {w V V' : World} {g : Nat} (h : ZS w g V) (hb : Below V.heap.size V V') : ZS w g V' := ⟨cell_below hb h.1, cell_below hb h.2.1, cell_below hb h.2.2.1, cell_below hb h.2.2.2.1, bel_step h.2.2.2.2 hb⟩
theorem box_zero {w W : World} (hb : Below w.heap.size w W) (t : TypeId) : ∃ W', W.alloc (.cells #[.int .u8 0, .string ⟨#[]⟩, .slice none 0 0, .slice none 0 0] t) = W' ∧ Below W.heap.size W W' ∧ ZS w W.heap.size W' :=
  ⟨_, rfl, bel_laid _ _, cell_new _ _ _ 0, cell_new _ _ _ 1, cell_new _ _ _ 2, cell_new _ _ _ 3, bel_step hb (bel_laid _ _)⟩
theorem same_zero (V : World) : Calls Tryd.prog 12 #[.agg #[.int .u8 0, .string ⟨#[]⟩, .slice none 0 0, .slice none 0 0], .agg #[.int .u8 0, .string ⟨#[]⟩, .slice none 0 0, .slice none 0 0]] V fun e w' => e = .returned (.bool true) ∧ Below V.heap.size V w' := by
  have h := sameF_any zF (fval zF (.slice none 0 0) (.slice none 0 0)) zF (fval zF (.slice none 0 0) (.slice none 0 0)) V ⟨_, _, rfl, ⟨none, 0, rfl, .inl rfl⟩, ⟨none, 0, rfl, .inl rfl⟩⟩ ⟨_, _, rfl, ⟨none, 0, rfl, .inl rfl⟩, ⟨none, 0, rfl, .inl rfl⟩⟩ (by decide) (by decide)
  rw [FT.eqB_refl] at h
  exact h
theorem bel_drN (w : World) (n : Nat) : Below w.heap.size w (w.drewN n) := ⟨rfl, rfl, rfl, Nat.le_refl _, fun _ _ => rfl⟩
theorem LsAt.get {W : World} : ∀ {l : List Int} {b o k : Nat}, LsAt W l b o → (h : k < l.length) → W.cell? ⟨b, o + k, none⟩ = some (.int .i64 l[k])
  | [], _, _, _, _, h => by simp at h
  | x :: l, b, o, 0, ⟨h0, _⟩, _ => h0
  | x :: l, b, o, k + 1, ⟨_, hr⟩, h => by
    have := LsAt.get (k := k) hr (by simpa using h)
    rw [show o + (k + 1) = o + 1 + k by omega]
    simpa using this
/-- The six boxes of FormReplaces. -/
def A6 (f h o gg : FT) (pa : Option Addr) (ca : Nat) (qa : Option Addr) (da : Nat) (pb : Option Addr) (cb : Nat) (qb : Option Addr) (db : Nat) (p1 : Option Addr) (n1 : Nat) (p2 : Option Addr) (n2 : Nat) (p3 : Option Addr) (n3 : Nat) (p4 : Option Addr) (n4 : Nat) (p5 : Option Addr) (n5 : Nat) (p6 : Option Addr) (n6 : Nat) (p7 : Option Addr) (n7 : Nat) (p8 : Option Addr) (n8 : Nat) (w : World) (g b3 b4 b5 b6 : Nat) (V : World) : Prop := FS f (.slice pa f.ts.len ca) (.slice qa f.sub.len da) w g V ∧ FS h (.slice pb h.ts.len cb) (.slice qb h.sub.len db) w (g + 1) V ∧ FS o (.slice p1 o.ts.len n1) (.slice p2 o.sub.len n2) w b3 V ∧ FS gg (.slice p3 gg.ts.len n3) (.slice p4 gg.sub.len n4) w b4 V ∧ FS h (.slice p5 h.ts.len n5) (.slice p6 h.sub.len n6) w b5 V ∧ FS f (.slice p7 f.ts.len n7) (.slice p8 f.sub.len n8) w b6 V
theorem A6.next {f h o gg : FT} {pa : Option Addr} {ca : Nat} {qa : Option Addr} {da : Nat} {pb : Option Addr} {cb : Nat} {qb : Option Addr} {db : Nat} {p1 : Option Addr} {n1 : Nat} {p2 : Option Addr} {n2 : Nat} {p3 : Option Addr} {n3 : Nat} {p4 : Option Addr} {n4 : Nat} {p5 : Option Addr} {n5 : Nat} {p6 : Option Addr} {n6 : Nat} {p7 : Option Addr} {n7 : Nat} {p8 : Option Addr} {n8 : Nat} {w : World} {g b3 b4 b5 b6 : Nat} {V V' : World} (hA : A6 f h o gg pa ca qa da pb cb qb db p1 n1 p2 n2 p3 n3 p4 n4 p5 n5 p6 n6 p7 n7 p8 n8 w g b3 b4 b5 b6 V) (hb : Below V.heap.size V V') : A6 f h o gg pa ca qa da pb cb qb db p1 n1 p2 n2 p3 n3 p4 n4 p5 n5 p6 n6 p7 n7 p8 n8 w g b3 b4 b5 b6 V' := ⟨hA.1.next hb, hA.2.1.next hb, hA.2.2.1.next hb, hA.2.2.2.1.next hb, hA.2.2.2.2.1.next hb, hA.2.2.2.2.2.next hb⟩
theorem A6.cells {f h o gg : FT} {pa : Option Addr} {ca : Nat} {qa : Option Addr} {da : Nat} {pb : Option Addr} {cb : Nat} {qb : Option Addr} {db : Nat} {p1 : Option Addr} {n1 : Nat} {p2 : Option Addr} {n2 : Nat} {p3 : Option Addr} {n3 : Nat} {p4 : Option Addr} {n4 : Nat} {p5 : Option Addr} {n5 : Nat} {p6 : Option Addr} {n6 : Nat} {p7 : Option Addr} {n7 : Nat} {p8 : Option Addr} {n8 : Nat} {w : World} {g b3 b4 b5 b6 : Nat} {V : World} (hA : A6 f h o gg pa ca qa da pb cb qb db p1 n1 p2 n2 p3 n3 p4 n4 p5 n5 p6 n6 p7 n7 p8 n8 w g b3 b4 b5 b6 V) : V.cell? ⟨g, 0, none⟩ = some (.int .u8 f.op) ∧ V.cell? ⟨g, 1, none⟩ = some (.string f.n) ∧ V.cell? ⟨g, 2, none⟩ = some (.slice pa f.ts.len ca) ∧ V.cell? ⟨g, 3, none⟩ = some (.slice qa f.sub.len da) ∧ V.cell? ⟨g + 1, 0, none⟩ = some (.int .u8 h.op) ∧ V.cell? ⟨g + 1, 1, none⟩ = some (.string h.n) ∧ V.cell? ⟨g + 1, 2, none⟩ = some (.slice pb h.ts.len cb) ∧ V.cell? ⟨g + 1, 3, none⟩ = some (.slice qb h.sub.len db) ∧ V.cell? ⟨b3, 0, none⟩ = some (.int .u8 o.op) ∧ V.cell? ⟨b3, 1, none⟩ = some (.string o.n) ∧ V.cell? ⟨b3, 2, none⟩ = some (.slice p1 o.ts.len n1) ∧ V.cell? ⟨b3, 3, none⟩ = some (.slice p2 o.sub.len n2) ∧ V.cell? ⟨b4, 0, none⟩ = some (.int .u8 gg.op) ∧ V.cell? ⟨b4, 1, none⟩ = some (.string gg.n) ∧ V.cell? ⟨b4, 2, none⟩ = some (.slice p3 gg.ts.len n3) ∧ V.cell? ⟨b4, 3, none⟩ = some (.slice p4 gg.sub.len n4) ∧ V.cell? ⟨b5, 0, none⟩ = some (.int .u8 h.op) ∧ V.cell? ⟨b5, 1, none⟩ = some (.string h.n) ∧ V.cell? ⟨b5, 2, none⟩ = some (.slice p5 h.ts.len n5) ∧ V.cell? ⟨b5, 3, none⟩ = some (.slice p6 h.sub.len n6) ∧ V.cell? ⟨b6, 0, none⟩ = some (.int .u8 f.op) ∧ V.cell? ⟨b6, 1, none⟩ = some (.string f.n) ∧ V.cell? ⟨b6, 2, none⟩ = some (.slice p7 f.ts.len n7) ∧ V.cell? ⟨b6, 3, none⟩ = some (.slice p8 f.sub.len n8) ∧ A6 f h o gg pa ca qa da pb cb qb db p1 n1 p2 n2 p3 n3 p4 n4 p5 n5 p6 n6 p7 n7 p8 n8 w g b3 b4 b5 b6 V := ⟨(hA.1).1, (hA.1).2.1, (hA.1).2.2.1, (hA.1).2.2.2.1, (hA.2.1).1, (hA.2.1).2.1, (hA.2.1).2.2.1, (hA.2.1).2.2.2.1, (hA.2.2.1).1, (hA.2.2.1).2.1, (hA.2.2.1).2.2.1, (hA.2.2.1).2.2.2.1, (hA.2.2.2.1).1, (hA.2.2.2.1).2.1, (hA.2.2.2.1).2.2.1, (hA.2.2.2.1).2.2.2.1, (hA.2.2.2.2.1).1, (hA.2.2.2.2.1).2.1, (hA.2.2.2.2.1).2.2.1, (hA.2.2.2.2.1).2.2.2.1, (hA.2.2.2.2.2).1, (hA.2.2.2.2.2).2.1, (hA.2.2.2.2.2).2.2.1, (hA.2.2.2.2.2).2.2.2.1, hA⟩
theorem A6.same1 {f h o gg : FT} {pa : Option Addr} {ca : Nat} {qa : Option Addr} {da : Nat} {pb : Option Addr} {cb : Nat} {qb : Option Addr} {db : Nat} {p1 : Option Addr} {n1 : Nat} {p2 : Option Addr} {n2 : Nat} {p3 : Option Addr} {n3 : Nat} {p4 : Option Addr} {n4 : Nat} {p5 : Option Addr} {n5 : Nat} {p6 : Option Addr} {n6 : Nat} {p7 : Option Addr} {n7 : Nat} {p8 : Option Addr} {n8 : Nat} {w : World} {g b3 b4 b5 b6 : Nat} {V : World} (hs : h.size ≤ 1000000) (hA : V.cell? ⟨g, 0, none⟩ = some (.int .u8 f.op) ∧ V.cell? ⟨g, 1, none⟩ = some (.string f.n) ∧ V.cell? ⟨g, 2, none⟩ = some (.slice pa f.ts.len ca) ∧ V.cell? ⟨g, 3, none⟩ = some (.slice qa f.sub.len da) ∧ V.cell? ⟨g + 1, 0, none⟩ = some (.int .u8 h.op) ∧ V.cell? ⟨g + 1, 1, none⟩ = some (.string h.n) ∧ V.cell? ⟨g + 1, 2, none⟩ = some (.slice pb h.ts.len cb) ∧ V.cell? ⟨g + 1, 3, none⟩ = some (.slice qb h.sub.len db) ∧ V.cell? ⟨b3, 0, none⟩ = some (.int .u8 o.op) ∧ V.cell? ⟨b3, 1, none⟩ = some (.string o.n) ∧ V.cell? ⟨b3, 2, none⟩ = some (.slice p1 o.ts.len n1) ∧ V.cell? ⟨b3, 3, none⟩ = some (.slice p2 o.sub.len n2) ∧ V.cell? ⟨b4, 0, none⟩ = some (.int .u8 gg.op) ∧ V.cell? ⟨b4, 1, none⟩ = some (.string gg.n) ∧ V.cell? ⟨b4, 2, none⟩ = some (.slice p3 gg.ts.len n3) ∧ V.cell? ⟨b4, 3, none⟩ = some (.slice p4 gg.sub.len n4) ∧ V.cell? ⟨b5, 0, none⟩ = some (.int .u8 h.op) ∧ V.cell? ⟨b5, 1, none⟩ = some (.string h.n) ∧ V.cell? ⟨b5, 2, none⟩ = some (.slice p5 h.ts.len n5) ∧ V.cell? ⟨b5, 3, none⟩ = some (.slice p6 h.sub.len n6) ∧ V.cell? ⟨b6, 0, none⟩ = some (.int .u8 f.op) ∧ V.cell? ⟨b6, 1, none⟩ = some (.string f.n) ∧ V.cell? ⟨b6, 2, none⟩ = some (.slice p7 f.ts.len n7) ∧ V.cell? ⟨b6, 3, none⟩ = some (.slice p8 f.sub.len n8) ∧ A6 f h o gg pa ca qa da pb cb qb db p1 n1 p2 n2 p3 n3 p4 n4 p5 n5 p6 n6 p7 n7 p8 n8 w g b3 b4 b5 b6 V) : Calls Tryd.prog 12 #[(fval h (.slice p5 h.ts.len n5) (.slice p6 h.sub.len n6)), (fval h (.slice pb h.ts.len cb) (.slice qb h.sub.len db))] V fun e w' => e = .returned (.bool true) ∧ (w'.cell? ⟨g, 0, none⟩ = some (.int .u8 f.op) ∧ w'.cell? ⟨g, 1, none⟩ = some (.string f.n) ∧ w'.cell? ⟨g, 2, none⟩ = some (.slice pa f.ts.len ca) ∧ w'.cell? ⟨g, 3, none⟩ = some (.slice qa f.sub.len da) ∧ w'.cell? ⟨g + 1, 0, none⟩ = some (.int .u8 h.op) ∧ w'.cell? ⟨g + 1, 1, none⟩ = some (.string h.n) ∧ w'.cell? ⟨g + 1, 2, none⟩ = some (.slice pb h.ts.len cb) ∧ w'.cell? ⟨g + 1, 3, none⟩ = some (.slice qb h.sub.len db) ∧ w'.cell? ⟨b3, 0, none⟩ = some (.int .u8 o.op) ∧ w'.cell? ⟨b3, 1, none⟩ = some (.string o.n) ∧ w'.cell? ⟨b3, 2, none⟩ = some (.slice p1 o.ts.len n1) ∧ w'.cell? ⟨b3, 3, none⟩ = some (.slice p2 o.sub.len n2) ∧ w'.cell? ⟨b4, 0, none⟩ = some (.int .u8 gg.op) ∧ w'.cell? ⟨b4, 1, none⟩ = some (.string gg.n) ∧ w'.cell? ⟨b4, 2, none⟩ = some (.slice p3 gg.ts.len n3) ∧ w'.cell? ⟨b4, 3, none⟩ = some (.slice p4 gg.sub.len n4) ∧ w'.cell? ⟨b5, 0, none⟩ = some (.int .u8 h.op) ∧ w'.cell? ⟨b5, 1, none⟩ = some (.string h.n) ∧ w'.cell? ⟨b5, 2, none⟩ = some (.slice p5 h.ts.len n5) ∧ w'.cell? ⟨b5, 3, none⟩ = some (.slice p6 h.sub.len n6) ∧ w'.cell? ⟨b6, 0, none⟩ = some (.int .u8 f.op) ∧ w'.cell? ⟨b6, 1, none⟩ = some (.string f.n) ∧ w'.cell? ⟨b6, 2, none⟩ = some (.slice p7 f.ts.len n7) ∧ w'.cell? ⟨b6, 3, none⟩ = some (.slice p8 f.sub.len n8) ∧ A6 f h o gg pa ca qa da pb cb qb db p1 n1 p2 n2 p3 n3 p4 n4 p5 n5 p6 n6 p7 n7 p8 n8 w g b3 b4 b5 b6 w') := by
  have hA := hA.2.2.2.2.2.2.2.2.2.2.2.2.2.2.2.2.2.2.2.2.2.2.2.2
  refine (sameF_any _ _ _ _ V (hA.2.2.2.2.1).val (hA.2.1).val hs hs).mono ?_
  rintro e w' ⟨he, hb⟩
  rw [FT.eqB_refl] at he
  exact ⟨he, (hA.next hb).cells⟩
theorem A6.same2 {f h o gg : FT} {pa : Option Addr} {ca : Nat} {qa : Option Addr} {da : Nat} {pb : Option Addr} {cb : Nat} {qb : Option Addr} {db : Nat} {p1 : Option Addr} {n1 : Nat} {p2 : Option Addr} {n2 : Nat} {p3 : Option Addr} {n3 : Nat} {p4 : Option Addr} {n4 : Nat} {p5 : Option Addr} {n5 : Nat} {p6 : Option Addr} {n6 : Nat} {p7 : Option Addr} {n7 : Nat} {p8 : Option Addr} {n8 : Nat} {w : World} {g b3 b4 b5 b6 : Nat} {V : World} (hs : f.size ≤ 1000000) (hA : V.cell? ⟨g, 0, none⟩ = some (.int .u8 f.op) ∧ V.cell? ⟨g, 1, none⟩ = some (.string f.n) ∧ V.cell? ⟨g, 2, none⟩ = some (.slice pa f.ts.len ca) ∧ V.cell? ⟨g, 3, none⟩ = some (.slice qa f.sub.len da) ∧ V.cell? ⟨g + 1, 0, none⟩ = some (.int .u8 h.op) ∧ V.cell? ⟨g + 1, 1, none⟩ = some (.string h.n) ∧ V.cell? ⟨g + 1, 2, none⟩ = some (.slice pb h.ts.len cb) ∧ V.cell? ⟨g + 1, 3, none⟩ = some (.slice qb h.sub.len db) ∧ V.cell? ⟨b3, 0, none⟩ = some (.int .u8 o.op) ∧ V.cell? ⟨b3, 1, none⟩ = some (.string o.n) ∧ V.cell? ⟨b3, 2, none⟩ = some (.slice p1 o.ts.len n1) ∧ V.cell? ⟨b3, 3, none⟩ = some (.slice p2 o.sub.len n2) ∧ V.cell? ⟨b4, 0, none⟩ = some (.int .u8 gg.op) ∧ V.cell? ⟨b4, 1, none⟩ = some (.string gg.n) ∧ V.cell? ⟨b4, 2, none⟩ = some (.slice p3 gg.ts.len n3) ∧ V.cell? ⟨b4, 3, none⟩ = some (.slice p4 gg.sub.len n4) ∧ V.cell? ⟨b5, 0, none⟩ = some (.int .u8 h.op) ∧ V.cell? ⟨b5, 1, none⟩ = some (.string h.n) ∧ V.cell? ⟨b5, 2, none⟩ = some (.slice p5 h.ts.len n5) ∧ V.cell? ⟨b5, 3, none⟩ = some (.slice p6 h.sub.len n6) ∧ V.cell? ⟨b6, 0, none⟩ = some (.int .u8 f.op) ∧ V.cell? ⟨b6, 1, none⟩ = some (.string f.n) ∧ V.cell? ⟨b6, 2, none⟩ = some (.slice p7 f.ts.len n7) ∧ V.cell? ⟨b6, 3, none⟩ = some (.slice p8 f.sub.len n8) ∧ A6 f h o gg pa ca qa da pb cb qb db p1 n1 p2 n2 p3 n3 p4 n4 p5 n5 p6 n6 p7 n7 p8 n8 w g b3 b4 b5 b6 V) : Calls Tryd.prog 12 #[(fval f (.slice p7 f.ts.len n7) (.slice p8 f.sub.len n8)), (fval f (.slice pa f.ts.len ca) (.slice qa f.sub.len da))] V fun e w' => e = .returned (.bool true) ∧ (w'.cell? ⟨g, 0, none⟩ = some (.int .u8 f.op) ∧ w'.cell? ⟨g, 1, none⟩ = some (.string f.n) ∧ w'.cell? ⟨g, 2, none⟩ = some (.slice pa f.ts.len ca) ∧ w'.cell? ⟨g, 3, none⟩ = some (.slice qa f.sub.len da) ∧ w'.cell? ⟨g + 1, 0, none⟩ = some (.int .u8 h.op) ∧ w'.cell? ⟨g + 1, 1, none⟩ = some (.string h.n) ∧ w'.cell? ⟨g + 1, 2, none⟩ = some (.slice pb h.ts.len cb) ∧ w'.cell? ⟨g + 1, 3, none⟩ = some (.slice qb h.sub.len db) ∧ w'.cell? ⟨b3, 0, none⟩ = some (.int .u8 o.op) ∧ w'.cell? ⟨b3, 1, none⟩ = some (.string o.n) ∧ w'.cell? ⟨b3, 2, none⟩ = some (.slice p1 o.ts.len n1) ∧ w'.cell? ⟨b3, 3, none⟩ = some (.slice p2 o.sub.len n2) ∧ w'.cell? ⟨b4, 0, none⟩ = some (.int .u8 gg.op) ∧ w'.cell? ⟨b4, 1, none⟩ = some (.string gg.n) ∧ w'.cell? ⟨b4, 2, none⟩ = some (.slice p3 gg.ts.len n3) ∧ w'.cell? ⟨b4, 3, none⟩ = some (.slice p4 gg.sub.len n4) ∧ w'.cell? ⟨b5, 0, none⟩ = some (.int .u8 h.op) ∧ w'.cell? ⟨b5, 1, none⟩ = some (.string h.n) ∧ w'.cell? ⟨b5, 2, none⟩ = some (.slice p5 h.ts.len n5) ∧ w'.cell? ⟨b5, 3, none⟩ = some (.slice p6 h.sub.len n6) ∧ w'.cell? ⟨b6, 0, none⟩ = some (.int .u8 f.op) ∧ w'.cell? ⟨b6, 1, none⟩ = some (.string f.n) ∧ w'.cell? ⟨b6, 2, none⟩ = some (.slice p7 f.ts.len n7) ∧ w'.cell? ⟨b6, 3, none⟩ = some (.slice p8 f.sub.len n8) ∧ A6 f h o gg pa ca qa da pb cb qb db p1 n1 p2 n2 p3 n3 p4 n4 p5 n5 p6 n6 p7 n7 p8 n8 w g b3 b4 b5 b6 w') := by
  have hA := hA.2.2.2.2.2.2.2.2.2.2.2.2.2.2.2.2.2.2.2.2.2.2.2.2
  refine (sameF_any _ _ _ _ V (hA.2.2.2.2.2).val (hA.1).val hs hs).mono ?_
  rintro e w' ⟨he, hb⟩
  rw [FT.eqB_refl] at he
  exact ⟨he, (hA.next hb).cells⟩
theorem A6.n1 {f h o gg : FT} {pa : Option Addr} {ca : Nat} {qa : Option Addr} {da : Nat} {pb : Option Addr} {cb : Nat} {qb : Option Addr} {db : Nat} {p1 : Option Addr} {n1 : Nat} {p2 : Option Addr} {n2 : Nat} {p3 : Option Addr} {n3 : Nat} {p4 : Option Addr} {n4 : Nat} {p5 : Option Addr} {n5 : Nat} {p6 : Option Addr} {n6 : Nat} {p7 : Option Addr} {n7 : Nat} {p8 : Option Addr} {n8 : Nat} {w : World} {g b3 b4 b5 b6 : Nat} {V : World} (hs : f.size ≤ 1000000) (hA : V.cell? ⟨g, 0, none⟩ = some (.int .u8 f.op) ∧ V.cell? ⟨g, 1, none⟩ = some (.string f.n) ∧ V.cell? ⟨g, 2, none⟩ = some (.slice pa f.ts.len ca) ∧ V.cell? ⟨g, 3, none⟩ = some (.slice qa f.sub.len da) ∧ V.cell? ⟨g + 1, 0, none⟩ = some (.int .u8 h.op) ∧ V.cell? ⟨g + 1, 1, none⟩ = some (.string h.n) ∧ V.cell? ⟨g + 1, 2, none⟩ = some (.slice pb h.ts.len cb) ∧ V.cell? ⟨g + 1, 3, none⟩ = some (.slice qb h.sub.len db) ∧ V.cell? ⟨b3, 0, none⟩ = some (.int .u8 o.op) ∧ V.cell? ⟨b3, 1, none⟩ = some (.string o.n) ∧ V.cell? ⟨b3, 2, none⟩ = some (.slice p1 o.ts.len n1) ∧ V.cell? ⟨b3, 3, none⟩ = some (.slice p2 o.sub.len n2) ∧ V.cell? ⟨b4, 0, none⟩ = some (.int .u8 gg.op) ∧ V.cell? ⟨b4, 1, none⟩ = some (.string gg.n) ∧ V.cell? ⟨b4, 2, none⟩ = some (.slice p3 gg.ts.len n3) ∧ V.cell? ⟨b4, 3, none⟩ = some (.slice p4 gg.sub.len n4) ∧ V.cell? ⟨b5, 0, none⟩ = some (.int .u8 h.op) ∧ V.cell? ⟨b5, 1, none⟩ = some (.string h.n) ∧ V.cell? ⟨b5, 2, none⟩ = some (.slice p5 h.ts.len n5) ∧ V.cell? ⟨b5, 3, none⟩ = some (.slice p6 h.sub.len n6) ∧ V.cell? ⟨b6, 0, none⟩ = some (.int .u8 f.op) ∧ V.cell? ⟨b6, 1, none⟩ = some (.string f.n) ∧ V.cell? ⟨b6, 2, none⟩ = some (.slice p7 f.ts.len n7) ∧ V.cell? ⟨b6, 3, none⟩ = some (.slice p8 f.sub.len n8) ∧ A6 f h o gg pa ca qa da pb cb qb db p1 n1 p2 n2 p3 n3 p4 n4 p5 n5 p6 n6 p7 n7 p8 n8 w g b3 b4 b5 b6 V) : Calls Tryd.prog 13 #[(fval f (.slice pa f.ts.len ca) (.slice qa f.sub.len da))] V fun e w' => e = .returned (.int .i64 (f.size : Int)) ∧ (w'.cell? ⟨g, 0, none⟩ = some (.int .u8 f.op) ∧ w'.cell? ⟨g, 1, none⟩ = some (.string f.n) ∧ w'.cell? ⟨g, 2, none⟩ = some (.slice pa f.ts.len ca) ∧ w'.cell? ⟨g, 3, none⟩ = some (.slice qa f.sub.len da) ∧ w'.cell? ⟨g + 1, 0, none⟩ = some (.int .u8 h.op) ∧ w'.cell? ⟨g + 1, 1, none⟩ = some (.string h.n) ∧ w'.cell? ⟨g + 1, 2, none⟩ = some (.slice pb h.ts.len cb) ∧ w'.cell? ⟨g + 1, 3, none⟩ = some (.slice qb h.sub.len db) ∧ w'.cell? ⟨b3, 0, none⟩ = some (.int .u8 o.op) ∧ w'.cell? ⟨b3, 1, none⟩ = some (.string o.n) ∧ w'.cell? ⟨b3, 2, none⟩ = some (.slice p1 o.ts.len n1) ∧ w'.cell? ⟨b3, 3, none⟩ = some (.slice p2 o.sub.len n2) ∧ w'.cell? ⟨b4, 0, none⟩ = some (.int .u8 gg.op) ∧ w'.cell? ⟨b4, 1, none⟩ = some (.string gg.n) ∧ w'.cell? ⟨b4, 2, none⟩ = some (.slice p3 gg.ts.len n3) ∧ w'.cell? ⟨b4, 3, none⟩ = some (.slice p4 gg.sub.len n4) ∧ w'.cell? ⟨b5, 0, none⟩ = some (.int .u8 h.op) ∧ w'.cell? ⟨b5, 1, none⟩ = some (.string h.n) ∧ w'.cell? ⟨b5, 2, none⟩ = some (.slice p5 h.ts.len n5) ∧ w'.cell? ⟨b5, 3, none⟩ = some (.slice p6 h.sub.len n6) ∧ w'.cell? ⟨b6, 0, none⟩ = some (.int .u8 f.op) ∧ w'.cell? ⟨b6, 1, none⟩ = some (.string f.n) ∧ w'.cell? ⟨b6, 2, none⟩ = some (.slice p7 f.ts.len n7) ∧ w'.cell? ⟨b6, 3, none⟩ = some (.slice p8 f.sub.len n8) ∧ A6 f h o gg pa ca qa da pb cb qb db p1 n1 p2 n2 p3 n3 p4 n4 p5 n5 p6 n6 p7 n7 p8 n8 w g b3 b4 b5 b6 w') := by
  have hA := hA.2.2.2.2.2.2.2.2.2.2.2.2.2.2.2.2.2.2.2.2.2.2.2.2
  refine (nodes_any _ hs _ V (hA.1).val).mono ?_
  rintro e w' ⟨he, hb⟩
  exact ⟨he, (hA.next hb).cells⟩
theorem A6.n2 {f h o gg : FT} {pa : Option Addr} {ca : Nat} {qa : Option Addr} {da : Nat} {pb : Option Addr} {cb : Nat} {qb : Option Addr} {db : Nat} {p1 : Option Addr} {n1 : Nat} {p2 : Option Addr} {n2 : Nat} {p3 : Option Addr} {n3 : Nat} {p4 : Option Addr} {n4 : Nat} {p5 : Option Addr} {n5 : Nat} {p6 : Option Addr} {n6 : Nat} {p7 : Option Addr} {n7 : Nat} {p8 : Option Addr} {n8 : Nat} {w : World} {g b3 b4 b5 b6 : Nat} {V : World} (hs : h.size ≤ 1000000) (hA : V.cell? ⟨g, 0, none⟩ = some (.int .u8 f.op) ∧ V.cell? ⟨g, 1, none⟩ = some (.string f.n) ∧ V.cell? ⟨g, 2, none⟩ = some (.slice pa f.ts.len ca) ∧ V.cell? ⟨g, 3, none⟩ = some (.slice qa f.sub.len da) ∧ V.cell? ⟨g + 1, 0, none⟩ = some (.int .u8 h.op) ∧ V.cell? ⟨g + 1, 1, none⟩ = some (.string h.n) ∧ V.cell? ⟨g + 1, 2, none⟩ = some (.slice pb h.ts.len cb) ∧ V.cell? ⟨g + 1, 3, none⟩ = some (.slice qb h.sub.len db) ∧ V.cell? ⟨b3, 0, none⟩ = some (.int .u8 o.op) ∧ V.cell? ⟨b3, 1, none⟩ = some (.string o.n) ∧ V.cell? ⟨b3, 2, none⟩ = some (.slice p1 o.ts.len n1) ∧ V.cell? ⟨b3, 3, none⟩ = some (.slice p2 o.sub.len n2) ∧ V.cell? ⟨b4, 0, none⟩ = some (.int .u8 gg.op) ∧ V.cell? ⟨b4, 1, none⟩ = some (.string gg.n) ∧ V.cell? ⟨b4, 2, none⟩ = some (.slice p3 gg.ts.len n3) ∧ V.cell? ⟨b4, 3, none⟩ = some (.slice p4 gg.sub.len n4) ∧ V.cell? ⟨b5, 0, none⟩ = some (.int .u8 h.op) ∧ V.cell? ⟨b5, 1, none⟩ = some (.string h.n) ∧ V.cell? ⟨b5, 2, none⟩ = some (.slice p5 h.ts.len n5) ∧ V.cell? ⟨b5, 3, none⟩ = some (.slice p6 h.sub.len n6) ∧ V.cell? ⟨b6, 0, none⟩ = some (.int .u8 f.op) ∧ V.cell? ⟨b6, 1, none⟩ = some (.string f.n) ∧ V.cell? ⟨b6, 2, none⟩ = some (.slice p7 f.ts.len n7) ∧ V.cell? ⟨b6, 3, none⟩ = some (.slice p8 f.sub.len n8) ∧ A6 f h o gg pa ca qa da pb cb qb db p1 n1 p2 n2 p3 n3 p4 n4 p5 n5 p6 n6 p7 n7 p8 n8 w g b3 b4 b5 b6 V) : Calls Tryd.prog 13 #[(fval h (.slice pb h.ts.len cb) (.slice qb h.sub.len db))] V fun e w' => e = .returned (.int .i64 (h.size : Int)) ∧ (w'.cell? ⟨g, 0, none⟩ = some (.int .u8 f.op) ∧ w'.cell? ⟨g, 1, none⟩ = some (.string f.n) ∧ w'.cell? ⟨g, 2, none⟩ = some (.slice pa f.ts.len ca) ∧ w'.cell? ⟨g, 3, none⟩ = some (.slice qa f.sub.len da) ∧ w'.cell? ⟨g + 1, 0, none⟩ = some (.int .u8 h.op) ∧ w'.cell? ⟨g + 1, 1, none⟩ = some (.string h.n) ∧ w'.cell? ⟨g + 1, 2, none⟩ = some (.slice pb h.ts.len cb) ∧ w'.cell? ⟨g + 1, 3, none⟩ = some (.slice qb h.sub.len db) ∧ w'.cell? ⟨b3, 0, none⟩ = some (.int .u8 o.op) ∧ w'.cell? ⟨b3, 1, none⟩ = some (.string o.n) ∧ w'.cell? ⟨b3, 2, none⟩ = some (.slice p1 o.ts.len n1) ∧ w'.cell? ⟨b3, 3, none⟩ = some (.slice p2 o.sub.len n2) ∧ w'.cell? ⟨b4, 0, none⟩ = some (.int .u8 gg.op) ∧ w'.cell? ⟨b4, 1, none⟩ = some (.string gg.n) ∧ w'.cell? ⟨b4, 2, none⟩ = some (.slice p3 gg.ts.len n3) ∧ w'.cell? ⟨b4, 3, none⟩ = some (.slice p4 gg.sub.len n4) ∧ w'.cell? ⟨b5, 0, none⟩ = some (.int .u8 h.op) ∧ w'.cell? ⟨b5, 1, none⟩ = some (.string h.n) ∧ w'.cell? ⟨b5, 2, none⟩ = some (.slice p5 h.ts.len n5) ∧ w'.cell? ⟨b5, 3, none⟩ = some (.slice p6 h.sub.len n6) ∧ w'.cell? ⟨b6, 0, none⟩ = some (.int .u8 f.op) ∧ w'.cell? ⟨b6, 1, none⟩ = some (.string f.n) ∧ w'.cell? ⟨b6, 2, none⟩ = some (.slice p7 f.ts.len n7) ∧ w'.cell? ⟨b6, 3, none⟩ = some (.slice p8 f.sub.len n8) ∧ A6 f h o gg pa ca qa da pb cb qb db p1 n1 p2 n2 p3 n3 p4 n4 p5 n5 p6 n6 p7 n7 p8 n8 w g b3 b4 b5 b6 w') := by
  have hA := hA.2.2.2.2.2.2.2.2.2.2.2.2.2.2.2.2.2.2.2.2.2.2.2.2
  refine (nodes_any _ hs _ V (hA.2.1).val).mono ?_
  rintro e w' ⟨he, hb⟩
  exact ⟨he, (hA.next hb).cells⟩
theorem A6.n3 {f h o gg : FT} {pa : Option Addr} {ca : Nat} {qa : Option Addr} {da : Nat} {pb : Option Addr} {cb : Nat} {qb : Option Addr} {db : Nat} {p1 : Option Addr} {n1 : Nat} {p2 : Option Addr} {n2 : Nat} {p3 : Option Addr} {n3 : Nat} {p4 : Option Addr} {n4 : Nat} {p5 : Option Addr} {n5 : Nat} {p6 : Option Addr} {n6 : Nat} {p7 : Option Addr} {n7 : Nat} {p8 : Option Addr} {n8 : Nat} {w : World} {g b3 b4 b5 b6 : Nat} {V : World} (hs : o.size ≤ 1000000) (hA : V.cell? ⟨g, 0, none⟩ = some (.int .u8 f.op) ∧ V.cell? ⟨g, 1, none⟩ = some (.string f.n) ∧ V.cell? ⟨g, 2, none⟩ = some (.slice pa f.ts.len ca) ∧ V.cell? ⟨g, 3, none⟩ = some (.slice qa f.sub.len da) ∧ V.cell? ⟨g + 1, 0, none⟩ = some (.int .u8 h.op) ∧ V.cell? ⟨g + 1, 1, none⟩ = some (.string h.n) ∧ V.cell? ⟨g + 1, 2, none⟩ = some (.slice pb h.ts.len cb) ∧ V.cell? ⟨g + 1, 3, none⟩ = some (.slice qb h.sub.len db) ∧ V.cell? ⟨b3, 0, none⟩ = some (.int .u8 o.op) ∧ V.cell? ⟨b3, 1, none⟩ = some (.string o.n) ∧ V.cell? ⟨b3, 2, none⟩ = some (.slice p1 o.ts.len n1) ∧ V.cell? ⟨b3, 3, none⟩ = some (.slice p2 o.sub.len n2) ∧ V.cell? ⟨b4, 0, none⟩ = some (.int .u8 gg.op) ∧ V.cell? ⟨b4, 1, none⟩ = some (.string gg.n) ∧ V.cell? ⟨b4, 2, none⟩ = some (.slice p3 gg.ts.len n3) ∧ V.cell? ⟨b4, 3, none⟩ = some (.slice p4 gg.sub.len n4) ∧ V.cell? ⟨b5, 0, none⟩ = some (.int .u8 h.op) ∧ V.cell? ⟨b5, 1, none⟩ = some (.string h.n) ∧ V.cell? ⟨b5, 2, none⟩ = some (.slice p5 h.ts.len n5) ∧ V.cell? ⟨b5, 3, none⟩ = some (.slice p6 h.sub.len n6) ∧ V.cell? ⟨b6, 0, none⟩ = some (.int .u8 f.op) ∧ V.cell? ⟨b6, 1, none⟩ = some (.string f.n) ∧ V.cell? ⟨b6, 2, none⟩ = some (.slice p7 f.ts.len n7) ∧ V.cell? ⟨b6, 3, none⟩ = some (.slice p8 f.sub.len n8) ∧ A6 f h o gg pa ca qa da pb cb qb db p1 n1 p2 n2 p3 n3 p4 n4 p5 n5 p6 n6 p7 n7 p8 n8 w g b3 b4 b5 b6 V) : Calls Tryd.prog 13 #[(fval o (.slice p1 o.ts.len n1) (.slice p2 o.sub.len n2))] V fun e w' => e = .returned (.int .i64 (o.size : Int)) ∧ (w'.cell? ⟨g, 0, none⟩ = some (.int .u8 f.op) ∧ w'.cell? ⟨g, 1, none⟩ = some (.string f.n) ∧ w'.cell? ⟨g, 2, none⟩ = some (.slice pa f.ts.len ca) ∧ w'.cell? ⟨g, 3, none⟩ = some (.slice qa f.sub.len da) ∧ w'.cell? ⟨g + 1, 0, none⟩ = some (.int .u8 h.op) ∧ w'.cell? ⟨g + 1, 1, none⟩ = some (.string h.n) ∧ w'.cell? ⟨g + 1, 2, none⟩ = some (.slice pb h.ts.len cb) ∧ w'.cell? ⟨g + 1, 3, none⟩ = some (.slice qb h.sub.len db) ∧ w'.cell? ⟨b3, 0, none⟩ = some (.int .u8 o.op) ∧ w'.cell? ⟨b3, 1, none⟩ = some (.string o.n) ∧ w'.cell? ⟨b3, 2, none⟩ = some (.slice p1 o.ts.len n1) ∧ w'.cell? ⟨b3, 3, none⟩ = some (.slice p2 o.sub.len n2) ∧ w'.cell? ⟨b4, 0, none⟩ = some (.int .u8 gg.op) ∧ w'.cell? ⟨b4, 1, none⟩ = some (.string gg.n) ∧ w'.cell? ⟨b4, 2, none⟩ = some (.slice p3 gg.ts.len n3) ∧ w'.cell? ⟨b4, 3, none⟩ = some (.slice p4 gg.sub.len n4) ∧ w'.cell? ⟨b5, 0, none⟩ = some (.int .u8 h.op) ∧ w'.cell? ⟨b5, 1, none⟩ = some (.string h.n) ∧ w'.cell? ⟨b5, 2, none⟩ = some (.slice p5 h.ts.len n5) ∧ w'.cell? ⟨b5, 3, none⟩ = some (.slice p6 h.sub.len n6) ∧ w'.cell? ⟨b6, 0, none⟩ = some (.int .u8 f.op) ∧ w'.cell? ⟨b6, 1, none⟩ = some (.string f.n) ∧ w'.cell? ⟨b6, 2, none⟩ = some (.slice p7 f.ts.len n7) ∧ w'.cell? ⟨b6, 3, none⟩ = some (.slice p8 f.sub.len n8) ∧ A6 f h o gg pa ca qa da pb cb qb db p1 n1 p2 n2 p3 n3 p4 n4 p5 n5 p6 n6 p7 n7 p8 n8 w g b3 b4 b5 b6 w') := by
  have hA := hA.2.2.2.2.2.2.2.2.2.2.2.2.2.2.2.2.2.2.2.2.2.2.2.2
  refine (nodes_any _ hs _ V (hA.2.2.1).val).mono ?_
  rintro e w' ⟨he, hb⟩
  exact ⟨he, (hA.next hb).cells⟩
theorem A6.n4 {f h o gg : FT} {pa : Option Addr} {ca : Nat} {qa : Option Addr} {da : Nat} {pb : Option Addr} {cb : Nat} {qb : Option Addr} {db : Nat} {p1 : Option Addr} {n1 : Nat} {p2 : Option Addr} {n2 : Nat} {p3 : Option Addr} {n3 : Nat} {p4 : Option Addr} {n4 : Nat} {p5 : Option Addr} {n5 : Nat} {p6 : Option Addr} {n6 : Nat} {p7 : Option Addr} {n7 : Nat} {p8 : Option Addr} {n8 : Nat} {w : World} {g b3 b4 b5 b6 : Nat} {V : World} (hs : gg.size ≤ 1000000) (hA : V.cell? ⟨g, 0, none⟩ = some (.int .u8 f.op) ∧ V.cell? ⟨g, 1, none⟩ = some (.string f.n) ∧ V.cell? ⟨g, 2, none⟩ = some (.slice pa f.ts.len ca) ∧ V.cell? ⟨g, 3, none⟩ = some (.slice qa f.sub.len da) ∧ V.cell? ⟨g + 1, 0, none⟩ = some (.int .u8 h.op) ∧ V.cell? ⟨g + 1, 1, none⟩ = some (.string h.n) ∧ V.cell? ⟨g + 1, 2, none⟩ = some (.slice pb h.ts.len cb) ∧ V.cell? ⟨g + 1, 3, none⟩ = some (.slice qb h.sub.len db) ∧ V.cell? ⟨b3, 0, none⟩ = some (.int .u8 o.op) ∧ V.cell? ⟨b3, 1, none⟩ = some (.string o.n) ∧ V.cell? ⟨b3, 2, none⟩ = some (.slice p1 o.ts.len n1) ∧ V.cell? ⟨b3, 3, none⟩ = some (.slice p2 o.sub.len n2) ∧ V.cell? ⟨b4, 0, none⟩ = some (.int .u8 gg.op) ∧ V.cell? ⟨b4, 1, none⟩ = some (.string gg.n) ∧ V.cell? ⟨b4, 2, none⟩ = some (.slice p3 gg.ts.len n3) ∧ V.cell? ⟨b4, 3, none⟩ = some (.slice p4 gg.sub.len n4) ∧ V.cell? ⟨b5, 0, none⟩ = some (.int .u8 h.op) ∧ V.cell? ⟨b5, 1, none⟩ = some (.string h.n) ∧ V.cell? ⟨b5, 2, none⟩ = some (.slice p5 h.ts.len n5) ∧ V.cell? ⟨b5, 3, none⟩ = some (.slice p6 h.sub.len n6) ∧ V.cell? ⟨b6, 0, none⟩ = some (.int .u8 f.op) ∧ V.cell? ⟨b6, 1, none⟩ = some (.string f.n) ∧ V.cell? ⟨b6, 2, none⟩ = some (.slice p7 f.ts.len n7) ∧ V.cell? ⟨b6, 3, none⟩ = some (.slice p8 f.sub.len n8) ∧ A6 f h o gg pa ca qa da pb cb qb db p1 n1 p2 n2 p3 n3 p4 n4 p5 n5 p6 n6 p7 n7 p8 n8 w g b3 b4 b5 b6 V) : Calls Tryd.prog 13 #[(fval gg (.slice p3 gg.ts.len n3) (.slice p4 gg.sub.len n4))] V fun e w' => e = .returned (.int .i64 (gg.size : Int)) ∧ (w'.cell? ⟨g, 0, none⟩ = some (.int .u8 f.op) ∧ w'.cell? ⟨g, 1, none⟩ = some (.string f.n) ∧ w'.cell? ⟨g, 2, none⟩ = some (.slice pa f.ts.len ca) ∧ w'.cell? ⟨g, 3, none⟩ = some (.slice qa f.sub.len da) ∧ w'.cell? ⟨g + 1, 0, none⟩ = some (.int .u8 h.op) ∧ w'.cell? ⟨g + 1, 1, none⟩ = some (.string h.n) ∧ w'.cell? ⟨g + 1, 2, none⟩ = some (.slice pb h.ts.len cb) ∧ w'.cell? ⟨g + 1, 3, none⟩ = some (.slice qb h.sub.len db) ∧ w'.cell? ⟨b3, 0, none⟩ = some (.int .u8 o.op) ∧ w'.cell? ⟨b3, 1, none⟩ = some (.string o.n) ∧ w'.cell? ⟨b3, 2, none⟩ = some (.slice p1 o.ts.len n1) ∧ w'.cell? ⟨b3, 3, none⟩ = some (.slice p2 o.sub.len n2) ∧ w'.cell? ⟨b4, 0, none⟩ = some (.int .u8 gg.op) ∧ w'.cell? ⟨b4, 1, none⟩ = some (.string gg.n) ∧ w'.cell? ⟨b4, 2, none⟩ = some (.slice p3 gg.ts.len n3) ∧ w'.cell? ⟨b4, 3, none⟩ = some (.slice p4 gg.sub.len n4) ∧ w'.cell? ⟨b5, 0, none⟩ = some (.int .u8 h.op) ∧ w'.cell? ⟨b5, 1, none⟩ = some (.string h.n) ∧ w'.cell? ⟨b5, 2, none⟩ = some (.slice p5 h.ts.len n5) ∧ w'.cell? ⟨b5, 3, none⟩ = some (.slice p6 h.sub.len n6) ∧ w'.cell? ⟨b6, 0, none⟩ = some (.int .u8 f.op) ∧ w'.cell? ⟨b6, 1, none⟩ = some (.string f.n) ∧ w'.cell? ⟨b6, 2, none⟩ = some (.slice p7 f.ts.len n7) ∧ w'.cell? ⟨b6, 3, none⟩ = some (.slice p8 f.sub.len n8) ∧ A6 f h o gg pa ca qa da pb cb qb db p1 n1 p2 n2 p3 n3 p4 n4 p5 n5 p6 n6 p7 n7 p8 n8 w g b3 b4 b5 b6 w') := by
  have hA := hA.2.2.2.2.2.2.2.2.2.2.2.2.2.2.2.2.2.2.2.2.2.2.2.2
  refine (nodes_any _ hs _ V (hA.2.2.2.1).val).mono ?_
  rintro e w' ⟨he, hb⟩
  exact ⟨he, (hA.next hb).cells⟩
set_option maxHeartbeats 8000000 in
theorem formReplaces_walk (f h : FT) (l m : List Int) (va vb sl sm : Value) (w : World) (hrw : Rws w) (hva : FVal w f va) (hvb : FVal w h vb) (hl : LSl w l sl) (hm : LSl w m sm) (hll : l.length ≤ maxLen) (hml : m.length ≤ maxLen) (hwt : f.wt + h.wt ≤ 1500000) :
    Calls Tryd.prog 4 #[va, vb, sl, sm] w fun e w' => e = .returned (.bool true) ∧ Below w.heap.size w w' := by
  have HA := Lib.hid (fun V hr => awake_any V hr)
  have hrwh := Lib.hid hrw
  have hlh := Lib.hid hl
  have hmh := Lib.hid hm
  clear hrw
  obtain ⟨sa, ua, rfl, ha, hua⟩ := id hva
  obtain ⟨sb, ub, rfl, hb, hub⟩ := id hvb
  obtain ⟨pa, ca, rfl, -⟩ := id ha
  obtain ⟨pb, cb, rfl, -⟩ := id hb
  obtain ⟨qa, da, rfl, -⟩ := id hua
  obtain ⟨qb, db, rfl, -⟩ := id hub
  obtain ⟨pl, cl, rfl, -⟩ := id hl
  obtain ⟨pm, cm, rfl, -⟩ := id hm
  clear ha hb hua hub hl hm
  obtain ⟨W1, W2, hW1, hW2, s1, s2, k1, k2⟩ := in_boxes hva hvb 25
  have k1h := Lib.hid k1
  have k2h := Lib.hid k2
  obtain ⟨g, hg⟩ : ∃ g, w.heap.size = g := ⟨_, rfl⟩
  have hgh := Lib.hid hg
  rw [hg] at s1 s2 k1h k2h
  clear k1 k2 hva hvb
  go_enter Tryd.func4, Tryd.ntmps4
  go_wp2_with fail
  refine (HA.out W2 (hrwh.out.of k1h.out.2.2.2.2.1)).mono ?_
  rintro e w3 ⟨rfl, hb3⟩
  have k1h := Lib.hid (k1h.out.next hb3)
  have k2h := Lib.hid (k2h.out.next hb3)
  clear hb3 HA hrwh hg s1 s2 hW1 hW2
  obtain ⟨c10, c11, c12, c13, -⟩ := k1h.out
  obtain ⟨c20, c21, c22, c23, -⟩ := k2h.out
  go_wp2_with fail
  refine (small_any _ _ _ (two_list k1h.out.val k2h.out.val 25) (by simp only [FT.wt] at hwt; simp only [Fs.wt]; omega)).mono ?_
  rintro e w4 ⟨rfl, hb4⟩
  have hb34 := bel_step (bel_laid w3 _) hb4
  have k1h := Lib.hid (k1h.out.next hb34)
  have k2h := Lib.hid (k2h.out.next hb34)
  clear hb34 hb4 c10 c11 c12 c13 c20 c21 c22 c23
  cases hsm : Fs.small (.cons f.op f.n f.ts f.sub (.cons h.op h.n h.ts h.sub .nil))
  · go_wp2_with fail
    go_ret
    exact ⟨rfl, k1h.out.2.2.2.2.1⟩
  have hsz := Fs.small_size hsm
  simp only [Fs.size] at hsz
  clear hsm
  by_cases hl60 : l.length ≤ 60
  rotate_left
  · have g1 : (60 : Int) < (l.length : Int) := by omega
    go_wp2_with fail
    go_ret
    exact ⟨rfl, k1h.out.2.2.2.2.1⟩
  have g1 : ¬ (60 : Int) < (l.length : Int) := by omega
  by_cases hm60 : m.length ≤ 60
  rotate_left
  · have g2 : (60 : Int) < (m.length : Int) := by omega
    go_wp2_with fail
    go_ret
    exact ⟨rfl, k1h.out.2.2.2.2.1⟩
  have g2 : ¬ (60 : Int) < (m.length : Int) := by omega
  have s1 : f.size ≤ 1000000 := by have : f.size = f.ts.size + f.sub.size + 1 := rfl; omega
  have s2 : h.size ≤ 1000000 := by have : h.size = h.ts.size + h.sub.size + 1 := rfl; omega
  have s12 : f.size + h.size ≤ 1000 := by have : f.size = f.ts.size + f.sub.size + 1 := rfl; have : h.size = h.ts.size + h.sub.size + 1 := rfl; omega
  have hL := fun V (hV : Below w.heap.size w V) => LSl.below hV hlh.out
  have hM := fun V (hV : Below w.heap.size w V) => LSl.below hV hmh.out
  have hLh := Lib.hid hL
  have hMh := Lib.hid hM
  clear hL hM hsz hll hml hwt
  obtain ⟨c10, c11, c12, c13, -⟩ := k1h.out
  have HZ := Lib.hid same_zero
  cases hpt : f.part l with
  | none =>
    have hput := Lib.hid (FT.put_none l f h hpt)
    have HC := Lib.hid (at_none f l hpt _ _ w4 k1h.out.val (hLh.out w4 k1h.out.2.2.2.2.1) (by omega) s1)
    clear hpt
    go_wp2_with fail
    refine HC.out.mono ?_
    rintro e w5 ⟨rfl, hb5⟩
    clear c10 c11 c12 c13
    go_upto_region 6 with fail
    obtain ⟨W6, hW6, hb6, k3⟩ := box_zero (w := w) (bel_step k1h.out.2.2.2.2.1 hb5) 25
    have hb56 := bel_step hb5 hb6
    have k1h := Lib.hid (k1h.out.next hb56)
    have k2h := Lib.hid (k2h.out.next hb56)
    have k3h := Lib.hid k3
    rw [hW6]
    clear hW6
    have HC2 := Lib.hid (with_none f h l hput.out _ _ _ W6 k1h.out.val k2h.out.val (hLh.out W6 k1h.out.2.2.2.2.1) (by omega) s1 s2)
    clear HC k3 hb5 hb6 hb56
    obtain ⟨c10, c11, c12, c13, -⟩ := k1h.out
    obtain ⟨c20, c21, c22, c23, -⟩ := k2h.out
    obtain ⟨b3, hb3⟩ : ∃ b3, w5.heap.size = b3 := ⟨_, rfl⟩
    rw [hb3] at k3h
    go_wp2_with fail
    refine HC2.out.mono ?_
    rintro e w7 ⟨rfl, hb7⟩
    clear c10 c11 c12 c13 c20 c21 c22 c23
    go_upto_region 7 with fail
    obtain ⟨W8, hW8, hb8, k4⟩ := box_zero (w := w) (bel_step k1h.out.2.2.2.2.1 hb7) 25
    have hb78 := bel_step hb7 hb8
    have k1h := Lib.hid (k1h.out.next hb78)
    have k3h := Lib.hid (k3h.out.next hb78)
    have k4h := Lib.hid k4
    obtain ⟨b4, hb4⟩ : ∃ b4, w7.heap.size = b4 := ⟨_, rfl⟩
    rw [hb4] at k4h
    rw [hW8]
    clear HC2 k4 hb7 hb8 hb78 hW8
    obtain ⟨c30, c31, c32, c33, -⟩ := k3h.out
    obtain ⟨c40, c41, c42, c43, -⟩ := k4h.out
    go_wp2_with fail
    refine (HZ.out _).mono ?_
    rintro e w9 ⟨rfl, hb9⟩
    have k1h := Lib.hid (k1h.out.next hb9)
    have k3h := Lib.hid (k3h.out.next hb9)
    have k4h := Lib.hid (k4h.out.next hb9)
    clear hb9 c30 c31 c32 c33 c40 c41 c42 c43
    obtain ⟨c30, c31, c32, c33, -⟩ := k3h.out
    obtain ⟨c40, c41, c42, c43, -⟩ := k4h.out
    go_wp2_with fail
    refine (HZ.out _).mono ?_
    rintro e w10 ⟨rfl, hb10⟩
    have hfin := Lib.hid (bel_step k1h.out.2.2.2.2.1 hb10)
    clear hb10 c30 c31 c32 c33 c40 c41 c42 c43 HZ
    go_wp2_with fail
    go_ret
    exact ⟨rfl, hfin.out⟩
  | some o =>
    obtain ⟨gg, hput, hgp, hback, hsize⟩ := FT.put_part l f h o hpt
    have so : o.size ≤ 1000000 := Nat.le_trans (Fs.part_size l f o hpt) s1
    have sg : gg.size ≤ 1000000 := by omega
    have HC := Lib.hid (at_some f o l hpt _ _ w4 k1h.out.val (hLh.out w4 k1h.out.2.2.2.2.1) (by omega) s1)
    have hpth := Lib.hid hpt
    have hputh := Lib.hid hput
    have hgph := Lib.hid hgp
    have hbackh := Lib.hid hback
    clear hpt hput hgp hback
    go_wp2_with fail
    refine HC.out.mono ?_
    rintro e w5 ⟨⟨p1, n1, p2, n2, rfl, hv5⟩, hb5⟩
    obtain ⟨W6, hW6, hb6, k3⟩ := box_of (w := w) (bel_step k1h.out.2.2.2.2.1 hb5) hv5 25
    have hb56 := bel_step hb5 hb6
    have k1h := Lib.hid (k1h.out.next hb56)
    have k2h := Lib.hid (k2h.out.next hb56)
    have k3h := Lib.hid k3
    obtain ⟨b3, hb3⟩ : ∃ b3, w5.heap.size = b3 := ⟨_, rfl⟩
    rw [hb3] at k3h
    have HC2 := Lib.hid (with_some f h gg l hputh.out _ _ _ W6 k1h.out.val k2h.out.val (hLh.out W6 k1h.out.2.2.2.2.1) (by omega) s1 s2)
    clear HC k3 hb5 hb6 hb56 c10 c11 c12 c13 hv5
    obtain ⟨c10, c11, c12, c13, -⟩ := k1h.out
    obtain ⟨c20, c21, c22, c23, -⟩ := k2h.out
    go_wp2_with fail
    refine HC2.out.mono ?_
    rintro e w7 ⟨⟨p3, n3, p4, n4, rfl, hv7⟩, hb7⟩
    obtain ⟨W8, hW8, hb8, k4⟩ := box_of (w := w) (bel_step k1h.out.2.2.2.2.1 hb7) hv7 25
    have hb78 := bel_step hb7 hb8
    have k1h := Lib.hid (k1h.out.next hb78)
    have k2h := Lib.hid (k2h.out.next hb78)
    have k3h := Lib.hid (k3h.out.next hb78)
    have k4h := Lib.hid k4
    obtain ⟨b4, hb4⟩ : ∃ b4, w7.heap.size = b4 := ⟨_, rfl⟩
    rw [hb4] at k4h
    have HC3 := Lib.hid (at_some gg h l hgph.out _ _ W8 k4h.out.val (hLh.out W8 k1h.out.2.2.2.2.1) (by omega) sg)
    clear HC2 k4 hb7 hb8 hb78 hW6 hb3 c10 c11 c12 c13 c20 c21 c22 c23 hv7
    obtain ⟨c40, c41, c42, c43, -⟩ := k4h.out
    go_wp2_with fail
    refine HC3.out.mono ?_
    rintro e w9 ⟨⟨p5, n5, p6, n6, rfl, hv9⟩, hb9⟩
    obtain ⟨W10, hW10, hb10, k5⟩ := box_of (w := w) (bel_step k1h.out.2.2.2.2.1 hb9) hv9 25
    have hb910 := bel_step hb9 hb10
    have k1h := Lib.hid (k1h.out.next hb910)
    have k2h := Lib.hid (k2h.out.next hb910)
    have k3h := Lib.hid (k3h.out.next hb910)
    have k4h := Lib.hid (k4h.out.next hb910)
    have k5h := Lib.hid k5
    obtain ⟨b5, hb5⟩ : ∃ b5, w9.heap.size = b5 := ⟨_, rfl⟩
    rw [hb5] at k5h
    have HC4 := Lib.hid (with_some gg o f l hbackh.out _ _ _ W10 k4h.out.val k3h.out.val (hLh.out W10 k1h.out.2.2.2.2.1) (by omega) sg so)
    clear HC3 k5 hb9 hb10 hb910 hW8 hb4 c40 c41 c42 c43 hv9
    obtain ⟨c40, c41, c42, c43, -⟩ := k4h.out
    obtain ⟨c30, c31, c32, c33, -⟩ := k3h.out
    go_wp2_with fail
    refine HC4.out.mono ?_
    rintro e w11 ⟨⟨p7, n7, p8, n8, rfl, hv11⟩, hb11⟩
    obtain ⟨W12, hW12, hb12, k6⟩ := box_of (w := w) (bel_step k1h.out.2.2.2.2.1 hb11) hv11 25
    have hb1112 := bel_step hb11 hb12
    have k1h := Lib.hid (k1h.out.next hb1112)
    have k2h := Lib.hid (k2h.out.next hb1112)
    have k3h := Lib.hid (k3h.out.next hb1112)
    have k4h := Lib.hid (k4h.out.next hb1112)
    have k5h := Lib.hid (k5h.out.next hb1112)
    have k6h := Lib.hid k6
    obtain ⟨b6, hb6⟩ : ∃ b6, w11.heap.size = b6 := ⟨_, rfl⟩
    rw [hb6] at k6h
    clear HC4 k6 hb11 hb12 hb1112 hW10 hb5 c40 c41 c42 c43 c30 c31 c32 c33 hv11
    go_upto_region 11 with fail
    obtain ⟨d1, hd1⟩ : ∃ d1 : Int, IntKind.i64.wrap ((f.size : Int) - (o.size : Int)) = d1 := ⟨_, rfl⟩
    have hd2 : IntKind.i64.wrap (d1 + (h.size : Int)) = (gg.size : Int) := by
      have e1 : IntKind.i64.wrap ((f.size : Int) - (o.size : Int)) = (f.size : Int) - (o.size : Int) := IntWalk.i64_in _ (by omega)
      rw [← hd1, e1, show (f.size : Int) - (o.size : Int) + (h.size : Int) = (gg.size : Int) by omega]
      exact IntWalk.i64_in _ (by omega)
    have hA6 : A6 f h o gg pa ca qa da pb cb qb db p1 n1 p2 n2 p3 n3 p4 n4 p5 n5 p6 n6 p7 n7 p8 n8 w g b3 b4 b5 b6 W12.drew := A6.next ⟨k1h.out, k2h.out, k3h.out, k4h.out, k5h.out, k6h.out⟩ (bel_drew W12)
    have hS0 := hA6.cells
    have H1 := Lib.hid (fun V (hV : V.cell? ⟨g, 0, none⟩ = some (.int .u8 f.op) ∧ V.cell? ⟨g, 1, none⟩ = some (.string f.n) ∧ V.cell? ⟨g, 2, none⟩ = some (.slice pa f.ts.len ca) ∧ V.cell? ⟨g, 3, none⟩ = some (.slice qa f.sub.len da) ∧ V.cell? ⟨g + 1, 0, none⟩ = some (.int .u8 h.op) ∧ V.cell? ⟨g + 1, 1, none⟩ = some (.string h.n) ∧ V.cell? ⟨g + 1, 2, none⟩ = some (.slice pb h.ts.len cb) ∧ V.cell? ⟨g + 1, 3, none⟩ = some (.slice qb h.sub.len db) ∧ V.cell? ⟨b3, 0, none⟩ = some (.int .u8 o.op) ∧ V.cell? ⟨b3, 1, none⟩ = some (.string o.n) ∧ V.cell? ⟨b3, 2, none⟩ = some (.slice p1 o.ts.len n1) ∧ V.cell? ⟨b3, 3, none⟩ = some (.slice p2 o.sub.len n2) ∧ V.cell? ⟨b4, 0, none⟩ = some (.int .u8 gg.op) ∧ V.cell? ⟨b4, 1, none⟩ = some (.string gg.n) ∧ V.cell? ⟨b4, 2, none⟩ = some (.slice p3 gg.ts.len n3) ∧ V.cell? ⟨b4, 3, none⟩ = some (.slice p4 gg.sub.len n4) ∧ V.cell? ⟨b5, 0, none⟩ = some (.int .u8 h.op) ∧ V.cell? ⟨b5, 1, none⟩ = some (.string h.n) ∧ V.cell? ⟨b5, 2, none⟩ = some (.slice p5 h.ts.len n5) ∧ V.cell? ⟨b5, 3, none⟩ = some (.slice p6 h.sub.len n6) ∧ V.cell? ⟨b6, 0, none⟩ = some (.int .u8 f.op) ∧ V.cell? ⟨b6, 1, none⟩ = some (.string f.n) ∧ V.cell? ⟨b6, 2, none⟩ = some (.slice p7 f.ts.len n7) ∧ V.cell? ⟨b6, 3, none⟩ = some (.slice p8 f.sub.len n8) ∧ A6 f h o gg pa ca qa da pb cb qb db p1 n1 p2 n2 p3 n3 p4 n4 p5 n5 p6 n6 p7 n7 p8 n8 w g b3 b4 b5 b6 V) => A6.same1 s2 hV)
    have H2 := Lib.hid (fun V (hV : V.cell? ⟨g, 0, none⟩ = some (.int .u8 f.op) ∧ V.cell? ⟨g, 1, none⟩ = some (.string f.n) ∧ V.cell? ⟨g, 2, none⟩ = some (.slice pa f.ts.len ca) ∧ V.cell? ⟨g, 3, none⟩ = some (.slice qa f.sub.len da) ∧ V.cell? ⟨g + 1, 0, none⟩ = some (.int .u8 h.op) ∧ V.cell? ⟨g + 1, 1, none⟩ = some (.string h.n) ∧ V.cell? ⟨g + 1, 2, none⟩ = some (.slice pb h.ts.len cb) ∧ V.cell? ⟨g + 1, 3, none⟩ = some (.slice qb h.sub.len db) ∧ V.cell? ⟨b3, 0, none⟩ = some (.int .u8 o.op) ∧ V.cell? ⟨b3, 1, none⟩ = some (.string o.n) ∧ V.cell? ⟨b3, 2, none⟩ = some (.slice p1 o.ts.len n1) ∧ V.cell? ⟨b3, 3, none⟩ = some (.slice p2 o.sub.len n2) ∧ V.cell? ⟨b4, 0, none⟩ = some (.int .u8 gg.op) ∧ V.cell? ⟨b4, 1, none⟩ = some (.string gg.n) ∧ V.cell? ⟨b4, 2, none⟩ = some (.slice p3 gg.ts.len n3) ∧ V.cell? ⟨b4, 3, none⟩ = some (.slice p4 gg.sub.len n4) ∧ V.cell? ⟨b5, 0, none⟩ = some (.int .u8 h.op) ∧ V.cell? ⟨b5, 1, none⟩ = some (.string h.n) ∧ V.cell? ⟨b5, 2, none⟩ = some (.slice p5 h.ts.len n5) ∧ V.cell? ⟨b5, 3, none⟩ = some (.slice p6 h.sub.len n6) ∧ V.cell? ⟨b6, 0, none⟩ = some (.int .u8 f.op) ∧ V.cell? ⟨b6, 1, none⟩ = some (.string f.n) ∧ V.cell? ⟨b6, 2, none⟩ = some (.slice p7 f.ts.len n7) ∧ V.cell? ⟨b6, 3, none⟩ = some (.slice p8 f.sub.len n8) ∧ A6 f h o gg pa ca qa da pb cb qb db p1 n1 p2 n2 p3 n3 p4 n4 p5 n5 p6 n6 p7 n7 p8 n8 w g b3 b4 b5 b6 V) => A6.same2 s1 hV)
    have H3 := Lib.hid (fun V (hV : V.cell? ⟨g, 0, none⟩ = some (.int .u8 f.op) ∧ V.cell? ⟨g, 1, none⟩ = some (.string f.n) ∧ V.cell? ⟨g, 2, none⟩ = some (.slice pa f.ts.len ca) ∧ V.cell? ⟨g, 3, none⟩ = some (.slice qa f.sub.len da) ∧ V.cell? ⟨g + 1, 0, none⟩ = some (.int .u8 h.op) ∧ V.cell? ⟨g + 1, 1, none⟩ = some (.string h.n) ∧ V.cell? ⟨g + 1, 2, none⟩ = some (.slice pb h.ts.len cb) ∧ V.cell? ⟨g + 1, 3, none⟩ = some (.slice qb h.sub.len db) ∧ V.cell? ⟨b3, 0, none⟩ = some (.int .u8 o.op) ∧ V.cell? ⟨b3, 1, none⟩ = some (.string o.n) ∧ V.cell? ⟨b3, 2, none⟩ = some (.slice p1 o.ts.len n1) ∧ V.cell? ⟨b3, 3, none⟩ = some (.slice p2 o.sub.len n2) ∧ V.cell? ⟨b4, 0, none⟩ = some (.int .u8 gg.op) ∧ V.cell? ⟨b4, 1, none⟩ = some (.string gg.n) ∧ V.cell? ⟨b4, 2, none⟩ = some (.slice p3 gg.ts.len n3) ∧ V.cell? ⟨b4, 3, none⟩ = some (.slice p4 gg.sub.len n4) ∧ V.cell? ⟨b5, 0, none⟩ = some (.int .u8 h.op) ∧ V.cell? ⟨b5, 1, none⟩ = some (.string h.n) ∧ V.cell? ⟨b5, 2, none⟩ = some (.slice p5 h.ts.len n5) ∧ V.cell? ⟨b5, 3, none⟩ = some (.slice p6 h.sub.len n6) ∧ V.cell? ⟨b6, 0, none⟩ = some (.int .u8 f.op) ∧ V.cell? ⟨b6, 1, none⟩ = some (.string f.n) ∧ V.cell? ⟨b6, 2, none⟩ = some (.slice p7 f.ts.len n7) ∧ V.cell? ⟨b6, 3, none⟩ = some (.slice p8 f.sub.len n8) ∧ A6 f h o gg pa ca qa da pb cb qb db p1 n1 p2 n2 p3 n3 p4 n4 p5 n5 p6 n6 p7 n7 p8 n8 w g b3 b4 b5 b6 V) => A6.n1 s1 hV)
    have H4 := Lib.hid (fun V (hV : V.cell? ⟨g, 0, none⟩ = some (.int .u8 f.op) ∧ V.cell? ⟨g, 1, none⟩ = some (.string f.n) ∧ V.cell? ⟨g, 2, none⟩ = some (.slice pa f.ts.len ca) ∧ V.cell? ⟨g, 3, none⟩ = some (.slice qa f.sub.len da) ∧ V.cell? ⟨g + 1, 0, none⟩ = some (.int .u8 h.op) ∧ V.cell? ⟨g + 1, 1, none⟩ = some (.string h.n) ∧ V.cell? ⟨g + 1, 2, none⟩ = some (.slice pb h.ts.len cb) ∧ V.cell? ⟨g + 1, 3, none⟩ = some (.slice qb h.sub.len db) ∧ V.cell? ⟨b3, 0, none⟩ = some (.int .u8 o.op) ∧ V.cell? ⟨b3, 1, none⟩ = some (.string o.n) ∧ V.cell? ⟨b3, 2, none⟩ = some (.slice p1 o.ts.len n1) ∧ V.cell? ⟨b3, 3, none⟩ = some (.slice p2 o.sub.len n2) ∧ V.cell? ⟨b4, 0, none⟩ = some (.int .u8 gg.op) ∧ V.cell? ⟨b4, 1, none⟩ = some (.string gg.n) ∧ V.cell? ⟨b4, 2, none⟩ = some (.slice p3 gg.ts.len n3) ∧ V.cell? ⟨b4, 3, none⟩ = some (.slice p4 gg.sub.len n4) ∧ V.cell? ⟨b5, 0, none⟩ = some (.int .u8 h.op) ∧ V.cell? ⟨b5, 1, none⟩ = some (.string h.n) ∧ V.cell? ⟨b5, 2, none⟩ = some (.slice p5 h.ts.len n5) ∧ V.cell? ⟨b5, 3, none⟩ = some (.slice p6 h.sub.len n6) ∧ V.cell? ⟨b6, 0, none⟩ = some (.int .u8 f.op) ∧ V.cell? ⟨b6, 1, none⟩ = some (.string f.n) ∧ V.cell? ⟨b6, 2, none⟩ = some (.slice p7 f.ts.len n7) ∧ V.cell? ⟨b6, 3, none⟩ = some (.slice p8 f.sub.len n8) ∧ A6 f h o gg pa ca qa da pb cb qb db p1 n1 p2 n2 p3 n3 p4 n4 p5 n5 p6 n6 p7 n7 p8 n8 w g b3 b4 b5 b6 V) => A6.n2 s2 hV)
    have H5 := Lib.hid (fun V (hV : V.cell? ⟨g, 0, none⟩ = some (.int .u8 f.op) ∧ V.cell? ⟨g, 1, none⟩ = some (.string f.n) ∧ V.cell? ⟨g, 2, none⟩ = some (.slice pa f.ts.len ca) ∧ V.cell? ⟨g, 3, none⟩ = some (.slice qa f.sub.len da) ∧ V.cell? ⟨g + 1, 0, none⟩ = some (.int .u8 h.op) ∧ V.cell? ⟨g + 1, 1, none⟩ = some (.string h.n) ∧ V.cell? ⟨g + 1, 2, none⟩ = some (.slice pb h.ts.len cb) ∧ V.cell? ⟨g + 1, 3, none⟩ = some (.slice qb h.sub.len db) ∧ V.cell? ⟨b3, 0, none⟩ = some (.int .u8 o.op) ∧ V.cell? ⟨b3, 1, none⟩ = some (.string o.n) ∧ V.cell? ⟨b3, 2, none⟩ = some (.slice p1 o.ts.len n1) ∧ V.cell? ⟨b3, 3, none⟩ = some (.slice p2 o.sub.len n2) ∧ V.cell? ⟨b4, 0, none⟩ = some (.int .u8 gg.op) ∧ V.cell? ⟨b4, 1, none⟩ = some (.string gg.n) ∧ V.cell? ⟨b4, 2, none⟩ = some (.slice p3 gg.ts.len n3) ∧ V.cell? ⟨b4, 3, none⟩ = some (.slice p4 gg.sub.len n4) ∧ V.cell? ⟨b5, 0, none⟩ = some (.int .u8 h.op) ∧ V.cell? ⟨b5, 1, none⟩ = some (.string h.n) ∧ V.cell? ⟨b5, 2, none⟩ = some (.slice p5 h.ts.len n5) ∧ V.cell? ⟨b5, 3, none⟩ = some (.slice p6 h.sub.len n6) ∧ V.cell? ⟨b6, 0, none⟩ = some (.int .u8 f.op) ∧ V.cell? ⟨b6, 1, none⟩ = some (.string f.n) ∧ V.cell? ⟨b6, 2, none⟩ = some (.slice p7 f.ts.len n7) ∧ V.cell? ⟨b6, 3, none⟩ = some (.slice p8 f.sub.len n8) ∧ A6 f h o gg pa ca qa da pb cb qb db p1 n1 p2 n2 p3 n3 p4 n4 p5 n5 p6 n6 p7 n7 p8 n8 w g b3 b4 b5 b6 V) => A6.n3 so hV)
    have H6 := Lib.hid (fun V (hV : V.cell? ⟨g, 0, none⟩ = some (.int .u8 f.op) ∧ V.cell? ⟨g, 1, none⟩ = some (.string f.n) ∧ V.cell? ⟨g, 2, none⟩ = some (.slice pa f.ts.len ca) ∧ V.cell? ⟨g, 3, none⟩ = some (.slice qa f.sub.len da) ∧ V.cell? ⟨g + 1, 0, none⟩ = some (.int .u8 h.op) ∧ V.cell? ⟨g + 1, 1, none⟩ = some (.string h.n) ∧ V.cell? ⟨g + 1, 2, none⟩ = some (.slice pb h.ts.len cb) ∧ V.cell? ⟨g + 1, 3, none⟩ = some (.slice qb h.sub.len db) ∧ V.cell? ⟨b3, 0, none⟩ = some (.int .u8 o.op) ∧ V.cell? ⟨b3, 1, none⟩ = some (.string o.n) ∧ V.cell? ⟨b3, 2, none⟩ = some (.slice p1 o.ts.len n1) ∧ V.cell? ⟨b3, 3, none⟩ = some (.slice p2 o.sub.len n2) ∧ V.cell? ⟨b4, 0, none⟩ = some (.int .u8 gg.op) ∧ V.cell? ⟨b4, 1, none⟩ = some (.string gg.n) ∧ V.cell? ⟨b4, 2, none⟩ = some (.slice p3 gg.ts.len n3) ∧ V.cell? ⟨b4, 3, none⟩ = some (.slice p4 gg.sub.len n4) ∧ V.cell? ⟨b5, 0, none⟩ = some (.int .u8 h.op) ∧ V.cell? ⟨b5, 1, none⟩ = some (.string h.n) ∧ V.cell? ⟨b5, 2, none⟩ = some (.slice p5 h.ts.len n5) ∧ V.cell? ⟨b5, 3, none⟩ = some (.slice p6 h.sub.len n6) ∧ V.cell? ⟨b6, 0, none⟩ = some (.int .u8 f.op) ∧ V.cell? ⟨b6, 1, none⟩ = some (.string f.n) ∧ V.cell? ⟨b6, 2, none⟩ = some (.slice p7 f.ts.len n7) ∧ V.cell? ⟨b6, 3, none⟩ = some (.slice p8 f.sub.len n8) ∧ A6 f h o gg pa ca qa da pb cb qb db p1 n1 p2 n2 p3 n3 p4 n4 p5 n5 p6 n6 p7 n7 p8 n8 w g b3 b4 b5 b6 V) => A6.n4 sg hV)
    clear hA6 k1h k2h k3h k4h k5h k6h hW12 hb6
    go_region_held3 (fun W => W.cell? ⟨g, 0, none⟩ = some (.int .u8 f.op) ∧ W.cell? ⟨g, 1, none⟩ = some (.string f.n) ∧ W.cell? ⟨g, 2, none⟩ = some (.slice pa f.ts.len ca) ∧ W.cell? ⟨g, 3, none⟩ = some (.slice qa f.sub.len da) ∧ W.cell? ⟨g + 1, 0, none⟩ = some (.int .u8 h.op) ∧ W.cell? ⟨g + 1, 1, none⟩ = some (.string h.n) ∧ W.cell? ⟨g + 1, 2, none⟩ = some (.slice pb h.ts.len cb) ∧ W.cell? ⟨g + 1, 3, none⟩ = some (.slice qb h.sub.len db) ∧ W.cell? ⟨b3, 0, none⟩ = some (.int .u8 o.op) ∧ W.cell? ⟨b3, 1, none⟩ = some (.string o.n) ∧ W.cell? ⟨b3, 2, none⟩ = some (.slice p1 o.ts.len n1) ∧ W.cell? ⟨b3, 3, none⟩ = some (.slice p2 o.sub.len n2) ∧ W.cell? ⟨b4, 0, none⟩ = some (.int .u8 gg.op) ∧ W.cell? ⟨b4, 1, none⟩ = some (.string gg.n) ∧ W.cell? ⟨b4, 2, none⟩ = some (.slice p3 gg.ts.len n3) ∧ W.cell? ⟨b4, 3, none⟩ = some (.slice p4 gg.sub.len n4) ∧ W.cell? ⟨b5, 0, none⟩ = some (.int .u8 h.op) ∧ W.cell? ⟨b5, 1, none⟩ = some (.string h.n) ∧ W.cell? ⟨b5, 2, none⟩ = some (.slice p5 h.ts.len n5) ∧ W.cell? ⟨b5, 3, none⟩ = some (.slice p6 h.sub.len n6) ∧ W.cell? ⟨b6, 0, none⟩ = some (.int .u8 f.op) ∧ W.cell? ⟨b6, 1, none⟩ = some (.string f.n) ∧ W.cell? ⟨b6, 2, none⟩ = some (.slice p7 f.ts.len n7) ∧ W.cell? ⟨b6, 3, none⟩ = some (.slice p8 f.sub.len n8) ∧ A6 f h o gg pa ca qa da pb cb qb db p1 n1 p2 n2 p3 n3 p4 n4 p5 n5 p6 n6 p7 n7 p8 n8 w g b3 b4 b5 b6 W) (first | (with_reducible assumption) | (with_reducible exact hS0))
      (first
        | (go_at_call 12; (with_reducible refine (H1.out _ (by assumption)).mono ?_); rintro e w' ⟨rfl, hSS⟩)
        | (go_at_call 12; (with_reducible refine (H2.out _ (by assumption)).mono ?_); rintro e w' ⟨rfl, hSS⟩)
        | (go_at_call 13; (with_reducible refine (H3.out _ (by assumption)).mono ?_); rintro e w' ⟨rfl, hSS⟩)
        | (go_at_call 13; (with_reducible refine (H4.out _ (by assumption)).mono ?_); rintro e w' ⟨rfl, hSS⟩)
        | (go_at_call 13; (with_reducible refine (H5.out _ (by assumption)).mono ?_); rintro e w' ⟨rfl, hSS⟩)
        | (go_at_call 13; (with_reducible refine (H6.out _ (by assumption)).mono ?_); rintro e w' ⟨rfl, hSS⟩))
    have hA := hSS.2.2.2.2.2.2.2.2.2.2.2.2.2.2.2.2.2.2.2.2.2.2.2.2
    have k1h := Lib.hid hA.1
    have k4h := Lib.hid hA.2.2.2.1
    clear hSS hA hS0 H1 H2 H3 H4 H5 H6 hd1 hd2
    go_upto_region 13 with fail
    go_wp2_with fail
    go_loopw [17] (fun i wr => ∃ k : Nat, i = .int .i64 k ∧ k ≤ l.length ∧ k ≤ m.length ∧ l.take k = m.take k ∧ FS f (.slice pa f.ts.len ca) (.slice qa f.sub.len da) w g wr ∧ FS gg (.slice p3 gg.ts.len n3) (.slice p4 gg.sub.len n4) w b4 wr) (fun i _ => l.length - (intOf i).toNat)
    case atStart => exact ⟨0, rfl, by omega, by omega, rfl, k1h.out, k4h.out⟩
    case round =>
      obtain ⟨k, rfl, hkl, hkm, htk, k1, k4⟩ := hrel
      have htkh := Lib.hid htk
      have k1h := Lib.hid k1
      have k4h := Lib.hid k4
      clear htk k1 k4
      by_cases e1 : k = l.length
      · have x1 : ¬ (k : Int) < (l.length : Int) := by omega
        go_wp2_with fail
        go_ret
        exact ⟨rfl, k1h.out.2.2.2.2.1⟩
      have x1 : (k : Int) < (l.length : Int) := by omega
      by_cases e2 : k = m.length
      · have x2 : ¬ (k : Int) < (m.length : Int) := by omega
        go_wp2_with fail
        go_ret
        exact ⟨rfl, k1h.out.2.2.2.2.1⟩
      have x2 : (k : Int) < (m.length : Int) := by omega
      have hw := Lib.hid k1h.out.2.2.2.2.1
      obtain ⟨_, _, bl, ol, hse, hpl, hat⟩ := LSl.opened hlh.out
      obtain ⟨_, _, bm, om, hse', hpm, hat'⟩ := LSl.opened hmh.out
      simp at hse hse'
      obtain ⟨rfl, rfl⟩ := hse
      obtain ⟨rfl, rfl⟩ := hse'
      obtain rfl := hpl.resolve_left (by omega)
      obtain rfl := hpm.resolve_left (by omega)
      have y1 := cell_below hw.out (hat.get (k := k) (by omega))
      have y2 := cell_below hw.out (hat'.get (k := k) (by omega))
      have hg1 : l[k]? = some l[k] := List.getElem?_eq_getElem (by omega)
      have hg2 : m[k]? = some m[k] := List.getElem?_eq_getElem (by omega)
      obtain ⟨x, hx⟩ : ∃ x, l[k] = x := ⟨_, rfl⟩
      obtain ⟨y, hy⟩ : ∃ y, m[k] = y := ⟨_, rfl⟩
      rw [hx] at y1 hg1
      rw [hy] at y2 hg2
      have hg1h := Lib.hid hg1
      have hg2h := Lib.hid hg2
      clear hx hy hat hat' hpl hpm hg1 hg2
      by_cases hxy : x = y
      · have hxy' : (x != y) = false := by simp [hxy]
        go_wp2_with fail
        go_quiet (fail)
        go_wp2_with fail
        refine ⟨⟨k + 1, by go_num, by omega, by omega, ?_, k1h.out.next (bel_drN _ _), k4h.out.next (bel_drN _ _)⟩, by simp [intOf]; omega⟩
        rw [List.take_add_one, List.take_add_one, htkh.out, hg1h.out, hg2h.out, hxy]
      have hxy' : (x != y) = true := by simp [hxy]
      have hoth := Lib.hid (FT.part_other l m f h gg k (by omega) (by omega) htkh.out (by rw [hg1h.out, hg2h.out]; simp; exact hxy) hputh.out)
      obtain ⟨c10, c11, c12, c13, -⟩ := k1h.out
      clear htkh hg1h hg2h
      have hm2 := Lib.hid (fun V (hV : Below w.heap.size w V) => hMh.out V hV)
      go_wp2_with fail
      go_quiet (fail)
      go_upto_region 17 with fail
      obtain ⟨V0, hV0⟩ : ∃ V0, wr.drewN nq = V0 := ⟨_, rfl⟩
      have hbV0 : Below wr.heap.size wr V0 := by rw [← hV0]; exact bel_drN _ _
      rw [hV0]
      have k1h := Lib.hid (k1h.out.next hbV0)
      have k4h := Lib.hid (k4h.out.next hbV0)
      clear c10 c11 c12 c13 y1 y2 hw hV0 hbV0 hxy hxy' e1 e2 x1 x2
      obtain ⟨c10, c11, c12, c13, -⟩ := k1h.out
      cases hpm2 : f.part m with
      | none =>
        have HC := Lib.hid (at_none f m hpm2 _ _ V0 k1h.out.val (hm2.out V0 k1h.out.2.2.2.2.1) (by omega) s1)
        have hgm := Lib.hid (hoth.out.trans hpm2)
        clear hpm2
        go_wp2_with fail
        refine HC.out.mono ?_
        rintro e w5 ⟨rfl, hb5⟩
        clear c10 c11 c12 c13
        go_upto_region 18 with fail
        obtain ⟨W6, hW6, hb6, z1⟩ := box_zero (w := w) (bel_step k1h.out.2.2.2.2.1 hb5) 25
        have hb56 := bel_step hb5 hb6
        have k4h := Lib.hid (k4h.out.next hb56)
        have z1h := Lib.hid z1
        rw [hW6]
        have HC2 := Lib.hid (at_none gg m hgm.out _ _ W6 k4h.out.val (hm2.out W6 z1h.out.2.2.2.2) (by omega) sg)
        obtain ⟨c40, c41, c42, c43, -⟩ := k4h.out
        clear HC hb5 hb6 hb56 z1 hW6
        go_wp2_with fail
        refine HC2.out.mono ?_
        rintro e w7 ⟨rfl, hb7⟩
        clear c40 c41 c42 c43
        go_upto_region 19 with fail
        obtain ⟨W8, hW8, hb8, z2⟩ := box_zero (w := w) (bel_step z1h.out.2.2.2.2 hb7) 25
        have z1h := Lib.hid (z1h.out.next (bel_step hb7 hb8))
        have z2h := Lib.hid z2
        rw [hW8]
        clear HC2 hb7 hb8 z2 hW8
        obtain ⟨d0, d1, d2, d3, -⟩ := z1h.out
        obtain ⟨d4, d5, d6, d7, -⟩ := z2h.out
        go_wp2_with fail
        refine (HZ.out _).mono ?_
        rintro e w9 ⟨rfl, hb9⟩
        have hfin := Lib.hid (bel_step z1h.out.2.2.2.2 hb9)
        clear hb9 d0 d1 d2 d3 d4 d5 d6 d7 HZ
        go_wp2_with fail
        go_ret
        exact ⟨rfl, hfin.out⟩
      | some z =>
        have HC := Lib.hid (at_some f z m hpm2 _ _ V0 k1h.out.val (hm2.out V0 k1h.out.2.2.2.2.1) (by omega) s1)
        have hgm := Lib.hid (hoth.out.trans hpm2)
        have sz : z.size ≤ 1000000 := Nat.le_trans (Fs.part_size m f z hpm2) s1
        clear hpm2
        go_wp2_with fail
        refine HC.out.mono ?_
        rintro e w5 ⟨⟨q1, r1, q2, r2, rfl, hv5⟩, hb5⟩
        obtain ⟨W6, hW6, hb6, z1⟩ := box_of (w := w) (bel_step k1h.out.2.2.2.2.1 hb5) hv5 25
        have hb56 := bel_step hb5 hb6
        have k4h := Lib.hid (k4h.out.next hb56)
        have z1h := Lib.hid z1
        have HC2 := Lib.hid (at_some gg z m hgm.out _ _ W6 k4h.out.val (hm2.out W6 z1h.out.2.2.2.2.1) (by omega) sg)
        clear HC hb5 hb6 hb56 z1 c10 c11 c12 c13 hv5
        obtain ⟨c40, c41, c42, c43, -⟩ := k4h.out
        go_wp2_with fail
        refine HC2.out.mono ?_
        rintro e w7 ⟨⟨q3, r3, q4, r4, rfl, hv7⟩, hb7⟩
        obtain ⟨W8, hW8, hb8, z2⟩ := box_of (w := w) (bel_step z1h.out.2.2.2.2.1 hb7) hv7 25
        have z1h := Lib.hid (z1h.out.next (bel_step hb7 hb8))
        have z2h := Lib.hid z2
        have HSx := Lib.hid (sameF_any z _ z _ W8 z1h.out.val z2h.out.val sz sz)
        rw [FT.eqB_refl] at HSx
        clear HC2 hb7 hb8 z2 c40 c41 c42 c43 hv7
        obtain ⟨d0, d1, d2, d3, -⟩ := z1h.out
        obtain ⟨d4, d5, d6, d7, -⟩ := z2h.out
        go_wp2_with fail
        refine HSx.out.mono ?_
        rintro e w9 ⟨rfl, hb9⟩
        have hfin := Lib.hid (bel_step z1h.out.2.2.2.2.1 hb9)
        clear hb9 d0 d1 d2 d3 d4 d5 d6 d7 HZ HSx
        go_wp2_with fail
        go_ret
        exact ⟨rfl, hfin.out⟩
end Go.Proofs.YtngdieldgnlogaaDoor
