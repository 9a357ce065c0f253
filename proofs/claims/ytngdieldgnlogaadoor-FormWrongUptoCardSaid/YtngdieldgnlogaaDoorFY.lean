/- The law's atom and term. -/
import Derived.Test.YtngdieldgnlogaaDoorFX
namespace Go.Proofs.YtngdieldgnlogaaDoor
open Go Go.RowKit
set_option maxRecDepth 100000
set_option linter.unusedVariables false
/-- What a cell holds. -/
def cellV (W : World) (b k : Nat) : Value := (W.cell? ⟨b, k, none⟩).getD undef
theorem cellV_is {W : World} {b k : Nat} {v : Value} (h : W.cell? ⟨b, k, none⟩ = some v) : cellV W b k = v := by unfold cellV; rw [h]; rfl
theorem cellV_of {W : World} {b k : Nat} {v : Value} (h : Wc W b k v) : W.cell? ⟨b, k, none⟩ = some (cellV W b k) ∧ W.frozen? ⟨b, k, none⟩ = false := ⟨by rw [cellV_is h.1]; exact h.1, h.2⟩
theorem wq1 {w w1 : World} {b k : Nat} {v : Value} {r : Option Nat} {P : Prop} (_ : P) (hg : w.grownBy w1 r) (hn : some b ≠ r) (h : Wc w b k v) : Wc w1 b k v :=
  ⟨hg.cell h.1 hn, (hg.frozen_far _ (lt_of_cell h.1) hn).trans h.2⟩
theorem wq2 {w w1 : World} {b k : Nat} {v u : Value} {r : Option Nat} {P : Prop} (hp : P) (hg : w.grownBy w1 r) (hn : some b ≠ r) (h : Wc w b k v) : Wc (w1.setCell ⟨b, k, none⟩ u) b k u :=
  wc_on (wq1 hp hg hn h).1 (wq1 hp hg hn h).2
theorem atom_any (n : ByteArray) (w : World) : Calls Tryd.prog 24 #[.string n, .slice none 0 0] w fun e w' => e = .returned (.agg #[.int .u8 1, .string n, .slice none 0 0, .slice none 0 0]) ∧ Below w.heap.size w w' := by
  go_enter Tryd.func24, Tryd.ntmps24
  go_wp2
  refine bodyPost_ret (v := .agg #[.int .u8 1, .string n, .slice none 0 0, .slice none 0 0]) ?_ rfl ⟨rfl, bel_laid _ _⟩
  simp [results, Tryd.results24, go_sem]
theorem term_any (w : World) : Calls Tryd.prog 25 #[.string ⟨#[97]⟩, .slice none 0 0] w fun e w' => e = .returned (.agg #[.bool false, .string ⟨#[97]⟩, .slice none 0 0]) ∧ Below w.heap.size w w' := by
  go_enter Tryd.func25, Tryd.ntmps25
  go_wp2
  refine bodyPost_ret (v := .agg #[.bool false, .string ⟨#[97]⟩, .slice none 0 0]) ?_ rfl ⟨rfl, bel_laid _ _⟩
  simp [results, Tryd.results25, go_sem]
  decide
theorem infoI : (Tryd.prog.info? 3).map (fun i => (i.zero, i.size, i.bytes)) = some (some (.int .i64 0), 1, 8) := by kernel_rfl
/-- What is held in the round: the box (whatever it holds), and the part's cells. -/
abbrev RdS (b8 bu ou : Nat) (c0 c1 c2 c3 : Value) (W : World) : Prop :=
  (W.cell? ⟨b8, 0, none⟩ = some (cellV W b8 0) ∧ W.frozen? ⟨b8, 0, none⟩ = false) ∧ (W.cell? ⟨b8, 1, none⟩ = some (cellV W b8 1) ∧ W.frozen? ⟨b8, 1, none⟩ = false) ∧ (W.cell? ⟨b8, 2, none⟩ = some (cellV W b8 2) ∧ W.frozen? ⟨b8, 2, none⟩ = false) ∧ (W.cell? ⟨b8, 3, none⟩ = some (cellV W b8 3) ∧ W.frozen? ⟨b8, 3, none⟩ = false) ∧
  W.cell? ⟨bu, ou, none⟩ = some c0 ∧ W.cell? ⟨bu, ou + 1, none⟩ = some c1 ∧ W.cell? ⟨bu, ou + 2, none⟩ = some c2 ∧ W.cell? ⟨bu, ou + 3, none⟩ = some c3
theorem RdS.mk' {b8 bu ou : Nat} {c0 c1 c2 c3 v0 v1 v2 v3 : Value} {W : World} (y0 : Wc W b8 0 v0) (y1 : Wc W b8 1 v1) (y2 : Wc W b8 2 v2) (y3 : Wc W b8 3 v3) (e0 : W.cell? ⟨bu, ou, none⟩ = some c0) (e1 : W.cell? ⟨bu, ou + 1, none⟩ = some c1) (e2 : W.cell? ⟨bu, ou + 2, none⟩ = some c2) (e3 : W.cell? ⟨bu, ou + 3, none⟩ = some c3) : RdS b8 bu ou c0 c1 c2 c3 W :=
  ⟨cellV_of y0, cellV_of y1, cellV_of y2, cellV_of y3, e0, e1, e2, e3⟩
theorem RdS.below {b8 bu ou : Nat} {c0 c1 c2 c3 : Value} {W W' : World} (hb : Below W.heap.size W W') (h : RdS b8 bu ou c0 c1 c2 c3 W) : RdS b8 bu ou c0 c1 c2 c3 W' :=
  RdS.mk' (Wc.below hb (show Wc W b8 0 _ from h.1)) (Wc.below hb (show Wc W b8 1 _ from h.2.1)) (Wc.below hb (show Wc W b8 2 _ from h.2.2.1)) (Wc.below hb (show Wc W b8 3 _ from h.2.2.2.1)) (cell_below hb h.2.2.2.2.1) (cell_below hb h.2.2.2.2.2.1) (cell_below hb h.2.2.2.2.2.2.1) (cell_below hb h.2.2.2.2.2.2.2)
theorem RdS.grown {b8 bu ou : Nat} {c0 c1 c2 c3 : Value} {W W' : World} {r : Option Nat} (hg : W.grownBy W' r) (hn : some b8 ≠ r) (hu : some bu ≠ r) (h : RdS b8 bu ou c0 c1 c2 c3 W) : RdS b8 bu ou c0 c1 c2 c3 W' :=
  RdS.mk' (wq1 trivial hg hn (show Wc W b8 0 _ from h.1)) (wq1 trivial hg hn (show Wc W b8 1 _ from h.2.1)) (wq1 trivial hg hn (show Wc W b8 2 _ from h.2.2.1)) (wq1 trivial hg hn (show Wc W b8 3 _ from h.2.2.2.1)) (hg.cell h.2.2.2.2.1 hu) (hg.cell h.2.2.2.2.2.1 hu) (hg.cell h.2.2.2.2.2.2.1 hu) (hg.cell h.2.2.2.2.2.2.2 hu)
theorem RdS.set {b8 bu ou : Nat} {c0 c1 c2 c3 a0 a1 a2 a3 : Value} {W : World} (hne : bu ≠ b8) (h : RdS b8 bu ou c0 c1 c2 c3 W) : RdS b8 bu ou c0 c1 c2 c3 ((((W.setCell ⟨b8, 0, none⟩ a0).setCell ⟨b8, 1, none⟩ a1).setCell ⟨b8, 2, none⟩ a2).setCell ⟨b8, 3, none⟩ a3) := by
  obtain ⟨W', hW, r0, r1, r2, r3, -⟩ := set4o W b8 0 a0 a1 a2 a3 (show Wc W b8 0 _ from h.1) (show Wc W b8 1 _ from h.2.1) (show Wc W b8 2 _ from h.2.2.1) (show Wc W b8 3 _ from h.2.2.2.1)
  simp only [Nat.zero_add] at hW r1 r2 r3
  refine RdS.mk' (v0 := a0) (v1 := a1) (v2 := a2) (v3 := a3) ?_ ?_ ?_ ?_ (keep4 h.2.2.2.2.1 hne) (keep4 h.2.2.2.2.2.1 hne) (keep4 h.2.2.2.2.2.2.1 hne) (keep4 h.2.2.2.2.2.2.2 hne) <;> rw [hW]
  · exact r0
  · exact r1
  · exact r2
  · exact r3
theorem FT.part_app : ∀ (l m : List Int) (f : FT), f.part (l ++ m) = (f.part l).bind fun o => o.part m
  | [], m, f => rfl
  | i :: l, m, f => by
    simp only [List.cons_append, FT.part]
    split
    · exact FT.part_app l m _
    · rfl
theorem FT.part_snoc {f o : FT} {l : List Int} {k : Nat} (h : f.part l = some o) (hk : k < o.sub.len) : f.part (l ++ [(k : Int)]) = some (o.sub.get k) := by
  rw [FT.part_app, h]
  show o.part [(k : Int)] = _
  rw [FT.part, if_pos (by omega)]
  rfl
end Go.Proofs.YtngdieldgnlogaaDoor
