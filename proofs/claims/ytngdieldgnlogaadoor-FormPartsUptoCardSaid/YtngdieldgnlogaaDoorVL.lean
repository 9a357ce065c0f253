/- append(append([]int{}, place...), x) in a region that draws its order: what is so on the way. -/
import Derived.Test.YtngdieldgnlogaaDoorVK
namespace Go.Proofs.YtngdieldgnlogaaDoor
open Go Go.RowKit
set_option maxRecDepth 100000
set_option linter.unusedVariables false
def intsL (l : List Int) : List Value := l.map fun i => .int .i64 i
theorem rowL {W : World} {z : Nat} {s : Value} {l : List Int} (h : W.ownsRow z 3 1 s l.length (intsL l)) : LSl W l s := by
  obtain ⟨h0, ⟨rfl, hz⟩ | ⟨g, cap, cur, rfl, hg, h3, h4⟩⟩ := id h
  · exact ⟨none, 0, by rw [hz], .inl hz⟩
  · refine ⟨_, _, rfl, .inr ⟨g, 0, rfl, ?_⟩⟩
    have hall : ∀ (r : List Int) (k : Nat), (∀ j (hj : j < r.length), W.cell? ⟨g, k + j, none⟩ = some (.int .i64 r[j])) → LsAt W r g k := by
      intro r
      induction r with
      | nil => intro k _; trivial
      | cons x r ih =>
        intro k hj
        refine ⟨by have h9 := hj 0 (by simp); rw [Nat.add_zero] at h9; exact h9, ih (k + 1) fun j hj' => ?_⟩
        have := hj (j + 1) (by simpa using hj')
        rw [show k + 1 + j = k + (j + 1) by omega]
        simpa using this
    refine hall l 0 fun j hj => ?_
    rw [Nat.zero_add, h.cellAt j (by omega)]
    simp [intsL, hj]
theorem lsAt_get {W : World} : ∀ {l : List Int} {b o j : Nat}, LsAt W l b o → ∀ u, (intsL l)[j]? = some u → W.cell? ⟨b, o + j, none⟩ = some u
  | [], _, _, _, _, _, hu => by simp [intsL] at hu
  | x :: l, b, o, 0, ⟨h, _⟩, u, hu => by simp [intsL] at hu; subst hu; exact h
  | x :: l, b, o, j + 1, ⟨_, h⟩, u, hu => by
    have := lsAt_get (j := j) h u (by simpa [intsL] using hu)
    rwa [show o + 1 + j = o + (j + 1) by omega] at this
theorem infoI3 : (Tryd.prog.info? 3).map (fun i => (i.zero, i.size, i.bytes)) = some (some (.int .i64 0), 1, 8) := by kernel_rfl
/-- A list of numbers is appended to an own empty one. -/
theorem run_app_ints {w : World} {base : Nat} {v : Value} {pl : List Int} {p : Option Addr} {c : Nat} (ty : TypeId) (hown : w.ownsRow base 3 1 v 0 []) (hl : LSl w pl (.slice p pl.length c)) (hn : pl.length ≤ 1000000) (hb : base ≤ w.heap.size) :
    ∃ v' w', (Builtin.append_ #[26, 26] ty #[v, .slice p pl.length c]).run Tryd.prog w = .ok v' w' ∧ w'.ownsRow base 3 1 v' pl.length (intsL pl) ∧ w.grownBy w' v.ownBlock ∧ (v'.ownBlock = v.ownBlock ∨ v'.ownBlock = some w.heap.size) := by
  obtain ⟨i0, hi, hz0, hz1, hz2⟩ := info_parts infoI3
  by_cases h0 : pl = []
  · subst h0
    refine ⟨v, w, ?_, hown, World.grownBy.refl _ _, .inl rfl⟩
    obtain ⟨-, ⟨rfl, -⟩ | ⟨g, cap, cur, rfl, -⟩⟩ := id hown
    · cases p <;> simp [Builtin.append_, Builtin.lenOf, Builtin.firstCells, loadCells, loadCellsFrom, run_underlying Tryd.underlying26]
    · cases p <;> simp [Builtin.append_, Builtin.lenOf, Builtin.firstCells, loadCells, loadCellsFrom, storeCells, run_underlying Tryd.underlying26]
  · have hpos : 0 < pl.length := List.length_pos_iff.2 h0
    obtain ⟨p', c', he, h1⟩ := hl
    cases he
    obtain ⟨b, o, e1, h2'⟩ := h1.resolve_left (by omega)
    subst e1
    clear h1
    obtain ⟨gg, cap, w', hr, h2, h3, h4, h5⟩ := run_append_lies (P := Tryd.prog) (w := w) 26 ty base 3 i0 _ 1 8 Tryd.underlying26 hi hz0 hz1 hz2 rfl (by decide) v 0 [] hown ⟨b, o, none⟩ pl.length c (intsL pl) (by simp [intsL]) (fun j u hu => by
      have e : (⟨b, o, none⟩ : Addr).add j = ⟨b, o + j, none⟩ := by by_cases hj : j = 0 <;> simp [Addr.add, hj]
      rw [e]
      exact lsAt_get h2' u hu) (fun u hu => by
        obtain ⟨i, -, rfl⟩ := List.mem_map.1 hu
        rfl) hpos (by unfold maxLen; omega) (by omega) hb _ rfl
    rw [Nat.zero_add, List.nil_append] at h2
    rw [Nat.zero_add] at hr
    exact ⟨_, w', hr, h2, h3, h4.imp (fun e => e.symm) (fun e => by rw [e]; rfl)⟩
/-- Slots that are known, and that the caller's cells stay. -/
structure JV (w0 : World) (lits : List (Nat × Nat × Value)) (l : Nat → Bool) (g : Nat → Value) (W : World) : Prop where
  lit : ∀ p ∈ lits, l p.1 = true → g p.2.1 = p.2.2
  low : Below w0.heap.size w0 W
def okV (lits : List (Nat × Nat × Value)) : Bool := decide ((lits.map (fun p => p.1)).Pairwise (· ≠ ·)) && decide ((lits.map (fun p => p.2.1)).Pairwise (· ≠ ·))
section
variable {w0 : World} {lits : List (Nat × Nat × Value)} {l : Nat → Bool} {g : Nat → Value} {W : World}
theorem JV.start (g : Nat → Value) (w : World) : JV w lits (fun _ => false) g w.drew := ⟨fun p _ h => (by cases h), bel_drew w⟩
theorem JV.made (ok : okV lits = true) (h : JV w0 lits l g W) {i d : Nat} {v : Value} (hi : (i, d, v) ∈ lits) {W' : World} (hb : Below w0.heap.size w0 W') : JV w0 lits (upd l i true) (upd g d v) W' := by
  simp only [okV, Bool.and_eq_true, decide_eq_true_eq] at ok
  refine ⟨fun p hp hl => ?_, hb⟩
  by_cases ep : p.1 = i
  · have := uniq_map _ ok.1 hp hi ep
    subst this
    exact upd_same _ _ _
  · rw [upd_ne _ _ ep] at hl
    rw [upd_ne _ _ (fun ed => ep (by have := uniq_map (fun p : Nat × Nat × Value => p.2.1) ok.2 hp hi ed; rw [this])), h.lit p hp hl]
theorem JV.same (ok : okV lits = true) (h : JV w0 lits l g W) {i d : Nat} {v : Value} (hi : (i, d, v) ∈ lits) : JV w0 lits (upd l i true) (upd g d v) W := h.made ok hi h.low
theorem JV.side (h : JV w0 lits l g W) {i d : Nat} {v : Value} (h6 : lits.all (fun p => decide (p.1 ≠ i) && decide (p.2.1 ≠ d)) = true) {W' : World} (hb : Below w0.heap.size w0 W') : JV w0 lits (upd l i true) (upd g d v) W' := by
  simp only [Bool.and_eq_true, decide_eq_true_eq, List.all_eq_true] at h6
  refine ⟨fun p hp hl => ?_, hb⟩
  rw [upd_ne _ _ (h6 p hp).1] at hl
  rw [upd_ne _ _ (h6 p hp).2, h.lit p hp hl]
theorem JV.sideOp (h : JV w0 lits l g W) {i : Nat} (h6 : lits.all (fun p => decide (p.1 ≠ i)) = true) {W' : World} (hb : Below w0.heap.size w0 W') : JV w0 lits (upd l i true) g W' := by
  simp only [decide_eq_true_eq, List.all_eq_true] at h6
  refine ⟨fun p hp hl => ?_, hb⟩
  rw [upd_ne _ _ (h6 p hp)] at hl
  exact h.lit p hp hl
end
/-- The two appends: an empty list d1, the place appended d2, the number laid d3, both appended d4. -/
structure JL (lo : Nat) (pl : List Int) (x : Int) (i1 d1 i2 d2 i3 d3 i4 d4 : Nat) (l : Nat → Bool) (g : Nat → Value) (W : World) : Prop where
  e1 : l i1 = true → l i2 = false → W.ownsRow lo 3 1 (g d1) 0 []
  e2 : l i2 = true → l i4 = false → W.ownsRow lo 3 1 (g d2) pl.length (intsL pl)
  e3 : l i3 = true → l i4 = false → ∃ b, g d3 = .slice (some ⟨b, 0, none⟩) 1 1 ∧ b < W.heap.size ∧ W.cell? ⟨b, 0, none⟩ = some (.int .i64 x) ∧ (l i1 = true → l i2 = false → (g d1).ownBlock ≠ some b) ∧ (l i2 = true → (g d2).ownBlock ≠ some b)
  e4 : l i4 = true → LSl W (pl ++ [x]) (g d4)
def okL (i1 d1 i2 d2 i3 d3 i4 d4 : Nat) : Bool := decide ([i1, i2, i3, i4].Pairwise (· ≠ ·)) && decide ([d1, d2, d3, d4].Pairwise (· ≠ ·))
section
variable {lo : Nat} {pl : List Int} {x : Int} {i1 d1 i2 d2 i3 d3 i4 d4 : Nat} {l : Nat → Bool} {g : Nat → Value} {W : World}
theorem JL.start (g : Nat → Value) (w : World) : JL lo pl x i1 d1 i2 d2 i3 d3 i4 d4 (fun _ => false) g w :=
  ⟨fun h => (by cases h), fun h => (by cases h), fun h => (by cases h), fun h => (by cases h)⟩
/-- Another operation. -/
theorem JL.other (h : JL lo pl x i1 d1 i2 d2 i3 d3 i4 d4 l g W) {i d : Nat} {v : Value} (hi : ([i1, i2, i3, i4].all (fun k => decide (k ≠ i)) && [d1, d2, d3, d4].all (fun k => decide (k ≠ d))) = true) {W' : World} (hb : Below W.heap.size W W') :
    JL lo pl x i1 d1 i2 d2 i3 d3 i4 d4 (upd l i true) (upd g d v) W' := by
  simp only [List.all_cons, List.all_nil, Bool.and_true, Bool.and_eq_true, decide_eq_true_eq] at hi
  obtain ⟨⟨a1, a2, a3, a4⟩, b1, b2, b3, b4⟩ := hi
  refine ⟨?_, ?_, ?_, ?_⟩
  · rw [upd_ne _ _ a1, upd_ne _ _ a2, upd_ne _ _ b1]
    exact fun h1 h2 => owns_below hb (h.e1 h1 h2)
  · rw [upd_ne _ _ a2, upd_ne _ _ a4, upd_ne _ _ b2]
    exact fun h1 h2 => owns_below hb (h.e2 h1 h2)
  · rw [upd_ne _ _ a3, upd_ne _ _ a4, upd_ne _ _ b3, upd_ne _ _ a1, upd_ne _ _ a2, upd_ne _ _ b1, upd_ne _ _ b2]
    intro h1 h2
    obtain ⟨b, k1, k2, k3, k4, k5⟩ := h.e3 h1 h2
    exact ⟨b, k1, Nat.lt_of_lt_of_le k2 hb.size, cell_below hb k3, k4, k5⟩
  · rw [upd_ne _ _ a4, upd_ne _ _ b4]
    exact fun h1 => LSl.below hb (h.e4 h1)
theorem JL.otherOp (h : JL lo pl x i1 d1 i2 d2 i3 d3 i4 d4 l g W) {i : Nat} (hi : ([i1, i2, i3, i4].all (fun k => decide (k ≠ i))) = true) {W' : World} (hb : Below W.heap.size W W') :
    JL lo pl x i1 d1 i2 d2 i3 d3 i4 d4 (upd l i true) g W' := by
  simp only [List.all_cons, List.all_nil, Bool.and_true, Bool.and_eq_true, decide_eq_true_eq] at hi
  obtain ⟨a1, a2, a3, a4⟩ := hi
  refine ⟨?_, ?_, ?_, ?_⟩
  · rw [upd_ne _ _ a1, upd_ne _ _ a2]
    exact fun h1 h2 => owns_below hb (h.e1 h1 h2)
  · rw [upd_ne _ _ a2, upd_ne _ _ a4]
    exact fun h1 h2 => owns_below hb (h.e2 h1 h2)
  · rw [upd_ne _ _ a3, upd_ne _ _ a4, upd_ne _ _ a1, upd_ne _ _ a2]
    intro h1 h2
    obtain ⟨b, k1, k2, k3, k4, k5⟩ := h.e3 h1 h2
    exact ⟨b, k1, Nat.lt_of_lt_of_le k2 hb.size, cell_below hb k3, k4, k5⟩
  · rw [upd_ne _ _ a4]
    exact fun h1 => LSl.below hb (h.e4 h1)
theorem okL.out (ok : okL i1 d1 i2 d2 i3 d3 i4 d4 = true) : (i1 ≠ i2 ∧ i1 ≠ i3 ∧ i1 ≠ i4 ∧ i2 ≠ i3 ∧ i2 ≠ i4 ∧ i3 ≠ i4) ∧ (d1 ≠ d2 ∧ d1 ≠ d3 ∧ d1 ≠ d4 ∧ d2 ≠ d3 ∧ d2 ≠ d4 ∧ d3 ≠ d4) := by
  simp only [okL, Bool.and_eq_true, decide_eq_true_eq, List.pairwise_cons, List.mem_cons, List.not_mem_nil, or_false, forall_eq_or_imp, forall_eq] at ok
  obtain ⟨⟨⟨a1, a2, a3⟩, ⟨a4, a5⟩, a6, -⟩, ⟨⟨b1, b2, b3⟩, ⟨b4, b5⟩, b6, -⟩⟩ := ok
  exact ⟨⟨a1, a2, a3, a4, a5, a6⟩, b1, b2, b3, b4, b5, b6⟩
/-- The empty list is laid. -/
theorem JL.lay1 (ok : okL i1 d1 i2 d2 i3 d3 i4 d4 = true) (h : JL lo pl x i1 d1 i2 d2 i3 d3 i4 d4 l g W) (hlo : lo ≤ W.heap.size) (h2 : l i2 = false) :
    JL lo pl x i1 d1 i2 d2 i3 d3 i4 d4 (upd l i1 true) (upd g d1 (.slice (some ⟨W.heap.size, 0, none⟩) 0 0)) (W.alloc (.cells #[] 3)) := by
  obtain ⟨⟨a1, a2, a3, a4, a5, a6⟩, b1, b2, b3, b4, b5, b6⟩ := okL.out ok
  have hb := bel_laid W (.cells #[] 3)
  refine ⟨?_, ?_, ?_, ?_⟩
  · intro _ _
    rw [upd_same]
    exact World.ownsRow_made W #[] 0 hlo (by unfold maxLen; omega) rfl
  · rw [upd_ne _ _ (Ne.symm a1), upd_ne _ _ (Ne.symm a3), upd_ne _ _ (Ne.symm b1)]
    exact fun k1 k2 => owns_below hb (h.e2 k1 k2)
  · rw [upd_ne _ _ (Ne.symm a2), upd_ne _ _ (Ne.symm a3), upd_ne _ _ (Ne.symm b2), upd_ne _ _ (Ne.symm a1), upd_ne _ _ (Ne.symm b1), upd_same, upd_same]
    intro k1 k2
    obtain ⟨b, m1, m2, m3, m4, m5⟩ := h.e3 k1 k2
    exact ⟨b, m1, Nat.lt_of_lt_of_le m2 hb.size, cell_below hb m3, fun _ _ e => by simp [Value.ownBlock] at e; omega, m5⟩
  · rw [upd_ne _ _ (Ne.symm a3), upd_ne _ _ (Ne.symm b3)]
    exact fun k1 => LSl.below hb (h.e4 k1)
/-- The place is appended. -/
theorem JL.app1 (ok : okL i1 d1 i2 d2 i3 d3 i4 d4 = true) (h : JL lo pl x i1 d1 i2 d2 i3 d3 i4 d4 l g W) (k1 : l i1 = true) (k2 : l i2 = false) (k4 : l i4 = false) {v' : Value} {W' : World}
    (hown : W'.ownsRow lo 3 1 v' pl.length (intsL pl)) (hgrow : W.grownBy W' (g d1).ownBlock) (hat : v'.ownBlock = (g d1).ownBlock ∨ v'.ownBlock = some W.heap.size) : JL lo pl x i1 d1 i2 d2 i3 d3 i4 d4 (upd l i2 true) (upd g d2 v') W' := by
  obtain ⟨⟨a1, a2, a3, a4, a5, a6⟩, b1, b2, b3, b4, b5, b6⟩ := okL.out ok
  refine ⟨?_, ?_, ?_, ?_⟩
  · rw [upd_same]
    exact fun _ h => (by cases h)
  · rw [upd_same, upd_same]
    exact fun _ _ => hown
  · rw [upd_ne _ _ (Ne.symm a4), upd_ne _ _ (Ne.symm a5), upd_ne _ _ (Ne.symm b4), upd_same, upd_same]
    intro m1 m2
    obtain ⟨b, n1, n2, n3, n4, n5⟩ := h.e3 m1 m2
    refine ⟨b, n1, Nat.lt_of_lt_of_le n2 hgrow.size, hgrow.cell n3 (fun e => n4 k1 k2 e.symm), fun _ h => (by cases h), fun _ e => ?_⟩
    rcases hat with e1 | e1
    · exact n4 k1 k2 (e1 ▸ e)
    · rw [e1] at e; cases e; omega
  · rw [upd_ne _ _ (Ne.symm a5), k4]
    exact fun h => (by cases h)
/-- The number is laid. -/
theorem JL.lay2 (ok : okL i1 d1 i2 d2 i3 d3 i4 d4 = true) (h : JL lo pl x i1 d1 i2 d2 i3 d3 i4 d4 l g W) (k4 : l i4 = false) :
    JL lo pl x i1 d1 i2 d2 i3 d3 i4 d4 (upd l i3 true) (upd g d3 (.slice (some ⟨W.heap.size, 0, none⟩) 1 1)) (W.alloc (.cells #[.int .i64 x] 3)) := by
  obtain ⟨⟨a1, a2, a3, a4, a5, a6⟩, b1, b2, b3, b4, b5, b6⟩ := okL.out ok
  have hb := bel_laid W (.cells #[.int .i64 x] 3)
  refine ⟨?_, ?_, ?_, ?_⟩
  · rw [upd_ne _ _ a2, upd_ne _ _ a4, upd_ne _ _ b2]
    exact fun h1 h2 => owns_below hb (h.e1 h1 h2)
  · rw [upd_ne _ _ a4, upd_ne _ _ (Ne.symm a6), upd_ne _ _ b4]
    exact fun h1 h2 => owns_below hb (h.e2 h1 h2)
  · rw [upd_ne _ _ a2, upd_ne _ _ a4, upd_ne _ _ b2, upd_ne _ _ b4, upd_same, upd_same]
    intro _ _
    refine ⟨W.heap.size, rfl, by simp, by rw [cell_new]; rfl, fun m1 m2 e => ?_, fun m1 e => ?_⟩
    · have := ((h.e1 m1 m2).lt _ e).2; omega
    · have := ((h.e2 m1 k4).lt _ e).2; omega
  · rw [upd_ne _ _ (Ne.symm a6), k4]
    exact fun h => (by cases h)
/-- Both are there. -/
theorem JL.app2 (ok : okL i1 d1 i2 d2 i3 d3 i4 d4 = true) (h : JL lo pl x i1 d1 i2 d2 i3 d3 i4 d4 l g W) (k2 : l i2 = true) {v' : Value} {W' : World} (hl : LSl W' (pl ++ [x]) v') : JL lo pl x i1 d1 i2 d2 i3 d3 i4 d4 (upd l i4 true) (upd g d4 v') W' := by
  obtain ⟨⟨a1, a2, a3, a4, a5, a6⟩, b1, b2, b3, b4, b5, b6⟩ := okL.out ok
  refine ⟨?_, ?_, ?_, ?_⟩
  · rw [upd_ne _ _ a5, k2]
    exact fun _ h => (by cases h)
  · rw [upd_same]
    exact fun _ h => (by cases h)
  · rw [upd_same]
    exact fun _ h => (by cases h)
  · rw [upd_same, upd_same]
    exact fun _ => hl
end
/-- A struct variable that is laid beside the appends. -/
structure AL (lo : Nat) (iA dA iS i1 d1 i2 d2 : Nat) (l : Nat → Bool) (g : Nat → Value) (W : World) : Prop where
  a : l iA = true → l iS = false → ∃ b, g dA = .pointer (some ⟨b, 0, none⟩) ∧ lo ≤ b ∧ b < W.heap.size ∧ Fr4' b W ∧ (l i1 = true → l i2 = false → (g d1).ownBlock ≠ some b) ∧ (l i2 = true → (g d2).ownBlock ≠ some b)
section
variable {lo : Nat} {iA dA iS i1 d1 i2 d2 : Nat} {l : Nat → Bool} {g : Nat → Value} {W : World}
theorem AL.start (g : Nat → Value) (w : World) : AL lo iA dA iS i1 d1 i2 d2 (fun _ => false) g w := ⟨fun h => (by cases h)⟩
theorem Fr4'.grown {b : Nat} {W W' : World} {r : Option Nat} (hg : W.grownBy W' r) (hn : r ≠ some b) (h : Fr4' b W) : Fr4' b W' := fun j hj => (h j hj).imp fun _ hu => wq1 trivial hg (fun e => hn e.symm) hu
theorem AL.other (h : AL lo iA dA iS i1 d1 i2 d2 l g W) {i d : Nat} {v : Value} (hi : ([iA, iS, i1, i2].all (fun k => decide (k ≠ i)) && [dA, d1, d2].all (fun k => decide (k ≠ d))) = true) {W' : World} (hb : Below W.heap.size W W') : AL lo iA dA iS i1 d1 i2 d2 (upd l i true) (upd g d v) W' := by
  simp only [List.all_cons, List.all_nil, Bool.and_true, Bool.and_eq_true, decide_eq_true_eq] at hi
  obtain ⟨⟨a1, a2, a3, a4⟩, b1, b2, b3⟩ := hi
  refine ⟨?_⟩
  rw [upd_ne _ _ a1, upd_ne _ _ a2, upd_ne _ _ a3, upd_ne _ _ a4, upd_ne _ _ b1, upd_ne _ _ b2, upd_ne _ _ b3]
  intro h1 h2
  obtain ⟨b, k1, k2, k3, k4, k5, k6⟩ := h.a h1 h2
  exact ⟨b, k1, k2, Nat.lt_of_lt_of_le k3 hb.size, k4.below hb, k5, k6⟩
/-- The last append. -/
theorem AL.grow (h : AL lo iA dA iS i1 d1 i2 d2 l g W) (h2 : l i2 = true) {i d : Nat} {v : Value} (hi : ([iA, iS, i1, i2].all (fun k => decide (k ≠ i)) && [dA, d1, d2].all (fun k => decide (k ≠ d))) = true) {W' : World} (hg : W.grownBy W' (g d2).ownBlock) : AL lo iA dA iS i1 d1 i2 d2 (upd l i true) (upd g d v) W' := by
  simp only [List.all_cons, List.all_nil, Bool.and_true, Bool.and_eq_true, decide_eq_true_eq] at hi
  obtain ⟨⟨a1, a2, a3, a4⟩, b1, b2, b3⟩ := hi
  refine ⟨?_⟩
  rw [upd_ne _ _ a1, upd_ne _ _ a2, upd_ne _ _ a3, upd_ne _ _ a4, upd_ne _ _ b1, upd_ne _ _ b2, upd_ne _ _ b3]
  intro h1 h3
  obtain ⟨b, k1, k2, k3, k4, k5, k6⟩ := h.a h1 h3
  exact ⟨b, k1, k2, Nat.lt_of_lt_of_le k3 hg.size, k4.grown hg (k6 h2), k5, k6⟩
def okAL (iA dA iS i1 d1 i2 d2 : Nat) : Bool := decide ([iA, iS, i1, i2].Pairwise (· ≠ ·)) && decide ([dA, d1, d2].Pairwise (· ≠ ·))
theorem okAL.out (ok : okAL iA dA iS i1 d1 i2 d2 = true) : (iA ≠ iS ∧ iA ≠ i1 ∧ iA ≠ i2 ∧ iS ≠ i1 ∧ iS ≠ i2 ∧ i1 ≠ i2) ∧ dA ≠ d1 ∧ dA ≠ d2 ∧ d1 ≠ d2 := by
  simp only [okAL, Bool.and_eq_true, decide_eq_true_eq, List.pairwise_cons, List.mem_cons, List.not_mem_nil, or_false, forall_eq_or_imp, forall_eq] at ok
  obtain ⟨⟨⟨a1, a2, a3⟩, ⟨a4, a5⟩, a6, -⟩, ⟨b1, b2⟩, b3, -⟩ := ok
  exact ⟨⟨a1, a2, a3, a4, a5, a6⟩, b1, b2, b3⟩
theorem AL.lay1 (ok : okAL iA dA iS i1 d1 i2 d2 = true) (h : AL lo iA dA iS i1 d1 i2 d2 l g W) (h2 : l i2 = false) : AL lo iA dA iS i1 d1 i2 d2 (upd l i1 true) (upd g d1 (.slice (some ⟨W.heap.size, 0, none⟩) 0 0)) (W.alloc (.cells #[] 3)) := by
  obtain ⟨⟨a1, a2, a3, a4, a5, a6⟩, b1, b2, b3⟩ := okAL.out ok
  refine ⟨?_⟩
  rw [upd_ne _ _ a2, upd_ne _ _ a4, upd_same, upd_ne _ _ (Ne.symm a6), upd_ne _ _ b1, upd_same, upd_ne _ _ (Ne.symm b3)]
  intro h1 h3
  obtain ⟨b, k1, k2, k3, k4, k5, k6⟩ := h.a h1 h3
  refine ⟨b, k1, k2, by simp; omega, k4.below (bel_laid _ _), fun _ _ e => by simp [Value.ownBlock] at e; omega, k6⟩
theorem AL.app1 (ok : okAL iA dA iS i1 d1 i2 d2 = true) (h : AL lo iA dA iS i1 d1 i2 d2 l g W) (h1 : l i1 = true) (h2 : l i2 = false) {v' : Value} {W' : World} (hg : W.grownBy W' (g d1).ownBlock) (hat : v'.ownBlock = (g d1).ownBlock ∨ v'.ownBlock = some W.heap.size) :
    AL lo iA dA iS i1 d1 i2 d2 (upd l i2 true) (upd g d2 v') W' := by
  obtain ⟨⟨a1, a2, a3, a4, a5, a6⟩, b1, b2, b3⟩ := okAL.out ok
  refine ⟨?_⟩
  rw [upd_ne _ _ a3, upd_ne _ _ a5, upd_same, upd_ne _ _ a6, upd_ne _ _ b2, upd_same, upd_ne _ _ b3]
  intro m1 m3
  obtain ⟨b, k1, k2, k3, k4, k5, k6⟩ := h.a m1 m3
  refine ⟨b, k1, k2, Nat.lt_of_lt_of_le k3 hg.size, k4.grown hg (k5 h1 h2), fun _ h => (by cases h), fun _ e => ?_⟩
  rcases hat with e1 | e1
  · exact k5 h1 h2 (e1 ▸ e)
  · rw [e1] at e; cases e; omega
theorem AL.lay (ok : okAL iA dA iS i1 d1 i2 d2 = true) (hlo : lo ≤ W.heap.size) (hd1 : l i1 = true → l i2 = false → ∀ k, (g d1).ownBlock = some k → k < W.heap.size) (hd2 : l i2 = true → ∀ k, (g d2).ownBlock = some k → k < W.heap.size) :
    AL lo iA dA iS i1 d1 i2 d2 (upd l iA true) (upd g dA (.pointer (some ⟨W.heap.size, 0, none⟩))) (W.alloc (.cells #[.int .u8 0, .string ⟨#[]⟩, .slice none 0 0, .slice none 0 0] 25)) := by
  obtain ⟨⟨a1, a2, a3, a4, a5, a6⟩, b1, b2, b3⟩ := okAL.out ok
  refine ⟨?_⟩
  rw [upd_same, upd_ne _ _ (Ne.symm a1), upd_ne _ _ (Ne.symm a2), upd_ne _ _ (Ne.symm a3), upd_same, upd_ne _ _ (Ne.symm b1), upd_ne _ _ (Ne.symm b2)]
  intro _ _
  exact ⟨_, rfl, hlo, by simp, Fr4'.new W, fun m1 m2 e => by have := hd1 m1 m2 _ e; omega, fun m1 e => by have := hd2 m1 _ e; omega⟩
theorem AL.gone {i : Nat} (hi : i = iS) : AL lo iA dA iS i1 d1 i2 d2 (upd l i true) g W := by
  subst hi
  exact ⟨fun _ h => by rw [upd_same] at h; cases h⟩
theorem AL.otherD (h : AL lo iA dA iS i1 d1 i2 d2 l g W) {i d : Nat} {v : Value} (hs : l iS = true) : AL lo iA dA iS i1 d1 i2 d2 (upd l i true) (upd g d v) W := by
  refine ⟨fun _ h2 => ?_⟩
  by_cases e : iS = i
  · subst e; rw [upd_same] at h2; cases h2
  · rw [upd_ne _ _ e, hs] at h2; cases h2
end
theorem ex_buildSlice0 {P : Program} {a : Act} {w w' : World} {o : Oper} {v : Value} {t : TypeId} {n : Nat} (hop : o.op = .buildSlice t n #[]) (hr : (Instr.buildSlice t n #[]).run P w = .ok v w') : (execOp a.eval o).run P w = .ok (.value v) w' := by
  simp [execOp, hop, hr, Result.andThen]
theorem lay0 {W : World} : (Instr.buildSlice 26 0 #[]).run Tryd.prog W = .ok (.slice (some ⟨W.heap.size, 0, none⟩) 0 0) (W.alloc (.cells #[] 3)) := by
  simp [Instr.buildSlice, go_sem]
theorem ex_call5 {P : Program} {a : Act} {w : World} {o : Oper} {f : Nat} {x0 x1 x2 x3 x4 : Operand} {u0 u1 u2 u3 u4 : Value} {t0 t1 t2 t3 t4 : TypeId} (he : ∀ args w, (callFunc f args).run P w = .ok (.enter f args) w) (hop : o.op = .call { callee := .value (.func f), args := #[x0, x1, x2, x3, x4], argTypes := #[t0, t1, t2, t3, t4] })
    (h0 : a.eval x0 = u0) (h1 : a.eval x1 = u1) (h2 : a.eval x2 = u2) (h3 : a.eval x3 = u3) (h4 : a.eval x4 = u4) : (execOp a.eval o).run P w = .ok (.enter f #[u0, u1, u2, u3, u4]) w := by
  have e1 : a.eval (.func f) = .func (.func f) #[] #[] := rfl
  simp [execOp, hop, resolve, invoke, h0, h1, h2, h3, h4, e1, he, Deferred.ofValue]
theorem ints_snoc (pl : List Int) (x : Int) : intsL (pl ++ [x]) = intsL pl ++ [.int .i64 x] := by simp [intsL]
/-- The list's block is there. -/
def BL (i2 d2 : Nat) (l : Nat → Bool) (g : Nat → Value) (W : World) : Prop := l i2 = true → ∀ k, (g d2).ownBlock = some k → k < W.heap.size
theorem BL.start {i2 d2 : Nat} (g : Nat → Value) (w : World) : BL i2 d2 (fun _ => false) g w := fun h => (by cases h)
theorem BL.other {i2 d2 : Nat} {l : Nat → Bool} {g : Nat → Value} {W : World} (h : BL i2 d2 l g W) {i d : Nat} {v : Value} (hi : (decide (i2 ≠ i) && decide (d2 ≠ d)) = true) {W' : World} (hb : W.heap.size ≤ W'.heap.size) : BL i2 d2 (upd l i true) (upd g d v) W' := by
  simp only [Bool.and_eq_true, decide_eq_true_eq] at hi
  unfold BL
  rw [upd_ne _ _ hi.1, upd_ne _ _ hi.2]
  exact fun h1 k hk => Nat.lt_of_lt_of_le (h h1 k hk) hb
theorem BL.otherOp {i2 d2 : Nat} {l : Nat → Bool} {g : Nat → Value} {W : World} (h : BL i2 d2 l g W) {i : Nat} (hi : decide (i2 ≠ i) = true) {W' : World} (hb : W.heap.size ≤ W'.heap.size) : BL i2 d2 (upd l i true) g W' := by
  simp only [decide_eq_true_eq] at hi
  unfold BL
  rw [upd_ne _ _ hi]
  exact fun h1 k hk => Nat.lt_of_lt_of_le (h h1 k hk) hb
theorem BL.made {i2 d2 : Nat} {l : Nat → Bool} {g : Nat → Value} {v : Value} {W' : World} (h : ∀ k, v.ownBlock = some k → k < W'.heap.size) : BL i2 d2 (upd l i2 true) (upd g d2 v) W' := by
  unfold BL
  rw [upd_same, upd_same]
  exact fun _ => h
theorem ex_extr {P : Program} {a : Act} {w : World} {o : Oper} {x : Operand} {k : Nat} {vs : Array Value} {v : Value} (hop : o.op = .extract x k) (hx : a.eval x = .tuple vs) (hk : vs[k]? = some v) : (execOp a.eval o).run P w = .ok (.value v) w := by
  simp [execOp, hop, hx, hk, Instr.extract]
end Go.Proofs.YtngdieldgnlogaaDoor
