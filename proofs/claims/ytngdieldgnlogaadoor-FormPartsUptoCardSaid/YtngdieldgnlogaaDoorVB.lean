/- Basics for regions that draw their order. -/
import Derived.Test.YtngdieldgnlogaaDoorSP
import Derived.Test.YtngdieldgnlogaaDoorU9
import Derived.Test.YtngdieldgnlogaaDoorD3
import Derived.Deep.AppendLies
namespace Go.Proofs.YtngdieldgnlogaaDoor
open Go Go.RowKit
set_option maxRecDepth 100000
set_option linter.unusedVariables false
theorem set4o (W : World) (g o : Nat) (a0 a1 a2 a3 : Value) {x0 x1 x2 x3 : Value} (y0 : Wc W g o x0) (y1 : Wc W g (o + 1) x1) (y2 : Wc W g (o + 2) x2) (y3 : Wc W g (o + 3) x3) :
    ∃ W', (((W.setCell ⟨g, o, none⟩ a0).setCell ⟨g, o + 1, none⟩ a1).setCell ⟨g, o + 2, none⟩ a2).setCell ⟨g, o + 3, none⟩ a3 = W' ∧ Wc W' g o a0 ∧ Wc W' g (o + 1) a1 ∧ Wc W' g (o + 2) a2 ∧ Wc W' g (o + 3) a3 ∧
      (∀ x i v, ¬ (x = g ∧ o ≤ i ∧ i < o + 4) → Wc W x i v → Wc W' x i v) ∧ (∀ B w0, Below B w0 W → B ≤ g → Below B w0 W') ∧ W'.heap.size = W.heap.size := by
  refine ⟨_, rfl, ?_, ?_, ?_, ?_, fun x i v hn hc => ?_, fun B w0 h hB => ((((h.setCell (p := ⟨g, _, none⟩) hB _).setCell (p := ⟨g, _, none⟩) hB _).setCell (p := ⟨g, _, none⟩) hB _).setCell (p := ⟨g, _, none⟩) hB _), by rw [size_setCell, size_setCell, size_setCell, size_setCell]⟩
  · exact wc_off (.inr (by omega)) (wc_off (.inr (by omega)) (wc_off (.inr (by omega)) (wc_on y0.1 y0.2)))
  · exact wc_off (.inr (by omega)) (wc_off (.inr (by omega)) (wc_on (wc_off (v := a0) (.inr (by omega)) y1).1 (wc_off (.inr (by omega)) y1).2))
  · exact wc_off (.inr (by omega)) (wc_on (wc_off (v := a1) (.inr (by omega)) (wc_off (v := a0) (.inr (by omega)) y2)).1 (wc_off (.inr (by omega)) (wc_off (.inr (by omega)) y2)).2)
  · exact wc_on (wc_off (v := a2) (.inr (by omega)) (wc_off (v := a1) (.inr (by omega)) (wc_off (v := a0) (.inr (by omega)) y3))).1 (wc_off (.inr (by omega)) (wc_off (.inr (by omega)) (wc_off (.inr (by omega)) y3))).2
  · have hne : ∀ j, j < 4 → x ≠ g ∨ i ≠ o + j := fun j hj => by
      by_cases e : x = g
      · exact .inr (fun e2 => hn ⟨e, by omega, by omega⟩)
      · exact .inl e
    exact wc_off (hne 3 (by omega)) (wc_off (hne 2 (by omega)) (wc_off (hne 1 (by omega)) (wc_off (hne 0 (by omega)) hc)))
theorem act_puts {a a' : Act} {n : Nat} {vals : List (Nat × Value)} (hn : a.tmps.size = n) (hn' : a'.tmps.size = n) (hd : a'.defers = a.defers) (hpw : vals.Pairwise (fun p q => p.1 ≠ q.1))
    (hb : ∀ d, d < n → keyB vals d = false → a'.tmps[d]? = a.tmps[d]?) (hv : ∀ d, d < n → keyB vals d = true → a'.tmps[d]? = some (slotV a vals d)) : a' = puts a vals := by
  have et : a'.tmps = (puts a vals).tmps := by
    apply Array.ext_getElem?
    intro d
    by_cases hdn : d < n
    · cases hk : keyB vals d with
      | false => rw [puts_other _ _ _ hk]; exact hb d hdn hk
      | true => rw [puts_same _ a a d hpw hk (by omega)]; exact hv d hdn hk
    · rw [Array.getElem?_eq_none (by omega), Array.getElem?_eq_none (by rw [puts_size]; omega)]
  have ed : a'.defers = (puts a vals).defers := by rw [puts_defs]; exact hd
  cases a'
  cases h : puts a vals
  simp_all
theorem ex_alloc {o : Oper} {ev : Operand → Value} {w : World} (hop : o.op = .alloc 25) : (execOp ev o).run Tryd.prog w = .ok (.value (.pointer (some ⟨w.heap.size, 0, none⟩))) (w.alloc (.cells #[.int .u8 0, .string ⟨#[]⟩, .slice none 0 0, .slice none 0 0] 25)) := by
  simp [execOp, hop, go_sem]
theorem Free.wc {W : World} {g m j : Nat} (h : Free W g m) (hj : j < m) : ∃ v, Wc W g j v := by
  obtain ⟨⟨u, hu⟩, hf⟩ := h j hj
  exact ⟨u, hu, hf⟩
def Fr4' (g : Nat) (W : World) : Prop := ∀ j, j < 4 → ∃ u, Wc W g j u
theorem Fr4'.below {g : Nat} {W W' : World} (hb : Below W.heap.size W W') (h : Fr4' g W) : Fr4' g W' := fun j hj => (h j hj).imp fun _ h => h.below hb
theorem Fr4'.new (W : World) : Fr4' W.heap.size (W.alloc (.cells #[.int .u8 0, .string ⟨#[]⟩, .slice none 0 0, .slice none 0 0] 25)) := fun j hj => (Free.lit W #[.int .u8 0, .string ⟨#[]⟩, .slice none 0 0, .slice none 0 0] 25).wc (by simpa using hj)
def zipV (ks : List Nat) (g : Nat → Value) : List (Nat × Value) := ks.map fun d => (d, g d)
theorem keyB_zipV (ks : List Nat) (g : Nat → Value) (d : Nat) : keyB (zipV ks g) d = ks.contains d := by
  induction ks with
  | nil => rfl
  | cons k r ih =>
    show (k == d || keyB (zipV r g) d) = (k :: r).contains d
    rw [ih, List.contains_cons]
    congr 1
    rw [Bool.eq_iff_iff, beq_iff_eq, beq_iff_eq]
    exact eq_comm
theorem slotV_zipV (a : Act) (ks : List Nat) (g : Nat → Value) (d : Nat) (h : ks.contains d = true) : slotV a (zipV ks g) d = g d := by
  induction ks with
  | nil => simp at h
  | cons k r ih =>
    show (if k == d then g k else slotV a (zipV r g) d) = g d
    by_cases e : k = d
    · subst e; simp
    · have e' : (k == d) = false := by simp [e]
      rw [e']
      simp only [Bool.false_eq_true, if_false]
      refine ih ?_
      simp only [List.contains_cons, Bool.or_eq_true, beq_iff_eq] at h
      rcases h with h | h
      · exact (e h.symm).elim
      · exact h
theorem wq1 {w w1 : World} {b k : Nat} {v : Value} {r : Option Nat} {P : Prop} (_ : P) (hg : w.grownBy w1 r) (hn : some b ≠ r) (h : Wc w b k v) : Wc w1 b k v :=
  ⟨hg.cell h.1 hn, (hg.frozen_far _ (lt_of_cell h.1) hn).trans h.2⟩
theorem FT.part_app : ∀ (l m : List Int) (f : FT), f.part (l ++ m) = (f.part l).bind fun o => o.part m
  | [], m, f => rfl
  | i :: l, m, f => by
    simp only [List.cons_append, FT.part]
    split
    · exact FT.part_app l m _
    · rfl
theorem FT.part_snoc {f o : FT} {l : List Int} {k : Nat} (h : f.part l = some o) (hk : k < o.sub.len) : f.part (l ++ [(k : Int)]) = some (o.sub.get k) := by
  rw [FT.part_app, h]
  show o.part [(k : Int)] = _
  rw [FT.part, if_pos (by omega)]
  rfl
theorem in_boxes {f h : FT} {sa ss sb sc : Value} {w : World} (hv : FVal w f (fval f sa ss)) (hv' : FVal w h (fval h sb sc)) (t : TypeId) :
    ∃ W1 W2, w.alloc (.cells #[.int .u8 f.op, .string f.n, sa, ss] t) = W1 ∧ W1.alloc (.cells #[.int .u8 h.op, .string h.n, sb, sc] t) = W2 ∧ W1.heap.size = w.heap.size + 1 ∧ W2.heap.size = w.heap.size + 2 ∧
      FS f sa ss w w.heap.size W2 ∧ FS h sb sc w (w.heap.size + 1) W2 := by
  have e1 := bel_laid w (.cells #[.int .u8 f.op, .string f.n, sa, ss] t)
  have k2 := FS.start (t := t) (FVal.below e1 hv')
  rw [World.size_alloc] at k2
  exact ⟨_, _, rfl, rfl, by simp, by simp, (FS.start (t := t) hv).next (bel_laid _ _), ⟨k2.1, k2.2.1, k2.2.2.1, k2.2.2.2.1, bel_step e1 k2.2.2.2.2.1, k2.2.2.2.2.2⟩⟩
theorem Ts.eqB_refl : ∀ a : Ts, a.eqB a = true
  | .nil => rfl
  | .cons v n ts r => by simp [Ts.eqB, Ts.eqB_refl ts, Ts.eqB_refl r]
theorem Fs.eqB_refl : ∀ a : Fs, a.eqB a = true
  | .nil => rfl
  | .cons op n ts sub r => by simp [Fs.eqB, Ts.eqB_refl ts, Fs.eqB_refl sub, Fs.eqB_refl r]
theorem FT.eqB_refl (f : FT) : f.eqB f = true := by simp [FT.eqB, Ts.eqB_refl, Fs.eqB_refl]
theorem FVal.spelt {W : World} {g : FT} {v : Value} (h : FVal W g v) : ∃ p n p' n', v = fval g (.slice p g.ts.len n) (.slice p' g.sub.len n') := by
  obtain ⟨sa, ss, rfl, ⟨p, c, rfl, -⟩, ⟨p', c', rfl, -⟩⟩ := h
  exact ⟨_, _, _, _, rfl⟩
theorem store_box {W : World} {b : Nat} {g : FT} {p q : Option Addr} {m n : Nat} (hF : Fr4' b W) : ∃ W', (Instr.storeAt 25 (.pointer (some ⟨b, 0, none⟩)) (fval g (.slice p g.ts.len m) (.slice q g.sub.len n))).run Tryd.prog W = .ok () W' ∧
    W'.cell? ⟨b, 0, none⟩ = some (.int .u8 g.op) ∧ W'.cell? ⟨b, 1, none⟩ = some (.string g.n) ∧ W'.cell? ⟨b, 2, none⟩ = some (.slice p g.ts.len m) ∧ W'.cell? ⟨b, 3, none⟩ = some (.slice q g.sub.len n) ∧
    (∀ x i v, x ≠ b → Wc W x i v → Wc W' x i v) ∧ (∀ x i v, x ≠ b → W.cell? ⟨x, i, none⟩ = some v → W'.cell? ⟨x, i, none⟩ = some v) ∧ (∀ B w0, Below B w0 W → B ≤ b → Below B w0 W') ∧ W'.heap.size = W.heap.size := by
  obtain ⟨u0, y0⟩ := hF 0 (by omega)
  obtain ⟨u1, y1⟩ := hF 1 (by omega)
  obtain ⟨u2, y2⟩ := hF 2 (by omega)
  obtain ⟨u3, y3⟩ := hF 3 (by omega)
  obtain ⟨W', hW, q0, q1, q2, q3, hfar, hbel, hs⟩ := set4o W b 0 (.int .u8 g.op) (.string g.n) (.slice p g.ts.len m) (.slice q g.sub.len n) y0 y1 y2 y3
  simp only [Nat.zero_add] at hW q1 q2 q3
  have hcell : ∀ x i v, x ≠ b → W.cell? ⟨x, i, none⟩ = some v → W'.cell? ⟨x, i, none⟩ = some v := fun x i v hx hc => by
    rw [← hW, set_off (.inl hx), set_off (.inl hx), set_off (.inl hx), set_off (.inl hx)]; exact hc
  refine ⟨W', ?_, q0.1, q1.1, q2.1, q3.1, fun x i v hx hc => hfar x i v (fun h => hx h.1) hc, hcell, hbel, hs⟩
  have z0 := y0.1
  have z1 := y1.1
  have z2 := y2.1
  have z3 := y3.1
  have f0 := y0.2
  have f1 := y1.2
  have f2 := y2.2
  have f3 := y3.2
  simp [Instr.storeAt, go_sem, z0, z1, z2, z3, f0, f1, f2, f3, hW]
end Go.Proofs.YtngdieldgnlogaaDoor
