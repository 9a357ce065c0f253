/- Tokens in memory: slices of tokens; a list of tokens that rounds append to. -/
import Derived.Test.YthkfkdcmnkkdhaaDoorB1
import Derived.Test.YthkfkdcmnkkdhaaDoorL2
import Derived.Maps.OwnIn
import Derived.Deep.Upon
namespace Go.Proofs.YthkfkdcmnkkdhaaDoor
open Go Go.RowKit Go.Shelf
set_option maxRecDepth 100000
set_option linter.unusedVariables false
/-- Tokens lie in block b from its cell o on. -/
def TokAt (W : World) (l : List Lx.Tok) (b o : Nat) : Prop := ∀ (i : Nat) (t : Lx.Tok), l[i]? = some t →
  W.cell? ⟨b, o + i * 3, none⟩ = some (.int .u8 t.k) ∧ W.cell? ⟨b, o + i * 3 + 1, none⟩ = some (.string ⟨t.t.toArray⟩) ∧ W.cell? ⟨b, o + i * 3 + 2, none⟩ = some (.int .i64 t.at')
abbrev TokSl (W : World) (l : List Lx.Tok) (s : Value) : Prop := SlOf (TokAt W l) l.length s
theorem TokAt.below {w W : World} (hb : Below w.heap.size w W) {l : List Lx.Tok} {b o : Nat} (h : TokAt w l b o) : TokAt W l b o :=
  fun i t ht => ⟨cell_below hb (h i t ht).1, cell_below hb (h i t ht).2.1, cell_below hb (h i t ht).2.2⟩
theorem TokSl.below {w W : World} (hb : Below w.heap.size w W) {l : List Lx.Tok} {s : Value} (h : TokSl w l s) : TokSl W l s := h.imp fun _ _ h => TokAt.below hb h
theorem TokSl.opened {W : World} {l : List Lx.Tok} {s : Value} (h : TokSl W l s) : ∃ p c b o, s = .slice p l.length c ∧ (l.length = 0 ∨ p = some ⟨b, o, none⟩) ∧ TokAt W l b o := by
  obtain ⟨p, c, rfl, h | ⟨b, o, rfl, h⟩⟩ := h
  · refine ⟨p, c, 0, 0, rfl, .inl h, fun i t ht => ?_⟩
    rw [List.length_eq_zero_iff.1 h] at ht
    simp at ht
  · exact ⟨_, c, b, o, rfl, .inr rfl, h⟩
theorem SlOf_nil {L : Nat → Nat → Prop} (p : Option Addr) (c : Nat) : SlOf L 0 (.slice p 0 c) := ⟨p, c, rfl, .inl rfl⟩
def tokC (t : Lx.Tok) : List Value := [.int .u8 t.k, .string ⟨t.t.toArray⟩, .int .i64 t.at']
def flat (l : List Lx.Tok) : List Value := l.flatMap tokC
theorem flat_snoc (l : List Lx.Tok) (t : Lx.Tok) : flat (l ++ [t]) = flat l ++ tokC t := by simp [flat]
theorem info27 : (Tryd.prog.info? 27).map (fun i => (i.zero, i.size, i.bytes)) = some (some (.agg #[.int .u8 0, .string ⟨#[]⟩, .int .i64 0]), 3, 32) := by kernel_rfl
def LBox (c B : Nat) (l : List Lx.Tok) (V : World) : Prop := ∃ s, V.cell? ⟨c, 0, none⟩ = some s ∧ V.frozen? ⟨c, 0, none⟩ = false ∧ V.ownsRow B 27 3 s l.length (flat l)
def GB (c B : Nat) (V : World) : Prop := ∃ l, LBox c B l V
def SB (c : Nat) (V : World) (b : Nat) : Prop := ∃ s, V.cell? ⟨c, 0, none⟩ = some s ∧ b ≠ c ∧ s.ownBlock ≠ some b
theorem ne_of_cells {V : World} {c l i : Nat} {v : Value} {o : Obj} (h : V.cell? ⟨c, i, none⟩ = some v) (hl : V.heap[l]? = some o) (ho : o.isCells = false) : c ≠ l := by
  rintro rfl
  obtain ⟨o', ho', hc⟩ := cells_of_cell h
  rw [show V.heap[(⟨c, i, none⟩ : Addr).block]? = V.heap[c]? from rfl, hl] at ho'
  cases ho'
  rw [ho] at hc
  cases hc
theorem owns_of_block {V V' : World} {B : Nat} {e : TypeId} {z : Nat} {s : Value} {n : Nat} {xs : List Value} (h : V.ownsRow B e z s n xs) (hk : ∀ g o, s.ownBlock = some g → V.heap[g]? = some o → o.isCells = true → V'.heap[g]? = some o) : V'.ownsRow B e z s n xs := by
  obtain ⟨hl, ⟨rfl, h0⟩ | ⟨g, cap, cur, rfl, h1, h2, h3⟩⟩ := h
  · exact ⟨hl, .inl ⟨rfl, h0⟩⟩
  · exact ⟨hl, .inr ⟨g, cap, cur, rfl, h1, hk g _ rfl h2 rfl, h3⟩⟩
theorem owns_cells {V : World} {B : Nat} {e : TypeId} {z : Nat} {s : Value} {n : Nat} {xs : List Value} (h : V.ownsRow B e z s n xs) {g : Nat} (hg : s.ownBlock = some g) : ∃ o, V.heap[g]? = some o ∧ o.isCells = true := by
  obtain ⟨hl, ⟨rfl, h0⟩ | ⟨g', cap, cur, rfl, h1, h2, h3⟩⟩ := h
  · cases hg
  · cases hg
    exact ⟨_, h2, rfl⟩
theorem LBox.below {c B : Nat} {l : List Lx.Tok} {V V' : World} (h : LBox c B l V) (hb : Below V.heap.size V V') : LBox c B l V' := by
  obtain ⟨s, h1, h2, h3⟩ := h
  refine ⟨s, cell_below hb h1, ?_, owns_of_block h3 fun g o hg ho _ => (hb.block g (Array.getElem?_eq_some_iff.1 ho).1).trans ho⟩
  rw [World.frozen?_of_block (hb.block c (lt_of_cell h1))]
  exact h2
theorem LBox.grown {c B : Nat} {l : List Lx.Tok} {V V' : World} {row : Option Nat} (h : LBox c B l V) (hg : V.grownBy V' row) (hr : ∀ r, row = some r → ∃ o : Obj, V.heap[r]? = some o ∧ o.isCells = false) : LBox c B l V' := by
  obtain ⟨s, h1, h2, h3⟩ := h
  refine ⟨s, cell_kept h1 hg hr, (frozen_kept h1 hg hr).trans h2, h3.kept hg ?_⟩
  cases hs : s.ownBlock with
  | none => exact .inl rfl
  | some g =>
    refine .inr fun e => ?_
    obtain ⟨o, ho, hn⟩ := hr g e.symm
    obtain ⟨o', ho', hn'⟩ := owns_cells h3 hs
    rw [ho] at ho'
    cases ho'
    rw [hn] at hn'
    cases hn'
theorem lives (w0 : World) {c B : Nat} (hc : w0.heap.size ≤ c) (hB : c < B) : Lives w0 (GB c B) (SB c) where
  sb := fun h hb ⟨s, h1, h2, h3⟩ => ⟨s, cell_below h h1, h2, h3⟩
  gb := fun h ⟨l, hl⟩ => ⟨l, hl.below h⟩
  fr := by
    rintro W o ⟨l, s, h1, h2, h3⟩
    have hcw := lt_of_cell h1
    exact ⟨s, cell_below (bel_laid W o) h1, by omega, fun hg => by have := h3.lt _ hg; omega⟩
  s0 := by
    rintro W b ⟨l, s, h1, h2, h3⟩ hb
    exact ⟨s, h1, by omega, fun hg => by have := h3.lt _ hg; omega⟩
  gw := fun hg hr => ⟨fun ⟨l, hl⟩ => ⟨l, hl.grown hg hr⟩, fun b _ ⟨s, h1, h2, h3⟩ => ⟨s, cell_kept h1 hg hr, h2, h3⟩⟩
  pt := by
    intro W l o o' hl ho
    refine ⟨?_, ?_⟩
    · rintro ⟨ls, s, h1, h2, h3⟩
      have hcl := ne_of_cells h1 hl ho
      refine ⟨ls, s, (World.cell?_of_block (World.putObj_heap_other hcl)).trans h1, ?_, owns_of_block h3 fun g ob hg hgo hcells => ?_⟩
      · rw [World.frozen?_of_block (World.putObj_heap_other hcl)]
        exact h2
      · have : g ≠ l := by
          rintro rfl
          rw [hl] at hgo
          cases hgo
          rw [ho] at hcells
          cases hcells
        rw [World.putObj_heap_other this]
        exact hgo
    · rintro b hb ⟨s, h1, h2, h3⟩
      exact ⟨s, (World.cell?_of_block (World.putObj_heap_other (ne_of_cells h1 hl ho))).trans h1, h2, h3⟩
end Go.Proofs.YthkfkdcmnkkdhaaDoor
namespace Go.Proofs.YthkfkdcmnkkdhaaDoor
open Go Go.RowKit Go.Shelf
set_option maxRecDepth 100000
set_option linter.unusedVariables false
attribute [local go_sem] Oper.semAt_some
theorem LBox.app {c B K : Nat} {l : List Lx.Tok} {V V2 : World} {s s' : Value} {p : Lx.Tok} (hcB : c < B) (h1 : V.cell? ⟨c, 0, none⟩ = some s) (h2 : V.frozen? ⟨c, 0, none⟩ = false) (h3 : V.ownsRow B 27 3 s l.length (flat l))
    (hg : V.grownBy V2 s.ownBlock) (ho : V2.ownsRow B 27 3 s' (l.length + 1) (flat l ++ tokC p)) (hob : s'.ownBlock = s.ownBlock ∨ s'.ownBlock = some V.heap.size) :
    V2.cell? ⟨c, 0, none⟩ = some s ∧ V2.frozen? ⟨c, 0, none⟩ = false ∧ KS (GB c B) (SB c) K V (V2.setCell ⟨c, 0, none⟩ s') ∧ LBox c B (l ++ [p]) (V2.setCell ⟨c, 0, none⟩ s') ∧
      ∀ (w : World) (b0 : Nat), b0 ≤ c → b0 ≤ V.heap.size → Below b0 w V → Below b0 w (V2.setCell ⟨c, 0, none⟩ s') := by
  have hcV := lt_of_cell h1
  have hne : ∀ g, s.ownBlock = some g → B ≤ g := fun g hg => (h3.lt g hg).1
  have hblk : V2.heap[c]? = V.heap[c]? := hg.block c hcV (fun e => by have := hne c e.symm; omega)
  have g1 : V2.cell? ⟨c, 0, none⟩ = some s := (World.cell?_of_block hblk).trans h1
  have g2 : V2.frozen? ⟨c, 0, none⟩ = false := by rw [World.frozen?_of_block hblk]; exact h2
  have gc : (V2.setCell ⟨c, 0, none⟩ s').cell? ⟨c, 0, none⟩ = some s' := World.cell?_setCell_same _ _ _ g1
  have hbox : LBox c B (l ++ [p]) (V2.setCell ⟨c, 0, none⟩ s') := by
    refine ⟨s', gc, by rw [World.frozen?_setCell]; exact g2, ?_⟩
    have := ownsRow_setCell_below ho (a := ⟨c, 0, none⟩) hcB s'
    rw [List.length_append, List.length_singleton, flat_snoc]
    exact this
  refine ⟨g1, g2, ⟨?_, ?_, ?_, fun _ => ⟨_, hbox⟩, ?_⟩, hbox, ?_⟩
  · exact Nat.le_trans hg.size (KeepsOthers.setCell V2 ⟨c, 0, none⟩ s').size
  · rintro b o v ⟨s2, hs2, hb1, hb2⟩ hc
    rw [h1] at hs2
    cases hs2
    rw [World.cell?_setCell_far _ _ _ _ (fun e => hb1 (show c = b from e).symm)]
    exact (World.cell?_of_block (hg.block b (lt_of_cell hc) (fun e => hb2 e.symm))).trans hc
  · rintro b hb ⟨s2, hs2, hb1, hb2⟩
    rw [h1] at hs2
    cases hs2
    refine ⟨s', gc, hb1, fun e' => ?_⟩
    rcases hob with e | e
    · exact hb2 (e ▸ e')
    · rw [e] at e'; cases e'; omega
  · intro k o hk hko hn
    have hk1 : V2.heap[k]? = V.heap[k]? := hg.block k (Array.getElem?_eq_some_iff.1 hko).1 (fun e => by
      obtain ⟨o', ho', hn'⟩ := owns_cells h3 e.symm
      rw [hko] at ho'
      cases ho'
      rw [hn] at hn'
      cases hn')
    exact (KeepsOthers.setCell V2 ⟨c, 0, none⟩ s').same k o (hk1.trans hko) hn
  · intro w b0 hb0 hbV hbl
    exact (hbl.grown hg hbV (fun k e => by have := hne k e; omega)).setCell (p := ⟨c, 0, none⟩) hb0 _
theorem flat_at (l : List Lx.Tok) (i : Nat) (t : Lx.Tok) (h : l[i]? = some t) : (flat l)[i * 3]? = some (.int .u8 t.k) ∧ (flat l)[i * 3 + 1]? = some (.string ⟨t.t.toArray⟩) ∧ (flat l)[i * 3 + 2]? = some (.int .i64 t.at') := by
  induction l generalizing i with
  | nil => simp at h
  | cons a l ih =>
    have e : flat (a :: l) = [.int .u8 a.k, .string ⟨a.t.toArray⟩, .int .i64 a.at'] ++ flat l := rfl
    rw [e]
    cases i with
    | zero => simp at h; subst h; exact ⟨rfl, rfl, rfl⟩
    | succ i =>
      simp at h
      have := ih i h
      rw [show (i + 1) * 3 = i * 3 + 3 by omega]
      exact ⟨this.1, this.2.1, this.2.2⟩
theorem row_tokens {V : World} {B : Nat} {v : Value} {l : List Lx.Tok} (h : V.ownsRow B 27 3 v l.length (flat l)) : TokSl V l v := by
  obtain ⟨h1, ⟨rfl, h0⟩ | ⟨g, cap, cur, rfl, h2, h3, h4⟩⟩ := id h
  · exact ⟨none, 0, by rw [h0], .inl h0⟩
  · refine ⟨some ⟨g, 0, none⟩, cap, rfl, .inr ⟨g, 0, rfl, fun i t ht => ?_⟩⟩
    have hc : ∀ j u, (flat l)[j]? = some u → V.cell? ⟨g, 0 + j, none⟩ = some u := by
      intro j u hj
      have := h.cells (g := g) rfl j u hj
      rw [Nat.zero_add]
      by_cases hj0 : j = 0
      · subst hj0; simpa [Addr.add] using this
      · simpa [Addr.add, hj0] using this
    obtain ⟨a0, a1, a2⟩ := flat_at l i t ht
    exact ⟨hc _ _ a0, hc _ _ a1, hc _ _ a2⟩
end Go.Proofs.YthkfkdcmnkkdhaaDoor
