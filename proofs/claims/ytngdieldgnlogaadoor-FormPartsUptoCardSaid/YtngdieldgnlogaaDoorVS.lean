/- A drawn region that lays some cells, appends them to a list and stores the list that comes out: what is so on the way. -/
import Derived.Test.YtngdieldgnlogaaDoorVR
namespace Go.Proofs.YtngdieldgnlogaaDoor
open Go Go.RowKit
set_option maxRecDepth 100000
set_option linter.unusedVariables false
structure JA (w0 : World) (lits : List (Nat × Nat × Value)) (iL dL iA dA iS : Nat) (news : List Value) (base e size n m : Nat) (s : Value) (xs : List Value) (fin : Value → World → World) (l : Nat → Bool) (g : Nat → Value) (W : World) : Prop where
  lit : ∀ p ∈ lits, l p.1 = true → g p.2.1 = p.2.2
  laid : l iL = true → l iA = false → ∃ bn, g dL = .slice (some ⟨bn, 0, none⟩) m m ∧ ∀ j u, news[j]? = some u → W.cell? ((⟨bn, 0, none⟩ : Addr).add j) = some u
  low : l iA = false → Below w0.heap.size w0 W
  app : l iA = true → ∃ gg cap wa wq, Below w0.heap.size w0 wa ∧ wq.ownsRow base e size (.slice (some ⟨gg, 0, none⟩) (n + m) cap) (n + m) (xs ++ news) ∧ wa.grownBy wq s.ownBlock ∧ (s.ownBlock = some gg ∨ gg = wa.heap.size) ∧ g dA = .slice (some ⟨gg, 0, none⟩) (n + m) cap ∧ W = if l iS = true then fin (g dA) wq else wq
def okA (lits : List (Nat × Nat × Value)) (iL dL iA dA iS : Nat) : Bool :=
  decide (iL ≠ iA) && decide (iL ≠ iS) && decide (iA ≠ iS) && decide (dL ≠ dA) && lits.all (fun p => decide (p.1 ≠ iL) && decide (p.1 ≠ iA) && decide (p.1 ≠ iS) && decide (p.2.1 ≠ dL) && decide (p.2.1 ≠ dA)) &&
  decide ((lits.map fun p => p.1).Pairwise (· ≠ ·)) && decide ((lits.map fun p => p.2.1).Pairwise (· ≠ ·))
theorem uniq_map {α : Type} (f : α → Nat) : ∀ {l : List α}, (l.map f).Pairwise (· ≠ ·) → ∀ {x y : α}, x ∈ l → y ∈ l → f x = f y → x = y
  | [], _, _, _, h, _, _ => by cases h
  | z :: r, hp, x, y, hx, hy, e => by
    rw [List.map_cons, List.pairwise_cons] at hp
    rcases List.mem_cons.1 hx with hx1 | hx1
    · rcases List.mem_cons.1 hy with hy1 | hy1
      · rw [hx1, hy1]
      · exact absurd (hx1 ▸ e) (hp.1 _ (List.mem_map.2 ⟨y, hy1, rfl⟩))
    · rcases List.mem_cons.1 hy with hy1 | hy1
      · exact absurd (hy1 ▸ e.symm) (hp.1 _ (List.mem_map.2 ⟨x, hx1, rfl⟩))
      · exact uniq_map f hp.2 hx1 hy1 e
section
variable {w0 : World} {lits : List (Nat × Nat × Value)} {iL dL iA dA iS : Nat} {news : List Value} {base e size n m : Nat} {s : Value} {xs : List Value} {fin : Value → World → World} {l : Nat → Bool} {g : Nat → Value} {W : World}
theorem okA.out (ok : okA lits iL dL iA dA iS = true) : iL ≠ iA ∧ iL ≠ iS ∧ iA ≠ iS ∧ dL ≠ dA ∧ (∀ p ∈ lits, p.1 ≠ iL ∧ p.1 ≠ iA ∧ p.1 ≠ iS ∧ p.2.1 ≠ dL ∧ p.2.1 ≠ dA) ∧ (lits.map fun p => p.1).Pairwise (· ≠ ·) ∧ (lits.map fun p => p.2.1).Pairwise (· ≠ ·) := by
  simp only [okA, Bool.and_eq_true, decide_eq_true_eq, List.all_eq_true] at ok
  obtain ⟨⟨⟨⟨⟨⟨h1, h2⟩, h3⟩, h4⟩, h5⟩, h6⟩, h7⟩ := ok
  exact ⟨h1, h2, h3, h4, fun p hp => by obtain ⟨⟨⟨⟨a1, a2⟩, a3⟩, a4⟩, a5⟩ := h5 p hp; exact ⟨a1, a2, a3, a4, a5⟩, h6, h7⟩
theorem JA.start (g : Nat → Value) (w : World) : JA w lits iL dL iA dA iS news base e size n m s xs fin (fun _ => false) g w.drew :=
  ⟨fun p _ h => (by cases h), fun h => (by cases h), fun _ => bel_drew w, fun h => (by cases h)⟩
/-- A slot that is known beforehand is made. -/
theorem JA.made (ok : okA lits iL dL iA dA iS = true) (h : JA w0 lits iL dL iA dA iS news base e size n m s xs fin l g W) {i d : Nat} {v : Value} (hi : (i, d, v) ∈ lits) {W' : World} (hw : W' = W ∨ (l iA = false ∧ Below W.heap.size W W')) :
    JA w0 lits iL dL iA dA iS news base e size n m s xs fin (upd l i true) (upd g d v) W' := by
  obtain ⟨o1, o2, o3, o4, o5, o6, o7⟩ := okA.out ok
  obtain ⟨n1, n2, n3, n4, n5⟩ := o5 _ hi
  simp only at n1 n2 n3 n4 n5
  refine ⟨?_, ?_, ?_, ?_⟩
  · intro p hp hl
    by_cases ep : p.1 = i
    · have := uniq_map _ o6 hp hi ep
      subst this
      exact upd_same _ _ _
    · rw [upd_ne _ _ ep] at hl
      rw [upd_ne _ _ (fun ed => ep (by have := uniq_map (fun p : Nat × Nat × Value => p.2.1) o7 hp hi ed; rw [this])), h.lit p hp hl]
  · intro h1 h2
    rw [upd_ne _ _ (Ne.symm n1)] at h1
    rw [upd_ne _ _ (Ne.symm n2)] at h2
    rw [upd_ne _ _ (Ne.symm n4)]
    obtain ⟨bn, hb, hc⟩ := h.laid h1 h2
    refine ⟨bn, hb, fun j u hu => ?_⟩
    have := hc j u hu
    rcases hw with rfl | ⟨-, hw⟩
    · exact this
    · have e9 : (⟨bn, 0, none⟩ : Addr).add j = ⟨bn, j, none⟩ := by unfold Addr.add; split <;> simp_all
      rw [e9] at this ⊢
      exact cell_below hw this
  · intro h2
    rw [upd_ne _ _ (Ne.symm n2)] at h2
    rcases hw with rfl | ⟨-, hw⟩
    · exact h.low h2
    · exact bel_step (h.low h2) hw
  · intro h2
    rw [upd_ne _ _ (Ne.symm n2)] at h2
    rw [upd_ne _ _ (Ne.symm n5), upd_ne _ _ (Ne.symm n3)]
    rcases hw with rfl | ⟨hw, -⟩
    · exact h.app h2
    · rw [hw] at h2; cases h2
/-- The cells are laid. -/
theorem JA.lay (ok : okA lits iL dL iA dA iS = true) (h : JA w0 lits iL dL iA dA iS news base e size n m s xs fin l g W) (hA : l iA = false) {cs : Array Value} {t : TypeId} (hn : news = cs.toList) :
    JA w0 lits iL dL iA dA iS news base e size n m s xs fin (upd l iL true) (upd g dL (.slice (some ⟨W.heap.size, 0, none⟩) m m)) (W.alloc (.cells cs t)) := by
  obtain ⟨o1, o2, o3, o4, o5, o6, o7⟩ := okA.out ok
  refine ⟨?_, ?_, ?_, ?_⟩
  · intro p hp hl
    obtain ⟨n1, n2, n3, n4, n5⟩ := o5 p hp
    rw [upd_ne _ _ n1] at hl
    rw [upd_ne _ _ n4, h.lit p hp hl]
  · intro h1 h2
    rw [upd_same]
    exact ⟨_, rfl, by rw [hn]; exact World.news_of_block (cs := cs) (t := t) (fr := (0, 0)) (heap_alloc_new W _)⟩
  · intro h2
    exact bel_step (h.low hA) (bel_laid _ _)
  · intro h2
    rw [upd_ne _ _ (Ne.symm o1), hA] at h2
    cases h2
/-- The append. -/
theorem JA.grow (ok : okA lits iL dL iA dA iS = true) (h : JA w0 lits iL dL iA dA iS news base e size n m s xs fin l g W) (hA : l iA = false) (hS : l iS = false) {gg cap : Nat} {wq : World}
    (hown : wq.ownsRow base e size (.slice (some ⟨gg, 0, none⟩) (n + m) cap) (n + m) (xs ++ news)) (hgrow : W.grownBy wq s.ownBlock) (hat : s.ownBlock = some gg ∨ gg = W.heap.size) :
    JA w0 lits iL dL iA dA iS news base e size n m s xs fin (upd l iA true) (upd g dA (.slice (some ⟨gg, 0, none⟩) (n + m) cap)) wq := by
  obtain ⟨o1, o2, o3, o4, o5, o6, o7⟩ := okA.out ok
  refine ⟨?_, ?_, ?_, ?_⟩
  · intro p hp hl
    obtain ⟨n1, n2, n3, n4, n5⟩ := o5 p hp
    rw [upd_ne _ _ n2] at hl
    rw [upd_ne _ _ n5, h.lit p hp hl]
  · intro _ h2
    rw [upd_same] at h2; cases h2
  · intro h2
    rw [upd_same] at h2; cases h2
  · intro _
    refine ⟨gg, cap, W, wq, h.low hA, hown, hgrow, hat, upd_same _ _ _, ?_⟩
    rw [upd_ne _ _ (Ne.symm o3), hS]
    rfl
/-- The store. -/
theorem JA.store (ok : okA lits iL dL iA dA iS = true) (h : JA w0 lits iL dL iA dA iS news base e size n m s xs fin l g W) (hA : l iA = true) (hS : l iS = false) :
    JA w0 lits iL dL iA dA iS news base e size n m s xs fin (upd l iS true) g (fin (g dA) W) := by
  obtain ⟨o1, o2, o3, o4, o5, o6, o7⟩ := okA.out ok
  refine ⟨?_, ?_, ?_, ?_⟩
  · intro p hp hl
    obtain ⟨n1, n2, n3, n4, n5⟩ := o5 p hp
    rw [upd_ne _ _ n3] at hl
    exact h.lit p hp hl
  · intro _ h2
    rw [upd_ne _ _ o3, hA] at h2; cases h2
  · intro h2
    rw [upd_ne _ _ o3, hA] at h2; cases h2
  · intro _
    obtain ⟨gg, cap, wa, wq, h1, h2, h3, h4, h5, h6⟩ := h.app hA
    refine ⟨gg, cap, wa, wq, h1, h2, h3, h4, h5, ?_⟩
    rw [hS] at h6
    rw [upd_same, h6]
    rfl
/-- Where the store has not come, the world that the append left is there. -/
theorem JA.grown (h : JA w0 lits iL dL iA dA iS news base e size n m s xs fin l g W) (hA : l iA = true) (hS : l iS = false) : ∃ gg cap wa, Below w0.heap.size w0 wa ∧ wa.grownBy W s.ownBlock ∧ g dA = .slice (some ⟨gg, 0, none⟩) (n + m) cap := by
  obtain ⟨gg, cap, wa, wq, h1, h2, h3, h4, h5, h6⟩ := h.app hA
  rw [hS] at h6
  have h7 : W = wq := h6
  exact ⟨gg, cap, wa, h1, h7 ▸ h3, h5⟩
theorem JA.end (h : JA w0 lits iL dL iA dA iS news base e size n m s xs fin l g W) (hA : l iA = true) (hS : l iS = true) : ∃ gg cap wa wq, Below w0.heap.size w0 wa ∧ wq.ownsRow base e size (.slice (some ⟨gg, 0, none⟩) (n + m) cap) (n + m) (xs ++ news) ∧ wa.grownBy wq s.ownBlock ∧ (s.ownBlock = some gg ∨ gg = wa.heap.size) ∧
    g dA = .slice (some ⟨gg, 0, none⟩) (n + m) cap ∧ W = fin (.slice (some ⟨gg, 0, none⟩) (n + m) cap) wq := by
  obtain ⟨gg, cap, wa, wq, h1, h2, h3, h4, h5, h6⟩ := h.app hA
  refine ⟨gg, cap, wa, wq, h1, h2, h3, h4, h5, ?_⟩
  rw [hS, h5] at h6
  exact h6
/-- A slot that nobody names is made. -/
theorem JA.side (h : JA w0 lits iL dL iA dA iS news base e size n m s xs fin l g W) {i d : Nat} {v : Value} (h1 : i ≠ iL) (h2 : i ≠ iA) (h3 : i ≠ iS) (h4 : d ≠ dL) (h5 : d ≠ dA) (h6 : lits.all (fun p => decide (p.1 ≠ i) && decide (p.2.1 ≠ d)) = true) :
    JA w0 lits iL dL iA dA iS news base e size n m s xs fin (upd l i true) (upd g d v) W := by
  simp only [Bool.and_eq_true, decide_eq_true_eq, List.all_eq_true] at h6
  refine ⟨?_, ?_, ?_, ?_⟩
  · intro p hp hl
    rw [upd_ne _ _ (h6 p hp).1] at hl
    rw [upd_ne _ _ (h6 p hp).2, h.lit p hp hl]
  · rw [upd_ne _ _ (Ne.symm h1), upd_ne _ _ (Ne.symm h2), upd_ne _ _ (Ne.symm h4)]
    exact h.laid
  · rw [upd_ne _ _ (Ne.symm h2)]
    exact h.low
  · rw [upd_ne _ _ (Ne.symm h2), upd_ne _ _ (Ne.symm h3), upd_ne _ _ (Ne.symm h5)]
    exact h.app
/-- What the list's block does not hold is as it was, till the store comes. -/
theorem JA.wc (h : JA w0 lits iL dL iA dA iS news base e size n m s xs fin l g W) (hS : l iS = false) {b k : Nat} {v : Value} (hc : Wc w0 b k v) (hn : some b ≠ s.ownBlock) : Wc W b k v := by
  cases hA : l iA with
  | false => exact hc.below (h.low hA)
  | true =>
    obtain ⟨gg, cap, wa, h1, h2, -⟩ := h.grown hA hS
    exact wq1 trivial h2 hn (hc.below h1)
theorem JA.cell (h : JA w0 lits iL dL iA dA iS news base e size n m s xs fin l g W) (hS : l iS = false) {b k : Nat} {v : Value} (hc : w0.cell? ⟨b, k, none⟩ = some v) (hn : some b ≠ s.ownBlock) : W.cell? ⟨b, k, none⟩ = some v := by
  cases hA : l iA with
  | false => exact cell_below (h.low hA) hc
  | true =>
    obtain ⟨gg, cap, wa, h1, h2, -⟩ := h.grown hA hS
    exact h2.cell (cell_below h1 hc) hn
end
theorem off_of {l : Nat → Bool} {q j : Nat} (hcl : l q = true → l j = true) (h : l j = false) : l q = false := by
  cases hq : l q with
  | false => rfl
  | true => rw [hcl hq] at h; cases h
theorem field25_2 {b : Nat} {W : World} : (Instr.fieldAt 25 (.pointer (some ⟨b, 0, none⟩)) 2).run Tryd.prog W = .ok (.pointer (some ⟨b, 2, none⟩)) W := by
  simp [Instr.fieldAt, go_sem]
theorem field25_3 {b : Nat} {W : World} : (Instr.fieldAt 25 (.pointer (some ⟨b, 0, none⟩)) 3).run Tryd.prog W = .ok (.pointer (some ⟨b, 3, none⟩)) W := by
  simp [Instr.fieldAt, go_sem]
theorem loadFs {W : World} {b k n c : Nat} {p : Option Addr} (h : W.cell? ⟨b, k, none⟩ = some (.slice p n c)) : (Instr.loadAt 23 (.pointer (some ⟨b, k, none⟩))).run Tryd.prog W = .ok (.slice p n c) W := by
  simp [Instr.loadAt, go_sem, h]
theorem loadTs {W : World} {b k n c : Nat} {p : Option Addr} (h : W.cell? ⟨b, k, none⟩ = some (.slice p n c)) : (Instr.loadAt 22 (.pointer (some ⟨b, k, none⟩))).run Tryd.prog W = .ok (.slice p n c) W := by
  simp [Instr.loadAt, go_sem, h]
theorem storeFs {W : World} {b k : Nat} {u v : Value} (h : Wc W b k u) (hv : ∃ p n c, v = .slice p n c) : (Instr.storeAt 23 (.pointer (some ⟨b, k, none⟩)) v).run Tryd.prog W = .ok () (W.setCell ⟨b, k, none⟩ v) := by
  obtain ⟨p, n, c, rfl⟩ := hv
  have h1 := h.1
  have h2 := h.2
  simp [Instr.storeAt, go_sem, h1, h2]
theorem storeTs {W : World} {b k : Nat} {u v : Value} (h : Wc W b k u) (hv : ∃ p n c, v = .slice p n c) : (Instr.storeAt 22 (.pointer (some ⟨b, k, none⟩)) v).run Tryd.prog W = .ok () (W.setCell ⟨b, k, none⟩ v) := by
  obtain ⟨p, n, c, rfl⟩ := hv
  have h1 := h.1
  have h2 := h.2
  simp [Instr.storeAt, go_sem, h1, h2]
theorem layF {W : World} {op : Int} {s : ByteArray} {p q : Option Addr} {a b c d : Nat} : (Instr.buildSlice 23 1 #[(0, .agg #[.int .u8 op, .string s, .slice p a b, .slice q c d])]).run Tryd.prog W = .ok (.slice (some ⟨W.heap.size, 0, none⟩) 1 1) (W.alloc (.cells #[.int .u8 op, .string s, .slice p a b, .slice q c d] 25)) := by
  simp [Instr.buildSlice, go_sem]
theorem layI {W : World} {k : Int} : (Instr.buildSlice 26 1 #[(0, .int .i64 k)]).run Tryd.prog W = .ok (.slice (some ⟨W.heap.size, 0, none⟩) 1 1) (W.alloc (.cells #[.int .i64 k] 3)) := by
  simp [Instr.buildSlice, go_sem]
theorem indexFs {W : World} {b o k n c : Nat} (hk : k < n) : (Instr.indexAt 23 (.slice (some ⟨b, o, none⟩) n c) (.int .i64 (k : Int))).run Tryd.prog W = .ok (.pointer (some ⟨b, o + k * 4, none⟩)) W := by
  have h1 : (0 : Int) ≤ (k : Int) := by omega
  have h2 : (k : Int) < (n : Int) := by omega
  simp [Instr.indexAt, go_sem, h1]
  intro h9
  omega
theorem loadFo {W : World} {g o : Nat} {f : FT} {p q : Option Addr} {m n : Nat} (h0 : W.cell? ⟨g, o, none⟩ = some (.int .u8 f.op)) (h1 : W.cell? ⟨g, o + 1, none⟩ = some (.string f.n)) (h2 : W.cell? ⟨g, o + 2, none⟩ = some (.slice p f.ts.len m)) (h3 : W.cell? ⟨g, o + 3, none⟩ = some (.slice q f.sub.len n)) :
    (Instr.loadAt 25 (.pointer (some ⟨g, o, none⟩))).run Tryd.prog W = .ok (fval f (.slice p f.ts.len m) (.slice q f.sub.len n)) W := by
  simp [Instr.loadAt, go_sem, h0, h1, h2, h3]
theorem storeF {W : World} {b : Nat} {g : FT} {p q : Option Addr} {m n : Nat} {u0 u1 u2 u3 : Value} (y0 : Wc W b 0 u0) (y1 : Wc W b 1 u1) (y2 : Wc W b 2 u2) (y3 : Wc W b 3 u3) : (Instr.storeAt 25 (.pointer (some ⟨b, 0, none⟩)) (fval g (.slice p g.ts.len m) (.slice q g.sub.len n))).run Tryd.prog W =
    .ok () ((((W.setCell ⟨b, 0, none⟩ (.int .u8 g.op)).setCell ⟨b, 1, none⟩ (.string g.n)).setCell ⟨b, 2, none⟩ (.slice p g.ts.len m)).setCell ⟨b, 3, none⟩ (.slice q g.sub.len n)) := by
  have a0 := y0.1
  have a1 := y1.1
  have a2 := y2.1
  have a3 := y3.1
  have b0 := y0.2
  have b1 := y1.2
  have b2 := y2.2
  have b3 := y3.2
  simp [Instr.storeAt, go_sem, a0, a1, a2, a3, b0, b1, b2, b3]
abbrev a5 : Array Value := #[.bool false, .string ⟨#[97]⟩, .slice none 0 0, .bool false, .string ⟨#[97]⟩, .slice none 0 0, .bool false, .string ⟨#[97]⟩, .slice none 0 0, .bool false, .string ⟨#[97]⟩, .slice none 0 0, .bool false, .string ⟨#[97]⟩, .slice none 0 0]
abbrev aV : Value := .agg #[.bool false, .string ⟨#[97]⟩, .slice none 0 0]
theorem lay5 {W : World} : (Instr.buildSlice 22 5 #[(0, aV), (1, aV), (2, aV), (3, aV), (4, aV)]).run Tryd.prog W = .ok (.slice (some ⟨W.heap.size, 0, none⟩) 5 5) (W.alloc (.cells a5 49)) := by
  simp [Instr.buildSlice, go_sem, aV, a5]
theorem ex_buildSlice5 {P : Program} {a : Act} {w w' : World} {o : Oper} {v u0 u1 u2 u3 u4 : Value} {t : TypeId} {n : Nat} {x0 x1 x2 x3 x4 : Operand} (hop : o.op = .buildSlice t n #[(0, x0), (1, x1), (2, x2), (3, x3), (4, x4)]) (h0 : a.eval x0 = u0) (h1 : a.eval x1 = u1) (h2 : a.eval x2 = u2) (h3 : a.eval x3 = u3) (h4 : a.eval x4 = u4)
    (hr : (Instr.buildSlice t n #[(0, u0), (1, u1), (2, u2), (3, u3), (4, u4)]).run P w = .ok v w') : (execOp a.eval o).run P w = .ok (.value v) w' := by
  simp [execOp, hop, h0, h1, h2, h3, h4, hr, Result.andThen]
end Go.Proofs.YtngdieldgnlogaaDoor
