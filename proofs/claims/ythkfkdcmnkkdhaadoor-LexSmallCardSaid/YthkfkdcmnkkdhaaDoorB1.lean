/- What all texts of this seat use: worlds that grow, what rounds keep, the law for ranging over a function. -/
import Derived.Test.YthkfkdcmnkkdhaaDoorRows
import Derived.WalkKit
import Derived.Handy
import Derived.Outline
import Derived.BigQuiet
import Derived.Deep.QuietTactic
import Derived.WalkSpells
import Derived.WalkLawsBesides
import Derived.WalkSmall
import Derived.Lib.Hide
import Derived.Deep.RegionHeld3
import Derived.RangeFuncNested
import Derived.RangeFuncBound
import Derived.RangeFuncCalls
import Derived.RangeFuncLeaves
import Derived.Shelf.Abstract
import Derived.Shelf.RegionOpen
import Derived.OwnWalkIn
import Derived.TacticsInMore
import Derived.LoopNIn
import Derived.LoopIn
namespace Go.Proofs.YthkfkdcmnkkdhaaDoor
open Go Go.RowKit
set_option maxRecDepth 100000
/-- A slice of k elements, which lie where L says. -/
def SlOf (L : Nat → Nat → Prop) (k : Nat) (s : Value) : Prop := ∃ p c, s = .slice p k c ∧ (k = 0 ∨ ∃ b o, p = some ⟨b, o, none⟩ ∧ L b o)
theorem SlOf.imp {L L' : Nat → Nat → Prop} {k : Nat} {s : Value} (h : SlOf L k s) (hl : ∀ b o, L b o → L' b o) : SlOf L' k s := by
  obtain ⟨p, c, hs, hp⟩ := h
  exact ⟨p, c, hs, hp.imp_right fun ⟨b, o, e, h⟩ => ⟨b, o, e, hl b o h⟩⟩
theorem lt_of_cell {w : World} {b o : Nat} {v : Value} (h : w.cell? ⟨b, o, none⟩ = some v) : b < w.heap.size := by
  by_cases hb : b < w.heap.size
  · exact hb
  · rw [World.cell?, Array.getElem?_eq_none (by simpa using hb)] at h
    simp at h
theorem cell_below {w W : World} (hb : Below w.heap.size w W) {b o : Nat} {v : Value} (h : w.cell? ⟨b, o, none⟩ = some v) : W.cell? ⟨b, o, none⟩ = some v := (hb.cell (p := ⟨b, o, none⟩) (lt_of_cell h)).trans h
theorem cell_new (w : World) (cs : Array Value) (t : TypeId) (i : Nat) : (w.alloc (.cells cs t)).cell? ⟨w.heap.size, i, none⟩ = cs[i]? := by
  simp only [World.cell?, heap_alloc_new]
  rfl
theorem bel_step {w wr w' : World} (h : Below w.heap.size w wr) (hb : Below wr.heap.size wr w') : Below w.heap.size w w' := h.trans (hb.mono h.size)
theorem bel_laid (w : World) (o : Obj) : Below w.heap.size w (w.alloc o) := Below.alloc (Below.refl _ _) (Nat.le_refl _) _
theorem bel_stepLaid {w wr w' : World} {o : Obj} (h : Below w.heap.size w wr) (hb : Below (wr.alloc o).heap.size (wr.alloc o) w') : Below w.heap.size w w' := bel_step h (bel_step (bel_laid wr o) hb)
theorem bel_drew (w : World) : Below w.heap.size w w.drew := ⟨rfl, rfl, rfl, Nat.le_refl _, fun _ _ => rfl⟩
/-- What a round keeps: all cells outside some blocks of the caller's; and from K on whatever is no cells. -/
def KL (L : List Nat) (K : Nat) (W W' : World) : Prop := W.heap.size ≤ W'.heap.size ∧ (∀ b o v, b ∉ L → W.cell? ⟨b, o, none⟩ = some v → W'.cell? ⟨b, o, none⟩ = some v) ∧
  ∀ k o, K ≤ k → W.heap[k]? = some o → o.isCells = false → W'.heap[k]? = some o
theorem KL.refl (L : List Nat) (K : Nat) (W : World) : KL L K W W := ⟨Nat.le_refl _, fun _ _ _ _ h => h, fun _ _ _ h _ => h⟩
theorem KL.trans {L : List Nat} {K : Nat} {A B C : World} (h : KL L K A B) (h' : KL L K B C) : KL L K A C :=
  ⟨Nat.le_trans h.1 h'.1, fun b o v hb hc => h'.2.1 b o v hb (h.2.1 b o v hb hc), fun k o hk ho hn => h'.2.2 k o hk (h.2.2 k o hk ho hn) hn⟩
theorem KL.of_below {L : List Nat} {K : Nat} {W W' : World} (h : Below W.heap.size W W') : KL L K W W' :=
  ⟨h.size, fun _ _ _ _ hc => cell_below h hc, fun k _ _ ho _ => (h.block k (Array.getElem?_eq_some_iff.1 ho).1).trans ho⟩
theorem KL.more {L : List Nat} {K K' : Nat} {W W' : World} (h : KL L K W W') (hK : K ≤ K') : KL L K' W W' := ⟨h.1, h.2.1, fun k o hk => h.2.2 k o (Nat.le_trans hK hk)⟩
theorem KL.from {L : List Nat} {K B : Nat} {W W' : World} (h : KL L K W W') (hK : K ≤ B) : KeepsFrom B W W' := ⟨h.1, fun k o hk => h.2.2 k o (Nat.le_trans hK hk)⟩
theorem KL.put {L : List Nat} {K : Nat} {W : World} {l : Nat} {o : Obj} (o' : Obj) (hl : W.heap[l]? = some o) (ho : o.isCells = false) (hK : l < K) : KL L K W (W.putObj l o') := by
  refine ⟨by simp [World.putObj], fun b i v _ hc => ?_, fun k o2 hk h2 _ => ?_⟩
  · have hne : l ≠ b := by
      rintro rfl
      unfold World.cell? at hc
      rw [hl] at hc
      cases o <;> simp_all [Obj.isCells]
    have : (W.putObj l o').heap[b]? = W.heap[b]? := World.putObj_heap_other (Ne.symm hne)
    unfold World.cell? at hc ⊢
    rw [this]
    exact hc
  · rw [World.putObj_heap_other (by omega)]
    exact h2
theorem keeps_trans {K : Nat} {A B C : World} (h : KeepsFrom K A B) (h' : KeepsFrom K B C) : KeepsFrom K A C := ⟨Nat.le_trans h.size h'.size, fun k o hk ho hn => h'.same k o hk (h.same k o hk ho hn) hn⟩
theorem keeps_more {K K' : Nat} {A B : World} (h : KeepsFrom K A B) (hK : K ≤ K') : KeepsFrom K' A B := ⟨h.size, fun k o hk => h.same k o (Nat.le_trans hK hk)⟩
theorem keeps_put {K l : Nat} (W : World) (o' : Obj) (hK : l < K) : KeepsFrom K W (W.putObj l o') := ⟨by simp [World.putObj], fun k o hk ho _ => by rw [World.putObj_heap_other (by omega)]; exact ho⟩
section
variable {α τ : Type} {n : Nat} {P : Program} {w : World}
/-- An iterator: what comes reads, one after the other, as the list T; or a round has said 'no more', and a beginning of T has come. -/
def SeqO (n : Nat) (P : Program) (g : Nat) (lb : Array Value) (encs : α → Array Value) (Kp : World → World → Prop) (tr : α → τ) (T : List τ) (w : World) (K : Nat) : Prop :=
  ∀ (l : Nat) (J Jx : List α → World → Prop) (W : World), Below w.heap.size w W → K ≤ W.heap.size → OwnFrom W.heap.size J → OwnFrom W.heap.size Jx →
    (∀ m pre x W1, J pre W1 → (pre ++ [x]).map tr <+: T → YieldAt Fence.wide m P l (encs x) W1 fun e W' =>
      (e = .returned (.bool true) ∧ J (pre ++ [x]) W' ∧ Kp W1 W') ∨ (e = .returned (.bool false) ∧ Jx (pre ++ [x]) W' ∧ KeepsFrom K W1 W')) →
    J [] W →
    CallsIn Fence.wide n P g (#[.func (.yield l) #[] #[]] ++ lb) W fun e W' => (∃ v, e = .returned v) ∧ ((∃ xs : List α, xs.map tr = T ∧ J xs W') ∨ (∃ pre : List α, pre.map tr <+: T ∧ Jx pre W'))
/-- The caller's law. -/
theorem wpIn_rangeFunc_O {g : Operand} {ps : Array Tmp} {assign body : Code} {Q : Exit → Act → World → Prop} {a : Act} {w : World}
    {gf : Nat} {lb : Array Value} (hg : a.eval g = .func (.func gf) #[] lb) (eg : ∀ args w, (callFunc gf args).run P w = .ok (.enter gf args) w)
    {encs : α → Array Value} {Kp : World → World → Prop} {tr : α → τ} {T : List τ} {w0 : World} (hseq : SeqO (n - 1) P gf lb encs Kp tr T w0 (w.heap.size + 2))
    (hKt : ∀ {A B C : World}, Kp A B → Kp B C → Kp A C) (hKb : ∀ (W : World) (l : Nat) (o o' : Obj), w.heap.size ≤ l → l < w.heap.size + 2 → W.heap[l]? = some o → o.isCells = false → o.isWalk = false → Kp W (W.putObj l o')) (hb0 : Below w0.heap.size w0 w) (hps : ∀ x, (encs x).size = ps.size)
    (I : List α → World → Prop) (Ix : Code → List α → World → Prop) (hI : OwnFrom w.heap.size I) (hIx : ∀ c, OwnFrom w.heap.size (Ix c)) (h0 : I [] w) (Ax : α → Act → World → Prop) (hAx : ∀ x a', OwnFrom w.heap.size (fun (_ : Unit) W => Ax x a' W))
    (hassign : ∀ (m : Nat) (l : Nat) (pre : List α) (x : α) (W : World) (K : Act → World → Prop), I pre W → (∀ a' W', KeepsFrom w.heap.size W W' → Kp W W' → I pre W' → Ax x a' W' → K a' W') →
      assign.wpIn (Fence.wide.inRound l) m P (Exit.then K (fun _ _ _ => False)) { tmps := (ps.zip (encs x)).foldl (fun t (p, v) => t.setIfInBounds p v) a.tmps, defers := [] } W)
    (hbody : ∀ (m : Nat) (l : Nat) (pre : List α) (x : α) (a' : Act) (W : World), w.heap.size ≤ l → (∃ r, W.heap[l]? = some (.loop r)) → I pre W → Ax x a' W → (pre ++ [x]).map tr <+: T → body.wpIn (Fence.wide.inRound l) m P (ownPostG w.heap.size Kp I Ix (pre ++ [x]) W) a' W)
    (hdone : ∀ (D : Nat) (xs : List α) (W : World), w.heap.size ≤ D → xs.map tr = T → I xs W → W.heap[D]? = some (.deferred (some [])) → Q .normal { a with defers := { target := .collected D, args := #[] } :: a.defers } W)
    (hstop : ∀ (D : Nat) (c : Code) (pre : List α) (W : World), w.heap.size ≤ D → pre.map tr <+: T → Ix c pre W → W.heap[D]? = some (.deferred (some [])) → c.wpIn Fence.wide n P Q { a with defers := { target := .collected D, args := #[] } :: a.defers } W) :
    (Code.rangeFunc g ps assign body).wpIn Fence.wide n P Q a w := by
  refine wpIn_rangeFunc ?_
  intro fn hfn
  rw [show Fence.wide.round = none from rfl]
  obtain ⟨rec, hrec⟩ : ∃ rec : LoopState → Option Code → Loop, rec = fun st pe => { state := st, pending := pe, fn, tmps := a.tmps, params := ps, assign, body, defers := w.heap.size } := ⟨_, rfl⟩
  obtain ⟨V, hV⟩ : ∃ V, (w.alloc (.deferred (some []))).alloc (.loop (rec .ready none)) = V := ⟨_, rfl⟩
  have sz : V.heap.size = w.heap.size + 2 := by rw [← hV]; simp
  have hl1 : V.heap[w.heap.size + 1]? = some (.loop (rec .ready none)) := by
    have := World.alloc_heap_new (w.alloc (.deferred (some []))) (.loop (rec .ready none))
    rw [World.size_alloc] at this
    rw [← hV]; exact this
  have hd1 : V.heap[w.heap.size]? = some (.deferred (some [])) := by
    rw [← hV]; exact (Below.heap_alloc _ _ _ (by simp)).trans (World.alloc_heap_new w _)
  have hI1 : I [] V := by rw [← hV]; exact hI.alloc _ (hI.alloc _ h0)
  have hb1 : Below w0.heap.size w0 V := by
    rw [← hV]
    exact hb0.trans ((((Below.refl _ w).alloc (Nat.le_refl _) _).alloc (by simp) _).mono hb0.size)
  refine ⟨w.heap.size + 1, [{ target := .collected w.heap.size, args := #[] }], V, { target := .fn (.func gf) lb, args := #[.func (.yield (w.heap.size + 1)) #[] #[]] }, V, gf,
    #[.func (.yield (w.heap.size + 1)) #[] #[]] ++ lb, V, ?_, ?_, ?_, ?_, fun h => (by cases h), ?_⟩
  · rw [← hV, hrec]; exact run_enterLoop_outer _ _ _ _ _
  · simp only [resolve, hg]
    simp [go_sem]
  · intro f' _; trivial
  · simp [invoke, go_sem, eg]
  · -- the two blocks of the loop's own books lie as they lay, whatever is turned from V's end on
    have low : ∀ {A B : World} {row : Option Nat} {k : Nat} {o : Obj}, A.grownBy B row → (∀ r, row = some r → V.heap.size ≤ r ∧ ∃ o : Obj, A.heap[r]? = some o ∧ o.isCells = false) → k < V.heap.size → A.heap[k]? = some o → B.heap[k]? = some o := by
      intro A B row k o hg' hr hk ho
      have hA : k < A.heap.size := (Array.getElem?_eq_some_iff.1 ho).1
      rw [hg'.block k hA (fun e => by have := (hr k e.symm).1; omega)]
      exact ho
    have up : ∀ {A : World} {row : Option Nat}, (∀ r, row = some r → V.heap.size ≤ r ∧ ∃ o : Obj, A.heap[r]? = some o ∧ o.isCells = false) → (∀ r, row = some r → w.heap.size ≤ r ∧ ∃ o : Obj, A.heap[r]? = some o ∧ o.isCells = false) :=
      fun hr r e => ⟨by have := (hr r e).1; omega, (hr r e).2⟩
    refine (hseq (w.heap.size + 1)
      (fun pre W => I pre W ∧ W.heap[w.heap.size + 1]? = some (.loop (rec .ready none)) ∧ W.heap[w.heap.size]? = some (.deferred (some [])))
      (fun pre W => ∃ c, Ix c pre W ∧ W.heap[w.heap.size + 1]? = some (.loop (rec .done (some c))) ∧ W.heap[w.heap.size]? = some (.deferred (some [])))
      V hb1 (by omega)
      (fun s A B row hs hg' hr => ⟨hI s A B row hs.1 hg' (up hr), low hg' hr (by omega) hs.2.1, low hg' hr (by omega) hs.2.2⟩)
      (fun s A B row hs hg' hr => by
        obtain ⟨c, hc, hl, hk⟩ := hs
        exact ⟨c, hIx c s A B row hc hg' (up hr), low hg' hr (by omega) hl, low hg' hr (by omega) hk⟩)
      ?_ ⟨hI1, hl1, hd1⟩).mono ?_
    · rintro m pre x W ⟨hi, hl, hk⟩ hpre
      have hy := run_yield (P := P) (args := encs x) hl (by rw [hrec]; exact hps x)
      rw [hrec] at hy
      refine ⟨fn, _, assign, body, hy, roundIn_of_wpIn hfn (hassign _ _ pre x W _ hi ?_)⟩
      clear hy
      intro a' X hkf hkp hia hax
      have hlX := hkf.same _ _ (by omega) hl rfl
      have hkX := hkf.same _ _ (Nat.le_refl _) hk rfl
      have ltX : w.heap.size + 1 < X.heap.size := (Array.getElem?_eq_some_iff.1 hlX).1
      refine ⟨_, run_beginRound hlX (by rw [hrec]), ?_⟩
      obtain ⟨Y, hY⟩ : ∃ Y, X.putObj (w.heap.size + 1) (.loop { rec .ready none with state := .busy }) = Y := ⟨_, rfl⟩
      have hlY : Y.heap[w.heap.size + 1]? = some (.loop { rec .ready none with state := .busy }) := by rw [← hY]; exact World.putObj_heap_same ltX
      have hkY : Y.heap[w.heap.size]? = some (.deferred (some [])) := by rw [← hY]; exact (World.putObj_heap_other (by omega)).trans hkX
      have hkpY : Kp X Y := by rw [← hY]; exact hKb _ _ _ _ (by omega) (by omega) hlX rfl rfl
      have hiY : I pre Y := by rw [← hY]; exact hI.putObj _ hia (by omega) hlX rfl
      have haY : Ax x a' Y := by rw [← hY]; exact (hAx x a').putObj (s := ()) _ hax (by omega) hlX rfl
      rw [hY]
      refine wpIn_mono (hbody _ _ pre x a' Y (by omega) ⟨_, hlY⟩ hiY haY hpre) ?_
      have fin : ∀ (jump : Option Code) (Z : World), KeepsFrom w.heap.size Y Z →
          (Instr.endRound (w.heap.size + 1) jump).run P Z = .ok (.bool jump.isNone) (Z.putObj (w.heap.size + 1) (.loop (rec (if jump.isNone then .ready else .done) jump))) ∧
          Z.heap[w.heap.size + 1]? = some (.loop { rec .ready none with state := .busy }) ∧
          (Z.putObj (w.heap.size + 1) (.loop (rec (if jump.isNone then .ready else .done) jump))).heap[w.heap.size + 1]? = some (.loop (rec (if jump.isNone then .ready else .done) jump)) ∧
          (Z.putObj (w.heap.size + 1) (.loop (rec (if jump.isNone then .ready else .done) jump))).heap[w.heap.size]? = some (.deferred (some [])) := fun jump Z hz => by
        have h3 := hz.same _ _ (by omega) hlY rfl
        have h4 := run_endRound (P := P) jump h3
        rw [hrec] at h4 ⊢
        exact ⟨h4, by rw [hrec] at h3; exact h3, World.putObj_heap_same (Array.getElem?_eq_some_iff.1 h3).1, (World.putObj_heap_other (by omega)).trans (hz.same _ _ (Nat.le_refl _) hkY rfl)⟩
      have kout : ∀ (o : Obj) (Z : World), KeepsFrom w.heap.size Y Z → KeepsFrom (w.heap.size + 2) W (Z.putObj (w.heap.size + 1) o) := fun o Z hz =>
        keeps_trans (keeps_more hkf (by omega)) (keeps_trans (by rw [← hY]; exact keeps_put _ _ (by omega)) (keeps_trans (keeps_more hz (by omega)) (keeps_put _ _ (by omega))))
      have out : ∀ (c : Code) (Z : World), KeepsFrom w.heap.size Y Z ∧ Ix c (pre ++ [x]) Z → _ := fun c Z hz => fin (some c) Z hz.1
      rintro e b Z hp
      cases e with
      | normal =>
        obtain ⟨hz, hkz, hiz⟩ := hp
        obtain ⟨hr, h3, h4, h5⟩ := fin none Z hz
        exact ⟨_, _, hr, .inl ⟨rfl, ⟨hI.putObj _ hiz (by omega) h3 rfl, h4, h5⟩, hKt hkp (hKt (hKt hkpY hkz) (hKb _ _ _ _ (by omega) (by omega) h3 rfl rfl))⟩⟩
      | ret =>
        obtain ⟨hr, h3, h4, h5⟩ := out .ret Z hp
        exact ⟨_, _, hr, .inr ⟨rfl, ⟨.ret, (hIx _).putObj _ hp.2 (by omega) h3 rfl, h4, h5⟩, kout _ _ hp.1⟩⟩
      | exit id =>
        obtain ⟨hr, h3, h4, h5⟩ := out (.exit id) Z hp
        exact ⟨_, _, hr, .inr ⟨rfl, ⟨.exit id, (hIx _).putObj _ hp.2 (by omega) h3 rfl, h4, h5⟩, kout _ _ hp.1⟩⟩
      | goto t =>
        obtain ⟨hr, h3, h4, h5⟩ := out (.goto t) Z hp
        exact ⟨_, _, hr, .inr ⟨rfl, ⟨.goto t, (hIx _).putObj _ hp.2 (by omega) h3 rfl, h4, h5⟩, kout _ _ hp.1⟩⟩
      | panic ch => exact hp.elim
      | outgrown => exact hp.elim
    · rintro e Z ⟨⟨v, rfl⟩, (⟨xs, hS, hi, hl, hk⟩ | ⟨pre, hSp, c, hi, hl, hk⟩)⟩
      · exact ⟨none, _, by have := run_endLoop (P := P) hl (by rw [hrec]; simp); rw [hrec] at this; exact this, hdone _ xs _ (Nat.le_refl _) hS (hI.putObj _ hi (by omega) hl rfl) ((World.putObj_heap_other (by omega)).trans hk)⟩
      · exact ⟨some c, _, by have := run_endLoop (P := P) hl (by rw [hrec]; simp); rw [hrec] at this; exact this, hstop _ c pre _ (Nat.le_refl _) hSp ((hIx c).putObj _ hi (by omega) hl rfl) ((World.putObj_heap_other (by omega)).trans hk)⟩
end
end Go.Proofs.YthkfkdcmnkkdhaaDoor
namespace Go.Proofs.YthkfkdcmnkkdhaaDoor
open Go Go.RowKit Go.Shelf
set_option maxRecDepth 100000
/-- All cells of the one world read the same in the other. -/
def Ext (w W : World) : Prop := ∀ b o v, w.cell? ⟨b, o, none⟩ = some v → W.cell? ⟨b, o, none⟩ = some v
theorem Ext.refl (w : World) : Ext w w := fun _ _ _ h => h
theorem Ext.of_below {w W : World} (h : Below w.heap.size w W) : Ext w W := fun _ _ _ hc => cell_below h hc
theorem Ext.trans {A B C : World} (h : Ext A B) (h' : Ext B C) : Ext A C := fun b o v hc => h' b o v (h b o v hc)
theorem Ext.keep {L : List Nat} {K : Nat} {w A B : World} (h : Ext w A) (hk : KL L K A B) (hL : ∀ b ∈ L, w.heap.size ≤ b) : Ext w B := fun b o v hc =>
  hk.2.1 b o v (fun hb => by have := hL b hb; have := lt_of_cell hc; omega) (h b o v hc)
theorem hdd (k : Nat) : Fence.wide.depth.isSome = true → 1 ≤ k := fun h => by cases h
/-- What a round may count on (G), and the blocks that it keeps (Sf). -/
structure Lives (w0 : World) (G : World → Prop) (Sf : World → Nat → Prop) : Prop where
  sb : ∀ {A B : World} {b : Nat}, Below A.heap.size A B → b < A.heap.size → Sf A b → Sf B b
  gb : ∀ {A B : World}, Below A.heap.size A B → G A → G B
  fr : ∀ (W : World) (o : Obj), G W → Sf (W.alloc o) W.heap.size
  s0 : ∀ {W : World} {b : Nat}, G W → b < w0.heap.size → Sf W b
  pt : ∀ {W : World} {l : Nat} {o : Obj} (o' : Obj), W.heap[l]? = some o → o.isCells = false → (G W → G (W.putObj l o')) ∧ ∀ b, b < W.heap.size → Sf W b → Sf (W.putObj l o') b
  gw : ∀ {A B : World} {row : Option Nat}, A.grownBy B row → (∀ r, row = some r → ∃ o : Obj, A.heap[r]? = some o ∧ o.isCells = false) → (G A → G B) ∧ ∀ b, b < A.heap.size → Sf A b → Sf B b
/-- What a round keeps. -/
def KS (G : World → Prop) (Sf : World → Nat → Prop) (K : Nat) (A B : World) : Prop := A.heap.size ≤ B.heap.size ∧ (∀ b o v, Sf A b → A.cell? ⟨b, o, none⟩ = some v → B.cell? ⟨b, o, none⟩ = some v) ∧
  (∀ b, b < A.heap.size → Sf A b → Sf B b) ∧ (G A → G B) ∧ ∀ k o, K ≤ k → A.heap[k]? = some o → o.isCells = false → B.heap[k]? = some o
theorem KS.trans {G : World → Prop} {Sf : World → Nat → Prop} {K : Nat} {A B C : World} (h : KS G Sf K A B) (h' : KS G Sf K B C) : KS G Sf K A C :=
  ⟨Nat.le_trans h.1 h'.1, fun b o v hs hc => h'.2.1 b o v (h.2.2.1 b (lt_of_cell hc) hs) (h.2.1 b o v hs hc), fun b hb hs => h'.2.2.1 b (Nat.lt_of_lt_of_le hb h.1) (h.2.2.1 b hb hs),
   fun hg => h'.2.2.2.1 (h.2.2.2.1 hg), fun k o hk ho hn => h'.2.2.2.2 k o hk (h.2.2.2.2 k o hk ho hn) hn⟩
theorem KS.of_below {w0 : World} {G : World → Prop} {Sf : World → Nat → Prop} (hL : Lives w0 G Sf) {K : Nat} {A B : World} (h : Below A.heap.size A B) : KS G Sf K A B :=
  ⟨h.size, fun _ _ _ _ hc => cell_below h hc, fun _ hb hs => hL.sb h hb hs, fun hg => hL.gb h hg, fun k _ _ ho _ => (h.block k (Array.getElem?_eq_some_iff.1 ho).1).trans ho⟩
theorem KS.from {G : World → Prop} {Sf : World → Nat → Prop} {K B : Nat} {W W' : World} (h : KS G Sf K W W') (hK : K ≤ B) : KeepsFrom B W W' := ⟨h.1, fun k o hk => h.2.2.2.2 k o (Nat.le_trans hK hk)⟩
theorem KS.more {G : World → Prop} {Sf : World → Nat → Prop} {K K' : Nat} {A B : World} (h : KS G Sf K A B) (hK : K ≤ K') : KS G Sf K' A B := ⟨h.1, h.2.1, h.2.2.1, h.2.2.2.1, fun k o hk => h.2.2.2.2 k o (Nat.le_trans hK hk)⟩
theorem KS.put {w0 : World} {G : World → Prop} {Sf : World → Nat → Prop} (hL : Lives w0 G Sf) {K : Nat} {W : World} {l : Nat} {o : Obj} (o' : Obj) (hl : W.heap[l]? = some o) (ho : o.isCells = false) (hK : l < K) : KS G Sf K W (W.putObj l o') := by
  have hkl := KL.put (L := []) o' hl ho hK
  exact ⟨hkl.1, fun b i v _ hc => hkl.2.1 b i v (by simp) hc, (hL.pt o' hl ho).2, (hL.pt o' hl ho).1, hkl.2.2⟩
theorem Ext.keepS {w0 : World} {G : World → Prop} {Sf : World → Nat → Prop} {K : Nat} {A B : World} (h : Ext w0 A) (hL : Lives w0 G Sf) (hk : KS G Sf K A B) (hg : G A) : Ext w0 B := fun b o v hc =>
  hk.2.1 b o v (hL.s0 hg (lt_of_cell hc)) (h b o v hc)
set_option maxHeartbeats 1000000 in
/-- What a round may count on (G), and the blocks that it keeps (Sf). -/
structure Lives0 (w0 : World) (G : World → Prop) (Sf : World → Nat → Prop) : Prop where
  sb : ∀ {A B : World} {b : Nat}, Below A.heap.size A B → b < A.heap.size → Sf A b → Sf B b
  gb : ∀ {A B : World}, Below A.heap.size A B → G A → G B
  fr : ∀ (W : World) (o : Obj), G W → Sf (W.alloc o) W.heap.size
  s0 : ∀ {W : World} {b : Nat}, G W → b < w0.heap.size → Sf W b
theorem KS.of_below0 {w0 : World} {G : World → Prop} {Sf : World → Nat → Prop} (hL : Lives0 w0 G Sf) {K : Nat} {A B : World} (h : Below A.heap.size A B) : KS G Sf K A B :=
  ⟨h.size, fun _ _ _ _ hc => cell_below h hc, fun _ hb hs => hL.sb h hb hs, fun hg => hL.gb h hg, fun k _ _ ho _ => (h.block k (Array.getElem?_eq_some_iff.1 ho).1).trans ho⟩
theorem Ext.keepS0 {w0 : World} {G : World → Prop} {Sf : World → Nat → Prop} {K : Nat} {A B : World} (h : Ext w0 A) (hL : Lives0 w0 G Sf) (hk : KS G Sf K A B) (hg : G A) : Ext w0 B := fun b o v hc =>
  hk.2.1 b o v (hL.s0 hg (lt_of_cell hc)) (h b o v hc)
set_option maxHeartbeats 1000000 in
theorem OwnFrom.more {β : Type} {B B' : Nat} {I : β → World → Prop} (h : OwnFrom B I) (hB : B ≤ B') : OwnFrom B' I :=
  fun s W W' row hs hg hr => h s W W' row hs hg (fun r e => ⟨Nat.le_trans hB (hr r e).1, (hr r e).2⟩)
theorem Ext.grown {w A B : World} {row : Option Nat} (h : Ext w A) (hg : A.grownBy B row) (hr : ∀ r, row = some r → ∃ o : Obj, A.heap[r]? = some o ∧ o.isCells = false) : Ext w B :=
  fun b o v hc => cell_kept (h b o v hc) hg hr
theorem bel_grown {W W' : World} (h : Below W.heap.size W W') : W.grownBy W' none := ⟨h.os, h.tape, h.output, h.size, fun k hk _ => h.block k hk⟩
theorem KL.set {L : List Nat} {K b : Nat} (V : World) (u : Value) (hb : b ∈ L) : KL L K V (V.setCell ⟨b, 0, none⟩ u) :=
  ⟨(KeepsOthers.setCell V ⟨b, 0, none⟩ u).size, fun b' o v hn hc => by
    rw [World.cell?_setCell_far _ _ _ _ (fun e => hn (by rw [← show b = b' from e]; exact hb))]
    exact hc, fun k o _ ho hn => (KeepsOthers.setCell V ⟨b, 0, none⟩ u).same k o ho hn⟩
theorem bel_put {B D : Nat} (V : World) (o : Obj) (h : B ≤ D) : Below B V (V.putObj D o) := ⟨rfl, rfl, rfl, by simp [World.putObj], fun k hk => World.putObj_heap_other (by omega)⟩
/-- A block that was laid lies as it was laid, and may be written. -/
theorem blk_below {w V : World} {cs : Array Value} {t : TypeId} (hb : Below (w.alloc (.cells cs t)).heap.size (w.alloc (.cells cs t)) V) (i : Nat) (v : Value) (hv : cs[i]? = some v) :
    V.cell? ⟨w.heap.size, i, none⟩ = some v ∧ V.frozen? ⟨w.heap.size, i, none⟩ = false := by
  have h1 := (cell_new w cs t i).trans hv
  exact ⟨cell_below hb h1, (hb.frozen (p := ⟨w.heap.size, i, none⟩) (lt_of_cell h1)).trans (World.frozen?_alloc_at cs t _ i rfl)⟩
end Go.Proofs.YthkfkdcmnkkdhaaDoor
