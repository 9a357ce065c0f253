/- Ranging over a function that writes into a block of its own between the rounds. -/
import Derived.Test.YthkfkdcmnkkdhaaDoorF6
import Derived.Test.YthkfkdcmnkkdhaaDoorT1
namespace Go.Proofs.YthkfkdcmnkkdhaaDoor
open Go Go.RowKit
set_option maxRecDepth 100000
set_option linter.unusedVariables false
/-- What holds, holds behind a change of one block b from N on of which S says that it may. -/
def ClS {β : Type} (S : World → Nat → Prop) (N : Nat) (J : β → World → Prop) : Prop := ∀ s A B b, J s A → N ≤ b → S A b → But b A B → J s B
section
variable {α τ : Type} {n : Nat} {P : Program} {w : World}
/-- An iterator: what comes reads, one after the other, as the list T; or a round has said 'no more', and a beginning of T has come. -/
def SeqP (S : World → Nat → Prop) (n : Nat) (P : Program) (g : Nat) (lb : Array Value) (encs : α → Array Value) (Kp : World → World → Prop) (tr : α → τ) (T : List τ) (w : World) (K : Nat) : Prop :=
  ∀ (l : Nat) (J Jx : List α → World → Prop) (W : World), Below w.heap.size w W → K ≤ W.heap.size → OwnFrom W.heap.size J → OwnFrom W.heap.size Jx → ClS S W.heap.size J → ClS S W.heap.size Jx →
    (∀ m pre x W1, J pre W1 → (pre ++ [x]).map tr <+: T → YieldAt Fence.wide m P l (encs x) W1 fun e W' =>
      (e = .returned (.bool true) ∧ J (pre ++ [x]) W' ∧ Kp W1 W') ∨ (e = .returned (.bool false) ∧ Jx (pre ++ [x]) W' ∧ KeepsFrom K W1 W')) →
    J [] W →
    CallsIn Fence.wide n P g (#[.func (.yield l) #[] #[]] ++ lb) W fun e W' => (∃ v, e = .returned v) ∧ ((∃ xs : List α, xs.map tr = T ∧ J xs W') ∨ (∃ pre : List α, pre.map tr <+: T ∧ Jx pre W'))
/-- The caller's law. -/
theorem wpIn_rangeFunc_P {S : World → Nat → Prop} {g : Operand} {ps : Array Tmp} {assign body : Code} {Q : Exit → Act → World → Prop} {a : Act} {w : World}
    {gf : Nat} {lb : Array Value} (hg : a.eval g = .func (.func gf) #[] lb) (eg : ∀ args w, (callFunc gf args).run P w = .ok (.enter gf args) w)
    {encs : α → Array Value} {Kp : World → World → Prop} {tr : α → τ} {T : List τ} {w0 : World} (hseq : SeqP S (n - 1) P gf lb encs Kp tr T w0 (w.heap.size + 2))
    (hKt : ∀ {A B C : World}, Kp A B → Kp B C → Kp A C) (hKb : ∀ (W : World) (l : Nat) (o o' : Obj), w.heap.size ≤ l → l < w.heap.size + 2 → W.heap[l]? = some o → o.isCells = false → o.isWalk = false → Kp W (W.putObj l o')) (hb0 : Below w0.heap.size w0 w) (hps : ∀ x, (encs x).size = ps.size)
    (I : List α → World → Prop) (Ix : Code → List α → World → Prop) (hI : OwnFrom w.heap.size I) (hIx : ∀ c, OwnFrom w.heap.size (Ix c)) (hIc : ClS S w.heap.size I) (hIxc : ∀ c, ClS S w.heap.size (Ix c)) (h0 : I [] w) (Ax : α → Act → World → Prop) (hAx : ∀ x a', OwnFrom w.heap.size (fun (_ : Unit) W => Ax x a' W))
    (hassign : ∀ (m : Nat) (l : Nat) (pre : List α) (x : α) (W : World) (K : Act → World → Prop), I pre W → (∀ a' W', KeepsFrom w.heap.size W W' → Kp W W' → I pre W' → Ax x a' W' → K a' W') →
      assign.wpIn (Fence.wide.inRound l) m P (Exit.then K (fun _ _ _ => False)) { tmps := (ps.zip (encs x)).foldl (fun t (p, v) => t.setIfInBounds p v) a.tmps, defers := [] } W)
    (hbody : ∀ (m : Nat) (l : Nat) (pre : List α) (x : α) (a' : Act) (W : World), w.heap.size ≤ l → (∃ r, W.heap[l]? = some (.loop r)) → I pre W → Ax x a' W → (pre ++ [x]).map tr <+: T → body.wpIn (Fence.wide.inRound l) m P (ownPostG w.heap.size Kp I Ix (pre ++ [x]) W) a' W)
    (hdone : ∀ (D : Nat) (xs : List α) (W : World), w.heap.size ≤ D → xs.map tr = T → I xs W → W.heap[D]? = some (.deferred (some [])) → Q .normal { a with defers := { target := .collected D, args := #[] } :: a.defers } W)
    (hstop : ∀ (D : Nat) (c : Code) (pre : List α) (W : World), w.heap.size ≤ D → pre.map tr <+: T → Ix c pre W → W.heap[D]? = some (.deferred (some [])) → c.wpIn Fence.wide n P Q { a with defers := { target := .collected D, args := #[] } :: a.defers } W) :
    (Code.rangeFunc g ps assign body).wpIn Fence.wide n P Q a w := by
  refine wpIn_rangeFunc ?_
  intro fn hfn
  rw [show Fence.wide.round = none from rfl]
  obtain ⟨rec, hrec⟩ : ∃ rec : LoopState → Option Code → Loop, rec = fun st pe => { state := st, pending := pe, fn, tmps := a.tmps, params := ps, assign, body, defers := w.heap.size } := ⟨_, rfl⟩
  obtain ⟨V, hV⟩ : ∃ V, (w.alloc (.deferred (some []))).alloc (.loop (rec .ready none)) = V := ⟨_, rfl⟩
  have sz : V.heap.size = w.heap.size + 2 := by rw [← hV]; simp
  have hl1 : V.heap[w.heap.size + 1]? = some (.loop (rec .ready none)) := by
    have := World.alloc_heap_new (w.alloc (.deferred (some []))) (.loop (rec .ready none))
    rw [World.size_alloc] at this
    rw [← hV]; exact this
  have hd1 : V.heap[w.heap.size]? = some (.deferred (some [])) := by
    rw [← hV]; exact (Below.heap_alloc _ _ _ (by simp)).trans (World.alloc_heap_new w _)
  have hI1 : I [] V := by rw [← hV]; exact hI.alloc _ (hI.alloc _ h0)
  have hb1 : Below w0.heap.size w0 V := by
    rw [← hV]
    exact hb0.trans ((((Below.refl _ w).alloc (Nat.le_refl _) _).alloc (by simp) _).mono hb0.size)
  refine ⟨w.heap.size + 1, [{ target := .collected w.heap.size, args := #[] }], V, { target := .fn (.func gf) lb, args := #[.func (.yield (w.heap.size + 1)) #[] #[]] }, V, gf,
    #[.func (.yield (w.heap.size + 1)) #[] #[]] ++ lb, V, ?_, ?_, ?_, ?_, fun h => (by cases h), ?_⟩
  · rw [← hV, hrec]; exact run_enterLoop_outer _ _ _ _ _
  · simp only [resolve, hg]
    simp [go_sem]
  · intro f' _; trivial
  · simp [invoke, go_sem, eg]
  · -- the two blocks of the loop's own books lie as they lay, whatever is turned from V's end on
    have low : ∀ {A B : World} {row : Option Nat} {k : Nat} {o : Obj}, A.grownBy B row → (∀ r, row = some r → V.heap.size ≤ r ∧ ∃ o : Obj, A.heap[r]? = some o ∧ o.isCells = false) → k < V.heap.size → A.heap[k]? = some o → B.heap[k]? = some o := by
      intro A B row k o hg' hr hk ho
      have hA : k < A.heap.size := (Array.getElem?_eq_some_iff.1 ho).1
      rw [hg'.block k hA (fun e => by have := (hr k e.symm).1; omega)]
      exact ho
    have up : ∀ {A : World} {row : Option Nat}, (∀ r, row = some r → V.heap.size ≤ r ∧ ∃ o : Obj, A.heap[r]? = some o ∧ o.isCells = false) → (∀ r, row = some r → w.heap.size ≤ r ∧ ∃ o : Obj, A.heap[r]? = some o ∧ o.isCells = false) :=
      fun hr r e => ⟨by have := (hr r e).1; omega, (hr r e).2⟩
    refine (hseq (w.heap.size + 1)
      (fun pre W => I pre W ∧ W.heap[w.heap.size + 1]? = some (.loop (rec .ready none)) ∧ W.heap[w.heap.size]? = some (.deferred (some [])))
      (fun pre W => ∃ c, Ix c pre W ∧ W.heap[w.heap.size + 1]? = some (.loop (rec .done (some c))) ∧ W.heap[w.heap.size]? = some (.deferred (some [])))
      V hb1 (by omega)
      (fun s A B row hs hg' hr => ⟨hI s A B row hs.1 hg' (up hr), low hg' hr (by omega) hs.2.1, low hg' hr (by omega) hs.2.2⟩)
      (fun s A B row hs hg' hr => by
        obtain ⟨c, hc, hl, hk⟩ := hs
        exact ⟨c, hIx c s A B row hc hg' (up hr), low hg' hr (by omega) hl, low hg' hr (by omega) hk⟩)
      (fun s A B b hs hN hS hbt => ⟨hIc s A B b hs.1 (by omega) hS hbt, (hbt.2.2.2.2 _ (Array.getElem?_eq_some_iff.1 hs.2.1).1 (by omega)).trans hs.2.1, (hbt.2.2.2.2 _ (Array.getElem?_eq_some_iff.1 hs.2.2).1 (by omega)).trans hs.2.2⟩)
      (fun s A B b hs hN hS hbt => by
        obtain ⟨c, hc, hl, hk⟩ := hs
        exact ⟨c, hIxc c s A B b hc (by omega) hS hbt, (hbt.2.2.2.2 _ (Array.getElem?_eq_some_iff.1 hl).1 (by omega)).trans hl, (hbt.2.2.2.2 _ (Array.getElem?_eq_some_iff.1 hk).1 (by omega)).trans hk⟩)
      ?_ ⟨hI1, hl1, hd1⟩).mono ?_
    · rintro m pre x W ⟨hi, hl, hk⟩ hpre
      have hy := run_yield (P := P) (args := encs x) hl (by rw [hrec]; exact hps x)
      rw [hrec] at hy
      refine ⟨fn, _, assign, body, hy, roundIn_of_wpIn hfn (hassign _ _ pre x W _ hi ?_)⟩
      clear hy
      intro a' X hkf hkp hia hax
      have hlX := hkf.same _ _ (by omega) hl rfl
      have hkX := hkf.same _ _ (Nat.le_refl _) hk rfl
      have ltX : w.heap.size + 1 < X.heap.size := (Array.getElem?_eq_some_iff.1 hlX).1
      refine ⟨_, run_beginRound hlX (by rw [hrec]), ?_⟩
      obtain ⟨Y, hY⟩ : ∃ Y, X.putObj (w.heap.size + 1) (.loop { rec .ready none with state := .busy }) = Y := ⟨_, rfl⟩
      have hlY : Y.heap[w.heap.size + 1]? = some (.loop { rec .ready none with state := .busy }) := by rw [← hY]; exact World.putObj_heap_same ltX
      have hkY : Y.heap[w.heap.size]? = some (.deferred (some [])) := by rw [← hY]; exact (World.putObj_heap_other (by omega)).trans hkX
      have hkpY : Kp X Y := by rw [← hY]; exact hKb _ _ _ _ (by omega) (by omega) hlX rfl rfl
      have hiY : I pre Y := by rw [← hY]; exact hI.putObj _ hia (by omega) hlX rfl
      have haY : Ax x a' Y := by rw [← hY]; exact (hAx x a').putObj (s := ()) _ hax (by omega) hlX rfl
      rw [hY]
      refine wpIn_mono (hbody _ _ pre x a' Y (by omega) ⟨_, hlY⟩ hiY haY hpre) ?_
      have fin : ∀ (jump : Option Code) (Z : World), KeepsFrom w.heap.size Y Z →
          (Instr.endRound (w.heap.size + 1) jump).run P Z = .ok (.bool jump.isNone) (Z.putObj (w.heap.size + 1) (.loop (rec (if jump.isNone then .ready else .done) jump))) ∧
          Z.heap[w.heap.size + 1]? = some (.loop { rec .ready none with state := .busy }) ∧
          (Z.putObj (w.heap.size + 1) (.loop (rec (if jump.isNone then .ready else .done) jump))).heap[w.heap.size + 1]? = some (.loop (rec (if jump.isNone then .ready else .done) jump)) ∧
          (Z.putObj (w.heap.size + 1) (.loop (rec (if jump.isNone then .ready else .done) jump))).heap[w.heap.size]? = some (.deferred (some [])) := fun jump Z hz => by
        have h3 := hz.same _ _ (by omega) hlY rfl
        have h4 := run_endRound (P := P) jump h3
        rw [hrec] at h4 ⊢
        exact ⟨h4, by rw [hrec] at h3; exact h3, World.putObj_heap_same (Array.getElem?_eq_some_iff.1 h3).1, (World.putObj_heap_other (by omega)).trans (hz.same _ _ (Nat.le_refl _) hkY rfl)⟩
      have kout : ∀ (o : Obj) (Z : World), KeepsFrom w.heap.size Y Z → KeepsFrom (w.heap.size + 2) W (Z.putObj (w.heap.size + 1) o) := fun o Z hz =>
        keeps_trans (keeps_more hkf (by omega)) (keeps_trans (by rw [← hY]; exact keeps_put _ _ (by omega)) (keeps_trans (keeps_more hz (by omega)) (keeps_put _ _ (by omega))))
      have out : ∀ (c : Code) (Z : World), KeepsFrom w.heap.size Y Z ∧ Ix c (pre ++ [x]) Z → _ := fun c Z hz => fin (some c) Z hz.1
      rintro e b Z hp
      cases e with
      | normal =>
        obtain ⟨hz, hkz, hiz⟩ := hp
        obtain ⟨hr, h3, h4, h5⟩ := fin none Z hz
        exact ⟨_, _, hr, .inl ⟨rfl, ⟨hI.putObj _ hiz (by omega) h3 rfl, h4, h5⟩, hKt hkp (hKt (hKt hkpY hkz) (hKb _ _ _ _ (by omega) (by omega) h3 rfl rfl))⟩⟩
      | ret =>
        obtain ⟨hr, h3, h4, h5⟩ := out .ret Z hp
        exact ⟨_, _, hr, .inr ⟨rfl, ⟨.ret, (hIx _).putObj _ hp.2 (by omega) h3 rfl, h4, h5⟩, kout _ _ hp.1⟩⟩
      | exit id =>
        obtain ⟨hr, h3, h4, h5⟩ := out (.exit id) Z hp
        exact ⟨_, _, hr, .inr ⟨rfl, ⟨.exit id, (hIx _).putObj _ hp.2 (by omega) h3 rfl, h4, h5⟩, kout _ _ hp.1⟩⟩
      | goto t =>
        obtain ⟨hr, h3, h4, h5⟩ := out (.goto t) Z hp
        exact ⟨_, _, hr, .inr ⟨rfl, ⟨.goto t, (hIx _).putObj _ hp.2 (by omega) h3 rfl, h4, h5⟩, kout _ _ hp.1⟩⟩
      | panic ch => exact hp.elim
      | outgrown => exact hp.elim
    · rintro e Z ⟨⟨v, rfl⟩, (⟨xs, hS, hi, hl, hk⟩ | ⟨pre, hSp, c, hi, hl, hk⟩)⟩
      · exact ⟨none, _, by have := run_endLoop (P := P) hl (by rw [hrec]; simp); rw [hrec] at this; exact this, hdone _ xs _ (Nat.le_refl _) hS (hI.putObj _ hi (by omega) hl rfl) ((World.putObj_heap_other (by omega)).trans hk)⟩
      · exact ⟨some c, _, by have := run_endLoop (P := P) hl (by rw [hrec]; simp); rw [hrec] at this; exact this, hstop _ c pre _ (Nat.le_refl _) hSp ((hIx c).putObj _ hi (by omega) hl rfl) ((World.putObj_heap_other (by omega)).trans hk)⟩
end
/-- What a round keeps: what KS says, and whole blocks. -/
def KB (c B K : Nat) (A V : World) : Prop := KS (GB c B) (SB c) K A V ∧ ∀ b, b < A.heap.size → SB c A b → (∃ o : Obj, A.heap[b]? = some o ∧ o.isCells = true) → V.heap[b]? = A.heap[b]?
theorem KB.trans {c B K : Nat} {A V W : World} (h : KB c B K A V) (h' : KB c B K V W) : KB c B K A W :=
  ⟨h.1.trans h'.1, fun b hb hs ho => by
    have e := h.2 b hb hs ho
    obtain ⟨o, ho1, ho2⟩ := ho
    exact (h'.2 b (Nat.lt_of_lt_of_le hb h.1.1) (h.1.2.2.1 b hb hs) ⟨o, e.trans ho1, ho2⟩).trans e⟩
theorem KB.of_below {w0 : World} {c B K : Nat} (hL : Lives w0 (GB c B) (SB c)) {A V : World} (h : Below A.heap.size A V) : KB c B K A V := ⟨KS.of_below hL h, fun b hb _ _ => h.block b hb⟩
theorem KB.put {w0 : World} {c B K : Nat} (hL : Lives w0 (GB c B) (SB c)) {W : World} {l : Nat} {o : Obj} (o' : Obj) (hl : W.heap[l]? = some o) (ho : o.isCells = false) (hK : l < K) : KB c B K W (W.putObj l o') :=
  ⟨KS.put hL o' hl ho hK, fun b hb _ ⟨o2, h2, h3⟩ => World.putObj_heap_other (by
    rintro rfl
    rw [hl] at h2
    cases h2
    rw [ho] at h3
    cases h3)⟩
end Go.Proofs.YthkfkdcmnkkdhaaDoor
