/- A region that draws its order, by what is so whatever has come up: an invariant over the operations that have come up, the slots that the region writes, and the world. -/
import Derived.Test.YtngdieldgnlogaaDoorVB
namespace Go.Proofs.YtngdieldgnlogaaDoor
open Go Go.RowKit
set_option maxRecDepth 100000
set_option linter.unusedVariables false
/-- What operation i waits for. -/
def depsOf (ops : Array Oper) (i : Nat) : List Nat := match ops[i]? with
  | none => []
  | some o => (o.after.toList.filter fun e => Region.binds .any e).map fun e => e.on
/-- A function turned at one place. -/
def upd {β : Type} (f : Nat → β) (d : Nat) (v : β) : Nat → β := fun x => if x = d then v else f x
theorem upd_same {β : Type} (f : Nat → β) (d : Nat) (v : β) : upd f d v d = v := if_pos rfl
theorem upd_ne {β : Type} (f : Nat → β) {d x : Nat} (v : β) (h : x ≠ d) : upd f d v x = f x := if_neg h
/-- Operations wait for earlier ones, and write the slots that are named. -/
def fitR (ops : Array Oper) (n : Nat) (ks : List Nat) : Bool :=
  ((List.range ops.size).all fun i => (depsOf ops i).all (fun j => decide (j < i)) && (match dstAt ops i with | none => true | some d => ks.contains d)) &&
  ks.all (fun d => decide (d < n)) && decide (ks.Pairwise (· ≠ ·))
/-- One operation. -/
def StepR (ops : Array Oper) (stp : Nat → (Act → World → Prop) → Act → World → Prop) (ks : List Nat) (J : (Nat → Bool) → (Nat → Value) → World → Prop) (a : Act) (i : Nat) : Prop :=
  ∀ (l : Nat → Bool) (g : Nat → Value) (W : World), l i = false → (∀ j, (depsOf ops i).contains j = true → l j = true) → (∀ q j, l q = true → (depsOf ops q).contains j = true → l j = true) → J l g W →
    (∀ d, ks.contains d = true → (puts a (zipV ks g)).tmps[d]? = some (g d)) → (∀ d, ks.contains d = false → (puts a (zipV ks g)).tmps[d]? = a.tmps[d]?) →
    (∀ d v, ks.contains d = true → (puts a (zipV ks g)).put (some d) v = puts a (zipV ks (upd g d v))) →
    stp i (fun a' W' => ∃ g', a' = puts a (zipV ks g') ∧ J (upd l i true) g' W') (puts a (zipV ks g)) W
def StepsR (ops : Array Oper) (stp : Nat → (Act → World → Prop) → Act → World → Prop) (ks : List Nat) (J : (Nat → Bool) → (Nat → Value) → World → Prop) (a : Act) : Nat → List Oper → Prop
  | _, [] => True
  | i, _ :: r => StepR ops stp ks J a i ∧ StepsR ops stp ks J a (i + 1) r
theorem StepsR.at {ops : Array Oper} {stp : Nat → (Act → World → Prop) → Act → World → Prop} {ks : List Nat} {J : (Nat → Bool) → (Nat → Value) → World → Prop} {a : Act} (l : List Oper) :
    ∀ (m : Nat), StepsR ops stp ks J a m l → ∀ i, i < l.length → StepR ops stp ks J a (m + i) := by
  induction l with
  | nil => intro m _ i hi; simp at hi
  | cons x r ih =>
    intro m h i hi
    unfold StepsR at h
    cases i with
    | zero => exact h.1
    | succ i =>
      have := ih (m + 1) h.2 i (by simpa using hi)
      rwa [show m + 1 + i = m + (i + 1) by omega] at this
theorem put_asis (a : Act) (d : Nat) : a.put (some d) (a.tmps.getD d undef) = a := by
  have et : (a.put (some d) (a.tmps.getD d undef)).tmps = a.tmps := by
    apply Array.ext_getElem?
    intro x
    show (a.tmps.setIfInBounds d (a.tmps.getD d undef))[x]? = a.tmps[x]?
    by_cases hx : d = x
    · subst hx
      by_cases hd : d < a.tmps.size
      · simp [hd]
      · have h9 : a.tmps.size ≤ d := by omega
        simp [h9]
    · simp [Array.getElem?_setIfInBounds_ne hx]
  have ed : (a.put (some d) (a.tmps.getD d undef)).defers = a.defers := rfl
  cases a
  cases h : Act.put _ _ _
  simp_all
theorem puts_zip_same (a : Act) : ∀ ks : List Nat, puts a (zipV ks fun d => a.tmps.getD d undef) = a
  | [] => rfl
  | d :: r => by
    show puts (a.put (some d) (a.tmps.getD d undef)) (zipV r fun d => a.tmps.getD d undef) = a
    rw [put_asis]
    exact puts_zip_same a r
theorem pw_zip {ks : List Nat} (h : ks.Pairwise (· ≠ ·)) (g : Nat → Value) : (zipV ks g).Pairwise (fun p q => p.1 ≠ q.1) := by
  rw [zipV, List.pairwise_map]; exact h
theorem puts_zip_get {a : Act} {ks : List Nat} {n : Nat} (hn : a.tmps.size = n) (hlt : ks.all (fun d => decide (d < n)) = true) (hp : ks.Pairwise (· ≠ ·)) (g : Nat → Value) {d : Nat} (hd : ks.contains d = true) :
    (puts a (zipV ks g)).tmps[d]? = some (g d) := by
  have h2 := List.all_eq_true.1 hlt d (List.contains_iff_mem.1 hd)
  rw [decide_eq_true_eq] at h2
  rw [puts_same _ a a d (pw_zip hp g) (by rw [keyB_zipV]; exact hd) (by omega), slotV_zipV _ _ _ _ hd]
theorem puts_zip_put {a : Act} {ks : List Nat} {n : Nat} (hn : a.tmps.size = n) (hlt : ks.all (fun d => decide (d < n)) = true) (hp : ks.Pairwise (· ≠ ·)) (g : Nat → Value) (d : Nat) (v : Value) (hd : ks.contains d = true) :
    (puts a (zipV ks g)).put (some d) v = puts a (zipV ks (upd g d v)) := by
  have hdn := List.all_eq_true.1 hlt d (List.contains_iff_mem.1 hd)
  rw [decide_eq_true_eq] at hdn
  refine act_puts (n := n) hn (by simp [Act.put, puts_size, hn]) (by rw [show ((puts a (zipV ks g)).put (some d) v).defers = (puts a (zipV ks g)).defers from rfl, puts_defs]) (pw_zip hp _) ?_ ?_
  · intro x hx hk
    rw [keyB_zipV] at hk
    have hne : d ≠ x := fun e => by rw [e] at hd; rw [hd] at hk; cases hk
    show ((puts a (zipV ks g)).tmps.setIfInBounds d v)[x]? = _
    rw [Array.getElem?_setIfInBounds_ne hne]
    exact puts_other _ _ _ (by rw [keyB_zipV]; exact hk)
  · intro x hx hk
    rw [keyB_zipV] at hk
    rw [slotV_zipV _ _ _ _ hk]
    show ((puts a (zipV ks g)).tmps.setIfInBounds d v)[x]? = _
    by_cases e : d = x
    · subst e
      rw [upd_same]
      simp [puts_size, hn, hdn]
    · rw [Array.getElem?_setIfInBounds_ne e, puts_zip_get hn hlt hp g hk, upd_ne _ _ (Ne.symm e)]
theorem any_run {ops : Array Oper} {Qn : Act → World → Prop} {stp : Nat → (Act → World → Prop) → Act → World → Prop} (hmono : ∀ {i : Nat} {K K' : Act → World → Prop} {a : Act} {w : World}, (∀ a w, K a w → K' a w) → stp i K a w → stp i K' a w)
    {n : Nat} {ks : List Nat} {J : (Nat → Bool) → (Nat → Value) → World → Prop} {a : Act} (hn : a.tmps.size = n) (hf : fitR ops n ks = true) (hst : StepsR ops stp ks J a 0 ops.toList)
    (hend : ∀ l g W, (∀ j, j < ops.size → l j = true) → J l g W → Qn (puts a (zipV ks g)) W) :
    ∀ (m : Nat) (L : Array Bool) (g : Nat → Value) (W : World), L.size = ops.size → upTo L ops.size = m → (∀ q j, L.getD q false = true → (depsOf ops q).contains j = true → L.getD j false = true) → J (fun j => L.getD j false) g W →
      anyG .any ops Qn stp m L (puts a (zipV ks g)) W := by
  simp only [fitR, Bool.and_eq_true, decide_eq_true_eq] at hf
  obtain ⟨⟨hf, hlt⟩, hp⟩ := hf
  simp only [List.all_eq_true, List.mem_range, Bool.and_eq_true] at hf
  have getF : ∀ {L : Array Bool} {j : Nat}, j < L.size → L.getD j false = L.getD j true := fun {L j} h => by simp [h]
  intro m
  induction m with
  | zero =>
    intro L g W hs hm hcl hJ
    have hall := upTo_zero hm
    refine ⟨?_, hend _ g W (fun j hj => by show L.getD j false = true; rw [getF (by omega)]; exact hall j hj) hJ⟩
    apply List.eq_nil_iff_forall_not_mem.2
    intro i hi
    obtain ⟨hun, o, ho, -⟩ := mem_ready.1 hi
    have := hall i (Array.getElem?_eq_some_iff.1 ho).1
    rw [this] at hun
    cases hun
  | succ m ih =>
    intro L g W hs hm hcl hJ
    refine ⟨fun h0 => ?_, fun i hi => ?_⟩
    · exfalso
      obtain ⟨j, hj, hj1, hj2⟩ := upTo_pos (listed := L) (k := ops.size) (by omega)
      have hmem : j ∈ Region.ready .any ops L := mem_ready.2 ⟨hj1, ops[j], Array.getElem?_eq_getElem hj, fun e he hb => by
        have h2 := (hf j hj).1 e.on (by
          unfold depsOf
          rw [Array.getElem?_eq_getElem hj]
          exact List.mem_map.2 ⟨e, List.mem_filter.2 ⟨Array.mem_toList_iff.2 he, hb⟩, rfl⟩)
        rw [decide_eq_true_eq] at h2
        rw [getF (by omega)]
        exact hj2 e.on h2⟩
      rw [h0] at hmem
      cases hmem
    · obtain ⟨hun, o, ho, hall⟩ := mem_ready.1 hi
      have hiN : i < ops.size := (Array.getElem?_eq_some_iff.1 ho).1
      have hst' := StepsR.at _ 0 hst i (by simpa using hiN)
      rw [Nat.zero_add] at hst'
      have hun' : L.getD i false = false := by rw [getF (by omega)]; exact hun
      have hdep : ∀ j, (depsOf ops i).contains j = true → L.getD j false = true := fun j hj => by
        have hj' := List.contains_iff_mem.1 hj
        unfold depsOf at hj'
        rw [ho] at hj'
        obtain ⟨e, he, rfl⟩ := List.mem_map.1 hj'
        obtain ⟨he1, he2⟩ := List.mem_filter.1 he
        exact hall e (Array.mem_toList_iff.1 he1) he2
      have hset : ∀ j, (L.setIfInBounds i true).getD j false = upd (fun j => L.getD j false) i true j := fun j => by
        by_cases e : j = i
        · subst e
          rw [upd_same]
          simp [show j < L.size by omega]
        · rw [upd_ne _ _ e, getD_set_ne false (Ne.symm e)]
      refine hmono ?_ (hst' (fun j => L.getD j false) g W hun' hdep hcl hJ (fun d hd => puts_zip_get hn hlt hp g hd) (fun d hd => puts_other _ _ _ (by rw [keyB_zipV]; exact hd)) (fun d v hd => puts_zip_put hn hlt hp g d v hd))
      rintro a' W' ⟨g', rfl, hJ'⟩
      refine ih _ g' W' (by simpa using hs) (by have := upTo_set (k := ops.size) (by omega) hun hiN; omega) ?_ ?_
      · intro q j hq hd
        rw [hset] at hq ⊢
        by_cases ej : j = i
        · subst ej; rw [upd_same]
        rw [upd_ne _ _ ej]
        by_cases eq : q = i
        · subst eq; exact hdep j hd
        · rw [upd_ne _ _ eq] at hq; exact hcl q j hq hd
      · have : (fun j => (L.setIfInBounds i true).getD j false) = upd (fun j => L.getD j false) i true := funext hset
        rw [this]
        exact hJ'
/-- **The law.** -/
theorem wp_region_run {P : Program} {ops : Array Oper} {Q : Exit → Act → World → Prop} {id : Nat} {a : Act} {w : World} (hm : P.follows .mixedOrders = true) (n : Nat) (ks : List Nat) (J : (Nat → Bool) → (Nat → Value) → World → Prop)
    (hf : fitR ops n ks = true) (hn : a.tmps.size = n) (h0 : J (fun _ => false) (fun d => a.tmps.getD d undef) w.drew) (hst : StepsR ops (wpOp P ops Q) ks J a 0 ops.toList)
    (hend : ∀ l g W, (∀ j, j < ops.size → l j = true) → J l g W → Q .normal (puts a (zipV ks g)) W) : (Code.region id ops true).wp P Q a w := by
  refine wp_region_any hm ?_
  rw [← anyG_wp]
  have hF : ∀ j, (Array.replicate ops.size false).getD j false = false := fun j => by
    by_cases hj : j < ops.size
    · simp [hj]
    · simp [hj]
  have := any_run (Qn := Q .normal) (stp := wpOp P ops Q) (fun h hh => wpOp_mono h hh) hn hf hst hend ops.size (Array.replicate ops.size false) (fun d => a.tmps.getD d undef) w.drew (by simp) (upTo_new (Nat.le_refl _)) (fun q j hq => by rw [hF] at hq; cases hq)
    (by rw [show (fun j => (Array.replicate ops.size false).getD j false) = fun _ => false from funext hF]; exact h0)
  rw [puts_zip_same] at this
  exact this
/-- The same where a range function's body runs. -/
theorem wpIn_region_run {F : Fence} {nf : Nat} {P : Program} {ops : Array Oper} {Q : Exit → Act → World → Prop} {id : Nat} {a : Act} {w : World} (hm : P.follows .mixedOrders = true) (n : Nat) (ks : List Nat) (J : (Nat → Bool) → (Nat → Value) → World → Prop)
    (hf : fitR ops n ks = true) (hn : a.tmps.size = n) (h0 : J (fun _ => false) (fun d => a.tmps.getD d undef) w.drew) (hst : StepsR ops (wpOpIn F nf P ops Q) ks J a 0 ops.toList)
    (hend : ∀ l g W, (∀ j, j < ops.size → l j = true) → J l g W → Q .normal (puts a (zipV ks g)) W) : (Code.region id ops true).wpIn F nf P Q a w := by
  refine wpIn_region_any hm ?_
  rw [← anyG_wpIn]
  have hF : ∀ j, (Array.replicate ops.size false).getD j false = false := fun j => by
    by_cases hj : j < ops.size
    · simp [hj]
    · simp [hj]
  have := any_run (Qn := Q .normal) (stp := wpOpIn F nf P ops Q) (fun h hh => wpOpIn_mono h hh) hn hf hst hend ops.size (Array.replicate ops.size false) (fun d => a.tmps.getD d undef) w.drew (by simp) (upTo_new (Nat.le_refl _)) (fun q j hq => by rw [hF] at hq; cases hq)
    (by rw [show (fun j => (Array.replicate ops.size false).getD j false) = fun _ => false from funext hF]; exact h0)
  rw [puts_zip_same] at this
  exact this
end Go.Proofs.YtngdieldgnlogaaDoor
