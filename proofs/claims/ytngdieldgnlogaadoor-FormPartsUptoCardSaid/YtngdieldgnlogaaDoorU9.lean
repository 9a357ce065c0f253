/- A drawn region in which every operation leaves what is known beforehand: the frame behind it, written out. -/
import Derived.Test.YtngdieldgnlogaaDoorU8
namespace Go.Proofs.YtngdieldgnlogaaDoor
open Go Go.RowKit
set_option maxRecDepth 100000
/-- The slots with these values. -/
def puts (a : Act) : List (Nat × Value) → Act
  | [] => a
  | (d, v) :: r => puts (a.put (some d) v) r
def keyB (vals : List (Nat × Value)) (d : Nat) : Bool := vals.any fun p => p.1 == d
def slotV (a : Act) : List (Nat × Value) → Nat → Value
  | [], d => a.tmps.getD d undef
  | (k, v) :: r, d => if k == d then v else slotV a r d
def VTp (a : Act) (vals : List (Nat × Value)) (d : Nat) (v : Value) (_ : World) : Prop := v = slotV a vals d
/-- The keys differ, and are just the slots that the region writes. -/
def keysB (ops : Array Oper) (n : Nat) (vals : List (Nat × Value)) : Bool :=
  (List.range vals.length).all (fun i => (List.range vals.length).all fun j => i == j || (vals[i]?).map (·.1) != (vals[j]?).map (·.1)) &&
  vals.all (fun p => decide (p.1 < n) && ops.any fun o => o.dst == some p.1)
theorem puts_size (vals : List (Nat × Value)) : ∀ a : Act, (puts a vals).tmps.size = a.tmps.size := by
  induction vals with
  | nil => intro a; rfl
  | cons p r ih => intro a; simp [puts, ih, Act.put]
theorem puts_defs (vals : List (Nat × Value)) : ∀ a : Act, (puts a vals).defers = a.defers := by
  induction vals with
  | nil => intro a; rfl
  | cons p r ih => intro a; simp [puts, ih, Act.put]
theorem puts_other (vals : List (Nat × Value)) : ∀ (a : Act) (d : Nat), keyB vals d = false → (puts a vals).tmps[d]? = a.tmps[d]? := by
  induction vals with
  | nil => intro a d _; rfl
  | cons p r ih =>
    intro a d h
    simp only [keyB, List.any_cons, Bool.or_eq_false_iff, beq_eq_false_iff_ne] at h
    rw [puts, ih _ d (by simpa [keyB] using h.2)]
    simp [Act.put, Array.getElem?_setIfInBounds_ne h.1]
theorem puts_same (vals : List (Nat × Value)) : ∀ (a a0 : Act) (d : Nat), vals.Pairwise (fun p q => p.1 ≠ q.1) → keyB vals d = true → d < a.tmps.size → (puts a vals).tmps[d]? = some (slotV a0 vals d) := by
  induction vals with
  | nil => intro a a0 d _ h; simp [keyB] at h
  | cons p r ih =>
    intro a a0 d hp h hd
    obtain ⟨k, v⟩ := p
    rw [List.pairwise_cons] at hp
    by_cases hk : k = d
    · subst hk
      have hno : keyB r k = false := by
        cases hb : keyB r k with
        | false => rfl
        | true =>
          simp only [keyB, List.any_eq_true, beq_iff_eq] at hb
          obtain ⟨q, hq, e⟩ := hb
          exact absurd e.symm (hp.1 q hq)
      rw [puts, puts_other _ _ _ hno]
      simp [Act.put, slotV, hd]
    · have hb : keyB r d = true := by
        simp only [keyB, List.any_cons, Bool.or_eq_true, beq_iff_eq] at h
        rcases h with h | h
        · exact absurd h hk
        · simpa [keyB] using h
      rw [puts, ih _ a0 d hp.2 hb (by simpa [Act.put] using hd)]
      simp [slotV, hk]
theorem slotV_other (vals : List (Nat × Value)) (a : Act) (d : Nat) (h : keyB vals d = false) : slotV a vals d = a.tmps.getD d undef := by
  induction vals with
  | nil => rfl
  | cons p r ih =>
    obtain ⟨k, v⟩ := p
    simp only [keyB, List.any_cons, Bool.or_eq_false_iff, beq_eq_false_iff_ne] at h
    simp [slotV, h.1, ih (by simpa [keyB] using h.2)]
theorem pairwise_keys {vals : List (Nat × Value)} (h : (List.range vals.length).all (fun i => (List.range vals.length).all fun j => i == j || (vals[i]?).map (·.1) != (vals[j]?).map (·.1)) = true) : vals.Pairwise (fun p q => p.1 ≠ q.1) := by
  rw [List.pairwise_iff_getElem]
  intro i j hi hj hij he
  simp only [List.all_eq_true, List.mem_range, Bool.or_eq_true, beq_iff_eq, bne_iff_ne] at h
  rcases h i hi j hj with h | h
  · omega
  · rw [List.getElem?_eq_getElem hi, List.getElem?_eq_getElem hj] at h
    exact h (by simp [he])
/-- **The law.** -/
theorem wp_region_puts {P : Program} {ops : Array Oper} {Q : Exit → Act → World → Prop} {id : Nat} {a : Act} {w : World} (hm : P.follows .mixedOrders = true) (n : Nat) (vals : List (Nat × Value)) (I : World → Prop) (R : World → World → Prop)
    (hf : fitG .any ops ops.size n ((List.range n).filter fun d => !keyB vals d) = true) (hk : keysB ops n vals = true) (h1 : a.tmps.size = n) (h3 : I w.drew)
    (hst : StepsG ops (wpOp P ops Q) n ((List.range n).filter fun d => !keyB vals d) (VTp a vals) (fun _ _ W => I W) R a.defers 0 ops.toList)
    (hend : ∀ w', I w' → Q .normal (puts a vals) w') : (Code.region id ops true).wp P Q a w := by
  simp only [keysB, Bool.and_eq_true, List.all_eq_true, decide_eq_true_eq] at hk
  obtain ⟨hk1, hk2⟩ := hk
  have hpw : vals.Pairwise (fun p q => p.1 ≠ q.1) := pairwise_keys (by simpa only [List.all_eq_true] using hk1)
  refine wp_region_held_slots hm ops.size n _ (VTp a vals) (fun _ _ W => I W) R hf (fun d u A B _ h => h) h1 h3 ?_ ?_ ?_
  · intro d hd
    obtain ⟨hlt, hno⟩ := List.mem_filter.1 hd
    have hno' : keyB vals d = false := by simpa using hno
    have hlt' : d < a.tmps.size := by rw [h1]; exact List.mem_range.1 hlt
    exact ⟨a.tmps[d], by simp [hlt'], by unfold VTp; rw [slotV_other _ _ _ hno']; simp [hlt']⟩
  · rw [List.take_of_length_le (by simp)]
    exact hst
  · intro a' w' hH
    have hall : ∀ i, i < ops.size → (headUp ops.size ops.size).getD i false = true := fun i hi => by simp [headUp, hi]
    have e : a' = puts a vals := by
      have et : a'.tmps = (puts a vals).tmps := by
        apply Array.ext_getElem?
        intro d
        by_cases hd : d < n
        · cases hb : keyB vals d with
          | false =>
            rw [puts_other _ _ _ hb]
            obtain ⟨v, hv, e⟩ := hH.base d (List.mem_filter.2 ⟨List.mem_range.2 hd, by simp [hb]⟩)
            unfold VTp at e
            rw [slotV_other _ _ _ hb] at e
            have hlt : d < a.tmps.size := by omega
            rw [hv, e]
            simp [hlt]
          | true =>
            rw [puts_same _ a a d hpw hb (by omega)]
            obtain ⟨p, hp, e⟩ : ∃ p ∈ vals, p.1 = d := by simpa [keyB] using hb
            have := (hk2 p hp).2
            obtain ⟨o, ho, hod⟩ := Array.any_eq_true'.1 this
            obtain ⟨i, hi, hoi⟩ := Array.getElem_of_mem ho
            obtain ⟨v, hv, e2⟩ := hH.made i d (hall i hi) (by
              have hod' : o.dst = some p.1 := by simpa using hod
              simp [dstAt, Array.getElem?_eq_getElem hi, hoi, hod', e])
            rw [hv]
            exact congrArg some e2
        · have h2 := hH.size
          rw [Array.getElem?_eq_none (by omega), Array.getElem?_eq_none (by rw [puts_size]; omega)]
      have ed : a'.defers = (puts a vals).defers := by rw [puts_defs]; exact hH.defs
      cases a'
      cases hq : puts a vals
      rw [hq] at et ed
      simp only at et ed
      rw [et, ed]
    subst e
    refine any_none ?_ (hend w' hH.inv)
    rw [List.eq_nil_iff_forall_not_mem]
    intro i hi
    obtain ⟨h, o, ho, -⟩ := mem_ready.1 hi
    have hiN : i < ops.size := (Array.getElem?_eq_some_iff.1 ho).1
    simp [headUp, hiN] at h
section
variable {P : Program} {ops : Array Oper} {Q : Exit → Act → World → Prop} {K : Act → World → Prop} {a : Act} {w : World} {i j d : Nat} {o : Oper}
theorem wants_yes (b : Bool) (hg : o.guard = some (j, b)) (hj : dstAt ops j = some d) (hd : a.tmps[d]? = some (.bool b)) : Region.wanted o (yielded ops a.tmps) = true := by
  have : ((ops[j]?).bind (·.dst)) = some d := hj
  simp [Region.wanted, hg, yielded, this, hd]
theorem wants_no (b : Bool) (hg : o.guard = some (j, b)) (hj : dstAt ops j = some d) (hd : a.tmps[d]? = some (.bool !b)) : Region.wanted o (yielded ops a.tmps) = false := by
  have : ((ops[j]?).bind (·.dst)) = some d := hj
  cases b <;> simp [Region.wanted, hg, yielded, this, hd]
theorem op_out (ho : ops[i]? = some o) (hw : Region.wanted o (yielded ops a.tmps) = false) (hK : K (a.put o.dst undef) w) : wpOp P ops Q i K a w := by
  unfold wpOp
  simp only [ho, hw]
  exact hK
end
theorem ex_pickF {P : Program} {a : Act} {w : World} {o : Oper} {v : Value} {x y z : Operand} (hop : o.op = .pick x y z) (hx : a.eval x = .bool false) (hz : a.eval z = v) : (execOp a.eval o).run P w = .ok (.value v) w := by
  simp [execOp, hop, hx, hz, asBool]
theorem ex_field {P : Program} {a : Act} {w : World} {o : Oper} {u v : Value} {x : Operand} {t : TypeId} {k : Nat} (hop : o.op = .fieldAddr t x k) (hx : a.eval x = u) (hr : (Instr.fieldAt t u k).run P w = .ok v w) : (execOp a.eval o).run P w = .ok (.value v) w := by
  simp [execOp, hop, hx, hr, Result.andThen]
end Go.Proofs.YtngdieldgnlogaaDoor
