/- A drawn region in which every operation but one leaves what is known beforehand: the frame behind it, written out. -/
import Derived.Test.YtpcjpdfigkcojaaDoorU9
namespace Go.Proofs.YtpcjpdfigkcojaaDoor
open Go Go.RowKit
set_option maxRecDepth 100000
def VTq (a : Act) (s : Nat) (G : Value → World → Prop) (vals : List (Nat × Value)) (d : Nat) (v : Value) (W : World) : Prop := if d = s then G v W else v = slotV a vals d
/-- **The law.** -/
theorem wp_region_puts1 {P : Program} {ops : Array Oper} {Q : Exit → Act → World → Prop} {id : Nat} {a : Act} {w : World} (hm : P.follows .mixedOrders = true) (n s : Nat) (G : Value → World → Prop) (vals : List (Nat × Value)) (I : World → Prop) (R : World → World → Prop)
    (hf : fitG .any ops ops.size n ((List.range n).filter fun d => !keyB ((s, undef) :: vals) d) = true) (hk : keysB ops n ((s, undef) :: vals) = true) (h1 : a.tmps.size = n) (h3 : I w.drew)
    (hG : ∀ v w w', R w w' → G v w → G v w')
    (hst : StepsG ops (wpOp P ops Q) n ((List.range n).filter fun d => !keyB ((s, undef) :: vals) d) (VTq a s G vals) (fun _ _ W => I W) R a.defers 0 ops.toList)
    (hend : ∀ u w', I w' → G u w' → Q .normal (puts a ((s, u) :: vals)) w') : (Code.region id ops true).wp P Q a w := by
  simp only [keysB, Bool.and_eq_true, List.all_eq_true, decide_eq_true_eq] at hk
  obtain ⟨hk1, hk2⟩ := hk
  have hpw : ((s, undef) :: vals).Pairwise (fun p q => p.1 ≠ q.1) := pairwise_keys (by simpa only [List.all_eq_true] using hk1)
  have hkey : ∀ u d, keyB ((s, u) :: vals) d = keyB ((s, undef) :: vals) d := fun u d => by simp [keyB]
  have hsn : ∀ d, keyB ((s, undef) :: vals) d = false → ¬ d = s := fun d h e => by subst e; simp [keyB] at h
  refine wp_region_held_slots hm ops.size n _ (VTq a s G vals) (fun _ _ W => I W) R hf (fun d u A B hR h => by
    unfold VTq at h ⊢
    by_cases e : d = s
    · rw [if_pos e] at h ⊢; exact hG _ _ _ hR h
    · rw [if_neg e] at h ⊢; exact h) h1 h3 ?_ ?_ ?_
  · intro d hd
    obtain ⟨hlt, hno⟩ := List.mem_filter.1 hd
    have hno' : keyB ((s, undef) :: vals) d = false := by simpa using hno
    have hlt' : d < a.tmps.size := by rw [h1]; exact List.mem_range.1 hlt
    have hv : keyB vals d = false := by
      simp only [keyB, List.any_cons, Bool.or_eq_false_iff] at hno'
      exact hno'.2
    exact ⟨a.tmps[d], by simp [hlt'], by unfold VTq; rw [if_neg (hsn d hno'), slotV_other _ _ _ hv]; simp [hlt']⟩
  · rw [List.take_of_length_le (by simp)]
    exact hst
  · intro a' w' hH
    have hall : ∀ i, i < ops.size → (headUp ops.size ops.size).getD i false = true := fun i hi => by simp [headUp, hi]
    have hmade : ∀ p ∈ ((s, undef) :: vals), ∃ v, a'.tmps[p.1]? = some v ∧ VTq a s G vals p.1 v w' := by
      intro p hp
      have := (hk2 p hp).2
      obtain ⟨o, ho, hod⟩ := Array.any_eq_true'.1 this
      obtain ⟨i, hi, hoi⟩ := Array.getElem_of_mem ho
      exact hH.made i p.1 (hall i hi) (by
        have hod' : o.dst = some p.1 := by simpa using hod
        simp [dstAt, Array.getElem?_eq_getElem hi, hoi, hod'])
    obtain ⟨u, hu, hGu⟩ := hmade (s, undef) (List.mem_cons_self ..)
    have hu' : a'.tmps[s]? = some u := hu
    unfold VTq at hGu
    rw [if_pos rfl] at hGu
    have hpu : ((s, u) :: vals).Pairwise (fun p q => p.1 ≠ q.1) := by
      rw [List.pairwise_cons] at hpw ⊢
      exact ⟨fun q hq => hpw.1 q hq, hpw.2⟩
    have e : a' = puts a ((s, u) :: vals) := by
      have et : a'.tmps = (puts a ((s, u) :: vals)).tmps := by
        apply Array.ext_getElem?
        intro d
        by_cases hd : d < n
        · cases hb : keyB ((s, undef) :: vals) d with
          | false =>
            rw [puts_other _ _ _ (by rw [hkey]; exact hb)]
            obtain ⟨v, hv, e⟩ := hH.base d (List.mem_filter.2 ⟨List.mem_range.2 hd, by simp [hb]⟩)
            unfold VTq at e
            have hvb : keyB vals d = false := by
              have hb' := hb
              simp only [keyB, List.any_cons, Bool.or_eq_false_iff] at hb'
              exact hb'.2
            rw [if_neg (hsn d hb), slotV_other _ _ _ hvb] at e
            have hlt : d < a.tmps.size := by omega
            rw [hv, e]
            simp [hlt]
          | true =>
            rw [puts_same _ a a d hpu (by rw [hkey]; exact hb) (by omega)]
            by_cases hds : d = s
            · subst hds
              rw [hu']
              simp [slotV]
            · obtain ⟨p, hp, e⟩ : ∃ p ∈ ((s, undef) :: vals), p.1 = d := by
                have hb' := hb
                simp only [keyB, List.any_eq_true, beq_iff_eq] at hb'
                exact hb'
              obtain ⟨v, hv, e2⟩ := hmade p hp
              rw [e] at hv e2
              unfold VTq at e2
              rw [if_neg hds] at e2
              rw [hv, e2]
              have : ¬ s = d := fun h => hds h.symm
              simp [slotV, this]
        · have h2 := hH.size
          rw [Array.getElem?_eq_none (by omega), Array.getElem?_eq_none (by rw [puts_size]; omega)]
      have ed : a'.defers = (puts a ((s, u) :: vals)).defers := by rw [puts_defs]; exact hH.defs
      cases a'
      cases hq : puts a ((s, u) :: vals)
      rw [hq] at et ed
      simp only at et ed
      rw [et, ed]
    subst e
    refine any_none ?_ (hend u w' hH.inv hGu)
    rw [List.eq_nil_iff_forall_not_mem]
    intro i hi
    obtain ⟨h, o, ho, -⟩ := mem_ready.1 hi
    have hiN : i < ops.size := (Array.getElem?_eq_some_iff.1 ho).1
    simp [headUp, hiN] at h
end Go.Proofs.YtpcjpdfigkcojaaDoor
