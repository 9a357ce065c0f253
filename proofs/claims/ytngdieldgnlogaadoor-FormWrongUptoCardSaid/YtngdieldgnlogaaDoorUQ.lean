/- A region that draws its order and makes some slots, all others stay: the frame behind it is that frame with those slots put. -/
import Derived.Test.YtngdieldgnlogaaDoorUP
import Derived.Test.YtngdieldgnlogaaDoorUT
namespace Go.Proofs.YtngdieldgnlogaaDoor
open Go Go.RowKit
set_option maxRecDepth 100000
set_option linter.unusedVariables false
def zipV (ks : List Nat) (g : Nat → Value) : List (Nat × Value) := ks.map fun d => (d, g d)
theorem keyB_zipV (ks : List Nat) (g : Nat → Value) (d : Nat) : keyB (zipV ks g) d = ks.contains d := by
  induction ks with
  | nil => rfl
  | cons k r ih =>
    show (k == d || keyB (zipV r g) d) = (k :: r).contains d
    rw [ih, List.contains_cons]
    congr 1
    rw [Bool.eq_iff_iff, beq_iff_eq, beq_iff_eq]
    exact eq_comm
theorem slotV_zipV (a : Act) (ks : List Nat) (g : Nat → Value) (d : Nat) (h : ks.contains d = true) : slotV a (zipV ks g) d = g d := by
  induction ks with
  | nil => simp at h
  | cons k r ih =>
    show (if k == d then g k else slotV a (zipV r g) d) = g d
    by_cases e : k = d
    · subst e; simp
    · have e' : (k == d) = false := by simp [e]
      rw [e']
      simp only [Bool.false_eq_true, if_false]
      refine ih ?_
      simp only [List.contains_cons, Bool.or_eq_true, beq_iff_eq] at h
      rcases h with h | h
      · exact (e h.symm).elim
      · exact h
theorem wp_region_rel {P : Program} {ops : Array Oper} {Q : Exit → Act → World → Prop} {id : Nat} {a : Act} {w : World} (hm : P.follows .mixedOrders = true) (k n : Nat) (ks : List Nat) (VT : Nat → Value → World → Prop) (I : Array Bool → Act → World → Prop) (R : World → World → Prop)
    (hnd : ks.Pairwise (· ≠ ·)) (hf : fitT .any ops k n ((List.range n).filter fun d => !ks.contains d) = true) (hks : ks.all (fun d => (List.range k).any fun i => dstAt ops i == some d) = true) (hko : k ≤ ops.size)
    (hVT : ∀ d v w w', R w w' → VT d v w → VT d v w') (h1 : a.tmps.size = n) (h3 : I (Array.replicate ops.size false) a w.drew)
    (hst : StepsG ops (wpOp P ops Q) n ((List.range n).filter fun d => !ks.contains d) (fun d u W => if ks.contains d = true then VT d u W else u = a.tmps.getD d undef) I R a.defers 0 (ops.toList.take k))
    (hend : ∀ (g : Nat → Value) w', (∀ d, ks.contains d = true → VT d (g d) w') → I (headUp k ops.size) (puts a (zipV ks g)) w' → wpAny P .any ops Q (ops.size - k) (headUp k ops.size) (puts a (zipV ks g)) w') : (Code.region id ops true).wp P Q a w := by
  refine wp_region_held_slotsT hm k n ((List.range n).filter fun d => !ks.contains d) (fun d u W => if ks.contains d = true then VT d u W else u = a.tmps.getD d undef) I R hf ?_ h1 h3 ?_ hst ?_
  · intro d v A B hR h
    by_cases e : ks.contains d = true
    · rw [if_pos e] at h ⊢; exact hVT d v A B hR h
    · rw [if_neg e] at h ⊢; exact h
  · intro d hd
    obtain ⟨hlt, hno⟩ := List.mem_filter.1 hd
    have hno' : ks.contains d = false := by simpa using hno
    have hlt' : d < a.tmps.size := by rw [h1]; exact List.mem_range.1 hlt
    refine ⟨a.tmps[d], by simp [hlt'], ?_⟩
    rw [if_neg (by rw [hno']; decide)]
    simp [hlt']
  · intro a' w' hH
    have hslot : ∀ d, ks.contains d = true → ∃ v, a'.tmps[d]? = some v ∧ VT d v w' := by
      intro d hd
      have h5 := List.all_eq_true.1 hks d (List.contains_iff_mem.1 hd)
      obtain ⟨i, hi, hid⟩ := List.any_eq_true.1 h5
      have hik := List.mem_range.1 hi
      obtain ⟨v, hv, hvt⟩ := hH.made i d (by simp [headUp, Array.getD_eq_getD_getElem?, List.getElem?_append_left (show i < (List.replicate k true).length by simpa using hik), hik]) (by simpa using hid)
      rw [if_pos hd] at hvt
      exact ⟨v, hv, hvt⟩
    have ea : a' = puts a (zipV ks fun d => a'.tmps.getD d undef) := by
      refine act_puts h1 hH.size hH.defs ?_ ?_ ?_
      · rw [zipV, List.pairwise_map]; exact hnd
      · intro d hd hk
        rw [keyB_zipV] at hk
        obtain ⟨v, hv, hvt⟩ := hH.base d (List.mem_filter.2 ⟨List.mem_range.2 hd, by rw [hk]; rfl⟩)
        rw [if_neg (by rw [hk]; decide)] at hvt
        have hlt' : d < a.tmps.size := by omega
        rw [hv, hvt]
        simp [hlt']
      · intro d hd hk
        rw [keyB_zipV] at hk
        rw [slotV_zipV _ _ _ _ hk]
        obtain ⟨v, hv, -⟩ := hslot d hk
        simp [hv]
    have hfin := hend (fun d => a'.tmps.getD d undef) w' (fun d hd => by
      obtain ⟨v, hv, hvt⟩ := hslot d hd
      simpa [hv] using hvt) (by rw [← ea]; exact hH.inv)
    rw [← ea] at hfin
    exact hfin
end Go.Proofs.YtngdieldgnlogaaDoor
