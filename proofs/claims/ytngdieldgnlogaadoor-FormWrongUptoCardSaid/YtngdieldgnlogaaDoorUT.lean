/- A region that draws its order, whose later operations wait for the first ones, some by way of others. -/
import Derived.Test.YtngdieldgnlogaaDoorMU
namespace Go.Proofs.YtngdieldgnlogaaDoor
open Go
section
variable {md : Region.Mode} {ops : Array Oper}
def fitT (md : Region.Mode) (ops : Array Oper) (k n : Nat) (bs : List Nat) : Bool :=
  decide (k ≤ ops.size) &&
  (List.range ops.size).all fun i => match ops[i]? with
    | none => false
    | some o =>
      if i < k then
        (o.after.all fun e => !Region.binds md e || decide (e.on < i)) &&
        ((o.looksAt ops).all fun d => bs.contains d || o.after.any fun e => Region.binds md e && (dstAt ops e.on == some d)) &&
        (match o.dst with
          | none => true
          | some d => decide (d < n) && !bs.contains d && (List.range k).all fun j => j == i || dstAt ops j != some d)
      else (List.range k).all fun j => (o.after.any fun e => Region.binds md e && (e.on == j)) ||
        (List.range k).any fun q => (o.after.any fun e => Region.binds md e && (e.on == q)) && (match ops[q]? with | none => false | some oq => oq.after.any fun e => Region.binds md e && (e.on == j))
/-- **The first k operations of a region, in whatever order.** -/
theorem anyT_part {Qn : Act → World → Prop} {stp : Nat → (Act → World → Prop) → Act → World → Prop} (hmono : ∀ {i : Nat} {K K' : Act → World → Prop} {a : Act} {w : World}, (∀ a w, K a w → K' a w) → stp i K a w → stp i K' a w)
    {n k : Nat} {bs : List Nat} {VT : Nat → Value → World → Prop} {I : Array Bool → Act → World → Prop} {R : World → World → Prop} {D : List Deferred} (hf : fitT md ops k n bs = true)
    (hVT : ∀ d v w w', R w w' → VT d v w → VT d v w') (hst : StepsG ops stp n bs VT I R D 0 (ops.toList.take k))
    (hend : ∀ a w, Held ops n bs VT I D (headUp k ops.size) a w → anyG md ops Qn stp (ops.size - k) (headUp k ops.size) a w) :
    ∀ (m : Nat) (listed : Array Bool) (a : Act) (w : World), listed.size = ops.size → upTo listed k = m → (∀ i, k ≤ i → i < ops.size → listed.getD i true = false) → (∀ (q : Nat) (oq : Oper), ops[q]? = some oq → listed.getD q false = true → ∀ e ∈ oq.after, Region.binds md e = true → listed.getD e.on false = true) → Held ops n bs VT I D listed a w →
      anyG md ops Qn stp (m + (ops.size - k)) listed a w := by
  simp only [fitT, Bool.and_eq_true, decide_eq_true_eq, List.all_eq_true, List.mem_range] at hf
  obtain ⟨hkN, hf⟩ := hf
  intro m
  induction m with
  | zero =>
    intro listed a w hs hm hhi hdc hH
    have e := eq_headUp hkN hs (upTo_zero hm) hhi
    rw [Nat.zero_add]
    subst e
    exact hend a w hH
  | succ m ih =>
    intro listed a w hs hm hhi hdc hH
    rw [show m + 1 + (ops.size - k) = (m + (ops.size - k)) + 1 by omega]
    have hlow : ∀ i, i ∈ Region.ready md ops listed → i < k := by
      intro i hi
      obtain ⟨hun, o, ho, hall⟩ := mem_ready.1 hi
      have hiN : i < ops.size := (Array.getElem?_eq_some_iff.1 ho).1
      have := hf i hiN
      rw [ho] at this
      by_cases hik : i < k
      · exact hik
      · simp only [if_neg hik, List.all_eq_true, List.mem_range] at this
        obtain ⟨j, hj, hj1, hj2⟩ := upTo_pos (listed := listed) (k := k) (by omega)
        have := this j hj
        have h3 : listed.getD j false = true := by
          rw [Bool.or_eq_true] at this
          rcases this with this | this
          · obtain ⟨e, he, hb⟩ := Array.any_eq_true'.1 this
            simp only [Bool.and_eq_true, beq_iff_eq] at hb
            have h3 := hall e he hb.1
            rwa [hb.2] at h3
          · obtain ⟨q, hq, hqq⟩ := List.any_eq_true.1 this
            rw [Bool.and_eq_true] at hqq
            obtain ⟨h5, h6⟩ := hqq
            obtain ⟨e, he, hb⟩ := Array.any_eq_true'.1 h5
            simp only [Bool.and_eq_true, beq_iff_eq] at hb
            have h7 := hall e he hb.1
            rw [hb.2] at h7
            cases hoq : ops[q]? with
            | none => rw [hoq] at h6; cases h6
            | some oq =>
              rw [hoq] at h6
              obtain ⟨e', he', hb'⟩ := Array.any_eq_true'.1 h6
              simp only [Bool.and_eq_true, beq_iff_eq] at hb'
              have h8 := hdc q oq hoq h7 e' he' hb'.1
              rwa [hb'.2] at h8
        have : j < listed.size := by omega
        simp [this] at hj1 h3
        rw [h3] at hj1
        cases hj1
    refine ⟨fun h0 => ?_, fun i hi => ?_⟩
    · exfalso
      obtain ⟨j, hj, hj1, hj2⟩ := upTo_pos (listed := listed) (k := k) (by omega)
      have hjN : j < ops.size := by omega
      have h1 := hf j hjN
      rw [Array.getElem?_eq_getElem hjN] at h1
      simp only [if_pos hj, Bool.and_eq_true] at h1
      have hmem : j ∈ Region.ready md ops listed := mem_ready.2 ⟨hj1, ops[j], Array.getElem?_eq_getElem hjN, fun e he hb => by
        have h2 := Array.all_eq_true'.1 h1.1.1 e he
        simp only [hb, Bool.not_true, Bool.false_or, decide_eq_true_eq] at h2
        have h3 := hj2 e.on h2
        have : e.on < listed.size := by omega
        simpa [this] using h3⟩
      rw [h0] at hmem
      cases hmem
    · have hik := hlow i hi
      obtain ⟨hun, o, ho, hall⟩ := mem_ready.1 hi
      have hiN : i < ops.size := (Array.getElem?_eq_some_iff.1 ho).1
      have h1 := hf i hiN
      rw [ho] at h1
      simp only [if_pos hik, Bool.and_eq_true, List.all_eq_true] at h1
      obtain ⟨⟨-, hlook⟩, hdst⟩ := h1
      have hso : StepG ops stp n bs VT I R D i o := by
        have := StepsG.at _ _ hst i o (by rw [List.getElem?_take_of_lt hik]; simpa using ho)
        rwa [Nat.zero_add] at this
      refine hmono ?_ (hso listed a w hs hun hH.size hH.defs hH.inv hH.base fun d hd => ?_)
      · rintro a' w' ⟨v, rfl, hv, hI', hR⟩
        refine ih _ _ _ (by simpa using hs) (by have := upTo_set (by omega) hun hik; omega) (fun j hj hjN => by rw [getD_set_ne true (show i ≠ j by omega)]; exact hhi j hj hjN) (fun q oq hq hl e he hb => ?_) ⟨?_, ?_, hI', ?_, ?_⟩
        · have hmon : ∀ j, listed.getD j false = true → (listed.setIfInBounds i true).getD j false = true := fun j hj => by
            by_cases hji : i = j
            · subst hji
              have : i < listed.size := by omega
              simp [this]
            · rw [getD_set_ne false hji]; exact hj
          by_cases hqi : i = q
          · subst hqi
            rw [ho] at hq
            cases hq
            exact hmon _ (hall e he hb)
          · rw [getD_set_ne false hqi] at hl
            exact hmon _ (hdc q oq hq hl e he hb)
        · cases hd : o.dst <;> simp [Act.put, hH.size]
        · cases hd : o.dst <;> simp [Act.put, hH.defs]
        · intro d hd
          obtain ⟨u, hu, hvu⟩ := hH.base d hd
          refine ⟨u, ?_, hVT _ _ _ _ hR hvu⟩
          cases hod : o.dst with
          | none => exact hu
          | some d' =>
            rw [hod] at hdst
            simp only [Bool.and_eq_true, Bool.not_eq_true', decide_eq_true_eq] at hdst
            have hne : d' ≠ d := by
              rintro rfl
              have := hdst.1.2
              rw [List.contains_iff_mem.2 hd] at this
              cases this
            simpa [Act.put, Array.getElem?_setIfInBounds_ne hne] using hu
        · intro j d hj hjd
          by_cases hji : i = j
          · subst hji
            simp only [dstAt, ho, Option.bind_some] at hjd
            rw [hjd] at hdst
            simp only [Bool.and_eq_true, decide_eq_true_eq] at hdst
            have hlt : d < a.tmps.size := by rw [hH.size]; exact hdst.1.1
            exact ⟨v, by simp [Act.put, hjd, hlt], hv d hjd⟩
          · rw [getD_set_ne false hji] at hj
            obtain ⟨u, hu, hvu⟩ := hH.made j d hj hjd
            refine ⟨u, ?_, hVT _ _ _ _ hR hvu⟩
            cases hod : o.dst with
            | none => exact hu
            | some d' =>
              have hjk : j < k := by
                have hjs : j < listed.size := by
                  rcases Nat.lt_or_ge j listed.size with h' | h'
                  · exact h'
                  · simp [Array.getElem?_eq_none h'] at hj
                rcases Nat.lt_or_ge j k with h' | h'
                · exact h'
                · have := hhi j h' (by omega)
                  simp [hjs] at this hj
                  rw [hj] at this
                  cases this
              rw [hod] at hdst
              simp only [Bool.and_eq_true, List.all_eq_true, List.mem_range, Bool.or_eq_true, beq_iff_eq, bne_iff_ne] at hdst
              have hne : d' ≠ d := by
                rintro rfl
                rcases hdst.2 j hjk with h | h
                · exact hji h.symm
                · exact h hjd
              simpa [Act.put, Array.getElem?_setIfInBounds_ne hne] using hu
      · have := hlook d hd
        simp only [Bool.or_eq_true] at this
        rcases this with h | h
        · exact hH.base d (List.contains_iff_mem.1 h)
        · obtain ⟨e, he, hb⟩ := Array.any_eq_true'.1 h
          simp only [Bool.and_eq_true, beq_iff_eq] at hb
          exact hH.made e.on d (hall e he hb.1) hb.2
end
theorem wp_region_held_slotsT {P : Program} {ops : Array Oper} {Q : Exit → Act → World → Prop} {id : Nat} {a : Act} {w : World} (hm : P.follows .mixedOrders = true) (k n : Nat) (bs : List Nat) (VT : Nat → Value → World → Prop) (I : Array Bool → Act → World → Prop) (R : World → World → Prop) (hf : fitT .any ops k n bs = true)
    (hVT : ∀ d v w w', R w w' → VT d v w → VT d v w') (h1 : a.tmps.size = n) (h3 : I (Array.replicate ops.size false) a { w with drawn := w.drawn + 1 }) (h4 : ∀ d ∈ bs, ∃ v, a.tmps[d]? = some v ∧ VT d v { w with drawn := w.drawn + 1 })
    (hst : StepsG ops (wpOp P ops Q) n bs VT I R a.defers 0 (ops.toList.take k))
    (hend : ∀ a' w', Held ops n bs VT I a.defers (headUp k ops.size) a' w' → wpAny P .any ops Q (ops.size - k) (headUp k ops.size) a' w') : (Code.region id ops true).wp P Q a w := by
  refine wp_region_any hm ?_
  rw [← anyG_wp]
  have hk : k ≤ ops.size := by
    simp only [fitT, Bool.and_eq_true, decide_eq_true_eq] at hf
    exact hf.1
  have := anyT_part (Qn := Q .normal) (stp := wpOp P ops Q) (fun h hh => wpOp_mono h hh) hf hVT hst (fun a' w' hh => by rw [anyG_wp]; exact hend a' w' hh) k (Array.replicate ops.size false) a { w with drawn := w.drawn + 1 } (by simp) (upTo_new hk)
    (fun i _ hi => by simp [hi]) (fun q oq hq hl e he hb => by
      by_cases hi : q < ops.size
      · simp [hi] at hl
      · simp [Array.getElem?_eq_none (show (Array.replicate ops.size false).size ≤ q by simp; omega)] at hl) (held_new h1 rfl h3 h4)
  rwa [show k + (ops.size - k) = ops.size by omega] at this
end Go.Proofs.YtngdieldgnlogaaDoor
