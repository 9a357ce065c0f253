/- Plain arithmetic on lists: an order has every number once; a choice has so many different numbers; an index that is weighed has a weight. -/
import Derived.Test.YthalafjbkmemhaaDoorM4
import Derived.Test.YthalafjbkmemhaaDoorW9
namespace Go.Proofs.YthalafjbkmemhaaDoor
open Go Go.RowKit
theorem swapL_perm (l : List Int) (a b : Nat) (ha : a < l.length) (hb : b < l.length) : (swapL l a b).Perm l := by
  unfold swapL
  have h := List.set_set_perm ha hb
  have ea : l.getD a 0 = l[a] := by simp [List.getD, ha]
  have eb : l.getD b 0 = l[b] := by simp [List.getD, hb]
  rw [ea, eb]
  exact h
theorem permGo_good {key : Int} (hk : U key) : ∀ (p : Nat) (L : List Int) (x : Int), p < L.length → p ≤ 99 → 0 ≤ x → x + 101 * p ≤ 1099511627776 → ∃ L' nx, permGo key p L x = some (L', nx) ∧ x + p ≤ nx ∧ L'.Perm L
  | 0, L, x, _, _, _, _ => ⟨L, x, rfl, by omega, List.Perm.refl _⟩
  | p + 1, L, x, hp, h9, hx, hb => by
    obtain ⟨v, nx, h1, h2⟩ := below_soon (k := key) (n := (p : Int) + 1 + 1) (i := x) hk (by omega) hx (by omega)
    have hr := below_range h1
    obtain ⟨L', fin, e1, e2, e3⟩ := permGo_good hk p (swapL L v.toNat (p + 1)) nx (by rw [swapL_length]; omega) (by omega) (by omega) (by omega)
    refine ⟨L', fin, ?_, by omega, e3.trans (swapL_perm L v.toNat (p + 1) (by omega) (by omega))⟩
    rw [permGo, h1]
    exact e1
theorem permR_good {key i : Int} (hk : U key) (hi : 0 ≤ i) (hi2 : i < 549755813888) (n : Nat) (hn : n ≤ 100) : ∃ l nx, permR key i n = some (l, nx) ∧ i + n - 1 ≤ nx ∧ i ≤ nx ∧ l.Perm (idL n) := by
  cases n with
  | zero => exact ⟨[], i, rfl, by omega, by omega, List.Perm.refl _⟩
  | succ m =>
    obtain ⟨L', nx, e1, e2, e3⟩ := permGo_good hk m (idL (m + 1)) i (by rw [idL_length]; omega) (by omega) hi (by omega)
    exact ⟨L', nx, e1, by omega, by omega, e3⟩
theorem mem_idL {n : Nat} {x : Int} : x ∈ idL n ↔ 0 ≤ x ∧ x < n := by
  simp only [idL, List.mem_map, List.mem_range]
  constructor
  · rintro ⟨a, ha, rfl⟩; omega
  · rintro ⟨h0, h1⟩; exact ⟨x.toNat, by omega, by omega⟩
theorem count_one (n c : Int) : [n].count c = if c = n then 1 else 0 := by
  by_cases h : c = n
  · subst h; simp
  · have : ¬ n = c := fun e => h e.symm
    simp [h, this]
theorem count_idL (n : Nat) (c : Int) : (idL n).count c = if 0 ≤ c ∧ c < n then 1 else 0 := by
  induction n with
  | zero =>
    rw [if_neg (by omega)]
    simp [idL]
  | succ n ih =>
    rw [idL_snoc, List.count_append, ih, count_one]
    by_cases h : c = (n : Int)
    · rw [if_neg (by omega), if_pos h, if_pos (by omega)]
    · rw [if_neg h]
      by_cases h2 : 0 ≤ c ∧ c < n
      · rw [if_pos h2, if_pos (by omega)]
      · rw [if_neg h2, if_neg (by omega)]
/-- How often each number below n is in l. -/
def countL (n : Nat) (l : List Int) : List Int := (List.range n).map fun c : Nat => (l.count (c : Int) : Int)
theorem countL_length (n : Nat) (l : List Int) : (countL n l).length = n := by simp [countL]
theorem countL_nil (n : Nat) : countL n [] = List.replicate n 0 := by
  apply List.ext_getElem?
  intro x
  by_cases hx : x < n <;> simp [countL, hx]
theorem countL_get (n : Nat) (l : List Int) (c : Nat) (hc : c < n) : (countL n l).getD c 0 = (l.count (c : Int) : Int) := by
  simp [countL, List.getD, hc]
theorem countL_snoc (n : Nat) (l : List Int) (x : Nat) (hx : x < n) : countL n (l ++ [(x : Int)]) = (countL n l).set x ((countL n l).getD x 0 + 1) := by
  rw [countL_get n l x hx]
  apply List.ext_getElem?
  intro c
  rw [List.getElem?_set]
  by_cases hc : c < n
  · by_cases e : x = c
    · subst e
      simp [countL, hx, List.count_append]
    · have ne : ¬ ((c : Int) = (x : Int)) := by omega
      rw [if_neg e]
      simp only [countL, List.getElem?_map, List.getElem?_range hc, Option.map_some, List.count_append, count_one, if_neg ne, Nat.add_zero]
  · rw [List.getElem?_eq_none (by rw [countL_length]; omega), if_neg (by omega), List.getElem?_eq_none (by rw [countL_length]; omega)]
theorem perm_count {n : Nat} {l : List Int} (h : l.Perm (idL n)) (c : Nat) (hc : c < n) : (countL n l).getD c 0 = 1 := by
  rw [countL_get n l c hc, h.count_eq, count_idL, if_pos (by omega)]
  rfl
theorem perm_range {n : Nat} {l : List Int} (h : l.Perm (idL n)) (x : Nat) (hx : x < l.length) : 0 ≤ l.getD x 0 ∧ l.getD x 0 < n := by
  have hm : l.getD x 0 ∈ l := by simp [List.getD, hx]
  exact mem_idL.1 (h.mem_iff.1 hm)
/- Choices. -/
theorem trueTo_count (l : List Bool) : ∀ k, k ≤ l.length → (trueTo l k).length = (l.take k).count true
  | 0, _ => by simp [trueTo]
  | k + 1, h => by
    rw [List.take_succ_eq_append_getElem (by omega), List.count_append, ← trueTo_count l k (by omega)]
    have e : l.getD k false = l[k] := by simp [List.getD, show k < l.length by omega]
    cases hg : l.getD k false
    · rw [trueTo_no l k hg, ← e, hg]; simp
    · rw [trueTo_yes l k hg, ← e, hg]; simp
theorem count_set_true (l : List Bool) (j : Nat) (hj : j < l.length) (h : l.getD j false = false) : (l.set j true).count true = l.count true + 1 := by
  have e : l[j] = false := by
    have : l.getD j false = l[j] := by simp [List.getD, hj]
    rw [← this]; exact h
  rw [List.count_set hj, e]
  simp
theorem chooseGo_good {key : Int} (hk : U key) : ∀ (f m : Nat) (l : List Bool) (x : Int), f + m = l.length → l.length ≤ 100 → 0 ≤ x → x + 101 * f ≤ 1099511627776 → (∀ j, l.getD j false = true → j < m) → ∃ l' nx, chooseGo key f m l x = some (l', nx) ∧ x + f ≤ nx ∧ l'.length = l.length ∧ l'.count true = l.count true + f
  | 0, m, l, x, _, _, _, _, _ => ⟨l, x, rfl, by omega, rfl, by omega⟩
  | f + 1, m, l, x, hl, h1, hx, hb, hi => by
    obtain ⟨v, nx, e1, e2⟩ := below_soon (k := key) (n := (m : Int) + 1) (i := x) hk (by omega) hx (by omega)
    have hr := below_range e1
    obtain ⟨j, hj⟩ : ∃ j, (if l.getD v.toNat false = true then m else v.toNat) = j := ⟨_, rfl⟩
    have hjm : j ≤ m ∧ l.getD j false = false := by
      by_cases hv : l.getD v.toNat false = true
      · rw [if_pos hv] at hj
        subst hj
        refine ⟨Nat.le_refl _, ?_⟩
        cases hg : l.getD m false
        · rfl
        · have := hi m hg; omega
      · rw [if_neg hv] at hj
        subst hj
        exact ⟨by omega, by simpa using hv⟩
    obtain ⟨l', fin, a1, a2, a3, a4⟩ := chooseGo_good hk f (m + 1) (l.set j true) nx (by simp; omega) (by simp; omega) (by omega) (by omega) (by
      intro s hs
      by_cases e : j = s
      · omega
      · rw [List.getD_eq_getElem?_getD, List.getElem?_set_ne e, ← List.getD_eq_getElem?_getD] at hs
        have := hi s hs
        omega)
    refine ⟨l', fin, ?_, by omega, by simpa using a3, ?_⟩
    · rw [chooseGo, e1]
      show chooseGo key f (m + 1) (l.set (if l.getD v.toNat false = true then m else v.toNat) true) nx = _
      rw [hj]
      exact a1
    · rw [a4, count_set_true l j (by omega) hjm.2]
      omega
theorem trueTo_mem (l : List Bool) (k x : Nat) (hx : x < (trueTo l k).length) : ∃ j : Nat, (trueTo l k).getD x 0 = j ∧ j < k := by
  have hm : (trueTo l k).getD x 0 ∈ trueTo l k := by simp [List.getD, hx]
  simp only [trueTo, List.mem_map, List.mem_filter, List.mem_range] at hm
  obtain ⟨j, ⟨hj, _⟩, e⟩ := hm
  exact ⟨j, e.symm, hj⟩
theorem trueTo_rising (l : List Bool) : ∀ (k x : Nat), x + 1 < (trueTo l k).length → (trueTo l k).getD x 0 < (trueTo l k).getD (x + 1) 0
  | 0, x, h => by simp [trueTo] at h
  | k + 1, x, h => by
    cases hg : l.getD k false
    · rw [trueTo_no l k hg] at h ⊢
      exact trueTo_rising l k x h
    · rw [trueTo_yes l k hg] at h ⊢
      rw [List.length_append, List.length_singleton] at h
      by_cases hlt : x + 1 < (trueTo l k).length
      · have := trueTo_rising l k x hlt
        rw [List.getD_eq_getElem?_getD, List.getD_eq_getElem?_getD] at this ⊢
        rw [List.getElem?_append_left (by omega), List.getElem?_append_left hlt]
        exact this
      · obtain ⟨j, e, hj⟩ := trueTo_mem l k x (by omega)
        rw [List.getD_eq_getElem?_getD] at e
        rw [List.getD_eq_getElem?_getD, List.getD_eq_getElem?_getD, List.getElem?_append_left (by omega), e, List.getElem?_append_right (by omega)]
        have : x + 1 - (trueTo l k).length = 0 := by omega
        rw [this]
        simp
        omega
theorem chooseR_good {key i : Int} (hk : U key) (hi : 0 ≤ i) (hi2 : i < 549755813888) (n k : Nat) (hn : n ≤ 100) (hkn : k ≤ n) : ∃ c nx, chooseR key i n k = some (c, nx) ∧ i + k ≤ nx ∧ c.length = k ∧ (∀ x, x < k → 0 ≤ c.getD x 0 ∧ c.getD x 0 < n) ∧ (∀ x, x + 1 < k → c.getD x 0 < c.getD (x + 1) 0) := by
  obtain ⟨l', nx, a1, a2, a3, a4⟩ := chooseGo_good hk k (n - k) (List.replicate n false) i (by simp; omega) (by simpa using hn) hi (by omega) (by
    intro j hj
    by_cases h : j < n
    · simp [List.getD, h] at hj
    · simp [List.getD, h] at hj)
  rw [List.length_replicate] at a3
  have a5 : l'.count true = k := by rw [a4]; simp [List.count_replicate]
  have hlen : (trueTo l' n).length = k := by
    rw [trueTo_count l' n (by omega), List.take_of_length_le (by omega), a5]
  refine ⟨trueTo l' n, nx, ?_, by omega, hlen, fun x hx => ?_, fun x hx => trueTo_rising l' n x (by omega)⟩
  · unfold chooseR
    rw [a1]
  · obtain ⟨j, e, hj⟩ := trueTo_mem l' n x (by omega)
    rw [e]; omega
theorem all_of {c : List Int} {n : Nat} (hr : ∀ x, x < n → 0 ≤ c.getD x 0 ∧ c.getD x 0 < n) (hs : ∀ x, x + 1 < n → c.getD x 0 < c.getD (x + 1) 0) (x : Nat) (hx : x < n) : c.getD x 0 = x := by
  have low : ∀ x, x < n → (x : Int) ≤ c.getD x 0 := by
    intro x
    induction x with
    | zero => intro h; exact (hr 0 h).1
    | succ x ih =>
      intro h
      have := ih (by omega)
      have := hs x h
      omega
  have high : ∀ d x, x + d + 1 = n → c.getD x 0 ≤ x := by
    intro d
    induction d with
    | zero => intro x h; have := (hr x (by omega)).2; omega
    | succ d ih =>
      intro x h
      have := ih (x + 1) (by omega)
      have := hs x (by omega)
      omega
  have := low x hx
  have := high (n - x - 1) x (by omega)
  omega
/- Weights. -/
theorem weighL_good : ∀ (l : List Int) (t : Int), (∀ x ∈ l, 0 ≤ x) → 0 ≤ t → t < l.sum → weighL l t < l.length ∧ 0 < l.getD (weighL l t) 0
  | [], t, _, h0, h1 => by simp at h1; omega
  | x :: l, t, hp, h0, h1 => by
    rw [List.sum_cons] at h1
    unfold weighL
    by_cases h : x ≤ t
    · rw [if_pos h]
      have := weighL_good l (t - x) (fun y hy => hp y (List.mem_cons_of_mem _ hy)) (by omega) (by omega)
      refine ⟨by simp; omega, ?_⟩
      simpa [List.getD] using this.2
    · rw [if_neg h]
      refine ⟨by simp, ?_⟩
      simp [List.getD]
      omega
end Go.Proofs.YthalafjbkmemhaaDoor
