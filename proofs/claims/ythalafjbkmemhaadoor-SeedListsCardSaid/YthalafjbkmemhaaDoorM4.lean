/- Plain arithmetic: a draw below n ends within n words, since the words of a stream are all different. -/
import Derived.Test.YthalafjbkmemhaaDoorM3
namespace Go.Proofs.YthalafjbkmemhaaDoor
open Go Go.RowKit
theorem pigeon : ∀ (m n : Nat) (f : Nat → Nat), (∀ t, t < n → f t < m) → (∀ s t, s < n → t < n → f s = f t → s = t) → n ≤ m
  | 0, n, f, hf, _ => by
    by_cases h : n = 0
    · omega
    · have := hf 0 (by omega); omega
  | m + 1, n, f, hf, hi => by
    by_cases h : ∃ t, t < n ∧ f t = m
    · obtain ⟨t0, ht0, e0⟩ := h
      have := pigeon m (n - 1) (fun t => if t = t0 then f (n - 1) else f t)
        (fun t ht => by
          by_cases e : t = t0
          · simp only [if_pos e]
            have h1 := hf (n - 1) (by omega)
            have h2 : f (n - 1) ≠ m := fun he => by
              have := hi (n - 1) t0 (by omega) ht0 (he.trans e0.symm)
              omega
            omega
          · simp only [if_neg e]
            have h1 := hf t (by omega)
            have h2 : f t ≠ m := fun he => e (hi t t0 (by omega) ht0 (he.trans e0.symm))
            omega)
        (fun s t hs ht he => by
          by_cases es : s = t0 <;> by_cases et : t = t0
          · omega
          · simp only [if_pos es, if_neg et] at he
            have := hi (n - 1) t (by omega) (by omega) he
            omega
          · simp only [if_neg es, if_pos et] at he
            have := hi s (n - 1) (by omega) (by omega) he
            omega
          · simp only [if_neg es, if_neg et] at he
            exact hi s t (by omega) (by omega) he)
      omega
    · have := pigeon m n f (fun t ht => by
        have h1 := hf t ht
        have h2 : f t ≠ m := fun he => h ⟨t, ht, he⟩
        omega) hi
      omega
theorem scan_none (k n : Int) : ∀ (f : Nat) (i : Int), scan k n f i = none → ∀ t : Nat, t < f → restB (wordI k (i + t)) n = false
  | 0, _, _, t, ht => by omega
  | f + 1, i, h, t, ht => by
    unfold scan at h
    split at h
    · cases h
    · rename_i hr
      cases t with
      | zero => simpa using hr
      | succ t =>
        have := scan_none k n f (i + 1) h t (by omega)
        rw [show i + ((t + 1 : Nat) : Int) = i + 1 + (t : Int) from by omega]
        exact this
theorem scan_some (k n v nx : Int) : ∀ (f : Nat) (i : Int), scan k n f i = some (v, nx) → ∃ t : Nat, t < f ∧ nx = i + t + 1 ∧ restB (wordI k (i + t)) n = true ∧ v = restV (wordI k (i + t)) n ∧ ∀ s : Nat, s < t → restB (wordI k (i + s)) n = false
  | 0, _, h => by simp [scan] at h
  | f + 1, i, h => by
    unfold scan at h
    split at h
    · rename_i hr
      simp only [Option.some.injEq, Prod.mk.injEq] at h
      exact ⟨0, by omega, by omega, by simpa using hr, by simpa using h.1.symm, fun s hs => by omega⟩
    · rename_i hr
      obtain ⟨t, ht, h1, h2, h3, h4⟩ := scan_some k n v nx f (i + 1) h
      have e : i + ((t + 1 : Nat) : Int) = i + 1 + (t : Int) := by omega
      refine ⟨t + 1, by omega, by omega, by rw [e]; exact h2, by rw [e]; exact h3, fun s hs => ?_⟩
      cases s with
      | zero => simpa using hr
      | succ s =>
        rw [show i + ((s + 1 : Nat) : Int) = i + 1 + (s : Int) from by omega]
        exact h4 s (by omega)
theorem few_rejected {k n i : Int} (hk : U k) (hn : 1 ≤ n) (hi : 0 ≤ i) (hin : i + n ≤ 1099511627776) (h : ∀ t : Nat, (t : Int) < n → restB (wordI k (i + t)) n = false) : False := by
  have l2 := lim_facts n hn
  have hl : lim n = 18446744073709551615 - 18446744073709551616 % n := rfl
  have hw : ∀ t : Nat, (t : Int) < n → lim n < wordI k (i + t) := by
    intro t ht
    have := h t ht
    simp only [restB, decide_eq_false_iff_not] at this
    omega
  have := pigeon (18446744073709551616 % n).toNat n.toNat (fun t => (wordI k (i + t) - (lim n + 1)).toNat)
    (fun t ht => by
      have h1 := hw t (by omega)
      have h2 := wordI_le k (i + t)
      show (wordI k (i + t) - (lim n + 1)).toNat < _
      omega)
    (fun s t hs ht he => by
      have h1 := hw s (by omega)
      have h2 := hw t (by omega)
      have h3 : wordI k (i + s) = wordI k (i + t) := by
        have : (wordI k (i + s) - (lim n + 1)).toNat = (wordI k (i + t) - (lim n + 1)).toNat := he
        omega
      have := word_inj hk (by omega) (by omega) (by omega) (by omega) h3
      omega)
  have r2 : (18446744073709551616 : Int) % n < n := Int.emod_lt_of_pos _ (by omega)
  omega
theorem below_soon {k n i : Int} (hk : U k) (hn : 1 ≤ n) (hi : 0 ≤ i) (hin : i + n ≤ 1099511627776) : ∃ v nx, belowR k i n = some (v, nx) ∧ nx ≤ i + n := by
  cases h : belowR k i n with
  | none =>
    exfalso
    have hs := scan_none k n _ i h
    exact few_rejected hk hn hi hin fun t ht => hs t (by omega)
  | some p =>
    obtain ⟨v, nx⟩ := p
    obtain ⟨t, ht, h1, h2, h3, h4⟩ := scan_some k n v nx _ i h
    refine ⟨v, nx, rfl, ?_⟩
    by_cases hc : nx ≤ i + n
    · exact hc
    · exfalso
      exact few_rejected hk hn hi hin fun s hs => h4 s (by omega)
theorem below_none_end {k n i : Int} (hk : U k) (hn : 1 ≤ n) (hi : 0 ≤ i) (h : belowR k i n = none) : 1099511627776 < i + n := by
  by_cases hc : i + n ≤ 1099511627776
  · obtain ⟨v, nx, h1, _⟩ := below_soon hk hn hi hc
    rw [h] at h1
    cases h1
  · omega
/-- What a draw's words are: those before the last one are not accepted, the last one is, and gives the number. -/
theorem below_words {k n i v nx : Int} (h : belowR k i n = some (v, nx)) (j : Int) (h1 : i ≤ j) (_h2 : j < nx) :
    (j + 1 < nx → restB (wordI k j) n = false) ∧ (j + 1 = nx → restB (wordI k j) n = true ∧ restV (wordI k j) n = v) := by
  obtain ⟨t, ht, e1, e2, e3, e4⟩ := scan_some k n v nx _ i h
  refine ⟨fun hj => ?_, fun hj => ?_⟩
  · have := e4 (j - i).toNat (by omega)
    rw [show i + ((j - i).toNat : Int) = j from by omega] at this
    exact this
  · have e : i + (t : Int) = j := by omega
    rw [e] at e2 e3
    exact ⟨e2, e3.symm⟩
end Go.Proofs.YthalafjbkmemhaaDoor
