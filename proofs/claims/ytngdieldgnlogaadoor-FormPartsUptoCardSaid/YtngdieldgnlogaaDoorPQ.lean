/- What the list of all parts is: mathematics. -/
import Derived.Test.YtngdieldgnlogaaDoorFN
import Derived.Test.YtngdieldgnlogaaDoorD7
namespace Go.Proofs.YtngdieldgnlogaaDoor
open Go Go.RowKit Go.Sort
set_option maxRecDepth 100000
set_option linter.unusedVariables false
theorem Ts.eqB_eq : ∀ a b : Ts, a.eqB b = true → a = b
  | .nil, .nil, _ => rfl
  | .nil, .cons _ _ _ _, h => by simp [Ts.eqB] at h
  | .cons _ _ _ _, .nil, h => by simp [Ts.eqB] at h
  | .cons v n ts r, .cons v' n' ts' r', h => by
    simp only [Ts.eqB, Bool.and_eq_true, beq_iff_eq] at h
    obtain ⟨⟨⟨h1, h2⟩, h3⟩, h4⟩ := h
    rw [h1, ba_ext h2, Ts.eqB_eq _ _ h3, Ts.eqB_eq _ _ h4]
theorem Fs.eqB_eq : ∀ a b : Fs, a.eqB b = true → a = b
  | .nil, .nil, _ => rfl
  | .nil, .cons _ _ _ _ _, h => by simp [Fs.eqB] at h
  | .cons _ _ _ _ _, .nil, h => by simp [Fs.eqB] at h
  | .cons op n ts sub r, .cons op' n' ts' sub' r', h => by
    simp only [Fs.eqB, Bool.and_eq_true, beq_iff_eq] at h
    obtain ⟨⟨⟨⟨h1, h2⟩, h3⟩, h4⟩, h5⟩ := h
    rw [h1, ba_ext h2, Ts.eqB_eq _ _ h3, Fs.eqB_eq _ _ h4, Fs.eqB_eq _ _ h5]
theorem FT.eqB_eq {f g : FT} (h : f.eqB g = true) : f = g := by
  simp only [FT.eqB, Bool.and_eq_true, beq_iff_eq] at h
  obtain ⟨⟨⟨h1, h2⟩, h3⟩, h4⟩ := h
  cases f; cases g
  simp only at h1 h2 h3 h4
  rw [h1, ba_ext h2, Ts.eqB_eq _ _ h3, Fs.eqB_eq _ _ h4]
theorem FT.eqB_ne {f g : FT} (h : f ≠ g) : f.eqB g = false := by
  cases hb : f.eqB g with
  | false => rfl
  | true => exact (h (FT.eqB_eq hb)).elim
/-- A part is picked where it is not there. -/
theorem pickT_eq (acc : List FT) (f : FT) : (f ∈ acc ∧ pickT acc f = acc) ∨ (f ∉ acc ∧ pickT acc f = acc ++ [f]) := by
  unfold pickT
  by_cases h : f ∈ acc
  · refine .inl ⟨h, if_pos ?_⟩
    refine List.any_eq_true.2 ⟨f, List.mem_filter.2 ⟨h, by simp⟩, ?_⟩
    rw [beq_iff_eq, cmpForm_eq]
    exact FT.eqB_refl f
  · refine .inr ⟨h, if_neg ?_⟩
    intro h2
    obtain ⟨g, hg, he⟩ := List.any_eq_true.1 h2
    rw [beq_iff_eq, cmpForm_eq] at he
    have := FT.eqB_eq he
    subst this
    exact h (List.mem_filter.1 hg).1
theorem picked_spec : ∀ (l acc : List FT), acc.Nodup → (l.foldl pickT acc).Nodup ∧ (∀ x, x ∈ l.foldl pickT acc ↔ x ∈ acc ∨ x ∈ l) ∧ (∃ r, l.foldl pickT acc = acc ++ r) ∧ (l.foldl pickT acc).length ≤ acc.length + l.length
  | [], acc, h => ⟨h, fun x => by simp, ⟨[], by simp⟩, by simp⟩
  | f :: l, acc, h => by
    rw [List.foldl_cons]
    rcases pickT_eq acc f with ⟨h1, e⟩ | ⟨h1, e⟩
    · rw [e]
      obtain ⟨a1, a2, a3, a4⟩ := picked_spec l acc h
      refine ⟨a1, fun x => ?_, a3, by simp only [List.length_cons]; omega⟩
      rw [a2, List.mem_cons]
      constructor
      · rintro (h | h)
        · exact .inl h
        · exact .inr (.inr h)
      · rintro (h | rfl | h)
        · exact .inl h
        · exact .inl h1
        · exact .inr h
    · rw [e]
      have hn : (acc ++ [f]).Nodup := by
        rw [List.nodup_append]
        exact ⟨h, by simp, fun a ha b hb e' => by
          rw [List.mem_singleton] at hb
          rw [e', hb] at ha
          exact h1 ha⟩
      obtain ⟨a1, a2, ⟨r, a3⟩, a4⟩ := picked_spec l (acc ++ [f]) hn
      refine ⟨a1, fun x => ?_, ⟨f :: r, by rw [a3]; simp⟩, by simp only [List.length_append, List.length_cons, List.length_nil] at a4 ⊢; omega⟩
      rw [a2, List.mem_append, List.mem_singleton, List.mem_cons, or_assoc]
theorem Fs.of_get : ∀ (l : List FT) (i : Nat) (h : i < l.length), (Fs.of l).get i = l[i]
  | f :: r, 0, _ => rfl
  | f :: r, i + 1, h => by
    show (Fs.of r).get i = _
    rw [Fs.of_get r i (by simpa using h)]
    rfl
theorem Fs.of_size (n : Nat) : ∀ l : List FT, (∀ p ∈ l, p.size ≤ n) → (Fs.of l).size ≤ l.length * n
  | [], _ => by simp [Fs.of, Fs.size]
  | f :: r, h => by
    have h1 := Fs.of_size n r (fun p hp => h p (List.mem_cons_of_mem _ hp))
    have h2 := h f (List.mem_cons_self ..)
    have h3 : f.size = f.ts.size + f.sub.size + 1 := rfl
    simp only [Fs.of, Fs.size, List.length_cons]
    rw [Nat.add_mul]
    omega
theorem Fs.parts_trans : ∀ (t : Fs) (p x : FT), p ∈ t.parts → x ∈ p.parts → x ∈ t.parts
  | .cons op n ts sub r, p, x, hp, hx => by
    simp only [Fs.parts, List.mem_cons, List.mem_append] at hp ⊢
    rcases hp with rfl | hp | hp
    · simp only [FT.parts, List.mem_cons] at hx
      rcases hx with hx | hx
      · exact .inl hx
      · exact .inr (.inl hx)
    · exact .inr (.inl (Fs.parts_trans sub p x hp hx))
    · exact .inr (.inr (Fs.parts_trans r p x hp hx))
theorem FT.parts_trans {f p x : FT} (hp : p ∈ f.parts) (hx : x ∈ p.parts) : x ∈ f.parts := by
  simp only [FT.parts, List.mem_cons] at hp ⊢
  rcases hp with rfl | hp
  · simpa only [FT.parts, List.mem_cons] using hx
  · exact .inr (Fs.parts_trans _ _ _ hp hx)
theorem Fs.parts_deep : ∀ (t : Fs) (p : FT), p ∈ t.parts → p.deep ≤ t.deep
  | .cons op n ts sub r, p, hp => by
    simp only [Fs.parts, List.mem_cons, List.mem_append] at hp
    simp only [Fs.deep]
    rcases hp with rfl | hp | hp
    · simp only [FT.deep]; omega
    · have := Fs.parts_deep sub p hp
      omega
    · have := Fs.parts_deep r p hp
      omega
theorem Fs.parts_right {sc : Bool} : ∀ (t : Fs) (p : FT), t.right sc = true → p ∈ t.parts → p.right sc = true
  | .cons op n ts sub r, p, h, hp => by
    simp only [Fs.parts, List.mem_cons, List.mem_append] at hp
    simp only [Fs.right, Bool.and_eq_true] at h
    rcases hp with rfl | hp | hp
    · simp only [FT.right, Bool.and_eq_true]
      exact ⟨h.1.1, h.1.2⟩
    · exact Fs.parts_right sub p h.1.2 hp
    · exact Fs.parts_right r p h.2 hp
theorem part_right' {f p : FT} {sc : Bool} (hp : p ∈ f.parts) (h : f.right sc = true) : p.right sc = true := by
  simp only [FT.parts, List.mem_cons] at hp
  rcases hp with rfl | hp
  · exact h
  · simp only [FT.right, Bool.and_eq_true] at h
    exact Fs.parts_right _ _ h.2 hp
theorem part_le {f p : FT} (hp : p ∈ f.parts) : p.size ≤ f.size ∧ p.deep ≤ f.deep := by
  simp only [FT.parts, List.mem_cons] at hp
  rcases hp with rfl | hp
  · exact ⟨Nat.le_refl _, Nat.le_refl _⟩
  · have h1 := mem_subs_le hp
    have h2 := Fs.parts_deep _ _ hp
    have e1 : f.size = f.ts.size + f.sub.size + 1 := rfl
    have e2 : f.deep = max f.ts.deep f.sub.deep + 1 := rfl
    omega
theorem part_lt {f p : FT} (hp : p ∈ f.parts) (hne : p ≠ f) : p.size < f.size ∧ p.deep < f.deep := by
  simp only [FT.parts, List.mem_cons] at hp
  rcases hp with rfl | hp
  · exact (hne rfl).elim
  · have h1 := mem_subs_le hp
    have h2 := Fs.parts_deep _ _ hp
    have e1 : f.size = f.ts.size + f.sub.size + 1 := rfl
    have e2 : f.deep = max f.ts.deep f.sub.deep + 1 := rfl
    omega
/-! ### symbols -/
abbrev ltS (a b : Sy) : Prop := sySym a b < 0
theorem ltS_trans {a b c : Sy} (h1 : ltS a b) (h2 : ltS b c) : ltS a c := of_decide_eq_true (swoSym.trans a b c (decide_eq_true h1) (decide_eq_true h2))
theorem ltS_irr (a : Sy) : ¬ ltS a a := of_decide_eq_false (swoSym.irrefl a)
theorem ltS_tri {a b : Sy} (h : a ≠ b) : ltS a b ∨ ltS b a := by
  by_cases h1 : ltS a b
  · exact .inl h1
  · by_cases h2 : ltS b a
    · exact .inr h2
    · exact (h (sy_total a b (decide_eq_false h1) (decide_eq_false h2))).elim
theorem not_lt {a b : Sy} : (!(ltOf sySym) b a) = true ↔ ¬ ltS b a := by
  unfold ltOf ltS
  simp
theorem ms_sorted (l : List Sy) : (ms l).Pairwise fun a b => ¬ ltS b a := by
  have h := List.pairwise_mergeSort (le := fun x y => !(ltOf sySym) y x) (fun a b c h1 h2 => by
    rw [not_lt] at h1 h2 ⊢
    exact fun h3 => by
      by_cases e : a = b
      · subst e; exact h2 h3
      · rcases ltS_tri e with k | k
        · exact h2 (ltS_trans h3 k)
        · exact h1 k) (fun a b => by
    rw [Bool.or_eq_true, not_lt, not_lt]
    by_cases h1 : ltS b a
    · exact .inr fun h2 => ltS_irr _ (ltS_trans h1 h2)
    · exact .inl h1) l
  exact h.imp fun {a b} h => not_lt.1 h
theorem uniqA_spec : ∀ (r : List Sy) (q : Sy), (q :: r).Pairwise (fun a b => ¬ ltS b a) → (q :: uniqA q r).Pairwise ltS ∧ ∀ x, x ∈ q :: uniqA q r ↔ x ∈ q :: r
  | [], q, _ => ⟨by simp [uniqA], fun x => by simp [uniqA]⟩
  | p :: r, q, h => by
    have h0 := List.pairwise_cons.1 h
    have ih := uniqA_spec r p h0.2
    unfold uniqA
    by_cases e : p.1.toList = q.1.toList ∧ p.2 = q.2
    · rw [if_pos e]
      have epq : p = q := Prod.ext (ba_ext e.1) e.2
      subst epq
      refine ⟨ih.1, fun x => ?_⟩
      rw [ih.2]
      simp
    · rw [if_neg e]
      have hne : q ≠ p := fun e' => e (by rw [e']; exact ⟨rfl, rfl⟩)
      have hqp : ltS q p := (ltS_tri hne).resolve_right (h0.1 p (List.mem_cons_self ..))
      refine ⟨List.pairwise_cons.2 ⟨fun x hx => ?_, ih.1⟩, fun x => ?_⟩
      · rcases List.mem_cons.1 hx with rfl | hx'
        · exact hqp
        · exact ltS_trans hqp ((List.pairwise_cons.1 ih.1).1 x hx')
      · rw [List.mem_cons, ih.2, List.mem_cons, List.mem_cons, List.mem_cons]
theorem uniq_spec (l : List Sy) : (uniq (ms l)).Pairwise ltS ∧ ∀ x, x ∈ uniq (ms l) ↔ x ∈ l := by
  have hs := ms_sorted l
  have hp := ms_perm l
  cases hm : ms l with
  | nil =>
    rw [hm] at hp
    have : l = [] := hp.symm.eq_nil
    subst this
    exact ⟨by simp [uniq], fun x => by simp [uniq]⟩
  | cons q r =>
    rw [hm] at hs hp
    obtain ⟨h1, h2⟩ := uniqA_spec r q hs
    exact ⟨h1, fun x => by rw [show uniq (q :: r) = q :: uniqA q r from rfl, h2]; exact hp.mem_iff⟩
theorem within_sub : ∀ (n : Nat) (a b : List Sy), a.length + b.length ≤ n → a.Pairwise ltS → b.Pairwise ltS → (∀ x ∈ a, x ∈ b) → withinB a b = true
  | _, [], b, _, _, _, _ => by rw [withinB]
  | n, x :: a, [], _, _, _, h => by have := h x (List.mem_cons_self ..); cases this
  | 0, x :: a, y :: r, hn, _, _, _ => by simp at hn
  | n + 1, x :: a, y :: r, hn, ha, hb, h => by
    rw [withinB]
    simp only [List.length_cons] at hn
    have ha' := List.pairwise_cons.1 ha
    have hb' := List.pairwise_cons.1 hb
    by_cases e : sameSy y x = true
    · rw [if_pos e]
      exact within_sub n a (y :: r) (by simp only [List.length_cons]; omega) ha'.2 hb (fun z hz => h z (List.mem_cons_of_mem _ hz))
    · rw [if_neg e]
      have hxy : x ≠ y := fun e' => e (by subst e'; simp [sameSy])
      have hx : x ∈ r := (List.mem_cons.1 (h x (List.mem_cons_self ..))).resolve_left hxy
      refine within_sub n (x :: a) r (by simp only [List.length_cons]; omega) ha hb'.2 (fun z hz => ?_)
      rcases List.mem_cons.1 hz with rfl | hz'
      · exact hx
      · rcases List.mem_cons.1 (h z hz) with rfl | h9
        · exact (ltS_irr _ (ltS_trans (hb'.1 x hx) (ha'.1 z hz'))).elim
        · exact h9
theorem within_of {l l' : List Sy} (h : ∀ x ∈ l, x ∈ l') : withinB (uniq (ms l)) (uniq (ms l')) = true :=
  within_sub _ _ _ (Nat.le_refl _) (uniq_spec l).1 (uniq_spec l').1 fun x hx => ((uniq_spec l').2 x).2 (h x (((uniq_spec l).2 x).1 hx))
/-- **What FormParts asks of the list of all parts.** -/
theorem pf_any (f : FT) (hs : f.size ≤ 1000) (hop : ∀ p ∈ f.parts, 0 ≤ p.op) : PF f (Fs.of (pickedT f.parts)) := by
  obtain ⟨P, hP⟩ : ∃ P, pickedT f.parts = P := ⟨_, rfl⟩
  have e0 : pickT [] f = [f] := by
    rcases pickT_eq [] f with ⟨h, -⟩ | ⟨-, h⟩
    · cases h
    · simpa using h
  have hspec := picked_spec f.sub.parts [f] (by simp)
  have hPe : P = f.sub.parts.foldl pickT [f] := by
    rw [← hP]
    show (f :: f.sub.parts).foldl pickT [] = _
    rw [List.foldl_cons, e0]
  rw [← hPe] at hspec
  obtain ⟨hnd, hmem, ⟨r, hr⟩, hlen⟩ := hspec
  have hmem' : ∀ x, x ∈ P ↔ x ∈ f.parts := fun x => by rw [hmem]; simp [FT.parts]
  rw [hP]
  have hg : ∀ i (h : i < P.length), (Fs.of P).get i = P[i] := fun i h => Fs.of_get P i h
  have hin : ∀ i, i < (Fs.of P).len → (Fs.of P).get i ∈ f.parts := fun i h => by
    rw [Fs.of_len] at h
    rw [hg i h, ← hmem']
    exact List.getElem_mem h
  have h0 : 0 < P.length := by rw [hr]; simp
  have hP0 : P[0] = f := by simp [hr]
  have hne : ∀ i k (hi : i < P.length) (hk : k < i), P[i] ≠ P[k]'(by omega) := fun i k hi hk e => by
    exact (List.pairwise_iff_getElem.1 hnd k i (by omega) hi hk) e.symm
  refine ⟨by rw [Fs.of_len]; exact h0, ?_, ?_, ?_, ?_, ?_, ?_, ?_, ?_, ?_, ?_, ?_, ?_⟩
  · rw [hg 0 h0, hP0]; exact FT.eqB_refl f
  · intro i hi sc h
    rw [Bool.and_eq_true] at h ⊢
    have h1 := part_le (hin i hi)
    refine ⟨?_, part_right' (hin i hi) h.2⟩
    have h2 := h.1
    simp only [FT.fits, Bool.and_eq_true, decide_eq_true_eq] at h2 ⊢
    omega
  · exact fun i hi => mask_sub fun p hp => FT.parts_trans (hin i hi) hp
  · intro i hi h
    refine (part_lt (hin i hi) fun e => ?_).1
    rw [Fs.of_len] at hi
    rw [hg i hi] at e
    exact hne i 0 hi h (e.trans hP0.symm)
  · intro i hi h
    refine (part_lt (hin i hi) fun e => ?_).2
    rw [Fs.of_len] at hi
    rw [hg i hi] at e
    exact hne i 0 hi h (e.trans hP0.symm)
  · exact fun i hi => (part_le (hin i hi)).1
  · refine fun i hi => within_of fun x hx => ?_
    obtain ⟨p, hp, hx⟩ := List.mem_flatMap.1 hx
    exact List.mem_flatMap.2 ⟨p, FT.parts_trans (hin i hi) hp, hx⟩
  · refine fun i hi => within_of fun x hx => ?_
    obtain ⟨t, ht, hx⟩ := List.mem_flatMap.1 hx
    obtain ⟨p, hp, ht⟩ := List.mem_flatMap.1 ht
    exact List.mem_flatMap.2 ⟨t, List.mem_flatMap.2 ⟨p, FT.parts_trans (hin i hi) hp, ht⟩, hx⟩
  · intro i k hk hi
    rw [Fs.of_len] at hi
    rw [hg i hi, hg k (by omega)]
    exact FT.eqB_ne (hne i k hi hk)
  · intro h hh
    obtain ⟨k, hk, e⟩ := List.getElem_of_mem ((hmem' h).2 hh)
    exact ⟨k, by rw [Fs.of_len]; exact hk, by rw [hg k hk, e]; exact FT.eqB_refl h⟩
  · exact fun i hi p hp => hop p (FT.parts_trans (hin i hi) hp)
  · have h1 := Fs.of_size 1000 P (fun p hp => Nat.le_trans (part_le ((hmem' p).1 hp)).1 hs)
    have h2 := f.length_all
    have h3 : f.parts.length = f.sub.parts.length + 1 := rfl
    simp only [List.length_cons, List.length_nil] at hlen
    have h4 : P.length ≤ 1000 := by omega
    exact Nat.le_trans h1 (by have := Nat.mul_le_mul_right 1000 h4; omega)
end Go.Proofs.YtngdieldgnlogaaDoor
