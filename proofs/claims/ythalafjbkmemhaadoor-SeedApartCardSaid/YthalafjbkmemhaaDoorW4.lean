/- SeedDraws' walk: Below, Perm and Choose return what the document's own answers return. -/
import Derived.Test.YthalafjbkmemhaaDoorR4
namespace Go.Proofs.YthalafjbkmemhaaDoor
open Go Go.RowKit
set_option maxRecDepth 100000
structure BK (key : Int) (w : World) (g : Nat) (W : World) : Prop where
  stp : Stp W
  cell : W.cell? ⟨g, 0, none⟩ = some (.int .u64 key)
  below : Below w.heap.size w W
  lt : g < W.heap.size
theorem BK.next {key : Int} {w W W' : World} {g : Nat} (h : BK key w g W) (hb : Below W.heap.size W W') : BK key w g W' :=
  ⟨h.stp.of hb, (hb.cell (p := ⟨g, 0, none⟩) h.lt).trans h.cell, h.below.trans (hb.mono h.below.size), Nat.lt_of_lt_of_le h.lt hb.size⟩
theorem BK.new (key : Int) (w W : World) (hs : Stp w) (hb : Below w.heap.size w W) : BK key w W.heap.size (W.alloc (.cells #[.int .u64 key] 33)) := by
  have hb2 : Below W.heap.size W (W.alloc (.cells #[.int .u64 key] 33)) := Below.alloc (Below.refl _ _) (Nat.le_refl _) _
  exact ⟨(hs.of hb).of hb2, by rw [cell_new]; rfl, hb.trans (hb2.mono hb.size), by simp⟩
theorem below_both (k i n : Int) (hn : n ≤ 9223372036854775807) : ∃ a p e : Int,
    (∀ w, Stp w → Calls Tryd.prog 26 #[.agg #[.int .u64 k], .int .i64 i, .int .i64 n] w fun en w' => en = .returned (.tuple #[.int .i64 a, .int .i64 p, .int .i64 e]) ∧ Below w.heap.size w w') ∧
    (∀ w, Calls Tryd.prog 37 #[.int .u64 k, .int .i64 i, .int .i64 n] w fun en w' => en = .returned (.tuple #[.int .i64 a, .int .i64 p, .int .i64 e]) ∧ w = w') := by
  by_cases h : (0 ≤ i ∧ i ≤ 1099511627776) ∧ 1 ≤ n
  · exact ⟨_, _, _, fun w hw => below_ok k i n w hw h.1.1 h.1.2 h.2 hn, fun w => rbelow_ok k i n w h.1.1 h.1.2 h.2 hn⟩
  · exact ⟨_, _, _, fun w hw => below_no k i n w (by omega), fun w => rbelow_no k i n w (by omega)⟩
theorem permGo_length (k : Int) : ∀ (p : Nat) (l : List Int) (i : Int) (m : List Int) (nx : Int), permGo k p l i = some (m, nx) → m.length = l.length
  | 0, l, i, m, nx, h => by
    simp only [permGo, Option.some.injEq, Prod.mk.injEq] at h
    rw [h.1]
  | p + 1, l, i, m, nx, h => by
    rw [permGo] at h
    split at h
    · cases h
    · rw [permGo_length k p _ _ m nx h, swapL_length]
theorem permR_length {k i : Int} {n : Nat} {l : List Int} {nx : Int} (h : permR k i n = some (l, nx)) : l.length = n := by
  rw [permGo_length k _ _ _ _ _ h]
  simp [idL]
theorem chooseR_length {k i : Int} {n j : Nat} {l : List Int} {nx : Int} (h : chooseR k i n j = some (l, nx)) : l.length ≤ n := by
  unfold chooseR at h
  split at h
  · cases h
  · simp only [Option.some.injEq, Prod.mk.injEq] at h
    rw [← h.1]
    exact trueTo_length _ _
/-- A call that returns a list, an index and an error. -/
def LRes (l : List Int) (p e : Int) (w w' : World) (en : Ending) : Prop := Below w.heap.size w w' ∧ ∃ v, en = .returned (.tuple #[v, .int .i64 p, .int .i64 e]) ∧ Rd w' v l
theorem lres_of (o : Option (List Int × Int)) : ∃ (l : List Int) (p e : Int), (∀ w w' en, Res w w' en o → LRes l p e w w' en) ∧ (o = none ∧ l = [] ∨ ∃ nx, o = some (l, nx)) := by
  cases o with
  | none => exact ⟨[], 0, 4, fun w w' en ⟨h1, h2⟩ => ⟨h1, _, h2, .inl ⟨rfl, rfl⟩⟩, .inl ⟨rfl, rfl⟩⟩
  | some q => exact ⟨q.1, q.2, 0, fun w w' en ⟨h1, h2⟩ => ⟨h1, h2⟩, .inr ⟨q.2, rfl⟩⟩
theorem perm_both (k i n : Int) : ∃ (l : List Int) (p e : Int), l.length ≤ 1000 ∧
    (∀ w, Stp w → Calls Tryd.prog 27 #[.agg #[.int .u64 k], .int .i64 i, .int .i64 n] w fun en w' => LRes l p e w w' en) ∧
    (∀ w, Calls Tryd.prog 38 #[.int .u64 k, .int .i64 i, .int .i64 n] w fun en w' => LRes l p e w w' en) := by
  by_cases h : (0 ≤ i ∧ i ≤ 1099511627776) ∧ 0 ≤ n ∧ n ≤ 1000
  · obtain ⟨l, p, e, h1, h2⟩ := lres_of (permR k i n.toNat)
    refine ⟨l, p, e, ?_, fun w hw => (perm_int k i n w hw h.1.1 h.1.2 h.2.1 h.2.2).mono fun _ _ hr => h1 _ _ _ hr, fun w => (rperm_ok k i n w h.1.1 h.1.2 h.2.1 h.2.2).mono fun _ _ hr => h1 _ _ _ hr⟩
    rcases h2 with ⟨_, rfl⟩ | ⟨nx, h2⟩
    · simp
    · rw [permR_length h2]; omega
  · refine ⟨[], 0, 2, by simp, fun w hw => (perm_no k i n w (by omega)).mono fun _ _ ⟨he, hb⟩ => ⟨hb, _, he, .inl ⟨rfl, rfl⟩⟩, fun w => (rperm_no k i n w (by omega)).mono fun _ _ ⟨he, hb⟩ => ⟨by rw [← hb]; exact Below.refl _ _, _, he, .inl ⟨rfl, rfl⟩⟩⟩
theorem choose_both (key i n k : Int) : ∃ (l : List Int) (p e : Int), l.length ≤ 1000 ∧
    (∀ w, Stp w → Calls Tryd.prog 30 #[.agg #[.int .u64 key], .int .i64 i, .int .i64 n, .int .i64 k] w fun en w' => LRes l p e w w' en) ∧
    (∀ w, Calls Tryd.prog 39 #[.int .u64 key, .int .i64 i, .int .i64 n, .int .i64 k] w fun en w' => LRes l p e w w' en) := by
  by_cases h : (0 ≤ i ∧ i ≤ 1099511627776) ∧ n ≤ 1000 ∧ 0 ≤ k ∧ k ≤ n
  · obtain ⟨l, p, e, h1, h2⟩ := lres_of (chooseR key i n.toNat k.toNat)
    refine ⟨l, p, e, ?_, fun w hw => (choose_int key i n k w hw h.1.1 h.1.2 h.2.1 h.2.2.1 h.2.2.2).mono fun _ _ hr => h1 _ _ _ hr, fun w => (rchoose_ok key i n k w h.1.1 h.1.2 h.2.1 h.2.2.1 h.2.2.2).mono fun _ _ hr => h1 _ _ _ hr⟩
    rcases h2 with ⟨_, rfl⟩ | ⟨nx, h2⟩
    · simp
    · have := chooseR_length h2; omega
  · refine ⟨[], 0, 2, by simp, fun w hw => (choose_no key i n k w (by omega)).mono fun _ _ ⟨he, hb⟩ => ⟨hb, _, he, .inl ⟨rfl, rfl⟩⟩, fun w => (rchoose_no key i n k w (by omega)).mono fun _ _ ⟨he, hb⟩ => ⟨by rw [← hb]; exact Below.refl _ _, _, he, .inl ⟨rfl, rfl⟩⟩⟩
theorem same_self (v u : Value) (l : List Int) (w : World) (hv : Rd w v l) (hu : Rd w u l) (hm : l.length ≤ 9223372036854775807) :
    Calls Tryd.prog 28 #[v, u] w fun e w' => e = .returned (.bool true) ∧ Below w.heap.size w w' :=
  (same_any v u l l w hv hu hm hm).mono fun _ _ ⟨he, hb⟩ => ⟨by rw [he, decide_eq_true rfl], hb⟩
set_option maxHeartbeats 4000000 in
theorem draws_any (key i n k : Int) (w : World) (h : Stp w) (hn : n ≤ 9223372036854775807) :
    Calls Tryd.prog 14 #[.int .u64 key, .int .i64 i, .int .i64 n, .int .i64 k] w fun e w' => e = .returned (.bool true) ∧ Below w.heap.size w w' := by
  obtain ⟨a, p, e, c1, c2⟩ := below_both key i n hn
  have C1 := Lib.hid c1
  have C2 := Lib.hid c2
  clear c1 c2
  have hA := BK.new key w w h (Below.refl _ _)
  by_cases hs : 200 < n ∧ n ≤ 1000
  · have s1 := hs.1
    have s2 := hs.2
    clear hs
    go_enter Tryd.func14, Tryd.ntmps14
    go_wp2_with fail
    with_reducible refine (C1.out _ hA.stp).mono ?_
    rintro en W1 ⟨rfl, hb1⟩
    have hA1 := hA.next hb1
    clear hA hb1
    go_wp2_with fail
    with_reducible refine (C2.out _).mono ?_
    rintro en W2 ⟨rfl, rfl⟩
    go_wp2_with fail
    go_ret
    exact ⟨rfl, hA1.below⟩
  · obtain ⟨l, p2, e2, hl, c3, c4⟩ := perm_both key i n
    obtain ⟨m, p3, e3, hm, c5, c6⟩ := choose_both key i n k
    have C3 := Lib.hid c3
    have C4 := Lib.hid c4
    have C5 := Lib.hid c5
    have C6 := Lib.hid c6
    clear c3 c4 c5 c6
    have hs' : n ≤ 200 ∨ 1000 < n := by omega
    clear hs
    rcases hs' with hs | hs
    all_goals
      go_enter Tryd.func14, Tryd.ntmps14
      go_wp2_with fail
      with_reducible refine (C1.out _ hA.stp).mono ?_
      rintro en W1 ⟨rfl, hb1⟩
      have hA1 := hA.next hb1
      clear hA hb1
      have k1 := hA1.cell
      go_wp2_with fail
      with_reducible refine (C2.out _).mono ?_
      rintro en W2 ⟨rfl, rfl⟩
      go_wp2_with fail
      with_reducible refine (C3.out _ hA1.stp).mono ?_
      rintro en W2 ⟨hb2, v1, rfl, r1⟩
      have hA2 := hA1.next hb2
      clear hA1 hb2 k1
      have k2 := hA2.cell
      go_wp2_with fail
      with_reducible refine (C4.out _).mono ?_
      rintro en W3 ⟨hb3, v2, rfl, r2⟩
      have hA3 := hA2.next hb3
      have r1' := r1.below hb3 (Nat.le_refl _)
      clear hA2 hb3 k2 r1
      go_wp2_with fail
      refine (same_self v1 v2 l _ r1' r2 (by omega)).mono ?_
      rintro en W4 ⟨rfl, hb4⟩
      have hA4 := hA3.next hb4
      clear hA3 hb4 r1' r2
      have k4 := hA4.cell
      go_wp2_with fail
      with_reducible refine (C5.out _ hA4.stp).mono ?_
      rintro en W5 ⟨hb5, v3, rfl, r3⟩
      have hA5 := hA4.next hb5
      clear hA4 hb5 k4
      have k5 := hA5.cell
      go_wp2_with fail
      with_reducible refine (C6.out _).mono ?_
      rintro en W6 ⟨hb6, v4, rfl, r4⟩
      have hA6 := hA5.next hb6
      have r3' := r3.below hb6 (Nat.le_refl _)
      clear hA5 hb6 k5 r3
      go_wp2_with fail
      refine (same_self v3 v4 m _ r3' r4 (by omega)).mono ?_
      rintro en W7 ⟨rfl, hb7⟩
      have hB := (hA6.next hb7).below
      clear hA6 hb7 r3' r4
      go_wp2_with fail
      go_ret
      exact ⟨rfl, hB⟩
set_option maxHeartbeats 1000000 in
theorem seedDraws_walk (key i n k : Int) (w : World) (h : Stp w) (_w0 : (Lit.int .u64 key).wf = true) (_w1 : (Lit.int .i64 i).wf = true) (w2 : (Lit.int .i64 n).wf = true) (_w3 : (Lit.int .i64 k).wf = true) :
    Calls Tryd.prog 4 #[.int .u64 key, .int .i64 i, .int .i64 n, .int .i64 k] w fun e w' => e = .returned (.bool true) ∧ Below w.heap.size w w' := by
  have hn := (bounds_i64 w2).2
  clear w2
  go_enter Tryd.func4, Tryd.ntmps4
  go_wp2_with fail
  refine (draws_any key i n k w h hn).mono ?_
  rintro en W1 ⟨rfl, hb1⟩
  go_wp2_with fail
  refine (awake_any W1 (h.of hb1)).mono ?_
  rintro en W2 ⟨rfl, hb2⟩
  go_wp2_with fail
  go_ret
  exact ⟨rfl, hb1.trans (hb2.mono hb1.size)⟩
end Go.Proofs.YthalafjbkmemhaaDoor
