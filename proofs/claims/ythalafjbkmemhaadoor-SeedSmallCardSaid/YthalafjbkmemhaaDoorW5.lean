/- SeedWeighs' walk: Weigh returns what the document's own answer returns, and leaves its list unchanged. -/
import Derived.Test.YthalafjbkmemhaaDoorK2
import Derived.Test.YthalafjbkmemhaaDoorL0
namespace Go.Proofs.YthalafjbkmemhaaDoor
open Go Go.RowKit
set_option maxRecDepth 100000
theorem weigh_both (k i : Int) (l : List Int) (hl : l.length ≤ 9223372036854775807) : ∃ a p e : Int,
    (∀ w v, Stp w → Rd w v l → Calls Tryd.prog 29 #[.agg #[.int .u64 k], .int .i64 i, v] w fun en w' => en = .returned (.tuple #[.int .i64 a, .int .i64 p, .int .i64 e]) ∧ Below w.heap.size w w') ∧
    (∀ w v, RdW w v l → Calls Tryd.prog 41 #[.int .u64 k, .int .i64 i, v] w fun en w' => en = .returned (.tuple #[.int .i64 a, .int .i64 p, .int .i64 e]) ∧ w = w') := by
  by_cases h : (0 ≤ i ∧ i ≤ 1099511627776) ∧ sumB l = true
  · exact ⟨_, _, _, fun w v hw hv => weigh_ok k i v l w hw hv h.1.1 h.1.2 h.2, fun w v hv => rweigh_ok k i v l w (hv.rd (by have := (sumB_facts h.2).2.2.1; rcases l with _ | ⟨x, l⟩ <;> simp at this ⊢)) h.1.1 h.1.2 h.2⟩
  · have h' : ¬ (0 ≤ i ∧ i ≤ 1099511627776) ∨ sumB l = false := by
      by_cases hi : 0 ≤ i ∧ i ≤ 1099511627776
      · right
        cases hs : sumB l
        · rfl
        · exact absurd ⟨hi, hs⟩ h
      · exact .inl hi
    exact ⟨_, _, _, fun w v _ hv => weigh_no k i v l w hv hl h', fun w v hv => rweigh_no k i v l w hv hl h'⟩
set_option maxHeartbeats 4000000 in
theorem weighs_any (key i : Int) (v : Value) (l : List Int) (w : World) (h : Stp w) (hv : RdW w v l) (hm : l.length * 8 ≤ 140737488351232) :
    Calls Tryd.prog 15 #[.int .u64 key, .int .i64 i, v] w fun e w' => e = .returned (.bool true) ∧ Below w.heap.size w w' := by
  obtain ⟨a, p, e, c1, c2⟩ := weigh_both key i l (by omega)
  have C1 := Lib.hid c1
  have C2 := Lib.hid c2
  clear c1 c2
  have CL := Lib.hid (lent_any v l w hv hm)
  go_enter Tryd.func15, Tryd.ntmps15
  go_wp2_with fail
  refine CL.out.mono ?_
  rintro en w1 ⟨u, rfl, hu, hb1⟩
  have hv1 := hv.below hb1 (Nat.le_refl _)
  have hs1 := h.of hb1
  clear hv CL
  go_wp2_with fail
  refine (C1.out _ u hs1 hu.rd).mono ?_
  rintro en w2 ⟨rfl, hb2⟩
  have hu2 := hu.below hb2
  have hv2 := hv1.below hb2 (Nat.le_refl _)
  have hB2 : Below w.heap.size w w2 := hb1.trans (hb2.mono hb1.size)
  clear hv1 hu hb2 hb1 hs1
  go_wp2_with fail
  refine (C2.out _ v hv2).mono ?_
  rintro en w3 ⟨rfl, rfl⟩
  go_wp2_with fail
  refine (kept_any u v l _ hu2 hv2 (by omega)).mono ?_
  rintro en w3 ⟨rfl, hb3⟩
  go_wp2_with fail
  go_ret
  exact ⟨rfl, hB2.trans (hb3.mono hB2.size)⟩
theorem lt_of_cell' {w : World} {b o : Nat} {v : Value} (h : w.cell? ⟨b, o, none⟩ = some v) : b < w.heap.size := by
  by_cases hb : b < w.heap.size
  · exact hb
  · rw [World.cell?, Array.getElem?_eq_none (by simpa using hb)] at h
    simp at h
theorem rd_of_row {w : World} {a : Option Addr} {len cap : Nat} {z : List Int} (h : IsRow .i64 w a len cap z) : ∃ l, RdW w (.slice a len cap) l ∧ l.length = len := by
  rcases h with ⟨rfl, rfl, rfl, rfl⟩ | ⟨x, rfl, hl, hm, hz, hc, hw⟩
  · exact ⟨[], .inl (.inl ⟨rfl, rfl⟩), rfl⟩
  · by_cases h0 : cap = 0
    · subst h0
      obtain rfl : len = 0 := by omega
      exact ⟨[], .inr ⟨x, rfl, rfl⟩, rfl⟩
    · obtain ⟨b, off, spot⟩ := x
      have hspot : spot = none := by simpa [Addr.add] using World.cell?_spot (hc 0 (by omega))
      subst hspot
      refine ⟨z.take len, .inl (.inr ⟨b, off, cap, by rw [List.length_take, hz, Nat.min_eq_left hl], ?_, fun i hi => ?_⟩), by rw [List.length_take, hz, Nat.min_eq_left hl]⟩
      · have := hc 0 (by omega)
        exact lt_of_cell' (by simpa [Addr.add] using this)
      · have hi2 : i < len := by rw [List.length_take] at hi; omega
        have := hc i (by omega)
        have e : (z.take len).getD i 0 = z.getD i 0 := by
          rw [List.getD_eq_getElem?_getD, List.getD_eq_getElem?_getD, List.getElem?_take_of_lt hi2]
        rw [e, ← this]
        by_cases i0 : i = 0
        · subst i0; simp [Addr.add]
        · simp [Addr.add, i0]
set_option maxHeartbeats 2000000 in
theorem weighs5_go (key i : Int) (a : Option Addr) (cap : Nat) (l : List Int) (w : World) (h : Stp w) (hv : RdW w (.slice a l.length cap) l) (hm : l.length * 8 ≤ 140737488351232) :
    Calls Tryd.prog 5 #[.int .u64 key, .int .i64 i, .slice a l.length cap] w fun e w' => e = .returned (.bool true) ∧ Below w.heap.size w w' := by
  have hl : (l.length : Int) ≤ 17592186043904 := by omega
  have CW := Lib.hid (weighs_any key i _ l w h hv hm)
  clear hv
  by_cases h1 : (100 : Int) < (l.length : Int)
  · by_cases h2 : (l.length : Int) ≤ 1000
    · go_enter Tryd.func5, Tryd.ntmps5
      go_wp2_with fail
      refine (awake_any w h).mono ?_
      rintro en w2 ⟨rfl, hb2⟩
      go_wp2_with fail
      go_ret
      exact ⟨rfl, hb2⟩
    · go_enter Tryd.func5, Tryd.ntmps5
      go_wp2_with fail
      refine CW.out.mono ?_
      rintro en w1 ⟨rfl, hb1⟩
      go_wp2_with fail
      refine (awake_any w1 (h.of hb1)).mono ?_
      rintro en w2 ⟨rfl, hb2⟩
      go_wp2_with fail
      go_ret
      exact ⟨rfl, hb1.trans (hb2.mono hb1.size)⟩
  · go_enter Tryd.func5, Tryd.ntmps5
    go_wp2_with fail
    refine CW.out.mono ?_
    rintro en w1 ⟨rfl, hb1⟩
    go_wp2_with fail
    refine (awake_any w1 (h.of hb1)).mono ?_
    rintro en w2 ⟨rfl, hb2⟩
    go_wp2_with fail
    go_ret
    exact ⟨rfl, hb1.trans (hb2.mono hb1.size)⟩
theorem seedWeighs_walk (key i : Int) (a : Option Addr) (len cap : Nat) (z : List Int) (w : World) (h : Stp w) (_w0 : (Lit.int .u64 key).wf = true) (_w1 : (Lit.int .i64 i).wf = true) (w2 : IsRow .i64 w a len cap z ∧ cap * 8 ≤ 140737488351232) :
    Calls Tryd.prog 5 #[.int .u64 key, .int .i64 i, .slice a len cap] w fun e w' => e = .returned (.bool true) ∧ Below w.heap.size w w' := by
  obtain ⟨l, hv, hl⟩ := rd_of_row w2.1
  have hlc : len ≤ cap := by
    rcases w2.1 with ⟨_, rfl, rfl, _⟩ | ⟨_, _, h, _⟩
    · exact Nat.le_refl _
    · exact h
  subst hl
  exact weighs5_go key i a cap l w h hv (by have := w2.2; omega)
end Go.Proofs.YthalafjbkmemhaaDoor
