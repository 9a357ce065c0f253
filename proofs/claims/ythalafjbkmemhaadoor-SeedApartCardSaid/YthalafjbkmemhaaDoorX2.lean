/- What New, At, Word, Rest and Below return, for every input. -/
import Derived.Test.YthalafjbkmemhaaDoorX1
import Derived.Test.YthalafjbkmemhaaDoorM1
namespace Go.Proofs.YthalafjbkmemhaaDoor
open Go Go.RowKit
set_option maxRecDepth 100000
theorem bcell {W w1 : World} (hb : Below W.heap.size W w1) : (∀ b o, b < W.heap.size → w1.cell? ⟨b, o, none⟩ = W.cell? ⟨b, o, none⟩) ∧ (∀ b o, b < W.heap.size → w1.frozen? ⟨b, o, none⟩ = W.frozen? ⟨b, o, none⟩) :=
  ⟨fun b o h => hb.cell (p := ⟨b, o, none⟩) h, fun b o h => hb.frozen (p := ⟨b, o, none⟩) h⟩
set_option maxHeartbeats 1000000 in
theorem new_any (x : Int) (w : World) (h : Stp w) :
    Calls Tryd.prog 21 #[.int .u64 x] w fun e w' => e = .returned (.agg #[.int .u64 (mixI x)]) ∧ Below w.heap.size w w' := by
  go_enter Tryd.func21, Tryd.ntmps21
  go_wp2_with fail
  refine (mix_any _ _ (h.of ?_)).mono ?_
  · exact Below.alloc (Below.refl _ _) (Nat.le_refl _) _
  rintro e w' ⟨rfl, hb⟩
  obtain ⟨hc, hf⟩ := bcell hb
  have hz := hb.size
  simp at hz
  go_wp2_with fail
  exact bodyPost_ret (v := .agg #[.int .u64 (mixI x)]) (by simp [results, Tryd.results21, go_sem, hc]) rfl ⟨rfl, (((Below.refl _ _).alloc (Nat.le_refl _) _).trans (hb.mono (by simp))).setCell (by simp) _⟩
def atI (k n : Int) : Int := mixI (bits .xor .u64 (mixI (IntKind.u64.wrap (k + 1))) (IntKind.u64.wrap n))
set_option maxHeartbeats 1000000 in
theorem at_any (k n : Int) (w : World) (h : Stp w) :
    Calls Tryd.prog 22 #[.agg #[.int .u64 k], .int .i64 n] w fun e w' => e = .returned (.agg #[.int .u64 (atI k n)]) ∧ Below w.heap.size w w' := by
  go_enter Tryd.func22, Tryd.ntmps22
  go_wp2_with fail
  refine (mix_any _ _ (h.of ?_)).mono ?_
  · exact Below.alloc (Below.alloc (Below.refl _ _) (Nat.le_refl _) _) (by simp) _
  rintro e w' ⟨rfl, hb⟩
  obtain ⟨hc, hf⟩ := bcell hb
  have hz := hb.size
  simp at hz
  go_wp2_with fail
  have hb2 : Below w.heap.size w w' := ((((Below.refl _ _).alloc (Nat.le_refl _) _).alloc (by simp) _).trans (hb.mono (by simp; omega)))
  refine (mix_any _ _ (h.of hb2)).mono ?_
  rintro e w2 ⟨rfl, hb3⟩
  obtain ⟨hc3, hf3⟩ := bcell hb3
  have hz3 := hb3.size
  have hl : w.heap.size < w'.heap.size := by omega
  have hl2 : w.heap.size + 1 < w'.heap.size := by omega
  go_wp2_with fail
  exact bodyPost_ret (v := .agg #[.int .u64 (atI k n)]) (by simp [results, Tryd.results22, go_sem, hc, hc3, hl2, atI]) rfl ⟨rfl, ((hb2.trans (hb3.mono (by omega)))).setCell (by simp) _⟩
def wordI (k i : Int) : Int := mixI (IntKind.u64.wrap (k + IntKind.u64.wrap ((i + 1) * 11400714819323198485)))
set_option maxHeartbeats 1000000 in
theorem word_ok (k i : Int) (w : World) (h : Stp w) (h1 : 0 ≤ i) (h2 : i < 1099511627776) :
    Calls Tryd.prog 24 #[.agg #[.int .u64 k], .int .i64 i] w fun e w' => e = .returned (.tuple #[.int .u64 (wordI k i), .int .i64 0]) ∧ Below w.heap.size w w' := by
  go_enter Tryd.func24, Tryd.ntmps24
  go_wp2_with fail
  refine (mix_any _ _ (h.of ?_)).mono ?_
  · exact Below.alloc (Below.refl _ _) (Nat.le_refl _) _
  rintro e w' ⟨rfl, hb⟩
  go_wp2_with fail
  go_ret2
  exact ⟨rfl, ((Below.refl _ _).alloc (Nat.le_refl _) _).trans (hb.mono (by simp))⟩
set_option maxHeartbeats 1000000 in
theorem word_no (k i : Int) (w : World) (h : i < 0 ∨ 1099511627776 ≤ i) :
    Calls Tryd.prog 24 #[.agg #[.int .u64 k], .int .i64 i] w fun e w' => e = .returned (.tuple #[.int .u64 0, .int .i64 2]) ∧ Below w.heap.size w w' := by
  rcases h with h | h
  · go_enter Tryd.func24, Tryd.ntmps24
    go_wp2_with fail
    go_ret2
    exact ⟨rfl, Below.alloc (Below.refl _ _) (Nat.le_refl _) _⟩
  · have h' : ¬ i < 0 := by omega
    go_enter Tryd.func24, Tryd.ntmps24
    go_wp2_with fail
    go_ret2
    exact ⟨rfl, Below.alloc (Below.refl _ _) (Nat.le_refl _) _⟩
def restB (x n : Int) : Bool := decide (1 ≤ n ∧ x ≤ lim n)
def restV (x n : Int) : Int := if 1 ≤ n ∧ x ≤ lim n then x % n else 0
set_option maxHeartbeats 1000000 in
theorem rest_any (x n : Int) (w : World) (h0 : 0 ≤ x) (h2 : n ≤ 9223372036854775807) :
    Calls Tryd.prog 18 #[.int .u64 x, .int .i64 n] w fun e w' => e = .returned (.tuple #[.int .i64 (restV x n), .bool (restB x n)]) ∧ w = w' := by
  by_cases h1 : 1 ≤ n
  · have hl := not_lim n h1 h2
    by_cases hx : x ≤ lim n
    · have e1 : restV x n = x % n := by simp [restV, h1, hx]
      have e2 : restB x n = true := by simp [restB, h1, hx]
      rw [e1, e2]
      clear e1 e2
      go_enter Tryd.func18, Tryd.ntmps18
      have b1 : 0 ≤ x % n := Int.emod_nonneg _ (by omega)
      have b2 : x % n ≤ 9223372036854775807 := by have := Int.emod_lt_of_pos x (show 0 < n by omega); omega
      go_wp2
      go_ret2
      exact ⟨rfl, rfl⟩
    · have e1 : restV x n = 0 := by simp [restV, hx]
      have e2 : restB x n = false := by simp [restB, hx]
      rw [e1, e2]
      clear e1 e2
      go_enter Tryd.func18, Tryd.ntmps18
      go_wp2
      go_ret2
      exact ⟨rfl, rfl⟩
  · have e1 : restV x n = 0 := by simp [restV, h1]
    have e2 : restB x n = false := by simp [restB, h1]
    rw [e1, e2]
    clear e1 e2
    go_enter Tryd.func18, Tryd.ntmps18
    go_wp2
    go_ret2
    exact ⟨rfl, rfl⟩
theorem index_yes (i : Int) (w : World) (h1 : 0 ≤ i) (h2 : i ≤ 1099511627776) :
    Calls Tryd.prog 45 #[.int .i64 i] w fun e w' => e = .returned (.bool true) ∧ w = w' := by
  go_enter Tryd.func45, Tryd.ntmps45
  go_wp2
  go_ret
  simp
theorem index_no (i : Int) (w : World) (h : ¬ (0 ≤ i ∧ i ≤ 1099511627776)) :
    Calls Tryd.prog 45 #[.int .i64 i] w fun e w' => e = .returned (.bool false) ∧ w = w' := by
  by_cases h1 : 0 ≤ i
  · have h3 : ¬ i ≤ 1099511627776 := by omega
    clear h
    go_enter Tryd.func45, Tryd.ntmps45
    go_wp2
    go_ret
    simp
  · clear h
    go_enter Tryd.func45, Tryd.ntmps45
    go_wp2
    go_ret
    simp
theorem wrap_nn (x : Int) : 0 ≤ IntKind.u64.wrap x := by rw [IntKind.wrap_u64]; exact Int.emod_nonneg _ (by decide)
theorem mixI_nn (x : Int) : 0 ≤ mixI x := wrap_nn _
theorem wordI_nn (k i : Int) : 0 ≤ wordI k i := mixI_nn _
def scan (k n : Int) : Nat → Int → Option (Int × Int)
  | 0, _ => none
  | f + 1, i => if restB (wordI k i) n = true then some (restV (wordI k i) n, i + 1) else scan k n f (i + 1)
def belowR (k i n : Int) : Option (Int × Int) := scan k n (1099511627776 - i).toNat i
def bV (o : Option (Int × Int)) : Int := match o with | some p => p.1 | none => 0
def bN (o : Option (Int × Int)) : Int := match o with | some p => p.2 | none => 0
def bE (o : Option (Int × Int)) : Int := match o with | some _ => 0 | none => 4
theorem belowR_step (k i n : Int) (h : i < 1099511627776) : belowR k i n = if restB (wordI k i) n = true then some (restV (wordI k i) n, i + 1) else belowR k (i + 1) n := by
  unfold belowR
  rw [show (1099511627776 - i).toNat = (1099511627776 - (i + 1)).toNat + 1 from by omega]
  rfl
theorem belowR_end (k n : Int) : belowR k 1099511627776 n = none := rfl
set_option maxHeartbeats 1000000 in
theorem below_ok (k i n : Int) (w : World) (h : Stp w) (h1 : 0 ≤ i) (h2 : i ≤ 1099511627776) (h3 : 1 ≤ n) (h4 : n ≤ 9223372036854775807) :
    Calls Tryd.prog 26 #[.agg #[.int .u64 k], .int .i64 i, .int .i64 n] w fun e w' => e = .returned (.tuple #[.int .i64 (bV (belowR k i n)), .int .i64 (bN (belowR k i n)), .int .i64 (bE (belowR k i n))]) ∧ Below w.heap.size w w' := by
  go_enter Tryd.func26, Tryd.ntmps26
  go_wp2_with fail
  refine (index_yes _ _ h1 h2).mono ?_
  rintro e w' ⟨rfl, rfl⟩
  go_wp2_with fail
  go_loopw [1] (fun a wr => ∃ j : Int, i ≤ j ∧ j ≤ 1099511627776 ∧ a = .int .i64 j ∧ Hid (belowR k i n = belowR k j n) ∧ Below (w.heap.size + 1) (w.alloc (.cells #[.int .u64 k] 33)) wr) (fun a _ => (1099511627776 - intOf a).toNat)
  case atStart => exact ⟨i, by omega, h2, rfl, Lib.hid rfl, Below.refl _ _⟩
  case round =>
    obtain ⟨j, hj1, hj2, rfl, hj3, hb⟩ := hrel
    have hz := hb.size
    simp at hz
    have hc := hb.cell (p := ⟨w.heap.size, 0, none⟩) (by simp)
    have hst : Stp wr := (h.of ((Below.refl _ _).alloc (Nat.le_refl _) _)).below (by omega) hb
    by_cases hlt : j < 1099511627776
    · go_wp2_with fail
      refine (word_ok _ _ _ hst (by omega) hlt).mono ?_
      rintro e w1 ⟨rfl, hb1⟩
      have hc1 := hb1.cell (p := ⟨w.heap.size, 0, none⟩) (by simp; omega)
      go_wp2_with fail
      refine (rest_any _ _ _ (wordI_nn _ _) h4).mono ?_
      rintro e w2 ⟨rfl, rfl⟩
      have hbb : Below (w.heap.size + 1) (w.alloc (.cells #[.int .u64 k] 33)) w1 := hb.trans (hb1.mono (by omega))
      have hstep := Lib.hid (belowR_step k j n hlt)
      cases hr : restB (wordI k j) n
      · go_wp2_with fail
        go_roundw
        case rel => exact ⟨j + 1, by omega, by omega, rfl, Lib.hid (by rw [hj3.out, hstep.out, hr]; rfl), hbb⟩
        case measure => simp [intOf]; omega
      · go_wp2_with fail
        go_ret3
        refine ⟨?_, (((Below.refl _ _).alloc (Nat.le_refl _) _).trans (hbb.mono (by omega)))⟩
        rw [hj3.out, hstep.out, hr]
        rfl
    · obtain rfl : j = 1099511627776 := by omega
      go_wp2_with fail
      go_ret3
      refine ⟨?_, (((Below.refl _ _).alloc (Nat.le_refl _) _).trans (hb.mono (by omega)))⟩
      rw [hj3.out, belowR_end]
      rfl
set_option maxHeartbeats 1000000 in
theorem below_no (k i n : Int) (w : World) (h : ¬ (0 ≤ i ∧ i ≤ 1099511627776) ∨ n < 1) :
    Calls Tryd.prog 26 #[.agg #[.int .u64 k], .int .i64 i, .int .i64 n] w fun e w' => e = .returned (.tuple #[.int .i64 0, .int .i64 0, .int .i64 2]) ∧ Below w.heap.size w w' := by
  by_cases hi : 0 ≤ i ∧ i ≤ 1099511627776
  · have hn : n < 1 := by rcases h with h | h; exact absurd hi h; exact h
    clear h
    go_enter Tryd.func26, Tryd.ntmps26
    go_wp2_with fail
    refine (index_yes _ _ hi.1 hi.2).mono ?_
    rintro e w' ⟨rfl, rfl⟩
    go_wp2_with fail
    go_ret3
    exact ⟨rfl, (Below.refl _ _).alloc (Nat.le_refl _) _⟩
  · clear h
    go_enter Tryd.func26, Tryd.ntmps26
    go_wp2_with fail
    refine (index_no _ _ hi).mono ?_
    rintro e w' ⟨rfl, rfl⟩
    go_wp2_with fail
    go_ret3
    exact ⟨rfl, (Below.refl _ _).alloc (Nat.le_refl _) _⟩
end Go.Proofs.YthalafjbkmemhaaDoor
