/- Runs and marks: the kinds of what is spelled, and the closures that spell. -/
import Derived.Test.YthkfkdcmnkkdhaaDoorF1
namespace Go.Proofs.YthkfkdcmnkkdhaaDoor
open Go Go.RowKit
set_option maxRecDepth 100000
set_option linter.unusedVariables false
def nameB (s : ByteArray) : Bool := isVar s || isFun s || isPred s
def rkB (s : ByteArray) : Int := if isWordB s.toList then 3 else if nameB s then 1 else 0
def mkB (s : ByteArray) : Int := if isMeta s then 2 else 0
theorem runKind_any (s : ByteArray) (w : World) : Calls Tryd.prog 40 #[.string s] w fun e w' => e = .returned (.int .u8 (rkB s)) ∧ Below w.heap.size w w' := by
  have hw := Lib.hid (lexWord_any s)
  have hv := Lib.hid (variable_any s)
  have hf := Lib.hid (function_any s)
  have hp := Lib.hid (predicate_any s)
  obtain ⟨r, hr⟩ : ∃ r, rkB s = r := ⟨_, rfl⟩
  have hrh := Lib.hid hr
  unfold rkB nameB at hr
  rw [hrh.out]
  generalize isWordB s.toList = b1 at hw hr
  generalize isVar s = b2 at hv hr
  generalize isFun s = b3 at hf hr
  generalize isPred s = b4 at hp hr
  clear hrh
  cases b1 <;> cases b2 <;> cases b3 <;> cases b4
  all_goals
    simp only [if_true, if_false, Bool.or_true, Bool.or_false, Bool.false_eq_true] at hr
    subst hr
    go_enter Tryd.func40, Tryd.ntmps40
    go_wp2_with (first
      | (go_at_call 19; refine (hw.out _).mono ?_; rintro e w1 ⟨rfl, rfl⟩)
      | (go_at_call 54; refine (hv.out _).mono ?_; rintro e w1 ⟨rfl, hb1⟩)
      | (go_at_call 55; refine (hf.out _).mono ?_; rintro e w2 ⟨rfl, hb2⟩)
      | (go_at_call 56; refine (hp.out _).mono ?_; rintro e w3 ⟨rfl, hb3⟩))
    go_ret
    first
      | exact ⟨rfl, Below.refl _ _⟩
      | exact ⟨rfl, bel_step (bel_step hb1 hb2) hb3⟩
      | exact ⟨rfl, bel_step hb1 hb2⟩
      | exact ⟨rfl, hb1⟩
theorem markKind_any (s : ByteArray) (w : World) : Calls Tryd.prog 41 #[.string s] w fun e w' => e = .returned (.int .u8 (mkB s)) ∧ Below w.heap.size w w' := by
  have hw := Lib.hid (meta_any s)
  obtain ⟨r, hr⟩ : ∃ r, mkB s = r := ⟨_, rfl⟩
  have hrh := Lib.hid hr
  unfold mkB at hr
  rw [hrh.out]
  generalize isMeta s = b1 at hw hr
  clear hrh
  cases b1
  all_goals
    simp only [if_true, if_false, Bool.false_eq_true] at hr
    subst hr
    go_enter Tryd.func41, Tryd.ntmps41
    go_wp2_with (go_at_call 57; refine (hw.out _).mono ?_; rintro e w1 ⟨rfl, hb1⟩)
    go_ret
    exact ⟨rfl, hb1⟩
namespace Lx
theorem run_at : ∀ (r : List UInt8) (j : Nat) (hj : j < r.length), j ≤ run r → ld r[j] = decide (j < run r)
  | c :: r, 0, _, _ => by
    unfold run
    rw [List.takeWhile_cons]
    cases h : ld c <;> simp [h]
  | c :: r, j + 1, hj, hle => by
    simp only [List.length_cons] at hj
    have e : run (c :: r) = if ld c then run r + 1 else 0 := by
      unfold run
      rw [List.takeWhile_cons]
      split <;> simp
    rw [e] at hle ⊢
    split at hle
    · rename_i hc
      rw [if_pos hc]
      have := run_at r j (by omega) (by omega)
      simp only [List.getElem_cons_succ]
      rw [this]
      simp
    · omega
theorem run_le (r : List UInt8) : run r ≤ r.length := by
  unfold run
  exact (List.takeWhile_sublist _).length_le
end Lx
/-- The bytes of the run that a text begins with, but for its first byte. -/
def runB (x : ByteArray) : Nat := Lx.run (x.data.toList.drop 1)
theorem runB_le (x : ByteArray) (h : 0 < x.size) : runB x + 1 ≤ x.size := by
  have h1 := Lx.run_le (x.data.toList.drop 1)
  have h2 : (x.data.toList.drop 1).length = x.size - 1 := by simp
  unfold runB
  omega
theorem runB_at (x : ByteArray) (k : Nat) (h1 : 1 ≤ k) (hk : k < x.size) (hle : k ≤ 1 + runB x) : (letC (x[k].toNat : Int) || digC (x[k].toNat : Int)) = decide (k < 1 + runB x) := by
  rw [ldC_of]
  have h2 : (x.data.toList.drop 1).length = x.size - 1 := by simp
  have h := Lx.run_at (x.data.toList.drop 1) (k - 1) (by omega) (by unfold runB at hle; omega)
  have e : (x.data.toList.drop 1)[k - 1]'(by omega) = x[k] := by
    rw [List.getElem_drop]
    have : 1 + (k - 1) = k := by omega
    simp only [this]
    rfl
  rw [e] at h
  rw [h]
  unfold runB
  rw [Bool.eq_iff_iff]
  simp only [decide_eq_true_eq]
  omega
def noTok : Value := .agg #[.int .u8 0, .string ⟨#[]⟩, .int .i64 0]
def spRes (k : Int) (t : ByteArray) : Value := if k = 0 then .tuple #[noTok, .int .i64 41] else .tuple #[.agg #[.int .u8 k, .string t, .int .i64 0], .int .i64 0]
/-- The worlds behind the closure's own result's block. -/
def SpB (w V : World) : Prop := Below (w.alloc (.cells #[.int .u8 0, .string ⟨#[]⟩, .int .i64 0] 27)).heap.size (w.alloc (.cells #[.int .u8 0, .string ⟨#[]⟩, .int .i64 0] 27)) V
set_option maxHeartbeats 2000000 in
theorem spelled_fn (kf : Nat) (kd : ByteArray → Int) (hc : ∀ s W, Calls Tryd.prog kf #[.string s] W fun e W' => e = .returned (.int .u8 (kd s)) ∧ Below W.heap.size W W')
    (ec : ∀ args w, (callFunc kf args).run Tryd.prog w = .ok (.enter kf args) w)
    (x : ByteArray) (hx : 0 < x.size) (hm : x.size ≤ 1000000) (g : Nat) (w : World) (hg : w.cell? ⟨g, 0, none⟩ = some (.func (.func kf) #[] #[])) :
    Calls Tryd.prog 52 #[.string x, .pointer (some ⟨g, 0, none⟩)] w fun e w' => e = .returned (spRes (kd (x.extract 0 (1 + runB x))) (x.extract 0 (1 + runB x))) ∧ Below w.heap.size w w' := by
  have hxi : (0 : Int) < (x.size : Int) := by omega
  have hL := Lib.hid lexLetter_any
  have hD := Lib.hid lexDigit_any
  have hC := Lib.hid hc
  have hrl := runB_le x hx
  obtain ⟨n, hn⟩ : ∃ n, 1 + runB x = n := ⟨_, rfl⟩
  have hat : ∀ k, 1 ≤ k → (hk : k < x.size) → k ≤ n → (letC (x[k].toNat : Int) || digC (x[k].toNat : Int)) = decide (k < n) := by
    intro k h1 hk hle
    rw [← hn] at hle ⊢
    exact runB_at x k h1 hk hle
  have hatH := Lib.hid hat
  rw [hn]
  have hnx : n ≤ x.size := by omega
  have hn1 : 1 ≤ n := by omega
  have hCk := Lib.hid (fun W (h : W.cell? ⟨g, 0, none⟩ = some (.func (.func kf) #[] #[]) ∧ SpB w W) => (hC.out (x.extract 0 n) W).mono (R' := fun e W' => e = .returned (.int .u8 (kd (x.extract 0 n))) ∧ W'.cell? ⟨g, 0, none⟩ = some (.func (.func kf) #[] #[]) ∧ SpB w W') fun e W' ⟨he, hb⟩ => ⟨he, cell_below hb h.1, bel_step h.2 hb⟩)
  obtain ⟨K, hK⟩ : ∃ K, kd (x.extract 0 n) = K := ⟨_, rfl⟩
  rw [hK] at hCk
  rw [hK]
  clear hn hrl hat hc hC hK
  obtain ⟨R, hR⟩ : ∃ R, spRes K (x.extract 0 n) = R := ⟨_, rfl⟩
  rw [hR]
  have hRh := Lib.hid hR
  clear hR
  by_cases hK0 : K = 0
  · subst hK0
    go_enter Tryd.func52, Tryd.ntmps52
    go_wp2_with fail
    have hg1 := cell_below (bel_laid w (.cells #[.int .u8 0, .string ⟨#[]⟩, .int .i64 0] 27)) hg
    have hbl := bel_laid w (.cells #[.int .u8 0, .string ⟨#[]⟩, .int .i64 0] 27)
    have hgh := Lib.hid hg1
    clear hg hg1
    go_loop [5] (fun i => ∃ k : Nat, 1 ≤ k ∧ k ≤ n ∧ i = .int .i64 k) (fun i => x.size - (intOf i).toNat)
    case atStart => exact ⟨1, by omega, by omega, rfl⟩
    case round =>
      obtain ⟨k, hk1, hk2, rfl⟩ := hrel
      by_cases hlt : k < n
      · have hkx : k < x.size := by omega
        have hkx' : (k : Int) < (x.size : Int) := by omega
        have hor := hatH.out k hk1 hkx hk2
        rw [decide_eq_true hlt] at hor
        clear hatH
        have hl := hL.out (x[k].toNat : Int)
        have hd := hD.out (x[k].toNat : Int)
        cases hb : letC (x[k].toNat : Int) with
        | true =>
          rw [hb] at hl
          have hlh := Lib.hid hl
          clear hl hd hor hb
          go_wp2_with (go_at_call 42; refine (hlh.out _).mono ?_; rintro e w2 ⟨rfl, rfl⟩)
          go_round
          case rel => exact ⟨k + 1, by omega, by omega, by go_num⟩
          case measure => simp [intOf]; omega
        | false =>
          rw [hb, Bool.false_or] at hor
          rw [hb] at hl
          rw [hor] at hd
          have hlh := Lib.hid hl
          have hdh := Lib.hid hd
          clear hl hd hor hb
          go_wp2_with (first
            | (go_at_call 42; refine (hlh.out _).mono ?_; rintro e w2 ⟨rfl, rfl⟩)
            | (go_at_call 53; refine (hdh.out _).mono ?_; rintro e w3 ⟨rfl, rfl⟩))
          go_round
          case rel => exact ⟨k + 1, by omega, by omega, by go_num⟩
          case measure => simp [intOf]; omega
      · obtain rfl : k = n := by omega
        by_cases hkx : k < x.size
        · have hkx' : (k : Int) < (x.size : Int) := by omega
          have hor := hatH.out k hk1 hkx hk2
          rw [decide_eq_false hlt, Bool.or_eq_false_iff] at hor
          have hl := hL.out (x[k].toNat : Int)
          have hd := hD.out (x[k].toNat : Int)
          rw [hor.1] at hl
          rw [hor.2] at hd
          have hlh := Lib.hid hl
          have hdh := Lib.hid hd
          clear hl hd hor hatH hL hD
          go_wp2_with (first
            | (go_at_call 42; refine (hlh.out _).mono ?_; rintro e w2 ⟨rfl, rfl⟩)
            | (go_at_call 53; refine (hdh.out _).mono ?_; rintro e w3 ⟨rfl, rfl⟩)
            | fail)
          go_region_held3 (fun V => V.cell? ⟨g, 0, none⟩ = some (.func (.func kf) #[] #[]) ∧ SpB w V) (first | assumption | exact ⟨hgh.out, bel_drew _⟩)
            ((refine (hCk.out _ (by assumption)).mono ?_; rintro e w' ⟨rfl, hSS⟩))
          obtain ⟨d0, f0⟩ := blk_below hSS.2 0 _ rfl
          obtain ⟨d1, f1⟩ := blk_below hSS.2 1 _ rfl
          obtain ⟨d2, f2⟩ := blk_below hSS.2 2 _ rfl
          have hB2 := Lib.hid (bel_step (bel_laid w _) hSS.2)
          clear hSS
          go_wp2
          refine bodyPost_ret (v := .tuple #[.agg #[.int .u8 0, .string ⟨#[]⟩, .int .i64 0], .int .i64 41]) (by simp [results, Tryd.results52, go_sem, d0, d1, d2]) rfl ⟨by rw [← hRh.out]; rfl, ?_⟩
          exact ((hB2.out.setCell (by simp) _).setCell (by simp) _).setCell (by simp) _
        · obtain rfl : k = x.size := by omega
          rw [show x.extract 0 x.size = x by simp] at hCk
          go_wp2_with fail
          go_region_held3 (fun V => V.cell? ⟨g, 0, none⟩ = some (.func (.func kf) #[] #[]) ∧ SpB w V) (first | assumption | exact ⟨hgh.out, bel_drew _⟩)
            ((refine (hCk.out _ (by assumption)).mono ?_; rintro e w' ⟨rfl, hSS⟩))
          obtain ⟨d0, f0⟩ := blk_below hSS.2 0 _ rfl
          obtain ⟨d1, f1⟩ := blk_below hSS.2 1 _ rfl
          obtain ⟨d2, f2⟩ := blk_below hSS.2 2 _ rfl
          have hB2 := Lib.hid (bel_step (bel_laid w _) hSS.2)
          clear hSS
          go_wp2
          refine bodyPost_ret (v := .tuple #[.agg #[.int .u8 0, .string ⟨#[]⟩, .int .i64 0], .int .i64 41]) (by simp [results, Tryd.results52, go_sem, d0, d1, d2]) rfl ⟨by rw [← hRh.out]; rfl, ?_⟩
          exact ((hB2.out.setCell (by simp) _).setCell (by simp) _).setCell (by simp) _
  · have hK1 : (K != 0) = true := by simpa using hK0
    have hK2 : (K == 0) = false := by simpa using hK0
    clear hK0
    go_enter Tryd.func52, Tryd.ntmps52
    go_wp2_with fail
    have hg1 := cell_below (bel_laid w (.cells #[.int .u8 0, .string ⟨#[]⟩, .int .i64 0] 27)) hg
    have hbl := bel_laid w (.cells #[.int .u8 0, .string ⟨#[]⟩, .int .i64 0] 27)
    have hgh := Lib.hid hg1
    clear hg hg1
    go_loop [5] (fun i => ∃ k : Nat, 1 ≤ k ∧ k ≤ n ∧ i = .int .i64 k) (fun i => x.size - (intOf i).toNat)
    case atStart => exact ⟨1, by omega, by omega, rfl⟩
    case round =>
      obtain ⟨k, hk1, hk2, rfl⟩ := hrel
      by_cases hlt : k < n
      · have hkx : k < x.size := by omega
        have hkx' : (k : Int) < (x.size : Int) := by omega
        have hor := hatH.out k hk1 hkx hk2
        rw [decide_eq_true hlt] at hor
        clear hatH
        have hl := hL.out (x[k].toNat : Int)
        have hd := hD.out (x[k].toNat : Int)
        cases hb : letC (x[k].toNat : Int) with
        | true =>
          rw [hb] at hl
          have hlh := Lib.hid hl
          clear hl hd hor hb
          go_wp2_with (go_at_call 42; refine (hlh.out _).mono ?_; rintro e w2 ⟨rfl, rfl⟩)
          go_round
          case rel => exact ⟨k + 1, by omega, by omega, by go_num⟩
          case measure => simp [intOf]; omega
        | false =>
          rw [hb, Bool.false_or] at hor
          rw [hb] at hl
          rw [hor] at hd
          have hlh := Lib.hid hl
          have hdh := Lib.hid hd
          clear hl hd hor hb
          go_wp2_with (first
            | (go_at_call 42; refine (hlh.out _).mono ?_; rintro e w2 ⟨rfl, rfl⟩)
            | (go_at_call 53; refine (hdh.out _).mono ?_; rintro e w3 ⟨rfl, rfl⟩))
          go_round
          case rel => exact ⟨k + 1, by omega, by omega, by go_num⟩
          case measure => simp [intOf]; omega
      · obtain rfl : k = n := by omega
        by_cases hkx : k < x.size
        · have hkx' : (k : Int) < (x.size : Int) := by omega
          have hor := hatH.out k hk1 hkx hk2
          rw [decide_eq_false hlt, Bool.or_eq_false_iff] at hor
          have hl := hL.out (x[k].toNat : Int)
          have hd := hD.out (x[k].toNat : Int)
          rw [hor.1] at hl
          rw [hor.2] at hd
          have hlh := Lib.hid hl
          have hdh := Lib.hid hd
          clear hl hd hor hatH hL hD
          go_wp2_with (first
            | (go_at_call 42; refine (hlh.out _).mono ?_; rintro e w2 ⟨rfl, rfl⟩)
            | (go_at_call 53; refine (hdh.out _).mono ?_; rintro e w3 ⟨rfl, rfl⟩)
            | fail)
          go_region_held3 (fun V => V.cell? ⟨g, 0, none⟩ = some (.func (.func kf) #[] #[]) ∧ SpB w V) (first | assumption | exact ⟨hgh.out, bel_drew _⟩)
            ((refine (hCk.out _ (by assumption)).mono ?_; rintro e w' ⟨rfl, hSS⟩))
          obtain ⟨d0, f0⟩ := blk_below hSS.2 0 _ rfl
          obtain ⟨d1, f1⟩ := blk_below hSS.2 1 _ rfl
          obtain ⟨d2, f2⟩ := blk_below hSS.2 2 _ rfl
          have hB2 := Lib.hid (bel_step (bel_laid w _) hSS.2)
          clear hSS
          go_wp2
          refine bodyPost_ret (v := .tuple #[.agg #[.int .u8 K, .string (x.extract 0 k), .int .i64 0], .int .i64 0]) (by simp [results, Tryd.results52, go_sem, d0, d1, d2]) rfl ⟨by rw [← hRh.out, spRes, if_neg (by simpa using hK1)], ?_⟩
          exact ((hB2.out.setCell (by simp) _).setCell (by simp) _).setCell (by simp) _
        · obtain rfl : k = x.size := by omega
          rw [show x.extract 0 x.size = x by simp] at hCk
          go_wp2_with fail
          go_region_held3 (fun V => V.cell? ⟨g, 0, none⟩ = some (.func (.func kf) #[] #[]) ∧ SpB w V) (first | assumption | exact ⟨hgh.out, bel_drew _⟩)
            ((refine (hCk.out _ (by assumption)).mono ?_; rintro e w' ⟨rfl, hSS⟩))
          obtain ⟨d0, f0⟩ := blk_below hSS.2 0 _ rfl
          obtain ⟨d1, f1⟩ := blk_below hSS.2 1 _ rfl
          obtain ⟨d2, f2⟩ := blk_below hSS.2 2 _ rfl
          have hB2 := Lib.hid (bel_step (bel_laid w _) hSS.2)
          clear hSS
          go_wp2
          refine bodyPost_ret (v := .tuple #[.agg #[.int .u8 K, .string x, .int .i64 0], .int .i64 0]) (by simp [results, Tryd.results52, go_sem, d0, d1, d2]) rfl ⟨by rw [← hRh.out, spRes, if_neg (by simpa using hK1), show x.extract 0 x.size = x by simp], ?_⟩
          exact ((hB2.out.setCell (by simp) _).setCell (by simp) _).setCell (by simp) _
end Go.Proofs.YthkfkdcmnkkdhaaDoor
