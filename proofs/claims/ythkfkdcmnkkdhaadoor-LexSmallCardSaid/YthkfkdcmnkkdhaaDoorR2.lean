/- The reference's token at the beginning of a text. -/
import Derived.Test.YthkfkdcmnkkdhaaDoorR1
import Derived.Test.YthkfkdcmnkkdhaaDoorN2
namespace Go.Proofs.YthkfkdcmnkkdhaaDoor
open Go Go.RowKit
set_option maxRecDepth 100000
set_option linter.unusedVariables false
def tok3 (k n e : Int) : Value := .tuple #[.int .u8 k, .int .i64 n, .int .i64 e]
/-- What the reference says of a run. -/
def runV (bW bM bV bF bP : Bool) (n : Int) : Value := if bW then tok3 3 n 0 else if bM then tok3 2 n 0 else if bV then tok3 1 n 0 else if bF then tok3 1 n 0 else if bP then tok3 1 n 0 else tok3 0 0 41
set_option maxHeartbeats 4000000 in
theorem refTok_run (s : ByteArray) (h0 : 0 < s.size) (hm : s.size ≤ 1000000) (hc : letC (s[0].toNat : Int) = true ∨ letC (s[0].toNat : Int) = false ∧ (s[0].toNat : Int) = 63) (w : World) :
    Calls Tryd.prog 23 #[.string s] w fun e w' => e = .returned (runV (isWordB (s.extract 0 (1 + runB s)).toList) (refMeta (s.extract 0 (1 + runB s))) (refVar (s.extract 0 (1 + runB s))) (refFun (s.extract 0 (1 + runB s))) (refPred (s.extract 0 (1 + runB s))) (1 + runB s : Nat)) ∧ w' = w := by
  have h0' : (0 : Int) < (s.size : Int) := by omega
  have hrl := runB_le s h0
  obtain ⟨n, hn⟩ : ∃ n, 1 + runB s = n := ⟨_, rfl⟩
  have hat : ∀ k, 1 ≤ k → (hk : k < s.size) → k ≤ n → (letC (s[k].toNat : Int) || digC (s[k].toNat : Int)) = decide (k < n) := by
    intro k h1 hk hle
    rw [← hn] at hle ⊢
    exact runB_at s k h1 hk hle
  rw [hn]
  have hatH := Lib.hid hat
  have hnx : n ≤ s.size := by omega
  have hn1 : 1 ≤ n := by omega
  clear hn hrl hat
  have hWs : (s.extract 0 n).size ≤ 9223372036854775807 := by
    rw [ByteArray.size_extract]
    omega
  have hL := Lib.hid (fun c => refLetter_any c w)
  have hD := Lib.hid (fun c => refDigit_any c w)
  have HW := Lib.hid (refWord_any (s.extract 0 n) w)
  have HM := Lib.hid (refMeta_any (s.extract 0 n) w hWs)
  have HV := Lib.hid (refVar_any (s.extract 0 n) w hWs)
  have HF := Lib.hid (refFun_any (s.extract 0 n) w hWs)
  have HP := Lib.hid (refPred_any (s.extract 0 n) w hWs)
  clear hWs
  generalize isWordB (s.extract 0 n).toList = bW at HW ⊢
  generalize refMeta (s.extract 0 n) = bM at HM ⊢
  generalize refVar (s.extract 0 n) = bV at HV ⊢
  generalize refFun (s.extract 0 n) = bF at HF ⊢
  generalize refPred (s.extract 0 n) = bP at HP ⊢
  obtain ⟨R, hR⟩ : ∃ R, runV bW bM bV bF bP n = R := ⟨_, rfl⟩
  rw [hR]
  have hRh := Lib.hid hR
  clear hR
  have hn0 : (0 : Int) ≤ (n : Int) := by omega
  have hns : (n : Int) ≤ (s.size : Int) := by omega
  have hnt : ((n : Int)).toNat = n := by omega
  have hc2 : letC (s[0].toNat : Int) = true ∨ letC (s[0].toNat : Int) = false ∧ ((s[0].toNat : Int) != 63) = false := hc.imp id fun ⟨h1, h2⟩ => ⟨h1, by rw [h2]; rfl⟩
  clear hc
  rcases hc2 with hc | ⟨hc, e63⟩
  all_goals
    have hL0 := Lib.hid (hL.out (s[0].toNat : Int))
    rw [hc] at hL0
    clear hc
    go_enter Tryd.func23, Tryd.ntmps23
    go_wp2_with fail
    refine hL0.out.mono ?_
    rintro e w1 ⟨rfl, rfl⟩
    clear hL0
    go_wp2_with fail
    try clear e63
    go_loop [5] (fun i => ∃ k : Nat, 1 ≤ k ∧ k ≤ n ∧ i = .int .i64 k) (fun i => s.size - (intOf i).toNat)
    case atStart => exact ⟨1, by omega, by omega, rfl⟩
    case round =>
      obtain ⟨k, hk1, hk2, rfl⟩ := hrel
      by_cases hlt : k < n
      · have hkx : k < s.size := by omega
        have hkx' : (k : Int) < (s.size : Int) := by omega
        have hor := hatH.out k hk1 hkx hk2
        rw [decide_eq_true hlt] at hor
        have hLk := Lib.hid (hL.out (s[k].toNat : Int))
        have hDk := Lib.hid (hD.out (s[k].toNat : Int))
        cases hl : letC (s[k].toNat : Int) with
        | true =>
          rw [hl] at hLk
          clear hor hl hDk
          go_wp2_with fail
          refine hLk.out.mono ?_
          rintro e w2 ⟨rfl, rfl⟩
          clear hLk
          go_wp2_with fail
          go_round
          case rel => exact ⟨k + 1, by omega, by omega, by go_num⟩
          case measure => simp [intOf]; omega
        | false =>
          rw [hl, Bool.false_or] at hor
          rw [hl] at hLk
          rw [hor] at hDk
          clear hor hl
          go_wp2_with fail
          refine hLk.out.mono ?_
          rintro e w2 ⟨rfl, rfl⟩
          clear hLk
          go_wp2_with fail
          refine hDk.out.mono ?_
          rintro e w2 ⟨rfl, rfl⟩
          clear hDk
          go_wp2_with fail
          go_round
          case rel => exact ⟨k + 1, by omega, by omega, by go_num⟩
          case measure => simp [intOf]; omega
      · obtain rfl : k = n := by omega
        by_cases hkx : k < s.size
        · have hkx' : (k : Int) < (s.size : Int) := by omega
          have hor := hatH.out k hk1 hkx hk2
          rw [decide_eq_false (Nat.lt_irrefl _), Bool.or_eq_false_iff] at hor
          have hLk := Lib.hid (hL.out (s[k].toNat : Int))
          have hDk := Lib.hid (hD.out (s[k].toNat : Int))
          rw [hor.1] at hLk
          rw [hor.2] at hDk
          clear hor hatH hL hD hlt hk1 hk2
          go_wp2_with fail
          refine hLk.out.mono ?_
          rintro e w2 ⟨rfl, rfl⟩
          clear hLk
          go_wp2_with fail
          refine hDk.out.mono ?_
          rintro e w2 ⟨rfl, rfl⟩
          clear hDk
          have hRq := hRh.out
          clear hRh
          cases bW with
          | true =>
            go_wp2_with fail
            refine HW.out.mono ?_
            rintro e w2 ⟨rfl, rfl⟩
            clear HW HM HV HF HP
            go_wp2_with fail
            refine bodyPost_ret (v := .tuple #[.int .u8 3, .int .i64 k, .int .i64 0]) (by simp [results, Tryd.results23, go_sem]) rfl ⟨by rw [← hRq]; rfl, rfl⟩
          | false =>
            go_wp2_with fail
            refine HW.out.mono ?_
            rintro e w2 ⟨rfl, rfl⟩
            clear HW
            go_wp2_with fail
            refine HM.out.mono ?_
            rintro e w2 ⟨rfl, rfl⟩
            clear HM
            cases bM with
            | true =>
              clear HV HF HP
              go_wp2_with fail
              refine bodyPost_ret (v := .tuple #[.int .u8 2, .int .i64 k, .int .i64 0]) (by simp [results, Tryd.results23, go_sem]) rfl ⟨by rw [← hRq]; rfl, rfl⟩
            | false =>
              go_wp2_with fail
              refine HV.out.mono ?_
              rintro e w2 ⟨rfl, rfl⟩
              clear HV
              cases bV with
              | true =>
                clear HF HP
                go_wp2_with fail
                refine bodyPost_ret (v := .tuple #[.int .u8 1, .int .i64 k, .int .i64 0]) (by simp [results, Tryd.results23, go_sem]) rfl ⟨by rw [← hRq]; rfl, rfl⟩
              | false =>
                go_wp2_with fail
                refine HF.out.mono ?_
                rintro e w2 ⟨rfl, rfl⟩
                clear HF
                cases bF with
                | true =>
                  clear HP
                  go_wp2_with fail
                  refine bodyPost_ret (v := .tuple #[.int .u8 1, .int .i64 k, .int .i64 0]) (by simp [results, Tryd.results23, go_sem]) rfl ⟨by rw [← hRq]; rfl, rfl⟩
                | false =>
                  go_wp2_with fail
                  refine HP.out.mono ?_
                  rintro e w2 ⟨rfl, rfl⟩
                  clear HP
                  cases bP with
                  | true =>
                    go_wp2_with fail
                    refine bodyPost_ret (v := .tuple #[.int .u8 1, .int .i64 k, .int .i64 0]) (by simp [results, Tryd.results23, go_sem]) rfl ⟨by rw [← hRq]; rfl, rfl⟩
                  | false =>
                    go_wp2_with fail
                    refine bodyPost_ret (v := .tuple #[.int .u8 0, .int .i64 0, .int .i64 41]) (by simp [results, Tryd.results23, go_sem]) rfl ⟨by rw [← hRq]; rfl, rfl⟩
        · have hkx' : ¬ (k : Int) < (s.size : Int) := by omega
          clear hatH hL hD hlt hk1 hk2
          have hRq := hRh.out
          clear hRh
          cases bW with
          | true =>
            go_wp2_with fail
            refine HW.out.mono ?_
            rintro e w2 ⟨rfl, rfl⟩
            clear HW HM HV HF HP
            go_wp2_with fail
            refine bodyPost_ret (v := .tuple #[.int .u8 3, .int .i64 k, .int .i64 0]) (by simp [results, Tryd.results23, go_sem]) rfl ⟨by rw [← hRq]; rfl, rfl⟩
          | false =>
            go_wp2_with fail
            refine HW.out.mono ?_
            rintro e w2 ⟨rfl, rfl⟩
            clear HW
            go_wp2_with fail
            refine HM.out.mono ?_
            rintro e w2 ⟨rfl, rfl⟩
            clear HM
            cases bM with
            | true =>
              clear HV HF HP
              go_wp2_with fail
              refine bodyPost_ret (v := .tuple #[.int .u8 2, .int .i64 k, .int .i64 0]) (by simp [results, Tryd.results23, go_sem]) rfl ⟨by rw [← hRq]; rfl, rfl⟩
            | false =>
              go_wp2_with fail
              refine HV.out.mono ?_
              rintro e w2 ⟨rfl, rfl⟩
              clear HV
              cases bV with
              | true =>
                clear HF HP
                go_wp2_with fail
                refine bodyPost_ret (v := .tuple #[.int .u8 1, .int .i64 k, .int .i64 0]) (by simp [results, Tryd.results23, go_sem]) rfl ⟨by rw [← hRq]; rfl, rfl⟩
              | false =>
                go_wp2_with fail
                refine HF.out.mono ?_
                rintro e w2 ⟨rfl, rfl⟩
                clear HF
                cases bF with
                | true =>
                  clear HP
                  go_wp2_with fail
                  refine bodyPost_ret (v := .tuple #[.int .u8 1, .int .i64 k, .int .i64 0]) (by simp [results, Tryd.results23, go_sem]) rfl ⟨by rw [← hRq]; rfl, rfl⟩
                | false =>
                  go_wp2_with fail
                  refine HP.out.mono ?_
                  rintro e w2 ⟨rfl, rfl⟩
                  clear HP
                  cases bP with
                  | true =>
                    go_wp2_with fail
                    refine bodyPost_ret (v := .tuple #[.int .u8 1, .int .i64 k, .int .i64 0]) (by simp [results, Tryd.results23, go_sem]) rfl ⟨by rw [← hRq]; rfl, rfl⟩
                  | false =>
                    go_wp2_with fail
                    refine bodyPost_ret (v := .tuple #[.int .u8 0, .int .i64 0, .int .i64 41]) (by simp [results, Tryd.results23, go_sem]) rfl ⟨by rw [← hRq]; rfl, rfl⟩
end Go.Proofs.YthkfkdcmnkkdhaaDoor
