/- What the document's own answer for Choose returns, for every input. -/
import Derived.Test.YthalafjbkmemhaaDoorR3
namespace Go.Proofs.YthalafjbkmemhaaDoor
open Go Go.RowKit
set_option maxRecDepth 100000
def flag (b : Bool) : Int := if b = true then 1 else 0
theorem flag_get (l : List Bool) (i : Nat) : (l.map flag).getD i 0 = flag (l.getD i false) := by
  by_cases h : i < l.length
  · simp [List.getD, h]
  · rw [List.getD_eq_getElem?_getD, List.getD_eq_getElem?_getD, List.getElem?_eq_none (by simp; omega), List.getElem?_eq_none (by omega)]
    rfl
theorem flag_set (l : List Bool) (i : Nat) : (l.map flag).set i 1 = (l.set i true).map flag := by
  rw [List.map_set]
  rfl
theorem flag_none (n : Nat) : (List.replicate n false).map flag = List.replicate n 0 := by simp [flag]
set_option maxHeartbeats 4000000 in
theorem rchoose_at (key i : Int) (d k : Nat) (w : World) (h1 : 0 ≤ i) (h2 : i ≤ 1099511627776) (hn : d + k ≤ 1000) :
    Calls Tryd.prog 39 #[.int .u64 key, .int .i64 i, .int .i64 (d + k : Nat), .int .i64 k] w fun e w' => Res w w' e (chooseR key i (d + k) k) := by
  obtain ⟨i0, hi, hz0, hz1, hz2⟩ := info_parts info3
  have hmk := run_make_row' (P := Tryd.prog) 26 3 (.int .i64 0) 8 Tryd.underlying26 info3 rfl .i64 .i64 (d + k) (by omega) (by omega)
  have ec : ((d + k : Nat) : Int) = (d : Int) + k := by omega
  rw [ec] at hmk
  have b0 : 0 ≤ (d : Int) + k := by omega
  have b1 : (d : Int) + k ≤ 1000 := by omega
  have b2 : (k : Int) ≤ (d : Int) + k := by omega
  clear ec
  go_enter Tryd.func39, Tryd.ntmps39
  go_wp2_with fail
  have hol : Own (w.alloc (.cells (madeCells #[.int .i64 0] (d + k)) 3)) w.heap.size ((List.replicate (d + k) false).map flag) := by
    rw [flag_none]
    exact own_made w (d + k)
  have hb2 : Below w.heap.size w (w.alloc (.cells (madeCells #[.int .i64 0] (d + k)) 3)) := Below.alloc (Below.refl _ _) (Nat.le_refl _) _
  have hlid : (List.replicate (d + k) false).length = d + k := by simp
  generalize (w.alloc (.cells (madeCells #[.int .i64 0] (d + k)) 3)) = w2 at hol hb2 ⊢
  clear hmk
  go_loopw [1, 12] (fun a p wr => ∃ (f m : Nat) (l : List Bool) (x : Int), f + m = d + k ∧ p = .int .i64 m ∧ a = .int .i64 x ∧ 0 ≤ x ∧ x ≤ 1099511627776 ∧ l.length = d + k ∧ Hid (chooseGo key k d (List.replicate (d + k) false) i = chooseGo key f m l x) ∧ Own wr w.heap.size (l.map flag) ∧ Below w.heap.size w wr) (fun _ p _ => (d + k - (intOf p)).toNat)
  case atStart => exact ⟨k, d, List.replicate (d + k) false, i, by omega, rfl, rfl, h1, h2, hlid, Lib.hid rfl, hol, hb2⟩
  case round =>
    clear hol hb2 hlid
    obtain ⟨f, m, l, x, hfm, rfl, rfl, hx1, hx2, hl, hp, hol, hb2⟩ := hrel
    have HL := Lib.hid hl
    have HF := Lib.hid hfm
    have hll : d + k ≤ l.length := by omega
    have hll2 : l.length ≤ d + k := by omega
    clear hl hfm
    have hml : (l.map flag).length = l.length := by simp
    have hll3 : d + k ≤ (l.map flag).length := by omega
    clear hml
    by_cases hf0 : m < d + k
    · obtain ⟨f', rfl⟩ : ∃ f', f = f' + 1 := ⟨f - 1, by have := HF.out; omega⟩
      have hmi : (m : Int) < (d : Int) + k := by omega
      cases hr : belowR key x ((m : Int) + 1) with
      | none =>
        have HR := Lib.hid hr
        clear hr
        go_wp2_with fail
        with_reducible refine (rbelow_none key x ((m : Int) + 1) wr hx1 hx2 (by omega) (by omega) HR.out).mono ?_
        rintro e w3 ⟨rfl, rfl⟩
        go_wp2_with fail
        go_ret3
        have e1 : chooseR key i (d + k) k = none := by
          unfold chooseR
          rw [show d + k - k = d from by omega, hp.out]
          unfold chooseGo
          rw [HR.out]
        unfold Res
        rw [e1]
        exact ⟨hb2, rfl⟩
      | some p =>
        obtain ⟨v, nx⟩ := p
        have hvr := below_range hr
        have HR := Lib.hid hr
        clear hr
        obtain ⟨v1, hv1⟩ : ∃ v1 : Nat, v = v1 := ⟨v.toNat, by omega⟩
        subst hv1
        have hv2 : v1 < d + k := by omega
        have hn1 := hvr.2.2.1
        have hn2 := hvr.2.2.2 hx1
        clear hvr
        go_wp2_with fail
        with_reducible refine (rbelow_some key x ((m : Int) + 1) v1 nx wr hx1 hx2 (by omega) (by omega) HR.out).mono ?_
        rintro e w3 ⟨rfl, rfl⟩
        have a1 := hol.cell v1 (by omega)
        have a2 := hol.cell m (by omega)
        rw [flag_get] at a1 a2
        have f1 := hol.free v1
        have f2 := hol.free m
        have g1 : (v1 : Int) < (d : Int) + k := by omega
        have HS := Lib.hid (show chooseGo key (f' + 1) m l x = chooseGo key f' (m + 1) (l.set (if l.getD v1 false = true then m else v1) true) nx by rw [chooseGo, HR.out]; rfl)
        cases hg : l.getD v1 false
        · rw [hg] at a1
          have a1' : wr.cell? ⟨w.heap.size, v1, none⟩ = some (.int .i64 0) := a1
          have HG := Lib.hid hg
          clear hg a1
          generalize flag (l.getD m false) = fm at a2
          go_wp2_with fail
          go_roundw
          case rel =>
            refine ⟨f', m + 1, l.set v1 true, nx, by have := HF.out; omega, by go_num, rfl, by omega, hn2, by simp; exact HL.out, Lib.hid ?_, by rw [← flag_set]; exact hol.set v1 1, hb2.setCell (Nat.le_refl _) _⟩
            rw [hp.out, HS.out, HG.out]
            rfl
          case measure => simp [intOf]; omega
        · rw [hg] at a1
          have a1' : wr.cell? ⟨w.heap.size, v1, none⟩ = some (.int .i64 1) := a1
          have HG := Lib.hid hg
          clear hg a1
          generalize flag (l.getD m false) = fm at a2
          go_wp2_with fail
          go_roundw
          case rel =>
            refine ⟨f', m + 1, l.set m true, nx, by have := HF.out; omega, by go_num, rfl, by omega, hn2, by simp; exact HL.out, Lib.hid ?_, by rw [← flag_set]; exact hol.set m 1, hb2.setCell (Nat.le_refl _) _⟩
            rw [hp.out, HS.out, HG.out]
            rfl
          case measure => simp [intOf]; omega
    · obtain rfl : f = 0 := by have := HF.out; omega
      have hmi : ¬ (m : Int) < (d : Int) + k := by have := HF.out; omega
      have e1 : chooseR key i (d + k) k = some (trueTo l (d + k), x) := by
        unfold chooseR
        rw [show d + k - k = d from by omega, hp.out]
        rfl
      have HE := Lib.hid e1
      clear e1 HF hp
      go_wp2_with fail
      have hlo := hol.lt
      generalize wr = wo at hol hb2 hlo ⊢
      go_loopw [16, 17] (fun v a ws => ∃ j : Nat, j ≤ d + k ∧ a = .int .i64 j ∧ ws.ownsRow wo.heap.size 3 1 v (trueTo l j).length ((trueTo l j).map (Value.int .i64)) ∧ Below wo.heap.size wo ws) (fun _ a _ => d + k - (intOf a).toNat)
      case atStart => exact ⟨0, Nat.zero_le _, rfl, World.ownsRow_nil _ _ _ _, Below.refl _ _⟩
      case round =>
        obtain ⟨j, hj, rfl, hown, hb⟩ := hrel
        have hbs := hb.size
        by_cases hlt : j < d + k
        · have hji : (j : Int) < (d : Int) + k := by omega
          have a1 := (hol.below hb hlo).cell j (by omega)
          rw [flag_get] at a1
          have T1 := Lib.hid (trueTo_yes l j)
          have T0 := Lib.hid (trueTo_no l j)
          have TL := trueTo_length l j
          cases hg : l.getD j false
          · rw [hg] at a1
            have a1' : wr.cell? ⟨w.heap.size, j, none⟩ = some (.int .i64 0) := a1
            have HT := Lib.hid (T0.out hg)
            clear T0 T1 hg a1
            go_wp2
            go_roundw
            case rel => exact ⟨j + 1, by omega, by go_num, by rw [HT.out]; exact hown, hb⟩
            case measure => simp [intOf]; omega
          · rw [hg] at a1
            have a1' : wr.cell? ⟨w.heap.size, j, none⟩ = some (.int .i64 1) := a1
            have HT := Lib.hid (T1.out hg)
            clear T0 T1 hg a1
            go_wp2_with (at_builtin; refine wpList_append_own _ rfl _ _ 26 rfl wo.heap.size 3 i0 (.int .i64 0) 1 8 Tryd.underlying26 hi hz0 hz1 hz2 rfl (by decide) _ _ _ rfl (hown.alloc _) ⟨wr.heap.size, 0, none⟩ 1 1 [.int .i64 (j : Int)] rfl rfl ?c1 ?c2 ?c3 ?c4 ?c5 ?_)
            case c1 => exact (cell_one_new _ _ _)
            case c2 => simp [Value.oneCell']
            case c3 => unfold maxLen; omega
            case c4 => omega
            case c5 => simp; omega
            intro v' w1 hown' hgrow _
            have hb3 := below_own hb hown ((Below.refl _ _).alloc hbs _) hgrow hbs
            have hown2 : w1.ownsRow wo.heap.size 3 1 v' (trueTo l (j + 1)).length ((trueTo l (j + 1)).map (Value.int .i64)) := by
              rw [HT.out]
              simpa using hown'
            clear hown' hgrow hown
            go_wp2
            go_roundw
            case rel => exact ⟨j + 1, by omega, by go_num, hown2, hb3⟩
            case measure => simp [intOf]; omega
        · have hji : ¬ (j : Int) < (d : Int) + k := by omega
          go_wp2_with fail
          go_ret3
          unfold Res
          rw [HE.out]
          have e : j = d + k := by omega
          rw [e] at hown
          exact ⟨hb2.trans (hb.mono hb2.size), _, rfl, rd_of_own hown⟩
theorem rchoose_ok (key i n k : Int) (w : World) (h1 : 0 ≤ i) (h2 : i ≤ 1099511627776) (h3 : n ≤ 1000) (h4 : 0 ≤ k) (h5 : k ≤ n) :
    Calls Tryd.prog 39 #[.int .u64 key, .int .i64 i, .int .i64 n, .int .i64 k] w fun e w' => Res w w' e (chooseR key i n.toNat k.toNat) := by
  obtain ⟨j, rfl⟩ := Int.eq_ofNat_of_zero_le h4
  obtain ⟨d, rfl⟩ : ∃ d : Nat, n = (d + j : Nat) := ⟨(n - j).toNat, by omega⟩
  exact rchoose_at key i d j w h1 h2 (by omega)
set_option maxHeartbeats 1000000 in
theorem rchoose_no (key i n k : Int) (w : World) (h : ¬ (0 ≤ i ∧ i ≤ 1099511627776) ∨ 1000 < n ∨ k < 0 ∨ n < k) :
    Calls Tryd.prog 39 #[.int .u64 key, .int .i64 i, .int .i64 n, .int .i64 k] w fun e w' => e = .returned (.tuple #[.slice none 0 0, .int .i64 0, .int .i64 2]) ∧ w = w' := by
  by_cases hi : i < 0
  · clear h
    go_enter Tryd.func39, Tryd.ntmps39
    go_wp2_with fail
    go_ret3
    exact ⟨rfl, rfl⟩
  · by_cases hj : 1099511627776 < i
    · clear h
      go_enter Tryd.func39, Tryd.ntmps39
      go_wp2_with fail
      go_ret3
      exact ⟨rfl, rfl⟩
    · by_cases hn : n < 0
      · clear h
        go_enter Tryd.func39, Tryd.ntmps39
        go_wp2_with fail
        go_ret3
        exact ⟨rfl, rfl⟩
      · by_cases hn2 : 1000 < n
        · clear h
          go_enter Tryd.func39, Tryd.ntmps39
          go_wp2_with fail
          go_ret3
          exact ⟨rfl, rfl⟩
        · by_cases hk : k < 0
          · clear h
            go_enter Tryd.func39, Tryd.ntmps39
            go_wp2_with fail
            go_ret3
            exact ⟨rfl, rfl⟩
          · have hkn : n < k := by omega
            clear h
            go_enter Tryd.func39, Tryd.ntmps39
            go_wp2_with fail
            go_ret3
            exact ⟨rfl, rfl⟩
end Go.Proofs.YthalafjbkmemhaaDoor
