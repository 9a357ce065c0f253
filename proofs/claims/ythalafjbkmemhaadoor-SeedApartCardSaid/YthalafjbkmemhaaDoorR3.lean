/- What the document's own answer for Perm returns, for every input. -/
import Derived.Test.YthalafjbkmemhaaDoorR2
namespace Go.Proofs.YthalafjbkmemhaaDoor
open Go Go.RowKit
set_option maxRecDepth 100000
theorem swapL_comm (l : List Int) (a b : Nat) : (l.set b (l.getD a 0)).set a (l.getD b 0) = swapL l a b := by
  unfold swapL
  by_cases h : a = b
  · subst h; rfl
  · rw [List.set_comm _ _ (Ne.symm h)]
/-- What a call of the reference leaves: a list, an index and an error's number. -/
def ResR (w w' : World) (e : Ending) (o : Option (List Int × Int)) : Prop := Res w w' e o
set_option maxHeartbeats 2000000 in
theorem rperm_pos (k i : Int) (m : Nat) (w : World) (h1 : 0 ≤ i) (h2 : i ≤ 1099511627776) (hm : m < 1000) :
    Calls Tryd.prog 38 #[.int .u64 k, .int .i64 i, .int .i64 (m + 1 : Nat)] w fun e w' => Res w w' e (permR k i (m + 1)) := by
  have hmk := run_make_row' (P := Tryd.prog) 26 3 (.int .i64 0) 8 Tryd.underlying26 info3 rfl .i64 .i64 (m + 1) (by omega) (by omega)
  have ec : ((m + 1 : Nat) : Int) = (m : Int) + 1 := by omega
  rw [ec] at hmk
  clear ec
  go_enter Tryd.func38, Tryd.ntmps38
  go_wp2_with fail
  go_loopw [10] (fun a wr => ∃ j : Nat, j ≤ m + 1 ∧ a = .int .i64 j ∧ Own wr w.heap.size (fillL (m + 1) j) ∧ Below w.heap.size w wr) (fun a _ => m + 1 - (intOf a).toNat)
  case atStart =>
    refine ⟨0, by omega, rfl, ?_, ?_⟩
    · rw [fillL_zero]
      exact own_made w (m + 1)
    · exact Below.alloc (Below.refl _ _) (Nat.le_refl _) _
  case round =>
    obtain ⟨j, hj, rfl, ho, hb⟩ := hrel
    by_cases hlt : j < m + 1
    · have c1 := ho.cell j (by rw [fillL_length]; exact hlt)
      have f1 := ho.free j
      go_wp2_with fail
      go_roundw
      case rel => exact ⟨j + 1, by omega, by go_num, by rw [← fillL_set]; exact ho.set j j, hb.setCell (Nat.le_refl _) _⟩
      case measure => simp [intOf]; omega
    · have ho : Own wr w.heap.size (idL (m + 1)) := by
        have e : j = m + 1 := by omega
        rw [e, fillL_all] at ho
        exact ho
      have hlid : (idL (m + 1)).length = m + 1 := by simp [idL]
      clear hmk
      go_wp2_with fail
      generalize wr = w2 at ho hb ⊢
      go_loopw [1, 11] (fun a p ws => ∃ (q : Nat) (l : List Int) (x : Int), q ≤ m ∧ p = .int .i64 q ∧ a = .int .i64 x ∧ 0 ≤ x ∧ x ≤ 1099511627776 ∧ l.length = m + 1 ∧ Hid (permR k i (m + 1) = permGo k q l x) ∧ Own ws w.heap.size l ∧ Below w.heap.size w ws) (fun _ p _ => (intOf p).toNat)
      case atStart => exact ⟨m, idL (m + 1), i, by omega, by go_num, rfl, h1, h2, hlid, Lib.hid rfl, ho, hb⟩
      case round =>
        clear ho hb hlid
        obtain ⟨q, l, x, hq, rfl, rfl, hx1, hx2, hl, hp, hol, hb2⟩ := hrel
        have HL := Lib.hid hl
        have hll : m + 1 ≤ l.length := by omega
        have hll2 : l.length ≤ m + 1 := by omega
        clear hl
        by_cases hq0 : 0 < q
        · obtain ⟨q', rfl⟩ : ∃ q', q = q' + 1 := ⟨q - 1, by omega⟩
          cases hr : belowR k x ((q' : Int) + 1 + 1) with
          | none =>
            have HR := Lib.hid hr
            clear hr
            go_wp2_with fail
            with_reducible refine (rbelow_none k x ((q' : Int) + 1 + 1) wr hx1 hx2 (by omega) (by omega) HR.out).mono ?_
            rintro e w3 ⟨rfl, rfl⟩
            go_wp2_with fail
            go_ret3
            have e1 : permR k i (m + 1) = none := by
              rw [hp.out]
              unfold permGo
              rw [HR.out]
            unfold Res
            rw [e1]
            exact ⟨hb2, rfl⟩
          | some p =>
            obtain ⟨v, nx⟩ := p
            have hvr := below_range hr
            have HR := Lib.hid hr
            clear hr
            obtain ⟨v1, hv1⟩ : ∃ v1 : Nat, v = v1 := ⟨v.toNat, by omega⟩
            subst hv1
            have hv2 : v1 ≤ q' + 1 := by omega
            have hn1 := hvr.2.2.1
            have hn2 := hvr.2.2.2 hx1
            clear hvr
            go_wp2_with fail
            with_reducible refine (rbelow_some k x ((q' : Int) + 1 + 1) v1 nx wr hx1 hx2 (by omega) (by omega) HR.out).mono ?_
            rintro e w3 ⟨rfl, rfl⟩
            have a1 : wr.cell? ⟨w.heap.size, v1, none⟩ = some (.int .i64 (l.getD v1 0)) := hol.cell v1 (by omega)
            have a2 : wr.cell? ⟨w.heap.size, q' + 1, none⟩ = some (.int .i64 (l.getD (q' + 1) 0)) := hol.cell (q' + 1) (by omega)
            have f1 := hol.free v1
            have f2 := hol.free (q' + 1)
            have HLS := Lib.hid (swapL_comm l v1 (q' + 1))
            generalize l.getD v1 0 = xv at a1 HLS
            generalize l.getD (q' + 1) 0 = xp at a2 HLS
            have g1 : (v1 : Int) < (m : Int) + 1 := by omega
            have g2 : (q' : Int) + 1 < (m : Int) + 1 := by omega
            have g3 : 0 ≤ (q' : Int) + 1 := by omega
            obtain ⟨y2, hy2⟩ := cell?_setCell_some (w := wr) (p := ⟨w.heap.size, q' + 1, none⟩) (x := .int .i64 xv) (q := ⟨w.heap.size, v1, none⟩) (v := .int .i64 xv) a1
            go_wp2_with fail
            go_roundw
            case rel =>
              have hs := ((hol.set (q' + 1) xv).set v1 xp)
              rw [HLS.out] at hs
              refine ⟨q', swapL l v1 (q' + 1), nx, by omega, by go_num, rfl, by omega, hn2, by rw [swapL_length]; exact HL.out, Lib.hid ?_, hs, (hb2.setCell (Nat.le_refl _) _).setCell (Nat.le_refl _) _⟩
              rw [hp.out]
              show permGo k (q' + 1) l x = _
              rw [permGo, HR.out]
              rfl
            case measure => simp [intOf]
        · obtain rfl : q = 0 := by omega
          go_wp2_with fail
          go_ret3
          have e1 : permR k i (m + 1) = some (l, x) := hp.out
          unfold Res
          rw [e1]
          refine ⟨hb2, _, rfl, .inr ⟨w.heap.size, 0, m + 1, by rw [HL.out]; rfl, hol.lt, fun j hj => ?_⟩⟩
          rw [Nat.zero_add]
          exact hol.cell j hj
set_option maxHeartbeats 1000000 in
theorem rperm_zero (k i : Int) (w : World) (h1 : 0 ≤ i) (h2 : i ≤ 1099511627776) :
    Calls Tryd.prog 38 #[.int .u64 k, .int .i64 i, .int .i64 0] w fun e w' => Res w w' e (permR k i 0) := by
  have hmk : ∀ w : World, (Instr.makeSlice 26 (.int .i64 0) (.int .i64 0)).run Tryd.prog w = .ok (.slice (some ⟨w.heap.size, 0, none⟩) 0 0) (w.alloc (.cells (madeCells #[.int .i64 0] 0) 3)) := run_make_row' (P := Tryd.prog) 26 3 (.int .i64 0) 8 Tryd.underlying26 info3 rfl .i64 .i64 0 (by omega) (by omega)
  go_enter Tryd.func38, Tryd.ntmps38
  go_wp2_with fail
  refine wp_loop_rounds 1 ?_
  rw [rounds_succ]
  go_wp2_with fail
  refine wp_loop_rounds 1 ?_
  rw [rounds_succ]
  go_wp2_with fail
  go_ret3
  refine ⟨(Below.refl _ _).alloc (Nat.le_refl _) _, _, rfl, .inr ⟨w.heap.size, 0, 0, rfl, by simp, fun j hj => by simp [idL] at hj⟩⟩
theorem rperm_ok (k i n : Int) (w : World) (h1 : 0 ≤ i) (h2 : i ≤ 1099511627776) (h3 : 0 ≤ n) (h4 : n ≤ 1000) :
    Calls Tryd.prog 38 #[.int .u64 k, .int .i64 i, .int .i64 n] w fun e w' => Res w w' e (permR k i n.toNat) := by
  obtain ⟨m, rfl⟩ := Int.eq_ofNat_of_zero_le h3
  cases m with
  | zero => exact rperm_zero k i w h1 h2
  | succ m => exact rperm_pos k i m w h1 h2 (by omega)
set_option maxHeartbeats 1000000 in
theorem rperm_no (k i n : Int) (w : World) (h : ¬ (0 ≤ i ∧ i ≤ 1099511627776) ∨ n < 0 ∨ 1000 < n) :
    Calls Tryd.prog 38 #[.int .u64 k, .int .i64 i, .int .i64 n] w fun e w' => e = .returned (.tuple #[.slice none 0 0, .int .i64 0, .int .i64 2]) ∧ w = w' := by
  by_cases hi : i < 0
  · clear h
    go_enter Tryd.func38, Tryd.ntmps38
    go_wp2_with fail
    go_ret3
    exact ⟨rfl, rfl⟩
  · by_cases hj : 1099511627776 < i
    · clear h
      go_enter Tryd.func38, Tryd.ntmps38
      go_wp2_with fail
      go_ret3
      exact ⟨rfl, rfl⟩
    · by_cases hn : n < 0
      · clear h
        go_enter Tryd.func38, Tryd.ntmps38
        go_wp2_with fail
        go_ret3
        exact ⟨rfl, rfl⟩
      · have hn2 : 1000 < n := by omega
        clear h
        go_enter Tryd.func38, Tryd.ntmps38
        go_wp2_with fail
        go_ret3
        exact ⟨rfl, rfl⟩
end Go.Proofs.YthalafjbkmemhaaDoor
