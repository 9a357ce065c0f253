/- What Perm returns, for every input. -/
import Derived.Test.YthalafjbkmemhaaDoorX4
namespace Go.Proofs.YthalafjbkmemhaaDoor
open Go Go.RowKit
set_option maxRecDepth 100000
theorem restV_range (x n : Int) (h : restB x n = true) : 0 ≤ restV x n ∧ restV x n < n := by
  simp only [restB, decide_eq_true_eq] at h
  simp only [restV, if_pos h]
  exact ⟨Int.emod_nonneg _ (by omega), Int.emod_lt_of_pos _ (by omega)⟩
theorem scan_range (k n v nx : Int) : ∀ (f : Nat) (i : Int), scan k n f i = some (v, nx) → 0 ≤ v ∧ v < n ∧ i < nx ∧ nx ≤ i + f
  | 0, i, h => by simp [scan] at h
  | f + 1, i, h => by
    unfold scan at h
    split at h
    · rename_i hr
      have := restV_range _ _ hr
      simp only [Option.some.injEq, Prod.mk.injEq] at h
      omega
    · have := scan_range k n v nx f (i + 1) h
      omega
theorem below_range {k i n v nx : Int} (h : belowR k i n = some (v, nx)) : 0 ≤ v ∧ v < n ∧ i < nx ∧ (0 ≤ i → nx ≤ 1099511627776) := by
  have := scan_range k n v nx _ i h
  refine ⟨this.1, this.2.1, this.2.2.1, fun _ => ?_⟩
  omega
def swapL (l : List Int) (a b : Nat) : List Int := (l.set a (l.getD b 0)).set b (l.getD a 0)
theorem swapL_length (l : List Int) (a b : Nat) : (swapL l a b).length = l.length := by simp [swapL]
def permGo (k : Int) : Nat → List Int → Int → Option (List Int × Int)
  | 0, l, i => some (l, i)
  | p + 1, l, i => match belowR k i ((p : Int) + 1 + 1) with
    | none => none
    | some (v, nx) => permGo k p (swapL l v.toNat (p + 1)) nx
def idL (n : Nat) : List Int := (List.range n).map fun x : Nat => (x : Int)
def fillL (n j : Nat) : List Int := (List.range n).map fun x : Nat => if x < j then (x : Int) else 0
theorem fillL_length (n j : Nat) : (fillL n j).length = n := by simp [fillL]
theorem fillL_set (n j : Nat) : (fillL n j).set j j = fillL n (j + 1) := by
  apply List.ext_getElem?
  intro x
  simp only [fillL, List.getElem?_set, List.length_map, List.length_range, List.getElem?_map]
  by_cases hx : x < n
  · simp only [List.getElem?_range hx, Option.map_some]
    by_cases hj : j = x
    · subst hj; simp [hx]
    · simp only [if_neg hj]
      by_cases h1 : x < j
      · rw [if_pos h1, if_pos (by omega)]
      · rw [if_neg h1, if_neg (by omega)]
  · rw [List.getElem?_eq_none (by simp; omega)]
    simp
    omega
theorem fillL_all (n : Nat) : fillL n n = idL n := by
  unfold fillL idL
  apply List.map_congr_left
  intro x hx
  rw [if_pos (by simpa using hx)]
theorem fillL_zero (n : Nat) : fillL n 0 = List.replicate n 0 := by
  unfold fillL
  apply List.ext_getElem?
  intro x
  by_cases hx : x < n <;> simp [hx]
def permR (k i : Int) (n : Nat) : Option (List Int × Int) := permGo k (n - 1) (idL n) i
theorem info3 : (Tryd.prog.info? 3).map (fun i => (i.zero, i.size, i.bytes)) = some (some (.int .i64 0), 1, 8) := by kernel_rfl
theorem own_made (w : World) (n : Nat) : Own (w.alloc (.cells (madeCells #[.int .i64 0] n) 3)) w.heap.size (List.replicate n 0) := by
  refine ⟨3, ?_⟩
  rw [heap_alloc_new]
  congr 2
  apply Array.ext
  · simp [madeCells]
  · intro i h1 h2
    simp [madeCells, Nat.mod_one]
/-- What a call that returns a list of integers, an index and an error leaves. -/
def Res (w w' : World) (e : Ending) (o : Option (List Int × Int)) : Prop :=
  Below w.heap.size w w' ∧ match o with
    | none => e = .returned (.tuple #[.slice none 0 0, .int .i64 0, .int .i64 4])
    | some (l, nx) => ∃ v, e = .returned (.tuple #[v, .int .i64 nx, .int .i64 0]) ∧ Rd w' v l
set_option maxHeartbeats 2000000 in
theorem perm_pos (k i : Int) (m : Nat) (w : World) (h : Stp w) (h1 : 0 ≤ i) (h2 : i ≤ 1099511627776) (hm : m < 1000) :
    Calls Tryd.prog 27 #[.agg #[.int .u64 k], .int .i64 i, .int .i64 (m + 1 : Nat)] w fun e w' => Res w w' e (permR k i (m + 1)) := by
  have hmk := run_make_row' (P := Tryd.prog) 26 3 (.int .i64 0) 8 Tryd.underlying26 info3 rfl .i64 .i64 (m + 1) (by omega) (by omega)
  have ec : ((m + 1 : Nat) : Int) = (m : Int) + 1 := by omega
  rw [ec] at hmk
  have hmf : ∀ (fn : Fn) (first cap : Array Value) (w : World), (Instr.makeFunc fn first cap).run Tryd.prog w = .ok (.func fn first cap) w := fun _ _ _ _ => rfl
  clear ec
  go_enter Tryd.func27, Tryd.ntmps27
  go_wp2_with fail
  refine (index_yes _ _ h1 h2).mono ?_
  rintro e w' ⟨rfl, rfl⟩
  go_wp2_with fail
  go_loopw [32] (fun a wr => ∃ j : Nat, j ≤ m + 1 ∧ a = .int .i64 j ∧ Own wr (w.heap.size + 1) (fillL (m + 1) j) ∧ Below (w.heap.size + 1) (w.alloc (.cells #[.int .u64 k] 33)) wr) (fun a _ => m + 1 - (intOf a).toNat)
  case atStart =>
    refine ⟨0, by omega, rfl, ?_, ?_⟩
    · rw [fillL_zero]
      have := own_made (w.alloc (.cells #[.int .u64 k] 33)) (m + 1)
      simpa using this
    · exact Below.alloc (Below.refl _ _) (by simp) _
  case round =>
    obtain ⟨j, hj, rfl, ho, hb⟩ := hrel
    by_cases hlt : j < m + 1
    · have c1 := ho.cell j (by rw [fillL_length]; exact hlt)
      have f1 := ho.free j
      go_wp2_with fail
      go_roundw
      case rel => exact ⟨j + 1, by omega, by go_num, by rw [← fillL_set]; exact ho.set j j, hb.setCell (by simp) _⟩
      case measure => simp [intOf]; omega
    · obtain rfl : j = m + 1 := by omega
      rw [fillL_all] at ho
      have hz := hb.size
      simp at hz
      have hlo := ho.lt
      go_wp2_with fail
      refine (drawer_any _ _).mono ?_
      rintro e w1 ⟨rfl, rfl⟩
      go_wp2_with fail
      generalize hbc : wr.heap.size = bc
      have hoc : Own (wr.alloc (.cells #[.int .i64 i] 3)) bc [i] := ⟨3, by rw [← hbc, heap_alloc_new]; rfl⟩
      have hol : Own (wr.alloc (.cells #[.int .i64 i] 3)) (w.heap.size + 1) (idL (m + 1)) := ho.below (B := w.heap.size + 2) (Below.alloc (Below.refl _ _) (by omega) _) (by omega)
      have hb2 : Below (w.heap.size + 1) (w.alloc (.cells #[.int .u64 k] 33)) (wr.alloc (.cells #[.int .i64 i] 3)) := hb.alloc (by omega) _
      have hbcl : w.heap.size + 2 ≤ bc := by omega
      have hbcl2 : bc + 1 = (wr.alloc (.cells #[.int .i64 i] 3)).heap.size := by simp [hbc]
      have hlid : (idL (m + 1)).length = m + 1 := by simp [idL]
      clear hz hlo hb ho hbc
      generalize (wr.alloc (.cells #[.int .i64 i] 3)) = w2 at hoc hol hb2 hbcl2 ⊢
      clear hmk
      go_loopw [12, 13] (fun a p ws => ∃ (q : Nat) (l : List Int) (x : Int), q ≤ m ∧ p = .int .i64 q ∧ a = .int .i64 x ∧ 0 ≤ x ∧ x ≤ 1099511627776 ∧ l.length = m + 1 ∧ Hid (permR k i (m + 1) = permGo k q l x) ∧ Own ws (w.heap.size + 1) l ∧ Own ws bc [x] ∧ Below (w.heap.size + 1) (w.alloc (.cells #[.int .u64 k] 33)) ws) (fun _ p _ => (intOf p).toNat)
      case atStart => exact ⟨m, idL (m + 1), i, by omega, by go_num, rfl, h1, h2, hlid, Lib.hid rfl, hol, hoc, hb2⟩
      case round =>
        clear hol hoc hb2 hlid
        obtain ⟨q, l, x, hq, rfl, rfl, hx1, hx2, hl, hp, hol, hoc, hb2⟩ := hrel
        have HL := Lib.hid hl
        have hll : m + 1 ≤ l.length := by omega
        have hll2 : l.length ≤ m + 1 := by omega
        clear hl
        by_cases hq0 : 0 < q
        · obtain ⟨q', rfl⟩ : ∃ q', q = q' + 1 := ⟨q - 1, by omega⟩
          have hst : Stp wr := (h.of ((Below.refl _ _).alloc (Nat.le_refl _) _)).below (by omega) hb2
          have hbox := hb2.cell (p := ⟨w.heap.size, 0, none⟩) (by simp)
          cases hr : belowR k x ((q' : Int) + 1 + 1) with
          | none =>
            have HR := Lib.hid hr
            clear hr
            go_wp2_with fail
            with_reducible refine (draw_none k x ((q' : Int) + 1 + 1) bc wr hst hoc hx1 hx2 (by omega) (by omega) HR.out).mono ?_
            rintro e w3 ⟨rfl, hb3⟩
            go_wp2_with fail
            go_ret3
            have e1 : permR k i (m + 1) = none := by
              rw [hp.out]
              unfold permGo
              rw [HR.out]
            unfold Res
            rw [e1]
            have hsz := hb2.size
            simp at hsz
            exact ⟨((Below.refl _ _).alloc (Nat.le_refl _) _).trans ((hb2.trans (hb3.mono (by omega))).mono (by omega)), rfl⟩
          | some p =>
            obtain ⟨v, nx⟩ := p
            have hvr := below_range hr
            have HR := Lib.hid hr
            clear hr
            obtain ⟨v1, hv1⟩ : ∃ v1 : Nat, v = v1 := ⟨v.toNat, by omega⟩
            subst hv1
            have hv2 : v1 ≤ q' + 1 := by omega
            have hn1 := hvr.2.2.1
            have hn2 := hvr.2.2.2 hx1
            clear hvr
            go_wp2_with fail
            with_reducible refine (draw_some k x ((q' : Int) + 1 + 1) v1 nx bc wr hst hoc hx1 hx2 (by omega) (by omega) HR.out).mono ?_
            rintro e w3 ⟨rfl, hg3, hoc3⟩
            have hol3 := hol.grown hg3 (by omega)
            have hb3 : Below (w.heap.size + 1) wr w3 := below_of_grown hg3 (by omega) (by have := hb2.size; simp at this; omega)
            go_wp2_with fail
            have a1 : w3.cell? ⟨w.heap.size + 1, v1, none⟩ = some (.int .i64 (l.getD v1 0)) := hol3.cell v1 (by omega)
            have a2 : w3.cell? ⟨w.heap.size + 1, q' + 1, none⟩ = some (.int .i64 (l.getD (q' + 1) 0)) := hol3.cell (q' + 1) (by omega)
            have f1 := hol3.free v1
            have f2 := hol3.free (q' + 1)
            have HLS := Lib.hid (show swapL l v1 (q' + 1) = (l.set v1 (l.getD (q' + 1) 0)).set (q' + 1) (l.getD v1 0) from rfl)
            generalize l.getD v1 0 = xv at a1 HLS
            generalize l.getD (q' + 1) 0 = xp at a2 HLS
            have g1 : (v1 : Int) < (m : Int) + 1 := by omega
            have g2 : (q' : Int) + 1 < (m : Int) + 1 := by omega
            have g3 : 0 ≤ (q' : Int) + 1 := by omega
            obtain ⟨y1, hy1⟩ := cell?_setCell_some (w := w3) (p := ⟨w.heap.size + 1, v1, none⟩) (x := .int .i64 xp) (q := ⟨w.heap.size + 1, q' + 1, none⟩) (v := .int .i64 xp) a2
            obtain ⟨y2, hy2⟩ := cell?_setCell_some (w := w3) (p := ⟨w.heap.size + 1, q' + 1, none⟩) (x := .int .i64 xv) (q := ⟨w.heap.size + 1, v1, none⟩) (v := .int .i64 xv) a1
            clear hg3 hoc hol hbox hst
            go_region
            go_wp2_with fail
            go_roundw
            case rel =>
              have hs := ((hol3.set v1 xp).set (q' + 1) xv)
              rw [← HLS.out] at hs
              refine ⟨q', swapL l v1 (q' + 1), nx, by omega, by go_num, rfl, by omega, hn2, by rw [swapL_length]; exact HL.out, Lib.hid ?_, hs.block rfl, ((hoc3.other v1 (by omega)).other (q' + 1) (by omega)).block rfl, ?_⟩
              · rw [hp.out]
                show permGo k (q' + 1) l x = _
                rw [permGo, HR.out]
                rfl
              · exact (((hb2.trans hb3).setCell (by simp) _).setCell (by simp) _).trans ⟨rfl, rfl, rfl, Nat.le_refl _, fun _ _ => rfl⟩
            case measure => simp [intOf]
        · obtain rfl : q = 0 := by omega
          go_wp2_with fail
          go_ret3
          have e1 : permR k i (m + 1) = some (l, x) := hp.out
          unfold Res
          rw [e1]
          have hsz := hb2.size
          simp at hsz
          refine ⟨((Below.refl _ _).alloc (Nat.le_refl _) _).trans (hb2.mono (by omega)), _, rfl, .inr ⟨w.heap.size + 1, 0, m + 1, by rw [HL.out]; rfl, hol.lt, fun j hj => ?_⟩⟩
          rw [Nat.zero_add]
          exact hol.cell j hj
set_option maxHeartbeats 1000000 in
theorem perm_zero (k i : Int) (w : World) (h1 : 0 ≤ i) (h2 : i ≤ 1099511627776) :
    Calls Tryd.prog 27 #[.agg #[.int .u64 k], .int .i64 i, .int .i64 0] w fun e w' => Res w w' e (permR k i 0) := by
  have hmk : ∀ w : World, (Instr.makeSlice 26 (.int .i64 0) (.int .i64 0)).run Tryd.prog w = .ok (.slice (some ⟨w.heap.size, 0, none⟩) 0 0) (w.alloc (.cells (madeCells #[.int .i64 0] 0) 3)) := run_make_row' (P := Tryd.prog) 26 3 (.int .i64 0) 8 Tryd.underlying26 info3 rfl .i64 .i64 0 (by omega) (by omega)
  have hmf : ∀ (fn : Fn) (first cap : Array Value) (w : World), (Instr.makeFunc fn first cap).run Tryd.prog w = .ok (.func fn first cap) w := fun _ _ _ _ => rfl
  go_enter Tryd.func27, Tryd.ntmps27
  go_wp2_with fail
  refine (index_yes _ _ h1 h2).mono ?_
  rintro e w' ⟨rfl, rfl⟩
  go_wp2_with fail
  refine wp_loop_rounds 1 ?_
  rw [rounds_succ]
  go_wp2_with fail
  refine (drawer_any _ _).mono ?_
  rintro e w1 ⟨rfl, rfl⟩
  go_wp2_with fail
  refine wp_loop_rounds 1 ?_
  rw [rounds_succ]
  go_wp2_with fail
  go_ret3
  refine ⟨((((Below.refl _ _).alloc (Nat.le_refl _) _).alloc (by simp) _).alloc (by simp; omega) _), _, rfl, .inr ⟨w.heap.size + 1, 0, 0, rfl, by simp, fun j hj => by simp [idL] at hj⟩⟩
theorem perm_ok (k i : Int) (n : Nat) (w : World) (h : Stp w) (h1 : 0 ≤ i) (h2 : i ≤ 1099511627776) (hn : n ≤ 1000) :
    Calls Tryd.prog 27 #[.agg #[.int .u64 k], .int .i64 i, .int .i64 (n : Int)] w fun e w' => Res w w' e (permR k i n) := by
  cases n with
  | zero => exact perm_zero k i w h1 h2
  | succ m => exact perm_pos k i m w h h1 h2 (by omega)
set_option maxHeartbeats 1000000 in
theorem perm_no (k i n : Int) (w : World) (h : ¬ (0 ≤ i ∧ i ≤ 1099511627776) ∨ n < 0 ∨ 1000 < n) :
    Calls Tryd.prog 27 #[.agg #[.int .u64 k], .int .i64 i, .int .i64 n] w fun e w' => e = .returned (.tuple #[.slice none 0 0, .int .i64 0, .int .i64 2]) ∧ Below w.heap.size w w' := by
  by_cases hi : 0 ≤ i ∧ i ≤ 1099511627776
  · by_cases hn : n < 0
    · clear h
      go_enter Tryd.func27, Tryd.ntmps27
      go_wp2_with fail
      refine (index_yes _ _ hi.1 hi.2).mono ?_
      rintro e w' ⟨rfl, rfl⟩
      go_wp2_with fail
      go_ret3
      exact ⟨rfl, (Below.refl _ _).alloc (Nat.le_refl _) _⟩
    · have hn2 : 1000 < n := by
        rcases h with h | h | h
        · exact absurd hi h
        · exact absurd h hn
        · exact h
      clear h
      go_enter Tryd.func27, Tryd.ntmps27
      go_wp2_with fail
      refine (index_yes _ _ hi.1 hi.2).mono ?_
      rintro e w' ⟨rfl, rfl⟩
      go_wp2_with fail
      go_ret3
      exact ⟨rfl, (Below.refl _ _).alloc (Nat.le_refl _) _⟩
  · clear h
    go_enter Tryd.func27, Tryd.ntmps27
    go_wp2_with fail
    refine (index_no _ _ hi).mono ?_
    rintro e w' ⟨rfl, rfl⟩
    go_wp2_with fail
    go_ret3
    exact ⟨rfl, (Below.refl _ _).alloc (Nat.le_refl _) _⟩
end Go.Proofs.YthalafjbkmemhaaDoor
