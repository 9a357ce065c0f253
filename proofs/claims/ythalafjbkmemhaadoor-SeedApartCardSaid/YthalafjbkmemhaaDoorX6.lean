/- What trueOnes and Choose return, for every input. -/
import Derived.Test.YthalafjbkmemhaaDoorX5
namespace Go.Proofs.YthalafjbkmemhaaDoor
open Go Go.RowKit
set_option maxRecDepth 100000
theorem below_own {base : Nat} {W wr wx w2 : World} {e : TypeId} {size n : Nat} {v : Value} {xs : List Value} (hb : Below base W wr) (hown : wr.ownsRow base e size v n xs) (hx : Below base wr wx) (hg : wx.grownBy w2 v.ownBlock) (hbase : base ≤ wr.heap.size) : Below base W w2 :=
  (hb.trans hx).trans ⟨hg.os, hg.tape, hg.output, hg.size, fun k hk => hg.block k (by have := hx.size; omega) (fun e => by have := (hown.lt k e.symm).1; omega)⟩
theorem rd_of_own {w : World} {base : Nat} {v : Value} {l : List Int} (h : w.ownsRow base 3 1 v l.length (l.map (Value.int .i64))) : Rd w v l := by
  obtain ⟨_, ⟨rfl, hn⟩ | ⟨g, cap, cur, rfl, hb, hg, hnc, hcm, hcs, hx⟩⟩ := h
  · exact .inl ⟨rfl, List.eq_nil_of_length_eq_zero hn⟩
  · refine .inr ⟨g, 0, cap, rfl, (Array.getElem?_eq_some_iff.1 hg).1, fun i hi => ?_⟩
    have hx' := congrArg (fun l => l[i]?) hx
    rw [Nat.mul_one, List.getElem?_take_of_lt hi] at hx'
    simp only [World.cell?, hg, Nat.zero_add]
    rw [← Array.getElem?_toList, hx']
    simp [List.getD, hi]
def OwnB (w : World) (b : Nat) (l : List Bool) : Prop := ∃ t, w.heap[b]? = some (.cells (l.map Value.bool).toArray t (0, 0))
theorem OwnB.lt {w : World} {b : Nat} {l : List Bool} (h : OwnB w b l) : b < w.heap.size := by
  obtain ⟨t, h⟩ := h
  exact (Array.getElem?_eq_some_iff.1 h).1
theorem OwnB.cell {w : World} {b : Nat} {l : List Bool} (h : OwnB w b l) (i : Nat) (hi : i < l.length) : w.cell? ⟨b, i, none⟩ = some (.bool (l.getD i false)) := by
  obtain ⟨t, h⟩ := h
  simp [World.cell?, h, List.getD, hi]
theorem OwnB.free {w : World} {b : Nat} {l : List Bool} (h : OwnB w b l) (i : Nat) : w.frozen? ⟨b, i, none⟩ = false := by
  obtain ⟨t, h⟩ := h
  simp [World.frozen?, h]
theorem OwnB.block {w w' : World} {b : Nat} {l : List Bool} (h : OwnB w b l) (e : w'.heap[b]? = w.heap[b]?) : OwnB w' b l := by
  obtain ⟨t, h⟩ := h
  exact ⟨t, e.trans h⟩
theorem OwnB.below {w w' : World} {B b : Nat} {l : List Bool} (h : OwnB w b l) (hb : Below B w w') (hB : b < B) : OwnB w' b l := h.block (hb.block b hB)
theorem OwnB.grown {w w' : World} {b r : Nat} {l : List Bool} (h : OwnB w b l) (hg : w.grownBy w' (some r)) (hr : b ≠ r) : OwnB w' b l :=
  h.block (hg.block b h.lt (by simpa using hr))
theorem OwnB.set {w : World} {b : Nat} {l : List Bool} (h : OwnB w b l) (i : Nat) (x : Bool) : OwnB (w.setCell ⟨b, i, none⟩ (.bool x)) b (l.set i x) := by
  obtain ⟨t, h⟩ := h
  refine ⟨t, ?_⟩
  rw [heap_setCell_same w b i _ t _ h]
  simp [List.map_set]
def trueTo (l : List Bool) (k : Nat) : List Int := ((List.range k).filter fun j => l.getD j false).map fun j : Nat => (j : Int)
theorem trueTo_yes (l : List Bool) (k : Nat) (h : l.getD k false = true) : trueTo l (k + 1) = trueTo l k ++ [(k : Int)] := by
  rw [List.getD_eq_getElem?_getD] at h
  simp only [trueTo, List.range_succ, List.filter_append, List.map_append]
  simp [h]
theorem trueTo_no (l : List Bool) (k : Nat) (h : l.getD k false = false) : trueTo l (k + 1) = trueTo l k := by
  rw [List.getD_eq_getElem?_getD] at h
  simp only [trueTo, List.range_succ, List.filter_append, List.map_append]
  simp [h]
theorem trueTo_length (l : List Bool) (k : Nat) : (trueTo l k).length ≤ k := by
  simp only [trueTo, List.length_map]
  have := List.length_filter_le (fun j => l.getD j false) (List.range k)
  simpa using this
set_option maxHeartbeats 1000000 in
theorem trueOnes_any (b cap : Nat) (l : List Bool) (w : World) (h : OwnB w b l) (hl : l.length ≤ 1000) :
    Calls Tryd.prog 48 #[.slice (some ⟨b, 0, none⟩) l.length cap] w fun e w' => ∃ v, e = .returned v ∧ Rd w' v (trueTo l l.length) ∧ Below w.heap.size w w' := by
  obtain ⟨i0, hi, hz0, hz1, hz2⟩ := info_parts info3
  have hblt := h.lt
  go_enter Tryd.func48, Tryd.ntmps48
  go_wp2
  go_loopw [3, 8] (fun v a wr => ∃ k : Nat, k ≤ l.length ∧ a = .int .i64 k ∧ wr.ownsRow w.heap.size 3 1 v (trueTo l k).length ((trueTo l k).map (Value.int .i64)) ∧ Below w.heap.size w wr) (fun _ a _ => l.length - (intOf a).toNat)
  case atStart => exact ⟨0, Nat.zero_le _, rfl, World.ownsRow_nil _ _ _ _, Below.refl _ _⟩
  case round =>
    obtain ⟨k, hk, rfl, hown, hb⟩ := hrel
    have hbs := hb.size
    by_cases hlt : k < l.length
    · have hc := (h.below hb hblt).cell k hlt
      have T1 := Lib.hid (trueTo_yes l k)
      have T0 := Lib.hid (trueTo_no l k)
      have TL := trueTo_length l k
      cases hg : l.getD k false
      · rw [hg] at hc
        have HT := Lib.hid (T0.out hg)
        clear T0 T1 hg
        go_wp2
        go_roundw
        case rel => exact ⟨k + 1, by omega, by go_num, by rw [HT.out]; exact hown, hb⟩
        case measure => simp [intOf]; omega
      · rw [hg] at hc
        have HT := Lib.hid (T1.out hg)
        clear T0 T1 hg
        go_wp2_with (at_builtin; refine wpList_append_own _ rfl _ _ 26 rfl w.heap.size 3 i0 (.int .i64 0) 1 8 Tryd.underlying26 hi hz0 hz1 hz2 rfl (by decide) _ _ _ rfl (hown.alloc _) ⟨wr.heap.size, 0, none⟩ 1 1 [.int .i64 (k : Int)] rfl rfl ?c1 ?c2 ?c3 ?c4 ?c5 ?_)
        case c1 => exact (cell_one_new _ _ _)
        case c2 => simp [Value.oneCell']
        case c3 => unfold maxLen; omega
        case c4 => omega
        case c5 => simp; omega
        intro v' w1 hown' hgrow _
        have hb2 := below_own hb hown ((Below.refl _ _).alloc hbs _) hgrow hbs
        have hown2 : w1.ownsRow w.heap.size 3 1 v' (trueTo l (k + 1)).length ((trueTo l (k + 1)).map (Value.int .i64)) := by
          rw [HT.out]
          simpa using hown'
        clear hown' hgrow hown
        go_wp2
        go_roundw
        case rel => exact ⟨k + 1, by omega, by go_num, hown2, hb2⟩
        case measure => simp [intOf]; omega
    · obtain rfl : k = l.length := by omega
      go_wp2
      go_ret
      exact ⟨_, rfl, rd_of_own hown, hb⟩
theorem info4 : (Tryd.prog.info? 4).map (fun i => (i.zero, i.size, i.bytes)) = some (some (.bool false), 1, 1) := by kernel_rfl
theorem ownB_made (w : World) (n : Nat) : OwnB (w.alloc (.cells (madeCells #[.bool false] n) 4)) w.heap.size (List.replicate n false) := by
  refine ⟨4, ?_⟩
  rw [heap_alloc_new]
  congr 2
  apply Array.ext
  · simp [madeCells]
  · intro i h1 h2
    simp [madeCells, Nat.mod_one]
def chooseGo (key : Int) : Nat → Nat → List Bool → Int → Option (List Bool × Int)
  | 0, _, l, i => some (l, i)
  | f + 1, m, l, i => match belowR key i ((m : Int) + 1) with
    | none => none
    | some (v, nx) => chooseGo key f (m + 1) (l.set (if l.getD v.toNat false = true then m else v.toNat) true) nx
def chooseR (key i : Int) (n k : Nat) : Option (List Int × Int) := match chooseGo key k (n - k) (List.replicate n false) i with
  | none => none
  | some (l, nx) => some (trueTo l n, nx)
set_option maxHeartbeats 2000000 in
theorem choose_at (key i : Int) (d k : Nat) (w : World) (h : Stp w) (h1 : 0 ≤ i) (h2 : i ≤ 1099511627776) (hn : d + k ≤ 1000) :
    Calls Tryd.prog 30 #[.agg #[.int .u64 key], .int .i64 i, .int .i64 (d + k : Nat), .int .i64 k] w fun e w' => Res w w' e (chooseR key i (d + k) k) := by
  have hmk := run_make_row' (P := Tryd.prog) 74 4 (.bool false) 1 Tryd.underlying74 info4 rfl .i64 .i64 (d + k) (by omega) (by omega)
  have ec : ((d + k : Nat) : Int) = (d : Int) + k := by omega
  rw [ec] at hmk
  have hmf : ∀ (fn : Fn) (first cap : Array Value) (w : World), (Instr.makeFunc fn first cap).run Tryd.prog w = .ok (.func fn first cap) w := fun _ _ _ _ => rfl
  have b1 : ¬ (1000 : Int) < (d : Int) + k := by omega
  have b2 : ¬ ((d : Int) + k < k) := by omega
  clear ec
  go_enter Tryd.func30, Tryd.ntmps30
  go_wp2_with fail
  refine (index_yes _ _ h1 h2).mono ?_
  rintro e w' ⟨rfl, rfl⟩
  go_wp2_with fail
  refine (drawer_any _ _).mono ?_
  rintro e w1 ⟨rfl, rfl⟩
  go_wp2_with fail
  have hoc : Own (((w.alloc (.cells #[.int .u64 key] 33)).alloc (.cells (madeCells #[.bool false] (d + k)) 4)).alloc (.cells #[.int .i64 i] 3)) (w.heap.size + 1 + 1) [i] := by
    refine ⟨3, ?_⟩
    have := heap_alloc_new ((w.alloc (.cells #[.int .u64 key] 33)).alloc (.cells (madeCells #[.bool false] (d + k)) 4)) (.cells #[.int .i64 i] 3)
    simpa using this
  have hol : OwnB (((w.alloc (.cells #[.int .u64 key] 33)).alloc (.cells (madeCells #[.bool false] (d + k)) 4)).alloc (.cells #[.int .i64 i] 3)) (w.heap.size + 1) (List.replicate (d + k) false) := by
    have h := ownB_made (w.alloc (.cells #[.int .u64 key] 33)) (d + k)
    have h' := h.below (Below.alloc (Below.refl _ _) (Nat.le_refl _) (.cells #[.int .i64 i] 3)) (by simp)
    simpa using h'
  have hb2 : Below (w.heap.size + 1) (w.alloc (.cells #[.int .u64 key] 33)) (((w.alloc (.cells #[.int .u64 key] 33)).alloc (.cells (madeCells #[.bool false] (d + k)) 4)).alloc (.cells #[.int .i64 i] 3)) :=
    Below.alloc (Below.alloc (Below.refl _ _) (by simp) _) (by simp) _
  have hlid : (List.replicate (d + k) false).length = d + k := by simp
  generalize (((w.alloc (.cells #[.int .u64 key] 33)).alloc (.cells (madeCells #[.bool false] (d + k)) 4)).alloc (.cells #[.int .i64 i] 3)) = w2 at hoc hol hb2 ⊢
  clear hmk
  go_loopw [13, 14] (fun a p wr => ∃ (f m : Nat) (l : List Bool) (x : Int), f + m = d + k ∧ p = .int .i64 m ∧ a = .int .i64 x ∧ 0 ≤ x ∧ x ≤ 1099511627776 ∧ l.length = d + k ∧ Hid (chooseGo key k d (List.replicate (d + k) false) i = chooseGo key f m l x) ∧ OwnB wr (w.heap.size + 1) l ∧ Own wr (w.heap.size + 1 + 1) [x] ∧ Below (w.heap.size + 1) (w.alloc (.cells #[.int .u64 key] 33)) wr) (fun _ p _ => (d + k - (intOf p)).toNat)
  case atStart => exact ⟨k, d, List.replicate (d + k) false, i, by omega, rfl, rfl, h1, h2, hlid, Lib.hid rfl, hol, hoc, hb2⟩
  case round =>
    clear hol hoc hb2 hlid
    obtain ⟨f, m, l, x, hfm, rfl, rfl, hx1, hx2, hl, hp, hol, hoc, hb2⟩ := hrel
    have HL := Lib.hid hl
    have HF := Lib.hid hfm
    have hll : d + k ≤ l.length := by omega
    have hll2 : l.length ≤ d + k := by omega
    clear hl hfm
    by_cases hf0 : m < d + k
    · obtain ⟨f', rfl⟩ : ∃ f', f = f' + 1 := ⟨f - 1, by have := HF.out; omega⟩
      have hst : Stp wr := (h.of ((Below.refl _ _).alloc (Nat.le_refl _) _)).below (by omega) hb2
      have hbox := hb2.cell (p := ⟨w.heap.size, 0, none⟩) (by simp)
      have hmi : (m : Int) < (d : Int) + k := by omega
      cases hr : belowR key x ((m : Int) + 1) with
      | none =>
        have HR := Lib.hid hr
        clear hr
        go_wp2_with fail
        with_reducible refine (draw_none key x ((m : Int) + 1) (w.heap.size + 1 + 1) wr hst hoc hx1 hx2 (by omega) (by omega) HR.out).mono ?_
        rintro e w3 ⟨rfl, hb3⟩
        go_wp2_with fail
        go_ret3
        have e1 : chooseR key i (d + k) k = none := by
          unfold chooseR
          rw [show d + k - k = d from by omega, hp.out]
          unfold chooseGo
          rw [HR.out]
        unfold Res
        rw [e1]
        have hsz := hb2.size
        simp at hsz
        exact ⟨((Below.refl _ _).alloc (Nat.le_refl _) _).trans ((hb2.trans (hb3.mono (by omega))).mono (by omega)), rfl⟩
      | some p =>
        obtain ⟨v, nx⟩ := p
        have hvr := below_range hr
        have HR := Lib.hid hr
        clear hr
        obtain ⟨v1, hv1⟩ : ∃ v1 : Nat, v = v1 := ⟨v.toNat, by omega⟩
        subst hv1
        have hv2 : v1 < d + k := by omega
        have hn1 := hvr.2.2.1
        have hn2 := hvr.2.2.2 hx1
        clear hvr
        go_wp2_with fail
        with_reducible refine (draw_some key x ((m : Int) + 1) v1 nx (w.heap.size + 1 + 1) wr hst hoc hx1 hx2 (by omega) (by omega) HR.out).mono ?_
        rintro e w3 ⟨rfl, hg3, hoc3⟩
        have hol3 := hol.grown hg3 (by omega)
        have hb3 : Below (w.heap.size + 1) wr w3 := below_of_grown hg3 (by omega) (by have := hb2.size; simp at this; omega)
        have a1 := hol3.cell v1 (by omega)
        have a2 := hol3.cell m (by omega)
        have f1 := hol3.free v1
        have f2 := hol3.free m
        have g1 : (v1 : Int) < (d : Int) + k := by omega
        have HS := Lib.hid (show chooseGo key (f' + 1) m l x = chooseGo key f' (m + 1) (l.set (if l.getD v1 false = true then m else v1) true) nx by rw [chooseGo, HR.out]; rfl)
        clear hg3 hoc hol hbox hst
        cases hg : l.getD v1 false
        · rw [hg] at a1
          have HG := Lib.hid hg
          clear hg
          go_wp2_with fail
          go_roundw
          case rel =>
            refine ⟨f', m + 1, l.set v1 true, nx, by have := HF.out; omega, by go_num, rfl, by omega, hn2, by simp; exact HL.out, Lib.hid ?_, hol3.set v1 true, hoc3.other v1 (by omega), (hb2.trans hb3).setCell (by simp) _⟩
            rw [hp.out, HS.out, HG.out]
            rfl
          case measure => simp [intOf]; omega
        · rw [hg] at a1
          have HG := Lib.hid hg
          clear hg
          go_wp2_with fail
          go_roundw
          case rel =>
            refine ⟨f', m + 1, l.set m true, nx, by have := HF.out; omega, by go_num, rfl, by omega, hn2, by simp; exact HL.out, Lib.hid ?_, hol3.set m true, hoc3.other m (by omega), (hb2.trans hb3).setCell (by simp) _⟩
            rw [hp.out, HS.out, HG.out]
            rfl
          case measure => simp [intOf]; omega
    · obtain rfl : f = 0 := by have := HF.out; omega
      have hmi : ¬ (m : Int) < (d : Int) + k := by have := HF.out; omega
      have hlen := HL.out
      have tl := trueOnes_any (w.heap.size + 1) (d + k) l wr hol (by omega)
      rw [hlen] at tl
      have HT := Lib.hid tl
      clear tl hlen
      go_wp2_with fail
      refine HT.out.mono ?_
      rintro e w3 ⟨v, rfl, hrd, hb3⟩
      go_wp2_with fail
      go_ret3
      have e1 : chooseR key i (d + k) k = some (trueTo l (d + k), x) := by
        unfold chooseR
        rw [show d + k - k = d from by omega, hp.out]
        rfl
      unfold Res
      rw [e1]
      have hsz := hb2.size
      simp at hsz
      exact ⟨((Below.refl _ _).alloc (Nat.le_refl _) _).trans ((hb2.trans (hb3.mono (by omega))).mono (by omega)), v, rfl, hrd⟩
theorem choose_ok (key i : Int) (n k : Nat) (w : World) (h : Stp w) (h1 : 0 ≤ i) (h2 : i ≤ 1099511627776) (hn : n ≤ 1000) (hk : k ≤ n) :
    Calls Tryd.prog 30 #[.agg #[.int .u64 key], .int .i64 i, .int .i64 n, .int .i64 k] w fun e w' => Res w w' e (chooseR key i n k) := by
  obtain ⟨d, rfl⟩ : ∃ d, n = d + k := ⟨n - k, by omega⟩
  exact choose_at key i d k w h h1 h2 hn
set_option maxHeartbeats 1000000 in
theorem choose_no (key i n k : Int) (w : World) (h : ¬ (0 ≤ i ∧ i ≤ 1099511627776) ∨ 1000 < n ∨ k < 0 ∨ n < k) :
    Calls Tryd.prog 30 #[.agg #[.int .u64 key], .int .i64 i, .int .i64 n, .int .i64 k] w fun e w' => e = .returned (.tuple #[.slice none 0 0, .int .i64 0, .int .i64 2]) ∧ Below w.heap.size w w' := by
  by_cases hi : 0 ≤ i ∧ i ≤ 1099511627776
  · by_cases hn : 1000 < n
    · clear h
      go_enter Tryd.func30, Tryd.ntmps30
      go_wp2_with fail
      refine (index_yes _ _ hi.1 hi.2).mono ?_
      rintro e w' ⟨rfl, rfl⟩
      go_wp2_with fail
      go_ret3
      exact ⟨rfl, (Below.refl _ _).alloc (Nat.le_refl _) _⟩
    · by_cases hk : k < 0
      · clear h
        go_enter Tryd.func30, Tryd.ntmps30
        go_wp2_with fail
        refine (index_yes _ _ hi.1 hi.2).mono ?_
        rintro e w' ⟨rfl, rfl⟩
        go_wp2_with fail
        go_ret3
        exact ⟨rfl, (Below.refl _ _).alloc (Nat.le_refl _) _⟩
      · have hkn : n < k := by
          rcases h with h | h | h | h
          · exact absurd hi h
          · exact absurd h hn
          · exact absurd h hk
          · exact h
        clear h
        go_enter Tryd.func30, Tryd.ntmps30
        go_wp2_with fail
        refine (index_yes _ _ hi.1 hi.2).mono ?_
        rintro e w' ⟨rfl, rfl⟩
        go_wp2_with fail
        go_ret3
        exact ⟨rfl, (Below.refl _ _).alloc (Nat.le_refl _) _⟩
  · clear h
    go_enter Tryd.func30, Tryd.ntmps30
    go_wp2_with fail
    refine (index_no _ _ hi).mono ?_
    rintro e w' ⟨rfl, rfl⟩
    go_wp2_with fail
    go_ret3
    exact ⟨rfl, (Below.refl _ _).alloc (Nat.le_refl _) _⟩
end Go.Proofs.YthalafjbkmemhaaDoor
