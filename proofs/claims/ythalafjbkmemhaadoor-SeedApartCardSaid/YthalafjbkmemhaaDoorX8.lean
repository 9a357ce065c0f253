/- The examples of the chapter hold: awake returns true. -/
import Derived.Test.YthalafjbkmemhaaDoorX7
namespace Go.Proofs.YthalafjbkmemhaaDoor
open Go Go.RowKit
set_option maxRecDepth 100000
theorem ex_choose : chooseR (mixI 5) 0 (4 : Int).toNat (4 : Int).toNat = some ([0, 1, 2, 3], 4) := by decide +kernel
theorem ex_weigh : weighR (mixI 5) 0 [0, 5, 0] = some (1, 1) := by decide +kernel
theorem ex_perm (k : Int) : permR k 3 (1 : Int).toNat = some ([0], 3) := rfl
theorem ex_unmix : unmixI (mixI 5) = 5 := by decide +kernel
theorem ex_full (k : Int) : belowR k 1099511627776 6 = none := belowR_end k 6
theorem perm_int (k i n : Int) (w : World) (h : Stp w) (h1 : 0 ≤ i) (h2 : i ≤ 1099511627776) (h3 : 0 ≤ n) (h4 : n ≤ 1000) :
    Calls Tryd.prog 27 #[.agg #[.int .u64 k], .int .i64 i, .int .i64 n] w fun e w' => Res w w' e (permR k i n.toNat) := by
  obtain ⟨m, rfl⟩ := Int.eq_ofNat_of_zero_le h3
  exact perm_ok k i m w h h1 h2 (by omega)
theorem choose_int (key i n k : Int) (w : World) (h : Stp w) (h1 : 0 ≤ i) (h2 : i ≤ 1099511627776) (h3 : n ≤ 1000) (h4 : 0 ≤ k) (h5 : k ≤ n) :
    Calls Tryd.prog 30 #[.agg #[.int .u64 key], .int .i64 i, .int .i64 n, .int .i64 k] w fun e w' => Res w w' e (chooseR key i n.toNat k.toNat) := by
  obtain ⟨m, rfl⟩ := Int.eq_ofNat_of_zero_le (show 0 ≤ n by omega)
  obtain ⟨j, rfl⟩ := Int.eq_ofNat_of_zero_le h4
  exact choose_ok key i m j w h h1 h2 (by omega) (by omega)
structure AW (w : World) (g : Nat) (W : World) : Prop where
  stp : Stp W
  cell : W.cell? ⟨g, 0, none⟩ = some (.int .u64 (mixI 5))
  below : Below w.heap.size w W
  lt : g < W.heap.size
theorem AW.next {w W W' : World} {g : Nat} (h : AW w g W) (hb : Below W.heap.size W W') : AW w g W' :=
  ⟨h.stp.of hb, (hb.cell (p := ⟨g, 0, none⟩) h.lt).trans h.cell, h.below.trans (hb.mono h.below.size), Nat.lt_of_lt_of_le h.lt hb.size⟩
theorem cell_new (w : World) (cs : Array Value) (t : TypeId) (i : Nat) : (w.alloc (.cells cs t)).cell? ⟨w.heap.size, i, none⟩ = cs[i]? := by
  simp only [World.cell?, heap_alloc_new]
  rfl
theorem rd_new (w : World) (l : List Int) (t : TypeId) : Rd (w.alloc (.cells (l.map (Value.int .i64)).toArray t)) (.slice (some ⟨w.heap.size, 0, none⟩) l.length l.length) l := by
  refine .inr ⟨w.heap.size, 0, l.length, rfl, by simp, fun i hi => ?_⟩
  simp only [World.cell?, heap_alloc_new, Nat.zero_add]
  simp [List.getD, hi]
set_option maxHeartbeats 4000000 in
theorem awake_any (w : World) (h : Stp w) :
    Calls Tryd.prog 13 #[] w fun e w' => e = .returned (.bool true) ∧ Below w.heap.size w w' := by
  have r1 : restV 18446744073709551609 10 = 9 := by decide +kernel
  have r2 : restB 18446744073709551609 10 = true := by decide +kernel
  have r3 : restV 18446744073709551610 10 = 0 := by decide +kernel
  have r4 : restB 18446744073709551610 10 = false := by decide +kernel
  have r6 : restB 7 0 = false := by decide +kernel
  have c1 := fun w => rest_any 18446744073709551609 10 w (by omega) (by omega)
  have c2 := fun w => rest_any 18446744073709551610 10 w (by omega) (by omega)
  have c3 := fun w => rest_any 7 0 w (by omega) (by omega)
  rw [r1, r2] at c1
  rw [r3, r4] at c2
  rw [r6] at c3
  have C1 := Lib.hid c1
  have C2 := Lib.hid c2
  have C3 := Lib.hid c3
  clear c1 c2 c3 r1 r2 r3 r4 r6
  go_enter Tryd.func13, Tryd.ntmps13
  go_wp2_with fail
  with_reducible refine (C1.out _).mono ?_
  rintro e w' ⟨rfl, rfl⟩
  go_wp2_with fail
  with_reducible refine (C2.out _).mono ?_
  rintro e w' ⟨rfl, rfl⟩
  go_wp2_with fail
  with_reducible refine (C3.out _).mono ?_
  rintro e w' ⟨rfl, rfl⟩
  go_wp2_with fail
  refine (new_any _ _ h).mono ?_
  rintro e w1 ⟨rfl, hb1⟩
  go_wp2_with fail
  have hA : AW w w1.heap.size (w1.alloc (.cells #[.int .u64 (mixI 5)] 33)) := by
    have hb : Below w1.heap.size w1 (w1.alloc (.cells #[.int .u64 (mixI 5)] 33)) := Below.alloc (Below.refl _ _) (Nat.le_refl _) _
    exact ⟨(h.of hb1).of hb, by rw [cell_new]; rfl, hb1.trans (hb.mono hb1.size), by simp⟩
  generalize (w1.alloc (.cells #[.int .u64 (mixI 5)] 33)) = W1 at hA ⊢
  generalize w1.heap.size = g at hA ⊢
  clear hb1
  with_reducible refine (perm_int (mixI 5) 3 1 W1 hA.stp (by omega) (by omega) (by omega) (by omega)).mono ?_
  rintro e W2 ⟨hb2, hr⟩
  rw [ex_perm] at hr
  obtain ⟨v1, rfl, hv1⟩ := hr
  have hA2 := hA.next hb2
  clear hA hb2
  have k2 := hA2.cell
  go_wp2_with fail
  with_reducible refine (choose_int (mixI 5) 0 4 4 W2 hA2.stp (by omega) (by omega) (by omega) (by omega) (by omega)).mono ?_
  rintro e W3 ⟨hb3, hr⟩
  rw [ex_choose] at hr
  obtain ⟨v2, rfl, hv2⟩ := hr
  have hA3 := hA2.next hb3
  have hv1' := hv1.below hb3 (Nat.le_refl _)
  clear hA2 hb3 k2 hv1
  have k3 := hA3.cell
  go_wp2_with fail
  have hw3 := rd_new W3 [0, 5, 0] 3
  have hn3 : Below W3.heap.size W3 (W3.alloc (.cells ([0, 5, 0].map (Value.int .i64)).toArray 3)) := Below.alloc (Below.refl _ _) (Nat.le_refl _) _
  have hA4 := hA3.next hn3
  have hv1'' := hv1'.below hn3 (Nat.le_refl _)
  have hv2' := hv2.below hn3 (Nat.le_refl _)
  have cw := weigh_ok (mixI 5) 0 _ [0, 5, 0] _ hA4.stp hw3 (by omega) (by omega) (by decide)
  rw [ex_weigh] at cw
  simp only [bV, bN, bE] at cw
  have CW := Lib.hid cw
  clear cw hw3 hn3 hA3 hv1' hv2
  refine CW.out.mono ?_
  rintro e W4 ⟨rfl, hb4⟩
  have hA5 := hA4.next hb4
  have p1 := hv1''.below hb4 (Nat.le_refl _)
  have p2 := hv2'.below hb4 (Nat.le_refl _)
  clear hv1'' hv2' hb4 hA4 k3
  have k4 := hA5.cell
  go_wp2_with fail
  with_reducible refine (word_no (mixI 5) 1099511627776 W4 (by omega)).mono ?_
  rintro e W5 ⟨rfl, hb5⟩
  have hA6 := hA5.next hb5
  have p3 := p1.below hb5 (Nat.le_refl _)
  have p4 := p2.below hb5 (Nat.le_refl _)
  clear p1 p2 hb5 hA5 k4
  have k5 := hA6.cell
  go_wp2_with fail
  with_reducible refine (below_none (mixI 5) 1099511627776 6 W5 hA6.stp (by omega) (by omega) (by omega) (by omega) (ex_full _)).mono ?_
  rintro e W6 ⟨rfl, hb6⟩
  have hA7 := hA6.next hb6
  have p5 := p3.below hb6 (Nat.le_refl _)
  have p6 := p4.below hb6 (Nat.le_refl _)
  clear p3 p4 hb6 hA6 k5
  go_wp2_with fail
  with_reducible refine (mix_any 5 W6 hA7.stp).mono ?_
  rintro e W7 ⟨rfl, hb7⟩
  have hA8 := hA7.next hb7
  have p7 := p5.below hb7 (Nat.le_refl _)
  have p8 := p6.below hb7 (Nat.le_refl _)
  clear p5 p6 hb7 hA7
  go_wp2_with fail
  have cu := unmix_any (mixI 5) W7 hA8.stp
  rw [ex_unmix] at cu
  with_reducible refine cu.mono ?_
  clear cu
  rintro e W8 ⟨rfl, hb8⟩
  have hA9 := hA8.next hb8
  have q1 := p7.below hb8 (Nat.le_refl _)
  have q2 := p8.below hb8 (Nat.le_refl _)
  clear p7 p8 hb8 hA8
  go_wp2_with fail
  have n1 : Below W8.heap.size W8 (W8.alloc (.cells ([0].map (Value.int .i64)).toArray 3)) := Below.alloc (Below.refl _ _) (Nat.le_refl _) _
  have s1 := same_any _ _ [0] [0] _ (q1.below n1 (Nat.le_refl _)) (rd_new W8 [0] 3) (by decide) (by decide)
  have hA10 := hA9.next n1
  have q2' := q2.below n1 (Nat.le_refl _)
  clear n1 q1 q2 hA9
  refine s1.mono ?_
  clear s1
  rintro e W9 ⟨rfl, hb9⟩
  have hA11 := hA10.next hb9
  have q3 := q2'.below hb9 (Nat.le_refl _)
  clear hb9 hA10 q2'
  have d1 : decide ([0] = [(0 : Int)]) = true := by decide
  rw [d1]
  clear d1
  go_wp2_with fail
  have n2 : Below W9.heap.size W9 (W9.alloc (.cells ([0, 1, 2, 3].map (Value.int .i64)).toArray 3)) := Below.alloc (Below.refl _ _) (Nat.le_refl _) _
  have s2 := same_any _ _ [0, 1, 2, 3] [0, 1, 2, 3] _ (q3.below n2 (Nat.le_refl _)) (rd_new W9 [0, 1, 2, 3] 3) (by decide) (by decide)
  have hA12 := hA11.next n2
  clear n2 q3 hA11
  refine s2.mono ?_
  clear s2
  rintro e W10 ⟨rfl, hb10⟩
  have hB := (hA12.next hb10).below
  have d1 : decide ([0, 1, 2, 3] = [(0 : Int), 1, 2, 3]) = true := by decide
  rw [d1]
  clear d1 hb10 hA12
  go_wp2_with fail
  go_ret
  exact ⟨rfl, hB⟩
end Go.Proofs.YthalafjbkmemhaaDoor
