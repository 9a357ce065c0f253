/- What the statement's own check of lists at their limits returns. -/
import Derived.Test.YthalafjbkmemhaaDoorW5
namespace Go.Proofs.YthalafjbkmemhaaDoor
open Go Go.RowKit
set_option maxRecDepth 100000
def zeros : List Int := List.replicate 1001 0
theorem zeros_length : zeros.length = 1001 := by simp [zeros]
theorem rd_own {w : World} {b : Nat} {L : List Int} (h : Own w b L) (n cap : Nat) (hn : n ≤ L.length) : RdW w (.slice (some ⟨b, 0, none⟩) n cap) (L.take n) := by
  have e : (L.take n).length = n := by rw [List.length_take]; omega
  refine .inl (.inr ⟨b, 0, cap, by rw [e], h.lt, fun i hi => ?_⟩)
  rw [e] at hi
  rw [Nat.zero_add, h.cell i (by omega)]
  rw [List.getD_eq_getElem?_getD, List.getD_eq_getElem?_getD, List.getElem?_take_of_lt hi]
theorem rd_step (W0 : World) (l : List Int) (Wf : World) (g : Nat) (hb : Below (W0.heap.size + 1) (W0.alloc (.cells (l.map (Value.int .i64)).toArray 3)) Wf) (hg : W0.heap.size = g) : RdW Wf (.slice (some ⟨g, 0, none⟩) l.length l.length) l := by
  subst hg
  exact .inl ((rd_new W0 l 3).below hb (by simp))
set_option maxHeartbeats 4000000 in
theorem lists_any (w : World) (h : Stp w) :
    Calls Tryd.prog 17 #[] w fun e w' => e = .returned (.bool true) ∧ Below w.heap.size w w' := by
  have hmk : ∀ w : World, (Instr.makeSlice 26 (.int .i64 1001) (.int .i64 1001)).run Tryd.prog w = .ok (.slice (some ⟨w.heap.size, 0, none⟩) 1001 1001) (w.alloc (.cells (madeCells #[.int .i64 0] 1001) 3)) := run_make_row' (P := Tryd.prog) 26 3 (.int .i64 0) 8 Tryd.underlying26 info3 rfl .i64 .i64 1001 (by omega) (by omega)
  go_enter Tryd.func17, Tryd.ntmps17
  go_wp2_with fail
  have ho1 : Own (w.alloc (.cells (madeCells #[.int .i64 0] 1001) 3)) w.heap.size zeros := own_made w 1001
  have hb1 : Below w.heap.size w (w.alloc (.cells (madeCells #[.int .i64 0] 1001) 3)) := Below.alloc (Below.refl _ _) (Nat.le_refl _) _
  have hgw : w.heap.size < (w.alloc (.cells (madeCells #[.int .i64 0] 1001) 3)).heap.size := by simp
  clear hmk
  generalize (w.alloc (.cells (madeCells #[.int .i64 0] 1001) 3)) = w1 at ho1 hb1 hgw ⊢
  have zl := zeros_length
  have ZL := Lib.hid zl
  clear zl
  have A1 := Lib.hid (weighs_any 1 0 _ _ w1 (h.of hb1) (rd_own ho1 1001 1001 (by rw [ZL.out]; exact Nat.le_refl _)) (by rw [List.length_take]; omega))
  refine A1.out.mono ?_
  rintro e w2 ⟨rfl, hb2⟩
  have ho2 := ho1.below hb2 hgw
  have hB2 : Below w.heap.size w w2 := hb1.trans (hb2.mono hb1.size)
  clear A1 hb2 hb1 ho1 hgw
  go_wp2_with fail
  have A2 := Lib.hid (weighs_any 1 0 _ _ w2 (h.of hB2) (rd_own ho2 1000 1001 (by rw [ZL.out]; omega)) (by rw [List.length_take]; omega))
  refine A2.out.mono ?_
  rintro e w3 ⟨rfl, hb3⟩
  have ho3 := ho2.below hb3 ho2.lt
  have hB3 : Below w.heap.size w w3 := hB2.trans (hb3.mono hB2.size)
  clear A2 hb3 hB2 ho2
  have c1 := ho3.cell 999 (by rw [ZL.out]; omega)
  have f1 := ho3.free 999
  generalize zeros.getD 999 0 = z9 at c1
  go_wp2_with fail
  obtain ⟨V0, hV0⟩ : ∃ V, w3.setCell ⟨w.heap.size, 999, none⟩ (.int .i64 1) = V := ⟨_, rfl⟩
  rw [hV0]
  have ho4 : Own V0 w.heap.size (zeros.set 999 1) := by rw [← hV0]; exact ho3.set 999 1
  have e0 : V0.heap.size = w3.heap.size := by rw [← hV0]; simp
  have hB4 : Below w.heap.size w V0 := by rw [← hV0]; exact hB3.setCell (Nat.le_refl _) _
  have zl4 : (zeros.set 999 1).length = 1001 := by rw [List.length_set]; exact ZL.out
  have ra := rd_own ho4 1000 1001 (by omega)
  have rb := rd_own ho4 1001 1001 (by omega)
  clear ho3 hB3 c1 f1 hV0
  obtain ⟨V1, hV1⟩ : ∃ V, V0.alloc (.cells #[.int .i64 0] 3) = V := ⟨_, rfl⟩
  rw [hV1]
  have s1 : V1.heap.size = V0.heap.size + 1 := by rw [← hV1]; simp
  have b1 : Below V0.heap.size V0 V1 := by rw [← hV1]; exact Below.alloc (Below.refl _ _) (Nat.le_refl _) _
  have r1 : RdW V1 (.slice (some ⟨V0.heap.size, 0, none⟩) 1 1) [0] := by rw [← hV1]; exact .inl (rd_new V0 [0] 3)
  clear hV1
  obtain ⟨V2, hV2⟩ : ∃ V, V1.alloc (.cells #[.int .i64 1] 3) = V := ⟨_, rfl⟩
  rw [hV2]
  have s2 : V2.heap.size = V1.heap.size + 1 := by rw [← hV2]; simp
  have b2 : Below V1.heap.size V1 V2 := by rw [← hV2]; exact Below.alloc (Below.refl _ _) (Nat.le_refl _) _
  have r2 : RdW V2 (.slice (some ⟨V1.heap.size, 0, none⟩) 1 1) [1] := by rw [← hV2]; exact .inl (rd_new V1 [1] 3)
  clear hV2
  obtain ⟨V3, hV3⟩ : ∃ V, V2.alloc (.cells #[.int .i64 (-1), .int .i64 5] 3) = V := ⟨_, rfl⟩
  rw [hV3]
  have s3 : V3.heap.size = V2.heap.size + 1 := by rw [← hV3]; simp
  have b3 : Below V2.heap.size V2 V3 := by rw [← hV3]; exact Below.alloc (Below.refl _ _) (Nat.le_refl _) _
  have r3 : RdW V3 (.slice (some ⟨V2.heap.size, 0, none⟩) 2 2) [-1, 5] := by rw [← hV3]; exact .inl (rd_new V2 [-1, 5] 3)
  clear hV3
  obtain ⟨V4, hV4⟩ : ∃ V, V3.alloc (.cells #[.int .i64 5, .int .i64 (-1)] 3) = V := ⟨_, rfl⟩
  rw [hV4]
  have s4 : V4.heap.size = V3.heap.size + 1 := by rw [← hV4]; simp
  have b4 : Below V3.heap.size V3 V4 := by rw [← hV4]; exact Below.alloc (Below.refl _ _) (Nat.le_refl _) _
  have r4 : RdW V4 (.slice (some ⟨V3.heap.size, 0, none⟩) 2 2) [5, -1] := by rw [← hV4]; exact .inl (rd_new V3 [5, -1] 3)
  clear hV4
  obtain ⟨V5, hV5⟩ : ∃ V, V4.alloc (.cells #[.int .i64 1099511627776] 3) = V := ⟨_, rfl⟩
  rw [hV5]
  have s5 : V5.heap.size = V4.heap.size + 1 := by rw [← hV5]; simp
  have b5 : Below V4.heap.size V4 V5 := by rw [← hV5]; exact Below.alloc (Below.refl _ _) (Nat.le_refl _) _
  have r5 : RdW V5 (.slice (some ⟨V4.heap.size, 0, none⟩) 1 1) [1099511627776] := by rw [← hV5]; exact .inl (rd_new V4 [1099511627776] 3)
  clear hV5
  obtain ⟨V6, hV6⟩ : ∃ V, V5.alloc (.cells #[.int .i64 1099511627777] 3) = V := ⟨_, rfl⟩
  rw [hV6]
  have s6 : V6.heap.size = V5.heap.size + 1 := by rw [← hV6]; simp
  have b6 : Below V5.heap.size V5 V6 := by rw [← hV6]; exact Below.alloc (Below.refl _ _) (Nat.le_refl _) _
  have r6 : RdW V6 (.slice (some ⟨V5.heap.size, 0, none⟩) 1 1) [1099511627777] := by rw [← hV6]; exact .inl (rd_new V5 [1099511627777] 3)
  clear hV6
  obtain ⟨V7, hV7⟩ : ∃ V, V6.alloc (.cells #[.int .i64 0, .int .i64 0, .int .i64 3] 3) = V := ⟨_, rfl⟩
  rw [hV7]
  have s7 : V7.heap.size = V6.heap.size + 1 := by rw [← hV7]; simp
  have b7 : Below V6.heap.size V6 V7 := by rw [← hV7]; exact Below.alloc (Below.refl _ _) (Nat.le_refl _) _
  have r7 : RdW V7 (.slice (some ⟨V6.heap.size, 0, none⟩) 3 3) [0, 0, 3] := by rw [← hV7]; exact .inl (rd_new V6 [0, 0, 3] 3)
  clear hV7
  obtain ⟨V8, hV8⟩ : ∃ V, V7.alloc (.cells #[.int .i64 1, .int .i64 1, .int .i64 1] 3) = V := ⟨_, rfl⟩
  rw [hV8]
  have s8 : V8.heap.size = V7.heap.size + 1 := by rw [← hV8]; simp
  have b8 : Below V7.heap.size V7 V8 := by rw [← hV8]; exact Below.alloc (Below.refl _ _) (Nat.le_refl _) _
  have r8 : RdW V8 (.slice (some ⟨V7.heap.size, 0, none⟩) 3 3) [1, 1, 1] := by rw [← hV8]; exact .inl (rd_new V7 [1, 1, 1] 3)
  clear hV8
  have t0 := e0
  have t1 : V1.heap.size = w3.heap.size + 1 := by rw [s1, t0]
  have t2 : V2.heap.size = w3.heap.size + 1 + 1 := by rw [s2, t1]
  have t3 : V3.heap.size = w3.heap.size + 1 + 1 + 1 := by rw [s3, t2]
  have t4 : V4.heap.size = w3.heap.size + 1 + 1 + 1 + 1 := by rw [s4, t3]
  have t5 : V5.heap.size = w3.heap.size + 1 + 1 + 1 + 1 + 1 := by rw [s5, t4]
  have t6 : V6.heap.size = w3.heap.size + 1 + 1 + 1 + 1 + 1 + 1 := by rw [s6, t5]
  have t7 : V7.heap.size = w3.heap.size + 1 + 1 + 1 + 1 + 1 + 1 + 1 := by rw [s7, t6]
  have t8 : V8.heap.size = w3.heap.size + 1 + 1 + 1 + 1 + 1 + 1 + 1 + 1 := by rw [s8, t7]
  rw [t0] at r1
  rw [t1] at r2
  rw [t2] at r3
  rw [t3] at r4
  rw [t4] at r5
  rw [t5] at r6
  rw [t6] at r7
  rw [t7] at r8
  obtain ⟨V9, hV9⟩ : ∃ V, V8.alloc (.cells #[.slice none 0 0, .slice (some ⟨w3.heap.size, 0, none⟩) 1 1, .slice (some ⟨w3.heap.size + 1, 0, none⟩) 1 1, .slice (some ⟨w3.heap.size + 1 + 1, 0, none⟩) 2 2, .slice (some ⟨w3.heap.size + 1 + 1 + 1, 0, none⟩) 2 2, .slice (some ⟨w3.heap.size + 1 + 1 + 1 + 1, 0, none⟩) 1 1, .slice (some ⟨w3.heap.size + 1 + 1 + 1 + 1 + 1, 0, none⟩) 1 1, .slice (some ⟨w3.heap.size + 1 + 1 + 1 + 1 + 1 + 1, 0, none⟩) 3 3, .slice (some ⟨w3.heap.size + 1 + 1 + 1 + 1 + 1 + 1 + 1, 0, none⟩) 3 3, .slice (some ⟨w.heap.size, 0, none⟩) 1000 1001, .slice (some ⟨w.heap.size, 0, none⟩) 1001 1001] 26) = V := ⟨_, rfl⟩
  rw [hV9]
  have b9 : Below V8.heap.size V8 V9 := by rw [← hV9]; exact Below.alloc (Below.refl _ _) (Nat.le_refl _) _
  have hc9 : ∀ j, V9.cell? ⟨w3.heap.size + 1 + 1 + 1 + 1 + 1 + 1 + 1 + 1, j, none⟩ = (#[.slice none 0 0, .slice (some ⟨w3.heap.size, 0, none⟩) 1 1, .slice (some ⟨w3.heap.size + 1, 0, none⟩) 1 1, .slice (some ⟨w3.heap.size + 1 + 1, 0, none⟩) 2 2, .slice (some ⟨w3.heap.size + 1 + 1 + 1, 0, none⟩) 2 2, .slice (some ⟨w3.heap.size + 1 + 1 + 1 + 1, 0, none⟩) 1 1, .slice (some ⟨w3.heap.size + 1 + 1 + 1 + 1 + 1, 0, none⟩) 1 1, .slice (some ⟨w3.heap.size + 1 + 1 + 1 + 1 + 1 + 1, 0, none⟩) 3 3, .slice (some ⟨w3.heap.size + 1 + 1 + 1 + 1 + 1 + 1 + 1, 0, none⟩) 3 3, .slice (some ⟨w.heap.size, 0, none⟩) 1000 1001, .slice (some ⟨w.heap.size, 0, none⟩) 1001 1001] : Array Value)[j]? := by
    intro j
    rw [← t8, ← hV9]
    exact cell_new V8 _ 26 j
  have hl9 : w3.heap.size + 1 + 1 + 1 + 1 + 1 + 1 + 1 + 1 < V9.heap.size := by rw [← t8, ← hV9]; simp
  have B8 : Below V8.heap.size V8 V9 := b9
  have B7 : Below V7.heap.size V7 V9 := b8.trans (B8.mono b8.size)
  have B6 : Below V6.heap.size V6 V9 := b7.trans (B7.mono b7.size)
  have B5 : Below V5.heap.size V5 V9 := b6.trans (B6.mono b6.size)
  have B4 : Below V4.heap.size V4 V9 := b5.trans (B5.mono b5.size)
  have B3 : Below V3.heap.size V3 V9 := b4.trans (B4.mono b4.size)
  have B2 : Below V2.heap.size V2 V9 := b3.trans (B3.mono b3.size)
  have B1 : Below V1.heap.size V1 V9 := b2.trans (B2.mono b2.size)
  have B0 : Below V0.heap.size V0 V9 := b1.trans (B1.mono b1.size)
  have hB9 : Below w.heap.size w V9 := hB4.trans (B0.mono hB4.size)
  have ra9 := ra.below B0 (Nat.le_refl _)
  have rb9 := rb.below B0 (Nat.le_refl _)
  have q1 := r1.below B1 (Nat.le_refl _)
  have q2 := r2.below B2 (Nat.le_refl _)
  have q3 := r3.below B3 (Nat.le_refl _)
  have q4 := r4.below B4 (Nat.le_refl _)
  have q5 := r5.below B5 (Nat.le_refl _)
  have q6 := r6.below B6 (Nat.le_refl _)
  have q7 := r7.below B7 (Nat.le_refl _)
  have q8 := r8.below B8 (Nat.le_refl _)
  have HC : Hid (∀ j, j < 11 → ∃ (v : Value) (l : List Int), V9.cell? ⟨w3.heap.size + 1 + 1 + 1 + 1 + 1 + 1 + 1 + 1, j, none⟩ = some v ∧ RdW V9 v l ∧ l.length * 8 ≤ 140737488351232) := by
    refine Lib.hid fun j hj => ?_
    match j, hj with
    | 0, _ => exact ⟨_, [], hc9 0, .inl (.inl ⟨rfl, rfl⟩), by decide⟩
    | 1, _ => exact ⟨_, _, hc9 1, q1, by decide⟩
    | 2, _ => exact ⟨_, _, hc9 2, q2, by decide⟩
    | 3, _ => exact ⟨_, _, hc9 3, q3, by decide⟩
    | 4, _ => exact ⟨_, _, hc9 4, q4, by decide⟩
    | 5, _ => exact ⟨_, _, hc9 5, q5, by decide⟩
    | 6, _ => exact ⟨_, _, hc9 6, q6, by decide⟩
    | 7, _ => exact ⟨_, _, hc9 7, q7, by decide⟩
    | 8, _ => exact ⟨_, _, hc9 8, q8, by decide⟩
    | 9, _ => exact ⟨_, _, hc9 9, ra9, by rw [List.length_take]; omega⟩
    | 10, _ => exact ⟨_, _, hc9 10, rb9, by rw [List.length_take]; omega⟩
  clear r1 s1 t1 q1 r2 s2 t2 q2 r3 s3 t3 q3 r4 s4 t4 q4 r5 s5 t5 q5 r6 s6 t6 q6 r7 s7 t7 q7 r8 s8 t8 q8 ra rb ra9 rb9 ho4 hc9 e0 hV9 zl4 B0 B1 B2 B3 B4 B5 B6 B7 B8 b1 b2 b3 b4 b5 b6 b7 b8 b9
  have hst9 := h.of hB9
  generalize hg9 : w3.heap.size + 1 + 1 + 1 + 1 + 1 + 1 + 1 + 1 = g9 at HC hl9 ⊢
  clear hg9
  go_loopw [30] (fun a wr => ∃ j : Nat, j ≤ 11 ∧ a = .int .i64 j ∧ Below V9.heap.size V9 wr) (fun a _ => (11 - intOf a).toNat)
  case atStart => exact ⟨0, by omega, rfl, Below.refl _ _⟩
  case round =>
    obtain ⟨j, hj, rfl, hb6⟩ := hrel
    by_cases hlt9 : j < 11
    · obtain ⟨v, l, hx, hrd, hlb⟩ := HC.out j hlt9
      have hcx := (hb6.cell (p := ⟨g9, j, none⟩) hl9).trans hx
      have hrd6 := hrd.below hb6 (Nat.le_refl _)
      clear hx hrd
      have h11 : (j : Int) < 11 := by omega
      go_wp2_with fail
      generalize wr = w5 at hb6 hrd6 ⊢
      clear hcx
      go_loopw [4] (fun a wr => ∃ i : Int, -1 ≤ i ∧ i ≤ 3 ∧ a = .int .i64 i ∧ Below V9.heap.size V9 wr ∧ RdW wr v l) (fun a _ => (3 - intOf a).toNat)
      case atStart => exact ⟨-1, by omega, by omega, rfl, hb6, hrd6⟩
      case round =>
        clear hb6 hrd6
        obtain ⟨i, hi0, hi1, rfl, hb7, hrd7⟩ := hrel
        by_cases hlti : i < 3
        · have A1 := Lib.hid (weighs_any 9 i v l wr (hst9.of hb7) hrd7 hlb)
          have HR := Lib.hid hrd7
          clear hrd7
          go_wp2_with fail
          refine A1.out.mono ?_
          rintro e w6 ⟨rfl, hb8⟩
          have hb9' := hb7.trans (hb8.mono hb7.size)
          have hrd8 := HR.out.below hb8 (Nat.le_refl _)
          clear A1 HR hb8 hb7
          have A2 := Lib.hid (weighs_any 9 (1099511627776 - i) v l w6 (hst9.of hb9') hrd8 hlb)
          have HR := Lib.hid hrd8
          clear hrd8
          go_wp2_with fail
          refine A2.out.mono ?_
          rintro e w7 ⟨rfl, hb10⟩
          have hrd9 := HR.out.below hb10 (Nat.le_refl _)
          go_wp2_with fail
          go_roundw
          case rel => exact ⟨i + 1, by omega, by omega, by go_num, hb9'.trans (hb10.mono hb9'.size), hrd9⟩
          case measure => simp [intOf]; omega
        · clear hrd7
          go_wp2_with fail
          go_roundw
          case rel => exact ⟨j + 1, by omega, by go_num, hb7⟩
          case measure => simp [intOf]; omega
    · have hB10 := hB9.trans (hb6.mono hB9.size)
      have DR := Lib.hid (draws_any 3 0 1001 1 wr (h.of hB10) (by omega))
      go_wp2_with fail
      refine DR.out.mono ?_
      rintro e w6 ⟨rfl, hb7⟩
      have hB11 := hB10.trans (hb7.mono hB10.size)
      go_wp2_with fail
      refine (awake_any w6 (h.of hB11)).mono ?_
      rintro e w7 ⟨rfl, hb8⟩
      go_wp2_with fail
      go_ret
      exact ⟨rfl, hB11.trans (hb8.mono hB11.size)⟩
end Go.Proofs.YthalafjbkmemhaaDoor
