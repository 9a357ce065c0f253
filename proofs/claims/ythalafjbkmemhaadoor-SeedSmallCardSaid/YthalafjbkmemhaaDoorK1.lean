/- What the kit's LentInts and KeptInts return: a copy with twelve marks behind it, and whether it is still so. -/
import Derived.Test.YthalafjbkmemhaaDoorR5
import Derived.Laws.AppendOwnNone
namespace Go.Proofs.YthalafjbkmemhaaDoor
open Go Go.RowKit
set_option maxRecDepth 100000
theorem mark_any (b : Int) (w : World) (h1 : 0 ≤ b) (h2 : b ≤ 1000) :
    Calls Tryd.prog 51 #[.int .i64 1, .int .i64 b] w fun e w' => e = .returned (.int .i64 (8000024 + b)) ∧ w = w' := by
  go_enter Tryd.func51, Tryd.ntmps51
  go_wp2
  go_ret
  exact ⟨rfl, rfl⟩
def marks (n : Nat) : List Int := (List.range n).map fun j : Nat => 8000024 + (j : Int)
theorem marks_snoc (n : Nat) : marks (n + 1) = marks n ++ [8000024 + (n : Int)] := by simp [marks, List.range_succ]
theorem marks_length (n : Nat) : (marks n).length = n := by simp [marks]
/-- v is l, and behind it, in one block, twelve marks. -/
def Lent (w : World) (v : Value) (l : List Int) : Prop :=
  ∃ g cap, v = .slice (some ⟨g, 0, none⟩) l.length cap ∧ l.length + 12 ≤ cap ∧ cap ≤ maxLen ∧ g < w.heap.size ∧ ∀ j, j < l.length + 12 → w.cell? ⟨g, j, none⟩ = some (.int .i64 ((l ++ marks 12).getD j 0))
theorem Lent.below {w w' : World} {v : Value} {l : List Int} (h : Lent w v l) (hb : Below w.heap.size w w') : Lent w' v l := by
  obtain ⟨g, cap, h1, h2, hm, h3, h4⟩ := h
  exact ⟨g, cap, h1, h2, hm, Nat.lt_of_lt_of_le h3 hb.size, fun j hj => (hb.cell (p := ⟨g, j, none⟩) h3).trans (h4 j hj)⟩
theorem Lent.rd {w : World} {v : Value} {l : List Int} (h : Lent w v l) : Rd w v l := by
  obtain ⟨g, cap, h1, h2, _, h3, h4⟩ := h
  refine .inr ⟨g, 0, cap, h1, h3, fun i hi => ?_⟩
  rw [Nat.zero_add, h4 i (by omega)]
  rw [List.getD_eq_getElem?_getD, List.getD_eq_getElem?_getD, List.getElem?_append_left hi]
theorem lent_of_own {w : World} {base : Nat} {v : Value} {l : List Int} {n : Nat} (hn : n = l.length + 12) (h : w.ownsRow base 3 1 v n ((l ++ marks 12).map (Value.int .i64))) :
    ∃ g cap, v = .slice (some ⟨g, 0, none⟩) n cap ∧ base ≤ g ∧ n ≤ cap ∧ cap ≤ maxLen ∧ Lent w (.slice (some ⟨g, 0, none⟩) l.length cap) l := by
  obtain ⟨_, ⟨rfl, hn0⟩ | ⟨g, cap, cur, rfl, hb, hg, hnc, hcm, hcs, hx⟩⟩ := h
  · omega
  · refine ⟨g, cap, rfl, hb, hnc, hcm, g, cap, rfl, by omega, hcm, (Array.getElem?_eq_some_iff.1 hg).1, fun i hi => ?_⟩
    have hx' := congrArg (fun l => l[i]?) hx
    have hi2 : i < n * 1 := by omega
    have hi3 : i < (l ++ marks 12).length := by rw [List.length_append, marks_length]; exact hi
    rw [List.getElem?_take_of_lt hi2] at hx'
    simp only [World.cell?, hg]
    rw [← Array.getElem?_toList]
    simp only [hx', List.getElem?_map, List.getD_eq_getElem?_getD, List.getElem?_eq_getElem hi3]
    rfl
set_option maxHeartbeats 4000000 in
theorem lent_nil (w : World) :
    Calls Tryd.prog 40 #[.slice none 0 0] w fun e w' => ∃ u, e = .returned u ∧ Lent w' u [] ∧ Below w.heap.size w w' := by
  obtain ⟨i0, hi, hz0, hz1, hz2⟩ := info_parts info3
  have hmk : ∀ w : World, (Instr.makeSlice 26 (.int .i64 0) (.int .i64 12)).run Tryd.prog w = .ok (.slice (some ⟨w.heap.size, 0, none⟩) 0 12) (w.alloc (.cells (madeCells #[.int .i64 0] 12) 3)) := by
    intro w
    have h := run_make (P := Tryd.prog) w 26 3 i0 (.int .i64 0) Tryd.underlying26 hi hz0 .i64 .i64 0 12 (by omega) (by omega) (by rw [hz2]; omega) (by omega)
    rw [h, hz1]
    rfl
  have hown0 : (w.alloc (.cells (madeCells #[.int .i64 0] 12) 3)).ownsRow w.heap.size 3 1 (.slice (some ⟨w.heap.size, 0, none⟩) 0 12) 0 [] := World.ownsRow_made w _ _ (Nat.le_refl _) (by unfold maxLen; omega) (by simp [madeCells])
  have hb0 : Below w.heap.size w (w.alloc (.cells (madeCells #[.int .i64 0] 12) 3)) := Below.alloc (Below.refl _ _) (Nat.le_refl _) _
  go_enter Tryd.func40, Tryd.ntmps40
  go_wp2_with (at_builtin; refine wpList_append_own_none rfl _ _ 26 rfl w.heap.size 3 i0 1 Tryd.underlying26 hi _ _ _ rfl hown0 rfl ?_)
  generalize (w.alloc (.cells (madeCells #[.int .i64 0] 12) 3)) = w1 at hown0 hb0 ⊢
  clear hmk
  go_loopw [3, 4] (fun u a wr => ∃ j : Nat, j ≤ 12 ∧ a = .int .i64 j ∧ wr.ownsRow w.heap.size 3 1 u j ((marks j).map (Value.int .i64)) ∧ Below w.heap.size w wr) (fun _ a _ => 12 - (intOf a).toNat)
  case atStart => exact ⟨0, by omega, rfl, hown0, hb0⟩
  case round =>
    clear hown0 hb0
    obtain ⟨j, hj, rfl, hown, hb⟩ := hrel
    have hbs := hb.size
    by_cases hlt : j < 12
    · go_wp2_with fail
      refine (mark_any _ _ (by omega) (by omega)).mono ?_
      rintro e w2 ⟨rfl, rfl⟩
      go_wp2_with (at_builtin; refine wpList_append_own _ rfl _ _ 26 rfl w.heap.size 3 i0 (.int .i64 0) 1 8 Tryd.underlying26 hi hz0 hz1 hz2 rfl (by decide) _ _ _ rfl (hown.alloc _) ⟨wr.heap.size, 0, none⟩ 1 1 [.int .i64 (8000024 + (j : Int))] rfl rfl ?c1 ?c2 ?c3 ?c4 ?c5 ?_)
      case c1 => exact (cell_one_new _ _ _)
      case c2 => simp [Value.oneCell']
      case c3 => unfold maxLen; omega
      case c4 => omega
      case c5 => simp; omega
      intro v' w2 hown' hgrow _
      have hb3 := below_own hb hown ((Below.refl _ _).alloc hbs _) hgrow hbs
      have hown2 : w2.ownsRow w.heap.size 3 1 v' (j + 1) ((marks (j + 1)).map (Value.int .i64)) := by
        rw [marks_snoc]
        simpa using hown'
      clear hown' hgrow hown
      go_wp2
      go_roundw
      case rel => exact ⟨j + 1, by omega, by go_num, hown2, hb3⟩
      case measure => simp [intOf]; omega
    · obtain rfl : j = 12 := by omega
      obtain ⟨g, cap2, rfl, hg, hnc, hcm, hlent⟩ := lent_of_own (l := []) rfl hown
      have hn1 : (0 : Int) ≤ (cap2 : Int) := by omega
      go_wp2
      go_ret
      exact ⟨_, rfl, hlent, hb⟩
set_option maxHeartbeats 4000000 in
theorem lent_some (x : Addr) (w : World) :
    Calls Tryd.prog 40 #[.slice (some x) 0 0] w fun e w' => ∃ u, e = .returned u ∧ Lent w' u [] ∧ Below w.heap.size w w' := by
  obtain ⟨i0, hi, hz0, hz1, hz2⟩ := info_parts info3
  have hmk : ∀ w : World, (Instr.makeSlice 26 (.int .i64 0) (.int .i64 12)).run Tryd.prog w = .ok (.slice (some ⟨w.heap.size, 0, none⟩) 0 12) (w.alloc (.cells (madeCells #[.int .i64 0] 12) 3)) := by
    intro w
    have h := run_make (P := Tryd.prog) w 26 3 i0 (.int .i64 0) Tryd.underlying26 hi hz0 .i64 .i64 0 12 (by omega) (by omega) (by rw [hz2]; omega) (by omega)
    rw [h, hz1]
    rfl
  have hown0 : (w.alloc (.cells (madeCells #[.int .i64 0] 12) 3)).ownsRow w.heap.size 3 1 (.slice (some ⟨w.heap.size, 0, none⟩) 0 12) 0 [] := World.ownsRow_made w _ _ (Nat.le_refl _) (by unfold maxLen; omega) (by simp [madeCells])
  have hb0 : Below w.heap.size w (w.alloc (.cells (madeCells #[.int .i64 0] 12) 3)) := Below.alloc (Below.refl _ _) (Nat.le_refl _) _
  go_enter Tryd.func40, Tryd.ntmps40
  go_wp2_with (at_builtin; refine wpList_append_own _ rfl _ _ 26 rfl w.heap.size 3 i0 (.int .i64 0) 1 8 Tryd.underlying26 hi hz0 hz1 hz2 rfl (by decide) _ _ _ rfl hown0 x 0 0 [] rfl rfl ?c1 ?c2 ?c3 ?c4 ?c5 ?_)
  case c1 => intro j u hu; simp at hu
  case c2 => intro u hu; simp at hu
  case c3 => unfold maxLen; omega
  case c4 => omega
  case c5 => simp
  intro v1 w1 hown1 hgrow1 _
  have hb1 := below_own (Below.refl _ _) hown0 (Below.refl _ _) hgrow1 (by simp)
  have hb2 : Below w.heap.size w w1 := hb0.trans hb1
  have hown1 : w1.ownsRow w.heap.size 3 1 v1 0 [] := by simpa using hown1
  clear hgrow1 hb1 hb0 hown0 hmk
  go_wp2
  go_loopw [3, 4] (fun u a wr => ∃ j : Nat, j ≤ 12 ∧ a = .int .i64 j ∧ wr.ownsRow w.heap.size 3 1 u j ((marks j).map (Value.int .i64)) ∧ Below w.heap.size w wr) (fun _ a _ => 12 - (intOf a).toNat)
  case atStart => exact ⟨0, by omega, rfl, hown1, hb2⟩
  case round =>
    clear hown1 hb2
    obtain ⟨j, hj, rfl, hown, hb⟩ := hrel
    have hbs := hb.size
    by_cases hlt : j < 12
    · go_wp2_with fail
      refine (mark_any _ _ (by omega) (by omega)).mono ?_
      rintro e w2 ⟨rfl, rfl⟩
      go_wp2_with (at_builtin; refine wpList_append_own _ rfl _ _ 26 rfl w.heap.size 3 i0 (.int .i64 0) 1 8 Tryd.underlying26 hi hz0 hz1 hz2 rfl (by decide) _ _ _ rfl (hown.alloc _) ⟨wr.heap.size, 0, none⟩ 1 1 [.int .i64 (8000024 + (j : Int))] rfl rfl ?c1 ?c2 ?c3 ?c4 ?c5 ?_)
      case c1 => exact (cell_one_new _ _ _)
      case c2 => simp [Value.oneCell']
      case c3 => unfold maxLen; omega
      case c4 => omega
      case c5 => simp; omega
      intro v' w2 hown' hgrow _
      have hb3 := below_own hb hown ((Below.refl _ _).alloc hbs _) hgrow hbs
      have hown2 : w2.ownsRow w.heap.size 3 1 v' (j + 1) ((marks (j + 1)).map (Value.int .i64)) := by
        rw [marks_snoc]
        simpa using hown'
      clear hown' hgrow hown
      go_wp2
      go_roundw
      case rel => exact ⟨j + 1, by omega, by go_num, hown2, hb3⟩
      case measure => simp [intOf]; omega
    · obtain rfl : j = 12 := by omega
      obtain ⟨g, cap2, rfl, hg, hnc, hcm, hlent⟩ := lent_of_own (l := []) rfl hown
      have hn1 : (0 : Int) ≤ (cap2 : Int) := by omega
      go_wp2
      go_ret
      exact ⟨_, rfl, hlent, hb⟩
set_option maxHeartbeats 4000000 in
theorem lent_any (v : Value) (l : List Int) (w : World) (hv : RdW w v l) (hm : l.length * 8 ≤ 140737488351232) :
    Calls Tryd.prog 40 #[v] w fun e w' => ∃ u, e = .returned u ∧ Lent w' u l ∧ Below w.heap.size w w' := by
  obtain ⟨i0, hi, hz0, hz1, hz2⟩ := info_parts info3
  have hmk : ∀ w : World, (Instr.makeSlice 26 (.int .i64 0) (.int .i64 ((l.length : Int) + 12))).run Tryd.prog w = .ok (.slice (some ⟨w.heap.size, 0, none⟩) 0 (l.length + 12)) (w.alloc (.cells (madeCells #[.int .i64 0] (l.length + 12)) 3)) := by
    intro w
    have h := run_make (P := Tryd.prog) w 26 3 i0 (.int .i64 0) Tryd.underlying26 hi hz0 .i64 .i64 0 ((l.length : Int) + 12) (by omega) (by omega) (by rw [hz2]; omega) (by omega)
    rw [h, hz1]
    have e : ((l.length : Int) + 12).toNat = l.length + 12 := by omega
    rw [e]
    simp [Value.cells]
  have hl2 : (l.length : Int) ≤ 17592186043904 := by omega
  have hown0 : (w.alloc (.cells (madeCells #[.int .i64 0] (l.length + 12)) 3)).ownsRow w.heap.size 3 1 (.slice (some ⟨w.heap.size, 0, none⟩) 0 (l.length + 12)) 0 [] := World.ownsRow_made w _ _ (Nat.le_refl _) (by unfold maxLen; omega) (by simp [madeCells])
  have hb0 : Below w.heap.size w (w.alloc (.cells (madeCells #[.int .i64 0] (l.length + 12)) 3)) := Below.alloc (Below.refl _ _) (Nat.le_refl _) _
  rcases hv with (⟨rfl, rfl⟩ | ⟨b, off, cap, rfl, hblt, hc⟩) | ⟨x, rfl, rfl⟩
  rotate_left 2
  · exact lent_some x w
  · exact lent_nil w
  · have hnews : ∀ (j : Nat) (u : Value), (l.map (Value.int .i64))[j]? = some u → (w.alloc (.cells (madeCells #[.int .i64 0] (l.length + 12)) 3)).cell? ((⟨b, off, none⟩ : Addr).add j) = some u := by
      intro j u hu
      rw [List.getElem?_map] at hu
      obtain ⟨x, hx, rfl⟩ := Option.map_eq_some_iff.1 hu
      have hj : j < l.length := (List.getElem?_eq_some_iff.1 hx).1
      have := (hb0.cell (p := ⟨b, off + j, none⟩) hblt).trans (hc j hj)
      rw [List.getD_eq_getElem?_getD, hx] at this
      by_cases j0 : j = 0
      · subst j0; simpa [Addr.add] using this
      · simpa [Addr.add, j0] using this
    have HN := Lib.hid hnews
    clear hnews hc
    go_enter Tryd.func40, Tryd.ntmps40
    go_wp2_with (at_builtin; refine wpList_append_own _ rfl _ _ 26 rfl w.heap.size 3 i0 (.int .i64 0) 1 8 Tryd.underlying26 hi hz0 hz1 hz2 rfl (by decide) _ _ _ rfl hown0 ⟨b, off, none⟩ l.length cap (l.map (Value.int .i64)) rfl (by simp) HN.out ?c2 ?c3 ?c4 ?c5 ?_)
    case c2 => intro u hu; obtain ⟨x, _, rfl⟩ := List.mem_map.1 hu; rfl
    case c3 => unfold maxLen; omega
    case c4 => omega
    case c5 => simp
    intro v1 w1 hown1 hgrow1 _
    have hb1 := below_own (Below.refl _ _) hown0 (Below.refl _ _) hgrow1 (by simp)
    have hb2 : Below w.heap.size w w1 := hb0.trans hb1
    have hown1 : w1.ownsRow w.heap.size 3 1 v1 l.length (l.map (Value.int .i64)) := by simpa using hown1
    clear hgrow1 hb1 hb0 hown0 hmk HN
    go_wp2
    go_loopw [3, 4] (fun u a wr => ∃ j : Nat, j ≤ 12 ∧ a = .int .i64 j ∧ wr.ownsRow w.heap.size 3 1 u (l.length + j) ((l ++ marks j).map (Value.int .i64)) ∧ Below w.heap.size w wr) (fun _ a _ => 12 - (intOf a).toNat)
    case atStart => exact ⟨0, by omega, rfl, by simpa [marks] using hown1, hb2⟩
    case round =>
      clear hown1 hb2
      obtain ⟨j, hj, rfl, hown, hb⟩ := hrel
      have hbs := hb.size
      by_cases hlt : j < 12
      · go_wp2_with fail
        refine (mark_any _ _ (by omega) (by omega)).mono ?_
        rintro e w2 ⟨rfl, rfl⟩
        go_wp2_with (at_builtin; refine wpList_append_own _ rfl _ _ 26 rfl w.heap.size 3 i0 (.int .i64 0) 1 8 Tryd.underlying26 hi hz0 hz1 hz2 rfl (by decide) _ _ _ rfl (hown.alloc _) ⟨wr.heap.size, 0, none⟩ 1 1 [.int .i64 (8000024 + (j : Int))] rfl rfl ?c1 ?c2 ?c3 ?c4 ?c5 ?_)
        case c1 => exact (cell_one_new _ _ _)
        case c2 => simp [Value.oneCell']
        case c3 => unfold maxLen; omega
        case c4 => omega
        case c5 => simp; omega
        intro v' w2 hown' hgrow _
        have hb3 := below_own hb hown ((Below.refl _ _).alloc hbs _) hgrow hbs
        have hown2 : w2.ownsRow w.heap.size 3 1 v' (l.length + (j + 1)) ((l ++ marks (j + 1)).map (Value.int .i64)) := by
          rw [marks_snoc]
          simpa [Nat.add_assoc] using hown'
        clear hown' hgrow hown
        go_wp2
        go_roundw
        case rel => exact ⟨j + 1, by omega, by go_num, hown2, hb3⟩
        case measure => simp [intOf]; omega
      · obtain rfl : j = 12 := by omega
        obtain ⟨g, cap2, rfl, hg, hnc, hcm, hlent⟩ := lent_of_own rfl hown
        have hn1 : (l.length : Int) ≤ (cap2 : Int) := by omega
        have hn2 : l.length ≤ cap2 := by omega
        go_wp2
        go_ret
        exact ⟨_, rfl, hlent, hb⟩
end Go.Proofs.YthalafjbkmemhaaDoor
