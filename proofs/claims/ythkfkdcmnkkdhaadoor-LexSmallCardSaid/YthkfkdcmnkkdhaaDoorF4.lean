/- The table of what begins with each byte. -/
import Derived.Laws.EntriesVeiled
import Derived.Laws.CopyOwn
import Derived.Test.YthkfkdcmnkkdhaaDoorF3
namespace Go.Proofs.YthkfkdcmnkkdhaaDoor
open Go Go.RowKit
set_option maxRecDepth 100000
set_option linter.unusedVariables false
theorem spelledMk_any (kf : Nat) (w : World) : Calls Tryd.prog 39 #[.func (.func kf) #[] #[]] w fun e w' =>
    e = .returned (.func (.func 52) #[] #[.pointer (some ⟨w.heap.size, 0, none⟩)]) ∧ Below w.heap.size w w' ∧ w'.cell? ⟨w.heap.size, 0, none⟩ = some (.func (.func kf) #[] #[]) := by
  go_enter Tryd.func39, Tryd.ntmps39
  go_wp2
  go_ret
  exact ⟨rfl, bel_laid _ _, cell_new _ _ _ _⟩
/-- What begins with byte number j. -/
def startV (g1 g2 j : Nat) : Value := if letC (j : Int) then .func (.func 52) #[] #[.pointer (some ⟨g1, 0, none⟩)] else if j = 63 then .func (.func 52) #[] #[.pointer (some ⟨g2, 0, none⟩)] else .func (.func 43) #[] #[]
/-- The table, and the two boxes that its closures read. -/
def TabV (n : Nat) (w' : World) (cs : Array Value) : Prop := ∃ g1 g2, n ≤ g1 ∧ n ≤ g2 ∧ cs.size = 256 ∧ (∀ j, j < 256 → cs[j]? = some (startV g1 g2 j)) ∧ w'.cell? ⟨g1, 0, none⟩ = some (.func (.func 40) #[] #[]) ∧ w'.cell? ⟨g2, 0, none⟩ = some (.func (.func 41) #[] #[])
/-- What the loop that fills the table keeps. -/
structure Filling (w : World) (A B g1 g2 k : Nat) (Z cs : Array Value) (V : World) : Prop where
  blkA : V.heap[A]? = some (.cells Z 62 (0, 0))
  blkB : V.heap[B]? = some (.cells cs 62 (0, 0))
  c1 : V.cell? ⟨g1, 0, none⟩ = some (.func (.func 40) #[] #[])
  c2 : V.cell? ⟨g2, 0, none⟩ = some (.func (.func 41) #[] #[])
  bel : Below w.heap.size w V
  sz : cs.size = 256
  done : ∀ j, j < k → cs[j]? = some (startV g1 g2 j)
theorem Filling.step {w : World} {A B g1 g2 k : Nat} {Z cs : Array Value} {V : World} (h : Filling w A B g1 g2 k Z cs V) (hA : A ≠ B) (h1 : g1 ≠ B) (h2 : g2 ≠ B) (hB : w.heap.size ≤ B) (hk : k < 256) {v : Value} (hv : v = startV g1 g2 k) :
    Filling w A B g1 g2 (k + 1) Z (cs.setIfInBounds k v) (V.setCell ⟨B, k, none⟩ v) where
  blkA := (heap_setCell_other V ⟨B, k, none⟩ A v hA).trans h.blkA
  blkB := heap_setCell_same V B k cs 62 v h.blkB
  c1 := by rw [World.cell?_setCell_far _ _ _ _ (fun e => h1 e.symm)]; exact h.c1
  c2 := by rw [World.cell?_setCell_far _ _ _ _ (fun e => h2 e.symm)]; exact h.c2
  bel := h.bel.setCell hB _
  sz := by simp [h.sz]
  done := by
    intro j hj
    by_cases e : j = k
    · subst e
      rw [Array.getElem?_setIfInBounds_self_of_lt (by rw [h.sz]; exact hk), hv]
    · rw [Array.getElem?_setIfInBounds_ne (by omega)]
      exact h.done j (by omega)
set_option maxHeartbeats 2000000 in
theorem starts_any (w : World) : Calls Tryd.prog 28 #[] w fun e w' => ∃ cs, e = .returned (.agg cs) ∧ TabV w.heap.size w' cs ∧ Below w.heap.size w w' := by
  have hM := Lib.hid (fun kf V => spelledMk_any kf V)
  have hL := Lib.hid (fun c V => lexLetter_any c V)
  go_enter Tryd.func28, Tryd.ntmps28
  go_wp2_with fail
  refine (hM.out _ _).mono ?_
  rintro e w2 ⟨rfl, hb2, c2⟩
  have b1 := (hb2.block w.heap.size (by simp; omega)).trans (heap_alloc2_old w _ _)
  have b2 := (hb2.block (w.heap.size + 1) (by simp)).trans (heap_alloc2_new w _ _)
  have b0 := bel_step (bel_step (bel_laid w _) (bel_laid _ _)) hb2
  rw [World.size_alloc, World.size_alloc] at c2
  have hz := hb2.size
  rw [World.size_alloc, World.size_alloc] at hz
  rw [World.size_alloc, World.size_alloc]
  clear hb2
  go_wp2_with fail
  refine (hM.out _ _).mono ?_
  rintro e w3 ⟨rfl, hb3, c3⟩
  clear hM
  have hF : Filling w w.heap.size (w.heap.size + 1) (w.heap.size + 1 + 1) w2.heap.size 0 Tryd.zeroCells62 Tryd.zeroCells62 w3 := ⟨(hb3.block _ (by omega)).trans b1, (hb3.block _ (by omega)).trans b2, cell_below hb3 c2, c3, bel_step b0 hb3, by kernel_rfl, by omega⟩
  have hlt2 := lt_of_cell c2
  clear b1 b2 c2 c3 b0 hb3 hz
  generalize hg2 : w2.heap.size = g2 at hF hlt2 ⊢
  go_wp2_with fail
  have hFh := Lib.hid hF
  clear hF
  go_loopw [7] (fun i wr => ∃ (k : Nat) (cs : Array Value), k ≤ 256 ∧ i = .int .i64 k ∧ Filling w w.heap.size (w.heap.size + 1) (w.heap.size + 1 + 1) g2 k Tryd.zeroCells62 cs wr) (fun i _ => 256 - (intOf i).toNat)
  case atStart => exact ⟨0, _, by omega, rfl, hFh.out⟩
  case round =>
    obtain ⟨k, cs, hk, rfl, hR⟩ := hrel
    by_cases hlt : k < 256
    · have hlt' : (k : Int) < 256 := by omega
      have hc1 := (cell_of_row wr (w.heap.size + 1) k cs 62 (0, 0) hR.blkB).trans (Array.getElem?_eq_getElem (by rw [hR.sz]; exact hlt))
      generalize cs[k]'(by rw [hR.sz]; exact hlt) = old at hc1
      have hc2 := frozen_of_row wr (w.heap.size + 1) k cs 62 hR.blkB
      have hRh := Lib.hid hR
      have hLk := hL.out (k : Int)
      clear hR hFh
      cases hl : letC (k : Int) with
      | true =>
        rw [hl] at hLk
        have hLh := Lib.hid hLk
        have hlh := Lib.hid hl
        clear hLk hl hL
        go_wp2_with (go_at_call 42; refine (hLh.out _).mono ?_; rintro e w4 ⟨rfl, rfl⟩)
        go_roundw
        case rel => exact ⟨k + 1, _, by omega, by go_num, hRh.out.step (by omega) (by omega) (by omega) (by omega) hlt (by rw [startV, if_pos hlh.out])⟩
        case measure => simp [intOf]; omega
      | false =>
        rw [hl] at hLk
        have hLh := Lib.hid hLk
        have hlh := Lib.hid hl
        clear hLk hl hL
        by_cases h63 : k = 63
        · subst h63
          go_wp2_with (go_at_call 42; refine (hLh.out _).mono ?_; rintro e w4 ⟨rfl, rfl⟩)
          go_roundw
          case rel => exact ⟨63 + 1, _, by omega, by go_num, hRh.out.step (by omega) (by omega) (by omega) (by omega) hlt (by rw [startV, if_neg (by rw [hlh.out]; simp), if_pos rfl])⟩
          case measure => simp [intOf]
        · have h63' : ((k : Int) == 63) = false := by simp; omega
          have h63n : ¬ ((k : Int) = 63) := by omega
          go_wp2_with (go_at_call 42; refine (hLh.out _).mono ?_; rintro e w4 ⟨rfl, rfl⟩)
          go_roundw
          case rel => exact ⟨k + 1, _, by omega, by go_num, hRh.out.step (by omega) (by omega) (by omega) (by omega) hlt (by rw [startV, if_neg (by rw [hlh.out]; simp), if_neg h63])⟩
          case measure => simp [intOf]; omega
    · obtain rfl : k = 256 := by omega
      have hone : ∀ v ∈ cs.toList, v.oneCell' = true := by
        intro v hv
        obtain ⟨j, hj, rfl⟩ := List.getElem_of_mem hv
        rw [Array.length_toList] at hj
        have h1 := hR.done j (by rw [← hR.sz]; exact hj)
        rw [Array.getElem?_eq_getElem hj] at h1
        rw [Array.getElem_toList, Option.some.inj h1, startV]
        split
        · rfl
        · split <;> rfl
      have hsz := hR.sz
      have hRh := Lib.hid hR
      clear hR hFh hL
      have hii : (Tryd.prog.info? 62).map (·.size) = some cs.size := by rw [hsz]; kernel_rfl
      have hii2 : Tryd.zeroCells62.size = cs.size := by rw [hsz]; kernel_rfl
      go_wp2_with (first
        | (refine wpList_load_row rfl 62 _ rfl (w.heap.size + 1) rfl 62 _ (0, 0) _ hRh.out.blkB Tryd.underlying62 rfl hii ?_)
        | (refine wpList_store_row rfl 62 _ _ rfl w.heap.size cs rfl rfl 62 Tryd.zeroCells62 hRh.out.blkA hii hii2 (by rw [← Array.all_toList, List.all_eq_true]; exact hone) ?_))
      refine bodyPost_ret (v := .agg cs) ?_ rfl ⟨cs, rfl, ⟨w.heap.size + 1 + 1, g2, by omega, by omega, hsz, hRh.out.done, ?_, ?_⟩, below_setRow hRh.out.bel (Nat.le_refl _) _⟩
      · exact results_cell_row rfl _ _ w.heap.size 62 cs (0, 0) _ rfl (setRow_heap _ _ _ _ _ _ hRh.out.blkA) Tryd.underlying62 rfl hii
      · rw [cell_setRow_other _ _ _ _ (show w.heap.size + 1 + 1 ≠ w.heap.size by omega)]; exact hRh.out.c1
      · rw [cell_setRow_other _ _ _ _ (show g2 ≠ w.heap.size by omega)]; exact hRh.out.c2
end Go.Proofs.YthkfkdcmnkkdhaaDoor
