/- What the mixing functions of seed return, for every input. -/
import Derived.Test.YthalafjbkmemhaaDoorProg
import Derived.WalkKit
import Derived.Handy
import Derived.Outline
import Derived.BigQuiet
import Derived.Deep.QuietTactic
import Derived.WalkSpells
import Derived.WalkLawsBesides
import Derived.WalkSmall
import Derived.Lib.Hide
namespace Go.Proofs.YthalafjbkmemhaaDoor
open Go Go.RowKit
set_option maxRecDepth 100000
abbrev stepCells : Array Value := #[.int .i64 30, .int .u64 13787848793156543929, .int .u64 10871156337175269513, .int .i64 27, .int .u64 10723151780598845931, .int .u64 3573116690164977347, .int .i64 31, .int .u64 1, .int .u64 1]
theorem ix0 (w : World) : (Instr.index 69 (.agg stepCells) (.int .i64 0)).run Tryd.prog w = .ok (.agg #[.int .i64 30, .int .u64 13787848793156543929, .int .u64 10871156337175269513]) w := by kernel_rfl
theorem ix1 (w : World) : (Instr.index 69 (.agg stepCells) (.int .i64 1)).run Tryd.prog w = .ok (.agg #[.int .i64 27, .int .u64 10723151780598845931, .int .u64 3573116690164977347]) w := by kernel_rfl
theorem ix2 (w : World) : (Instr.index 69 (.agg stepCells) (.int .i64 2)).run Tryd.prog w = .ok (.agg #[.int .i64 31, .int .u64 1, .int .u64 1]) w := by kernel_rfl
def Stp (w : World) : Prop := ∃ t fr, w.heap[0]? = some (.cells stepCells t fr)
theorem Stp.pos {w : World} (h : Stp w) : 0 < w.heap.size := by
  obtain ⟨t, fr, h⟩ := h
  rcases Nat.eq_zero_or_pos w.heap.size with e | e
  · rw [Array.getElem?_eq_none (by omega)] at h; cases h
  · exact e
theorem Stp.below {w w' : World} {B : Nat} (h : Stp w) (hB : 0 < B) (hb : Below B w w') : Stp w' := by
  obtain ⟨t, fr, h⟩ := h
  exact ⟨t, fr, (hb.block 0 hB).trans h⟩
theorem Stp.of {w w' : World} (h : Stp w) (hb : Below w.heap.size w w') : Stp w' := h.below h.pos hb
theorem Stp.cells {w : World} (h : Stp w) : ∀ i, w.cell? ⟨0, i, none⟩ = stepCells[i]? := by
  obtain ⟨t, fr, h⟩ := h
  intro i
  simp [World.cell?, h]

def mix1 (x : Int) : Int := IntKind.u64.wrap (bits .xor .u64 x (x / 1073741824) * 13787848793156543929)
def mix2 (x : Int) : Int := IntKind.u64.wrap (bits .xor .u64 x (x / 134217728) * 10723151780598845931)
def mix3 (x : Int) : Int := IntKind.u64.wrap (bits .xor .u64 x (x / 2147483648))
def mixI (x : Int) : Int := mix3 (mix2 (mix1 x))
set_option maxHeartbeats 1000000 in
theorem mix_any (x : Int) (w : World) (h : Stp w) :
    Calls Tryd.prog 20 #[.int .u64 x] w fun e w' => e = .returned (.int .u64 (mixI x)) ∧ Below w.heap.size w w' := by
  obtain ⟨t, fr, hs⟩ := h
  have i0 := ix0
  have i1 := ix1
  have i2 := ix2
  go_enter Tryd.func20, Tryd.ntmps20
  go_wp2_with (refine wpList_load_row rfl 69 _ rfl 0 rfl t _ fr _ hs Tryd.underlying69 rfl (by kernel_rfl) ?_)
  refine wp_loop_rounds 4 ?_
  clear hs
  rw [rounds_succ]
  go_wp2
  go_quiet (fail)
  go_wp2
  rw [rounds_succ]
  go_wp2
  go_quiet (fail)
  go_wp2
  rw [rounds_succ]
  go_wp2
  go_quiet (fail)
  go_wp2
  rw [rounds_succ]
  go_wp2
  go_ret
  refine ⟨rfl, ?_⟩
  repeat' (first | exact Below.refl _ _ | (with_reducible refine below_drewN ?_ _) | (with_reducible refine Below.alloc ?_ ?_ _) | go_size)
theorem unshift30 (x : Int) (w : World) : Calls Tryd.prog 44 #[.int .u64 x, .int .i64 30] w fun e w' => e = .returned (.int .u64 (bits .xor .u64 (bits .xor .u64 x (x / 1073741824)) (x / 1152921504606846976))) ∧ w = w' := by
  go_enter Tryd.func44, Tryd.ntmps44
  go_wp2
  go_rounds 3
  go_ret
  exact ⟨rfl, rfl⟩
theorem unshift27 (x : Int) (w : World) : Calls Tryd.prog 44 #[.int .u64 x, .int .i64 27] w fun e w' => e = .returned (.int .u64 (bits .xor .u64 (bits .xor .u64 x (x / 134217728)) (x / 18014398509481984))) ∧ w = w' := by
  go_enter Tryd.func44, Tryd.ntmps44
  go_wp2
  go_rounds 3
  go_ret
  exact ⟨rfl, rfl⟩
theorem unshift31 (x : Int) (w : World) : Calls Tryd.prog 44 #[.int .u64 x, .int .i64 31] w fun e w' => e = .returned (.int .u64 (bits .xor .u64 (bits .xor .u64 x (x / 2147483648)) (x / 4611686018427387904))) ∧ w = w' := by
  go_enter Tryd.func44, Tryd.ntmps44
  go_wp2
  go_rounds 3
  go_ret
  exact ⟨rfl, rfl⟩

def un30 (x : Int) : Int := bits .xor .u64 (bits .xor .u64 x (x / 1073741824)) (x / 1152921504606846976)
def un27 (x : Int) : Int := bits .xor .u64 (bits .xor .u64 x (x / 134217728)) (x / 18014398509481984)
def un31 (x : Int) : Int := bits .xor .u64 (bits .xor .u64 x (x / 2147483648)) (x / 4611686018427387904)
theorem quiet_add_left {P : Program} {f : FuncId} {args : Array Value} {w : World} {a n : Nat} {v : Value}
    (h : Calls P f args (w.drewN (a + n)) fun e w' => e = .returned v ∧ w.drewN (a + n) = w') :
    Calls P f args (w.drewN (a + n)) fun e w'' => e = .returned v ∧ ∃ m, w'' = w.drewN (a + m) :=
  h.mono fun _ _ ⟨he, hm⟩ => ⟨he, n, hm.symm⟩
theorem quiet_left {P : Program} {f : FuncId} {args : Array Value} {w : World} {n : Nat} {v : Value}
    (h : Calls P f args (w.drewN n) fun e w' => e = .returned v ∧ w.drewN n = w') : Calls P f args (w.drewN n) fun e w'' => e = .returned v ∧ ∃ m, w'' = w.drewN m :=
  h.mono fun _ _ ⟨he, hm⟩ => ⟨he, n, hm.symm⟩
def unmixI (x : Int) : Int := un30 (IntKind.u64.wrap (un27 (IntKind.u64.wrap (un31 (IntKind.u64.wrap x) * 3573116690164977347)) * 10871156337175269513))
set_option maxHeartbeats 1000000 in
theorem unmix_any (x : Int) (w : World) (h : Stp w) :
    Calls Tryd.prog 19 #[.int .u64 x] w fun e w' => e = .returned (.int .u64 (unmixI x)) ∧ Below w.heap.size w w' := by
  have hc := h.cells
  have c0 := hc 0
  have c2 := hc 2
  have c3 := hc 3
  have c5 := hc 5
  have c6 := hc 6
  have c8 := hc 8
  clear hc
  simp [stepCells] at c0 c2 c3 c5 c6 c8
  go_enter Tryd.func19, Tryd.ntmps19
  go_wp2
  refine wp_loop_rounds 4 ?_
  rw [rounds_succ]
  go_wp2
  go_quiet ((go_at_call 44; exact quiet_left (unshift31 _ _)))
  go_wp2
  rw [rounds_succ]
  go_wp2
  go_quiet ((go_at_call 44; exact quiet_add_left (unshift27 _ _)))
  go_wp2
  rw [rounds_succ]
  go_wp2
  go_quiet ((go_at_call 44; exact quiet_add_left (unshift30 _ _)))
  go_wp2
  rw [rounds_succ]
  go_wp2
  go_ret
  refine ⟨?_, below_drewN (Below.refl _ _) _⟩
  rfl

end Go.Proofs.YthalafjbkmemhaaDoor
