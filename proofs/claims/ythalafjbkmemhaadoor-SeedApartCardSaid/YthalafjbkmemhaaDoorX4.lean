/- What the closure that draws returns, and what it leaves: drawer, drawer$1. -/
import Derived.Test.YthalafjbkmemhaaDoorX3
import Derived.BigRegion
import Derived.Deep.OwnRows
namespace Go.Proofs.YthalafjbkmemhaaDoor
open Go Go.RowKit
set_option maxRecDepth 100000
/-- Block b of w holds just the integers l, and may be written. -/
def Own (w : World) (b : Nat) (l : List Int) : Prop := ∃ t, w.heap[b]? = some (.cells (l.map (Value.int .i64)).toArray t (0, 0))
theorem Own.lt {w : World} {b : Nat} {l : List Int} (h : Own w b l) : b < w.heap.size := by
  obtain ⟨t, h⟩ := h
  exact (Array.getElem?_eq_some_iff.1 h).1
theorem Own.cell {w : World} {b : Nat} {l : List Int} (h : Own w b l) (i : Nat) (hi : i < l.length) : w.cell? ⟨b, i, none⟩ = some (.int .i64 (l.getD i 0)) := by
  obtain ⟨t, h⟩ := h
  simp [World.cell?, h, List.getD, hi]
theorem Own.free {w : World} {b : Nat} {l : List Int} (h : Own w b l) (i : Nat) : w.frozen? ⟨b, i, none⟩ = false := by
  obtain ⟨t, h⟩ := h
  simp [World.frozen?, h]
theorem Own.block {w w' : World} {b : Nat} {l : List Int} (h : Own w b l) (e : w'.heap[b]? = w.heap[b]?) : Own w' b l := by
  obtain ⟨t, h⟩ := h
  exact ⟨t, e.trans h⟩
theorem Own.below {w w' : World} {B b : Nat} {l : List Int} (h : Own w b l) (hb : Below B w w') (hB : b < B) : Own w' b l := h.block (hb.block b hB)
theorem Own.grown {w w' : World} {b r : Nat} {l : List Int} (h : Own w b l) (hg : w.grownBy w' (some r)) (hr : b ≠ r) : Own w' b l :=
  h.block (hg.block b h.lt (by simpa using hr))
theorem Own.set {w : World} {b : Nat} {l : List Int} (h : Own w b l) (i : Nat) (x : Int) : Own (w.setCell ⟨b, i, none⟩ (.int .i64 x)) b (l.set i x) := by
  obtain ⟨t, h⟩ := h
  refine ⟨t, ?_⟩
  rw [heap_setCell_same w b i _ t _ h]
  simp [List.map_set]
theorem Own.other {w : World} {b c : Nat} {l : List Int} {v : Value} (h : Own w b l) (i : Nat) (hc : b ≠ c) : Own (w.setCell ⟨c, i, none⟩ v) b l :=
  h.block (Below.heap_setCell _ _ _ _ hc)
theorem grown_refl (w : World) (r : Option Nat) : w.grownBy w r := ⟨rfl, rfl, rfl, Nat.le_refl _, fun _ _ _ => rfl⟩
theorem grown_trans {a b c : World} {r : Option Nat} (h : a.grownBy b r) (k : b.grownBy c r) : a.grownBy c r :=
  ⟨k.os.trans h.os, k.tape.trans h.tape, k.output.trans h.output, Nat.le_trans h.size k.size, fun i hi hr => (k.block i (Nat.lt_of_lt_of_le hi h.size) hr).trans (h.block i hi hr)⟩
theorem grown_of_below {a b : World} {r : Option Nat} (h : Below a.heap.size a b) : a.grownBy b r := ⟨h.os, h.tape, h.output, h.size, fun i hi _ => h.block i hi⟩
theorem grown_set (a : World) (c i : Nat) (v : Value) : a.grownBy (a.setCell ⟨c, i, none⟩ v) (some c) :=
  ⟨rfl, rfl, rfl, by simp [World.setCell], fun k _ hk => Below.heap_setCell _ _ _ _ (by simpa using hk)⟩
theorem below_of_grown {a b : World} {r B : Nat} (h : a.grownBy b (some r)) (hr : B ≤ r) (hB : B ≤ a.heap.size) : Below B a b :=
  ⟨h.os, h.tape, h.output, h.size, fun k hk => h.block k (by omega) (by simp; omega)⟩
theorem drawer_any (i : Int) (w : World) :
    Calls Tryd.prog 46 #[.int .i64 i] w fun e w' => e = .returned (.func (.func 52) #[] #[.pointer (some ⟨w.heap.size, 0, none⟩)]) ∧ w.alloc (.cells #[.int .i64 i] 3) = w' := by
  have hmf : ∀ (fn : Fn) (first cap : Array Value) (w : World), (Instr.makeFunc fn first cap).run Tryd.prog w = .ok (.func fn first cap) w := fun _ _ _ _ => rfl
  go_enter Tryd.func46, Tryd.ntmps46
  go_wp2
  go_ret
  exact ⟨rfl, rfl⟩
theorem below_some (k i n v nx : Int) (w : World) (h : Stp w) (h1 : 0 ≤ i) (h2 : i ≤ 1099511627776) (h3 : 1 ≤ n) (h4 : n ≤ 9223372036854775807) (hr : belowR k i n = some (v, nx)) :
    Calls Tryd.prog 26 #[.agg #[.int .u64 k], .int .i64 i, .int .i64 n] w fun e w' => e = .returned (.tuple #[.int .i64 v, .int .i64 nx, .int .i64 0]) ∧ Below w.heap.size w w' :=
  (below_ok k i n w h h1 h2 h3 h4).mono fun _ _ ⟨he, hb⟩ => ⟨by rw [he, hr]; rfl, hb⟩
theorem below_none (k i n : Int) (w : World) (h : Stp w) (h1 : 0 ≤ i) (h2 : i ≤ 1099511627776) (h3 : 1 ≤ n) (h4 : n ≤ 9223372036854775807) (hr : belowR k i n = none) :
    Calls Tryd.prog 26 #[.agg #[.int .u64 k], .int .i64 i, .int .i64 n] w fun e w' => e = .returned (.tuple #[.int .i64 0, .int .i64 0, .int .i64 4]) ∧ Below w.heap.size w w' :=
  (below_ok k i n w h h1 h2 h3 h4).mono fun _ _ ⟨he, hb⟩ => ⟨by rw [he, hr]; rfl, hb⟩
set_option maxHeartbeats 1000000 in
theorem draw_some (k i n v nx : Int) (b : Nat) (w : World) (h : Stp w) (hc : Own w b [i]) (h1 : 0 ≤ i) (h2 : i ≤ 1099511627776) (h3 : 1 ≤ n) (h4 : n ≤ 9223372036854775807) (hr : belowR k i n = some (v, nx)) :
    Calls Tryd.prog 52 #[.func (.func 26) #[.agg #[.int .u64 k]] #[], .int .i64 n, .pointer (some ⟨b, 0, none⟩)] w fun e w' => e = .returned (.tuple #[.int .i64 v, .int .i64 nx, .int .i64 0]) ∧ w.grownBy w' (some b) ∧ Own w' b [nx] := by
  have c0 : w.cell? ⟨b, 0, none⟩ = some (.int .i64 i) := hc.cell 0 (by simp)
  have hlt := hc.lt
  have HR := Lib.hid hr
  clear hr
  go_enter Tryd.func52, Tryd.ntmps52
  go_wp2_with fail
  refine (below_some _ _ _ _ _ _ h h1 h2 h3 h4 HR.out).mono ?_
  rintro e w1 ⟨rfl, hb⟩
  have hc1 := hc.below hb hc.lt
  have c1 : w1.cell? ⟨b, 0, none⟩ = some (.int .i64 i) := hc1.cell 0 (by simp)
  have f1 := hc1.free 0
  go_wp2_with fail
  go_ret3
  exact ⟨rfl, grown_trans (grown_of_below hb) (grown_set _ _ _ _), hc1.set 0 nx⟩
set_option maxHeartbeats 1000000 in
theorem draw_none (k i n : Int) (b : Nat) (w : World) (h : Stp w) (hc : Own w b [i]) (h1 : 0 ≤ i) (h2 : i ≤ 1099511627776) (h3 : 1 ≤ n) (h4 : n ≤ 9223372036854775807) (hr : belowR k i n = none) :
    Calls Tryd.prog 52 #[.func (.func 26) #[.agg #[.int .u64 k]] #[], .int .i64 n, .pointer (some ⟨b, 0, none⟩)] w fun e w' => e = .returned (.tuple #[.int .i64 0, .int .i64 0, .int .i64 4]) ∧ Below w.heap.size w w' := by
  have c0 : w.cell? ⟨b, 0, none⟩ = some (.int .i64 i) := hc.cell 0 (by simp)
  have hlt := hc.lt
  have HR := Lib.hid hr
  clear hr
  go_enter Tryd.func52, Tryd.ntmps52
  go_wp2_with fail
  refine (below_none _ _ _ _ h h1 h2 h3 h4 HR.out).mono ?_
  rintro e w1 ⟨rfl, hb⟩
  go_wp2_with fail
  go_ret3
  exact ⟨rfl, hb⟩
end Go.Proofs.YthalafjbkmemhaaDoor
