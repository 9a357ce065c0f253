/- What Sub returns, for every name. -/
import Derived.Test.YthalafjbkmemhaaDoorX8
namespace Go.Proofs.YthalafjbkmemhaaDoor
open Go Go.RowKit
set_option maxRecDepth 100000
def subTo (k : Int) : List UInt8 → Int := fun l => l.foldl (fun a c => mixI (bits .xor .u64 a (IntKind.u64.wrap (c.toNat : Int)))) k
def subI (k : Int) (l : List UInt8) : Int := subTo (mixI (bits .xor .u64 k (l.length : Int))) l
theorem subTo_snoc (k : Int) (l : List UInt8) (c : UInt8) : subTo k (l ++ [c]) = mixI (bits .xor .u64 (subTo k l) (IntKind.u64.wrap (c.toNat : Int))) := by simp [subTo]
theorem take_snoc (s : ByteArray) (k : Nat) (h : k < s.size) : s.data.toList.take (k + 1) = s.data.toList.take k ++ [s[k]] := by
  rw [List.take_succ_eq_append_getElem (by simpa using h)]; rfl
theorem nonempty_of (s : ByteArray) (h : 0 < s.size) : s.toList.isEmpty = false := by
  cases e : s.toList.isEmpty
  · rfl
  · exfalso
    have h1 : s.toList = [] := by simpa using e
    rw [ByteArray.toList_eq] at h1
    have h3 : s.data.toList.length = 0 := by rw [h1]; rfl
    rw [Array.length_toList] at h3
    have h4 : s.size = s.data.size := rfl
    omega
set_option maxHeartbeats 1000000 in
theorem sub_empty (k : Int) (s : ByteArray) (w : World) (hs : s.size = 0) :
    Calls Tryd.prog 25 #[.agg #[.int .u64 k], .string s] w fun e w' => e = .returned (.tuple #[.agg #[.int .u64 0], .int .i64 2]) ∧ Below w.heap.size w w' := by
  obtain rfl : s = ByteArray.empty := by
    apply ByteArray.ext
    exact Array.eq_empty_of_size_eq_zero hs
  go_enter Tryd.func25, Tryd.ntmps25
  go_wp2_with fail
  exact bodyPost_ret (v := .tuple #[.agg #[.int .u64 0], .int .i64 2]) (by simp [results, Tryd.results25, go_sem]) rfl ⟨rfl, Below.alloc (Below.alloc (Below.refl _ _) (Nat.le_refl _) _) (by simp) _⟩
set_option maxHeartbeats 1000000 in
theorem sub_long (k : Int) (s : ByteArray) (w : World) (hs : 32 < s.size) (hm : s.size ≤ 9223372036854775807) :
    Calls Tryd.prog 25 #[.agg #[.int .u64 k], .string s] w fun e w' => e = .returned (.tuple #[.agg #[.int .u64 0], .int .i64 3]) ∧ Below w.heap.size w w' := by
  have h1 : s.toList.isEmpty = false := nonempty_of s (by omega)
  go_enter Tryd.func25, Tryd.ntmps25
  go_wp2_with fail
  exact bodyPost_ret (v := .tuple #[.agg #[.int .u64 0], .int .i64 3]) (by simp [results, Tryd.results25, go_sem]) rfl ⟨rfl, Below.alloc (Below.alloc (Below.refl _ _) (Nat.le_refl _) _) (by simp) _⟩
set_option maxHeartbeats 1000000 in
theorem sub_ok (k : Int) (s : ByteArray) (w : World) (h : Stp w) (hs : 0 < s.size) (hm : s.size ≤ 32) :
    Calls Tryd.prog 25 #[.agg #[.int .u64 k], .string s] w fun e w' => e = .returned (.tuple #[.agg #[.int .u64 (subI k s.data.toList)], .int .i64 0]) ∧ Below w.heap.size w w' := by
  have h1 : s.toList.isEmpty = false := nonempty_of s hs
  have hk : subI k s.data.toList = subTo (mixI (bits .xor .u64 k (s.size : Int))) s.data.toList := by
    unfold subI
    rw [show s.data.toList.length = s.size from by simp]
  have HK := Lib.hid hk
  clear hk
  go_enter Tryd.func25, Tryd.ntmps25
  go_wp2_with fail
  have hb1 : Below w.heap.size w ((w.alloc (.cells #[.int .u64 k] 33)).alloc (.cells #[.int .u64 0] 33)) := Below.alloc (Below.alloc (Below.refl _ _) (Nat.le_refl _) _) (by simp) _
  refine (mix_any _ _ (h.of hb1)).mono ?_
  rintro e w1 ⟨rfl, hb2⟩
  have hz := hb2.size
  simp at hz
  have hc0 := hb2.cell (p := ⟨w.heap.size + 1, 0, none⟩) (by simp)
  have hf0 := hb2.frozen (p := ⟨w.heap.size + 1, 0, none⟩) (by simp)
  generalize hbase : mixI (bits .xor .u64 k (s.size : Int)) = m0 at HK ⊢
  clear hbase
  go_wp2_with fail
  go_loopw [6, 24] (fun a i wr => ∃ j : Nat, j ≤ s.size ∧ i = .int .i64 j ∧ a = .int .u64 (subTo m0 (s.data.toList.take j)) ∧ Below (w.heap.size + 2) ((w.alloc (.cells #[.int .u64 k] 33)).alloc (.cells #[.int .u64 0] 33)) wr) (fun _ i _ => s.size - (intOf i).toNat)
  case atStart => exact ⟨0, Nat.zero_le _, rfl, rfl, hb2.mono (by simp)⟩
  case round =>
    clear hc0 hf0 hb2 hz
    obtain ⟨j, hj, rfl, rfl, hb⟩ := hrel
    have hst : Stp wr := (h.of hb1).below (by omega) hb
    by_cases hlt : j < s.size
    · have ts := Lib.hid (take_snoc s j hlt)
      go_wp2_with fail
      refine (mix_any _ _ hst).mono ?_
      rintro e w2 ⟨rfl, hb3⟩
      go_wp2_with fail
      go_roundw
      case rel => exact ⟨j + 1, by omega, by go_num, by rw [ts.out, subTo_snoc], hb.trans (hb3.mono (by have := hb.size; simp at this; omega))⟩
      case measure => simp [intOf]; omega
    · obtain rfl : j = s.size := by omega
      have hz := hb.size
      simp at hz
      have hc0 := hb.cell (p := ⟨w.heap.size + 1, 0, none⟩) (by simp)
      have hf0 := hb.frozen (p := ⟨w.heap.size + 1, 0, none⟩) (by simp)
      go_wp2_with fail
      have hl1 : w.heap.size + 1 < wr.heap.size := by omega
      refine bodyPost_ret (v := .tuple #[.agg #[.int .u64 (subI k s.data.toList)], .int .i64 0]) ?_ rfl ⟨rfl, ((hb1.trans (hb.mono (by omega))).setCell (by simp) _)⟩
      rw [HK.out]
      have e : s.data.toList.take s.size = s.data.toList := List.take_of_length_le (by simp)
      rw [e]
      simp [results, Tryd.results25, go_sem, hc0]
end Go.Proofs.YthalafjbkmemhaaDoor
