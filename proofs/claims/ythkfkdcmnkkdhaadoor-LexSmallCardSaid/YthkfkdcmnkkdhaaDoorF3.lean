/- Signs: the first one that a text begins with. -/
import Derived.Test.YthkfkdcmnkkdhaaDoorF2
import Derived.Test.YthkfkdcmnkkdhaaDoorH1
namespace Go.Proofs.YthkfkdcmnkkdhaaDoor
open Go Go.RowKit
set_option maxRecDepth 100000
set_option linter.unusedVariables false
def sgB (k : Nat) : ByteArray := ⟨(Lx.sgs.getD k []).toArray⟩
def sgCells : Array Value := ((List.range 13).map fun k => Value.string (sgB k)).toArray
/-- The table of signs lies in its block. -/
def Sgs (w : World) : Prop := ∃ t fr, w.heap[0]? = some (.cells sgCells t fr)
theorem Sgs.pos {w : World} (h : Sgs w) : 0 < w.heap.size := by
  obtain ⟨t, fr, h⟩ := h
  exact (Array.getElem?_eq_some_iff.1 h).1
theorem Sgs.of {w w' : World} (h : Sgs w) (hb : Below w.heap.size w w') : Sgs w' := by
  have hp := h.pos
  obtain ⟨t, fr, h⟩ := h
  exact ⟨t, fr, (hb.block 0 hp).trans h⟩
theorem sg_index (k : Nat) (hk : k < 13) (w : World) : (Instr.index 82 (.agg sgCells) (.int .i64 k)).run Tryd.prog w = .ok (.string (sgB k)) w := by
  rcases show k = 0 ∨ k = 1 ∨ k = 2 ∨ k = 3 ∨ k = 4 ∨ k = 5 ∨ k = 6 ∨ k = 7 ∨ k = 8 ∨ k = 9 ∨ k = 10 ∨ k = 11 ∨ k = 12 by omega with rfl | rfl | rfl | rfl | rfl | rfl | rfl | rfl | rfl | rfl | rfl | rfl | rfl
  all_goals kernel_rfl
theorem sgB_list (k : Nat) (hk : k < 13) : Lx.sgs[k]? = some (sgB k).data.toList := by
  rcases show k = 0 ∨ k = 1 ∨ k = 2 ∨ k = 3 ∨ k = 4 ∨ k = 5 ∨ k = 6 ∨ k = 7 ∨ k = 8 ∨ k = 9 ∨ k = 10 ∨ k = 11 ∨ k = 12 by omega with rfl | rfl | rfl | rfl | rfl | rfl | rfl | rfl | rfl | rfl | rfl | rfl | rfl
  all_goals rfl
/-- What sign hands back. -/
def sgRes : Option (List UInt8) → Value
  | none => .tuple #[noTok, .int .i64 40]
  | some s => .tuple #[.agg #[.int .u8 4, .string ⟨s.toArray⟩, .int .i64 0], .int .i64 0]
theorem find_at {α : Type} (p : α → Bool) : ∀ (l : List α) (k : Nat) (x : α), l[k]? = some x → (∀ j, j < k → ∀ y, l[j]? = some y → p y = false) → p x = true → l.find? p = some x
  | [], _, _, h, _, _ => by simp at h
  | a :: l, 0, x, h, _, hx => by
    simp at h
    subst h
    simp [hx]
  | a :: l, k + 1, x, h, hj, hx => by
    have h0 := hj 0 (by omega) a rfl
    rw [List.find?_cons, h0]
    exact find_at p l k x (by simpa using h) (fun j hjk y hy => hj (j + 1) (by omega) y (by simpa using hy)) hx
set_option maxHeartbeats 2000000 in
theorem sign_any (x : ByteArray) (w : World) (hs : Sgs w) :
    Calls Tryd.prog 43 #[.string x] w fun e w' => e = .returned (sgRes (Lx.sgn x.data.toList)) ∧ Below w.heap.size w w' := by
  have hH := Lib.hid (fun p V => Tryd.hasPrefix_any x p V)
  have hpos := hs.pos
  obtain ⟨t, fr, h0⟩ := hs
  have h1 : (w.alloc (.cells #[.int .u8 0, .string ⟨#[]⟩, .int .i64 0] 27)).heap[0]? = some (.cells sgCells t fr) := ((bel_laid w _).block 0 hpos).trans h0
  have h1h := Lib.hid h1
  clear h0 h1
  go_enter Tryd.func43, Tryd.ntmps43
  go_wp2_with (refine wpList_load_row rfl 82 _ rfl 0 rfl t _ fr _ h1h.out Tryd.underlying82 rfl (by kernel_rfl) ?_)
  obtain ⟨R, hR⟩ : ∃ R, sgRes (Lx.sgn x.data.toList) = R := ⟨_, rfl⟩
  have hRh := Lib.hid hR
  clear hR
  have hbl := bel_laid w (.cells #[.int .u8 0, .string ⟨#[]⟩, .int .i64 0] 27)
  go_loop [7] (fun i => ∃ k : Nat, k ≤ 13 ∧ i = .int .i64 k ∧ ∀ j, j < k → ∀ y, Lx.sgs[j]? = some y → y.isPrefixOf x.data.toList = false) (fun i => 13 - (intOf i).toNat)
  case atStart => exact ⟨0, by omega, rfl, by omega⟩
  case round =>
    obtain ⟨k, hk, rfl, hno⟩ := hrel
    have hnoh := Lib.hid hno
    clear hno
    by_cases hlt : k < 13
    · have hlt' : (k : Int) < 13 := by omega
      have hix := sg_index k hlt
      have hl := sgB_list k hlt
      have hHk := hH.out (sgB k)
      cases hb : Lib.hasPrefix x.data.toList (sgB k).data.toList with
      | true =>
        rw [hb] at hHk
        have hHh := Lib.hid hHk
        have hbh := Lib.hid hb
        have hlh := Lib.hid hl
        clear hHk hb hl
        go_wp2_with (go_at_call 58; refine (hHh.out _).mono ?_; rintro e w2 ⟨rfl, rfl⟩)
        refine bodyPost_ret (v := .tuple #[.agg #[.int .u8 4, .string (sgB k), .int .i64 0], .int .i64 0]) (by simp [results, Tryd.results43, go_sem]) rfl ⟨?_, ?_⟩
        · rw [Lx.sgn, find_at _ _ k _ hlh.out hnoh.out hbh.out]
          rfl
        · exact bel_laid _ _
      | false =>
        rw [hb] at hHk
        have hHh := Lib.hid hHk
        have hbh := Lib.hid hb
        have hlh := Lib.hid hl
        clear hHk hb hl
        go_wp2_with (go_at_call 58; refine (hHh.out _).mono ?_; rintro e w2 ⟨rfl, rfl⟩)
        go_round
        case rel =>
          refine ⟨k + 1, by omega, by go_num, fun j hj y hy => ?_⟩
          by_cases hjk : j < k
          · exact hnoh.out j hjk y hy
          · obtain rfl : j = k := by omega
            rw [hlh.out] at hy
            cases hy
            exact hbh.out
        case measure => simp [intOf]; omega
    · obtain rfl : k = 13 := by omega
      go_wp2
      refine bodyPost_ret (v := .tuple #[noTok, .int .i64 40]) (by simp [results, Tryd.results43, go_sem, noTok]) rfl ⟨?_, ?_⟩
      · have : Lx.sgn x.data.toList = none := by
          rw [Lx.sgn, List.find?_eq_none]
          intro y hy
          obtain ⟨j, hj, rfl⟩ := List.getElem_of_mem hy
          rw [hnoh.out j hj _ (List.getElem?_eq_getElem hj)]
          simp
        rw [this]
        rfl
      · exact bel_laid _ _
end Go.Proofs.YthkfkdcmnkkdhaaDoor
