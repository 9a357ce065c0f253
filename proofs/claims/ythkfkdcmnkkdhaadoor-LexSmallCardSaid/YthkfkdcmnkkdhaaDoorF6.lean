/- The next token, whatever comes: as the mathematics tells it. -/
import Derived.Test.YthkfkdcmnkkdhaaDoorF5
import Derived.Test.YthkfkdcmnkkdhaaDoorL3
namespace Go.Proofs.YthkfkdcmnkkdhaaDoor
open Go Go.RowKit
set_option maxRecDepth 100000
set_option linter.unusedVariables false
set_option maxHeartbeats 2000000 in
theorem next_end (x : ByteArray) (hm : x.size ≤ 1000000) (sb p : Nat) (cs : Array Value) (w : World) (hs : Scan w sb x cs p) (hp : p ≤ x.size) (hbl : Blanks x p x.size) :
    Calls Tryd.prog 29 #[.pointer (some ⟨sb, 0, none⟩)] w fun e w' => e = .returned (.tuple #[.agg #[.int .u8 5, .string ⟨#[]⟩, .int .i64 x.size], .int .i64 0]) ∧ But sb w w' ∧ Scan w' sb x cs x.size := by
  have hB := Lib.hid (fun c V => lexBlank_any c V)
  have hblh := Lib.hid hbl
  clear hbl
  go_enter Tryd.func29, Tryd.ntmps29
  go_wp2_with fail
  have hb0 := bel_laid w (.cells #[.int .u8 0, .string ⟨#[]⟩, .int .i64 0] 27)
  have hs0 := hs.below hb0
  have hlts := hs.lt
  have hr0 := heap_alloc_new w (.cells #[.int .u8 0, .string ⟨#[]⟩, .int .i64 0] 27)
  obtain ⟨w0, hw0⟩ : ∃ w0, w.alloc (.cells #[.int .u8 0, .string ⟨#[]⟩, .int .i64 0] 27) = w0 := ⟨_, rfl⟩
  rw [hw0] at hb0 hs0 hr0 ⊢
  have hs0h := Lib.hid hs0
  have hr0h := Lib.hid hr0
  have hb0h := Lib.hid hb0
  clear hw0 hs hs0 hr0 hb0
  go_loopw [] (fun wr => ∃ k : Nat, p ≤ k ∧ k ≤ x.size ∧ Scan wr sb x cs k ∧ But sb w0 wr) (fun wr => x.size - (intOf ((wr.cell? ⟨sb, 0, none⟩).getD undef)).toNat)
  case atStart => exact ⟨p, Nat.le_refl _, hp, hs0h.out, But.refl _ _⟩
  case round =>
    obtain ⟨k, hq1, hq2, hsc, hbu⟩ := hrel
    have d0 := hsc.c0
    have d1 := hsc.c1
    have f0 := hsc.free 0
    have hsch := Lib.hid hsc
    have hbuh := Lib.hid hbu
    clear hsc hbu
    by_cases hkx : k < x.size
    · have hkx' : (k : Int) < (x.size : Int) := by omega
      have hBq := hB.out (x[k].toNat : Int)
      rw [hblh.out k hkx hq1 hkx] at hBq
      have hBh := Lib.hid hBq
      clear hBq hB
      go_wp2_with fail
      go_quiet ((go_at_call 44; refine Calls.quiet_of_same (hBh.out _)))
      go_wp2
      rw [show ((k : Int) + 1) = ((k + 1 : Nat) : Int) from by omega]
      have hs2 := (hsch.out.below (bel_drewN wr nq)).set (k + 1)
      refine ⟨⟨k + 1, by omega, by omega, hs2, (hbuh.out.trans (But.drew wr nq)).trans (But.set _ _)⟩, ?_⟩
      rw [hs2.c0, d0]; simp [intOf]; omega
    · obtain rfl : k = x.size := by omega
      clear hkx hB
      go_wp2_with fail
      go_quiet (fail)
      have hs2 := hsch.out.below (bel_drewN wr nq)
      have hbu2 := hbuh.out.trans (But.drew wr nq)
      generalize wr.drewN nq = V at hs2 hbu2 ⊢
      clear d0 d1 f0 hsch hbuh hs0h
      have d0 := hs2.c0
      have d1 := hs2.c1
      have hs2h := Lib.hid hs2
      have hbu2h := Lib.hid hbu2
      clear hs2 hbu2
      have hee : ((x.size : Int) == (x.size : Int)) = true := by simp
      go_wp2_with fail
      go_quiet (fail)
      have hs2 := hs2h.out.below (bel_drewN V nq)
      have hbu2 := hbu2h.out.trans (But.drew V nq)
      generalize V.drewN nq = V at hs2 hbu2 ⊢
      clear d0 d1 hs2h hbu2h
      have d0 := hs2.c0
      have d1 := hs2.c1
      have hrV : V.heap[w.heap.size]? = some (.cells #[.int .u8 0, .string ⟨#[]⟩, .int .i64 0] 27 (0, 0)) := (hbu2.2.2.2.2 _ (Array.getElem?_eq_some_iff.1 hr0h.out).1 (by omega)).trans hr0h.out
      have r0 := (cell_of_row V w.heap.size 0 _ 27 (0, 0) hrV).trans (rfl : _ = some (Value.int .u8 0))
      have r1 := (cell_of_row V w.heap.size 1 _ 27 (0, 0) hrV).trans (rfl : _ = some (Value.string ⟨#[]⟩))
      have r2 := (cell_of_row V w.heap.size 2 _ 27 (0, 0) hrV).trans (rfl : _ = some (Value.int .i64 0))
      have s0 := frozen_of_row V w.heap.size 0 _ 27 hrV
      have s1 := frozen_of_row V w.heap.size 1 _ 27 hrV
      have s2 := frozen_of_row V w.heap.size 2 _ 27 hrV
      have hs2h := Lib.hid hs2
      have hMh := Lib.hid ((But.of_below hb0h.out).trans hbu2)
      have n2 : ¬ sb = w.heap.size := by omega
      clear hs2 hbu2 hrV
      go_wp2_with fail
      refine bodyPost_ret (v := .tuple #[.agg #[.int .u8 5, .string ⟨#[]⟩, .int .i64 x.size], .int .i64 0]) (by simp [results, Tryd.results29, go_sem, r0, r1, r2]) rfl ⟨rfl, ((hMh.out.setNew (Nat.le_refl _) _).setNew (Nat.le_refl _) _).setNew (Nat.le_refl _) _, ?_⟩
      unfold Scan
      rw [heap_setCell_other _ _ _ _ (show sb ≠ w.heap.size from n2), heap_setCell_other _ _ _ _ (show sb ≠ w.heap.size from n2), heap_setCell_other _ _ _ _ (show sb ≠ w.heap.size from n2)]
      exact hs2h.out
def rkL (l : List UInt8) : Int := rkB ⟨l.toArray⟩
def mkL (l : List UInt8) : Int := mkB ⟨l.toArray⟩
theorem isWord_or (s : ByteArray) : rkB s = 3 ∨ rkB s = 1 ∨ rkB s = 0 := by
  unfold rkB
  split
  · exact .inl rfl
  · split
    · exact .inr (.inl rfl)
    · exact .inr (.inr rfl)
theorem mkB_or (s : ByteArray) : mkB s = 2 ∨ mkB s = 0 := by
  unfold mkB
  split
  · exact .inl rfl
  · exact .inr rfl
theorem kinds : Lx.Kinds rkL mkL := by
  intro c r k m h
  unfold Lx.tk at h
  split at h
  · split at h
    · cases h
    · cases h
      have := isWord_or ⟨(c :: r.take (Lx.run r)).toArray⟩
      unfold rkL
      omega
  · split at h
    · split at h
      · cases h
      · cases h
        have := mkB_or ⟨(c :: r.take (Lx.run r)).toArray⟩
        unfold mkL
        omega
    · split at h
      · cases h
      · cases h; decide
theorem drop_cons (x : ByteArray) (p : Nat) (h : p < x.size) : x.data.toList.drop p = x[p] :: x.data.toList.drop (p + 1) := by
  rw [List.drop_eq_getElem_cons (by simpa using h)]
  rfl
/-- Where the blanks end. -/
theorem nx_at (x : ByteArray) : ∀ (n p : Nat), x.size - p ≤ n → p ≤ x.size → ∃ q, p ≤ q ∧ q ≤ x.size ∧ Blanks x p q ∧
    ((q = x.size ∧ Lx.nx rkL mkL (x.data.toList.drop p) p = (⟨5, [], (x.size : Int)⟩, 0, [], x.size)) ∨
     ∃ h : q < x.size, blaC (x[q].toNat : Int) = false ∧ Lx.nx rkL mkL (x.data.toList.drop p) p = match Lx.tk rkL mkL x[q] (x.data.toList.drop (q + 1)) with
      | .err e => (⟨0, [], (q : Int)⟩, e, x[q] :: x.data.toList.drop (q + 1), q)
      | .tok k m => (⟨k, x[q] :: (x.data.toList.drop (q + 1)).take m, (q : Int)⟩, 0, (x.data.toList.drop (q + 1)).drop m, q + 1 + m))
  | n, p, hn, hp => by
    by_cases hlt : p < x.size
    · have hd := drop_cons x p hlt
      cases hb : blaC (x[p].toNat : Int) with
      | true =>
        match n, hn with
        | 0, hn => omega
        | n + 1, hn =>
          obtain ⟨q, h1, h2, h3, h4⟩ := nx_at x n (p + 1) (by omega) (by omega)
          have e : Lx.nx rkL mkL (x.data.toList.drop p) p = Lx.nx rkL mkL (x.data.toList.drop (p + 1)) (p + 1) := by
            rw [hd]
            simp only [Lx.nx]
            rw [if_pos (by rw [← blaC_of]; exact hb)]
          refine ⟨q, by omega, h2, fun j hj hpj hjq => ?_, ?_⟩
          · by_cases ej : j = p
            · subst ej; exact hb
            · exact h3 j hj (by omega) hjq
          · rw [e]; exact h4
      | false =>
        refine ⟨p, Nat.le_refl _, hp, fun j hj h1 h2 => by omega, .inr ⟨hlt, hb, ?_⟩⟩
        rw [hd]
        simp only [Lx.nx]
        rw [if_neg (by rw [← blaC_of, hb]; simp)]
        cases Lx.tk rkL mkL x[p] (x.data.toList.drop (p + 1)) <;> rfl
    · obtain rfl : p = x.size := by omega
      refine ⟨x.size, Nat.le_refl _, Nat.le_refl _, fun j hj h1 h2 => by omega, .inl ⟨rfl, ?_⟩⟩
      rw [List.drop_of_length_le (by simp)]
      rfl
theorem extract_take (y : ByteArray) (n : Nat) : y.extract 0 n = ⟨(y.data.toList.take n).toArray⟩ := by
  apply ByteArray.ext
  rw [ByteArray.data_extract]
  apply Array.ext'
  rw [Array.toList_extract]
  simp [List.extract_eq_take_drop]
theorem startR_tk (c : UInt8) (r : List UInt8) (y : ByteArray) (hy : y.data.toList = c :: r) : startR c.toNat y = match Lx.tk rkL mkL c r with
    | .err e => (0, ⟨#[]⟩, e)
    | .tok k m => (k, ⟨(c :: r.take m).toArray⟩, 0) := by
  have hr : runB y = Lx.run r := by unfold runB; rw [hy]; rfl
  have he : y.extract 0 (1 + runB y) = ⟨(c :: r.take (Lx.run r)).toArray⟩ := by
    rw [extract_take, hy, hr, Nat.add_comm, List.take_succ_cons]
  unfold startR Lx.tk
  rw [he, letC_of]
  cases hl : Lx.letter c with
  | true =>
    simp only [if_true]
    by_cases hk : rkB ⟨(c :: r.take (Lx.run r)).toArray⟩ = 0
    · rw [if_pos hk, if_pos (show rkL _ = 0 from hk)]
    · rw [if_neg hk, if_neg (show ¬ rkL _ = 0 from hk)]
      rfl
  | false =>
    simp only [Bool.false_eq_true, if_false]
    have h63 : (c.toNat = 63) ↔ c = 63 := by
      constructor
      · intro h; apply UInt8.toNat_inj.1; rw [h]; rfl
      · rintro rfl; rfl
    by_cases hc : c = 63
    · rw [if_pos (h63.2 hc), if_pos hc]
      by_cases hk : mkB ⟨(c :: r.take (Lx.run r)).toArray⟩ = 0
      · rw [if_pos hk, if_pos (show mkL _ = 0 from hk)]
      · rw [if_neg hk, if_neg (show ¬ mkL _ = 0 from hk)]
        rfl
    · rw [if_neg (fun h => hc (h63.1 h)), if_neg hc, hy]
      cases hs : Lx.sgn (c :: r) with
      | none => rfl
      | some s =>
        have hp := (Lx.sgn_mem hs).2
        have hpos := Lx.sgs_pos s (Lx.sgn_mem hs).1
        have hs2 : s = c :: r.take (s.length - 1) := by
          rw [List.isPrefixOf_iff_prefix, List.prefix_iff_eq_take] at hp
          rw [show s.length = (s.length - 1) + 1 by omega, List.take_succ_cons] at hp
          exact hp
        simp only
        rw [← hs2]
/-- The table as the scanner has it. -/
def TabX (w : World) (sb : Nat) (cs : Array Value) : Prop := ∃ g1 g2, g1 ≠ sb ∧ g2 ≠ sb ∧ (∀ j, j < 256 → cs[j]? = some (startV g1 g2 j)) ∧ w.cell? ⟨g1, 0, none⟩ = some (.func (.func 40) #[] #[]) ∧ w.cell? ⟨g2, 0, none⟩ = some (.func (.func 41) #[] #[])
theorem TabX.but {w W : World} {sb : Nat} {cs : Array Value} (h : TabX w sb cs) (hb : But sb w W) : TabX W sb cs := by
  obtain ⟨g1, g2, h1, h2, h3, h4, h5⟩ := h
  exact ⟨g1, g2, h1, h2, h3, hb.cell h1 h4, hb.cell h2 h5⟩
def tokV (t : Lx.Tok) : Value := .agg #[.int .u8 t.k, .string ⟨t.t.toArray⟩, .int .i64 t.at']
/-- The next token. -/
theorem next_any (x : ByteArray) (hm : x.size ≤ 1000000) (sb p : Nat) (cs : Array Value) (w : World) (hs : Scan w sb x cs p) (hp : p ≤ x.size) (ht : TabX w sb cs) (hsg : Sgs w) (hsb : sb ≠ 0) :
    ∃ t e q, Lx.nx rkL mkL (x.data.toList.drop p) p = (t, e, x.data.toList.drop q, q) ∧ p ≤ q ∧ q ≤ x.size ∧
      Calls Tryd.prog 29 #[.pointer (some ⟨sb, 0, none⟩)] w fun e' w' => e' = .returned (.tuple #[tokV t, .int .i64 e]) ∧ But sb w w' ∧ Scan w' sb x cs q := by
  obtain ⟨q, h1, h2, h3, ⟨rfl, h4⟩ | ⟨hlt, hb, h4⟩⟩ := nx_at x (x.size - p) p (Nat.le_refl _) hp
  · refine ⟨_, _, x.size, by rw [h4, List.drop_of_length_le (by simp)], hp, Nat.le_refl _, ?_⟩
    exact next_end x hm sb p cs w hs hp h3
  · obtain ⟨y, hy0, hy, hysz, hyq, hyl⟩ := rest_of x q hlt
    rw [drop_cons x q hlt] at hyl
    have hst := startR_tk x[q] _ y hyl
    obtain ⟨g1, g2, n1, n2, hct, hg1, hg2⟩ := ht
    have hcq := hct x[q].toNat x[q].toNat_lt
    have hrest := List.length_drop (i := q + 1) (l := x.data.toList)
    have hxl : x.data.toList.length = x.size := by simp
    have key : ∀ (rk : Int) (rt : ByteArray) (re : Int), startR x[q].toNat y = (rk, rt, re) → rt.size ≤ x.size - q →
        Calls Tryd.prog 29 #[.pointer (some ⟨sb, 0, none⟩)] w fun e w' => e = .returned (.tuple #[.agg #[.int .u8 rk, .string rt, .int .i64 q], .int .i64 re]) ∧ But sb w w' ∧ Scan w' sb x cs (q + rt.size) := by
      intro rk rt re hR hrt
      have hmy : y.size ≤ 1000000 := by omega
      cases hl : letC (x[q].toNat : Int) with
      | true =>
        rw [startV, if_pos hl] at hcq
        refine next_tok x hm sb p q cs w hs h1 hlt h3 hb 52 #[.pointer (some ⟨g1, 0, none⟩)] (enters_of Tryd.func52 (by kernel_rfl) rfl) hcq rk rt re hrt (fun W hW => ?_)
        rw [hy]
        have := start_run x[q].toNat y hy0 hmy g1 W hl (hW.cell n1 hg1)
        rw [hR] at this
        exact this
      | false =>
        by_cases h63 : x[q].toNat = 63
        · rw [startV, if_neg (by rw [hl]; simp), if_pos h63] at hcq
          refine next_tok x hm sb p q cs w hs h1 hlt h3 hb 52 #[.pointer (some ⟨g2, 0, none⟩)] (enters_of Tryd.func52 (by kernel_rfl) rfl) hcq rk rt re hrt (fun W hW => ?_)
          rw [hy]
          have := start_mark y hy0 hmy g2 W (hW.cell n2 hg2)
          rw [← h63, hR] at this
          exact this
        · rw [startV, if_neg (by rw [hl]; simp), if_neg h63] at hcq
          refine next_tok x hm sb p q cs w hs h1 hlt h3 hb 43 #[] (enters_of Tryd.func43 (by kernel_rfl) rfl) hcq rk rt re hrt (fun W hW => ?_)
          rw [hy]
          have := start_sign x[q].toNat y W (hsg.but hW hsb) hl h63
          rw [hR] at this
          exact this
    cases htk : Lx.tk rkL mkL x[q] (x.data.toList.drop (q + 1)) with
    | err e =>
      rw [htk] at hst h4
      refine ⟨_, _, q, by rw [h4, drop_cons x q hlt], h1, h2, ?_⟩
      exact key 0 ⟨#[]⟩ e hst (Nat.zero_le _)
    | tok k m =>
      rw [htk] at hst h4
      have hmle := Lx.tk_le rkL mkL _ _ _ _ htk
      rw [hrest, hxl] at hmle
      simp only [List.drop_drop] at h4
      refine ⟨_, _, q + 1 + m, h4, by omega, by omega, ?_⟩
      have hsz : (⟨(x[q] :: (x.data.toList.drop (q + 1)).take m).toArray⟩ : ByteArray).size = m + 1 := by
        show (x[q] :: (x.data.toList.drop (q + 1)).take m).toArray.size = m + 1
        rw [List.size_toArray, List.length_cons, List.length_take, hrest, hxl]
        omega
      have := key k ⟨(x[q] :: (x.data.toList.drop (q + 1)).take m).toArray⟩ 0 hst (by rw [hsz]; omega)
      rw [hsz, show q + (m + 1) = q + 1 + m by omega] at this
      exact this
end Go.Proofs.YthkfkdcmnkkdhaaDoor
