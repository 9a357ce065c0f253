/- The next token: blanks are skipped, and what begins there is told. -/
import Derived.StillTailTactics
import Derived.Test.YthkfkdcmnkkdhaaDoorF4
namespace Go.Proofs.YthkfkdcmnkkdhaaDoor
open Go Go.RowKit
set_option maxRecDepth 100000
set_option linter.unusedVariables false
theorem blk_belowD {w V : World} {cs : Array Value} {t : TypeId} (hb : Below (w.alloc (.cells cs t)).heap.size (w.alloc (.cells cs t)).drew V) (i : Nat) (v : Value) (hv : cs[i]? = some v) :
    V.cell? ⟨w.heap.size, i, none⟩ = some v ∧ V.frozen? ⟨w.heap.size, i, none⟩ = false := blk_below (bel_step (bel_drew _) hb) i v hv
/-- The scanner's cells: its place, its text, its table. -/
def scanC (q : Nat) (x : ByteArray) (cs : Array Value) : Array Value := #[.int .i64 q, .string x] ++ cs
def Scan (V : World) (sb : Nat) (x : ByteArray) (cs : Array Value) (q : Nat) : Prop := V.heap[sb]? = some (.cells (scanC q x cs) 67 (0, 0))
theorem Scan.c0 {V : World} {sb q : Nat} {x : ByteArray} {cs : Array Value} (h : Scan V sb x cs q) : V.cell? ⟨sb, 0, none⟩ = some (.int .i64 q) := by
  rw [cell_of_row V sb 0 _ 67 (0, 0) h, scanC, Array.getElem?_append_left (by simp)]; rfl
theorem Scan.c1 {V : World} {sb q : Nat} {x : ByteArray} {cs : Array Value} (h : Scan V sb x cs q) : V.cell? ⟨sb, 1, none⟩ = some (.string x) := by
  rw [cell_of_row V sb 1 _ 67 (0, 0) h, scanC, Array.getElem?_append_left (by simp)]; rfl
theorem Scan.tab {V : World} {sb q : Nat} {x : ByteArray} {cs : Array Value} (h : Scan V sb x cs q) (j : Nat) : V.cell? ⟨sb, 2 + j, none⟩ = cs[j]? := by
  rw [cell_of_row V sb (2 + j) _ 67 (0, 0) h, scanC, Array.getElem?_append_right (by simp)]
  congr 1
  simp
theorem Scan.free {V : World} {sb q : Nat} {x : ByteArray} {cs : Array Value} (h : Scan V sb x cs q) (j : Nat) : V.frozen? ⟨sb, j, none⟩ = false := frozen_of_row V sb j _ 67 h
theorem Scan.lt {V : World} {sb q : Nat} {x : ByteArray} {cs : Array Value} (h : Scan V sb x cs q) : sb < V.heap.size := (Array.getElem?_eq_some_iff.1 h).1
theorem Scan.set {V : World} {sb q : Nat} {x : ByteArray} {cs : Array Value} (h : Scan V sb x cs q) (q' : Nat) : Scan (V.setCell ⟨sb, 0, none⟩ (.int .i64 q')) sb x cs q' := by
  have := heap_setCell_same V sb 0 _ 67 (.int .i64 q') h
  have e : (scanC q x cs).setIfInBounds 0 (.int .i64 q') = scanC q' x cs := by
    apply Array.ext'
    simp [scanC]
  unfold Scan
  rw [this, e]
theorem Scan.below {V W : World} {sb q : Nat} {x : ByteArray} {cs : Array Value} (h : Scan V sb x cs q) (hb : Below V.heap.size V W) : Scan W sb x cs q := (hb.block sb h.lt).trans h
/-- All blocks but one are as they were. -/
def But (g : Nat) (V W : World) : Prop := V.os = W.os ∧ V.tape = W.tape ∧ V.output = W.output ∧ V.heap.size ≤ W.heap.size ∧ ∀ k, k < V.heap.size → k ≠ g → W.heap[k]? = V.heap[k]?
theorem But.refl (g : Nat) (V : World) : But g V V := ⟨rfl, rfl, rfl, Nat.le_refl _, fun _ _ _ => rfl⟩
theorem But.of_below {g : Nat} {V W : World} (h : Below V.heap.size V W) : But g V W := ⟨h.os.symm, h.tape.symm, h.output.symm, h.size, fun k hk _ => h.block k hk⟩
theorem But.trans {g : Nat} {A B C : World} (h : But g A B) (h' : But g B C) : But g A C :=
  ⟨h.1.trans h'.1, h.2.1.trans h'.2.1, h.2.2.1.trans h'.2.2.1, Nat.le_trans h.2.2.2.1 h'.2.2.2.1, fun k hk hg => (h'.2.2.2.2 k (Nat.lt_of_lt_of_le hk h.2.2.2.1) hg).trans (h.2.2.2.2 k hk hg)⟩
theorem But.set {g o : Nat} (V : World) (v : Value) : But g V (V.setCell ⟨g, o, none⟩ v) :=
  ⟨rfl, rfl, rfl, by simp, fun k _ hg => heap_setCell_other V ⟨g, o, none⟩ k v hg⟩
theorem But.drew {g : Nat} (V : World) (n : Nat) : But g V (V.drewN n) := But.of_below (bel_drewN V n)
theorem But.cell {g : Nat} {V W : World} (h : But g V W) {b o : Nat} {v : Value} (hg : b ≠ g) (hc : V.cell? ⟨b, o, none⟩ = some v) : W.cell? ⟨b, o, none⟩ = some v := by
  have := h.2.2.2.2 b (lt_of_cell hc) hg
  unfold World.cell? at hc ⊢
  simp only [this]
  exact hc
theorem But.setNew {g b o : Nat} {w U : World} (h : But g w U) (hb : w.heap.size ≤ b) (v : Value) : But g w (U.setCell ⟨b, o, none⟩ v) :=
  ⟨h.1, h.2.1, h.2.2.1, by have := h.2.2.2.1; simp; omega, fun k hk hg => (heap_setCell_other U ⟨b, o, none⟩ k v (by show k ≠ b; omega)).trans (h.2.2.2.2 k hk hg)⟩
theorem Sgs.but {g : Nat} {V W : World} (hs : Sgs V) (h : But g V W) (hg : g ≠ 0) : Sgs W := by
  have hp := hs.pos
  obtain ⟨t, fr, h0⟩ := hs
  exact ⟨t, fr, (h.2.2.2.2 0 hp (Ne.symm hg)).trans h0⟩
theorem rest_of (x : ByteArray) (q : Nat) (h : q < x.size) : ∃ (y : ByteArray) (hy : 0 < y.size), x.extract q x.size = y ∧ y.size = x.size - q ∧ y[0]'hy = x[q]'h ∧ y.data.toList = x.data.toList.drop q := by
  have hs : (x.extract q x.size).size = x.size - q := by simp
  refine ⟨x.extract q x.size, by omega, rfl, hs, ?_, ?_⟩
  · rw [ByteArray.getElem_extract]
    congr 1
  · rw [ByteArray.data_extract, Array.toList_extract]
    simp only [List.extract_eq_take_drop]
    rw [List.take_of_length_le (by simp)]
/-- From p on to q there are blanks alone. -/
def Blanks (x : ByteArray) (p q : Nat) : Prop := ∀ (j : Nat) (h : j < x.size), p ≤ j → j < q → blaC (x[j].toNat : Int) = true
/-- What is told of a text that begins with byte number c: the kind, the text, the error. -/
def startR (c : Nat) (y : ByteArray) : Int × ByteArray × Int :=
  if letC (c : Int) then (if rkB (y.extract 0 (1 + runB y)) = 0 then (0, ⟨#[]⟩, 41) else (rkB (y.extract 0 (1 + runB y)), y.extract 0 (1 + runB y), 0))
  else if c = 63 then (if mkB (y.extract 0 (1 + runB y)) = 0 then (0, ⟨#[]⟩, 41) else (mkB (y.extract 0 (1 + runB y)), y.extract 0 (1 + runB y), 0))
  else match Lx.sgn y.data.toList with
    | none => (0, ⟨#[]⟩, 40)
    | some s => (4, ⟨s.toArray⟩, 0)
def resV (r : Int × ByteArray × Int) : Value := .tuple #[.agg #[.int .u8 r.1, .string r.2.1, .int .i64 0], .int .i64 r.2.2]
theorem resV_sp (k : Int) (t : ByteArray) : spRes k t = resV (if k = 0 then (0, ⟨#[]⟩, 41) else (k, t, 0)) := by
  unfold spRes
  split <;> rfl
theorem start_run (c : Nat) (y : ByteArray) (hy : 0 < y.size) (hm : y.size ≤ 1000000) (g1 : Nat) (W : World) (hl : letC (c : Int) = true) (h : W.cell? ⟨g1, 0, none⟩ = some (.func (.func 40) #[] #[])) :
    Calls Tryd.prog 52 #[.string y, .pointer (some ⟨g1, 0, none⟩)] W fun e w' => e = .returned (resV (startR c y)) ∧ Below W.heap.size W w' := by
  have := spelled_fn 40 rkB runKind_any (fun _ _ => rfl) y hy hm g1 W h
  rw [resV_sp] at this
  rwa [startR, if_pos hl]
theorem start_mark (y : ByteArray) (hy : 0 < y.size) (hm : y.size ≤ 1000000) (g2 : Nat) (W : World) (h : W.cell? ⟨g2, 0, none⟩ = some (.func (.func 41) #[] #[])) :
    Calls Tryd.prog 52 #[.string y, .pointer (some ⟨g2, 0, none⟩)] W fun e w' => e = .returned (resV (startR 63 y)) ∧ Below W.heap.size W w' := by
  have := spelled_fn 41 mkB markKind_any (fun _ _ => rfl) y hy hm g2 W h
  rw [resV_sp] at this
  rwa [startR, if_neg (by decide), if_pos rfl]
theorem start_sign (c : Nat) (y : ByteArray) (W : World) (hs : Sgs W) (hl : letC (c : Int) = false) (h63 : c ≠ 63) :
    Calls Tryd.prog 43 #[.string y] W fun e w' => e = .returned (resV (startR c y)) ∧ Below W.heap.size W w' := by
  have := sign_any y W hs
  rw [startR, if_neg (by rw [hl]; simp), if_neg h63]
  cases hq : Lx.sgn y.data.toList with
  | none => rw [hq] at this; exact this
  | some s => rw [hq] at this; exact this
/-- Behind the call: the token in its own block, the scanner as it was. -/
structure Found (w : World) (sb b : Nat) (x : ByteArray) (cs : Array Value) (k : Nat) (rk : Int) (rt : ByteArray) (U : World) : Prop where
  scan : Scan U sb x cs k
  but : But sb w U
  rb : U.heap[w.heap.size]? = some (.cells #[.int .u8 0, .string ⟨#[]⟩, .int .i64 0] 27 (0, 0))
  c0 : U.cell? ⟨b, 0, none⟩ = some (.int .u8 rk)
  c1 : U.cell? ⟨b, 1, none⟩ = some (.string rt)
  c2 : U.cell? ⟨b, 2, none⟩ = some (.int .i64 0)
  f2 : U.frozen? ⟨b, 2, none⟩ = false
  nb : b ≠ sb
  nw : w.heap.size < b
theorem Found.last {w V w' : World} {sb : Nat} {x : ByteArray} {cs : Array Value} {k : Nat} {rk : Int} {rt : ByteArray} (hs : Scan V sb x cs k) (hbu : But sb w V) (hlt : w.heap.size < V.heap.size) (hsb : sb < V.heap.size)
    (hr : V.heap[w.heap.size]? = some (.cells #[.int .u8 0, .string ⟨#[]⟩, .int .i64 0] 27 (0, 0))) (hb : Below V.heap.size V w') :
    Found w sb w'.heap.size x cs k rk rt (w'.alloc (.cells #[.int .u8 rk, .string rt, .int .i64 0] 27)) := by
  have hz := hb.size
  have hb2 := bel_step hb (bel_laid w' (.cells #[.int .u8 rk, .string rt, .int .i64 0] 27))
  have b0 := blk_below (Below.refl _ (w'.alloc (.cells #[.int .u8 rk, .string rt, .int .i64 0] 27)))
  exact ⟨hs.below hb2, hbu.trans (But.of_below hb2), (hb2.block _ hlt).trans hr, (b0 0 _ rfl).1, (b0 1 _ rfl).1, (b0 2 _ rfl).1, (b0 2 _ rfl).2, by omega, by omega⟩
theorem Found.first {w V w' : World} {sb : Nat} {x : ByteArray} {cs : Array Value} {k : Nat} {rk : Int} {rt : ByteArray} (hs : Scan V sb x cs k) (hbu : But sb w V) (hlt : w.heap.size < V.heap.size) (hsb : sb < V.heap.size)
    (hr : V.heap[w.heap.size]? = some (.cells #[.int .u8 0, .string ⟨#[]⟩, .int .i64 0] 27 (0, 0)))
    (hb : Below (V.alloc (.cells #[.int .u8 0, .string ⟨#[]⟩, .int .i64 0] 27)).drew.heap.size (V.alloc (.cells #[.int .u8 0, .string ⟨#[]⟩, .int .i64 0] 27)).drew w') :
    Found w sb V.heap.size x cs k rk rt (((w'.setCell ⟨V.heap.size, 0, none⟩ (.int .u8 rk)).setCell ⟨V.heap.size, 1, none⟩ (.string rt)).setCell ⟨V.heap.size, 2, none⟩ (.int .i64 0)) := by
  have hb1 : Below V.heap.size V w' := bel_step (bel_step (bel_laid V _) (bel_drew _)) hb
  have hb2 : Below V.heap.size V (((w'.setCell ⟨V.heap.size, 0, none⟩ (.int .u8 rk)).setCell ⟨V.heap.size, 1, none⟩ (.string rt)).setCell ⟨V.heap.size, 2, none⟩ (.int .i64 0)) :=
    ((hb1.setCell (Nat.le_refl _) _).setCell (Nat.le_refl _) _).setCell (Nat.le_refl _) _
  have hblk : w'.heap[V.heap.size]? = some (.cells #[.int .u8 0, .string ⟨#[]⟩, .int .i64 0] 27 (0, 0)) := (hb.block V.heap.size (by simp)).trans (heap_alloc_new V _)
  have h1 := heap_setCell_same w' V.heap.size 0 _ 27 (.int .u8 rk) hblk
  have h2 := heap_setCell_same _ V.heap.size 1 _ 27 (.string rt) h1
  have h3 := heap_setCell_same _ V.heap.size 2 _ 27 (.int .i64 0) h2
  exact ⟨hs.below hb2, hbu.trans (But.of_below hb2), (hb2.block _ hlt).trans hr, (cell_of_row _ _ 0 _ _ _ h3).trans rfl, (cell_of_row _ _ 1 _ _ _ h3).trans rfl, (cell_of_row _ _ 2 _ _ _ h3).trans rfl, frozen_of_row _ _ 2 _ _ h3, by omega, by omega⟩
/-- .. and with its place. -/
structure Found2 (w : World) (sb b : Nat) (x : ByteArray) (cs : Array Value) (k q : Nat) (rk : Int) (rt : ByteArray) (U : World) : Prop where
  scan : Scan U sb x cs q
  but : But sb w U
  rb : U.heap[w.heap.size]? = some (.cells #[.int .u8 0, .string ⟨#[]⟩, .int .i64 0] 27 (0, 0))
  c0 : U.cell? ⟨b, 0, none⟩ = some (.int .u8 rk)
  c1 : U.cell? ⟨b, 1, none⟩ = some (.string rt)
  c2 : U.cell? ⟨b, 2, none⟩ = some (.int .i64 k)
theorem Found.placed {w : World} {sb b : Nat} {x : ByteArray} {cs : Array Value} {k : Nat} {rk : Int} {rt : ByteArray} {U : World} (h : Found w sb b x cs k rk rt U) (hsb : sb < w.heap.size) : Found2 w sb b x cs k k rk rt (U.setCell ⟨b, 2, none⟩ (.int .i64 k)) where
  scan := (heap_setCell_other U ⟨b, 2, none⟩ sb _ (Ne.symm h.nb)).trans h.scan
  but := h.but.setNew (by have := h.nw; omega) _
  rb := (heap_setCell_other U ⟨b, 2, none⟩ w.heap.size _ (by have := h.nw; show w.heap.size ≠ b; omega)).trans h.rb
  c0 := by rw [World.cell?_setCell_other _ _ _ _ (by simp)]; exact h.c0
  c1 := by rw [World.cell?_setCell_other _ _ _ _ (by simp)]; exact h.c1
  c2 := World.cell?_setCell_same _ _ _ h.c2
theorem Found2.below {w : World} {sb b : Nat} {x : ByteArray} {cs : Array Value} {k q : Nat} {rk : Int} {rt : ByteArray} {U V : World} (h : Found2 w sb b x cs k q rk rt U) (hlt : w.heap.size < U.heap.size) (hb : Below U.heap.size U V) : Found2 w sb b x cs k q rk rt V where
  scan := h.scan.below hb
  but := h.but.trans (But.of_below hb)
  rb := (hb.block _ hlt).trans h.rb
  c0 := cell_below hb h.c0
  c1 := cell_below hb h.c1
  c2 := cell_below hb h.c2
theorem Found2.moved {w : World} {sb b : Nat} {x : ByteArray} {cs : Array Value} {k q : Nat} {rk : Int} {rt : ByteArray} {U : World} (h : Found2 w sb b x cs k q rk rt U) (hsb : sb < w.heap.size) (hnb : b ≠ sb) (q' : Nat) : Found2 w sb b x cs k q' rk rt (U.setCell ⟨sb, 0, none⟩ (.int .i64 q')) where
  scan := h.scan.set q'
  but := h.but.trans (But.set _ _)
  rb := (heap_setCell_other U ⟨sb, 0, none⟩ w.heap.size _ (by show w.heap.size ≠ sb; omega)).trans h.rb
  c0 := by rw [World.cell?_setCell_far _ _ _ _ (Ne.symm hnb)]; exact h.c0
  c1 := by rw [World.cell?_setCell_far _ _ _ _ (Ne.symm hnb)]; exact h.c1
  c2 := by rw [World.cell?_setCell_far _ _ _ _ (Ne.symm hnb)]; exact h.c2
set_option maxHeartbeats 4000000 in
theorem next_tok (x : ByteArray) (hm : x.size ≤ 1000000) (sb p q : Nat) (cs : Array Value) (w : World) (hs : Scan w sb x cs p) (hpq : p ≤ q) (hlt : q < x.size) (hbl : Blanks x p q) (hnb : blaC (x[q].toNat : Int) = false)
    (F : Nat) (caps : Array Value) (ec : ∀ args w, (callFunc F args).run Tryd.prog w = .ok (.enter F args) w) (htab : cs[x[q].toNat]? = some (.func (.func F) #[] caps)) (rk : Int) (rt : ByteArray) (re : Int) (hrt : rt.size ≤ x.size - q)
    (hF : ∀ W, But sb w W → Calls Tryd.prog F (#[.string (x.extract q x.size)] ++ caps) W fun e w' => e = .returned (.tuple #[.agg #[.int .u8 rk, .string rt, .int .i64 0], .int .i64 re]) ∧ Below W.heap.size W w') :
    Calls Tryd.prog 29 #[.pointer (some ⟨sb, 0, none⟩)] w fun e w' => e = .returned (.tuple #[.agg #[.int .u8 rk, .string rt, .int .i64 q], .int .i64 re]) ∧ But sb w w' ∧ Scan w' sb x cs (q + rt.size) := by
  have hB := Lib.hid (fun c V => lexBlank_any c V)
  have hblh := Lib.hid hbl
  have hFh := Lib.hid hF
  have htabh := Lib.hid htab
  have hnbh := Lib.hid hnb
  clear hbl hF htab hnb
  go_enter Tryd.func29, Tryd.ntmps29
  go_wp2_with fail
  have hb0 := bel_laid w (.cells #[.int .u8 0, .string ⟨#[]⟩, .int .i64 0] 27)
  have hs0 := hs.below hb0
  have hlts := hs.lt
  have hr0 := heap_alloc_new w (.cells #[.int .u8 0, .string ⟨#[]⟩, .int .i64 0] 27)
  obtain ⟨w0, hw0⟩ : ∃ w0, w.alloc (.cells #[.int .u8 0, .string ⟨#[]⟩, .int .i64 0] 27) = w0 := ⟨_, rfl⟩
  rw [hw0] at hb0 hs0 hr0 ⊢
  have hs0h := Lib.hid hs0
  have hr0h := Lib.hid hr0
  have hb0h := Lib.hid hb0
  clear hw0 hs hs0 hr0 hb0
  go_loopw [] (fun wr => ∃ k : Nat, p ≤ k ∧ k ≤ q ∧ Scan wr sb x cs k ∧ But sb w0 wr) (fun wr => x.size - (intOf ((wr.cell? ⟨sb, 0, none⟩).getD undef)).toNat)
  case atStart => exact ⟨p, Nat.le_refl _, hpq, hs0h.out, But.refl _ _⟩
  case round =>
    obtain ⟨k, hq1, hq2, hsc, hbu⟩ := hrel
    have d0 := hsc.c0
    have d1 := hsc.c1
    have f0 := hsc.free 0
    have hsch := Lib.hid hsc
    have hbuh := Lib.hid hbu
    clear hsc hbu
    have hkx : k < x.size := by omega
    have hkx' : (k : Int) < (x.size : Int) := by omega
    have hBq := hB.out (x[k].toNat : Int)
    by_cases hkq : k < q
    · rw [hblh.out k hkx hq1 hkq] at hBq
      have hBh := Lib.hid hBq
      clear hBq hB
      go_wp2_with fail
      go_quiet ((go_at_call 44; refine Calls.quiet_of_same (hBh.out _)))
      go_wp2
      rw [show ((k : Int) + 1) = ((k + 1 : Nat) : Int) from by omega]
      have hs2 := (hsch.out.below (bel_drewN wr nq)).set (k + 1)
      refine ⟨⟨k + 1, by omega, by omega, hs2, (hbuh.out.trans (But.drew wr nq)).trans (But.set _ _)⟩, ?_⟩
      rw [hs2.c0, d0]; simp [intOf]; omega
    · obtain rfl : k = q := by omega
      rw [hnbh.out] at hBq
      have hBh := Lib.hid hBq
      clear hBq hB hkq
      have hne : ((k : Int) == (x.size : Int)) = false := by simp; omega
      go_wp2_with fail
      go_quiet ((go_at_call 44; refine Calls.quiet_of_same (hBh.out _)))
      have hs2 := hsch.out.below (bel_drewN wr nq)
      have hbu2 := hbuh.out.trans (But.drew wr nq)
      generalize wr.drewN nq = V at hs2 hbu2 ⊢
      clear d0 d1 f0 hsch hbuh hs0h hBh
      have d0 := hs2.c0
      have d1 := hs2.c1
      have hs2h := Lib.hid hs2
      have hbu2h := Lib.hid hbu2
      clear hs2 hbu2
      go_wp2_with fail
      go_quiet (fail)
      have hs2 := hs2h.out.below (bel_drewN V nq)
      have hbu2 := hbu2h.out.trans (But.drew V nq)
      generalize V.drewN nq = V at hs2 hbu2 ⊢
      clear d0 d1 hs2h hbu2h
      have d0 := hs2.c0
      have d1 := hs2.c1
      have hs2h := Lib.hid hs2
      have hbu2h := Lib.hid hbu2
      clear hs2 hbu2
      go_wp2_with fail
      go_quiet (fail)
      have hs2 := hs2h.out.below (bel_drewN V nq)
      have hbu2 := hbu2h.out.trans (But.drew V nq)
      generalize V.drewN nq = V at hs2 hbu2 ⊢
      clear d0 d1 hs2h hbu2h
      have d0 := hs2.c0
      have d1 := hs2.c1
      have hs2h := Lib.hid hs2
      have hbu2h := Lib.hid hbu2
      clear hs2 hbu2
      obtain ⟨y, hy0, hy, hysz, hyq, hyl⟩ := rest_of x k hlt
      have htab := (hs2h.out.tab x[k].toNat).trans htabh.out
      have hlc : x[k].toNat < 256 := x[k].toNat_lt
      have hcn : y[0].toNat = x[k].toNat := by rw [hyq]
      rw [hy] at hFh ⊢
      clear hy htabh hnbh hyl hyq
      generalize x[k].toNat = cn at htab hlc hcn
      have hy00 : (0 : Int) < (y.size : Int) := by omega
      have hcn0 : (0 : Int) ≤ (cn : Int) := by omega
      have hcn1 : (cn : Int) < 256 := by omega
      have hS : ∀ W, Below V.heap.size V W → W.cell? ⟨sb, 2 + cn, none⟩ = some (.func (.func F) #[] caps) ∧ Below V.heap.size V W := fun W hb => ⟨cell_below hb htab, hb⟩
      have hR := Lib.hid (fun W (h : W.cell? ⟨sb, 2 + cn, none⟩ = some (.func (.func F) #[] caps) ∧ Below V.heap.size V W) =>
        (hFh.out W ((But.of_below hb0h.out).trans (hbu2h.out.trans (But.of_below h.2)))).mono (R' := fun e W' => e = .returned (.tuple #[.agg #[.int .u8 rk, .string rt, .int .i64 0], .int .i64 re]) ∧ (W'.cell? ⟨sb, 2 + cn, none⟩ = some (.func (.func F) #[] caps) ∧ Below V.heap.size V W') ∧ Below W.heap.size W W') fun e W' ⟨he, hb⟩ => ⟨he, hS _ (bel_step h.2 hb), hb⟩)
      have hSh := Lib.hid hS
      have hAl := Lib.hid (fun W o (h : W.cell? ⟨sb, 2 + cn, none⟩ = some (.func (.func F) #[] caps) ∧ Below V.heap.size V W) => hS (W.alloc o) (h.2.alloc h.2.size o))
      have hSe := Lib.hid (fun W g o v (hg : V.heap.size ≤ g) (h : W.cell? ⟨sb, 2 + cn, none⟩ = some (.func (.func F) #[] caps) ∧ Below V.heap.size V W) => hS (W.setCell ⟨g, o, none⟩ v) (h.2.setCell hg v))
      clear hS hFh hysz
      have hwV : w.heap.size < V.heap.size := Nat.lt_of_lt_of_le (Array.getElem?_eq_some_iff.1 hr0h.out).1 hbu2h.out.2.2.2.1
      have hsV := hs2h.out.lt
      have hrV : V.heap[w.heap.size]? = some (.cells #[.int .u8 0, .string ⟨#[]⟩, .int .i64 0] 27 (0, 0)) := (hbu2h.out.2.2.2.2 _ (Array.getElem?_eq_some_iff.1 hr0h.out).1 (by omega)).trans hr0h.out
      go_wp2_with fail
      go_region_held3 (fun W => W.cell? ⟨sb, 2 + cn, none⟩ = some (.func (.func F) #[] caps) ∧ Below V.heap.size V W)
        (first | assumption | exact hSh.out _ (bel_drew _) | exact hAl.out _ _ (by assumption) | exact hSe.out _ _ _ _ (Nat.le_refl _) (hSe.out _ _ _ _ (Nat.le_refl _) (hSe.out _ _ _ _ (Nat.le_refl _) (by assumption))) | trace_state)
        ((refine (hR.out _ (by assumption)).mono ?_; rintro e w' ⟨rfl, hSS, hBB⟩; try (obtain ⟨z0, y0⟩ := blk_belowD hBB 0 _ rfl; obtain ⟨z1, y1⟩ := blk_belowD hBB 1 _ rfl; obtain ⟨z2, y2⟩ := blk_belowD hBB 2 _ rfl)))
      all_goals
        first
          | (have hFd := Found.first (w := w) (rk := rk) (rt := rt) hs2h.out ((But.of_below hb0h.out).trans hbu2h.out) hwV hsV hrV hBB
             generalize ((w'.setCell ⟨V.heap.size, 0, none⟩ (.int .u8 rk)).setCell ⟨V.heap.size, 1, none⟩ (.string rt)).setCell ⟨V.heap.size, 2, none⟩ (.int .i64 0) = U at hFd ⊢
             generalize V.heap.size = b at hFd ⊢)
          | (have hFd := Found.last (w := w) (rk := rk) (rt := rt) hs2h.out ((But.of_below hb0h.out).trans hbu2h.out) hwV hsV hrV hSS.2
             generalize w'.alloc (.cells #[.int .u8 rk, .string rt, .int .i64 0] 27) = U at hFd ⊢
             generalize w'.heap.size = b at hFd ⊢)
        have e0 := hFd.scan.c0
        have g0 := hFd.scan.free 0
        have z1 := hFd.c1
        have z2 := hFd.c2
        have y2 := hFd.f2
        have hnb := hFd.nb
        have hFh2 := Lib.hid hFd
        clear hFd d0 d1 hSS hBB hs2h hbu2h hrV hR hSe hAl hSh htab
        have hle : k + rt.size ≤ 1000000 := by omega
        have hw1 : IntKind.i64.wrap ((k : Int) + (rt.size : Int)) = (k : Int) + (rt.size : Int) := IntWalk.i64_in _ (by omega)
        have hw1h := Lib.hid hw1
        clear hw1
        have hnw := hFh2.out.nw
        have hltU := (Array.getElem?_eq_some_iff.1 hFh2.out.rb).1
        go_wp2_with fail
        have hP := hFh2.out.placed hlts
        have hltP : w.heap.size < (U.setCell ⟨b, 2, none⟩ (.int .i64 k)).heap.size := by simpa using hltU
        clear hFh2 e0 g0 z1 z2 y2
        generalize U.setCell ⟨b, 2, none⟩ (.int .i64 k) = U1 at hP hltP ⊢
        have e0 := hP.scan.c0
        have z1 := hP.c1
        have hPh := Lib.hid hP
        clear hP
        go_still_tail 12, (by kernel_rfl)
        change wpList _ _ _ _ _ U1.drew
        have hQ := hPh.out.below hltP (bel_drew U1)
        have hltQ : w.heap.size < U1.drew.heap.size := hltP
        clear hPh e0 z1
        generalize U1.drew = U2 at hQ hltQ ⊢
        have e0 := hQ.scan.c0
        have g0 := hQ.scan.free 0
        have r0 := (cell_of_row U2 w.heap.size 0 _ 27 (0, 0) hQ.rb).trans (rfl : _ = some (Value.int .u8 0))
        have r1 := (cell_of_row U2 w.heap.size 1 _ 27 (0, 0) hQ.rb).trans (rfl : _ = some (Value.string ⟨#[]⟩))
        have r2 := (cell_of_row U2 w.heap.size 2 _ 27 (0, 0) hQ.rb).trans (rfl : _ = some (Value.int .i64 0))
        have s0 := frozen_of_row U2 w.heap.size 0 _ 27 hQ.rb
        have s1 := frozen_of_row U2 w.heap.size 1 _ 27 hQ.rb
        have s2 := frozen_of_row U2 w.heap.size 2 _ 27 hQ.rb
        have z0 := hQ.c0
        have z1 := hQ.c1
        have z2 := hQ.c2
        have n1 : ¬ sb = b := fun e => hnb e.symm
        have n2 : ¬ sb = w.heap.size := by omega
        have n3 : ¬ w.heap.size = sb := by omega
        have n4 : ¬ b = w.heap.size := by omega
        have n5 : ¬ w.heap.size = b := by omega
        have n6 : ¬ b = sb := hnb
        have hMv := hQ.moved hlts hnb (k + rt.size)
        rw [Int.natCast_add] at hMv
        have hMh := Lib.hid (And.intro hMv.but hMv.scan)
        have hw1 := hw1h.out
        clear hQ hMv hnb hnw
        go_wp2_with fail
        refine bodyPost_ret (v := .tuple #[.agg #[.int .u8 rk, .string rt, .int .i64 k], .int .i64 re]) (by simp [results, Tryd.results29, go_sem, r0, r1, r2]) rfl ⟨rfl, ((hMh.out.1.setNew (Nat.le_refl _) _).setNew (Nat.le_refl _) _).setNew (Nat.le_refl _) _, ?_⟩
        unfold Scan
        rw [heap_setCell_other _ _ _ _ (show sb ≠ w.heap.size from n2), heap_setCell_other _ _ _ _ (show sb ≠ w.heap.size from n2), heap_setCell_other _ _ _ _ (show sb ≠ w.heap.size from n2)]
        exact hMh.out.2
end Go.Proofs.YthkfkdcmnkkdhaaDoor
