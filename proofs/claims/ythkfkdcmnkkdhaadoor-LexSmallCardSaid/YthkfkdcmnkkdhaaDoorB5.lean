/- LexSmall. -/
import Derived.Test.YthkfkdcmnkkdhaaDoorR5
import Derived.Laws.BytesArg
import Derived.Laws.MakeOwn
import Derived.Laws.OwnMore
namespace Go.Proofs.YthkfkdcmnkkdhaaDoor
open Go Go.RowKit
set_option maxRecDepth 100000
set_option linter.unusedVariables false
theorem info5 : (Tryd.prog.info? 5).map (fun i => (i.zero, i.size, i.bytes)) = some (some (.int .u8 0), 1, 1) := by kernel_rfl
theorem made_row (N : Nat) : madeCells #[Value.int .u8 0] N = ((List.replicate N (0 : Int)).map (Value.int .u8)).toArray := by
  apply Array.ext'
  rw [toList_madeCells_one, List.map_replicate]
theorem make_any (w : World) : ∃ C : Array Value, (∃ ns : List Int, ns.length = 16385 ∧ C = (ns.map (Value.int .u8)).toArray) ∧
    (Instr.makeSlice 33 (.int .i64 16385) (.int .i64 16385)).run Tryd.prog w = .ok (.slice (some ⟨w.heap.size, 0, none⟩) 16385 16385) (w.alloc (.cells C 5)) := by
  obtain ⟨i0, hi, hz0, hz1, hz2⟩ := info_parts info5
  have h := run_make (P := Tryd.prog) w 33 5 i0 _ Tryd.underlying33 hi hz0 .i64 .i64 16385 16385 (by omega) (by omega) (by rw [hz2]; decide) (by decide)
  refine ⟨madeCells #[Value.int .u8 0] 16385, ⟨List.replicate 16385 0, List.length_replicate, made_row _⟩, ?_⟩
  rw [h, hz1]
  rfl
theorem conv_row (V : World) (B : Nat) (ns : List Int) (hblk : V.heap[B]? = some (.cells (ns.map (Value.int .u8)).toArray 5 (0, 0))) (off len cap : Nat) (h : off + len ≤ ns.length) :
    ∃ S, (convert 33 9 (.slice (some ⟨B, off, none⟩) len cap)).run Tryd.prog V = .ok (.string S) V := by
  refine ⟨_, run_convert_bytes_arg (P := Tryd.prog) V 33 5 Tryd.underlying33 Tryd.underlying5 B off len cap ((ns.drop off).take len) (by rw [List.length_take, List.length_drop]; omega) (fun i hi => ?_) 9 Tryd.underlying9⟩
  rw [cell_of_row V B (off + i) _ 5 (0, 0) hblk]
  have h1 : off + i < ns.length := by omega
  have h2 : ((ns.drop off).take len).getD i 0 = ns[off + i] := by
    rw [List.getD_eq_getElem?_getD, List.getElem?_take, if_pos hi, List.getElem?_drop, List.getElem?_eq_getElem h1]
    rfl
  rw [h2]
  simp [h1]
def wordsC : Array Value := #[.string ⟨#[97, 108, 108]⟩, .string ⟨#[115, 111, 109, 101]⟩, .string ⟨#[102, 97, 108, 115, 101]⟩, .string ⟨#[110, 101, 120, 116]⟩, .string ⟨#[97, 108, 119, 97, 121, 115]⟩, .string ⟨#[117, 110, 116, 105, 108]⟩, .string ⟨#[120, 49, 50, 51, 52, 53, 54, 55, 56, 57, 48, 49, 50, 51, 52]⟩, .string ⟨#[97, 50, 51, 52, 53, 54, 55, 56, 57, 48, 49, 50, 51, 52, 90]⟩, .string ⟨#[63, 65, 51, 52, 53, 54, 55, 56, 57, 48, 49, 50, 51, 52, 53]⟩]
theorem wordsC_at (i : Nat) (hi : i < 9) : ∃ x : ByteArray, 3 ≤ x.size ∧ x.size ≤ 15 ∧ wordsC[i]? = some (.string x) := by
  rcases show i = 0 ∨ i = 1 ∨ i = 2 ∨ i = 3 ∨ i = 4 ∨ i = 5 ∨ i = 6 ∨ i = 7 ∨ i = 8 by omega with rfl | rfl | rfl | rfl | rfl | rfl | rfl | rfl | rfl
  all_goals exact ⟨_, by decide, by decide, rfl⟩
set_option maxHeartbeats 4000000 in
theorem lexSmall_walk (w : World) (hsg : Sgs w) : Calls Tryd.prog 5 #[] w fun e w' => e = .returned (.bool true) ∧ Below w.heap.size w w' := by
  have hA := Lib.hid (fun V (hV : Below w.heap.size w V) => (awake_any V (hsg.of hV)).mono (R' := fun e W => e = .returned (.bool true) ∧ Below w.heap.size w W) fun e W ⟨he, hb⟩ => ⟨he, bel_step hV hb⟩)
  have hE := Lib.hid (fun V (s : ByteArray) (hV : Below w.heap.size w V) => (lexes_any s V (hsg.of hV)).mono (R' := fun e W => e = .returned (.bool true) ∧ Below w.heap.size w W) fun e W ⟨he, hb⟩ => ⟨he, bel_step hV hb⟩)
  have hEW := Lib.hid (fun V (s : ByteArray) (hV : Below w.heap.size w V) => (lexes_any s V (hsg.of hV)).mono (R' := fun e W => e = .returned (.bool true) ∧ Below w.heap.size w W ∧ Below V.heap.size V W) fun e W ⟨he, hb⟩ => ⟨he, bel_step hV hb, hb⟩)
  clear hsg
  go_enter Tryd.func5, Tryd.ntmps5
  go_wp2_with fail
  go_loopw [2] (fun i wr => ∃ k : Nat, k ≤ 38416 ∧ i = .int .i64 k ∧ Below w.heap.size w wr) (fun i _ => 38416 - (intOf i).toNat)
  case atStart => exact ⟨0, by omega, rfl, Below.refl _ _⟩
  case round =>
    obtain ⟨k, hk, rfl, hb⟩ := hrel
    by_cases hlt : k < 38416
    · have hlt' : (k : Int) < 38416 := by omega
      go_wp2_with fail
      go_loop [3, 4, 5] (fun s' kk n => ∃ (ss : ByteArray) (j m : Nat), j ≤ 4 ∧ s' = .string ss ∧ kk = .int .i64 j ∧ n = .int .i64 m ∧ m ≤ 38416 ∧ ss.size ≤ j) (fun _ kk _ => 4 - (intOf kk).toNat)
      case atStart => exact ⟨_, 0, k, by omega, rfl, rfl, rfl, by omega, by decide⟩
      case round =>
        obtain ⟨ss, j, m, hj, rfl, rfl, rfl, hm, hss⟩ := hrel
        by_cases hj4 : j < 4
        · have hj4' : (j : Int) < 4 := by omega
          obtain ⟨r, hr⟩ : ∃ r, m % 14 = r := ⟨_, rfl⟩
          obtain ⟨q, hq⟩ : ∃ q, m / 14 = q := ⟨_, rfl⟩
          have hr14 : r < 14 := by omega
          have hq14 : q ≤ 38416 := by omega
          have hr1 : (m : Int) % 14 = (r : Int) := by omega
          have hr2 : (m : Int).tmod 14 = (r : Int) := by rw [Int.tmod_eq_emod_of_nonneg (by omega)]; exact hr1
          have hq1 : (m : Int) / 14 = (q : Int) := by omega
          have hq2 : (m : Int).tdiv 14 = (q : Int) := by rw [Int.tdiv_eq_ediv_of_nonneg (by omega)]; exact hq1
          have hw3 : IntKind.i64.wrap (q : Int) = (q : Int) := IntWalk.i64_in _ (by omega)
          have hw4 : IntKind.i64.wrap (r : Int) = (r : Int) := IntWalk.i64_in _ (by omega)
          clear hr hq
          by_cases hr13 : r < 13
          · have hr13' : (r : Int) < 13 := by omega
            have hw1 : IntKind.i64.wrap ((r : Int) + 1) = (r : Int) + 1 := IntWalk.i64_in _ (by omega)
            have hrt : ((r : Int) + 1).toNat = r + 1 := by omega
            have hr0 : (0 : Int) ≤ (r : Int) := by omega
            have hrr : (r : Int) ≤ (r : Int) + 1 := by omega
            have hr5 : (r : Int) + 1 ≤ 13 := by omega
            have hsz : ((⟨#[120, 49, 80, 97, 63, 60, 45, 62, 91, 93, 47, 32, 126]⟩ : ByteArray).extract r (r + 1)).size = 1 := by
              rw [ByteArray.size_extract]
              have : (⟨#[120, 49, 80, 97, 63, 60, 45, 62, 91, 93, 47, 32, 126]⟩ : ByteArray).size = 13 := rfl
              omega
            go_wp2_with fail
            go_round
            case rel => exact ⟨ss ++ (⟨#[120, 49, 80, 97, 63, 60, 45, 62, 91, 93, 47, 32, 126]⟩ : ByteArray).extract r (r + 1), j + 1, q, by omega, by go_num, by go_num, by go_num, hq14, by rw [ByteArray.size_append, hsz]; omega⟩
            case measure => simp [intOf]; omega
          · have hr13' : ¬ (r : Int) < 13 := by omega
            go_wp2_with fail
            go_round
            case rel => exact ⟨ss, j + 1, q, by omega, rfl, by go_num, by go_num, hq14, by omega⟩
            case measure => simp [intOf]; omega
        · obtain rfl : j = 4 := by omega
          go_wp2_with (go_at_call 11; refine (hE.out _ _ (by assumption)).mono ?_; rintro e w1 ⟨rfl, hb1⟩)
          go_roundw
          case rel => exact ⟨k + 1, by omega, by go_num, hb1⟩
          case measure => simp [intOf]; omega
    · have hlt' : ¬ (k : Int) < 38416 := by omega
      clear hlt hk
      go_wp2_with fail
      clear hlt'
      go_loopw [6] (fun i wr => ∃ k : Nat, k ≤ 256 ∧ i = .int .i64 k ∧ Below w.heap.size w wr) (fun i _ => 256 - (intOf i).toNat)
      case atStart => exact ⟨0, by omega, rfl, hb⟩
      case round =>
        clear hb
        obtain ⟨k, hk, rfl, hb⟩ := hrel
        by_cases hlt : k < 256
        · have hlt' : (k : Int) < 256 := by omega
          have hk0 : (0 : Int) ≤ (k : Int) := by omega
          have hwk : IntKind.u8.wrap (k : Int) = (k : Int) := by
            have : IntKind.u8.wrap (k : Int) = (k : Int) % 256 := rfl
            omega
          have kc := run_convert_bytes_arg (P := Tryd.prog) (wr.alloc (.cells #[.int .u8 (k : Int)] 5)) 33 5 Tryd.underlying33 Tryd.underlying5 wr.heap.size 0 1 1 [(k : Int)] rfl (fun i hi => by
            obtain rfl : i = 0 := by omega
            exact (cell_new wr #[.int .u8 (k : Int)] 5 0)) 9 Tryd.underlying9
          have hb0 := bel_step hb (bel_laid wr (.cells #[.int .u8 (k : Int)] 5))
          clear hb
          go_wp2_with fail
          clear kc
          generalize wr.alloc (.cells #[.int .u8 (k : Int)] 5) = V at hb0 ⊢
          have hS1 : (strOfNums [(k : Int)]).size = 1 := strOfNums_size _
          generalize strOfNums [(k : Int)] = S at hS1 ⊢
          refine (hE.out _ _ hb0).mono ?_
          rintro e w1 ⟨rfl, hb1⟩
          clear hb0
          go_wp2_with fail
          refine (hE.out _ _ hb1).mono ?_
          rintro e w2 ⟨rfl, hb2⟩
          clear hb1
          go_wp2_with fail
          refine (hE.out _ _ hb2).mono ?_
          rintro e w3 ⟨rfl, hb3⟩
          clear hb2
          go_wp2_with fail
          refine (hE.out _ _ hb3).mono ?_
          rintro e w4 ⟨rfl, hb4⟩
          clear hb3
          go_wp2_with fail
          refine (hE.out _ _ hb4).mono ?_
          rintro e w5 ⟨rfl, hb5⟩
          clear hb4
          go_wp2_with fail
          go_roundw
          case rel => exact ⟨k + 1, by omega, by go_num, hb5⟩
          case measure => simp [intOf]; omega
        · have hlt' : ¬ (k : Int) < 256 := by omega
          clear hlt hk
          go_wp2_with fail
          clear hlt'
          have hbl := bel_laid wr (.cells wordsC 9)
          have hcW : ∀ i, i < 9 → ∃ x : ByteArray, 3 ≤ x.size ∧ x.size ≤ 15 ∧ (wr.alloc (.cells wordsC 9)).cell? ⟨wr.heap.size, i, none⟩ = some (.string x) := by
            intro i hi
            obtain ⟨x, h1, h2, h3⟩ := wordsC_at i hi
            exact ⟨x, h1, h2, (cell_new wr wordsC 9 i).trans h3⟩
          have hb0 := bel_step hb hbl
          have hWW : wr.alloc (.cells #[.string ⟨#[97, 108, 108]⟩, .string ⟨#[115, 111, 109, 101]⟩, .string ⟨#[102, 97, 108, 115, 101]⟩, .string ⟨#[110, 101, 120, 116]⟩, .string ⟨#[97, 108, 119, 97, 121, 115]⟩, .string ⟨#[117, 110, 116, 105, 108]⟩, .string ⟨#[120, 49, 50, 51, 52, 53, 54, 55, 56, 57, 48, 49, 50, 51, 52]⟩, .string ⟨#[97, 50, 51, 52, 53, 54, 55, 56, 57, 48, 49, 50, 51, 52, 90]⟩, .string ⟨#[63, 65, 51, 52, 53, 54, 55, 56, 57, 48, 49, 50, 51, 52, 53]⟩] 9) = wr.alloc (.cells wordsC 9) := rfl
          rw [hWW]
          clear hWW hbl hb
          generalize wr.alloc (.cells wordsC 9) = W0 at hcW hb0 ⊢
          obtain ⟨B, hB⟩ : ∃ B, wr.heap.size = B := ⟨_, rfl⟩
          rw [hB] at hcW ⊢
          clear hB
          have hcWh := Lib.hid hcW
          have hb0h := Lib.hid hb0
          clear hcW hb0
          go_loopw [9] (fun i wv => ∃ k : Nat, k ≤ 9 ∧ i = .int .i64 k ∧ Below W0.heap.size W0 wv) (fun i _ => 9 - (intOf i).toNat)
          case atStart => exact ⟨0, by omega, rfl, Below.refl _ _⟩
          case round =>
            obtain ⟨k, hk, rfl, hb⟩ := hrel
            have hbw := bel_step hb0h.out hb
            by_cases hlt : k < 9
            · have hlt' : (k : Int) < 9 := by omega
              have hk0 : (0 : Int) ≤ (k : Int) := by omega
              obtain ⟨x0, hx3, hx15, hc0⟩ := hcWh.out k hlt
              have hc := cell_below hb hc0
              have hbh := Lib.hid hb
              clear hc0 hb hcWh hb0h
              go_wp2_with fail
              go_loopw [10, 11] (fun s' kk wu => ∃ (x : ByteArray) (j : Nat), j ≤ 3 ∧ s' = .string x ∧ kk = .int .i64 j ∧ 3 ≤ x.size + j ∧ x.size ≤ 15 ∧ Below w.heap.size w wu ∧ Below W0.heap.size W0 wu) (fun _ kk _ => 3 - (intOf kk).toNat)
              case atStart => exact ⟨x0, 0, by omega, rfl, rfl, by omega, by omega, hbw, hbh.out⟩
              case round =>
                clear hbw hc
                obtain ⟨x, j, hj, rfl, rfl, hxj, hx, hb1, hbW⟩ := hrel
                by_cases hj3 : j < 3
                · have hj3' : (j : Int) < 3 := by omega
                  have hx1 : (1 : Int) ≤ (x.size : Int) := by omega
                  have hx0 : (0 : Int) ≤ (x.size : Int) - 1 := by omega
                  have hxx : (x.size : Int) - 1 ≤ (x.size : Int) := by omega
                  have hw1 : IntKind.i64.wrap ((x.size : Int) - 1) = (x.size : Int) - 1 := IntWalk.i64_in _ (by omega)
                  have hnt : ((x.size : Int) - 1).toNat = x.size - 1 := by omega
                  have hsx : (x.extract 0 (x.size - 1)).size = x.size - 1 := by rw [ByteArray.size_extract]; omega
                  have hE2 := Lib.hid (fun V (s : ByteArray) (hV : Below w.heap.size w V ∧ Below W0.heap.size W0 V) => (hEW.out V s hV.1).mono (R' := fun e W => e = .returned (.bool true) ∧ Below w.heap.size w W ∧ Below W0.heap.size W0 W) fun e W ⟨he, h1, h2⟩ => ⟨he, h1, bel_step hV.2 h2⟩)
                  have hv := And.intro hb1 hbW
                  clear hb1 hbW
                  go_wp2_with fail
                  refine (hE2.out _ _ hv).mono ?_
                  rintro e v0 ⟨rfl, hv0⟩
                  go_wp2_with fail
                  refine (hE2.out _ _ hv0).mono ?_
                  rintro e v1 ⟨rfl, hv1⟩
                  go_wp2_with fail
                  refine (hE2.out _ _ hv1).mono ?_
                  rintro e v2 ⟨rfl, hv2⟩
                  go_wp2_with fail
                  refine (hE2.out _ _ hv2).mono ?_
                  rintro e v3 ⟨rfl, hv3⟩
                  go_wp2_with fail
                  refine (hE2.out _ _ hv3).mono ?_
                  rintro e v4 ⟨rfl, hv4⟩
                  go_wp2_with fail
                  refine (hE2.out _ _ hv4).mono ?_
                  rintro e v5 ⟨rfl, hv5⟩
                  go_wp2_with fail
                  refine (hE2.out _ _ hv5).mono ?_
                  rintro e v6 ⟨rfl, hv6⟩
                  go_wp2_with fail
                  refine (hE2.out _ _ hv6).mono ?_
                  rintro e v7 ⟨rfl, hv7⟩
                  clear hv hv0 hv1 hv2 hv3 hv4 hv5 hv6
                  go_wp2_with fail
                  go_roundw
                  case rel => exact ⟨x.extract 0 (x.size - 1), j + 1, by omega, by go_num, by go_num, by omega, by omega, hv7.1, hv7.2⟩
                  case measure => simp [intOf]; omega
                · obtain rfl : j = 3 := by omega
                  go_wp2_with fail
                  go_roundw
                  case rel => exact ⟨k + 1, by omega, by go_num, hbW⟩
                  case measure => simp [intOf]; omega
            · have hlt' : ¬ (k : Int) < 9 := by omega
              clear hlt hk
              clear hb hcWh hb0h
              obtain ⟨CC, ⟨ns, hnl, rfl⟩, hmk⟩ := make_any wr
              have hbl := bel_laid wr (.cells (ns.map (Value.int .u8)).toArray 5)
              have hblk := heap_alloc_new wr (.cells (ns.map (Value.int .u8)).toArray 5)
              have hbU := bel_step hbw hbl
              have hBw : w.heap.size ≤ wr.heap.size := hbw.size
              go_wp2_with fail
              clear hmk hlt' hbl hbw
              obtain ⟨U, hU⟩ : ∃ U, wr.alloc (.cells (ns.map (Value.int .u8)).toArray 5) = U := ⟨_, rfl⟩
              rw [hU] at hblk hbU ⊢
              clear hU
              obtain ⟨B2, hB2⟩ : ∃ B2, wr.heap.size = B2 := ⟨_, rfl⟩
              rw [hB2] at hblk hBw ⊢
              clear hB2
              go_loopw [13] (fun i wu => ∃ (k : Nat) (ns : List Int), k ≤ 16385 ∧ i = .int .i64 k ∧ Below w.heap.size w wu ∧ ns.length = 16385 ∧ wu.heap[B2]? = some (.cells (ns.map (Value.int .u8)).toArray 5 (0, 0))) (fun i _ => 16385 - (intOf i).toNat)
              case atStart => exact ⟨0, ns, by omega, rfl, hbU, hnl, hblk⟩
              case round =>
                clear hbU hnl hblk ns
                obtain ⟨k, ns, hk, rfl, hb, hnl, hblk⟩ := hrel
                by_cases hlt : k < 16385
                · have hlt' : (k : Int) < 16385 := by omega
                  have hk0 : (0 : Int) ≤ (k : Int) := by omega
                  obtain ⟨r, hr⟩ : ∃ r, k % 4 = r := ⟨_, rfl⟩
                  have hr4 : r < (⟨#[80, 32, 38, 32]⟩ : ByteArray).size := by
                    have : (⟨#[80, 32, 38, 32]⟩ : ByteArray).size = 4 := rfl
                    omega
                  have hr4' : (r : Int) < 4 := by
                    have : (⟨#[80, 32, 38, 32]⟩ : ByteArray).size = 4 := rfl
                    omega
                  have hr1 : (k : Int) % 4 = (r : Int) := by omega
                  have hr2 : (k : Int).tmod 4 = (r : Int) := by rw [Int.tmod_eq_emod_of_nonneg (by omega)]; exact hr1
                  have hw4 : IntKind.i64.wrap (r : Int) = (r : Int) := IntWalk.i64_in _ (by omega)
                  have hr0 : (0 : Int) ≤ (r : Int) := by omega
                  obtain ⟨z, hc⟩ : ∃ z : Int, wr.cell? ⟨B2, k, none⟩ = some (.int .u8 z) := ⟨_, (cell_of_row wr B2 k _ 5 (0, 0) hblk).trans (show _ = some (Value.int .u8 (ns[k]'(by omega))) by simp [hnl, hlt])⟩
                  have hf := frozen_of_row wr B2 k _ 5 hblk
                  clear hr
                  have hset : ∀ x : UInt8, (wr.setCell ⟨B2, k, none⟩ (.int .u8 (x.toNat : Int))).heap[B2]? = some (.cells ((ns.set k (x.toNat : Int)).map (Value.int .u8)).toArray 5 (0, 0)) := by
                    intro x
                    rw [heap_setCell_same wr B2 k _ 5 _ hblk]
                    congr 2
                    apply Array.ext'
                    simp [List.map_set]
                  have hsb : ∀ v : Value, Below w.heap.size w (wr.setCell ⟨B2, k, none⟩ v) := fun v => hb.setCell hBw v
                  have hseth := Lib.hid hset
                  have hsbh := Lib.hid hsb
                  clear hset hsb hblk hb
                  go_wp2_with fail
                  go_roundw
                  case rel => exact ⟨k + 1, ns.set k _, by omega, by go_num, hsbh.out _, by rw [List.length_set]; exact hnl, hseth.out _⟩
                  case measure => simp [intOf]; omega
                · have hlt' : ¬ (k : Int) < 16385 := by omega
                  have hlB := (Array.getElem?_eq_some_iff.1 hblk).1
                  clear hlt hk
                  obtain ⟨S1, c1⟩ := conv_row wr B2 ns hblk 0 16385 16385 (by omega)
                  go_wp2_with fail
                  clear c1 hlt'
                  refine (hEW.out _ _ hb).mono ?_
                  rintro e w1 ⟨rfl, hb1, hbw1⟩
                  have hblk1 := (hbw1.block B2 hlB).trans hblk
                  have hlB1 := (Array.getElem?_eq_some_iff.1 hblk1).1
                  obtain ⟨S2, c2⟩ := conv_row w1 B2 ns hblk1 1 16384 16384 (by omega)
                  clear hb hbw1 hblk hlB
                  go_wp2_with fail
                  refine (hEW.out _ _ hb1).mono ?_
                  rintro e w2 ⟨rfl, hb2, hbw2⟩
                  have hblk2 := (hbw2.block B2 hlB1).trans hblk1
                  obtain ⟨S3, c3⟩ := conv_row w2 B2 ns hblk2 2 16383 16383 (by omega)
                  clear hb1 hbw2 hblk1 hlB1 c2
                  go_wp2_with fail
                  refine (hEW.out _ _ hb2).mono ?_
                  rintro e w3 ⟨rfl, hb3, hbw3⟩
                  clear hb2 hbw3 hblk2 c3
                  go_wp2_with fail
                  refine (hA.out _ hb3).mono ?_
                  rintro e w4 ⟨rfl, hb4⟩
                  go_wp2_with fail
                  go_ret
                  exact ⟨rfl, hb4⟩
end Go.Proofs.YthkfkdcmnkkdhaaDoor
