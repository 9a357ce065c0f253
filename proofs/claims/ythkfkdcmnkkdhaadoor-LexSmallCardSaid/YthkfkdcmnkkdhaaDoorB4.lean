/- LexJoins. -/
import Derived.Test.YthkfkdcmnkkdhaaDoorA1
import Derived.Test.YthkfkdcmnkkdhaaDoorJ2
import Derived.Test.YthkfkdcmnkkdhaaDoorO1
import Derived.Deep.RegionHeld3
import Derived.Deep.AppendLies
namespace Go.Proofs.YthkfkdcmnkkdhaaDoor
open Go Go.RowKit
set_option maxRecDepth 100000
set_option linter.unusedVariables false
theorem info28 : (Tryd.prog.info? 28).map (fun i => (i.zero, i.size, i.bytes)) = some (some (.agg #[.int .u8 0, .string ⟨#[]⟩, .int .i64 0]), 3, 32) := by kernel_rfl
theorem row_tokens28 {V : World} {B : Nat} {v : Value} {l : List Lx.Tok} (h : V.ownsRow B 28 3 v l.length (flat l)) : TokSl V l v := by
  obtain ⟨h1, ⟨rfl, h0⟩ | ⟨g, cap, cur, rfl, h2, h3, h4⟩⟩ := id h
  · exact ⟨none, 0, by rw [h0], .inl h0⟩
  · refine ⟨some ⟨g, 0, none⟩, cap, rfl, .inr ⟨g, 0, rfl, fun i t ht => ?_⟩⟩
    have hc : ∀ j u, (flat l)[j]? = some u → V.cell? ⟨g, 0 + j, none⟩ = some u := by
      intro j u hj
      have := h.cells (g := g) rfl j u hj
      rw [Nat.zero_add]
      by_cases hj0 : j = 0
      · subst hj0; simpa [Addr.add] using this
      · simpa [Addr.add, hj0] using this
    obtain ⟨a0, a1, a2⟩ := flat_at l i t ht
    exact ⟨hc _ _ a0, hc _ _ a1, hc _ _ a2⟩
set_option maxHeartbeats 4000000 in
theorem lexJoins_walk (l : List Lx.Tok) (v : Value) (w : World) (hsg : Sgs w) (htk : TokSl w l v) : Calls Tryd.prog 4 #[v] w fun e w' => e = .returned (.bool true) ∧ Below w.heap.size w w' := by
  obtain ⟨i0, hi, hz0, hz1, hz2⟩ := info_parts info28
  have hA := Lib.hid (fun V (hV : Below w.heap.size w V) => awake_any V (hsg.of hV))
  have htkh := Lib.hid htk
  obtain ⟨p, c, b, o, rfl, hp, hat⟩ := htk.opened
  have hath := Lib.hid hat
  clear hat htk hsg
  by_cases hlong : 100 < l.length
  · have h1 : (100 : Int) < (l.length : Int) := by omega
    have hA1 := Lib.hid (hA.out w (Below.refl _ _))
    go_enter Tryd.func4, Tryd.ntmps4
    go_wp2_with fail
    refine hA1.out.mono ?_
    rintro e w1 ⟨rfl, hb1⟩
    clear hA hA1
    go_wp2_with fail
    go_ret
    exact ⟨rfl, hb1⟩
  · have h1 : (l.length : Int) ≤ 100 := by omega
    go_enter Tryd.func4, Tryd.ntmps4
    go_wp2_with fail
    go_loopw [3, 4] (fun v i wr => ∃ (k cv : Nat) (pv : Option Addr), k ≤ l.length ∧ v = .slice pv k cv ∧ i = .int .i64 k ∧ wr.ownsRow w.heap.size 28 3 v k (flat (l.take k)) ∧ Below w.heap.size w wr ∧ ∀ t ∈ l.take k, t.t.length ≤ 100) (fun _ i _ => l.length - (intOf i).toNat)
    case atStart => exact ⟨0, 0, none, Nat.zero_le _, rfl, rfl, World.ownsRow_nil _ _ _ _, Below.refl _ _, fun t ht => by simp at ht⟩
    case round =>
      obtain ⟨k, cv, pv, hk, rfl, rfl, hown, hb, hsm⟩ := hrel
      have hownh := Lib.hid hown
      have hbh := Lib.hid hb
      have hsmh := Lib.hid hsm
      clear hown hsm
      by_cases hlt : k < l.length
      · have hlt' : (k : Int) < (l.length : Int) := by omega
        obtain ⟨t, ht⟩ : ∃ t, l[k]? = some t := ⟨_, List.getElem?_eq_getElem hlt⟩
        rcases hp with hp | rfl
        · omega
        obtain ⟨a0, a1, a2⟩ := hath.out k t ht
        have d0 := cell_below hb a0
        have d1 := cell_below hb a1
        have d2 := cell_below hb a2
        have hts := Lib.hid (take_snoc' l k t ht)
        have hsz : (⟨t.t.toArray⟩ : ByteArray).size = t.t.length := by show t.t.toArray.size = _; simp
        have hbw0 : b < w.heap.size := lt_of_cell a0
        clear a0 a1 a2 hb
        by_cases hl2 : 100 < t.t.length
        · have hl2' : (100 : Int) < (t.t.length : Int) := by omega
          have hA1 := Lib.hid (hA.out wr hbh.out)
          clear hA ht
          go_wp2_with fail
          refine hA1.out.mono ?_
          rintro e w1 ⟨rfl, hb1⟩
          clear hA1
          go_wp2_with fail
          go_ret
          exact ⟨rfl, bel_step hbh.out hb1⟩
        · have hl2' : (t.t.length : Int) ≤ 100 := by omega
          have hsn : flat (l.take (k + 1)) = flat (l.take k) ++ tokC t := by rw [hts.out, flat_snoc]
          have hsnh := Lib.hid hsn
          have hsm2 : ∀ u ∈ l.take (k + 1), u.t.length ≤ 100 := by
            intro u hu
            rw [hts.out] at hu
            rcases List.mem_append.1 hu with hu | hu
            · exact hsmh.out u hu
            · simp at hu; subst hu; omega
          have hsm2h := Lib.hid hsm2
          have hne : (Value.slice pv k cv).ownBlock ≠ some b := fun e => by
            have := (hownh.out.lt b e).1
            omega
          have hbw : b < wr.heap.size := lt_of_cell d0
          have hw1 : IntKind.i64.wrap ((k : Int) + 1) = (k : Int) + 1 := IntWalk.i64_in _ (by omega)
          clear hA hsn hsm2 ht
          have hlk : (flat (l.take k)).length = (flat (l.take k)).length := rfl
          clear hlk
          have hkm : k + 1 ≤ maxLen := by unfold maxLen; omega
          have hkb : (k + 1) * 32 ≤ 140737488355328 := by omega
          have hwb := hbh.out.size
          generalize flat (l.take k) = L at hownh hsnh ⊢
          go_wp2_with fail
          go_region_held3 (fun W => W.cell? ⟨b, o + k * 3, none⟩ = some (.int .u8 t.k) ∧ W.cell? ⟨b, o + k * 3 + 1, none⟩ = some (.string ⟨t.t.toArray⟩) ∧ W.cell? ⟨b, o + k * 3 + 2, none⟩ = some (.int .i64 t.at'))
            (first
              | go_keep
              | (go_split_ands
                 refine ⟨?_, ?_, ?_⟩
                 · (rw [hgrow.cell_far _ (by simp; omega) (Ne.symm hne)]; assumption)
                 · (rw [hgrow.cell_far _ (by simp; omega) (Ne.symm hne)]; assumption)
                 · (rw [hgrow.cell_far _ (by simp; omega) (Ne.symm hne)]; assumption)))
            ((refine step_append_lies _ (by rfl) _ _ _ (by rfl) w.heap.size 28 i0 _ 3 32 Tryd.underlying25 hi hz0 hz1 hz2 rfl (by omega) _ k L (by rfl) ((hownh.out.alloc _).drew)
                ⟨wr.heap.size, 0, none⟩ 1 1 [.int .u8 t.k, .string ⟨t.t.toArray⟩, .int .i64 t.at'] (by rfl) (by rfl) (World.news_of_block (cs := #[.int .u8 t.k, .string ⟨t.t.toArray⟩, .int .i64 t.at']) (t := 28) (fr := (0, 0)) (heap_alloc_new wr _)) (by simp [Value.oneCell'])
                (by omega) hkm hkb (by simp; omega) (wr.heap.size + 1) (by simp) ?_; intro gg cap w1 hown1 hgrow hat hlt9))
          have hb1 : Below w.heap.size w w1 := (bel_step hbh.out (bel_step (bel_laid wr _) (bel_drew _))).grown hgrow (by simp; omega) (fun g hg => (hownh.out.lt g hg).1)
          go_wp2_with fail
          go_roundw
          case rel => exact ⟨k + 1, cap, some ⟨gg, 0, none⟩, by omega, rfl, by go_num, by rw [hsnh.out]; exact hown1, hb1, hsm2h.out⟩
          case measure => simp [intOf]; omega
      · obtain rfl : k = l.length := by omega
        have hown := hownh.out
        have hsm := hsmh.out
        rw [List.take_length] at hown hsm
        clear hownh hsmh
        have hownh := Lib.hid hown
        have hsmh := Lib.hid hsm
        clear hown hsm
        have htk2 := Lib.hid (row_tokens28 hownh.out)
        have htk1 := Lib.hid (htkh.out.below hb)
        have hJ := Lib.hid (lexJoin_any l _ wr htk1.out (by omega) (fun t ht => by have := hsmh.out t ht; omega))
        have hJ2 := Lib.hid (fun W (h : Below wr.heap.size wr W) => refJoin_any l _ W (htk2.out.below h) (by omega) (fun t ht => by have := hsmh.out t ht; omega))
        have hS := Lib.hid (fun W (h : Below wr.heap.size wr W) => same_any l _ _ W (htk1.out.below h) (htk2.out.below h) (by omega))
        obtain ⟨T, hT⟩ : ∃ T, Lx.joinT (texts l) = T := ⟨_, rfl⟩
        rw [hT] at hJ hJ2
        have hTT : (T == T) = true := by simp
        clear hownh hsmh htk2 htk1 hT hb htkh hath hp
        go_wp2_with fail
        refine hJ.out.mono ?_
        rintro e w1 ⟨rfl, hb1⟩
        have hJ3 := Lib.hid (hJ2.out w1 hb1)
        have hb1h := Lib.hid hb1
        clear hJ hJ2 hb1
        go_wp2_with fail
        refine hJ3.out.mono ?_
        rintro e w2 ⟨rfl, hb2⟩
        have hb2h := Lib.hid (bel_step hb1h.out hb2)
        have hS1 := Lib.hid (hS.out w2 hb2h.out)
        clear hJ3 hb1h hS hb2
        go_wp2_with fail
        refine hS1.out.mono ?_
        rintro e w3 ⟨rfl, hb3⟩
        have hb3h := Lib.hid (bel_step hb2h.out hb3)
        have hA1 := Lib.hid (hA.out w3 (bel_step hbh.out hb3h.out))
        clear hS1 hA hb3 hb2h
        go_wp2_with fail
        refine hA1.out.mono ?_
        rintro e w4 ⟨rfl, hb4⟩
        clear hA1
        go_wp2_with fail
        go_ret
        exact ⟨rfl, bel_step (bel_step hbh.out hb3h.out) hb4⟩
end Go.Proofs.YthkfkdcmnkkdhaaDoor
