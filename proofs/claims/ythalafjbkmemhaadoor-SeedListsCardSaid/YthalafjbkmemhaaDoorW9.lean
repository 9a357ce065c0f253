/- SeedSteps' walk: a draw is that of the first accepted word, and lists are made of such draws. -/
import Derived.Test.YthalafjbkmemhaaDoorM4
import Derived.Test.YthalafjbkmemhaaDoorW4
namespace Go.Proofs.YthalafjbkmemhaaDoor
open Go Go.RowKit
set_option maxRecDepth 100000
theorem weigh_two (more t : Int) (_h0 : 0 ≤ more) (_ht : 0 ≤ t) (h1 : t < more + 1) : (((weighL [more, 1] t : Nat) : Int) == 0) = decide (t < more) := by
  unfold weighL
  by_cases h : more ≤ t
  · rw [if_pos h, decide_eq_false (by omega)]
    unfold weighL
    rw [if_neg (by omega)]
    rfl
  · rw [if_neg h, decide_eq_true (by omega)]
    rfl
theorem perm_some_ok (k i n : Int) (l : List Int) (nx : Int) (w : World) (h : Stp w) (h1 : 0 ≤ i) (h2 : i ≤ 1099511627776) (h3 : 0 ≤ n) (h4 : n ≤ 1000) (hp : permR k i n.toNat = some (l, nx)) :
    Calls Tryd.prog 27 #[.agg #[.int .u64 k], .int .i64 i, .int .i64 n] w fun e w' => LRes l nx 0 w w' e :=
  (perm_int k i n w h h1 h2 h3 h4).mono fun _ _ hr => by
    rw [hp] at hr
    exact hr
theorem perm_none_ok (k i n : Int) (w : World) (h : Stp w) (h1 : 0 ≤ i) (h2 : i ≤ 1099511627776) (h3 : 0 ≤ n) (h4 : n ≤ 1000) (hp : permR k i n.toNat = none) :
    Calls Tryd.prog 27 #[.agg #[.int .u64 k], .int .i64 i, .int .i64 n] w fun e w' => e = .returned (.tuple #[.slice none 0 0, .int .i64 0, .int .i64 4]) ∧ Below w.heap.size w w' :=
  (perm_int k i n w h h1 h2 h3 h4).mono fun _ _ hr => by
    rw [hp] at hr
    exact ⟨hr.2, hr.1⟩
/-- Block b of w begins with the integers l, and may be written. -/
def OwnP (w : World) (b : Nat) (l : List Int) : Prop := ∃ (t : TypeId) (cur : Array Value), w.heap[b]? = some (.cells cur t (0, 0)) ∧ cur.toList.take l.length = l.map (Value.int .i64)
theorem OwnP.lt {w : World} {b : Nat} {l : List Int} (h : OwnP w b l) : b < w.heap.size := by
  obtain ⟨t, cur, h, _⟩ := h
  exact (Array.getElem?_eq_some_iff.1 h).1
theorem OwnP.cell {w : World} {b : Nat} {l : List Int} (h : OwnP w b l) (i : Nat) (hi : i < l.length) : w.cell? ⟨b, i, none⟩ = some (.int .i64 (l.getD i 0)) := by
  obtain ⟨t, cur, h, hc⟩ := h
  have hx := congrArg (fun l => l[i]?) hc
  rw [List.getElem?_take_of_lt hi] at hx
  simp only [World.cell?, h]
  rw [← Array.getElem?_toList]
  simp only [hx, List.getElem?_map, List.getD_eq_getElem?_getD, List.getElem?_eq_getElem hi]
  rfl
theorem OwnP.free {w : World} {b : Nat} {l : List Int} (h : OwnP w b l) (i : Nat) : w.frozen? ⟨b, i, none⟩ = false := by
  obtain ⟨t, cur, h, _⟩ := h
  simp [World.frozen?, h]
theorem OwnP.block {w w' : World} {b : Nat} {l : List Int} (h : OwnP w b l) (e : w'.heap[b]? = w.heap[b]?) : OwnP w' b l := by
  obtain ⟨t, cur, h, hc⟩ := h
  exact ⟨t, cur, e.trans h, hc⟩
theorem OwnP.below {w w' : World} {B b : Nat} {l : List Int} (h : OwnP w b l) (hb : Below B w w') (hB : b < B) : OwnP w' b l := h.block (hb.block b hB)
theorem OwnP.set {w : World} {b : Nat} {l : List Int} (h : OwnP w b l) (i : Nat) (x : Int) : OwnP (w.setCell ⟨b, i, none⟩ (.int .i64 x)) b (l.set i x) := by
  obtain ⟨t, cur, h, hc⟩ := h
  refine ⟨t, _, heap_setCell_same w b i cur t _ h, ?_⟩
  rw [Array.toList_setIfInBounds, List.length_set, List.take_set, hc, List.map_set]
theorem OwnP.rd {w : World} {b : Nat} {l : List Int} (h : OwnP w b l) (n cap : Nat) (hn : l.length = n) : Rd w (.slice (some ⟨b, 0, none⟩) n cap) l := by
  refine .inr ⟨b, 0, cap, by rw [hn], h.lt, fun i hi => ?_⟩
  rw [Nat.zero_add]
  exact h.cell i hi
theorem idL_snoc (n : Nat) : idL (n + 1) = idL n ++ [(n : Int)] := by simp [idL, List.range_succ]
theorem idL_length (n : Nat) : (idL n).length = n := by simp [idL]
theorem ownP_of {w : World} {base : Nat} {v : Value} {l : List Int} {n : Nat} (hn : 0 < n) (hl : l.length = n) (h : w.ownsRow base 3 1 v n (l.map (Value.int .i64))) : ∃ g cap, v = .slice (some ⟨g, 0, none⟩) n cap ∧ base ≤ g ∧ n ≤ cap ∧ cap ≤ maxLen ∧ OwnP w g l := by
  obtain ⟨_, ⟨rfl, hn0⟩ | ⟨g, cap, cur, rfl, hb, hg, hnc, hcm, hcs, hx⟩⟩ := h
  · omega
  · exact ⟨g, cap, rfl, hb, hnc, hcm, 3, cur, hg, by rw [hl]; simpa using hx⟩
set_option maxRecDepth 1000000 in
set_option maxHeartbeats 8000000 in
theorem steps_go (key a : Int) (size more : Int) (w : World) (h : Stp w) (hk : U key) (s0 : 0 ≤ size) (s1 : size ≤ 255) (m0 : 0 ≤ more) (m1 : more ≤ 255) :
    Calls Tryd.prog 9 #[.int .u64 key, .int .i64 a, .int .u8 size, .int .u8 more] w fun e w' => e = .returned (.bool true) ∧ Below w.heap.size w w' := by
  obtain ⟨ii, hii, hz0, hz1, hz2⟩ := info_parts info3
  have HK := Lib.hid hk
  clear hk
  have i0 : 0 ≤ pickI a 1099511627777 := Int.emod_nonneg _ (by decide)
  have i1 : pickI a 1099511627777 ≤ 1099511627776 := by
    have := Int.emod_lt_of_pos a (show (0 : Int) < 1099511627777 by decide)
    unfold pickI
    omega
  have P := Lib.hid (fun w => pick_any a 1099511627777 w (by omega) (by omega))
  generalize pickI a 1099511627777 = i at i0 i1 P
  go_enter Tryd.func9, Tryd.ntmps9
  go_wp2_with fail
  refine (awake_any w h).mono ?_
  rintro en W1 ⟨rfl, hb1⟩
  go_wp2_with fail
  have hA1 := BK.new key w W1 h hb1
  generalize hg : W1.heap.size = g at hA1 ⊢
  generalize (W1.alloc (.cells #[.int .u64 key] 33)) = W2 at hA1 ⊢
  clear hg hb1
  have k0 := hA1.cell
  refine (P.out _).mono ?_
  rintro en W3 ⟨rfl, rfl⟩
  go_wp2_with fail
  obtain ⟨m, hm, hm9⟩ : ∃ m : Nat, 1 + size % 100 = (m : Int) + 1 ∧ m < 100 := ⟨(size % 100).toNat, by omega, by omega⟩
  rw [hm]
  generalize size % 100 = sz at hm ⊢
  clear hm
  have n1 : (1 : Int) ≤ (m : Int) + 1 := by omega
  have n2 : (m : Int) + 1 ≤ 9223372036854775807 := by omega
  have tn : ((m : Int) + 1).toNat = m + 1 := by omega
  have TN := Lib.hid tn
  clear tn
  cases hr : belowR key i ((m : Int) + 1) with
  | none =>
    have hend := below_none_end HK.out n1 i0 hr
    have HR := Lib.hid hr
    clear hr
    with_reducible refine (below_none key i ((m : Int) + 1) W2 hA1.stp i0 i1 n1 n2 HR.out).mono ?_
    rintro en W4 ⟨rfl, hb4⟩
    have hB := (hA1.next hb4).below
    clear hA1 hb4 k0
    go_wp2_with fail
    go_ret
    exact ⟨rfl, hB⟩
  | some p =>
    obtain ⟨v, nx⟩ := p
    have hvr := below_range hr
    have HR := Lib.hid hr
    clear hr
    have v0 := hvr.1
    have x1 : i < nx := hvr.2.2.1
    have x2 : nx ≤ 1099511627776 := hvr.2.2.2 i0
    clear hvr
    with_reducible refine (below_some key i ((m : Int) + 1) v nx W2 hA1.stp i0 i1 n1 n2 HR.out).mono ?_
    rintro en W4 ⟨rfl, hb4⟩
    have hA4 := hA1.next hb4
    clear hA1 hb4 k0
    go_wp2_with fail
    go_loopw [15] (fun b wr => ∃ j : Int, i ≤ j ∧ j ≤ nx ∧ b = .int .i64 j ∧ Below W4.heap.size W4 wr) (fun b _ => (nx - intOf b).toNat)
    case atStart => exact ⟨i, by omega, by omega, rfl, Below.refl _ _⟩
    case round =>
      obtain ⟨j, j0, j1, rfl, hbw⟩ := hrel
      have hB := hA4.next hbw
      by_cases hlt : j < nx
      · have k0 := hB.cell
        have BW := Lib.hid (below_words HR.out j j0 hlt)
        go_wp2_with fail
        with_reducible refine (word_ok key j wr hB.stp (by omega) (by omega)).mono ?_
        rintro en V1 ⟨rfl, b1⟩
        have t1 := hbw.trans (b1.mono hbw.size)
        go_wp2_with fail
        refine (rest_any (wordI key j) _ V1 (wordI_nn _ _) n2).mono ?_
        rintro en V2 ⟨rfl, rfl⟩
        by_cases hlast : j + 1 = nx
        · rw [(BW.out.2 hlast).1, (BW.out.2 hlast).2]
          have q1 : (j == nx - 1) = true := beq_iff_eq.2 (by omega)
          clear hlast BW
          go_wp2_with fail
          go_roundw
          case rel => exact ⟨j + 1, by omega, by omega, by go_num, t1⟩
          case measure => simp [intOf]; omega
        · rw [BW.out.1 (by omega)]
          have q1 : (j == nx - 1) = false := beq_eq_false_iff_ne.2 (by omega)
          clear hlast BW
          generalize restV (wordI key j) ((m : Int) + 1) = rv
          go_wp2_with fail
          go_roundw
          case rel => exact ⟨j + 1, by omega, by omega, by go_num, t1⟩
          case measure => simp [intOf]; omega
      · clear hA4
        have k0 := hB.cell
        clear hbw
        go_wp2_with fail
        generalize wr = Z0 at hB k0 ⊢
        cases hp : permR key i (m + 1) with
        | none =>
          have PN := Lib.hid (fun w hw => perm_none_ok key i ((m : Int) + 1) w hw i0 i1 (by omega) (by omega) (by rw [TN.out]; exact hp))
          clear hp
          with_reducible refine (PN.out Z0 hB.stp).mono ?_
          rintro en Z1 ⟨rfl, b1⟩
          have B1 := hB.next b1
          clear hB b1 k0
          have k0 := B1.cell
          go_wp2_with fail
          with_reducible refine (PN.out Z1 B1.stp).mono ?_
          rintro en Z2 ⟨rfl, b2⟩
          have B2 := B1.next b2
          clear B1 b2 k0
          go_wp2_with fail
          refine (same_self _ _ [] Z2 (.inl ⟨rfl, rfl⟩) (.inl ⟨rfl, rfl⟩) (by decide)).mono ?_
          rintro en Z3 ⟨rfl, b3⟩
          have hfin := (B2.next b3).below
          go_wp2_with fail
          go_ret
          exact ⟨rfl, hfin⟩
        | some q =>
          obtain ⟨l, fin⟩ := q
          have PS := Lib.hid (fun w hw => perm_some_ok key i ((m : Int) + 1) l fin w hw i0 i1 (by omega) (by omega) (by rw [TN.out]; exact hp))
          have hll := permR_length hp
          have HP := Lib.hid hp
          have HLL := Lib.hid hll
          have HL1 := Lib.hid (show l.length ≤ 9223372036854775807 by omega)
          clear hp hll
          with_reducible refine (PS.out Z0 hB.stp).mono ?_
          rintro en Z1 ⟨b1, u1, rfl, r1⟩
          have B1 := hB.next b1
          clear hB b1 k0
          have k0 := B1.cell
          go_wp2_with fail
          with_reducible refine (PS.out Z1 B1.stp).mono ?_
          rintro en Z2 ⟨b2, u2, rfl, r2⟩
          have B2 := B1.next b2
          have r1' := r1.below b2 (Nat.le_refl _)
          clear B1 b2 k0 r1
          go_wp2_with fail
          refine (same_self u1 u2 l Z2 r1' r2 HL1.out).mono ?_
          rintro en Z3 ⟨rfl, b3⟩
          have B3 := B2.next b3
          have r1 := r1'.below b3 (Nat.le_refl _)
          clear B2 b3 r1' r2
          go_wp2_with fail
          generalize hZ4 : Z3 = Z4 at B3 r1 ⊢
          clear hZ4
          go_loopw [25, 26] (fun u b wr => ∃ j : Nat, j ≤ m + 1 ∧ b = .int .i64 j ∧ wr.ownsRow Z4.heap.size 3 1 u j ((idL j).map (Value.int .i64)) ∧ Below Z4.heap.size Z4 wr) (fun _ b _ => (m + 1 - intOf b).toNat)
          case atStart => exact ⟨0, by omega, rfl, World.ownsRow_nil _ _ _ _, Below.refl _ _⟩
          case round =>
            obtain ⟨j, hj, rfl, hown, hbz⟩ := hrel
            have hbs := hbz.size
            by_cases hltj : j < m + 1
            · have hji : (j : Int) < (m : Int) + 1 := by omega
              go_wp2_with (at_builtin; refine wpList_append_own _ rfl _ _ 26 rfl Z4.heap.size 3 ii (.int .i64 0) 1 8 Tryd.underlying26 hii hz0 hz1 hz2 rfl (by decide) _ _ _ rfl (hown.alloc _) ⟨wr.heap.size, 0, none⟩ 1 1 [.int .i64 (j : Int)] rfl rfl ?c1 ?c2 ?c3 ?c4 ?c5 ?_)
              case c1 => exact (cell_one_new _ _ _)
              case c2 => simp [Value.oneCell']
              case c3 => unfold maxLen; omega
              case c4 => omega
              case c5 => simp; omega
              intro v' w1 hown' hgrow _
              have hb3 := below_own hbz hown ((Below.refl _ _).alloc hbs _) hgrow hbs
              have hown2 : w1.ownsRow Z4.heap.size 3 1 v' (j + 1) ((idL (j + 1)).map (Value.int .i64)) := by
                rw [idL_snoc]
                simpa using hown'
              clear hown' hgrow hown
              go_wp2
              go_roundw
              case rel => exact ⟨j + 1, by omega, by go_num, hown2, hb3⟩
              case measure => simp [intOf]; omega
            · have hji : ¬ (j : Int) < (m : Int) + 1 := by omega
              have ej : j = m + 1 := by omega
              rw [ej] at hown
              obtain ⟨g2, cap2, hv2, hg2, hcap, hcm, hop⟩ := ownP_of (by omega) (idL_length (m + 1)) hown
              subst hv2
              have gz := B3.lt
              have hid := idL_length (m + 1)
              clear hown ej
              go_wp2
              clear hcap hcm n2 hltj hji hj
              generalize wr = Y0 at hbz hop hbs ⊢
              go_loopw [27, 28] (fun b c ws => ∃ (q : Nat) (L : List Int) (x : Int), q ≤ m ∧ c = .int .i64 q ∧ b = .int .i64 x ∧ 0 ≤ x ∧ x ≤ 1099511627776 ∧ L.length = m + 1 ∧ Hid (permR key i (m + 1) = permGo key q L x) ∧ OwnP ws g2 L ∧ Below Z4.heap.size Z4 ws) (fun _ c _ => (intOf c).toNat)
              case atStart => exact ⟨m, idL (m + 1), i, by omega, by go_num, rfl, i0, i1, hid, Lib.hid rfl, hop, hbz⟩
              case round =>
                clear hbz hop hid hbs
                obtain ⟨q, L, x, hq, rfl, rfl, hx1, hx2, hL, hp, hol, hb2⟩ := hrel
                have HL := Lib.hid hL
                have hll : m + 1 ≤ L.length := by omega
                have hll2 : L.length ≤ m + 1 := by omega
                clear hL
                have B5 := B3.next hb2
                by_cases hq0 : 0 < q
                · obtain ⟨q', rfl⟩ : ∃ q', q = q' + 1 := ⟨q - 1, by omega⟩
                  have k0 := B5.cell
                  cases hr2 : belowR key x ((q' : Int) + 1 + 1) with
                  | none =>
                    exfalso
                    have e1 : permR key i (m + 1) = none := by
                      rw [hp.out]
                      unfold permGo
                      rw [hr2]
                    rw [HP.out] at e1
                    cases e1
                  | some p2 =>
                    obtain ⟨v2, nx2⟩ := p2
                    have hvr := below_range hr2
                    have HR2 := Lib.hid hr2
                    clear hr2
                    obtain ⟨y1, hy1⟩ : ∃ y1 : Nat, v2 = y1 := ⟨v2.toNat, by omega⟩
                    subst hy1
                    have hv2 : y1 ≤ q' + 1 := by omega
                    have hn1 := hvr.2.2.1
                    have hn2 := hvr.2.2.2 hx1
                    clear hvr
                    go_wp2_with fail
                    with_reducible refine (below_some key x ((q' : Int) + 1 + 1) y1 nx2 wr B5.stp hx1 hx2 (by omega) (by omega) HR2.out).mono ?_
                    rintro e w3 ⟨rfl, hb3⟩
                    have hol3 := hol.below hb3 hol.lt
                    have hb4 := hb2.trans (hb3.mono hb2.size)
                    have yq : ¬ (q' : Int) + 1 < (y1 : Int) := by omega
                    go_wp2_with fail
                    have a1 : w3.cell? ⟨g2, y1, none⟩ = some (.int .i64 (L.getD y1 0)) := hol3.cell y1 (by omega)
                    have a2 : w3.cell? ⟨g2, q' + 1, none⟩ = some (.int .i64 (L.getD (q' + 1) 0)) := hol3.cell (q' + 1) (by omega)
                    have f1 := hol3.free y1
                    have f2 := hol3.free (q' + 1)
                    have HLS := Lib.hid (swapL_comm L y1 (q' + 1))
                    generalize L.getD y1 0 = xv at a1 HLS
                    generalize L.getD (q' + 1) 0 = xp at a2 HLS
                    have g1 : (y1 : Int) < (m : Int) + 1 := by omega
                    have g3 : (q' : Int) + 1 < (m : Int) + 1 := by omega
                    have g4 : 0 ≤ (q' : Int) + 1 := by omega
                    obtain ⟨z1, hz1'⟩ := cell?_setCell_some (w := w3) (p := ⟨g2, y1, none⟩) (x := .int .i64 xp) (q := ⟨g2, q' + 1, none⟩) (v := .int .i64 xp) a2
                    obtain ⟨z2, hz2'⟩ := cell?_setCell_some (w := w3) (p := ⟨g2, q' + 1, none⟩) (x := .int .i64 xv) (q := ⟨g2, y1, none⟩) (v := .int .i64 xv) a1
                    clear k0 B5 hb3 hol
                    go_region
                    go_wp2_with fail
                    go_roundw
                    case rel =>
                      have hs := ((hol3.set (q' + 1) xv).set y1 xp)
                      rw [HLS.out] at hs
                      refine ⟨q', swapL L y1 (q' + 1), nx2, by omega, by go_num, rfl, by omega, hn2, by rw [swapL_length]; exact HL.out, Lib.hid ?_, hs.block rfl, ?_⟩
                      · rw [hp.out]
                        show permGo key (q' + 1) L x = _
                        rw [permGo, HR2.out]
                        rfl
                      · exact ((hb4.setCell hg2 _).setCell hg2 _).trans ⟨rfl, rfl, rfl, Nat.le_refl _, fun _ _ => rfl⟩
                    case measure => simp [intOf]
                · obtain rfl : q = 0 := by omega
                  have e1 : some (l, fin) = some (L, x) := by
                    rw [← HP.out, hp.out]
                    rfl
                  simp only [Option.some.injEq, Prod.mk.injEq] at e1
                  obtain ⟨e1, e2⟩ := e1
                  subst e1 e2
                  have r5 := r1.below hb2 (Nat.le_refl _)
                  have r6 := hol.rd (m + 1) cap2 HL.out
                  have k0 := B5.cell
                  clear hol hp B3 r1
                  go_wp2_with fail
                  have hwn := rd_new wr [more, 1] 3
                  have B6 : BK key w g (wr.alloc (.cells #[.int .i64 more, .int .i64 1] 3)) := B5.next (Below.alloc (Below.refl _ _) (Nat.le_refl _) _)
                  have r5' := r5.below (Below.alloc (Below.refl _ _) (Nat.le_refl wr.heap.size) (.cells #[.int .i64 more, .int .i64 1] 3)) (Nat.le_refl _)
                  have r6' := r6.below (Below.alloc (Below.refl _ _) (Nat.le_refl wr.heap.size) (.cells #[.int .i64 more, .int .i64 1] 3)) (Nat.le_refl _)
                  have sB : sumB [more, 1] = true := by simp [sumB, okW]; omega
                  have sS : ([more, 1] : List Int).sum = more + 1 := by simp
                  have WO := Lib.hid (weigh_ok key i _ [more, 1] _ B6.stp hwn i0 i1 sB)
                  clear hwn B5 r5 r6 k0 sB
                  cases hr3 : belowR key i (more + 1) with
                  | none =>
                    have wO := WO.out
                    rw [show weighR key i [more, 1] = none by unfold weighR; rw [sS, hr3]] at wO
                    simp only [bV, bN, bE] at wO
                    have HR3 := Lib.hid hr3
                    clear WO hr3 sS
                    refine wO.mono ?_
                    clear wO
                    rintro e w3 ⟨rfl, hb3⟩
                    have B7 := B6.next hb3
                    have r7 := r5'.below hb3 (Nat.le_refl _)
                    have r8 := r6'.below hb3 (Nat.le_refl _)
                    clear B6 r5' r6' hb3
                    have k0 := B7.cell
                    go_wp2_with fail
                    with_reducible refine (below_none key i (more + 1) w3 B7.stp i0 i1 (by omega) (by omega) HR3.out).mono ?_
                    rintro e w4 ⟨rfl, hb4⟩
                    have B8 := B7.next hb4
                    have r9 := r7.below hb4 (Nat.le_refl _)
                    have r10 := r8.below hb4 (Nat.le_refl _)
                    clear B7 r7 r8 hb4 k0
                    go_wp2_with fail
                    refine (same_self u1 _ l w4 r9 r10 HL1.out).mono ?_
                    rintro e w5 ⟨rfl, hb5⟩
                    have hfin := (B8.next hb5).below
                    go_wp2_with fail
                    go_ret
                    exact ⟨rfl, hfin⟩
                  | some p3 =>
                    obtain ⟨t3, nx3⟩ := p3
                    have hvr := below_range hr3
                    have wO := WO.out
                    rw [show weighR key i [more, 1] = some (((weighL [more, 1] t3 : Nat) : Int), nx3) by unfold weighR; rw [sS, hr3]] at wO
                    simp only [bV, bN, bE] at wO
                    have wt := weigh_two more t3 m0 hvr.1 hvr.2.1
                    have HR3 := Lib.hid hr3
                    clear WO hr3 sS hvr
                    generalize ((weighL [more, 1] t3 : Nat) : Int) = wl at wt wO
                    refine wO.mono ?_
                    clear wO
                    rintro e w3 ⟨rfl, hb3⟩
                    have B7 := B6.next hb3
                    have r7 := r5'.below hb3 (Nat.le_refl _)
                    have r8 := r6'.below hb3 (Nat.le_refl _)
                    clear B6 r5' r6' hb3
                    have k0 := B7.cell
                    have WT := Lib.hid wt
                    clear wt
                    go_wp2_with fail
                    with_reducible refine (below_some key i (more + 1) t3 nx3 w3 B7.stp i0 i1 (by omega) (by omega) HR3.out).mono ?_
                    rintro e w4 ⟨rfl, hb4⟩
                    have B8 := B7.next hb4
                    have r9 := r7.below hb4 (Nat.le_refl _)
                    have r10 := r8.below hb4 (Nat.le_refl _)
                    clear B7 r7 r8 hb4 k0
                    by_cases htm : t3 < more
                    · have w1 : (wl == 0) = true := by rw [WT.out, decide_eq_true htm]
                      clear WT
                      go_wp2_with fail
                      refine (same_self u1 _ l w4 r9 r10 HL1.out).mono ?_
                      rintro e w5 ⟨rfl, hb5⟩
                      have hfin := (B8.next hb5).below
                      go_wp2_with fail
                      go_ret
                      exact ⟨rfl, hfin⟩
                    · have w1 : (wl == 0) = false := by rw [WT.out, decide_eq_false htm]
                      clear WT
                      go_wp2_with fail
                      refine (same_self u1 _ l w4 r9 r10 HL1.out).mono ?_
                      rintro e w5 ⟨rfl, hb5⟩
                      have hfin := (B8.next hb5).below
                      go_wp2_with fail
                      go_ret
                      exact ⟨rfl, hfin⟩
theorem bounds_u8' {n : Int} (h : (Lit.int .u8 n).wf = true) : 0 ≤ n ∧ n ≤ 255 := by
  simp [Lit.wf, IntKind.min, IntKind.max, IntKind.signed, IntKind.bits] at h
  omega
theorem seedSteps_walk (key a size more : Int) (w : World) (h : Stp w) (w0 : (Lit.int .u64 key).wf = true) (_w1 : (Lit.int .i64 a).wf = true) (w2 : (Lit.int .u8 size).wf = true) (w3 : (Lit.int .u8 more).wf = true) :
    Calls Tryd.prog 9 #[.int .u64 key, .int .i64 a, .int .u8 size, .int .u8 more] w fun e w' => e = .returned (.bool true) ∧ Below w.heap.size w w' :=
  steps_go key a size more w h (bounds_u64 w0) (bounds_u8' w2).1 (bounds_u8' w2).2 (bounds_u8' w3).1 (bounds_u8' w3).2
end Go.Proofs.YthalafjbkmemhaaDoor
