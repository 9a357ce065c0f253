/- SeedLists' walk: an order has every number once, a choice so many different ones in increasing order, and what is weighed has a weight. -/
import Derived.Test.YthalafjbkmemhaaDoorM5
import Derived.Test.YthalafjbkmemhaaDoorL0
namespace Go.Proofs.YthalafjbkmemhaaDoor
open Go Go.RowKit
set_option maxRecDepth 1000000
theorem choose_some_ok (key i n k : Int) (l : List Int) (nx : Int) (w : World) (h : Stp w) (h1 : 0 ≤ i) (h2 : i ≤ 1099511627776) (h3 : n ≤ 1000) (h4 : 0 ≤ k) (h5 : k ≤ n) (hp : chooseR key i n.toNat k.toNat = some (l, nx)) :
    Calls Tryd.prog 30 #[.agg #[.int .u64 key], .int .i64 i, .int .i64 n, .int .i64 k] w fun e w' => LRes l nx 0 w w' e :=
  (choose_int key i n k w h h1 h2 h3 h4 h5).mono fun _ _ hr => by
    rw [hp] at hr
    exact hr
theorem rd_slice {w : World} {v : Value} {l : List Int} {n : Nat} (h : Rd w v l) (hn : l.length = n) : ∃ a cap, v = .slice a n cap := by
  obtain ⟨a, cap, e⟩ := h.val
  exact ⟨a, cap, by rw [e, hn]⟩
theorem rd_at {w : World} {a : Option Addr} {n cap : Nat} {l : List Int} (h : Rd w (.slice a n cap) l) (hn : l.length = n) (h0 : 0 < n) : ∃ b off, a = some ⟨b, off, none⟩ ∧ ∀ j, j < n → w.cell? ⟨b, off + j, none⟩ = some (.int .i64 (l.getD j 0)) := by
  obtain ⟨b, off, cap', e, _, hc⟩ := h.some (by omega)
  cases e
  exact ⟨b, off, rfl, fun j hj => hc j (by omega)⟩
theorem take_more (l : List Int) (j : Nat) (h : j < l.length) : l.take (j + 1) = l.take j ++ [l.getD j 0] := by
  rw [List.take_succ_eq_append_getElem h]
  simp [List.getD, h]
theorem sum_bytes : ∀ (l : List Int), (∀ x ∈ l, 0 ≤ x ∧ x ≤ 255) → 0 ≤ l.sum ∧ l.sum ≤ 255 * l.length
  | [], _ => by simp
  | x :: l, h => by
    have h1 := sum_bytes l fun y hy => h y (List.mem_cons_of_mem _ hy)
    have h2 := h x List.mem_cons_self
    rw [List.sum_cons, List.length_cons]
    omega
theorem sumB_bytes (l : List Int) (h : ∀ x ∈ l, 0 ≤ x ∧ x ≤ 255) (hl : l.length ≤ 100) : sumB l = decide (0 < l.sum) := by
  have h1 : l.all okW = true := by
    rw [List.all_eq_true]
    intro x hx
    have := h x hx
    simp [okW]
    omega
  simp only [sumB, h1]
  by_cases hs : 0 < l.sum <;> simp [hs] <;> omega
theorem rd_row {w : World} {base : Nat} {v : Value} {l : List Int} {n : Nat} (hl : l.length = n) (h : w.ownsRow base 3 1 v n (l.map (Value.int .i64))) : Rd w v l := by
  obtain ⟨_, ⟨rfl, hn0⟩ | ⟨g, cap, cur, rfl, hb, hg, hnc, hcm, hcs, hx⟩⟩ := h
  · refine .inl ⟨rfl, ?_⟩
    exact List.eq_nil_of_length_eq_zero (by omega)
  · exact OwnP.rd ⟨3, cur, hg, by rw [hl]; simpa using hx⟩ n cap hl
set_option maxHeartbeats 16000000 in
theorem lists_go (key a : Int) (size part : Int) (av : Option Addr) (cap : Nat) (l : List Int) (w : World) (h : Stp w) (hk : U key) (s0 : 0 ≤ size) (s1 : size ≤ 255) (p0 : 0 ≤ part) (p1 : part ≤ 255)
    (hl : ∀ j, j < l.length → ∃ b off, av = some ⟨b, off, none⟩ ∧ b < w.heap.size ∧ w.cell? ⟨b, off + j, none⟩ = some (.int .u8 (l.getD j 0))) (hl2 : ∀ x ∈ l, 0 ≤ x ∧ x ≤ 255) (hlen : (l.length : Int) ≤ 140737488351232) :
    Calls Tryd.prog 10 #[.int .u64 key, .int .i64 a, .int .u8 size, .int .u8 part, .slice av l.length cap] w fun e w' => e = .returned (.bool true) ∧ Below w.heap.size w w' := by
  obtain ⟨ii, hii, hz0, hz1, hz2⟩ := info_parts info3
  have HL := Lib.hid hl
  have HL2 := Lib.hid hl2
  have HK := Lib.hid hk
  clear hk hl hl2
  have i0 : 0 ≤ pickI a 549755813888 := Int.emod_nonneg _ (by decide)
  have i1 : pickI a 549755813888 < 549755813888 := Int.emod_lt_of_pos a (by decide)
  have P := Lib.hid (fun w => pick_any a 549755813888 w (by omega) (by omega))
  generalize pickI a 549755813888 = i at i0 i1 P
  go_enter Tryd.func10, Tryd.ntmps10
  go_wp2_with fail
  refine (awake_any w h).mono ?_
  rintro en W1 ⟨rfl, hb1⟩
  go_wp2_with fail
  have hA1 := BK.new key w W1 h hb1
  generalize hg : W1.heap.size = g at hA1 ⊢
  generalize (W1.alloc (.cells #[.int .u64 key] 33)) = W2 at hA1 ⊢
  clear hg hb1
  have k0 := hA1.cell
  refine (P.out _).mono ?_
  rintro en W3 ⟨rfl, rfl⟩
  go_wp2_with fail
  obtain ⟨n, hn, hn9⟩ : ∃ n : Nat, size % 101 = (n : Int) ∧ n ≤ 100 := ⟨(size % 101).toNat, by omega, by omega⟩
  rw [hn]
  clear hn
  obtain ⟨k, hk, hkn⟩ : ∃ k : Nat, part % ((n : Int) + 1) = (k : Int) ∧ k ≤ n := by
    have h1 := Int.emod_nonneg part (show (n : Int) + 1 ≠ 0 by omega)
    have h2 := Int.emod_lt_of_pos part (show 0 < (n : Int) + 1 by omega)
    exact ⟨(part % ((n : Int) + 1)).toNat, by omega, by omega⟩
  rw [hk]
  clear hk s0 s1 p0 p1
  obtain ⟨l1, nx1, e1, e2, e2b, e3⟩ := permR_good HK.out i0 i1 n hn9
  obtain ⟨l2, nx2, f1, f2, f3, f4, f5⟩ := chooseR_good HK.out i0 i1 n k hn9 hkn
  obtain ⟨l3, nx3, g1, g2, g3, g4, g5⟩ := chooseR_good HK.out i0 i1 n n hn9 (Nat.le_refl _)
  have hl1 : l1.length = n := by rw [permR_length e1]
  have PS := Lib.hid (fun w hw => perm_some_ok key i (n : Int) l1 nx1 w hw i0 (by omega) (by omega) (by omega) e1)
  have C1 := Lib.hid (fun w hw => choose_some_ok key i (n : Int) (k : Int) l2 nx2 w hw i0 (by omega) (by omega) (by omega) (by omega) f1)
  have C2 := Lib.hid (fun w hw => choose_some_ok key i (n : Int) (n : Int) l3 nx3 w hw i0 (by omega) (by omega) (by omega) (by omega) g1)
  have ALL := Lib.hid (all_of g4 g5)
  have CR := Lib.hid f4
  have CS := Lib.hid f5
  have PC := Lib.hid (fun c hc => perm_count e3 c hc)
  have PR := Lib.hid (fun x hx => perm_range e3 x hx)
  clear e1 f1 g1 g4 g5 f4 f5 e3
  with_reducible refine (PS.out _ hA1.stp).mono ?_
  rintro en W4 ⟨b1, u1, rfl, r1⟩
  obtain ⟨a1, cap1, rfl⟩ := rd_slice r1 hl1
  have B1 := hA1.next b1
  clear hA1 b1 k0
  have k0 := B1.cell
  go_wp2_with fail
  with_reducible refine (C1.out _ B1.stp).mono ?_
  rintro en W5 ⟨b2, u2, rfl, r2⟩
  obtain ⟨a2, cap2, rfl⟩ := rd_slice r2 f3
  have B2 := B1.next b2
  have r1' := r1.below b2 (Nat.le_refl _)
  clear B1 b2 k0 r1
  have k0 := B2.cell
  go_wp2_with fail
  with_reducible refine (C2.out _ B2.stp).mono ?_
  rintro en W6 ⟨b3, u3, rfl, r3⟩
  obtain ⟨a3, cap3, rfl⟩ := rd_slice r3 g3
  have B3 := B2.next b3
  have r1 := r1'.below b3 (Nat.le_refl _)
  have r2' := r2.below b3 (Nat.le_refl _)
  clear B2 b3 k0 r1' r2
  have hmk := run_make_row' (P := Tryd.prog) 26 3 (.int .i64 0) 8 Tryd.underlying26 info3 rfl .i64 .i64 n (by omega) (by omega)
  have n0 : 0 ≤ (n : Int) := by omega
  go_wp2_with fail
  all_goals
    clear PS C1 C2 hmk P
    go_loopw [25] (fun b wr => ∃ x : Nat, x ≤ n ∧ b = .int .i64 x ∧ Own wr W6.heap.size (countL n (l1.take x)) ∧ Below W6.heap.size W6 wr) (fun b _ => ((n : Int) - intOf b).toNat)
    case atStart =>
      refine ⟨0, by omega, rfl, ?_, ?_⟩
      · rw [List.take_zero, countL_nil]
        exact own_made W6 n
      · exact Below.alloc (Below.refl _ _) (Nat.le_refl _) _
    case round =>
      obtain ⟨x, hx, rfl, ho, hb⟩ := hrel
      by_cases hlt : x < n
      · obtain ⟨d1, o1, rfl, cc1⟩ := rd_at (r1.below hb (Nat.le_refl _)) hl1 (by omega)
        obtain ⟨d3, o3, rfl, cc3⟩ := rd_at (r3.below hb (Nat.le_refl _)) g3 (by omega)
        have c1 := cc1 x hlt
        have c3 := cc3 x hlt
        clear cc1 cc3
        rw [ALL.out x hlt] at c3
        have pr := PR.out x (by omega)
        obtain ⟨y, hy⟩ : ∃ y : Nat, l1.getD x 0 = y := ⟨(l1.getD x 0).toNat, by omega⟩
        have ht : l1.take (x + 1) = l1.take x ++ [(y : Int)] := by
          rw [List.take_succ_eq_append_getElem (by omega), ← hy]
          simp [List.getD, show x < l1.length by omega]
        rw [hy] at c1 pr
        have hyn : y < n := by omega
        have q1 : decide (n ≤ y) = false := decide_eq_false (by omega)
        have q2 : decide ((n : Int) ≤ (y : Int)) = false := decide_eq_false (by omega)
        have q3 : decide ((y : Int) < 0) = false := decide_eq_false (by omega)
        have HC := Lib.hid (countL_snoc n (l1.take x) y hyn)
        have c2 := ho.cell y (by rw [countL_length]; exact hyn)
        have fr := ho.free y
        have hcn : 0 ≤ (countL n (l1.take x)).getD y 0 ∧ (countL n (l1.take x)).getD y 0 ≤ 1000 := by
          rw [countL_get n _ y hyn]
          have := List.count_le_length (a := (y : Int)) (l := l1.take x)
          rw [List.length_take] at this
          omega
        generalize (countL n (l1.take x)).getD y 0 = cv at hcn HC c2
        clear hy r1 r3 r2' hl1 g3 f3 e2 e2b f2 g2
        first
          | (exfalso; omega)
          | go_wp2_with fail
            go_roundw
            case rel =>
              have hs := ho.set y (cv + 1)
              rw [← HC.out, ← ht] at hs
              exact ⟨x + 1, by omega, by go_num, hs, hb.setCell (Nat.le_refl _) _⟩
            case measure => simp [intOf]; omega
      · have ho : Own wr W6.heap.size (countL n l1) := by
          have e : l1.take x = l1 := List.take_of_length_le (by omega)
          rw [e] at ho
          exact ho
        have r4 := r2'.below hb (Nat.le_refl _)
        have B4 := B3.next hb
        clear r1 r2' r3 B3 hb hl1 g3 e2 e2b f2 g2 ALL PR
        have hlt2 : ¬ (x : Int) < (n : Int) := by omega
        clear hlt
        go_wp2_with fail
        generalize wr = W7 at ho r4 B4 ⊢
        go_loopw [26] (fun b wr => ∃ x : Nat, x ≤ n ∧ b = .int .i64 x ∧ W7 = wr) (fun b _ => ((n : Int) - intOf b).toNat)
        case atStart => exact ⟨0, by omega, rfl, by trivial⟩
        case round =>
          obtain ⟨y, hy, rfl, rfl⟩ := hrel
          by_cases hly : y < n
          · have c2 := ho.cell y (by rw [countL_length]; exact hly)
            rw [PC.out y hly] at c2
            first
              | (exfalso; omega)
              | go_wp2_with fail
                go_roundw
                case rel => exact ⟨y + 1, by omega, by go_num, by trivial⟩
                case measure => simp [intOf]; omega
          · clear ho PC
            have hly : ¬ (y : Int) < (n : Int) := by omega
            go_wp2_with fail
            go_loopw [27] (fun b wr => ∃ x : Nat, x ≤ k ∧ b = .int .i64 x ∧ Below W7.heap.size W7 wr) (fun b _ => ((k : Int) - intOf b).toNat)
            case atStart => exact ⟨0, by omega, rfl, Below.refl _ _⟩
            case round =>
              clear hly hy
              obtain ⟨z, hz, rfl, hbw⟩ := hrel
              by_cases hlz : z < k
              · obtain ⟨d2, o2, rfl, cc2⟩ := rd_at (r4.below hbw (Nat.le_refl _)) f3 (by omega)
                have v1 := (CR.out z hlz).1
                have v2 := (CR.out z hlz).2
                have d1 : decide (l2.getD z 0 < 0) = false := decide_eq_false (by omega)
                have d2 : decide ((n : Int) ≤ l2.getD z 0) = false := decide_eq_false (by omega)
                by_cases hz0 : 0 < z
                · obtain ⟨z', rfl⟩ : ∃ z', z = z' + 1 := ⟨z - 1, by omega⟩
                  have v3 := CS.out z' hlz
                  have c3 := cc2 z' (by omega)
                  have c4 := cc2 (z' + 1) hlz
                  clear cc2 r4 f3
                  generalize l2.getD z' 0 = p1 at c3 v3
                  generalize l2.getD (z' + 1) 0 = p2 at c4 v3 v1 v2 d1 d2
                  have d3 : decide (p2 ≤ p1) = false := decide_eq_false (by omega)
                  first
                    | (exfalso; omega)
                    | go_wp2_with fail
                      go_quiet (fail)
                      go_wp2
                      go_roundw
                      case rel => exact ⟨z' + 1 + 1, by omega, by go_num, below_drewN hbw _⟩
                      case measure => simp [intOf]; omega
                · have d4 : decide (0 < z) = false := decide_eq_false hz0
                  have c4 := cc2 z hlz
                  clear cc2 r4 f3
                  generalize l2.getD z 0 = p2 at c4 v1 v2 d1 d2
                  first
                    | (exfalso; omega)
                    | go_wp2_with fail
                      go_quiet (fail)
                      go_wp2
                      go_roundw
                      case rel => exact ⟨z + 1, by omega, by go_num, below_drewN hbw _⟩
                      case measure => simp [intOf]; omega
              · clear CR CS
                have hlz : ¬ (z : Int) < (k : Int) := by omega
                have B5 := B4.next hbw
                clear B4 r4 hbw f3
                clear hz hlz hly hlt2 hx ho
                go_wp2_with fail
                generalize wr = W8 at B5 ⊢
                go_loopw [28, 29, 30] (fun u b c wr => ∃ j : Nat, j ≤ l.length ∧ j ≤ 100 ∧ c = .int .i64 j ∧ b = .int .i64 ((l.take j).sum) ∧ wr.ownsRow W8.heap.size 3 1 u j ((l.take j).map (Value.int .i64)) ∧ Below W8.heap.size W8 wr) (fun _ _ c _ => ((100 : Int) - intOf c).toNat)
                case atStart => exact ⟨0, by omega, by omega, rfl, rfl, World.ownsRow_nil _ _ _ _, Below.refl _ _⟩
                case round =>
                  obtain ⟨j, hj, hj1, rfl, rfl, hown, hbz⟩ := hrel
                  have hbs := hbz.size
                  by_cases hlt : j < l.length ∧ j < 100
                  · obtain ⟨hlt, hlt2⟩ := hlt
                    obtain ⟨d, o, rfl, hdl, hcl0⟩ := HL.out j hlt
                    have hcl := ((B5.below.trans (hbz.mono B5.below.size)).cell (p := ⟨d, o + j, none⟩) hdl).trans hcl0
                    clear hcl0
                    have hv := HL2.out (l.getD j 0) (by simp [List.getD, hlt])
                    have TS := Lib.hid (take_more l j hlt)
                    generalize l.getD j 0 = v at hcl hv TS
                    have SB := Lib.hid (sum_bytes (l.take j) (fun x hx => HL2.out x (List.mem_of_mem_take hx)))
                    have lj : (l.take j).length = j := by rw [List.length_take]; omega
                    have lj1 : (l.take (j + 1)).length = j + 1 := by rw [List.length_take]; omega
                    have sb := SB.out
                    rw [lj] at sb
                    have ss : (l.take (j + 1)).sum = (l.take j).sum + v := by rw [TS.out]; simp
                    have sg : (l.take (j + 1)).getD j 0 = v := by
                      rw [TS.out]
                      simp [List.getD, lj]
                    clear SB
                    generalize (l.take j).sum = sm at ss sb
                    go_wp2_with (at_builtin; refine wpList_append_own _ rfl _ _ 26 rfl W8.heap.size 3 ii (.int .i64 0) 1 8 Tryd.underlying26 hii hz0 hz1 hz2 rfl (by decide) _ _ _ rfl (hown.alloc _) ⟨wr.heap.size, 0, none⟩ 1 1 [.int .i64 v] rfl rfl ?c1 ?c2 ?c3 ?c4 ?c5 ?_)
                    case c1 => exact (cell_one_new _ _ _)
                    case c2 => simp [Value.oneCell']
                    case c3 => unfold maxLen; omega
                    case c4 => omega
                    case c5 => simp; omega
                    intro v' w1 hown' hgrow _
                    have hb3 := below_own hbz hown ((Below.refl _ _).alloc hbs _) hgrow hbs
                    have hown2 : w1.ownsRow W8.heap.size 3 1 v' (j + 1) ((l.take (j + 1)).map (Value.int .i64)) := by
                      rw [TS.out, List.map_append, List.map_take]
                      exact hown'
                    clear hown' hgrow hown hcl
                    have HO := Lib.hid hown2
                    obtain ⟨g2, cap2, rfl, hg2, hcap, hcm, hop⟩ := ownP_of (by omega) lj1 hown2
                    clear hown2
                    have c5 := hop.cell j (by omega)
                    rw [sg] at c5
                    clear hop sg lj lj1
                    go_wp2_with fail
                    go_roundw
                    case rel => exact ⟨j + 1, by omega, by omega, by go_num, by rw [ss], HO.out, hb3⟩
                    case measure => simp [intOf]; omega
                  · rcases (show ¬ j < l.length ∨ (j < l.length ∧ ¬ j < 100) by omega) with hA | ⟨hA, hA2⟩
                    all_goals
                      have lj : (l.take j).length = j := by rw [List.length_take]; omega
                      have hby : ∀ x ∈ l.take j, 0 ≤ x ∧ x ≤ 255 := fun x hx => HL2.out x (List.mem_of_mem_take hx)
                      have hsB := sumB_bytes (l.take j) hby (by omega)
                      have hsum := sum_bytes (l.take j) hby
                      have B6 := B5.next hbz
                      have k0 := B6.cell
                      clear B5 HL HL2
                      by_cases hs : (l.take j).sum = 0
                      · have WN := Lib.hid (weigh_no key i _ (l.take j) wr (rd_row lj hown) (by omega) (.inr (by rw [hsB]; exact decide_eq_false (by omega))))
                        clear hown hsB hby hsum lj
                        rw [hs]
                        clear hs
                        go_wp2_with fail
                        refine WN.out.mono ?_
                        rintro en W9 ⟨rfl, b9⟩
                        have hfin := (B6.next b9).below
                        clear WN B6 k0
                        go_wp2_with fail
                        go_ret
                        exact ⟨rfl, hfin⟩
                      · have hs0 : 0 < (l.take j).sum := by omega
                        have j0 : 0 < j := by
                          rcases Nat.eq_zero_or_pos j with rfl | h0
                          · simp at hs
                          · exact h0
                        obtain ⟨t, nx, hr, hr2⟩ := below_soon (k := key) (n := (l.take j).sum) (i := i) HK.out (by omega) i0 (by omega)
                        have hvr := below_range hr
                        have hwl := weighL_good (l.take j) t (fun x hx => (hby x hx).1) hvr.1 hvr.2.1
                        have hi := hvr.2.2.1
                        have wr' : weighR key i (l.take j) = some (((weighL (l.take j) t : Nat) : Int), nx) := by unfold weighR; rw [hr]
                        have WO := Lib.hid (weigh_ok key i _ (l.take j) wr B6.stp (rd_row lj hown) i0 (by omega) (by rw [hsB]; exact decide_eq_true hs0))
                        obtain ⟨g2, cap2, rfl, hg2, hcap, hcm, hop⟩ := ownP_of j0 lj hown
                        have wO := WO.out
                        rw [wr'] at wO
                        simp only [bV, bN, bE] at wO
                        have WQ := Lib.hid wO
                        clear WO wO wr' hvr hr hsB hby hown
                        generalize weighL (l.take j) t = q at hwl WQ
                        have hq := hwl.1
                        have hq2 := hwl.2
                        rw [lj] at hq
                        clear hwl
                        have sn : ((l.take j).sum == 0) = false := beq_eq_false_iff_ne.2 hs
                        generalize (l.take j).sum = sm at hs hs0 sn hsum
                        go_wp2_with fail
                        refine WQ.out.mono ?_
                        rintro en W9 ⟨rfl, b9⟩
                        have hop2 := (hop.below b9 hop.lt).cell q (by omega)
                        have hfin := (B6.next b9).below
                        clear WQ B6 k0 hop b9
                        generalize (l.take j).getD q 0 = v at hop2 hq2
                        have z1 : decide (i < nx) = true := decide_eq_true hi
                        have z2 : decide (0 < v) = true := decide_eq_true hq2
                        have z3 : decide (q < j) = true := decide_eq_true hq
                        go_wp2_with fail
                        go_ret
                        exact ⟨rfl, hfin⟩
theorem lt_of_cell {w : World} {b o : Nat} {v : Value} (h : w.cell? ⟨b, o, none⟩ = some v) : b < w.heap.size := by
  by_cases hb : b < w.heap.size
  · exact hb
  · rw [World.cell?, Array.getElem?_eq_none (by simpa using hb)] at h
    simp at h
theorem row_u8 {w : World} {a : Option Addr} {len cap : Nat} {z : List Int} (h : IsRow .u8 w a len cap z) :
    ∃ l : List Int, l.length = len ∧ (∀ x ∈ l, 0 ≤ x ∧ x ≤ 255) ∧ ∀ j, j < l.length → ∃ b off, a = some ⟨b, off, none⟩ ∧ b < w.heap.size ∧ w.cell? ⟨b, off + j, none⟩ = some (.int .u8 (l.getD j 0)) := by
  rcases h with ⟨rfl, rfl, rfl, rfl⟩ | ⟨x, rfl, hl, hm, hz, hc, hw⟩
  · exact ⟨[], rfl, fun _ h => by simp at h, fun _ h => by simp at h⟩
  · have hll : (z.take len).length = len := by rw [List.length_take, hz, Nat.min_eq_left hl]
    refine ⟨z.take len, hll, fun y hy => bounds_u8' (hw y (List.mem_of_mem_take hy)), fun j hj => ?_⟩
    rw [hll] at hj
    obtain ⟨b, off, spot⟩ := x
    have hspot : spot = none := by simpa [Addr.add] using World.cell?_spot (hc 0 (by omega))
    subst hspot
    have h0 := hc 0 (by omega)
    have h1 := hc j (by omega)
    have e : (z.take len).getD j 0 = z.getD j 0 := by
      rw [List.getD_eq_getElem?_getD, List.getD_eq_getElem?_getD, List.getElem?_take_of_lt hj]
    refine ⟨b, off, rfl, lt_of_cell (by simpa [Addr.add] using h0), ?_⟩
    rw [e, ← h1]
    by_cases i0 : j = 0
    · subst i0; simp [Addr.add]
    · simp [Addr.add, i0]
theorem seedLists_walk (key a size part : Int) (a4 : Option Addr) (len4 cap4 : Nat) (z4 : List Int) (w : World) (h : Stp w) (w0 : (Lit.int .u64 key).wf = true) (_w1 : (Lit.int .i64 a).wf = true) (w2 : (Lit.int .u8 size).wf = true) (w3 : (Lit.int .u8 part).wf = true)
    (w4 : IsRow .u8 w a4 len4 cap4 z4 ∧ cap4 * 1 ≤ 140737488351232) :
    Calls Tryd.prog 10 #[.int .u64 key, .int .i64 a, .int .u8 size, .int .u8 part, .slice a4 len4 cap4] w fun e w' => e = .returned (.bool true) ∧ Below w.heap.size w w' := by
  have hlc : len4 ≤ cap4 := by
    rcases w4.1 with ⟨_, rfl, rfl, _⟩ | ⟨_, _, h, _⟩
    · exact Nat.le_refl _
    · exact h
  obtain ⟨l, e, hb, hc⟩ := row_u8 w4.1
  subst e
  exact lists_go key a size part a4 cap4 l w h (bounds_u64 w0) (bounds_u8' w2).1 (bounds_u8' w2).2 (bounds_u8' w3).1 (bounds_u8' w3).2 hc hb (by have := w4.2; omega)
end Go.Proofs.YthalafjbkmemhaaDoor
