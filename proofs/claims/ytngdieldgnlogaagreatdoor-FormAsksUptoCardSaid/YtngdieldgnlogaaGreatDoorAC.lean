/- What the law asks of one formula: all answers are the document's, and nothing shares memory with the formula. -/
import Derived.Test.YtngdieldgnlogaaGreatDoorQA
namespace Go.Proofs.YtngdieldgnlogaaGreatDoor
open Go Go.RowKit
set_option maxRecDepth 100000
set_option linter.unusedVariables false
theorem i22 {W : World} {b o k n c : Nat} (hk : k < n) : (Instr.indexAt 22 (.slice (some ⟨b, o, none⟩) n c) (.int .i64 (k : Int))).run Tryz.prog W = .ok (.pointer (some ⟨b, o + k * 3, none⟩)) W := by
  have h1 : (k : Int) < (n : Int) := by omega
  have h0 : (0 : Int) ≤ (k : Int) := by omega
  simp [Instr.indexAt, go_sem, h0, hk]
theorem f25_2 {W : World} {b : Nat} : (Instr.fieldAt 25 (.pointer (some ⟨b, 0, none⟩)) 2).run Tryz.prog W = .ok (.pointer (some ⟨b, 2, none⟩)) W := by
  simp [Instr.fieldAt, go_sem]
theorem loadT46 {W : World} {b o k c : Nat} {v : Bool} {n : ByteArray} {p : Option Addr} (h0 : W.cell? ⟨b, o, none⟩ = some (.bool v)) (h1 : W.cell? ⟨b, o + 1, none⟩ = some (.string n)) (h2 : W.cell? ⟨b, o + 2, none⟩ = some (.slice p k c)) : (Instr.loadAt 46 (.pointer (some ⟨b, o, none⟩))).run Tryz.prog W = .ok (.agg #[.bool v, .string n, .slice p k c]) W := by
  simp [Instr.loadAt, go_sem, h0, h1, h2]
set_option maxHeartbeats 16000000 in
theorem asks_any (f : FT) (v : Value) (w : World) (hrw : Rws w) (hv : FVal w f v) (hs : f.size ≤ 1000) (hwt : f.wt ≤ 4000000) (hop : ∀ p ∈ f.parts, 0 ≤ p.op) :
    Calls Tryz.prog 6 #[v] w fun e w' => e = .returned (.bool true) ∧ Below w.heap.size w w' := by
  have s6 : f.size ≤ 1000000 := by omega
  have hrwh := Lib.hid hrw
  obtain ⟨sa, ss, rfl, ha, hss⟩ := id hv
  obtain ⟨pa, ca, rfl, -⟩ := id ha
  obtain ⟨p, c, rfl, -⟩ := id hss
  have k1 := FS.start (t := 25) hv
  obtain ⟨g, hg⟩ : ∃ g, w.heap.size = g := ⟨_, rfl⟩
  obtain ⟨W1, hW1⟩ : ∃ W1, w.alloc (.cells #[.int .u8 f.op, .string f.n, .slice pa f.ts.len ca, .slice p f.sub.len c] 25) = W1 := ⟨_, rfl⟩
  rw [hW1, hg] at k1
  have k1h := Lib.hid k1
  have HC := Lib.hid (copyF_any f _ _ k1.val s6)
  clear ha hss hv hrw
  obtain ⟨c10, c11, c12, c13, -⟩ := k1
  go_enter Tryz.func6, Tryz.ntmps6
  go_wp2_with fail
  refine HC.out.mono ?_
  rintro e w3 ⟨⟨v3, rfl, ho3⟩, hb3⟩
  obtain ⟨p1, m1, p2, m2, rfl⟩ := FVal.spelt (FVOwn.at ho3)
  clear HC c10 c11 c12 c13
  have k1h := Lib.hid (k1h.out.next hb3)
  go_wp2_with fail
  obtain ⟨W4, hW4, hb34, k2⟩ := box_of (w := w) k1h.out.2.2.2.2.1 (FVOwn.at ho3) 25
  rw [hW4]
  obtain ⟨g3, hg3⟩ : ∃ g3, w3.heap.size = g3 := ⟨_, rfl⟩
  rw [hg3] at k2 ⊢
  have k1h := Lib.hid (k1h.out.next hb34)
  have k2h := Lib.hid k2
  have k14h := Lib.hid k1h.out
  have k24h := Lib.hid k2
  have hlt3 : g3 < W4.heap.size := lt_of_cell k2.1
  have hltg : g < W4.heap.size := lt_of_cell k1h.out.1
  clear hW4 hb34 ho3 hb3 hg hW1 hg3
  obtain ⟨i0, i1, i2, i3, -⟩ := k2
  have hin : ∀ W, Below W4.heap.size W4 W → FVal W f (fval f (.slice p1 f.ts.len m1) (.slice p2 f.sub.len m2)) := fun W hb => (k2h.out.next hb).val
  refine wp_region_run (by kernel_rfl) 104 [9, 10, 11, 12, 4, 5] (JC W4 f (fval f (.slice p1 f.ts.len m1) (.slice p2 f.sub.len m2))) (by kernel_rfl) rfl (JC.start (bel_drew W4) _) ?hst ?hend
  case hst =>
    refine ⟨?_, ?_, ?_, ?_, ?_, ?_, ?_, trivial⟩
    · rintro l gv W hun hdep hcl hJ hg ha hp
      refine' op_val ?h1 ?hw1 ?hr1 ?hK1
      case h1 => rfl
      case hw1 => exact rfl
      case hr1 => exact (ex_load rfl (eval_tmp ((ha 3 (by kernel_rfl)).trans rfl)) (loadFo (cell_below hJ.low i0) (cell_below hJ.low i1) (cell_below hJ.low i2) (cell_below hJ.low i3)))
      case hK1 => exact ⟨_, hp 9 _ (by kernel_rfl), hJ.op0⟩
    · rintro l gv W hun hdep hcl hJ hg ha hp
      have n3 : l 3 = false := by
        cases e : l 3 with
        | false => rfl
        | true => have := hcl 3 1 e (by kernel_rfl); rw [hun] at this; cases this
      have n5 : l 5 = false := by
        cases e : l 5 with
        | false => rfl
        | true => have := hcl 5 1 e (by kernel_rfl); rw [hun] at this; cases this
      refine' op_call ?h2 ?hw2 ?hr2 ?hc2
      case h2 => rfl
      case hw2 => exact rfl
      case hr2 => exact (ex_call1 (enters_of Tryz.func13 (by kernel_rfl) rfl) rfl ((eval_tmp (hg 9 (by kernel_rfl))).trans (hJ.i9 (hdep 0 (by kernel_rfl)))))
      case hc2 =>
        refine (copy_sp f _ W (hin W hJ.low) s6).mono ?_
        rintro e W' ⟨v', rfl, hsp, hb⟩
        exact ⟨v', rfl, _, hp 10 _ (by kernel_rfl), hJ.op1 n3 n5 hb hsp⟩
    · rintro l gv W hun hdep hcl hJ hg ha hp
      refine' op_val ?h3 ?hw3 ?hr3 ?hK3
      case h3 => rfl
      case hw3 => exact rfl
      case hr3 => exact (ex_load rfl (eval_tmp ((ha 3 (by kernel_rfl)).trans rfl)) (loadFo (cell_below hJ.low i0) (cell_below hJ.low i1) (cell_below hJ.low i2) (cell_below hJ.low i3)))
      case hK3 => exact ⟨_, hp 11 _ (by kernel_rfl), hJ.op2⟩
    · rintro l gv W hun hdep hcl hJ hg ha hp
      have n5 : l 5 = false := by
        cases e : l 5 with
        | false => rfl
        | true => have := hcl 5 3 e (by kernel_rfl); rw [hun] at this; cases this
      have n6 : l 6 = false := by
        cases e : l 6 with
        | false => rfl
        | true => have := hcl 6 3 e (by kernel_rfl); rw [hun] at this; cases this
      refine' op_call ?h4 ?hw4 ?hr4 ?hc4
      case h4 => rfl
      case hw4 => exact rfl
      case hr4 => exact (ex_call1 (enters_of Tryz.func14 (by kernel_rfl) rfl) rfl ((eval_tmp (hg 11 (by kernel_rfl))).trans (hJ.i11 (hdep 2 (by kernel_rfl)))))
      case hc4 =>
        refine (parts31_any f s6 _ W (hin W hJ.low)).mono ?_
        rintro e W' ⟨⟨v', rfl, hR⟩, hb⟩
        exact ⟨v', rfl, _, hp 12 _ (by kernel_rfl), hJ.op3 (hdep 1 (by kernel_rfl)) n5 n6 hb (parts_sp hs hR)⟩
    · rintro l gv W hun hdep hcl hJ hg ha hp
      have n5 : l 5 = false := by
        cases e : l 5 with
        | false => rfl
        | true => have := hcl 5 4 e (by kernel_rfl); rw [hun] at this; cases this
      refine' op_val ?h5 ?hw5 ?hr5 ?hK5
      case h5 => rfl
      case hw5 => exact rfl
      case hr5 => exact ex_alloc rfl
      case hK5 => exact ⟨_, hp 4 _ (by kernel_rfl), hJ.op4 n5⟩
    · rintro l gv W hun hdep hcl hJ hg ha hp
      obtain ⟨W', hst, hJ'⟩ := hJ.op5 (hdep 1 (by kernel_rfl)) (hdep 4 (by kernel_rfl)) hun
      exact op_skip rfl rfl (ex_store rfl (eval_tmp (hg 4 (by kernel_rfl))) (eval_tmp (hg 10 (by kernel_rfl))) hst) ⟨gv, rfl, hJ'⟩
    · rintro l gv W hun hdep hcl hJ hg ha hp
      refine' op_val ?h7 ?hw7 ?hr7 ?hK7
      case h7 => rfl
      case hw7 => exact rfl
      case hr7 => exact (ex_assign rfl (eval_tmp (hg 12 (by kernel_rfl))))
      case hK7 => exact ⟨_, hp 5 _ (by kernel_rfl), hJ.op6⟩
  case hend =>
    rintro ll gv w9 hl hJ
    have e9 : gv 9 = fval f (.slice p1 f.ts.len m1) (.slice p2 f.sub.len m2) := hJ.i9 (hl 0 (of_decide_eq_true (by kernel_rfl)))
    have e11 : gv 11 = fval f (.slice p1 f.ts.len m1) (.slice p2 f.sub.len m2) := hJ.i11 (hl 2 (of_decide_eq_true (by kernel_rfl)))
    have e5 : gv 5 = gv 12 := hJ.asg (hl 6 (of_decide_eq_true (by kernel_rfl)))
    obtain ⟨z1, z2, a1, a2, hown, hb1, hpp⟩ := hJ.own (hl 1 (of_decide_eq_true (by kernel_rfl)))
    obtain ⟨z3, z4, a3, a4, hparts, hb2⟩ := hpp (hl 3 (of_decide_eq_true (by kernel_rfl)))
    obtain ⟨b, e4, b1, b2, -, hbx⟩ := hJ.box (hl 4 (of_decide_eq_true (by kernel_rfl)))
    obtain ⟨po, mo, qo, no, e10, o0, o1, o2, o3⟩ := hbx (hl 5 (of_decide_eq_true (by kernel_rfl)))
    have hnb1 := hb1 (hl 4 (of_decide_eq_true (by kernel_rfl))) b e4
    have hnb2 := hb2 (hl 4 (of_decide_eq_true (by kernel_rfl))) b e4
    obtain ⟨u12, e12⟩ : ∃ u, gv 12 = u := ⟨_, rfl⟩
    rw [e10] at hown
    rw [e12] at hparts e5
    have hlow := Lib.hid hJ.low
    have hb49 := Lib.hid hJ.low
    clear hb1 hb2 hpp hbx hJ hl i0 i1 i2 i3
    simp only [zipV, List.map_cons, List.map_nil, puts, Act.put, List.setIfInBounds_toArray, List.set_cons_succ, List.set_cons_zero, e9, e10, e11, e12, e4, e5]
    clear e9 e10 e11 e12 e4 e5
    have k1h := Lib.hid (k1h.out.next hlow.out)
    have k2h := Lib.hid (k2h.out.next hlow.out)
    have kbh := Lib.hid (show FS f (.slice po f.ts.len mo) (.slice qo f.sub.len no) w b w9 from ⟨o0, o1, o2, o3, k1h.out.2.2.2.2.1, by
      obtain ⟨_, _, he, h1, h2⟩ := hown.at
      simp at he
      obtain ⟨rfl, rfl⟩ := he
      exact ⟨h1, h2⟩⟩)
    obtain ⟨sa', sb', S1, S2, he, u1, u2, hS1, hS2⟩ := hown
    simp at he
    obtain ⟨rfl, rfl⟩ := he
    have hS1h := Lib.hid hS1
    have hS2h := Lib.hid hS2
    have hPh := Lib.hid hparts
    have hplh := Lib.hid hparts.at
    have hrw9 := Lib.hid (hrwh.out.of k1h.out.2.2.2.2.1)
    have hopsh := Lib.hid hop
    have hr1 : ∀ x, S1 x → z1 ≤ x ∧ x < z2 := fun x hx => u1 x hx
    have hr2 : ∀ x, S2 x → (z1 ≤ x ∧ x < z2) ∧ ¬ S1 x := fun x hx => ⟨(u2 x hx).1, (u2 x hx).2⟩
    have hr1h := Lib.hid hr1
    have hr2h := Lib.hid hr2
    have hzs := Lib.hid (show (W4.heap.size ≤ z1 ∧ z1 ≤ z2) ∧ z2 ≤ w9.heap.size ∧ z2 ≤ z3 ∧ z4 ≤ w9.heap.size ∧ W4.heap.size ≤ b ∧ b < w9.heap.size ∧ g3 < W4.heap.size ∧ g < W4.heap.size ∧ ¬ (z1 ≤ b ∧ b < z2) ∧ ¬ (z3 ≤ b ∧ b < z4) from ⟨a1, a2, a3, a4, b1, b2, hlt3, hltg, hnb1, hnb2⟩)
    have hszL := Lib.hid (picked_size f hs)
    clear hS1 hS2 hparts hop hin hr1 hr2 u1 u2 hnb1 hnb2 a1 a2 a3 a4 b1 b2 hlt3 hltg hlow o0 o1 o2 o3
    obtain ⟨rb, hrb⟩ : ∃ b, (f.fits && f.right false) = b := ⟨_, rfl⟩
    obtain ⟨sb, hsb⟩ : ∃ b, (f.fits && f.right true) = b := ⟨_, rfl⟩
    have hrbh := Lib.hid hrb
    have hsbh := Lib.hid hsb
    obtain ⟨L, hL⟩ : ∃ L, toFs (pickedT f.parts) = L := ⟨_, rfl⟩
    have HRP := Lib.hid (refParts_fs f hs)
    rw [hL] at hszL hplh hPh HRP
    have hk1 := k1h.out
    obtain ⟨f0, f1, f2, f3, -⟩ := id hk1
    have fvf := Lib.hid hk1.val
    have hk2 := k2h.out
    obtain ⟨i0, i1, i2, i3, -⟩ := id hk2
    have fvi := Lib.hid hk2.val
    have hk3 := kbh.out
    obtain ⟨o0, o1, o2, o3, -⟩ := id hk3
    have fvo := Lib.hid hk3.val
    clear hk1 hk2 hk3 hrb hsb
    have hrwW : ∀ W, Below w9.heap.size w9 W → Rws W := fun W hb => hrw9.out.of hb
    go_wp2_with fail
    refine wp_region_run (by kernel_rfl) 104 [13, 14, 15, 16, 17, 18, 19, 20, 21, 22, 23, 24, 25, 26, 27, 28, 29, 30, 31, 32, 33, 34, 35, 36, 37, 38, 39, 40, 41, 42, 43, 44, 45, 46, 47, 48, 49, 50, 51, 52, 53, 54, 55, 56, 57, 58] (JK w9 [(0, 13, fval f (.slice p1 f.ts.len m1) (.slice p2 f.sub.len m2)), (1, 14, .bool rb), (2, 15, fval f (.slice pa f.ts.len ca) (.slice p f.sub.len c)), (3, 16, .bool rb), (4, 17, .bool false), (5, 18, .bool false), (6, 19, fval f (.slice p1 f.ts.len m1) (.slice p2 f.sub.len m2)), (7, 20, .bool sb), (8, 21, fval f (.slice pa f.ts.len ca) (.slice p f.sub.len c)), (9, 22, .bool sb), (10, 23, .bool false), (11, 24, .bool false), (12, 25, .bool false), (13, 26, fval f (.slice p1 f.ts.len m1) (.slice p2 f.sub.len m2)), (14, 27, .int .i64 (f.size : Int)), (15, 28, fval f (.slice pa f.ts.len ca) (.slice p f.sub.len c)), (16, 29, .int .i64 (f.size : Int)), (17, 30, .bool false), (18, 31, .bool false), (19, 32, .bool false), (20, 33, fval f (.slice p1 f.ts.len m1) (.slice p2 f.sub.len m2)), (21, 34, .int .i64 (f.deep : Int)), (22, 35, fval f (.slice pa f.ts.len ca) (.slice p f.sub.len c)), (23, 36, .int .i64 (f.deep : Int)), (24, 37, .bool false), (25, 38, .bool false), (26, 39, .bool false), (27, 40, fval f (.slice p1 f.ts.len m1) (.slice p2 f.sub.len m2)), (28, 41, .int .u32 ((maskOf f.parts).toNat : Int)), (29, 42, fval f (.slice pa f.ts.len ca) (.slice p f.sub.len c)), (30, 43, .int .u32 ((maskOf f.parts).toNat : Int)), (31, 44, .bool false), (32, 45, .bool false), (33, 46, .bool false), (34, 47, fval f (.slice po f.ts.len mo) (.slice qo f.sub.len no)), (35, 48, fval f (.slice pa f.ts.len ca) (.slice p f.sub.len c)), (36, 49, .bool true), (37, 50, .bool false), (38, 51, .bool false), (39, 52, .bool false), (40, 53, u12), (41, 54, fval f (.slice pa f.ts.len ca) (.slice p f.sub.len c)), (43, 56, .bool true), (44, 57, .bool false), (45, 58, .bool false)] [(42, 55, (fun v W => FSl W L v))]) (by kernel_rfl) rfl (JK.start _ _) ?hst46 ?hend46
    case hst46 =>
      have hok : okK [(0, 13, fval f (.slice p1 f.ts.len m1) (.slice p2 f.sub.len m2)), (1, 14, .bool rb), (2, 15, fval f (.slice pa f.ts.len ca) (.slice p f.sub.len c)), (3, 16, .bool rb), (4, 17, .bool false), (5, 18, .bool false), (6, 19, fval f (.slice p1 f.ts.len m1) (.slice p2 f.sub.len m2)), (7, 20, .bool sb), (8, 21, fval f (.slice pa f.ts.len ca) (.slice p f.sub.len c)), (9, 22, .bool sb), (10, 23, .bool false), (11, 24, .bool false), (12, 25, .bool false), (13, 26, fval f (.slice p1 f.ts.len m1) (.slice p2 f.sub.len m2)), (14, 27, .int .i64 (f.size : Int)), (15, 28, fval f (.slice pa f.ts.len ca) (.slice p f.sub.len c)), (16, 29, .int .i64 (f.size : Int)), (17, 30, .bool false), (18, 31, .bool false), (19, 32, .bool false), (20, 33, fval f (.slice p1 f.ts.len m1) (.slice p2 f.sub.len m2)), (21, 34, .int .i64 (f.deep : Int)), (22, 35, fval f (.slice pa f.ts.len ca) (.slice p f.sub.len c)), (23, 36, .int .i64 (f.deep : Int)), (24, 37, .bool false), (25, 38, .bool false), (26, 39, .bool false), (27, 40, fval f (.slice p1 f.ts.len m1) (.slice p2 f.sub.len m2)), (28, 41, .int .u32 ((maskOf f.parts).toNat : Int)), (29, 42, fval f (.slice pa f.ts.len ca) (.slice p f.sub.len c)), (30, 43, .int .u32 ((maskOf f.parts).toNat : Int)), (31, 44, .bool false), (32, 45, .bool false), (33, 46, .bool false), (34, 47, fval f (.slice po f.ts.len mo) (.slice qo f.sub.len no)), (35, 48, fval f (.slice pa f.ts.len ca) (.slice p f.sub.len c)), (36, 49, .bool true), (37, 50, .bool false), (38, 51, .bool false), (39, 52, .bool false), (40, 53, u12), (41, 54, fval f (.slice pa f.ts.len ca) (.slice p f.sub.len c)), (43, 56, .bool true), (44, 57, .bool false), (45, 58, .bool false)] [(42, 55, (fun v W => FSl W L v))] = true := by kernel_rfl
      have hst : ∀ p ∈ ([(42, 55, (fun v W => FSl W L v))] : List (Nat × Nat × (Value → World → Prop))), Stb p.2.2 := (fun p hp => by rw [List.mem_singleton] at hp; subst hp; exact stb_fs _)
      refine ⟨?_, ?_, ?_, ?_, ?_, ?_, ?_, ?_, ?_, ?_, ?_, ?_, ?_, ?_, ?_, ?_, ?_, ?_, ?_, ?_, ?_, ?_, ?_, ?_, ?_, ?_, ?_, ?_, ?_, ?_, ?_, ?_, ?_, ?_, ?_, ?_, ?_, ?_, ?_, ?_, ?_, ?_, ?_, ?_, ?_, ?_, trivial⟩
      · rintro l gv W hun hdep hcl hJ hg ha hp
        refine' op_val ?h1 ?hw1 ?hr1 ?hK1
        case h1 => rfl
        case hw1 => exact rfl
        case hr1 => exact (ex_load rfl (eval_tmp ((ha 3 (by kernel_rfl)).trans rfl)) (loadFo (cell_below hJ.low i0) (cell_below hJ.low i1) (cell_below hJ.low i2) (cell_below hJ.low i3)))
        case hK1 => exact ⟨_, hp 13 _ (by kernel_rfl), JK.made hok hst hJ (List.mem_of_getElem? (i := 0) rfl) (Below.refl _ _)⟩
      · rintro l gv W hun hdep hcl hJ hg ha hp
        refine' op_call ?h2 ?hw2 ?hr2 ?hc2
        case h2 => rfl
        case hw2 => exact rfl
        case hr2 => exact (ex_call1 (enters_of Tryz.func15 (by kernel_rfl) rfl) rfl ((eval_tmp (hg 13 (by kernel_rfl))).trans (hJ.lit _ (List.mem_of_getElem? (i := 0) rfl) (hdep 0 (by kernel_rfl)))))
        case hc2 =>
          refine (right_any f s6 _ W (hrwW W hJ.low) (FVal.below hJ.low fvi.out)).mono ?_
          rintro e W' ⟨rfl, hb⟩
          exact ⟨_, (congrArg (fun b => Ending.returned (Value.bool b)) (hrbh.out)), _, hp 14 _ (by kernel_rfl), JK.made hok hst hJ (List.mem_of_getElem? (i := 1) rfl) hb⟩
      · rintro l gv W hun hdep hcl hJ hg ha hp
        refine' op_val ?h3 ?hw3 ?hr3 ?hK3
        case h3 => rfl
        case hw3 => exact rfl
        case hr3 => exact (ex_load rfl (eval_tmp ((ha 1 (by kernel_rfl)).trans rfl)) (loadFo (cell_below hJ.low f0) (cell_below hJ.low f1) (cell_below hJ.low f2) (cell_below hJ.low f3)))
        case hK3 => exact ⟨_, hp 15 _ (by kernel_rfl), JK.made hok hst hJ (List.mem_of_getElem? (i := 2) rfl) (Below.refl _ _)⟩
      · rintro l gv W hun hdep hcl hJ hg ha hp
        refine' op_call ?h4 ?hw4 ?hr4 ?hc4
        case h4 => rfl
        case hw4 => exact rfl
        case hr4 => exact (ex_call1 (enters_of Tryz.func16 (by kernel_rfl) rfl) rfl ((eval_tmp (hg 15 (by kernel_rfl))).trans (hJ.lit _ (List.mem_of_getElem? (i := 2) rfl) (hdep 2 (by kernel_rfl)))))
        case hc4 =>
          refine (refRight_any f s6 hwt _ W (FVal.below hJ.low fvf.out)).mono ?_
          rintro e W' ⟨rfl, hb⟩
          exact ⟨_, (congrArg (fun b => Ending.returned (Value.bool b)) (hrbh.out)), _, hp 16 _ (by kernel_rfl), JK.made hok hst hJ (List.mem_of_getElem? (i := 3) rfl) hb⟩
      · rintro l gv W hun hdep hcl hJ hg ha hp
        refine' op_val ?h5 ?hw5 ?hr5 ?hK5
        case h5 => rfl
        case hw5 => exact rfl
        case hr5 => exact (ex_bin rfl ((eval_tmp (hg 14 (by kernel_rfl))).trans (hJ.lit _ (List.mem_of_getElem? (i := 1) rfl) (hdep 1 (by kernel_rfl)))) ((eval_tmp (hg 16 (by kernel_rfl))).trans (hJ.lit _ (List.mem_of_getElem? (i := 3) rfl) (hdep 3 (by kernel_rfl)))) (guard_bool _ _ _ _ _ W) (neqB _ W))
        case hK5 => exact ⟨_, hp 17 _ (by kernel_rfl), JK.made hok hst hJ (List.mem_of_getElem? (i := 4) rfl) (Below.refl _ _)⟩
      · rintro l gv W hun hdep hcl hJ hg ha hp
        refine' op_val ?h6 ?hw6 ?hr6 ?hK6
        case h6 => rfl
        case hw6 => exact rfl
        case hr6 => exact (ex_move rfl ((eval_tmp (hg 17 (by kernel_rfl))).trans (hJ.lit _ (List.mem_of_getElem? (i := 4) rfl) (hdep 4 (by kernel_rfl)))))
        case hK6 => exact ⟨_, hp 18 _ (by kernel_rfl), JK.made hok hst hJ (List.mem_of_getElem? (i := 5) rfl) (Below.refl _ _)⟩
      · rintro l gv W hun hdep hcl hJ hg ha hp
        have eg : gv 18 = .bool false := hJ.lit _ (List.mem_of_getElem? (i := 5) rfl) (hdep 5 (by kernel_rfl))
        have hgd := (hg 18 (by kernel_rfl)).trans (congrArg some eg)
        refine' op_val ?h7 ?hw7 ?hr7 ?hK7
        case h7 => rfl
        case hw7 => exact (wants_yes false rfl (by kernel_rfl) hgd)
        case hr7 => exact (ex_load rfl (eval_tmp ((ha 3 (by kernel_rfl)).trans rfl)) (loadFo (cell_below hJ.low i0) (cell_below hJ.low i1) (cell_below hJ.low i2) (cell_below hJ.low i3)))
        case hK7 => exact ⟨_, hp 19 _ (by kernel_rfl), JK.made hok hst hJ (List.mem_of_getElem? (i := 6) rfl) (Below.refl _ _)⟩
      · rintro l gv W hun hdep hcl hJ hg ha hp
        have eg : gv 18 = .bool false := hJ.lit _ (List.mem_of_getElem? (i := 5) rfl) (hdep 5 (by kernel_rfl))
        have hgd := (hg 18 (by kernel_rfl)).trans (congrArg some eg)
        refine' op_call ?h8 ?hw8 ?hr8 ?hc8
        case h8 => rfl
        case hw8 => exact (wants_yes false rfl (by kernel_rfl) hgd)
        case hr8 => exact (ex_call1 (enters_of Tryz.func17 (by kernel_rfl) rfl) rfl ((eval_tmp (hg 19 (by kernel_rfl))).trans (hJ.lit _ (List.mem_of_getElem? (i := 6) rfl) (hdep 6 (by kernel_rfl)))))
        case hc8 =>
          refine (schema_any f s6 _ W (hrwW W hJ.low) (FVal.below hJ.low fvi.out)).mono ?_
          rintro e W' ⟨rfl, hb⟩
          exact ⟨_, (congrArg (fun b => Ending.returned (Value.bool b)) (hsbh.out)), _, hp 20 _ (by kernel_rfl), JK.made hok hst hJ (List.mem_of_getElem? (i := 7) rfl) hb⟩
      · rintro l gv W hun hdep hcl hJ hg ha hp
        have eg : gv 18 = .bool false := hJ.lit _ (List.mem_of_getElem? (i := 5) rfl) (hdep 5 (by kernel_rfl))
        have hgd := (hg 18 (by kernel_rfl)).trans (congrArg some eg)
        refine' op_val ?h9 ?hw9 ?hr9 ?hK9
        case h9 => rfl
        case hw9 => exact (wants_yes false rfl (by kernel_rfl) hgd)
        case hr9 => exact (ex_load rfl (eval_tmp ((ha 1 (by kernel_rfl)).trans rfl)) (loadFo (cell_below hJ.low f0) (cell_below hJ.low f1) (cell_below hJ.low f2) (cell_below hJ.low f3)))
        case hK9 => exact ⟨_, hp 21 _ (by kernel_rfl), JK.made hok hst hJ (List.mem_of_getElem? (i := 8) rfl) (Below.refl _ _)⟩
      · rintro l gv W hun hdep hcl hJ hg ha hp
        have eg : gv 18 = .bool false := hJ.lit _ (List.mem_of_getElem? (i := 5) rfl) (hdep 5 (by kernel_rfl))
        have hgd := (hg 18 (by kernel_rfl)).trans (congrArg some eg)
        refine' op_call ?h10 ?hw10 ?hr10 ?hc10
        case h10 => rfl
        case hw10 => exact (wants_yes false rfl (by kernel_rfl) hgd)
        case hr10 => exact (ex_call1 (enters_of Tryz.func18 (by kernel_rfl) rfl) rfl ((eval_tmp (hg 21 (by kernel_rfl))).trans (hJ.lit _ (List.mem_of_getElem? (i := 8) rfl) (hdep 8 (by kernel_rfl)))))
        case hc10 =>
          refine (refSchema_any f s6 hwt _ W (FVal.below hJ.low fvf.out)).mono ?_
          rintro e W' ⟨rfl, hb⟩
          exact ⟨_, (congrArg (fun b => Ending.returned (Value.bool b)) (hsbh.out)), _, hp 22 _ (by kernel_rfl), JK.made hok hst hJ (List.mem_of_getElem? (i := 9) rfl) hb⟩
      · rintro l gv W hun hdep hcl hJ hg ha hp
        have eg : gv 18 = .bool false := hJ.lit _ (List.mem_of_getElem? (i := 5) rfl) (hdep 5 (by kernel_rfl))
        have hgd := (hg 18 (by kernel_rfl)).trans (congrArg some eg)
        refine' op_val ?h11 ?hw11 ?hr11 ?hK11
        case h11 => rfl
        case hw11 => exact (wants_yes false rfl (by kernel_rfl) hgd)
        case hr11 => exact (ex_bin rfl ((eval_tmp (hg 20 (by kernel_rfl))).trans (hJ.lit _ (List.mem_of_getElem? (i := 7) rfl) (hdep 7 (by kernel_rfl)))) ((eval_tmp (hg 22 (by kernel_rfl))).trans (hJ.lit _ (List.mem_of_getElem? (i := 9) rfl) (hdep 9 (by kernel_rfl)))) (guard_bool _ _ _ _ _ W) (neqB _ W))
        case hK11 => exact ⟨_, hp 23 _ (by kernel_rfl), JK.made hok hst hJ (List.mem_of_getElem? (i := 10) rfl) (Below.refl _ _)⟩
      · rintro l gv W hun hdep hcl hJ hg ha hp
        refine' op_val ?h12 ?hw12 ?hr12 ?hK12
        case h12 => rfl
        case hw12 => exact rfl
        case hr12 => exact (ex_pickF rfl ((eval_tmp (hg 18 (by kernel_rfl))).trans (hJ.lit _ (List.mem_of_getElem? (i := 5) rfl) (hdep 5 (by kernel_rfl)))) ((eval_tmp (hg 23 (by kernel_rfl))).trans (hJ.lit _ (List.mem_of_getElem? (i := 10) rfl) (hdep 10 (by kernel_rfl)))))
        case hK12 => exact ⟨_, hp 24 _ (by kernel_rfl), JK.made hok hst hJ (List.mem_of_getElem? (i := 11) rfl) (Below.refl _ _)⟩
      · rintro l gv W hun hdep hcl hJ hg ha hp
        refine' op_val ?h13 ?hw13 ?hr13 ?hK13
        case h13 => rfl
        case hw13 => exact rfl
        case hr13 => exact (ex_move rfl ((eval_tmp (hg 24 (by kernel_rfl))).trans (hJ.lit _ (List.mem_of_getElem? (i := 11) rfl) (hdep 11 (by kernel_rfl)))))
        case hK13 => exact ⟨_, hp 25 _ (by kernel_rfl), JK.made hok hst hJ (List.mem_of_getElem? (i := 12) rfl) (Below.refl _ _)⟩
      · rintro l gv W hun hdep hcl hJ hg ha hp
        have eg : gv 25 = .bool false := hJ.lit _ (List.mem_of_getElem? (i := 12) rfl) (hdep 12 (by kernel_rfl))
        have hgd := (hg 25 (by kernel_rfl)).trans (congrArg some eg)
        refine' op_val ?h14 ?hw14 ?hr14 ?hK14
        case h14 => rfl
        case hw14 => exact (wants_yes false rfl (by kernel_rfl) hgd)
        case hr14 => exact (ex_load rfl (eval_tmp ((ha 3 (by kernel_rfl)).trans rfl)) (loadFo (cell_below hJ.low i0) (cell_below hJ.low i1) (cell_below hJ.low i2) (cell_below hJ.low i3)))
        case hK14 => exact ⟨_, hp 26 _ (by kernel_rfl), JK.made hok hst hJ (List.mem_of_getElem? (i := 13) rfl) (Below.refl _ _)⟩
      · rintro l gv W hun hdep hcl hJ hg ha hp
        have eg : gv 25 = .bool false := hJ.lit _ (List.mem_of_getElem? (i := 12) rfl) (hdep 12 (by kernel_rfl))
        have hgd := (hg 25 (by kernel_rfl)).trans (congrArg some eg)
        refine' op_call ?h15 ?hw15 ?hr15 ?hc15
        case h15 => rfl
        case hw15 => exact (wants_yes false rfl (by kernel_rfl) hgd)
        case hr15 => exact (ex_call1 (enters_of Tryz.func19 (by kernel_rfl) rfl) rfl ((eval_tmp (hg 26 (by kernel_rfl))).trans (hJ.lit _ (List.mem_of_getElem? (i := 13) rfl) (hdep 13 (by kernel_rfl)))))
        case hc15 =>
          refine (nodes_any f s6 _ W (FVal.below hJ.low fvi.out)).mono ?_
          rintro e W' ⟨rfl, hb⟩
          exact ⟨_, rfl, _, hp 27 _ (by kernel_rfl), JK.made hok hst hJ (List.mem_of_getElem? (i := 14) rfl) hb⟩
      · rintro l gv W hun hdep hcl hJ hg ha hp
        have eg : gv 25 = .bool false := hJ.lit _ (List.mem_of_getElem? (i := 12) rfl) (hdep 12 (by kernel_rfl))
        have hgd := (hg 25 (by kernel_rfl)).trans (congrArg some eg)
        refine' op_val ?h16 ?hw16 ?hr16 ?hK16
        case h16 => rfl
        case hw16 => exact (wants_yes false rfl (by kernel_rfl) hgd)
        case hr16 => exact (ex_load rfl (eval_tmp ((ha 1 (by kernel_rfl)).trans rfl)) (loadFo (cell_below hJ.low f0) (cell_below hJ.low f1) (cell_below hJ.low f2) (cell_below hJ.low f3)))
        case hK16 => exact ⟨_, hp 28 _ (by kernel_rfl), JK.made hok hst hJ (List.mem_of_getElem? (i := 15) rfl) (Below.refl _ _)⟩
      · rintro l gv W hun hdep hcl hJ hg ha hp
        have eg : gv 25 = .bool false := hJ.lit _ (List.mem_of_getElem? (i := 12) rfl) (hdep 12 (by kernel_rfl))
        have hgd := (hg 25 (by kernel_rfl)).trans (congrArg some eg)
        refine' op_call ?h17 ?hw17 ?hr17 ?hc17
        case h17 => rfl
        case hw17 => exact (wants_yes false rfl (by kernel_rfl) hgd)
        case hr17 => exact (ex_call1 (enters_of Tryz.func20 (by kernel_rfl) rfl) rfl ((eval_tmp (hg 28 (by kernel_rfl))).trans (hJ.lit _ (List.mem_of_getElem? (i := 15) rfl) (hdep 15 (by kernel_rfl)))))
        case hc17 =>
          refine (refNodes_any f.size f _ W (Nat.le_refl _) (FVal.below hJ.low fvf.out) s6).mono ?_
          rintro e W' ⟨rfl, hb⟩
          exact ⟨_, rfl, _, hp 29 _ (by kernel_rfl), JK.made hok hst hJ (List.mem_of_getElem? (i := 16) rfl) hb⟩
      · rintro l gv W hun hdep hcl hJ hg ha hp
        have eg : gv 25 = .bool false := hJ.lit _ (List.mem_of_getElem? (i := 12) rfl) (hdep 12 (by kernel_rfl))
        have hgd := (hg 25 (by kernel_rfl)).trans (congrArg some eg)
        refine' op_val ?h18 ?hw18 ?hr18 ?hK18
        case h18 => rfl
        case hw18 => exact (wants_yes false rfl (by kernel_rfl) hgd)
        case hr18 => exact (ex_bin rfl ((eval_tmp (hg 27 (by kernel_rfl))).trans (hJ.lit _ (List.mem_of_getElem? (i := 14) rfl) (hdep 14 (by kernel_rfl)))) ((eval_tmp (hg 29 (by kernel_rfl))).trans (hJ.lit _ (List.mem_of_getElem? (i := 16) rfl) (hdep 16 (by kernel_rfl)))) (gneq3 _ _ _ _ W) (neq3 _))
        case hK18 => exact ⟨_, hp 30 _ (by kernel_rfl), JK.made hok hst hJ (List.mem_of_getElem? (i := 17) rfl) (Below.refl _ _)⟩
      · rintro l gv W hun hdep hcl hJ hg ha hp
        refine' op_val ?h19 ?hw19 ?hr19 ?hK19
        case h19 => rfl
        case hw19 => exact rfl
        case hr19 => exact (ex_pickF rfl ((eval_tmp (hg 25 (by kernel_rfl))).trans (hJ.lit _ (List.mem_of_getElem? (i := 12) rfl) (hdep 12 (by kernel_rfl)))) ((eval_tmp (hg 30 (by kernel_rfl))).trans (hJ.lit _ (List.mem_of_getElem? (i := 17) rfl) (hdep 17 (by kernel_rfl)))))
        case hK19 => exact ⟨_, hp 31 _ (by kernel_rfl), JK.made hok hst hJ (List.mem_of_getElem? (i := 18) rfl) (Below.refl _ _)⟩
      · rintro l gv W hun hdep hcl hJ hg ha hp
        refine' op_val ?h20 ?hw20 ?hr20 ?hK20
        case h20 => rfl
        case hw20 => exact rfl
        case hr20 => exact (ex_move rfl ((eval_tmp (hg 31 (by kernel_rfl))).trans (hJ.lit _ (List.mem_of_getElem? (i := 18) rfl) (hdep 18 (by kernel_rfl)))))
        case hK20 => exact ⟨_, hp 32 _ (by kernel_rfl), JK.made hok hst hJ (List.mem_of_getElem? (i := 19) rfl) (Below.refl _ _)⟩
      · rintro l gv W hun hdep hcl hJ hg ha hp
        have eg : gv 32 = .bool false := hJ.lit _ (List.mem_of_getElem? (i := 19) rfl) (hdep 19 (by kernel_rfl))
        have hgd := (hg 32 (by kernel_rfl)).trans (congrArg some eg)
        refine' op_val ?h21 ?hw21 ?hr21 ?hK21
        case h21 => rfl
        case hw21 => exact (wants_yes false rfl (by kernel_rfl) hgd)
        case hr21 => exact (ex_load rfl (eval_tmp ((ha 3 (by kernel_rfl)).trans rfl)) (loadFo (cell_below hJ.low i0) (cell_below hJ.low i1) (cell_below hJ.low i2) (cell_below hJ.low i3)))
        case hK21 => exact ⟨_, hp 33 _ (by kernel_rfl), JK.made hok hst hJ (List.mem_of_getElem? (i := 20) rfl) (Below.refl _ _)⟩
      · rintro l gv W hun hdep hcl hJ hg ha hp
        have eg : gv 32 = .bool false := hJ.lit _ (List.mem_of_getElem? (i := 19) rfl) (hdep 19 (by kernel_rfl))
        have hgd := (hg 32 (by kernel_rfl)).trans (congrArg some eg)
        refine' op_call ?h22 ?hw22 ?hr22 ?hc22
        case h22 => rfl
        case hw22 => exact (wants_yes false rfl (by kernel_rfl) hgd)
        case hr22 => exact (ex_call1 (enters_of Tryz.func21 (by kernel_rfl) rfl) rfl ((eval_tmp (hg 33 (by kernel_rfl))).trans (hJ.lit _ (List.mem_of_getElem? (i := 20) rfl) (hdep 20 (by kernel_rfl)))))
        case hc22 =>
          refine (depth_any f _ W (FVal.below hJ.low fvi.out) s6).mono ?_
          rintro e W' ⟨rfl, hb⟩
          exact ⟨_, rfl, _, hp 34 _ (by kernel_rfl), JK.made hok hst hJ (List.mem_of_getElem? (i := 21) rfl) hb⟩
      · rintro l gv W hun hdep hcl hJ hg ha hp
        have eg : gv 32 = .bool false := hJ.lit _ (List.mem_of_getElem? (i := 19) rfl) (hdep 19 (by kernel_rfl))
        have hgd := (hg 32 (by kernel_rfl)).trans (congrArg some eg)
        refine' op_val ?h23 ?hw23 ?hr23 ?hK23
        case h23 => rfl
        case hw23 => exact (wants_yes false rfl (by kernel_rfl) hgd)
        case hr23 => exact (ex_load rfl (eval_tmp ((ha 1 (by kernel_rfl)).trans rfl)) (loadFo (cell_below hJ.low f0) (cell_below hJ.low f1) (cell_below hJ.low f2) (cell_below hJ.low f3)))
        case hK23 => exact ⟨_, hp 35 _ (by kernel_rfl), JK.made hok hst hJ (List.mem_of_getElem? (i := 22) rfl) (Below.refl _ _)⟩
      · rintro l gv W hun hdep hcl hJ hg ha hp
        have eg : gv 32 = .bool false := hJ.lit _ (List.mem_of_getElem? (i := 19) rfl) (hdep 19 (by kernel_rfl))
        have hgd := (hg 32 (by kernel_rfl)).trans (congrArg some eg)
        refine' op_call ?h24 ?hw24 ?hr24 ?hc24
        case h24 => rfl
        case hw24 => exact (wants_yes false rfl (by kernel_rfl) hgd)
        case hr24 => exact (ex_call1 (enters_of Tryz.func22 (by kernel_rfl) rfl) rfl ((eval_tmp (hg 35 (by kernel_rfl))).trans (hJ.lit _ (List.mem_of_getElem? (i := 22) rfl) (hdep 22 (by kernel_rfl)))))
        case hc24 =>
          refine (refDepth_any f.size f _ W (Nat.le_refl _) (FVal.below hJ.low fvf.out) s6).mono ?_
          rintro e W' ⟨rfl, hb⟩
          exact ⟨_, rfl, _, hp 36 _ (by kernel_rfl), JK.made hok hst hJ (List.mem_of_getElem? (i := 23) rfl) hb⟩
      · rintro l gv W hun hdep hcl hJ hg ha hp
        have eg : gv 32 = .bool false := hJ.lit _ (List.mem_of_getElem? (i := 19) rfl) (hdep 19 (by kernel_rfl))
        have hgd := (hg 32 (by kernel_rfl)).trans (congrArg some eg)
        refine' op_val ?h25 ?hw25 ?hr25 ?hK25
        case h25 => rfl
        case hw25 => exact (wants_yes false rfl (by kernel_rfl) hgd)
        case hr25 => exact (ex_bin rfl ((eval_tmp (hg 34 (by kernel_rfl))).trans (hJ.lit _ (List.mem_of_getElem? (i := 21) rfl) (hdep 21 (by kernel_rfl)))) ((eval_tmp (hg 36 (by kernel_rfl))).trans (hJ.lit _ (List.mem_of_getElem? (i := 23) rfl) (hdep 23 (by kernel_rfl)))) (gneq3 _ _ _ _ W) (neq3 _))
        case hK25 => exact ⟨_, hp 37 _ (by kernel_rfl), JK.made hok hst hJ (List.mem_of_getElem? (i := 24) rfl) (Below.refl _ _)⟩
      · rintro l gv W hun hdep hcl hJ hg ha hp
        refine' op_val ?h26 ?hw26 ?hr26 ?hK26
        case h26 => rfl
        case hw26 => exact rfl
        case hr26 => exact (ex_pickF rfl ((eval_tmp (hg 32 (by kernel_rfl))).trans (hJ.lit _ (List.mem_of_getElem? (i := 19) rfl) (hdep 19 (by kernel_rfl)))) ((eval_tmp (hg 37 (by kernel_rfl))).trans (hJ.lit _ (List.mem_of_getElem? (i := 24) rfl) (hdep 24 (by kernel_rfl)))))
        case hK26 => exact ⟨_, hp 38 _ (by kernel_rfl), JK.made hok hst hJ (List.mem_of_getElem? (i := 25) rfl) (Below.refl _ _)⟩
      · rintro l gv W hun hdep hcl hJ hg ha hp
        refine' op_val ?h27 ?hw27 ?hr27 ?hK27
        case h27 => rfl
        case hw27 => exact rfl
        case hr27 => exact (ex_move rfl ((eval_tmp (hg 38 (by kernel_rfl))).trans (hJ.lit _ (List.mem_of_getElem? (i := 25) rfl) (hdep 25 (by kernel_rfl)))))
        case hK27 => exact ⟨_, hp 39 _ (by kernel_rfl), JK.made hok hst hJ (List.mem_of_getElem? (i := 26) rfl) (Below.refl _ _)⟩
      · rintro l gv W hun hdep hcl hJ hg ha hp
        have eg : gv 39 = .bool false := hJ.lit _ (List.mem_of_getElem? (i := 26) rfl) (hdep 26 (by kernel_rfl))
        have hgd := (hg 39 (by kernel_rfl)).trans (congrArg some eg)
        refine' op_val ?h28 ?hw28 ?hr28 ?hK28
        case h28 => rfl
        case hw28 => exact (wants_yes false rfl (by kernel_rfl) hgd)
        case hr28 => exact (ex_load rfl (eval_tmp ((ha 3 (by kernel_rfl)).trans rfl)) (loadFo (cell_below hJ.low i0) (cell_below hJ.low i1) (cell_below hJ.low i2) (cell_below hJ.low i3)))
        case hK28 => exact ⟨_, hp 40 _ (by kernel_rfl), JK.made hok hst hJ (List.mem_of_getElem? (i := 27) rfl) (Below.refl _ _)⟩
      · rintro l gv W hun hdep hcl hJ hg ha hp
        have eg : gv 39 = .bool false := hJ.lit _ (List.mem_of_getElem? (i := 26) rfl) (hdep 26 (by kernel_rfl))
        have hgd := (hg 39 (by kernel_rfl)).trans (congrArg some eg)
        refine' op_call ?h29 ?hw29 ?hr29 ?hc29
        case h29 => rfl
        case hw29 => exact (wants_yes false rfl (by kernel_rfl) hgd)
        case hr29 => exact (ex_call1 (enters_of Tryz.func23 (by kernel_rfl) rfl) rfl ((eval_tmp (hg 40 (by kernel_rfl))).trans (hJ.lit _ (List.mem_of_getElem? (i := 27) rfl) (hdep 27 (by kernel_rfl)))))
        case hc29 =>
          refine (ops_any f hopsh.out s6 _ W (FVal.below hJ.low fvi.out)).mono ?_
          rintro e W' ⟨rfl, hb⟩
          exact ⟨_, rfl, _, hp 41 _ (by kernel_rfl), JK.made hok hst hJ (List.mem_of_getElem? (i := 28) rfl) hb⟩
      · rintro l gv W hun hdep hcl hJ hg ha hp
        have eg : gv 39 = .bool false := hJ.lit _ (List.mem_of_getElem? (i := 26) rfl) (hdep 26 (by kernel_rfl))
        have hgd := (hg 39 (by kernel_rfl)).trans (congrArg some eg)
        refine' op_val ?h30 ?hw30 ?hr30 ?hK30
        case h30 => rfl
        case hw30 => exact (wants_yes false rfl (by kernel_rfl) hgd)
        case hr30 => exact (ex_load rfl (eval_tmp ((ha 1 (by kernel_rfl)).trans rfl)) (loadFo (cell_below hJ.low f0) (cell_below hJ.low f1) (cell_below hJ.low f2) (cell_below hJ.low f3)))
        case hK30 => exact ⟨_, hp 42 _ (by kernel_rfl), JK.made hok hst hJ (List.mem_of_getElem? (i := 29) rfl) (Below.refl _ _)⟩
      · rintro l gv W hun hdep hcl hJ hg ha hp
        have eg : gv 39 = .bool false := hJ.lit _ (List.mem_of_getElem? (i := 26) rfl) (hdep 26 (by kernel_rfl))
        have hgd := (hg 39 (by kernel_rfl)).trans (congrArg some eg)
        refine' op_call ?h31 ?hw31 ?hr31 ?hc31
        case h31 => rfl
        case hw31 => exact (wants_yes false rfl (by kernel_rfl) hgd)
        case hr31 => exact (ex_call1 (enters_of Tryz.func24 (by kernel_rfl) rfl) rfl ((eval_tmp (hg 42 (by kernel_rfl))).trans (hJ.lit _ (List.mem_of_getElem? (i := 29) rfl) (hdep 29 (by kernel_rfl)))))
        case hc31 =>
          refine (refOps_any f.size f _ W (Nat.le_refl _) (FVal.below hJ.low fvf.out) s6 hopsh.out).mono ?_
          rintro e W' ⟨rfl, hb⟩
          exact ⟨_, rfl, _, hp 43 _ (by kernel_rfl), JK.made hok hst hJ (List.mem_of_getElem? (i := 30) rfl) hb⟩
      · rintro l gv W hun hdep hcl hJ hg ha hp
        have eg : gv 39 = .bool false := hJ.lit _ (List.mem_of_getElem? (i := 26) rfl) (hdep 26 (by kernel_rfl))
        have hgd := (hg 39 (by kernel_rfl)).trans (congrArg some eg)
        refine' op_val ?h32 ?hw32 ?hr32 ?hK32
        case h32 => rfl
        case hw32 => exact (wants_yes false rfl (by kernel_rfl) hgd)
        case hr32 => exact (ex_bin rfl ((eval_tmp (hg 41 (by kernel_rfl))).trans (hJ.lit _ (List.mem_of_getElem? (i := 28) rfl) (hdep 28 (by kernel_rfl)))) ((eval_tmp (hg 43 (by kernel_rfl))).trans (hJ.lit _ (List.mem_of_getElem? (i := 30) rfl) (hdep 30 (by kernel_rfl)))) (g35 _ _ _ _ W) (neq35 _ W))
        case hK32 => exact ⟨_, hp 44 _ (by kernel_rfl), JK.made hok hst hJ (List.mem_of_getElem? (i := 31) rfl) (Below.refl _ _)⟩
      · rintro l gv W hun hdep hcl hJ hg ha hp
        refine' op_val ?h33 ?hw33 ?hr33 ?hK33
        case h33 => rfl
        case hw33 => exact rfl
        case hr33 => exact (ex_pickF rfl ((eval_tmp (hg 39 (by kernel_rfl))).trans (hJ.lit _ (List.mem_of_getElem? (i := 26) rfl) (hdep 26 (by kernel_rfl)))) ((eval_tmp (hg 44 (by kernel_rfl))).trans (hJ.lit _ (List.mem_of_getElem? (i := 31) rfl) (hdep 31 (by kernel_rfl)))))
        case hK33 => exact ⟨_, hp 45 _ (by kernel_rfl), JK.made hok hst hJ (List.mem_of_getElem? (i := 32) rfl) (Below.refl _ _)⟩
      · rintro l gv W hun hdep hcl hJ hg ha hp
        refine' op_val ?h34 ?hw34 ?hr34 ?hK34
        case h34 => rfl
        case hw34 => exact rfl
        case hr34 => exact (ex_move rfl ((eval_tmp (hg 45 (by kernel_rfl))).trans (hJ.lit _ (List.mem_of_getElem? (i := 32) rfl) (hdep 32 (by kernel_rfl)))))
        case hK34 => exact ⟨_, hp 46 _ (by kernel_rfl), JK.made hok hst hJ (List.mem_of_getElem? (i := 33) rfl) (Below.refl _ _)⟩
      · rintro l gv W hun hdep hcl hJ hg ha hp
        have eg : gv 46 = .bool false := hJ.lit _ (List.mem_of_getElem? (i := 33) rfl) (hdep 33 (by kernel_rfl))
        have hgd := (hg 46 (by kernel_rfl)).trans (congrArg some eg)
        refine' op_val ?h35 ?hw35 ?hr35 ?hK35
        case h35 => rfl
        case hw35 => exact (wants_yes false rfl (by kernel_rfl) hgd)
        case hr35 => exact (ex_load rfl (eval_tmp ((ha 4 (by kernel_rfl)).trans rfl)) (loadFo (cell_below hJ.low o0) (cell_below hJ.low o1) (cell_below hJ.low o2) (cell_below hJ.low o3)))
        case hK35 => exact ⟨_, hp 47 _ (by kernel_rfl), JK.made hok hst hJ (List.mem_of_getElem? (i := 34) rfl) (Below.refl _ _)⟩
      · rintro l gv W hun hdep hcl hJ hg ha hp
        have eg : gv 46 = .bool false := hJ.lit _ (List.mem_of_getElem? (i := 33) rfl) (hdep 33 (by kernel_rfl))
        have hgd := (hg 46 (by kernel_rfl)).trans (congrArg some eg)
        refine' op_val ?h36 ?hw36 ?hr36 ?hK36
        case h36 => rfl
        case hw36 => exact (wants_yes false rfl (by kernel_rfl) hgd)
        case hr36 => exact (ex_load rfl (eval_tmp ((ha 1 (by kernel_rfl)).trans rfl)) (loadFo (cell_below hJ.low f0) (cell_below hJ.low f1) (cell_below hJ.low f2) (cell_below hJ.low f3)))
        case hK36 => exact ⟨_, hp 48 _ (by kernel_rfl), JK.made hok hst hJ (List.mem_of_getElem? (i := 35) rfl) (Below.refl _ _)⟩
      · rintro l gv W hun hdep hcl hJ hg ha hp
        have eg : gv 46 = .bool false := hJ.lit _ (List.mem_of_getElem? (i := 33) rfl) (hdep 33 (by kernel_rfl))
        have hgd := (hg 46 (by kernel_rfl)).trans (congrArg some eg)
        refine' op_call ?h37 ?hw37 ?hr37 ?hc37
        case h37 => rfl
        case hw37 => exact (wants_yes false rfl (by kernel_rfl) hgd)
        case hr37 => exact (ex_call2 (enters_of Tryz.func25 (by kernel_rfl) rfl) rfl ((eval_tmp (hg 47 (by kernel_rfl))).trans (hJ.lit _ (List.mem_of_getElem? (i := 34) rfl) (hdep 34 (by kernel_rfl)))) ((eval_tmp (hg 48 (by kernel_rfl))).trans (hJ.lit _ (List.mem_of_getElem? (i := 35) rfl) (hdep 35 (by kernel_rfl)))))
        case hc37 =>
          refine (sameF_any f _ f _ W (FVal.below hJ.low fvo.out) (FVal.below hJ.low fvf.out) s6 s6).mono ?_
          rintro e W' ⟨rfl, hb⟩
          exact ⟨_, (congrArg (fun b => Ending.returned (Value.bool b)) (FT.eqB_refl f)), _, hp 49 _ (by kernel_rfl), JK.made hok hst hJ (List.mem_of_getElem? (i := 36) rfl) hb⟩
      · rintro l gv W hun hdep hcl hJ hg ha hp
        have eg : gv 46 = .bool false := hJ.lit _ (List.mem_of_getElem? (i := 33) rfl) (hdep 33 (by kernel_rfl))
        have hgd := (hg 46 (by kernel_rfl)).trans (congrArg some eg)
        refine' op_val ?h38 ?hw38 ?hr38 ?hK38
        case h38 => rfl
        case hw38 => exact (wants_yes false rfl (by kernel_rfl) hgd)
        case hr38 => exact (ex_not rfl ((eval_tmp (hg 49 (by kernel_rfl))).trans (hJ.lit _ (List.mem_of_getElem? (i := 36) rfl) (hdep 36 (by kernel_rfl)))))
        case hK38 => exact ⟨_, hp 50 _ (by kernel_rfl), JK.made hok hst hJ (List.mem_of_getElem? (i := 37) rfl) (Below.refl _ _)⟩
      · rintro l gv W hun hdep hcl hJ hg ha hp
        refine' op_val ?h39 ?hw39 ?hr39 ?hK39
        case h39 => rfl
        case hw39 => exact rfl
        case hr39 => exact (ex_pickF rfl ((eval_tmp (hg 46 (by kernel_rfl))).trans (hJ.lit _ (List.mem_of_getElem? (i := 33) rfl) (hdep 33 (by kernel_rfl)))) ((eval_tmp (hg 50 (by kernel_rfl))).trans (hJ.lit _ (List.mem_of_getElem? (i := 37) rfl) (hdep 37 (by kernel_rfl)))))
        case hK39 => exact ⟨_, hp 51 _ (by kernel_rfl), JK.made hok hst hJ (List.mem_of_getElem? (i := 38) rfl) (Below.refl _ _)⟩
      · rintro l gv W hun hdep hcl hJ hg ha hp
        refine' op_val ?h40 ?hw40 ?hr40 ?hK40
        case h40 => rfl
        case hw40 => exact rfl
        case hr40 => exact (ex_move rfl ((eval_tmp (hg 51 (by kernel_rfl))).trans (hJ.lit _ (List.mem_of_getElem? (i := 38) rfl) (hdep 38 (by kernel_rfl)))))
        case hK40 => exact ⟨_, hp 52 _ (by kernel_rfl), JK.made hok hst hJ (List.mem_of_getElem? (i := 39) rfl) (Below.refl _ _)⟩
      · rintro l gv W hun hdep hcl hJ hg ha hp
        have eg : gv 52 = .bool false := hJ.lit _ (List.mem_of_getElem? (i := 39) rfl) (hdep 39 (by kernel_rfl))
        have hgd := (hg 52 (by kernel_rfl)).trans (congrArg some eg)
        refine' op_val ?h41 ?hw41 ?hr41 ?hK41
        case h41 => rfl
        case hw41 => exact (wants_yes false rfl (by kernel_rfl) hgd)
        case hr41 => exact (ex_move rfl (eval_tmp ((ha 5 (by kernel_rfl)).trans rfl)))
        case hK41 => exact ⟨_, hp 53 _ (by kernel_rfl), JK.made hok hst hJ (List.mem_of_getElem? (i := 40) rfl) (Below.refl _ _)⟩
      · rintro l gv W hun hdep hcl hJ hg ha hp
        have eg : gv 52 = .bool false := hJ.lit _ (List.mem_of_getElem? (i := 39) rfl) (hdep 39 (by kernel_rfl))
        have hgd := (hg 52 (by kernel_rfl)).trans (congrArg some eg)
        refine' op_val ?h42 ?hw42 ?hr42 ?hK42
        case h42 => rfl
        case hw42 => exact (wants_yes false rfl (by kernel_rfl) hgd)
        case hr42 => exact (ex_load rfl (eval_tmp ((ha 1 (by kernel_rfl)).trans rfl)) (loadFo (cell_below hJ.low f0) (cell_below hJ.low f1) (cell_below hJ.low f2) (cell_below hJ.low f3)))
        case hK42 => exact ⟨_, hp 54 _ (by kernel_rfl), JK.made hok hst hJ (List.mem_of_getElem? (i := 41) rfl) (Below.refl _ _)⟩
      · rintro l gv W hun hdep hcl hJ hg ha hp
        have eg : gv 52 = .bool false := hJ.lit _ (List.mem_of_getElem? (i := 39) rfl) (hdep 39 (by kernel_rfl))
        have hgd := (hg 52 (by kernel_rfl)).trans (congrArg some eg)
        refine' op_call ?h43 ?hw43 ?hr43 ?hc43
        case h43 => rfl
        case hw43 => exact (wants_yes false rfl (by kernel_rfl) hgd)
        case hr43 => exact (ex_call1 (enters_of Tryz.func27 (by kernel_rfl) rfl) rfl ((eval_tmp (hg 54 (by kernel_rfl))).trans (hJ.lit _ (List.mem_of_getElem? (i := 41) rfl) (hdep 41 (by kernel_rfl)))))
        case hc43 =>
          refine (HRP.out _ W (FVal.below hJ.low fvf.out)).mono ?_
          rintro e W' ⟨⟨v', rfl, hv'⟩, hb⟩
          exact ⟨_, rfl, _, hp 55 _ (by kernel_rfl), JK.madeP hok hst hJ (List.mem_of_getElem? (i := 0) rfl) hv' hb⟩
      · rintro l gv W hun hdep hcl hJ hg ha hp
        have eg : gv 52 = .bool false := hJ.lit _ (List.mem_of_getElem? (i := 39) rfl) (hdep 39 (by kernel_rfl))
        have hgd := (hg 52 (by kernel_rfl)).trans (congrArg some eg)
        refine' op_call ?h44 ?hw44 ?hr44 ?hc44
        case h44 => rfl
        case hw44 => exact (wants_yes false rfl (by kernel_rfl) hgd)
        case hr44 => exact (ex_call2 (enters_of Tryz.func26 (by kernel_rfl) rfl) rfl ((eval_tmp (hg 53 (by kernel_rfl))).trans (hJ.lit _ (List.mem_of_getElem? (i := 40) rfl) (hdep 40 (by kernel_rfl)))) (eval_tmp (hg 55 (by kernel_rfl))))
        case hc44 =>
          refine (sameL_any L (fun t _ => sameF_any t) L _ _ W (FSl.below hJ.low hplh.out) (hJ.pr _ (List.mem_of_getElem? (i := 0) rfl) (hdep 42 (by kernel_rfl))) hszL.out hszL.out).mono ?_
          rintro e W' ⟨rfl, hb⟩
          exact ⟨_, (congrArg (fun b => Ending.returned (Value.bool b)) (Fs.eqB_refl L)), _, hp 56 _ (by kernel_rfl), JK.made hok hst hJ (List.mem_of_getElem? (i := 42) rfl) hb⟩
      · rintro l gv W hun hdep hcl hJ hg ha hp
        have eg : gv 52 = .bool false := hJ.lit _ (List.mem_of_getElem? (i := 39) rfl) (hdep 39 (by kernel_rfl))
        have hgd := (hg 52 (by kernel_rfl)).trans (congrArg some eg)
        refine' op_val ?h45 ?hw45 ?hr45 ?hK45
        case h45 => rfl
        case hw45 => exact (wants_yes false rfl (by kernel_rfl) hgd)
        case hr45 => exact (ex_not rfl ((eval_tmp (hg 56 (by kernel_rfl))).trans (hJ.lit _ (List.mem_of_getElem? (i := 42) rfl) (hdep 43 (by kernel_rfl)))))
        case hK45 => exact ⟨_, hp 57 _ (by kernel_rfl), JK.made hok hst hJ (List.mem_of_getElem? (i := 43) rfl) (Below.refl _ _)⟩
      · rintro l gv W hun hdep hcl hJ hg ha hp
        refine' op_val ?h46 ?hw46 ?hr46 ?hK46
        case h46 => rfl
        case hw46 => exact rfl
        case hr46 => exact (ex_pickF rfl ((eval_tmp (hg 52 (by kernel_rfl))).trans (hJ.lit _ (List.mem_of_getElem? (i := 39) rfl) (hdep 39 (by kernel_rfl)))) ((eval_tmp (hg 57 (by kernel_rfl))).trans (hJ.lit _ (List.mem_of_getElem? (i := 43) rfl) (hdep 44 (by kernel_rfl)))))
        case hK46 => exact ⟨_, hp 58 _ (by kernel_rfl), JK.made hok hst hJ (List.mem_of_getElem? (i := 44) rfl) (Below.refl _ _)⟩
    case hend46 =>
      rintro ll gv W9 hl hJ
      have e13 : gv 13 = fval f (.slice p1 f.ts.len m1) (.slice p2 f.sub.len m2) := hJ.lit _ (List.mem_of_getElem? (i := 0) rfl) (hl 0 (of_decide_eq_true (by kernel_rfl)))
      have e14 : gv 14 = .bool rb := hJ.lit _ (List.mem_of_getElem? (i := 1) rfl) (hl 1 (of_decide_eq_true (by kernel_rfl)))
      have e15 : gv 15 = fval f (.slice pa f.ts.len ca) (.slice p f.sub.len c) := hJ.lit _ (List.mem_of_getElem? (i := 2) rfl) (hl 2 (of_decide_eq_true (by kernel_rfl)))
      have e16 : gv 16 = .bool rb := hJ.lit _ (List.mem_of_getElem? (i := 3) rfl) (hl 3 (of_decide_eq_true (by kernel_rfl)))
      have e17 : gv 17 = .bool false := hJ.lit _ (List.mem_of_getElem? (i := 4) rfl) (hl 4 (of_decide_eq_true (by kernel_rfl)))
      have e18 : gv 18 = .bool false := hJ.lit _ (List.mem_of_getElem? (i := 5) rfl) (hl 5 (of_decide_eq_true (by kernel_rfl)))
      have e19 : gv 19 = fval f (.slice p1 f.ts.len m1) (.slice p2 f.sub.len m2) := hJ.lit _ (List.mem_of_getElem? (i := 6) rfl) (hl 6 (of_decide_eq_true (by kernel_rfl)))
      have e20 : gv 20 = .bool sb := hJ.lit _ (List.mem_of_getElem? (i := 7) rfl) (hl 7 (of_decide_eq_true (by kernel_rfl)))
      have e21 : gv 21 = fval f (.slice pa f.ts.len ca) (.slice p f.sub.len c) := hJ.lit _ (List.mem_of_getElem? (i := 8) rfl) (hl 8 (of_decide_eq_true (by kernel_rfl)))
      have e22 : gv 22 = .bool sb := hJ.lit _ (List.mem_of_getElem? (i := 9) rfl) (hl 9 (of_decide_eq_true (by kernel_rfl)))
      have e23 : gv 23 = .bool false := hJ.lit _ (List.mem_of_getElem? (i := 10) rfl) (hl 10 (of_decide_eq_true (by kernel_rfl)))
      have e24 : gv 24 = .bool false := hJ.lit _ (List.mem_of_getElem? (i := 11) rfl) (hl 11 (of_decide_eq_true (by kernel_rfl)))
      have e25 : gv 25 = .bool false := hJ.lit _ (List.mem_of_getElem? (i := 12) rfl) (hl 12 (of_decide_eq_true (by kernel_rfl)))
      have e26 : gv 26 = fval f (.slice p1 f.ts.len m1) (.slice p2 f.sub.len m2) := hJ.lit _ (List.mem_of_getElem? (i := 13) rfl) (hl 13 (of_decide_eq_true (by kernel_rfl)))
      have e27 : gv 27 = .int .i64 (f.size : Int) := hJ.lit _ (List.mem_of_getElem? (i := 14) rfl) (hl 14 (of_decide_eq_true (by kernel_rfl)))
      have e28 : gv 28 = fval f (.slice pa f.ts.len ca) (.slice p f.sub.len c) := hJ.lit _ (List.mem_of_getElem? (i := 15) rfl) (hl 15 (of_decide_eq_true (by kernel_rfl)))
      have e29 : gv 29 = .int .i64 (f.size : Int) := hJ.lit _ (List.mem_of_getElem? (i := 16) rfl) (hl 16 (of_decide_eq_true (by kernel_rfl)))
      have e30 : gv 30 = .bool false := hJ.lit _ (List.mem_of_getElem? (i := 17) rfl) (hl 17 (of_decide_eq_true (by kernel_rfl)))
      have e31 : gv 31 = .bool false := hJ.lit _ (List.mem_of_getElem? (i := 18) rfl) (hl 18 (of_decide_eq_true (by kernel_rfl)))
      have e32 : gv 32 = .bool false := hJ.lit _ (List.mem_of_getElem? (i := 19) rfl) (hl 19 (of_decide_eq_true (by kernel_rfl)))
      have e33 : gv 33 = fval f (.slice p1 f.ts.len m1) (.slice p2 f.sub.len m2) := hJ.lit _ (List.mem_of_getElem? (i := 20) rfl) (hl 20 (of_decide_eq_true (by kernel_rfl)))
      have e34 : gv 34 = .int .i64 (f.deep : Int) := hJ.lit _ (List.mem_of_getElem? (i := 21) rfl) (hl 21 (of_decide_eq_true (by kernel_rfl)))
      have e35 : gv 35 = fval f (.slice pa f.ts.len ca) (.slice p f.sub.len c) := hJ.lit _ (List.mem_of_getElem? (i := 22) rfl) (hl 22 (of_decide_eq_true (by kernel_rfl)))
      have e36 : gv 36 = .int .i64 (f.deep : Int) := hJ.lit _ (List.mem_of_getElem? (i := 23) rfl) (hl 23 (of_decide_eq_true (by kernel_rfl)))
      have e37 : gv 37 = .bool false := hJ.lit _ (List.mem_of_getElem? (i := 24) rfl) (hl 24 (of_decide_eq_true (by kernel_rfl)))
      have e38 : gv 38 = .bool false := hJ.lit _ (List.mem_of_getElem? (i := 25) rfl) (hl 25 (of_decide_eq_true (by kernel_rfl)))
      have e39 : gv 39 = .bool false := hJ.lit _ (List.mem_of_getElem? (i := 26) rfl) (hl 26 (of_decide_eq_true (by kernel_rfl)))
      have e40 : gv 40 = fval f (.slice p1 f.ts.len m1) (.slice p2 f.sub.len m2) := hJ.lit _ (List.mem_of_getElem? (i := 27) rfl) (hl 27 (of_decide_eq_true (by kernel_rfl)))
      have e41 : gv 41 = .int .u32 ((maskOf f.parts).toNat : Int) := hJ.lit _ (List.mem_of_getElem? (i := 28) rfl) (hl 28 (of_decide_eq_true (by kernel_rfl)))
      have e42 : gv 42 = fval f (.slice pa f.ts.len ca) (.slice p f.sub.len c) := hJ.lit _ (List.mem_of_getElem? (i := 29) rfl) (hl 29 (of_decide_eq_true (by kernel_rfl)))
      have e43 : gv 43 = .int .u32 ((maskOf f.parts).toNat : Int) := hJ.lit _ (List.mem_of_getElem? (i := 30) rfl) (hl 30 (of_decide_eq_true (by kernel_rfl)))
      have e44 : gv 44 = .bool false := hJ.lit _ (List.mem_of_getElem? (i := 31) rfl) (hl 31 (of_decide_eq_true (by kernel_rfl)))
      have e45 : gv 45 = .bool false := hJ.lit _ (List.mem_of_getElem? (i := 32) rfl) (hl 32 (of_decide_eq_true (by kernel_rfl)))
      have e46 : gv 46 = .bool false := hJ.lit _ (List.mem_of_getElem? (i := 33) rfl) (hl 33 (of_decide_eq_true (by kernel_rfl)))
      have e47 : gv 47 = fval f (.slice po f.ts.len mo) (.slice qo f.sub.len no) := hJ.lit _ (List.mem_of_getElem? (i := 34) rfl) (hl 34 (of_decide_eq_true (by kernel_rfl)))
      have e48 : gv 48 = fval f (.slice pa f.ts.len ca) (.slice p f.sub.len c) := hJ.lit _ (List.mem_of_getElem? (i := 35) rfl) (hl 35 (of_decide_eq_true (by kernel_rfl)))
      have e49 : gv 49 = .bool true := hJ.lit _ (List.mem_of_getElem? (i := 36) rfl) (hl 36 (of_decide_eq_true (by kernel_rfl)))
      have e50 : gv 50 = .bool false := hJ.lit _ (List.mem_of_getElem? (i := 37) rfl) (hl 37 (of_decide_eq_true (by kernel_rfl)))
      have e51 : gv 51 = .bool false := hJ.lit _ (List.mem_of_getElem? (i := 38) rfl) (hl 38 (of_decide_eq_true (by kernel_rfl)))
      have e52 : gv 52 = .bool false := hJ.lit _ (List.mem_of_getElem? (i := 39) rfl) (hl 39 (of_decide_eq_true (by kernel_rfl)))
      have e53 : gv 53 = u12 := hJ.lit _ (List.mem_of_getElem? (i := 40) rfl) (hl 40 (of_decide_eq_true (by kernel_rfl)))
      have e54 : gv 54 = fval f (.slice pa f.ts.len ca) (.slice p f.sub.len c) := hJ.lit _ (List.mem_of_getElem? (i := 41) rfl) (hl 41 (of_decide_eq_true (by kernel_rfl)))
      have e56 : gv 56 = .bool true := hJ.lit _ (List.mem_of_getElem? (i := 42) rfl) (hl 43 (of_decide_eq_true (by kernel_rfl)))
      have e57 : gv 57 = .bool false := hJ.lit _ (List.mem_of_getElem? (i := 43) rfl) (hl 44 (of_decide_eq_true (by kernel_rfl)))
      have e58 : gv 58 = .bool false := hJ.lit _ (List.mem_of_getElem? (i := 44) rfl) (hl 45 (of_decide_eq_true (by kernel_rfl)))
      simp only [zipV, List.map_cons, List.map_nil, puts, Act.put, List.setIfInBounds_toArray, List.set_cons_succ, List.set_cons_zero, e13, e14, e15, e16, e17, e18, e19, e20, e21, e22, e23, e24, e25, e26, e27, e28, e29, e30, e31, e32, e33, e34, e35, e36, e37, e38, e39, e40, e41, e42, e43, e44, e45, e46, e47, e48, e49, e50, e51, e52, e53, e54, e56, e57, e58]
      have hlow := Lib.hid hJ.low
      clear e13 e14 e15 e16 e17 e18 e19 e20 e21 e22 e23 e24 e25 e26 e27 e28 e29 e30 e31 e32 e33 e34 e35 e36 e37 e38 e39 e40 e41 e42 e43 e44 e45 e46 e47 e48 e49 e50 e51 e52 e53 e54 e56 e57 e58 hJ hl
      obtain ⟨u55, hu55⟩ : ∃ u, gv 55 = u := ⟨_, rfl⟩
      rw [hu55]
      clear hu55
      obtain ⟨w10, hw10⟩ : ∃ w10, W9 = w10 := ⟨_, rfl⟩
      rw [hw10] at hlow ⊢
      clear hw10 f0 f1 f2 f3 i0 i1 i2 i3 o0 o1 o2 o3 hrwW HRP
      have hb910 := hlow
      have k1h := Lib.hid (k1h.out.next hlow.out)
      have k2h := Lib.hid (k2h.out.next hlow.out)
      have kbh := Lib.hid (kbh.out.next hlow.out)
      clear hlow
      go_wp2_with fail
      have HP1 := Lib.hid (predicates_all f s6)
      have HP2 := Lib.hid (refPreds_all f s6)
      have hlp := preds_len f s6
      have HP3 := Lib.hid (functions_all f s6)
      have HP4 := Lib.hid (refFunctions_all f s6)
      have hlf := funcs_len f s6
      generalize uniq (ms (f.parts.flatMap symP)) = LP at HP1 HP2 hlp
      generalize uniq (ms (f.terms.flatMap symT)) = LF at HP3 HP4 hlf
      have hk1 := k1h.out
      obtain ⟨f0, f1, f2, f3, -⟩ := id hk1
      have fvf := Lib.hid hk1.val
      have hk2 := k2h.out
      obtain ⟨i0, i1, i2, i3, -⟩ := id hk2
      have fvi := Lib.hid hk2.val
      clear hk1 hk2
      refine wp_region_run (by kernel_rfl) 104 [59, 60, 61, 62, 63, 64, 65, 66, 67, 68, 69, 70, 71, 72] (JK w10 [(0, 59, fval f (.slice p1 f.ts.len m1) (.slice p2 f.sub.len m2)), (2, 61, fval f (.slice pa f.ts.len ca) (.slice p f.sub.len c)), (4, 63, .bool true), (5, 64, .bool false), (6, 65, .bool false), (7, 66, fval f (.slice p1 f.ts.len m1) (.slice p2 f.sub.len m2)), (9, 68, fval f (.slice pa f.ts.len ca) (.slice p f.sub.len c)), (11, 70, .bool true), (12, 71, .bool false), (13, 72, .bool false)] [(1, 60, (fun v W => SySl W LP v)), (3, 62, (fun v W => SySl W LP v)), (8, 67, (fun v W => SySl W LF v)), (10, 69, (fun v W => SySl W LF v))]) (by kernel_rfl) rfl (JK.start _ _) ?hst60 ?hend60
      case hst60 =>
        have hok : okK [(0, 59, fval f (.slice p1 f.ts.len m1) (.slice p2 f.sub.len m2)), (2, 61, fval f (.slice pa f.ts.len ca) (.slice p f.sub.len c)), (4, 63, .bool true), (5, 64, .bool false), (6, 65, .bool false), (7, 66, fval f (.slice p1 f.ts.len m1) (.slice p2 f.sub.len m2)), (9, 68, fval f (.slice pa f.ts.len ca) (.slice p f.sub.len c)), (11, 70, .bool true), (12, 71, .bool false), (13, 72, .bool false)] [(1, 60, (fun v W => SySl W LP v)), (3, 62, (fun v W => SySl W LP v)), (8, 67, (fun v W => SySl W LF v)), (10, 69, (fun v W => SySl W LF v))] = true := by kernel_rfl
        have hst : ∀ p ∈ ([(1, 60, (fun v W => SySl W LP v)), (3, 62, (fun v W => SySl W LP v)), (8, 67, (fun v W => SySl W LF v)), (10, 69, (fun v W => SySl W LF v))] : List (Nat × Nat × (Value → World → Prop))), Stb p.2.2 := (fun p hp => by simp only [List.mem_cons, List.not_mem_nil, or_false] at hp; rcases hp with rfl | rfl | rfl | rfl <;> exact stb_sy _)
        refine ⟨?_, ?_, ?_, ?_, ?_, ?_, ?_, ?_, ?_, ?_, ?_, ?_, ?_, ?_, trivial⟩
        · rintro l gv W hun hdep hcl hJ hg ha hp
          refine' op_val ?h47 ?hw47 ?hr47 ?hK47
          case h47 => rfl
          case hw47 => exact rfl
          case hr47 => exact (ex_load rfl (eval_tmp ((ha 3 (by kernel_rfl)).trans rfl)) (loadFo (cell_below hJ.low i0) (cell_below hJ.low i1) (cell_below hJ.low i2) (cell_below hJ.low i3)))
          case hK47 => exact ⟨_, hp 59 _ (by kernel_rfl), JK.made hok hst hJ (List.mem_of_getElem? (i := 0) rfl) (Below.refl _ _)⟩
        · rintro l gv W hun hdep hcl hJ hg ha hp
          refine' op_call ?h48 ?hw48 ?hr48 ?hc48
          case h48 => rfl
          case hw48 => exact rfl
          case hr48 => exact (ex_call1 (enters_of Tryz.func29 (by kernel_rfl) rfl) rfl ((eval_tmp (hg 59 (by kernel_rfl))).trans (hJ.lit _ (List.mem_of_getElem? (i := 0) rfl) (hdep 0 (by kernel_rfl)))))
          case hc48 =>
            refine (HP1.out _ W (FVal.below hJ.low fvi.out)).mono ?_
            rintro e W' ⟨⟨v', rfl, hv'⟩, hb⟩
            exact ⟨_, rfl, _, hp 60 _ (by kernel_rfl), JK.madeP hok hst hJ (List.mem_of_getElem? (i := 0) rfl) hv' hb⟩
        · rintro l gv W hun hdep hcl hJ hg ha hp
          refine' op_val ?h49 ?hw49 ?hr49 ?hK49
          case h49 => rfl
          case hw49 => exact rfl
          case hr49 => exact (ex_load rfl (eval_tmp ((ha 1 (by kernel_rfl)).trans rfl)) (loadFo (cell_below hJ.low f0) (cell_below hJ.low f1) (cell_below hJ.low f2) (cell_below hJ.low f3)))
          case hK49 => exact ⟨_, hp 61 _ (by kernel_rfl), JK.made hok hst hJ (List.mem_of_getElem? (i := 1) rfl) (Below.refl _ _)⟩
        · rintro l gv W hun hdep hcl hJ hg ha hp
          refine' op_call ?h50 ?hw50 ?hr50 ?hc50
          case h50 => rfl
          case hw50 => exact rfl
          case hr50 => exact (ex_call1 (enters_of Tryz.func30 (by kernel_rfl) rfl) rfl ((eval_tmp (hg 61 (by kernel_rfl))).trans (hJ.lit _ (List.mem_of_getElem? (i := 1) rfl) (hdep 2 (by kernel_rfl)))))
          case hc50 =>
            refine (HP2.out _ W (FVal.below hJ.low fvf.out)).mono ?_
            rintro e W' ⟨⟨v', rfl, hv'⟩, hb⟩
            exact ⟨_, rfl, _, hp 62 _ (by kernel_rfl), JK.madeP hok hst hJ (List.mem_of_getElem? (i := 1) rfl) hv' hb⟩
        · rintro l gv W hun hdep hcl hJ hg ha hp
          refine' op_call ?h51 ?hw51 ?hr51 ?hc51
          case h51 => rfl
          case hw51 => exact rfl
          case hr51 => exact (ex_call2 (enters_of Tryz.func28 (by kernel_rfl) rfl) rfl (eval_tmp (hg 60 (by kernel_rfl))) (eval_tmp (hg 62 (by kernel_rfl))))
          case hc51 =>
            refine (symbols_any LP _ _ W (hJ.pr _ (List.mem_of_getElem? (i := 0) rfl) (hdep 1 (by kernel_rfl))) (hJ.pr _ (List.mem_of_getElem? (i := 1) rfl) (hdep 3 (by kernel_rfl))) hlp).mono ?_
            rintro e W' ⟨rfl, hb⟩
            exact ⟨_, rfl, _, hp 63 _ (by kernel_rfl), JK.made hok hst hJ (List.mem_of_getElem? (i := 2) rfl) hb⟩
        · rintro l gv W hun hdep hcl hJ hg ha hp
          refine' op_val ?h52 ?hw52 ?hr52 ?hK52
          case h52 => rfl
          case hw52 => exact rfl
          case hr52 => exact (ex_not rfl ((eval_tmp (hg 63 (by kernel_rfl))).trans (hJ.lit _ (List.mem_of_getElem? (i := 2) rfl) (hdep 4 (by kernel_rfl)))))
          case hK52 => exact ⟨_, hp 64 _ (by kernel_rfl), JK.made hok hst hJ (List.mem_of_getElem? (i := 3) rfl) (Below.refl _ _)⟩
        · rintro l gv W hun hdep hcl hJ hg ha hp
          refine' op_val ?h53 ?hw53 ?hr53 ?hK53
          case h53 => rfl
          case hw53 => exact rfl
          case hr53 => exact (ex_move rfl ((eval_tmp (hg 64 (by kernel_rfl))).trans (hJ.lit _ (List.mem_of_getElem? (i := 3) rfl) (hdep 5 (by kernel_rfl)))))
          case hK53 => exact ⟨_, hp 65 _ (by kernel_rfl), JK.made hok hst hJ (List.mem_of_getElem? (i := 4) rfl) (Below.refl _ _)⟩
        · rintro l gv W hun hdep hcl hJ hg ha hp
          have eg : gv 65 = .bool false := hJ.lit _ (List.mem_of_getElem? (i := 4) rfl) (hdep 6 (by kernel_rfl))
          have hgd := (hg 65 (by kernel_rfl)).trans (congrArg some eg)
          refine' op_val ?h54 ?hw54 ?hr54 ?hK54
          case h54 => rfl
          case hw54 => exact (wants_yes false rfl (by kernel_rfl) hgd)
          case hr54 => exact (ex_load rfl (eval_tmp ((ha 3 (by kernel_rfl)).trans rfl)) (loadFo (cell_below hJ.low i0) (cell_below hJ.low i1) (cell_below hJ.low i2) (cell_below hJ.low i3)))
          case hK54 => exact ⟨_, hp 66 _ (by kernel_rfl), JK.made hok hst hJ (List.mem_of_getElem? (i := 5) rfl) (Below.refl _ _)⟩
        · rintro l gv W hun hdep hcl hJ hg ha hp
          have eg : gv 65 = .bool false := hJ.lit _ (List.mem_of_getElem? (i := 4) rfl) (hdep 6 (by kernel_rfl))
          have hgd := (hg 65 (by kernel_rfl)).trans (congrArg some eg)
          refine' op_call ?h55 ?hw55 ?hr55 ?hc55
          case h55 => rfl
          case hw55 => exact (wants_yes false rfl (by kernel_rfl) hgd)
          case hr55 => exact (ex_call1 (enters_of Tryz.func31 (by kernel_rfl) rfl) rfl ((eval_tmp (hg 66 (by kernel_rfl))).trans (hJ.lit _ (List.mem_of_getElem? (i := 5) rfl) (hdep 7 (by kernel_rfl)))))
          case hc55 =>
            refine (HP3.out _ W (FVal.below hJ.low fvi.out)).mono ?_
            rintro e W' ⟨⟨v', rfl, hv'⟩, hb⟩
            exact ⟨_, rfl, _, hp 67 _ (by kernel_rfl), JK.madeP hok hst hJ (List.mem_of_getElem? (i := 2) rfl) hv' hb⟩
        · rintro l gv W hun hdep hcl hJ hg ha hp
          have eg : gv 65 = .bool false := hJ.lit _ (List.mem_of_getElem? (i := 4) rfl) (hdep 6 (by kernel_rfl))
          have hgd := (hg 65 (by kernel_rfl)).trans (congrArg some eg)
          refine' op_val ?h56 ?hw56 ?hr56 ?hK56
          case h56 => rfl
          case hw56 => exact (wants_yes false rfl (by kernel_rfl) hgd)
          case hr56 => exact (ex_load rfl (eval_tmp ((ha 1 (by kernel_rfl)).trans rfl)) (loadFo (cell_below hJ.low f0) (cell_below hJ.low f1) (cell_below hJ.low f2) (cell_below hJ.low f3)))
          case hK56 => exact ⟨_, hp 68 _ (by kernel_rfl), JK.made hok hst hJ (List.mem_of_getElem? (i := 6) rfl) (Below.refl _ _)⟩
        · rintro l gv W hun hdep hcl hJ hg ha hp
          have eg : gv 65 = .bool false := hJ.lit _ (List.mem_of_getElem? (i := 4) rfl) (hdep 6 (by kernel_rfl))
          have hgd := (hg 65 (by kernel_rfl)).trans (congrArg some eg)
          refine' op_call ?h57 ?hw57 ?hr57 ?hc57
          case h57 => rfl
          case hw57 => exact (wants_yes false rfl (by kernel_rfl) hgd)
          case hr57 => exact (ex_call1 (enters_of Tryz.func32 (by kernel_rfl) rfl) rfl ((eval_tmp (hg 68 (by kernel_rfl))).trans (hJ.lit _ (List.mem_of_getElem? (i := 6) rfl) (hdep 9 (by kernel_rfl)))))
          case hc57 =>
            refine (HP4.out _ W (FVal.below hJ.low fvf.out)).mono ?_
            rintro e W' ⟨⟨v', rfl, hv'⟩, hb⟩
            exact ⟨_, rfl, _, hp 69 _ (by kernel_rfl), JK.madeP hok hst hJ (List.mem_of_getElem? (i := 3) rfl) hv' hb⟩
        · rintro l gv W hun hdep hcl hJ hg ha hp
          have eg : gv 65 = .bool false := hJ.lit _ (List.mem_of_getElem? (i := 4) rfl) (hdep 6 (by kernel_rfl))
          have hgd := (hg 65 (by kernel_rfl)).trans (congrArg some eg)
          refine' op_call ?h58 ?hw58 ?hr58 ?hc58
          case h58 => rfl
          case hw58 => exact (wants_yes false rfl (by kernel_rfl) hgd)
          case hr58 => exact (ex_call2 (enters_of Tryz.func28 (by kernel_rfl) rfl) rfl (eval_tmp (hg 67 (by kernel_rfl))) (eval_tmp (hg 69 (by kernel_rfl))))
          case hc58 =>
            refine (symbols_any LF _ _ W (hJ.pr _ (List.mem_of_getElem? (i := 2) rfl) (hdep 8 (by kernel_rfl))) (hJ.pr _ (List.mem_of_getElem? (i := 3) rfl) (hdep 10 (by kernel_rfl))) hlf).mono ?_
            rintro e W' ⟨rfl, hb⟩
            exact ⟨_, rfl, _, hp 70 _ (by kernel_rfl), JK.made hok hst hJ (List.mem_of_getElem? (i := 7) rfl) hb⟩
        · rintro l gv W hun hdep hcl hJ hg ha hp
          have eg : gv 65 = .bool false := hJ.lit _ (List.mem_of_getElem? (i := 4) rfl) (hdep 6 (by kernel_rfl))
          have hgd := (hg 65 (by kernel_rfl)).trans (congrArg some eg)
          refine' op_val ?h59 ?hw59 ?hr59 ?hK59
          case h59 => rfl
          case hw59 => exact (wants_yes false rfl (by kernel_rfl) hgd)
          case hr59 => exact (ex_not rfl ((eval_tmp (hg 70 (by kernel_rfl))).trans (hJ.lit _ (List.mem_of_getElem? (i := 7) rfl) (hdep 11 (by kernel_rfl)))))
          case hK59 => exact ⟨_, hp 71 _ (by kernel_rfl), JK.made hok hst hJ (List.mem_of_getElem? (i := 8) rfl) (Below.refl _ _)⟩
        · rintro l gv W hun hdep hcl hJ hg ha hp
          refine' op_val ?h60 ?hw60 ?hr60 ?hK60
          case h60 => rfl
          case hw60 => exact rfl
          case hr60 => exact (ex_pickF rfl ((eval_tmp (hg 65 (by kernel_rfl))).trans (hJ.lit _ (List.mem_of_getElem? (i := 4) rfl) (hdep 6 (by kernel_rfl)))) ((eval_tmp (hg 71 (by kernel_rfl))).trans (hJ.lit _ (List.mem_of_getElem? (i := 8) rfl) (hdep 12 (by kernel_rfl)))))
          case hK60 => exact ⟨_, hp 72 _ (by kernel_rfl), JK.made hok hst hJ (List.mem_of_getElem? (i := 9) rfl) (Below.refl _ _)⟩
      case hend60 =>
        rintro ll gv W9 hl hJ
        have e59 : gv 59 = fval f (.slice p1 f.ts.len m1) (.slice p2 f.sub.len m2) := hJ.lit _ (List.mem_of_getElem? (i := 0) rfl) (hl 0 (of_decide_eq_true (by kernel_rfl)))
        have e61 : gv 61 = fval f (.slice pa f.ts.len ca) (.slice p f.sub.len c) := hJ.lit _ (List.mem_of_getElem? (i := 1) rfl) (hl 2 (of_decide_eq_true (by kernel_rfl)))
        have e63 : gv 63 = .bool true := hJ.lit _ (List.mem_of_getElem? (i := 2) rfl) (hl 4 (of_decide_eq_true (by kernel_rfl)))
        have e64 : gv 64 = .bool false := hJ.lit _ (List.mem_of_getElem? (i := 3) rfl) (hl 5 (of_decide_eq_true (by kernel_rfl)))
        have e65 : gv 65 = .bool false := hJ.lit _ (List.mem_of_getElem? (i := 4) rfl) (hl 6 (of_decide_eq_true (by kernel_rfl)))
        have e66 : gv 66 = fval f (.slice p1 f.ts.len m1) (.slice p2 f.sub.len m2) := hJ.lit _ (List.mem_of_getElem? (i := 5) rfl) (hl 7 (of_decide_eq_true (by kernel_rfl)))
        have e68 : gv 68 = fval f (.slice pa f.ts.len ca) (.slice p f.sub.len c) := hJ.lit _ (List.mem_of_getElem? (i := 6) rfl) (hl 9 (of_decide_eq_true (by kernel_rfl)))
        have e70 : gv 70 = .bool true := hJ.lit _ (List.mem_of_getElem? (i := 7) rfl) (hl 11 (of_decide_eq_true (by kernel_rfl)))
        have e71 : gv 71 = .bool false := hJ.lit _ (List.mem_of_getElem? (i := 8) rfl) (hl 12 (of_decide_eq_true (by kernel_rfl)))
        have e72 : gv 72 = .bool false := hJ.lit _ (List.mem_of_getElem? (i := 9) rfl) (hl 13 (of_decide_eq_true (by kernel_rfl)))
        simp only [zipV, List.map_cons, List.map_nil, puts, Act.put, List.setIfInBounds_toArray, List.set_cons_succ, List.set_cons_zero, e59, e61, e63, e64, e65, e66, e68, e70, e71, e72]
        have hlow := Lib.hid hJ.low
        clear e59 e61 e63 e64 e65 e66 e68 e70 e71 e72 hJ hl
        obtain ⟨u60, hu60⟩ : ∃ u, gv 60 = u := ⟨_, rfl⟩
        rw [hu60]
        clear hu60
        obtain ⟨u62, hu62⟩ : ∃ u, gv 62 = u := ⟨_, rfl⟩
        rw [hu62]
        clear hu62
        obtain ⟨u67, hu67⟩ : ∃ u, gv 67 = u := ⟨_, rfl⟩
        rw [hu67]
        clear hu67
        obtain ⟨u69, hu69⟩ : ∃ u, gv 69 = u := ⟨_, rfl⟩
        rw [hu69]
        clear hu69
        obtain ⟨w11, hw11⟩ : ∃ w11, W9 = w11 := ⟨_, rfl⟩
        rw [hw11] at hlow ⊢
        clear hw11 f0 f1 f2 f3 i0 i1 i2 i3 HP1 HP2 HP3 HP4 hlp hlf
        have hb911 := Lib.hid (bel_step hb910.out hlow.out)
        have k1h := Lib.hid (k1h.out.next hlow.out)
        have k2h := Lib.hid (k2h.out.next hlow.out)
        have kbh := Lib.hid (kbh.out.next hlow.out)
        clear hlow hb910
        go_wp2_with fail
        go_loopw [6] (fun s6 wr => ∃ i : Nat, s6 = .int .i64 (i : Int) ∧ i ≤ f.ts.len ∧ Below w11.heap.size w11 wr) (fun s6 _ => f.ts.len - (intOf s6).toNat)
        case atStart => exact ⟨0, rfl, Nat.zero_le _, Below.refl _ _⟩
        case round =>
          obtain ⟨i, rfl, hil, hbr⟩ := hrel
          have hbrh := Lib.hid hbr
          have hk1 := k1h.out.next hbr
          have hk2 := k2h.out.next hbr
          have hk3 := kbh.out.next hbr
          obtain ⟨f0, f1, f2, f3, -, hfa, -⟩ := id hk1
          obtain ⟨i0, i1, i2, i3, -, hia, -⟩ := id hk2
          have htl := f.ts.len_le
          have hfz : f.size = f.ts.size + f.sub.size + 1 := rfl
          by_cases hiL : i < f.ts.len
          · have hi1 : (i : Int) < (f.ts.len : Int) := by omega
            have hi0 : (0 : Int) ≤ (i : Int) := by omega
            have hkw : IntKind.i64.wrap ((i : Int) + 1) = (i : Int) + 1 := IntWalk.i64_in _ (by omega)
            obtain ⟨_, _, hx1, hx2⟩ := hfa
            cases hx1
            obtain ⟨xb, xo, rfl, hxt⟩ := hx2.resolve_left (by omega)
            obtain ⟨_, _, hy1, hy2⟩ := hia
            cases hy1
            obtain ⟨yb, yo, rfl, hyt⟩ := hy2.resolve_left (by omega)
            obtain ⟨tv, tn, ts, tp, tp', tc, tc', ⟨x0, x1, x2, x3⟩, ⟨y0, y1, y2, y3⟩, hts, htw⟩ := hyt.both hxt hiL
            have ht6 : ts.size ≤ 1000000 := by omega
            have htw4 : tn.size + ts.wt ≤ 4000000 := by simp only [FT.wt] at hwt; omega
            have x3h := Lib.hid x3
            have y3h := Lib.hid y3
            obtain ⟨tb, htb⟩ : ∃ b, rightT false tv tn ts = b := ⟨_, rfl⟩
            have htbh := Lib.hid htb
            clear htb x3 y3 hxt hyt hx2 hy2 hk1 hk2 hk3 hbr hts htw
            go_wp2_with fail
            refine wp_region_run (by kernel_rfl) 104 [80, 81, 82, 83, 84, 85, 86, 87, 88, 89, 90, 91, 92] (JK wr [(0, 80, .pointer (some ⟨g3, 2, none⟩)), (1, 81, .slice (some ⟨yb, yo, none⟩) f.ts.len m1), (2, 82, .int .i64 (i : Int)), (3, 83, .pointer (some ⟨yb, yo + i * 3, none⟩)), (4, 84, .agg #[.bool tv, .string tn, .slice tp ts.len tc]), (5, 85, .bool tb), (6, 86, .pointer (some ⟨g, 2, none⟩)), (7, 87, .slice (some ⟨xb, xo, none⟩) f.ts.len ca), (8, 88, .int .i64 (i : Int)), (9, 89, .pointer (some ⟨xb, xo + i * 3, none⟩)), (10, 90, .agg #[.bool tv, .string tn, .slice tp' ts.len tc']), (11, 91, .bool tb), (12, 92, .bool false)] []) (by kernel_rfl) rfl (JK.start _ _) ?hst73 ?hend73
            case hst73 =>
              have hok : okK [(0, 80, .pointer (some ⟨g3, 2, none⟩)), (1, 81, .slice (some ⟨yb, yo, none⟩) f.ts.len m1), (2, 82, .int .i64 (i : Int)), (3, 83, .pointer (some ⟨yb, yo + i * 3, none⟩)), (4, 84, .agg #[.bool tv, .string tn, .slice tp ts.len tc]), (5, 85, .bool tb), (6, 86, .pointer (some ⟨g, 2, none⟩)), (7, 87, .slice (some ⟨xb, xo, none⟩) f.ts.len ca), (8, 88, .int .i64 (i : Int)), (9, 89, .pointer (some ⟨xb, xo + i * 3, none⟩)), (10, 90, .agg #[.bool tv, .string tn, .slice tp' ts.len tc']), (11, 91, .bool tb), (12, 92, .bool false)] [] = true := by kernel_rfl
              have hst : ∀ p ∈ ([] : List (Nat × Nat × (Value → World → Prop))), Stb p.2.2 := fun p hp => (by cases hp)
              refine ⟨?_, ?_, ?_, ?_, ?_, ?_, ?_, ?_, ?_, ?_, ?_, ?_, ?_, trivial⟩
              · rintro l gv W hun hdep hcl hJ hg ha hp
                refine' op_val ?h61 ?hw61 ?hr61 ?hK61
                case h61 => rfl
                case hw61 => exact rfl
                case hr61 => exact (ex_field rfl (eval_tmp ((ha 3 (by kernel_rfl)).trans rfl)) f25_2)
                case hK61 => exact ⟨_, hp 80 _ (by kernel_rfl), JK.made hok hst hJ (List.mem_of_getElem? (i := 0) rfl) (Below.refl _ _)⟩
              · rintro l gv W hun hdep hcl hJ hg ha hp
                refine' op_val ?h62 ?hw62 ?hr62 ?hK62
                case h62 => rfl
                case hw62 => exact rfl
                case hr62 => exact (ex_load rfl ((eval_tmp (hg 80 (by kernel_rfl))).trans (hJ.lit _ (List.mem_of_getElem? (i := 0) rfl) (hdep 0 (by kernel_rfl)))) (loadTs (cell_below hJ.low i2)))
                case hK62 => exact ⟨_, hp 81 _ (by kernel_rfl), JK.made hok hst hJ (List.mem_of_getElem? (i := 1) rfl) (Below.refl _ _)⟩
              · rintro l gv W hun hdep hcl hJ hg ha hp
                refine' op_val ?h63 ?hw63 ?hr63 ?hK63
                case h63 => rfl
                case hw63 => exact rfl
                case hr63 => exact (ex_move rfl (eval_tmp ((ha 6 (by kernel_rfl)).trans rfl)))
                case hK63 => exact ⟨_, hp 82 _ (by kernel_rfl), JK.made hok hst hJ (List.mem_of_getElem? (i := 2) rfl) (Below.refl _ _)⟩
              · rintro l gv W hun hdep hcl hJ hg ha hp
                refine' op_val ?h64 ?hw64 ?hr64 ?hK64
                case h64 => rfl
                case hw64 => exact rfl
                case hr64 => exact (ex_indexAddr rfl ((eval_tmp (hg 81 (by kernel_rfl))).trans (hJ.lit _ (List.mem_of_getElem? (i := 1) rfl) (hdep 1 (by kernel_rfl)))) ((eval_tmp (hg 82 (by kernel_rfl))).trans (hJ.lit _ (List.mem_of_getElem? (i := 2) rfl) (hdep 2 (by kernel_rfl)))) (i22 hiL))
                case hK64 => exact ⟨_, hp 83 _ (by kernel_rfl), JK.made hok hst hJ (List.mem_of_getElem? (i := 3) rfl) (Below.refl _ _)⟩
              · rintro l gv W hun hdep hcl hJ hg ha hp
                refine' op_val ?h65 ?hw65 ?hr65 ?hK65
                case h65 => rfl
                case hw65 => exact rfl
                case hr65 => exact (ex_load rfl ((eval_tmp (hg 83 (by kernel_rfl))).trans (hJ.lit _ (List.mem_of_getElem? (i := 3) rfl) (hdep 3 (by kernel_rfl)))) (loadT46 (cell_below hJ.low x0) (cell_below hJ.low x1) (cell_below hJ.low x2)))
                case hK65 => exact ⟨_, hp 84 _ (by kernel_rfl), JK.made hok hst hJ (List.mem_of_getElem? (i := 4) rfl) (Below.refl _ _)⟩
              · rintro l gv W hun hdep hcl hJ hg ha hp
                refine' op_call ?h66 ?hw66 ?hr66 ?hc66
                case h66 => rfl
                case hw66 => exact rfl
                case hr66 => exact (ex_call1 (enters_of Tryz.func33 (by kernel_rfl) rfl) rfl ((eval_tmp (hg 84 (by kernel_rfl))).trans (hJ.lit _ (List.mem_of_getElem? (i := 4) rfl) (hdep 4 (by kernel_rfl)))))
                case hc66 =>
                  refine (term33_any ts tv tn _ W (TSl.below hJ.low x3h.out) ht6).mono ?_
                  rintro e W' ⟨rfl, hb⟩
                  exact ⟨_, (congrArg (fun b => Ending.returned (Value.bool b)) (htbh.out)), _, hp 85 _ (by kernel_rfl), JK.made hok hst hJ (List.mem_of_getElem? (i := 5) rfl) hb⟩
              · rintro l gv W hun hdep hcl hJ hg ha hp
                refine' op_val ?h67 ?hw67 ?hr67 ?hK67
                case h67 => rfl
                case hw67 => exact rfl
                case hr67 => exact (ex_field rfl (eval_tmp ((ha 1 (by kernel_rfl)).trans rfl)) f25_2)
                case hK67 => exact ⟨_, hp 86 _ (by kernel_rfl), JK.made hok hst hJ (List.mem_of_getElem? (i := 6) rfl) (Below.refl _ _)⟩
              · rintro l gv W hun hdep hcl hJ hg ha hp
                refine' op_val ?h68 ?hw68 ?hr68 ?hK68
                case h68 => rfl
                case hw68 => exact rfl
                case hr68 => exact (ex_load rfl ((eval_tmp (hg 86 (by kernel_rfl))).trans (hJ.lit _ (List.mem_of_getElem? (i := 6) rfl) (hdep 6 (by kernel_rfl)))) (loadTs (cell_below hJ.low f2)))
                case hK68 => exact ⟨_, hp 87 _ (by kernel_rfl), JK.made hok hst hJ (List.mem_of_getElem? (i := 7) rfl) (Below.refl _ _)⟩
              · rintro l gv W hun hdep hcl hJ hg ha hp
                refine' op_val ?h69 ?hw69 ?hr69 ?hK69
                case h69 => rfl
                case hw69 => exact rfl
                case hr69 => exact (ex_move rfl (eval_tmp ((ha 6 (by kernel_rfl)).trans rfl)))
                case hK69 => exact ⟨_, hp 88 _ (by kernel_rfl), JK.made hok hst hJ (List.mem_of_getElem? (i := 8) rfl) (Below.refl _ _)⟩
              · rintro l gv W hun hdep hcl hJ hg ha hp
                refine' op_val ?h70 ?hw70 ?hr70 ?hK70
                case h70 => rfl
                case hw70 => exact rfl
                case hr70 => exact (ex_indexAddr rfl ((eval_tmp (hg 87 (by kernel_rfl))).trans (hJ.lit _ (List.mem_of_getElem? (i := 7) rfl) (hdep 7 (by kernel_rfl)))) ((eval_tmp (hg 88 (by kernel_rfl))).trans (hJ.lit _ (List.mem_of_getElem? (i := 8) rfl) (hdep 8 (by kernel_rfl)))) (i22 hiL))
                case hK70 => exact ⟨_, hp 89 _ (by kernel_rfl), JK.made hok hst hJ (List.mem_of_getElem? (i := 9) rfl) (Below.refl _ _)⟩
              · rintro l gv W hun hdep hcl hJ hg ha hp
                refine' op_val ?h71 ?hw71 ?hr71 ?hK71
                case h71 => rfl
                case hw71 => exact rfl
                case hr71 => exact (ex_load rfl ((eval_tmp (hg 89 (by kernel_rfl))).trans (hJ.lit _ (List.mem_of_getElem? (i := 9) rfl) (hdep 9 (by kernel_rfl)))) (loadT46 (cell_below hJ.low y0) (cell_below hJ.low y1) (cell_below hJ.low y2)))
                case hK71 => exact ⟨_, hp 90 _ (by kernel_rfl), JK.made hok hst hJ (List.mem_of_getElem? (i := 10) rfl) (Below.refl _ _)⟩
              · rintro l gv W hun hdep hcl hJ hg ha hp
                refine' op_call ?h72 ?hw72 ?hr72 ?hc72
                case h72 => rfl
                case hw72 => exact rfl
                case hr72 => exact (ex_call1 (enters_of Tryz.func34 (by kernel_rfl) rfl) rfl ((eval_tmp (hg 90 (by kernel_rfl))).trans (hJ.lit _ (List.mem_of_getElem? (i := 10) rfl) (hdep 10 (by kernel_rfl)))))
                case hc72 =>
                  refine (refTermT_any ts tv tn _ W (TSl.below hJ.low y3h.out) ht6 htw4).mono ?_
                  rintro e W' ⟨rfl, hb⟩
                  exact ⟨_, (congrArg (fun b => Ending.returned (Value.bool b)) (htbh.out)), _, hp 91 _ (by kernel_rfl), JK.made hok hst hJ (List.mem_of_getElem? (i := 11) rfl) hb⟩
              · rintro l gv W hun hdep hcl hJ hg ha hp
                refine' op_val ?h73 ?hw73 ?hr73 ?hK73
                case h73 => rfl
                case hw73 => exact rfl
                case hr73 => exact (ex_bin rfl ((eval_tmp (hg 85 (by kernel_rfl))).trans (hJ.lit _ (List.mem_of_getElem? (i := 5) rfl) (hdep 5 (by kernel_rfl)))) ((eval_tmp (hg 91 (by kernel_rfl))).trans (hJ.lit _ (List.mem_of_getElem? (i := 11) rfl) (hdep 11 (by kernel_rfl)))) (guard_bool _ _ _ _ _ W) (neqB _ W))
                case hK73 => exact ⟨_, hp 92 _ (by kernel_rfl), JK.made hok hst hJ (List.mem_of_getElem? (i := 12) rfl) (Below.refl _ _)⟩
            case hend73 =>
              rintro ll gv W9 hl hJ
              have e80 : gv 80 = .pointer (some ⟨g3, 2, none⟩) := hJ.lit _ (List.mem_of_getElem? (i := 0) rfl) (hl 0 (of_decide_eq_true (by kernel_rfl)))
              have e81 : gv 81 = .slice (some ⟨yb, yo, none⟩) f.ts.len m1 := hJ.lit _ (List.mem_of_getElem? (i := 1) rfl) (hl 1 (of_decide_eq_true (by kernel_rfl)))
              have e82 : gv 82 = .int .i64 (i : Int) := hJ.lit _ (List.mem_of_getElem? (i := 2) rfl) (hl 2 (of_decide_eq_true (by kernel_rfl)))
              have e83 : gv 83 = .pointer (some ⟨yb, yo + i * 3, none⟩) := hJ.lit _ (List.mem_of_getElem? (i := 3) rfl) (hl 3 (of_decide_eq_true (by kernel_rfl)))
              have e84 : gv 84 = .agg #[.bool tv, .string tn, .slice tp ts.len tc] := hJ.lit _ (List.mem_of_getElem? (i := 4) rfl) (hl 4 (of_decide_eq_true (by kernel_rfl)))
              have e85 : gv 85 = .bool tb := hJ.lit _ (List.mem_of_getElem? (i := 5) rfl) (hl 5 (of_decide_eq_true (by kernel_rfl)))
              have e86 : gv 86 = .pointer (some ⟨g, 2, none⟩) := hJ.lit _ (List.mem_of_getElem? (i := 6) rfl) (hl 6 (of_decide_eq_true (by kernel_rfl)))
              have e87 : gv 87 = .slice (some ⟨xb, xo, none⟩) f.ts.len ca := hJ.lit _ (List.mem_of_getElem? (i := 7) rfl) (hl 7 (of_decide_eq_true (by kernel_rfl)))
              have e88 : gv 88 = .int .i64 (i : Int) := hJ.lit _ (List.mem_of_getElem? (i := 8) rfl) (hl 8 (of_decide_eq_true (by kernel_rfl)))
              have e89 : gv 89 = .pointer (some ⟨xb, xo + i * 3, none⟩) := hJ.lit _ (List.mem_of_getElem? (i := 9) rfl) (hl 9 (of_decide_eq_true (by kernel_rfl)))
              have e90 : gv 90 = .agg #[.bool tv, .string tn, .slice tp' ts.len tc'] := hJ.lit _ (List.mem_of_getElem? (i := 10) rfl) (hl 10 (of_decide_eq_true (by kernel_rfl)))
              have e91 : gv 91 = .bool tb := hJ.lit _ (List.mem_of_getElem? (i := 11) rfl) (hl 11 (of_decide_eq_true (by kernel_rfl)))
              have e92 : gv 92 = .bool false := hJ.lit _ (List.mem_of_getElem? (i := 12) rfl) (hl 12 (of_decide_eq_true (by kernel_rfl)))
              simp only [zipV, List.map_cons, List.map_nil, puts, Act.put, List.setIfInBounds_toArray, List.set_cons_succ, List.set_cons_zero, e80, e81, e82, e83, e84, e85, e86, e87, e88, e89, e90, e91, e92]
              have hlow := Lib.hid hJ.low
              clear e80 e81 e82 e83 e84 e85 e86 e87 e88 e89 e90 e91 e92 hJ hl
              have hbx := Lib.hid (bel_step hbrh.out hlow.out)
              clear hlow f0 f1 f2 f3 i0 i1 i2 i3 x0 x1 x2 y0 y1 y2
              go_wp2
              go_roundw
              case rel => exact ⟨i + 1, rfl, hiL, hbx.out⟩
              case measure => simp [intOf]; omega
          · have hie : ¬ (i : Int) < (f.ts.len : Int) := by omega
            obtain ⟨q0, q1, q2, q3, -⟩ := id hk3
            have q2h := Lib.hid q2
            have q3h := Lib.hid q3
            have hb9r := Lib.hid (bel_step hb911.out hbr)
            have hb4r := Lib.hid (bel_step hb49.out hb9r.out)
            have HO1 := Lib.hid (overT_any f.ts _ S1 wr (TSp.keep (fun _ _ _ _ hc => hc.below hb9r.out) hS1h.out) (by omega))
            clear hk1 hk2 hk3 hbr hfa hia f0 f1 f3 i0 i1 i2 i3 q0 q1 q3
            go_wp2_with fail
            obtain ⟨a1, a2, a3, a4, b1, b2, lt3, ltg, nb1, nb2⟩ := hzs.out
            refine HO1.out.mono ?_
            rintro e w18 ⟨⟨rv1, rfl⟩, -, hbut⟩
            have hb18h := Lib.hid (hb4r.out.trans (hbut.below (B := W4.heap.size) (fun x hx => Nat.le_trans a1.1 (hr1h.out x hx).1) hb4r.out.size))
            have q3 := cell_but hbut (fun h => nb1 (hr1h.out _ h)) q3h.out
            have hF2 := FSp.keep (W' := w18) (fun x i v hx hc => Wc.but hbut (hr2h.out x hx).2 hc) (FSp.keep (fun _ _ _ _ hc => hc.below hb9r.out) hS2h.out)
            have hPw := Lib.hid (FSp.keep (W' := w18) (fun x i v hx hc => Wc.but hbut (fun h => by have := (hr1h.out x h).2; have := hx.1; omega) hc) (FSp.keep (fun _ _ _ _ hc => hc.below hb9r.out) hPh.out))
            have HO2 := Lib.hid (overF_any f.sub _ S2 w18 hF2 (by omega))
            clear HO1 hbut hF2 f2 q3h q2h
            go_wp2_with fail
            refine HO2.out.mono ?_
            rintro e w19 ⟨⟨rv2, rfl⟩, -, -, hbut⟩
            have hb19h := Lib.hid (hb18h.out.trans (hbut.below (B := W4.heap.size) (fun x hx => Nat.le_trans a1.1 (hr2h.out x hx).1.1) hb18h.out.size))
            have hPx := FSp.keep (W' := w19) (fun x i v hx hc => Wc.but hbut (fun h => by have := (hr2h.out x h).1.2; have := hx.1; omega) hc) hPw.out
            have HO3 := Lib.hid (overF_any L _ (Rg z3 z4) w19 hPx hszL.out)
            clear HO2 hbut hPx hPw q3
            go_wp2_with fail
            refine HO3.out.mono ?_
            rintro e w20 ⟨⟨rv3, rfl⟩, -, -, hbut⟩
            have hb20h := Lib.hid (hb19h.out.trans (hbut.below (B := W4.heap.size) (fun x hx => by have := hx.1; omega) hb19h.out.size))
            have k1e := Lib.hid (k14h.out.next hb20h.out)
            have k2e := Lib.hid (k24h.out.next hb20h.out)
            have HS := Lib.hid (sameF_any f _ f _ w20 k2e.out.val k1e.out.val s6 s6)
            rw [FT.eqB_refl] at HS
            obtain ⟨f0, f1, f2, f3, -⟩ := k1e.out
            obtain ⟨i0, i1, i2, i3, -⟩ := k2e.out
            have hbe := Lib.hid k1e.out.2.2.2.2.1
            clear HO3 hbut
            go_wp2_with fail
            refine HS.out.mono ?_
            rintro e w21 ⟨rfl, hb21⟩
            have hfin := Lib.hid (bel_step hbe.out hb21)
            clear HS hb21 f0 f1 f2 f3 i0 i1 i2 i3
            go_wp2_with fail
            go_ret
            exact ⟨rfl, hfin.out⟩
end Go.Proofs.YtngdieldgnlogaaGreatDoor
