/- The walk of FormParts. -/
import Derived.Test.YtngdieldgnlogaaDoorFN
namespace Go.Proofs.YtngdieldgnlogaaDoor
open Go Go.RowKit
set_option maxRecDepth 100000
set_option linter.unusedVariables false
set_option maxHeartbeats 20000000 in
theorem formParts_walk (f : FT) (va : Value) (w : World) (hrw : Rws w) (hva : FVal w f va) (hwt : f.wt ≤ 1500000) (hop : ∀ p ∈ f.parts, 0 ≤ p.op) (hPF : f.size ≤ 1000 → PF f (Fs.of (pickedT f.parts))) :
    Calls Tryd.prog 5 #[va] w fun e w' => e = .returned (.bool true) ∧ Below w.heap.size w w' := by
  have HA := Lib.hid (fun V hr => awake_any V hr)
  have hrwh := Lib.hid hrw
  have hPFh := Lib.hid hPF
  have hoph := Lib.hid hop
  clear hrw hPF hop
  obtain ⟨sa, ua, rfl, ha, hua⟩ := id hva
  obtain ⟨pa, ca, rfl, -⟩ := id ha
  obtain ⟨qa, da, rfl, -⟩ := id hua
  clear ha hua
  have hst := FS.start (t := 25) hva
  have k1h := Lib.hid hst
  obtain ⟨W1, hW1⟩ : ∃ W1, w.alloc (.cells #[.int .u8 f.op, .string f.n, .slice pa f.ts.len ca, .slice qa f.sub.len da] 25) = W1 := ⟨_, rfl⟩
  rw [hW1] at k1h
  obtain ⟨g, hg⟩ : ∃ g, w.heap.size = g := ⟨_, rfl⟩
  have hgh := Lib.hid hg
  rw [hg] at k1h
  clear hst hva
  go_enter Tryd.func5, Tryd.ntmps5
  go_wp2_with fail
  refine (HA.out W1 (hrwh.out.of k1h.out.2.2.2.2.1)).mono ?_
  rintro e w3 ⟨rfl, hb3⟩
  have k1h := Lib.hid (k1h.out.next hb3)
  clear hb3 HA hg hW1
  obtain ⟨c10, c11, c12, c13, -⟩ := k1h.out
  go_wp2_with fail
  refine (small_any _ _ _ (one_listP k1h.out.val 25) (by simp only [FT.wt] at hwt; simp only [Fs.wt]; omega)).mono ?_
  rintro e w4 ⟨rfl, hb4⟩
  have k1h := Lib.hid (k1h.out.next (bel_step (bel_laid w3 _) hb4))
  clear hb4 c10 c11 c12 c13
  cases hsm : Fs.small (.cons f.op f.n f.ts f.sub .nil)
  · go_wp2_with fail
    go_ret
    exact ⟨rfl, k1h.out.2.2.2.2.1⟩
  have hsz := Fs.small_size hsm
  simp only [Fs.size] at hsz
  have hfz : f.size = f.ts.size + f.sub.size + 1 := rfl
  have s1 : f.size ≤ 1000 := by omega
  have s6 : f.size ≤ 1000000 := by omega
  clear hsm hsz hfz hwt
  have HP := Lib.hid (parts31_any f s6 _ w4 k1h.out.val)
  obtain ⟨c10, c11, c12, c13, -⟩ := k1h.out
  go_wp2_with fail
  refine HP.out.mono ?_
  rintro e w5 ⟨⟨s, rfl, hR⟩, hb5⟩
  have hLl := parts_list hR s1
  have hpf := hPFh.out s1
  obtain ⟨L, hLe⟩ : ∃ L, Fs.of (pickedT f.parts) = L := ⟨_, rfl⟩
  rw [hLe] at hLl hpf
  have hPFh := Lib.hid hpf
  obtain ⟨pl, cl, rfl, hL2⟩ := id hLl
  have hlen := hpf.len
  obtain ⟨bl, ol, hpl, hLat⟩ := hL2.resolve_left (by omega)
  subst hpl
  have hLat := Lib.hid hLat
  have hLlh := Lib.hid hLl
  have k1h := Lib.hid (k1h.out.next hb5)
  have hLs := hpf.total
  have hLl1 : L.len ≤ 1000000 := Nat.le_trans L.len_le hLs
  clear hb5 c10 c11 c12 c13 HP hR hLe hpf hL2 hLl hLs
  have hl0 : ((L.len : Int) == 0) = false := beq_eq_false_iff_ne.2 (by omega)
  go_wp2_with fail
  have fv := k1h.out.val
  have hk := k1h.out
  obtain ⟨f0, f1, f2, f3, -⟩ := hk
  have hhead := hPFh.out.head
  have sI : (L.get 0).size ≤ 1000000 := Nat.le_trans (hPFh.out.le 0 hlen) s6
  obtain ⟨l0, l1, ⟨ss, l2, ls⟩, ⟨st, l3, lt⟩⟩ := (FsAt.below (Below.refl _ _) hLat.out).get (k := 0) (hlen)
  have lv : FVal w5 (L.get 0) (fval (L.get 0) ss st) := ⟨_, _, rfl, ls, lt⟩
  obtain ⟨ps, cs, rfl, -⟩ := ls
  obtain ⟨pt, ct, rfl, -⟩ := lt
  refine wp_region_run (by kernel_rfl) 137 [16, 17, 18, 19, 20, 21, 22, 23, 24, 25, 26] (JK w5 [(0, 16, .slice (some ⟨bl, ol, none⟩) L.len cl), (1, 17, .int .i64 (L.len : Int)), (2, 18, .bool false), (3, 19, .bool false), (4, 20, .slice (some ⟨bl, ol, none⟩) L.len cl), (5, 21, .pointer (some ⟨bl, ol + 0 * 4, none⟩)), (6, 22, fval (L.get 0) (.slice ps (L.get 0).ts.len cs) (.slice pt (L.get 0).sub.len ct)), (7, 23, .agg #[.int .u8 f.op, .string f.n, .slice pa f.ts.len ca, .slice qa f.sub.len da]), (8, 24, .bool true), (9, 25, .bool false), (10, 26, .bool false)] []) (by kernel_rfl) rfl (JK.start _ _) ?hst11 ?hend11
  case hst11 =>
    have hok : okK [(0, 16, .slice (some ⟨bl, ol, none⟩) L.len cl), (1, 17, .int .i64 (L.len : Int)), (2, 18, .bool false), (3, 19, .bool false), (4, 20, .slice (some ⟨bl, ol, none⟩) L.len cl), (5, 21, .pointer (some ⟨bl, ol + 0 * 4, none⟩)), (6, 22, fval (L.get 0) (.slice ps (L.get 0).ts.len cs) (.slice pt (L.get 0).sub.len ct)), (7, 23, .agg #[.int .u8 f.op, .string f.n, .slice pa f.ts.len ca, .slice qa f.sub.len da]), (8, 24, .bool true), (9, 25, .bool false), (10, 26, .bool false)] [] = true := by kernel_rfl
    have hst : ∀ p ∈ ([] : List (Nat × Nat × (Value → World → Prop))), Stb p.2.2 := fun p hp => (by cases hp)
    refine ⟨?_, ?_, ?_, ?_, ?_, ?_, ?_, ?_, ?_, ?_, ?_, trivial⟩
    · rintro l gv W hun hdep hcl hJ hg ha hp
      refine' op_val ?h1 ?hw1 ?hr1 ?hK1
      case h1 => rfl
      case hw1 => exact rfl
      case hr1 => exact (ex_move rfl (eval_tmp ((ha 3 (by kernel_rfl)).trans rfl)))
      case hK1 => exact ⟨_, hp 16 _ (by kernel_rfl), JK.made hok hst hJ (List.mem_of_getElem? (i := 0) rfl) (Below.refl _ _)⟩
    · rintro l gv W hun hdep hcl hJ hg ha hp
      refine' op_val ?h2 ?hw2 ?hr2 ?hK2
      case h2 => rfl
      case hw2 => exact rfl
      case hr2 => exact (ex_len Tryd.underlying23 rfl ((eval_tmp (hg 16 (by kernel_rfl))).trans (hJ.lit _ (List.mem_of_getElem? (i := 0) rfl) (hdep 0 (by kernel_rfl)))) rfl)
      case hK2 => exact ⟨_, hp 17 _ (by kernel_rfl), JK.made hok hst hJ (List.mem_of_getElem? (i := 1) rfl) (Below.refl _ _)⟩
    · rintro l gv W hun hdep hcl hJ hg ha hp
      refine' op_val ?h3 ?hw3 ?hr3 ?hK3
      case h3 => rfl
      case hw3 => exact rfl
      case hr3 => exact (ex_bin rfl ((eval_tmp (hg 17 (by kernel_rfl))).trans (hJ.lit _ (List.mem_of_getElem? (i := 1) rfl) (hdep 1 (by kernel_rfl)))) rfl (guard_eq _ _ _ _ W) (eql_len hl0 W))
      case hK3 => exact ⟨_, hp 18 _ (by kernel_rfl), JK.made hok hst hJ (List.mem_of_getElem? (i := 2) rfl) (Below.refl _ _)⟩
    · rintro l gv W hun hdep hcl hJ hg ha hp
      refine' op_val ?h4 ?hw4 ?hr4 ?hK4
      case h4 => rfl
      case hw4 => exact rfl
      case hr4 => exact (ex_move rfl ((eval_tmp (hg 18 (by kernel_rfl))).trans (hJ.lit _ (List.mem_of_getElem? (i := 2) rfl) (hdep 2 (by kernel_rfl)))))
      case hK4 => exact ⟨_, hp 19 _ (by kernel_rfl), JK.made hok hst hJ (List.mem_of_getElem? (i := 3) rfl) (Below.refl _ _)⟩
    · rintro l gv W hun hdep hcl hJ hg ha hp
      have eg : gv 19 = .bool false := hJ.lit _ (List.mem_of_getElem? (i := 3) rfl) (hdep 3 (by kernel_rfl))
      have hgd := (hg 19 (by kernel_rfl)).trans (congrArg some eg)
      refine' op_val ?h5 ?hw5 ?hr5 ?hK5
      case h5 => rfl
      case hw5 => exact (wants_yes false rfl (by kernel_rfl) hgd)
      case hr5 => exact (ex_move rfl (eval_tmp ((ha 3 (by kernel_rfl)).trans rfl)))
      case hK5 => exact ⟨_, hp 20 _ (by kernel_rfl), JK.made hok hst hJ (List.mem_of_getElem? (i := 4) rfl) (Below.refl _ _)⟩
    · rintro l gv W hun hdep hcl hJ hg ha hp
      have eg : gv 19 = .bool false := hJ.lit _ (List.mem_of_getElem? (i := 3) rfl) (hdep 3 (by kernel_rfl))
      have hgd := (hg 19 (by kernel_rfl)).trans (congrArg some eg)
      refine' op_val ?h6 ?hw6 ?hr6 ?hK6
      case h6 => rfl
      case hw6 => exact (wants_yes false rfl (by kernel_rfl) hgd)
      case hr6 => exact (ex_indexAddr rfl ((eval_tmp (hg 20 (by kernel_rfl))).trans (hJ.lit _ (List.mem_of_getElem? (i := 4) rfl) (hdep 4 (by kernel_rfl)))) rfl (indexFs (k := 0) hlen))
      case hK6 => exact ⟨_, hp 21 _ (by kernel_rfl), JK.made hok hst hJ (List.mem_of_getElem? (i := 5) rfl) (Below.refl _ _)⟩
    · rintro l gv W hun hdep hcl hJ hg ha hp
      have eg : gv 19 = .bool false := hJ.lit _ (List.mem_of_getElem? (i := 3) rfl) (hdep 3 (by kernel_rfl))
      have hgd := (hg 19 (by kernel_rfl)).trans (congrArg some eg)
      refine' op_val ?h7 ?hw7 ?hr7 ?hK7
      case h7 => rfl
      case hw7 => exact (wants_yes false rfl (by kernel_rfl) hgd)
      case hr7 => exact (ex_load rfl ((eval_tmp (hg 21 (by kernel_rfl))).trans (hJ.lit _ (List.mem_of_getElem? (i := 5) rfl) (hdep 5 (by kernel_rfl)))) (loadFo (cell_below hJ.low l0) (cell_below hJ.low l1) (cell_below hJ.low l2) (cell_below hJ.low l3)))
      case hK7 => exact ⟨_, hp 22 _ (by kernel_rfl), JK.made hok hst hJ (List.mem_of_getElem? (i := 6) rfl) (Below.refl _ _)⟩
    · rintro l gv W hun hdep hcl hJ hg ha hp
      have eg : gv 19 = .bool false := hJ.lit _ (List.mem_of_getElem? (i := 3) rfl) (hdep 3 (by kernel_rfl))
      have hgd := (hg 19 (by kernel_rfl)).trans (congrArg some eg)
      refine' op_val ?h8 ?hw8 ?hr8 ?hK8
      case h8 => rfl
      case hw8 => exact (wants_yes false rfl (by kernel_rfl) hgd)
      case hr8 => exact (ex_load rfl (eval_tmp ((ha 1 (by kernel_rfl)).trans rfl)) (loadFo (cell_below hJ.low f0) (cell_below hJ.low f1) (cell_below hJ.low f2) (cell_below hJ.low f3)))
      case hK8 => exact ⟨_, hp 23 _ (by kernel_rfl), JK.made hok hst hJ (List.mem_of_getElem? (i := 7) rfl) (Below.refl _ _)⟩
    · rintro l gv W hun hdep hcl hJ hg ha hp
      have eg : gv 19 = .bool false := hJ.lit _ (List.mem_of_getElem? (i := 3) rfl) (hdep 3 (by kernel_rfl))
      have hgd := (hg 19 (by kernel_rfl)).trans (congrArg some eg)
      refine' op_call ?h9 ?hw9 ?hr9 ?hc9
      case h9 => rfl
      case hw9 => exact (wants_yes false rfl (by kernel_rfl) hgd)
      case hr9 => exact (ex_call2 (enters_of Tryd.func12 (by kernel_rfl) rfl) rfl ((eval_tmp (hg 22 (by kernel_rfl))).trans (hJ.lit _ (List.mem_of_getElem? (i := 6) rfl) (hdep 6 (by kernel_rfl)))) ((eval_tmp (hg 23 (by kernel_rfl))).trans (hJ.lit _ (List.mem_of_getElem? (i := 7) rfl) (hdep 7 (by kernel_rfl)))))
      case hc9 =>
        refine (sameF_any (L.get 0) _ f _ W (FVal.below hJ.low lv) (FVal.below hJ.low fv) sI s6).mono ?_
        rintro e W' ⟨rfl, hb⟩
        exact ⟨_, (congrArg (fun b => Ending.returned (Value.bool b)) (hhead)), _, hp 24 _ (by kernel_rfl), JK.made hok hst hJ (List.mem_of_getElem? (i := 8) rfl) hb⟩
    · rintro l gv W hun hdep hcl hJ hg ha hp
      have eg : gv 19 = .bool false := hJ.lit _ (List.mem_of_getElem? (i := 3) rfl) (hdep 3 (by kernel_rfl))
      have hgd := (hg 19 (by kernel_rfl)).trans (congrArg some eg)
      refine' op_val ?h10 ?hw10 ?hr10 ?hK10
      case h10 => rfl
      case hw10 => exact (wants_yes false rfl (by kernel_rfl) hgd)
      case hr10 => exact (ex_not rfl ((eval_tmp (hg 24 (by kernel_rfl))).trans (hJ.lit _ (List.mem_of_getElem? (i := 8) rfl) (hdep 8 (by kernel_rfl)))))
      case hK10 => exact ⟨_, hp 25 _ (by kernel_rfl), JK.made hok hst hJ (List.mem_of_getElem? (i := 9) rfl) (Below.refl _ _)⟩
    · rintro l gv W hun hdep hcl hJ hg ha hp
      refine' op_val ?h11 ?hw11 ?hr11 ?hK11
      case h11 => rfl
      case hw11 => exact rfl
      case hr11 => exact (ex_pickF rfl ((eval_tmp (hg 19 (by kernel_rfl))).trans (hJ.lit _ (List.mem_of_getElem? (i := 3) rfl) (hdep 3 (by kernel_rfl)))) ((eval_tmp (hg 25 (by kernel_rfl))).trans (hJ.lit _ (List.mem_of_getElem? (i := 9) rfl) (hdep 9 (by kernel_rfl)))))
      case hK11 => exact ⟨_, hp 26 _ (by kernel_rfl), JK.made hok hst hJ (List.mem_of_getElem? (i := 10) rfl) (Below.refl _ _)⟩
  case hend11 =>
    rintro ll gv W9 hl hJ
    have e16 : gv 16 = .slice (some ⟨bl, ol, none⟩) L.len cl := hJ.lit _ (List.mem_of_getElem? (i := 0) rfl) (hl 0 (of_decide_eq_true (by kernel_rfl)))
    have e17 : gv 17 = .int .i64 (L.len : Int) := hJ.lit _ (List.mem_of_getElem? (i := 1) rfl) (hl 1 (of_decide_eq_true (by kernel_rfl)))
    have e18 : gv 18 = .bool false := hJ.lit _ (List.mem_of_getElem? (i := 2) rfl) (hl 2 (of_decide_eq_true (by kernel_rfl)))
    have e19 : gv 19 = .bool false := hJ.lit _ (List.mem_of_getElem? (i := 3) rfl) (hl 3 (of_decide_eq_true (by kernel_rfl)))
    have e20 : gv 20 = .slice (some ⟨bl, ol, none⟩) L.len cl := hJ.lit _ (List.mem_of_getElem? (i := 4) rfl) (hl 4 (of_decide_eq_true (by kernel_rfl)))
    have e21 : gv 21 = .pointer (some ⟨bl, ol + 0 * 4, none⟩) := hJ.lit _ (List.mem_of_getElem? (i := 5) rfl) (hl 5 (of_decide_eq_true (by kernel_rfl)))
    have e22 : gv 22 = fval (L.get 0) (.slice ps (L.get 0).ts.len cs) (.slice pt (L.get 0).sub.len ct) := hJ.lit _ (List.mem_of_getElem? (i := 6) rfl) (hl 6 (of_decide_eq_true (by kernel_rfl)))
    have e23 : gv 23 = .agg #[.int .u8 f.op, .string f.n, .slice pa f.ts.len ca, .slice qa f.sub.len da] := hJ.lit _ (List.mem_of_getElem? (i := 7) rfl) (hl 7 (of_decide_eq_true (by kernel_rfl)))
    have e24 : gv 24 = .bool true := hJ.lit _ (List.mem_of_getElem? (i := 8) rfl) (hl 8 (of_decide_eq_true (by kernel_rfl)))
    have e25 : gv 25 = .bool false := hJ.lit _ (List.mem_of_getElem? (i := 9) rfl) (hl 9 (of_decide_eq_true (by kernel_rfl)))
    have e26 : gv 26 = .bool false := hJ.lit _ (List.mem_of_getElem? (i := 10) rfl) (hl 10 (of_decide_eq_true (by kernel_rfl)))
    simp only [zipV, List.map_cons, List.map_nil, puts, Act.put, List.setIfInBounds_toArray, List.set_cons_succ, List.set_cons_zero, e16, e17, e18, e19, e20, e21, e22, e23, e24, e25, e26]
    have hlow := Lib.hid hJ.low
    clear e16 e17 e18 e19 e20 e21 e22 e23 e24 e25 e26 hJ hl
    simp only [Nat.zero_mul, Nat.add_zero]
    clear l0 l1 l2 l3 lv
    have hlow6 := hlow
    obtain ⟨w6, hw6⟩ : ∃ w6, W9 = w6 := ⟨_, rfl⟩
    rw [hw6] at hlow6 ⊢
    clear hlow hw6 f0 f1 f2 f3 fv
    have k1h := Lib.hid (k1h.out.next hlow6.out)
    have hLat := Lib.hid (FsAt.below hlow6.out hLat.out)
    have hLlh := Lib.hid (FSl.below hlow6.out hLlh.out)
    go_wp2_with fail
    have fv := k1h.out.val
    have hk := k1h.out
    obtain ⟨f0, f1, f2, f3, -⟩ := hk
    obtain ⟨rb, hrb⟩ : ∃ b, (f.fits && f.right false) = b := ⟨_, rfl⟩
    obtain ⟨sb, hsb⟩ : ∃ b, (f.fits && f.right true) = b := ⟨_, rfl⟩
    have hrs : rb = true → sb = true := by
      rw [← hrb, ← hsb, Bool.and_eq_true, Bool.and_eq_true]
      exact fun h => ⟨h.1, FT.right_mono h.2⟩
    have hrw6 : ∀ W, Below w6.heap.size w6 W → Rws W := fun W hb => hrwh.out.of (bel_step k1h.out.2.2.2.2.1 hb)
    refine wp_region_run (by kernel_rfl) 137 [27, 28, 29, 30, 4, 5] (JK w6 [(0, 27, .agg #[.int .u8 f.op, .string f.n, .slice pa f.ts.len ca, .slice qa f.sub.len da]), (1, 28, .bool rb), (2, 29, .agg #[.int .u8 f.op, .string f.n, .slice pa f.ts.len ca, .slice qa f.sub.len da]), (3, 30, .bool sb), (4, 4, .bool rb), (5, 5, .bool sb)] []) (by kernel_rfl) rfl (JK.start _ _) ?hst17 ?hend17
    case hst17 =>
      have hok : okK [(0, 27, .agg #[.int .u8 f.op, .string f.n, .slice pa f.ts.len ca, .slice qa f.sub.len da]), (1, 28, .bool rb), (2, 29, .agg #[.int .u8 f.op, .string f.n, .slice pa f.ts.len ca, .slice qa f.sub.len da]), (3, 30, .bool sb), (4, 4, .bool rb), (5, 5, .bool sb)] [] = true := by kernel_rfl
      have hst : ∀ p ∈ ([] : List (Nat × Nat × (Value → World → Prop))), Stb p.2.2 := fun p hp => (by cases hp)
      refine ⟨?_, ?_, ?_, ?_, ?_, ?_, trivial⟩
      · rintro l gv W hun hdep hcl hJ hg ha hp
        refine' op_val ?h12 ?hw12 ?hr12 ?hK12
        case h12 => rfl
        case hw12 => exact rfl
        case hr12 => exact (ex_load rfl (eval_tmp ((ha 1 (by kernel_rfl)).trans rfl)) (loadFo (cell_below hJ.low f0) (cell_below hJ.low f1) (cell_below hJ.low f2) (cell_below hJ.low f3)))
        case hK12 => exact ⟨_, hp 27 _ (by kernel_rfl), JK.made hok hst hJ (List.mem_of_getElem? (i := 0) rfl) (Below.refl _ _)⟩
      · rintro l gv W hun hdep hcl hJ hg ha hp
        refine' op_call ?h13 ?hw13 ?hr13 ?hc13
        case h13 => rfl
        case hw13 => exact rfl
        case hr13 => exact (ex_call1 (enters_of Tryd.func15 (by kernel_rfl) rfl) rfl ((eval_tmp (hg 27 (by kernel_rfl))).trans (hJ.lit _ (List.mem_of_getElem? (i := 0) rfl) (hdep 0 (by kernel_rfl)))))
        case hc13 =>
          refine (right_any f s6 _ W (hrw6 W hJ.low) (FVal.below hJ.low fv)).mono ?_
          rintro e W' ⟨rfl, hb⟩
          exact ⟨_, (congrArg (fun b => Ending.returned (Value.bool b)) (hrb)), _, hp 28 _ (by kernel_rfl), JK.made hok hst hJ (List.mem_of_getElem? (i := 1) rfl) hb⟩
      · rintro l gv W hun hdep hcl hJ hg ha hp
        refine' op_val ?h14 ?hw14 ?hr14 ?hK14
        case h14 => rfl
        case hw14 => exact rfl
        case hr14 => exact (ex_load rfl (eval_tmp ((ha 1 (by kernel_rfl)).trans rfl)) (loadFo (cell_below hJ.low f0) (cell_below hJ.low f1) (cell_below hJ.low f2) (cell_below hJ.low f3)))
        case hK14 => exact ⟨_, hp 29 _ (by kernel_rfl), JK.made hok hst hJ (List.mem_of_getElem? (i := 2) rfl) (Below.refl _ _)⟩
      · rintro l gv W hun hdep hcl hJ hg ha hp
        refine' op_call ?h15 ?hw15 ?hr15 ?hc15
        case h15 => rfl
        case hw15 => exact rfl
        case hr15 => exact (ex_call1 (enters_of Tryd.func16 (by kernel_rfl) rfl) rfl ((eval_tmp (hg 29 (by kernel_rfl))).trans (hJ.lit _ (List.mem_of_getElem? (i := 2) rfl) (hdep 2 (by kernel_rfl)))))
        case hc15 =>
          refine (schema_any f s6 _ W (hrw6 W hJ.low) (FVal.below hJ.low fv)).mono ?_
          rintro e W' ⟨rfl, hb⟩
          exact ⟨_, (congrArg (fun b => Ending.returned (Value.bool b)) (hsb)), _, hp 30 _ (by kernel_rfl), JK.made hok hst hJ (List.mem_of_getElem? (i := 3) rfl) hb⟩
      · rintro l gv W hun hdep hcl hJ hg ha hp
        refine' op_val ?h16 ?hw16 ?hr16 ?hK16
        case h16 => rfl
        case hw16 => exact rfl
        case hr16 => exact (ex_assign rfl ((eval_tmp (hg 28 (by kernel_rfl))).trans (hJ.lit _ (List.mem_of_getElem? (i := 1) rfl) (hdep 1 (by kernel_rfl)))))
        case hK16 => exact ⟨_, hp 4 _ (by kernel_rfl), JK.made hok hst hJ (List.mem_of_getElem? (i := 4) rfl) (Below.refl _ _)⟩
      · rintro l gv W hun hdep hcl hJ hg ha hp
        refine' op_val ?h17 ?hw17 ?hr17 ?hK17
        case h17 => rfl
        case hw17 => exact rfl
        case hr17 => exact (ex_assign rfl ((eval_tmp (hg 30 (by kernel_rfl))).trans (hJ.lit _ (List.mem_of_getElem? (i := 3) rfl) (hdep 3 (by kernel_rfl)))))
        case hK17 => exact ⟨_, hp 5 _ (by kernel_rfl), JK.made hok hst hJ (List.mem_of_getElem? (i := 5) rfl) (Below.refl _ _)⟩
    case hend17 =>
      rintro ll gv W9 hl hJ
      have e27 : gv 27 = .agg #[.int .u8 f.op, .string f.n, .slice pa f.ts.len ca, .slice qa f.sub.len da] := hJ.lit _ (List.mem_of_getElem? (i := 0) rfl) (hl 0 (of_decide_eq_true (by kernel_rfl)))
      have e28 : gv 28 = .bool rb := hJ.lit _ (List.mem_of_getElem? (i := 1) rfl) (hl 1 (of_decide_eq_true (by kernel_rfl)))
      have e29 : gv 29 = .agg #[.int .u8 f.op, .string f.n, .slice pa f.ts.len ca, .slice qa f.sub.len da] := hJ.lit _ (List.mem_of_getElem? (i := 2) rfl) (hl 2 (of_decide_eq_true (by kernel_rfl)))
      have e30 : gv 30 = .bool sb := hJ.lit _ (List.mem_of_getElem? (i := 3) rfl) (hl 3 (of_decide_eq_true (by kernel_rfl)))
      have e4 : gv 4 = .bool rb := hJ.lit _ (List.mem_of_getElem? (i := 4) rfl) (hl 4 (of_decide_eq_true (by kernel_rfl)))
      have e5 : gv 5 = .bool sb := hJ.lit _ (List.mem_of_getElem? (i := 5) rfl) (hl 5 (of_decide_eq_true (by kernel_rfl)))
      simp only [zipV, List.map_cons, List.map_nil, puts, Act.put, List.setIfInBounds_toArray, List.set_cons_succ, List.set_cons_zero, e27, e28, e29, e30, e4, e5]
      have hlow := Lib.hid hJ.low
      clear e27 e28 e29 e30 e4 e5 hJ hl
      clear f0 f1 f2 f3 fv hrw6
      obtain ⟨w8, hw8⟩ : ∃ w8, W9 = w8 := ⟨_, rfl⟩
      have hlow8 := hlow
      rw [hw8] at hlow8 ⊢
      clear hlow hw8
      have k1h := Lib.hid (k1h.out.next hlow8.out)
      have hLat := Lib.hid (FsAt.below hlow8.out hLat.out)
      have hLlh := Lib.hid (FSl.below hlow8.out hLlh.out)
      have hrbh := Lib.hid hrb
      have hsbh := Lib.hid hsb
      have hrsh := Lib.hid hrs
      have hcond : Hid ((if rb = true then !sb else false) = false) := Lib.hid (by cases rb with | false => rfl | true => rw [hrs rfl]; rfl)
      clear hrb hsb hrs
      have hg9 : ∀ b : Bool, b = true ∨ b = false := fun b => by cases b <;> simp
      rcases hg9 rb with hv | hv
      · rcases hg9 sb with hv2 | hv2
        · subst hv hv2
          go_wp2_with fail
          go_loopw [6] (fun s6 wr => ∃ i : Nat, s6 = .int .i64 (i : Int) ∧ i ≤ L.len ∧ Below w8.heap.size w8 wr) (fun s6 _ => L.len - (intOf s6).toNat)
          case atStart => exact ⟨0, rfl, Nat.zero_le _, Below.refl _ _⟩
          case round =>
            obtain ⟨i, rfl, hil, hbr⟩ := hrel
            have h8r := Lib.hid hbr
            clear hbr
            have hk1 := k1h.out.next h8r.out
            obtain ⟨f0, f1, f2, f3, -⟩ := id hk1
            have fv := hk1.val
            by_cases hiL : i < L.len
            · have hi1 : (i : Int) < (L.len : Int) := by omega
              have hkw : IntKind.i64.wrap ((i : Int) + 1) = (i : Int) + 1 := IntWalk.i64_in _ (by omega)
              have sI : (L.get i).size ≤ 1000000 := Nat.le_trans (hPFh.out.le i hiL) s6
              obtain ⟨l0, l1, ⟨ss, l2, ls⟩, ⟨st, l3, lt⟩⟩ := (FsAt.below h8r.out hLat.out).get (k := i) hiL
              have lv : FVal wr (L.get i) (fval (L.get i) ss st) := ⟨_, _, rfl, ls, lt⟩
              obtain ⟨ps, cs, rfl, -⟩ := ls
              obtain ⟨pt, ct, rfl, -⟩ := lt
              go_wp2_with fail
              have hrw8 : ∀ W, Below wr.heap.size wr W → Rws W := fun W hb => hrwh.out.of (bel_step k1h.out.2.2.2.2.1 (bel_step h8r.out hb))
              obtain ⟨ib, hib⟩ : ∃ b, decide ((0 : Int) < (i : Int)) = b := ⟨_, rfl⟩
              have hib1 : ib = true → 0 < i := fun h => by rw [← hib, decide_eq_true_eq] at h; omega
              have hn1 := preds_len (L.get i) sI
              have hn2 := preds_len f s6
              have hn3 := funcs_len (L.get i) sI
              have hn4 := funcs_len f s6
              refine wp_region_run (by kernel_rfl) 137 [42, 43, 44, 45, 46, 47, 48, 49, 50, 51, 52, 53, 54, 55, 56, 57, 58, 59, 60, 61, 62, 63, 64, 65, 66, 67, 68, 69, 70, 71, 72, 73, 74, 75, 76, 77, 78, 79, 80, 81, 82, 83, 84, 85, 86, 87, 88, 89, 90, 91, 92, 93, 94, 95, 96, 97, 98, 99, 100, 101, 102, 103, 104, 105, 106, 107, 108, 109, 110, 111, 112, 113, 114, 115, 116, 117, 118] (JK wr [(0, 42, .bool true), (1, 43, .bool true), (2, 44, .slice (some ⟨bl, ol, none⟩) L.len cl), (3, 45, .int .i64 (i : Int)), (4, 46, .pointer (some ⟨bl, ol + i * 4, none⟩)), (5, 47, fval (L.get i) (.slice ps (L.get i).ts.len cs) (.slice pt (L.get i).sub.len ct)), (6, 48, .bool true), (7, 49, .bool false), (8, 50, .bool false), (9, 51, .bool false), (10, 52, .bool true), (11, 53, .bool true), (12, 54, .slice (some ⟨bl, ol, none⟩) L.len cl), (13, 55, .int .i64 (i : Int)), (14, 56, .pointer (some ⟨bl, ol + i * 4, none⟩)), (15, 57, fval (L.get i) (.slice ps (L.get i).ts.len cs) (.slice pt (L.get i).sub.len ct)), (16, 58, .bool true), (17, 59, .bool false), (18, 60, .bool false), (19, 61, .bool false), (20, 62, .bool false), (21, 63, .slice (some ⟨bl, ol, none⟩) L.len cl), (22, 64, .int .i64 (i : Int)), (23, 65, .pointer (some ⟨bl, ol + i * 4, none⟩)), (24, 66, fval (L.get i) (.slice ps (L.get i).ts.len cs) (.slice pt (L.get i).sub.len ct)), (25, 67, mval (maskOf (L.get i).parts)), (26, 68, .agg #[.int .u8 f.op, .string f.n, .slice pa f.ts.len ca, .slice qa f.sub.len da]), (27, 69, mval (maskOf f.parts)), (28, 70, mval 0#32), (29, 71, .bool false), (30, 72, .bool false), (31, 73, .bool false), (32, 74, .int .i64 (i : Int)), (33, 75, .bool ib), (34, 76, .bool ib), (35, 77, cond ib (.slice (some ⟨bl, ol, none⟩) L.len cl) undef), (36, 78, cond ib (.int .i64 (i : Int)) undef), (37, 79, cond ib (.pointer (some ⟨bl, ol + i * 4, none⟩)) undef), (38, 80, cond ib (fval (L.get i) (.slice ps (L.get i).ts.len cs) (.slice pt (L.get i).sub.len ct)) undef), (39, 81, cond ib (.int .i64 ((L.get i).size : Int)) undef), (40, 82, cond ib (.agg #[.int .u8 f.op, .string f.n, .slice pa f.ts.len ca, .slice qa f.sub.len da]) undef), (41, 83, cond ib (.int .i64 (f.size : Int)) undef), (42, 84, cond ib (.bool false) undef), (43, 85, cond ib (.bool false) undef), (44, 86, cond ib (.slice (some ⟨bl, ol, none⟩) L.len cl) undef), (45, 87, cond ib (.int .i64 (i : Int)) undef), (46, 88, cond ib (.pointer (some ⟨bl, ol + i * 4, none⟩)) undef), (47, 89, cond ib (fval (L.get i) (.slice ps (L.get i).ts.len cs) (.slice pt (L.get i).sub.len ct)) undef), (48, 90, cond ib (.int .i64 ((L.get i).deep : Int)) undef), (49, 91, cond ib (.agg #[.int .u8 f.op, .string f.n, .slice pa f.ts.len ca, .slice qa f.sub.len da]) undef), (50, 92, cond ib (.int .i64 (f.deep : Int)) undef), (51, 93, cond ib (.bool false) undef), (52, 94, cond ib (.bool false) undef), (53, 95, .bool false), (54, 96, .bool false), (55, 97, .bool false), (56, 98, .slice (some ⟨bl, ol, none⟩) L.len cl), (57, 99, .int .i64 (i : Int)), (58, 100, .pointer (some ⟨bl, ol + i * 4, none⟩)), (59, 101, fval (L.get i) (.slice ps (L.get i).ts.len cs) (.slice pt (L.get i).sub.len ct)), (61, 103, .agg #[.int .u8 f.op, .string f.n, .slice pa f.ts.len ca, .slice qa f.sub.len da]), (63, 105, .bool true), (64, 106, .bool false), (65, 107, .bool false), (66, 108, .bool false), (67, 109, .slice (some ⟨bl, ol, none⟩) L.len cl), (68, 110, .int .i64 (i : Int)), (69, 111, .pointer (some ⟨bl, ol + i * 4, none⟩)), (70, 112, fval (L.get i) (.slice ps (L.get i).ts.len cs) (.slice pt (L.get i).sub.len ct)), (72, 114, .agg #[.int .u8 f.op, .string f.n, .slice pa f.ts.len ca, .slice qa f.sub.len da]), (74, 116, .bool true), (75, 117, .bool false), (76, 118, .bool false)] [(60, 102, fun v W => SySl W (uniq (ms ((L.get i).parts.flatMap symP))) v), (62, 104, fun v W => SySl W (uniq (ms (f.parts.flatMap symP))) v), (71, 113, fun v W => SySl W (uniq (ms ((L.get i).terms.flatMap symT))) v), (73, 115, fun v W => SySl W (uniq (ms (f.terms.flatMap symT))) v)]) (by kernel_rfl) rfl (JK.start _ _) ?hst113 ?hend113
              case hst113 =>
                have hok : okK [(0, 42, .bool true), (1, 43, .bool true), (2, 44, .slice (some ⟨bl, ol, none⟩) L.len cl), (3, 45, .int .i64 (i : Int)), (4, 46, .pointer (some ⟨bl, ol + i * 4, none⟩)), (5, 47, fval (L.get i) (.slice ps (L.get i).ts.len cs) (.slice pt (L.get i).sub.len ct)), (6, 48, .bool true), (7, 49, .bool false), (8, 50, .bool false), (9, 51, .bool false), (10, 52, .bool true), (11, 53, .bool true), (12, 54, .slice (some ⟨bl, ol, none⟩) L.len cl), (13, 55, .int .i64 (i : Int)), (14, 56, .pointer (some ⟨bl, ol + i * 4, none⟩)), (15, 57, fval (L.get i) (.slice ps (L.get i).ts.len cs) (.slice pt (L.get i).sub.len ct)), (16, 58, .bool true), (17, 59, .bool false), (18, 60, .bool false), (19, 61, .bool false), (20, 62, .bool false), (21, 63, .slice (some ⟨bl, ol, none⟩) L.len cl), (22, 64, .int .i64 (i : Int)), (23, 65, .pointer (some ⟨bl, ol + i * 4, none⟩)), (24, 66, fval (L.get i) (.slice ps (L.get i).ts.len cs) (.slice pt (L.get i).sub.len ct)), (25, 67, mval (maskOf (L.get i).parts)), (26, 68, .agg #[.int .u8 f.op, .string f.n, .slice pa f.ts.len ca, .slice qa f.sub.len da]), (27, 69, mval (maskOf f.parts)), (28, 70, mval 0#32), (29, 71, .bool false), (30, 72, .bool false), (31, 73, .bool false), (32, 74, .int .i64 (i : Int)), (33, 75, .bool ib), (34, 76, .bool ib), (35, 77, cond ib (.slice (some ⟨bl, ol, none⟩) L.len cl) undef), (36, 78, cond ib (.int .i64 (i : Int)) undef), (37, 79, cond ib (.pointer (some ⟨bl, ol + i * 4, none⟩)) undef), (38, 80, cond ib (fval (L.get i) (.slice ps (L.get i).ts.len cs) (.slice pt (L.get i).sub.len ct)) undef), (39, 81, cond ib (.int .i64 ((L.get i).size : Int)) undef), (40, 82, cond ib (.agg #[.int .u8 f.op, .string f.n, .slice pa f.ts.len ca, .slice qa f.sub.len da]) undef), (41, 83, cond ib (.int .i64 (f.size : Int)) undef), (42, 84, cond ib (.bool false) undef), (43, 85, cond ib (.bool false) undef), (44, 86, cond ib (.slice (some ⟨bl, ol, none⟩) L.len cl) undef), (45, 87, cond ib (.int .i64 (i : Int)) undef), (46, 88, cond ib (.pointer (some ⟨bl, ol + i * 4, none⟩)) undef), (47, 89, cond ib (fval (L.get i) (.slice ps (L.get i).ts.len cs) (.slice pt (L.get i).sub.len ct)) undef), (48, 90, cond ib (.int .i64 ((L.get i).deep : Int)) undef), (49, 91, cond ib (.agg #[.int .u8 f.op, .string f.n, .slice pa f.ts.len ca, .slice qa f.sub.len da]) undef), (50, 92, cond ib (.int .i64 (f.deep : Int)) undef), (51, 93, cond ib (.bool false) undef), (52, 94, cond ib (.bool false) undef), (53, 95, .bool false), (54, 96, .bool false), (55, 97, .bool false), (56, 98, .slice (some ⟨bl, ol, none⟩) L.len cl), (57, 99, .int .i64 (i : Int)), (58, 100, .pointer (some ⟨bl, ol + i * 4, none⟩)), (59, 101, fval (L.get i) (.slice ps (L.get i).ts.len cs) (.slice pt (L.get i).sub.len ct)), (61, 103, .agg #[.int .u8 f.op, .string f.n, .slice pa f.ts.len ca, .slice qa f.sub.len da]), (63, 105, .bool true), (64, 106, .bool false), (65, 107, .bool false), (66, 108, .bool false), (67, 109, .slice (some ⟨bl, ol, none⟩) L.len cl), (68, 110, .int .i64 (i : Int)), (69, 111, .pointer (some ⟨bl, ol + i * 4, none⟩)), (70, 112, fval (L.get i) (.slice ps (L.get i).ts.len cs) (.slice pt (L.get i).sub.len ct)), (72, 114, .agg #[.int .u8 f.op, .string f.n, .slice pa f.ts.len ca, .slice qa f.sub.len da]), (74, 116, .bool true), (75, 117, .bool false), (76, 118, .bool false)] [(60, 102, fun v W => SySl W (uniq (ms ((L.get i).parts.flatMap symP))) v), (62, 104, fun v W => SySl W (uniq (ms (f.parts.flatMap symP))) v), (71, 113, fun v W => SySl W (uniq (ms ((L.get i).terms.flatMap symT))) v), (73, 115, fun v W => SySl W (uniq (ms (f.terms.flatMap symT))) v)] = true := by kernel_rfl
                have hst : ∀ p ∈ ([(60, 102, fun v W => SySl W (uniq (ms ((L.get i).parts.flatMap symP))) v), (62, 104, fun v W => SySl W (uniq (ms (f.parts.flatMap symP))) v), (71, 113, fun v W => SySl W (uniq (ms ((L.get i).terms.flatMap symT))) v), (73, 115, fun v W => SySl W (uniq (ms (f.terms.flatMap symT))) v)] : List (Nat × Nat × (Value → World → Prop))), Stb p.2.2 := by
                    intro p hp
                    simp only [List.mem_cons, List.not_mem_nil, or_false] at hp
                    rcases hp with rfl | rfl | rfl | rfl <;> exact fun v W W' hb h => SySl.below hb h
                refine ⟨?_, ?_, ?_, ?_, ?_, ?_, ?_, ?_, ?_, ?_, ?_, ?_, ?_, ?_, ?_, ?_, ?_, ?_, ?_, ?_, ?_, ?_, ?_, ?_, ?_, ?_, ?_, ?_, ?_, ?_, ?_, ?_, ?_, ?_, ?_, ?_, ?_, ?_, ?_, ?_, ?_, ?_, ?_, ?_, ?_, ?_, ?_, ?_, ?_, ?_, ?_, ?_, ?_, ?_, ?_, ?_, ?_, ?_, ?_, ?_, ?_, ?_, ?_, ?_, ?_, ?_, ?_, ?_, ?_, ?_, ?_, ?_, ?_, ?_, ?_, ?_, ?_, trivial⟩
                · rintro l gv W hun hdep hcl hJ hg ha hp
                  refine' op_val ?h18 ?hw18 ?hr18 ?hK18
                  case h18 => rfl
                  case hw18 => exact rfl
                  case hr18 => exact (ex_move rfl (eval_tmp ((ha 4 (by kernel_rfl)).trans rfl)))
                  case hK18 => exact ⟨_, hp 42 _ (by kernel_rfl), JK.made hok hst hJ (List.mem_of_getElem? (i := 0) rfl) (Below.refl _ _)⟩
                · rintro l gv W hun hdep hcl hJ hg ha hp
                  refine' op_val ?h19 ?hw19 ?hr19 ?hK19
                  case h19 => rfl
                  case hw19 => exact rfl
                  case hr19 => exact (ex_move rfl ((eval_tmp (hg 42 (by kernel_rfl))).trans (hJ.lit _ (List.mem_of_getElem? (i := 0) rfl) (hdep 0 (by kernel_rfl)))))
                  case hK19 => exact ⟨_, hp 43 _ (by kernel_rfl), JK.made hok hst hJ (List.mem_of_getElem? (i := 1) rfl) (Below.refl _ _)⟩
                · rintro l gv W hun hdep hcl hJ hg ha hp
                  have eg : gv 43 = .bool true := hJ.lit _ (List.mem_of_getElem? (i := 1) rfl) (hdep 1 (by kernel_rfl))
                  have hgd := (hg 43 (by kernel_rfl)).trans (congrArg some eg)
                  refine' op_val ?h20 ?hw20 ?hr20 ?hK20
                  case h20 => rfl
                  case hw20 => exact (wants_yes true rfl (by kernel_rfl) hgd)
                  case hr20 => exact (ex_move rfl (eval_tmp ((ha 3 (by kernel_rfl)).trans rfl)))
                  case hK20 => exact ⟨_, hp 44 _ (by kernel_rfl), JK.made hok hst hJ (List.mem_of_getElem? (i := 2) rfl) (Below.refl _ _)⟩
                · rintro l gv W hun hdep hcl hJ hg ha hp
                  have eg : gv 43 = .bool true := hJ.lit _ (List.mem_of_getElem? (i := 1) rfl) (hdep 1 (by kernel_rfl))
                  have hgd := (hg 43 (by kernel_rfl)).trans (congrArg some eg)
                  refine' op_val ?h21 ?hw21 ?hr21 ?hK21
                  case h21 => rfl
                  case hw21 => exact (wants_yes true rfl (by kernel_rfl) hgd)
                  case hr21 => exact (ex_move rfl (eval_tmp ((ha 6 (by kernel_rfl)).trans rfl)))
                  case hK21 => exact ⟨_, hp 45 _ (by kernel_rfl), JK.made hok hst hJ (List.mem_of_getElem? (i := 3) rfl) (Below.refl _ _)⟩
                · rintro l gv W hun hdep hcl hJ hg ha hp
                  have eg : gv 43 = .bool true := hJ.lit _ (List.mem_of_getElem? (i := 1) rfl) (hdep 1 (by kernel_rfl))
                  have hgd := (hg 43 (by kernel_rfl)).trans (congrArg some eg)
                  refine' op_val ?h22 ?hw22 ?hr22 ?hK22
                  case h22 => rfl
                  case hw22 => exact (wants_yes true rfl (by kernel_rfl) hgd)
                  case hr22 => exact (ex_indexAddr rfl ((eval_tmp (hg 44 (by kernel_rfl))).trans (hJ.lit _ (List.mem_of_getElem? (i := 2) rfl) (hdep 2 (by kernel_rfl)))) ((eval_tmp (hg 45 (by kernel_rfl))).trans (hJ.lit _ (List.mem_of_getElem? (i := 3) rfl) (hdep 3 (by kernel_rfl)))) (indexFs hiL))
                  case hK22 => exact ⟨_, hp 46 _ (by kernel_rfl), JK.made hok hst hJ (List.mem_of_getElem? (i := 4) rfl) (Below.refl _ _)⟩
                · rintro l gv W hun hdep hcl hJ hg ha hp
                  have eg : gv 43 = .bool true := hJ.lit _ (List.mem_of_getElem? (i := 1) rfl) (hdep 1 (by kernel_rfl))
                  have hgd := (hg 43 (by kernel_rfl)).trans (congrArg some eg)
                  refine' op_val ?h23 ?hw23 ?hr23 ?hK23
                  case h23 => rfl
                  case hw23 => exact (wants_yes true rfl (by kernel_rfl) hgd)
                  case hr23 => exact (ex_load rfl ((eval_tmp (hg 46 (by kernel_rfl))).trans (hJ.lit _ (List.mem_of_getElem? (i := 4) rfl) (hdep 4 (by kernel_rfl)))) (loadFo (cell_below hJ.low l0) (cell_below hJ.low l1) (cell_below hJ.low l2) (cell_below hJ.low l3)))
                  case hK23 => exact ⟨_, hp 47 _ (by kernel_rfl), JK.made hok hst hJ (List.mem_of_getElem? (i := 5) rfl) (Below.refl _ _)⟩
                · rintro l gv W hun hdep hcl hJ hg ha hp
                  have eg : gv 43 = .bool true := hJ.lit _ (List.mem_of_getElem? (i := 1) rfl) (hdep 1 (by kernel_rfl))
                  have hgd := (hg 43 (by kernel_rfl)).trans (congrArg some eg)
                  refine' op_call ?h24 ?hw24 ?hr24 ?hc24
                  case h24 => rfl
                  case hw24 => exact (wants_yes true rfl (by kernel_rfl) hgd)
                  case hr24 => exact (ex_call1 (enters_of Tryd.func15 (by kernel_rfl) rfl) rfl ((eval_tmp (hg 47 (by kernel_rfl))).trans (hJ.lit _ (List.mem_of_getElem? (i := 5) rfl) (hdep 5 (by kernel_rfl)))))
                  case hc24 =>
                    refine (right_any (L.get i) sI _ W (hrw8 W hJ.low) (FVal.below hJ.low lv)).mono ?_
                    rintro e W' ⟨rfl, hb⟩
                    exact ⟨_, (congrArg (fun b => Ending.returned (Value.bool b)) (hPFh.out.right i hiL false hrbh.out)), _, hp 48 _ (by kernel_rfl), JK.made hok hst hJ (List.mem_of_getElem? (i := 6) rfl) hb⟩
                · rintro l gv W hun hdep hcl hJ hg ha hp
                  have eg : gv 43 = .bool true := hJ.lit _ (List.mem_of_getElem? (i := 1) rfl) (hdep 1 (by kernel_rfl))
                  have hgd := (hg 43 (by kernel_rfl)).trans (congrArg some eg)
                  refine' op_val ?h25 ?hw25 ?hr25 ?hK25
                  case h25 => rfl
                  case hw25 => exact (wants_yes true rfl (by kernel_rfl) hgd)
                  case hr25 => exact (ex_not rfl ((eval_tmp (hg 48 (by kernel_rfl))).trans (hJ.lit _ (List.mem_of_getElem? (i := 6) rfl) (hdep 6 (by kernel_rfl)))))
                  case hK25 => exact ⟨_, hp 49 _ (by kernel_rfl), JK.made hok hst hJ (List.mem_of_getElem? (i := 7) rfl) (Below.refl _ _)⟩
                · rintro l gv W hun hdep hcl hJ hg ha hp
                  refine' op_val ?h26 ?hw26 ?hr26 ?hK26
                  case h26 => rfl
                  case hw26 => exact rfl
                  case hr26 => exact (ex_pick rfl ((eval_tmp (hg 43 (by kernel_rfl))).trans (hJ.lit _ (List.mem_of_getElem? (i := 1) rfl) (hdep 1 (by kernel_rfl)))) ((eval_tmp (hg 49 (by kernel_rfl))).trans (hJ.lit _ (List.mem_of_getElem? (i := 7) rfl) (hdep 7 (by kernel_rfl)))))
                  case hK26 => exact ⟨_, hp 50 _ (by kernel_rfl), JK.made hok hst hJ (List.mem_of_getElem? (i := 8) rfl) (Below.refl _ _)⟩
                · rintro l gv W hun hdep hcl hJ hg ha hp
                  refine' op_val ?h27 ?hw27 ?hr27 ?hK27
                  case h27 => rfl
                  case hw27 => exact rfl
                  case hr27 => exact (ex_move rfl ((eval_tmp (hg 50 (by kernel_rfl))).trans (hJ.lit _ (List.mem_of_getElem? (i := 8) rfl) (hdep 8 (by kernel_rfl)))))
                  case hK27 => exact ⟨_, hp 51 _ (by kernel_rfl), JK.made hok hst hJ (List.mem_of_getElem? (i := 9) rfl) (Below.refl _ _)⟩
                · rintro l gv W hun hdep hcl hJ hg ha hp
                  have eg : gv 51 = .bool false := hJ.lit _ (List.mem_of_getElem? (i := 9) rfl) (hdep 9 (by kernel_rfl))
                  have hgd := (hg 51 (by kernel_rfl)).trans (congrArg some eg)
                  refine' op_val ?h28 ?hw28 ?hr28 ?hK28
                  case h28 => rfl
                  case hw28 => exact (wants_yes false rfl (by kernel_rfl) hgd)
                  case hr28 => exact (ex_move rfl (eval_tmp ((ha 5 (by kernel_rfl)).trans rfl)))
                  case hK28 => exact ⟨_, hp 52 _ (by kernel_rfl), JK.made hok hst hJ (List.mem_of_getElem? (i := 10) rfl) (Below.refl _ _)⟩
                · rintro l gv W hun hdep hcl hJ hg ha hp
                  have eg : gv 51 = .bool false := hJ.lit _ (List.mem_of_getElem? (i := 9) rfl) (hdep 9 (by kernel_rfl))
                  have hgd := (hg 51 (by kernel_rfl)).trans (congrArg some eg)
                  refine' op_val ?h29 ?hw29 ?hr29 ?hK29
                  case h29 => rfl
                  case hw29 => exact (wants_yes false rfl (by kernel_rfl) hgd)
                  case hr29 => exact (ex_move rfl ((eval_tmp (hg 52 (by kernel_rfl))).trans (hJ.lit _ (List.mem_of_getElem? (i := 10) rfl) (hdep 10 (by kernel_rfl)))))
                  case hK29 => exact ⟨_, hp 53 _ (by kernel_rfl), JK.made hok hst hJ (List.mem_of_getElem? (i := 11) rfl) (Below.refl _ _)⟩
                · rintro l gv W hun hdep hcl hJ hg ha hp
                  have eg : gv 53 = .bool true := hJ.lit _ (List.mem_of_getElem? (i := 11) rfl) (hdep 11 (by kernel_rfl))
                  have hgd := (hg 53 (by kernel_rfl)).trans (congrArg some eg)
                  refine' op_val ?h30 ?hw30 ?hr30 ?hK30
                  case h30 => rfl
                  case hw30 => exact (wants_yes true rfl (by kernel_rfl) hgd)
                  case hr30 => exact (ex_move rfl (eval_tmp ((ha 3 (by kernel_rfl)).trans rfl)))
                  case hK30 => exact ⟨_, hp 54 _ (by kernel_rfl), JK.made hok hst hJ (List.mem_of_getElem? (i := 12) rfl) (Below.refl _ _)⟩
                · rintro l gv W hun hdep hcl hJ hg ha hp
                  have eg : gv 53 = .bool true := hJ.lit _ (List.mem_of_getElem? (i := 11) rfl) (hdep 11 (by kernel_rfl))
                  have hgd := (hg 53 (by kernel_rfl)).trans (congrArg some eg)
                  refine' op_val ?h31 ?hw31 ?hr31 ?hK31
                  case h31 => rfl
                  case hw31 => exact (wants_yes true rfl (by kernel_rfl) hgd)
                  case hr31 => exact (ex_move rfl (eval_tmp ((ha 6 (by kernel_rfl)).trans rfl)))
                  case hK31 => exact ⟨_, hp 55 _ (by kernel_rfl), JK.made hok hst hJ (List.mem_of_getElem? (i := 13) rfl) (Below.refl _ _)⟩
                · rintro l gv W hun hdep hcl hJ hg ha hp
                  have eg : gv 53 = .bool true := hJ.lit _ (List.mem_of_getElem? (i := 11) rfl) (hdep 11 (by kernel_rfl))
                  have hgd := (hg 53 (by kernel_rfl)).trans (congrArg some eg)
                  refine' op_val ?h32 ?hw32 ?hr32 ?hK32
                  case h32 => rfl
                  case hw32 => exact (wants_yes true rfl (by kernel_rfl) hgd)
                  case hr32 => exact (ex_indexAddr rfl ((eval_tmp (hg 54 (by kernel_rfl))).trans (hJ.lit _ (List.mem_of_getElem? (i := 12) rfl) (hdep 12 (by kernel_rfl)))) ((eval_tmp (hg 55 (by kernel_rfl))).trans (hJ.lit _ (List.mem_of_getElem? (i := 13) rfl) (hdep 13 (by kernel_rfl)))) (indexFs hiL))
                  case hK32 => exact ⟨_, hp 56 _ (by kernel_rfl), JK.made hok hst hJ (List.mem_of_getElem? (i := 14) rfl) (Below.refl _ _)⟩
                · rintro l gv W hun hdep hcl hJ hg ha hp
                  have eg : gv 53 = .bool true := hJ.lit _ (List.mem_of_getElem? (i := 11) rfl) (hdep 11 (by kernel_rfl))
                  have hgd := (hg 53 (by kernel_rfl)).trans (congrArg some eg)
                  refine' op_val ?h33 ?hw33 ?hr33 ?hK33
                  case h33 => rfl
                  case hw33 => exact (wants_yes true rfl (by kernel_rfl) hgd)
                  case hr33 => exact (ex_load rfl ((eval_tmp (hg 56 (by kernel_rfl))).trans (hJ.lit _ (List.mem_of_getElem? (i := 14) rfl) (hdep 14 (by kernel_rfl)))) (loadFo (cell_below hJ.low l0) (cell_below hJ.low l1) (cell_below hJ.low l2) (cell_below hJ.low l3)))
                  case hK33 => exact ⟨_, hp 57 _ (by kernel_rfl), JK.made hok hst hJ (List.mem_of_getElem? (i := 15) rfl) (Below.refl _ _)⟩
                · rintro l gv W hun hdep hcl hJ hg ha hp
                  have eg : gv 53 = .bool true := hJ.lit _ (List.mem_of_getElem? (i := 11) rfl) (hdep 11 (by kernel_rfl))
                  have hgd := (hg 53 (by kernel_rfl)).trans (congrArg some eg)
                  refine' op_call ?h34 ?hw34 ?hr34 ?hc34
                  case h34 => rfl
                  case hw34 => exact (wants_yes true rfl (by kernel_rfl) hgd)
                  case hr34 => exact (ex_call1 (enters_of Tryd.func16 (by kernel_rfl) rfl) rfl ((eval_tmp (hg 57 (by kernel_rfl))).trans (hJ.lit _ (List.mem_of_getElem? (i := 15) rfl) (hdep 15 (by kernel_rfl)))))
                  case hc34 =>
                    refine (schema_any (L.get i) sI _ W (hrw8 W hJ.low) (FVal.below hJ.low lv)).mono ?_
                    rintro e W' ⟨rfl, hb⟩
                    exact ⟨_, (congrArg (fun b => Ending.returned (Value.bool b)) (hPFh.out.right i hiL true hsbh.out)), _, hp 58 _ (by kernel_rfl), JK.made hok hst hJ (List.mem_of_getElem? (i := 16) rfl) hb⟩
                · rintro l gv W hun hdep hcl hJ hg ha hp
                  have eg : gv 53 = .bool true := hJ.lit _ (List.mem_of_getElem? (i := 11) rfl) (hdep 11 (by kernel_rfl))
                  have hgd := (hg 53 (by kernel_rfl)).trans (congrArg some eg)
                  refine' op_val ?h35 ?hw35 ?hr35 ?hK35
                  case h35 => rfl
                  case hw35 => exact (wants_yes true rfl (by kernel_rfl) hgd)
                  case hr35 => exact (ex_not rfl ((eval_tmp (hg 58 (by kernel_rfl))).trans (hJ.lit _ (List.mem_of_getElem? (i := 16) rfl) (hdep 16 (by kernel_rfl)))))
                  case hK35 => exact ⟨_, hp 59 _ (by kernel_rfl), JK.made hok hst hJ (List.mem_of_getElem? (i := 17) rfl) (Below.refl _ _)⟩
                · rintro l gv W hun hdep hcl hJ hg ha hp
                  have eg : gv 51 = .bool false := hJ.lit _ (List.mem_of_getElem? (i := 9) rfl) (hdep 9 (by kernel_rfl))
                  have hgd := (hg 51 (by kernel_rfl)).trans (congrArg some eg)
                  refine' op_val ?h36 ?hw36 ?hr36 ?hK36
                  case h36 => rfl
                  case hw36 => exact (wants_yes false rfl (by kernel_rfl) hgd)
                  case hr36 => exact (ex_pick rfl ((eval_tmp (hg 53 (by kernel_rfl))).trans (hJ.lit _ (List.mem_of_getElem? (i := 11) rfl) (hdep 11 (by kernel_rfl)))) ((eval_tmp (hg 59 (by kernel_rfl))).trans (hJ.lit _ (List.mem_of_getElem? (i := 17) rfl) (hdep 17 (by kernel_rfl)))))
                  case hK36 => exact ⟨_, hp 60 _ (by kernel_rfl), JK.made hok hst hJ (List.mem_of_getElem? (i := 18) rfl) (Below.refl _ _)⟩
                · rintro l gv W hun hdep hcl hJ hg ha hp
                  refine' op_val ?h37 ?hw37 ?hr37 ?hK37
                  case h37 => rfl
                  case hw37 => exact rfl
                  case hr37 => exact (ex_pickF rfl ((eval_tmp (hg 51 (by kernel_rfl))).trans (hJ.lit _ (List.mem_of_getElem? (i := 9) rfl) (hdep 9 (by kernel_rfl)))) ((eval_tmp (hg 60 (by kernel_rfl))).trans (hJ.lit _ (List.mem_of_getElem? (i := 18) rfl) (hdep 18 (by kernel_rfl)))))
                  case hK37 => exact ⟨_, hp 61 _ (by kernel_rfl), JK.made hok hst hJ (List.mem_of_getElem? (i := 19) rfl) (Below.refl _ _)⟩
                · rintro l gv W hun hdep hcl hJ hg ha hp
                  refine' op_val ?h38 ?hw38 ?hr38 ?hK38
                  case h38 => rfl
                  case hw38 => exact rfl
                  case hr38 => exact (ex_move rfl ((eval_tmp (hg 61 (by kernel_rfl))).trans (hJ.lit _ (List.mem_of_getElem? (i := 19) rfl) (hdep 19 (by kernel_rfl)))))
                  case hK38 => exact ⟨_, hp 62 _ (by kernel_rfl), JK.made hok hst hJ (List.mem_of_getElem? (i := 20) rfl) (Below.refl _ _)⟩
                · rintro l gv W hun hdep hcl hJ hg ha hp
                  have eg : gv 62 = .bool false := hJ.lit _ (List.mem_of_getElem? (i := 20) rfl) (hdep 20 (by kernel_rfl))
                  have hgd := (hg 62 (by kernel_rfl)).trans (congrArg some eg)
                  refine' op_val ?h39 ?hw39 ?hr39 ?hK39
                  case h39 => rfl
                  case hw39 => exact (wants_yes false rfl (by kernel_rfl) hgd)
                  case hr39 => exact (ex_move rfl (eval_tmp ((ha 3 (by kernel_rfl)).trans rfl)))
                  case hK39 => exact ⟨_, hp 63 _ (by kernel_rfl), JK.made hok hst hJ (List.mem_of_getElem? (i := 21) rfl) (Below.refl _ _)⟩
                · rintro l gv W hun hdep hcl hJ hg ha hp
                  have eg : gv 62 = .bool false := hJ.lit _ (List.mem_of_getElem? (i := 20) rfl) (hdep 20 (by kernel_rfl))
                  have hgd := (hg 62 (by kernel_rfl)).trans (congrArg some eg)
                  refine' op_val ?h40 ?hw40 ?hr40 ?hK40
                  case h40 => rfl
                  case hw40 => exact (wants_yes false rfl (by kernel_rfl) hgd)
                  case hr40 => exact (ex_move rfl (eval_tmp ((ha 6 (by kernel_rfl)).trans rfl)))
                  case hK40 => exact ⟨_, hp 64 _ (by kernel_rfl), JK.made hok hst hJ (List.mem_of_getElem? (i := 22) rfl) (Below.refl _ _)⟩
                · rintro l gv W hun hdep hcl hJ hg ha hp
                  have eg : gv 62 = .bool false := hJ.lit _ (List.mem_of_getElem? (i := 20) rfl) (hdep 20 (by kernel_rfl))
                  have hgd := (hg 62 (by kernel_rfl)).trans (congrArg some eg)
                  refine' op_val ?h41 ?hw41 ?hr41 ?hK41
                  case h41 => rfl
                  case hw41 => exact (wants_yes false rfl (by kernel_rfl) hgd)
                  case hr41 => exact (ex_indexAddr rfl ((eval_tmp (hg 63 (by kernel_rfl))).trans (hJ.lit _ (List.mem_of_getElem? (i := 21) rfl) (hdep 21 (by kernel_rfl)))) ((eval_tmp (hg 64 (by kernel_rfl))).trans (hJ.lit _ (List.mem_of_getElem? (i := 22) rfl) (hdep 22 (by kernel_rfl)))) (indexFs hiL))
                  case hK41 => exact ⟨_, hp 65 _ (by kernel_rfl), JK.made hok hst hJ (List.mem_of_getElem? (i := 23) rfl) (Below.refl _ _)⟩
                · rintro l gv W hun hdep hcl hJ hg ha hp
                  have eg : gv 62 = .bool false := hJ.lit _ (List.mem_of_getElem? (i := 20) rfl) (hdep 20 (by kernel_rfl))
                  have hgd := (hg 62 (by kernel_rfl)).trans (congrArg some eg)
                  refine' op_val ?h42 ?hw42 ?hr42 ?hK42
                  case h42 => rfl
                  case hw42 => exact (wants_yes false rfl (by kernel_rfl) hgd)
                  case hr42 => exact (ex_load rfl ((eval_tmp (hg 65 (by kernel_rfl))).trans (hJ.lit _ (List.mem_of_getElem? (i := 23) rfl) (hdep 23 (by kernel_rfl)))) (loadFo (cell_below hJ.low l0) (cell_below hJ.low l1) (cell_below hJ.low l2) (cell_below hJ.low l3)))
                  case hK42 => exact ⟨_, hp 66 _ (by kernel_rfl), JK.made hok hst hJ (List.mem_of_getElem? (i := 24) rfl) (Below.refl _ _)⟩
                · rintro l gv W hun hdep hcl hJ hg ha hp
                  have eg : gv 62 = .bool false := hJ.lit _ (List.mem_of_getElem? (i := 20) rfl) (hdep 20 (by kernel_rfl))
                  have hgd := (hg 62 (by kernel_rfl)).trans (congrArg some eg)
                  refine' op_call ?h43 ?hw43 ?hr43 ?hc43
                  case h43 => rfl
                  case hw43 => exact (wants_yes false rfl (by kernel_rfl) hgd)
                  case hr43 => exact (ex_call1 (enters_of Tryd.func17 (by kernel_rfl) rfl) rfl ((eval_tmp (hg 66 (by kernel_rfl))).trans (hJ.lit _ (List.mem_of_getElem? (i := 24) rfl) (hdep 24 (by kernel_rfl)))))
                  case hc43 =>
                    refine (ops_any (L.get i) (hPFh.out.opn i hiL) sI _ W (FVal.below hJ.low lv)).mono ?_
                    rintro e W' ⟨rfl, hb⟩
                    exact ⟨_, rfl, _, hp 67 _ (by kernel_rfl), JK.made hok hst hJ (List.mem_of_getElem? (i := 25) rfl) hb⟩
                · rintro l gv W hun hdep hcl hJ hg ha hp
                  have eg : gv 62 = .bool false := hJ.lit _ (List.mem_of_getElem? (i := 20) rfl) (hdep 20 (by kernel_rfl))
                  have hgd := (hg 62 (by kernel_rfl)).trans (congrArg some eg)
                  refine' op_val ?h44 ?hw44 ?hr44 ?hK44
                  case h44 => rfl
                  case hw44 => exact (wants_yes false rfl (by kernel_rfl) hgd)
                  case hr44 => exact (ex_load rfl (eval_tmp ((ha 1 (by kernel_rfl)).trans rfl)) (loadFo (cell_below hJ.low f0) (cell_below hJ.low f1) (cell_below hJ.low f2) (cell_below hJ.low f3)))
                  case hK44 => exact ⟨_, hp 68 _ (by kernel_rfl), JK.made hok hst hJ (List.mem_of_getElem? (i := 26) rfl) (Below.refl _ _)⟩
                · rintro l gv W hun hdep hcl hJ hg ha hp
                  have eg : gv 62 = .bool false := hJ.lit _ (List.mem_of_getElem? (i := 20) rfl) (hdep 20 (by kernel_rfl))
                  have hgd := (hg 62 (by kernel_rfl)).trans (congrArg some eg)
                  refine' op_call ?h45 ?hw45 ?hr45 ?hc45
                  case h45 => rfl
                  case hw45 => exact (wants_yes false rfl (by kernel_rfl) hgd)
                  case hr45 => exact (ex_call1 (enters_of Tryd.func17 (by kernel_rfl) rfl) rfl ((eval_tmp (hg 68 (by kernel_rfl))).trans (hJ.lit _ (List.mem_of_getElem? (i := 26) rfl) (hdep 26 (by kernel_rfl)))))
                  case hc45 =>
                    refine (ops_any f hoph.out s6 _ W (FVal.below hJ.low fv)).mono ?_
                    rintro e W' ⟨rfl, hb⟩
                    exact ⟨_, rfl, _, hp 69 _ (by kernel_rfl), JK.made hok hst hJ (List.mem_of_getElem? (i := 27) rfl) hb⟩
                · rintro l gv W hun hdep hcl hJ hg ha hp
                  have eg : gv 62 = .bool false := hJ.lit _ (List.mem_of_getElem? (i := 20) rfl) (hdep 20 (by kernel_rfl))
                  have hgd := (hg 62 (by kernel_rfl)).trans (congrArg some eg)
                  refine' op_val ?h46 ?hw46 ?hr46 ?hK46
                  case h46 => rfl
                  case hw46 => exact (wants_yes false rfl (by kernel_rfl) hgd)
                  case hr46 => exact (ex_bin rfl ((eval_tmp (hg 67 (by kernel_rfl))).trans (hJ.lit _ (List.mem_of_getElem? (i := 25) rfl) (hdep 25 (by kernel_rfl)))) ((eval_tmp (hg 69 (by kernel_rfl))).trans (hJ.lit _ (List.mem_of_getElem? (i := 27) rfl) (hdep 27 (by kernel_rfl)))) (guard_any _ _ _ _ W) (andNot_zero (hPFh.out.mask i hiL) W))
                  case hK46 => exact ⟨_, hp 70 _ (by kernel_rfl), JK.made hok hst hJ (List.mem_of_getElem? (i := 28) rfl) (Below.refl _ _)⟩
                · rintro l gv W hun hdep hcl hJ hg ha hp
                  have eg : gv 62 = .bool false := hJ.lit _ (List.mem_of_getElem? (i := 20) rfl) (hdep 20 (by kernel_rfl))
                  have hgd := (hg 62 (by kernel_rfl)).trans (congrArg some eg)
                  refine' op_val ?h47 ?hw47 ?hr47 ?hK47
                  case h47 => rfl
                  case hw47 => exact (wants_yes false rfl (by kernel_rfl) hgd)
                  case hr47 => exact (ex_bin rfl ((eval_tmp (hg 70 (by kernel_rfl))).trans (hJ.lit _ (List.mem_of_getElem? (i := 28) rfl) (hdep 28 (by kernel_rfl)))) rfl (guard_u32 _ _ _ W) (neq_zero W))
                  case hK47 => exact ⟨_, hp 71 _ (by kernel_rfl), JK.made hok hst hJ (List.mem_of_getElem? (i := 29) rfl) (Below.refl _ _)⟩
                · rintro l gv W hun hdep hcl hJ hg ha hp
                  refine' op_val ?h48 ?hw48 ?hr48 ?hK48
                  case h48 => rfl
                  case hw48 => exact rfl
                  case hr48 => exact (ex_pickF rfl ((eval_tmp (hg 62 (by kernel_rfl))).trans (hJ.lit _ (List.mem_of_getElem? (i := 20) rfl) (hdep 20 (by kernel_rfl)))) ((eval_tmp (hg 71 (by kernel_rfl))).trans (hJ.lit _ (List.mem_of_getElem? (i := 29) rfl) (hdep 29 (by kernel_rfl)))))
                  case hK48 => exact ⟨_, hp 72 _ (by kernel_rfl), JK.made hok hst hJ (List.mem_of_getElem? (i := 30) rfl) (Below.refl _ _)⟩
                · rintro l gv W hun hdep hcl hJ hg ha hp
                  refine' op_val ?h49 ?hw49 ?hr49 ?hK49
                  case h49 => rfl
                  case hw49 => exact rfl
                  case hr49 => exact (ex_move rfl ((eval_tmp (hg 72 (by kernel_rfl))).trans (hJ.lit _ (List.mem_of_getElem? (i := 30) rfl) (hdep 30 (by kernel_rfl)))))
                  case hK49 => exact ⟨_, hp 73 _ (by kernel_rfl), JK.made hok hst hJ (List.mem_of_getElem? (i := 31) rfl) (Below.refl _ _)⟩
                · rintro l gv W hun hdep hcl hJ hg ha hp
                  have eg : gv 73 = .bool false := hJ.lit _ (List.mem_of_getElem? (i := 31) rfl) (hdep 31 (by kernel_rfl))
                  have hgd := (hg 73 (by kernel_rfl)).trans (congrArg some eg)
                  refine' op_val ?h50 ?hw50 ?hr50 ?hK50
                  case h50 => rfl
                  case hw50 => exact (wants_yes false rfl (by kernel_rfl) hgd)
                  case hr50 => exact (ex_move rfl (eval_tmp ((ha 6 (by kernel_rfl)).trans rfl)))
                  case hK50 => exact ⟨_, hp 74 _ (by kernel_rfl), JK.made hok hst hJ (List.mem_of_getElem? (i := 32) rfl) (Below.refl _ _)⟩
                · rintro l gv W hun hdep hcl hJ hg ha hp
                  have eg : gv 73 = .bool false := hJ.lit _ (List.mem_of_getElem? (i := 31) rfl) (hdep 31 (by kernel_rfl))
                  have hgd := (hg 73 (by kernel_rfl)).trans (congrArg some eg)
                  refine' op_val ?h51 ?hw51 ?hr51 ?hK51
                  case h51 => rfl
                  case hw51 => exact (wants_yes false rfl (by kernel_rfl) hgd)
                  case hr51 => exact (ex_bin rfl ((eval_tmp (hg 74 (by kernel_rfl))).trans (hJ.lit _ (List.mem_of_getElem? (i := 32) rfl) (hdep 32 (by kernel_rfl)))) rfl (guard_gtr _ _ _ _ W) (gtr_op hib W))
                  case hK51 => exact ⟨_, hp 75 _ (by kernel_rfl), JK.made hok hst hJ (List.mem_of_getElem? (i := 33) rfl) (Below.refl _ _)⟩
                · rintro l gv W hun hdep hcl hJ hg ha hp
                  have eg : gv 73 = .bool false := hJ.lit _ (List.mem_of_getElem? (i := 31) rfl) (hdep 31 (by kernel_rfl))
                  have hgd := (hg 73 (by kernel_rfl)).trans (congrArg some eg)
                  refine' op_val ?h52 ?hw52 ?hr52 ?hK52
                  case h52 => rfl
                  case hw52 => exact (wants_yes false rfl (by kernel_rfl) hgd)
                  case hr52 => exact (ex_move rfl ((eval_tmp (hg 75 (by kernel_rfl))).trans (hJ.lit _ (List.mem_of_getElem? (i := 33) rfl) (hdep 33 (by kernel_rfl)))))
                  case hK52 => exact ⟨_, hp 76 _ (by kernel_rfl), JK.made hok hst hJ (List.mem_of_getElem? (i := 34) rfl) (Below.refl _ _)⟩
                · rintro l gv W hun hdep hcl hJ hg ha hp
                  cases ib with
                  | true =>
                    have eg : gv 76 = .bool true := hJ.lit _ (List.mem_of_getElem? (i := 34) rfl) (hdep 34 (by kernel_rfl))
                    have hgd := (hg 76 (by kernel_rfl)).trans (congrArg some eg)
                    refine' op_val ?h53 ?hw53 ?hr53 ?hK53
                    case h53 => rfl
                    case hw53 => exact (wants_yes true rfl (by kernel_rfl) hgd)
                    case hr53 => exact (ex_move rfl (eval_tmp ((ha 3 (by kernel_rfl)).trans rfl)))
                    case hK53 => exact ⟨_, hp 77 _ (by kernel_rfl), JK.made hok hst hJ (List.mem_of_getElem? (i := 35) rfl) (Below.refl _ _)⟩
                  | false =>
                    have eg : gv 76 = .bool false := hJ.lit _ (List.mem_of_getElem? (i := 34) rfl) (hdep 34 (by kernel_rfl))
                    have hgd := (hg 76 (by kernel_rfl)).trans (congrArg some eg)
                    refine' op_out ?h54 ?hw54 ?hK54
                    case h54 => rfl
                    case hw54 => exact (wants_no true rfl (by kernel_rfl) hgd)
                    case hK54 => exact ⟨_, hp 77 _ (by kernel_rfl), JK.made hok hst hJ (List.mem_of_getElem? (i := 35) rfl) (Below.refl _ _)⟩
                · rintro l gv W hun hdep hcl hJ hg ha hp
                  cases ib with
                  | true =>
                    have eg : gv 76 = .bool true := hJ.lit _ (List.mem_of_getElem? (i := 34) rfl) (hdep 34 (by kernel_rfl))
                    have hgd := (hg 76 (by kernel_rfl)).trans (congrArg some eg)
                    refine' op_val ?h55 ?hw55 ?hr55 ?hK55
                    case h55 => rfl
                    case hw55 => exact (wants_yes true rfl (by kernel_rfl) hgd)
                    case hr55 => exact (ex_move rfl (eval_tmp ((ha 6 (by kernel_rfl)).trans rfl)))
                    case hK55 => exact ⟨_, hp 78 _ (by kernel_rfl), JK.made hok hst hJ (List.mem_of_getElem? (i := 36) rfl) (Below.refl _ _)⟩
                  | false =>
                    have eg : gv 76 = .bool false := hJ.lit _ (List.mem_of_getElem? (i := 34) rfl) (hdep 34 (by kernel_rfl))
                    have hgd := (hg 76 (by kernel_rfl)).trans (congrArg some eg)
                    refine' op_out ?h56 ?hw56 ?hK56
                    case h56 => rfl
                    case hw56 => exact (wants_no true rfl (by kernel_rfl) hgd)
                    case hK56 => exact ⟨_, hp 78 _ (by kernel_rfl), JK.made hok hst hJ (List.mem_of_getElem? (i := 36) rfl) (Below.refl _ _)⟩
                · rintro l gv W hun hdep hcl hJ hg ha hp
                  cases ib with
                  | true =>
                    have eg : gv 76 = .bool true := hJ.lit _ (List.mem_of_getElem? (i := 34) rfl) (hdep 34 (by kernel_rfl))
                    have hgd := (hg 76 (by kernel_rfl)).trans (congrArg some eg)
                    refine' op_val ?h57 ?hw57 ?hr57 ?hK57
                    case h57 => rfl
                    case hw57 => exact (wants_yes true rfl (by kernel_rfl) hgd)
                    case hr57 => exact (ex_indexAddr rfl ((eval_tmp (hg 77 (by kernel_rfl))).trans (hJ.lit _ (List.mem_of_getElem? (i := 35) rfl) (hdep 35 (by kernel_rfl)))) ((eval_tmp (hg 78 (by kernel_rfl))).trans (hJ.lit _ (List.mem_of_getElem? (i := 36) rfl) (hdep 36 (by kernel_rfl)))) (indexFs hiL))
                    case hK57 => exact ⟨_, hp 79 _ (by kernel_rfl), JK.made hok hst hJ (List.mem_of_getElem? (i := 37) rfl) (Below.refl _ _)⟩
                  | false =>
                    have eg : gv 76 = .bool false := hJ.lit _ (List.mem_of_getElem? (i := 34) rfl) (hdep 34 (by kernel_rfl))
                    have hgd := (hg 76 (by kernel_rfl)).trans (congrArg some eg)
                    refine' op_out ?h58 ?hw58 ?hK58
                    case h58 => rfl
                    case hw58 => exact (wants_no true rfl (by kernel_rfl) hgd)
                    case hK58 => exact ⟨_, hp 79 _ (by kernel_rfl), JK.made hok hst hJ (List.mem_of_getElem? (i := 37) rfl) (Below.refl _ _)⟩
                · rintro l gv W hun hdep hcl hJ hg ha hp
                  cases ib with
                  | true =>
                    have eg : gv 76 = .bool true := hJ.lit _ (List.mem_of_getElem? (i := 34) rfl) (hdep 34 (by kernel_rfl))
                    have hgd := (hg 76 (by kernel_rfl)).trans (congrArg some eg)
                    refine' op_val ?h59 ?hw59 ?hr59 ?hK59
                    case h59 => rfl
                    case hw59 => exact (wants_yes true rfl (by kernel_rfl) hgd)
                    case hr59 => exact (ex_load rfl ((eval_tmp (hg 79 (by kernel_rfl))).trans (hJ.lit _ (List.mem_of_getElem? (i := 37) rfl) (hdep 37 (by kernel_rfl)))) (loadFo (cell_below hJ.low l0) (cell_below hJ.low l1) (cell_below hJ.low l2) (cell_below hJ.low l3)))
                    case hK59 => exact ⟨_, hp 80 _ (by kernel_rfl), JK.made hok hst hJ (List.mem_of_getElem? (i := 38) rfl) (Below.refl _ _)⟩
                  | false =>
                    have eg : gv 76 = .bool false := hJ.lit _ (List.mem_of_getElem? (i := 34) rfl) (hdep 34 (by kernel_rfl))
                    have hgd := (hg 76 (by kernel_rfl)).trans (congrArg some eg)
                    refine' op_out ?h60 ?hw60 ?hK60
                    case h60 => rfl
                    case hw60 => exact (wants_no true rfl (by kernel_rfl) hgd)
                    case hK60 => exact ⟨_, hp 80 _ (by kernel_rfl), JK.made hok hst hJ (List.mem_of_getElem? (i := 38) rfl) (Below.refl _ _)⟩
                · rintro l gv W hun hdep hcl hJ hg ha hp
                  cases ib with
                  | true =>
                    have eg : gv 76 = .bool true := hJ.lit _ (List.mem_of_getElem? (i := 34) rfl) (hdep 34 (by kernel_rfl))
                    have hgd := (hg 76 (by kernel_rfl)).trans (congrArg some eg)
                    refine' op_call ?h61 ?hw61 ?hr61 ?hc61
                    case h61 => rfl
                    case hw61 => exact (wants_yes true rfl (by kernel_rfl) hgd)
                    case hr61 => exact (ex_call1 (enters_of Tryd.func13 (by kernel_rfl) rfl) rfl ((eval_tmp (hg 80 (by kernel_rfl))).trans (hJ.lit _ (List.mem_of_getElem? (i := 38) rfl) (hdep 38 (by kernel_rfl)))))
                    case hc61 =>
                      refine (nodes_any (L.get i) sI _ W (FVal.below hJ.low lv)).mono ?_
                      rintro e W' ⟨rfl, hb⟩
                      exact ⟨_, rfl, _, hp 81 _ (by kernel_rfl), JK.made hok hst hJ (List.mem_of_getElem? (i := 39) rfl) hb⟩
                  | false =>
                    have eg : gv 76 = .bool false := hJ.lit _ (List.mem_of_getElem? (i := 34) rfl) (hdep 34 (by kernel_rfl))
                    have hgd := (hg 76 (by kernel_rfl)).trans (congrArg some eg)
                    refine' op_out ?h62 ?hw62 ?hK62
                    case h62 => rfl
                    case hw62 => exact (wants_no true rfl (by kernel_rfl) hgd)
                    case hK62 => exact ⟨_, hp 81 _ (by kernel_rfl), JK.made hok hst hJ (List.mem_of_getElem? (i := 39) rfl) (Below.refl _ _)⟩
                · rintro l gv W hun hdep hcl hJ hg ha hp
                  cases ib with
                  | true =>
                    have eg : gv 76 = .bool true := hJ.lit _ (List.mem_of_getElem? (i := 34) rfl) (hdep 34 (by kernel_rfl))
                    have hgd := (hg 76 (by kernel_rfl)).trans (congrArg some eg)
                    refine' op_val ?h63 ?hw63 ?hr63 ?hK63
                    case h63 => rfl
                    case hw63 => exact (wants_yes true rfl (by kernel_rfl) hgd)
                    case hr63 => exact (ex_load rfl (eval_tmp ((ha 1 (by kernel_rfl)).trans rfl)) (loadFo (cell_below hJ.low f0) (cell_below hJ.low f1) (cell_below hJ.low f2) (cell_below hJ.low f3)))
                    case hK63 => exact ⟨_, hp 82 _ (by kernel_rfl), JK.made hok hst hJ (List.mem_of_getElem? (i := 40) rfl) (Below.refl _ _)⟩
                  | false =>
                    have eg : gv 76 = .bool false := hJ.lit _ (List.mem_of_getElem? (i := 34) rfl) (hdep 34 (by kernel_rfl))
                    have hgd := (hg 76 (by kernel_rfl)).trans (congrArg some eg)
                    refine' op_out ?h64 ?hw64 ?hK64
                    case h64 => rfl
                    case hw64 => exact (wants_no true rfl (by kernel_rfl) hgd)
                    case hK64 => exact ⟨_, hp 82 _ (by kernel_rfl), JK.made hok hst hJ (List.mem_of_getElem? (i := 40) rfl) (Below.refl _ _)⟩
                · rintro l gv W hun hdep hcl hJ hg ha hp
                  cases ib with
                  | true =>
                    have eg : gv 76 = .bool true := hJ.lit _ (List.mem_of_getElem? (i := 34) rfl) (hdep 34 (by kernel_rfl))
                    have hgd := (hg 76 (by kernel_rfl)).trans (congrArg some eg)
                    refine' op_call ?h65 ?hw65 ?hr65 ?hc65
                    case h65 => rfl
                    case hw65 => exact (wants_yes true rfl (by kernel_rfl) hgd)
                    case hr65 => exact (ex_call1 (enters_of Tryd.func13 (by kernel_rfl) rfl) rfl ((eval_tmp (hg 82 (by kernel_rfl))).trans (hJ.lit _ (List.mem_of_getElem? (i := 40) rfl) (hdep 40 (by kernel_rfl)))))
                    case hc65 =>
                      refine (nodes_any f s6 _ W (FVal.below hJ.low fv)).mono ?_
                      rintro e W' ⟨rfl, hb⟩
                      exact ⟨_, rfl, _, hp 83 _ (by kernel_rfl), JK.made hok hst hJ (List.mem_of_getElem? (i := 41) rfl) hb⟩
                  | false =>
                    have eg : gv 76 = .bool false := hJ.lit _ (List.mem_of_getElem? (i := 34) rfl) (hdep 34 (by kernel_rfl))
                    have hgd := (hg 76 (by kernel_rfl)).trans (congrArg some eg)
                    refine' op_out ?h66 ?hw66 ?hK66
                    case h66 => rfl
                    case hw66 => exact (wants_no true rfl (by kernel_rfl) hgd)
                    case hK66 => exact ⟨_, hp 83 _ (by kernel_rfl), JK.made hok hst hJ (List.mem_of_getElem? (i := 41) rfl) (Below.refl _ _)⟩
                · rintro l gv W hun hdep hcl hJ hg ha hp
                  cases ib with
                  | true =>
                    have eg : gv 76 = .bool true := hJ.lit _ (List.mem_of_getElem? (i := 34) rfl) (hdep 34 (by kernel_rfl))
                    have hgd := (hg 76 (by kernel_rfl)).trans (congrArg some eg)
                    refine' op_val ?h67 ?hw67 ?hr67 ?hK67
                    case h67 => rfl
                    case hw67 => exact (wants_yes true rfl (by kernel_rfl) hgd)
                    case hr67 => exact (ex_bin rfl ((eval_tmp (hg 81 (by kernel_rfl))).trans (hJ.lit _ (List.mem_of_getElem? (i := 39) rfl) (hdep 39 (by kernel_rfl)))) ((eval_tmp (hg 83 (by kernel_rfl))).trans (hJ.lit _ (List.mem_of_getElem? (i := 41) rfl) (hdep 41 (by kernel_rfl)))) (guard_geq _ _ _ _ W) (geq_lt (hPFh.out.size i hiL (hib1 rfl)) W))
                    case hK67 => exact ⟨_, hp 84 _ (by kernel_rfl), JK.made hok hst hJ (List.mem_of_getElem? (i := 42) rfl) (Below.refl _ _)⟩
                  | false =>
                    have eg : gv 76 = .bool false := hJ.lit _ (List.mem_of_getElem? (i := 34) rfl) (hdep 34 (by kernel_rfl))
                    have hgd := (hg 76 (by kernel_rfl)).trans (congrArg some eg)
                    refine' op_out ?h68 ?hw68 ?hK68
                    case h68 => rfl
                    case hw68 => exact (wants_no true rfl (by kernel_rfl) hgd)
                    case hK68 => exact ⟨_, hp 84 _ (by kernel_rfl), JK.made hok hst hJ (List.mem_of_getElem? (i := 42) rfl) (Below.refl _ _)⟩
                · rintro l gv W hun hdep hcl hJ hg ha hp
                  cases ib with
                  | true =>
                    have eg : gv 76 = .bool true := hJ.lit _ (List.mem_of_getElem? (i := 34) rfl) (hdep 34 (by kernel_rfl))
                    have hgd := (hg 76 (by kernel_rfl)).trans (congrArg some eg)
                    refine' op_val ?h69 ?hw69 ?hr69 ?hK69
                    case h69 => rfl
                    case hw69 => exact (wants_yes true rfl (by kernel_rfl) hgd)
                    case hr69 => exact (ex_move rfl ((eval_tmp (hg 84 (by kernel_rfl))).trans (hJ.lit _ (List.mem_of_getElem? (i := 42) rfl) (hdep 42 (by kernel_rfl)))))
                    case hK69 => exact ⟨_, hp 85 _ (by kernel_rfl), JK.made hok hst hJ (List.mem_of_getElem? (i := 43) rfl) (Below.refl _ _)⟩
                  | false =>
                    have eg : gv 76 = .bool false := hJ.lit _ (List.mem_of_getElem? (i := 34) rfl) (hdep 34 (by kernel_rfl))
                    have hgd := (hg 76 (by kernel_rfl)).trans (congrArg some eg)
                    refine' op_out ?h70 ?hw70 ?hK70
                    case h70 => rfl
                    case hw70 => exact (wants_no true rfl (by kernel_rfl) hgd)
                    case hK70 => exact ⟨_, hp 85 _ (by kernel_rfl), JK.made hok hst hJ (List.mem_of_getElem? (i := 43) rfl) (Below.refl _ _)⟩
                · rintro l gv W hun hdep hcl hJ hg ha hp
                  cases ib with
                  | true =>
                    have eg : gv 85 = .bool false := hJ.lit _ (List.mem_of_getElem? (i := 43) rfl) (hdep 43 (by kernel_rfl))
                    have hgd := (hg 85 (by kernel_rfl)).trans (congrArg some eg)
                    refine' op_val ?h71 ?hw71 ?hr71 ?hK71
                    case h71 => rfl
                    case hw71 => exact (wants_yes false rfl (by kernel_rfl) hgd)
                    case hr71 => exact (ex_move rfl (eval_tmp ((ha 3 (by kernel_rfl)).trans rfl)))
                    case hK71 => exact ⟨_, hp 86 _ (by kernel_rfl), JK.made hok hst hJ (List.mem_of_getElem? (i := 44) rfl) (Below.refl _ _)⟩
                  | false =>
                    have eg : gv 85 = undef := hJ.lit _ (List.mem_of_getElem? (i := 43) rfl) (hdep 43 (by kernel_rfl))
                    have hgd := (hg 85 (by kernel_rfl)).trans (congrArg some eg)
                    refine' op_out ?h72 ?hw72 ?hK72
                    case h72 => rfl
                    case hw72 => exact (wants_undef false rfl (by kernel_rfl) hgd)
                    case hK72 => exact ⟨_, hp 86 _ (by kernel_rfl), JK.made hok hst hJ (List.mem_of_getElem? (i := 44) rfl) (Below.refl _ _)⟩
                · rintro l gv W hun hdep hcl hJ hg ha hp
                  cases ib with
                  | true =>
                    have eg : gv 85 = .bool false := hJ.lit _ (List.mem_of_getElem? (i := 43) rfl) (hdep 43 (by kernel_rfl))
                    have hgd := (hg 85 (by kernel_rfl)).trans (congrArg some eg)
                    refine' op_val ?h73 ?hw73 ?hr73 ?hK73
                    case h73 => rfl
                    case hw73 => exact (wants_yes false rfl (by kernel_rfl) hgd)
                    case hr73 => exact (ex_move rfl (eval_tmp ((ha 6 (by kernel_rfl)).trans rfl)))
                    case hK73 => exact ⟨_, hp 87 _ (by kernel_rfl), JK.made hok hst hJ (List.mem_of_getElem? (i := 45) rfl) (Below.refl _ _)⟩
                  | false =>
                    have eg : gv 85 = undef := hJ.lit _ (List.mem_of_getElem? (i := 43) rfl) (hdep 43 (by kernel_rfl))
                    have hgd := (hg 85 (by kernel_rfl)).trans (congrArg some eg)
                    refine' op_out ?h74 ?hw74 ?hK74
                    case h74 => rfl
                    case hw74 => exact (wants_undef false rfl (by kernel_rfl) hgd)
                    case hK74 => exact ⟨_, hp 87 _ (by kernel_rfl), JK.made hok hst hJ (List.mem_of_getElem? (i := 45) rfl) (Below.refl _ _)⟩
                · rintro l gv W hun hdep hcl hJ hg ha hp
                  cases ib with
                  | true =>
                    have eg : gv 85 = .bool false := hJ.lit _ (List.mem_of_getElem? (i := 43) rfl) (hdep 43 (by kernel_rfl))
                    have hgd := (hg 85 (by kernel_rfl)).trans (congrArg some eg)
                    refine' op_val ?h75 ?hw75 ?hr75 ?hK75
                    case h75 => rfl
                    case hw75 => exact (wants_yes false rfl (by kernel_rfl) hgd)
                    case hr75 => exact (ex_indexAddr rfl ((eval_tmp (hg 86 (by kernel_rfl))).trans (hJ.lit _ (List.mem_of_getElem? (i := 44) rfl) (hdep 44 (by kernel_rfl)))) ((eval_tmp (hg 87 (by kernel_rfl))).trans (hJ.lit _ (List.mem_of_getElem? (i := 45) rfl) (hdep 45 (by kernel_rfl)))) (indexFs hiL))
                    case hK75 => exact ⟨_, hp 88 _ (by kernel_rfl), JK.made hok hst hJ (List.mem_of_getElem? (i := 46) rfl) (Below.refl _ _)⟩
                  | false =>
                    have eg : gv 85 = undef := hJ.lit _ (List.mem_of_getElem? (i := 43) rfl) (hdep 43 (by kernel_rfl))
                    have hgd := (hg 85 (by kernel_rfl)).trans (congrArg some eg)
                    refine' op_out ?h76 ?hw76 ?hK76
                    case h76 => rfl
                    case hw76 => exact (wants_undef false rfl (by kernel_rfl) hgd)
                    case hK76 => exact ⟨_, hp 88 _ (by kernel_rfl), JK.made hok hst hJ (List.mem_of_getElem? (i := 46) rfl) (Below.refl _ _)⟩
                · rintro l gv W hun hdep hcl hJ hg ha hp
                  cases ib with
                  | true =>
                    have eg : gv 85 = .bool false := hJ.lit _ (List.mem_of_getElem? (i := 43) rfl) (hdep 43 (by kernel_rfl))
                    have hgd := (hg 85 (by kernel_rfl)).trans (congrArg some eg)
                    refine' op_val ?h77 ?hw77 ?hr77 ?hK77
                    case h77 => rfl
                    case hw77 => exact (wants_yes false rfl (by kernel_rfl) hgd)
                    case hr77 => exact (ex_load rfl ((eval_tmp (hg 88 (by kernel_rfl))).trans (hJ.lit _ (List.mem_of_getElem? (i := 46) rfl) (hdep 46 (by kernel_rfl)))) (loadFo (cell_below hJ.low l0) (cell_below hJ.low l1) (cell_below hJ.low l2) (cell_below hJ.low l3)))
                    case hK77 => exact ⟨_, hp 89 _ (by kernel_rfl), JK.made hok hst hJ (List.mem_of_getElem? (i := 47) rfl) (Below.refl _ _)⟩
                  | false =>
                    have eg : gv 85 = undef := hJ.lit _ (List.mem_of_getElem? (i := 43) rfl) (hdep 43 (by kernel_rfl))
                    have hgd := (hg 85 (by kernel_rfl)).trans (congrArg some eg)
                    refine' op_out ?h78 ?hw78 ?hK78
                    case h78 => rfl
                    case hw78 => exact (wants_undef false rfl (by kernel_rfl) hgd)
                    case hK78 => exact ⟨_, hp 89 _ (by kernel_rfl), JK.made hok hst hJ (List.mem_of_getElem? (i := 47) rfl) (Below.refl _ _)⟩
                · rintro l gv W hun hdep hcl hJ hg ha hp
                  cases ib with
                  | true =>
                    have eg : gv 85 = .bool false := hJ.lit _ (List.mem_of_getElem? (i := 43) rfl) (hdep 43 (by kernel_rfl))
                    have hgd := (hg 85 (by kernel_rfl)).trans (congrArg some eg)
                    refine' op_call ?h79 ?hw79 ?hr79 ?hc79
                    case h79 => rfl
                    case hw79 => exact (wants_yes false rfl (by kernel_rfl) hgd)
                    case hr79 => exact (ex_call1 (enters_of Tryd.func18 (by kernel_rfl) rfl) rfl ((eval_tmp (hg 89 (by kernel_rfl))).trans (hJ.lit _ (List.mem_of_getElem? (i := 47) rfl) (hdep 47 (by kernel_rfl)))))
                    case hc79 =>
                      refine (depth_any (L.get i) _ W (FVal.below hJ.low lv) sI).mono ?_
                      rintro e W' ⟨rfl, hb⟩
                      exact ⟨_, rfl, _, hp 90 _ (by kernel_rfl), JK.made hok hst hJ (List.mem_of_getElem? (i := 48) rfl) hb⟩
                  | false =>
                    have eg : gv 85 = undef := hJ.lit _ (List.mem_of_getElem? (i := 43) rfl) (hdep 43 (by kernel_rfl))
                    have hgd := (hg 85 (by kernel_rfl)).trans (congrArg some eg)
                    refine' op_out ?h80 ?hw80 ?hK80
                    case h80 => rfl
                    case hw80 => exact (wants_undef false rfl (by kernel_rfl) hgd)
                    case hK80 => exact ⟨_, hp 90 _ (by kernel_rfl), JK.made hok hst hJ (List.mem_of_getElem? (i := 48) rfl) (Below.refl _ _)⟩
                · rintro l gv W hun hdep hcl hJ hg ha hp
                  cases ib with
                  | true =>
                    have eg : gv 85 = .bool false := hJ.lit _ (List.mem_of_getElem? (i := 43) rfl) (hdep 43 (by kernel_rfl))
                    have hgd := (hg 85 (by kernel_rfl)).trans (congrArg some eg)
                    refine' op_val ?h81 ?hw81 ?hr81 ?hK81
                    case h81 => rfl
                    case hw81 => exact (wants_yes false rfl (by kernel_rfl) hgd)
                    case hr81 => exact (ex_load rfl (eval_tmp ((ha 1 (by kernel_rfl)).trans rfl)) (loadFo (cell_below hJ.low f0) (cell_below hJ.low f1) (cell_below hJ.low f2) (cell_below hJ.low f3)))
                    case hK81 => exact ⟨_, hp 91 _ (by kernel_rfl), JK.made hok hst hJ (List.mem_of_getElem? (i := 49) rfl) (Below.refl _ _)⟩
                  | false =>
                    have eg : gv 85 = undef := hJ.lit _ (List.mem_of_getElem? (i := 43) rfl) (hdep 43 (by kernel_rfl))
                    have hgd := (hg 85 (by kernel_rfl)).trans (congrArg some eg)
                    refine' op_out ?h82 ?hw82 ?hK82
                    case h82 => rfl
                    case hw82 => exact (wants_undef false rfl (by kernel_rfl) hgd)
                    case hK82 => exact ⟨_, hp 91 _ (by kernel_rfl), JK.made hok hst hJ (List.mem_of_getElem? (i := 49) rfl) (Below.refl _ _)⟩
                · rintro l gv W hun hdep hcl hJ hg ha hp
                  cases ib with
                  | true =>
                    have eg : gv 85 = .bool false := hJ.lit _ (List.mem_of_getElem? (i := 43) rfl) (hdep 43 (by kernel_rfl))
                    have hgd := (hg 85 (by kernel_rfl)).trans (congrArg some eg)
                    refine' op_call ?h83 ?hw83 ?hr83 ?hc83
                    case h83 => rfl
                    case hw83 => exact (wants_yes false rfl (by kernel_rfl) hgd)
                    case hr83 => exact (ex_call1 (enters_of Tryd.func18 (by kernel_rfl) rfl) rfl ((eval_tmp (hg 91 (by kernel_rfl))).trans (hJ.lit _ (List.mem_of_getElem? (i := 49) rfl) (hdep 49 (by kernel_rfl)))))
                    case hc83 =>
                      refine (depth_any f _ W (FVal.below hJ.low fv) s6).mono ?_
                      rintro e W' ⟨rfl, hb⟩
                      exact ⟨_, rfl, _, hp 92 _ (by kernel_rfl), JK.made hok hst hJ (List.mem_of_getElem? (i := 50) rfl) hb⟩
                  | false =>
                    have eg : gv 85 = undef := hJ.lit _ (List.mem_of_getElem? (i := 43) rfl) (hdep 43 (by kernel_rfl))
                    have hgd := (hg 85 (by kernel_rfl)).trans (congrArg some eg)
                    refine' op_out ?h84 ?hw84 ?hK84
                    case h84 => rfl
                    case hw84 => exact (wants_undef false rfl (by kernel_rfl) hgd)
                    case hK84 => exact ⟨_, hp 92 _ (by kernel_rfl), JK.made hok hst hJ (List.mem_of_getElem? (i := 50) rfl) (Below.refl _ _)⟩
                · rintro l gv W hun hdep hcl hJ hg ha hp
                  cases ib with
                  | true =>
                    have eg : gv 85 = .bool false := hJ.lit _ (List.mem_of_getElem? (i := 43) rfl) (hdep 43 (by kernel_rfl))
                    have hgd := (hg 85 (by kernel_rfl)).trans (congrArg some eg)
                    refine' op_val ?h85 ?hw85 ?hr85 ?hK85
                    case h85 => rfl
                    case hw85 => exact (wants_yes false rfl (by kernel_rfl) hgd)
                    case hr85 => exact (ex_bin rfl ((eval_tmp (hg 90 (by kernel_rfl))).trans (hJ.lit _ (List.mem_of_getElem? (i := 48) rfl) (hdep 48 (by kernel_rfl)))) ((eval_tmp (hg 92 (by kernel_rfl))).trans (hJ.lit _ (List.mem_of_getElem? (i := 50) rfl) (hdep 50 (by kernel_rfl)))) (guard_geq _ _ _ _ W) (geq_lt (hPFh.out.deep i hiL (hib1 rfl)) W))
                    case hK85 => exact ⟨_, hp 93 _ (by kernel_rfl), JK.made hok hst hJ (List.mem_of_getElem? (i := 51) rfl) (Below.refl _ _)⟩
                  | false =>
                    have eg : gv 85 = undef := hJ.lit _ (List.mem_of_getElem? (i := 43) rfl) (hdep 43 (by kernel_rfl))
                    have hgd := (hg 85 (by kernel_rfl)).trans (congrArg some eg)
                    refine' op_out ?h86 ?hw86 ?hK86
                    case h86 => rfl
                    case hw86 => exact (wants_undef false rfl (by kernel_rfl) hgd)
                    case hK86 => exact ⟨_, hp 93 _ (by kernel_rfl), JK.made hok hst hJ (List.mem_of_getElem? (i := 51) rfl) (Below.refl _ _)⟩
                · rintro l gv W hun hdep hcl hJ hg ha hp
                  cases ib with
                  | true =>
                    have eg : gv 76 = .bool true := hJ.lit _ (List.mem_of_getElem? (i := 34) rfl) (hdep 34 (by kernel_rfl))
                    have hgd := (hg 76 (by kernel_rfl)).trans (congrArg some eg)
                    refine' op_val ?h87 ?hw87 ?hr87 ?hK87
                    case h87 => rfl
                    case hw87 => exact (wants_yes true rfl (by kernel_rfl) hgd)
                    case hr87 => exact (ex_pickF rfl ((eval_tmp (hg 85 (by kernel_rfl))).trans (hJ.lit _ (List.mem_of_getElem? (i := 43) rfl) (hdep 43 (by kernel_rfl)))) ((eval_tmp (hg 93 (by kernel_rfl))).trans (hJ.lit _ (List.mem_of_getElem? (i := 51) rfl) (hdep 51 (by kernel_rfl)))))
                    case hK87 => exact ⟨_, hp 94 _ (by kernel_rfl), JK.made hok hst hJ (List.mem_of_getElem? (i := 52) rfl) (Below.refl _ _)⟩
                  | false =>
                    have eg : gv 76 = .bool false := hJ.lit _ (List.mem_of_getElem? (i := 34) rfl) (hdep 34 (by kernel_rfl))
                    have hgd := (hg 76 (by kernel_rfl)).trans (congrArg some eg)
                    refine' op_out ?h88 ?hw88 ?hK88
                    case h88 => rfl
                    case hw88 => exact (wants_no true rfl (by kernel_rfl) hgd)
                    case hK88 => exact ⟨_, hp 94 _ (by kernel_rfl), JK.made hok hst hJ (List.mem_of_getElem? (i := 52) rfl) (Below.refl _ _)⟩
                · rintro l gv W hun hdep hcl hJ hg ha hp
                  cases ib with
                  | true =>
                    have eg : gv 73 = .bool false := hJ.lit _ (List.mem_of_getElem? (i := 31) rfl) (hdep 31 (by kernel_rfl))
                    have hgd := (hg 73 (by kernel_rfl)).trans (congrArg some eg)
                    refine' op_val ?h89 ?hw89 ?hr89 ?hK89
                    case h89 => rfl
                    case hw89 => exact (wants_yes false rfl (by kernel_rfl) hgd)
                    case hr89 => exact (ex_pick rfl ((eval_tmp (hg 76 (by kernel_rfl))).trans (hJ.lit _ (List.mem_of_getElem? (i := 34) rfl) (hdep 34 (by kernel_rfl)))) ((eval_tmp (hg 94 (by kernel_rfl))).trans (hJ.lit _ (List.mem_of_getElem? (i := 52) rfl) (hdep 52 (by kernel_rfl)))))
                    case hK89 => exact ⟨_, hp 95 _ (by kernel_rfl), JK.made hok hst hJ (List.mem_of_getElem? (i := 53) rfl) (Below.refl _ _)⟩
                  | false =>
                    have eg : gv 73 = .bool false := hJ.lit _ (List.mem_of_getElem? (i := 31) rfl) (hdep 31 (by kernel_rfl))
                    have hgd := (hg 73 (by kernel_rfl)).trans (congrArg some eg)
                    refine' op_val ?h90 ?hw90 ?hr90 ?hK90
                    case h90 => rfl
                    case hw90 => exact (wants_yes false rfl (by kernel_rfl) hgd)
                    case hr90 => exact (ex_pickF rfl ((eval_tmp (hg 76 (by kernel_rfl))).trans (hJ.lit _ (List.mem_of_getElem? (i := 34) rfl) (hdep 34 (by kernel_rfl)))) rfl)
                    case hK90 => exact ⟨_, hp 95 _ (by kernel_rfl), JK.made hok hst hJ (List.mem_of_getElem? (i := 53) rfl) (Below.refl _ _)⟩
                · rintro l gv W hun hdep hcl hJ hg ha hp
                  refine' op_val ?h91 ?hw91 ?hr91 ?hK91
                  case h91 => rfl
                  case hw91 => exact rfl
                  case hr91 => exact (ex_pickF rfl ((eval_tmp (hg 73 (by kernel_rfl))).trans (hJ.lit _ (List.mem_of_getElem? (i := 31) rfl) (hdep 31 (by kernel_rfl)))) ((eval_tmp (hg 95 (by kernel_rfl))).trans (hJ.lit _ (List.mem_of_getElem? (i := 53) rfl) (hdep 53 (by kernel_rfl)))))
                  case hK91 => exact ⟨_, hp 96 _ (by kernel_rfl), JK.made hok hst hJ (List.mem_of_getElem? (i := 54) rfl) (Below.refl _ _)⟩
                · rintro l gv W hun hdep hcl hJ hg ha hp
                  refine' op_val ?h92 ?hw92 ?hr92 ?hK92
                  case h92 => rfl
                  case hw92 => exact rfl
                  case hr92 => exact (ex_move rfl ((eval_tmp (hg 96 (by kernel_rfl))).trans (hJ.lit _ (List.mem_of_getElem? (i := 54) rfl) (hdep 54 (by kernel_rfl)))))
                  case hK92 => exact ⟨_, hp 97 _ (by kernel_rfl), JK.made hok hst hJ (List.mem_of_getElem? (i := 55) rfl) (Below.refl _ _)⟩
                · rintro l gv W hun hdep hcl hJ hg ha hp
                  have eg : gv 97 = .bool false := hJ.lit _ (List.mem_of_getElem? (i := 55) rfl) (hdep 55 (by kernel_rfl))
                  have hgd := (hg 97 (by kernel_rfl)).trans (congrArg some eg)
                  refine' op_val ?h93 ?hw93 ?hr93 ?hK93
                  case h93 => rfl
                  case hw93 => exact (wants_yes false rfl (by kernel_rfl) hgd)
                  case hr93 => exact (ex_move rfl (eval_tmp ((ha 3 (by kernel_rfl)).trans rfl)))
                  case hK93 => exact ⟨_, hp 98 _ (by kernel_rfl), JK.made hok hst hJ (List.mem_of_getElem? (i := 56) rfl) (Below.refl _ _)⟩
                · rintro l gv W hun hdep hcl hJ hg ha hp
                  have eg : gv 97 = .bool false := hJ.lit _ (List.mem_of_getElem? (i := 55) rfl) (hdep 55 (by kernel_rfl))
                  have hgd := (hg 97 (by kernel_rfl)).trans (congrArg some eg)
                  refine' op_val ?h94 ?hw94 ?hr94 ?hK94
                  case h94 => rfl
                  case hw94 => exact (wants_yes false rfl (by kernel_rfl) hgd)
                  case hr94 => exact (ex_move rfl (eval_tmp ((ha 6 (by kernel_rfl)).trans rfl)))
                  case hK94 => exact ⟨_, hp 99 _ (by kernel_rfl), JK.made hok hst hJ (List.mem_of_getElem? (i := 57) rfl) (Below.refl _ _)⟩
                · rintro l gv W hun hdep hcl hJ hg ha hp
                  have eg : gv 97 = .bool false := hJ.lit _ (List.mem_of_getElem? (i := 55) rfl) (hdep 55 (by kernel_rfl))
                  have hgd := (hg 97 (by kernel_rfl)).trans (congrArg some eg)
                  refine' op_val ?h95 ?hw95 ?hr95 ?hK95
                  case h95 => rfl
                  case hw95 => exact (wants_yes false rfl (by kernel_rfl) hgd)
                  case hr95 => exact (ex_indexAddr rfl ((eval_tmp (hg 98 (by kernel_rfl))).trans (hJ.lit _ (List.mem_of_getElem? (i := 56) rfl) (hdep 56 (by kernel_rfl)))) ((eval_tmp (hg 99 (by kernel_rfl))).trans (hJ.lit _ (List.mem_of_getElem? (i := 57) rfl) (hdep 57 (by kernel_rfl)))) (indexFs hiL))
                  case hK95 => exact ⟨_, hp 100 _ (by kernel_rfl), JK.made hok hst hJ (List.mem_of_getElem? (i := 58) rfl) (Below.refl _ _)⟩
                · rintro l gv W hun hdep hcl hJ hg ha hp
                  have eg : gv 97 = .bool false := hJ.lit _ (List.mem_of_getElem? (i := 55) rfl) (hdep 55 (by kernel_rfl))
                  have hgd := (hg 97 (by kernel_rfl)).trans (congrArg some eg)
                  refine' op_val ?h96 ?hw96 ?hr96 ?hK96
                  case h96 => rfl
                  case hw96 => exact (wants_yes false rfl (by kernel_rfl) hgd)
                  case hr96 => exact (ex_load rfl ((eval_tmp (hg 100 (by kernel_rfl))).trans (hJ.lit _ (List.mem_of_getElem? (i := 58) rfl) (hdep 58 (by kernel_rfl)))) (loadFo (cell_below hJ.low l0) (cell_below hJ.low l1) (cell_below hJ.low l2) (cell_below hJ.low l3)))
                  case hK96 => exact ⟨_, hp 101 _ (by kernel_rfl), JK.made hok hst hJ (List.mem_of_getElem? (i := 59) rfl) (Below.refl _ _)⟩
                · rintro l gv W hun hdep hcl hJ hg ha hp
                  have eg : gv 97 = .bool false := hJ.lit _ (List.mem_of_getElem? (i := 55) rfl) (hdep 55 (by kernel_rfl))
                  have hgd := (hg 97 (by kernel_rfl)).trans (congrArg some eg)
                  refine' op_call ?h97 ?hw97 ?hr97 ?hc97
                  case h97 => rfl
                  case hw97 => exact (wants_yes false rfl (by kernel_rfl) hgd)
                  case hr97 => exact (ex_call1 (enters_of Tryd.func20 (by kernel_rfl) rfl) rfl ((eval_tmp (hg 101 (by kernel_rfl))).trans (hJ.lit _ (List.mem_of_getElem? (i := 59) rfl) (hdep 59 (by kernel_rfl)))))
                  case hc97 =>
                    refine (predicates_all (L.get i) sI _ W (FVal.below hJ.low lv)).mono ?_
                    rintro e W' ⟨⟨v', rfl, hv'⟩, hb⟩
                    exact ⟨_, rfl, _, hp 102 _ (by kernel_rfl), JK.madeP hok hst hJ (List.mem_of_getElem? (i := 0) rfl) hv' hb⟩
                · rintro l gv W hun hdep hcl hJ hg ha hp
                  have eg : gv 97 = .bool false := hJ.lit _ (List.mem_of_getElem? (i := 55) rfl) (hdep 55 (by kernel_rfl))
                  have hgd := (hg 97 (by kernel_rfl)).trans (congrArg some eg)
                  refine' op_val ?h98 ?hw98 ?hr98 ?hK98
                  case h98 => rfl
                  case hw98 => exact (wants_yes false rfl (by kernel_rfl) hgd)
                  case hr98 => exact (ex_load rfl (eval_tmp ((ha 1 (by kernel_rfl)).trans rfl)) (loadFo (cell_below hJ.low f0) (cell_below hJ.low f1) (cell_below hJ.low f2) (cell_below hJ.low f3)))
                  case hK98 => exact ⟨_, hp 103 _ (by kernel_rfl), JK.made hok hst hJ (List.mem_of_getElem? (i := 60) rfl) (Below.refl _ _)⟩
                · rintro l gv W hun hdep hcl hJ hg ha hp
                  have eg : gv 97 = .bool false := hJ.lit _ (List.mem_of_getElem? (i := 55) rfl) (hdep 55 (by kernel_rfl))
                  have hgd := (hg 97 (by kernel_rfl)).trans (congrArg some eg)
                  refine' op_call ?h99 ?hw99 ?hr99 ?hc99
                  case h99 => rfl
                  case hw99 => exact (wants_yes false rfl (by kernel_rfl) hgd)
                  case hr99 => exact (ex_call1 (enters_of Tryd.func20 (by kernel_rfl) rfl) rfl ((eval_tmp (hg 103 (by kernel_rfl))).trans (hJ.lit _ (List.mem_of_getElem? (i := 60) rfl) (hdep 61 (by kernel_rfl)))))
                  case hc99 =>
                    refine (predicates_all f s6 _ W (FVal.below hJ.low fv)).mono ?_
                    rintro e W' ⟨⟨v', rfl, hv'⟩, hb⟩
                    exact ⟨_, rfl, _, hp 104 _ (by kernel_rfl), JK.madeP hok hst hJ (List.mem_of_getElem? (i := 1) rfl) hv' hb⟩
                · rintro l gv W hun hdep hcl hJ hg ha hp
                  have eg : gv 97 = .bool false := hJ.lit _ (List.mem_of_getElem? (i := 55) rfl) (hdep 55 (by kernel_rfl))
                  have hgd := (hg 97 (by kernel_rfl)).trans (congrArg some eg)
                  refine' op_call ?h100 ?hw100 ?hr100 ?hc100
                  case h100 => rfl
                  case hw100 => exact (wants_yes false rfl (by kernel_rfl) hgd)
                  case hr100 => exact (ex_call2 (enters_of Tryd.func19 (by kernel_rfl) rfl) rfl (eval_tmp (hg 102 (by kernel_rfl))) (eval_tmp (hg 104 (by kernel_rfl))))
                  case hc100 =>
                    refine (within_any (uniq (ms ((L.get i).parts.flatMap symP))) (uniq (ms (f.parts.flatMap symP))) _ _ W (hJ.pr _ (List.mem_of_getElem? (i := 0) rfl) (hdep 60 (by kernel_rfl))) (hJ.pr _ (List.mem_of_getElem? (i := 1) rfl) (hdep 62 (by kernel_rfl))) hn1 hn2).mono ?_
                    rintro e W' ⟨rfl, hb⟩
                    exact ⟨_, (congrArg (fun b => Ending.returned (Value.bool b)) (hPFh.out.preds i hiL)), _, hp 105 _ (by kernel_rfl), JK.made hok hst hJ (List.mem_of_getElem? (i := 61) rfl) hb⟩
                · rintro l gv W hun hdep hcl hJ hg ha hp
                  have eg : gv 97 = .bool false := hJ.lit _ (List.mem_of_getElem? (i := 55) rfl) (hdep 55 (by kernel_rfl))
                  have hgd := (hg 97 (by kernel_rfl)).trans (congrArg some eg)
                  refine' op_val ?h101 ?hw101 ?hr101 ?hK101
                  case h101 => rfl
                  case hw101 => exact (wants_yes false rfl (by kernel_rfl) hgd)
                  case hr101 => exact (ex_not rfl ((eval_tmp (hg 105 (by kernel_rfl))).trans (hJ.lit _ (List.mem_of_getElem? (i := 61) rfl) (hdep 63 (by kernel_rfl)))))
                  case hK101 => exact ⟨_, hp 106 _ (by kernel_rfl), JK.made hok hst hJ (List.mem_of_getElem? (i := 62) rfl) (Below.refl _ _)⟩
                · rintro l gv W hun hdep hcl hJ hg ha hp
                  refine' op_val ?h102 ?hw102 ?hr102 ?hK102
                  case h102 => rfl
                  case hw102 => exact rfl
                  case hr102 => exact (ex_pickF rfl ((eval_tmp (hg 97 (by kernel_rfl))).trans (hJ.lit _ (List.mem_of_getElem? (i := 55) rfl) (hdep 55 (by kernel_rfl)))) ((eval_tmp (hg 106 (by kernel_rfl))).trans (hJ.lit _ (List.mem_of_getElem? (i := 62) rfl) (hdep 64 (by kernel_rfl)))))
                  case hK102 => exact ⟨_, hp 107 _ (by kernel_rfl), JK.made hok hst hJ (List.mem_of_getElem? (i := 63) rfl) (Below.refl _ _)⟩
                · rintro l gv W hun hdep hcl hJ hg ha hp
                  refine' op_val ?h103 ?hw103 ?hr103 ?hK103
                  case h103 => rfl
                  case hw103 => exact rfl
                  case hr103 => exact (ex_move rfl ((eval_tmp (hg 107 (by kernel_rfl))).trans (hJ.lit _ (List.mem_of_getElem? (i := 63) rfl) (hdep 65 (by kernel_rfl)))))
                  case hK103 => exact ⟨_, hp 108 _ (by kernel_rfl), JK.made hok hst hJ (List.mem_of_getElem? (i := 64) rfl) (Below.refl _ _)⟩
                · rintro l gv W hun hdep hcl hJ hg ha hp
                  have eg : gv 108 = .bool false := hJ.lit _ (List.mem_of_getElem? (i := 64) rfl) (hdep 66 (by kernel_rfl))
                  have hgd := (hg 108 (by kernel_rfl)).trans (congrArg some eg)
                  refine' op_val ?h104 ?hw104 ?hr104 ?hK104
                  case h104 => rfl
                  case hw104 => exact (wants_yes false rfl (by kernel_rfl) hgd)
                  case hr104 => exact (ex_move rfl (eval_tmp ((ha 3 (by kernel_rfl)).trans rfl)))
                  case hK104 => exact ⟨_, hp 109 _ (by kernel_rfl), JK.made hok hst hJ (List.mem_of_getElem? (i := 65) rfl) (Below.refl _ _)⟩
                · rintro l gv W hun hdep hcl hJ hg ha hp
                  have eg : gv 108 = .bool false := hJ.lit _ (List.mem_of_getElem? (i := 64) rfl) (hdep 66 (by kernel_rfl))
                  have hgd := (hg 108 (by kernel_rfl)).trans (congrArg some eg)
                  refine' op_val ?h105 ?hw105 ?hr105 ?hK105
                  case h105 => rfl
                  case hw105 => exact (wants_yes false rfl (by kernel_rfl) hgd)
                  case hr105 => exact (ex_move rfl (eval_tmp ((ha 6 (by kernel_rfl)).trans rfl)))
                  case hK105 => exact ⟨_, hp 110 _ (by kernel_rfl), JK.made hok hst hJ (List.mem_of_getElem? (i := 66) rfl) (Below.refl _ _)⟩
                · rintro l gv W hun hdep hcl hJ hg ha hp
                  have eg : gv 108 = .bool false := hJ.lit _ (List.mem_of_getElem? (i := 64) rfl) (hdep 66 (by kernel_rfl))
                  have hgd := (hg 108 (by kernel_rfl)).trans (congrArg some eg)
                  refine' op_val ?h106 ?hw106 ?hr106 ?hK106
                  case h106 => rfl
                  case hw106 => exact (wants_yes false rfl (by kernel_rfl) hgd)
                  case hr106 => exact (ex_indexAddr rfl ((eval_tmp (hg 109 (by kernel_rfl))).trans (hJ.lit _ (List.mem_of_getElem? (i := 65) rfl) (hdep 67 (by kernel_rfl)))) ((eval_tmp (hg 110 (by kernel_rfl))).trans (hJ.lit _ (List.mem_of_getElem? (i := 66) rfl) (hdep 68 (by kernel_rfl)))) (indexFs hiL))
                  case hK106 => exact ⟨_, hp 111 _ (by kernel_rfl), JK.made hok hst hJ (List.mem_of_getElem? (i := 67) rfl) (Below.refl _ _)⟩
                · rintro l gv W hun hdep hcl hJ hg ha hp
                  have eg : gv 108 = .bool false := hJ.lit _ (List.mem_of_getElem? (i := 64) rfl) (hdep 66 (by kernel_rfl))
                  have hgd := (hg 108 (by kernel_rfl)).trans (congrArg some eg)
                  refine' op_val ?h107 ?hw107 ?hr107 ?hK107
                  case h107 => rfl
                  case hw107 => exact (wants_yes false rfl (by kernel_rfl) hgd)
                  case hr107 => exact (ex_load rfl ((eval_tmp (hg 111 (by kernel_rfl))).trans (hJ.lit _ (List.mem_of_getElem? (i := 67) rfl) (hdep 69 (by kernel_rfl)))) (loadFo (cell_below hJ.low l0) (cell_below hJ.low l1) (cell_below hJ.low l2) (cell_below hJ.low l3)))
                  case hK107 => exact ⟨_, hp 112 _ (by kernel_rfl), JK.made hok hst hJ (List.mem_of_getElem? (i := 68) rfl) (Below.refl _ _)⟩
                · rintro l gv W hun hdep hcl hJ hg ha hp
                  have eg : gv 108 = .bool false := hJ.lit _ (List.mem_of_getElem? (i := 64) rfl) (hdep 66 (by kernel_rfl))
                  have hgd := (hg 108 (by kernel_rfl)).trans (congrArg some eg)
                  refine' op_call ?h108 ?hw108 ?hr108 ?hc108
                  case h108 => rfl
                  case hw108 => exact (wants_yes false rfl (by kernel_rfl) hgd)
                  case hr108 => exact (ex_call1 (enters_of Tryd.func21 (by kernel_rfl) rfl) rfl ((eval_tmp (hg 112 (by kernel_rfl))).trans (hJ.lit _ (List.mem_of_getElem? (i := 68) rfl) (hdep 70 (by kernel_rfl)))))
                  case hc108 =>
                    refine (functions_all (L.get i) sI _ W (FVal.below hJ.low lv)).mono ?_
                    rintro e W' ⟨⟨v', rfl, hv'⟩, hb⟩
                    exact ⟨_, rfl, _, hp 113 _ (by kernel_rfl), JK.madeP hok hst hJ (List.mem_of_getElem? (i := 2) rfl) hv' hb⟩
                · rintro l gv W hun hdep hcl hJ hg ha hp
                  have eg : gv 108 = .bool false := hJ.lit _ (List.mem_of_getElem? (i := 64) rfl) (hdep 66 (by kernel_rfl))
                  have hgd := (hg 108 (by kernel_rfl)).trans (congrArg some eg)
                  refine' op_val ?h109 ?hw109 ?hr109 ?hK109
                  case h109 => rfl
                  case hw109 => exact (wants_yes false rfl (by kernel_rfl) hgd)
                  case hr109 => exact (ex_load rfl (eval_tmp ((ha 1 (by kernel_rfl)).trans rfl)) (loadFo (cell_below hJ.low f0) (cell_below hJ.low f1) (cell_below hJ.low f2) (cell_below hJ.low f3)))
                  case hK109 => exact ⟨_, hp 114 _ (by kernel_rfl), JK.made hok hst hJ (List.mem_of_getElem? (i := 69) rfl) (Below.refl _ _)⟩
                · rintro l gv W hun hdep hcl hJ hg ha hp
                  have eg : gv 108 = .bool false := hJ.lit _ (List.mem_of_getElem? (i := 64) rfl) (hdep 66 (by kernel_rfl))
                  have hgd := (hg 108 (by kernel_rfl)).trans (congrArg some eg)
                  refine' op_call ?h110 ?hw110 ?hr110 ?hc110
                  case h110 => rfl
                  case hw110 => exact (wants_yes false rfl (by kernel_rfl) hgd)
                  case hr110 => exact (ex_call1 (enters_of Tryd.func21 (by kernel_rfl) rfl) rfl ((eval_tmp (hg 114 (by kernel_rfl))).trans (hJ.lit _ (List.mem_of_getElem? (i := 69) rfl) (hdep 72 (by kernel_rfl)))))
                  case hc110 =>
                    refine (functions_all f s6 _ W (FVal.below hJ.low fv)).mono ?_
                    rintro e W' ⟨⟨v', rfl, hv'⟩, hb⟩
                    exact ⟨_, rfl, _, hp 115 _ (by kernel_rfl), JK.madeP hok hst hJ (List.mem_of_getElem? (i := 3) rfl) hv' hb⟩
                · rintro l gv W hun hdep hcl hJ hg ha hp
                  have eg : gv 108 = .bool false := hJ.lit _ (List.mem_of_getElem? (i := 64) rfl) (hdep 66 (by kernel_rfl))
                  have hgd := (hg 108 (by kernel_rfl)).trans (congrArg some eg)
                  refine' op_call ?h111 ?hw111 ?hr111 ?hc111
                  case h111 => rfl
                  case hw111 => exact (wants_yes false rfl (by kernel_rfl) hgd)
                  case hr111 => exact (ex_call2 (enters_of Tryd.func19 (by kernel_rfl) rfl) rfl (eval_tmp (hg 113 (by kernel_rfl))) (eval_tmp (hg 115 (by kernel_rfl))))
                  case hc111 =>
                    refine (within_any (uniq (ms ((L.get i).terms.flatMap symT))) (uniq (ms (f.terms.flatMap symT))) _ _ W (hJ.pr _ (List.mem_of_getElem? (i := 2) rfl) (hdep 71 (by kernel_rfl))) (hJ.pr _ (List.mem_of_getElem? (i := 3) rfl) (hdep 73 (by kernel_rfl))) hn3 hn4).mono ?_
                    rintro e W' ⟨rfl, hb⟩
                    exact ⟨_, (congrArg (fun b => Ending.returned (Value.bool b)) (hPFh.out.funcs i hiL)), _, hp 116 _ (by kernel_rfl), JK.made hok hst hJ (List.mem_of_getElem? (i := 70) rfl) hb⟩
                · rintro l gv W hun hdep hcl hJ hg ha hp
                  have eg : gv 108 = .bool false := hJ.lit _ (List.mem_of_getElem? (i := 64) rfl) (hdep 66 (by kernel_rfl))
                  have hgd := (hg 108 (by kernel_rfl)).trans (congrArg some eg)
                  refine' op_val ?h112 ?hw112 ?hr112 ?hK112
                  case h112 => rfl
                  case hw112 => exact (wants_yes false rfl (by kernel_rfl) hgd)
                  case hr112 => exact (ex_not rfl ((eval_tmp (hg 116 (by kernel_rfl))).trans (hJ.lit _ (List.mem_of_getElem? (i := 70) rfl) (hdep 74 (by kernel_rfl)))))
                  case hK112 => exact ⟨_, hp 117 _ (by kernel_rfl), JK.made hok hst hJ (List.mem_of_getElem? (i := 71) rfl) (Below.refl _ _)⟩
                · rintro l gv W hun hdep hcl hJ hg ha hp
                  refine' op_val ?h113 ?hw113 ?hr113 ?hK113
                  case h113 => rfl
                  case hw113 => exact rfl
                  case hr113 => exact (ex_pickF rfl ((eval_tmp (hg 108 (by kernel_rfl))).trans (hJ.lit _ (List.mem_of_getElem? (i := 64) rfl) (hdep 66 (by kernel_rfl)))) ((eval_tmp (hg 117 (by kernel_rfl))).trans (hJ.lit _ (List.mem_of_getElem? (i := 71) rfl) (hdep 75 (by kernel_rfl)))))
                  case hK113 => exact ⟨_, hp 118 _ (by kernel_rfl), JK.made hok hst hJ (List.mem_of_getElem? (i := 72) rfl) (Below.refl _ _)⟩
              case hend113 =>
                rintro ll gv W9 hl hJ
                have e42 : gv 42 = .bool true := hJ.lit _ (List.mem_of_getElem? (i := 0) rfl) (hl 0 (of_decide_eq_true (by kernel_rfl)))
                have e43 : gv 43 = .bool true := hJ.lit _ (List.mem_of_getElem? (i := 1) rfl) (hl 1 (of_decide_eq_true (by kernel_rfl)))
                have e44 : gv 44 = .slice (some ⟨bl, ol, none⟩) L.len cl := hJ.lit _ (List.mem_of_getElem? (i := 2) rfl) (hl 2 (of_decide_eq_true (by kernel_rfl)))
                have e45 : gv 45 = .int .i64 (i : Int) := hJ.lit _ (List.mem_of_getElem? (i := 3) rfl) (hl 3 (of_decide_eq_true (by kernel_rfl)))
                have e46 : gv 46 = .pointer (some ⟨bl, ol + i * 4, none⟩) := hJ.lit _ (List.mem_of_getElem? (i := 4) rfl) (hl 4 (of_decide_eq_true (by kernel_rfl)))
                have e47 : gv 47 = fval (L.get i) (.slice ps (L.get i).ts.len cs) (.slice pt (L.get i).sub.len ct) := hJ.lit _ (List.mem_of_getElem? (i := 5) rfl) (hl 5 (of_decide_eq_true (by kernel_rfl)))
                have e48 : gv 48 = .bool true := hJ.lit _ (List.mem_of_getElem? (i := 6) rfl) (hl 6 (of_decide_eq_true (by kernel_rfl)))
                have e49 : gv 49 = .bool false := hJ.lit _ (List.mem_of_getElem? (i := 7) rfl) (hl 7 (of_decide_eq_true (by kernel_rfl)))
                have e50 : gv 50 = .bool false := hJ.lit _ (List.mem_of_getElem? (i := 8) rfl) (hl 8 (of_decide_eq_true (by kernel_rfl)))
                have e51 : gv 51 = .bool false := hJ.lit _ (List.mem_of_getElem? (i := 9) rfl) (hl 9 (of_decide_eq_true (by kernel_rfl)))
                have e52 : gv 52 = .bool true := hJ.lit _ (List.mem_of_getElem? (i := 10) rfl) (hl 10 (of_decide_eq_true (by kernel_rfl)))
                have e53 : gv 53 = .bool true := hJ.lit _ (List.mem_of_getElem? (i := 11) rfl) (hl 11 (of_decide_eq_true (by kernel_rfl)))
                have e54 : gv 54 = .slice (some ⟨bl, ol, none⟩) L.len cl := hJ.lit _ (List.mem_of_getElem? (i := 12) rfl) (hl 12 (of_decide_eq_true (by kernel_rfl)))
                have e55 : gv 55 = .int .i64 (i : Int) := hJ.lit _ (List.mem_of_getElem? (i := 13) rfl) (hl 13 (of_decide_eq_true (by kernel_rfl)))
                have e56 : gv 56 = .pointer (some ⟨bl, ol + i * 4, none⟩) := hJ.lit _ (List.mem_of_getElem? (i := 14) rfl) (hl 14 (of_decide_eq_true (by kernel_rfl)))
                have e57 : gv 57 = fval (L.get i) (.slice ps (L.get i).ts.len cs) (.slice pt (L.get i).sub.len ct) := hJ.lit _ (List.mem_of_getElem? (i := 15) rfl) (hl 15 (of_decide_eq_true (by kernel_rfl)))
                have e58 : gv 58 = .bool true := hJ.lit _ (List.mem_of_getElem? (i := 16) rfl) (hl 16 (of_decide_eq_true (by kernel_rfl)))
                have e59 : gv 59 = .bool false := hJ.lit _ (List.mem_of_getElem? (i := 17) rfl) (hl 17 (of_decide_eq_true (by kernel_rfl)))
                have e60 : gv 60 = .bool false := hJ.lit _ (List.mem_of_getElem? (i := 18) rfl) (hl 18 (of_decide_eq_true (by kernel_rfl)))
                have e61 : gv 61 = .bool false := hJ.lit _ (List.mem_of_getElem? (i := 19) rfl) (hl 19 (of_decide_eq_true (by kernel_rfl)))
                have e62 : gv 62 = .bool false := hJ.lit _ (List.mem_of_getElem? (i := 20) rfl) (hl 20 (of_decide_eq_true (by kernel_rfl)))
                have e63 : gv 63 = .slice (some ⟨bl, ol, none⟩) L.len cl := hJ.lit _ (List.mem_of_getElem? (i := 21) rfl) (hl 21 (of_decide_eq_true (by kernel_rfl)))
                have e64 : gv 64 = .int .i64 (i : Int) := hJ.lit _ (List.mem_of_getElem? (i := 22) rfl) (hl 22 (of_decide_eq_true (by kernel_rfl)))
                have e65 : gv 65 = .pointer (some ⟨bl, ol + i * 4, none⟩) := hJ.lit _ (List.mem_of_getElem? (i := 23) rfl) (hl 23 (of_decide_eq_true (by kernel_rfl)))
                have e66 : gv 66 = fval (L.get i) (.slice ps (L.get i).ts.len cs) (.slice pt (L.get i).sub.len ct) := hJ.lit _ (List.mem_of_getElem? (i := 24) rfl) (hl 24 (of_decide_eq_true (by kernel_rfl)))
                have e67 : gv 67 = mval (maskOf (L.get i).parts) := hJ.lit _ (List.mem_of_getElem? (i := 25) rfl) (hl 25 (of_decide_eq_true (by kernel_rfl)))
                have e68 : gv 68 = .agg #[.int .u8 f.op, .string f.n, .slice pa f.ts.len ca, .slice qa f.sub.len da] := hJ.lit _ (List.mem_of_getElem? (i := 26) rfl) (hl 26 (of_decide_eq_true (by kernel_rfl)))
                have e69 : gv 69 = mval (maskOf f.parts) := hJ.lit _ (List.mem_of_getElem? (i := 27) rfl) (hl 27 (of_decide_eq_true (by kernel_rfl)))
                have e70 : gv 70 = mval 0#32 := hJ.lit _ (List.mem_of_getElem? (i := 28) rfl) (hl 28 (of_decide_eq_true (by kernel_rfl)))
                have e71 : gv 71 = .bool false := hJ.lit _ (List.mem_of_getElem? (i := 29) rfl) (hl 29 (of_decide_eq_true (by kernel_rfl)))
                have e72 : gv 72 = .bool false := hJ.lit _ (List.mem_of_getElem? (i := 30) rfl) (hl 30 (of_decide_eq_true (by kernel_rfl)))
                have e73 : gv 73 = .bool false := hJ.lit _ (List.mem_of_getElem? (i := 31) rfl) (hl 31 (of_decide_eq_true (by kernel_rfl)))
                have e74 : gv 74 = .int .i64 (i : Int) := hJ.lit _ (List.mem_of_getElem? (i := 32) rfl) (hl 32 (of_decide_eq_true (by kernel_rfl)))
                have e75 : gv 75 = .bool ib := hJ.lit _ (List.mem_of_getElem? (i := 33) rfl) (hl 33 (of_decide_eq_true (by kernel_rfl)))
                have e76 : gv 76 = .bool ib := hJ.lit _ (List.mem_of_getElem? (i := 34) rfl) (hl 34 (of_decide_eq_true (by kernel_rfl)))
                have e77 : gv 77 = cond ib (.slice (some ⟨bl, ol, none⟩) L.len cl) undef := hJ.lit _ (List.mem_of_getElem? (i := 35) rfl) (hl 35 (of_decide_eq_true (by kernel_rfl)))
                have e78 : gv 78 = cond ib (.int .i64 (i : Int)) undef := hJ.lit _ (List.mem_of_getElem? (i := 36) rfl) (hl 36 (of_decide_eq_true (by kernel_rfl)))
                have e79 : gv 79 = cond ib (.pointer (some ⟨bl, ol + i * 4, none⟩)) undef := hJ.lit _ (List.mem_of_getElem? (i := 37) rfl) (hl 37 (of_decide_eq_true (by kernel_rfl)))
                have e80 : gv 80 = cond ib (fval (L.get i) (.slice ps (L.get i).ts.len cs) (.slice pt (L.get i).sub.len ct)) undef := hJ.lit _ (List.mem_of_getElem? (i := 38) rfl) (hl 38 (of_decide_eq_true (by kernel_rfl)))
                have e81 : gv 81 = cond ib (.int .i64 ((L.get i).size : Int)) undef := hJ.lit _ (List.mem_of_getElem? (i := 39) rfl) (hl 39 (of_decide_eq_true (by kernel_rfl)))
                have e82 : gv 82 = cond ib (.agg #[.int .u8 f.op, .string f.n, .slice pa f.ts.len ca, .slice qa f.sub.len da]) undef := hJ.lit _ (List.mem_of_getElem? (i := 40) rfl) (hl 40 (of_decide_eq_true (by kernel_rfl)))
                have e83 : gv 83 = cond ib (.int .i64 (f.size : Int)) undef := hJ.lit _ (List.mem_of_getElem? (i := 41) rfl) (hl 41 (of_decide_eq_true (by kernel_rfl)))
                have e84 : gv 84 = cond ib (.bool false) undef := hJ.lit _ (List.mem_of_getElem? (i := 42) rfl) (hl 42 (of_decide_eq_true (by kernel_rfl)))
                have e85 : gv 85 = cond ib (.bool false) undef := hJ.lit _ (List.mem_of_getElem? (i := 43) rfl) (hl 43 (of_decide_eq_true (by kernel_rfl)))
                have e86 : gv 86 = cond ib (.slice (some ⟨bl, ol, none⟩) L.len cl) undef := hJ.lit _ (List.mem_of_getElem? (i := 44) rfl) (hl 44 (of_decide_eq_true (by kernel_rfl)))
                have e87 : gv 87 = cond ib (.int .i64 (i : Int)) undef := hJ.lit _ (List.mem_of_getElem? (i := 45) rfl) (hl 45 (of_decide_eq_true (by kernel_rfl)))
                have e88 : gv 88 = cond ib (.pointer (some ⟨bl, ol + i * 4, none⟩)) undef := hJ.lit _ (List.mem_of_getElem? (i := 46) rfl) (hl 46 (of_decide_eq_true (by kernel_rfl)))
                have e89 : gv 89 = cond ib (fval (L.get i) (.slice ps (L.get i).ts.len cs) (.slice pt (L.get i).sub.len ct)) undef := hJ.lit _ (List.mem_of_getElem? (i := 47) rfl) (hl 47 (of_decide_eq_true (by kernel_rfl)))
                have e90 : gv 90 = cond ib (.int .i64 ((L.get i).deep : Int)) undef := hJ.lit _ (List.mem_of_getElem? (i := 48) rfl) (hl 48 (of_decide_eq_true (by kernel_rfl)))
                have e91 : gv 91 = cond ib (.agg #[.int .u8 f.op, .string f.n, .slice pa f.ts.len ca, .slice qa f.sub.len da]) undef := hJ.lit _ (List.mem_of_getElem? (i := 49) rfl) (hl 49 (of_decide_eq_true (by kernel_rfl)))
                have e92 : gv 92 = cond ib (.int .i64 (f.deep : Int)) undef := hJ.lit _ (List.mem_of_getElem? (i := 50) rfl) (hl 50 (of_decide_eq_true (by kernel_rfl)))
                have e93 : gv 93 = cond ib (.bool false) undef := hJ.lit _ (List.mem_of_getElem? (i := 51) rfl) (hl 51 (of_decide_eq_true (by kernel_rfl)))
                have e94 : gv 94 = cond ib (.bool false) undef := hJ.lit _ (List.mem_of_getElem? (i := 52) rfl) (hl 52 (of_decide_eq_true (by kernel_rfl)))
                have e95 : gv 95 = .bool false := hJ.lit _ (List.mem_of_getElem? (i := 53) rfl) (hl 53 (of_decide_eq_true (by kernel_rfl)))
                have e96 : gv 96 = .bool false := hJ.lit _ (List.mem_of_getElem? (i := 54) rfl) (hl 54 (of_decide_eq_true (by kernel_rfl)))
                have e97 : gv 97 = .bool false := hJ.lit _ (List.mem_of_getElem? (i := 55) rfl) (hl 55 (of_decide_eq_true (by kernel_rfl)))
                have e98 : gv 98 = .slice (some ⟨bl, ol, none⟩) L.len cl := hJ.lit _ (List.mem_of_getElem? (i := 56) rfl) (hl 56 (of_decide_eq_true (by kernel_rfl)))
                have e99 : gv 99 = .int .i64 (i : Int) := hJ.lit _ (List.mem_of_getElem? (i := 57) rfl) (hl 57 (of_decide_eq_true (by kernel_rfl)))
                have e100 : gv 100 = .pointer (some ⟨bl, ol + i * 4, none⟩) := hJ.lit _ (List.mem_of_getElem? (i := 58) rfl) (hl 58 (of_decide_eq_true (by kernel_rfl)))
                have e101 : gv 101 = fval (L.get i) (.slice ps (L.get i).ts.len cs) (.slice pt (L.get i).sub.len ct) := hJ.lit _ (List.mem_of_getElem? (i := 59) rfl) (hl 59 (of_decide_eq_true (by kernel_rfl)))
                have e103 : gv 103 = .agg #[.int .u8 f.op, .string f.n, .slice pa f.ts.len ca, .slice qa f.sub.len da] := hJ.lit _ (List.mem_of_getElem? (i := 60) rfl) (hl 61 (of_decide_eq_true (by kernel_rfl)))
                have e105 : gv 105 = .bool true := hJ.lit _ (List.mem_of_getElem? (i := 61) rfl) (hl 63 (of_decide_eq_true (by kernel_rfl)))
                have e106 : gv 106 = .bool false := hJ.lit _ (List.mem_of_getElem? (i := 62) rfl) (hl 64 (of_decide_eq_true (by kernel_rfl)))
                have e107 : gv 107 = .bool false := hJ.lit _ (List.mem_of_getElem? (i := 63) rfl) (hl 65 (of_decide_eq_true (by kernel_rfl)))
                have e108 : gv 108 = .bool false := hJ.lit _ (List.mem_of_getElem? (i := 64) rfl) (hl 66 (of_decide_eq_true (by kernel_rfl)))
                have e109 : gv 109 = .slice (some ⟨bl, ol, none⟩) L.len cl := hJ.lit _ (List.mem_of_getElem? (i := 65) rfl) (hl 67 (of_decide_eq_true (by kernel_rfl)))
                have e110 : gv 110 = .int .i64 (i : Int) := hJ.lit _ (List.mem_of_getElem? (i := 66) rfl) (hl 68 (of_decide_eq_true (by kernel_rfl)))
                have e111 : gv 111 = .pointer (some ⟨bl, ol + i * 4, none⟩) := hJ.lit _ (List.mem_of_getElem? (i := 67) rfl) (hl 69 (of_decide_eq_true (by kernel_rfl)))
                have e112 : gv 112 = fval (L.get i) (.slice ps (L.get i).ts.len cs) (.slice pt (L.get i).sub.len ct) := hJ.lit _ (List.mem_of_getElem? (i := 68) rfl) (hl 70 (of_decide_eq_true (by kernel_rfl)))
                have e114 : gv 114 = .agg #[.int .u8 f.op, .string f.n, .slice pa f.ts.len ca, .slice qa f.sub.len da] := hJ.lit _ (List.mem_of_getElem? (i := 69) rfl) (hl 72 (of_decide_eq_true (by kernel_rfl)))
                have e116 : gv 116 = .bool true := hJ.lit _ (List.mem_of_getElem? (i := 70) rfl) (hl 74 (of_decide_eq_true (by kernel_rfl)))
                have e117 : gv 117 = .bool false := hJ.lit _ (List.mem_of_getElem? (i := 71) rfl) (hl 75 (of_decide_eq_true (by kernel_rfl)))
                have e118 : gv 118 = .bool false := hJ.lit _ (List.mem_of_getElem? (i := 72) rfl) (hl 76 (of_decide_eq_true (by kernel_rfl)))
                simp only [zipV, List.map_cons, List.map_nil, puts, Act.put, List.setIfInBounds_toArray, List.set_cons_succ, List.set_cons_zero, e42, e43, e44, e45, e46, e47, e48, e49, e50, e51, e52, e53, e54, e55, e56, e57, e58, e59, e60, e61, e62, e63, e64, e65, e66, e67, e68, e69, e70, e71, e72, e73, e74, e75, e76, e77, e78, e79, e80, e81, e82, e83, e84, e85, e86, e87, e88, e89, e90, e91, e92, e93, e94, e95, e96, e97, e98, e99, e100, e101, e103, e105, e106, e107, e108, e109, e110, e111, e112, e114, e116, e117, e118]
                have hlow := Lib.hid hJ.low
                clear e42 e43 e44 e45 e46 e47 e48 e49 e50 e51 e52 e53 e54 e55 e56 e57 e58 e59 e60 e61 e62 e63 e64 e65 e66 e67 e68 e69 e70 e71 e72 e73 e74 e75 e76 e77 e78 e79 e80 e81 e82 e83 e84 e85 e86 e87 e88 e89 e90 e91 e92 e93 e94 e95 e96 e97 e98 e99 e100 e101 e103 e105 e106 e107 e108 e109 e110 e111 e112 e114 e116 e117 e118 hJ hl
                obtain ⟨u102, hu102⟩ : ∃ u, gv 102 = u := ⟨_, rfl⟩
                rw [hu102]
                clear hu102
                obtain ⟨u104, hu104⟩ : ∃ u, gv 104 = u := ⟨_, rfl⟩
                rw [hu104]
                clear hu104
                obtain ⟨u113, hu113⟩ : ∃ u, gv 113 = u := ⟨_, rfl⟩
                rw [hu113]
                clear hu113
                obtain ⟨u115, hu115⟩ : ∃ u, gv 115 = u := ⟨_, rfl⟩
                rw [hu115]
                clear hu115
                obtain ⟨w10, hw10⟩ : ∃ w10, W9 = w10 := ⟨_, rfl⟩
                rw [hw10] at hlow ⊢
                have h810 := Lib.hid (bel_step h8r.out hlow.out)
                clear hw10 hlow hrw8 hib hib1 hn1 hn2 hn3 hn4 l0 l1 l2 l3 lv f0 f1 f2 f3 fv hk1
                cases ib
                all_goals
                  go_wp2_with fail
                  go_loopw [7] (fun s7 wr => ∃ k : Nat, s7 = .int .i64 (k : Int) ∧ k ≤ i ∧ Below w8.heap.size w8 wr) (fun s7 _ => i - (intOf s7).toNat)
                  case atStart => exact ⟨0, rfl, Nat.zero_le _, h810.out⟩
                  case round =>
                    obtain ⟨k, rfl, hki', hbr⟩ := hrel
                    have h8k := Lib.hid hbr
                    clear hbr
                    by_cases hki : k < i
                    · have hk1 : (k : Int) < (i : Int) := by omega
                      have hkL : k < L.len := by omega
                      have hkw2 : IntKind.i64.wrap ((k : Int) + 1) = (k : Int) + 1 := IntWalk.i64_in _ (by omega)
                      have sK : (L.get k).size ≤ 1000000 := Nat.le_trans (hPFh.out.le k hkL) s6
                      obtain ⟨l0, l1, ⟨_, l2, ls⟩, ⟨_, l3, lt⟩⟩ := (FsAt.below h8k.out hLat.out).get (k := i) hiL
                      have lv : FVal wr (L.get i) (fval (L.get i) _ _) := ⟨_, _, rfl, ls, lt⟩
                      obtain ⟨ps, cs, rfl, -⟩ := ls
                      obtain ⟨pt, ct, rfl, -⟩ := lt
                      obtain ⟨m0, m1, ⟨_, m2, ms'⟩, ⟨_, m3, mt⟩⟩ := (FsAt.below h8k.out hLat.out).get (k := k) hkL
                      have mv : FVal wr (L.get k) (fval (L.get k) _ _) := ⟨_, _, rfl, ms', mt⟩
                      obtain ⟨psk, csk, rfl, -⟩ := ms'
                      obtain ⟨ptk, ctk, rfl, -⟩ := mt
                      go_wp2_with fail
                      refine wp_region_run (by kernel_rfl) 137 [124, 125, 126, 127, 128, 129, 130, 131, 132] (JK wr [(0, 124, .slice (some ⟨bl, ol, none⟩) L.len cl), (1, 125, .int .i64 (i : Int)), (2, 126, .pointer (some ⟨bl, ol + i * 4, none⟩)), (3, 127, fval (L.get i) (.slice ps (L.get i).ts.len cs) (.slice pt (L.get i).sub.len ct)), (4, 128, .slice (some ⟨bl, ol, none⟩) L.len cl), (5, 129, .int .i64 (k : Int)), (6, 130, .pointer (some ⟨bl, ol + k * 4, none⟩)), (7, 131, fval (L.get k) (.slice psk (L.get k).ts.len csk) (.slice ptk (L.get k).sub.len ctk)), (8, 132, .bool false)] []) (by kernel_rfl) rfl (JK.start _ _) ?hst122 ?hend122
                      case hst122 =>
                        have hok : okK [(0, 124, .slice (some ⟨bl, ol, none⟩) L.len cl), (1, 125, .int .i64 (i : Int)), (2, 126, .pointer (some ⟨bl, ol + i * 4, none⟩)), (3, 127, fval (L.get i) (.slice ps (L.get i).ts.len cs) (.slice pt (L.get i).sub.len ct)), (4, 128, .slice (some ⟨bl, ol, none⟩) L.len cl), (5, 129, .int .i64 (k : Int)), (6, 130, .pointer (some ⟨bl, ol + k * 4, none⟩)), (7, 131, fval (L.get k) (.slice psk (L.get k).ts.len csk) (.slice ptk (L.get k).sub.len ctk)), (8, 132, .bool false)] [] = true := by kernel_rfl
                        have hst : ∀ p ∈ ([] : List (Nat × Nat × (Value → World → Prop))), Stb p.2.2 := fun p hp => (by cases hp)
                        refine ⟨?_, ?_, ?_, ?_, ?_, ?_, ?_, ?_, ?_, trivial⟩
                        · rintro l gv W hun hdep hcl hJ hg ha hp
                          refine' op_val ?h114 ?hw114 ?hr114 ?hK114
                          case h114 => rfl
                          case hw114 => exact rfl
                          case hr114 => exact (ex_move rfl (eval_tmp ((ha 3 (by kernel_rfl)).trans rfl)))
                          case hK114 => exact ⟨_, hp 124 _ (by kernel_rfl), JK.made hok hst hJ (List.mem_of_getElem? (i := 0) rfl) (Below.refl _ _)⟩
                        · rintro l gv W hun hdep hcl hJ hg ha hp
                          refine' op_val ?h115 ?hw115 ?hr115 ?hK115
                          case h115 => rfl
                          case hw115 => exact rfl
                          case hr115 => exact (ex_move rfl (eval_tmp ((ha 6 (by kernel_rfl)).trans rfl)))
                          case hK115 => exact ⟨_, hp 125 _ (by kernel_rfl), JK.made hok hst hJ (List.mem_of_getElem? (i := 1) rfl) (Below.refl _ _)⟩
                        · rintro l gv W hun hdep hcl hJ hg ha hp
                          refine' op_val ?h116 ?hw116 ?hr116 ?hK116
                          case h116 => rfl
                          case hw116 => exact rfl
                          case hr116 => exact (ex_indexAddr rfl ((eval_tmp (hg 124 (by kernel_rfl))).trans (hJ.lit _ (List.mem_of_getElem? (i := 0) rfl) (hdep 0 (by kernel_rfl)))) ((eval_tmp (hg 125 (by kernel_rfl))).trans (hJ.lit _ (List.mem_of_getElem? (i := 1) rfl) (hdep 1 (by kernel_rfl)))) (indexFs hiL))
                          case hK116 => exact ⟨_, hp 126 _ (by kernel_rfl), JK.made hok hst hJ (List.mem_of_getElem? (i := 2) rfl) (Below.refl _ _)⟩
                        · rintro l gv W hun hdep hcl hJ hg ha hp
                          refine' op_val ?h117 ?hw117 ?hr117 ?hK117
                          case h117 => rfl
                          case hw117 => exact rfl
                          case hr117 => exact (ex_load rfl ((eval_tmp (hg 126 (by kernel_rfl))).trans (hJ.lit _ (List.mem_of_getElem? (i := 2) rfl) (hdep 2 (by kernel_rfl)))) (loadFo (cell_below hJ.low l0) (cell_below hJ.low l1) (cell_below hJ.low l2) (cell_below hJ.low l3)))
                          case hK117 => exact ⟨_, hp 127 _ (by kernel_rfl), JK.made hok hst hJ (List.mem_of_getElem? (i := 3) rfl) (Below.refl _ _)⟩
                        · rintro l gv W hun hdep hcl hJ hg ha hp
                          refine' op_val ?h118 ?hw118 ?hr118 ?hK118
                          case h118 => rfl
                          case hw118 => exact rfl
                          case hr118 => exact (ex_move rfl (eval_tmp ((ha 3 (by kernel_rfl)).trans rfl)))
                          case hK118 => exact ⟨_, hp 128 _ (by kernel_rfl), JK.made hok hst hJ (List.mem_of_getElem? (i := 4) rfl) (Below.refl _ _)⟩
                        · rintro l gv W hun hdep hcl hJ hg ha hp
                          refine' op_val ?h119 ?hw119 ?hr119 ?hK119
                          case h119 => rfl
                          case hw119 => exact rfl
                          case hr119 => exact (ex_move rfl (eval_tmp ((ha 7 (by kernel_rfl)).trans rfl)))
                          case hK119 => exact ⟨_, hp 129 _ (by kernel_rfl), JK.made hok hst hJ (List.mem_of_getElem? (i := 5) rfl) (Below.refl _ _)⟩
                        · rintro l gv W hun hdep hcl hJ hg ha hp
                          refine' op_val ?h120 ?hw120 ?hr120 ?hK120
                          case h120 => rfl
                          case hw120 => exact rfl
                          case hr120 => exact (ex_indexAddr rfl ((eval_tmp (hg 128 (by kernel_rfl))).trans (hJ.lit _ (List.mem_of_getElem? (i := 4) rfl) (hdep 4 (by kernel_rfl)))) ((eval_tmp (hg 129 (by kernel_rfl))).trans (hJ.lit _ (List.mem_of_getElem? (i := 5) rfl) (hdep 5 (by kernel_rfl)))) (indexFs hkL))
                          case hK120 => exact ⟨_, hp 130 _ (by kernel_rfl), JK.made hok hst hJ (List.mem_of_getElem? (i := 6) rfl) (Below.refl _ _)⟩
                        · rintro l gv W hun hdep hcl hJ hg ha hp
                          refine' op_val ?h121 ?hw121 ?hr121 ?hK121
                          case h121 => rfl
                          case hw121 => exact rfl
                          case hr121 => exact (ex_load rfl ((eval_tmp (hg 130 (by kernel_rfl))).trans (hJ.lit _ (List.mem_of_getElem? (i := 6) rfl) (hdep 6 (by kernel_rfl)))) (loadFo (cell_below hJ.low m0) (cell_below hJ.low m1) (cell_below hJ.low m2) (cell_below hJ.low m3)))
                          case hK121 => exact ⟨_, hp 131 _ (by kernel_rfl), JK.made hok hst hJ (List.mem_of_getElem? (i := 7) rfl) (Below.refl _ _)⟩
                        · rintro l gv W hun hdep hcl hJ hg ha hp
                          refine' op_call ?h122 ?hw122 ?hr122 ?hc122
                          case h122 => rfl
                          case hw122 => exact rfl
                          case hr122 => exact (ex_call2 (enters_of Tryd.func12 (by kernel_rfl) rfl) rfl ((eval_tmp (hg 127 (by kernel_rfl))).trans (hJ.lit _ (List.mem_of_getElem? (i := 3) rfl) (hdep 3 (by kernel_rfl)))) ((eval_tmp (hg 131 (by kernel_rfl))).trans (hJ.lit _ (List.mem_of_getElem? (i := 7) rfl) (hdep 7 (by kernel_rfl)))))
                          case hc122 =>
                            refine (sameF_any (L.get i) _ (L.get k) _ W (FVal.below hJ.low lv) (FVal.below hJ.low mv) sI sK).mono ?_
                            rintro e W' ⟨rfl, hb⟩
                            exact ⟨_, (congrArg (fun b => Ending.returned (Value.bool b)) (hPFh.out.diff i k hki hiL)), _, hp 132 _ (by kernel_rfl), JK.made hok hst hJ (List.mem_of_getElem? (i := 8) rfl) hb⟩
                      case hend122 =>
                        rintro ll gv W9 hl hJ
                        have e124 : gv 124 = .slice (some ⟨bl, ol, none⟩) L.len cl := hJ.lit _ (List.mem_of_getElem? (i := 0) rfl) (hl 0 (of_decide_eq_true (by kernel_rfl)))
                        have e125 : gv 125 = .int .i64 (i : Int) := hJ.lit _ (List.mem_of_getElem? (i := 1) rfl) (hl 1 (of_decide_eq_true (by kernel_rfl)))
                        have e126 : gv 126 = .pointer (some ⟨bl, ol + i * 4, none⟩) := hJ.lit _ (List.mem_of_getElem? (i := 2) rfl) (hl 2 (of_decide_eq_true (by kernel_rfl)))
                        have e127 : gv 127 = fval (L.get i) (.slice ps (L.get i).ts.len cs) (.slice pt (L.get i).sub.len ct) := hJ.lit _ (List.mem_of_getElem? (i := 3) rfl) (hl 3 (of_decide_eq_true (by kernel_rfl)))
                        have e128 : gv 128 = .slice (some ⟨bl, ol, none⟩) L.len cl := hJ.lit _ (List.mem_of_getElem? (i := 4) rfl) (hl 4 (of_decide_eq_true (by kernel_rfl)))
                        have e129 : gv 129 = .int .i64 (k : Int) := hJ.lit _ (List.mem_of_getElem? (i := 5) rfl) (hl 5 (of_decide_eq_true (by kernel_rfl)))
                        have e130 : gv 130 = .pointer (some ⟨bl, ol + k * 4, none⟩) := hJ.lit _ (List.mem_of_getElem? (i := 6) rfl) (hl 6 (of_decide_eq_true (by kernel_rfl)))
                        have e131 : gv 131 = fval (L.get k) (.slice psk (L.get k).ts.len csk) (.slice ptk (L.get k).sub.len ctk) := hJ.lit _ (List.mem_of_getElem? (i := 7) rfl) (hl 7 (of_decide_eq_true (by kernel_rfl)))
                        have e132 : gv 132 = .bool false := hJ.lit _ (List.mem_of_getElem? (i := 8) rfl) (hl 8 (of_decide_eq_true (by kernel_rfl)))
                        simp only [zipV, List.map_cons, List.map_nil, puts, Act.put, List.setIfInBounds_toArray, List.set_cons_succ, List.set_cons_zero, e124, e125, e126, e127, e128, e129, e130, e131, e132]
                        have hlow := Lib.hid hJ.low
                        clear e124 e125 e126 e127 e128 e129 e130 e131 e132 hJ hl
                        go_wp2_with fail
                        go_roundw
                        case rel => exact ⟨k + 1, by congr 1, by omega, bel_step h8k.out hlow.out⟩
                        case measure => simp [intOf]; omega
                    · have hk1 : ¬ (k : Int) < (i : Int) := by omega
                      go_wp2_with fail
                      go_roundw
                      case rel => exact ⟨i + 1, by congr 1, by omega, h8k.out⟩
                      case measure => simp [intOf]; omega
            · have hie : ¬ (i : Int) < (L.len : Int) := by omega
              have HPl := Lib.hid (placed_any 12 f f L [] _ _ (.slice none 0 0) _ wr fv fv ⟨none, 0, rfl, .inl rfl⟩ (FSl.below h8r.out hLlh.out) rfl hPFh.out.listed s6 s6 hPFh.out.total (by simp))
              go_wp2_with fail
              refine HPl.out.mono ?_
              rintro e we ⟨rfl, hbe⟩
              have hfin := Lib.hid (bel_step k1h.out.2.2.2.2.1 (bel_step h8r.out hbe))
              clear HPl hbe f0 f1 f2 f3
              go_wp2_with fail
              go_ret
              exact ⟨rfl, hfin.out⟩
        · have := hrsh.out hv
          rw [hv2] at this
          cases this
      · subst hv
        go_wp2_with fail
        go_loopw [6] (fun s6 wr => ∃ i : Nat, s6 = .int .i64 (i : Int) ∧ i ≤ L.len ∧ Below w8.heap.size w8 wr) (fun s6 _ => L.len - (intOf s6).toNat)
        case atStart => exact ⟨0, rfl, Nat.zero_le _, Below.refl _ _⟩
        case round =>
          obtain ⟨i, rfl, hil, hbr⟩ := hrel
          have h8r := Lib.hid hbr
          clear hbr
          have hk1 := k1h.out.next h8r.out
          obtain ⟨f0, f1, f2, f3, -⟩ := id hk1
          have fv := hk1.val
          by_cases hiL : i < L.len
          · have hi1 : (i : Int) < (L.len : Int) := by omega
            have hkw : IntKind.i64.wrap ((i : Int) + 1) = (i : Int) + 1 := IntWalk.i64_in _ (by omega)
            have sI : (L.get i).size ≤ 1000000 := Nat.le_trans (hPFh.out.le i hiL) s6
            obtain ⟨l0, l1, ⟨ss, l2, ls⟩, ⟨st, l3, lt⟩⟩ := (FsAt.below h8r.out hLat.out).get (k := i) hiL
            have lv : FVal wr (L.get i) (fval (L.get i) ss st) := ⟨_, _, rfl, ls, lt⟩
            obtain ⟨ps, cs, rfl, -⟩ := ls
            obtain ⟨pt, ct, rfl, -⟩ := lt
            go_wp2_with fail
            have hrw8 : ∀ W, Below wr.heap.size wr W → Rws W := fun W hb => hrwh.out.of (bel_step k1h.out.2.2.2.2.1 (bel_step h8r.out hb))
            obtain ⟨ib, hib⟩ : ∃ b, decide ((0 : Int) < (i : Int)) = b := ⟨_, rfl⟩
            have hib1 : ib = true → 0 < i := fun h => by rw [← hib, decide_eq_true_eq] at h; omega
            have hn1 := preds_len (L.get i) sI
            have hn2 := preds_len f s6
            have hn3 := funcs_len (L.get i) sI
            have hn4 := funcs_len f s6
            refine wp_region_run (by kernel_rfl) 137 [42, 43, 44, 45, 46, 47, 48, 49, 50, 51, 52, 53, 54, 55, 56, 57, 58, 59, 60, 61, 62, 63, 64, 65, 66, 67, 68, 69, 70, 71, 72, 73, 74, 75, 76, 77, 78, 79, 80, 81, 82, 83, 84, 85, 86, 87, 88, 89, 90, 91, 92, 93, 94, 95, 96, 97, 98, 99, 100, 101, 102, 103, 104, 105, 106, 107, 108, 109, 110, 111, 112, 113, 114, 115, 116, 117, 118] (JK wr [(0, 42, .bool false), (1, 43, .bool false), (2, 44, undef), (3, 45, undef), (4, 46, undef), (5, 47, undef), (6, 48, undef), (7, 49, undef), (8, 50, .bool false), (9, 51, .bool false), (10, 52, .bool sb), (11, 53, .bool sb), (12, 54, cond sb (.slice (some ⟨bl, ol, none⟩) L.len cl) undef), (13, 55, cond sb (.int .i64 (i : Int)) undef), (14, 56, cond sb (.pointer (some ⟨bl, ol + i * 4, none⟩)) undef), (15, 57, cond sb (fval (L.get i) (.slice ps (L.get i).ts.len cs) (.slice pt (L.get i).sub.len ct)) undef), (16, 58, cond sb (.bool true) undef), (17, 59, cond sb (.bool false) undef), (18, 60, .bool false), (19, 61, .bool false), (20, 62, .bool false), (21, 63, .slice (some ⟨bl, ol, none⟩) L.len cl), (22, 64, .int .i64 (i : Int)), (23, 65, .pointer (some ⟨bl, ol + i * 4, none⟩)), (24, 66, fval (L.get i) (.slice ps (L.get i).ts.len cs) (.slice pt (L.get i).sub.len ct)), (25, 67, mval (maskOf (L.get i).parts)), (26, 68, .agg #[.int .u8 f.op, .string f.n, .slice pa f.ts.len ca, .slice qa f.sub.len da]), (27, 69, mval (maskOf f.parts)), (28, 70, mval 0#32), (29, 71, .bool false), (30, 72, .bool false), (31, 73, .bool false), (32, 74, .int .i64 (i : Int)), (33, 75, .bool ib), (34, 76, .bool ib), (35, 77, cond ib (.slice (some ⟨bl, ol, none⟩) L.len cl) undef), (36, 78, cond ib (.int .i64 (i : Int)) undef), (37, 79, cond ib (.pointer (some ⟨bl, ol + i * 4, none⟩)) undef), (38, 80, cond ib (fval (L.get i) (.slice ps (L.get i).ts.len cs) (.slice pt (L.get i).sub.len ct)) undef), (39, 81, cond ib (.int .i64 ((L.get i).size : Int)) undef), (40, 82, cond ib (.agg #[.int .u8 f.op, .string f.n, .slice pa f.ts.len ca, .slice qa f.sub.len da]) undef), (41, 83, cond ib (.int .i64 (f.size : Int)) undef), (42, 84, cond ib (.bool false) undef), (43, 85, cond ib (.bool false) undef), (44, 86, cond ib (.slice (some ⟨bl, ol, none⟩) L.len cl) undef), (45, 87, cond ib (.int .i64 (i : Int)) undef), (46, 88, cond ib (.pointer (some ⟨bl, ol + i * 4, none⟩)) undef), (47, 89, cond ib (fval (L.get i) (.slice ps (L.get i).ts.len cs) (.slice pt (L.get i).sub.len ct)) undef), (48, 90, cond ib (.int .i64 ((L.get i).deep : Int)) undef), (49, 91, cond ib (.agg #[.int .u8 f.op, .string f.n, .slice pa f.ts.len ca, .slice qa f.sub.len da]) undef), (50, 92, cond ib (.int .i64 (f.deep : Int)) undef), (51, 93, cond ib (.bool false) undef), (52, 94, cond ib (.bool false) undef), (53, 95, .bool false), (54, 96, .bool false), (55, 97, .bool false), (56, 98, .slice (some ⟨bl, ol, none⟩) L.len cl), (57, 99, .int .i64 (i : Int)), (58, 100, .pointer (some ⟨bl, ol + i * 4, none⟩)), (59, 101, fval (L.get i) (.slice ps (L.get i).ts.len cs) (.slice pt (L.get i).sub.len ct)), (61, 103, .agg #[.int .u8 f.op, .string f.n, .slice pa f.ts.len ca, .slice qa f.sub.len da]), (63, 105, .bool true), (64, 106, .bool false), (65, 107, .bool false), (66, 108, .bool false), (67, 109, .slice (some ⟨bl, ol, none⟩) L.len cl), (68, 110, .int .i64 (i : Int)), (69, 111, .pointer (some ⟨bl, ol + i * 4, none⟩)), (70, 112, fval (L.get i) (.slice ps (L.get i).ts.len cs) (.slice pt (L.get i).sub.len ct)), (72, 114, .agg #[.int .u8 f.op, .string f.n, .slice pa f.ts.len ca, .slice qa f.sub.len da]), (74, 116, .bool true), (75, 117, .bool false), (76, 118, .bool false)] [(60, 102, fun v W => SySl W (uniq (ms ((L.get i).parts.flatMap symP))) v), (62, 104, fun v W => SySl W (uniq (ms (f.parts.flatMap symP))) v), (71, 113, fun v W => SySl W (uniq (ms ((L.get i).terms.flatMap symT))) v), (73, 115, fun v W => SySl W (uniq (ms (f.terms.flatMap symT))) v)]) (by kernel_rfl) rfl (JK.start _ _) ?hst225 ?hend225
            case hst225 =>
              have hok : okK [(0, 42, .bool false), (1, 43, .bool false), (2, 44, undef), (3, 45, undef), (4, 46, undef), (5, 47, undef), (6, 48, undef), (7, 49, undef), (8, 50, .bool false), (9, 51, .bool false), (10, 52, .bool sb), (11, 53, .bool sb), (12, 54, cond sb (.slice (some ⟨bl, ol, none⟩) L.len cl) undef), (13, 55, cond sb (.int .i64 (i : Int)) undef), (14, 56, cond sb (.pointer (some ⟨bl, ol + i * 4, none⟩)) undef), (15, 57, cond sb (fval (L.get i) (.slice ps (L.get i).ts.len cs) (.slice pt (L.get i).sub.len ct)) undef), (16, 58, cond sb (.bool true) undef), (17, 59, cond sb (.bool false) undef), (18, 60, .bool false), (19, 61, .bool false), (20, 62, .bool false), (21, 63, .slice (some ⟨bl, ol, none⟩) L.len cl), (22, 64, .int .i64 (i : Int)), (23, 65, .pointer (some ⟨bl, ol + i * 4, none⟩)), (24, 66, fval (L.get i) (.slice ps (L.get i).ts.len cs) (.slice pt (L.get i).sub.len ct)), (25, 67, mval (maskOf (L.get i).parts)), (26, 68, .agg #[.int .u8 f.op, .string f.n, .slice pa f.ts.len ca, .slice qa f.sub.len da]), (27, 69, mval (maskOf f.parts)), (28, 70, mval 0#32), (29, 71, .bool false), (30, 72, .bool false), (31, 73, .bool false), (32, 74, .int .i64 (i : Int)), (33, 75, .bool ib), (34, 76, .bool ib), (35, 77, cond ib (.slice (some ⟨bl, ol, none⟩) L.len cl) undef), (36, 78, cond ib (.int .i64 (i : Int)) undef), (37, 79, cond ib (.pointer (some ⟨bl, ol + i * 4, none⟩)) undef), (38, 80, cond ib (fval (L.get i) (.slice ps (L.get i).ts.len cs) (.slice pt (L.get i).sub.len ct)) undef), (39, 81, cond ib (.int .i64 ((L.get i).size : Int)) undef), (40, 82, cond ib (.agg #[.int .u8 f.op, .string f.n, .slice pa f.ts.len ca, .slice qa f.sub.len da]) undef), (41, 83, cond ib (.int .i64 (f.size : Int)) undef), (42, 84, cond ib (.bool false) undef), (43, 85, cond ib (.bool false) undef), (44, 86, cond ib (.slice (some ⟨bl, ol, none⟩) L.len cl) undef), (45, 87, cond ib (.int .i64 (i : Int)) undef), (46, 88, cond ib (.pointer (some ⟨bl, ol + i * 4, none⟩)) undef), (47, 89, cond ib (fval (L.get i) (.slice ps (L.get i).ts.len cs) (.slice pt (L.get i).sub.len ct)) undef), (48, 90, cond ib (.int .i64 ((L.get i).deep : Int)) undef), (49, 91, cond ib (.agg #[.int .u8 f.op, .string f.n, .slice pa f.ts.len ca, .slice qa f.sub.len da]) undef), (50, 92, cond ib (.int .i64 (f.deep : Int)) undef), (51, 93, cond ib (.bool false) undef), (52, 94, cond ib (.bool false) undef), (53, 95, .bool false), (54, 96, .bool false), (55, 97, .bool false), (56, 98, .slice (some ⟨bl, ol, none⟩) L.len cl), (57, 99, .int .i64 (i : Int)), (58, 100, .pointer (some ⟨bl, ol + i * 4, none⟩)), (59, 101, fval (L.get i) (.slice ps (L.get i).ts.len cs) (.slice pt (L.get i).sub.len ct)), (61, 103, .agg #[.int .u8 f.op, .string f.n, .slice pa f.ts.len ca, .slice qa f.sub.len da]), (63, 105, .bool true), (64, 106, .bool false), (65, 107, .bool false), (66, 108, .bool false), (67, 109, .slice (some ⟨bl, ol, none⟩) L.len cl), (68, 110, .int .i64 (i : Int)), (69, 111, .pointer (some ⟨bl, ol + i * 4, none⟩)), (70, 112, fval (L.get i) (.slice ps (L.get i).ts.len cs) (.slice pt (L.get i).sub.len ct)), (72, 114, .agg #[.int .u8 f.op, .string f.n, .slice pa f.ts.len ca, .slice qa f.sub.len da]), (74, 116, .bool true), (75, 117, .bool false), (76, 118, .bool false)] [(60, 102, fun v W => SySl W (uniq (ms ((L.get i).parts.flatMap symP))) v), (62, 104, fun v W => SySl W (uniq (ms (f.parts.flatMap symP))) v), (71, 113, fun v W => SySl W (uniq (ms ((L.get i).terms.flatMap symT))) v), (73, 115, fun v W => SySl W (uniq (ms (f.terms.flatMap symT))) v)] = true := by kernel_rfl
              have hst : ∀ p ∈ ([(60, 102, fun v W => SySl W (uniq (ms ((L.get i).parts.flatMap symP))) v), (62, 104, fun v W => SySl W (uniq (ms (f.parts.flatMap symP))) v), (71, 113, fun v W => SySl W (uniq (ms ((L.get i).terms.flatMap symT))) v), (73, 115, fun v W => SySl W (uniq (ms (f.terms.flatMap symT))) v)] : List (Nat × Nat × (Value → World → Prop))), Stb p.2.2 := by
                  intro p hp
                  simp only [List.mem_cons, List.not_mem_nil, or_false] at hp
                  rcases hp with rfl | rfl | rfl | rfl <;> exact fun v W W' hb h => SySl.below hb h
              refine ⟨?_, ?_, ?_, ?_, ?_, ?_, ?_, ?_, ?_, ?_, ?_, ?_, ?_, ?_, ?_, ?_, ?_, ?_, ?_, ?_, ?_, ?_, ?_, ?_, ?_, ?_, ?_, ?_, ?_, ?_, ?_, ?_, ?_, ?_, ?_, ?_, ?_, ?_, ?_, ?_, ?_, ?_, ?_, ?_, ?_, ?_, ?_, ?_, ?_, ?_, ?_, ?_, ?_, ?_, ?_, ?_, ?_, ?_, ?_, ?_, ?_, ?_, ?_, ?_, ?_, ?_, ?_, ?_, ?_, ?_, ?_, ?_, ?_, ?_, ?_, ?_, ?_, trivial⟩
              · rintro l gv W hun hdep hcl hJ hg ha hp
                refine' op_val ?h123 ?hw123 ?hr123 ?hK123
                case h123 => rfl
                case hw123 => exact rfl
                case hr123 => exact (ex_move rfl (eval_tmp ((ha 4 (by kernel_rfl)).trans rfl)))
                case hK123 => exact ⟨_, hp 42 _ (by kernel_rfl), JK.made hok hst hJ (List.mem_of_getElem? (i := 0) rfl) (Below.refl _ _)⟩
              · rintro l gv W hun hdep hcl hJ hg ha hp
                refine' op_val ?h124 ?hw124 ?hr124 ?hK124
                case h124 => rfl
                case hw124 => exact rfl
                case hr124 => exact (ex_move rfl ((eval_tmp (hg 42 (by kernel_rfl))).trans (hJ.lit _ (List.mem_of_getElem? (i := 0) rfl) (hdep 0 (by kernel_rfl)))))
                case hK124 => exact ⟨_, hp 43 _ (by kernel_rfl), JK.made hok hst hJ (List.mem_of_getElem? (i := 1) rfl) (Below.refl _ _)⟩
              · rintro l gv W hun hdep hcl hJ hg ha hp
                have eg : gv 43 = .bool false := hJ.lit _ (List.mem_of_getElem? (i := 1) rfl) (hdep 1 (by kernel_rfl))
                have hgd := (hg 43 (by kernel_rfl)).trans (congrArg some eg)
                refine' op_out ?h125 ?hw125 ?hK125
                case h125 => rfl
                case hw125 => exact (wants_no true rfl (by kernel_rfl) hgd)
                case hK125 => exact ⟨_, hp 44 _ (by kernel_rfl), JK.made hok hst hJ (List.mem_of_getElem? (i := 2) rfl) (Below.refl _ _)⟩
              · rintro l gv W hun hdep hcl hJ hg ha hp
                have eg : gv 43 = .bool false := hJ.lit _ (List.mem_of_getElem? (i := 1) rfl) (hdep 1 (by kernel_rfl))
                have hgd := (hg 43 (by kernel_rfl)).trans (congrArg some eg)
                refine' op_out ?h126 ?hw126 ?hK126
                case h126 => rfl
                case hw126 => exact (wants_no true rfl (by kernel_rfl) hgd)
                case hK126 => exact ⟨_, hp 45 _ (by kernel_rfl), JK.made hok hst hJ (List.mem_of_getElem? (i := 3) rfl) (Below.refl _ _)⟩
              · rintro l gv W hun hdep hcl hJ hg ha hp
                have eg : gv 43 = .bool false := hJ.lit _ (List.mem_of_getElem? (i := 1) rfl) (hdep 1 (by kernel_rfl))
                have hgd := (hg 43 (by kernel_rfl)).trans (congrArg some eg)
                refine' op_out ?h127 ?hw127 ?hK127
                case h127 => rfl
                case hw127 => exact (wants_no true rfl (by kernel_rfl) hgd)
                case hK127 => exact ⟨_, hp 46 _ (by kernel_rfl), JK.made hok hst hJ (List.mem_of_getElem? (i := 4) rfl) (Below.refl _ _)⟩
              · rintro l gv W hun hdep hcl hJ hg ha hp
                have eg : gv 43 = .bool false := hJ.lit _ (List.mem_of_getElem? (i := 1) rfl) (hdep 1 (by kernel_rfl))
                have hgd := (hg 43 (by kernel_rfl)).trans (congrArg some eg)
                refine' op_out ?h128 ?hw128 ?hK128
                case h128 => rfl
                case hw128 => exact (wants_no true rfl (by kernel_rfl) hgd)
                case hK128 => exact ⟨_, hp 47 _ (by kernel_rfl), JK.made hok hst hJ (List.mem_of_getElem? (i := 5) rfl) (Below.refl _ _)⟩
              · rintro l gv W hun hdep hcl hJ hg ha hp
                have eg : gv 43 = .bool false := hJ.lit _ (List.mem_of_getElem? (i := 1) rfl) (hdep 1 (by kernel_rfl))
                have hgd := (hg 43 (by kernel_rfl)).trans (congrArg some eg)
                refine' op_out ?h129 ?hw129 ?hK129
                case h129 => rfl
                case hw129 => exact (wants_no true rfl (by kernel_rfl) hgd)
                case hK129 => exact ⟨_, hp 48 _ (by kernel_rfl), JK.made hok hst hJ (List.mem_of_getElem? (i := 6) rfl) (Below.refl _ _)⟩
              · rintro l gv W hun hdep hcl hJ hg ha hp
                have eg : gv 43 = .bool false := hJ.lit _ (List.mem_of_getElem? (i := 1) rfl) (hdep 1 (by kernel_rfl))
                have hgd := (hg 43 (by kernel_rfl)).trans (congrArg some eg)
                refine' op_out ?h130 ?hw130 ?hK130
                case h130 => rfl
                case hw130 => exact (wants_no true rfl (by kernel_rfl) hgd)
                case hK130 => exact ⟨_, hp 49 _ (by kernel_rfl), JK.made hok hst hJ (List.mem_of_getElem? (i := 7) rfl) (Below.refl _ _)⟩
              · rintro l gv W hun hdep hcl hJ hg ha hp
                refine' op_val ?h131 ?hw131 ?hr131 ?hK131
                case h131 => rfl
                case hw131 => exact rfl
                case hr131 => exact (ex_pickF rfl ((eval_tmp (hg 43 (by kernel_rfl))).trans (hJ.lit _ (List.mem_of_getElem? (i := 1) rfl) (hdep 1 (by kernel_rfl)))) rfl)
                case hK131 => exact ⟨_, hp 50 _ (by kernel_rfl), JK.made hok hst hJ (List.mem_of_getElem? (i := 8) rfl) (Below.refl _ _)⟩
              · rintro l gv W hun hdep hcl hJ hg ha hp
                refine' op_val ?h132 ?hw132 ?hr132 ?hK132
                case h132 => rfl
                case hw132 => exact rfl
                case hr132 => exact (ex_move rfl ((eval_tmp (hg 50 (by kernel_rfl))).trans (hJ.lit _ (List.mem_of_getElem? (i := 8) rfl) (hdep 8 (by kernel_rfl)))))
                case hK132 => exact ⟨_, hp 51 _ (by kernel_rfl), JK.made hok hst hJ (List.mem_of_getElem? (i := 9) rfl) (Below.refl _ _)⟩
              · rintro l gv W hun hdep hcl hJ hg ha hp
                have eg : gv 51 = .bool false := hJ.lit _ (List.mem_of_getElem? (i := 9) rfl) (hdep 9 (by kernel_rfl))
                have hgd := (hg 51 (by kernel_rfl)).trans (congrArg some eg)
                refine' op_val ?h133 ?hw133 ?hr133 ?hK133
                case h133 => rfl
                case hw133 => exact (wants_yes false rfl (by kernel_rfl) hgd)
                case hr133 => exact (ex_move rfl (eval_tmp ((ha 5 (by kernel_rfl)).trans rfl)))
                case hK133 => exact ⟨_, hp 52 _ (by kernel_rfl), JK.made hok hst hJ (List.mem_of_getElem? (i := 10) rfl) (Below.refl _ _)⟩
              · rintro l gv W hun hdep hcl hJ hg ha hp
                have eg : gv 51 = .bool false := hJ.lit _ (List.mem_of_getElem? (i := 9) rfl) (hdep 9 (by kernel_rfl))
                have hgd := (hg 51 (by kernel_rfl)).trans (congrArg some eg)
                refine' op_val ?h134 ?hw134 ?hr134 ?hK134
                case h134 => rfl
                case hw134 => exact (wants_yes false rfl (by kernel_rfl) hgd)
                case hr134 => exact (ex_move rfl ((eval_tmp (hg 52 (by kernel_rfl))).trans (hJ.lit _ (List.mem_of_getElem? (i := 10) rfl) (hdep 10 (by kernel_rfl)))))
                case hK134 => exact ⟨_, hp 53 _ (by kernel_rfl), JK.made hok hst hJ (List.mem_of_getElem? (i := 11) rfl) (Below.refl _ _)⟩
              · rintro l gv W hun hdep hcl hJ hg ha hp
                cases sb with
                | true =>
                  have eg : gv 53 = .bool true := hJ.lit _ (List.mem_of_getElem? (i := 11) rfl) (hdep 11 (by kernel_rfl))
                  have hgd := (hg 53 (by kernel_rfl)).trans (congrArg some eg)
                  refine' op_val ?h135 ?hw135 ?hr135 ?hK135
                  case h135 => rfl
                  case hw135 => exact (wants_yes true rfl (by kernel_rfl) hgd)
                  case hr135 => exact (ex_move rfl (eval_tmp ((ha 3 (by kernel_rfl)).trans rfl)))
                  case hK135 => exact ⟨_, hp 54 _ (by kernel_rfl), JK.made hok hst hJ (List.mem_of_getElem? (i := 12) rfl) (Below.refl _ _)⟩
                | false =>
                  have eg : gv 53 = .bool false := hJ.lit _ (List.mem_of_getElem? (i := 11) rfl) (hdep 11 (by kernel_rfl))
                  have hgd := (hg 53 (by kernel_rfl)).trans (congrArg some eg)
                  refine' op_out ?h136 ?hw136 ?hK136
                  case h136 => rfl
                  case hw136 => exact (wants_no true rfl (by kernel_rfl) hgd)
                  case hK136 => exact ⟨_, hp 54 _ (by kernel_rfl), JK.made hok hst hJ (List.mem_of_getElem? (i := 12) rfl) (Below.refl _ _)⟩
              · rintro l gv W hun hdep hcl hJ hg ha hp
                cases sb with
                | true =>
                  have eg : gv 53 = .bool true := hJ.lit _ (List.mem_of_getElem? (i := 11) rfl) (hdep 11 (by kernel_rfl))
                  have hgd := (hg 53 (by kernel_rfl)).trans (congrArg some eg)
                  refine' op_val ?h137 ?hw137 ?hr137 ?hK137
                  case h137 => rfl
                  case hw137 => exact (wants_yes true rfl (by kernel_rfl) hgd)
                  case hr137 => exact (ex_move rfl (eval_tmp ((ha 6 (by kernel_rfl)).trans rfl)))
                  case hK137 => exact ⟨_, hp 55 _ (by kernel_rfl), JK.made hok hst hJ (List.mem_of_getElem? (i := 13) rfl) (Below.refl _ _)⟩
                | false =>
                  have eg : gv 53 = .bool false := hJ.lit _ (List.mem_of_getElem? (i := 11) rfl) (hdep 11 (by kernel_rfl))
                  have hgd := (hg 53 (by kernel_rfl)).trans (congrArg some eg)
                  refine' op_out ?h138 ?hw138 ?hK138
                  case h138 => rfl
                  case hw138 => exact (wants_no true rfl (by kernel_rfl) hgd)
                  case hK138 => exact ⟨_, hp 55 _ (by kernel_rfl), JK.made hok hst hJ (List.mem_of_getElem? (i := 13) rfl) (Below.refl _ _)⟩
              · rintro l gv W hun hdep hcl hJ hg ha hp
                cases sb with
                | true =>
                  have eg : gv 53 = .bool true := hJ.lit _ (List.mem_of_getElem? (i := 11) rfl) (hdep 11 (by kernel_rfl))
                  have hgd := (hg 53 (by kernel_rfl)).trans (congrArg some eg)
                  refine' op_val ?h139 ?hw139 ?hr139 ?hK139
                  case h139 => rfl
                  case hw139 => exact (wants_yes true rfl (by kernel_rfl) hgd)
                  case hr139 => exact (ex_indexAddr rfl ((eval_tmp (hg 54 (by kernel_rfl))).trans (hJ.lit _ (List.mem_of_getElem? (i := 12) rfl) (hdep 12 (by kernel_rfl)))) ((eval_tmp (hg 55 (by kernel_rfl))).trans (hJ.lit _ (List.mem_of_getElem? (i := 13) rfl) (hdep 13 (by kernel_rfl)))) (indexFs hiL))
                  case hK139 => exact ⟨_, hp 56 _ (by kernel_rfl), JK.made hok hst hJ (List.mem_of_getElem? (i := 14) rfl) (Below.refl _ _)⟩
                | false =>
                  have eg : gv 53 = .bool false := hJ.lit _ (List.mem_of_getElem? (i := 11) rfl) (hdep 11 (by kernel_rfl))
                  have hgd := (hg 53 (by kernel_rfl)).trans (congrArg some eg)
                  refine' op_out ?h140 ?hw140 ?hK140
                  case h140 => rfl
                  case hw140 => exact (wants_no true rfl (by kernel_rfl) hgd)
                  case hK140 => exact ⟨_, hp 56 _ (by kernel_rfl), JK.made hok hst hJ (List.mem_of_getElem? (i := 14) rfl) (Below.refl _ _)⟩
              · rintro l gv W hun hdep hcl hJ hg ha hp
                cases sb with
                | true =>
                  have eg : gv 53 = .bool true := hJ.lit _ (List.mem_of_getElem? (i := 11) rfl) (hdep 11 (by kernel_rfl))
                  have hgd := (hg 53 (by kernel_rfl)).trans (congrArg some eg)
                  refine' op_val ?h141 ?hw141 ?hr141 ?hK141
                  case h141 => rfl
                  case hw141 => exact (wants_yes true rfl (by kernel_rfl) hgd)
                  case hr141 => exact (ex_load rfl ((eval_tmp (hg 56 (by kernel_rfl))).trans (hJ.lit _ (List.mem_of_getElem? (i := 14) rfl) (hdep 14 (by kernel_rfl)))) (loadFo (cell_below hJ.low l0) (cell_below hJ.low l1) (cell_below hJ.low l2) (cell_below hJ.low l3)))
                  case hK141 => exact ⟨_, hp 57 _ (by kernel_rfl), JK.made hok hst hJ (List.mem_of_getElem? (i := 15) rfl) (Below.refl _ _)⟩
                | false =>
                  have eg : gv 53 = .bool false := hJ.lit _ (List.mem_of_getElem? (i := 11) rfl) (hdep 11 (by kernel_rfl))
                  have hgd := (hg 53 (by kernel_rfl)).trans (congrArg some eg)
                  refine' op_out ?h142 ?hw142 ?hK142
                  case h142 => rfl
                  case hw142 => exact (wants_no true rfl (by kernel_rfl) hgd)
                  case hK142 => exact ⟨_, hp 57 _ (by kernel_rfl), JK.made hok hst hJ (List.mem_of_getElem? (i := 15) rfl) (Below.refl _ _)⟩
              · rintro l gv W hun hdep hcl hJ hg ha hp
                cases sb with
                | true =>
                  have eg : gv 53 = .bool true := hJ.lit _ (List.mem_of_getElem? (i := 11) rfl) (hdep 11 (by kernel_rfl))
                  have hgd := (hg 53 (by kernel_rfl)).trans (congrArg some eg)
                  refine' op_call ?h143 ?hw143 ?hr143 ?hc143
                  case h143 => rfl
                  case hw143 => exact (wants_yes true rfl (by kernel_rfl) hgd)
                  case hr143 => exact (ex_call1 (enters_of Tryd.func16 (by kernel_rfl) rfl) rfl ((eval_tmp (hg 57 (by kernel_rfl))).trans (hJ.lit _ (List.mem_of_getElem? (i := 15) rfl) (hdep 15 (by kernel_rfl)))))
                  case hc143 =>
                    refine (schema_any (L.get i) sI _ W (hrw8 W hJ.low) (FVal.below hJ.low lv)).mono ?_
                    rintro e W' ⟨rfl, hb⟩
                    exact ⟨_, (congrArg (fun b => Ending.returned (Value.bool b)) (hPFh.out.right i hiL true hsbh.out)), _, hp 58 _ (by kernel_rfl), JK.made hok hst hJ (List.mem_of_getElem? (i := 16) rfl) hb⟩
                | false =>
                  have eg : gv 53 = .bool false := hJ.lit _ (List.mem_of_getElem? (i := 11) rfl) (hdep 11 (by kernel_rfl))
                  have hgd := (hg 53 (by kernel_rfl)).trans (congrArg some eg)
                  refine' op_out ?h144 ?hw144 ?hK144
                  case h144 => rfl
                  case hw144 => exact (wants_no true rfl (by kernel_rfl) hgd)
                  case hK144 => exact ⟨_, hp 58 _ (by kernel_rfl), JK.made hok hst hJ (List.mem_of_getElem? (i := 16) rfl) (Below.refl _ _)⟩
              · rintro l gv W hun hdep hcl hJ hg ha hp
                cases sb with
                | true =>
                  have eg : gv 53 = .bool true := hJ.lit _ (List.mem_of_getElem? (i := 11) rfl) (hdep 11 (by kernel_rfl))
                  have hgd := (hg 53 (by kernel_rfl)).trans (congrArg some eg)
                  refine' op_val ?h145 ?hw145 ?hr145 ?hK145
                  case h145 => rfl
                  case hw145 => exact (wants_yes true rfl (by kernel_rfl) hgd)
                  case hr145 => exact (ex_not rfl ((eval_tmp (hg 58 (by kernel_rfl))).trans (hJ.lit _ (List.mem_of_getElem? (i := 16) rfl) (hdep 16 (by kernel_rfl)))))
                  case hK145 => exact ⟨_, hp 59 _ (by kernel_rfl), JK.made hok hst hJ (List.mem_of_getElem? (i := 17) rfl) (Below.refl _ _)⟩
                | false =>
                  have eg : gv 53 = .bool false := hJ.lit _ (List.mem_of_getElem? (i := 11) rfl) (hdep 11 (by kernel_rfl))
                  have hgd := (hg 53 (by kernel_rfl)).trans (congrArg some eg)
                  refine' op_out ?h146 ?hw146 ?hK146
                  case h146 => rfl
                  case hw146 => exact (wants_no true rfl (by kernel_rfl) hgd)
                  case hK146 => exact ⟨_, hp 59 _ (by kernel_rfl), JK.made hok hst hJ (List.mem_of_getElem? (i := 17) rfl) (Below.refl _ _)⟩
              · rintro l gv W hun hdep hcl hJ hg ha hp
                cases sb with
                | true =>
                  have eg : gv 51 = .bool false := hJ.lit _ (List.mem_of_getElem? (i := 9) rfl) (hdep 9 (by kernel_rfl))
                  have hgd := (hg 51 (by kernel_rfl)).trans (congrArg some eg)
                  refine' op_val ?h147 ?hw147 ?hr147 ?hK147
                  case h147 => rfl
                  case hw147 => exact (wants_yes false rfl (by kernel_rfl) hgd)
                  case hr147 => exact (ex_pick rfl ((eval_tmp (hg 53 (by kernel_rfl))).trans (hJ.lit _ (List.mem_of_getElem? (i := 11) rfl) (hdep 11 (by kernel_rfl)))) ((eval_tmp (hg 59 (by kernel_rfl))).trans (hJ.lit _ (List.mem_of_getElem? (i := 17) rfl) (hdep 17 (by kernel_rfl)))))
                  case hK147 => exact ⟨_, hp 60 _ (by kernel_rfl), JK.made hok hst hJ (List.mem_of_getElem? (i := 18) rfl) (Below.refl _ _)⟩
                | false =>
                  have eg : gv 51 = .bool false := hJ.lit _ (List.mem_of_getElem? (i := 9) rfl) (hdep 9 (by kernel_rfl))
                  have hgd := (hg 51 (by kernel_rfl)).trans (congrArg some eg)
                  refine' op_val ?h148 ?hw148 ?hr148 ?hK148
                  case h148 => rfl
                  case hw148 => exact (wants_yes false rfl (by kernel_rfl) hgd)
                  case hr148 => exact (ex_pickF rfl ((eval_tmp (hg 53 (by kernel_rfl))).trans (hJ.lit _ (List.mem_of_getElem? (i := 11) rfl) (hdep 11 (by kernel_rfl)))) rfl)
                  case hK148 => exact ⟨_, hp 60 _ (by kernel_rfl), JK.made hok hst hJ (List.mem_of_getElem? (i := 18) rfl) (Below.refl _ _)⟩
              · rintro l gv W hun hdep hcl hJ hg ha hp
                refine' op_val ?h149 ?hw149 ?hr149 ?hK149
                case h149 => rfl
                case hw149 => exact rfl
                case hr149 => exact (ex_pickF rfl ((eval_tmp (hg 51 (by kernel_rfl))).trans (hJ.lit _ (List.mem_of_getElem? (i := 9) rfl) (hdep 9 (by kernel_rfl)))) ((eval_tmp (hg 60 (by kernel_rfl))).trans (hJ.lit _ (List.mem_of_getElem? (i := 18) rfl) (hdep 18 (by kernel_rfl)))))
                case hK149 => exact ⟨_, hp 61 _ (by kernel_rfl), JK.made hok hst hJ (List.mem_of_getElem? (i := 19) rfl) (Below.refl _ _)⟩
              · rintro l gv W hun hdep hcl hJ hg ha hp
                refine' op_val ?h150 ?hw150 ?hr150 ?hK150
                case h150 => rfl
                case hw150 => exact rfl
                case hr150 => exact (ex_move rfl ((eval_tmp (hg 61 (by kernel_rfl))).trans (hJ.lit _ (List.mem_of_getElem? (i := 19) rfl) (hdep 19 (by kernel_rfl)))))
                case hK150 => exact ⟨_, hp 62 _ (by kernel_rfl), JK.made hok hst hJ (List.mem_of_getElem? (i := 20) rfl) (Below.refl _ _)⟩
              · rintro l gv W hun hdep hcl hJ hg ha hp
                have eg : gv 62 = .bool false := hJ.lit _ (List.mem_of_getElem? (i := 20) rfl) (hdep 20 (by kernel_rfl))
                have hgd := (hg 62 (by kernel_rfl)).trans (congrArg some eg)
                refine' op_val ?h151 ?hw151 ?hr151 ?hK151
                case h151 => rfl
                case hw151 => exact (wants_yes false rfl (by kernel_rfl) hgd)
                case hr151 => exact (ex_move rfl (eval_tmp ((ha 3 (by kernel_rfl)).trans rfl)))
                case hK151 => exact ⟨_, hp 63 _ (by kernel_rfl), JK.made hok hst hJ (List.mem_of_getElem? (i := 21) rfl) (Below.refl _ _)⟩
              · rintro l gv W hun hdep hcl hJ hg ha hp
                have eg : gv 62 = .bool false := hJ.lit _ (List.mem_of_getElem? (i := 20) rfl) (hdep 20 (by kernel_rfl))
                have hgd := (hg 62 (by kernel_rfl)).trans (congrArg some eg)
                refine' op_val ?h152 ?hw152 ?hr152 ?hK152
                case h152 => rfl
                case hw152 => exact (wants_yes false rfl (by kernel_rfl) hgd)
                case hr152 => exact (ex_move rfl (eval_tmp ((ha 6 (by kernel_rfl)).trans rfl)))
                case hK152 => exact ⟨_, hp 64 _ (by kernel_rfl), JK.made hok hst hJ (List.mem_of_getElem? (i := 22) rfl) (Below.refl _ _)⟩
              · rintro l gv W hun hdep hcl hJ hg ha hp
                have eg : gv 62 = .bool false := hJ.lit _ (List.mem_of_getElem? (i := 20) rfl) (hdep 20 (by kernel_rfl))
                have hgd := (hg 62 (by kernel_rfl)).trans (congrArg some eg)
                refine' op_val ?h153 ?hw153 ?hr153 ?hK153
                case h153 => rfl
                case hw153 => exact (wants_yes false rfl (by kernel_rfl) hgd)
                case hr153 => exact (ex_indexAddr rfl ((eval_tmp (hg 63 (by kernel_rfl))).trans (hJ.lit _ (List.mem_of_getElem? (i := 21) rfl) (hdep 21 (by kernel_rfl)))) ((eval_tmp (hg 64 (by kernel_rfl))).trans (hJ.lit _ (List.mem_of_getElem? (i := 22) rfl) (hdep 22 (by kernel_rfl)))) (indexFs hiL))
                case hK153 => exact ⟨_, hp 65 _ (by kernel_rfl), JK.made hok hst hJ (List.mem_of_getElem? (i := 23) rfl) (Below.refl _ _)⟩
              · rintro l gv W hun hdep hcl hJ hg ha hp
                have eg : gv 62 = .bool false := hJ.lit _ (List.mem_of_getElem? (i := 20) rfl) (hdep 20 (by kernel_rfl))
                have hgd := (hg 62 (by kernel_rfl)).trans (congrArg some eg)
                refine' op_val ?h154 ?hw154 ?hr154 ?hK154
                case h154 => rfl
                case hw154 => exact (wants_yes false rfl (by kernel_rfl) hgd)
                case hr154 => exact (ex_load rfl ((eval_tmp (hg 65 (by kernel_rfl))).trans (hJ.lit _ (List.mem_of_getElem? (i := 23) rfl) (hdep 23 (by kernel_rfl)))) (loadFo (cell_below hJ.low l0) (cell_below hJ.low l1) (cell_below hJ.low l2) (cell_below hJ.low l3)))
                case hK154 => exact ⟨_, hp 66 _ (by kernel_rfl), JK.made hok hst hJ (List.mem_of_getElem? (i := 24) rfl) (Below.refl _ _)⟩
              · rintro l gv W hun hdep hcl hJ hg ha hp
                have eg : gv 62 = .bool false := hJ.lit _ (List.mem_of_getElem? (i := 20) rfl) (hdep 20 (by kernel_rfl))
                have hgd := (hg 62 (by kernel_rfl)).trans (congrArg some eg)
                refine' op_call ?h155 ?hw155 ?hr155 ?hc155
                case h155 => rfl
                case hw155 => exact (wants_yes false rfl (by kernel_rfl) hgd)
                case hr155 => exact (ex_call1 (enters_of Tryd.func17 (by kernel_rfl) rfl) rfl ((eval_tmp (hg 66 (by kernel_rfl))).trans (hJ.lit _ (List.mem_of_getElem? (i := 24) rfl) (hdep 24 (by kernel_rfl)))))
                case hc155 =>
                  refine (ops_any (L.get i) (hPFh.out.opn i hiL) sI _ W (FVal.below hJ.low lv)).mono ?_
                  rintro e W' ⟨rfl, hb⟩
                  exact ⟨_, rfl, _, hp 67 _ (by kernel_rfl), JK.made hok hst hJ (List.mem_of_getElem? (i := 25) rfl) hb⟩
              · rintro l gv W hun hdep hcl hJ hg ha hp
                have eg : gv 62 = .bool false := hJ.lit _ (List.mem_of_getElem? (i := 20) rfl) (hdep 20 (by kernel_rfl))
                have hgd := (hg 62 (by kernel_rfl)).trans (congrArg some eg)
                refine' op_val ?h156 ?hw156 ?hr156 ?hK156
                case h156 => rfl
                case hw156 => exact (wants_yes false rfl (by kernel_rfl) hgd)
                case hr156 => exact (ex_load rfl (eval_tmp ((ha 1 (by kernel_rfl)).trans rfl)) (loadFo (cell_below hJ.low f0) (cell_below hJ.low f1) (cell_below hJ.low f2) (cell_below hJ.low f3)))
                case hK156 => exact ⟨_, hp 68 _ (by kernel_rfl), JK.made hok hst hJ (List.mem_of_getElem? (i := 26) rfl) (Below.refl _ _)⟩
              · rintro l gv W hun hdep hcl hJ hg ha hp
                have eg : gv 62 = .bool false := hJ.lit _ (List.mem_of_getElem? (i := 20) rfl) (hdep 20 (by kernel_rfl))
                have hgd := (hg 62 (by kernel_rfl)).trans (congrArg some eg)
                refine' op_call ?h157 ?hw157 ?hr157 ?hc157
                case h157 => rfl
                case hw157 => exact (wants_yes false rfl (by kernel_rfl) hgd)
                case hr157 => exact (ex_call1 (enters_of Tryd.func17 (by kernel_rfl) rfl) rfl ((eval_tmp (hg 68 (by kernel_rfl))).trans (hJ.lit _ (List.mem_of_getElem? (i := 26) rfl) (hdep 26 (by kernel_rfl)))))
                case hc157 =>
                  refine (ops_any f hoph.out s6 _ W (FVal.below hJ.low fv)).mono ?_
                  rintro e W' ⟨rfl, hb⟩
                  exact ⟨_, rfl, _, hp 69 _ (by kernel_rfl), JK.made hok hst hJ (List.mem_of_getElem? (i := 27) rfl) hb⟩
              · rintro l gv W hun hdep hcl hJ hg ha hp
                have eg : gv 62 = .bool false := hJ.lit _ (List.mem_of_getElem? (i := 20) rfl) (hdep 20 (by kernel_rfl))
                have hgd := (hg 62 (by kernel_rfl)).trans (congrArg some eg)
                refine' op_val ?h158 ?hw158 ?hr158 ?hK158
                case h158 => rfl
                case hw158 => exact (wants_yes false rfl (by kernel_rfl) hgd)
                case hr158 => exact (ex_bin rfl ((eval_tmp (hg 67 (by kernel_rfl))).trans (hJ.lit _ (List.mem_of_getElem? (i := 25) rfl) (hdep 25 (by kernel_rfl)))) ((eval_tmp (hg 69 (by kernel_rfl))).trans (hJ.lit _ (List.mem_of_getElem? (i := 27) rfl) (hdep 27 (by kernel_rfl)))) (guard_any _ _ _ _ W) (andNot_zero (hPFh.out.mask i hiL) W))
                case hK158 => exact ⟨_, hp 70 _ (by kernel_rfl), JK.made hok hst hJ (List.mem_of_getElem? (i := 28) rfl) (Below.refl _ _)⟩
              · rintro l gv W hun hdep hcl hJ hg ha hp
                have eg : gv 62 = .bool false := hJ.lit _ (List.mem_of_getElem? (i := 20) rfl) (hdep 20 (by kernel_rfl))
                have hgd := (hg 62 (by kernel_rfl)).trans (congrArg some eg)
                refine' op_val ?h159 ?hw159 ?hr159 ?hK159
                case h159 => rfl
                case hw159 => exact (wants_yes false rfl (by kernel_rfl) hgd)
                case hr159 => exact (ex_bin rfl ((eval_tmp (hg 70 (by kernel_rfl))).trans (hJ.lit _ (List.mem_of_getElem? (i := 28) rfl) (hdep 28 (by kernel_rfl)))) rfl (guard_u32 _ _ _ W) (neq_zero W))
                case hK159 => exact ⟨_, hp 71 _ (by kernel_rfl), JK.made hok hst hJ (List.mem_of_getElem? (i := 29) rfl) (Below.refl _ _)⟩
              · rintro l gv W hun hdep hcl hJ hg ha hp
                refine' op_val ?h160 ?hw160 ?hr160 ?hK160
                case h160 => rfl
                case hw160 => exact rfl
                case hr160 => exact (ex_pickF rfl ((eval_tmp (hg 62 (by kernel_rfl))).trans (hJ.lit _ (List.mem_of_getElem? (i := 20) rfl) (hdep 20 (by kernel_rfl)))) ((eval_tmp (hg 71 (by kernel_rfl))).trans (hJ.lit _ (List.mem_of_getElem? (i := 29) rfl) (hdep 29 (by kernel_rfl)))))
                case hK160 => exact ⟨_, hp 72 _ (by kernel_rfl), JK.made hok hst hJ (List.mem_of_getElem? (i := 30) rfl) (Below.refl _ _)⟩
              · rintro l gv W hun hdep hcl hJ hg ha hp
                refine' op_val ?h161 ?hw161 ?hr161 ?hK161
                case h161 => rfl
                case hw161 => exact rfl
                case hr161 => exact (ex_move rfl ((eval_tmp (hg 72 (by kernel_rfl))).trans (hJ.lit _ (List.mem_of_getElem? (i := 30) rfl) (hdep 30 (by kernel_rfl)))))
                case hK161 => exact ⟨_, hp 73 _ (by kernel_rfl), JK.made hok hst hJ (List.mem_of_getElem? (i := 31) rfl) (Below.refl _ _)⟩
              · rintro l gv W hun hdep hcl hJ hg ha hp
                have eg : gv 73 = .bool false := hJ.lit _ (List.mem_of_getElem? (i := 31) rfl) (hdep 31 (by kernel_rfl))
                have hgd := (hg 73 (by kernel_rfl)).trans (congrArg some eg)
                refine' op_val ?h162 ?hw162 ?hr162 ?hK162
                case h162 => rfl
                case hw162 => exact (wants_yes false rfl (by kernel_rfl) hgd)
                case hr162 => exact (ex_move rfl (eval_tmp ((ha 6 (by kernel_rfl)).trans rfl)))
                case hK162 => exact ⟨_, hp 74 _ (by kernel_rfl), JK.made hok hst hJ (List.mem_of_getElem? (i := 32) rfl) (Below.refl _ _)⟩
              · rintro l gv W hun hdep hcl hJ hg ha hp
                have eg : gv 73 = .bool false := hJ.lit _ (List.mem_of_getElem? (i := 31) rfl) (hdep 31 (by kernel_rfl))
                have hgd := (hg 73 (by kernel_rfl)).trans (congrArg some eg)
                refine' op_val ?h163 ?hw163 ?hr163 ?hK163
                case h163 => rfl
                case hw163 => exact (wants_yes false rfl (by kernel_rfl) hgd)
                case hr163 => exact (ex_bin rfl ((eval_tmp (hg 74 (by kernel_rfl))).trans (hJ.lit _ (List.mem_of_getElem? (i := 32) rfl) (hdep 32 (by kernel_rfl)))) rfl (guard_gtr _ _ _ _ W) (gtr_op hib W))
                case hK163 => exact ⟨_, hp 75 _ (by kernel_rfl), JK.made hok hst hJ (List.mem_of_getElem? (i := 33) rfl) (Below.refl _ _)⟩
              · rintro l gv W hun hdep hcl hJ hg ha hp
                have eg : gv 73 = .bool false := hJ.lit _ (List.mem_of_getElem? (i := 31) rfl) (hdep 31 (by kernel_rfl))
                have hgd := (hg 73 (by kernel_rfl)).trans (congrArg some eg)
                refine' op_val ?h164 ?hw164 ?hr164 ?hK164
                case h164 => rfl
                case hw164 => exact (wants_yes false rfl (by kernel_rfl) hgd)
                case hr164 => exact (ex_move rfl ((eval_tmp (hg 75 (by kernel_rfl))).trans (hJ.lit _ (List.mem_of_getElem? (i := 33) rfl) (hdep 33 (by kernel_rfl)))))
                case hK164 => exact ⟨_, hp 76 _ (by kernel_rfl), JK.made hok hst hJ (List.mem_of_getElem? (i := 34) rfl) (Below.refl _ _)⟩
              · rintro l gv W hun hdep hcl hJ hg ha hp
                cases ib with
                | true =>
                  have eg : gv 76 = .bool true := hJ.lit _ (List.mem_of_getElem? (i := 34) rfl) (hdep 34 (by kernel_rfl))
                  have hgd := (hg 76 (by kernel_rfl)).trans (congrArg some eg)
                  refine' op_val ?h165 ?hw165 ?hr165 ?hK165
                  case h165 => rfl
                  case hw165 => exact (wants_yes true rfl (by kernel_rfl) hgd)
                  case hr165 => exact (ex_move rfl (eval_tmp ((ha 3 (by kernel_rfl)).trans rfl)))
                  case hK165 => exact ⟨_, hp 77 _ (by kernel_rfl), JK.made hok hst hJ (List.mem_of_getElem? (i := 35) rfl) (Below.refl _ _)⟩
                | false =>
                  have eg : gv 76 = .bool false := hJ.lit _ (List.mem_of_getElem? (i := 34) rfl) (hdep 34 (by kernel_rfl))
                  have hgd := (hg 76 (by kernel_rfl)).trans (congrArg some eg)
                  refine' op_out ?h166 ?hw166 ?hK166
                  case h166 => rfl
                  case hw166 => exact (wants_no true rfl (by kernel_rfl) hgd)
                  case hK166 => exact ⟨_, hp 77 _ (by kernel_rfl), JK.made hok hst hJ (List.mem_of_getElem? (i := 35) rfl) (Below.refl _ _)⟩
              · rintro l gv W hun hdep hcl hJ hg ha hp
                cases ib with
                | true =>
                  have eg : gv 76 = .bool true := hJ.lit _ (List.mem_of_getElem? (i := 34) rfl) (hdep 34 (by kernel_rfl))
                  have hgd := (hg 76 (by kernel_rfl)).trans (congrArg some eg)
                  refine' op_val ?h167 ?hw167 ?hr167 ?hK167
                  case h167 => rfl
                  case hw167 => exact (wants_yes true rfl (by kernel_rfl) hgd)
                  case hr167 => exact (ex_move rfl (eval_tmp ((ha 6 (by kernel_rfl)).trans rfl)))
                  case hK167 => exact ⟨_, hp 78 _ (by kernel_rfl), JK.made hok hst hJ (List.mem_of_getElem? (i := 36) rfl) (Below.refl _ _)⟩
                | false =>
                  have eg : gv 76 = .bool false := hJ.lit _ (List.mem_of_getElem? (i := 34) rfl) (hdep 34 (by kernel_rfl))
                  have hgd := (hg 76 (by kernel_rfl)).trans (congrArg some eg)
                  refine' op_out ?h168 ?hw168 ?hK168
                  case h168 => rfl
                  case hw168 => exact (wants_no true rfl (by kernel_rfl) hgd)
                  case hK168 => exact ⟨_, hp 78 _ (by kernel_rfl), JK.made hok hst hJ (List.mem_of_getElem? (i := 36) rfl) (Below.refl _ _)⟩
              · rintro l gv W hun hdep hcl hJ hg ha hp
                cases ib with
                | true =>
                  have eg : gv 76 = .bool true := hJ.lit _ (List.mem_of_getElem? (i := 34) rfl) (hdep 34 (by kernel_rfl))
                  have hgd := (hg 76 (by kernel_rfl)).trans (congrArg some eg)
                  refine' op_val ?h169 ?hw169 ?hr169 ?hK169
                  case h169 => rfl
                  case hw169 => exact (wants_yes true rfl (by kernel_rfl) hgd)
                  case hr169 => exact (ex_indexAddr rfl ((eval_tmp (hg 77 (by kernel_rfl))).trans (hJ.lit _ (List.mem_of_getElem? (i := 35) rfl) (hdep 35 (by kernel_rfl)))) ((eval_tmp (hg 78 (by kernel_rfl))).trans (hJ.lit _ (List.mem_of_getElem? (i := 36) rfl) (hdep 36 (by kernel_rfl)))) (indexFs hiL))
                  case hK169 => exact ⟨_, hp 79 _ (by kernel_rfl), JK.made hok hst hJ (List.mem_of_getElem? (i := 37) rfl) (Below.refl _ _)⟩
                | false =>
                  have eg : gv 76 = .bool false := hJ.lit _ (List.mem_of_getElem? (i := 34) rfl) (hdep 34 (by kernel_rfl))
                  have hgd := (hg 76 (by kernel_rfl)).trans (congrArg some eg)
                  refine' op_out ?h170 ?hw170 ?hK170
                  case h170 => rfl
                  case hw170 => exact (wants_no true rfl (by kernel_rfl) hgd)
                  case hK170 => exact ⟨_, hp 79 _ (by kernel_rfl), JK.made hok hst hJ (List.mem_of_getElem? (i := 37) rfl) (Below.refl _ _)⟩
              · rintro l gv W hun hdep hcl hJ hg ha hp
                cases ib with
                | true =>
                  have eg : gv 76 = .bool true := hJ.lit _ (List.mem_of_getElem? (i := 34) rfl) (hdep 34 (by kernel_rfl))
                  have hgd := (hg 76 (by kernel_rfl)).trans (congrArg some eg)
                  refine' op_val ?h171 ?hw171 ?hr171 ?hK171
                  case h171 => rfl
                  case hw171 => exact (wants_yes true rfl (by kernel_rfl) hgd)
                  case hr171 => exact (ex_load rfl ((eval_tmp (hg 79 (by kernel_rfl))).trans (hJ.lit _ (List.mem_of_getElem? (i := 37) rfl) (hdep 37 (by kernel_rfl)))) (loadFo (cell_below hJ.low l0) (cell_below hJ.low l1) (cell_below hJ.low l2) (cell_below hJ.low l3)))
                  case hK171 => exact ⟨_, hp 80 _ (by kernel_rfl), JK.made hok hst hJ (List.mem_of_getElem? (i := 38) rfl) (Below.refl _ _)⟩
                | false =>
                  have eg : gv 76 = .bool false := hJ.lit _ (List.mem_of_getElem? (i := 34) rfl) (hdep 34 (by kernel_rfl))
                  have hgd := (hg 76 (by kernel_rfl)).trans (congrArg some eg)
                  refine' op_out ?h172 ?hw172 ?hK172
                  case h172 => rfl
                  case hw172 => exact (wants_no true rfl (by kernel_rfl) hgd)
                  case hK172 => exact ⟨_, hp 80 _ (by kernel_rfl), JK.made hok hst hJ (List.mem_of_getElem? (i := 38) rfl) (Below.refl _ _)⟩
              · rintro l gv W hun hdep hcl hJ hg ha hp
                cases ib with
                | true =>
                  have eg : gv 76 = .bool true := hJ.lit _ (List.mem_of_getElem? (i := 34) rfl) (hdep 34 (by kernel_rfl))
                  have hgd := (hg 76 (by kernel_rfl)).trans (congrArg some eg)
                  refine' op_call ?h173 ?hw173 ?hr173 ?hc173
                  case h173 => rfl
                  case hw173 => exact (wants_yes true rfl (by kernel_rfl) hgd)
                  case hr173 => exact (ex_call1 (enters_of Tryd.func13 (by kernel_rfl) rfl) rfl ((eval_tmp (hg 80 (by kernel_rfl))).trans (hJ.lit _ (List.mem_of_getElem? (i := 38) rfl) (hdep 38 (by kernel_rfl)))))
                  case hc173 =>
                    refine (nodes_any (L.get i) sI _ W (FVal.below hJ.low lv)).mono ?_
                    rintro e W' ⟨rfl, hb⟩
                    exact ⟨_, rfl, _, hp 81 _ (by kernel_rfl), JK.made hok hst hJ (List.mem_of_getElem? (i := 39) rfl) hb⟩
                | false =>
                  have eg : gv 76 = .bool false := hJ.lit _ (List.mem_of_getElem? (i := 34) rfl) (hdep 34 (by kernel_rfl))
                  have hgd := (hg 76 (by kernel_rfl)).trans (congrArg some eg)
                  refine' op_out ?h174 ?hw174 ?hK174
                  case h174 => rfl
                  case hw174 => exact (wants_no true rfl (by kernel_rfl) hgd)
                  case hK174 => exact ⟨_, hp 81 _ (by kernel_rfl), JK.made hok hst hJ (List.mem_of_getElem? (i := 39) rfl) (Below.refl _ _)⟩
              · rintro l gv W hun hdep hcl hJ hg ha hp
                cases ib with
                | true =>
                  have eg : gv 76 = .bool true := hJ.lit _ (List.mem_of_getElem? (i := 34) rfl) (hdep 34 (by kernel_rfl))
                  have hgd := (hg 76 (by kernel_rfl)).trans (congrArg some eg)
                  refine' op_val ?h175 ?hw175 ?hr175 ?hK175
                  case h175 => rfl
                  case hw175 => exact (wants_yes true rfl (by kernel_rfl) hgd)
                  case hr175 => exact (ex_load rfl (eval_tmp ((ha 1 (by kernel_rfl)).trans rfl)) (loadFo (cell_below hJ.low f0) (cell_below hJ.low f1) (cell_below hJ.low f2) (cell_below hJ.low f3)))
                  case hK175 => exact ⟨_, hp 82 _ (by kernel_rfl), JK.made hok hst hJ (List.mem_of_getElem? (i := 40) rfl) (Below.refl _ _)⟩
                | false =>
                  have eg : gv 76 = .bool false := hJ.lit _ (List.mem_of_getElem? (i := 34) rfl) (hdep 34 (by kernel_rfl))
                  have hgd := (hg 76 (by kernel_rfl)).trans (congrArg some eg)
                  refine' op_out ?h176 ?hw176 ?hK176
                  case h176 => rfl
                  case hw176 => exact (wants_no true rfl (by kernel_rfl) hgd)
                  case hK176 => exact ⟨_, hp 82 _ (by kernel_rfl), JK.made hok hst hJ (List.mem_of_getElem? (i := 40) rfl) (Below.refl _ _)⟩
              · rintro l gv W hun hdep hcl hJ hg ha hp
                cases ib with
                | true =>
                  have eg : gv 76 = .bool true := hJ.lit _ (List.mem_of_getElem? (i := 34) rfl) (hdep 34 (by kernel_rfl))
                  have hgd := (hg 76 (by kernel_rfl)).trans (congrArg some eg)
                  refine' op_call ?h177 ?hw177 ?hr177 ?hc177
                  case h177 => rfl
                  case hw177 => exact (wants_yes true rfl (by kernel_rfl) hgd)
                  case hr177 => exact (ex_call1 (enters_of Tryd.func13 (by kernel_rfl) rfl) rfl ((eval_tmp (hg 82 (by kernel_rfl))).trans (hJ.lit _ (List.mem_of_getElem? (i := 40) rfl) (hdep 40 (by kernel_rfl)))))
                  case hc177 =>
                    refine (nodes_any f s6 _ W (FVal.below hJ.low fv)).mono ?_
                    rintro e W' ⟨rfl, hb⟩
                    exact ⟨_, rfl, _, hp 83 _ (by kernel_rfl), JK.made hok hst hJ (List.mem_of_getElem? (i := 41) rfl) hb⟩
                | false =>
                  have eg : gv 76 = .bool false := hJ.lit _ (List.mem_of_getElem? (i := 34) rfl) (hdep 34 (by kernel_rfl))
                  have hgd := (hg 76 (by kernel_rfl)).trans (congrArg some eg)
                  refine' op_out ?h178 ?hw178 ?hK178
                  case h178 => rfl
                  case hw178 => exact (wants_no true rfl (by kernel_rfl) hgd)
                  case hK178 => exact ⟨_, hp 83 _ (by kernel_rfl), JK.made hok hst hJ (List.mem_of_getElem? (i := 41) rfl) (Below.refl _ _)⟩
              · rintro l gv W hun hdep hcl hJ hg ha hp
                cases ib with
                | true =>
                  have eg : gv 76 = .bool true := hJ.lit _ (List.mem_of_getElem? (i := 34) rfl) (hdep 34 (by kernel_rfl))
                  have hgd := (hg 76 (by kernel_rfl)).trans (congrArg some eg)
                  refine' op_val ?h179 ?hw179 ?hr179 ?hK179
                  case h179 => rfl
                  case hw179 => exact (wants_yes true rfl (by kernel_rfl) hgd)
                  case hr179 => exact (ex_bin rfl ((eval_tmp (hg 81 (by kernel_rfl))).trans (hJ.lit _ (List.mem_of_getElem? (i := 39) rfl) (hdep 39 (by kernel_rfl)))) ((eval_tmp (hg 83 (by kernel_rfl))).trans (hJ.lit _ (List.mem_of_getElem? (i := 41) rfl) (hdep 41 (by kernel_rfl)))) (guard_geq _ _ _ _ W) (geq_lt (hPFh.out.size i hiL (hib1 rfl)) W))
                  case hK179 => exact ⟨_, hp 84 _ (by kernel_rfl), JK.made hok hst hJ (List.mem_of_getElem? (i := 42) rfl) (Below.refl _ _)⟩
                | false =>
                  have eg : gv 76 = .bool false := hJ.lit _ (List.mem_of_getElem? (i := 34) rfl) (hdep 34 (by kernel_rfl))
                  have hgd := (hg 76 (by kernel_rfl)).trans (congrArg some eg)
                  refine' op_out ?h180 ?hw180 ?hK180
                  case h180 => rfl
                  case hw180 => exact (wants_no true rfl (by kernel_rfl) hgd)
                  case hK180 => exact ⟨_, hp 84 _ (by kernel_rfl), JK.made hok hst hJ (List.mem_of_getElem? (i := 42) rfl) (Below.refl _ _)⟩
              · rintro l gv W hun hdep hcl hJ hg ha hp
                cases ib with
                | true =>
                  have eg : gv 76 = .bool true := hJ.lit _ (List.mem_of_getElem? (i := 34) rfl) (hdep 34 (by kernel_rfl))
                  have hgd := (hg 76 (by kernel_rfl)).trans (congrArg some eg)
                  refine' op_val ?h181 ?hw181 ?hr181 ?hK181
                  case h181 => rfl
                  case hw181 => exact (wants_yes true rfl (by kernel_rfl) hgd)
                  case hr181 => exact (ex_move rfl ((eval_tmp (hg 84 (by kernel_rfl))).trans (hJ.lit _ (List.mem_of_getElem? (i := 42) rfl) (hdep 42 (by kernel_rfl)))))
                  case hK181 => exact ⟨_, hp 85 _ (by kernel_rfl), JK.made hok hst hJ (List.mem_of_getElem? (i := 43) rfl) (Below.refl _ _)⟩
                | false =>
                  have eg : gv 76 = .bool false := hJ.lit _ (List.mem_of_getElem? (i := 34) rfl) (hdep 34 (by kernel_rfl))
                  have hgd := (hg 76 (by kernel_rfl)).trans (congrArg some eg)
                  refine' op_out ?h182 ?hw182 ?hK182
                  case h182 => rfl
                  case hw182 => exact (wants_no true rfl (by kernel_rfl) hgd)
                  case hK182 => exact ⟨_, hp 85 _ (by kernel_rfl), JK.made hok hst hJ (List.mem_of_getElem? (i := 43) rfl) (Below.refl _ _)⟩
              · rintro l gv W hun hdep hcl hJ hg ha hp
                cases ib with
                | true =>
                  have eg : gv 85 = .bool false := hJ.lit _ (List.mem_of_getElem? (i := 43) rfl) (hdep 43 (by kernel_rfl))
                  have hgd := (hg 85 (by kernel_rfl)).trans (congrArg some eg)
                  refine' op_val ?h183 ?hw183 ?hr183 ?hK183
                  case h183 => rfl
                  case hw183 => exact (wants_yes false rfl (by kernel_rfl) hgd)
                  case hr183 => exact (ex_move rfl (eval_tmp ((ha 3 (by kernel_rfl)).trans rfl)))
                  case hK183 => exact ⟨_, hp 86 _ (by kernel_rfl), JK.made hok hst hJ (List.mem_of_getElem? (i := 44) rfl) (Below.refl _ _)⟩
                | false =>
                  have eg : gv 85 = undef := hJ.lit _ (List.mem_of_getElem? (i := 43) rfl) (hdep 43 (by kernel_rfl))
                  have hgd := (hg 85 (by kernel_rfl)).trans (congrArg some eg)
                  refine' op_out ?h184 ?hw184 ?hK184
                  case h184 => rfl
                  case hw184 => exact (wants_undef false rfl (by kernel_rfl) hgd)
                  case hK184 => exact ⟨_, hp 86 _ (by kernel_rfl), JK.made hok hst hJ (List.mem_of_getElem? (i := 44) rfl) (Below.refl _ _)⟩
              · rintro l gv W hun hdep hcl hJ hg ha hp
                cases ib with
                | true =>
                  have eg : gv 85 = .bool false := hJ.lit _ (List.mem_of_getElem? (i := 43) rfl) (hdep 43 (by kernel_rfl))
                  have hgd := (hg 85 (by kernel_rfl)).trans (congrArg some eg)
                  refine' op_val ?h185 ?hw185 ?hr185 ?hK185
                  case h185 => rfl
                  case hw185 => exact (wants_yes false rfl (by kernel_rfl) hgd)
                  case hr185 => exact (ex_move rfl (eval_tmp ((ha 6 (by kernel_rfl)).trans rfl)))
                  case hK185 => exact ⟨_, hp 87 _ (by kernel_rfl), JK.made hok hst hJ (List.mem_of_getElem? (i := 45) rfl) (Below.refl _ _)⟩
                | false =>
                  have eg : gv 85 = undef := hJ.lit _ (List.mem_of_getElem? (i := 43) rfl) (hdep 43 (by kernel_rfl))
                  have hgd := (hg 85 (by kernel_rfl)).trans (congrArg some eg)
                  refine' op_out ?h186 ?hw186 ?hK186
                  case h186 => rfl
                  case hw186 => exact (wants_undef false rfl (by kernel_rfl) hgd)
                  case hK186 => exact ⟨_, hp 87 _ (by kernel_rfl), JK.made hok hst hJ (List.mem_of_getElem? (i := 45) rfl) (Below.refl _ _)⟩
              · rintro l gv W hun hdep hcl hJ hg ha hp
                cases ib with
                | true =>
                  have eg : gv 85 = .bool false := hJ.lit _ (List.mem_of_getElem? (i := 43) rfl) (hdep 43 (by kernel_rfl))
                  have hgd := (hg 85 (by kernel_rfl)).trans (congrArg some eg)
                  refine' op_val ?h187 ?hw187 ?hr187 ?hK187
                  case h187 => rfl
                  case hw187 => exact (wants_yes false rfl (by kernel_rfl) hgd)
                  case hr187 => exact (ex_indexAddr rfl ((eval_tmp (hg 86 (by kernel_rfl))).trans (hJ.lit _ (List.mem_of_getElem? (i := 44) rfl) (hdep 44 (by kernel_rfl)))) ((eval_tmp (hg 87 (by kernel_rfl))).trans (hJ.lit _ (List.mem_of_getElem? (i := 45) rfl) (hdep 45 (by kernel_rfl)))) (indexFs hiL))
                  case hK187 => exact ⟨_, hp 88 _ (by kernel_rfl), JK.made hok hst hJ (List.mem_of_getElem? (i := 46) rfl) (Below.refl _ _)⟩
                | false =>
                  have eg : gv 85 = undef := hJ.lit _ (List.mem_of_getElem? (i := 43) rfl) (hdep 43 (by kernel_rfl))
                  have hgd := (hg 85 (by kernel_rfl)).trans (congrArg some eg)
                  refine' op_out ?h188 ?hw188 ?hK188
                  case h188 => rfl
                  case hw188 => exact (wants_undef false rfl (by kernel_rfl) hgd)
                  case hK188 => exact ⟨_, hp 88 _ (by kernel_rfl), JK.made hok hst hJ (List.mem_of_getElem? (i := 46) rfl) (Below.refl _ _)⟩
              · rintro l gv W hun hdep hcl hJ hg ha hp
                cases ib with
                | true =>
                  have eg : gv 85 = .bool false := hJ.lit _ (List.mem_of_getElem? (i := 43) rfl) (hdep 43 (by kernel_rfl))
                  have hgd := (hg 85 (by kernel_rfl)).trans (congrArg some eg)
                  refine' op_val ?h189 ?hw189 ?hr189 ?hK189
                  case h189 => rfl
                  case hw189 => exact (wants_yes false rfl (by kernel_rfl) hgd)
                  case hr189 => exact (ex_load rfl ((eval_tmp (hg 88 (by kernel_rfl))).trans (hJ.lit _ (List.mem_of_getElem? (i := 46) rfl) (hdep 46 (by kernel_rfl)))) (loadFo (cell_below hJ.low l0) (cell_below hJ.low l1) (cell_below hJ.low l2) (cell_below hJ.low l3)))
                  case hK189 => exact ⟨_, hp 89 _ (by kernel_rfl), JK.made hok hst hJ (List.mem_of_getElem? (i := 47) rfl) (Below.refl _ _)⟩
                | false =>
                  have eg : gv 85 = undef := hJ.lit _ (List.mem_of_getElem? (i := 43) rfl) (hdep 43 (by kernel_rfl))
                  have hgd := (hg 85 (by kernel_rfl)).trans (congrArg some eg)
                  refine' op_out ?h190 ?hw190 ?hK190
                  case h190 => rfl
                  case hw190 => exact (wants_undef false rfl (by kernel_rfl) hgd)
                  case hK190 => exact ⟨_, hp 89 _ (by kernel_rfl), JK.made hok hst hJ (List.mem_of_getElem? (i := 47) rfl) (Below.refl _ _)⟩
              · rintro l gv W hun hdep hcl hJ hg ha hp
                cases ib with
                | true =>
                  have eg : gv 85 = .bool false := hJ.lit _ (List.mem_of_getElem? (i := 43) rfl) (hdep 43 (by kernel_rfl))
                  have hgd := (hg 85 (by kernel_rfl)).trans (congrArg some eg)
                  refine' op_call ?h191 ?hw191 ?hr191 ?hc191
                  case h191 => rfl
                  case hw191 => exact (wants_yes false rfl (by kernel_rfl) hgd)
                  case hr191 => exact (ex_call1 (enters_of Tryd.func18 (by kernel_rfl) rfl) rfl ((eval_tmp (hg 89 (by kernel_rfl))).trans (hJ.lit _ (List.mem_of_getElem? (i := 47) rfl) (hdep 47 (by kernel_rfl)))))
                  case hc191 =>
                    refine (depth_any (L.get i) _ W (FVal.below hJ.low lv) sI).mono ?_
                    rintro e W' ⟨rfl, hb⟩
                    exact ⟨_, rfl, _, hp 90 _ (by kernel_rfl), JK.made hok hst hJ (List.mem_of_getElem? (i := 48) rfl) hb⟩
                | false =>
                  have eg : gv 85 = undef := hJ.lit _ (List.mem_of_getElem? (i := 43) rfl) (hdep 43 (by kernel_rfl))
                  have hgd := (hg 85 (by kernel_rfl)).trans (congrArg some eg)
                  refine' op_out ?h192 ?hw192 ?hK192
                  case h192 => rfl
                  case hw192 => exact (wants_undef false rfl (by kernel_rfl) hgd)
                  case hK192 => exact ⟨_, hp 90 _ (by kernel_rfl), JK.made hok hst hJ (List.mem_of_getElem? (i := 48) rfl) (Below.refl _ _)⟩
              · rintro l gv W hun hdep hcl hJ hg ha hp
                cases ib with
                | true =>
                  have eg : gv 85 = .bool false := hJ.lit _ (List.mem_of_getElem? (i := 43) rfl) (hdep 43 (by kernel_rfl))
                  have hgd := (hg 85 (by kernel_rfl)).trans (congrArg some eg)
                  refine' op_val ?h193 ?hw193 ?hr193 ?hK193
                  case h193 => rfl
                  case hw193 => exact (wants_yes false rfl (by kernel_rfl) hgd)
                  case hr193 => exact (ex_load rfl (eval_tmp ((ha 1 (by kernel_rfl)).trans rfl)) (loadFo (cell_below hJ.low f0) (cell_below hJ.low f1) (cell_below hJ.low f2) (cell_below hJ.low f3)))
                  case hK193 => exact ⟨_, hp 91 _ (by kernel_rfl), JK.made hok hst hJ (List.mem_of_getElem? (i := 49) rfl) (Below.refl _ _)⟩
                | false =>
                  have eg : gv 85 = undef := hJ.lit _ (List.mem_of_getElem? (i := 43) rfl) (hdep 43 (by kernel_rfl))
                  have hgd := (hg 85 (by kernel_rfl)).trans (congrArg some eg)
                  refine' op_out ?h194 ?hw194 ?hK194
                  case h194 => rfl
                  case hw194 => exact (wants_undef false rfl (by kernel_rfl) hgd)
                  case hK194 => exact ⟨_, hp 91 _ (by kernel_rfl), JK.made hok hst hJ (List.mem_of_getElem? (i := 49) rfl) (Below.refl _ _)⟩
              · rintro l gv W hun hdep hcl hJ hg ha hp
                cases ib with
                | true =>
                  have eg : gv 85 = .bool false := hJ.lit _ (List.mem_of_getElem? (i := 43) rfl) (hdep 43 (by kernel_rfl))
                  have hgd := (hg 85 (by kernel_rfl)).trans (congrArg some eg)
                  refine' op_call ?h195 ?hw195 ?hr195 ?hc195
                  case h195 => rfl
                  case hw195 => exact (wants_yes false rfl (by kernel_rfl) hgd)
                  case hr195 => exact (ex_call1 (enters_of Tryd.func18 (by kernel_rfl) rfl) rfl ((eval_tmp (hg 91 (by kernel_rfl))).trans (hJ.lit _ (List.mem_of_getElem? (i := 49) rfl) (hdep 49 (by kernel_rfl)))))
                  case hc195 =>
                    refine (depth_any f _ W (FVal.below hJ.low fv) s6).mono ?_
                    rintro e W' ⟨rfl, hb⟩
                    exact ⟨_, rfl, _, hp 92 _ (by kernel_rfl), JK.made hok hst hJ (List.mem_of_getElem? (i := 50) rfl) hb⟩
                | false =>
                  have eg : gv 85 = undef := hJ.lit _ (List.mem_of_getElem? (i := 43) rfl) (hdep 43 (by kernel_rfl))
                  have hgd := (hg 85 (by kernel_rfl)).trans (congrArg some eg)
                  refine' op_out ?h196 ?hw196 ?hK196
                  case h196 => rfl
                  case hw196 => exact (wants_undef false rfl (by kernel_rfl) hgd)
                  case hK196 => exact ⟨_, hp 92 _ (by kernel_rfl), JK.made hok hst hJ (List.mem_of_getElem? (i := 50) rfl) (Below.refl _ _)⟩
              · rintro l gv W hun hdep hcl hJ hg ha hp
                cases ib with
                | true =>
                  have eg : gv 85 = .bool false := hJ.lit _ (List.mem_of_getElem? (i := 43) rfl) (hdep 43 (by kernel_rfl))
                  have hgd := (hg 85 (by kernel_rfl)).trans (congrArg some eg)
                  refine' op_val ?h197 ?hw197 ?hr197 ?hK197
                  case h197 => rfl
                  case hw197 => exact (wants_yes false rfl (by kernel_rfl) hgd)
                  case hr197 => exact (ex_bin rfl ((eval_tmp (hg 90 (by kernel_rfl))).trans (hJ.lit _ (List.mem_of_getElem? (i := 48) rfl) (hdep 48 (by kernel_rfl)))) ((eval_tmp (hg 92 (by kernel_rfl))).trans (hJ.lit _ (List.mem_of_getElem? (i := 50) rfl) (hdep 50 (by kernel_rfl)))) (guard_geq _ _ _ _ W) (geq_lt (hPFh.out.deep i hiL (hib1 rfl)) W))
                  case hK197 => exact ⟨_, hp 93 _ (by kernel_rfl), JK.made hok hst hJ (List.mem_of_getElem? (i := 51) rfl) (Below.refl _ _)⟩
                | false =>
                  have eg : gv 85 = undef := hJ.lit _ (List.mem_of_getElem? (i := 43) rfl) (hdep 43 (by kernel_rfl))
                  have hgd := (hg 85 (by kernel_rfl)).trans (congrArg some eg)
                  refine' op_out ?h198 ?hw198 ?hK198
                  case h198 => rfl
                  case hw198 => exact (wants_undef false rfl (by kernel_rfl) hgd)
                  case hK198 => exact ⟨_, hp 93 _ (by kernel_rfl), JK.made hok hst hJ (List.mem_of_getElem? (i := 51) rfl) (Below.refl _ _)⟩
              · rintro l gv W hun hdep hcl hJ hg ha hp
                cases ib with
                | true =>
                  have eg : gv 76 = .bool true := hJ.lit _ (List.mem_of_getElem? (i := 34) rfl) (hdep 34 (by kernel_rfl))
                  have hgd := (hg 76 (by kernel_rfl)).trans (congrArg some eg)
                  refine' op_val ?h199 ?hw199 ?hr199 ?hK199
                  case h199 => rfl
                  case hw199 => exact (wants_yes true rfl (by kernel_rfl) hgd)
                  case hr199 => exact (ex_pickF rfl ((eval_tmp (hg 85 (by kernel_rfl))).trans (hJ.lit _ (List.mem_of_getElem? (i := 43) rfl) (hdep 43 (by kernel_rfl)))) ((eval_tmp (hg 93 (by kernel_rfl))).trans (hJ.lit _ (List.mem_of_getElem? (i := 51) rfl) (hdep 51 (by kernel_rfl)))))
                  case hK199 => exact ⟨_, hp 94 _ (by kernel_rfl), JK.made hok hst hJ (List.mem_of_getElem? (i := 52) rfl) (Below.refl _ _)⟩
                | false =>
                  have eg : gv 76 = .bool false := hJ.lit _ (List.mem_of_getElem? (i := 34) rfl) (hdep 34 (by kernel_rfl))
                  have hgd := (hg 76 (by kernel_rfl)).trans (congrArg some eg)
                  refine' op_out ?h200 ?hw200 ?hK200
                  case h200 => rfl
                  case hw200 => exact (wants_no true rfl (by kernel_rfl) hgd)
                  case hK200 => exact ⟨_, hp 94 _ (by kernel_rfl), JK.made hok hst hJ (List.mem_of_getElem? (i := 52) rfl) (Below.refl _ _)⟩
              · rintro l gv W hun hdep hcl hJ hg ha hp
                cases ib with
                | true =>
                  have eg : gv 73 = .bool false := hJ.lit _ (List.mem_of_getElem? (i := 31) rfl) (hdep 31 (by kernel_rfl))
                  have hgd := (hg 73 (by kernel_rfl)).trans (congrArg some eg)
                  refine' op_val ?h201 ?hw201 ?hr201 ?hK201
                  case h201 => rfl
                  case hw201 => exact (wants_yes false rfl (by kernel_rfl) hgd)
                  case hr201 => exact (ex_pick rfl ((eval_tmp (hg 76 (by kernel_rfl))).trans (hJ.lit _ (List.mem_of_getElem? (i := 34) rfl) (hdep 34 (by kernel_rfl)))) ((eval_tmp (hg 94 (by kernel_rfl))).trans (hJ.lit _ (List.mem_of_getElem? (i := 52) rfl) (hdep 52 (by kernel_rfl)))))
                  case hK201 => exact ⟨_, hp 95 _ (by kernel_rfl), JK.made hok hst hJ (List.mem_of_getElem? (i := 53) rfl) (Below.refl _ _)⟩
                | false =>
                  have eg : gv 73 = .bool false := hJ.lit _ (List.mem_of_getElem? (i := 31) rfl) (hdep 31 (by kernel_rfl))
                  have hgd := (hg 73 (by kernel_rfl)).trans (congrArg some eg)
                  refine' op_val ?h202 ?hw202 ?hr202 ?hK202
                  case h202 => rfl
                  case hw202 => exact (wants_yes false rfl (by kernel_rfl) hgd)
                  case hr202 => exact (ex_pickF rfl ((eval_tmp (hg 76 (by kernel_rfl))).trans (hJ.lit _ (List.mem_of_getElem? (i := 34) rfl) (hdep 34 (by kernel_rfl)))) rfl)
                  case hK202 => exact ⟨_, hp 95 _ (by kernel_rfl), JK.made hok hst hJ (List.mem_of_getElem? (i := 53) rfl) (Below.refl _ _)⟩
              · rintro l gv W hun hdep hcl hJ hg ha hp
                refine' op_val ?h203 ?hw203 ?hr203 ?hK203
                case h203 => rfl
                case hw203 => exact rfl
                case hr203 => exact (ex_pickF rfl ((eval_tmp (hg 73 (by kernel_rfl))).trans (hJ.lit _ (List.mem_of_getElem? (i := 31) rfl) (hdep 31 (by kernel_rfl)))) ((eval_tmp (hg 95 (by kernel_rfl))).trans (hJ.lit _ (List.mem_of_getElem? (i := 53) rfl) (hdep 53 (by kernel_rfl)))))
                case hK203 => exact ⟨_, hp 96 _ (by kernel_rfl), JK.made hok hst hJ (List.mem_of_getElem? (i := 54) rfl) (Below.refl _ _)⟩
              · rintro l gv W hun hdep hcl hJ hg ha hp
                refine' op_val ?h204 ?hw204 ?hr204 ?hK204
                case h204 => rfl
                case hw204 => exact rfl
                case hr204 => exact (ex_move rfl ((eval_tmp (hg 96 (by kernel_rfl))).trans (hJ.lit _ (List.mem_of_getElem? (i := 54) rfl) (hdep 54 (by kernel_rfl)))))
                case hK204 => exact ⟨_, hp 97 _ (by kernel_rfl), JK.made hok hst hJ (List.mem_of_getElem? (i := 55) rfl) (Below.refl _ _)⟩
              · rintro l gv W hun hdep hcl hJ hg ha hp
                have eg : gv 97 = .bool false := hJ.lit _ (List.mem_of_getElem? (i := 55) rfl) (hdep 55 (by kernel_rfl))
                have hgd := (hg 97 (by kernel_rfl)).trans (congrArg some eg)
                refine' op_val ?h205 ?hw205 ?hr205 ?hK205
                case h205 => rfl
                case hw205 => exact (wants_yes false rfl (by kernel_rfl) hgd)
                case hr205 => exact (ex_move rfl (eval_tmp ((ha 3 (by kernel_rfl)).trans rfl)))
                case hK205 => exact ⟨_, hp 98 _ (by kernel_rfl), JK.made hok hst hJ (List.mem_of_getElem? (i := 56) rfl) (Below.refl _ _)⟩
              · rintro l gv W hun hdep hcl hJ hg ha hp
                have eg : gv 97 = .bool false := hJ.lit _ (List.mem_of_getElem? (i := 55) rfl) (hdep 55 (by kernel_rfl))
                have hgd := (hg 97 (by kernel_rfl)).trans (congrArg some eg)
                refine' op_val ?h206 ?hw206 ?hr206 ?hK206
                case h206 => rfl
                case hw206 => exact (wants_yes false rfl (by kernel_rfl) hgd)
                case hr206 => exact (ex_move rfl (eval_tmp ((ha 6 (by kernel_rfl)).trans rfl)))
                case hK206 => exact ⟨_, hp 99 _ (by kernel_rfl), JK.made hok hst hJ (List.mem_of_getElem? (i := 57) rfl) (Below.refl _ _)⟩
              · rintro l gv W hun hdep hcl hJ hg ha hp
                have eg : gv 97 = .bool false := hJ.lit _ (List.mem_of_getElem? (i := 55) rfl) (hdep 55 (by kernel_rfl))
                have hgd := (hg 97 (by kernel_rfl)).trans (congrArg some eg)
                refine' op_val ?h207 ?hw207 ?hr207 ?hK207
                case h207 => rfl
                case hw207 => exact (wants_yes false rfl (by kernel_rfl) hgd)
                case hr207 => exact (ex_indexAddr rfl ((eval_tmp (hg 98 (by kernel_rfl))).trans (hJ.lit _ (List.mem_of_getElem? (i := 56) rfl) (hdep 56 (by kernel_rfl)))) ((eval_tmp (hg 99 (by kernel_rfl))).trans (hJ.lit _ (List.mem_of_getElem? (i := 57) rfl) (hdep 57 (by kernel_rfl)))) (indexFs hiL))
                case hK207 => exact ⟨_, hp 100 _ (by kernel_rfl), JK.made hok hst hJ (List.mem_of_getElem? (i := 58) rfl) (Below.refl _ _)⟩
              · rintro l gv W hun hdep hcl hJ hg ha hp
                have eg : gv 97 = .bool false := hJ.lit _ (List.mem_of_getElem? (i := 55) rfl) (hdep 55 (by kernel_rfl))
                have hgd := (hg 97 (by kernel_rfl)).trans (congrArg some eg)
                refine' op_val ?h208 ?hw208 ?hr208 ?hK208
                case h208 => rfl
                case hw208 => exact (wants_yes false rfl (by kernel_rfl) hgd)
                case hr208 => exact (ex_load rfl ((eval_tmp (hg 100 (by kernel_rfl))).trans (hJ.lit _ (List.mem_of_getElem? (i := 58) rfl) (hdep 58 (by kernel_rfl)))) (loadFo (cell_below hJ.low l0) (cell_below hJ.low l1) (cell_below hJ.low l2) (cell_below hJ.low l3)))
                case hK208 => exact ⟨_, hp 101 _ (by kernel_rfl), JK.made hok hst hJ (List.mem_of_getElem? (i := 59) rfl) (Below.refl _ _)⟩
              · rintro l gv W hun hdep hcl hJ hg ha hp
                have eg : gv 97 = .bool false := hJ.lit _ (List.mem_of_getElem? (i := 55) rfl) (hdep 55 (by kernel_rfl))
                have hgd := (hg 97 (by kernel_rfl)).trans (congrArg some eg)
                refine' op_call ?h209 ?hw209 ?hr209 ?hc209
                case h209 => rfl
                case hw209 => exact (wants_yes false rfl (by kernel_rfl) hgd)
                case hr209 => exact (ex_call1 (enters_of Tryd.func20 (by kernel_rfl) rfl) rfl ((eval_tmp (hg 101 (by kernel_rfl))).trans (hJ.lit _ (List.mem_of_getElem? (i := 59) rfl) (hdep 59 (by kernel_rfl)))))
                case hc209 =>
                  refine (predicates_all (L.get i) sI _ W (FVal.below hJ.low lv)).mono ?_
                  rintro e W' ⟨⟨v', rfl, hv'⟩, hb⟩
                  exact ⟨_, rfl, _, hp 102 _ (by kernel_rfl), JK.madeP hok hst hJ (List.mem_of_getElem? (i := 0) rfl) hv' hb⟩
              · rintro l gv W hun hdep hcl hJ hg ha hp
                have eg : gv 97 = .bool false := hJ.lit _ (List.mem_of_getElem? (i := 55) rfl) (hdep 55 (by kernel_rfl))
                have hgd := (hg 97 (by kernel_rfl)).trans (congrArg some eg)
                refine' op_val ?h210 ?hw210 ?hr210 ?hK210
                case h210 => rfl
                case hw210 => exact (wants_yes false rfl (by kernel_rfl) hgd)
                case hr210 => exact (ex_load rfl (eval_tmp ((ha 1 (by kernel_rfl)).trans rfl)) (loadFo (cell_below hJ.low f0) (cell_below hJ.low f1) (cell_below hJ.low f2) (cell_below hJ.low f3)))
                case hK210 => exact ⟨_, hp 103 _ (by kernel_rfl), JK.made hok hst hJ (List.mem_of_getElem? (i := 60) rfl) (Below.refl _ _)⟩
              · rintro l gv W hun hdep hcl hJ hg ha hp
                have eg : gv 97 = .bool false := hJ.lit _ (List.mem_of_getElem? (i := 55) rfl) (hdep 55 (by kernel_rfl))
                have hgd := (hg 97 (by kernel_rfl)).trans (congrArg some eg)
                refine' op_call ?h211 ?hw211 ?hr211 ?hc211
                case h211 => rfl
                case hw211 => exact (wants_yes false rfl (by kernel_rfl) hgd)
                case hr211 => exact (ex_call1 (enters_of Tryd.func20 (by kernel_rfl) rfl) rfl ((eval_tmp (hg 103 (by kernel_rfl))).trans (hJ.lit _ (List.mem_of_getElem? (i := 60) rfl) (hdep 61 (by kernel_rfl)))))
                case hc211 =>
                  refine (predicates_all f s6 _ W (FVal.below hJ.low fv)).mono ?_
                  rintro e W' ⟨⟨v', rfl, hv'⟩, hb⟩
                  exact ⟨_, rfl, _, hp 104 _ (by kernel_rfl), JK.madeP hok hst hJ (List.mem_of_getElem? (i := 1) rfl) hv' hb⟩
              · rintro l gv W hun hdep hcl hJ hg ha hp
                have eg : gv 97 = .bool false := hJ.lit _ (List.mem_of_getElem? (i := 55) rfl) (hdep 55 (by kernel_rfl))
                have hgd := (hg 97 (by kernel_rfl)).trans (congrArg some eg)
                refine' op_call ?h212 ?hw212 ?hr212 ?hc212
                case h212 => rfl
                case hw212 => exact (wants_yes false rfl (by kernel_rfl) hgd)
                case hr212 => exact (ex_call2 (enters_of Tryd.func19 (by kernel_rfl) rfl) rfl (eval_tmp (hg 102 (by kernel_rfl))) (eval_tmp (hg 104 (by kernel_rfl))))
                case hc212 =>
                  refine (within_any (uniq (ms ((L.get i).parts.flatMap symP))) (uniq (ms (f.parts.flatMap symP))) _ _ W (hJ.pr _ (List.mem_of_getElem? (i := 0) rfl) (hdep 60 (by kernel_rfl))) (hJ.pr _ (List.mem_of_getElem? (i := 1) rfl) (hdep 62 (by kernel_rfl))) hn1 hn2).mono ?_
                  rintro e W' ⟨rfl, hb⟩
                  exact ⟨_, (congrArg (fun b => Ending.returned (Value.bool b)) (hPFh.out.preds i hiL)), _, hp 105 _ (by kernel_rfl), JK.made hok hst hJ (List.mem_of_getElem? (i := 61) rfl) hb⟩
              · rintro l gv W hun hdep hcl hJ hg ha hp
                have eg : gv 97 = .bool false := hJ.lit _ (List.mem_of_getElem? (i := 55) rfl) (hdep 55 (by kernel_rfl))
                have hgd := (hg 97 (by kernel_rfl)).trans (congrArg some eg)
                refine' op_val ?h213 ?hw213 ?hr213 ?hK213
                case h213 => rfl
                case hw213 => exact (wants_yes false rfl (by kernel_rfl) hgd)
                case hr213 => exact (ex_not rfl ((eval_tmp (hg 105 (by kernel_rfl))).trans (hJ.lit _ (List.mem_of_getElem? (i := 61) rfl) (hdep 63 (by kernel_rfl)))))
                case hK213 => exact ⟨_, hp 106 _ (by kernel_rfl), JK.made hok hst hJ (List.mem_of_getElem? (i := 62) rfl) (Below.refl _ _)⟩
              · rintro l gv W hun hdep hcl hJ hg ha hp
                refine' op_val ?h214 ?hw214 ?hr214 ?hK214
                case h214 => rfl
                case hw214 => exact rfl
                case hr214 => exact (ex_pickF rfl ((eval_tmp (hg 97 (by kernel_rfl))).trans (hJ.lit _ (List.mem_of_getElem? (i := 55) rfl) (hdep 55 (by kernel_rfl)))) ((eval_tmp (hg 106 (by kernel_rfl))).trans (hJ.lit _ (List.mem_of_getElem? (i := 62) rfl) (hdep 64 (by kernel_rfl)))))
                case hK214 => exact ⟨_, hp 107 _ (by kernel_rfl), JK.made hok hst hJ (List.mem_of_getElem? (i := 63) rfl) (Below.refl _ _)⟩
              · rintro l gv W hun hdep hcl hJ hg ha hp
                refine' op_val ?h215 ?hw215 ?hr215 ?hK215
                case h215 => rfl
                case hw215 => exact rfl
                case hr215 => exact (ex_move rfl ((eval_tmp (hg 107 (by kernel_rfl))).trans (hJ.lit _ (List.mem_of_getElem? (i := 63) rfl) (hdep 65 (by kernel_rfl)))))
                case hK215 => exact ⟨_, hp 108 _ (by kernel_rfl), JK.made hok hst hJ (List.mem_of_getElem? (i := 64) rfl) (Below.refl _ _)⟩
              · rintro l gv W hun hdep hcl hJ hg ha hp
                have eg : gv 108 = .bool false := hJ.lit _ (List.mem_of_getElem? (i := 64) rfl) (hdep 66 (by kernel_rfl))
                have hgd := (hg 108 (by kernel_rfl)).trans (congrArg some eg)
                refine' op_val ?h216 ?hw216 ?hr216 ?hK216
                case h216 => rfl
                case hw216 => exact (wants_yes false rfl (by kernel_rfl) hgd)
                case hr216 => exact (ex_move rfl (eval_tmp ((ha 3 (by kernel_rfl)).trans rfl)))
                case hK216 => exact ⟨_, hp 109 _ (by kernel_rfl), JK.made hok hst hJ (List.mem_of_getElem? (i := 65) rfl) (Below.refl _ _)⟩
              · rintro l gv W hun hdep hcl hJ hg ha hp
                have eg : gv 108 = .bool false := hJ.lit _ (List.mem_of_getElem? (i := 64) rfl) (hdep 66 (by kernel_rfl))
                have hgd := (hg 108 (by kernel_rfl)).trans (congrArg some eg)
                refine' op_val ?h217 ?hw217 ?hr217 ?hK217
                case h217 => rfl
                case hw217 => exact (wants_yes false rfl (by kernel_rfl) hgd)
                case hr217 => exact (ex_move rfl (eval_tmp ((ha 6 (by kernel_rfl)).trans rfl)))
                case hK217 => exact ⟨_, hp 110 _ (by kernel_rfl), JK.made hok hst hJ (List.mem_of_getElem? (i := 66) rfl) (Below.refl _ _)⟩
              · rintro l gv W hun hdep hcl hJ hg ha hp
                have eg : gv 108 = .bool false := hJ.lit _ (List.mem_of_getElem? (i := 64) rfl) (hdep 66 (by kernel_rfl))
                have hgd := (hg 108 (by kernel_rfl)).trans (congrArg some eg)
                refine' op_val ?h218 ?hw218 ?hr218 ?hK218
                case h218 => rfl
                case hw218 => exact (wants_yes false rfl (by kernel_rfl) hgd)
                case hr218 => exact (ex_indexAddr rfl ((eval_tmp (hg 109 (by kernel_rfl))).trans (hJ.lit _ (List.mem_of_getElem? (i := 65) rfl) (hdep 67 (by kernel_rfl)))) ((eval_tmp (hg 110 (by kernel_rfl))).trans (hJ.lit _ (List.mem_of_getElem? (i := 66) rfl) (hdep 68 (by kernel_rfl)))) (indexFs hiL))
                case hK218 => exact ⟨_, hp 111 _ (by kernel_rfl), JK.made hok hst hJ (List.mem_of_getElem? (i := 67) rfl) (Below.refl _ _)⟩
              · rintro l gv W hun hdep hcl hJ hg ha hp
                have eg : gv 108 = .bool false := hJ.lit _ (List.mem_of_getElem? (i := 64) rfl) (hdep 66 (by kernel_rfl))
                have hgd := (hg 108 (by kernel_rfl)).trans (congrArg some eg)
                refine' op_val ?h219 ?hw219 ?hr219 ?hK219
                case h219 => rfl
                case hw219 => exact (wants_yes false rfl (by kernel_rfl) hgd)
                case hr219 => exact (ex_load rfl ((eval_tmp (hg 111 (by kernel_rfl))).trans (hJ.lit _ (List.mem_of_getElem? (i := 67) rfl) (hdep 69 (by kernel_rfl)))) (loadFo (cell_below hJ.low l0) (cell_below hJ.low l1) (cell_below hJ.low l2) (cell_below hJ.low l3)))
                case hK219 => exact ⟨_, hp 112 _ (by kernel_rfl), JK.made hok hst hJ (List.mem_of_getElem? (i := 68) rfl) (Below.refl _ _)⟩
              · rintro l gv W hun hdep hcl hJ hg ha hp
                have eg : gv 108 = .bool false := hJ.lit _ (List.mem_of_getElem? (i := 64) rfl) (hdep 66 (by kernel_rfl))
                have hgd := (hg 108 (by kernel_rfl)).trans (congrArg some eg)
                refine' op_call ?h220 ?hw220 ?hr220 ?hc220
                case h220 => rfl
                case hw220 => exact (wants_yes false rfl (by kernel_rfl) hgd)
                case hr220 => exact (ex_call1 (enters_of Tryd.func21 (by kernel_rfl) rfl) rfl ((eval_tmp (hg 112 (by kernel_rfl))).trans (hJ.lit _ (List.mem_of_getElem? (i := 68) rfl) (hdep 70 (by kernel_rfl)))))
                case hc220 =>
                  refine (functions_all (L.get i) sI _ W (FVal.below hJ.low lv)).mono ?_
                  rintro e W' ⟨⟨v', rfl, hv'⟩, hb⟩
                  exact ⟨_, rfl, _, hp 113 _ (by kernel_rfl), JK.madeP hok hst hJ (List.mem_of_getElem? (i := 2) rfl) hv' hb⟩
              · rintro l gv W hun hdep hcl hJ hg ha hp
                have eg : gv 108 = .bool false := hJ.lit _ (List.mem_of_getElem? (i := 64) rfl) (hdep 66 (by kernel_rfl))
                have hgd := (hg 108 (by kernel_rfl)).trans (congrArg some eg)
                refine' op_val ?h221 ?hw221 ?hr221 ?hK221
                case h221 => rfl
                case hw221 => exact (wants_yes false rfl (by kernel_rfl) hgd)
                case hr221 => exact (ex_load rfl (eval_tmp ((ha 1 (by kernel_rfl)).trans rfl)) (loadFo (cell_below hJ.low f0) (cell_below hJ.low f1) (cell_below hJ.low f2) (cell_below hJ.low f3)))
                case hK221 => exact ⟨_, hp 114 _ (by kernel_rfl), JK.made hok hst hJ (List.mem_of_getElem? (i := 69) rfl) (Below.refl _ _)⟩
              · rintro l gv W hun hdep hcl hJ hg ha hp
                have eg : gv 108 = .bool false := hJ.lit _ (List.mem_of_getElem? (i := 64) rfl) (hdep 66 (by kernel_rfl))
                have hgd := (hg 108 (by kernel_rfl)).trans (congrArg some eg)
                refine' op_call ?h222 ?hw222 ?hr222 ?hc222
                case h222 => rfl
                case hw222 => exact (wants_yes false rfl (by kernel_rfl) hgd)
                case hr222 => exact (ex_call1 (enters_of Tryd.func21 (by kernel_rfl) rfl) rfl ((eval_tmp (hg 114 (by kernel_rfl))).trans (hJ.lit _ (List.mem_of_getElem? (i := 69) rfl) (hdep 72 (by kernel_rfl)))))
                case hc222 =>
                  refine (functions_all f s6 _ W (FVal.below hJ.low fv)).mono ?_
                  rintro e W' ⟨⟨v', rfl, hv'⟩, hb⟩
                  exact ⟨_, rfl, _, hp 115 _ (by kernel_rfl), JK.madeP hok hst hJ (List.mem_of_getElem? (i := 3) rfl) hv' hb⟩
              · rintro l gv W hun hdep hcl hJ hg ha hp
                have eg : gv 108 = .bool false := hJ.lit _ (List.mem_of_getElem? (i := 64) rfl) (hdep 66 (by kernel_rfl))
                have hgd := (hg 108 (by kernel_rfl)).trans (congrArg some eg)
                refine' op_call ?h223 ?hw223 ?hr223 ?hc223
                case h223 => rfl
                case hw223 => exact (wants_yes false rfl (by kernel_rfl) hgd)
                case hr223 => exact (ex_call2 (enters_of Tryd.func19 (by kernel_rfl) rfl) rfl (eval_tmp (hg 113 (by kernel_rfl))) (eval_tmp (hg 115 (by kernel_rfl))))
                case hc223 =>
                  refine (within_any (uniq (ms ((L.get i).terms.flatMap symT))) (uniq (ms (f.terms.flatMap symT))) _ _ W (hJ.pr _ (List.mem_of_getElem? (i := 2) rfl) (hdep 71 (by kernel_rfl))) (hJ.pr _ (List.mem_of_getElem? (i := 3) rfl) (hdep 73 (by kernel_rfl))) hn3 hn4).mono ?_
                  rintro e W' ⟨rfl, hb⟩
                  exact ⟨_, (congrArg (fun b => Ending.returned (Value.bool b)) (hPFh.out.funcs i hiL)), _, hp 116 _ (by kernel_rfl), JK.made hok hst hJ (List.mem_of_getElem? (i := 70) rfl) hb⟩
              · rintro l gv W hun hdep hcl hJ hg ha hp
                have eg : gv 108 = .bool false := hJ.lit _ (List.mem_of_getElem? (i := 64) rfl) (hdep 66 (by kernel_rfl))
                have hgd := (hg 108 (by kernel_rfl)).trans (congrArg some eg)
                refine' op_val ?h224 ?hw224 ?hr224 ?hK224
                case h224 => rfl
                case hw224 => exact (wants_yes false rfl (by kernel_rfl) hgd)
                case hr224 => exact (ex_not rfl ((eval_tmp (hg 116 (by kernel_rfl))).trans (hJ.lit _ (List.mem_of_getElem? (i := 70) rfl) (hdep 74 (by kernel_rfl)))))
                case hK224 => exact ⟨_, hp 117 _ (by kernel_rfl), JK.made hok hst hJ (List.mem_of_getElem? (i := 71) rfl) (Below.refl _ _)⟩
              · rintro l gv W hun hdep hcl hJ hg ha hp
                refine' op_val ?h225 ?hw225 ?hr225 ?hK225
                case h225 => rfl
                case hw225 => exact rfl
                case hr225 => exact (ex_pickF rfl ((eval_tmp (hg 108 (by kernel_rfl))).trans (hJ.lit _ (List.mem_of_getElem? (i := 64) rfl) (hdep 66 (by kernel_rfl)))) ((eval_tmp (hg 117 (by kernel_rfl))).trans (hJ.lit _ (List.mem_of_getElem? (i := 71) rfl) (hdep 75 (by kernel_rfl)))))
                case hK225 => exact ⟨_, hp 118 _ (by kernel_rfl), JK.made hok hst hJ (List.mem_of_getElem? (i := 72) rfl) (Below.refl _ _)⟩
            case hend225 =>
              rintro ll gv W9 hl hJ
              have e42 : gv 42 = .bool false := hJ.lit _ (List.mem_of_getElem? (i := 0) rfl) (hl 0 (of_decide_eq_true (by kernel_rfl)))
              have e43 : gv 43 = .bool false := hJ.lit _ (List.mem_of_getElem? (i := 1) rfl) (hl 1 (of_decide_eq_true (by kernel_rfl)))
              have e44 : gv 44 = undef := hJ.lit _ (List.mem_of_getElem? (i := 2) rfl) (hl 2 (of_decide_eq_true (by kernel_rfl)))
              have e45 : gv 45 = undef := hJ.lit _ (List.mem_of_getElem? (i := 3) rfl) (hl 3 (of_decide_eq_true (by kernel_rfl)))
              have e46 : gv 46 = undef := hJ.lit _ (List.mem_of_getElem? (i := 4) rfl) (hl 4 (of_decide_eq_true (by kernel_rfl)))
              have e47 : gv 47 = undef := hJ.lit _ (List.mem_of_getElem? (i := 5) rfl) (hl 5 (of_decide_eq_true (by kernel_rfl)))
              have e48 : gv 48 = undef := hJ.lit _ (List.mem_of_getElem? (i := 6) rfl) (hl 6 (of_decide_eq_true (by kernel_rfl)))
              have e49 : gv 49 = undef := hJ.lit _ (List.mem_of_getElem? (i := 7) rfl) (hl 7 (of_decide_eq_true (by kernel_rfl)))
              have e50 : gv 50 = .bool false := hJ.lit _ (List.mem_of_getElem? (i := 8) rfl) (hl 8 (of_decide_eq_true (by kernel_rfl)))
              have e51 : gv 51 = .bool false := hJ.lit _ (List.mem_of_getElem? (i := 9) rfl) (hl 9 (of_decide_eq_true (by kernel_rfl)))
              have e52 : gv 52 = .bool sb := hJ.lit _ (List.mem_of_getElem? (i := 10) rfl) (hl 10 (of_decide_eq_true (by kernel_rfl)))
              have e53 : gv 53 = .bool sb := hJ.lit _ (List.mem_of_getElem? (i := 11) rfl) (hl 11 (of_decide_eq_true (by kernel_rfl)))
              have e54 : gv 54 = cond sb (.slice (some ⟨bl, ol, none⟩) L.len cl) undef := hJ.lit _ (List.mem_of_getElem? (i := 12) rfl) (hl 12 (of_decide_eq_true (by kernel_rfl)))
              have e55 : gv 55 = cond sb (.int .i64 (i : Int)) undef := hJ.lit _ (List.mem_of_getElem? (i := 13) rfl) (hl 13 (of_decide_eq_true (by kernel_rfl)))
              have e56 : gv 56 = cond sb (.pointer (some ⟨bl, ol + i * 4, none⟩)) undef := hJ.lit _ (List.mem_of_getElem? (i := 14) rfl) (hl 14 (of_decide_eq_true (by kernel_rfl)))
              have e57 : gv 57 = cond sb (fval (L.get i) (.slice ps (L.get i).ts.len cs) (.slice pt (L.get i).sub.len ct)) undef := hJ.lit _ (List.mem_of_getElem? (i := 15) rfl) (hl 15 (of_decide_eq_true (by kernel_rfl)))
              have e58 : gv 58 = cond sb (.bool true) undef := hJ.lit _ (List.mem_of_getElem? (i := 16) rfl) (hl 16 (of_decide_eq_true (by kernel_rfl)))
              have e59 : gv 59 = cond sb (.bool false) undef := hJ.lit _ (List.mem_of_getElem? (i := 17) rfl) (hl 17 (of_decide_eq_true (by kernel_rfl)))
              have e60 : gv 60 = .bool false := hJ.lit _ (List.mem_of_getElem? (i := 18) rfl) (hl 18 (of_decide_eq_true (by kernel_rfl)))
              have e61 : gv 61 = .bool false := hJ.lit _ (List.mem_of_getElem? (i := 19) rfl) (hl 19 (of_decide_eq_true (by kernel_rfl)))
              have e62 : gv 62 = .bool false := hJ.lit _ (List.mem_of_getElem? (i := 20) rfl) (hl 20 (of_decide_eq_true (by kernel_rfl)))
              have e63 : gv 63 = .slice (some ⟨bl, ol, none⟩) L.len cl := hJ.lit _ (List.mem_of_getElem? (i := 21) rfl) (hl 21 (of_decide_eq_true (by kernel_rfl)))
              have e64 : gv 64 = .int .i64 (i : Int) := hJ.lit _ (List.mem_of_getElem? (i := 22) rfl) (hl 22 (of_decide_eq_true (by kernel_rfl)))
              have e65 : gv 65 = .pointer (some ⟨bl, ol + i * 4, none⟩) := hJ.lit _ (List.mem_of_getElem? (i := 23) rfl) (hl 23 (of_decide_eq_true (by kernel_rfl)))
              have e66 : gv 66 = fval (L.get i) (.slice ps (L.get i).ts.len cs) (.slice pt (L.get i).sub.len ct) := hJ.lit _ (List.mem_of_getElem? (i := 24) rfl) (hl 24 (of_decide_eq_true (by kernel_rfl)))
              have e67 : gv 67 = mval (maskOf (L.get i).parts) := hJ.lit _ (List.mem_of_getElem? (i := 25) rfl) (hl 25 (of_decide_eq_true (by kernel_rfl)))
              have e68 : gv 68 = .agg #[.int .u8 f.op, .string f.n, .slice pa f.ts.len ca, .slice qa f.sub.len da] := hJ.lit _ (List.mem_of_getElem? (i := 26) rfl) (hl 26 (of_decide_eq_true (by kernel_rfl)))
              have e69 : gv 69 = mval (maskOf f.parts) := hJ.lit _ (List.mem_of_getElem? (i := 27) rfl) (hl 27 (of_decide_eq_true (by kernel_rfl)))
              have e70 : gv 70 = mval 0#32 := hJ.lit _ (List.mem_of_getElem? (i := 28) rfl) (hl 28 (of_decide_eq_true (by kernel_rfl)))
              have e71 : gv 71 = .bool false := hJ.lit _ (List.mem_of_getElem? (i := 29) rfl) (hl 29 (of_decide_eq_true (by kernel_rfl)))
              have e72 : gv 72 = .bool false := hJ.lit _ (List.mem_of_getElem? (i := 30) rfl) (hl 30 (of_decide_eq_true (by kernel_rfl)))
              have e73 : gv 73 = .bool false := hJ.lit _ (List.mem_of_getElem? (i := 31) rfl) (hl 31 (of_decide_eq_true (by kernel_rfl)))
              have e74 : gv 74 = .int .i64 (i : Int) := hJ.lit _ (List.mem_of_getElem? (i := 32) rfl) (hl 32 (of_decide_eq_true (by kernel_rfl)))
              have e75 : gv 75 = .bool ib := hJ.lit _ (List.mem_of_getElem? (i := 33) rfl) (hl 33 (of_decide_eq_true (by kernel_rfl)))
              have e76 : gv 76 = .bool ib := hJ.lit _ (List.mem_of_getElem? (i := 34) rfl) (hl 34 (of_decide_eq_true (by kernel_rfl)))
              have e77 : gv 77 = cond ib (.slice (some ⟨bl, ol, none⟩) L.len cl) undef := hJ.lit _ (List.mem_of_getElem? (i := 35) rfl) (hl 35 (of_decide_eq_true (by kernel_rfl)))
              have e78 : gv 78 = cond ib (.int .i64 (i : Int)) undef := hJ.lit _ (List.mem_of_getElem? (i := 36) rfl) (hl 36 (of_decide_eq_true (by kernel_rfl)))
              have e79 : gv 79 = cond ib (.pointer (some ⟨bl, ol + i * 4, none⟩)) undef := hJ.lit _ (List.mem_of_getElem? (i := 37) rfl) (hl 37 (of_decide_eq_true (by kernel_rfl)))
              have e80 : gv 80 = cond ib (fval (L.get i) (.slice ps (L.get i).ts.len cs) (.slice pt (L.get i).sub.len ct)) undef := hJ.lit _ (List.mem_of_getElem? (i := 38) rfl) (hl 38 (of_decide_eq_true (by kernel_rfl)))
              have e81 : gv 81 = cond ib (.int .i64 ((L.get i).size : Int)) undef := hJ.lit _ (List.mem_of_getElem? (i := 39) rfl) (hl 39 (of_decide_eq_true (by kernel_rfl)))
              have e82 : gv 82 = cond ib (.agg #[.int .u8 f.op, .string f.n, .slice pa f.ts.len ca, .slice qa f.sub.len da]) undef := hJ.lit _ (List.mem_of_getElem? (i := 40) rfl) (hl 40 (of_decide_eq_true (by kernel_rfl)))
              have e83 : gv 83 = cond ib (.int .i64 (f.size : Int)) undef := hJ.lit _ (List.mem_of_getElem? (i := 41) rfl) (hl 41 (of_decide_eq_true (by kernel_rfl)))
              have e84 : gv 84 = cond ib (.bool false) undef := hJ.lit _ (List.mem_of_getElem? (i := 42) rfl) (hl 42 (of_decide_eq_true (by kernel_rfl)))
              have e85 : gv 85 = cond ib (.bool false) undef := hJ.lit _ (List.mem_of_getElem? (i := 43) rfl) (hl 43 (of_decide_eq_true (by kernel_rfl)))
              have e86 : gv 86 = cond ib (.slice (some ⟨bl, ol, none⟩) L.len cl) undef := hJ.lit _ (List.mem_of_getElem? (i := 44) rfl) (hl 44 (of_decide_eq_true (by kernel_rfl)))
              have e87 : gv 87 = cond ib (.int .i64 (i : Int)) undef := hJ.lit _ (List.mem_of_getElem? (i := 45) rfl) (hl 45 (of_decide_eq_true (by kernel_rfl)))
              have e88 : gv 88 = cond ib (.pointer (some ⟨bl, ol + i * 4, none⟩)) undef := hJ.lit _ (List.mem_of_getElem? (i := 46) rfl) (hl 46 (of_decide_eq_true (by kernel_rfl)))
              have e89 : gv 89 = cond ib (fval (L.get i) (.slice ps (L.get i).ts.len cs) (.slice pt (L.get i).sub.len ct)) undef := hJ.lit _ (List.mem_of_getElem? (i := 47) rfl) (hl 47 (of_decide_eq_true (by kernel_rfl)))
              have e90 : gv 90 = cond ib (.int .i64 ((L.get i).deep : Int)) undef := hJ.lit _ (List.mem_of_getElem? (i := 48) rfl) (hl 48 (of_decide_eq_true (by kernel_rfl)))
              have e91 : gv 91 = cond ib (.agg #[.int .u8 f.op, .string f.n, .slice pa f.ts.len ca, .slice qa f.sub.len da]) undef := hJ.lit _ (List.mem_of_getElem? (i := 49) rfl) (hl 49 (of_decide_eq_true (by kernel_rfl)))
              have e92 : gv 92 = cond ib (.int .i64 (f.deep : Int)) undef := hJ.lit _ (List.mem_of_getElem? (i := 50) rfl) (hl 50 (of_decide_eq_true (by kernel_rfl)))
              have e93 : gv 93 = cond ib (.bool false) undef := hJ.lit _ (List.mem_of_getElem? (i := 51) rfl) (hl 51 (of_decide_eq_true (by kernel_rfl)))
              have e94 : gv 94 = cond ib (.bool false) undef := hJ.lit _ (List.mem_of_getElem? (i := 52) rfl) (hl 52 (of_decide_eq_true (by kernel_rfl)))
              have e95 : gv 95 = .bool false := hJ.lit _ (List.mem_of_getElem? (i := 53) rfl) (hl 53 (of_decide_eq_true (by kernel_rfl)))
              have e96 : gv 96 = .bool false := hJ.lit _ (List.mem_of_getElem? (i := 54) rfl) (hl 54 (of_decide_eq_true (by kernel_rfl)))
              have e97 : gv 97 = .bool false := hJ.lit _ (List.mem_of_getElem? (i := 55) rfl) (hl 55 (of_decide_eq_true (by kernel_rfl)))
              have e98 : gv 98 = .slice (some ⟨bl, ol, none⟩) L.len cl := hJ.lit _ (List.mem_of_getElem? (i := 56) rfl) (hl 56 (of_decide_eq_true (by kernel_rfl)))
              have e99 : gv 99 = .int .i64 (i : Int) := hJ.lit _ (List.mem_of_getElem? (i := 57) rfl) (hl 57 (of_decide_eq_true (by kernel_rfl)))
              have e100 : gv 100 = .pointer (some ⟨bl, ol + i * 4, none⟩) := hJ.lit _ (List.mem_of_getElem? (i := 58) rfl) (hl 58 (of_decide_eq_true (by kernel_rfl)))
              have e101 : gv 101 = fval (L.get i) (.slice ps (L.get i).ts.len cs) (.slice pt (L.get i).sub.len ct) := hJ.lit _ (List.mem_of_getElem? (i := 59) rfl) (hl 59 (of_decide_eq_true (by kernel_rfl)))
              have e103 : gv 103 = .agg #[.int .u8 f.op, .string f.n, .slice pa f.ts.len ca, .slice qa f.sub.len da] := hJ.lit _ (List.mem_of_getElem? (i := 60) rfl) (hl 61 (of_decide_eq_true (by kernel_rfl)))
              have e105 : gv 105 = .bool true := hJ.lit _ (List.mem_of_getElem? (i := 61) rfl) (hl 63 (of_decide_eq_true (by kernel_rfl)))
              have e106 : gv 106 = .bool false := hJ.lit _ (List.mem_of_getElem? (i := 62) rfl) (hl 64 (of_decide_eq_true (by kernel_rfl)))
              have e107 : gv 107 = .bool false := hJ.lit _ (List.mem_of_getElem? (i := 63) rfl) (hl 65 (of_decide_eq_true (by kernel_rfl)))
              have e108 : gv 108 = .bool false := hJ.lit _ (List.mem_of_getElem? (i := 64) rfl) (hl 66 (of_decide_eq_true (by kernel_rfl)))
              have e109 : gv 109 = .slice (some ⟨bl, ol, none⟩) L.len cl := hJ.lit _ (List.mem_of_getElem? (i := 65) rfl) (hl 67 (of_decide_eq_true (by kernel_rfl)))
              have e110 : gv 110 = .int .i64 (i : Int) := hJ.lit _ (List.mem_of_getElem? (i := 66) rfl) (hl 68 (of_decide_eq_true (by kernel_rfl)))
              have e111 : gv 111 = .pointer (some ⟨bl, ol + i * 4, none⟩) := hJ.lit _ (List.mem_of_getElem? (i := 67) rfl) (hl 69 (of_decide_eq_true (by kernel_rfl)))
              have e112 : gv 112 = fval (L.get i) (.slice ps (L.get i).ts.len cs) (.slice pt (L.get i).sub.len ct) := hJ.lit _ (List.mem_of_getElem? (i := 68) rfl) (hl 70 (of_decide_eq_true (by kernel_rfl)))
              have e114 : gv 114 = .agg #[.int .u8 f.op, .string f.n, .slice pa f.ts.len ca, .slice qa f.sub.len da] := hJ.lit _ (List.mem_of_getElem? (i := 69) rfl) (hl 72 (of_decide_eq_true (by kernel_rfl)))
              have e116 : gv 116 = .bool true := hJ.lit _ (List.mem_of_getElem? (i := 70) rfl) (hl 74 (of_decide_eq_true (by kernel_rfl)))
              have e117 : gv 117 = .bool false := hJ.lit _ (List.mem_of_getElem? (i := 71) rfl) (hl 75 (of_decide_eq_true (by kernel_rfl)))
              have e118 : gv 118 = .bool false := hJ.lit _ (List.mem_of_getElem? (i := 72) rfl) (hl 76 (of_decide_eq_true (by kernel_rfl)))
              simp only [zipV, List.map_cons, List.map_nil, puts, Act.put, List.setIfInBounds_toArray, List.set_cons_succ, List.set_cons_zero, e42, e43, e44, e45, e46, e47, e48, e49, e50, e51, e52, e53, e54, e55, e56, e57, e58, e59, e60, e61, e62, e63, e64, e65, e66, e67, e68, e69, e70, e71, e72, e73, e74, e75, e76, e77, e78, e79, e80, e81, e82, e83, e84, e85, e86, e87, e88, e89, e90, e91, e92, e93, e94, e95, e96, e97, e98, e99, e100, e101, e103, e105, e106, e107, e108, e109, e110, e111, e112, e114, e116, e117, e118]
              have hlow := Lib.hid hJ.low
              clear e42 e43 e44 e45 e46 e47 e48 e49 e50 e51 e52 e53 e54 e55 e56 e57 e58 e59 e60 e61 e62 e63 e64 e65 e66 e67 e68 e69 e70 e71 e72 e73 e74 e75 e76 e77 e78 e79 e80 e81 e82 e83 e84 e85 e86 e87 e88 e89 e90 e91 e92 e93 e94 e95 e96 e97 e98 e99 e100 e101 e103 e105 e106 e107 e108 e109 e110 e111 e112 e114 e116 e117 e118 hJ hl
              obtain ⟨u102, hu102⟩ : ∃ u, gv 102 = u := ⟨_, rfl⟩
              rw [hu102]
              clear hu102
              obtain ⟨u104, hu104⟩ : ∃ u, gv 104 = u := ⟨_, rfl⟩
              rw [hu104]
              clear hu104
              obtain ⟨u113, hu113⟩ : ∃ u, gv 113 = u := ⟨_, rfl⟩
              rw [hu113]
              clear hu113
              obtain ⟨u115, hu115⟩ : ∃ u, gv 115 = u := ⟨_, rfl⟩
              rw [hu115]
              clear hu115
              obtain ⟨w10, hw10⟩ : ∃ w10, W9 = w10 := ⟨_, rfl⟩
              rw [hw10] at hlow ⊢
              have h810 := Lib.hid (bel_step h8r.out hlow.out)
              clear hw10 hlow hrw8 hib hib1 hn1 hn2 hn3 hn4 l0 l1 l2 l3 lv f0 f1 f2 f3 fv hk1
              cases ib <;> cases sb
              all_goals
                go_wp2_with fail
                go_loopw [7] (fun s7 wr => ∃ k : Nat, s7 = .int .i64 (k : Int) ∧ k ≤ i ∧ Below w8.heap.size w8 wr) (fun s7 _ => i - (intOf s7).toNat)
                case atStart => exact ⟨0, rfl, Nat.zero_le _, h810.out⟩
                case round =>
                  obtain ⟨k, rfl, hki', hbr⟩ := hrel
                  have h8k := Lib.hid hbr
                  clear hbr
                  by_cases hki : k < i
                  · have hk1 : (k : Int) < (i : Int) := by omega
                    have hkL : k < L.len := by omega
                    have hkw2 : IntKind.i64.wrap ((k : Int) + 1) = (k : Int) + 1 := IntWalk.i64_in _ (by omega)
                    have sK : (L.get k).size ≤ 1000000 := Nat.le_trans (hPFh.out.le k hkL) s6
                    obtain ⟨l0, l1, ⟨_, l2, ls⟩, ⟨_, l3, lt⟩⟩ := (FsAt.below h8k.out hLat.out).get (k := i) hiL
                    have lv : FVal wr (L.get i) (fval (L.get i) _ _) := ⟨_, _, rfl, ls, lt⟩
                    obtain ⟨ps, cs, rfl, -⟩ := ls
                    obtain ⟨pt, ct, rfl, -⟩ := lt
                    obtain ⟨m0, m1, ⟨_, m2, ms'⟩, ⟨_, m3, mt⟩⟩ := (FsAt.below h8k.out hLat.out).get (k := k) hkL
                    have mv : FVal wr (L.get k) (fval (L.get k) _ _) := ⟨_, _, rfl, ms', mt⟩
                    obtain ⟨psk, csk, rfl, -⟩ := ms'
                    obtain ⟨ptk, ctk, rfl, -⟩ := mt
                    go_wp2_with fail
                    refine wp_region_run (by kernel_rfl) 137 [124, 125, 126, 127, 128, 129, 130, 131, 132] (JK wr [(0, 124, .slice (some ⟨bl, ol, none⟩) L.len cl), (1, 125, .int .i64 (i : Int)), (2, 126, .pointer (some ⟨bl, ol + i * 4, none⟩)), (3, 127, fval (L.get i) (.slice ps (L.get i).ts.len cs) (.slice pt (L.get i).sub.len ct)), (4, 128, .slice (some ⟨bl, ol, none⟩) L.len cl), (5, 129, .int .i64 (k : Int)), (6, 130, .pointer (some ⟨bl, ol + k * 4, none⟩)), (7, 131, fval (L.get k) (.slice psk (L.get k).ts.len csk) (.slice ptk (L.get k).sub.len ctk)), (8, 132, .bool false)] []) (by kernel_rfl) rfl (JK.start _ _) ?hst234 ?hend234
                    case hst234 =>
                      have hok : okK [(0, 124, .slice (some ⟨bl, ol, none⟩) L.len cl), (1, 125, .int .i64 (i : Int)), (2, 126, .pointer (some ⟨bl, ol + i * 4, none⟩)), (3, 127, fval (L.get i) (.slice ps (L.get i).ts.len cs) (.slice pt (L.get i).sub.len ct)), (4, 128, .slice (some ⟨bl, ol, none⟩) L.len cl), (5, 129, .int .i64 (k : Int)), (6, 130, .pointer (some ⟨bl, ol + k * 4, none⟩)), (7, 131, fval (L.get k) (.slice psk (L.get k).ts.len csk) (.slice ptk (L.get k).sub.len ctk)), (8, 132, .bool false)] [] = true := by kernel_rfl
                      have hst : ∀ p ∈ ([] : List (Nat × Nat × (Value → World → Prop))), Stb p.2.2 := fun p hp => (by cases hp)
                      refine ⟨?_, ?_, ?_, ?_, ?_, ?_, ?_, ?_, ?_, trivial⟩
                      · rintro l gv W hun hdep hcl hJ hg ha hp
                        refine' op_val ?h226 ?hw226 ?hr226 ?hK226
                        case h226 => rfl
                        case hw226 => exact rfl
                        case hr226 => exact (ex_move rfl (eval_tmp ((ha 3 (by kernel_rfl)).trans rfl)))
                        case hK226 => exact ⟨_, hp 124 _ (by kernel_rfl), JK.made hok hst hJ (List.mem_of_getElem? (i := 0) rfl) (Below.refl _ _)⟩
                      · rintro l gv W hun hdep hcl hJ hg ha hp
                        refine' op_val ?h227 ?hw227 ?hr227 ?hK227
                        case h227 => rfl
                        case hw227 => exact rfl
                        case hr227 => exact (ex_move rfl (eval_tmp ((ha 6 (by kernel_rfl)).trans rfl)))
                        case hK227 => exact ⟨_, hp 125 _ (by kernel_rfl), JK.made hok hst hJ (List.mem_of_getElem? (i := 1) rfl) (Below.refl _ _)⟩
                      · rintro l gv W hun hdep hcl hJ hg ha hp
                        refine' op_val ?h228 ?hw228 ?hr228 ?hK228
                        case h228 => rfl
                        case hw228 => exact rfl
                        case hr228 => exact (ex_indexAddr rfl ((eval_tmp (hg 124 (by kernel_rfl))).trans (hJ.lit _ (List.mem_of_getElem? (i := 0) rfl) (hdep 0 (by kernel_rfl)))) ((eval_tmp (hg 125 (by kernel_rfl))).trans (hJ.lit _ (List.mem_of_getElem? (i := 1) rfl) (hdep 1 (by kernel_rfl)))) (indexFs hiL))
                        case hK228 => exact ⟨_, hp 126 _ (by kernel_rfl), JK.made hok hst hJ (List.mem_of_getElem? (i := 2) rfl) (Below.refl _ _)⟩
                      · rintro l gv W hun hdep hcl hJ hg ha hp
                        refine' op_val ?h229 ?hw229 ?hr229 ?hK229
                        case h229 => rfl
                        case hw229 => exact rfl
                        case hr229 => exact (ex_load rfl ((eval_tmp (hg 126 (by kernel_rfl))).trans (hJ.lit _ (List.mem_of_getElem? (i := 2) rfl) (hdep 2 (by kernel_rfl)))) (loadFo (cell_below hJ.low l0) (cell_below hJ.low l1) (cell_below hJ.low l2) (cell_below hJ.low l3)))
                        case hK229 => exact ⟨_, hp 127 _ (by kernel_rfl), JK.made hok hst hJ (List.mem_of_getElem? (i := 3) rfl) (Below.refl _ _)⟩
                      · rintro l gv W hun hdep hcl hJ hg ha hp
                        refine' op_val ?h230 ?hw230 ?hr230 ?hK230
                        case h230 => rfl
                        case hw230 => exact rfl
                        case hr230 => exact (ex_move rfl (eval_tmp ((ha 3 (by kernel_rfl)).trans rfl)))
                        case hK230 => exact ⟨_, hp 128 _ (by kernel_rfl), JK.made hok hst hJ (List.mem_of_getElem? (i := 4) rfl) (Below.refl _ _)⟩
                      · rintro l gv W hun hdep hcl hJ hg ha hp
                        refine' op_val ?h231 ?hw231 ?hr231 ?hK231
                        case h231 => rfl
                        case hw231 => exact rfl
                        case hr231 => exact (ex_move rfl (eval_tmp ((ha 7 (by kernel_rfl)).trans rfl)))
                        case hK231 => exact ⟨_, hp 129 _ (by kernel_rfl), JK.made hok hst hJ (List.mem_of_getElem? (i := 5) rfl) (Below.refl _ _)⟩
                      · rintro l gv W hun hdep hcl hJ hg ha hp
                        refine' op_val ?h232 ?hw232 ?hr232 ?hK232
                        case h232 => rfl
                        case hw232 => exact rfl
                        case hr232 => exact (ex_indexAddr rfl ((eval_tmp (hg 128 (by kernel_rfl))).trans (hJ.lit _ (List.mem_of_getElem? (i := 4) rfl) (hdep 4 (by kernel_rfl)))) ((eval_tmp (hg 129 (by kernel_rfl))).trans (hJ.lit _ (List.mem_of_getElem? (i := 5) rfl) (hdep 5 (by kernel_rfl)))) (indexFs hkL))
                        case hK232 => exact ⟨_, hp 130 _ (by kernel_rfl), JK.made hok hst hJ (List.mem_of_getElem? (i := 6) rfl) (Below.refl _ _)⟩
                      · rintro l gv W hun hdep hcl hJ hg ha hp
                        refine' op_val ?h233 ?hw233 ?hr233 ?hK233
                        case h233 => rfl
                        case hw233 => exact rfl
                        case hr233 => exact (ex_load rfl ((eval_tmp (hg 130 (by kernel_rfl))).trans (hJ.lit _ (List.mem_of_getElem? (i := 6) rfl) (hdep 6 (by kernel_rfl)))) (loadFo (cell_below hJ.low m0) (cell_below hJ.low m1) (cell_below hJ.low m2) (cell_below hJ.low m3)))
                        case hK233 => exact ⟨_, hp 131 _ (by kernel_rfl), JK.made hok hst hJ (List.mem_of_getElem? (i := 7) rfl) (Below.refl _ _)⟩
                      · rintro l gv W hun hdep hcl hJ hg ha hp
                        refine' op_call ?h234 ?hw234 ?hr234 ?hc234
                        case h234 => rfl
                        case hw234 => exact rfl
                        case hr234 => exact (ex_call2 (enters_of Tryd.func12 (by kernel_rfl) rfl) rfl ((eval_tmp (hg 127 (by kernel_rfl))).trans (hJ.lit _ (List.mem_of_getElem? (i := 3) rfl) (hdep 3 (by kernel_rfl)))) ((eval_tmp (hg 131 (by kernel_rfl))).trans (hJ.lit _ (List.mem_of_getElem? (i := 7) rfl) (hdep 7 (by kernel_rfl)))))
                        case hc234 =>
                          refine (sameF_any (L.get i) _ (L.get k) _ W (FVal.below hJ.low lv) (FVal.below hJ.low mv) sI sK).mono ?_
                          rintro e W' ⟨rfl, hb⟩
                          exact ⟨_, (congrArg (fun b => Ending.returned (Value.bool b)) (hPFh.out.diff i k hki hiL)), _, hp 132 _ (by kernel_rfl), JK.made hok hst hJ (List.mem_of_getElem? (i := 8) rfl) hb⟩
                    case hend234 =>
                      rintro ll gv W9 hl hJ
                      have e124 : gv 124 = .slice (some ⟨bl, ol, none⟩) L.len cl := hJ.lit _ (List.mem_of_getElem? (i := 0) rfl) (hl 0 (of_decide_eq_true (by kernel_rfl)))
                      have e125 : gv 125 = .int .i64 (i : Int) := hJ.lit _ (List.mem_of_getElem? (i := 1) rfl) (hl 1 (of_decide_eq_true (by kernel_rfl)))
                      have e126 : gv 126 = .pointer (some ⟨bl, ol + i * 4, none⟩) := hJ.lit _ (List.mem_of_getElem? (i := 2) rfl) (hl 2 (of_decide_eq_true (by kernel_rfl)))
                      have e127 : gv 127 = fval (L.get i) (.slice ps (L.get i).ts.len cs) (.slice pt (L.get i).sub.len ct) := hJ.lit _ (List.mem_of_getElem? (i := 3) rfl) (hl 3 (of_decide_eq_true (by kernel_rfl)))
                      have e128 : gv 128 = .slice (some ⟨bl, ol, none⟩) L.len cl := hJ.lit _ (List.mem_of_getElem? (i := 4) rfl) (hl 4 (of_decide_eq_true (by kernel_rfl)))
                      have e129 : gv 129 = .int .i64 (k : Int) := hJ.lit _ (List.mem_of_getElem? (i := 5) rfl) (hl 5 (of_decide_eq_true (by kernel_rfl)))
                      have e130 : gv 130 = .pointer (some ⟨bl, ol + k * 4, none⟩) := hJ.lit _ (List.mem_of_getElem? (i := 6) rfl) (hl 6 (of_decide_eq_true (by kernel_rfl)))
                      have e131 : gv 131 = fval (L.get k) (.slice psk (L.get k).ts.len csk) (.slice ptk (L.get k).sub.len ctk) := hJ.lit _ (List.mem_of_getElem? (i := 7) rfl) (hl 7 (of_decide_eq_true (by kernel_rfl)))
                      have e132 : gv 132 = .bool false := hJ.lit _ (List.mem_of_getElem? (i := 8) rfl) (hl 8 (of_decide_eq_true (by kernel_rfl)))
                      simp only [zipV, List.map_cons, List.map_nil, puts, Act.put, List.setIfInBounds_toArray, List.set_cons_succ, List.set_cons_zero, e124, e125, e126, e127, e128, e129, e130, e131, e132]
                      have hlow := Lib.hid hJ.low
                      clear e124 e125 e126 e127 e128 e129 e130 e131 e132 hJ hl
                      go_wp2_with fail
                      go_roundw
                      case rel => exact ⟨k + 1, by congr 1, by omega, bel_step h8k.out hlow.out⟩
                      case measure => simp [intOf]; omega
                  · have hk1 : ¬ (k : Int) < (i : Int) := by omega
                    go_wp2_with fail
                    go_roundw
                    case rel => exact ⟨i + 1, by congr 1, by omega, h8k.out⟩
                    case measure => simp [intOf]; omega
          · have hie : ¬ (i : Int) < (L.len : Int) := by omega
            have HPl := Lib.hid (placed_any 12 f f L [] _ _ (.slice none 0 0) _ wr fv fv ⟨none, 0, rfl, .inl rfl⟩ (FSl.below h8r.out hLlh.out) rfl hPFh.out.listed s6 s6 hPFh.out.total (by simp))
            go_wp2_with fail
            refine HPl.out.mono ?_
            rintro e we ⟨rfl, hbe⟩
            have hfin := Lib.hid (bel_step k1h.out.2.2.2.2.1 (bel_step h8r.out hbe))
            clear HPl hbe f0 f1 f2 f3
            go_wp2_with fail
            go_ret
            exact ⟨rfl, hfin.out⟩
end Go.Proofs.YtngdieldgnlogaaDoor
