/- The reference's insertion. -/
import Derived.Test.YtngdieldgnlogaaGreatDoorQI
import Derived.Test.YtngdieldgnlogaaGreatDoorQV
namespace Go.Proofs.YtngdieldgnlogaaGreatDoor
open Go Go.RowKit
set_option maxRecDepth 100000
set_option linter.unusedVariables false
theorem info84 : (Tryz.prog.info? 84).map (fun i => (i.zero, i.size, i.bytes)) = some (some (.agg #[.string ⟨#[]⟩, .int .i64 0]), 2, 24) := by kernel_rfl
theorem SyAt.cons_at {W : World} {y : Sy} {r : List Sy} {b o : Nat} (h : SyAt W (y :: r) b o) : W.cell? ⟨b, o, none⟩ = some (.string y.1) ∧ W.cell? ⟨b, o + 1, none⟩ = some (.int .i64 y.2) ∧ SyAt W r b (o + 2) := by
  obtain ⟨a, x⟩ := y; exact h
theorem fld0 {W : World} {b o : Nat} : (Instr.fieldAt 84 (.pointer (some ⟨b, o, none⟩)) 0).run Tryz.prog W = .ok (.pointer (some ⟨b, o, none⟩)) W := by
  simp [Instr.fieldAt, go_sem]
theorem fld1 {W : World} {b o : Nat} : (Instr.fieldAt 84 (.pointer (some ⟨b, o, none⟩)) 1).run Tryz.prog W = .ok (.pointer (some ⟨b, o + 1, none⟩)) W := by
  simp [Instr.fieldAt, go_sem]
theorem ld9 {W : World} {b o : Nat} {s : ByteArray} (h : W.cell? ⟨b, o, none⟩ = some (.string s)) : (Instr.loadAt 9 (.pointer (some ⟨b, o, none⟩))).run Tryz.prog W = .ok (.string s) W := by
  simp [Instr.loadAt, go_sem, h]
theorem ld3 {W : World} {b o : Nat} {x : Int} (h : W.cell? ⟨b, o, none⟩ = some (.int .i64 x)) : (Instr.loadAt 3 (.pointer (some ⟨b, o, none⟩))).run Tryz.prog W = .ok (.int .i64 x) W := by
  simp [Instr.loadAt, go_sem, h]
theorem ix42 {W : World} {b k n c : Nat} (hk : k < n) : (Instr.indexAt 42 (.slice (some ⟨b, 0, none⟩) n c) (.int .i64 (k : Int))).run Tryz.prog W = .ok (.pointer (some ⟨b, k * 2, none⟩)) W := by
  have h1 : (k : Int) < (n : Int) := by omega
  have h0 : (0 : Int) ≤ (k : Int) := by omega
  simp [Instr.indexAt, go_sem, h0, hk]
theorem wants_undef {ops : Array Oper} {a : Act} {j d : Nat} {o : Oper} (b : Bool) (hg : o.guard = some (j, b)) (hj : dstAt ops j = some d) (hd : a.tmps[d]? = some undef) : Region.wanted o (yielded ops a.tmps) = false := by
  have : ((ops[j]?).bind (·.dst)) = some d := hj
  simp [Region.wanted, hg, yielded, this, hd, undef]
theorem gt_bytes (a b : List UInt8) : (!Op.bytesLess a b && !a == b) = Op.bytesLess b a := by
  rw [bytesLess_eq, bytesLess_eq]
  by_cases e : a = b
  · subst e; simp [List.lt_irrefl]
  · by_cases h : a < b
    · have h2 : ¬ b < a := fun h' => List.lt_irrefl a (List.lt_trans h h')
      simp [h, h2]
    · by_cases h2 : b < a
      · simp [h, h2, e]
      · exact (e (List.le_antisymm (List.not_lt.1 h2) (List.not_lt.1 h))).elim
theorem gtr9 {W : World} {a b : ByteArray} {v : Bool} (h : Op.bytesLess b.toList a.toList = v) : (binOp .gtr 9 (.string a) (.string b)).run Tryz.prog W = .ok (.bool v) W := by
  subst h; go_simp; exact gt_bytes _ _
theorem eql9 {W : World} {a b : ByteArray} {v : Bool} (h : (a.toList == b.toList) = v) : (binOp .eql 9 (.string a) (.string b)).run Tryz.prog W = .ok (.bool v) W := by
  subst h; go_simp
theorem gtr3 {W : World} {a b : Int} {v : Bool} (h : decide (b < a) = v) : (binOp .gtr 3 (.int .i64 a) (.int .i64 b)).run Tryz.prog W = .ok (.bool v) W := by
  subst h; go_simp
theorem grd3 (x y : Operand) (a b : Int) (w : World) : (eqGuard .gtr 3 x y (.int .i64 a) (.int .i64 b)).run Tryz.prog w = .ok () w := by
  simp [eqGuard]
theorem SySl.of_owns {W : World} {B : Nat} {e : TypeId} {s : Value} {l : List Sy} (h : W.ownsRow B e 2 s l.length (flat l)) : SySl W l s := by
  obtain ⟨h0, ⟨rfl, hz⟩ | ⟨g, cap, cur, rfl, h1, h2⟩⟩ := id h
  · exact ⟨none, 0, by rw [hz], .inl hz⟩
  · exact SySl.of_row rfl h
set_option maxHeartbeats 8000000 in
theorem insC_any : InsC := by
  intro l s x v w hsrt hsl hlen
  obtain ⟨p, c, rfl, hp⟩ := hsl
  clear hsrt
  have hb1h := Lib.hid (bel_laid w (.cells #[.string s, .int .i64 x] 84))
  obtain ⟨W1, hW1⟩ : ∃ W1, w.alloc (.cells #[.string s, .int .i64 x] 84) = W1 := ⟨_, rfl⟩
  have hc0 : W1.cell? ⟨w.heap.size, 0, none⟩ = some (.string s) := by rw [← hW1, cell_new]; rfl
  have hc1 : W1.cell? ⟨w.heap.size, 1, none⟩ = some (.int .i64 x) := by rw [← hW1, cell_new]; rfl
  rw [hW1] at hb1h
  obtain ⟨g, hg⟩ : ∃ g, w.heap.size = g := ⟨_, rfl⟩
  rw [hg] at hc0 hc1
  have hph := Lib.hid hp
  obtain ⟨i0, hi, hz0, hz1, hz2⟩ := info_parts info84
  have hc0h := Lib.hid hc0
  have hc1h := Lib.hid hc1
  clear hp
  go_enter Tryz.func79, Tryz.ntmps79
  go_wp2_with fail
  clear hW1 hc0 hc1
  go_loopw [5, 6, 7] (fun out put i wr => ∃ (k : Nat) (pre r q : List Sy) (pb : Bool), i = .int .i64 (k : Int) ∧ l = pre ++ r ∧ pre.length = k ∧ (s, x) ∉ pre ∧ put = .bool pb ∧ (pb = true → (∃ y ∈ pre, ltS (s, x) y) ∧ q = putS (s, x) pre) ∧ (pb = false → (∀ y ∈ pre, ¬ ltS (s, x) y) ∧ q = pre) ∧ wr.ownsRow W1.heap.size 84 2 out q.length (flat q) ∧ q.length ≤ k + 1 ∧ Below W1.heap.size W1 wr) (fun _ _ i _ => l.length - (intOf i).toNat)
  case atStart => exact ⟨0, [], l, [], false, rfl, rfl, rfl, by simp, rfl, (fun h => by cases h), (fun _ => ⟨(fun y h => by cases h), rfl⟩), World.ownsRow_nil _ _ _ _, by simp, Below.refl _ _⟩
  case round =>
    obtain ⟨k, pre, r, q, pb, rfl, hl, hk, hnot, rfl, hpt, hpf, hown, hq, hbw⟩ := hrel
    cases r with
    | nil =>
      have hln : l.length = k := by rw [hl]; simp [hk]
      have hki : ¬ (k : Int) < (l.length : Int) := by omega
      have hpl : pre = l := by rw [hl]; simp
      subst hpl
      have hbwh := Lib.hid hbw
      have hownh := Lib.hid hown
      have hb0h := hb1h
      have c0 := cell_below hbw hc0h.out
      have c1 := cell_below hbw hc1h.out
      cases pb with
      | true =>
        have hins := Lib.hid (show SySl wr (insR pre (s, x)) u5 from by unfold insR; rw [if_neg hnot, ← (hpt rfl).2]; exact SySl.of_owns hownh.out)
        clear hown hpt hpf hnot hl hbw
        go_wp2_with fail
        go_ret
        exact ⟨⟨_, rfl, hins.out⟩, by have := bel_step hb1h.out hbwh.out; first | exact this | (rw [hg] at this; exact this)⟩
      | false =>
        have hins := Lib.hid (show insR pre (s, x) = q ++ [(s, x)] from by unfold insR; rw [if_neg hnot, (hpf rfl).2, putS_end _ _ (hpf rfl).1])
        have hO := hownh
        have hB := hbwh
        clear hown hpt hpf hnot hl hbw
        have hbl := bel_laid wr (.cells #[.string s, .int .i64 x] 84)
        have hoh := Lib.hid (owns_below hbl hO.out)
        have hlt2 : ∀ g', u5.ownBlock = some g' → W1.heap.size ≤ g' ∧ g' < (wr.alloc (.cells #[.string s, .int .i64 x] 84)).heap.size := hoh.out.lt
        have hb4h := Lib.hid (bel_step hB.out hbl)
        have hszv : W1.heap.size ≤ wr.heap.size := hB.out.size
        clear hbl hO hB
        go_wp2_with (at_builtin; refine wpList_append_own_at _ rfl _ _ 42 rfl W1.heap.size 84 i0 (.agg #[.string ⟨#[]⟩, .int .i64 0]) 2 24 Tryz.underlying42 hi hz0 hz1 hz2 rfl (by decide) _ _ _ rfl hoh.out ⟨wr.heap.size, 0, none⟩ 1 1 [.string s, .int .i64 x] rfl rfl ?c1_1 ?c1_2 ?c1_3 ?c1_4 ?c1_5 ?_)
        (try case c1_1 => intro j u hu; rw [Addr.add_lit, Nat.zero_add, World.cell?_alloc_new]; simpa using hu)
        case c1_2 => first | exact ⟨rfl, rfl⟩ | (intro u hu; simp at hu; rcases hu with rfl | rfl <;> rfl)
        case c1_3 => unfold maxLen; omega
        case c1_4 => omega
        case c1_5 => first | omega | (rw [World.size_alloc]; omega)
        intro vv w9 hown1 hgrow _ hob
        have hB := Lib.hid (show Below W1.heap.size W1 w9 from hb4h.out.grown hgrow hb4h.out.size (fun g' e => (hlt2 g' e).1))
        have hO := Lib.hid (show w9.ownsRow W1.heap.size 84 2 vv (q ++ [(s, x)]).length (flat (q ++ [(s, x)])) by rw [flat_snoc]; simp only [List.length_append, List.length_cons, List.length_nil, Nat.zero_add]; exact hown1)
        clear hown1 hgrow hob hoh hlt2 hb4h hszv c0 c1
        have hfin := Lib.hid (show SySl w9 (insR pre (s, x)) vv from by rw [hins.out]; exact SySl.of_owns hO.out)
        have hbz := Lib.hid (bel_step hb0h.out hB.out)
        clear hO hB hins
        go_wp2_with fail
        go_ret
        exact ⟨⟨_, rfl, hfin.out⟩, by have := hbz.out; first | exact this | (rw [hg] at this; exact this)⟩
    | cons y r =>
      have hkl : k < l.length := by rw [hl]; simp; omega
      have hki : (k : Int) < (l.length : Int) := by omega
      have hk0 : (0 : Int) ≤ (k : Int) := by omega
      have hkw : IntKind.i64.wrap ((k : Int) + 1) = (k : Int) + 1 := IntWalk.i64_in _ (by omega)
      obtain ⟨b, rfl, hat⟩ := hph.out.resolve_left (by omega)
      have hcy := (SyAt.parts (by rw [← hl]; exact hat : SyAt w (pre ++ y :: r) b 0)).2.cons_at
      obtain ⟨d0, d1, -⟩ := hcy
      rw [hk, Nat.zero_add] at d0 d1
      have z0 := cell_below hb1h.out d0
      have z1 := cell_below hb1h.out d1
      have z0h := Lib.hid z0
      have z1h := Lib.hid z1
      replace d0 := cell_below hbw z0
      replace d1 := cell_below hbw z1
      have c0 := cell_below hbw hc0h.out
      have c1 := cell_below hbw hc1h.out
      obtain ⟨ys, yx⟩ := y
      by_cases he : (ys, yx) = (s, x)
      · simp only [Prod.mk.injEq] at he
        obtain ⟨rfl, rfl⟩ := he
        have hb1k := hb1h
        clear hb1h z0h z1h
        go_wp2_with fail
        go_region_held3 (fun V : World => V.cell? ⟨b, k * 2, none⟩ = some (.string ys) ∧ V.cell? ⟨b, k * 2 + 1, none⟩ = some (.int .i64 yx) ∧ V.cell? ⟨g, 0, none⟩ = some (.string ys) ∧ V.cell? ⟨g, 1, none⟩ = some (.int .i64 yx) ∧ Below wr.heap.size wr V) (first | assumption | exact ⟨d0, d1, c0, c1, bel_drew wr⟩) (fail)
        have hmem : (ys, yx) ∈ l := by rw [hl]; simp
        have hfin := Lib.hid (show SySl (wr.drew) (insR l (ys, yx)) (.slice (some ⟨b, 0, none⟩) (k + (r.length + 1)) c) from by have hb1h := hb1k; unfold insR; rw [if_pos hmem]; exact ⟨_, c, by rw [hl]; simp [hk], .inr ⟨b, rfl, SyAt.below (bel_step hb1h.out (bel_step hbw (bel_drew wr))) hat⟩⟩)
        have hbz := Lib.hid (bel_step hb1k.out (bel_step hbw (bel_drew wr)))
        clear hown hpt hpf hl hnot hmem d0 d1 c0 c1 z0 z1 hat
        go_wp2_with fail
        go_ret
        exact ⟨⟨_, rfl, hfin.out⟩, hbz.out⟩
      · have hbwh := Lib.hid hbw
        have hownh := Lib.hid hown
        have hpth := Lib.hid hpt
        have hpfh := Lib.hid hpf
        have hnoth := Lib.hid hnot
        have hlh := Lib.hid hl
        have hath := Lib.hid hat
        have heh := Lib.hid he
        clear hown hpt hpf hnot hl hat z0 z1
        by_cases hs : ys.toList = s.toList
        · have hs1 : (ys.toList == s.toList) = true := beq_iff_eq.2 hs
          have hx1 : (yx == x) = false := beq_eq_false_iff_ne.2 fun e => he (by rw [e, ba_ext hs])
          have hlt : Op.bytesLess s.toList ys.toList = false := by rw [hs]; exact bytesLess_irrefl _
          clear he hs hbw
          go_wp2_with fail
          go_region_held3 (fun V : World => V.cell? ⟨b, k * 2, none⟩ = some (.string ys) ∧ V.cell? ⟨b, k * 2 + 1, none⟩ = some (.int .i64 yx) ∧ V.cell? ⟨g, 0, none⟩ = some (.string s) ∧ V.cell? ⟨g, 1, none⟩ = some (.int .i64 x) ∧ Below wr.heap.size wr V) (first | assumption | exact ⟨d0, d1, c0, c1, bel_drew wr⟩) (fail)
          clear hx1 d0 d1 c0 c1
          cases pb with
          | true =>
            have hlow6 := Lib.hid (show Below W1.heap.size W1 wr.drew from bel_step hbwh.out (bel_drew wr))
            have d0 := cell_below hlow6.out z0h.out
            have d1 := cell_below hlow6.out z1h.out
            have c0 := cell_below hlow6.out hc0h.out
            have c1 := cell_below hlow6.out hc1h.out
            go_wp2_with fail
            refine wp_region_run (by kernel_rfl) 71 [21, 22, 23, 24, 25, 26, 27, 28, 29, 30, 31, 32, 33, 34, 35, 36, 37, 38, 39, 40, 41, 42, 43, 44, 45, 46, 47, 48, 49, 50, 51, 52] (JK wr.drew [(0, 21, .bool true), (1, 22, .bool false), (2, 23, .bool false), (3, 24, undef), (4, 25, undef), (5, 26, undef), (6, 27, undef), (7, 28, undef), (8, 29, undef), (9, 30, undef), (10, 31, undef), (11, 32, undef), (12, 33, undef), (13, 34, undef), (14, 35, undef), (15, 36, undef), (16, 37, undef), (17, 38, undef), (18, 39, undef), (19, 40, undef), (20, 41, undef), (21, 42, undef), (22, 43, undef), (23, 44, undef), (24, 45, undef), (25, 46, undef), (26, 47, undef), (27, 48, undef), (28, 49, undef), (29, 50, undef), (30, 51, undef), (31, 52, .bool false)] []) (by kernel_rfl) rfl (JK.start _ _) ?hst32 ?hend32
            case hst32 =>
              have hok : okK [(0, 21, .bool true), (1, 22, .bool false), (2, 23, .bool false), (3, 24, undef), (4, 25, undef), (5, 26, undef), (6, 27, undef), (7, 28, undef), (8, 29, undef), (9, 30, undef), (10, 31, undef), (11, 32, undef), (12, 33, undef), (13, 34, undef), (14, 35, undef), (15, 36, undef), (16, 37, undef), (17, 38, undef), (18, 39, undef), (19, 40, undef), (20, 41, undef), (21, 42, undef), (22, 43, undef), (23, 44, undef), (24, 45, undef), (25, 46, undef), (26, 47, undef), (27, 48, undef), (28, 49, undef), (29, 50, undef), (30, 51, undef), (31, 52, .bool false)] [] = true := by kernel_rfl
              have hst : ∀ p ∈ ([] : List (Nat × Nat × (Value → World → Prop))), Stb p.2.2 := fun p hp => (by cases hp)
              refine ⟨?_, ?_, ?_, ?_, ?_, ?_, ?_, ?_, ?_, ?_, ?_, ?_, ?_, ?_, ?_, ?_, ?_, ?_, ?_, ?_, ?_, ?_, ?_, ?_, ?_, ?_, ?_, ?_, ?_, ?_, ?_, ?_, trivial⟩
              · rintro l gv W hun hdep hcl hJ hg ha hp
                refine' op_val ?h1 ?hw1 ?hr1 ?hK1
                case h1 => rfl
                case hw1 => exact rfl
                case hr1 => exact (ex_move rfl (eval_tmp ((ha 6 (by kernel_rfl)).trans rfl)))
                case hK1 => exact ⟨_, hp 21 _ (by kernel_rfl), JK.made hok hst hJ (List.mem_of_getElem? (i := 0) rfl) (Below.refl _ _)⟩
              · rintro l gv W hun hdep hcl hJ hg ha hp
                refine' op_val ?h2 ?hw2 ?hr2 ?hK2
                case h2 => rfl
                case hw2 => exact rfl
                case hr2 => exact (ex_not rfl ((eval_tmp (hg 21 (by kernel_rfl))).trans (hJ.lit _ (List.mem_of_getElem? (i := 0) rfl) (hdep 0 (by kernel_rfl)))))
                case hK2 => exact ⟨_, hp 22 _ (by kernel_rfl), JK.made hok hst hJ (List.mem_of_getElem? (i := 1) rfl) (Below.refl _ _)⟩
              · rintro l gv W hun hdep hcl hJ hg ha hp
                refine' op_val ?h3 ?hw3 ?hr3 ?hK3
                case h3 => rfl
                case hw3 => exact rfl
                case hr3 => exact (ex_move rfl ((eval_tmp (hg 22 (by kernel_rfl))).trans (hJ.lit _ (List.mem_of_getElem? (i := 1) rfl) (hdep 1 (by kernel_rfl)))))
                case hK3 => exact ⟨_, hp 23 _ (by kernel_rfl), JK.made hok hst hJ (List.mem_of_getElem? (i := 2) rfl) (Below.refl _ _)⟩
              · rintro l gv W hun hdep hcl hJ hg ha hp
                have eg : gv 23 = .bool false := hJ.lit _ (List.mem_of_getElem? (i := 2) rfl) (hdep 2 (by kernel_rfl))
                have hgd := (hg 23 (by kernel_rfl)).trans (congrArg some eg)
                refine' op_out ?h4 ?hw4 ?hK4
                case h4 => rfl
                case hw4 => exact (wants_no true rfl (by kernel_rfl) hgd)
                case hK4 => exact ⟨_, hp 24 _ (by kernel_rfl), JK.made hok hst hJ (List.mem_of_getElem? (i := 3) rfl) (Below.refl _ _)⟩
              · rintro l gv W hun hdep hcl hJ hg ha hp
                have eg : gv 23 = .bool false := hJ.lit _ (List.mem_of_getElem? (i := 2) rfl) (hdep 2 (by kernel_rfl))
                have hgd := (hg 23 (by kernel_rfl)).trans (congrArg some eg)
                refine' op_out ?h5 ?hw5 ?hK5
                case h5 => rfl
                case hw5 => exact (wants_no true rfl (by kernel_rfl) hgd)
                case hK5 => exact ⟨_, hp 25 _ (by kernel_rfl), JK.made hok hst hJ (List.mem_of_getElem? (i := 4) rfl) (Below.refl _ _)⟩
              · rintro l gv W hun hdep hcl hJ hg ha hp
                have eg : gv 23 = .bool false := hJ.lit _ (List.mem_of_getElem? (i := 2) rfl) (hdep 2 (by kernel_rfl))
                have hgd := (hg 23 (by kernel_rfl)).trans (congrArg some eg)
                refine' op_out ?h6 ?hw6 ?hK6
                case h6 => rfl
                case hw6 => exact (wants_no true rfl (by kernel_rfl) hgd)
                case hK6 => exact ⟨_, hp 26 _ (by kernel_rfl), JK.made hok hst hJ (List.mem_of_getElem? (i := 5) rfl) (Below.refl _ _)⟩
              · rintro l gv W hun hdep hcl hJ hg ha hp
                have eg : gv 23 = .bool false := hJ.lit _ (List.mem_of_getElem? (i := 2) rfl) (hdep 2 (by kernel_rfl))
                have hgd := (hg 23 (by kernel_rfl)).trans (congrArg some eg)
                refine' op_out ?h7 ?hw7 ?hK7
                case h7 => rfl
                case hw7 => exact (wants_no true rfl (by kernel_rfl) hgd)
                case hK7 => exact ⟨_, hp 27 _ (by kernel_rfl), JK.made hok hst hJ (List.mem_of_getElem? (i := 6) rfl) (Below.refl _ _)⟩
              · rintro l gv W hun hdep hcl hJ hg ha hp
                have eg : gv 23 = .bool false := hJ.lit _ (List.mem_of_getElem? (i := 2) rfl) (hdep 2 (by kernel_rfl))
                have hgd := (hg 23 (by kernel_rfl)).trans (congrArg some eg)
                refine' op_out ?h8 ?hw8 ?hK8
                case h8 => rfl
                case hw8 => exact (wants_no true rfl (by kernel_rfl) hgd)
                case hK8 => exact ⟨_, hp 28 _ (by kernel_rfl), JK.made hok hst hJ (List.mem_of_getElem? (i := 7) rfl) (Below.refl _ _)⟩
              · rintro l gv W hun hdep hcl hJ hg ha hp
                have eg : gv 23 = .bool false := hJ.lit _ (List.mem_of_getElem? (i := 2) rfl) (hdep 2 (by kernel_rfl))
                have hgd := (hg 23 (by kernel_rfl)).trans (congrArg some eg)
                refine' op_out ?h9 ?hw9 ?hK9
                case h9 => rfl
                case hw9 => exact (wants_no true rfl (by kernel_rfl) hgd)
                case hK9 => exact ⟨_, hp 29 _ (by kernel_rfl), JK.made hok hst hJ (List.mem_of_getElem? (i := 8) rfl) (Below.refl _ _)⟩
              · rintro l gv W hun hdep hcl hJ hg ha hp
                have eg : gv 23 = .bool false := hJ.lit _ (List.mem_of_getElem? (i := 2) rfl) (hdep 2 (by kernel_rfl))
                have hgd := (hg 23 (by kernel_rfl)).trans (congrArg some eg)
                refine' op_out ?h10 ?hw10 ?hK10
                case h10 => rfl
                case hw10 => exact (wants_no true rfl (by kernel_rfl) hgd)
                case hK10 => exact ⟨_, hp 30 _ (by kernel_rfl), JK.made hok hst hJ (List.mem_of_getElem? (i := 9) rfl) (Below.refl _ _)⟩
              · rintro l gv W hun hdep hcl hJ hg ha hp
                have eg : gv 23 = .bool false := hJ.lit _ (List.mem_of_getElem? (i := 2) rfl) (hdep 2 (by kernel_rfl))
                have hgd := (hg 23 (by kernel_rfl)).trans (congrArg some eg)
                refine' op_out ?h11 ?hw11 ?hK11
                case h11 => rfl
                case hw11 => exact (wants_no true rfl (by kernel_rfl) hgd)
                case hK11 => exact ⟨_, hp 31 _ (by kernel_rfl), JK.made hok hst hJ (List.mem_of_getElem? (i := 10) rfl) (Below.refl _ _)⟩
              · rintro l gv W hun hdep hcl hJ hg ha hp
                have eg : gv 23 = .bool false := hJ.lit _ (List.mem_of_getElem? (i := 2) rfl) (hdep 2 (by kernel_rfl))
                have hgd := (hg 23 (by kernel_rfl)).trans (congrArg some eg)
                refine' op_out ?h12 ?hw12 ?hK12
                case h12 => rfl
                case hw12 => exact (wants_no true rfl (by kernel_rfl) hgd)
                case hK12 => exact ⟨_, hp 32 _ (by kernel_rfl), JK.made hok hst hJ (List.mem_of_getElem? (i := 11) rfl) (Below.refl _ _)⟩
              · rintro l gv W hun hdep hcl hJ hg ha hp
                have eg : gv 32 = undef := hJ.lit _ (List.mem_of_getElem? (i := 11) rfl) (hdep 11 (by kernel_rfl))
                have hgd := (hg 32 (by kernel_rfl)).trans (congrArg some eg)
                refine' op_out ?h13 ?hw13 ?hK13
                case h13 => rfl
                case hw13 => exact (wants_undef false rfl (by kernel_rfl) hgd)
                case hK13 => exact ⟨_, hp 33 _ (by kernel_rfl), JK.made hok hst hJ (List.mem_of_getElem? (i := 12) rfl) (Below.refl _ _)⟩
              · rintro l gv W hun hdep hcl hJ hg ha hp
                have eg : gv 32 = undef := hJ.lit _ (List.mem_of_getElem? (i := 11) rfl) (hdep 11 (by kernel_rfl))
                have hgd := (hg 32 (by kernel_rfl)).trans (congrArg some eg)
                refine' op_out ?h14 ?hw14 ?hK14
                case h14 => rfl
                case hw14 => exact (wants_undef false rfl (by kernel_rfl) hgd)
                case hK14 => exact ⟨_, hp 34 _ (by kernel_rfl), JK.made hok hst hJ (List.mem_of_getElem? (i := 13) rfl) (Below.refl _ _)⟩
              · rintro l gv W hun hdep hcl hJ hg ha hp
                have eg : gv 32 = undef := hJ.lit _ (List.mem_of_getElem? (i := 11) rfl) (hdep 11 (by kernel_rfl))
                have hgd := (hg 32 (by kernel_rfl)).trans (congrArg some eg)
                refine' op_out ?h15 ?hw15 ?hK15
                case h15 => rfl
                case hw15 => exact (wants_undef false rfl (by kernel_rfl) hgd)
                case hK15 => exact ⟨_, hp 35 _ (by kernel_rfl), JK.made hok hst hJ (List.mem_of_getElem? (i := 14) rfl) (Below.refl _ _)⟩
              · rintro l gv W hun hdep hcl hJ hg ha hp
                have eg : gv 32 = undef := hJ.lit _ (List.mem_of_getElem? (i := 11) rfl) (hdep 11 (by kernel_rfl))
                have hgd := (hg 32 (by kernel_rfl)).trans (congrArg some eg)
                refine' op_out ?h16 ?hw16 ?hK16
                case h16 => rfl
                case hw16 => exact (wants_undef false rfl (by kernel_rfl) hgd)
                case hK16 => exact ⟨_, hp 36 _ (by kernel_rfl), JK.made hok hst hJ (List.mem_of_getElem? (i := 15) rfl) (Below.refl _ _)⟩
              · rintro l gv W hun hdep hcl hJ hg ha hp
                have eg : gv 32 = undef := hJ.lit _ (List.mem_of_getElem? (i := 11) rfl) (hdep 11 (by kernel_rfl))
                have hgd := (hg 32 (by kernel_rfl)).trans (congrArg some eg)
                refine' op_out ?h17 ?hw17 ?hK17
                case h17 => rfl
                case hw17 => exact (wants_undef false rfl (by kernel_rfl) hgd)
                case hK17 => exact ⟨_, hp 37 _ (by kernel_rfl), JK.made hok hst hJ (List.mem_of_getElem? (i := 16) rfl) (Below.refl _ _)⟩
              · rintro l gv W hun hdep hcl hJ hg ha hp
                have eg : gv 32 = undef := hJ.lit _ (List.mem_of_getElem? (i := 11) rfl) (hdep 11 (by kernel_rfl))
                have hgd := (hg 32 (by kernel_rfl)).trans (congrArg some eg)
                refine' op_out ?h18 ?hw18 ?hK18
                case h18 => rfl
                case hw18 => exact (wants_undef false rfl (by kernel_rfl) hgd)
                case hK18 => exact ⟨_, hp 38 _ (by kernel_rfl), JK.made hok hst hJ (List.mem_of_getElem? (i := 17) rfl) (Below.refl _ _)⟩
              · rintro l gv W hun hdep hcl hJ hg ha hp
                have eg : gv 32 = undef := hJ.lit _ (List.mem_of_getElem? (i := 11) rfl) (hdep 11 (by kernel_rfl))
                have hgd := (hg 32 (by kernel_rfl)).trans (congrArg some eg)
                refine' op_out ?h19 ?hw19 ?hK19
                case h19 => rfl
                case hw19 => exact (wants_undef false rfl (by kernel_rfl) hgd)
                case hK19 => exact ⟨_, hp 39 _ (by kernel_rfl), JK.made hok hst hJ (List.mem_of_getElem? (i := 18) rfl) (Below.refl _ _)⟩
              · rintro l gv W hun hdep hcl hJ hg ha hp
                have eg : gv 32 = undef := hJ.lit _ (List.mem_of_getElem? (i := 11) rfl) (hdep 11 (by kernel_rfl))
                have hgd := (hg 32 (by kernel_rfl)).trans (congrArg some eg)
                refine' op_out ?h20 ?hw20 ?hK20
                case h20 => rfl
                case hw20 => exact (wants_undef false rfl (by kernel_rfl) hgd)
                case hK20 => exact ⟨_, hp 40 _ (by kernel_rfl), JK.made hok hst hJ (List.mem_of_getElem? (i := 19) rfl) (Below.refl _ _)⟩
              · rintro l gv W hun hdep hcl hJ hg ha hp
                have eg : gv 32 = undef := hJ.lit _ (List.mem_of_getElem? (i := 11) rfl) (hdep 11 (by kernel_rfl))
                have hgd := (hg 32 (by kernel_rfl)).trans (congrArg some eg)
                refine' op_out ?h21 ?hw21 ?hK21
                case h21 => rfl
                case hw21 => exact (wants_undef false rfl (by kernel_rfl) hgd)
                case hK21 => exact ⟨_, hp 41 _ (by kernel_rfl), JK.made hok hst hJ (List.mem_of_getElem? (i := 20) rfl) (Below.refl _ _)⟩
              · rintro l gv W hun hdep hcl hJ hg ha hp
                have eg : gv 41 = undef := hJ.lit _ (List.mem_of_getElem? (i := 20) rfl) (hdep 20 (by kernel_rfl))
                have hgd := (hg 41 (by kernel_rfl)).trans (congrArg some eg)
                refine' op_out ?h22 ?hw22 ?hK22
                case h22 => rfl
                case hw22 => exact (wants_undef true rfl (by kernel_rfl) hgd)
                case hK22 => exact ⟨_, hp 42 _ (by kernel_rfl), JK.made hok hst hJ (List.mem_of_getElem? (i := 21) rfl) (Below.refl _ _)⟩
              · rintro l gv W hun hdep hcl hJ hg ha hp
                have eg : gv 41 = undef := hJ.lit _ (List.mem_of_getElem? (i := 20) rfl) (hdep 20 (by kernel_rfl))
                have hgd := (hg 41 (by kernel_rfl)).trans (congrArg some eg)
                refine' op_out ?h23 ?hw23 ?hK23
                case h23 => rfl
                case hw23 => exact (wants_undef true rfl (by kernel_rfl) hgd)
                case hK23 => exact ⟨_, hp 43 _ (by kernel_rfl), JK.made hok hst hJ (List.mem_of_getElem? (i := 22) rfl) (Below.refl _ _)⟩
              · rintro l gv W hun hdep hcl hJ hg ha hp
                have eg : gv 41 = undef := hJ.lit _ (List.mem_of_getElem? (i := 20) rfl) (hdep 20 (by kernel_rfl))
                have hgd := (hg 41 (by kernel_rfl)).trans (congrArg some eg)
                refine' op_out ?h24 ?hw24 ?hK24
                case h24 => rfl
                case hw24 => exact (wants_undef true rfl (by kernel_rfl) hgd)
                case hK24 => exact ⟨_, hp 44 _ (by kernel_rfl), JK.made hok hst hJ (List.mem_of_getElem? (i := 23) rfl) (Below.refl _ _)⟩
              · rintro l gv W hun hdep hcl hJ hg ha hp
                have eg : gv 41 = undef := hJ.lit _ (List.mem_of_getElem? (i := 20) rfl) (hdep 20 (by kernel_rfl))
                have hgd := (hg 41 (by kernel_rfl)).trans (congrArg some eg)
                refine' op_out ?h25 ?hw25 ?hK25
                case h25 => rfl
                case hw25 => exact (wants_undef true rfl (by kernel_rfl) hgd)
                case hK25 => exact ⟨_, hp 45 _ (by kernel_rfl), JK.made hok hst hJ (List.mem_of_getElem? (i := 24) rfl) (Below.refl _ _)⟩
              · rintro l gv W hun hdep hcl hJ hg ha hp
                have eg : gv 41 = undef := hJ.lit _ (List.mem_of_getElem? (i := 20) rfl) (hdep 20 (by kernel_rfl))
                have hgd := (hg 41 (by kernel_rfl)).trans (congrArg some eg)
                refine' op_out ?h26 ?hw26 ?hK26
                case h26 => rfl
                case hw26 => exact (wants_undef true rfl (by kernel_rfl) hgd)
                case hK26 => exact ⟨_, hp 46 _ (by kernel_rfl), JK.made hok hst hJ (List.mem_of_getElem? (i := 25) rfl) (Below.refl _ _)⟩
              · rintro l gv W hun hdep hcl hJ hg ha hp
                have eg : gv 41 = undef := hJ.lit _ (List.mem_of_getElem? (i := 20) rfl) (hdep 20 (by kernel_rfl))
                have hgd := (hg 41 (by kernel_rfl)).trans (congrArg some eg)
                refine' op_out ?h27 ?hw27 ?hK27
                case h27 => rfl
                case hw27 => exact (wants_undef true rfl (by kernel_rfl) hgd)
                case hK27 => exact ⟨_, hp 47 _ (by kernel_rfl), JK.made hok hst hJ (List.mem_of_getElem? (i := 26) rfl) (Below.refl _ _)⟩
              · rintro l gv W hun hdep hcl hJ hg ha hp
                have eg : gv 41 = undef := hJ.lit _ (List.mem_of_getElem? (i := 20) rfl) (hdep 20 (by kernel_rfl))
                have hgd := (hg 41 (by kernel_rfl)).trans (congrArg some eg)
                refine' op_out ?h28 ?hw28 ?hK28
                case h28 => rfl
                case hw28 => exact (wants_undef true rfl (by kernel_rfl) hgd)
                case hK28 => exact ⟨_, hp 48 _ (by kernel_rfl), JK.made hok hst hJ (List.mem_of_getElem? (i := 27) rfl) (Below.refl _ _)⟩
              · rintro l gv W hun hdep hcl hJ hg ha hp
                have eg : gv 41 = undef := hJ.lit _ (List.mem_of_getElem? (i := 20) rfl) (hdep 20 (by kernel_rfl))
                have hgd := (hg 41 (by kernel_rfl)).trans (congrArg some eg)
                refine' op_out ?h29 ?hw29 ?hK29
                case h29 => rfl
                case hw29 => exact (wants_undef true rfl (by kernel_rfl) hgd)
                case hK29 => exact ⟨_, hp 49 _ (by kernel_rfl), JK.made hok hst hJ (List.mem_of_getElem? (i := 28) rfl) (Below.refl _ _)⟩
              · rintro l gv W hun hdep hcl hJ hg ha hp
                have eg : gv 32 = undef := hJ.lit _ (List.mem_of_getElem? (i := 11) rfl) (hdep 11 (by kernel_rfl))
                have hgd := (hg 32 (by kernel_rfl)).trans (congrArg some eg)
                refine' op_out ?h30 ?hw30 ?hK30
                case h30 => rfl
                case hw30 => exact (wants_undef false rfl (by kernel_rfl) hgd)
                case hK30 => exact ⟨_, hp 50 _ (by kernel_rfl), JK.made hok hst hJ (List.mem_of_getElem? (i := 29) rfl) (Below.refl _ _)⟩
              · rintro l gv W hun hdep hcl hJ hg ha hp
                have eg : gv 23 = .bool false := hJ.lit _ (List.mem_of_getElem? (i := 2) rfl) (hdep 2 (by kernel_rfl))
                have hgd := (hg 23 (by kernel_rfl)).trans (congrArg some eg)
                refine' op_out ?h31 ?hw31 ?hK31
                case h31 => rfl
                case hw31 => exact (wants_no true rfl (by kernel_rfl) hgd)
                case hK31 => exact ⟨_, hp 51 _ (by kernel_rfl), JK.made hok hst hJ (List.mem_of_getElem? (i := 30) rfl) (Below.refl _ _)⟩
              · rintro l gv W hun hdep hcl hJ hg ha hp
                refine' op_val ?h32 ?hw32 ?hr32 ?hK32
                case h32 => rfl
                case hw32 => exact rfl
                case hr32 => exact (ex_pickF rfl ((eval_tmp (hg 23 (by kernel_rfl))).trans (hJ.lit _ (List.mem_of_getElem? (i := 2) rfl) (hdep 2 (by kernel_rfl)))) rfl)
                case hK32 => exact ⟨_, hp 52 _ (by kernel_rfl), JK.made hok hst hJ (List.mem_of_getElem? (i := 31) rfl) (Below.refl _ _)⟩
            case hend32 =>
              rintro ll gv W9 hl hJ
              have e21 : gv 21 = .bool true := hJ.lit _ (List.mem_of_getElem? (i := 0) rfl) (hl 0 (of_decide_eq_true (by kernel_rfl)))
              have e22 : gv 22 = .bool false := hJ.lit _ (List.mem_of_getElem? (i := 1) rfl) (hl 1 (of_decide_eq_true (by kernel_rfl)))
              have e23 : gv 23 = .bool false := hJ.lit _ (List.mem_of_getElem? (i := 2) rfl) (hl 2 (of_decide_eq_true (by kernel_rfl)))
              have e24 : gv 24 = undef := hJ.lit _ (List.mem_of_getElem? (i := 3) rfl) (hl 3 (of_decide_eq_true (by kernel_rfl)))
              have e25 : gv 25 = undef := hJ.lit _ (List.mem_of_getElem? (i := 4) rfl) (hl 4 (of_decide_eq_true (by kernel_rfl)))
              have e26 : gv 26 = undef := hJ.lit _ (List.mem_of_getElem? (i := 5) rfl) (hl 5 (of_decide_eq_true (by kernel_rfl)))
              have e27 : gv 27 = undef := hJ.lit _ (List.mem_of_getElem? (i := 6) rfl) (hl 6 (of_decide_eq_true (by kernel_rfl)))
              have e28 : gv 28 = undef := hJ.lit _ (List.mem_of_getElem? (i := 7) rfl) (hl 7 (of_decide_eq_true (by kernel_rfl)))
              have e29 : gv 29 = undef := hJ.lit _ (List.mem_of_getElem? (i := 8) rfl) (hl 8 (of_decide_eq_true (by kernel_rfl)))
              have e30 : gv 30 = undef := hJ.lit _ (List.mem_of_getElem? (i := 9) rfl) (hl 9 (of_decide_eq_true (by kernel_rfl)))
              have e31 : gv 31 = undef := hJ.lit _ (List.mem_of_getElem? (i := 10) rfl) (hl 10 (of_decide_eq_true (by kernel_rfl)))
              have e32 : gv 32 = undef := hJ.lit _ (List.mem_of_getElem? (i := 11) rfl) (hl 11 (of_decide_eq_true (by kernel_rfl)))
              have e33 : gv 33 = undef := hJ.lit _ (List.mem_of_getElem? (i := 12) rfl) (hl 12 (of_decide_eq_true (by kernel_rfl)))
              have e34 : gv 34 = undef := hJ.lit _ (List.mem_of_getElem? (i := 13) rfl) (hl 13 (of_decide_eq_true (by kernel_rfl)))
              have e35 : gv 35 = undef := hJ.lit _ (List.mem_of_getElem? (i := 14) rfl) (hl 14 (of_decide_eq_true (by kernel_rfl)))
              have e36 : gv 36 = undef := hJ.lit _ (List.mem_of_getElem? (i := 15) rfl) (hl 15 (of_decide_eq_true (by kernel_rfl)))
              have e37 : gv 37 = undef := hJ.lit _ (List.mem_of_getElem? (i := 16) rfl) (hl 16 (of_decide_eq_true (by kernel_rfl)))
              have e38 : gv 38 = undef := hJ.lit _ (List.mem_of_getElem? (i := 17) rfl) (hl 17 (of_decide_eq_true (by kernel_rfl)))
              have e39 : gv 39 = undef := hJ.lit _ (List.mem_of_getElem? (i := 18) rfl) (hl 18 (of_decide_eq_true (by kernel_rfl)))
              have e40 : gv 40 = undef := hJ.lit _ (List.mem_of_getElem? (i := 19) rfl) (hl 19 (of_decide_eq_true (by kernel_rfl)))
              have e41 : gv 41 = undef := hJ.lit _ (List.mem_of_getElem? (i := 20) rfl) (hl 20 (of_decide_eq_true (by kernel_rfl)))
              have e42 : gv 42 = undef := hJ.lit _ (List.mem_of_getElem? (i := 21) rfl) (hl 21 (of_decide_eq_true (by kernel_rfl)))
              have e43 : gv 43 = undef := hJ.lit _ (List.mem_of_getElem? (i := 22) rfl) (hl 22 (of_decide_eq_true (by kernel_rfl)))
              have e44 : gv 44 = undef := hJ.lit _ (List.mem_of_getElem? (i := 23) rfl) (hl 23 (of_decide_eq_true (by kernel_rfl)))
              have e45 : gv 45 = undef := hJ.lit _ (List.mem_of_getElem? (i := 24) rfl) (hl 24 (of_decide_eq_true (by kernel_rfl)))
              have e46 : gv 46 = undef := hJ.lit _ (List.mem_of_getElem? (i := 25) rfl) (hl 25 (of_decide_eq_true (by kernel_rfl)))
              have e47 : gv 47 = undef := hJ.lit _ (List.mem_of_getElem? (i := 26) rfl) (hl 26 (of_decide_eq_true (by kernel_rfl)))
              have e48 : gv 48 = undef := hJ.lit _ (List.mem_of_getElem? (i := 27) rfl) (hl 27 (of_decide_eq_true (by kernel_rfl)))
              have e49 : gv 49 = undef := hJ.lit _ (List.mem_of_getElem? (i := 28) rfl) (hl 28 (of_decide_eq_true (by kernel_rfl)))
              have e50 : gv 50 = undef := hJ.lit _ (List.mem_of_getElem? (i := 29) rfl) (hl 29 (of_decide_eq_true (by kernel_rfl)))
              have e51 : gv 51 = undef := hJ.lit _ (List.mem_of_getElem? (i := 30) rfl) (hl 30 (of_decide_eq_true (by kernel_rfl)))
              have e52 : gv 52 = .bool false := hJ.lit _ (List.mem_of_getElem? (i := 31) rfl) (hl 31 (of_decide_eq_true (by kernel_rfl)))
              simp only [zipV, List.map_cons, List.map_nil, puts, Act.put, List.setIfInBounds_toArray, List.set_cons_succ, List.set_cons_zero, e21, e22, e23, e24, e25, e26, e27, e28, e29, e30, e31, e32, e33, e34, e35, e36, e37, e38, e39, e40, e41, e42, e43, e44, e45, e46, e47, e48, e49, e50, e51, e52]
              have hlow := Lib.hid hJ.low
              clear e21 e22 e23 e24 e25 e26 e27 e28 e29 e30 e31 e32 e33 e34 e35 e36 e37 e38 e39 e40 e41 e42 e43 e44 e45 e46 e47 e48 e49 e50 e51 e52 hJ hl
              obtain ⟨w8, hw8⟩ : ∃ w8, W9 = w8 := ⟨_, rfl⟩
              rw [hw8] at hlow ⊢
              clear hw8 d0 d1 c0 c1
              have hB := Lib.hid (show Below W1.heap.size W1 w8 from bel_step hlow6.out hlow.out)
              have hO := Lib.hid (show w8.ownsRow W1.heap.size 84 2 u5 q.length (flat q) from owns_below (bel_step (bel_drew wr) hlow.out) hownh.out)
              have c0 := cell_below hB.out hc0h.out
              have c1 := cell_below hB.out hc1h.out
              have d0 := cell_below hB.out z0h.out
              have d1 := cell_below hB.out z1h.out
              clear hlow hlow6 hownh
              have hbl := bel_laid w8 (.cells #[.string ys, .int .i64 yx] 84)
              have hoh := Lib.hid (owns_below hbl hO.out)
              have hlt2 : ∀ g', u5.ownBlock = some g' → W1.heap.size ≤ g' ∧ g' < (w8.alloc (.cells #[.string ys, .int .i64 yx] 84)).heap.size := hoh.out.lt
              have hb4h := Lib.hid (bel_step hB.out hbl)
              have hszv : W1.heap.size ≤ w8.heap.size := hB.out.size
              clear hbl hO hB
              go_wp2_with (at_builtin; refine wpList_append_own_at _ rfl _ _ 42 rfl W1.heap.size 84 i0 (.agg #[.string ⟨#[]⟩, .int .i64 0]) 2 24 Tryz.underlying42 hi hz0 hz1 hz2 rfl (by decide) _ _ _ rfl hoh.out ⟨w8.heap.size, 0, none⟩ 1 1 [.string ys, .int .i64 yx] rfl rfl ?c2_1 ?c2_2 ?c2_3 ?c2_4 ?c2_5 ?_)
              (try case c2_1 => intro j u hu; rw [Addr.add_lit, Nat.zero_add, World.cell?_alloc_new]; simpa using hu)
              case c2_2 => first | exact ⟨rfl, rfl⟩ | (intro u hu; simp at hu; rcases hu with rfl | rfl <;> rfl)
              case c2_3 => unfold maxLen; omega
              case c2_4 => omega
              case c2_5 => first | omega | (rw [World.size_alloc]; omega)
              intro vv w11 hown1 hgrow _ hob
              have hB := Lib.hid (show Below W1.heap.size W1 w11 from hb4h.out.grown hgrow hb4h.out.size (fun g' e => (hlt2 g' e).1))
              have hO := Lib.hid (show w11.ownsRow W1.heap.size 84 2 vv (q ++ [(ys, yx)]).length (flat (q ++ [(ys, yx)])) by rw [flat_snoc]; simp only [List.length_append, List.length_cons, List.length_nil, Nat.zero_add]; exact hown1)
              clear hown1 hgrow hob hoh hlt2 hb4h hszv
              clear c0 c1 d0 d1
              go_wp2
              go_roundw
              case rel => exact ⟨k + 1, pre ++ [(ys, yx)], r, q ++ [(ys, yx)], true, rfl, (by rw [hlh.out]; simp), (by simp [hk]), (fun hm => (List.mem_append.1 hm).elim (fun h => hnoth.out h) (fun h => heh.out (List.mem_singleton.1 h).symm)), rfl, (fun _ => ⟨(by obtain ⟨z, hz, hz2⟩ := (hpth.out (by trivial)).1; exact ⟨z, List.mem_append_left _ hz, hz2⟩), (by rw [(hpth.out (by trivial)).2, putS_some _ _ _ (hpth.out (by trivial)).1])⟩), (fun h => by cases h), hO.out, (by have := hq; simp; omega), hB.out⟩
              case measure => simp [intOf]; omega
          | false =>
            cases hxx : decide (x < yx) with
            | true =>
              have hLT : ltS (s, x) (ys, yx) := (symCmp_lt _ _).2 (.inr ⟨(beq_iff_eq.1 hs1).symm, of_decide_eq_true hxx⟩)
              have hlow6 := Lib.hid (show Below W1.heap.size W1 wr.drew from bel_step hbwh.out (bel_drew wr))
              have d0 := cell_below hlow6.out z0h.out
              have d1 := cell_below hlow6.out z1h.out
              have c0 := cell_below hlow6.out hc0h.out
              have c1 := cell_below hlow6.out hc1h.out
              go_wp2_with fail
              refine wp_region_run (by kernel_rfl) 71 [21, 22, 23, 24, 25, 26, 27, 28, 29, 30, 31, 32, 33, 34, 35, 36, 37, 38, 39, 40, 41, 42, 43, 44, 45, 46, 47, 48, 49, 50, 51, 52] (JK wr.drew [(0, 21, .bool false), (1, 22, .bool true), (2, 23, .bool true), (3, 24, .slice (some ⟨b, 0, none⟩) l.length c), (4, 25, .int .i64 (k : Int)), (5, 26, .pointer (some ⟨b, k * 2, none⟩)), (6, 27, .pointer (some ⟨b, k * 2, none⟩)), (7, 28, .string ys), (8, 29, .pointer (some ⟨g, 0, none⟩)), (9, 30, .string s), (10, 31, .bool false), (11, 32, .bool false), (12, 33, .slice (some ⟨b, 0, none⟩) l.length c), (13, 34, .int .i64 (k : Int)), (14, 35, .pointer (some ⟨b, k * 2, none⟩)), (15, 36, .pointer (some ⟨b, k * 2, none⟩)), (16, 37, .string ys), (17, 38, .pointer (some ⟨g, 0, none⟩)), (18, 39, .string s), (19, 40, .bool true), (20, 41, .bool true), (21, 42, .slice (some ⟨b, 0, none⟩) l.length c), (22, 43, .int .i64 (k : Int)), (23, 44, .pointer (some ⟨b, k * 2, none⟩)), (24, 45, .pointer (some ⟨b, k * 2 + 1, none⟩)), (25, 46, .int .i64 yx), (26, 47, .pointer (some ⟨g, 0 + 1, none⟩)), (27, 48, .int .i64 x), (28, 49, .bool true), (29, 50, .bool true), (30, 51, .bool true), (31, 52, .bool true)] []) (by kernel_rfl) rfl (JK.start _ _) ?hst96 ?hend96
              case hst96 =>
                have hok : okK [(0, 21, .bool false), (1, 22, .bool true), (2, 23, .bool true), (3, 24, .slice (some ⟨b, 0, none⟩) l.length c), (4, 25, .int .i64 (k : Int)), (5, 26, .pointer (some ⟨b, k * 2, none⟩)), (6, 27, .pointer (some ⟨b, k * 2, none⟩)), (7, 28, .string ys), (8, 29, .pointer (some ⟨g, 0, none⟩)), (9, 30, .string s), (10, 31, .bool false), (11, 32, .bool false), (12, 33, .slice (some ⟨b, 0, none⟩) l.length c), (13, 34, .int .i64 (k : Int)), (14, 35, .pointer (some ⟨b, k * 2, none⟩)), (15, 36, .pointer (some ⟨b, k * 2, none⟩)), (16, 37, .string ys), (17, 38, .pointer (some ⟨g, 0, none⟩)), (18, 39, .string s), (19, 40, .bool true), (20, 41, .bool true), (21, 42, .slice (some ⟨b, 0, none⟩) l.length c), (22, 43, .int .i64 (k : Int)), (23, 44, .pointer (some ⟨b, k * 2, none⟩)), (24, 45, .pointer (some ⟨b, k * 2 + 1, none⟩)), (25, 46, .int .i64 yx), (26, 47, .pointer (some ⟨g, 0 + 1, none⟩)), (27, 48, .int .i64 x), (28, 49, .bool true), (29, 50, .bool true), (30, 51, .bool true), (31, 52, .bool true)] [] = true := by kernel_rfl
                have hst : ∀ p ∈ ([] : List (Nat × Nat × (Value → World → Prop))), Stb p.2.2 := fun p hp => (by cases hp)
                refine ⟨?_, ?_, ?_, ?_, ?_, ?_, ?_, ?_, ?_, ?_, ?_, ?_, ?_, ?_, ?_, ?_, ?_, ?_, ?_, ?_, ?_, ?_, ?_, ?_, ?_, ?_, ?_, ?_, ?_, ?_, ?_, ?_, trivial⟩
                · rintro l gv W hun hdep hcl hJ hg ha hp
                  refine' op_val ?h65 ?hw65 ?hr65 ?hK65
                  case h65 => rfl
                  case hw65 => exact rfl
                  case hr65 => exact (ex_move rfl (eval_tmp ((ha 6 (by kernel_rfl)).trans rfl)))
                  case hK65 => exact ⟨_, hp 21 _ (by kernel_rfl), JK.made hok hst hJ (List.mem_of_getElem? (i := 0) rfl) (Below.refl _ _)⟩
                · rintro l gv W hun hdep hcl hJ hg ha hp
                  refine' op_val ?h66 ?hw66 ?hr66 ?hK66
                  case h66 => rfl
                  case hw66 => exact rfl
                  case hr66 => exact (ex_not rfl ((eval_tmp (hg 21 (by kernel_rfl))).trans (hJ.lit _ (List.mem_of_getElem? (i := 0) rfl) (hdep 0 (by kernel_rfl)))))
                  case hK66 => exact ⟨_, hp 22 _ (by kernel_rfl), JK.made hok hst hJ (List.mem_of_getElem? (i := 1) rfl) (Below.refl _ _)⟩
                · rintro l gv W hun hdep hcl hJ hg ha hp
                  refine' op_val ?h67 ?hw67 ?hr67 ?hK67
                  case h67 => rfl
                  case hw67 => exact rfl
                  case hr67 => exact (ex_move rfl ((eval_tmp (hg 22 (by kernel_rfl))).trans (hJ.lit _ (List.mem_of_getElem? (i := 1) rfl) (hdep 1 (by kernel_rfl)))))
                  case hK67 => exact ⟨_, hp 23 _ (by kernel_rfl), JK.made hok hst hJ (List.mem_of_getElem? (i := 2) rfl) (Below.refl _ _)⟩
                · rintro l gv W hun hdep hcl hJ hg ha hp
                  have eg : gv 23 = .bool true := hJ.lit _ (List.mem_of_getElem? (i := 2) rfl) (hdep 2 (by kernel_rfl))
                  have hgd := (hg 23 (by kernel_rfl)).trans (congrArg some eg)
                  refine' op_val ?h68 ?hw68 ?hr68 ?hK68
                  case h68 => rfl
                  case hw68 => exact (wants_yes true rfl (by kernel_rfl) hgd)
                  case hr68 => exact (ex_move rfl (eval_tmp ((ha 0 (by kernel_rfl)).trans rfl)))
                  case hK68 => exact ⟨_, hp 24 _ (by kernel_rfl), JK.made hok hst hJ (List.mem_of_getElem? (i := 3) rfl) (Below.refl _ _)⟩
                · rintro l gv W hun hdep hcl hJ hg ha hp
                  have eg : gv 23 = .bool true := hJ.lit _ (List.mem_of_getElem? (i := 2) rfl) (hdep 2 (by kernel_rfl))
                  have hgd := (hg 23 (by kernel_rfl)).trans (congrArg some eg)
                  refine' op_val ?h69 ?hw69 ?hr69 ?hK69
                  case h69 => rfl
                  case hw69 => exact (wants_yes true rfl (by kernel_rfl) hgd)
                  case hr69 => exact (ex_move rfl (eval_tmp ((ha 7 (by kernel_rfl)).trans rfl)))
                  case hK69 => exact ⟨_, hp 25 _ (by kernel_rfl), JK.made hok hst hJ (List.mem_of_getElem? (i := 4) rfl) (Below.refl _ _)⟩
                · rintro l gv W hun hdep hcl hJ hg ha hp
                  have eg : gv 23 = .bool true := hJ.lit _ (List.mem_of_getElem? (i := 2) rfl) (hdep 2 (by kernel_rfl))
                  have hgd := (hg 23 (by kernel_rfl)).trans (congrArg some eg)
                  refine' op_val ?h70 ?hw70 ?hr70 ?hK70
                  case h70 => rfl
                  case hw70 => exact (wants_yes true rfl (by kernel_rfl) hgd)
                  case hr70 => exact (ex_indexAddr rfl ((eval_tmp (hg 24 (by kernel_rfl))).trans (hJ.lit _ (List.mem_of_getElem? (i := 3) rfl) (hdep 3 (by kernel_rfl)))) ((eval_tmp (hg 25 (by kernel_rfl))).trans (hJ.lit _ (List.mem_of_getElem? (i := 4) rfl) (hdep 4 (by kernel_rfl)))) (ix42 hkl))
                  case hK70 => exact ⟨_, hp 26 _ (by kernel_rfl), JK.made hok hst hJ (List.mem_of_getElem? (i := 5) rfl) (Below.refl _ _)⟩
                · rintro l gv W hun hdep hcl hJ hg ha hp
                  have eg : gv 23 = .bool true := hJ.lit _ (List.mem_of_getElem? (i := 2) rfl) (hdep 2 (by kernel_rfl))
                  have hgd := (hg 23 (by kernel_rfl)).trans (congrArg some eg)
                  refine' op_val ?h71 ?hw71 ?hr71 ?hK71
                  case h71 => rfl
                  case hw71 => exact (wants_yes true rfl (by kernel_rfl) hgd)
                  case hr71 => exact (ex_field rfl ((eval_tmp (hg 26 (by kernel_rfl))).trans (hJ.lit _ (List.mem_of_getElem? (i := 5) rfl) (hdep 5 (by kernel_rfl)))) fld0)
                  case hK71 => exact ⟨_, hp 27 _ (by kernel_rfl), JK.made hok hst hJ (List.mem_of_getElem? (i := 6) rfl) (Below.refl _ _)⟩
                · rintro l gv W hun hdep hcl hJ hg ha hp
                  have eg : gv 23 = .bool true := hJ.lit _ (List.mem_of_getElem? (i := 2) rfl) (hdep 2 (by kernel_rfl))
                  have hgd := (hg 23 (by kernel_rfl)).trans (congrArg some eg)
                  refine' op_val ?h72 ?hw72 ?hr72 ?hK72
                  case h72 => rfl
                  case hw72 => exact (wants_yes true rfl (by kernel_rfl) hgd)
                  case hr72 => exact (ex_load rfl ((eval_tmp (hg 27 (by kernel_rfl))).trans (hJ.lit _ (List.mem_of_getElem? (i := 6) rfl) (hdep 6 (by kernel_rfl)))) (ld9 (cell_below hJ.low d0)))
                  case hK72 => exact ⟨_, hp 28 _ (by kernel_rfl), JK.made hok hst hJ (List.mem_of_getElem? (i := 7) rfl) (Below.refl _ _)⟩
                · rintro l gv W hun hdep hcl hJ hg ha hp
                  have eg : gv 23 = .bool true := hJ.lit _ (List.mem_of_getElem? (i := 2) rfl) (hdep 2 (by kernel_rfl))
                  have hgd := (hg 23 (by kernel_rfl)).trans (congrArg some eg)
                  refine' op_val ?h73 ?hw73 ?hr73 ?hK73
                  case h73 => rfl
                  case hw73 => exact (wants_yes true rfl (by kernel_rfl) hgd)
                  case hr73 => exact (ex_field rfl (eval_tmp ((ha 3 (by kernel_rfl)).trans rfl)) fld0)
                  case hK73 => exact ⟨_, hp 29 _ (by kernel_rfl), JK.made hok hst hJ (List.mem_of_getElem? (i := 8) rfl) (Below.refl _ _)⟩
                · rintro l gv W hun hdep hcl hJ hg ha hp
                  have eg : gv 23 = .bool true := hJ.lit _ (List.mem_of_getElem? (i := 2) rfl) (hdep 2 (by kernel_rfl))
                  have hgd := (hg 23 (by kernel_rfl)).trans (congrArg some eg)
                  refine' op_val ?h74 ?hw74 ?hr74 ?hK74
                  case h74 => rfl
                  case hw74 => exact (wants_yes true rfl (by kernel_rfl) hgd)
                  case hr74 => exact (ex_load rfl ((eval_tmp (hg 29 (by kernel_rfl))).trans (hJ.lit _ (List.mem_of_getElem? (i := 8) rfl) (hdep 8 (by kernel_rfl)))) (ld9 (cell_below hJ.low c0)))
                  case hK74 => exact ⟨_, hp 30 _ (by kernel_rfl), JK.made hok hst hJ (List.mem_of_getElem? (i := 9) rfl) (Below.refl _ _)⟩
                · rintro l gv W hun hdep hcl hJ hg ha hp
                  have eg : gv 23 = .bool true := hJ.lit _ (List.mem_of_getElem? (i := 2) rfl) (hdep 2 (by kernel_rfl))
                  have hgd := (hg 23 (by kernel_rfl)).trans (congrArg some eg)
                  refine' op_val ?h75 ?hw75 ?hr75 ?hK75
                  case h75 => rfl
                  case hw75 => exact (wants_yes true rfl (by kernel_rfl) hgd)
                  case hr75 => exact (ex_bin rfl ((eval_tmp (hg 28 (by kernel_rfl))).trans (hJ.lit _ (List.mem_of_getElem? (i := 7) rfl) (hdep 7 (by kernel_rfl)))) ((eval_tmp (hg 30 (by kernel_rfl))).trans (hJ.lit _ (List.mem_of_getElem? (i := 9) rfl) (hdep 9 (by kernel_rfl)))) (guard_str _ _ _ _ _ W) (gtr9 hlt))
                  case hK75 => exact ⟨_, hp 31 _ (by kernel_rfl), JK.made hok hst hJ (List.mem_of_getElem? (i := 10) rfl) (Below.refl _ _)⟩
                · rintro l gv W hun hdep hcl hJ hg ha hp
                  have eg : gv 23 = .bool true := hJ.lit _ (List.mem_of_getElem? (i := 2) rfl) (hdep 2 (by kernel_rfl))
                  have hgd := (hg 23 (by kernel_rfl)).trans (congrArg some eg)
                  refine' op_val ?h76 ?hw76 ?hr76 ?hK76
                  case h76 => rfl
                  case hw76 => exact (wants_yes true rfl (by kernel_rfl) hgd)
                  case hr76 => exact (ex_move rfl ((eval_tmp (hg 31 (by kernel_rfl))).trans (hJ.lit _ (List.mem_of_getElem? (i := 10) rfl) (hdep 10 (by kernel_rfl)))))
                  case hK76 => exact ⟨_, hp 32 _ (by kernel_rfl), JK.made hok hst hJ (List.mem_of_getElem? (i := 11) rfl) (Below.refl _ _)⟩
                · rintro l gv W hun hdep hcl hJ hg ha hp
                  have eg : gv 32 = .bool false := hJ.lit _ (List.mem_of_getElem? (i := 11) rfl) (hdep 11 (by kernel_rfl))
                  have hgd := (hg 32 (by kernel_rfl)).trans (congrArg some eg)
                  refine' op_val ?h77 ?hw77 ?hr77 ?hK77
                  case h77 => rfl
                  case hw77 => exact (wants_yes false rfl (by kernel_rfl) hgd)
                  case hr77 => exact (ex_move rfl (eval_tmp ((ha 0 (by kernel_rfl)).trans rfl)))
                  case hK77 => exact ⟨_, hp 33 _ (by kernel_rfl), JK.made hok hst hJ (List.mem_of_getElem? (i := 12) rfl) (Below.refl _ _)⟩
                · rintro l gv W hun hdep hcl hJ hg ha hp
                  have eg : gv 32 = .bool false := hJ.lit _ (List.mem_of_getElem? (i := 11) rfl) (hdep 11 (by kernel_rfl))
                  have hgd := (hg 32 (by kernel_rfl)).trans (congrArg some eg)
                  refine' op_val ?h78 ?hw78 ?hr78 ?hK78
                  case h78 => rfl
                  case hw78 => exact (wants_yes false rfl (by kernel_rfl) hgd)
                  case hr78 => exact (ex_move rfl (eval_tmp ((ha 7 (by kernel_rfl)).trans rfl)))
                  case hK78 => exact ⟨_, hp 34 _ (by kernel_rfl), JK.made hok hst hJ (List.mem_of_getElem? (i := 13) rfl) (Below.refl _ _)⟩
                · rintro l gv W hun hdep hcl hJ hg ha hp
                  have eg : gv 32 = .bool false := hJ.lit _ (List.mem_of_getElem? (i := 11) rfl) (hdep 11 (by kernel_rfl))
                  have hgd := (hg 32 (by kernel_rfl)).trans (congrArg some eg)
                  refine' op_val ?h79 ?hw79 ?hr79 ?hK79
                  case h79 => rfl
                  case hw79 => exact (wants_yes false rfl (by kernel_rfl) hgd)
                  case hr79 => exact (ex_indexAddr rfl ((eval_tmp (hg 33 (by kernel_rfl))).trans (hJ.lit _ (List.mem_of_getElem? (i := 12) rfl) (hdep 12 (by kernel_rfl)))) ((eval_tmp (hg 34 (by kernel_rfl))).trans (hJ.lit _ (List.mem_of_getElem? (i := 13) rfl) (hdep 13 (by kernel_rfl)))) (ix42 hkl))
                  case hK79 => exact ⟨_, hp 35 _ (by kernel_rfl), JK.made hok hst hJ (List.mem_of_getElem? (i := 14) rfl) (Below.refl _ _)⟩
                · rintro l gv W hun hdep hcl hJ hg ha hp
                  have eg : gv 32 = .bool false := hJ.lit _ (List.mem_of_getElem? (i := 11) rfl) (hdep 11 (by kernel_rfl))
                  have hgd := (hg 32 (by kernel_rfl)).trans (congrArg some eg)
                  refine' op_val ?h80 ?hw80 ?hr80 ?hK80
                  case h80 => rfl
                  case hw80 => exact (wants_yes false rfl (by kernel_rfl) hgd)
                  case hr80 => exact (ex_field rfl ((eval_tmp (hg 35 (by kernel_rfl))).trans (hJ.lit _ (List.mem_of_getElem? (i := 14) rfl) (hdep 14 (by kernel_rfl)))) fld0)
                  case hK80 => exact ⟨_, hp 36 _ (by kernel_rfl), JK.made hok hst hJ (List.mem_of_getElem? (i := 15) rfl) (Below.refl _ _)⟩
                · rintro l gv W hun hdep hcl hJ hg ha hp
                  have eg : gv 32 = .bool false := hJ.lit _ (List.mem_of_getElem? (i := 11) rfl) (hdep 11 (by kernel_rfl))
                  have hgd := (hg 32 (by kernel_rfl)).trans (congrArg some eg)
                  refine' op_val ?h81 ?hw81 ?hr81 ?hK81
                  case h81 => rfl
                  case hw81 => exact (wants_yes false rfl (by kernel_rfl) hgd)
                  case hr81 => exact (ex_load rfl ((eval_tmp (hg 36 (by kernel_rfl))).trans (hJ.lit _ (List.mem_of_getElem? (i := 15) rfl) (hdep 15 (by kernel_rfl)))) (ld9 (cell_below hJ.low d0)))
                  case hK81 => exact ⟨_, hp 37 _ (by kernel_rfl), JK.made hok hst hJ (List.mem_of_getElem? (i := 16) rfl) (Below.refl _ _)⟩
                · rintro l gv W hun hdep hcl hJ hg ha hp
                  have eg : gv 32 = .bool false := hJ.lit _ (List.mem_of_getElem? (i := 11) rfl) (hdep 11 (by kernel_rfl))
                  have hgd := (hg 32 (by kernel_rfl)).trans (congrArg some eg)
                  refine' op_val ?h82 ?hw82 ?hr82 ?hK82
                  case h82 => rfl
                  case hw82 => exact (wants_yes false rfl (by kernel_rfl) hgd)
                  case hr82 => exact (ex_field rfl (eval_tmp ((ha 3 (by kernel_rfl)).trans rfl)) fld0)
                  case hK82 => exact ⟨_, hp 38 _ (by kernel_rfl), JK.made hok hst hJ (List.mem_of_getElem? (i := 17) rfl) (Below.refl _ _)⟩
                · rintro l gv W hun hdep hcl hJ hg ha hp
                  have eg : gv 32 = .bool false := hJ.lit _ (List.mem_of_getElem? (i := 11) rfl) (hdep 11 (by kernel_rfl))
                  have hgd := (hg 32 (by kernel_rfl)).trans (congrArg some eg)
                  refine' op_val ?h83 ?hw83 ?hr83 ?hK83
                  case h83 => rfl
                  case hw83 => exact (wants_yes false rfl (by kernel_rfl) hgd)
                  case hr83 => exact (ex_load rfl ((eval_tmp (hg 38 (by kernel_rfl))).trans (hJ.lit _ (List.mem_of_getElem? (i := 17) rfl) (hdep 17 (by kernel_rfl)))) (ld9 (cell_below hJ.low c0)))
                  case hK83 => exact ⟨_, hp 39 _ (by kernel_rfl), JK.made hok hst hJ (List.mem_of_getElem? (i := 18) rfl) (Below.refl _ _)⟩
                · rintro l gv W hun hdep hcl hJ hg ha hp
                  have eg : gv 32 = .bool false := hJ.lit _ (List.mem_of_getElem? (i := 11) rfl) (hdep 11 (by kernel_rfl))
                  have hgd := (hg 32 (by kernel_rfl)).trans (congrArg some eg)
                  refine' op_val ?h84 ?hw84 ?hr84 ?hK84
                  case h84 => rfl
                  case hw84 => exact (wants_yes false rfl (by kernel_rfl) hgd)
                  case hr84 => exact (ex_bin rfl ((eval_tmp (hg 37 (by kernel_rfl))).trans (hJ.lit _ (List.mem_of_getElem? (i := 16) rfl) (hdep 16 (by kernel_rfl)))) ((eval_tmp (hg 39 (by kernel_rfl))).trans (hJ.lit _ (List.mem_of_getElem? (i := 18) rfl) (hdep 18 (by kernel_rfl)))) (guard_str _ _ _ _ _ W) (eql9 hs1))
                  case hK84 => exact ⟨_, hp 40 _ (by kernel_rfl), JK.made hok hst hJ (List.mem_of_getElem? (i := 19) rfl) (Below.refl _ _)⟩
                · rintro l gv W hun hdep hcl hJ hg ha hp
                  have eg : gv 32 = .bool false := hJ.lit _ (List.mem_of_getElem? (i := 11) rfl) (hdep 11 (by kernel_rfl))
                  have hgd := (hg 32 (by kernel_rfl)).trans (congrArg some eg)
                  refine' op_val ?h85 ?hw85 ?hr85 ?hK85
                  case h85 => rfl
                  case hw85 => exact (wants_yes false rfl (by kernel_rfl) hgd)
                  case hr85 => exact (ex_move rfl ((eval_tmp (hg 40 (by kernel_rfl))).trans (hJ.lit _ (List.mem_of_getElem? (i := 19) rfl) (hdep 19 (by kernel_rfl)))))
                  case hK85 => exact ⟨_, hp 41 _ (by kernel_rfl), JK.made hok hst hJ (List.mem_of_getElem? (i := 20) rfl) (Below.refl _ _)⟩
                · rintro l gv W hun hdep hcl hJ hg ha hp
                  have eg : gv 41 = .bool true := hJ.lit _ (List.mem_of_getElem? (i := 20) rfl) (hdep 20 (by kernel_rfl))
                  have hgd := (hg 41 (by kernel_rfl)).trans (congrArg some eg)
                  refine' op_val ?h86 ?hw86 ?hr86 ?hK86
                  case h86 => rfl
                  case hw86 => exact (wants_yes true rfl (by kernel_rfl) hgd)
                  case hr86 => exact (ex_move rfl (eval_tmp ((ha 0 (by kernel_rfl)).trans rfl)))
                  case hK86 => exact ⟨_, hp 42 _ (by kernel_rfl), JK.made hok hst hJ (List.mem_of_getElem? (i := 21) rfl) (Below.refl _ _)⟩
                · rintro l gv W hun hdep hcl hJ hg ha hp
                  have eg : gv 41 = .bool true := hJ.lit _ (List.mem_of_getElem? (i := 20) rfl) (hdep 20 (by kernel_rfl))
                  have hgd := (hg 41 (by kernel_rfl)).trans (congrArg some eg)
                  refine' op_val ?h87 ?hw87 ?hr87 ?hK87
                  case h87 => rfl
                  case hw87 => exact (wants_yes true rfl (by kernel_rfl) hgd)
                  case hr87 => exact (ex_move rfl (eval_tmp ((ha 7 (by kernel_rfl)).trans rfl)))
                  case hK87 => exact ⟨_, hp 43 _ (by kernel_rfl), JK.made hok hst hJ (List.mem_of_getElem? (i := 22) rfl) (Below.refl _ _)⟩
                · rintro l gv W hun hdep hcl hJ hg ha hp
                  have eg : gv 41 = .bool true := hJ.lit _ (List.mem_of_getElem? (i := 20) rfl) (hdep 20 (by kernel_rfl))
                  have hgd := (hg 41 (by kernel_rfl)).trans (congrArg some eg)
                  refine' op_val ?h88 ?hw88 ?hr88 ?hK88
                  case h88 => rfl
                  case hw88 => exact (wants_yes true rfl (by kernel_rfl) hgd)
                  case hr88 => exact (ex_indexAddr rfl ((eval_tmp (hg 42 (by kernel_rfl))).trans (hJ.lit _ (List.mem_of_getElem? (i := 21) rfl) (hdep 21 (by kernel_rfl)))) ((eval_tmp (hg 43 (by kernel_rfl))).trans (hJ.lit _ (List.mem_of_getElem? (i := 22) rfl) (hdep 22 (by kernel_rfl)))) (ix42 hkl))
                  case hK88 => exact ⟨_, hp 44 _ (by kernel_rfl), JK.made hok hst hJ (List.mem_of_getElem? (i := 23) rfl) (Below.refl _ _)⟩
                · rintro l gv W hun hdep hcl hJ hg ha hp
                  have eg : gv 41 = .bool true := hJ.lit _ (List.mem_of_getElem? (i := 20) rfl) (hdep 20 (by kernel_rfl))
                  have hgd := (hg 41 (by kernel_rfl)).trans (congrArg some eg)
                  refine' op_val ?h89 ?hw89 ?hr89 ?hK89
                  case h89 => rfl
                  case hw89 => exact (wants_yes true rfl (by kernel_rfl) hgd)
                  case hr89 => exact (ex_field rfl ((eval_tmp (hg 44 (by kernel_rfl))).trans (hJ.lit _ (List.mem_of_getElem? (i := 23) rfl) (hdep 23 (by kernel_rfl)))) fld1)
                  case hK89 => exact ⟨_, hp 45 _ (by kernel_rfl), JK.made hok hst hJ (List.mem_of_getElem? (i := 24) rfl) (Below.refl _ _)⟩
                · rintro l gv W hun hdep hcl hJ hg ha hp
                  have eg : gv 41 = .bool true := hJ.lit _ (List.mem_of_getElem? (i := 20) rfl) (hdep 20 (by kernel_rfl))
                  have hgd := (hg 41 (by kernel_rfl)).trans (congrArg some eg)
                  refine' op_val ?h90 ?hw90 ?hr90 ?hK90
                  case h90 => rfl
                  case hw90 => exact (wants_yes true rfl (by kernel_rfl) hgd)
                  case hr90 => exact (ex_load rfl ((eval_tmp (hg 45 (by kernel_rfl))).trans (hJ.lit _ (List.mem_of_getElem? (i := 24) rfl) (hdep 24 (by kernel_rfl)))) (ld3 (cell_below hJ.low d1)))
                  case hK90 => exact ⟨_, hp 46 _ (by kernel_rfl), JK.made hok hst hJ (List.mem_of_getElem? (i := 25) rfl) (Below.refl _ _)⟩
                · rintro l gv W hun hdep hcl hJ hg ha hp
                  have eg : gv 41 = .bool true := hJ.lit _ (List.mem_of_getElem? (i := 20) rfl) (hdep 20 (by kernel_rfl))
                  have hgd := (hg 41 (by kernel_rfl)).trans (congrArg some eg)
                  refine' op_val ?h91 ?hw91 ?hr91 ?hK91
                  case h91 => rfl
                  case hw91 => exact (wants_yes true rfl (by kernel_rfl) hgd)
                  case hr91 => exact (ex_field rfl (eval_tmp ((ha 3 (by kernel_rfl)).trans rfl)) fld1)
                  case hK91 => exact ⟨_, hp 47 _ (by kernel_rfl), JK.made hok hst hJ (List.mem_of_getElem? (i := 26) rfl) (Below.refl _ _)⟩
                · rintro l gv W hun hdep hcl hJ hg ha hp
                  have eg : gv 41 = .bool true := hJ.lit _ (List.mem_of_getElem? (i := 20) rfl) (hdep 20 (by kernel_rfl))
                  have hgd := (hg 41 (by kernel_rfl)).trans (congrArg some eg)
                  refine' op_val ?h92 ?hw92 ?hr92 ?hK92
                  case h92 => rfl
                  case hw92 => exact (wants_yes true rfl (by kernel_rfl) hgd)
                  case hr92 => exact (ex_load rfl ((eval_tmp (hg 47 (by kernel_rfl))).trans (hJ.lit _ (List.mem_of_getElem? (i := 26) rfl) (hdep 26 (by kernel_rfl)))) (ld3 (cell_below hJ.low c1)))
                  case hK92 => exact ⟨_, hp 48 _ (by kernel_rfl), JK.made hok hst hJ (List.mem_of_getElem? (i := 27) rfl) (Below.refl _ _)⟩
                · rintro l gv W hun hdep hcl hJ hg ha hp
                  have eg : gv 41 = .bool true := hJ.lit _ (List.mem_of_getElem? (i := 20) rfl) (hdep 20 (by kernel_rfl))
                  have hgd := (hg 41 (by kernel_rfl)).trans (congrArg some eg)
                  refine' op_val ?h93 ?hw93 ?hr93 ?hK93
                  case h93 => rfl
                  case hw93 => exact (wants_yes true rfl (by kernel_rfl) hgd)
                  case hr93 => exact (ex_bin rfl ((eval_tmp (hg 46 (by kernel_rfl))).trans (hJ.lit _ (List.mem_of_getElem? (i := 25) rfl) (hdep 25 (by kernel_rfl)))) ((eval_tmp (hg 48 (by kernel_rfl))).trans (hJ.lit _ (List.mem_of_getElem? (i := 27) rfl) (hdep 27 (by kernel_rfl)))) (grd3 _ _ _ _ W) (gtr3 hxx))
                  case hK93 => exact ⟨_, hp 49 _ (by kernel_rfl), JK.made hok hst hJ (List.mem_of_getElem? (i := 28) rfl) (Below.refl _ _)⟩
                · rintro l gv W hun hdep hcl hJ hg ha hp
                  have eg : gv 32 = .bool false := hJ.lit _ (List.mem_of_getElem? (i := 11) rfl) (hdep 11 (by kernel_rfl))
                  have hgd := (hg 32 (by kernel_rfl)).trans (congrArg some eg)
                  refine' op_val ?h94 ?hw94 ?hr94 ?hK94
                  case h94 => rfl
                  case hw94 => exact (wants_yes false rfl (by kernel_rfl) hgd)
                  case hr94 => exact (ex_pick rfl ((eval_tmp (hg 41 (by kernel_rfl))).trans (hJ.lit _ (List.mem_of_getElem? (i := 20) rfl) (hdep 20 (by kernel_rfl)))) ((eval_tmp (hg 49 (by kernel_rfl))).trans (hJ.lit _ (List.mem_of_getElem? (i := 28) rfl) (hdep 28 (by kernel_rfl)))))
                  case hK94 => exact ⟨_, hp 50 _ (by kernel_rfl), JK.made hok hst hJ (List.mem_of_getElem? (i := 29) rfl) (Below.refl _ _)⟩
                · rintro l gv W hun hdep hcl hJ hg ha hp
                  have eg : gv 23 = .bool true := hJ.lit _ (List.mem_of_getElem? (i := 2) rfl) (hdep 2 (by kernel_rfl))
                  have hgd := (hg 23 (by kernel_rfl)).trans (congrArg some eg)
                  refine' op_val ?h95 ?hw95 ?hr95 ?hK95
                  case h95 => rfl
                  case hw95 => exact (wants_yes true rfl (by kernel_rfl) hgd)
                  case hr95 => exact (ex_pickF rfl ((eval_tmp (hg 32 (by kernel_rfl))).trans (hJ.lit _ (List.mem_of_getElem? (i := 11) rfl) (hdep 11 (by kernel_rfl)))) ((eval_tmp (hg 50 (by kernel_rfl))).trans (hJ.lit _ (List.mem_of_getElem? (i := 29) rfl) (hdep 29 (by kernel_rfl)))))
                  case hK95 => exact ⟨_, hp 51 _ (by kernel_rfl), JK.made hok hst hJ (List.mem_of_getElem? (i := 30) rfl) (Below.refl _ _)⟩
                · rintro l gv W hun hdep hcl hJ hg ha hp
                  refine' op_val ?h96 ?hw96 ?hr96 ?hK96
                  case h96 => rfl
                  case hw96 => exact rfl
                  case hr96 => exact (ex_pick rfl ((eval_tmp (hg 23 (by kernel_rfl))).trans (hJ.lit _ (List.mem_of_getElem? (i := 2) rfl) (hdep 2 (by kernel_rfl)))) ((eval_tmp (hg 51 (by kernel_rfl))).trans (hJ.lit _ (List.mem_of_getElem? (i := 30) rfl) (hdep 30 (by kernel_rfl)))))
                  case hK96 => exact ⟨_, hp 52 _ (by kernel_rfl), JK.made hok hst hJ (List.mem_of_getElem? (i := 31) rfl) (Below.refl _ _)⟩
              case hend96 =>
                rintro ll gv W9 hl hJ
                have e21 : gv 21 = .bool false := hJ.lit _ (List.mem_of_getElem? (i := 0) rfl) (hl 0 (of_decide_eq_true (by kernel_rfl)))
                have e22 : gv 22 = .bool true := hJ.lit _ (List.mem_of_getElem? (i := 1) rfl) (hl 1 (of_decide_eq_true (by kernel_rfl)))
                have e23 : gv 23 = .bool true := hJ.lit _ (List.mem_of_getElem? (i := 2) rfl) (hl 2 (of_decide_eq_true (by kernel_rfl)))
                have e24 : gv 24 = .slice (some ⟨b, 0, none⟩) l.length c := hJ.lit _ (List.mem_of_getElem? (i := 3) rfl) (hl 3 (of_decide_eq_true (by kernel_rfl)))
                have e25 : gv 25 = .int .i64 (k : Int) := hJ.lit _ (List.mem_of_getElem? (i := 4) rfl) (hl 4 (of_decide_eq_true (by kernel_rfl)))
                have e26 : gv 26 = .pointer (some ⟨b, k * 2, none⟩) := hJ.lit _ (List.mem_of_getElem? (i := 5) rfl) (hl 5 (of_decide_eq_true (by kernel_rfl)))
                have e27 : gv 27 = .pointer (some ⟨b, k * 2, none⟩) := hJ.lit _ (List.mem_of_getElem? (i := 6) rfl) (hl 6 (of_decide_eq_true (by kernel_rfl)))
                have e28 : gv 28 = .string ys := hJ.lit _ (List.mem_of_getElem? (i := 7) rfl) (hl 7 (of_decide_eq_true (by kernel_rfl)))
                have e29 : gv 29 = .pointer (some ⟨g, 0, none⟩) := hJ.lit _ (List.mem_of_getElem? (i := 8) rfl) (hl 8 (of_decide_eq_true (by kernel_rfl)))
                have e30 : gv 30 = .string s := hJ.lit _ (List.mem_of_getElem? (i := 9) rfl) (hl 9 (of_decide_eq_true (by kernel_rfl)))
                have e31 : gv 31 = .bool false := hJ.lit _ (List.mem_of_getElem? (i := 10) rfl) (hl 10 (of_decide_eq_true (by kernel_rfl)))
                have e32 : gv 32 = .bool false := hJ.lit _ (List.mem_of_getElem? (i := 11) rfl) (hl 11 (of_decide_eq_true (by kernel_rfl)))
                have e33 : gv 33 = .slice (some ⟨b, 0, none⟩) l.length c := hJ.lit _ (List.mem_of_getElem? (i := 12) rfl) (hl 12 (of_decide_eq_true (by kernel_rfl)))
                have e34 : gv 34 = .int .i64 (k : Int) := hJ.lit _ (List.mem_of_getElem? (i := 13) rfl) (hl 13 (of_decide_eq_true (by kernel_rfl)))
                have e35 : gv 35 = .pointer (some ⟨b, k * 2, none⟩) := hJ.lit _ (List.mem_of_getElem? (i := 14) rfl) (hl 14 (of_decide_eq_true (by kernel_rfl)))
                have e36 : gv 36 = .pointer (some ⟨b, k * 2, none⟩) := hJ.lit _ (List.mem_of_getElem? (i := 15) rfl) (hl 15 (of_decide_eq_true (by kernel_rfl)))
                have e37 : gv 37 = .string ys := hJ.lit _ (List.mem_of_getElem? (i := 16) rfl) (hl 16 (of_decide_eq_true (by kernel_rfl)))
                have e38 : gv 38 = .pointer (some ⟨g, 0, none⟩) := hJ.lit _ (List.mem_of_getElem? (i := 17) rfl) (hl 17 (of_decide_eq_true (by kernel_rfl)))
                have e39 : gv 39 = .string s := hJ.lit _ (List.mem_of_getElem? (i := 18) rfl) (hl 18 (of_decide_eq_true (by kernel_rfl)))
                have e40 : gv 40 = .bool true := hJ.lit _ (List.mem_of_getElem? (i := 19) rfl) (hl 19 (of_decide_eq_true (by kernel_rfl)))
                have e41 : gv 41 = .bool true := hJ.lit _ (List.mem_of_getElem? (i := 20) rfl) (hl 20 (of_decide_eq_true (by kernel_rfl)))
                have e42 : gv 42 = .slice (some ⟨b, 0, none⟩) l.length c := hJ.lit _ (List.mem_of_getElem? (i := 21) rfl) (hl 21 (of_decide_eq_true (by kernel_rfl)))
                have e43 : gv 43 = .int .i64 (k : Int) := hJ.lit _ (List.mem_of_getElem? (i := 22) rfl) (hl 22 (of_decide_eq_true (by kernel_rfl)))
                have e44 : gv 44 = .pointer (some ⟨b, k * 2, none⟩) := hJ.lit _ (List.mem_of_getElem? (i := 23) rfl) (hl 23 (of_decide_eq_true (by kernel_rfl)))
                have e45 : gv 45 = .pointer (some ⟨b, k * 2 + 1, none⟩) := hJ.lit _ (List.mem_of_getElem? (i := 24) rfl) (hl 24 (of_decide_eq_true (by kernel_rfl)))
                have e46 : gv 46 = .int .i64 yx := hJ.lit _ (List.mem_of_getElem? (i := 25) rfl) (hl 25 (of_decide_eq_true (by kernel_rfl)))
                have e47 : gv 47 = .pointer (some ⟨g, 0 + 1, none⟩) := hJ.lit _ (List.mem_of_getElem? (i := 26) rfl) (hl 26 (of_decide_eq_true (by kernel_rfl)))
                have e48 : gv 48 = .int .i64 x := hJ.lit _ (List.mem_of_getElem? (i := 27) rfl) (hl 27 (of_decide_eq_true (by kernel_rfl)))
                have e49 : gv 49 = .bool true := hJ.lit _ (List.mem_of_getElem? (i := 28) rfl) (hl 28 (of_decide_eq_true (by kernel_rfl)))
                have e50 : gv 50 = .bool true := hJ.lit _ (List.mem_of_getElem? (i := 29) rfl) (hl 29 (of_decide_eq_true (by kernel_rfl)))
                have e51 : gv 51 = .bool true := hJ.lit _ (List.mem_of_getElem? (i := 30) rfl) (hl 30 (of_decide_eq_true (by kernel_rfl)))
                have e52 : gv 52 = .bool true := hJ.lit _ (List.mem_of_getElem? (i := 31) rfl) (hl 31 (of_decide_eq_true (by kernel_rfl)))
                simp only [zipV, List.map_cons, List.map_nil, puts, Act.put, List.setIfInBounds_toArray, List.set_cons_succ, List.set_cons_zero, e21, e22, e23, e24, e25, e26, e27, e28, e29, e30, e31, e32, e33, e34, e35, e36, e37, e38, e39, e40, e41, e42, e43, e44, e45, e46, e47, e48, e49, e50, e51, e52]
                have hlow := Lib.hid hJ.low
                clear e21 e22 e23 e24 e25 e26 e27 e28 e29 e30 e31 e32 e33 e34 e35 e36 e37 e38 e39 e40 e41 e42 e43 e44 e45 e46 e47 e48 e49 e50 e51 e52 hJ hl
                obtain ⟨w8, hw8⟩ : ∃ w8, W9 = w8 := ⟨_, rfl⟩
                rw [hw8] at hlow ⊢
                clear hw8 d0 d1 c0 c1
                have hB := Lib.hid (show Below W1.heap.size W1 w8 from bel_step hlow6.out hlow.out)
                have hO := Lib.hid (show w8.ownsRow W1.heap.size 84 2 u5 q.length (flat q) from owns_below (bel_step (bel_drew wr) hlow.out) hownh.out)
                have c0 := cell_below hB.out hc0h.out
                have c1 := cell_below hB.out hc1h.out
                have d0 := cell_below hB.out z0h.out
                have d1 := cell_below hB.out z1h.out
                clear hlow hlow6 hownh
                have hbl := bel_laid w8 (.cells #[.string s, .int .i64 x] 84)
                have hoh := Lib.hid (owns_below hbl hO.out)
                have hlt2 : ∀ g', u5.ownBlock = some g' → W1.heap.size ≤ g' ∧ g' < (w8.alloc (.cells #[.string s, .int .i64 x] 84)).heap.size := hoh.out.lt
                have hb4h := Lib.hid (bel_step hB.out hbl)
                have hszv : W1.heap.size ≤ w8.heap.size := hB.out.size
                clear hbl hO hB
                go_wp2_with (at_builtin; refine wpList_append_own_at _ rfl _ _ 42 rfl W1.heap.size 84 i0 (.agg #[.string ⟨#[]⟩, .int .i64 0]) 2 24 Tryz.underlying42 hi hz0 hz1 hz2 rfl (by decide) _ _ _ rfl hoh.out ⟨w8.heap.size, 0, none⟩ 1 1 [.string s, .int .i64 x] rfl rfl ?c3_1 ?c3_2 ?c3_3 ?c3_4 ?c3_5 ?_)
                (try case c3_1 => intro j u hu; rw [Addr.add_lit, Nat.zero_add, World.cell?_alloc_new]; simpa using hu)
                case c3_2 => first | exact ⟨rfl, rfl⟩ | (intro u hu; simp at hu; rcases hu with rfl | rfl <;> rfl)
                case c3_3 => unfold maxLen; omega
                case c3_4 => omega
                case c3_5 => first | omega | (rw [World.size_alloc]; omega)
                intro vv w10 hown1 hgrow _ hob
                have hB := Lib.hid (show Below W1.heap.size W1 w10 from hb4h.out.grown hgrow hb4h.out.size (fun g' e => (hlt2 g' e).1))
                have hO := Lib.hid (show w10.ownsRow W1.heap.size 84 2 vv (q ++ [(s, x)]).length (flat (q ++ [(s, x)])) by rw [flat_snoc]; simp only [List.length_append, List.length_cons, List.length_nil, Nat.zero_add]; exact hown1)
                clear hown1 hgrow hob hoh hlt2 hb4h hszv
                clear c0 c1 d0 d1
                have c0 := cell_below hB.out hc0h.out
                have c1 := cell_below hB.out hc1h.out
                have d0 := cell_below hB.out z0h.out
                have d1 := cell_below hB.out z1h.out
                obtain ⟨o2, ho2⟩ : ∃ o2, vv = o2 := ⟨_, rfl⟩
                rw [ho2] at hO ⊢
                clear ho2
                have hq2 : (q ++ [(s, x)]).length ≤ k + 1 := by rw [(hpfh.out (by trivial)).2, List.length_append, hk]; simp
                have hbl := bel_laid w10 (.cells #[.string ys, .int .i64 yx] 84)
                have hoh := Lib.hid (owns_below hbl hO.out)
                have hlt2 : ∀ g', o2.ownBlock = some g' → W1.heap.size ≤ g' ∧ g' < (w10.alloc (.cells #[.string ys, .int .i64 yx] 84)).heap.size := hoh.out.lt
                have hb4h := Lib.hid (bel_step hB.out hbl)
                have hszv : W1.heap.size ≤ w10.heap.size := hB.out.size
                clear hbl hO hB
                go_wp2_with (at_builtin; refine wpList_append_own_at _ rfl _ _ 42 rfl W1.heap.size 84 i0 (.agg #[.string ⟨#[]⟩, .int .i64 0]) 2 24 Tryz.underlying42 hi hz0 hz1 hz2 rfl (by decide) _ _ _ rfl hoh.out ⟨w10.heap.size, 0, none⟩ 1 1 [.string ys, .int .i64 yx] rfl rfl ?c4_1 ?c4_2 ?c4_3 ?c4_4 ?c4_5 ?_)
                (try case c4_1 => intro j u hu; rw [Addr.add_lit, Nat.zero_add, World.cell?_alloc_new]; simpa using hu)
                case c4_2 => first | exact ⟨rfl, rfl⟩ | (intro u hu; simp at hu; rcases hu with rfl | rfl <;> rfl)
                case c4_3 => unfold maxLen; omega
                case c4_4 => omega
                case c4_5 => first | omega | (rw [World.size_alloc]; omega)
                intro vv w11 hown1 hgrow _ hob
                have hB := Lib.hid (show Below W1.heap.size W1 w11 from hb4h.out.grown hgrow hb4h.out.size (fun g' e => (hlt2 g' e).1))
                have hO := Lib.hid (show w11.ownsRow W1.heap.size 84 2 vv ((q ++ [(s, x)]) ++ [(ys, yx)]).length (flat ((q ++ [(s, x)]) ++ [(ys, yx)])) by rw [flat_snoc]; simp only [List.length_append, List.length_cons, List.length_nil, Nat.zero_add]; exact hown1)
                clear hown1 hgrow hob hoh hlt2 hb4h hszv
                clear c0 c1 d0 d1
                go_wp2
                go_roundw
                case rel => exact ⟨k + 1, pre ++ [(ys, yx)], r, (q ++ [(s, x)]) ++ [(ys, yx)], true, rfl, (by rw [hlh.out]; simp), (by simp [hk]), (fun hm => (List.mem_append.1 hm).elim (fun h => hnoth.out h) (fun h => heh.out (List.mem_singleton.1 h).symm)), rfl, (fun _ => ⟨⟨(ys, yx), by simp, hLT⟩, (by rw [(hpfh.out (by trivial)).2, putS_low _ _ _ (fun z hz => by have h8 := (hpfh.out (by trivial)).1 z hz; show ¬ sySym (s, x) z < 0; omega) (by have h8 := hLT; show sySym (s, x) (ys, yx) < 0; omega)]; simp)⟩), (fun h => by cases h), hO.out, (by have := (hpfh.out (by trivial)).2; rw [this]; simp; omega), hB.out⟩
                case measure => simp [intOf]; omega
            | false =>
              have hLT : ¬ ltS (s, x) (ys, yx) := fun h => ((symCmp_lt _ _).1 h).elim (fun h => by have h2 := hlt; rw [bytesLess_eq] at h2; exact of_decide_eq_false h2 h) (fun h => of_decide_eq_false hxx h.2)
              have hlow6 := Lib.hid (show Below W1.heap.size W1 wr.drew from bel_step hbwh.out (bel_drew wr))
              have d0 := cell_below hlow6.out z0h.out
              have d1 := cell_below hlow6.out z1h.out
              have c0 := cell_below hlow6.out hc0h.out
              have c1 := cell_below hlow6.out hc1h.out
              go_wp2_with fail
              refine wp_region_run (by kernel_rfl) 71 [21, 22, 23, 24, 25, 26, 27, 28, 29, 30, 31, 32, 33, 34, 35, 36, 37, 38, 39, 40, 41, 42, 43, 44, 45, 46, 47, 48, 49, 50, 51, 52] (JK wr.drew [(0, 21, .bool false), (1, 22, .bool true), (2, 23, .bool true), (3, 24, .slice (some ⟨b, 0, none⟩) l.length c), (4, 25, .int .i64 (k : Int)), (5, 26, .pointer (some ⟨b, k * 2, none⟩)), (6, 27, .pointer (some ⟨b, k * 2, none⟩)), (7, 28, .string ys), (8, 29, .pointer (some ⟨g, 0, none⟩)), (9, 30, .string s), (10, 31, .bool false), (11, 32, .bool false), (12, 33, .slice (some ⟨b, 0, none⟩) l.length c), (13, 34, .int .i64 (k : Int)), (14, 35, .pointer (some ⟨b, k * 2, none⟩)), (15, 36, .pointer (some ⟨b, k * 2, none⟩)), (16, 37, .string ys), (17, 38, .pointer (some ⟨g, 0, none⟩)), (18, 39, .string s), (19, 40, .bool true), (20, 41, .bool true), (21, 42, .slice (some ⟨b, 0, none⟩) l.length c), (22, 43, .int .i64 (k : Int)), (23, 44, .pointer (some ⟨b, k * 2, none⟩)), (24, 45, .pointer (some ⟨b, k * 2 + 1, none⟩)), (25, 46, .int .i64 yx), (26, 47, .pointer (some ⟨g, 0 + 1, none⟩)), (27, 48, .int .i64 x), (28, 49, .bool false), (29, 50, .bool false), (30, 51, .bool false), (31, 52, .bool false)] []) (by kernel_rfl) rfl (JK.start _ _) ?hst128 ?hend128
              case hst128 =>
                have hok : okK [(0, 21, .bool false), (1, 22, .bool true), (2, 23, .bool true), (3, 24, .slice (some ⟨b, 0, none⟩) l.length c), (4, 25, .int .i64 (k : Int)), (5, 26, .pointer (some ⟨b, k * 2, none⟩)), (6, 27, .pointer (some ⟨b, k * 2, none⟩)), (7, 28, .string ys), (8, 29, .pointer (some ⟨g, 0, none⟩)), (9, 30, .string s), (10, 31, .bool false), (11, 32, .bool false), (12, 33, .slice (some ⟨b, 0, none⟩) l.length c), (13, 34, .int .i64 (k : Int)), (14, 35, .pointer (some ⟨b, k * 2, none⟩)), (15, 36, .pointer (some ⟨b, k * 2, none⟩)), (16, 37, .string ys), (17, 38, .pointer (some ⟨g, 0, none⟩)), (18, 39, .string s), (19, 40, .bool true), (20, 41, .bool true), (21, 42, .slice (some ⟨b, 0, none⟩) l.length c), (22, 43, .int .i64 (k : Int)), (23, 44, .pointer (some ⟨b, k * 2, none⟩)), (24, 45, .pointer (some ⟨b, k * 2 + 1, none⟩)), (25, 46, .int .i64 yx), (26, 47, .pointer (some ⟨g, 0 + 1, none⟩)), (27, 48, .int .i64 x), (28, 49, .bool false), (29, 50, .bool false), (30, 51, .bool false), (31, 52, .bool false)] [] = true := by kernel_rfl
                have hst : ∀ p ∈ ([] : List (Nat × Nat × (Value → World → Prop))), Stb p.2.2 := fun p hp => (by cases hp)
                refine ⟨?_, ?_, ?_, ?_, ?_, ?_, ?_, ?_, ?_, ?_, ?_, ?_, ?_, ?_, ?_, ?_, ?_, ?_, ?_, ?_, ?_, ?_, ?_, ?_, ?_, ?_, ?_, ?_, ?_, ?_, ?_, ?_, trivial⟩
                · rintro l gv W hun hdep hcl hJ hg ha hp
                  refine' op_val ?h97 ?hw97 ?hr97 ?hK97
                  case h97 => rfl
                  case hw97 => exact rfl
                  case hr97 => exact (ex_move rfl (eval_tmp ((ha 6 (by kernel_rfl)).trans rfl)))
                  case hK97 => exact ⟨_, hp 21 _ (by kernel_rfl), JK.made hok hst hJ (List.mem_of_getElem? (i := 0) rfl) (Below.refl _ _)⟩
                · rintro l gv W hun hdep hcl hJ hg ha hp
                  refine' op_val ?h98 ?hw98 ?hr98 ?hK98
                  case h98 => rfl
                  case hw98 => exact rfl
                  case hr98 => exact (ex_not rfl ((eval_tmp (hg 21 (by kernel_rfl))).trans (hJ.lit _ (List.mem_of_getElem? (i := 0) rfl) (hdep 0 (by kernel_rfl)))))
                  case hK98 => exact ⟨_, hp 22 _ (by kernel_rfl), JK.made hok hst hJ (List.mem_of_getElem? (i := 1) rfl) (Below.refl _ _)⟩
                · rintro l gv W hun hdep hcl hJ hg ha hp
                  refine' op_val ?h99 ?hw99 ?hr99 ?hK99
                  case h99 => rfl
                  case hw99 => exact rfl
                  case hr99 => exact (ex_move rfl ((eval_tmp (hg 22 (by kernel_rfl))).trans (hJ.lit _ (List.mem_of_getElem? (i := 1) rfl) (hdep 1 (by kernel_rfl)))))
                  case hK99 => exact ⟨_, hp 23 _ (by kernel_rfl), JK.made hok hst hJ (List.mem_of_getElem? (i := 2) rfl) (Below.refl _ _)⟩
                · rintro l gv W hun hdep hcl hJ hg ha hp
                  have eg : gv 23 = .bool true := hJ.lit _ (List.mem_of_getElem? (i := 2) rfl) (hdep 2 (by kernel_rfl))
                  have hgd := (hg 23 (by kernel_rfl)).trans (congrArg some eg)
                  refine' op_val ?h100 ?hw100 ?hr100 ?hK100
                  case h100 => rfl
                  case hw100 => exact (wants_yes true rfl (by kernel_rfl) hgd)
                  case hr100 => exact (ex_move rfl (eval_tmp ((ha 0 (by kernel_rfl)).trans rfl)))
                  case hK100 => exact ⟨_, hp 24 _ (by kernel_rfl), JK.made hok hst hJ (List.mem_of_getElem? (i := 3) rfl) (Below.refl _ _)⟩
                · rintro l gv W hun hdep hcl hJ hg ha hp
                  have eg : gv 23 = .bool true := hJ.lit _ (List.mem_of_getElem? (i := 2) rfl) (hdep 2 (by kernel_rfl))
                  have hgd := (hg 23 (by kernel_rfl)).trans (congrArg some eg)
                  refine' op_val ?h101 ?hw101 ?hr101 ?hK101
                  case h101 => rfl
                  case hw101 => exact (wants_yes true rfl (by kernel_rfl) hgd)
                  case hr101 => exact (ex_move rfl (eval_tmp ((ha 7 (by kernel_rfl)).trans rfl)))
                  case hK101 => exact ⟨_, hp 25 _ (by kernel_rfl), JK.made hok hst hJ (List.mem_of_getElem? (i := 4) rfl) (Below.refl _ _)⟩
                · rintro l gv W hun hdep hcl hJ hg ha hp
                  have eg : gv 23 = .bool true := hJ.lit _ (List.mem_of_getElem? (i := 2) rfl) (hdep 2 (by kernel_rfl))
                  have hgd := (hg 23 (by kernel_rfl)).trans (congrArg some eg)
                  refine' op_val ?h102 ?hw102 ?hr102 ?hK102
                  case h102 => rfl
                  case hw102 => exact (wants_yes true rfl (by kernel_rfl) hgd)
                  case hr102 => exact (ex_indexAddr rfl ((eval_tmp (hg 24 (by kernel_rfl))).trans (hJ.lit _ (List.mem_of_getElem? (i := 3) rfl) (hdep 3 (by kernel_rfl)))) ((eval_tmp (hg 25 (by kernel_rfl))).trans (hJ.lit _ (List.mem_of_getElem? (i := 4) rfl) (hdep 4 (by kernel_rfl)))) (ix42 hkl))
                  case hK102 => exact ⟨_, hp 26 _ (by kernel_rfl), JK.made hok hst hJ (List.mem_of_getElem? (i := 5) rfl) (Below.refl _ _)⟩
                · rintro l gv W hun hdep hcl hJ hg ha hp
                  have eg : gv 23 = .bool true := hJ.lit _ (List.mem_of_getElem? (i := 2) rfl) (hdep 2 (by kernel_rfl))
                  have hgd := (hg 23 (by kernel_rfl)).trans (congrArg some eg)
                  refine' op_val ?h103 ?hw103 ?hr103 ?hK103
                  case h103 => rfl
                  case hw103 => exact (wants_yes true rfl (by kernel_rfl) hgd)
                  case hr103 => exact (ex_field rfl ((eval_tmp (hg 26 (by kernel_rfl))).trans (hJ.lit _ (List.mem_of_getElem? (i := 5) rfl) (hdep 5 (by kernel_rfl)))) fld0)
                  case hK103 => exact ⟨_, hp 27 _ (by kernel_rfl), JK.made hok hst hJ (List.mem_of_getElem? (i := 6) rfl) (Below.refl _ _)⟩
                · rintro l gv W hun hdep hcl hJ hg ha hp
                  have eg : gv 23 = .bool true := hJ.lit _ (List.mem_of_getElem? (i := 2) rfl) (hdep 2 (by kernel_rfl))
                  have hgd := (hg 23 (by kernel_rfl)).trans (congrArg some eg)
                  refine' op_val ?h104 ?hw104 ?hr104 ?hK104
                  case h104 => rfl
                  case hw104 => exact (wants_yes true rfl (by kernel_rfl) hgd)
                  case hr104 => exact (ex_load rfl ((eval_tmp (hg 27 (by kernel_rfl))).trans (hJ.lit _ (List.mem_of_getElem? (i := 6) rfl) (hdep 6 (by kernel_rfl)))) (ld9 (cell_below hJ.low d0)))
                  case hK104 => exact ⟨_, hp 28 _ (by kernel_rfl), JK.made hok hst hJ (List.mem_of_getElem? (i := 7) rfl) (Below.refl _ _)⟩
                · rintro l gv W hun hdep hcl hJ hg ha hp
                  have eg : gv 23 = .bool true := hJ.lit _ (List.mem_of_getElem? (i := 2) rfl) (hdep 2 (by kernel_rfl))
                  have hgd := (hg 23 (by kernel_rfl)).trans (congrArg some eg)
                  refine' op_val ?h105 ?hw105 ?hr105 ?hK105
                  case h105 => rfl
                  case hw105 => exact (wants_yes true rfl (by kernel_rfl) hgd)
                  case hr105 => exact (ex_field rfl (eval_tmp ((ha 3 (by kernel_rfl)).trans rfl)) fld0)
                  case hK105 => exact ⟨_, hp 29 _ (by kernel_rfl), JK.made hok hst hJ (List.mem_of_getElem? (i := 8) rfl) (Below.refl _ _)⟩
                · rintro l gv W hun hdep hcl hJ hg ha hp
                  have eg : gv 23 = .bool true := hJ.lit _ (List.mem_of_getElem? (i := 2) rfl) (hdep 2 (by kernel_rfl))
                  have hgd := (hg 23 (by kernel_rfl)).trans (congrArg some eg)
                  refine' op_val ?h106 ?hw106 ?hr106 ?hK106
                  case h106 => rfl
                  case hw106 => exact (wants_yes true rfl (by kernel_rfl) hgd)
                  case hr106 => exact (ex_load rfl ((eval_tmp (hg 29 (by kernel_rfl))).trans (hJ.lit _ (List.mem_of_getElem? (i := 8) rfl) (hdep 8 (by kernel_rfl)))) (ld9 (cell_below hJ.low c0)))
                  case hK106 => exact ⟨_, hp 30 _ (by kernel_rfl), JK.made hok hst hJ (List.mem_of_getElem? (i := 9) rfl) (Below.refl _ _)⟩
                · rintro l gv W hun hdep hcl hJ hg ha hp
                  have eg : gv 23 = .bool true := hJ.lit _ (List.mem_of_getElem? (i := 2) rfl) (hdep 2 (by kernel_rfl))
                  have hgd := (hg 23 (by kernel_rfl)).trans (congrArg some eg)
                  refine' op_val ?h107 ?hw107 ?hr107 ?hK107
                  case h107 => rfl
                  case hw107 => exact (wants_yes true rfl (by kernel_rfl) hgd)
                  case hr107 => exact (ex_bin rfl ((eval_tmp (hg 28 (by kernel_rfl))).trans (hJ.lit _ (List.mem_of_getElem? (i := 7) rfl) (hdep 7 (by kernel_rfl)))) ((eval_tmp (hg 30 (by kernel_rfl))).trans (hJ.lit _ (List.mem_of_getElem? (i := 9) rfl) (hdep 9 (by kernel_rfl)))) (guard_str _ _ _ _ _ W) (gtr9 hlt))
                  case hK107 => exact ⟨_, hp 31 _ (by kernel_rfl), JK.made hok hst hJ (List.mem_of_getElem? (i := 10) rfl) (Below.refl _ _)⟩
                · rintro l gv W hun hdep hcl hJ hg ha hp
                  have eg : gv 23 = .bool true := hJ.lit _ (List.mem_of_getElem? (i := 2) rfl) (hdep 2 (by kernel_rfl))
                  have hgd := (hg 23 (by kernel_rfl)).trans (congrArg some eg)
                  refine' op_val ?h108 ?hw108 ?hr108 ?hK108
                  case h108 => rfl
                  case hw108 => exact (wants_yes true rfl (by kernel_rfl) hgd)
                  case hr108 => exact (ex_move rfl ((eval_tmp (hg 31 (by kernel_rfl))).trans (hJ.lit _ (List.mem_of_getElem? (i := 10) rfl) (hdep 10 (by kernel_rfl)))))
                  case hK108 => exact ⟨_, hp 32 _ (by kernel_rfl), JK.made hok hst hJ (List.mem_of_getElem? (i := 11) rfl) (Below.refl _ _)⟩
                · rintro l gv W hun hdep hcl hJ hg ha hp
                  have eg : gv 32 = .bool false := hJ.lit _ (List.mem_of_getElem? (i := 11) rfl) (hdep 11 (by kernel_rfl))
                  have hgd := (hg 32 (by kernel_rfl)).trans (congrArg some eg)
                  refine' op_val ?h109 ?hw109 ?hr109 ?hK109
                  case h109 => rfl
                  case hw109 => exact (wants_yes false rfl (by kernel_rfl) hgd)
                  case hr109 => exact (ex_move rfl (eval_tmp ((ha 0 (by kernel_rfl)).trans rfl)))
                  case hK109 => exact ⟨_, hp 33 _ (by kernel_rfl), JK.made hok hst hJ (List.mem_of_getElem? (i := 12) rfl) (Below.refl _ _)⟩
                · rintro l gv W hun hdep hcl hJ hg ha hp
                  have eg : gv 32 = .bool false := hJ.lit _ (List.mem_of_getElem? (i := 11) rfl) (hdep 11 (by kernel_rfl))
                  have hgd := (hg 32 (by kernel_rfl)).trans (congrArg some eg)
                  refine' op_val ?h110 ?hw110 ?hr110 ?hK110
                  case h110 => rfl
                  case hw110 => exact (wants_yes false rfl (by kernel_rfl) hgd)
                  case hr110 => exact (ex_move rfl (eval_tmp ((ha 7 (by kernel_rfl)).trans rfl)))
                  case hK110 => exact ⟨_, hp 34 _ (by kernel_rfl), JK.made hok hst hJ (List.mem_of_getElem? (i := 13) rfl) (Below.refl _ _)⟩
                · rintro l gv W hun hdep hcl hJ hg ha hp
                  have eg : gv 32 = .bool false := hJ.lit _ (List.mem_of_getElem? (i := 11) rfl) (hdep 11 (by kernel_rfl))
                  have hgd := (hg 32 (by kernel_rfl)).trans (congrArg some eg)
                  refine' op_val ?h111 ?hw111 ?hr111 ?hK111
                  case h111 => rfl
                  case hw111 => exact (wants_yes false rfl (by kernel_rfl) hgd)
                  case hr111 => exact (ex_indexAddr rfl ((eval_tmp (hg 33 (by kernel_rfl))).trans (hJ.lit _ (List.mem_of_getElem? (i := 12) rfl) (hdep 12 (by kernel_rfl)))) ((eval_tmp (hg 34 (by kernel_rfl))).trans (hJ.lit _ (List.mem_of_getElem? (i := 13) rfl) (hdep 13 (by kernel_rfl)))) (ix42 hkl))
                  case hK111 => exact ⟨_, hp 35 _ (by kernel_rfl), JK.made hok hst hJ (List.mem_of_getElem? (i := 14) rfl) (Below.refl _ _)⟩
                · rintro l gv W hun hdep hcl hJ hg ha hp
                  have eg : gv 32 = .bool false := hJ.lit _ (List.mem_of_getElem? (i := 11) rfl) (hdep 11 (by kernel_rfl))
                  have hgd := (hg 32 (by kernel_rfl)).trans (congrArg some eg)
                  refine' op_val ?h112 ?hw112 ?hr112 ?hK112
                  case h112 => rfl
                  case hw112 => exact (wants_yes false rfl (by kernel_rfl) hgd)
                  case hr112 => exact (ex_field rfl ((eval_tmp (hg 35 (by kernel_rfl))).trans (hJ.lit _ (List.mem_of_getElem? (i := 14) rfl) (hdep 14 (by kernel_rfl)))) fld0)
                  case hK112 => exact ⟨_, hp 36 _ (by kernel_rfl), JK.made hok hst hJ (List.mem_of_getElem? (i := 15) rfl) (Below.refl _ _)⟩
                · rintro l gv W hun hdep hcl hJ hg ha hp
                  have eg : gv 32 = .bool false := hJ.lit _ (List.mem_of_getElem? (i := 11) rfl) (hdep 11 (by kernel_rfl))
                  have hgd := (hg 32 (by kernel_rfl)).trans (congrArg some eg)
                  refine' op_val ?h113 ?hw113 ?hr113 ?hK113
                  case h113 => rfl
                  case hw113 => exact (wants_yes false rfl (by kernel_rfl) hgd)
                  case hr113 => exact (ex_load rfl ((eval_tmp (hg 36 (by kernel_rfl))).trans (hJ.lit _ (List.mem_of_getElem? (i := 15) rfl) (hdep 15 (by kernel_rfl)))) (ld9 (cell_below hJ.low d0)))
                  case hK113 => exact ⟨_, hp 37 _ (by kernel_rfl), JK.made hok hst hJ (List.mem_of_getElem? (i := 16) rfl) (Below.refl _ _)⟩
                · rintro l gv W hun hdep hcl hJ hg ha hp
                  have eg : gv 32 = .bool false := hJ.lit _ (List.mem_of_getElem? (i := 11) rfl) (hdep 11 (by kernel_rfl))
                  have hgd := (hg 32 (by kernel_rfl)).trans (congrArg some eg)
                  refine' op_val ?h114 ?hw114 ?hr114 ?hK114
                  case h114 => rfl
                  case hw114 => exact (wants_yes false rfl (by kernel_rfl) hgd)
                  case hr114 => exact (ex_field rfl (eval_tmp ((ha 3 (by kernel_rfl)).trans rfl)) fld0)
                  case hK114 => exact ⟨_, hp 38 _ (by kernel_rfl), JK.made hok hst hJ (List.mem_of_getElem? (i := 17) rfl) (Below.refl _ _)⟩
                · rintro l gv W hun hdep hcl hJ hg ha hp
                  have eg : gv 32 = .bool false := hJ.lit _ (List.mem_of_getElem? (i := 11) rfl) (hdep 11 (by kernel_rfl))
                  have hgd := (hg 32 (by kernel_rfl)).trans (congrArg some eg)
                  refine' op_val ?h115 ?hw115 ?hr115 ?hK115
                  case h115 => rfl
                  case hw115 => exact (wants_yes false rfl (by kernel_rfl) hgd)
                  case hr115 => exact (ex_load rfl ((eval_tmp (hg 38 (by kernel_rfl))).trans (hJ.lit _ (List.mem_of_getElem? (i := 17) rfl) (hdep 17 (by kernel_rfl)))) (ld9 (cell_below hJ.low c0)))
                  case hK115 => exact ⟨_, hp 39 _ (by kernel_rfl), JK.made hok hst hJ (List.mem_of_getElem? (i := 18) rfl) (Below.refl _ _)⟩
                · rintro l gv W hun hdep hcl hJ hg ha hp
                  have eg : gv 32 = .bool false := hJ.lit _ (List.mem_of_getElem? (i := 11) rfl) (hdep 11 (by kernel_rfl))
                  have hgd := (hg 32 (by kernel_rfl)).trans (congrArg some eg)
                  refine' op_val ?h116 ?hw116 ?hr116 ?hK116
                  case h116 => rfl
                  case hw116 => exact (wants_yes false rfl (by kernel_rfl) hgd)
                  case hr116 => exact (ex_bin rfl ((eval_tmp (hg 37 (by kernel_rfl))).trans (hJ.lit _ (List.mem_of_getElem? (i := 16) rfl) (hdep 16 (by kernel_rfl)))) ((eval_tmp (hg 39 (by kernel_rfl))).trans (hJ.lit _ (List.mem_of_getElem? (i := 18) rfl) (hdep 18 (by kernel_rfl)))) (guard_str _ _ _ _ _ W) (eql9 hs1))
                  case hK116 => exact ⟨_, hp 40 _ (by kernel_rfl), JK.made hok hst hJ (List.mem_of_getElem? (i := 19) rfl) (Below.refl _ _)⟩
                · rintro l gv W hun hdep hcl hJ hg ha hp
                  have eg : gv 32 = .bool false := hJ.lit _ (List.mem_of_getElem? (i := 11) rfl) (hdep 11 (by kernel_rfl))
                  have hgd := (hg 32 (by kernel_rfl)).trans (congrArg some eg)
                  refine' op_val ?h117 ?hw117 ?hr117 ?hK117
                  case h117 => rfl
                  case hw117 => exact (wants_yes false rfl (by kernel_rfl) hgd)
                  case hr117 => exact (ex_move rfl ((eval_tmp (hg 40 (by kernel_rfl))).trans (hJ.lit _ (List.mem_of_getElem? (i := 19) rfl) (hdep 19 (by kernel_rfl)))))
                  case hK117 => exact ⟨_, hp 41 _ (by kernel_rfl), JK.made hok hst hJ (List.mem_of_getElem? (i := 20) rfl) (Below.refl _ _)⟩
                · rintro l gv W hun hdep hcl hJ hg ha hp
                  have eg : gv 41 = .bool true := hJ.lit _ (List.mem_of_getElem? (i := 20) rfl) (hdep 20 (by kernel_rfl))
                  have hgd := (hg 41 (by kernel_rfl)).trans (congrArg some eg)
                  refine' op_val ?h118 ?hw118 ?hr118 ?hK118
                  case h118 => rfl
                  case hw118 => exact (wants_yes true rfl (by kernel_rfl) hgd)
                  case hr118 => exact (ex_move rfl (eval_tmp ((ha 0 (by kernel_rfl)).trans rfl)))
                  case hK118 => exact ⟨_, hp 42 _ (by kernel_rfl), JK.made hok hst hJ (List.mem_of_getElem? (i := 21) rfl) (Below.refl _ _)⟩
                · rintro l gv W hun hdep hcl hJ hg ha hp
                  have eg : gv 41 = .bool true := hJ.lit _ (List.mem_of_getElem? (i := 20) rfl) (hdep 20 (by kernel_rfl))
                  have hgd := (hg 41 (by kernel_rfl)).trans (congrArg some eg)
                  refine' op_val ?h119 ?hw119 ?hr119 ?hK119
                  case h119 => rfl
                  case hw119 => exact (wants_yes true rfl (by kernel_rfl) hgd)
                  case hr119 => exact (ex_move rfl (eval_tmp ((ha 7 (by kernel_rfl)).trans rfl)))
                  case hK119 => exact ⟨_, hp 43 _ (by kernel_rfl), JK.made hok hst hJ (List.mem_of_getElem? (i := 22) rfl) (Below.refl _ _)⟩
                · rintro l gv W hun hdep hcl hJ hg ha hp
                  have eg : gv 41 = .bool true := hJ.lit _ (List.mem_of_getElem? (i := 20) rfl) (hdep 20 (by kernel_rfl))
                  have hgd := (hg 41 (by kernel_rfl)).trans (congrArg some eg)
                  refine' op_val ?h120 ?hw120 ?hr120 ?hK120
                  case h120 => rfl
                  case hw120 => exact (wants_yes true rfl (by kernel_rfl) hgd)
                  case hr120 => exact (ex_indexAddr rfl ((eval_tmp (hg 42 (by kernel_rfl))).trans (hJ.lit _ (List.mem_of_getElem? (i := 21) rfl) (hdep 21 (by kernel_rfl)))) ((eval_tmp (hg 43 (by kernel_rfl))).trans (hJ.lit _ (List.mem_of_getElem? (i := 22) rfl) (hdep 22 (by kernel_rfl)))) (ix42 hkl))
                  case hK120 => exact ⟨_, hp 44 _ (by kernel_rfl), JK.made hok hst hJ (List.mem_of_getElem? (i := 23) rfl) (Below.refl _ _)⟩
                · rintro l gv W hun hdep hcl hJ hg ha hp
                  have eg : gv 41 = .bool true := hJ.lit _ (List.mem_of_getElem? (i := 20) rfl) (hdep 20 (by kernel_rfl))
                  have hgd := (hg 41 (by kernel_rfl)).trans (congrArg some eg)
                  refine' op_val ?h121 ?hw121 ?hr121 ?hK121
                  case h121 => rfl
                  case hw121 => exact (wants_yes true rfl (by kernel_rfl) hgd)
                  case hr121 => exact (ex_field rfl ((eval_tmp (hg 44 (by kernel_rfl))).trans (hJ.lit _ (List.mem_of_getElem? (i := 23) rfl) (hdep 23 (by kernel_rfl)))) fld1)
                  case hK121 => exact ⟨_, hp 45 _ (by kernel_rfl), JK.made hok hst hJ (List.mem_of_getElem? (i := 24) rfl) (Below.refl _ _)⟩
                · rintro l gv W hun hdep hcl hJ hg ha hp
                  have eg : gv 41 = .bool true := hJ.lit _ (List.mem_of_getElem? (i := 20) rfl) (hdep 20 (by kernel_rfl))
                  have hgd := (hg 41 (by kernel_rfl)).trans (congrArg some eg)
                  refine' op_val ?h122 ?hw122 ?hr122 ?hK122
                  case h122 => rfl
                  case hw122 => exact (wants_yes true rfl (by kernel_rfl) hgd)
                  case hr122 => exact (ex_load rfl ((eval_tmp (hg 45 (by kernel_rfl))).trans (hJ.lit _ (List.mem_of_getElem? (i := 24) rfl) (hdep 24 (by kernel_rfl)))) (ld3 (cell_below hJ.low d1)))
                  case hK122 => exact ⟨_, hp 46 _ (by kernel_rfl), JK.made hok hst hJ (List.mem_of_getElem? (i := 25) rfl) (Below.refl _ _)⟩
                · rintro l gv W hun hdep hcl hJ hg ha hp
                  have eg : gv 41 = .bool true := hJ.lit _ (List.mem_of_getElem? (i := 20) rfl) (hdep 20 (by kernel_rfl))
                  have hgd := (hg 41 (by kernel_rfl)).trans (congrArg some eg)
                  refine' op_val ?h123 ?hw123 ?hr123 ?hK123
                  case h123 => rfl
                  case hw123 => exact (wants_yes true rfl (by kernel_rfl) hgd)
                  case hr123 => exact (ex_field rfl (eval_tmp ((ha 3 (by kernel_rfl)).trans rfl)) fld1)
                  case hK123 => exact ⟨_, hp 47 _ (by kernel_rfl), JK.made hok hst hJ (List.mem_of_getElem? (i := 26) rfl) (Below.refl _ _)⟩
                · rintro l gv W hun hdep hcl hJ hg ha hp
                  have eg : gv 41 = .bool true := hJ.lit _ (List.mem_of_getElem? (i := 20) rfl) (hdep 20 (by kernel_rfl))
                  have hgd := (hg 41 (by kernel_rfl)).trans (congrArg some eg)
                  refine' op_val ?h124 ?hw124 ?hr124 ?hK124
                  case h124 => rfl
                  case hw124 => exact (wants_yes true rfl (by kernel_rfl) hgd)
                  case hr124 => exact (ex_load rfl ((eval_tmp (hg 47 (by kernel_rfl))).trans (hJ.lit _ (List.mem_of_getElem? (i := 26) rfl) (hdep 26 (by kernel_rfl)))) (ld3 (cell_below hJ.low c1)))
                  case hK124 => exact ⟨_, hp 48 _ (by kernel_rfl), JK.made hok hst hJ (List.mem_of_getElem? (i := 27) rfl) (Below.refl _ _)⟩
                · rintro l gv W hun hdep hcl hJ hg ha hp
                  have eg : gv 41 = .bool true := hJ.lit _ (List.mem_of_getElem? (i := 20) rfl) (hdep 20 (by kernel_rfl))
                  have hgd := (hg 41 (by kernel_rfl)).trans (congrArg some eg)
                  refine' op_val ?h125 ?hw125 ?hr125 ?hK125
                  case h125 => rfl
                  case hw125 => exact (wants_yes true rfl (by kernel_rfl) hgd)
                  case hr125 => exact (ex_bin rfl ((eval_tmp (hg 46 (by kernel_rfl))).trans (hJ.lit _ (List.mem_of_getElem? (i := 25) rfl) (hdep 25 (by kernel_rfl)))) ((eval_tmp (hg 48 (by kernel_rfl))).trans (hJ.lit _ (List.mem_of_getElem? (i := 27) rfl) (hdep 27 (by kernel_rfl)))) (grd3 _ _ _ _ W) (gtr3 hxx))
                  case hK125 => exact ⟨_, hp 49 _ (by kernel_rfl), JK.made hok hst hJ (List.mem_of_getElem? (i := 28) rfl) (Below.refl _ _)⟩
                · rintro l gv W hun hdep hcl hJ hg ha hp
                  have eg : gv 32 = .bool false := hJ.lit _ (List.mem_of_getElem? (i := 11) rfl) (hdep 11 (by kernel_rfl))
                  have hgd := (hg 32 (by kernel_rfl)).trans (congrArg some eg)
                  refine' op_val ?h126 ?hw126 ?hr126 ?hK126
                  case h126 => rfl
                  case hw126 => exact (wants_yes false rfl (by kernel_rfl) hgd)
                  case hr126 => exact (ex_pick rfl ((eval_tmp (hg 41 (by kernel_rfl))).trans (hJ.lit _ (List.mem_of_getElem? (i := 20) rfl) (hdep 20 (by kernel_rfl)))) ((eval_tmp (hg 49 (by kernel_rfl))).trans (hJ.lit _ (List.mem_of_getElem? (i := 28) rfl) (hdep 28 (by kernel_rfl)))))
                  case hK126 => exact ⟨_, hp 50 _ (by kernel_rfl), JK.made hok hst hJ (List.mem_of_getElem? (i := 29) rfl) (Below.refl _ _)⟩
                · rintro l gv W hun hdep hcl hJ hg ha hp
                  have eg : gv 23 = .bool true := hJ.lit _ (List.mem_of_getElem? (i := 2) rfl) (hdep 2 (by kernel_rfl))
                  have hgd := (hg 23 (by kernel_rfl)).trans (congrArg some eg)
                  refine' op_val ?h127 ?hw127 ?hr127 ?hK127
                  case h127 => rfl
                  case hw127 => exact (wants_yes true rfl (by kernel_rfl) hgd)
                  case hr127 => exact (ex_pickF rfl ((eval_tmp (hg 32 (by kernel_rfl))).trans (hJ.lit _ (List.mem_of_getElem? (i := 11) rfl) (hdep 11 (by kernel_rfl)))) ((eval_tmp (hg 50 (by kernel_rfl))).trans (hJ.lit _ (List.mem_of_getElem? (i := 29) rfl) (hdep 29 (by kernel_rfl)))))
                  case hK127 => exact ⟨_, hp 51 _ (by kernel_rfl), JK.made hok hst hJ (List.mem_of_getElem? (i := 30) rfl) (Below.refl _ _)⟩
                · rintro l gv W hun hdep hcl hJ hg ha hp
                  refine' op_val ?h128 ?hw128 ?hr128 ?hK128
                  case h128 => rfl
                  case hw128 => exact rfl
                  case hr128 => exact (ex_pick rfl ((eval_tmp (hg 23 (by kernel_rfl))).trans (hJ.lit _ (List.mem_of_getElem? (i := 2) rfl) (hdep 2 (by kernel_rfl)))) ((eval_tmp (hg 51 (by kernel_rfl))).trans (hJ.lit _ (List.mem_of_getElem? (i := 30) rfl) (hdep 30 (by kernel_rfl)))))
                  case hK128 => exact ⟨_, hp 52 _ (by kernel_rfl), JK.made hok hst hJ (List.mem_of_getElem? (i := 31) rfl) (Below.refl _ _)⟩
              case hend128 =>
                rintro ll gv W9 hl hJ
                have e21 : gv 21 = .bool false := hJ.lit _ (List.mem_of_getElem? (i := 0) rfl) (hl 0 (of_decide_eq_true (by kernel_rfl)))
                have e22 : gv 22 = .bool true := hJ.lit _ (List.mem_of_getElem? (i := 1) rfl) (hl 1 (of_decide_eq_true (by kernel_rfl)))
                have e23 : gv 23 = .bool true := hJ.lit _ (List.mem_of_getElem? (i := 2) rfl) (hl 2 (of_decide_eq_true (by kernel_rfl)))
                have e24 : gv 24 = .slice (some ⟨b, 0, none⟩) l.length c := hJ.lit _ (List.mem_of_getElem? (i := 3) rfl) (hl 3 (of_decide_eq_true (by kernel_rfl)))
                have e25 : gv 25 = .int .i64 (k : Int) := hJ.lit _ (List.mem_of_getElem? (i := 4) rfl) (hl 4 (of_decide_eq_true (by kernel_rfl)))
                have e26 : gv 26 = .pointer (some ⟨b, k * 2, none⟩) := hJ.lit _ (List.mem_of_getElem? (i := 5) rfl) (hl 5 (of_decide_eq_true (by kernel_rfl)))
                have e27 : gv 27 = .pointer (some ⟨b, k * 2, none⟩) := hJ.lit _ (List.mem_of_getElem? (i := 6) rfl) (hl 6 (of_decide_eq_true (by kernel_rfl)))
                have e28 : gv 28 = .string ys := hJ.lit _ (List.mem_of_getElem? (i := 7) rfl) (hl 7 (of_decide_eq_true (by kernel_rfl)))
                have e29 : gv 29 = .pointer (some ⟨g, 0, none⟩) := hJ.lit _ (List.mem_of_getElem? (i := 8) rfl) (hl 8 (of_decide_eq_true (by kernel_rfl)))
                have e30 : gv 30 = .string s := hJ.lit _ (List.mem_of_getElem? (i := 9) rfl) (hl 9 (of_decide_eq_true (by kernel_rfl)))
                have e31 : gv 31 = .bool false := hJ.lit _ (List.mem_of_getElem? (i := 10) rfl) (hl 10 (of_decide_eq_true (by kernel_rfl)))
                have e32 : gv 32 = .bool false := hJ.lit _ (List.mem_of_getElem? (i := 11) rfl) (hl 11 (of_decide_eq_true (by kernel_rfl)))
                have e33 : gv 33 = .slice (some ⟨b, 0, none⟩) l.length c := hJ.lit _ (List.mem_of_getElem? (i := 12) rfl) (hl 12 (of_decide_eq_true (by kernel_rfl)))
                have e34 : gv 34 = .int .i64 (k : Int) := hJ.lit _ (List.mem_of_getElem? (i := 13) rfl) (hl 13 (of_decide_eq_true (by kernel_rfl)))
                have e35 : gv 35 = .pointer (some ⟨b, k * 2, none⟩) := hJ.lit _ (List.mem_of_getElem? (i := 14) rfl) (hl 14 (of_decide_eq_true (by kernel_rfl)))
                have e36 : gv 36 = .pointer (some ⟨b, k * 2, none⟩) := hJ.lit _ (List.mem_of_getElem? (i := 15) rfl) (hl 15 (of_decide_eq_true (by kernel_rfl)))
                have e37 : gv 37 = .string ys := hJ.lit _ (List.mem_of_getElem? (i := 16) rfl) (hl 16 (of_decide_eq_true (by kernel_rfl)))
                have e38 : gv 38 = .pointer (some ⟨g, 0, none⟩) := hJ.lit _ (List.mem_of_getElem? (i := 17) rfl) (hl 17 (of_decide_eq_true (by kernel_rfl)))
                have e39 : gv 39 = .string s := hJ.lit _ (List.mem_of_getElem? (i := 18) rfl) (hl 18 (of_decide_eq_true (by kernel_rfl)))
                have e40 : gv 40 = .bool true := hJ.lit _ (List.mem_of_getElem? (i := 19) rfl) (hl 19 (of_decide_eq_true (by kernel_rfl)))
                have e41 : gv 41 = .bool true := hJ.lit _ (List.mem_of_getElem? (i := 20) rfl) (hl 20 (of_decide_eq_true (by kernel_rfl)))
                have e42 : gv 42 = .slice (some ⟨b, 0, none⟩) l.length c := hJ.lit _ (List.mem_of_getElem? (i := 21) rfl) (hl 21 (of_decide_eq_true (by kernel_rfl)))
                have e43 : gv 43 = .int .i64 (k : Int) := hJ.lit _ (List.mem_of_getElem? (i := 22) rfl) (hl 22 (of_decide_eq_true (by kernel_rfl)))
                have e44 : gv 44 = .pointer (some ⟨b, k * 2, none⟩) := hJ.lit _ (List.mem_of_getElem? (i := 23) rfl) (hl 23 (of_decide_eq_true (by kernel_rfl)))
                have e45 : gv 45 = .pointer (some ⟨b, k * 2 + 1, none⟩) := hJ.lit _ (List.mem_of_getElem? (i := 24) rfl) (hl 24 (of_decide_eq_true (by kernel_rfl)))
                have e46 : gv 46 = .int .i64 yx := hJ.lit _ (List.mem_of_getElem? (i := 25) rfl) (hl 25 (of_decide_eq_true (by kernel_rfl)))
                have e47 : gv 47 = .pointer (some ⟨g, 0 + 1, none⟩) := hJ.lit _ (List.mem_of_getElem? (i := 26) rfl) (hl 26 (of_decide_eq_true (by kernel_rfl)))
                have e48 : gv 48 = .int .i64 x := hJ.lit _ (List.mem_of_getElem? (i := 27) rfl) (hl 27 (of_decide_eq_true (by kernel_rfl)))
                have e49 : gv 49 = .bool false := hJ.lit _ (List.mem_of_getElem? (i := 28) rfl) (hl 28 (of_decide_eq_true (by kernel_rfl)))
                have e50 : gv 50 = .bool false := hJ.lit _ (List.mem_of_getElem? (i := 29) rfl) (hl 29 (of_decide_eq_true (by kernel_rfl)))
                have e51 : gv 51 = .bool false := hJ.lit _ (List.mem_of_getElem? (i := 30) rfl) (hl 30 (of_decide_eq_true (by kernel_rfl)))
                have e52 : gv 52 = .bool false := hJ.lit _ (List.mem_of_getElem? (i := 31) rfl) (hl 31 (of_decide_eq_true (by kernel_rfl)))
                simp only [zipV, List.map_cons, List.map_nil, puts, Act.put, List.setIfInBounds_toArray, List.set_cons_succ, List.set_cons_zero, e21, e22, e23, e24, e25, e26, e27, e28, e29, e30, e31, e32, e33, e34, e35, e36, e37, e38, e39, e40, e41, e42, e43, e44, e45, e46, e47, e48, e49, e50, e51, e52]
                have hlow := Lib.hid hJ.low
                clear e21 e22 e23 e24 e25 e26 e27 e28 e29 e30 e31 e32 e33 e34 e35 e36 e37 e38 e39 e40 e41 e42 e43 e44 e45 e46 e47 e48 e49 e50 e51 e52 hJ hl
                obtain ⟨w8, hw8⟩ : ∃ w8, W9 = w8 := ⟨_, rfl⟩
                rw [hw8] at hlow ⊢
                clear hw8 d0 d1 c0 c1
                have hB := Lib.hid (show Below W1.heap.size W1 w8 from bel_step hlow6.out hlow.out)
                have hO := Lib.hid (show w8.ownsRow W1.heap.size 84 2 u5 q.length (flat q) from owns_below (bel_step (bel_drew wr) hlow.out) hownh.out)
                have c0 := cell_below hB.out hc0h.out
                have c1 := cell_below hB.out hc1h.out
                have d0 := cell_below hB.out z0h.out
                have d1 := cell_below hB.out z1h.out
                clear hlow hlow6 hownh
                have hbl := bel_laid w8 (.cells #[.string ys, .int .i64 yx] 84)
                have hoh := Lib.hid (owns_below hbl hO.out)
                have hlt2 : ∀ g', u5.ownBlock = some g' → W1.heap.size ≤ g' ∧ g' < (w8.alloc (.cells #[.string ys, .int .i64 yx] 84)).heap.size := hoh.out.lt
                have hb4h := Lib.hid (bel_step hB.out hbl)
                have hszv : W1.heap.size ≤ w8.heap.size := hB.out.size
                clear hbl hO hB
                go_wp2_with (at_builtin; refine wpList_append_own_at _ rfl _ _ 42 rfl W1.heap.size 84 i0 (.agg #[.string ⟨#[]⟩, .int .i64 0]) 2 24 Tryz.underlying42 hi hz0 hz1 hz2 rfl (by decide) _ _ _ rfl hoh.out ⟨w8.heap.size, 0, none⟩ 1 1 [.string ys, .int .i64 yx] rfl rfl ?c5_1 ?c5_2 ?c5_3 ?c5_4 ?c5_5 ?_)
                (try case c5_1 => intro j u hu; rw [Addr.add_lit, Nat.zero_add, World.cell?_alloc_new]; simpa using hu)
                case c5_2 => first | exact ⟨rfl, rfl⟩ | (intro u hu; simp at hu; rcases hu with rfl | rfl <;> rfl)
                case c5_3 => unfold maxLen; omega
                case c5_4 => omega
                case c5_5 => first | omega | (rw [World.size_alloc]; omega)
                intro vv w11 hown1 hgrow _ hob
                have hB := Lib.hid (show Below W1.heap.size W1 w11 from hb4h.out.grown hgrow hb4h.out.size (fun g' e => (hlt2 g' e).1))
                have hO := Lib.hid (show w11.ownsRow W1.heap.size 84 2 vv (q ++ [(ys, yx)]).length (flat (q ++ [(ys, yx)])) by rw [flat_snoc]; simp only [List.length_append, List.length_cons, List.length_nil, Nat.zero_add]; exact hown1)
                clear hown1 hgrow hob hoh hlt2 hb4h hszv
                clear c0 c1 d0 d1
                go_wp2
                go_roundw
                case rel => exact ⟨k + 1, pre ++ [(ys, yx)], r, q ++ [(ys, yx)], false, rfl, (by rw [hlh.out]; simp), (by simp [hk]), (fun hm => (List.mem_append.1 hm).elim (fun h => hnoth.out h) (fun h => heh.out (List.mem_singleton.1 h).symm)), rfl, (fun h => by cases h), (fun _ => ⟨(fun z hz => (List.mem_append.1 hz).elim (fun h => by have h8 := (hpfh.out (by trivial)).1 z h; show ¬ sySym (s, x) z < 0; omega) (fun h => by rw [List.mem_singleton.1 h]; have h8 := hLT; show ¬ sySym (s, x) (ys, yx) < 0; omega)), (by rw [(hpfh.out (by trivial)).2])⟩), hO.out, (by have := (hpfh.out (by trivial)).2; rw [this]; simp; omega), hB.out⟩
                case measure => simp [intOf]; omega
        · have hs1 : (ys.toList == s.toList) = false := beq_eq_false_iff_ne.2 hs
          clear he hs hbw
          go_wp2_with fail
          go_region_held3 (fun V : World => V.cell? ⟨b, k * 2, none⟩ = some (.string ys) ∧ V.cell? ⟨b, k * 2 + 1, none⟩ = some (.int .i64 yx) ∧ V.cell? ⟨g, 0, none⟩ = some (.string s) ∧ V.cell? ⟨g, 1, none⟩ = some (.int .i64 x) ∧ Below wr.heap.size wr V) (first | assumption | exact ⟨d0, d1, c0, c1, bel_drew wr⟩) (fail)
          clear d0 d1 c0 c1
          cases pb with
          | true =>
            have hlow6 := Lib.hid (show Below W1.heap.size W1 wr.drew from bel_step hbwh.out (bel_drew wr))
            have d0 := cell_below hlow6.out z0h.out
            have d1 := cell_below hlow6.out z1h.out
            have c0 := cell_below hlow6.out hc0h.out
            have c1 := cell_below hlow6.out hc1h.out
            go_wp2_with fail
            refine wp_region_run (by kernel_rfl) 71 [21, 22, 23, 24, 25, 26, 27, 28, 29, 30, 31, 32, 33, 34, 35, 36, 37, 38, 39, 40, 41, 42, 43, 44, 45, 46, 47, 48, 49, 50, 51, 52] (JK wr.drew [(0, 21, .bool true), (1, 22, .bool false), (2, 23, .bool false), (3, 24, undef), (4, 25, undef), (5, 26, undef), (6, 27, undef), (7, 28, undef), (8, 29, undef), (9, 30, undef), (10, 31, undef), (11, 32, undef), (12, 33, undef), (13, 34, undef), (14, 35, undef), (15, 36, undef), (16, 37, undef), (17, 38, undef), (18, 39, undef), (19, 40, undef), (20, 41, undef), (21, 42, undef), (22, 43, undef), (23, 44, undef), (24, 45, undef), (25, 46, undef), (26, 47, undef), (27, 48, undef), (28, 49, undef), (29, 50, undef), (30, 51, undef), (31, 52, .bool false)] []) (by kernel_rfl) rfl (JK.start _ _) ?hst64 ?hend64
            case hst64 =>
              have hok : okK [(0, 21, .bool true), (1, 22, .bool false), (2, 23, .bool false), (3, 24, undef), (4, 25, undef), (5, 26, undef), (6, 27, undef), (7, 28, undef), (8, 29, undef), (9, 30, undef), (10, 31, undef), (11, 32, undef), (12, 33, undef), (13, 34, undef), (14, 35, undef), (15, 36, undef), (16, 37, undef), (17, 38, undef), (18, 39, undef), (19, 40, undef), (20, 41, undef), (21, 42, undef), (22, 43, undef), (23, 44, undef), (24, 45, undef), (25, 46, undef), (26, 47, undef), (27, 48, undef), (28, 49, undef), (29, 50, undef), (30, 51, undef), (31, 52, .bool false)] [] = true := by kernel_rfl
              have hst : ∀ p ∈ ([] : List (Nat × Nat × (Value → World → Prop))), Stb p.2.2 := fun p hp => (by cases hp)
              refine ⟨?_, ?_, ?_, ?_, ?_, ?_, ?_, ?_, ?_, ?_, ?_, ?_, ?_, ?_, ?_, ?_, ?_, ?_, ?_, ?_, ?_, ?_, ?_, ?_, ?_, ?_, ?_, ?_, ?_, ?_, ?_, ?_, trivial⟩
              · rintro l gv W hun hdep hcl hJ hg ha hp
                refine' op_val ?h33 ?hw33 ?hr33 ?hK33
                case h33 => rfl
                case hw33 => exact rfl
                case hr33 => exact (ex_move rfl (eval_tmp ((ha 6 (by kernel_rfl)).trans rfl)))
                case hK33 => exact ⟨_, hp 21 _ (by kernel_rfl), JK.made hok hst hJ (List.mem_of_getElem? (i := 0) rfl) (Below.refl _ _)⟩
              · rintro l gv W hun hdep hcl hJ hg ha hp
                refine' op_val ?h34 ?hw34 ?hr34 ?hK34
                case h34 => rfl
                case hw34 => exact rfl
                case hr34 => exact (ex_not rfl ((eval_tmp (hg 21 (by kernel_rfl))).trans (hJ.lit _ (List.mem_of_getElem? (i := 0) rfl) (hdep 0 (by kernel_rfl)))))
                case hK34 => exact ⟨_, hp 22 _ (by kernel_rfl), JK.made hok hst hJ (List.mem_of_getElem? (i := 1) rfl) (Below.refl _ _)⟩
              · rintro l gv W hun hdep hcl hJ hg ha hp
                refine' op_val ?h35 ?hw35 ?hr35 ?hK35
                case h35 => rfl
                case hw35 => exact rfl
                case hr35 => exact (ex_move rfl ((eval_tmp (hg 22 (by kernel_rfl))).trans (hJ.lit _ (List.mem_of_getElem? (i := 1) rfl) (hdep 1 (by kernel_rfl)))))
                case hK35 => exact ⟨_, hp 23 _ (by kernel_rfl), JK.made hok hst hJ (List.mem_of_getElem? (i := 2) rfl) (Below.refl _ _)⟩
              · rintro l gv W hun hdep hcl hJ hg ha hp
                have eg : gv 23 = .bool false := hJ.lit _ (List.mem_of_getElem? (i := 2) rfl) (hdep 2 (by kernel_rfl))
                have hgd := (hg 23 (by kernel_rfl)).trans (congrArg some eg)
                refine' op_out ?h36 ?hw36 ?hK36
                case h36 => rfl
                case hw36 => exact (wants_no true rfl (by kernel_rfl) hgd)
                case hK36 => exact ⟨_, hp 24 _ (by kernel_rfl), JK.made hok hst hJ (List.mem_of_getElem? (i := 3) rfl) (Below.refl _ _)⟩
              · rintro l gv W hun hdep hcl hJ hg ha hp
                have eg : gv 23 = .bool false := hJ.lit _ (List.mem_of_getElem? (i := 2) rfl) (hdep 2 (by kernel_rfl))
                have hgd := (hg 23 (by kernel_rfl)).trans (congrArg some eg)
                refine' op_out ?h37 ?hw37 ?hK37
                case h37 => rfl
                case hw37 => exact (wants_no true rfl (by kernel_rfl) hgd)
                case hK37 => exact ⟨_, hp 25 _ (by kernel_rfl), JK.made hok hst hJ (List.mem_of_getElem? (i := 4) rfl) (Below.refl _ _)⟩
              · rintro l gv W hun hdep hcl hJ hg ha hp
                have eg : gv 23 = .bool false := hJ.lit _ (List.mem_of_getElem? (i := 2) rfl) (hdep 2 (by kernel_rfl))
                have hgd := (hg 23 (by kernel_rfl)).trans (congrArg some eg)
                refine' op_out ?h38 ?hw38 ?hK38
                case h38 => rfl
                case hw38 => exact (wants_no true rfl (by kernel_rfl) hgd)
                case hK38 => exact ⟨_, hp 26 _ (by kernel_rfl), JK.made hok hst hJ (List.mem_of_getElem? (i := 5) rfl) (Below.refl _ _)⟩
              · rintro l gv W hun hdep hcl hJ hg ha hp
                have eg : gv 23 = .bool false := hJ.lit _ (List.mem_of_getElem? (i := 2) rfl) (hdep 2 (by kernel_rfl))
                have hgd := (hg 23 (by kernel_rfl)).trans (congrArg some eg)
                refine' op_out ?h39 ?hw39 ?hK39
                case h39 => rfl
                case hw39 => exact (wants_no true rfl (by kernel_rfl) hgd)
                case hK39 => exact ⟨_, hp 27 _ (by kernel_rfl), JK.made hok hst hJ (List.mem_of_getElem? (i := 6) rfl) (Below.refl _ _)⟩
              · rintro l gv W hun hdep hcl hJ hg ha hp
                have eg : gv 23 = .bool false := hJ.lit _ (List.mem_of_getElem? (i := 2) rfl) (hdep 2 (by kernel_rfl))
                have hgd := (hg 23 (by kernel_rfl)).trans (congrArg some eg)
                refine' op_out ?h40 ?hw40 ?hK40
                case h40 => rfl
                case hw40 => exact (wants_no true rfl (by kernel_rfl) hgd)
                case hK40 => exact ⟨_, hp 28 _ (by kernel_rfl), JK.made hok hst hJ (List.mem_of_getElem? (i := 7) rfl) (Below.refl _ _)⟩
              · rintro l gv W hun hdep hcl hJ hg ha hp
                have eg : gv 23 = .bool false := hJ.lit _ (List.mem_of_getElem? (i := 2) rfl) (hdep 2 (by kernel_rfl))
                have hgd := (hg 23 (by kernel_rfl)).trans (congrArg some eg)
                refine' op_out ?h41 ?hw41 ?hK41
                case h41 => rfl
                case hw41 => exact (wants_no true rfl (by kernel_rfl) hgd)
                case hK41 => exact ⟨_, hp 29 _ (by kernel_rfl), JK.made hok hst hJ (List.mem_of_getElem? (i := 8) rfl) (Below.refl _ _)⟩
              · rintro l gv W hun hdep hcl hJ hg ha hp
                have eg : gv 23 = .bool false := hJ.lit _ (List.mem_of_getElem? (i := 2) rfl) (hdep 2 (by kernel_rfl))
                have hgd := (hg 23 (by kernel_rfl)).trans (congrArg some eg)
                refine' op_out ?h42 ?hw42 ?hK42
                case h42 => rfl
                case hw42 => exact (wants_no true rfl (by kernel_rfl) hgd)
                case hK42 => exact ⟨_, hp 30 _ (by kernel_rfl), JK.made hok hst hJ (List.mem_of_getElem? (i := 9) rfl) (Below.refl _ _)⟩
              · rintro l gv W hun hdep hcl hJ hg ha hp
                have eg : gv 23 = .bool false := hJ.lit _ (List.mem_of_getElem? (i := 2) rfl) (hdep 2 (by kernel_rfl))
                have hgd := (hg 23 (by kernel_rfl)).trans (congrArg some eg)
                refine' op_out ?h43 ?hw43 ?hK43
                case h43 => rfl
                case hw43 => exact (wants_no true rfl (by kernel_rfl) hgd)
                case hK43 => exact ⟨_, hp 31 _ (by kernel_rfl), JK.made hok hst hJ (List.mem_of_getElem? (i := 10) rfl) (Below.refl _ _)⟩
              · rintro l gv W hun hdep hcl hJ hg ha hp
                have eg : gv 23 = .bool false := hJ.lit _ (List.mem_of_getElem? (i := 2) rfl) (hdep 2 (by kernel_rfl))
                have hgd := (hg 23 (by kernel_rfl)).trans (congrArg some eg)
                refine' op_out ?h44 ?hw44 ?hK44
                case h44 => rfl
                case hw44 => exact (wants_no true rfl (by kernel_rfl) hgd)
                case hK44 => exact ⟨_, hp 32 _ (by kernel_rfl), JK.made hok hst hJ (List.mem_of_getElem? (i := 11) rfl) (Below.refl _ _)⟩
              · rintro l gv W hun hdep hcl hJ hg ha hp
                have eg : gv 32 = undef := hJ.lit _ (List.mem_of_getElem? (i := 11) rfl) (hdep 11 (by kernel_rfl))
                have hgd := (hg 32 (by kernel_rfl)).trans (congrArg some eg)
                refine' op_out ?h45 ?hw45 ?hK45
                case h45 => rfl
                case hw45 => exact (wants_undef false rfl (by kernel_rfl) hgd)
                case hK45 => exact ⟨_, hp 33 _ (by kernel_rfl), JK.made hok hst hJ (List.mem_of_getElem? (i := 12) rfl) (Below.refl _ _)⟩
              · rintro l gv W hun hdep hcl hJ hg ha hp
                have eg : gv 32 = undef := hJ.lit _ (List.mem_of_getElem? (i := 11) rfl) (hdep 11 (by kernel_rfl))
                have hgd := (hg 32 (by kernel_rfl)).trans (congrArg some eg)
                refine' op_out ?h46 ?hw46 ?hK46
                case h46 => rfl
                case hw46 => exact (wants_undef false rfl (by kernel_rfl) hgd)
                case hK46 => exact ⟨_, hp 34 _ (by kernel_rfl), JK.made hok hst hJ (List.mem_of_getElem? (i := 13) rfl) (Below.refl _ _)⟩
              · rintro l gv W hun hdep hcl hJ hg ha hp
                have eg : gv 32 = undef := hJ.lit _ (List.mem_of_getElem? (i := 11) rfl) (hdep 11 (by kernel_rfl))
                have hgd := (hg 32 (by kernel_rfl)).trans (congrArg some eg)
                refine' op_out ?h47 ?hw47 ?hK47
                case h47 => rfl
                case hw47 => exact (wants_undef false rfl (by kernel_rfl) hgd)
                case hK47 => exact ⟨_, hp 35 _ (by kernel_rfl), JK.made hok hst hJ (List.mem_of_getElem? (i := 14) rfl) (Below.refl _ _)⟩
              · rintro l gv W hun hdep hcl hJ hg ha hp
                have eg : gv 32 = undef := hJ.lit _ (List.mem_of_getElem? (i := 11) rfl) (hdep 11 (by kernel_rfl))
                have hgd := (hg 32 (by kernel_rfl)).trans (congrArg some eg)
                refine' op_out ?h48 ?hw48 ?hK48
                case h48 => rfl
                case hw48 => exact (wants_undef false rfl (by kernel_rfl) hgd)
                case hK48 => exact ⟨_, hp 36 _ (by kernel_rfl), JK.made hok hst hJ (List.mem_of_getElem? (i := 15) rfl) (Below.refl _ _)⟩
              · rintro l gv W hun hdep hcl hJ hg ha hp
                have eg : gv 32 = undef := hJ.lit _ (List.mem_of_getElem? (i := 11) rfl) (hdep 11 (by kernel_rfl))
                have hgd := (hg 32 (by kernel_rfl)).trans (congrArg some eg)
                refine' op_out ?h49 ?hw49 ?hK49
                case h49 => rfl
                case hw49 => exact (wants_undef false rfl (by kernel_rfl) hgd)
                case hK49 => exact ⟨_, hp 37 _ (by kernel_rfl), JK.made hok hst hJ (List.mem_of_getElem? (i := 16) rfl) (Below.refl _ _)⟩
              · rintro l gv W hun hdep hcl hJ hg ha hp
                have eg : gv 32 = undef := hJ.lit _ (List.mem_of_getElem? (i := 11) rfl) (hdep 11 (by kernel_rfl))
                have hgd := (hg 32 (by kernel_rfl)).trans (congrArg some eg)
                refine' op_out ?h50 ?hw50 ?hK50
                case h50 => rfl
                case hw50 => exact (wants_undef false rfl (by kernel_rfl) hgd)
                case hK50 => exact ⟨_, hp 38 _ (by kernel_rfl), JK.made hok hst hJ (List.mem_of_getElem? (i := 17) rfl) (Below.refl _ _)⟩
              · rintro l gv W hun hdep hcl hJ hg ha hp
                have eg : gv 32 = undef := hJ.lit _ (List.mem_of_getElem? (i := 11) rfl) (hdep 11 (by kernel_rfl))
                have hgd := (hg 32 (by kernel_rfl)).trans (congrArg some eg)
                refine' op_out ?h51 ?hw51 ?hK51
                case h51 => rfl
                case hw51 => exact (wants_undef false rfl (by kernel_rfl) hgd)
                case hK51 => exact ⟨_, hp 39 _ (by kernel_rfl), JK.made hok hst hJ (List.mem_of_getElem? (i := 18) rfl) (Below.refl _ _)⟩
              · rintro l gv W hun hdep hcl hJ hg ha hp
                have eg : gv 32 = undef := hJ.lit _ (List.mem_of_getElem? (i := 11) rfl) (hdep 11 (by kernel_rfl))
                have hgd := (hg 32 (by kernel_rfl)).trans (congrArg some eg)
                refine' op_out ?h52 ?hw52 ?hK52
                case h52 => rfl
                case hw52 => exact (wants_undef false rfl (by kernel_rfl) hgd)
                case hK52 => exact ⟨_, hp 40 _ (by kernel_rfl), JK.made hok hst hJ (List.mem_of_getElem? (i := 19) rfl) (Below.refl _ _)⟩
              · rintro l gv W hun hdep hcl hJ hg ha hp
                have eg : gv 32 = undef := hJ.lit _ (List.mem_of_getElem? (i := 11) rfl) (hdep 11 (by kernel_rfl))
                have hgd := (hg 32 (by kernel_rfl)).trans (congrArg some eg)
                refine' op_out ?h53 ?hw53 ?hK53
                case h53 => rfl
                case hw53 => exact (wants_undef false rfl (by kernel_rfl) hgd)
                case hK53 => exact ⟨_, hp 41 _ (by kernel_rfl), JK.made hok hst hJ (List.mem_of_getElem? (i := 20) rfl) (Below.refl _ _)⟩
              · rintro l gv W hun hdep hcl hJ hg ha hp
                have eg : gv 41 = undef := hJ.lit _ (List.mem_of_getElem? (i := 20) rfl) (hdep 20 (by kernel_rfl))
                have hgd := (hg 41 (by kernel_rfl)).trans (congrArg some eg)
                refine' op_out ?h54 ?hw54 ?hK54
                case h54 => rfl
                case hw54 => exact (wants_undef true rfl (by kernel_rfl) hgd)
                case hK54 => exact ⟨_, hp 42 _ (by kernel_rfl), JK.made hok hst hJ (List.mem_of_getElem? (i := 21) rfl) (Below.refl _ _)⟩
              · rintro l gv W hun hdep hcl hJ hg ha hp
                have eg : gv 41 = undef := hJ.lit _ (List.mem_of_getElem? (i := 20) rfl) (hdep 20 (by kernel_rfl))
                have hgd := (hg 41 (by kernel_rfl)).trans (congrArg some eg)
                refine' op_out ?h55 ?hw55 ?hK55
                case h55 => rfl
                case hw55 => exact (wants_undef true rfl (by kernel_rfl) hgd)
                case hK55 => exact ⟨_, hp 43 _ (by kernel_rfl), JK.made hok hst hJ (List.mem_of_getElem? (i := 22) rfl) (Below.refl _ _)⟩
              · rintro l gv W hun hdep hcl hJ hg ha hp
                have eg : gv 41 = undef := hJ.lit _ (List.mem_of_getElem? (i := 20) rfl) (hdep 20 (by kernel_rfl))
                have hgd := (hg 41 (by kernel_rfl)).trans (congrArg some eg)
                refine' op_out ?h56 ?hw56 ?hK56
                case h56 => rfl
                case hw56 => exact (wants_undef true rfl (by kernel_rfl) hgd)
                case hK56 => exact ⟨_, hp 44 _ (by kernel_rfl), JK.made hok hst hJ (List.mem_of_getElem? (i := 23) rfl) (Below.refl _ _)⟩
              · rintro l gv W hun hdep hcl hJ hg ha hp
                have eg : gv 41 = undef := hJ.lit _ (List.mem_of_getElem? (i := 20) rfl) (hdep 20 (by kernel_rfl))
                have hgd := (hg 41 (by kernel_rfl)).trans (congrArg some eg)
                refine' op_out ?h57 ?hw57 ?hK57
                case h57 => rfl
                case hw57 => exact (wants_undef true rfl (by kernel_rfl) hgd)
                case hK57 => exact ⟨_, hp 45 _ (by kernel_rfl), JK.made hok hst hJ (List.mem_of_getElem? (i := 24) rfl) (Below.refl _ _)⟩
              · rintro l gv W hun hdep hcl hJ hg ha hp
                have eg : gv 41 = undef := hJ.lit _ (List.mem_of_getElem? (i := 20) rfl) (hdep 20 (by kernel_rfl))
                have hgd := (hg 41 (by kernel_rfl)).trans (congrArg some eg)
                refine' op_out ?h58 ?hw58 ?hK58
                case h58 => rfl
                case hw58 => exact (wants_undef true rfl (by kernel_rfl) hgd)
                case hK58 => exact ⟨_, hp 46 _ (by kernel_rfl), JK.made hok hst hJ (List.mem_of_getElem? (i := 25) rfl) (Below.refl _ _)⟩
              · rintro l gv W hun hdep hcl hJ hg ha hp
                have eg : gv 41 = undef := hJ.lit _ (List.mem_of_getElem? (i := 20) rfl) (hdep 20 (by kernel_rfl))
                have hgd := (hg 41 (by kernel_rfl)).trans (congrArg some eg)
                refine' op_out ?h59 ?hw59 ?hK59
                case h59 => rfl
                case hw59 => exact (wants_undef true rfl (by kernel_rfl) hgd)
                case hK59 => exact ⟨_, hp 47 _ (by kernel_rfl), JK.made hok hst hJ (List.mem_of_getElem? (i := 26) rfl) (Below.refl _ _)⟩
              · rintro l gv W hun hdep hcl hJ hg ha hp
                have eg : gv 41 = undef := hJ.lit _ (List.mem_of_getElem? (i := 20) rfl) (hdep 20 (by kernel_rfl))
                have hgd := (hg 41 (by kernel_rfl)).trans (congrArg some eg)
                refine' op_out ?h60 ?hw60 ?hK60
                case h60 => rfl
                case hw60 => exact (wants_undef true rfl (by kernel_rfl) hgd)
                case hK60 => exact ⟨_, hp 48 _ (by kernel_rfl), JK.made hok hst hJ (List.mem_of_getElem? (i := 27) rfl) (Below.refl _ _)⟩
              · rintro l gv W hun hdep hcl hJ hg ha hp
                have eg : gv 41 = undef := hJ.lit _ (List.mem_of_getElem? (i := 20) rfl) (hdep 20 (by kernel_rfl))
                have hgd := (hg 41 (by kernel_rfl)).trans (congrArg some eg)
                refine' op_out ?h61 ?hw61 ?hK61
                case h61 => rfl
                case hw61 => exact (wants_undef true rfl (by kernel_rfl) hgd)
                case hK61 => exact ⟨_, hp 49 _ (by kernel_rfl), JK.made hok hst hJ (List.mem_of_getElem? (i := 28) rfl) (Below.refl _ _)⟩
              · rintro l gv W hun hdep hcl hJ hg ha hp
                have eg : gv 32 = undef := hJ.lit _ (List.mem_of_getElem? (i := 11) rfl) (hdep 11 (by kernel_rfl))
                have hgd := (hg 32 (by kernel_rfl)).trans (congrArg some eg)
                refine' op_out ?h62 ?hw62 ?hK62
                case h62 => rfl
                case hw62 => exact (wants_undef false rfl (by kernel_rfl) hgd)
                case hK62 => exact ⟨_, hp 50 _ (by kernel_rfl), JK.made hok hst hJ (List.mem_of_getElem? (i := 29) rfl) (Below.refl _ _)⟩
              · rintro l gv W hun hdep hcl hJ hg ha hp
                have eg : gv 23 = .bool false := hJ.lit _ (List.mem_of_getElem? (i := 2) rfl) (hdep 2 (by kernel_rfl))
                have hgd := (hg 23 (by kernel_rfl)).trans (congrArg some eg)
                refine' op_out ?h63 ?hw63 ?hK63
                case h63 => rfl
                case hw63 => exact (wants_no true rfl (by kernel_rfl) hgd)
                case hK63 => exact ⟨_, hp 51 _ (by kernel_rfl), JK.made hok hst hJ (List.mem_of_getElem? (i := 30) rfl) (Below.refl _ _)⟩
              · rintro l gv W hun hdep hcl hJ hg ha hp
                refine' op_val ?h64 ?hw64 ?hr64 ?hK64
                case h64 => rfl
                case hw64 => exact rfl
                case hr64 => exact (ex_pickF rfl ((eval_tmp (hg 23 (by kernel_rfl))).trans (hJ.lit _ (List.mem_of_getElem? (i := 2) rfl) (hdep 2 (by kernel_rfl)))) rfl)
                case hK64 => exact ⟨_, hp 52 _ (by kernel_rfl), JK.made hok hst hJ (List.mem_of_getElem? (i := 31) rfl) (Below.refl _ _)⟩
            case hend64 =>
              rintro ll gv W9 hl hJ
              have e21 : gv 21 = .bool true := hJ.lit _ (List.mem_of_getElem? (i := 0) rfl) (hl 0 (of_decide_eq_true (by kernel_rfl)))
              have e22 : gv 22 = .bool false := hJ.lit _ (List.mem_of_getElem? (i := 1) rfl) (hl 1 (of_decide_eq_true (by kernel_rfl)))
              have e23 : gv 23 = .bool false := hJ.lit _ (List.mem_of_getElem? (i := 2) rfl) (hl 2 (of_decide_eq_true (by kernel_rfl)))
              have e24 : gv 24 = undef := hJ.lit _ (List.mem_of_getElem? (i := 3) rfl) (hl 3 (of_decide_eq_true (by kernel_rfl)))
              have e25 : gv 25 = undef := hJ.lit _ (List.mem_of_getElem? (i := 4) rfl) (hl 4 (of_decide_eq_true (by kernel_rfl)))
              have e26 : gv 26 = undef := hJ.lit _ (List.mem_of_getElem? (i := 5) rfl) (hl 5 (of_decide_eq_true (by kernel_rfl)))
              have e27 : gv 27 = undef := hJ.lit _ (List.mem_of_getElem? (i := 6) rfl) (hl 6 (of_decide_eq_true (by kernel_rfl)))
              have e28 : gv 28 = undef := hJ.lit _ (List.mem_of_getElem? (i := 7) rfl) (hl 7 (of_decide_eq_true (by kernel_rfl)))
              have e29 : gv 29 = undef := hJ.lit _ (List.mem_of_getElem? (i := 8) rfl) (hl 8 (of_decide_eq_true (by kernel_rfl)))
              have e30 : gv 30 = undef := hJ.lit _ (List.mem_of_getElem? (i := 9) rfl) (hl 9 (of_decide_eq_true (by kernel_rfl)))
              have e31 : gv 31 = undef := hJ.lit _ (List.mem_of_getElem? (i := 10) rfl) (hl 10 (of_decide_eq_true (by kernel_rfl)))
              have e32 : gv 32 = undef := hJ.lit _ (List.mem_of_getElem? (i := 11) rfl) (hl 11 (of_decide_eq_true (by kernel_rfl)))
              have e33 : gv 33 = undef := hJ.lit _ (List.mem_of_getElem? (i := 12) rfl) (hl 12 (of_decide_eq_true (by kernel_rfl)))
              have e34 : gv 34 = undef := hJ.lit _ (List.mem_of_getElem? (i := 13) rfl) (hl 13 (of_decide_eq_true (by kernel_rfl)))
              have e35 : gv 35 = undef := hJ.lit _ (List.mem_of_getElem? (i := 14) rfl) (hl 14 (of_decide_eq_true (by kernel_rfl)))
              have e36 : gv 36 = undef := hJ.lit _ (List.mem_of_getElem? (i := 15) rfl) (hl 15 (of_decide_eq_true (by kernel_rfl)))
              have e37 : gv 37 = undef := hJ.lit _ (List.mem_of_getElem? (i := 16) rfl) (hl 16 (of_decide_eq_true (by kernel_rfl)))
              have e38 : gv 38 = undef := hJ.lit _ (List.mem_of_getElem? (i := 17) rfl) (hl 17 (of_decide_eq_true (by kernel_rfl)))
              have e39 : gv 39 = undef := hJ.lit _ (List.mem_of_getElem? (i := 18) rfl) (hl 18 (of_decide_eq_true (by kernel_rfl)))
              have e40 : gv 40 = undef := hJ.lit _ (List.mem_of_getElem? (i := 19) rfl) (hl 19 (of_decide_eq_true (by kernel_rfl)))
              have e41 : gv 41 = undef := hJ.lit _ (List.mem_of_getElem? (i := 20) rfl) (hl 20 (of_decide_eq_true (by kernel_rfl)))
              have e42 : gv 42 = undef := hJ.lit _ (List.mem_of_getElem? (i := 21) rfl) (hl 21 (of_decide_eq_true (by kernel_rfl)))
              have e43 : gv 43 = undef := hJ.lit _ (List.mem_of_getElem? (i := 22) rfl) (hl 22 (of_decide_eq_true (by kernel_rfl)))
              have e44 : gv 44 = undef := hJ.lit _ (List.mem_of_getElem? (i := 23) rfl) (hl 23 (of_decide_eq_true (by kernel_rfl)))
              have e45 : gv 45 = undef := hJ.lit _ (List.mem_of_getElem? (i := 24) rfl) (hl 24 (of_decide_eq_true (by kernel_rfl)))
              have e46 : gv 46 = undef := hJ.lit _ (List.mem_of_getElem? (i := 25) rfl) (hl 25 (of_decide_eq_true (by kernel_rfl)))
              have e47 : gv 47 = undef := hJ.lit _ (List.mem_of_getElem? (i := 26) rfl) (hl 26 (of_decide_eq_true (by kernel_rfl)))
              have e48 : gv 48 = undef := hJ.lit _ (List.mem_of_getElem? (i := 27) rfl) (hl 27 (of_decide_eq_true (by kernel_rfl)))
              have e49 : gv 49 = undef := hJ.lit _ (List.mem_of_getElem? (i := 28) rfl) (hl 28 (of_decide_eq_true (by kernel_rfl)))
              have e50 : gv 50 = undef := hJ.lit _ (List.mem_of_getElem? (i := 29) rfl) (hl 29 (of_decide_eq_true (by kernel_rfl)))
              have e51 : gv 51 = undef := hJ.lit _ (List.mem_of_getElem? (i := 30) rfl) (hl 30 (of_decide_eq_true (by kernel_rfl)))
              have e52 : gv 52 = .bool false := hJ.lit _ (List.mem_of_getElem? (i := 31) rfl) (hl 31 (of_decide_eq_true (by kernel_rfl)))
              simp only [zipV, List.map_cons, List.map_nil, puts, Act.put, List.setIfInBounds_toArray, List.set_cons_succ, List.set_cons_zero, e21, e22, e23, e24, e25, e26, e27, e28, e29, e30, e31, e32, e33, e34, e35, e36, e37, e38, e39, e40, e41, e42, e43, e44, e45, e46, e47, e48, e49, e50, e51, e52]
              have hlow := Lib.hid hJ.low
              clear e21 e22 e23 e24 e25 e26 e27 e28 e29 e30 e31 e32 e33 e34 e35 e36 e37 e38 e39 e40 e41 e42 e43 e44 e45 e46 e47 e48 e49 e50 e51 e52 hJ hl
              obtain ⟨w8, hw8⟩ : ∃ w8, W9 = w8 := ⟨_, rfl⟩
              rw [hw8] at hlow ⊢
              clear hw8 d0 d1 c0 c1
              have hB := Lib.hid (show Below W1.heap.size W1 w8 from bel_step hlow6.out hlow.out)
              have hO := Lib.hid (show w8.ownsRow W1.heap.size 84 2 u5 q.length (flat q) from owns_below (bel_step (bel_drew wr) hlow.out) hownh.out)
              have c0 := cell_below hB.out hc0h.out
              have c1 := cell_below hB.out hc1h.out
              have d0 := cell_below hB.out z0h.out
              have d1 := cell_below hB.out z1h.out
              clear hlow hlow6 hownh
              have hbl := bel_laid w8 (.cells #[.string ys, .int .i64 yx] 84)
              have hoh := Lib.hid (owns_below hbl hO.out)
              have hlt2 : ∀ g', u5.ownBlock = some g' → W1.heap.size ≤ g' ∧ g' < (w8.alloc (.cells #[.string ys, .int .i64 yx] 84)).heap.size := hoh.out.lt
              have hb4h := Lib.hid (bel_step hB.out hbl)
              have hszv : W1.heap.size ≤ w8.heap.size := hB.out.size
              clear hbl hO hB
              go_wp2_with (at_builtin; refine wpList_append_own_at _ rfl _ _ 42 rfl W1.heap.size 84 i0 (.agg #[.string ⟨#[]⟩, .int .i64 0]) 2 24 Tryz.underlying42 hi hz0 hz1 hz2 rfl (by decide) _ _ _ rfl hoh.out ⟨w8.heap.size, 0, none⟩ 1 1 [.string ys, .int .i64 yx] rfl rfl ?c6_1 ?c6_2 ?c6_3 ?c6_4 ?c6_5 ?_)
              (try case c6_1 => intro j u hu; rw [Addr.add_lit, Nat.zero_add, World.cell?_alloc_new]; simpa using hu)
              case c6_2 => first | exact ⟨rfl, rfl⟩ | (intro u hu; simp at hu; rcases hu with rfl | rfl <;> rfl)
              case c6_3 => unfold maxLen; omega
              case c6_4 => omega
              case c6_5 => first | omega | (rw [World.size_alloc]; omega)
              intro vv w11 hown1 hgrow _ hob
              have hB := Lib.hid (show Below W1.heap.size W1 w11 from hb4h.out.grown hgrow hb4h.out.size (fun g' e => (hlt2 g' e).1))
              have hO := Lib.hid (show w11.ownsRow W1.heap.size 84 2 vv (q ++ [(ys, yx)]).length (flat (q ++ [(ys, yx)])) by rw [flat_snoc]; simp only [List.length_append, List.length_cons, List.length_nil, Nat.zero_add]; exact hown1)
              clear hown1 hgrow hob hoh hlt2 hb4h hszv
              clear c0 c1 d0 d1
              go_wp2
              go_roundw
              case rel => exact ⟨k + 1, pre ++ [(ys, yx)], r, q ++ [(ys, yx)], true, rfl, (by rw [hlh.out]; simp), (by simp [hk]), (fun hm => (List.mem_append.1 hm).elim (fun h => hnoth.out h) (fun h => heh.out (List.mem_singleton.1 h).symm)), rfl, (fun _ => ⟨(by obtain ⟨z, hz, hz2⟩ := (hpth.out (by trivial)).1; exact ⟨z, List.mem_append_left _ hz, hz2⟩), (by rw [(hpth.out (by trivial)).2, putS_some _ _ _ (hpth.out (by trivial)).1])⟩), (fun h => by cases h), hO.out, (by have := hq; simp; omega), hB.out⟩
              case measure => simp [intOf]; omega
          | false =>
            cases hlt : Op.bytesLess s.toList ys.toList with
            | true =>
              have hLT : ltS (s, x) (ys, yx) := (symCmp_lt _ _).2 (.inl (by have := hlt; rw [bytesLess_eq] at this; exact of_decide_eq_true this))
              have hlow6 := Lib.hid (show Below W1.heap.size W1 wr.drew from bel_step hbwh.out (bel_drew wr))
              have d0 := cell_below hlow6.out z0h.out
              have d1 := cell_below hlow6.out z1h.out
              have c0 := cell_below hlow6.out hc0h.out
              have c1 := cell_below hlow6.out hc1h.out
              go_wp2_with fail
              refine wp_region_run (by kernel_rfl) 71 [21, 22, 23, 24, 25, 26, 27, 28, 29, 30, 31, 32, 33, 34, 35, 36, 37, 38, 39, 40, 41, 42, 43, 44, 45, 46, 47, 48, 49, 50, 51, 52] (JK wr.drew [(0, 21, .bool false), (1, 22, .bool true), (2, 23, .bool true), (3, 24, .slice (some ⟨b, 0, none⟩) l.length c), (4, 25, .int .i64 (k : Int)), (5, 26, .pointer (some ⟨b, k * 2, none⟩)), (6, 27, .pointer (some ⟨b, k * 2, none⟩)), (7, 28, .string ys), (8, 29, .pointer (some ⟨g, 0, none⟩)), (9, 30, .string s), (10, 31, .bool true), (11, 32, .bool true), (12, 33, undef), (13, 34, undef), (14, 35, undef), (15, 36, undef), (16, 37, undef), (17, 38, undef), (18, 39, undef), (19, 40, undef), (20, 41, undef), (21, 42, undef), (22, 43, undef), (23, 44, undef), (24, 45, undef), (25, 46, undef), (26, 47, undef), (27, 48, undef), (28, 49, undef), (29, 50, undef), (30, 51, .bool true), (31, 52, .bool true)] []) (by kernel_rfl) rfl (JK.start _ _) ?hst160 ?hend160
              case hst160 =>
                have hok : okK [(0, 21, .bool false), (1, 22, .bool true), (2, 23, .bool true), (3, 24, .slice (some ⟨b, 0, none⟩) l.length c), (4, 25, .int .i64 (k : Int)), (5, 26, .pointer (some ⟨b, k * 2, none⟩)), (6, 27, .pointer (some ⟨b, k * 2, none⟩)), (7, 28, .string ys), (8, 29, .pointer (some ⟨g, 0, none⟩)), (9, 30, .string s), (10, 31, .bool true), (11, 32, .bool true), (12, 33, undef), (13, 34, undef), (14, 35, undef), (15, 36, undef), (16, 37, undef), (17, 38, undef), (18, 39, undef), (19, 40, undef), (20, 41, undef), (21, 42, undef), (22, 43, undef), (23, 44, undef), (24, 45, undef), (25, 46, undef), (26, 47, undef), (27, 48, undef), (28, 49, undef), (29, 50, undef), (30, 51, .bool true), (31, 52, .bool true)] [] = true := by kernel_rfl
                have hst : ∀ p ∈ ([] : List (Nat × Nat × (Value → World → Prop))), Stb p.2.2 := fun p hp => (by cases hp)
                refine ⟨?_, ?_, ?_, ?_, ?_, ?_, ?_, ?_, ?_, ?_, ?_, ?_, ?_, ?_, ?_, ?_, ?_, ?_, ?_, ?_, ?_, ?_, ?_, ?_, ?_, ?_, ?_, ?_, ?_, ?_, ?_, ?_, trivial⟩
                · rintro l gv W hun hdep hcl hJ hg ha hp
                  refine' op_val ?h129 ?hw129 ?hr129 ?hK129
                  case h129 => rfl
                  case hw129 => exact rfl
                  case hr129 => exact (ex_move rfl (eval_tmp ((ha 6 (by kernel_rfl)).trans rfl)))
                  case hK129 => exact ⟨_, hp 21 _ (by kernel_rfl), JK.made hok hst hJ (List.mem_of_getElem? (i := 0) rfl) (Below.refl _ _)⟩
                · rintro l gv W hun hdep hcl hJ hg ha hp
                  refine' op_val ?h130 ?hw130 ?hr130 ?hK130
                  case h130 => rfl
                  case hw130 => exact rfl
                  case hr130 => exact (ex_not rfl ((eval_tmp (hg 21 (by kernel_rfl))).trans (hJ.lit _ (List.mem_of_getElem? (i := 0) rfl) (hdep 0 (by kernel_rfl)))))
                  case hK130 => exact ⟨_, hp 22 _ (by kernel_rfl), JK.made hok hst hJ (List.mem_of_getElem? (i := 1) rfl) (Below.refl _ _)⟩
                · rintro l gv W hun hdep hcl hJ hg ha hp
                  refine' op_val ?h131 ?hw131 ?hr131 ?hK131
                  case h131 => rfl
                  case hw131 => exact rfl
                  case hr131 => exact (ex_move rfl ((eval_tmp (hg 22 (by kernel_rfl))).trans (hJ.lit _ (List.mem_of_getElem? (i := 1) rfl) (hdep 1 (by kernel_rfl)))))
                  case hK131 => exact ⟨_, hp 23 _ (by kernel_rfl), JK.made hok hst hJ (List.mem_of_getElem? (i := 2) rfl) (Below.refl _ _)⟩
                · rintro l gv W hun hdep hcl hJ hg ha hp
                  have eg : gv 23 = .bool true := hJ.lit _ (List.mem_of_getElem? (i := 2) rfl) (hdep 2 (by kernel_rfl))
                  have hgd := (hg 23 (by kernel_rfl)).trans (congrArg some eg)
                  refine' op_val ?h132 ?hw132 ?hr132 ?hK132
                  case h132 => rfl
                  case hw132 => exact (wants_yes true rfl (by kernel_rfl) hgd)
                  case hr132 => exact (ex_move rfl (eval_tmp ((ha 0 (by kernel_rfl)).trans rfl)))
                  case hK132 => exact ⟨_, hp 24 _ (by kernel_rfl), JK.made hok hst hJ (List.mem_of_getElem? (i := 3) rfl) (Below.refl _ _)⟩
                · rintro l gv W hun hdep hcl hJ hg ha hp
                  have eg : gv 23 = .bool true := hJ.lit _ (List.mem_of_getElem? (i := 2) rfl) (hdep 2 (by kernel_rfl))
                  have hgd := (hg 23 (by kernel_rfl)).trans (congrArg some eg)
                  refine' op_val ?h133 ?hw133 ?hr133 ?hK133
                  case h133 => rfl
                  case hw133 => exact (wants_yes true rfl (by kernel_rfl) hgd)
                  case hr133 => exact (ex_move rfl (eval_tmp ((ha 7 (by kernel_rfl)).trans rfl)))
                  case hK133 => exact ⟨_, hp 25 _ (by kernel_rfl), JK.made hok hst hJ (List.mem_of_getElem? (i := 4) rfl) (Below.refl _ _)⟩
                · rintro l gv W hun hdep hcl hJ hg ha hp
                  have eg : gv 23 = .bool true := hJ.lit _ (List.mem_of_getElem? (i := 2) rfl) (hdep 2 (by kernel_rfl))
                  have hgd := (hg 23 (by kernel_rfl)).trans (congrArg some eg)
                  refine' op_val ?h134 ?hw134 ?hr134 ?hK134
                  case h134 => rfl
                  case hw134 => exact (wants_yes true rfl (by kernel_rfl) hgd)
                  case hr134 => exact (ex_indexAddr rfl ((eval_tmp (hg 24 (by kernel_rfl))).trans (hJ.lit _ (List.mem_of_getElem? (i := 3) rfl) (hdep 3 (by kernel_rfl)))) ((eval_tmp (hg 25 (by kernel_rfl))).trans (hJ.lit _ (List.mem_of_getElem? (i := 4) rfl) (hdep 4 (by kernel_rfl)))) (ix42 hkl))
                  case hK134 => exact ⟨_, hp 26 _ (by kernel_rfl), JK.made hok hst hJ (List.mem_of_getElem? (i := 5) rfl) (Below.refl _ _)⟩
                · rintro l gv W hun hdep hcl hJ hg ha hp
                  have eg : gv 23 = .bool true := hJ.lit _ (List.mem_of_getElem? (i := 2) rfl) (hdep 2 (by kernel_rfl))
                  have hgd := (hg 23 (by kernel_rfl)).trans (congrArg some eg)
                  refine' op_val ?h135 ?hw135 ?hr135 ?hK135
                  case h135 => rfl
                  case hw135 => exact (wants_yes true rfl (by kernel_rfl) hgd)
                  case hr135 => exact (ex_field rfl ((eval_tmp (hg 26 (by kernel_rfl))).trans (hJ.lit _ (List.mem_of_getElem? (i := 5) rfl) (hdep 5 (by kernel_rfl)))) fld0)
                  case hK135 => exact ⟨_, hp 27 _ (by kernel_rfl), JK.made hok hst hJ (List.mem_of_getElem? (i := 6) rfl) (Below.refl _ _)⟩
                · rintro l gv W hun hdep hcl hJ hg ha hp
                  have eg : gv 23 = .bool true := hJ.lit _ (List.mem_of_getElem? (i := 2) rfl) (hdep 2 (by kernel_rfl))
                  have hgd := (hg 23 (by kernel_rfl)).trans (congrArg some eg)
                  refine' op_val ?h136 ?hw136 ?hr136 ?hK136
                  case h136 => rfl
                  case hw136 => exact (wants_yes true rfl (by kernel_rfl) hgd)
                  case hr136 => exact (ex_load rfl ((eval_tmp (hg 27 (by kernel_rfl))).trans (hJ.lit _ (List.mem_of_getElem? (i := 6) rfl) (hdep 6 (by kernel_rfl)))) (ld9 (cell_below hJ.low d0)))
                  case hK136 => exact ⟨_, hp 28 _ (by kernel_rfl), JK.made hok hst hJ (List.mem_of_getElem? (i := 7) rfl) (Below.refl _ _)⟩
                · rintro l gv W hun hdep hcl hJ hg ha hp
                  have eg : gv 23 = .bool true := hJ.lit _ (List.mem_of_getElem? (i := 2) rfl) (hdep 2 (by kernel_rfl))
                  have hgd := (hg 23 (by kernel_rfl)).trans (congrArg some eg)
                  refine' op_val ?h137 ?hw137 ?hr137 ?hK137
                  case h137 => rfl
                  case hw137 => exact (wants_yes true rfl (by kernel_rfl) hgd)
                  case hr137 => exact (ex_field rfl (eval_tmp ((ha 3 (by kernel_rfl)).trans rfl)) fld0)
                  case hK137 => exact ⟨_, hp 29 _ (by kernel_rfl), JK.made hok hst hJ (List.mem_of_getElem? (i := 8) rfl) (Below.refl _ _)⟩
                · rintro l gv W hun hdep hcl hJ hg ha hp
                  have eg : gv 23 = .bool true := hJ.lit _ (List.mem_of_getElem? (i := 2) rfl) (hdep 2 (by kernel_rfl))
                  have hgd := (hg 23 (by kernel_rfl)).trans (congrArg some eg)
                  refine' op_val ?h138 ?hw138 ?hr138 ?hK138
                  case h138 => rfl
                  case hw138 => exact (wants_yes true rfl (by kernel_rfl) hgd)
                  case hr138 => exact (ex_load rfl ((eval_tmp (hg 29 (by kernel_rfl))).trans (hJ.lit _ (List.mem_of_getElem? (i := 8) rfl) (hdep 8 (by kernel_rfl)))) (ld9 (cell_below hJ.low c0)))
                  case hK138 => exact ⟨_, hp 30 _ (by kernel_rfl), JK.made hok hst hJ (List.mem_of_getElem? (i := 9) rfl) (Below.refl _ _)⟩
                · rintro l gv W hun hdep hcl hJ hg ha hp
                  have eg : gv 23 = .bool true := hJ.lit _ (List.mem_of_getElem? (i := 2) rfl) (hdep 2 (by kernel_rfl))
                  have hgd := (hg 23 (by kernel_rfl)).trans (congrArg some eg)
                  refine' op_val ?h139 ?hw139 ?hr139 ?hK139
                  case h139 => rfl
                  case hw139 => exact (wants_yes true rfl (by kernel_rfl) hgd)
                  case hr139 => exact (ex_bin rfl ((eval_tmp (hg 28 (by kernel_rfl))).trans (hJ.lit _ (List.mem_of_getElem? (i := 7) rfl) (hdep 7 (by kernel_rfl)))) ((eval_tmp (hg 30 (by kernel_rfl))).trans (hJ.lit _ (List.mem_of_getElem? (i := 9) rfl) (hdep 9 (by kernel_rfl)))) (guard_str _ _ _ _ _ W) (gtr9 hlt))
                  case hK139 => exact ⟨_, hp 31 _ (by kernel_rfl), JK.made hok hst hJ (List.mem_of_getElem? (i := 10) rfl) (Below.refl _ _)⟩
                · rintro l gv W hun hdep hcl hJ hg ha hp
                  have eg : gv 23 = .bool true := hJ.lit _ (List.mem_of_getElem? (i := 2) rfl) (hdep 2 (by kernel_rfl))
                  have hgd := (hg 23 (by kernel_rfl)).trans (congrArg some eg)
                  refine' op_val ?h140 ?hw140 ?hr140 ?hK140
                  case h140 => rfl
                  case hw140 => exact (wants_yes true rfl (by kernel_rfl) hgd)
                  case hr140 => exact (ex_move rfl ((eval_tmp (hg 31 (by kernel_rfl))).trans (hJ.lit _ (List.mem_of_getElem? (i := 10) rfl) (hdep 10 (by kernel_rfl)))))
                  case hK140 => exact ⟨_, hp 32 _ (by kernel_rfl), JK.made hok hst hJ (List.mem_of_getElem? (i := 11) rfl) (Below.refl _ _)⟩
                · rintro l gv W hun hdep hcl hJ hg ha hp
                  have eg : gv 32 = .bool true := hJ.lit _ (List.mem_of_getElem? (i := 11) rfl) (hdep 11 (by kernel_rfl))
                  have hgd := (hg 32 (by kernel_rfl)).trans (congrArg some eg)
                  refine' op_out ?h141 ?hw141 ?hK141
                  case h141 => rfl
                  case hw141 => exact (wants_no false rfl (by kernel_rfl) hgd)
                  case hK141 => exact ⟨_, hp 33 _ (by kernel_rfl), JK.made hok hst hJ (List.mem_of_getElem? (i := 12) rfl) (Below.refl _ _)⟩
                · rintro l gv W hun hdep hcl hJ hg ha hp
                  have eg : gv 32 = .bool true := hJ.lit _ (List.mem_of_getElem? (i := 11) rfl) (hdep 11 (by kernel_rfl))
                  have hgd := (hg 32 (by kernel_rfl)).trans (congrArg some eg)
                  refine' op_out ?h142 ?hw142 ?hK142
                  case h142 => rfl
                  case hw142 => exact (wants_no false rfl (by kernel_rfl) hgd)
                  case hK142 => exact ⟨_, hp 34 _ (by kernel_rfl), JK.made hok hst hJ (List.mem_of_getElem? (i := 13) rfl) (Below.refl _ _)⟩
                · rintro l gv W hun hdep hcl hJ hg ha hp
                  have eg : gv 32 = .bool true := hJ.lit _ (List.mem_of_getElem? (i := 11) rfl) (hdep 11 (by kernel_rfl))
                  have hgd := (hg 32 (by kernel_rfl)).trans (congrArg some eg)
                  refine' op_out ?h143 ?hw143 ?hK143
                  case h143 => rfl
                  case hw143 => exact (wants_no false rfl (by kernel_rfl) hgd)
                  case hK143 => exact ⟨_, hp 35 _ (by kernel_rfl), JK.made hok hst hJ (List.mem_of_getElem? (i := 14) rfl) (Below.refl _ _)⟩
                · rintro l gv W hun hdep hcl hJ hg ha hp
                  have eg : gv 32 = .bool true := hJ.lit _ (List.mem_of_getElem? (i := 11) rfl) (hdep 11 (by kernel_rfl))
                  have hgd := (hg 32 (by kernel_rfl)).trans (congrArg some eg)
                  refine' op_out ?h144 ?hw144 ?hK144
                  case h144 => rfl
                  case hw144 => exact (wants_no false rfl (by kernel_rfl) hgd)
                  case hK144 => exact ⟨_, hp 36 _ (by kernel_rfl), JK.made hok hst hJ (List.mem_of_getElem? (i := 15) rfl) (Below.refl _ _)⟩
                · rintro l gv W hun hdep hcl hJ hg ha hp
                  have eg : gv 32 = .bool true := hJ.lit _ (List.mem_of_getElem? (i := 11) rfl) (hdep 11 (by kernel_rfl))
                  have hgd := (hg 32 (by kernel_rfl)).trans (congrArg some eg)
                  refine' op_out ?h145 ?hw145 ?hK145
                  case h145 => rfl
                  case hw145 => exact (wants_no false rfl (by kernel_rfl) hgd)
                  case hK145 => exact ⟨_, hp 37 _ (by kernel_rfl), JK.made hok hst hJ (List.mem_of_getElem? (i := 16) rfl) (Below.refl _ _)⟩
                · rintro l gv W hun hdep hcl hJ hg ha hp
                  have eg : gv 32 = .bool true := hJ.lit _ (List.mem_of_getElem? (i := 11) rfl) (hdep 11 (by kernel_rfl))
                  have hgd := (hg 32 (by kernel_rfl)).trans (congrArg some eg)
                  refine' op_out ?h146 ?hw146 ?hK146
                  case h146 => rfl
                  case hw146 => exact (wants_no false rfl (by kernel_rfl) hgd)
                  case hK146 => exact ⟨_, hp 38 _ (by kernel_rfl), JK.made hok hst hJ (List.mem_of_getElem? (i := 17) rfl) (Below.refl _ _)⟩
                · rintro l gv W hun hdep hcl hJ hg ha hp
                  have eg : gv 32 = .bool true := hJ.lit _ (List.mem_of_getElem? (i := 11) rfl) (hdep 11 (by kernel_rfl))
                  have hgd := (hg 32 (by kernel_rfl)).trans (congrArg some eg)
                  refine' op_out ?h147 ?hw147 ?hK147
                  case h147 => rfl
                  case hw147 => exact (wants_no false rfl (by kernel_rfl) hgd)
                  case hK147 => exact ⟨_, hp 39 _ (by kernel_rfl), JK.made hok hst hJ (List.mem_of_getElem? (i := 18) rfl) (Below.refl _ _)⟩
                · rintro l gv W hun hdep hcl hJ hg ha hp
                  have eg : gv 32 = .bool true := hJ.lit _ (List.mem_of_getElem? (i := 11) rfl) (hdep 11 (by kernel_rfl))
                  have hgd := (hg 32 (by kernel_rfl)).trans (congrArg some eg)
                  refine' op_out ?h148 ?hw148 ?hK148
                  case h148 => rfl
                  case hw148 => exact (wants_no false rfl (by kernel_rfl) hgd)
                  case hK148 => exact ⟨_, hp 40 _ (by kernel_rfl), JK.made hok hst hJ (List.mem_of_getElem? (i := 19) rfl) (Below.refl _ _)⟩
                · rintro l gv W hun hdep hcl hJ hg ha hp
                  have eg : gv 32 = .bool true := hJ.lit _ (List.mem_of_getElem? (i := 11) rfl) (hdep 11 (by kernel_rfl))
                  have hgd := (hg 32 (by kernel_rfl)).trans (congrArg some eg)
                  refine' op_out ?h149 ?hw149 ?hK149
                  case h149 => rfl
                  case hw149 => exact (wants_no false rfl (by kernel_rfl) hgd)
                  case hK149 => exact ⟨_, hp 41 _ (by kernel_rfl), JK.made hok hst hJ (List.mem_of_getElem? (i := 20) rfl) (Below.refl _ _)⟩
                · rintro l gv W hun hdep hcl hJ hg ha hp
                  have eg : gv 41 = undef := hJ.lit _ (List.mem_of_getElem? (i := 20) rfl) (hdep 20 (by kernel_rfl))
                  have hgd := (hg 41 (by kernel_rfl)).trans (congrArg some eg)
                  refine' op_out ?h150 ?hw150 ?hK150
                  case h150 => rfl
                  case hw150 => exact (wants_undef true rfl (by kernel_rfl) hgd)
                  case hK150 => exact ⟨_, hp 42 _ (by kernel_rfl), JK.made hok hst hJ (List.mem_of_getElem? (i := 21) rfl) (Below.refl _ _)⟩
                · rintro l gv W hun hdep hcl hJ hg ha hp
                  have eg : gv 41 = undef := hJ.lit _ (List.mem_of_getElem? (i := 20) rfl) (hdep 20 (by kernel_rfl))
                  have hgd := (hg 41 (by kernel_rfl)).trans (congrArg some eg)
                  refine' op_out ?h151 ?hw151 ?hK151
                  case h151 => rfl
                  case hw151 => exact (wants_undef true rfl (by kernel_rfl) hgd)
                  case hK151 => exact ⟨_, hp 43 _ (by kernel_rfl), JK.made hok hst hJ (List.mem_of_getElem? (i := 22) rfl) (Below.refl _ _)⟩
                · rintro l gv W hun hdep hcl hJ hg ha hp
                  have eg : gv 41 = undef := hJ.lit _ (List.mem_of_getElem? (i := 20) rfl) (hdep 20 (by kernel_rfl))
                  have hgd := (hg 41 (by kernel_rfl)).trans (congrArg some eg)
                  refine' op_out ?h152 ?hw152 ?hK152
                  case h152 => rfl
                  case hw152 => exact (wants_undef true rfl (by kernel_rfl) hgd)
                  case hK152 => exact ⟨_, hp 44 _ (by kernel_rfl), JK.made hok hst hJ (List.mem_of_getElem? (i := 23) rfl) (Below.refl _ _)⟩
                · rintro l gv W hun hdep hcl hJ hg ha hp
                  have eg : gv 41 = undef := hJ.lit _ (List.mem_of_getElem? (i := 20) rfl) (hdep 20 (by kernel_rfl))
                  have hgd := (hg 41 (by kernel_rfl)).trans (congrArg some eg)
                  refine' op_out ?h153 ?hw153 ?hK153
                  case h153 => rfl
                  case hw153 => exact (wants_undef true rfl (by kernel_rfl) hgd)
                  case hK153 => exact ⟨_, hp 45 _ (by kernel_rfl), JK.made hok hst hJ (List.mem_of_getElem? (i := 24) rfl) (Below.refl _ _)⟩
                · rintro l gv W hun hdep hcl hJ hg ha hp
                  have eg : gv 41 = undef := hJ.lit _ (List.mem_of_getElem? (i := 20) rfl) (hdep 20 (by kernel_rfl))
                  have hgd := (hg 41 (by kernel_rfl)).trans (congrArg some eg)
                  refine' op_out ?h154 ?hw154 ?hK154
                  case h154 => rfl
                  case hw154 => exact (wants_undef true rfl (by kernel_rfl) hgd)
                  case hK154 => exact ⟨_, hp 46 _ (by kernel_rfl), JK.made hok hst hJ (List.mem_of_getElem? (i := 25) rfl) (Below.refl _ _)⟩
                · rintro l gv W hun hdep hcl hJ hg ha hp
                  have eg : gv 41 = undef := hJ.lit _ (List.mem_of_getElem? (i := 20) rfl) (hdep 20 (by kernel_rfl))
                  have hgd := (hg 41 (by kernel_rfl)).trans (congrArg some eg)
                  refine' op_out ?h155 ?hw155 ?hK155
                  case h155 => rfl
                  case hw155 => exact (wants_undef true rfl (by kernel_rfl) hgd)
                  case hK155 => exact ⟨_, hp 47 _ (by kernel_rfl), JK.made hok hst hJ (List.mem_of_getElem? (i := 26) rfl) (Below.refl _ _)⟩
                · rintro l gv W hun hdep hcl hJ hg ha hp
                  have eg : gv 41 = undef := hJ.lit _ (List.mem_of_getElem? (i := 20) rfl) (hdep 20 (by kernel_rfl))
                  have hgd := (hg 41 (by kernel_rfl)).trans (congrArg some eg)
                  refine' op_out ?h156 ?hw156 ?hK156
                  case h156 => rfl
                  case hw156 => exact (wants_undef true rfl (by kernel_rfl) hgd)
                  case hK156 => exact ⟨_, hp 48 _ (by kernel_rfl), JK.made hok hst hJ (List.mem_of_getElem? (i := 27) rfl) (Below.refl _ _)⟩
                · rintro l gv W hun hdep hcl hJ hg ha hp
                  have eg : gv 41 = undef := hJ.lit _ (List.mem_of_getElem? (i := 20) rfl) (hdep 20 (by kernel_rfl))
                  have hgd := (hg 41 (by kernel_rfl)).trans (congrArg some eg)
                  refine' op_out ?h157 ?hw157 ?hK157
                  case h157 => rfl
                  case hw157 => exact (wants_undef true rfl (by kernel_rfl) hgd)
                  case hK157 => exact ⟨_, hp 49 _ (by kernel_rfl), JK.made hok hst hJ (List.mem_of_getElem? (i := 28) rfl) (Below.refl _ _)⟩
                · rintro l gv W hun hdep hcl hJ hg ha hp
                  have eg : gv 32 = .bool true := hJ.lit _ (List.mem_of_getElem? (i := 11) rfl) (hdep 11 (by kernel_rfl))
                  have hgd := (hg 32 (by kernel_rfl)).trans (congrArg some eg)
                  refine' op_out ?h158 ?hw158 ?hK158
                  case h158 => rfl
                  case hw158 => exact (wants_no false rfl (by kernel_rfl) hgd)
                  case hK158 => exact ⟨_, hp 50 _ (by kernel_rfl), JK.made hok hst hJ (List.mem_of_getElem? (i := 29) rfl) (Below.refl _ _)⟩
                · rintro l gv W hun hdep hcl hJ hg ha hp
                  have eg : gv 23 = .bool true := hJ.lit _ (List.mem_of_getElem? (i := 2) rfl) (hdep 2 (by kernel_rfl))
                  have hgd := (hg 23 (by kernel_rfl)).trans (congrArg some eg)
                  refine' op_val ?h159 ?hw159 ?hr159 ?hK159
                  case h159 => rfl
                  case hw159 => exact (wants_yes true rfl (by kernel_rfl) hgd)
                  case hr159 => exact (ex_pick rfl ((eval_tmp (hg 32 (by kernel_rfl))).trans (hJ.lit _ (List.mem_of_getElem? (i := 11) rfl) (hdep 11 (by kernel_rfl)))) rfl)
                  case hK159 => exact ⟨_, hp 51 _ (by kernel_rfl), JK.made hok hst hJ (List.mem_of_getElem? (i := 30) rfl) (Below.refl _ _)⟩
                · rintro l gv W hun hdep hcl hJ hg ha hp
                  refine' op_val ?h160 ?hw160 ?hr160 ?hK160
                  case h160 => rfl
                  case hw160 => exact rfl
                  case hr160 => exact (ex_pick rfl ((eval_tmp (hg 23 (by kernel_rfl))).trans (hJ.lit _ (List.mem_of_getElem? (i := 2) rfl) (hdep 2 (by kernel_rfl)))) ((eval_tmp (hg 51 (by kernel_rfl))).trans (hJ.lit _ (List.mem_of_getElem? (i := 30) rfl) (hdep 30 (by kernel_rfl)))))
                  case hK160 => exact ⟨_, hp 52 _ (by kernel_rfl), JK.made hok hst hJ (List.mem_of_getElem? (i := 31) rfl) (Below.refl _ _)⟩
              case hend160 =>
                rintro ll gv W9 hl hJ
                have e21 : gv 21 = .bool false := hJ.lit _ (List.mem_of_getElem? (i := 0) rfl) (hl 0 (of_decide_eq_true (by kernel_rfl)))
                have e22 : gv 22 = .bool true := hJ.lit _ (List.mem_of_getElem? (i := 1) rfl) (hl 1 (of_decide_eq_true (by kernel_rfl)))
                have e23 : gv 23 = .bool true := hJ.lit _ (List.mem_of_getElem? (i := 2) rfl) (hl 2 (of_decide_eq_true (by kernel_rfl)))
                have e24 : gv 24 = .slice (some ⟨b, 0, none⟩) l.length c := hJ.lit _ (List.mem_of_getElem? (i := 3) rfl) (hl 3 (of_decide_eq_true (by kernel_rfl)))
                have e25 : gv 25 = .int .i64 (k : Int) := hJ.lit _ (List.mem_of_getElem? (i := 4) rfl) (hl 4 (of_decide_eq_true (by kernel_rfl)))
                have e26 : gv 26 = .pointer (some ⟨b, k * 2, none⟩) := hJ.lit _ (List.mem_of_getElem? (i := 5) rfl) (hl 5 (of_decide_eq_true (by kernel_rfl)))
                have e27 : gv 27 = .pointer (some ⟨b, k * 2, none⟩) := hJ.lit _ (List.mem_of_getElem? (i := 6) rfl) (hl 6 (of_decide_eq_true (by kernel_rfl)))
                have e28 : gv 28 = .string ys := hJ.lit _ (List.mem_of_getElem? (i := 7) rfl) (hl 7 (of_decide_eq_true (by kernel_rfl)))
                have e29 : gv 29 = .pointer (some ⟨g, 0, none⟩) := hJ.lit _ (List.mem_of_getElem? (i := 8) rfl) (hl 8 (of_decide_eq_true (by kernel_rfl)))
                have e30 : gv 30 = .string s := hJ.lit _ (List.mem_of_getElem? (i := 9) rfl) (hl 9 (of_decide_eq_true (by kernel_rfl)))
                have e31 : gv 31 = .bool true := hJ.lit _ (List.mem_of_getElem? (i := 10) rfl) (hl 10 (of_decide_eq_true (by kernel_rfl)))
                have e32 : gv 32 = .bool true := hJ.lit _ (List.mem_of_getElem? (i := 11) rfl) (hl 11 (of_decide_eq_true (by kernel_rfl)))
                have e33 : gv 33 = undef := hJ.lit _ (List.mem_of_getElem? (i := 12) rfl) (hl 12 (of_decide_eq_true (by kernel_rfl)))
                have e34 : gv 34 = undef := hJ.lit _ (List.mem_of_getElem? (i := 13) rfl) (hl 13 (of_decide_eq_true (by kernel_rfl)))
                have e35 : gv 35 = undef := hJ.lit _ (List.mem_of_getElem? (i := 14) rfl) (hl 14 (of_decide_eq_true (by kernel_rfl)))
                have e36 : gv 36 = undef := hJ.lit _ (List.mem_of_getElem? (i := 15) rfl) (hl 15 (of_decide_eq_true (by kernel_rfl)))
                have e37 : gv 37 = undef := hJ.lit _ (List.mem_of_getElem? (i := 16) rfl) (hl 16 (of_decide_eq_true (by kernel_rfl)))
                have e38 : gv 38 = undef := hJ.lit _ (List.mem_of_getElem? (i := 17) rfl) (hl 17 (of_decide_eq_true (by kernel_rfl)))
                have e39 : gv 39 = undef := hJ.lit _ (List.mem_of_getElem? (i := 18) rfl) (hl 18 (of_decide_eq_true (by kernel_rfl)))
                have e40 : gv 40 = undef := hJ.lit _ (List.mem_of_getElem? (i := 19) rfl) (hl 19 (of_decide_eq_true (by kernel_rfl)))
                have e41 : gv 41 = undef := hJ.lit _ (List.mem_of_getElem? (i := 20) rfl) (hl 20 (of_decide_eq_true (by kernel_rfl)))
                have e42 : gv 42 = undef := hJ.lit _ (List.mem_of_getElem? (i := 21) rfl) (hl 21 (of_decide_eq_true (by kernel_rfl)))
                have e43 : gv 43 = undef := hJ.lit _ (List.mem_of_getElem? (i := 22) rfl) (hl 22 (of_decide_eq_true (by kernel_rfl)))
                have e44 : gv 44 = undef := hJ.lit _ (List.mem_of_getElem? (i := 23) rfl) (hl 23 (of_decide_eq_true (by kernel_rfl)))
                have e45 : gv 45 = undef := hJ.lit _ (List.mem_of_getElem? (i := 24) rfl) (hl 24 (of_decide_eq_true (by kernel_rfl)))
                have e46 : gv 46 = undef := hJ.lit _ (List.mem_of_getElem? (i := 25) rfl) (hl 25 (of_decide_eq_true (by kernel_rfl)))
                have e47 : gv 47 = undef := hJ.lit _ (List.mem_of_getElem? (i := 26) rfl) (hl 26 (of_decide_eq_true (by kernel_rfl)))
                have e48 : gv 48 = undef := hJ.lit _ (List.mem_of_getElem? (i := 27) rfl) (hl 27 (of_decide_eq_true (by kernel_rfl)))
                have e49 : gv 49 = undef := hJ.lit _ (List.mem_of_getElem? (i := 28) rfl) (hl 28 (of_decide_eq_true (by kernel_rfl)))
                have e50 : gv 50 = undef := hJ.lit _ (List.mem_of_getElem? (i := 29) rfl) (hl 29 (of_decide_eq_true (by kernel_rfl)))
                have e51 : gv 51 = .bool true := hJ.lit _ (List.mem_of_getElem? (i := 30) rfl) (hl 30 (of_decide_eq_true (by kernel_rfl)))
                have e52 : gv 52 = .bool true := hJ.lit _ (List.mem_of_getElem? (i := 31) rfl) (hl 31 (of_decide_eq_true (by kernel_rfl)))
                simp only [zipV, List.map_cons, List.map_nil, puts, Act.put, List.setIfInBounds_toArray, List.set_cons_succ, List.set_cons_zero, e21, e22, e23, e24, e25, e26, e27, e28, e29, e30, e31, e32, e33, e34, e35, e36, e37, e38, e39, e40, e41, e42, e43, e44, e45, e46, e47, e48, e49, e50, e51, e52]
                have hlow := Lib.hid hJ.low
                clear e21 e22 e23 e24 e25 e26 e27 e28 e29 e30 e31 e32 e33 e34 e35 e36 e37 e38 e39 e40 e41 e42 e43 e44 e45 e46 e47 e48 e49 e50 e51 e52 hJ hl
                obtain ⟨w8, hw8⟩ : ∃ w8, W9 = w8 := ⟨_, rfl⟩
                rw [hw8] at hlow ⊢
                clear hw8 d0 d1 c0 c1
                have hB := Lib.hid (show Below W1.heap.size W1 w8 from bel_step hlow6.out hlow.out)
                have hO := Lib.hid (show w8.ownsRow W1.heap.size 84 2 u5 q.length (flat q) from owns_below (bel_step (bel_drew wr) hlow.out) hownh.out)
                have c0 := cell_below hB.out hc0h.out
                have c1 := cell_below hB.out hc1h.out
                have d0 := cell_below hB.out z0h.out
                have d1 := cell_below hB.out z1h.out
                clear hlow hlow6 hownh
                have hbl := bel_laid w8 (.cells #[.string s, .int .i64 x] 84)
                have hoh := Lib.hid (owns_below hbl hO.out)
                have hlt2 : ∀ g', u5.ownBlock = some g' → W1.heap.size ≤ g' ∧ g' < (w8.alloc (.cells #[.string s, .int .i64 x] 84)).heap.size := hoh.out.lt
                have hb4h := Lib.hid (bel_step hB.out hbl)
                have hszv : W1.heap.size ≤ w8.heap.size := hB.out.size
                clear hbl hO hB
                go_wp2_with (at_builtin; refine wpList_append_own_at _ rfl _ _ 42 rfl W1.heap.size 84 i0 (.agg #[.string ⟨#[]⟩, .int .i64 0]) 2 24 Tryz.underlying42 hi hz0 hz1 hz2 rfl (by decide) _ _ _ rfl hoh.out ⟨w8.heap.size, 0, none⟩ 1 1 [.string s, .int .i64 x] rfl rfl ?c7_1 ?c7_2 ?c7_3 ?c7_4 ?c7_5 ?_)
                (try case c7_1 => intro j u hu; rw [Addr.add_lit, Nat.zero_add, World.cell?_alloc_new]; simpa using hu)
                case c7_2 => first | exact ⟨rfl, rfl⟩ | (intro u hu; simp at hu; rcases hu with rfl | rfl <;> rfl)
                case c7_3 => unfold maxLen; omega
                case c7_4 => omega
                case c7_5 => first | omega | (rw [World.size_alloc]; omega)
                intro vv w10 hown1 hgrow _ hob
                have hB := Lib.hid (show Below W1.heap.size W1 w10 from hb4h.out.grown hgrow hb4h.out.size (fun g' e => (hlt2 g' e).1))
                have hO := Lib.hid (show w10.ownsRow W1.heap.size 84 2 vv (q ++ [(s, x)]).length (flat (q ++ [(s, x)])) by rw [flat_snoc]; simp only [List.length_append, List.length_cons, List.length_nil, Nat.zero_add]; exact hown1)
                clear hown1 hgrow hob hoh hlt2 hb4h hszv
                clear c0 c1 d0 d1
                have c0 := cell_below hB.out hc0h.out
                have c1 := cell_below hB.out hc1h.out
                have d0 := cell_below hB.out z0h.out
                have d1 := cell_below hB.out z1h.out
                obtain ⟨o2, ho2⟩ : ∃ o2, vv = o2 := ⟨_, rfl⟩
                rw [ho2] at hO ⊢
                clear ho2
                have hq2 : (q ++ [(s, x)]).length ≤ k + 1 := by rw [(hpfh.out (by trivial)).2, List.length_append, hk]; simp
                have hbl := bel_laid w10 (.cells #[.string ys, .int .i64 yx] 84)
                have hoh := Lib.hid (owns_below hbl hO.out)
                have hlt2 : ∀ g', o2.ownBlock = some g' → W1.heap.size ≤ g' ∧ g' < (w10.alloc (.cells #[.string ys, .int .i64 yx] 84)).heap.size := hoh.out.lt
                have hb4h := Lib.hid (bel_step hB.out hbl)
                have hszv : W1.heap.size ≤ w10.heap.size := hB.out.size
                clear hbl hO hB
                go_wp2_with (at_builtin; refine wpList_append_own_at _ rfl _ _ 42 rfl W1.heap.size 84 i0 (.agg #[.string ⟨#[]⟩, .int .i64 0]) 2 24 Tryz.underlying42 hi hz0 hz1 hz2 rfl (by decide) _ _ _ rfl hoh.out ⟨w10.heap.size, 0, none⟩ 1 1 [.string ys, .int .i64 yx] rfl rfl ?c8_1 ?c8_2 ?c8_3 ?c8_4 ?c8_5 ?_)
                (try case c8_1 => intro j u hu; rw [Addr.add_lit, Nat.zero_add, World.cell?_alloc_new]; simpa using hu)
                case c8_2 => first | exact ⟨rfl, rfl⟩ | (intro u hu; simp at hu; rcases hu with rfl | rfl <;> rfl)
                case c8_3 => unfold maxLen; omega
                case c8_4 => omega
                case c8_5 => first | omega | (rw [World.size_alloc]; omega)
                intro vv w11 hown1 hgrow _ hob
                have hB := Lib.hid (show Below W1.heap.size W1 w11 from hb4h.out.grown hgrow hb4h.out.size (fun g' e => (hlt2 g' e).1))
                have hO := Lib.hid (show w11.ownsRow W1.heap.size 84 2 vv ((q ++ [(s, x)]) ++ [(ys, yx)]).length (flat ((q ++ [(s, x)]) ++ [(ys, yx)])) by rw [flat_snoc]; simp only [List.length_append, List.length_cons, List.length_nil, Nat.zero_add]; exact hown1)
                clear hown1 hgrow hob hoh hlt2 hb4h hszv
                clear c0 c1 d0 d1
                go_wp2
                go_roundw
                case rel => exact ⟨k + 1, pre ++ [(ys, yx)], r, (q ++ [(s, x)]) ++ [(ys, yx)], true, rfl, (by rw [hlh.out]; simp), (by simp [hk]), (fun hm => (List.mem_append.1 hm).elim (fun h => hnoth.out h) (fun h => heh.out (List.mem_singleton.1 h).symm)), rfl, (fun _ => ⟨⟨(ys, yx), by simp, hLT⟩, (by rw [(hpfh.out (by trivial)).2, putS_low _ _ _ (fun z hz => by have h8 := (hpfh.out (by trivial)).1 z hz; show ¬ sySym (s, x) z < 0; omega) (by have h8 := hLT; show sySym (s, x) (ys, yx) < 0; omega)]; simp)⟩), (fun h => by cases h), hO.out, (by have := (hpfh.out (by trivial)).2; rw [this]; simp; omega), hB.out⟩
                case measure => simp [intOf]; omega
            | false =>
              have hLT : ¬ ltS (s, x) (ys, yx) := fun h => ((symCmp_lt _ _).1 h).elim (fun h => by have h2 := hlt; rw [bytesLess_eq] at h2; exact of_decide_eq_false h2 h) (fun h => beq_eq_false_iff_ne.1 hs1 h.1.symm)
              have hlow6 := Lib.hid (show Below W1.heap.size W1 wr.drew from bel_step hbwh.out (bel_drew wr))
              have d0 := cell_below hlow6.out z0h.out
              have d1 := cell_below hlow6.out z1h.out
              have c0 := cell_below hlow6.out hc0h.out
              have c1 := cell_below hlow6.out hc1h.out
              go_wp2_with fail
              refine wp_region_run (by kernel_rfl) 71 [21, 22, 23, 24, 25, 26, 27, 28, 29, 30, 31, 32, 33, 34, 35, 36, 37, 38, 39, 40, 41, 42, 43, 44, 45, 46, 47, 48, 49, 50, 51, 52] (JK wr.drew [(0, 21, .bool false), (1, 22, .bool true), (2, 23, .bool true), (3, 24, .slice (some ⟨b, 0, none⟩) l.length c), (4, 25, .int .i64 (k : Int)), (5, 26, .pointer (some ⟨b, k * 2, none⟩)), (6, 27, .pointer (some ⟨b, k * 2, none⟩)), (7, 28, .string ys), (8, 29, .pointer (some ⟨g, 0, none⟩)), (9, 30, .string s), (10, 31, .bool false), (11, 32, .bool false), (12, 33, .slice (some ⟨b, 0, none⟩) l.length c), (13, 34, .int .i64 (k : Int)), (14, 35, .pointer (some ⟨b, k * 2, none⟩)), (15, 36, .pointer (some ⟨b, k * 2, none⟩)), (16, 37, .string ys), (17, 38, .pointer (some ⟨g, 0, none⟩)), (18, 39, .string s), (19, 40, .bool false), (20, 41, .bool false), (21, 42, undef), (22, 43, undef), (23, 44, undef), (24, 45, undef), (25, 46, undef), (26, 47, undef), (27, 48, undef), (28, 49, undef), (29, 50, .bool false), (30, 51, .bool false), (31, 52, .bool false)] []) (by kernel_rfl) rfl (JK.start _ _) ?hst192 ?hend192
              case hst192 =>
                have hok : okK [(0, 21, .bool false), (1, 22, .bool true), (2, 23, .bool true), (3, 24, .slice (some ⟨b, 0, none⟩) l.length c), (4, 25, .int .i64 (k : Int)), (5, 26, .pointer (some ⟨b, k * 2, none⟩)), (6, 27, .pointer (some ⟨b, k * 2, none⟩)), (7, 28, .string ys), (8, 29, .pointer (some ⟨g, 0, none⟩)), (9, 30, .string s), (10, 31, .bool false), (11, 32, .bool false), (12, 33, .slice (some ⟨b, 0, none⟩) l.length c), (13, 34, .int .i64 (k : Int)), (14, 35, .pointer (some ⟨b, k * 2, none⟩)), (15, 36, .pointer (some ⟨b, k * 2, none⟩)), (16, 37, .string ys), (17, 38, .pointer (some ⟨g, 0, none⟩)), (18, 39, .string s), (19, 40, .bool false), (20, 41, .bool false), (21, 42, undef), (22, 43, undef), (23, 44, undef), (24, 45, undef), (25, 46, undef), (26, 47, undef), (27, 48, undef), (28, 49, undef), (29, 50, .bool false), (30, 51, .bool false), (31, 52, .bool false)] [] = true := by kernel_rfl
                have hst : ∀ p ∈ ([] : List (Nat × Nat × (Value → World → Prop))), Stb p.2.2 := fun p hp => (by cases hp)
                refine ⟨?_, ?_, ?_, ?_, ?_, ?_, ?_, ?_, ?_, ?_, ?_, ?_, ?_, ?_, ?_, ?_, ?_, ?_, ?_, ?_, ?_, ?_, ?_, ?_, ?_, ?_, ?_, ?_, ?_, ?_, ?_, ?_, trivial⟩
                · rintro l gv W hun hdep hcl hJ hg ha hp
                  refine' op_val ?h161 ?hw161 ?hr161 ?hK161
                  case h161 => rfl
                  case hw161 => exact rfl
                  case hr161 => exact (ex_move rfl (eval_tmp ((ha 6 (by kernel_rfl)).trans rfl)))
                  case hK161 => exact ⟨_, hp 21 _ (by kernel_rfl), JK.made hok hst hJ (List.mem_of_getElem? (i := 0) rfl) (Below.refl _ _)⟩
                · rintro l gv W hun hdep hcl hJ hg ha hp
                  refine' op_val ?h162 ?hw162 ?hr162 ?hK162
                  case h162 => rfl
                  case hw162 => exact rfl
                  case hr162 => exact (ex_not rfl ((eval_tmp (hg 21 (by kernel_rfl))).trans (hJ.lit _ (List.mem_of_getElem? (i := 0) rfl) (hdep 0 (by kernel_rfl)))))
                  case hK162 => exact ⟨_, hp 22 _ (by kernel_rfl), JK.made hok hst hJ (List.mem_of_getElem? (i := 1) rfl) (Below.refl _ _)⟩
                · rintro l gv W hun hdep hcl hJ hg ha hp
                  refine' op_val ?h163 ?hw163 ?hr163 ?hK163
                  case h163 => rfl
                  case hw163 => exact rfl
                  case hr163 => exact (ex_move rfl ((eval_tmp (hg 22 (by kernel_rfl))).trans (hJ.lit _ (List.mem_of_getElem? (i := 1) rfl) (hdep 1 (by kernel_rfl)))))
                  case hK163 => exact ⟨_, hp 23 _ (by kernel_rfl), JK.made hok hst hJ (List.mem_of_getElem? (i := 2) rfl) (Below.refl _ _)⟩
                · rintro l gv W hun hdep hcl hJ hg ha hp
                  have eg : gv 23 = .bool true := hJ.lit _ (List.mem_of_getElem? (i := 2) rfl) (hdep 2 (by kernel_rfl))
                  have hgd := (hg 23 (by kernel_rfl)).trans (congrArg some eg)
                  refine' op_val ?h164 ?hw164 ?hr164 ?hK164
                  case h164 => rfl
                  case hw164 => exact (wants_yes true rfl (by kernel_rfl) hgd)
                  case hr164 => exact (ex_move rfl (eval_tmp ((ha 0 (by kernel_rfl)).trans rfl)))
                  case hK164 => exact ⟨_, hp 24 _ (by kernel_rfl), JK.made hok hst hJ (List.mem_of_getElem? (i := 3) rfl) (Below.refl _ _)⟩
                · rintro l gv W hun hdep hcl hJ hg ha hp
                  have eg : gv 23 = .bool true := hJ.lit _ (List.mem_of_getElem? (i := 2) rfl) (hdep 2 (by kernel_rfl))
                  have hgd := (hg 23 (by kernel_rfl)).trans (congrArg some eg)
                  refine' op_val ?h165 ?hw165 ?hr165 ?hK165
                  case h165 => rfl
                  case hw165 => exact (wants_yes true rfl (by kernel_rfl) hgd)
                  case hr165 => exact (ex_move rfl (eval_tmp ((ha 7 (by kernel_rfl)).trans rfl)))
                  case hK165 => exact ⟨_, hp 25 _ (by kernel_rfl), JK.made hok hst hJ (List.mem_of_getElem? (i := 4) rfl) (Below.refl _ _)⟩
                · rintro l gv W hun hdep hcl hJ hg ha hp
                  have eg : gv 23 = .bool true := hJ.lit _ (List.mem_of_getElem? (i := 2) rfl) (hdep 2 (by kernel_rfl))
                  have hgd := (hg 23 (by kernel_rfl)).trans (congrArg some eg)
                  refine' op_val ?h166 ?hw166 ?hr166 ?hK166
                  case h166 => rfl
                  case hw166 => exact (wants_yes true rfl (by kernel_rfl) hgd)
                  case hr166 => exact (ex_indexAddr rfl ((eval_tmp (hg 24 (by kernel_rfl))).trans (hJ.lit _ (List.mem_of_getElem? (i := 3) rfl) (hdep 3 (by kernel_rfl)))) ((eval_tmp (hg 25 (by kernel_rfl))).trans (hJ.lit _ (List.mem_of_getElem? (i := 4) rfl) (hdep 4 (by kernel_rfl)))) (ix42 hkl))
                  case hK166 => exact ⟨_, hp 26 _ (by kernel_rfl), JK.made hok hst hJ (List.mem_of_getElem? (i := 5) rfl) (Below.refl _ _)⟩
                · rintro l gv W hun hdep hcl hJ hg ha hp
                  have eg : gv 23 = .bool true := hJ.lit _ (List.mem_of_getElem? (i := 2) rfl) (hdep 2 (by kernel_rfl))
                  have hgd := (hg 23 (by kernel_rfl)).trans (congrArg some eg)
                  refine' op_val ?h167 ?hw167 ?hr167 ?hK167
                  case h167 => rfl
                  case hw167 => exact (wants_yes true rfl (by kernel_rfl) hgd)
                  case hr167 => exact (ex_field rfl ((eval_tmp (hg 26 (by kernel_rfl))).trans (hJ.lit _ (List.mem_of_getElem? (i := 5) rfl) (hdep 5 (by kernel_rfl)))) fld0)
                  case hK167 => exact ⟨_, hp 27 _ (by kernel_rfl), JK.made hok hst hJ (List.mem_of_getElem? (i := 6) rfl) (Below.refl _ _)⟩
                · rintro l gv W hun hdep hcl hJ hg ha hp
                  have eg : gv 23 = .bool true := hJ.lit _ (List.mem_of_getElem? (i := 2) rfl) (hdep 2 (by kernel_rfl))
                  have hgd := (hg 23 (by kernel_rfl)).trans (congrArg some eg)
                  refine' op_val ?h168 ?hw168 ?hr168 ?hK168
                  case h168 => rfl
                  case hw168 => exact (wants_yes true rfl (by kernel_rfl) hgd)
                  case hr168 => exact (ex_load rfl ((eval_tmp (hg 27 (by kernel_rfl))).trans (hJ.lit _ (List.mem_of_getElem? (i := 6) rfl) (hdep 6 (by kernel_rfl)))) (ld9 (cell_below hJ.low d0)))
                  case hK168 => exact ⟨_, hp 28 _ (by kernel_rfl), JK.made hok hst hJ (List.mem_of_getElem? (i := 7) rfl) (Below.refl _ _)⟩
                · rintro l gv W hun hdep hcl hJ hg ha hp
                  have eg : gv 23 = .bool true := hJ.lit _ (List.mem_of_getElem? (i := 2) rfl) (hdep 2 (by kernel_rfl))
                  have hgd := (hg 23 (by kernel_rfl)).trans (congrArg some eg)
                  refine' op_val ?h169 ?hw169 ?hr169 ?hK169
                  case h169 => rfl
                  case hw169 => exact (wants_yes true rfl (by kernel_rfl) hgd)
                  case hr169 => exact (ex_field rfl (eval_tmp ((ha 3 (by kernel_rfl)).trans rfl)) fld0)
                  case hK169 => exact ⟨_, hp 29 _ (by kernel_rfl), JK.made hok hst hJ (List.mem_of_getElem? (i := 8) rfl) (Below.refl _ _)⟩
                · rintro l gv W hun hdep hcl hJ hg ha hp
                  have eg : gv 23 = .bool true := hJ.lit _ (List.mem_of_getElem? (i := 2) rfl) (hdep 2 (by kernel_rfl))
                  have hgd := (hg 23 (by kernel_rfl)).trans (congrArg some eg)
                  refine' op_val ?h170 ?hw170 ?hr170 ?hK170
                  case h170 => rfl
                  case hw170 => exact (wants_yes true rfl (by kernel_rfl) hgd)
                  case hr170 => exact (ex_load rfl ((eval_tmp (hg 29 (by kernel_rfl))).trans (hJ.lit _ (List.mem_of_getElem? (i := 8) rfl) (hdep 8 (by kernel_rfl)))) (ld9 (cell_below hJ.low c0)))
                  case hK170 => exact ⟨_, hp 30 _ (by kernel_rfl), JK.made hok hst hJ (List.mem_of_getElem? (i := 9) rfl) (Below.refl _ _)⟩
                · rintro l gv W hun hdep hcl hJ hg ha hp
                  have eg : gv 23 = .bool true := hJ.lit _ (List.mem_of_getElem? (i := 2) rfl) (hdep 2 (by kernel_rfl))
                  have hgd := (hg 23 (by kernel_rfl)).trans (congrArg some eg)
                  refine' op_val ?h171 ?hw171 ?hr171 ?hK171
                  case h171 => rfl
                  case hw171 => exact (wants_yes true rfl (by kernel_rfl) hgd)
                  case hr171 => exact (ex_bin rfl ((eval_tmp (hg 28 (by kernel_rfl))).trans (hJ.lit _ (List.mem_of_getElem? (i := 7) rfl) (hdep 7 (by kernel_rfl)))) ((eval_tmp (hg 30 (by kernel_rfl))).trans (hJ.lit _ (List.mem_of_getElem? (i := 9) rfl) (hdep 9 (by kernel_rfl)))) (guard_str _ _ _ _ _ W) (gtr9 hlt))
                  case hK171 => exact ⟨_, hp 31 _ (by kernel_rfl), JK.made hok hst hJ (List.mem_of_getElem? (i := 10) rfl) (Below.refl _ _)⟩
                · rintro l gv W hun hdep hcl hJ hg ha hp
                  have eg : gv 23 = .bool true := hJ.lit _ (List.mem_of_getElem? (i := 2) rfl) (hdep 2 (by kernel_rfl))
                  have hgd := (hg 23 (by kernel_rfl)).trans (congrArg some eg)
                  refine' op_val ?h172 ?hw172 ?hr172 ?hK172
                  case h172 => rfl
                  case hw172 => exact (wants_yes true rfl (by kernel_rfl) hgd)
                  case hr172 => exact (ex_move rfl ((eval_tmp (hg 31 (by kernel_rfl))).trans (hJ.lit _ (List.mem_of_getElem? (i := 10) rfl) (hdep 10 (by kernel_rfl)))))
                  case hK172 => exact ⟨_, hp 32 _ (by kernel_rfl), JK.made hok hst hJ (List.mem_of_getElem? (i := 11) rfl) (Below.refl _ _)⟩
                · rintro l gv W hun hdep hcl hJ hg ha hp
                  have eg : gv 32 = .bool false := hJ.lit _ (List.mem_of_getElem? (i := 11) rfl) (hdep 11 (by kernel_rfl))
                  have hgd := (hg 32 (by kernel_rfl)).trans (congrArg some eg)
                  refine' op_val ?h173 ?hw173 ?hr173 ?hK173
                  case h173 => rfl
                  case hw173 => exact (wants_yes false rfl (by kernel_rfl) hgd)
                  case hr173 => exact (ex_move rfl (eval_tmp ((ha 0 (by kernel_rfl)).trans rfl)))
                  case hK173 => exact ⟨_, hp 33 _ (by kernel_rfl), JK.made hok hst hJ (List.mem_of_getElem? (i := 12) rfl) (Below.refl _ _)⟩
                · rintro l gv W hun hdep hcl hJ hg ha hp
                  have eg : gv 32 = .bool false := hJ.lit _ (List.mem_of_getElem? (i := 11) rfl) (hdep 11 (by kernel_rfl))
                  have hgd := (hg 32 (by kernel_rfl)).trans (congrArg some eg)
                  refine' op_val ?h174 ?hw174 ?hr174 ?hK174
                  case h174 => rfl
                  case hw174 => exact (wants_yes false rfl (by kernel_rfl) hgd)
                  case hr174 => exact (ex_move rfl (eval_tmp ((ha 7 (by kernel_rfl)).trans rfl)))
                  case hK174 => exact ⟨_, hp 34 _ (by kernel_rfl), JK.made hok hst hJ (List.mem_of_getElem? (i := 13) rfl) (Below.refl _ _)⟩
                · rintro l gv W hun hdep hcl hJ hg ha hp
                  have eg : gv 32 = .bool false := hJ.lit _ (List.mem_of_getElem? (i := 11) rfl) (hdep 11 (by kernel_rfl))
                  have hgd := (hg 32 (by kernel_rfl)).trans (congrArg some eg)
                  refine' op_val ?h175 ?hw175 ?hr175 ?hK175
                  case h175 => rfl
                  case hw175 => exact (wants_yes false rfl (by kernel_rfl) hgd)
                  case hr175 => exact (ex_indexAddr rfl ((eval_tmp (hg 33 (by kernel_rfl))).trans (hJ.lit _ (List.mem_of_getElem? (i := 12) rfl) (hdep 12 (by kernel_rfl)))) ((eval_tmp (hg 34 (by kernel_rfl))).trans (hJ.lit _ (List.mem_of_getElem? (i := 13) rfl) (hdep 13 (by kernel_rfl)))) (ix42 hkl))
                  case hK175 => exact ⟨_, hp 35 _ (by kernel_rfl), JK.made hok hst hJ (List.mem_of_getElem? (i := 14) rfl) (Below.refl _ _)⟩
                · rintro l gv W hun hdep hcl hJ hg ha hp
                  have eg : gv 32 = .bool false := hJ.lit _ (List.mem_of_getElem? (i := 11) rfl) (hdep 11 (by kernel_rfl))
                  have hgd := (hg 32 (by kernel_rfl)).trans (congrArg some eg)
                  refine' op_val ?h176 ?hw176 ?hr176 ?hK176
                  case h176 => rfl
                  case hw176 => exact (wants_yes false rfl (by kernel_rfl) hgd)
                  case hr176 => exact (ex_field rfl ((eval_tmp (hg 35 (by kernel_rfl))).trans (hJ.lit _ (List.mem_of_getElem? (i := 14) rfl) (hdep 14 (by kernel_rfl)))) fld0)
                  case hK176 => exact ⟨_, hp 36 _ (by kernel_rfl), JK.made hok hst hJ (List.mem_of_getElem? (i := 15) rfl) (Below.refl _ _)⟩
                · rintro l gv W hun hdep hcl hJ hg ha hp
                  have eg : gv 32 = .bool false := hJ.lit _ (List.mem_of_getElem? (i := 11) rfl) (hdep 11 (by kernel_rfl))
                  have hgd := (hg 32 (by kernel_rfl)).trans (congrArg some eg)
                  refine' op_val ?h177 ?hw177 ?hr177 ?hK177
                  case h177 => rfl
                  case hw177 => exact (wants_yes false rfl (by kernel_rfl) hgd)
                  case hr177 => exact (ex_load rfl ((eval_tmp (hg 36 (by kernel_rfl))).trans (hJ.lit _ (List.mem_of_getElem? (i := 15) rfl) (hdep 15 (by kernel_rfl)))) (ld9 (cell_below hJ.low d0)))
                  case hK177 => exact ⟨_, hp 37 _ (by kernel_rfl), JK.made hok hst hJ (List.mem_of_getElem? (i := 16) rfl) (Below.refl _ _)⟩
                · rintro l gv W hun hdep hcl hJ hg ha hp
                  have eg : gv 32 = .bool false := hJ.lit _ (List.mem_of_getElem? (i := 11) rfl) (hdep 11 (by kernel_rfl))
                  have hgd := (hg 32 (by kernel_rfl)).trans (congrArg some eg)
                  refine' op_val ?h178 ?hw178 ?hr178 ?hK178
                  case h178 => rfl
                  case hw178 => exact (wants_yes false rfl (by kernel_rfl) hgd)
                  case hr178 => exact (ex_field rfl (eval_tmp ((ha 3 (by kernel_rfl)).trans rfl)) fld0)
                  case hK178 => exact ⟨_, hp 38 _ (by kernel_rfl), JK.made hok hst hJ (List.mem_of_getElem? (i := 17) rfl) (Below.refl _ _)⟩
                · rintro l gv W hun hdep hcl hJ hg ha hp
                  have eg : gv 32 = .bool false := hJ.lit _ (List.mem_of_getElem? (i := 11) rfl) (hdep 11 (by kernel_rfl))
                  have hgd := (hg 32 (by kernel_rfl)).trans (congrArg some eg)
                  refine' op_val ?h179 ?hw179 ?hr179 ?hK179
                  case h179 => rfl
                  case hw179 => exact (wants_yes false rfl (by kernel_rfl) hgd)
                  case hr179 => exact (ex_load rfl ((eval_tmp (hg 38 (by kernel_rfl))).trans (hJ.lit _ (List.mem_of_getElem? (i := 17) rfl) (hdep 17 (by kernel_rfl)))) (ld9 (cell_below hJ.low c0)))
                  case hK179 => exact ⟨_, hp 39 _ (by kernel_rfl), JK.made hok hst hJ (List.mem_of_getElem? (i := 18) rfl) (Below.refl _ _)⟩
                · rintro l gv W hun hdep hcl hJ hg ha hp
                  have eg : gv 32 = .bool false := hJ.lit _ (List.mem_of_getElem? (i := 11) rfl) (hdep 11 (by kernel_rfl))
                  have hgd := (hg 32 (by kernel_rfl)).trans (congrArg some eg)
                  refine' op_val ?h180 ?hw180 ?hr180 ?hK180
                  case h180 => rfl
                  case hw180 => exact (wants_yes false rfl (by kernel_rfl) hgd)
                  case hr180 => exact (ex_bin rfl ((eval_tmp (hg 37 (by kernel_rfl))).trans (hJ.lit _ (List.mem_of_getElem? (i := 16) rfl) (hdep 16 (by kernel_rfl)))) ((eval_tmp (hg 39 (by kernel_rfl))).trans (hJ.lit _ (List.mem_of_getElem? (i := 18) rfl) (hdep 18 (by kernel_rfl)))) (guard_str _ _ _ _ _ W) (eql9 hs1))
                  case hK180 => exact ⟨_, hp 40 _ (by kernel_rfl), JK.made hok hst hJ (List.mem_of_getElem? (i := 19) rfl) (Below.refl _ _)⟩
                · rintro l gv W hun hdep hcl hJ hg ha hp
                  have eg : gv 32 = .bool false := hJ.lit _ (List.mem_of_getElem? (i := 11) rfl) (hdep 11 (by kernel_rfl))
                  have hgd := (hg 32 (by kernel_rfl)).trans (congrArg some eg)
                  refine' op_val ?h181 ?hw181 ?hr181 ?hK181
                  case h181 => rfl
                  case hw181 => exact (wants_yes false rfl (by kernel_rfl) hgd)
                  case hr181 => exact (ex_move rfl ((eval_tmp (hg 40 (by kernel_rfl))).trans (hJ.lit _ (List.mem_of_getElem? (i := 19) rfl) (hdep 19 (by kernel_rfl)))))
                  case hK181 => exact ⟨_, hp 41 _ (by kernel_rfl), JK.made hok hst hJ (List.mem_of_getElem? (i := 20) rfl) (Below.refl _ _)⟩
                · rintro l gv W hun hdep hcl hJ hg ha hp
                  have eg : gv 41 = .bool false := hJ.lit _ (List.mem_of_getElem? (i := 20) rfl) (hdep 20 (by kernel_rfl))
                  have hgd := (hg 41 (by kernel_rfl)).trans (congrArg some eg)
                  refine' op_out ?h182 ?hw182 ?hK182
                  case h182 => rfl
                  case hw182 => exact (wants_no true rfl (by kernel_rfl) hgd)
                  case hK182 => exact ⟨_, hp 42 _ (by kernel_rfl), JK.made hok hst hJ (List.mem_of_getElem? (i := 21) rfl) (Below.refl _ _)⟩
                · rintro l gv W hun hdep hcl hJ hg ha hp
                  have eg : gv 41 = .bool false := hJ.lit _ (List.mem_of_getElem? (i := 20) rfl) (hdep 20 (by kernel_rfl))
                  have hgd := (hg 41 (by kernel_rfl)).trans (congrArg some eg)
                  refine' op_out ?h183 ?hw183 ?hK183
                  case h183 => rfl
                  case hw183 => exact (wants_no true rfl (by kernel_rfl) hgd)
                  case hK183 => exact ⟨_, hp 43 _ (by kernel_rfl), JK.made hok hst hJ (List.mem_of_getElem? (i := 22) rfl) (Below.refl _ _)⟩
                · rintro l gv W hun hdep hcl hJ hg ha hp
                  have eg : gv 41 = .bool false := hJ.lit _ (List.mem_of_getElem? (i := 20) rfl) (hdep 20 (by kernel_rfl))
                  have hgd := (hg 41 (by kernel_rfl)).trans (congrArg some eg)
                  refine' op_out ?h184 ?hw184 ?hK184
                  case h184 => rfl
                  case hw184 => exact (wants_no true rfl (by kernel_rfl) hgd)
                  case hK184 => exact ⟨_, hp 44 _ (by kernel_rfl), JK.made hok hst hJ (List.mem_of_getElem? (i := 23) rfl) (Below.refl _ _)⟩
                · rintro l gv W hun hdep hcl hJ hg ha hp
                  have eg : gv 41 = .bool false := hJ.lit _ (List.mem_of_getElem? (i := 20) rfl) (hdep 20 (by kernel_rfl))
                  have hgd := (hg 41 (by kernel_rfl)).trans (congrArg some eg)
                  refine' op_out ?h185 ?hw185 ?hK185
                  case h185 => rfl
                  case hw185 => exact (wants_no true rfl (by kernel_rfl) hgd)
                  case hK185 => exact ⟨_, hp 45 _ (by kernel_rfl), JK.made hok hst hJ (List.mem_of_getElem? (i := 24) rfl) (Below.refl _ _)⟩
                · rintro l gv W hun hdep hcl hJ hg ha hp
                  have eg : gv 41 = .bool false := hJ.lit _ (List.mem_of_getElem? (i := 20) rfl) (hdep 20 (by kernel_rfl))
                  have hgd := (hg 41 (by kernel_rfl)).trans (congrArg some eg)
                  refine' op_out ?h186 ?hw186 ?hK186
                  case h186 => rfl
                  case hw186 => exact (wants_no true rfl (by kernel_rfl) hgd)
                  case hK186 => exact ⟨_, hp 46 _ (by kernel_rfl), JK.made hok hst hJ (List.mem_of_getElem? (i := 25) rfl) (Below.refl _ _)⟩
                · rintro l gv W hun hdep hcl hJ hg ha hp
                  have eg : gv 41 = .bool false := hJ.lit _ (List.mem_of_getElem? (i := 20) rfl) (hdep 20 (by kernel_rfl))
                  have hgd := (hg 41 (by kernel_rfl)).trans (congrArg some eg)
                  refine' op_out ?h187 ?hw187 ?hK187
                  case h187 => rfl
                  case hw187 => exact (wants_no true rfl (by kernel_rfl) hgd)
                  case hK187 => exact ⟨_, hp 47 _ (by kernel_rfl), JK.made hok hst hJ (List.mem_of_getElem? (i := 26) rfl) (Below.refl _ _)⟩
                · rintro l gv W hun hdep hcl hJ hg ha hp
                  have eg : gv 41 = .bool false := hJ.lit _ (List.mem_of_getElem? (i := 20) rfl) (hdep 20 (by kernel_rfl))
                  have hgd := (hg 41 (by kernel_rfl)).trans (congrArg some eg)
                  refine' op_out ?h188 ?hw188 ?hK188
                  case h188 => rfl
                  case hw188 => exact (wants_no true rfl (by kernel_rfl) hgd)
                  case hK188 => exact ⟨_, hp 48 _ (by kernel_rfl), JK.made hok hst hJ (List.mem_of_getElem? (i := 27) rfl) (Below.refl _ _)⟩
                · rintro l gv W hun hdep hcl hJ hg ha hp
                  have eg : gv 41 = .bool false := hJ.lit _ (List.mem_of_getElem? (i := 20) rfl) (hdep 20 (by kernel_rfl))
                  have hgd := (hg 41 (by kernel_rfl)).trans (congrArg some eg)
                  refine' op_out ?h189 ?hw189 ?hK189
                  case h189 => rfl
                  case hw189 => exact (wants_no true rfl (by kernel_rfl) hgd)
                  case hK189 => exact ⟨_, hp 49 _ (by kernel_rfl), JK.made hok hst hJ (List.mem_of_getElem? (i := 28) rfl) (Below.refl _ _)⟩
                · rintro l gv W hun hdep hcl hJ hg ha hp
                  have eg : gv 32 = .bool false := hJ.lit _ (List.mem_of_getElem? (i := 11) rfl) (hdep 11 (by kernel_rfl))
                  have hgd := (hg 32 (by kernel_rfl)).trans (congrArg some eg)
                  refine' op_val ?h190 ?hw190 ?hr190 ?hK190
                  case h190 => rfl
                  case hw190 => exact (wants_yes false rfl (by kernel_rfl) hgd)
                  case hr190 => exact (ex_pickF rfl ((eval_tmp (hg 41 (by kernel_rfl))).trans (hJ.lit _ (List.mem_of_getElem? (i := 20) rfl) (hdep 20 (by kernel_rfl)))) rfl)
                  case hK190 => exact ⟨_, hp 50 _ (by kernel_rfl), JK.made hok hst hJ (List.mem_of_getElem? (i := 29) rfl) (Below.refl _ _)⟩
                · rintro l gv W hun hdep hcl hJ hg ha hp
                  have eg : gv 23 = .bool true := hJ.lit _ (List.mem_of_getElem? (i := 2) rfl) (hdep 2 (by kernel_rfl))
                  have hgd := (hg 23 (by kernel_rfl)).trans (congrArg some eg)
                  refine' op_val ?h191 ?hw191 ?hr191 ?hK191
                  case h191 => rfl
                  case hw191 => exact (wants_yes true rfl (by kernel_rfl) hgd)
                  case hr191 => exact (ex_pickF rfl ((eval_tmp (hg 32 (by kernel_rfl))).trans (hJ.lit _ (List.mem_of_getElem? (i := 11) rfl) (hdep 11 (by kernel_rfl)))) ((eval_tmp (hg 50 (by kernel_rfl))).trans (hJ.lit _ (List.mem_of_getElem? (i := 29) rfl) (hdep 29 (by kernel_rfl)))))
                  case hK191 => exact ⟨_, hp 51 _ (by kernel_rfl), JK.made hok hst hJ (List.mem_of_getElem? (i := 30) rfl) (Below.refl _ _)⟩
                · rintro l gv W hun hdep hcl hJ hg ha hp
                  refine' op_val ?h192 ?hw192 ?hr192 ?hK192
                  case h192 => rfl
                  case hw192 => exact rfl
                  case hr192 => exact (ex_pick rfl ((eval_tmp (hg 23 (by kernel_rfl))).trans (hJ.lit _ (List.mem_of_getElem? (i := 2) rfl) (hdep 2 (by kernel_rfl)))) ((eval_tmp (hg 51 (by kernel_rfl))).trans (hJ.lit _ (List.mem_of_getElem? (i := 30) rfl) (hdep 30 (by kernel_rfl)))))
                  case hK192 => exact ⟨_, hp 52 _ (by kernel_rfl), JK.made hok hst hJ (List.mem_of_getElem? (i := 31) rfl) (Below.refl _ _)⟩
              case hend192 =>
                rintro ll gv W9 hl hJ
                have e21 : gv 21 = .bool false := hJ.lit _ (List.mem_of_getElem? (i := 0) rfl) (hl 0 (of_decide_eq_true (by kernel_rfl)))
                have e22 : gv 22 = .bool true := hJ.lit _ (List.mem_of_getElem? (i := 1) rfl) (hl 1 (of_decide_eq_true (by kernel_rfl)))
                have e23 : gv 23 = .bool true := hJ.lit _ (List.mem_of_getElem? (i := 2) rfl) (hl 2 (of_decide_eq_true (by kernel_rfl)))
                have e24 : gv 24 = .slice (some ⟨b, 0, none⟩) l.length c := hJ.lit _ (List.mem_of_getElem? (i := 3) rfl) (hl 3 (of_decide_eq_true (by kernel_rfl)))
                have e25 : gv 25 = .int .i64 (k : Int) := hJ.lit _ (List.mem_of_getElem? (i := 4) rfl) (hl 4 (of_decide_eq_true (by kernel_rfl)))
                have e26 : gv 26 = .pointer (some ⟨b, k * 2, none⟩) := hJ.lit _ (List.mem_of_getElem? (i := 5) rfl) (hl 5 (of_decide_eq_true (by kernel_rfl)))
                have e27 : gv 27 = .pointer (some ⟨b, k * 2, none⟩) := hJ.lit _ (List.mem_of_getElem? (i := 6) rfl) (hl 6 (of_decide_eq_true (by kernel_rfl)))
                have e28 : gv 28 = .string ys := hJ.lit _ (List.mem_of_getElem? (i := 7) rfl) (hl 7 (of_decide_eq_true (by kernel_rfl)))
                have e29 : gv 29 = .pointer (some ⟨g, 0, none⟩) := hJ.lit _ (List.mem_of_getElem? (i := 8) rfl) (hl 8 (of_decide_eq_true (by kernel_rfl)))
                have e30 : gv 30 = .string s := hJ.lit _ (List.mem_of_getElem? (i := 9) rfl) (hl 9 (of_decide_eq_true (by kernel_rfl)))
                have e31 : gv 31 = .bool false := hJ.lit _ (List.mem_of_getElem? (i := 10) rfl) (hl 10 (of_decide_eq_true (by kernel_rfl)))
                have e32 : gv 32 = .bool false := hJ.lit _ (List.mem_of_getElem? (i := 11) rfl) (hl 11 (of_decide_eq_true (by kernel_rfl)))
                have e33 : gv 33 = .slice (some ⟨b, 0, none⟩) l.length c := hJ.lit _ (List.mem_of_getElem? (i := 12) rfl) (hl 12 (of_decide_eq_true (by kernel_rfl)))
                have e34 : gv 34 = .int .i64 (k : Int) := hJ.lit _ (List.mem_of_getElem? (i := 13) rfl) (hl 13 (of_decide_eq_true (by kernel_rfl)))
                have e35 : gv 35 = .pointer (some ⟨b, k * 2, none⟩) := hJ.lit _ (List.mem_of_getElem? (i := 14) rfl) (hl 14 (of_decide_eq_true (by kernel_rfl)))
                have e36 : gv 36 = .pointer (some ⟨b, k * 2, none⟩) := hJ.lit _ (List.mem_of_getElem? (i := 15) rfl) (hl 15 (of_decide_eq_true (by kernel_rfl)))
                have e37 : gv 37 = .string ys := hJ.lit _ (List.mem_of_getElem? (i := 16) rfl) (hl 16 (of_decide_eq_true (by kernel_rfl)))
                have e38 : gv 38 = .pointer (some ⟨g, 0, none⟩) := hJ.lit _ (List.mem_of_getElem? (i := 17) rfl) (hl 17 (of_decide_eq_true (by kernel_rfl)))
                have e39 : gv 39 = .string s := hJ.lit _ (List.mem_of_getElem? (i := 18) rfl) (hl 18 (of_decide_eq_true (by kernel_rfl)))
                have e40 : gv 40 = .bool false := hJ.lit _ (List.mem_of_getElem? (i := 19) rfl) (hl 19 (of_decide_eq_true (by kernel_rfl)))
                have e41 : gv 41 = .bool false := hJ.lit _ (List.mem_of_getElem? (i := 20) rfl) (hl 20 (of_decide_eq_true (by kernel_rfl)))
                have e42 : gv 42 = undef := hJ.lit _ (List.mem_of_getElem? (i := 21) rfl) (hl 21 (of_decide_eq_true (by kernel_rfl)))
                have e43 : gv 43 = undef := hJ.lit _ (List.mem_of_getElem? (i := 22) rfl) (hl 22 (of_decide_eq_true (by kernel_rfl)))
                have e44 : gv 44 = undef := hJ.lit _ (List.mem_of_getElem? (i := 23) rfl) (hl 23 (of_decide_eq_true (by kernel_rfl)))
                have e45 : gv 45 = undef := hJ.lit _ (List.mem_of_getElem? (i := 24) rfl) (hl 24 (of_decide_eq_true (by kernel_rfl)))
                have e46 : gv 46 = undef := hJ.lit _ (List.mem_of_getElem? (i := 25) rfl) (hl 25 (of_decide_eq_true (by kernel_rfl)))
                have e47 : gv 47 = undef := hJ.lit _ (List.mem_of_getElem? (i := 26) rfl) (hl 26 (of_decide_eq_true (by kernel_rfl)))
                have e48 : gv 48 = undef := hJ.lit _ (List.mem_of_getElem? (i := 27) rfl) (hl 27 (of_decide_eq_true (by kernel_rfl)))
                have e49 : gv 49 = undef := hJ.lit _ (List.mem_of_getElem? (i := 28) rfl) (hl 28 (of_decide_eq_true (by kernel_rfl)))
                have e50 : gv 50 = .bool false := hJ.lit _ (List.mem_of_getElem? (i := 29) rfl) (hl 29 (of_decide_eq_true (by kernel_rfl)))
                have e51 : gv 51 = .bool false := hJ.lit _ (List.mem_of_getElem? (i := 30) rfl) (hl 30 (of_decide_eq_true (by kernel_rfl)))
                have e52 : gv 52 = .bool false := hJ.lit _ (List.mem_of_getElem? (i := 31) rfl) (hl 31 (of_decide_eq_true (by kernel_rfl)))
                simp only [zipV, List.map_cons, List.map_nil, puts, Act.put, List.setIfInBounds_toArray, List.set_cons_succ, List.set_cons_zero, e21, e22, e23, e24, e25, e26, e27, e28, e29, e30, e31, e32, e33, e34, e35, e36, e37, e38, e39, e40, e41, e42, e43, e44, e45, e46, e47, e48, e49, e50, e51, e52]
                have hlow := Lib.hid hJ.low
                clear e21 e22 e23 e24 e25 e26 e27 e28 e29 e30 e31 e32 e33 e34 e35 e36 e37 e38 e39 e40 e41 e42 e43 e44 e45 e46 e47 e48 e49 e50 e51 e52 hJ hl
                obtain ⟨w8, hw8⟩ : ∃ w8, W9 = w8 := ⟨_, rfl⟩
                rw [hw8] at hlow ⊢
                clear hw8 d0 d1 c0 c1
                have hB := Lib.hid (show Below W1.heap.size W1 w8 from bel_step hlow6.out hlow.out)
                have hO := Lib.hid (show w8.ownsRow W1.heap.size 84 2 u5 q.length (flat q) from owns_below (bel_step (bel_drew wr) hlow.out) hownh.out)
                have c0 := cell_below hB.out hc0h.out
                have c1 := cell_below hB.out hc1h.out
                have d0 := cell_below hB.out z0h.out
                have d1 := cell_below hB.out z1h.out
                clear hlow hlow6 hownh
                have hbl := bel_laid w8 (.cells #[.string ys, .int .i64 yx] 84)
                have hoh := Lib.hid (owns_below hbl hO.out)
                have hlt2 : ∀ g', u5.ownBlock = some g' → W1.heap.size ≤ g' ∧ g' < (w8.alloc (.cells #[.string ys, .int .i64 yx] 84)).heap.size := hoh.out.lt
                have hb4h := Lib.hid (bel_step hB.out hbl)
                have hszv : W1.heap.size ≤ w8.heap.size := hB.out.size
                clear hbl hO hB
                go_wp2_with (at_builtin; refine wpList_append_own_at _ rfl _ _ 42 rfl W1.heap.size 84 i0 (.agg #[.string ⟨#[]⟩, .int .i64 0]) 2 24 Tryz.underlying42 hi hz0 hz1 hz2 rfl (by decide) _ _ _ rfl hoh.out ⟨w8.heap.size, 0, none⟩ 1 1 [.string ys, .int .i64 yx] rfl rfl ?c9_1 ?c9_2 ?c9_3 ?c9_4 ?c9_5 ?_)
                (try case c9_1 => intro j u hu; rw [Addr.add_lit, Nat.zero_add, World.cell?_alloc_new]; simpa using hu)
                case c9_2 => first | exact ⟨rfl, rfl⟩ | (intro u hu; simp at hu; rcases hu with rfl | rfl <;> rfl)
                case c9_3 => unfold maxLen; omega
                case c9_4 => omega
                case c9_5 => first | omega | (rw [World.size_alloc]; omega)
                intro vv w11 hown1 hgrow _ hob
                have hB := Lib.hid (show Below W1.heap.size W1 w11 from hb4h.out.grown hgrow hb4h.out.size (fun g' e => (hlt2 g' e).1))
                have hO := Lib.hid (show w11.ownsRow W1.heap.size 84 2 vv (q ++ [(ys, yx)]).length (flat (q ++ [(ys, yx)])) by rw [flat_snoc]; simp only [List.length_append, List.length_cons, List.length_nil, Nat.zero_add]; exact hown1)
                clear hown1 hgrow hob hoh hlt2 hb4h hszv
                clear c0 c1 d0 d1
                go_wp2
                go_roundw
                case rel => exact ⟨k + 1, pre ++ [(ys, yx)], r, q ++ [(ys, yx)], false, rfl, (by rw [hlh.out]; simp), (by simp [hk]), (fun hm => (List.mem_append.1 hm).elim (fun h => hnoth.out h) (fun h => heh.out (List.mem_singleton.1 h).symm)), rfl, (fun h => by cases h), (fun _ => ⟨(fun z hz => (List.mem_append.1 hz).elim (fun h => by have h8 := (hpfh.out (by trivial)).1 z h; show ¬ sySym (s, x) z < 0; omega) (fun h => by rw [List.mem_singleton.1 h]; have h8 := hLT; show ¬ sySym (s, x) (ys, yx) < 0; omega)), (by rw [(hpfh.out (by trivial)).2])⟩), hO.out, (by have := (hpfh.out (by trivial)).2; rw [this]; simp; omega), hB.out⟩
                case measure => simp [intOf]; omega
end Go.Proofs.YtngdieldgnlogaaGreatDoor
