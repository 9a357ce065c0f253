/- The walk of FormOrder. -/
import Derived.Test.YtpcjpdfigkcojaaDoorA1
import Derived.Test.YtpcjpdfigkcojaaDoorD2
import Derived.Test.YtpcjpdfigkcojaaDoorD4
import Derived.Test.YtpcjpdfigkcojaaDoorD6
import Derived.Test.YtpcjpdfigkcojaaDoorD7
import Derived.Test.YtpcjpdfigkcojaaDoorU10
namespace Go.Proofs.YtpcjpdfigkcojaaDoor
open Go Go.RowKit
set_option maxRecDepth 100000
set_option linter.unusedVariables false
theorem bne_self (t : Bool) : (t != t) = false := by cases t <;> rfl
theorem bne_selfI (x : Int) : (x != x) = false := by simp
theorem guard_int3 (k : BinOp) (x y : Operand) (m n : Int) (w : World) : (eqGuard k 3 x y (.int .i64 m) (.int .i64 n)).run Tryd.prog w = .ok () w := by
  cases k <;> simp [eqGuard]
theorem neq_int (m n : Int) (w : World) {r : Bool} (h : (m != n) = r) : (binOp .neq 3 (.int .i64 m) (.int .i64 n)).run Tryd.prog w = .ok (.bool r) w := by
  subst h
  simp [go_sem, bne]
theorem eql_int2 (m n : Int) (w : World) {r : Bool} (h : (m == n) = r) : (binOp .eql 3 (.int .i64 m) (.int .i64 n)).run Tryd.prog w = .ok (.bool r) w := by
  subst h
  exact eql_int m n w
theorem lss_int (m n : Int) (w : World) {r : Bool} (h : decide (m < n) = r) : (binOp .lss 3 (.int .i64 m) (.int .i64 n)).run Tryd.prog w = .ok (.bool r) w := by
  subst h
  simp [go_sem]
theorem gtr_int (m n : Int) (w : World) {r : Bool} (h : decide (n < m) = r) : (binOp .gtr 3 (.int .i64 m) (.int .i64 n)).run Tryd.prog w = .ok (.bool r) w := by
  subst h
  simp [go_sem]
theorem neg_one {x : Int} (h : Rg x) (w : World) (P : Program) : (Op.unary .neg (.int .i64 (-x))).run P w = .ok (.int .i64 x) w := by
  rcases h with rfl | rfl | rfl <;> rfl
theorem ex_neg {P : Program} {a : Act} {w : World} {o : Oper} {t : TypeId} {x : Operand} {u v : Value} (hop : o.op = .unOp .neg t x) (hx : a.eval x = u) (hr : ∀ (w : World) (P : Program), (Op.unary .neg u).run P w = .ok v w) : (execOp a.eval o).run P w = .ok (.value v) w := by
  simp [execOp, hop, hx, hr, Result.andThen]
theorem tr3_neg {x y z : Int} (f g h : FT) (hx : cmpForm f g = x) (hy : cmpForm g h = y) (hz : cmpForm f h = z) : Tr3 x y z ∧ Tr3 (-y) (-x) (-z) := by
  have h1 := cmpForm_tr f g h
  have h2 := cmpForm_tr h g f
  rw [cmpForm_neg f g, cmpForm_neg g h, cmpForm_neg f h, hx, hy, hz] at h2
  rw [hx, hy, hz] at h1
  exact ⟨h1, h2⟩
theorem cmpForm_self (f : FT) : cmpForm f f = 0 := by
  have := cmpForm_neg f f
  omega
theorem eqB_cmp {f g : FT} {x : Int} (hx : cmpForm f g = x) : f.eqB g = (x == 0) := by
  have h := cmpForm_eq f g
  rw [hx] at h
  cases hb : f.eqB g with
  | true => rw [h.2 hb]; rfl
  | false =>
    have : ¬ x = 0 := fun e => by rw [h.1 e] at hb; cases hb
    simp [this]
theorem FS.rng {f : FT} {sa ss : Value} {w V : World} {g : Nat} (h : FS f sa ss w g V) : V.rangeAt g 0 [.int .u8 f.op, .string f.n, sa, ss] := by
  intro j u hj
  match j, hj with
  | 0, hj => simp at hj; subst hj; exact h.1
  | 1, hj => simp at hj; subst hj; exact h.2.1
  | 2, hj => simp at hj; subst hj; exact h.2.2.1
  | 3, hj => simp at hj; subst hj; exact h.2.2.2.1
set_option maxHeartbeats 8000000 in
theorem formOrder_walk (f g h : FT) (va vb vc : Value) (w : World) (hrw : Rws w) (hva : FVal w f va) (hvb : FVal w g vb) (hvc : FVal w h vc) (hwt : f.wt + g.wt + h.wt ≤ 1500000) :
    Calls Tryd.prog 6 #[va, vb, vc] w fun e w' => e = .returned (.bool true) ∧ Below w.heap.size w w' := by
  have HA := Lib.hid (fun V hr => awake_any V hr)
  have hrwh := Lib.hid hrw
  clear hrw
  obtain ⟨sa, ua, rfl, ha, hua⟩ := id hva
  obtain ⟨sb, ub, rfl, hb, hub⟩ := id hvb
  obtain ⟨sc, uc, rfl, hc, huc⟩ := id hvc
  obtain ⟨pa, ca, rfl, -⟩ := id ha
  obtain ⟨pb, cb, rfl, -⟩ := id hb
  obtain ⟨pc, cc, rfl, -⟩ := id hc
  obtain ⟨qa, da, rfl, -⟩ := id hua
  obtain ⟨qb, db, rfl, -⟩ := id hub
  obtain ⟨qc, dc, rfl, -⟩ := id huc
  clear ha hb hc hua hub huc
  have e1 := bel_laid w (.cells #[.int .u8 f.op, .string f.n, .slice pa f.ts.len ca, .slice qa f.sub.len da] 27)
  have e2 := bel_laid (w.alloc (.cells #[.int .u8 f.op, .string f.n, .slice pa f.ts.len ca, .slice qa f.sub.len da] 27)) (.cells #[.int .u8 g.op, .string g.n, .slice pb g.ts.len cb, .slice qb g.sub.len db] 27)
  have e3 := bel_laid ((w.alloc (.cells #[.int .u8 f.op, .string f.n, .slice pa f.ts.len ca, .slice qa f.sub.len da] 27)).alloc (.cells #[.int .u8 g.op, .string g.n, .slice pb g.ts.len cb, .slice qb g.sub.len db] 27)) (.cells #[.int .u8 h.op, .string h.n, .slice pc h.ts.len cc, .slice qc h.sub.len dc] 27)
  have k1 := FS.start (t := 27) hva
  have k2 := FS.start (t := 27) (FVal.below e1 hvb)
  have k3 := FS.start (t := 27) (FVal.below (bel_step e1 e2) hvc)
  rw [World.size_alloc] at k2
  rw [World.size_alloc, World.size_alloc] at k3
  have j1 := Lib.hid ((k1.next e2).next e3)
  have j2 := Lib.hid (k2.next e3)
  have j3 := Lib.hid k3
  have e123 := Lib.hid (bel_step (bel_step e1 e2) e3)
  clear k1 k2 k3 e1 e2 e3 hva hvb hvc
  go_enter Tryd.func6, Tryd.ntmps6
  go_wp2_with fail
  refine (HA.out _ (hrwh.out.of e123.out)).mono ?_
  rintro e w4 ⟨rfl, hb4⟩
  have i1 := j1.out.next hb4
  have i2 := j2.out.next hb4
  have i3 := j3.out.next hb4
  have hb04 := Lib.hid (bel_step e123.out hb4)
  have hB : w.heap.size + 3 ≤ w4.heap.size := by have := hb4.size; simp at this; omega
  clear hb4 j1 j2 j3 e123 HA hrwh
  have g1 := Lib.hid i1
  have g2 := Lib.hid i2
  have g3 := Lib.hid i3
  obtain ⟨c10, c11, c12, c13, -⟩ := i1
  obtain ⟨c20, c21, c22, c23, -⟩ := i2
  obtain ⟨c30, c31, c32, c33, -⟩ := i3
  go_wp2_with fail
  clear c10 c11 c12 c13 c20 c21 c22 c23 c30 c31 c32 c33
  have b5 := bel_laid w4 (.cells #[.int .u8 f.op, .string f.n, .slice pa f.ts.len ca, .slice qa f.sub.len da, .int .u8 g.op, .string g.n, .slice pb g.ts.len cb, .slice qb g.sub.len db, .int .u8 h.op, .string h.n, .slice pc h.ts.len cc, .slice qc h.sub.len dc] 27)
  have hsl : FSl (w4.alloc (.cells #[.int .u8 f.op, .string f.n, .slice pa f.ts.len ca, .slice qa f.sub.len da, .int .u8 g.op, .string g.n, .slice pb g.ts.len cb, .slice qb g.sub.len db, .int .u8 h.op, .string h.n, .slice pc h.ts.len cc, .slice qc h.sub.len dc] 27)) (.cons f.op f.n f.ts f.sub (.cons g.op g.n g.ts g.sub (.cons h.op h.n h.ts h.sub .nil))) (.slice (some ⟨w4.heap.size, 0, none⟩) 3 3) := by
    have cN := fun i => cell_new w4 #[.int .u8 f.op, .string f.n, .slice pa f.ts.len ca, .slice qa f.sub.len da, .int .u8 g.op, .string g.n, .slice pb g.ts.len cb, .slice qb g.sub.len db, .int .u8 h.op, .string h.n, .slice pc h.ts.len cc, .slice qc h.sub.len dc] 27 i
    have t1 := g1.out.2.2.2.2.2
    have t2 := g2.out.2.2.2.2.2
    have t3 := g3.out.2.2.2.2.2
    exact ⟨_, _, rfl, .inr ⟨_, _, rfl, cN 0, cN 1, ⟨_, cN 2, TSl.below b5 t1.1⟩, ⟨_, cN 3, FSl.below b5 t1.2⟩, cN 4, cN 5, ⟨_, cN 6, TSl.below b5 t2.1⟩, ⟨_, cN 7, FSl.below b5 t2.2⟩, cN 8, cN 9, ⟨_, cN 10, TSl.below b5 t3.1⟩, ⟨_, cN 11, FSl.below b5 t3.2⟩, trivial⟩⟩
  refine (small_any _ _ _ hsl (by simp only [FT.wt] at hwt; simp only [Fs.wt]; omega)).mono ?_
  rintro e w6 ⟨rfl, hb6⟩
  have hw6 := Lib.hid (bel_step (bel_step hb04.out b5) hb6)
  have m1 := Lib.hid ((g1.out.next b5).next hb6)
  have m2 := Lib.hid ((g2.out.next b5).next hb6)
  have m3 := Lib.hid ((g3.out.next b5).next hb6)
  clear hsl b5 hb6 g1 g2 g3 hb04 hB
  cases hsm : Fs.small (.cons f.op f.n f.ts f.sub (.cons g.op g.n g.ts g.sub (.cons h.op h.n h.ts h.sub .nil)))
  · go_wp2_with fail
    go_ret
    exact ⟨rfl, hw6.out⟩
  have hsz := Fs.small_size hsm
  simp only [Fs.size] at hsz
  have s1 : f.size ≤ 1000000 := by simp only [FT.size]; omega
  have s2 : g.size ≤ 1000000 := by simp only [FT.size]; omega
  have s3 : h.size ≤ 1000000 := by simp only [FT.size]; omega
  have F1 : ∀ V, Below w6.heap.size w6 V → FVal V f (.agg #[.int .u8 f.op, .string f.n, .slice pa f.ts.len ca, .slice qa f.sub.len da]) := fun V hV => (m1.out.next hV).val
  have F2 : ∀ V, Below w6.heap.size w6 V → FVal V g (.agg #[.int .u8 g.op, .string g.n, .slice pb g.ts.len cb, .slice qb g.sub.len db]) := fun V hV => (m2.out.next hV).val
  have F3 : ∀ V, Below w6.heap.size w6 V → FVal V h (.agg #[.int .u8 h.op, .string h.n, .slice pc h.ts.len cc, .slice qc h.sub.len dc]) := fun V hV => (m3.out.next hV).val
  have L1 := Lib.hid (fun V (hV : Below w6.heap.size w6 V) => (m1.out.next hV).rng)
  have L2 := Lib.hid (fun V (hV : Below w6.heap.size w6 V) => (m2.out.next hV).rng)
  have L3 := Lib.hid (fun V (hV : Below w6.heap.size w6 V) => (m3.out.next hV).rng)
  obtain ⟨x, hx⟩ : ∃ x, cmpForm f g = x := ⟨_, rfl⟩
  obtain ⟨y, hy⟩ : ∃ y, cmpForm g h = y := ⟨_, rfl⟩
  obtain ⟨z, hz⟩ : ∃ z, cmpForm f h = z := ⟨_, rfl⟩
  have hT := Lib.hid (tr3_neg f g h hx hy hz)
  have hrx : Rg x := hx ▸ cmpForm_rg f g
  have hry : Rg y := hy ▸ cmpForm_rg g h
  have hrz : Rg z := hz ▸ cmpForm_rg f h
  obtain ⟨t, hxt0⟩ : ∃ t, (x == 0) = t := ⟨_, rfl⟩
  have hxt := Lib.hid hxt0
  have hng := fun (w : World) (P : Program) => neg_one hrx w P
  have hx1 : RowKit.Hid (decide (x < -1) = false) := Lib.hid (by rcases hrx with rfl | rfl | rfl <;> rfl)
  have hx2 : RowKit.Hid (decide (1 < x) = false) := Lib.hid (by rcases hrx with rfl | rfl | rfl <;> rfl)
  have CAB := Lib.hid (fun V (hV : Below w6.heap.size w6 V) => show Calls Tryd.prog 12 #[.agg #[.int .u8 f.op, .string f.n, .slice pa f.ts.len ca, .slice qa f.sub.len da], .agg #[.int .u8 g.op, .string g.n, .slice pb g.ts.len cb, .slice qb g.sub.len db]] V (fun e w' => e = .returned (.int .i64 x) ∧ Below V.heap.size V w') from by
    have := cmpForm_any f _ g _ V (F1 V hV) (F2 V hV) s1 s2
    rwa [hx] at this)
  have CBC := Lib.hid (fun V (hV : Below w6.heap.size w6 V) => show Calls Tryd.prog 12 #[.agg #[.int .u8 g.op, .string g.n, .slice pb g.ts.len cb, .slice qb g.sub.len db], .agg #[.int .u8 h.op, .string h.n, .slice pc h.ts.len cc, .slice qc h.sub.len dc]] V (fun e w' => e = .returned (.int .i64 y) ∧ Below V.heap.size V w') from by
    have := cmpForm_any g _ h _ V (F2 V hV) (F3 V hV) s2 s3
    rwa [hy] at this)
  have CAC := Lib.hid (fun V (hV : Below w6.heap.size w6 V) => show Calls Tryd.prog 12 #[.agg #[.int .u8 f.op, .string f.n, .slice pa f.ts.len ca, .slice qa f.sub.len da], .agg #[.int .u8 h.op, .string h.n, .slice pc h.ts.len cc, .slice qc h.sub.len dc]] V (fun e w' => e = .returned (.int .i64 z) ∧ Below V.heap.size V w') from by
    have := cmpForm_any f _ h _ V (F1 V hV) (F3 V hV) s1 s3
    rwa [hz] at this)
  have CBA := Lib.hid (fun V (hV : Below w6.heap.size w6 V) => show Calls Tryd.prog 12 #[.agg #[.int .u8 g.op, .string g.n, .slice pb g.ts.len cb, .slice qb g.sub.len db], .agg #[.int .u8 f.op, .string f.n, .slice pa f.ts.len ca, .slice qa f.sub.len da]] V (fun e w' => e = .returned (.int .i64 (-x)) ∧ Below V.heap.size V w') from by
    have := cmpForm_any g _ f _ V (F2 V hV) (F1 V hV) s2 s1
    rwa [cmpForm_neg f g, hx] at this)
  have SF := Lib.hid (fun V (hV : Below w6.heap.size w6 V) => show Calls Tryd.prog 13 #[.agg #[.int .u8 f.op, .string f.n, .slice pa f.ts.len ca, .slice qa f.sub.len da], .agg #[.int .u8 g.op, .string g.n, .slice pb g.ts.len cb, .slice qb g.sub.len db]] V (fun e w' => e = .returned (.bool t) ∧ Below V.heap.size V w') from by
    have := sameF_any f _ g _ V (F1 V hV) (F2 V hV) s1 s2
    rwa [eqB_cmp hx, hxt0] at this)
  have SM := Lib.hid (fun V (hV : Below w6.heap.size w6 V) => show Calls Tryd.prog 15 #[.agg #[.int .u8 f.op, .string f.n, .slice pa f.ts.len ca, .slice qa f.sub.len da], .agg #[.int .u8 g.op, .string g.n, .slice pb g.ts.len cb, .slice qb g.sub.len db]] V (fun e w' => e = .returned (.bool t) ∧ Below V.heap.size V w') from by
    have := same_any f _ g _ V (F1 V hV) (F2 V hV) s1 s2
    rwa [hx, hxt0] at this)
  have CP := Lib.hid (fun V (hV : Below w6.heap.size w6 V) => show Calls Tryd.prog 14 #[.agg #[.int .u8 f.op, .string f.n, .slice pa f.ts.len ca, .slice qa f.sub.len da]] V (fun e w' => (∃ v', e = .returned v' ∧ FVal w' f v') ∧ Below V.heap.size V w') from
    (copyF_any f _ V (F1 V hV) s1).mono fun e w' ⟨⟨v', he, ho⟩, hb⟩ => ⟨⟨v', he, ho.at⟩, hb⟩)
  have CC := Lib.hid (fun V v' (hV : Below w6.heap.size w6 V) (hv' : FVal V f v') => show Calls Tryd.prog 12 #[.agg #[.int .u8 f.op, .string f.n, .slice pa f.ts.len ca, .slice qa f.sub.len da], v'] V (fun e w' => e = .returned (.int .i64 0) ∧ Below V.heap.size V w') from by
    have := cmpForm_any f _ f _ V (F1 V hV) hv' s1 s1
    rwa [cmpForm_self] at this)
  have hrxh := Lib.hid hrx
  have hryh := Lib.hid hry
  have hrzh := Lib.hid hrz
  clear hrx hry hrz hsm hsz s1 s2 s3 F1 F2 F3 hx hy hz hxt0 m1 m2 m3 hwt
  go_wp2_with fail
  refine wp_region_puts (by kernel_rfl) 104 [(18, .agg #[.int .u8 f.op, .string f.n, .slice pa f.ts.len ca, .slice qa f.sub.len da]), (19, .agg #[.int .u8 g.op, .string g.n, .slice pb g.ts.len cb, .slice qb g.sub.len db]), (20, .int .i64 x), (21, .agg #[.int .u8 g.op, .string g.n, .slice pb g.ts.len cb, .slice qb g.sub.len db]), (22, .agg #[.int .u8 h.op, .string h.n, .slice pc h.ts.len cc, .slice qc h.sub.len dc]), (23, .int .i64 y), (24, .agg #[.int .u8 f.op, .string f.n, .slice pa f.ts.len ca, .slice qa f.sub.len da]), (25, .agg #[.int .u8 h.op, .string h.n, .slice pc h.ts.len cc, .slice qc h.sub.len dc]), (26, .int .i64 z), (7, .int .i64 x), (8, .int .i64 y), (9, .int .i64 z)] (fun W => Below w6.heap.size w6 W) (fun W W' => Below W.heap.size W W') (by kernel_rfl) (by kernel_rfl) rfl (bel_drew w6) ?hst ?hend
  case hst =>
    refine ⟨?_, ?_, ?_, ?_, ?_, ?_, ?_, ?_, ?_, ?_, ?_, ?_, trivial⟩
    · intro L a W hLs hL hn hd hI hb hl
      obtain ⟨u3, h3, e3⟩ := hl 3 (List.contains_iff_mem.1 (by kernel_rfl))
      replace e3 : u3 = .pointer (some ⟨w.heap.size, 0, none⟩) := e3
      subst e3
      exact op_val rfl rfl (ex_load rfl (eval_tmp h3) (load27 (L1.out W hI))) ⟨_, rfl, fun d hd => by cases hd; rfl, hI, Below.refl _ _⟩
    · intro L a W hLs hL hn hd hI hb hl
      obtain ⟨u4, h4, e4⟩ := hl 4 (List.contains_iff_mem.1 (by kernel_rfl))
      replace e4 : u4 = .pointer (some ⟨w.heap.size + 1, 0, none⟩) := e4
      subst e4
      exact op_val rfl rfl (ex_load rfl (eval_tmp h4) (load27 (L2.out W hI))) ⟨_, rfl, fun d hd => by cases hd; rfl, hI, Below.refl _ _⟩
    · intro L a W hLs hL hn hd hI hb hl
      obtain ⟨u18, h18, e18⟩ := hl 18 (List.contains_iff_mem.1 (by kernel_rfl))
      replace e18 : u18 = .agg #[.int .u8 f.op, .string f.n, .slice pa f.ts.len ca, .slice qa f.sub.len da] := e18
      subst e18
      obtain ⟨u19, h19, e19⟩ := hl 19 (List.contains_iff_mem.1 (by kernel_rfl))
      replace e19 : u19 = .agg #[.int .u8 g.op, .string g.n, .slice pb g.ts.len cb, .slice qb g.sub.len db] := e19
      subst e19
      refine op_call rfl rfl (ex_call2 (enters_of Tryd.func12 (by kernel_rfl) rfl) rfl (eval_tmp h18) (eval_tmp h19)) ((CAB.out W hI).mono ?_)
      rintro e W' ⟨rfl, hb'⟩
      exact ⟨_, rfl, _, rfl, fun d hd => by cases hd; rfl, bel_step hI hb', hb'⟩
    · intro L a W hLs hL hn hd hI hb hl
      obtain ⟨u4, h4, e4⟩ := hl 4 (List.contains_iff_mem.1 (by kernel_rfl))
      replace e4 : u4 = .pointer (some ⟨w.heap.size + 1, 0, none⟩) := e4
      subst e4
      exact op_val rfl rfl (ex_load rfl (eval_tmp h4) (load27 (L2.out W hI))) ⟨_, rfl, fun d hd => by cases hd; rfl, hI, Below.refl _ _⟩
    · intro L a W hLs hL hn hd hI hb hl
      obtain ⟨u5, h5, e5⟩ := hl 5 (List.contains_iff_mem.1 (by kernel_rfl))
      replace e5 : u5 = .pointer (some ⟨w.heap.size + 1 + 1, 0, none⟩) := e5
      subst e5
      exact op_val rfl rfl (ex_load rfl (eval_tmp h5) (load27 (L3.out W hI))) ⟨_, rfl, fun d hd => by cases hd; rfl, hI, Below.refl _ _⟩
    · intro L a W hLs hL hn hd hI hb hl
      obtain ⟨u21, h21, e21⟩ := hl 21 (List.contains_iff_mem.1 (by kernel_rfl))
      replace e21 : u21 = .agg #[.int .u8 g.op, .string g.n, .slice pb g.ts.len cb, .slice qb g.sub.len db] := e21
      subst e21
      obtain ⟨u22, h22, e22⟩ := hl 22 (List.contains_iff_mem.1 (by kernel_rfl))
      replace e22 : u22 = .agg #[.int .u8 h.op, .string h.n, .slice pc h.ts.len cc, .slice qc h.sub.len dc] := e22
      subst e22
      refine op_call rfl rfl (ex_call2 (enters_of Tryd.func12 (by kernel_rfl) rfl) rfl (eval_tmp h21) (eval_tmp h22)) ((CBC.out W hI).mono ?_)
      rintro e W' ⟨rfl, hb'⟩
      exact ⟨_, rfl, _, rfl, fun d hd => by cases hd; rfl, bel_step hI hb', hb'⟩
    · intro L a W hLs hL hn hd hI hb hl
      obtain ⟨u3, h3, e3⟩ := hl 3 (List.contains_iff_mem.1 (by kernel_rfl))
      replace e3 : u3 = .pointer (some ⟨w.heap.size, 0, none⟩) := e3
      subst e3
      exact op_val rfl rfl (ex_load rfl (eval_tmp h3) (load27 (L1.out W hI))) ⟨_, rfl, fun d hd => by cases hd; rfl, hI, Below.refl _ _⟩
    · intro L a W hLs hL hn hd hI hb hl
      obtain ⟨u5, h5, e5⟩ := hl 5 (List.contains_iff_mem.1 (by kernel_rfl))
      replace e5 : u5 = .pointer (some ⟨w.heap.size + 1 + 1, 0, none⟩) := e5
      subst e5
      exact op_val rfl rfl (ex_load rfl (eval_tmp h5) (load27 (L3.out W hI))) ⟨_, rfl, fun d hd => by cases hd; rfl, hI, Below.refl _ _⟩
    · intro L a W hLs hL hn hd hI hb hl
      obtain ⟨u24, h24, e24⟩ := hl 24 (List.contains_iff_mem.1 (by kernel_rfl))
      replace e24 : u24 = .agg #[.int .u8 f.op, .string f.n, .slice pa f.ts.len ca, .slice qa f.sub.len da] := e24
      subst e24
      obtain ⟨u25, h25, e25⟩ := hl 25 (List.contains_iff_mem.1 (by kernel_rfl))
      replace e25 : u25 = .agg #[.int .u8 h.op, .string h.n, .slice pc h.ts.len cc, .slice qc h.sub.len dc] := e25
      subst e25
      refine op_call rfl rfl (ex_call2 (enters_of Tryd.func12 (by kernel_rfl) rfl) rfl (eval_tmp h24) (eval_tmp h25)) ((CAC.out W hI).mono ?_)
      rintro e W' ⟨rfl, hb'⟩
      exact ⟨_, rfl, _, rfl, fun d hd => by cases hd; rfl, bel_step hI hb', hb'⟩
    · intro L a W hLs hL hn hd hI hb hl
      obtain ⟨u20, h20, e20⟩ := hl 20 (List.contains_iff_mem.1 (by kernel_rfl))
      replace e20 : u20 = .int .i64 x := e20
      subst e20
      exact op_val rfl rfl (ex_assign rfl (eval_tmp h20)) ⟨_, rfl, fun d hd => by cases hd; rfl, hI, Below.refl _ _⟩
    · intro L a W hLs hL hn hd hI hb hl
      obtain ⟨u23, h23, e23⟩ := hl 23 (List.contains_iff_mem.1 (by kernel_rfl))
      replace e23 : u23 = .int .i64 y := e23
      subst e23
      exact op_val rfl rfl (ex_assign rfl (eval_tmp h23)) ⟨_, rfl, fun d hd => by cases hd; rfl, hI, Below.refl _ _⟩
    · intro L a W hLs hL hn hd hI hb hl
      obtain ⟨u26, h26, e26⟩ := hl 26 (List.contains_iff_mem.1 (by kernel_rfl))
      replace e26 : u26 = .int .i64 z := e26
      subst e26
      exact op_val rfl rfl (ex_assign rfl (eval_tmp h26)) ⟨_, rfl, fun d hd => by cases hd; rfl, hI, Below.refl _ _⟩
  case hend =>
  intro w7 hw7
  have hw7h := Lib.hid hw7
  clear hw7
  simp only [puts, Act.put, List.setIfInBounds_toArray, List.set_cons_succ, List.set_cons_zero]
  clear CBC CAC
  go_wp2_with fail
  refine wp_region_puts1 (by kernel_rfl) 104 52 (fun v W => FVal W f v) [(27, .int .i64 x), (28, .agg #[.int .u8 g.op, .string g.n, .slice pb g.ts.len cb, .slice qb g.sub.len db]), (29, .agg #[.int .u8 f.op, .string f.n, .slice pa f.ts.len ca, .slice qa f.sub.len da]), (30, .int .i64 (-x)), (31, .int .i64 x), (32, .bool false), (33, .bool false), (34, .int .i64 x), (35, .bool false), (36, .bool false), (37, .bool false), (38, .int .i64 x), (39, .bool false), (40, .bool false), (41, .bool false), (42, .int .i64 x), (43, .bool t), (44, .agg #[.int .u8 f.op, .string f.n, .slice pa f.ts.len ca, .slice qa f.sub.len da]), (45, .agg #[.int .u8 g.op, .string g.n, .slice pb g.ts.len cb, .slice qb g.sub.len db]), (46, .bool t), (47, .bool false), (48, .bool false), (49, .bool false), (50, .agg #[.int .u8 f.op, .string f.n, .slice pa f.ts.len ca, .slice qa f.sub.len da]), (51, .agg #[.int .u8 f.op, .string f.n, .slice pa f.ts.len ca, .slice qa f.sub.len da]), (53, .int .i64 0), (54, .bool false), (55, .bool false), (56, .bool false), (57, .agg #[.int .u8 f.op, .string f.n, .slice pa f.ts.len ca, .slice qa f.sub.len da]), (58, .agg #[.int .u8 g.op, .string g.n, .slice pb g.ts.len cb, .slice qb g.sub.len db]), (59, .bool t), (60, .int .i64 x), (61, .bool t), (62, .bool false), (63, .bool false)] (fun W => Below w6.heap.size w6 W) (fun W W' => Below W.heap.size W W') (by kernel_rfl) (by kernel_rfl) rfl (bel_step hw7h.out (bel_drew w7)) (fun v W W' hR hv => FVal.below hR hv) ?hst ?hend
  case hst =>
    refine ⟨?_, ?_, ?_, ?_, ?_, ?_, ?_, ?_, ?_, ?_, ?_, ?_, ?_, ?_, ?_, ?_, ?_, ?_, ?_, ?_, ?_, ?_, ?_, ?_, ?_, ?_, ?_, ?_, ?_, ?_, ?_, ?_, ?_, ?_, ?_, ?_, ?_, trivial⟩
    · intro L a W hLs hL hn hd hI hb hl
      obtain ⟨u7, h7, e7⟩ := hl 7 (List.contains_iff_mem.1 (by kernel_rfl))
      replace e7 : u7 = .int .i64 x := e7
      subst e7
      exact op_val rfl rfl (ex_move rfl (eval_tmp h7)) ⟨_, rfl, fun d hd => by cases hd; rfl, hI, Below.refl _ _⟩
    · intro L a W hLs hL hn hd hI hb hl
      obtain ⟨u4, h4, e4⟩ := hl 4 (List.contains_iff_mem.1 (by kernel_rfl))
      replace e4 : u4 = .pointer (some ⟨w.heap.size + 1, 0, none⟩) := e4
      subst e4
      exact op_val rfl rfl (ex_load rfl (eval_tmp h4) (load27 (L2.out W hI))) ⟨_, rfl, fun d hd => by cases hd; rfl, hI, Below.refl _ _⟩
    · intro L a W hLs hL hn hd hI hb hl
      obtain ⟨u3, h3, e3⟩ := hl 3 (List.contains_iff_mem.1 (by kernel_rfl))
      replace e3 : u3 = .pointer (some ⟨w.heap.size, 0, none⟩) := e3
      subst e3
      exact op_val rfl rfl (ex_load rfl (eval_tmp h3) (load27 (L1.out W hI))) ⟨_, rfl, fun d hd => by cases hd; rfl, hI, Below.refl _ _⟩
    · intro L a W hLs hL hn hd hI hb hl
      obtain ⟨u28, h28, e28⟩ := hl 28 (List.contains_iff_mem.1 (by kernel_rfl))
      replace e28 : u28 = .agg #[.int .u8 g.op, .string g.n, .slice pb g.ts.len cb, .slice qb g.sub.len db] := e28
      subst e28
      obtain ⟨u29, h29, e29⟩ := hl 29 (List.contains_iff_mem.1 (by kernel_rfl))
      replace e29 : u29 = .agg #[.int .u8 f.op, .string f.n, .slice pa f.ts.len ca, .slice qa f.sub.len da] := e29
      subst e29
      refine op_call rfl rfl (ex_call2 (enters_of Tryd.func12 (by kernel_rfl) rfl) rfl (eval_tmp h28) (eval_tmp h29)) ((CBA.out W hI).mono ?_)
      rintro e W' ⟨rfl, hb'⟩
      exact ⟨_, rfl, _, rfl, fun d hd => by cases hd; rfl, bel_step hI hb', hb'⟩
    · intro L a W hLs hL hn hd hI hb hl
      obtain ⟨u30, h30, e30⟩ := hl 30 (List.contains_iff_mem.1 (by kernel_rfl))
      replace e30 : u30 = .int .i64 (-x) := e30
      subst e30
      exact op_val rfl rfl (ex_neg rfl (eval_tmp h30) hng) ⟨_, rfl, fun d hd => by cases hd; rfl, hI, Below.refl _ _⟩
    · intro L a W hLs hL hn hd hI hb hl
      obtain ⟨u27, h27, e27⟩ := hl 27 (List.contains_iff_mem.1 (by kernel_rfl))
      replace e27 : u27 = .int .i64 x := e27
      subst e27
      obtain ⟨u31, h31, e31⟩ := hl 31 (List.contains_iff_mem.1 (by kernel_rfl))
      replace e31 : u31 = .int .i64 x := e31
      subst e31
      exact op_val rfl rfl (ex_bin rfl (eval_tmp h27) (eval_tmp h31) (guard_int3 _ _ _ _ _ _) (neq_int _ _ W (bne_selfI x))) ⟨_, rfl, fun d hd => by cases hd; rfl, hI, Below.refl _ _⟩
    · intro L a W hLs hL hn hd hI hb hl
      obtain ⟨u32, h32, e32⟩ := hl 32 (List.contains_iff_mem.1 (by kernel_rfl))
      replace e32 : u32 = .bool false := e32
      subst e32
      exact op_val rfl rfl (ex_move rfl (eval_tmp h32)) ⟨_, rfl, fun d hd => by cases hd; rfl, hI, Below.refl _ _⟩
    · intro L a W hLs hL hn hd hI hb hl
      obtain ⟨ug, hg, eg⟩ := hl 33 (List.contains_iff_mem.1 (by kernel_rfl))
      replace eg : ug = .bool false := eg
      subst eg
      obtain ⟨u7, h7, e7⟩ := hl 7 (List.contains_iff_mem.1 (by kernel_rfl))
      replace e7 : u7 = .int .i64 x := e7
      subst e7
      exact op_val rfl (wants_yes false rfl (by kernel_rfl) hg) (ex_move rfl (eval_tmp h7)) ⟨_, rfl, fun d hd => by cases hd; rfl, hI, Below.refl _ _⟩
    · intro L a W hLs hL hn hd hI hb hl
      obtain ⟨ug, hg, eg⟩ := hl 33 (List.contains_iff_mem.1 (by kernel_rfl))
      replace eg : ug = .bool false := eg
      subst eg
      obtain ⟨u34, h34, e34⟩ := hl 34 (List.contains_iff_mem.1 (by kernel_rfl))
      replace e34 : u34 = .int .i64 x := e34
      subst e34
      exact op_val rfl (wants_yes false rfl (by kernel_rfl) hg) (ex_bin rfl (eval_tmp h34) rfl (guard_int3 _ _ _ _ _ _) (lss_int _ _ W hx1.out)) ⟨_, rfl, fun d hd => by cases hd; rfl, hI, Below.refl _ _⟩
    · intro L a W hLs hL hn hd hI hb hl
      obtain ⟨u33, h33, e33⟩ := hl 33 (List.contains_iff_mem.1 (by kernel_rfl))
      replace e33 : u33 = .bool false := e33
      subst e33
      obtain ⟨u35, h35, e35⟩ := hl 35 (List.contains_iff_mem.1 (by kernel_rfl))
      replace e35 : u35 = .bool false := e35
      subst e35
      exact op_val rfl rfl (ex_pickF rfl (eval_tmp h33) (eval_tmp h35)) ⟨_, rfl, fun d hd => by cases hd; rfl, hI, Below.refl _ _⟩
    · intro L a W hLs hL hn hd hI hb hl
      obtain ⟨u36, h36, e36⟩ := hl 36 (List.contains_iff_mem.1 (by kernel_rfl))
      replace e36 : u36 = .bool false := e36
      subst e36
      exact op_val rfl rfl (ex_move rfl (eval_tmp h36)) ⟨_, rfl, fun d hd => by cases hd; rfl, hI, Below.refl _ _⟩
    · intro L a W hLs hL hn hd hI hb hl
      obtain ⟨ug, hg, eg⟩ := hl 37 (List.contains_iff_mem.1 (by kernel_rfl))
      replace eg : ug = .bool false := eg
      subst eg
      obtain ⟨u7, h7, e7⟩ := hl 7 (List.contains_iff_mem.1 (by kernel_rfl))
      replace e7 : u7 = .int .i64 x := e7
      subst e7
      exact op_val rfl (wants_yes false rfl (by kernel_rfl) hg) (ex_move rfl (eval_tmp h7)) ⟨_, rfl, fun d hd => by cases hd; rfl, hI, Below.refl _ _⟩
    · intro L a W hLs hL hn hd hI hb hl
      obtain ⟨ug, hg, eg⟩ := hl 37 (List.contains_iff_mem.1 (by kernel_rfl))
      replace eg : ug = .bool false := eg
      subst eg
      obtain ⟨u38, h38, e38⟩ := hl 38 (List.contains_iff_mem.1 (by kernel_rfl))
      replace e38 : u38 = .int .i64 x := e38
      subst e38
      exact op_val rfl (wants_yes false rfl (by kernel_rfl) hg) (ex_bin rfl (eval_tmp h38) rfl (guard_int3 _ _ _ _ _ _) (gtr_int _ _ W hx2.out)) ⟨_, rfl, fun d hd => by cases hd; rfl, hI, Below.refl _ _⟩
    · intro L a W hLs hL hn hd hI hb hl
      obtain ⟨u37, h37, e37⟩ := hl 37 (List.contains_iff_mem.1 (by kernel_rfl))
      replace e37 : u37 = .bool false := e37
      subst e37
      obtain ⟨u39, h39, e39⟩ := hl 39 (List.contains_iff_mem.1 (by kernel_rfl))
      replace e39 : u39 = .bool false := e39
      subst e39
      exact op_val rfl rfl (ex_pickF rfl (eval_tmp h37) (eval_tmp h39)) ⟨_, rfl, fun d hd => by cases hd; rfl, hI, Below.refl _ _⟩
    · intro L a W hLs hL hn hd hI hb hl
      obtain ⟨u40, h40, e40⟩ := hl 40 (List.contains_iff_mem.1 (by kernel_rfl))
      replace e40 : u40 = .bool false := e40
      subst e40
      exact op_val rfl rfl (ex_move rfl (eval_tmp h40)) ⟨_, rfl, fun d hd => by cases hd; rfl, hI, Below.refl _ _⟩
    · intro L a W hLs hL hn hd hI hb hl
      obtain ⟨ug, hg, eg⟩ := hl 41 (List.contains_iff_mem.1 (by kernel_rfl))
      replace eg : ug = .bool false := eg
      subst eg
      obtain ⟨u7, h7, e7⟩ := hl 7 (List.contains_iff_mem.1 (by kernel_rfl))
      replace e7 : u7 = .int .i64 x := e7
      subst e7
      exact op_val rfl (wants_yes false rfl (by kernel_rfl) hg) (ex_move rfl (eval_tmp h7)) ⟨_, rfl, fun d hd => by cases hd; rfl, hI, Below.refl _ _⟩
    · intro L a W hLs hL hn hd hI hb hl
      obtain ⟨ug, hg, eg⟩ := hl 41 (List.contains_iff_mem.1 (by kernel_rfl))
      replace eg : ug = .bool false := eg
      subst eg
      obtain ⟨u42, h42, e42⟩ := hl 42 (List.contains_iff_mem.1 (by kernel_rfl))
      replace e42 : u42 = .int .i64 x := e42
      subst e42
      exact op_val rfl (wants_yes false rfl (by kernel_rfl) hg) (ex_bin rfl (eval_tmp h42) rfl (guard_int3 _ _ _ _ _ _) (eql_int2 _ _ W hxt.out)) ⟨_, rfl, fun d hd => by cases hd; rfl, hI, Below.refl _ _⟩
    · intro L a W hLs hL hn hd hI hb hl
      obtain ⟨ug, hg, eg⟩ := hl 41 (List.contains_iff_mem.1 (by kernel_rfl))
      replace eg : ug = .bool false := eg
      subst eg
      obtain ⟨u3, h3, e3⟩ := hl 3 (List.contains_iff_mem.1 (by kernel_rfl))
      replace e3 : u3 = .pointer (some ⟨w.heap.size, 0, none⟩) := e3
      subst e3
      exact op_val rfl (wants_yes false rfl (by kernel_rfl) hg) (ex_load rfl (eval_tmp h3) (load27 (L1.out W hI))) ⟨_, rfl, fun d hd => by cases hd; rfl, hI, Below.refl _ _⟩
    · intro L a W hLs hL hn hd hI hb hl
      obtain ⟨ug, hg, eg⟩ := hl 41 (List.contains_iff_mem.1 (by kernel_rfl))
      replace eg : ug = .bool false := eg
      subst eg
      obtain ⟨u4, h4, e4⟩ := hl 4 (List.contains_iff_mem.1 (by kernel_rfl))
      replace e4 : u4 = .pointer (some ⟨w.heap.size + 1, 0, none⟩) := e4
      subst e4
      exact op_val rfl (wants_yes false rfl (by kernel_rfl) hg) (ex_load rfl (eval_tmp h4) (load27 (L2.out W hI))) ⟨_, rfl, fun d hd => by cases hd; rfl, hI, Below.refl _ _⟩
    · intro L a W hLs hL hn hd hI hb hl
      obtain ⟨ug, hg, eg⟩ := hl 41 (List.contains_iff_mem.1 (by kernel_rfl))
      replace eg : ug = .bool false := eg
      subst eg
      obtain ⟨u44, h44, e44⟩ := hl 44 (List.contains_iff_mem.1 (by kernel_rfl))
      replace e44 : u44 = .agg #[.int .u8 f.op, .string f.n, .slice pa f.ts.len ca, .slice qa f.sub.len da] := e44
      subst e44
      obtain ⟨u45, h45, e45⟩ := hl 45 (List.contains_iff_mem.1 (by kernel_rfl))
      replace e45 : u45 = .agg #[.int .u8 g.op, .string g.n, .slice pb g.ts.len cb, .slice qb g.sub.len db] := e45
      subst e45
      refine op_call rfl (wants_yes false rfl (by kernel_rfl) hg) (ex_call2 (enters_of Tryd.func13 (by kernel_rfl) rfl) rfl (eval_tmp h44) (eval_tmp h45)) ((SF.out W hI).mono ?_)
      rintro e W' ⟨rfl, hb'⟩
      exact ⟨_, rfl, _, rfl, fun d hd => by cases hd; rfl, bel_step hI hb', hb'⟩
    · intro L a W hLs hL hn hd hI hb hl
      obtain ⟨ug, hg, eg⟩ := hl 41 (List.contains_iff_mem.1 (by kernel_rfl))
      replace eg : ug = .bool false := eg
      subst eg
      obtain ⟨u43, h43, e43⟩ := hl 43 (List.contains_iff_mem.1 (by kernel_rfl))
      replace e43 : u43 = .bool t := e43
      subst e43
      obtain ⟨u46, h46, e46⟩ := hl 46 (List.contains_iff_mem.1 (by kernel_rfl))
      replace e46 : u46 = .bool t := e46
      subst e46
      exact op_val rfl (wants_yes false rfl (by kernel_rfl) hg) (ex_bin rfl (eval_tmp h43) (eval_tmp h46) (guard_bool _ _ _ _ _ _) (neq_bool _ _ W (bne_self t))) ⟨_, rfl, fun d hd => by cases hd; rfl, hI, Below.refl _ _⟩
    · intro L a W hLs hL hn hd hI hb hl
      obtain ⟨u41, h41, e41⟩ := hl 41 (List.contains_iff_mem.1 (by kernel_rfl))
      replace e41 : u41 = .bool false := e41
      subst e41
      obtain ⟨u47, h47, e47⟩ := hl 47 (List.contains_iff_mem.1 (by kernel_rfl))
      replace e47 : u47 = .bool false := e47
      subst e47
      exact op_val rfl rfl (ex_pickF rfl (eval_tmp h41) (eval_tmp h47)) ⟨_, rfl, fun d hd => by cases hd; rfl, hI, Below.refl _ _⟩
    · intro L a W hLs hL hn hd hI hb hl
      obtain ⟨u48, h48, e48⟩ := hl 48 (List.contains_iff_mem.1 (by kernel_rfl))
      replace e48 : u48 = .bool false := e48
      subst e48
      exact op_val rfl rfl (ex_move rfl (eval_tmp h48)) ⟨_, rfl, fun d hd => by cases hd; rfl, hI, Below.refl _ _⟩
    · intro L a W hLs hL hn hd hI hb hl
      obtain ⟨ug, hg, eg⟩ := hl 49 (List.contains_iff_mem.1 (by kernel_rfl))
      replace eg : ug = .bool false := eg
      subst eg
      obtain ⟨u3, h3, e3⟩ := hl 3 (List.contains_iff_mem.1 (by kernel_rfl))
      replace e3 : u3 = .pointer (some ⟨w.heap.size, 0, none⟩) := e3
      subst e3
      exact op_val rfl (wants_yes false rfl (by kernel_rfl) hg) (ex_load rfl (eval_tmp h3) (load27 (L1.out W hI))) ⟨_, rfl, fun d hd => by cases hd; rfl, hI, Below.refl _ _⟩
    · intro L a W hLs hL hn hd hI hb hl
      obtain ⟨ug, hg, eg⟩ := hl 49 (List.contains_iff_mem.1 (by kernel_rfl))
      replace eg : ug = .bool false := eg
      subst eg
      obtain ⟨u3, h3, e3⟩ := hl 3 (List.contains_iff_mem.1 (by kernel_rfl))
      replace e3 : u3 = .pointer (some ⟨w.heap.size, 0, none⟩) := e3
      subst e3
      exact op_val rfl (wants_yes false rfl (by kernel_rfl) hg) (ex_load rfl (eval_tmp h3) (load27 (L1.out W hI))) ⟨_, rfl, fun d hd => by cases hd; rfl, hI, Below.refl _ _⟩
    · intro L a W hLs hL hn hd hI hb hl
      obtain ⟨ug, hg, eg⟩ := hl 49 (List.contains_iff_mem.1 (by kernel_rfl))
      replace eg : ug = .bool false := eg
      subst eg
      obtain ⟨u51, h51, e51⟩ := hl 51 (List.contains_iff_mem.1 (by kernel_rfl))
      replace e51 : u51 = .agg #[.int .u8 f.op, .string f.n, .slice pa f.ts.len ca, .slice qa f.sub.len da] := e51
      subst e51
      refine op_call rfl (wants_yes false rfl (by kernel_rfl) hg) (ex_call1 (enters_of Tryd.func14 (by kernel_rfl) rfl) rfl (eval_tmp h51)) ((CP.out W hI).mono ?_)
      rintro e W' ⟨⟨v', rfl, hv'⟩, hb'⟩
      exact ⟨_, rfl, _, rfl, fun d hd => by cases hd; exact hv', bel_step hI hb', hb'⟩
    · intro L a W hLs hL hn hd hI hb hl
      obtain ⟨ug, hg, eg⟩ := hl 49 (List.contains_iff_mem.1 (by kernel_rfl))
      replace eg : ug = .bool false := eg
      subst eg
      obtain ⟨u50, h50, e50⟩ := hl 50 (List.contains_iff_mem.1 (by kernel_rfl))
      replace e50 : u50 = .agg #[.int .u8 f.op, .string f.n, .slice pa f.ts.len ca, .slice qa f.sub.len da] := e50
      subst e50
      obtain ⟨u52, h52, e52⟩ := hl 52 (List.contains_iff_mem.1 (by kernel_rfl))
      replace e52 : FVal W f u52 := e52
      refine op_call rfl (wants_yes false rfl (by kernel_rfl) hg) (ex_call2 (enters_of Tryd.func12 (by kernel_rfl) rfl) rfl (eval_tmp h50) (eval_tmp h52)) (((CC.out W u52 hI e52)).mono ?_)
      rintro e W' ⟨rfl, hb'⟩
      exact ⟨_, rfl, _, rfl, fun d hd => by cases hd; rfl, bel_step hI hb', hb'⟩
    · intro L a W hLs hL hn hd hI hb hl
      obtain ⟨ug, hg, eg⟩ := hl 49 (List.contains_iff_mem.1 (by kernel_rfl))
      replace eg : ug = .bool false := eg
      subst eg
      obtain ⟨u53, h53, e53⟩ := hl 53 (List.contains_iff_mem.1 (by kernel_rfl))
      replace e53 : u53 = .int .i64 0 := e53
      subst e53
      exact op_val rfl (wants_yes false rfl (by kernel_rfl) hg) (ex_bin rfl (eval_tmp h53) rfl (guard_int3 _ _ _ _ _ _) (neq_int _ _ W (by rfl))) ⟨_, rfl, fun d hd => by cases hd; rfl, hI, Below.refl _ _⟩
    · intro L a W hLs hL hn hd hI hb hl
      obtain ⟨u49, h49, e49⟩ := hl 49 (List.contains_iff_mem.1 (by kernel_rfl))
      replace e49 : u49 = .bool false := e49
      subst e49
      obtain ⟨u54, h54, e54⟩ := hl 54 (List.contains_iff_mem.1 (by kernel_rfl))
      replace e54 : u54 = .bool false := e54
      subst e54
      exact op_val rfl rfl (ex_pickF rfl (eval_tmp h49) (eval_tmp h54)) ⟨_, rfl, fun d hd => by cases hd; rfl, hI, Below.refl _ _⟩
    · intro L a W hLs hL hn hd hI hb hl
      obtain ⟨u55, h55, e55⟩ := hl 55 (List.contains_iff_mem.1 (by kernel_rfl))
      replace e55 : u55 = .bool false := e55
      subst e55
      exact op_val rfl rfl (ex_move rfl (eval_tmp h55)) ⟨_, rfl, fun d hd => by cases hd; rfl, hI, Below.refl _ _⟩
    · intro L a W hLs hL hn hd hI hb hl
      obtain ⟨ug, hg, eg⟩ := hl 56 (List.contains_iff_mem.1 (by kernel_rfl))
      replace eg : ug = .bool false := eg
      subst eg
      obtain ⟨u3, h3, e3⟩ := hl 3 (List.contains_iff_mem.1 (by kernel_rfl))
      replace e3 : u3 = .pointer (some ⟨w.heap.size, 0, none⟩) := e3
      subst e3
      exact op_val rfl (wants_yes false rfl (by kernel_rfl) hg) (ex_load rfl (eval_tmp h3) (load27 (L1.out W hI))) ⟨_, rfl, fun d hd => by cases hd; rfl, hI, Below.refl _ _⟩
    · intro L a W hLs hL hn hd hI hb hl
      obtain ⟨ug, hg, eg⟩ := hl 56 (List.contains_iff_mem.1 (by kernel_rfl))
      replace eg : ug = .bool false := eg
      subst eg
      obtain ⟨u4, h4, e4⟩ := hl 4 (List.contains_iff_mem.1 (by kernel_rfl))
      replace e4 : u4 = .pointer (some ⟨w.heap.size + 1, 0, none⟩) := e4
      subst e4
      exact op_val rfl (wants_yes false rfl (by kernel_rfl) hg) (ex_load rfl (eval_tmp h4) (load27 (L2.out W hI))) ⟨_, rfl, fun d hd => by cases hd; rfl, hI, Below.refl _ _⟩
    · intro L a W hLs hL hn hd hI hb hl
      obtain ⟨ug, hg, eg⟩ := hl 56 (List.contains_iff_mem.1 (by kernel_rfl))
      replace eg : ug = .bool false := eg
      subst eg
      obtain ⟨u57, h57, e57⟩ := hl 57 (List.contains_iff_mem.1 (by kernel_rfl))
      replace e57 : u57 = .agg #[.int .u8 f.op, .string f.n, .slice pa f.ts.len ca, .slice qa f.sub.len da] := e57
      subst e57
      obtain ⟨u58, h58, e58⟩ := hl 58 (List.contains_iff_mem.1 (by kernel_rfl))
      replace e58 : u58 = .agg #[.int .u8 g.op, .string g.n, .slice pb g.ts.len cb, .slice qb g.sub.len db] := e58
      subst e58
      refine op_call rfl (wants_yes false rfl (by kernel_rfl) hg) (ex_call2 (enters_of Tryd.func15 (by kernel_rfl) rfl) rfl (eval_tmp h57) (eval_tmp h58)) ((SM.out W hI).mono ?_)
      rintro e W' ⟨rfl, hb'⟩
      exact ⟨_, rfl, _, rfl, fun d hd => by cases hd; rfl, bel_step hI hb', hb'⟩
    · intro L a W hLs hL hn hd hI hb hl
      obtain ⟨ug, hg, eg⟩ := hl 56 (List.contains_iff_mem.1 (by kernel_rfl))
      replace eg : ug = .bool false := eg
      subst eg
      obtain ⟨u7, h7, e7⟩ := hl 7 (List.contains_iff_mem.1 (by kernel_rfl))
      replace e7 : u7 = .int .i64 x := e7
      subst e7
      exact op_val rfl (wants_yes false rfl (by kernel_rfl) hg) (ex_move rfl (eval_tmp h7)) ⟨_, rfl, fun d hd => by cases hd; rfl, hI, Below.refl _ _⟩
    · intro L a W hLs hL hn hd hI hb hl
      obtain ⟨ug, hg, eg⟩ := hl 56 (List.contains_iff_mem.1 (by kernel_rfl))
      replace eg : ug = .bool false := eg
      subst eg
      obtain ⟨u60, h60, e60⟩ := hl 60 (List.contains_iff_mem.1 (by kernel_rfl))
      replace e60 : u60 = .int .i64 x := e60
      subst e60
      exact op_val rfl (wants_yes false rfl (by kernel_rfl) hg) (ex_bin rfl (eval_tmp h60) rfl (guard_int3 _ _ _ _ _ _) (eql_int2 _ _ W hxt.out)) ⟨_, rfl, fun d hd => by cases hd; rfl, hI, Below.refl _ _⟩
    · intro L a W hLs hL hn hd hI hb hl
      obtain ⟨ug, hg, eg⟩ := hl 56 (List.contains_iff_mem.1 (by kernel_rfl))
      replace eg : ug = .bool false := eg
      subst eg
      obtain ⟨u59, h59, e59⟩ := hl 59 (List.contains_iff_mem.1 (by kernel_rfl))
      replace e59 : u59 = .bool t := e59
      subst e59
      obtain ⟨u61, h61, e61⟩ := hl 61 (List.contains_iff_mem.1 (by kernel_rfl))
      replace e61 : u61 = .bool t := e61
      subst e61
      exact op_val rfl (wants_yes false rfl (by kernel_rfl) hg) (ex_bin rfl (eval_tmp h59) (eval_tmp h61) (guard_bool _ _ _ _ _ _) (neq_bool _ _ W (bne_self t))) ⟨_, rfl, fun d hd => by cases hd; rfl, hI, Below.refl _ _⟩
    · intro L a W hLs hL hn hd hI hb hl
      obtain ⟨u56, h56, e56⟩ := hl 56 (List.contains_iff_mem.1 (by kernel_rfl))
      replace e56 : u56 = .bool false := e56
      subst e56
      obtain ⟨u62, h62, e62⟩ := hl 62 (List.contains_iff_mem.1 (by kernel_rfl))
      replace e62 : u62 = .bool false := e62
      subst e62
      exact op_val rfl rfl (ex_pickF rfl (eval_tmp h56) (eval_tmp h62)) ⟨_, rfl, fun d hd => by cases hd; rfl, hI, Below.refl _ _⟩
  case hend =>
  intro u w8 hw8 _
  have hfin := bel_step hw6.out hw8
  clear CAB CBA SF SM CP CC hw8 hw7h L1 L2 L3 hw6 hx1 hx2 hxt hng
  simp only [puts, Act.put, List.setIfInBounds_toArray, List.set_cons_succ, List.set_cons_zero]
  have hT1 := hT.out.1
  have hT2 := hT.out.2
  have hx' := hrxh.out
  have hy' := hryh.out
  have hz' := hrzh.out
  clear hT hrxh hryh hrzh
  unfold Tr3 at hT1 hT2
  rcases hx' with rfl | rfl | rfl <;> rcases hy' with rfl | rfl | rfl <;> rcases hz' with rfl | rfl | rfl
  all_goals first
    | (exfalso; revert hT1 hT2; decide)
    | (clear hT1 hT2; go_wp2_with fail; go_ret; exact ⟨rfl, hfin⟩)
end Go.Proofs.YtpcjpdfigkcojaaDoor
