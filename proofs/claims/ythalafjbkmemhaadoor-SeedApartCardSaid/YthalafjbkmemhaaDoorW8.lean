/- SeedApart's walk: what is different has different streams. -/
import Derived.Test.YthalafjbkmemhaaDoorM3
import Derived.Test.YthalafjbkmemhaaDoorW8a
import Derived.Deep.RegionHeld3
namespace Go.Proofs.YthalafjbkmemhaaDoor
open Go Go.RowKit
set_option maxRecDepth 100000
theorem beq_of_inj {α β : Type} [DecidableEq α] [DecidableEq β] (f : α → β) (x y : α) (h : f x = f y → x = y) : (f x == f y) = (x == y) := by
  by_cases e : x = y
  · subst e; simp
  · have : f x ≠ f y := fun hf => e (h hf)
    rw [beq_eq_false_iff_ne.2 e, beq_eq_false_iff_ne.2 this]
theorem unmix_of_mix (x : Int) (w : World) (h : Stp w) (hx : U x) : Calls Tryd.prog 19 #[.int .u64 (mixI x)] w fun e w' => e = .returned (.int .u64 x) ∧ Below w.heap.size w w' :=
  (unmix_any _ w h).mono fun _ _ ⟨he, hb⟩ => ⟨by rw [he, unmix_mix hx], hb⟩
theorem mix_of_unmix (x : Int) (w : World) (h : Stp w) (hx : U x) : Calls Tryd.prog 20 #[.int .u64 (unmixI x)] w fun e w' => e = .returned (.int .u64 x) ∧ Below w.heap.size w w' :=
  (mix_any _ w h).mono fun _ _ ⟨he, hb⟩ => ⟨by rw [he, mix_unmix hx], hb⟩
theorem eg33 : Tryd.prog.eqGuardType Tryd.prog.depth 33 = false := by kernel_rfl
theorem st33 : Tryd.prog.stoodInHeld 33 = false := by kernel_rfl
theorem us33 : Tryd.prog.underlying 33 = some (.struct (Tryd.prog.fieldsOf 33)) := by kernel_rfl
theorem fields33 : ∃ f : Field, Tryd.prog.fieldsOf 33 = #[f] ∧ f.type = 22 ∧ f.offset = 0 ∧ f.name = "Key" := by
  obtain ⟨f, hf⟩ : ∃ f, Tryd.prog.fieldsOf 33 = #[f] := by
    obtain ⟨l, hl⟩ : ∃ l, Tryd.prog.fieldsOf 33 = l := ⟨_, rfl⟩
    have h1 : (Tryd.prog.fieldsOf 33).size = 1 := by kernel_rfl
    refine ⟨(Tryd.prog.fieldsOf 33)[0], Array.ext (by simp [h1]) fun i p q => ?_⟩
    have : i = 0 := by simp at q; exact q
    subst this
    rfl
  refine ⟨f, hf, ?_, ?_, ?_⟩
  · have h : (Tryd.prog.fieldsOf 33).toList.map (·.type) = [22] := by kernel_rfl
    rw [hf] at h; simpa using h
  · have h : (Tryd.prog.fieldsOf 33).toList.map (·.offset) = [0] := by kernel_rfl
    rw [hf] at h; simpa using h
  · have h : (Tryd.prog.fieldsOf 33).toList.map (·.name) = ["Key"] := by kernel_rfl
    rw [hf] at h; simpa using h
theorem eqi33 (x y : Int) (w : World) : (Op.equalIn 10000 33 (.agg #[.int .u64 x]) (.agg #[.int .u64 y])).run Tryd.prog w = .ok (x == y) w := by
  rw [run_equalIn_struct w 9999 33 _ _ us33 st33]
  obtain ⟨f, hf, ht, ho, hn⟩ := fields33
  rw [hf]
  have he := run_equalIn_int (P := Tryd.prog) w 9998 22 .u64 .u64 x y Tryd.underlying22
  simp [Op.eqFields, ht, ho, hn, go_sem]
  by_cases e : x = y <;> simp [e]
theorem eql33 (x y : Int) (w : World) : (binOp .eql 33 (.agg #[.int .u64 x]) (.agg #[.int .u64 y])).run Tryd.prog w = .ok (.bool (x == y)) w := by
  rw [run_eql_struct, eqi33]; rfl
theorem tt1 (x y : Operand) (p q : Int) (w : World) : (eqGuard .eql 33 x y (.agg #[.int .u64 p]) (.agg #[.int .u64 q])).run Tryd.prog w = .ok () w := by
  go_simp
theorem exec_eql33 (ρ : Operand → Value) (o : Oper) (x y : Operand) (p q : Int) (w : World) (ho : o.op = .binOp .eql 33 x y 33) (hx : ρ x = .agg #[.int .u64 p]) (hy : ρ y = .agg #[.int .u64 q]) :
    (execOp ρ o).run Tryd.prog w = .ok (.value (.bool (p == q))) w := by
  unfold execOp
  rw [ho]
  simp only [hx, hy]
  have h1 := tt1 x y p q w
  have h2 := eql33 p q w
  simp [Sem.run_bind, h1, h2, Result.andThen]
theorem wp_eql33 (o : Oper) (x y : Operand) (p q : Int) (a : Act) (w : World) (K : Act → World → Prop) (Q : Exit → Act → World → Prop) (ho : o.op = .binOp .eql 33 x y 33) (hx : a.eval x = .agg #[.int .u64 p]) (hy : a.eval y = .agg #[.int .u64 q])
    (h : K (a.put o.dst (.bool (p == q))) w) : o.wp Tryd.prog a w K Q := by
  unfold Oper.wp
  rw [exec_eql33 a.eval o x y p q w ho hx hy]
  exact h
def keyed (v : Value) : Prop := ∃ x, v = .agg #[.int .u64 x]
open Classical in
noncomputable def keyOf8 (v : Value) : Int := if h : ∃ x, v = .agg #[.int .u64 x] then h.choose else 0
theorem keyOf8_mk (x : Int) : keyOf8 (.agg #[.int .u64 x]) = x := by
  have h : ∃ y, (Value.agg #[.int .u64 x]) = .agg #[.int .u64 y] := ⟨x, rfl⟩
  unfold keyOf8
  rw [dif_pos h]
  have e := h.choose_spec
  generalize h.choose = z at e ⊢
  simp at e
  exact e.symm
theorem keyed_mk (x : Int) : keyed (.agg #[.int .u64 x]) = True := eq_true ⟨x, rfl⟩
theorem keyed_inv {v : Value} (h : keyed v) : v = .agg #[.int .u64 (keyOf8 v)] := by
  obtain ⟨x, rfl⟩ := h
  rw [keyOf8_mk]
theorem exec_eql33' (ρ : Operand → Value) (d : Option Tmp) (t : TypeId) (ps : String) (af : Array Edge) (g : Option (Tmp × Bool)) (x y : Operand) (w : World) (hx : keyed (ρ x)) (hy : keyed (ρ y)) :
    (execOp ρ { dst := d, op := .binOp .eql 33 x y 33, type := t, pos := ps, after := af, guard := g }).run Tryd.prog w = .ok (.value (.bool (keyOf8 (ρ x) == keyOf8 (ρ y)))) w :=
  exec_eql33 ρ _ x y _ _ w rfl (keyed_inv hx) (keyed_inv hy)
attribute [local go_sem ↓] exec_eql33'
attribute [local go_sem] keyed_mk keyOf8_mk
/-- What a walk keeps of the world besides cells. -/
def KP (w W : World) : Prop := Stp W ∧ Below w.heap.size w W
theorem KP.next {w W W' : World} (h : KP w W) (hb : Below W.heap.size W W') : KP w W' := ⟨h.1.of hb, h.2.trans (hb.mono h.2.size)⟩
theorem KP.drew {w W : World} (h : KP w W) : KP w W.drew := h.next ⟨rfl, rfl, rfl, Nat.le_refl _, fun _ _ => rfl⟩
theorem lt_of_cell8 {w : World} {b o : Nat} {v : Value} (h : w.cell? ⟨b, o, none⟩ = some v) : b < w.heap.size := by
  by_cases hb : b < w.heap.size
  · exact hb
  · rw [World.cell?, Array.getElem?_eq_none (by simpa using hb)] at h
    simp at h
theorem at_keep (k n : Int) (w W : World) (g1 g2 : Nat) (u v : Value) (hs : W.cell? ⟨g1, 0, none⟩ = some u ∧ W.cell? ⟨g2, 0, none⟩ = some v ∧ KP w W) :
    Calls Tryd.prog 22 #[.agg #[.int .u64 k], .int .i64 n] W fun e w' => e = .returned (.agg #[.int .u64 (atI k n)]) ∧ w'.cell? ⟨g1, 0, none⟩ = some u ∧ w'.cell? ⟨g2, 0, none⟩ = some v ∧ KP w w' :=
  (at_any k n W hs.2.2.1).mono fun _ _ ⟨he, hb⟩ => ⟨he, (hb.cell (p := ⟨g1, 0, none⟩) (lt_of_cell8 hs.1)).trans hs.1, (hb.cell (p := ⟨g2, 0, none⟩) (lt_of_cell8 hs.2.1)).trans hs.2.1, hs.2.2.next hb⟩
set_option maxHeartbeats 8000000 in
theorem apart_go (c d : Bool) (x y i j : Int) (s : ByteArray) (a b : Int) (w : World) (h : Stp w) (hx : U x) (hy : U y) (hxy : (x == y) = c) (hij : (i == j) = d) (a0 : 0 ≤ a) (a1 : a ≤ 255) (b0 : 0 ≤ b) (b1 : b ≤ 255) (i0 : -9223372036854775808 ≤ i) (i1 : i ≤ 9223372036854775807) (j0 : -9223372036854775808 ≤ j) (j1 : j ≤ 9223372036854775807) :
    Calls Tryd.prog 8 #[.int .u64 x, .int .u64 y, .int .i64 i, .int .i64 j, .string s, .int .u8 a, .int .u8 b] w fun e w' => e = .returned (.bool true) ∧ Below w.heap.size w w' := by
  have t2 : (mixI x == mixI y) = c := by rw [← hxy]; exact beq_of_inj mixI x y (fun e => mix_inj hx hy e)
  have q1 : (atI x i == atI x j) = d := by
    rw [← hij]
    by_cases e : i = j
    · subst e; simp
    · rw [beq_eq_false_iff_ne.2 e, beq_eq_false_iff_ne.2 (fun h => e (at_inj_n i0 i1 j0 j1 h))]
  have q2 : (atI x i == atI y i) = c := by
    rw [← hxy]
    by_cases e : x = y
    · subst e; simp
    · rw [beq_eq_false_iff_ne.2 e, beq_eq_false_iff_ne.2 (fun h => e (at_inj_k hx hy h))]
  have A1 := Lib.hid (at_keep x i w)
  have A2 := Lib.hid (at_keep x j w)
  have A3 := Lib.hid (at_keep y i w)
  generalize atI x i = p1 at q1 q2 A1
  generalize atI x j = p2 at q1 A2
  generalize atI y i = p3 at q2 A3
  have SX := Lib.hid (fun W hW (h0 : 1 ≤ (s.size : Int) ∧ (s.size : Int) ≤ 32) => sub_ok x s W hW (by omega) (by omega))
  have SY := Lib.hid (fun W hW (h0 : 1 ≤ (s.size : Int) ∧ (s.size : Int) ≤ 32) => sub_ok y s W hW (by omega) (by omega))
  have HS := Lib.hid (fun (h0 : 1 ≤ (s.size : Int) ∧ (s.size : Int) ≤ 32) => show (subI x s.data.toList == subI y s.data.toList) = c by
    rw [← hxy]
    by_cases e : x = y
    · subst e; simp
    · rw [beq_eq_false_iff_ne.2 e, beq_eq_false_iff_ne.2 (fun h => e (subI_inj _ (by rw [Array.length_toList]; exact Int.ofNat_le.1 h0.2) hx hy h))])
  have HB := Lib.hid (show (0 ≤ a ∧ a ≤ 255) ∧ 0 ≤ b ∧ b ≤ 255 from ⟨⟨a0, a1⟩, b0, b1⟩)
  have HU := Lib.hid hx
  have PI := Lib.hid (fun W => pick_any i 1099511627776 W (by decide) (by decide))
  have PJ := Lib.hid (fun W => pick_any j 1099511627776 W (by decide) (by decide))
  have pi0 : 0 ≤ pickI i 1099511627776 := Int.emod_nonneg _ (by decide)
  have pi1 : pickI i 1099511627776 < 1099511627776 := Int.emod_lt_of_pos i (by decide)
  have pj0 : 0 ≤ pickI j 1099511627776 := Int.emod_nonneg _ (by decide)
  have pj1 : pickI j 1099511627776 < 1099511627776 := Int.emod_lt_of_pos j (by decide)
  generalize pickI i 1099511627776 = pI at pi0 pi1 PI
  generalize pickI j 1099511627776 = pJ at pj0 pj1 PJ
  have hww : (wordI x pI == wordI x pJ) = (pI == pJ) := by
    by_cases e : pI = pJ
    · subst e; simp
    · rw [beq_eq_false_iff_ne.2 e, beq_eq_false_iff_ne.2 (fun h => e (word_inj hx pi0 pi1 pj0 pj1 h))]
  obtain ⟨dd, hdd⟩ : ∃ dd, (pI == pJ) = dd := ⟨_, rfl⟩
  rw [hdd] at hww
  have WX1 := Lib.hid (fun W hW => word_ok x pI W hW pi0 pi1)
  have WX2 := Lib.hid (fun W hW => word_ok x pJ W hW pj0 pj1)
  generalize wordI x pI = wa at hww WX1
  generalize wordI x pJ = wb at hww WX2
  have edd : (dd != dd) = false := by simp
  clear pi0 pi1 pj0 pj1
  have MX := Lib.hid (fun W hW => mix_any x W hW)
  have MY := Lib.hid (fun W hW => mix_any y W hW)
  have NX := Lib.hid (fun W hW => new_any x W hW)
  have NY := Lib.hid (fun W hW => new_any y W hW)
  have UX := Lib.hid (fun W hW => unmix_of_mix x W hW hx)
  have UX2 := Lib.hid (fun W hW => unmix_any x W hW)
  have MU := Lib.hid (fun W hW => mix_of_unmix x W hW hx)
  have HX := Lib.hid hx
  have HY := Lib.hid hy
  have HI := Lib.hid (show (-9223372036854775808 ≤ i ∧ i ≤ 9223372036854775807) ∧ -9223372036854775808 ≤ j ∧ j ≤ 9223372036854775807 from ⟨⟨i0, i1⟩, j0, j1⟩)
  generalize mixI x = mx at t2 MX NX UX
  generalize mixI y = my at t2 MY NY
  generalize unmixI x = ux at UX2 MU
  clear hx hy i0 i1 j0 j1 a0 a1 b0 b1
  cases c <;> cases d
  all_goals
    go_enter Tryd.func8, Tryd.ntmps8
    go_wp2_with fail
    refine (awake_any w h).mono ?_
    rintro en W1 ⟨rfl, hb1⟩
    have K1 : KP w W1 := ⟨h.of hb1, hb1⟩
    clear hb1
    go_wp2_with fail
    refine (MX.out W1 K1.1).mono ?_
    rintro en W2 ⟨rfl, hb⟩
    have K2 := K1.next hb
    clear hb K1
    go_wp2_with fail
    refine (UX.out W2 K2.1).mono ?_
    rintro en W3 ⟨rfl, hb⟩
    have K3 := K2.next hb
    clear hb K2
    go_wp2_with fail
    refine (UX2.out W3 K3.1).mono ?_
    rintro en W4 ⟨rfl, hb⟩
    have K4 := K3.next hb
    clear hb K3
    go_wp2_with fail
    refine (MU.out W4 K4.1).mono ?_
    rintro en W5 ⟨rfl, hb⟩
    have K5 := K4.next hb
    clear hb K4
    go_wp2_with fail
    refine (MX.out W5 K5.1).mono ?_
    rintro en W6 ⟨rfl, hb⟩
    have K6 := K5.next hb
    clear hb K5
    go_wp2_with fail
    refine (MY.out W6 K6.1).mono ?_
    rintro en W7 ⟨rfl, hb⟩
    have K7 := K6.next hb
    clear hb K6
    go_wp2_with fail
    refine (NX.out W7 K7.1).mono ?_
    rintro en W8 ⟨rfl, hb⟩
    have K8 := K7.next hb
    clear hb K7
    go_wp2_with fail
    refine (NY.out W8 K8.1).mono ?_
    rintro en W9 ⟨rfl, hb⟩
    have K9 := K8.next hb
    clear hb K8
    rename_i Q' K2 a2 K1 a1 K0 a0
    refine a0 _ _ ?_
    clear a0
    refine wpList_step (fun K hK => ?_)
    rw [if_pos (by go_simp)]
    refine wp_eql33 _ (.tmp 59) (.tmp 61) mx my _ _ _ _ rfl (by go_simp) (by go_simp) ?_
    rw [t2]
    refine hK _ _ ?_
    clear hK
    go_wp2_with fail
    obtain ⟨W10, hW10⟩ : ∃ W10, (W9.alloc (.cells #[.int .u64 x] 33)).alloc (.cells #[.int .u64 y] 33) = W10 := ⟨_, rfl⟩
    have c1 : W10.cell? ⟨W9.heap.size, 0, none⟩ = some (.int .u64 x) := by
      rw [← hW10, World.cell?_alloc_some _ _ _ (by rw [cell_new]; rfl), cell_new]; rfl
    have c2 : W10.cell? ⟨W9.heap.size + 1, 0, none⟩ = some (.int .u64 y) := by
      have hn := cell_new (W9.alloc (.cells #[.int .u64 x] 33)) #[.int .u64 y] 33 0
      rw [World.size_alloc] at hn
      rw [← hW10]
      exact hn
    have K10 : KP w W10 := by
      rw [← hW10]
      exact K9.next (Below.alloc (Below.alloc (Below.refl _ _) (Nat.le_refl _) _) (by simp) _)
    rw [hW10]
    clear hW10 K9
    generalize W9.heap.size = g1 at c1 c2 ⊢
    generalize g1 + 1 = g2 at c2 ⊢
    have K10d := K10.drew
    clear K10
    go_region_held3 (fun W => W.cell? ⟨g1, 0, none⟩ = some (.int .u64 x) ∧ W.cell? ⟨g2, 0, none⟩ = some (.int .u64 y) ∧ KP w W) (first | assumption | exact ⟨c1, c2, K10d⟩)
      (first
        | (go_at_call 22; with_reducible refine (A1.out _ g1 g2 (.int .u64 x) (.int .u64 y) (by assumption)).mono ?_; rintro e w' ⟨rfl, hSS⟩)
        | (go_at_call 22; with_reducible refine (A2.out _ g1 g2 (.int .u64 x) (.int .u64 y) (by assumption)).mono ?_; rintro e w' ⟨rfl, hSS⟩)
        | (go_at_call 22; with_reducible refine (A3.out _ g1 g2 (.int .u64 x) (.int .u64 y) (by assumption)).mono ?_; rintro e w' ⟨rfl, hSS⟩))
    clear c1 c2 K10d
    obtain ⟨c1, c2, K11⟩ := hSS
    go_wp2_with fail
    refine (PI.out _).mono ?_
    rintro en W12 ⟨rfl, rfl⟩
    go_wp2_with fail
    refine (PJ.out _).mono ?_
    rintro en W13 ⟨rfl, rfl⟩
    go_wp2_with fail
    refine (WX1.out _ K11.1).mono ?_
    rintro en W14 ⟨rfl, hb⟩
    replace c1 := (hb.cell (p := ⟨g1, 0, none⟩) (lt_of_cell8 c1)).trans c1
    replace c2 := (hb.cell (p := ⟨g2, 0, none⟩) (lt_of_cell8 c2)).trans c2
    replace K11 := K11.next hb
    clear hb
    go_wp2_with fail
    refine (WX2.out _ K11.1).mono ?_
    rintro en W15 ⟨rfl, hb⟩
    replace c1 := (hb.cell (p := ⟨g1, 0, none⟩) (lt_of_cell8 c1)).trans c1
    replace c2 := (hb.cell (p := ⟨g2, 0, none⟩) (lt_of_cell8 c2)).trans c2
    replace K11 := K11.next hb
    clear hb
    go_wp2_with fail
    · go_ret
      exact ⟨rfl, K11.2⟩
    · have hsz : 1 ≤ (s.size : Int) ∧ (s.size : Int) ≤ 32 := by assumption
      refine (SX.out W15 K11.1 hsz).mono ?_
      rintro en W16 ⟨rfl, hb⟩
      replace c1 := (hb.cell (p := ⟨g1, 0, none⟩) (lt_of_cell8 c1)).trans c1
      replace c2 := (hb.cell (p := ⟨g2, 0, none⟩) (lt_of_cell8 c2)).trans c2
      replace K11 := K11.next hb
      clear hb
      have l1 := lt_of_cell8 c1
      have l2 := lt_of_cell8 c2
      go_wp2_with fail
      obtain ⟨W17, hW17⟩ : ∃ W17, W16.alloc (.cells #[.int .u64 (subI x s.data.toList)] 33) = W17 := ⟨_, rfl⟩
      have hb : Below W16.heap.size W16 W17 := by rw [← hW17]; exact Below.alloc (Below.refl _ _) (Nat.le_refl _) _
      have c3 : W17.cell? ⟨W16.heap.size, 0, none⟩ = some (.int .u64 (subI x s.data.toList)) := by rw [← hW17, cell_new]; rfl
      rw [hW17]
      clear hW17
      replace c1 := (hb.cell (p := ⟨g1, 0, none⟩) l1).trans c1
      replace c2 := (hb.cell (p := ⟨g2, 0, none⟩) l2).trans c2
      replace K11 := K11.next hb
      clear hb l1 l2
      generalize W16.heap.size = g3 at c3 ⊢
      refine (SY.out W17 K11.1 hsz).mono ?_
      rintro en W18 ⟨rfl, hb⟩
      replace c1 := (hb.cell (p := ⟨g1, 0, none⟩) (lt_of_cell8 c1)).trans c1
      replace c2 := (hb.cell (p := ⟨g2, 0, none⟩) (lt_of_cell8 c2)).trans c2
      replace c3 := (hb.cell (p := ⟨g3, 0, none⟩) (lt_of_cell8 c3)).trans c3
      replace K11 := K11.next hb
      clear hb
      have l1 := lt_of_cell8 c1
      have l2 := lt_of_cell8 c2
      have l3 := lt_of_cell8 c3
      go_wp2_with fail
      obtain ⟨W19, hW19⟩ : ∃ W19, W18.alloc (.cells #[.int .u64 (subI y s.data.toList)] 33) = W19 := ⟨_, rfl⟩
      have hb : Below W18.heap.size W18 W19 := by rw [← hW19]; exact Below.alloc (Below.refl _ _) (Nat.le_refl _) _
      have c4 : W19.cell? ⟨W18.heap.size, 0, none⟩ = some (.int .u64 (subI y s.data.toList)) := by rw [← hW19, cell_new]; rfl
      rw [hW19]
      clear hW19
      replace c1 := (hb.cell (p := ⟨g1, 0, none⟩) l1).trans c1
      replace c2 := (hb.cell (p := ⟨g2, 0, none⟩) l2).trans c2
      replace c3 := (hb.cell (p := ⟨g3, 0, none⟩) l3).trans c3
      replace K11 := K11.next hb
      clear hb l1 l2 l3
      generalize W18.heap.size = g4 at c4 ⊢
      have hsub := HS.out hsz
      have hsz19 : w.heap.size ≤ W19.heap.size := K11.2.size
      have hg5 : g1 < W19.heap.size ∧ g2 < W19.heap.size ∧ g3 < W19.heap.size ∧ g4 < W19.heap.size := ⟨lt_of_cell8 c1, lt_of_cell8 c2, lt_of_cell8 c3, lt_of_cell8 c4⟩
      obtain ⟨kN, hk, hkl⟩ : ∃ kN : Nat, a.tmod (s.size : Int) = (kN : Int) ∧ kN < s.size := by
        obtain ⟨⟨q0, q1⟩, -⟩ := HB.out
        refine ⟨a.toNat % s.size, ?_, Nat.mod_lt _ (by omega)⟩
        obtain ⟨A, rfl⟩ : ∃ A : Nat, a = A := ⟨a.toNat, by omega⟩
        rw [Int.tmod_eq_emod_of_nonneg q0]
        simp
      obtain ⟨l', cb, hl', ⟨hks, hcb⟩, hl2, ho⟩ := other_name x s kN hkl b HB.out.2.1 HB.out.2.2
      have HL := Lib.hid hl2
      clear hl2
      rw [run_bytes_of_string W19 9 42 5 s Tryd.underlying9 Tryd.underlying42 Tryd.underlying5]
      obtain ⟨W20, hW20, hb, hc20⟩ := bytes_world W19 s (grownCap W19 s.size 0 5)
      rw [hW20]
      clear hW20
      obtain ⟨c5, f5⟩ := hc20 kN hks
      rw [hcb] at c5
      have HC := Lib.hid hc20
      clear hc20 hcb
      replace c1 := (hb.cell (p := ⟨g1, 0, none⟩) (lt_of_cell8 c1)).trans c1
      replace c2 := (hb.cell (p := ⟨g2, 0, none⟩) (lt_of_cell8 c2)).trans c2
      replace c3 := (hb.cell (p := ⟨g3, 0, none⟩) (lt_of_cell8 c3)).trans c3
      replace c4 := (hb.cell (p := ⟨g4, 0, none⟩) (lt_of_cell8 c4)).trans c4
      replace K11 := K11.next hb
      have hg : w.heap.size ≤ W19.heap.size := hsz19
      clear hb
      clear hsz19
      generalize W19.heap.size = g5 at c5 f5 HC hg5 hg ⊢
      generalize grownCap W19 s.size 0 5 = cap
      generalize subI y s.data.toList = sy at hsub c4
      generalize subI x s.data.toList = sx at hsub c3 ho
      have hkz : (kN : Int) < (s.size : Int) := by omega
      obtain ⟨⟨q0, q1⟩, q2, q3⟩ := HB.out
      go_wp2_with fail
      obtain ⟨W21, hW21⟩ : ∃ W21, W20.setCell ⟨g5, kN, none⟩ (.int .u8 (bits .xor .u8 cb b)) = W21 := ⟨_, rfl⟩
      have hcs : ∀ j (hj : j < l'.length), W21.cell? ⟨g5, j, none⟩ = some (.int .u8 (l'[j].toNat : Int)) := by
        intro j hj
        have hj2 : j < s.data.size := by rw [hl'] at hj; exact hj
        rw [HL.out j hj hj2, ← hW21]
        by_cases e : j = kN
        · subst e
          rw [if_pos rfl]
          exact World.cell?_setCell_same _ _ _ c5
        · rw [if_neg e, World.cell?_setCell_other _ _ _ _ (fun h => e (by injection h with _ h2 _; exact h2.symm))]
          exact (HC.out j hj2).1
      have hfar : ∀ g : Nat, g ≠ g5 → W21.cell? ⟨g, 0, none⟩ = W20.cell? ⟨g, 0, none⟩ := fun g hne => by
        rw [← hW21]
        exact World.cell?_setCell_far _ _ _ _ (Ne.symm hne)
      have K21 : KP w W21 := by
        rw [← hW21]
        refine ⟨?_, K11.2.setCell hg _⟩
        exact K11.1.below (B := w.heap.size) (by have := h.pos; exact this) ((Below.refl _ _).setCell hg _)
      replace c1 := (hfar g1 (Nat.ne_of_lt hg5.1)).trans c1
      replace c2 := (hfar g2 (Nat.ne_of_lt hg5.2.1)).trans c2
      replace c3 := (hfar g3 (Nat.ne_of_lt hg5.2.2.1)).trans c3
      replace c4 := (hfar g4 (Nat.ne_of_lt hg5.2.2.2)).trans c4
      rw [hW21, back_any W21 g5 cap s.size l' hl' hcs]
      clear hW21 hcs hfar HC HL c5 f5 K11
      have hm1 : (⟨l'.toArray⟩ : ByteArray).size = s.size := by rw [← hl']; simp [ByteArray.size]
      have SO := Lib.hid (sub_ok x ⟨l'.toArray⟩ W21 K21.1 (by omega) (by omega))
      simp only at SO
      generalize (⟨l'.toArray⟩ : ByteArray) = so at SO
      generalize subI x l' = ox at SO ho
      go_wp2_with fail
      refine SO.out.mono ?_
      rintro en W22 ⟨rfl, hb⟩
      replace c1 := (hb.cell (p := ⟨g1, 0, none⟩) (lt_of_cell8 c1)).trans c1
      replace c2 := (hb.cell (p := ⟨g2, 0, none⟩) (lt_of_cell8 c2)).trans c2
      replace c3 := (hb.cell (p := ⟨g3, 0, none⟩) (lt_of_cell8 c3)).trans c3
      replace c4 := (hb.cell (p := ⟨g4, 0, none⟩) (lt_of_cell8 c4)).trans c4
      have K22 := K21.next hb
      clear hb K21
      have l1 := lt_of_cell8 c1
      have l2 := lt_of_cell8 c2
      have l3 := lt_of_cell8 c3
      have l4 := lt_of_cell8 c4
      go_wp2_with fail
      go_ret
      exact ⟨rfl, (K22.next (Below.alloc (Below.refl _ _) (Nat.le_refl _) _)).2⟩
    · go_ret
      exact ⟨rfl, K11.2⟩
theorem seedApart_walk (x y i j : Int) (s : ByteArray) (a b : Int) (w : World) (h : Stp w) (w0 : (Lit.int .u64 x).wf = true) (w1 : (Lit.int .u64 y).wf = true) (w2 : (Lit.int .i64 i).wf = true) (w3 : (Lit.int .i64 j).wf = true) (_w4 : s.size ≤ 140737488351232)
    (w5 : (Lit.int .u8 a).wf = true) (w6 : (Lit.int .u8 b).wf = true) :
    Calls Tryd.prog 8 #[.int .u64 x, .int .u64 y, .int .i64 i, .int .i64 j, .string s, .int .u8 a, .int .u8 b] w fun e w' => e = .returned (.bool true) ∧ Below w.heap.size w w' := by
  have hx := bounds_u64 w0
  have hy := bounds_u64 w1
  have hi := bounds_i64 w2
  have hj := bounds_i64 w3
  have ha := bounds_u8a w5
  have hb := bounds_u8a w6
  exact apart_go _ _ x y i j s a b w h ⟨by omega, by omega⟩ ⟨by omega, by omega⟩ rfl rfl (by omega) (by omega) (by omega) (by omega) (by omega) (by omega) (by omega) (by omega)
end Go.Proofs.YthalafjbkmemhaaDoor
