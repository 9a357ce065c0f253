/- Copies of formulas lie apart from each other and from all that was there, and may be written. -/
import Derived.Test.YtngdieldgnlogaaDoorSP
namespace Go.Proofs.YtngdieldgnlogaaDoor
open Go Go.RowKit
set_option maxRecDepth 100000
set_option linter.unusedVariables false
def CopyTermS (ts : Ts) : Prop := ∀ (v : Bool) (n : ByteArray) (sa : Value) (w : World), TSl w ts sa → ts.size ≤ 1000000 →
  Calls Tryd.prog 63 #[.agg #[.bool v, .string n, sa]] w fun e w' => ∃ s', e = .returned (.agg #[.bool v, .string n, s']) ∧ TSp w' ts s' (Rg w.heap.size w'.heap.size) ∧ Below w.heap.size w w'
set_option maxHeartbeats 4000000 in
theorem copiesT_sp (ts : Ts) (ih : ∀ t : Ts, t.size < ts.size → CopyTermS t) (sa : Value) (w : World) (hv : TSl w ts sa) (hs : ts.size ≤ 1000000) :
    Calls Tryd.prog 62 #[sa, .func (.func 63) #[] #[]] w fun e w' => ∃ s', e = .returned s' ∧ TSp w' ts s' (Rg w.heap.size w'.heap.size) ∧ Below w.heap.size w w' := by
  obtain ⟨p, c, b, o, rfl, hp, ht⟩ := TSl.opened hv
  have hlen := ts.len_le
  by_cases hz : ts.len = 0
  · have hz' : ((ts.len : Int) == 0) = true := by rw [beq_iff_eq]; omega
    go_enter Tryd.func62, Tryd.ntmps62
    go_wp2
    go_ret
    exact ⟨.slice none 0 0, rfl, ⟨none, 0, by rw [hz], .inl hz⟩, Below.refl _ _⟩
  have hz' : ((ts.len : Int) == 0) = false := beq_eq_false_iff_ne.2 (by omega)
  have hmk := make_terms ts.len (by omega)
  have hp' : p = some ⟨b, o, none⟩ := hp.resolve_left hz
  subst hp'
  clear hp
  go_enter Tryd.func62, Tryd.ntmps62
  go_wp2
  have hfr := Free.made w #[.bool false, .string ⟨#[]⟩, .slice none 0 0] (ts.len * 3) 49
  have hbl := bel_laid w (.cells (madeCells #[.bool false, .string ⟨#[]⟩, .slice none 0 0] (ts.len * 3)) 49)
  have hgs : w.heap.size < (w.alloc (.cells (madeCells #[.bool false, .string ⟨#[]⟩, .slice none 0 0] (ts.len * 3)) 49)).heap.size := by simp
  generalize w.alloc (.cells (madeCells #[.bool false, .string ⟨#[]⟩, .slice none 0 0] (ts.len * 3)) 49) = W1 at hfr hbl hgs ⊢
  obtain ⟨g, hg⟩ : ∃ g, w.heap.size = g := ⟨_, rfl⟩
  rw [hg] at hfr hgs ⊢
  clear hmk
  go_loopw [16] (fun i wr => ∃ (k : Nat) (q r : Ts), i = .int .i64 k ∧ q.len = k ∧ q.app r = ts ∧ r.size ≤ ts.size ∧ TsAt w r b (o + k * 3) ∧ TsSp wr q g 0 (Rg (g + 1) wr.heap.size) ∧ Free wr g (ts.len * 3) ∧ g < wr.heap.size ∧ Below w.heap.size w wr) (fun i _ => ts.len - (intOf i).toNat)
  case atStart => exact ⟨0, .nil, ts, rfl, rfl, rfl, Nat.le_refl _, by simpa using ht, trivial, hfr, hgs, hbl⟩
  case round =>
    obtain ⟨k, q, r, rfl, hq, hqr, hrs, hat, hown, hfree, hgw, hbw⟩ := hrel
    have hll := Ts.len_app q r
    rw [hqr] at hll
    replace hll := Lib.hid hll
    replace hqr := Lib.hid hqr
    cases r with
    | nil =>
      have hk' : k = ts.len := by have := hll.out; simp only [Ts.len] at this; omega
      have hqt : q = ts := by have := hqr.out; rwa [Ts.app_nil] at this
      clear hll hqr hq
      subst hqt
      subst hk'
      clear hz' ih hv
      go_wp2_with fail
      go_ret
      exact ⟨_, rfl, ⟨_, _, rfl, .inr ⟨g, 0, rfl, ⟨by omega, hgw⟩, TsSp.mono (fun x hx => ⟨⟨by have := hx.1; omega, hx.2⟩, by have := hx.1; omega⟩) hown⟩⟩, hbw⟩
    | cons v n t2 r' =>
      obtain ⟨c0, c1, ⟨s, c2, hs2⟩, hat'⟩ := hat
      replace c0 := cell_below hbw c0
      replace c1 := cell_below hbw c1
      replace c2 := cell_below hbw c2
      have hs3 := Lib.hid (TSl.below hbw hs2)
      obtain ⟨ps, cs, rfl, -⟩ := hs2
      have hlt : (k : Int) < (ts.len : Int) := by have := hll.out; simp only [Ts.len] at this; omega
      simp only [Ts.size] at hrs
      have hsz : t2.size < ts.size := by omega
      have ih' := Lib.hid (ih t2 hsz)
      clear ih hz'
      go_wp2_with fail
      refine (ih'.out v n (.slice ps t2.len cs) _ (TSl.below (bel_laid _ _) hs3.out) (by omega)).mono ?_
      rintro e w5 ⟨s', rfl, hown5, hb5⟩
      have hb6 := bel_step (bel_laid wr _) hb5
      rw [World.size_alloc] at hown5
      replace hfree := hfree.below hb6
      replace hown := TsSp.below hb6 hown
      have hs56 := hb6.size
      replace hown5 : TSp w5 t2 s' (Rg wr.heap.size w5.heap.size) := TSp.mono (fun x hx => ⟨by have := hx.1; omega, hx.2⟩) hown5
      have hbw5 := bel_step hbw hb6
      have hgw5 : g < w5.heap.size := Nat.lt_of_lt_of_le hgw hb6.size
      clear hb5 hb6 hs3 ih'
      obtain ⟨ps', cs', hse, -⟩ := id hown5
      subst hse
      obtain ⟨⟨u0, d0⟩, f0⟩ := hfree (k * 3) (by omega)
      obtain ⟨⟨u1, d1⟩, f1⟩ := hfree (k * 3 + 1) (by omega)
      obtain ⟨⟨u2, d2⟩, f2⟩ := hfree (k * 3 + 2) (by omega)
      have hfreeh := Lib.hid hfree
      have hownh := Lib.hid hown
      have hown5h := Lib.hid hown5
      clear hfree hown hown5 c0 c1 c2
      go_wp2_with fail
      subst hq
      refine ⟨⟨q.len + 1, q.app (.cons v n t2 .nil), r', by go_num, by rw [Ts.len_app]; rfl, by rw [Ts.app_assoc]; exact hqr.out, by omega, by rwa [show o + (q.len + 1) * 3 = o + q.len * 3 + 3 by omega], by rw [size_setCell, size_setCell, size_setCell]; exact TsSp.push hgw hs56 hownh.out hown5h.out hfreeh.out (by omega), ((hfreeh.out.set _ _).set _ _).set _ _, by rw [size_setCell, size_setCell, size_setCell]; exact hgw5, ((hbw5.setCell (p := ⟨g, _, none⟩) (by simp; omega) _).setCell (p := ⟨g, _, none⟩) (by simp; omega) _).setCell (p := ⟨g, _, none⟩) (by simp; omega) _⟩, ?_⟩
      simp [intOf]
      omega
theorem copyTerm_sp (ts : Ts) : CopyTermS ts := by
  intro v n sa w hv hs
  have hc := Lib.hid (copiesT_sp ts (fun t _ => copyTerm_sp t))
  obtain ⟨p, c, hse, -⟩ := id hv
  subst hse
  go_enter Tryd.func63, Tryd.ntmps63
  go_wp2_with fail
  have hF1 := (Free.lit w #[.bool v, .string n, .slice p ts.len c] 49).below (bel_laid (w.alloc (.cells #[.bool v, .string n, .slice p ts.len c] 49)) (.cells #[.bool false, .string ⟨#[]⟩, .slice none 0 0] 49))
  have hF2 := Free.lit (w.alloc (.cells #[.bool v, .string n, .slice p ts.len c] 49)) #[.bool false, .string ⟨#[]⟩, .slice none 0 0] 49
  have hb2 := bel_step (bel_laid w (.cells #[.bool v, .string n, .slice p ts.len c] 49)) (bel_laid (w.alloc (.cells #[.bool v, .string n, .slice p ts.len c] 49)) (.cells #[.bool false, .string ⟨#[]⟩, .slice none 0 0] 49))
  have k0 := cell_below (bel_laid (w.alloc (.cells #[.bool v, .string n, .slice p ts.len c] 49)) (.cells #[.bool false, .string ⟨#[]⟩, .slice none 0 0] 49)) (show (w.alloc (.cells #[.bool v, .string n, .slice p ts.len c] 49)).cell? ⟨w.heap.size, 0, none⟩ = some (.bool v) by rw [cell_new]; rfl)
  have k1 := cell_below (bel_laid (w.alloc (.cells #[.bool v, .string n, .slice p ts.len c] 49)) (.cells #[.bool false, .string ⟨#[]⟩, .slice none 0 0] 49)) (show (w.alloc (.cells #[.bool v, .string n, .slice p ts.len c] 49)).cell? ⟨w.heap.size, 1, none⟩ = some (.string n) by rw [cell_new]; rfl)
  have hgs : ((w.alloc (.cells #[.bool v, .string n, .slice p ts.len c] 49)).alloc (.cells #[.bool false, .string ⟨#[]⟩, .slice none 0 0] 49)).heap.size = w.heap.size + 2 := by simp
  rw [World.size_alloc] at hF2
  generalize (w.alloc (.cells #[.bool v, .string n, .slice p ts.len c] 49)).alloc (.cells #[.bool false, .string ⟨#[]⟩, .slice none 0 0] 49) = W2 at hF1 hF2 hb2 k0 k1 hgs ⊢
  refine (hc.out _ W2 (TSl.below hb2 hv) hs).mono ?_
  rintro e W3 ⟨s', rfl, hown, hb3⟩
  rw [hgs] at hown
  replace hF1 := hF1.below hb3
  replace hF2 := hF2.below hb3
  replace k0 := cell_below hb3 k0
  replace k1 := cell_below hb3 k1
  have hbb := bel_step hb2 hb3
  have hg3 : w.heap.size + 2 ≤ W3.heap.size := by have := hb3.size; omega
  clear hb2 hb3 hc hgs hv
  obtain ⟨p', c', hse, -⟩ := id hown
  subst hse
  obtain ⟨g, hg⟩ : ∃ g, w.heap.size = g := ⟨_, rfl⟩
  rw [hg] at hF1 hF2 k0 k1 hg3 hown ⊢
  obtain ⟨⟨u2, d2⟩, f2⟩ := hF1 2 (by simp)
  obtain ⟨⟨x0, y0⟩, z0⟩ := hF2 0 (by simp)
  obtain ⟨⟨x1, y1⟩, z1⟩ := hF2 1 (by simp)
  obtain ⟨⟨x2, y2⟩, z2⟩ := hF2 2 (by simp)
  clear hF1 hF2
  go_wp2_with fail
  obtain ⟨W4, hW4⟩ : ∃ W4, ((((W3.setCell ⟨g, 2, none⟩ (.slice p' ts.len c')).setCell ⟨g + 1, 0, none⟩ (.bool v)).setCell ⟨g + 1, 1, none⟩ (.string n)).setCell ⟨g + 1, 2, none⟩ (.slice p' ts.len c')) = W4 := ⟨_, rfl⟩
  have e0 : W4.cell? ⟨g + 1, 0, none⟩ = some (.bool v) := by
    rw [← hW4, set_off (.inr (by omega)), set_off (.inr (by omega))]; exact set_on (by rw [set_off (.inl (by omega))]; exact y0)
  have e1 : W4.cell? ⟨g + 1, 1, none⟩ = some (.string n) := by
    rw [← hW4, set_off (.inr (by omega))]; exact set_on (by rw [set_off (.inr (by omega)), set_off (.inl (by omega))]; exact y1)
  have e2 : W4.cell? ⟨g + 1, 2, none⟩ = some (.slice p' ts.len c') := by
    rw [← hW4]; exact set_on (by rw [set_off (.inr (by omega)), set_off (.inr (by omega)), set_off (.inl (by omega))]; exact y2)
  have hfar : ∀ b o v', Rg (g + 2) W3.heap.size b → Wc W3 b o v' → Wc W4 b o v' := fun b o v' hb hc => by
    have := hb.1
    rw [← hW4]
    exact wc_off (.inl (by omega)) (wc_off (.inl (by omega)) (wc_off (.inl (by omega)) (wc_off (.inl (by omega)) hc)))
  have hsz4 : W4.heap.size = W3.heap.size := by rw [← hW4, size_setCell, size_setCell, size_setCell, size_setCell]
  have hb4 : Below w.heap.size w W4 := by
    rw [← hW4]
    exact (((hbb.setCell (p := ⟨g, _, none⟩) (by simp; omega) _).setCell (p := ⟨g + 1, _, none⟩) (by simp; omega) _).setCell (p := ⟨g + 1, _, none⟩) (by simp; omega) _).setCell (p := ⟨g + 1, _, none⟩) (by simp; omega) _
  rw [hW4]
  refine bodyPost_ret (v := .agg #[.bool v, .string n, .slice p' ts.len c']) ?_ rfl ⟨_, rfl, TSp.mono (fun x hx => ⟨by have := hx.1; omega, by have := hx.2; omega⟩) (TSp.keep hfar hown), hb4⟩
  simp [results, Tryd.results63, go_sem, e0, e1, e2]
termination_by ts.size
def CopyFormS (f : FT) : Prop := ∀ (v : Value) (w : World), FVal w f v → f.size ≤ 1000000 →
  Calls Tryd.prog 36 #[v] w fun e w' => ∃ v', e = .returned v' ∧ FVSp w' f v' (Rg w.heap.size w'.heap.size) ∧ Below w.heap.size w w'
set_option maxHeartbeats 4000000 in
theorem copiesF_sp (ts : Fs) (ih : ∀ t : FT, t.size ≤ ts.size → CopyFormS t) (sa : Value) (w : World) (hv : FSl w ts sa) (hs : ts.size ≤ 1000000) :
    Calls Tryd.prog 64 #[sa, .func (.func 36) #[] #[]] w fun e w' => ∃ s', e = .returned s' ∧ FSp w' ts s' (Rg w.heap.size w'.heap.size) ∧ Below w.heap.size w w' := by
  obtain ⟨p, c, b, o, rfl, hp, ht⟩ := FSl.opened hv
  have hlen := ts.len_le
  by_cases hz : ts.len = 0
  · have hz' : ((ts.len : Int) == 0) = true := by rw [beq_iff_eq]; omega
    go_enter Tryd.func64, Tryd.ntmps64
    go_wp2
    go_ret
    exact ⟨.slice none 0 0, rfl, ⟨none, 0, by rw [hz], .inl hz⟩, Below.refl _ _⟩
  have hz' : ((ts.len : Int) == 0) = false := beq_eq_false_iff_ne.2 (by omega)
  have hmk := make_forms ts.len (by omega)
  have hp' : p = some ⟨b, o, none⟩ := hp.resolve_left hz
  subst hp'
  clear hp
  go_enter Tryd.func64, Tryd.ntmps64
  go_wp2
  have hfr := Free.made w #[.int .u8 0, .string ⟨#[]⟩, .slice none 0 0, .slice none 0 0] (ts.len * 4) 25
  have hbl := bel_laid w (.cells (madeCells #[.int .u8 0, .string ⟨#[]⟩, .slice none 0 0, .slice none 0 0] (ts.len * 4)) 25)
  have hgs : w.heap.size < (w.alloc (.cells (madeCells #[.int .u8 0, .string ⟨#[]⟩, .slice none 0 0, .slice none 0 0] (ts.len * 4)) 25)).heap.size := by simp
  generalize w.alloc (.cells (madeCells #[.int .u8 0, .string ⟨#[]⟩, .slice none 0 0, .slice none 0 0] (ts.len * 4)) 25) = W1 at hfr hbl hgs ⊢
  obtain ⟨g, hg⟩ : ∃ g, w.heap.size = g := ⟨_, rfl⟩
  rw [hg] at hfr hgs ⊢
  clear hmk
  go_loopw [16] (fun i wr => ∃ (k : Nat) (q r : Fs), i = .int .i64 k ∧ q.len = k ∧ q.app r = ts ∧ r.size ≤ ts.size ∧ FsAt w r b (o + k * 4) ∧ FsSp wr q g 0 (Rg (g + 1) wr.heap.size) ∧ Free wr g (ts.len * 4) ∧ g < wr.heap.size ∧ Below w.heap.size w wr) (fun i _ => ts.len - (intOf i).toNat)
  case atStart => exact ⟨0, .nil, ts, rfl, rfl, rfl, Nat.le_refl _, by simpa using ht, trivial, hfr, hgs, hbl⟩
  case round =>
    obtain ⟨k, q, r, rfl, hq, hqr, hrs, hat, hown, hfree, hgw, hbw⟩ := hrel
    have hll := Fs.len_app q r
    rw [hqr] at hll
    replace hll := Lib.hid hll
    replace hqr := Lib.hid hqr
    cases r with
    | nil =>
      have hk' : k = ts.len := by have := hll.out; simp only [Fs.len] at this; omega
      have hqt : q = ts := by have := hqr.out; rwa [Fs.app_nil] at this
      clear hll hqr hq
      subst hqt
      subst hk'
      clear hz' ih hv
      go_wp2_with fail
      go_ret
      exact ⟨_, rfl, ⟨_, _, rfl, .inr ⟨g, 0, rfl, ⟨by omega, hgw⟩, FsSp.mono (fun x hx => ⟨⟨by have := hx.1; omega, hx.2⟩, by have := hx.1; omega⟩) hown⟩⟩, hbw⟩
    | cons op n t2 sub r' =>
      obtain ⟨c0, c1, ⟨s, c2, hs2⟩, ⟨s1, c3, hs2'⟩, hat'⟩ := hat
      replace c0 := cell_below hbw c0
      replace c1 := cell_below hbw c1
      replace c2 := cell_below hbw c2
      replace c3 := cell_below hbw c3
      have hs3 := Lib.hid (TSl.below hbw hs2)
      have hs3' := Lib.hid (FSl.below hbw hs2')
      obtain ⟨ps, cs, rfl, -⟩ := hs2
      obtain ⟨pt, ct, rfl, -⟩ := hs2'
      have hlt : (k : Int) < (ts.len : Int) := by have := hll.out; simp only [Fs.len] at this; omega
      simp only [Fs.size] at hrs
      have hsz : (FT.mk op n t2 sub).size ≤ ts.size := by simp only [FT.size]; omega
      have hsz2 : (FT.mk op n t2 sub).size ≤ 1000000 := by omega
      have ih' := Lib.hid (ih ⟨op, n, t2, sub⟩ hsz)
      clear ih hz'
      go_wp2_with fail
      refine (ih'.out _ _ ⟨_, _, rfl, TSl.below (bel_laid _ _) hs3.out, FSl.below (bel_laid _ _) hs3'.out⟩ hsz2).mono ?_
      rintro e w5 ⟨v', rfl, hown5, hb5⟩
      obtain ⟨s', s2', A1, A2, rfl, hA1, hA2, hown51, hown61⟩ := id hown5
      have hb6 := bel_step (bel_laid wr _) hb5
      rw [World.size_alloc] at hown5
      replace hfree := hfree.below hb6
      replace hown := FsSp.below hb6 hown
      have hs56 := hb6.size
      replace hown5 : FVSp w5 ⟨op, n, t2, sub⟩ (fval ⟨op, n, t2, sub⟩ s' s2') (Rg wr.heap.size w5.heap.size) := FVSp.mono (fun x hx => ⟨by have := hx.1; omega, hx.2⟩) hown5
      have hbw5 := bel_step hbw hb6
      have hgw5 : g < w5.heap.size := Nat.lt_of_lt_of_le hgw hb6.size
      clear hb5 hb6 hs3 hs3' ih'
      obtain ⟨ps', cs', hse⟩ := SlSp.slice hown51
      subst hse
      obtain ⟨pt', ct', hse⟩ := SlSp.slice hown61
      subst hse
      obtain ⟨⟨u0, d0⟩, f0⟩ := hfree (k * 4) (by omega)
      obtain ⟨⟨u1, d1⟩, f1⟩ := hfree (k * 4 + 1) (by omega)
      obtain ⟨⟨u2, d2⟩, f2⟩ := hfree (k * 4 + 2) (by omega)
      obtain ⟨⟨u3, d3⟩, f3⟩ := hfree (k * 4 + 3) (by omega)
      have hfreeh := Lib.hid hfree
      have hownh := Lib.hid hown
      have hown5h := Lib.hid hown5
      clear hfree hown hown5 hown51 hown61 hA1 hA2 c0 c1 c2 c3
      go_wp2_with fail
      subst hq
      refine ⟨⟨q.len + 1, q.app (.cons op n t2 sub .nil), r', by go_num, by rw [Fs.len_app]; rfl, by rw [Fs.app_assoc]; exact hqr.out, by omega, by rwa [show o + (q.len + 1) * 4 = o + q.len * 4 + 4 by omega], by rw [size_setCell, size_setCell, size_setCell, size_setCell]; exact FsSp.push hgw hs56 hownh.out hown5h.out hfreeh.out (by omega), (((hfreeh.out.set _ _).set _ _).set _ _).set _ _, by rw [size_setCell, size_setCell, size_setCell, size_setCell]; exact hgw5, (((hbw5.setCell (p := ⟨g, _, none⟩) (by simp; omega) _).setCell (p := ⟨g, _, none⟩) (by simp; omega) _).setCell (p := ⟨g, _, none⟩) (by simp; omega) _).setCell (p := ⟨g, _, none⟩) (by simp; omega) _⟩, ?_⟩
      simp [intOf]
      omega
set_option maxHeartbeats 4000000 in
theorem copy_sp (f : FT) : CopyFormS f := by
  intro v w hv hs
  have hc := Lib.hid (copiesT_sp f.ts (fun t _ => copyTerm_sp t))
  have hd := Lib.hid (copiesF_sp f.sub (fun t _ => copy_sp t))
  have hs1 : f.ts.size ≤ 1000000 := by simp only [FT.size] at hs; omega
  have hs2 : f.sub.size ≤ 1000000 := by simp only [FT.size] at hs; omega
  have hv0 := hv
  obtain ⟨sa, ss, rfl, ha, hss⟩ := hv
  obtain ⟨pa, ca, rfl, -⟩ := id ha
  obtain ⟨p, c, rfl, -⟩ := id hss
  have hst := (FS.start (t := 25) hv0).next (bel_laid _ (.cells #[.int .u8 0, .string ⟨#[]⟩, .slice none 0 0, .slice none 0 0] 25))
  have hF1 := (Free.lit w #[.int .u8 f.op, .string f.n, .slice pa f.ts.len ca, .slice p f.sub.len c] 25).below (bel_laid _ (.cells #[.int .u8 0, .string ⟨#[]⟩, .slice none 0 0, .slice none 0 0] 25))
  have hF2 := Free.lit (w.alloc (.cells #[.int .u8 f.op, .string f.n, .slice pa f.ts.len ca, .slice p f.sub.len c] 25)) #[.int .u8 0, .string ⟨#[]⟩, .slice none 0 0, .slice none 0 0] 25
  have hgs : ((w.alloc (.cells #[.int .u8 f.op, .string f.n, .slice pa f.ts.len ca, .slice p f.sub.len c] 25)).alloc (.cells #[.int .u8 0, .string ⟨#[]⟩, .slice none 0 0, .slice none 0 0] 25)).heap.size = w.heap.size + 2 := by simp
  rw [World.size_alloc] at hF2
  have hssh := Lib.hid hss
  clear hv0 ha hss
  go_enter Tryd.func36, Tryd.ntmps36
  go_wp2_with fail
  generalize (w.alloc (.cells #[.int .u8 f.op, .string f.n, .slice pa f.ts.len ca, .slice p f.sub.len c] 25)).alloc (.cells #[.int .u8 0, .string ⟨#[]⟩, .slice none 0 0, .slice none 0 0] 25) = W2 at hst hF1 hF2 hgs ⊢
  refine (hc.out _ W2 hst.2.2.2.2.2.1 hs1).mono ?_
  rintro e W3 ⟨s1, rfl, hown1, hb3⟩
  rw [hgs] at hown1
  replace hst := hst.next hb3
  replace hF1 := hF1.below hb3
  replace hF2 := hF2.below hb3
  have hg3 : w.heap.size + 2 ≤ W3.heap.size := by have := hb3.size; omega
  clear hb3 hc hgs
  obtain ⟨g, hg⟩ : ∃ g, w.heap.size = g := ⟨_, rfl⟩
  rw [hg] at hst hF1 hF2 hg3 hown1 ⊢
  obtain ⟨p1, c1, hse, -⟩ := id hown1
  subst hse
  obtain ⟨⟨u2, d2⟩, f2⟩ := hF1 2 (by simp)
  obtain ⟨b0, b1, b2, b3, hk⟩ := hst
  go_wp2_with fail
  have hbs := hk.1.setCell (p := ⟨g, 2, none⟩) (by simp; omega) (.slice p1 f.ts.len c1)
  obtain ⟨W4, hW4⟩ : ∃ W4, W3.setCell ⟨g, 2, none⟩ (.slice p1 f.ts.len c1) = W4 := ⟨_, rfl⟩
  have hfar3 : ∀ b o v', b ≠ g → W3.cell? ⟨b, o, none⟩ = some v' → W4.cell? ⟨b, o, none⟩ = some v' := fun b o v' hb hcl => by
    rw [← hW4, set_off (.inl hb)]; exact hcl
  have h0 : W4.cell? ⟨g, 0, none⟩ = some (.int .u8 f.op) := by rw [← hW4, set_off (.inr (by omega))]; exact b0
  have h1 : W4.cell? ⟨g, 1, none⟩ = some (.string f.n) := by rw [← hW4, set_off (.inr (by omega))]; exact b1
  have h2 : W4.cell? ⟨g, 2, none⟩ = some (.slice p1 f.ts.len c1) := by rw [← hW4]; exact set_on d2
  have h3 : W4.cell? ⟨g, 3, none⟩ = some (.slice p f.sub.len c) := by rw [← hW4, set_off (.inr (by omega))]; exact b3
  have hF14 : Free W4 g 4 := by rw [← hW4]; exact hF1.set _ _
  have hF24 : Free W4 (g + 1) 4 := fun j hj => by
    obtain ⟨⟨u, hu⟩, hf⟩ := hF2 j hj
    exact ⟨⟨u, hfar3 _ _ _ (by omega) hu⟩, by rw [← hW4, World.frozen?_setCell]; exact hf⟩
  have hsz4 : W4.heap.size = W3.heap.size := by rw [← hW4, size_setCell]
  replace hown1 : TSp W4 f.ts (.slice p1 f.ts.len c1) (Rg (g + 2) W3.heap.size) := TSp.keep (fun b o v' hb hcl => by rw [← hW4]; exact wc_off (.inl (by have := hb.1; omega)) hcl) hown1
  rw [hW4] at hbs ⊢
  have hss4 := Lib.hid (FSl.below hbs hssh.out)
  clear hW4 hfar3 hF1 hF2 d2 f2 b0 b1 b2 b3 hk hssh
  go_wp2_with fail
  refine (hd.out _ W4 hss4.out hs2).mono ?_
  rintro e W5 ⟨s2, rfl, hown2, hb5⟩
  have h45 := hb5.size
  obtain ⟨m, hm⟩ : ∃ m, W3.heap.size = m := ⟨_, rfl⟩
  rw [hm] at hown1 hg3 hsz4
  rw [hsz4] at hown2 h45
  replace hown1 := TSp.below hb5 hown1
  replace h0 := cell_below hb5 h0
  replace h1 := cell_below hb5 h1
  replace h2 := cell_below hb5 h2
  replace hF14 := hF14.below hb5
  replace hF24 := hF24.below hb5
  have hbs5 := bel_step hbs hb5
  have hg5 : g + 2 ≤ W5.heap.size := by have := hb5.size; omega
  clear hb5 hd hss4 h3 hsz4 hbs hm
  obtain ⟨p2, c2, hse, -⟩ := id hown2
  subst hse
  obtain ⟨⟨u3, d3⟩, f3⟩ := hF14 3 (by simp)
  obtain ⟨⟨x0, y0⟩, z0⟩ := hF24 0 (by simp)
  obtain ⟨⟨x1, y1⟩, z1⟩ := hF24 1 (by simp)
  obtain ⟨⟨x2, y2⟩, z2⟩ := hF24 2 (by simp)
  obtain ⟨⟨x3, y3⟩, z3⟩ := hF24 3 (by simp)
  clear hF14 hF24
  have hown1h := Lib.hid hown1
  have hown2h := Lib.hid hown2
  clear hown1 hown2
  go_wp2_with fail
  obtain ⟨W6, hW6⟩ : ∃ W6, (((((W5.setCell ⟨g, 3, none⟩ (.slice p2 f.sub.len c2)).setCell ⟨g + 1, 0, none⟩ (.int .u8 f.op)).setCell ⟨g + 1, 1, none⟩ (.string f.n)).setCell ⟨g + 1, 2, none⟩ (.slice p1 f.ts.len c1)).setCell ⟨g + 1, 3, none⟩ (.slice p2 f.sub.len c2)) = W6 := ⟨_, rfl⟩
  have e0 : W6.cell? ⟨g + 1, 0, none⟩ = some (.int .u8 f.op) := by
    rw [← hW6, set_off (.inr (by omega)), set_off (.inr (by omega)), set_off (.inr (by omega))]; exact set_on (by rw [set_off (.inl (by omega))]; exact y0)
  have e1 : W6.cell? ⟨g + 1, 1, none⟩ = some (.string f.n) := by
    rw [← hW6, set_off (.inr (by omega)), set_off (.inr (by omega))]; exact set_on (by rw [set_off (.inr (by omega)), set_off (.inl (by omega))]; exact y1)
  have e2 : W6.cell? ⟨g + 1, 2, none⟩ = some (.slice p1 f.ts.len c1) := by
    rw [← hW6, set_off (.inr (by omega))]; exact set_on (by rw [set_off (.inr (by omega)), set_off (.inr (by omega)), set_off (.inl (by omega))]; exact y2)
  have e3 : W6.cell? ⟨g + 1, 3, none⟩ = some (.slice p2 f.sub.len c2) := by
    rw [← hW6]; exact set_on (by rw [set_off (.inr (by omega)), set_off (.inr (by omega)), set_off (.inr (by omega)), set_off (.inl (by omega))]; exact y3)
  have hfar : ∀ b o v', g + 2 ≤ b → Wc W5 b o v' → Wc W6 b o v' := fun b o v' hb hcl => by
    rw [← hW6]
    exact wc_off (.inl (by omega)) (wc_off (.inl (by omega)) (wc_off (.inl (by omega)) (wc_off (.inl (by omega)) (wc_off (.inl (by omega)) hcl))))
  have hsz6 : W6.heap.size = W5.heap.size := by rw [← hW6, size_setCell, size_setCell, size_setCell, size_setCell, size_setCell]
  have hb6 : Below w.heap.size w W6 := by
    rw [← hW6]
    exact ((((hbs5.setCell (p := ⟨g, _, none⟩) (by simp; omega) _).setCell (p := ⟨g + 1, _, none⟩) (by simp; omega) _).setCell (p := ⟨g + 1, _, none⟩) (by simp; omega) _).setCell (p := ⟨g + 1, _, none⟩) (by simp; omega) _).setCell (p := ⟨g + 1, _, none⟩) (by simp; omega) _
  rw [hW6]
  refine bodyPost_ret (v := fval f (.slice p1 f.ts.len c1) (.slice p2 f.sub.len c2)) ?_ rfl ⟨_, rfl, ⟨_, _, Rg (g + 2) m, Rg m W5.heap.size, rfl, fun x hx => ⟨by have := hx.1; omega, by have := hx.2; omega⟩, fun x hx => ⟨⟨by have := hx.1; omega, by have := hx.2; omega⟩, fun h => by have := hx.1; have := h.2; omega⟩, TSp.keep (fun b o v' hb hcl => hfar b o v' hb.1 hcl) hown1h.out, FSp.keep (fun b o v' hb hcl => hfar b o v' (by have := hb.1; omega) hcl) hown2h.out⟩, hb6⟩
  simp [results, Tryd.results36, go_sem, e0, e1, e2, e3]
termination_by f.size
decreasing_by rename_i h; simp only [FT.size] at *; omega
end Go.Proofs.YtngdieldgnlogaaDoor
