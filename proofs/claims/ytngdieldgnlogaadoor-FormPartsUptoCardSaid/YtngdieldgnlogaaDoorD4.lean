/- The law's own equality: SameForms and Same. -/
import Derived.Test.YtngdieldgnlogaaDoorD3
namespace Go.Proofs.YtngdieldgnlogaaDoor
open Go Go.RowKit
set_option maxRecDepth 100000
set_option linter.unusedVariables false
def SameF (f : FT) : Prop := ∀ (v : Value) (g : FT) (v' : Value) (w : World), FVal w f v → FVal w g v' → f.size ≤ 1000000 → g.size ≤ 1000000 →
  Calls Tryd.prog 12 #[v, v'] w fun e w' => e = .returned (.bool (f.eqB g)) ∧ Below w.heap.size w w'
/-- What stays while two lists are read. -/
def K2F (w : World) (f g : FT) (v v' : Value) (r r' : Fs) (b o b' o' : Nat) (W : World) : Prop := Below w.heap.size w W ∧ FVal W f v ∧ FVal W g v' ∧ FsAt W r b o ∧ FsAt W r' b' o'
theorem K2F.next {w : World} {f g : FT} {v v' : Value} {r r' : Fs} {b o b' o' : Nat} {W W' : World} (h : K2F w f g v v' r r' b o b' o' W) (hb : Below W.heap.size W W') : K2F w f g v v' r r' b o b' o' W' :=
  ⟨bel_step h.1 hb, FVal.below hb h.2.1, FVal.below hb h.2.2.1, FsAt.below hb h.2.2.2.1, FsAt.below hb h.2.2.2.2⟩
/-- The cells of two elements, and that. -/
def S2F (w : World) (op op' : Int) (n n' : ByteArray) (t t' : Ts) (u u' : Fs) (ps ps' pu pu' : Option Addr) (cs cs' cu cu' : Nat) (r r' : Fs) (b o b' o' : Nat) (W : World) : Prop :=
  W.cell? ⟨b, o, none⟩ = some (.int .u8 op) ∧ W.cell? ⟨b, o + 1, none⟩ = some (.string n) ∧ W.cell? ⟨b, o + 2, none⟩ = some (.slice ps t.len cs) ∧ W.cell? ⟨b, o + 3, none⟩ = some (.slice pu u.len cu) ∧
  W.cell? ⟨b', o', none⟩ = some (.int .u8 op') ∧ W.cell? ⟨b', o' + 1, none⟩ = some (.string n') ∧ W.cell? ⟨b', o' + 2, none⟩ = some (.slice ps' t'.len cs') ∧ W.cell? ⟨b', o' + 3, none⟩ = some (.slice pu' u'.len cu') ∧
  K2F w ⟨op, n, t, u⟩ ⟨op', n', t', u'⟩ (.agg #[.int .u8 op, .string n, .slice ps t.len cs, .slice pu u.len cu]) (.agg #[.int .u8 op', .string n', .slice ps' t'.len cs', .slice pu' u'.len cu']) r r' b (o + 4) b' (o' + 4) W
theorem S2F.next {w : World} {op op' : Int} {n n' : ByteArray} {t t' : Ts} {u u' : Fs} {ps ps' pu pu' : Option Addr} {cs cs' cu cu' : Nat} {r r' : Fs} {b o b' o' : Nat} {W W' : World} (h : S2F w op op' n n' t t' u u' ps ps' pu pu' cs cs' cu cu' r r' b o b' o' W) (hb : Below W.heap.size W W') :
    S2F w op op' n n' t t' u u' ps ps' pu pu' cs cs' cu cu' r r' b o b' o' W' :=
  ⟨cell_below hb h.1, cell_below hb h.2.1, cell_below hb h.2.2.1, cell_below hb h.2.2.2.1, cell_below hb h.2.2.2.2.1, cell_below hb h.2.2.2.2.2.1, cell_below hb h.2.2.2.2.2.2.1, cell_below hb h.2.2.2.2.2.2.2.1, h.2.2.2.2.2.2.2.2.next hb⟩
set_option maxHeartbeats 8000000 in
theorem sameL_any (xx : Fs) (ih : ∀ t : FT, t.size ≤ xx.size → SameF t) (yy : Fs) (sa sb : Value) (w : World) (ha : FSl w xx sa) (hb : FSl w yy sb) (hs : xx.size ≤ 1000000) (hs' : yy.size ≤ 1000000) :
    Calls Tryd.prog 38 #[sa, sb] w fun e w' => e = .returned (.bool (xx.eqB yy)) ∧ Below w.heap.size w w' := by
  obtain ⟨p, c, b, o, rfl, hp, ht⟩ := FSl.opened ha
  obtain ⟨p', c', b', o', rfl, hp', ht'⟩ := FSl.opened hb
  have ih' := Lib.hid ih
  clear ih ha hb
  have hlen := xx.len_le
  have hlen' := yy.len_le
  by_cases hl : xx.len = yy.len
  rotate_left
  · have hne : xx.eqB yy = false := by
      cases h : xx.eqB yy with
      | false => rfl
      | true => exact absurd (Fs.eqB_len h) hl
    have hne' : ((xx.len : Int) != (yy.len : Int)) = true := bne_iff_ne.2 (by omega)
    rw [hne]
    clear hne
    go_enter Tryd.func38, Tryd.ntmps38
    go_wp2
    go_ret
    exact ⟨rfl, Below.refl _ _⟩
  have hl' : ((xx.len : Int) != (yy.len : Int)) = false := by rw [hl]; simp
  obtain ⟨rr, hrr⟩ : ∃ rr, xx.eqB yy = rr := ⟨_, rfl⟩
  rw [hrr]
  replace hrr := Lib.hid hrr
  replace hl := Lib.hid hl
  go_enter Tryd.func38, Tryd.ntmps38
  go_wp2
  go_loopw [5] (fun i wr => ∃ (k : Nat) (x y : Fs), i = .int .i64 k ∧ k + x.len = xx.len ∧ k + y.len = yy.len ∧ x.size ≤ xx.size ∧ y.size ≤ yy.size ∧ x.eqB y = rr ∧ FsAt wr x b (o + k * 4) ∧ FsAt wr y b' (o' + k * 4) ∧ Below w.heap.size w wr) (fun i _ => xx.len - (intOf i).toNat)
  case atStart => exact ⟨0, xx, yy, rfl, by omega, by omega, Nat.le_refl _, Nat.le_refl _, hrr.out, by simpa using ht, by simpa using ht', Below.refl _ _⟩
  case round =>
    obtain ⟨k, x, y, rfl, hkx, hky, hxs, hys, heq, hax, hay, hbw⟩ := hrel
    clear hl'
    cases x with
    | nil =>
      cases y with
      | cons _ _ _ _ _ => exfalso; have := hl.out; simp only [Fs.len] at *; omega
      | nil =>
        simp only [Fs.len] at hkx
        have hk' : k = xx.len := by omega
        subst hk'
        have : rr = true := by rw [← heq]; rfl
        subst this
        clear hrr heq
        go_wp2
        go_ret
        exact ⟨rfl, hbw⟩
    | cons op n t u x' =>
      cases y with
      | nil => exfalso; have := hl.out; simp only [Fs.len] at *; omega
      | cons op2 n2 t2 u2 y' =>
        simp only [Fs.len] at hkx hky
        simp only [Fs.size] at hxs hys
        obtain ⟨c0, c1, ⟨s, c2, hs2⟩, ⟨q, c3, hs3⟩, hax'⟩ := hax
        obtain ⟨d0, d1, ⟨s', d2, hs2'⟩, ⟨q', d3, hs3'⟩, hay'⟩ := hay
        have hlt : (k : Int) < (xx.len : Int) := by omega
        have hlt2 : (k : Int) < (yy.len : Int) := by omega
        rcases hp with hp | hp
        · omega
        rcases hp' with hp' | hp'
        · omega
        subst hp hp'
        obtain ⟨ps, cs, rfl, -⟩ := id hs2
        obtain ⟨ps', cs', rfl, -⟩ := id hs2'
        obtain ⟨pu, cu, rfl, -⟩ := id hs3
        obtain ⟨pu', cu', rfl, -⟩ := id hs3'
        have hS : S2F w op op2 n n2 t t2 u u2 ps ps' pu pu' cs cs' cu cu' x' y' b (o + k * 4) b' (o' + k * 4) wr.drew :=
          S2F.next ⟨c0, c1, c2, c3, d0, d1, d2, d3, hbw, ⟨_, _, rfl, hs2, hs3⟩, ⟨_, _, rfl, hs2', hs3'⟩, hax', hay'⟩ (bel_drew wr)
        clear c0 c1 c2 c3 d0 d1 d2 d3 hs2 hs2' hs3 hs3' hax' hay' hbw
        have heq' : (FT.eqB ⟨op, n, t, u⟩ ⟨op2, n2, t2, u2⟩ && x'.eqB y') = rr := by rw [← heq]; rfl
        have hcall : Hid (∀ W, S2F w op op2 n n2 t t2 u u2 ps ps' pu pu' cs cs' cu cu' x' y' b (o + k * 4) b' (o' + k * 4) W → Calls Tryd.prog 12 #[.agg #[.int .u8 op, .string n, .slice ps t.len cs, .slice pu u.len cu], .agg #[.int .u8 op2, .string n2, .slice ps' t2.len cs', .slice pu' u2.len cu']] W fun e w' =>
            e = .returned (.bool (FT.eqB ⟨op, n, t, u⟩ ⟨op2, n2, t2, u2⟩)) ∧ S2F w op op2 n n2 t t2 u u2 ps ps' pu pu' cs cs' cu cu' x' y' b (o + k * 4) b' (o' + k * 4) w') :=
          Lib.hid (fun W hW => (ih'.out ⟨op, n, t, u⟩ (by simp only [FT.size]; omega) _ ⟨op2, n2, t2, u2⟩ _ W hW.2.2.2.2.2.2.2.2.2.1 hW.2.2.2.2.2.2.2.2.2.2.1 (by simp only [FT.size]; omega) (by simp only [FT.size]; omega)).mono fun e w' ⟨he, hb⟩ => ⟨he, hW.next hb⟩)
        obtain ⟨qq, hqq⟩ : ∃ qq, FT.eqB ⟨op, n, t, u⟩ ⟨op2, n2, t2, u2⟩ = qq := ⟨_, rfl⟩
        rw [hqq] at hcall heq'
        have hqh := Lib.hid heq'
        clear heq heq' hqq
        go_wp2
        go_region_held3 (fun W => W.cell? ⟨b, o + k * 4, none⟩ = some (.int .u8 op) ∧ W.cell? ⟨b, o + k * 4 + 1, none⟩ = some (.string n) ∧ W.cell? ⟨b, o + k * 4 + 2, none⟩ = some (.slice ps t.len cs) ∧ W.cell? ⟨b, o + k * 4 + 3, none⟩ = some (.slice pu u.len cu) ∧
            W.cell? ⟨b', o' + k * 4, none⟩ = some (.int .u8 op2) ∧ W.cell? ⟨b', o' + k * 4 + 1, none⟩ = some (.string n2) ∧ W.cell? ⟨b', o' + k * 4 + 2, none⟩ = some (.slice ps' t2.len cs') ∧ W.cell? ⟨b', o' + k * 4 + 3, none⟩ = some (.slice pu' u2.len cu') ∧
            K2F w ⟨op, n, t, u⟩ ⟨op2, n2, t2, u2⟩ (.agg #[.int .u8 op, .string n, .slice ps t.len cs, .slice pu u.len cu]) (.agg #[.int .u8 op2, .string n2, .slice ps' t2.len cs', .slice pu' u2.len cu']) x' y' b (o + k * 4 + 4) b' (o' + k * 4 + 4) W)
          (first | assumption | exact hS)
          ((go_at_call 12; refine (hcall.out _ (by assumption)).mono ?_; rintro e w' ⟨rfl, hS2⟩))
        have hSh := Lib.hid hS2
        clear hS2 hcall hS
        cases qq with
        | true =>
          have hqq := hqh.out
          simp only [Bool.true_and] at hqq
          have hqqh := Lib.hid hqq
          clear hqq hqh
          go_wp2
          go_roundw
          case rel =>
            refine ⟨k + 1, x', y', by go_num, by omega, by omega, by omega, by omega, hqqh.out, ?_, ?_, hSh.out.2.2.2.2.2.2.2.2.1⟩
            · have := hSh.out.2.2.2.2.2.2.2.2.2.2.2.1
              rwa [show o + k * 4 + 4 = o + (k + 1) * 4 by omega] at this
            · have := hSh.out.2.2.2.2.2.2.2.2.2.2.2.2
              rwa [show o' + k * 4 + 4 = o' + (k + 1) * 4 by omega] at this
          case measure => simp [intOf]; omega
        | false =>
          have hqq := hqh.out
          simp only [Bool.false_and] at hqq
          subst hqq
          clear hqh hrr
          go_wp2
          go_ret
          exact ⟨rfl, hSh.out.2.2.2.2.2.2.2.2.1⟩
set_option maxHeartbeats 4000000 in
theorem sameF_any (f : FT) : SameF f := by
  intro v g v' w hv hv' hs hs'
  have hL := Lib.hid (sameL_any f.sub (fun t _ => sameF_any t))
  obtain ⟨sa, ss, rfl, ha, hss⟩ := id hv
  obtain ⟨sb, st, rfl, hb, hst⟩ := id hv'
  obtain ⟨pa, ca, hsa, -⟩ := id ha
  obtain ⟨pb, cb, hsb, -⟩ := id hb
  obtain ⟨pu, cu, hsu, -⟩ := id hss
  obtain ⟨pt, ct, hst', -⟩ := id hst
  subst hsa hsb hsu hst'
  have hb0 := bel_laid w (.cells #[.int .u8 f.op, .string f.n, .slice pa f.ts.len ca, .slice pu f.sub.len cu] 25)
  have hb1 := bel_laid (w.alloc (.cells #[.int .u8 f.op, .string f.n, .slice pa f.ts.len ca, .slice pu f.sub.len cu] 25)) (.cells #[.int .u8 g.op, .string g.n, .slice pb g.ts.len cb, .slice pt g.sub.len ct] 25)
  have hbb := bel_step hb0 hb1
  have kA := TSl.below hb1 (TSl.below hb0 ha)
  have kB := TSl.below hb1 (TSl.below hb0 hb)
  have kU := FSl.below hb1 (FSl.below hb0 hss)
  have kT := FSl.below hb1 (FSl.below hb0 hst)
  have hfs : f.size = f.ts.size + f.sub.size + 1 := rfl
  have hgs : g.size = g.ts.size + g.sub.size + 1 := rfl
  have HT := Lib.hid (sameT_any f.ts.size f.ts g.ts _ _ _ (Nat.le_refl _) kA kB (by omega) (by omega))
  have HF := Lib.hid (fun W (h1 : FSl W f.sub (.slice pu f.sub.len cu)) (h2 : FSl W g.sub (.slice pt g.sub.len ct)) => hL.out g.sub _ _ W h1 h2 (by omega) (by omega))
  have kUh := Lib.hid kU
  have kTh := Lib.hid kT
  clear kA kB kU kT ha hb hss hst hL hfs hgs hv hv' hb0 hb1
  obtain ⟨q1, hq1⟩ : ∃ q, (f.op == g.op) = q := ⟨_, rfl⟩
  obtain ⟨q2, hq2⟩ : ∃ q, (f.n.toList == g.n.toList) = q := ⟨_, rfl⟩
  obtain ⟨q3, hq3⟩ : ∃ q, f.ts.eqB g.ts = q := ⟨_, rfl⟩
  obtain ⟨q4, hq4⟩ : ∃ q, f.sub.eqB g.sub = q := ⟨_, rfl⟩
  have hr : f.eqB g = (q1 && q2 && q3 && q4) := by rw [FT.eqB, hq1, hq2, hq3, hq4]
  rw [hr]
  rw [hq3] at HT
  rw [hq4] at HF
  clear hr hq3 hq4
  cases q1 with
  | false =>
    go_enter Tryd.func12, Tryd.ntmps12
    go_wp2_with fail
    go_ret
    exact ⟨rfl, hbb⟩
  | true =>
    cases q2 with
    | false =>
      go_enter Tryd.func12, Tryd.ntmps12
      go_wp2_with fail
      go_ret
      exact ⟨rfl, hbb⟩
    | true =>
      cases q3 with
      | false =>
        go_enter Tryd.func12, Tryd.ntmps12
        go_wp2_with fail
        refine HT.out.mono ?_
        rintro e w1 ⟨rfl, hb1⟩
        have hfin := bel_step hbb hb1
        clear hbb hb1 HT HF
        go_wp2_with fail
        go_ret
        exact ⟨rfl, hfin⟩
      | true =>
        obtain ⟨W2, hW2⟩ : ∃ W2, (w.alloc (.cells #[.int .u8 f.op, .string f.n, .slice pa f.ts.len ca, .slice pu f.sub.len cu] 25)).alloc (.cells #[.int .u8 g.op, .string g.n, .slice pb g.ts.len cb, .slice pt g.sub.len ct] 25) = W2 := ⟨_, rfl⟩
        have c3 : W2.cell? ⟨w.heap.size, 3, none⟩ = some (.slice pu f.sub.len cu) := by rw [← hW2]; exact cell_below (bel_laid _ _) (by rw [cell_new]; rfl)
        have d3 : W2.cell? ⟨w.heap.size + 1, 3, none⟩ = some (.slice pt g.sub.len ct) := by
          have := cell_new (w.alloc (.cells #[.int .u8 f.op, .string f.n, .slice pa f.ts.len ca, .slice pu f.sub.len cu] 25)) #[.int .u8 g.op, .string g.n, .slice pb g.ts.len cb, .slice pt g.sub.len ct] 25 3
          rw [World.size_alloc] at this
          rw [← hW2]; exact this
        have hcd := Lib.hid (And.intro c3 d3)
        have hW2h := Lib.hid hW2
        clear c3 d3 hW2
        go_enter Tryd.func12, Tryd.ntmps12
        go_wp2_with fail
        refine HT.out.mono ?_
        rintro e w1 ⟨rfl, hb1⟩
        rw [hW2h.out] at hb1 hbb kUh kTh
        have e3 := cell_below hb1 hcd.out.1
        have f3 := cell_below hb1 hcd.out.2
        have hfin := bel_step hbb hb1
        have HF1 := Lib.hid (HF.out _ (FSl.below hb1 kUh.out) (FSl.below hb1 kTh.out))
        clear hbb hb1 HT HF hcd kUh kTh hW2h
        go_wp2_with fail
        refine HF1.out.mono ?_
        rintro e w2 ⟨rfl, hb2⟩
        have hfin2 := bel_step hfin hb2
        clear hfin hb2 HF1 e3 f3
        cases q4 with
        | false =>
          go_wp2_with fail
          go_ret
          exact ⟨rfl, hfin2⟩
        | true =>
          go_wp2_with fail
          go_ret
          exact ⟨rfl, hfin2⟩
termination_by f.size
decreasing_by rename_i h; simp only [FT.size] at *; omega
end Go.Proofs.YtngdieldgnlogaaDoor
