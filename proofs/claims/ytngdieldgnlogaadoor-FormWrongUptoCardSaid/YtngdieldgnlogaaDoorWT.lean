/- find and With, over blocks of their own. -/
import Derived.Test.YtngdieldgnlogaaDoorSF
import Derived.Deep.Cut
namespace Go.Proofs.YtngdieldgnlogaaDoor
open Go Go.RowKit
set_option maxRecDepth 100000
set_option linter.unusedVariables false
theorem Reach.below {W W' : World} (hb : Below W.heap.size W W') {b' o' : Nat} : ∀ {l : List Int} {f : FT} {b o : Nat}, Reach W l f b o b' o' → Reach W' l f b o b' o'
  | [], _, _, _, h => h
  | _ :: _, _, _, _, ⟨h1, h2, bs, os, c, hc, hR⟩ => ⟨h1, h2, bs, os, c, cell_below hb hc, Reach.below hb hR⟩
theorem Reach.there {W : World} {b' o' : Nat} : ∀ {l : List Int} {f : FT} {b o : Nat} {S : Nat → Prop}, FAtSp W f b o S → Reach W l f b o b' o' → ∃ (g : FT) (T : Nat → Prop), FAtSp W g b' o' T
  | [], f, _, _, S, h, hR => by
    obtain ⟨rfl, rfl⟩ := hR
    exact ⟨f, S, h⟩
  | i :: l, f, b, o, S, ⟨_, _, S1, S2, S3, q1, q2, q3, _, ⟨s', h3, hs'⟩, _⟩, ⟨hi, hj, bs, os, c, hc, hR⟩ => by
    obtain ⟨p, c', e, h0 | ⟨b2, o2, ep, hb2, hsub⟩⟩ := hs'
    · omega
    have e1 := h3.1.symm.trans hc
    rw [e, ep] at e1
    simp at e1
    obtain ⟨⟨rfl, rfl⟩, rfl⟩ := e1
    obtain ⟨Tk, t1, t2⟩ := FsSp.one (k := i.toNat) (by omega) hsub
    exact Reach.there t2 hR
def FoundR (W : World) (f : FT) (l : List Int) (b0 o0 : Nat) (r : Option FT) (v : Value) : Prop := match r with
  | none => v = .pointer none
  | some g => ∃ b o, v = .pointer (some ⟨b, o, none⟩) ∧ FAt W g b o ∧ Reach W l f b0 o0 b o
set_option maxHeartbeats 2000000 in
theorem find_reach (f : FT) (l : List Int) (b0 o0 : Nat) (sl : Value) (w : World) (hf : FAt w f b0 o0) (hl : LSl w l sl) (hn : l.length ≤ 1000000) :
    Calls Tryd.prog 35 #[.pointer (some ⟨b0, o0, none⟩), sl] w fun e w' => (∃ v, e = .returned v ∧ FoundR w f l b0 o0 (f.part l) v) ∧ w = w' := by
  obtain ⟨p, c, bp, op, rfl, hp, ht⟩ := LSl.opened hl
  obtain ⟨res, hres⟩ : ∃ res, f.part l = res := ⟨_, rfl⟩
  rw [hres]
  replace hres := Lib.hid hres
  go_enter Tryd.func35, Tryd.ntmps35
  go_wp2
  go_loopw [0, 9] (fun q i wr => ∃ (k : Nat) (r : List Int) (g : FT) (b o : Nat), q = .pointer (some ⟨b, o, none⟩) ∧ i = .int .i64 k ∧ k + r.length = l.length ∧ LsAt w r bp (op + k) ∧ FAt w g b o ∧ g.part r = res ∧ (∀ b' o', Reach w r g b o b' o' → Reach w l f b0 o0 b' o') ∧ w = wr) (fun _ i _ => l.length - (intOf i).toNat)
  case atStart => exact ⟨0, l, f, b0, o0, rfl, rfl, by omega, by simpa using ht, hf, hres.out, fun _ _ h => h, rfl⟩
  case round =>
    obtain ⟨k, r, g, b, o, rfl, rfl, hk, hat, hg, hpart, hre, rfl⟩ := hrel
    replace hpart := Lib.hid hpart
    replace hre := Lib.hid hre
    cases r with
    | nil =>
      have hk' : k = l.length := by simpa using hk
      subst hk'
      have : res = some g := by rw [← hpart.out]; rfl
      subst this
      go_wp2
      go_ret
      exact ⟨⟨_, rfl, b, o, rfl, hg, hre.out _ _ ⟨rfl, rfl⟩⟩, rfl⟩
    | cons x r' =>
      rcases hp with hp | hp
      · simp only [List.length_cons] at hk; omega
      subst hp
      obtain ⟨hx, hat'⟩ := hat
      have hlt : (k : Int) < (l.length : Int) := by simp only [List.length_cons] at hk; omega
      have hg' := Lib.hid hg
      obtain ⟨g0, g1, -, ⟨ss, g3, hss⟩⟩ := hg
      obtain ⟨ps, cs, bs, os, rfl, hps, hfs⟩ := FSl.opened hss
      clear hss g0 g1
      by_cases h1 : 0 ≤ x
      · by_cases h2 : x < g.sub.len
        · have hsub := hps.resolve_left (by omega)
          subst hsub
          obtain ⟨xn, hxn⟩ : ∃ xn : Nat, x = (xn : Int) := ⟨x.toNat, by omega⟩
          subst hxn
          have hch := Lib.hid (FsAt.get hfs (k := xn) (by omega))
          have hp2 := Lib.hid (show (g.sub.get xn).part r' = res by rw [← hpart.out, FT.part, if_pos ⟨h1, h2⟩]; rfl)
          have hre2 := Lib.hid (show ∀ b' o', Reach w r' (g.sub.get xn) bs (os + xn * 4) b' o' → Reach w l f b0 o0 b' o' from fun b' o' h => hre.out b' o' ⟨h1, h2, bs, os, cs, g3, h⟩)
          clear hfs hps
          go_wp2
          go_roundw
          case rel => exact ⟨k + 1, r', g.sub.get xn, bs, os + xn * 4, rfl, by go_num, by simp only [List.length_cons] at hk; omega, by rwa [show op + (k + 1) = op + k + 1 by omega], hch.out, hp2.out, hre2.out, trivial⟩
          case measure => simp [intOf]; omega
        · have : res = none := by rw [← hpart.out, FT.part, if_neg (by omega)]
          subst this
          have h2' : (g.sub.len : Int) ≤ x := by omega
          go_wp2
          go_ret
          exact ⟨⟨_, rfl, rfl⟩, rfl⟩
      · have : res = none := by rw [← hpart.out, FT.part, if_neg (by omega)]
        subst this
        have h1' : x < 0 := by omega
        go_wp2
        go_ret
        exact ⟨⟨_, rfl, rfl⟩, rfl⟩
/-- Four cells of a block are written. -/
theorem set4o (W : World) (g o : Nat) (a0 a1 a2 a3 : Value) {x0 x1 x2 x3 : Value} (y0 : Wc W g o x0) (y1 : Wc W g (o + 1) x1) (y2 : Wc W g (o + 2) x2) (y3 : Wc W g (o + 3) x3) :
    ∃ W', (((W.setCell ⟨g, o, none⟩ a0).setCell ⟨g, o + 1, none⟩ a1).setCell ⟨g, o + 2, none⟩ a2).setCell ⟨g, o + 3, none⟩ a3 = W' ∧ Wc W' g o a0 ∧ Wc W' g (o + 1) a1 ∧ Wc W' g (o + 2) a2 ∧ Wc W' g (o + 3) a3 ∧
      (∀ x i v, ¬ (x = g ∧ o ≤ i ∧ i < o + 4) → Wc W x i v → Wc W' x i v) ∧ (∀ B w0, Below B w0 W → B ≤ g → Below B w0 W') ∧ W'.heap.size = W.heap.size := by
  refine ⟨_, rfl, ?_, ?_, ?_, ?_, fun x i v hn hc => ?_, fun B w0 h hB => ((((h.setCell (p := ⟨g, _, none⟩) hB _).setCell (p := ⟨g, _, none⟩) hB _).setCell (p := ⟨g, _, none⟩) hB _).setCell (p := ⟨g, _, none⟩) hB _), by rw [size_setCell, size_setCell, size_setCell, size_setCell]⟩
  · exact wc_off (.inr (by omega)) (wc_off (.inr (by omega)) (wc_off (.inr (by omega)) (wc_on y0.1 y0.2)))
  · exact wc_off (.inr (by omega)) (wc_off (.inr (by omega)) (wc_on (wc_off (v := a0) (.inr (by omega)) y1).1 (wc_off (.inr (by omega)) y1).2))
  · exact wc_off (.inr (by omega)) (wc_on (wc_off (v := a1) (.inr (by omega)) (wc_off (v := a0) (.inr (by omega)) y2)).1 (wc_off (.inr (by omega)) (wc_off (.inr (by omega)) y2)).2)
  · exact wc_on (wc_off (v := a2) (.inr (by omega)) (wc_off (v := a1) (.inr (by omega)) (wc_off (v := a0) (.inr (by omega)) y3))).1 (wc_off (.inr (by omega)) (wc_off (.inr (by omega)) (wc_off (.inr (by omega)) y3))).2
  · have hne : ∀ j, j < 4 → x ≠ g ∨ i ≠ o + j := fun j hj => by
      by_cases e : x = g
      · exact .inr (fun e2 => hn ⟨e, by omega, by omega⟩)
      · exact .inl e
    exact wc_off (hne 3 (by omega)) (wc_off (hne 2 (by omega)) (wc_off (hne 1 (by omega)) (wc_off (hne 0 (by omega)) hc)))
theorem Free.wc {W : World} {g m j : Nat} (h : Free W g m) (hj : j < m) : ∃ v, Wc W g j v := by
  obtain ⟨⟨u, hu⟩, hf⟩ := h j hj
  exact ⟨u, hu, hf⟩
/-- What With returns. -/
def WithRes (W : World) (lo : Nat) (r : Option FT) (v : Value) (e : Int) : Prop := match r with
  | none => v = fval ⟨0, ⟨#[]⟩, .nil, .nil⟩ (.slice none 0 0) (.slice none 0 0) ∧ e = 6
  | some g => FVSp W g v (Rg lo W.heap.size) ∧ e = 0
set_option maxHeartbeats 8000000 in
theorem with_any (f h : FT) (l : List Int) (v vp sl : Value) (w : World) (hv : FVal w f v) (hvp : FVal w h vp) (hl : LSl w l sl) (hn : l.length ≤ 1000000) (hs : f.size ≤ 1000000) (hs' : h.size ≤ 1000000) :
    Calls Tryd.prog 11 #[v, sl, vp] w fun e w' => (∃ v' er, e = .returned (.tuple #[v', .int .i64 er]) ∧ WithRes w' w.heap.size (f.put l h) v' er) ∧ Below w.heap.size w w' := by
  obtain ⟨sa, ss, rfl, ha, hss⟩ := id hv
  obtain ⟨pa, ca, rfl, -⟩ := id ha
  obtain ⟨p, c, rfl, -⟩ := id hss
  obtain ⟨sa', ss', rfl, ha', hss'⟩ := id hvp
  obtain ⟨pa', ca', rfl, -⟩ := id ha'
  obtain ⟨p', c', rfl, -⟩ := id hss'
  obtain ⟨pl, cl, rfl, -⟩ := id hl
  clear ha hss ha' hss'
  have e1 := bel_laid w (.cells #[.int .u8 f.op, .string f.n, .slice pa f.ts.len ca, .slice p f.sub.len c] 25)
  have hl1 := LSl.below e1 hl
  have k2 := FS.start (t := 25) (FVal.below e1 hvp)
  have k1 := FS.start (t := 25) hv
  have hF1 := Free.lit w #[.int .u8 f.op, .string f.n, .slice pa f.ts.len ca, .slice p f.sub.len c] 25
  rw [World.size_alloc] at k2
  obtain ⟨W1, hW1⟩ : ∃ W1, w.alloc (.cells #[.int .u8 f.op, .string f.n, .slice pa f.ts.len ca, .slice p f.sub.len c] 25) = W1 := ⟨_, rfl⟩
  have s1 : W1.heap.size = w.heap.size + 1 := by rw [← hW1, World.size_alloc]
  rw [hW1] at e1 hl1 k1 k2 hF1
  have e2 := bel_laid W1 (.cells #[.int .u8 h.op, .string h.n, .slice pa' h.ts.len ca', .slice p' h.sub.len c'] 25)
  obtain ⟨W2, hW2⟩ : ∃ W2, W1.alloc (.cells #[.int .u8 h.op, .string h.n, .slice pa' h.ts.len ca', .slice p' h.sub.len c'] 25) = W2 := ⟨_, rfl⟩
  have s2 : W2.heap.size = w.heap.size + 2 := by rw [← hW2, World.size_alloc, s1]
  rw [hW2] at e2 k2
  have e3 := bel_laid W2 (.cells #[.int .u8 0, .string ⟨#[]⟩, .slice none 0 0, .slice none 0 0] 25)
  have hF3 := Free.lit W2 #[.int .u8 0, .string ⟨#[]⟩, .slice none 0 0, .slice none 0 0] 25
  rw [s2] at hF3
  obtain ⟨W3, hW3⟩ : ∃ W3, W2.alloc (.cells #[.int .u8 0, .string ⟨#[]⟩, .slice none 0 0, .slice none 0 0] 25) = W3 := ⟨_, rfl⟩
  have s3 : W3.heap.size = w.heap.size + 3 := by rw [← hW3, World.size_alloc, s2]
  rw [hW3] at e3 hF3
  have e23 := bel_step e2 e3
  have k1 := k1.next e23
  have k2 := k2.next e3
  have hl3 := LSl.below e23 hl1
  have hF1 := hF1.below e23
  have hb3 := bel_step e1 e23
  have hlh := Lib.hid hl
  have hvph := Lib.hid hvp
  clear e1 e2 e3 e23 hl hl1 hv hvp
  have HCf := Lib.hid (copy_sp f _ W3 k1.val hs)
  have HCh := Lib.hid (fun V hV => copy_sp h (fval h (.slice pa' h.ts.len ca') (.slice p' h.sub.len c')) V hV hs')
  obtain ⟨g, hg⟩ : ∃ g, w.heap.size = g := ⟨_, rfl⟩
  have hgh := Lib.hid hg
  obtain ⟨b0, b1, b2, b3, -⟩ := k1
  have k2h := Lib.hid k2
  have hl3h := Lib.hid hl3
  have hb3h := Lib.hid hb3
  have hF1h := Lib.hid hF1
  have hF3h := Lib.hid hF3
  have s3h := Lib.hid s3
  rw [hg] at s1 s2
  clear k2 hl3 hb3 hF1 hF3 s3
  go_enter Tryd.func11, Tryd.ntmps11
  go_upto_region 1 with fail
  clear hW1 hW2 hW3
  rw [hg] at b0 b1 b2 b3 k2h hb3h hF1h hF3h s3h
  clear hg s1 s2
  go_wp2_with fail
  refine HCf.out.mono ?_
  rintro e W4 ⟨v', rfl, hsp, hb4⟩
  clear HCf b0 b1 b2 b3
  rw [s3h.out] at hsp
  have s34 := hb4.size
  rw [s3h.out] at s34
  obtain ⟨s1, s2, A1, A2, rfl, hA1, hA2, hT1, hT2⟩ := hsp
  obtain ⟨p1, c1, rfl⟩ := SlSp.slice hT1
  obtain ⟨p2, c2, rfl⟩ := SlSp.slice hT2
  have k2h := Lib.hid (k2h.out.next hb4)
  have hl3h := Lib.hid (LSl.below hb4 hl3h.out)
  have hF3h := Lib.hid (hF3h.out.below hb4)
  have hF1 := hF1h.out.below hb4
  have hb4h := Lib.hid (show Below g w W4 from hb3h.out.trans (hb4.mono (by rw [s3h.out]; omega)))
  obtain ⟨v0, y0⟩ := hF1.wc (j := 0) (by simp)
  obtain ⟨v1, y1⟩ := hF1.wc (j := 1) (by simp)
  obtain ⟨v2, y2⟩ := hF1.wc (j := 2) (by simp)
  obtain ⟨v3, y3⟩ := hF1.wc (j := 3) (by simp)
  have z0 := y0.1
  have z1 := y1.1
  have z2 := y2.1
  have z3 := y3.1
  have f0 := y0.2
  have f1 := y1.2
  have f2 := y2.2
  have f3 := y3.2
  have hT1h := Lib.hid hT1
  have hT2h := Lib.hid hT2
  clear hF1 hF1h hb3h hb4 s3h hT1 hT2
  go_upto_region 2 with fail
  obtain ⟨W5, hW5, q0, q1, q2, q3, hfar5, hbel5, hs5⟩ := set4o W4 g 0 (.int .u8 f.op) (.string f.n) (.slice p1 f.ts.len c1) (.slice p2 f.sub.len c2) y0 (by simpa using y1) (by simpa using y2) (by simpa using y3)
  simp only [Nat.zero_add] at hW5 q1 q2 q3
  rw [hW5]
  have hb5h := Lib.hid (hbel5 _ _ hb4h.out (Nat.le_refl _))
  have hkeep5 : ∀ x i v, x ≠ g → Wc W4 x i v → Wc W5 x i v := fun x i v hx hc => hfar5 x i v (fun h => hx h.1) hc
  have hsp5 : FAtSp W5 f g 0 (Rg (g + 3) W4.heap.size) := ⟨q0, by simpa using q1, A1, A2, fun _ => False, hA1, hA2, fun _ h => h.elim, ⟨_, by simpa using q2, TSp.keep (fun x i v hx hc => hkeep5 x i v (by have := (hA1 x hx).1; omega) hc) hT1h.out⟩, ⟨_, by simpa using q3, FSp.keep (fun x i v hx hc => hkeep5 x i v (by have := (hA2 x hx).1.1; omega) hc) hT2h.out⟩, trivial⟩
  clear y0 y1 y2 y3 z0 z1 z2 z3 f0 f1 f2 f3 hT1h hT2h hA1 hA2 v0 v1 v2 v3
  have hsz := s34
  have hF3w : Hid (∀ j, j < 4 → ∃ u, Wc W5 (g + 2) j u) := Lib.hid (fun j hj => by
    obtain ⟨u, hu⟩ := hF3h.out.wc (j := j) (by simpa using hj)
    exact ⟨u, hkeep5 _ _ _ (by omega) hu⟩)
  obtain ⟨c10, c11, c12, c13, -⟩ := k2h.out
  have hcell5 : ∀ i v, W4.cell? ⟨g + 1, i, none⟩ = some v → W5.cell? ⟨g + 1, i, none⟩ = some v := fun i v hc => by
    rw [← hW5, set_off (.inl (by omega)), set_off (.inl (by omega)), set_off (.inl (by omega)), set_off (.inl (by omega))]; exact hc
  replace c10 := hcell5 _ _ c10
  replace c11 := hcell5 _ _ c11
  replace c12 := hcell5 _ _ c12
  replace c13 := hcell5 _ _ c13
  have hbw5 : Below w.heap.size w W5 := by rw [hgh.out]; exact hb5h.out
  have hl5 := LSl.below hbw5 hlh.out
  have hvp5 := Lib.hid (FVal.below hbw5 hvph.out)
  clear hcell5 hkeep5 hfar5 hbel5 hW5 q0 q1 q2 q3 hF3h k2h hl3h hb4h hbw5 hlh hvph
  have HFd := Lib.hid (find_reach f l g 0 _ W5 hsp5.at hl5 hn)
  have hsp5h := Lib.hid hsp5
  clear hl5 hsp5
  go_wp2_with fail
  refine HFd.out.mono ?_
  rintro e w6 ⟨⟨vf, rfl, hfound⟩, rfl⟩
  clear HFd
  cases hpt : f.part l with
  | none =>
    rw [hpt] at hfound
    obtain rfl : vf = .pointer none := hfound
    have hput := Lib.hid (FT.put_none l f h hpt)
    obtain ⟨u0, y0⟩ := hF3w.out 0 (by omega)
    obtain ⟨u1, y1⟩ := hF3w.out 1 (by omega)
    obtain ⟨u2, y2⟩ := hF3w.out 2 (by omega)
    obtain ⟨u3, y3⟩ := hF3w.out 3 (by omega)
    have z0 := y0.1
    have z1 := y1.1
    have z2 := y2.1
    have z3 := y3.1
    have f0 := y0.2
    have f1 := y1.2
    have f2 := y2.2
    have f3 := y3.2
    clear HCh hsp5h hvp5 c10 c11 c12 c13 hpt hF3w hs5
    go_wp2_with fail
    obtain ⟨W7, hW7, q0, q1, q2, q3, -, hbel7, -⟩ := set4o W5 (g + 2) 0 (.int .u8 0) (.string ⟨#[]⟩) (.slice none 0 0) (.slice none 0 0) y0 (by simpa using y1) (by simpa using y2) (by simpa using y3)
    simp only [Nat.zero_add] at hW7 q1 q2 q3
    rw [hW7]
    refine bodyPost_ret (v := .tuple #[fval ⟨0, ⟨#[]⟩, .nil, .nil⟩ (.slice none 0 0) (.slice none 0 0), .int .i64 6]) ?_ rfl ⟨⟨_, _, rfl, by rw [hput.out]; exact ⟨rfl, rfl⟩⟩, by rw [hgh.out]; exact hbel7 _ _ hb5h.out (by omega)⟩
    simp [results, Tryd.results11, go_sem, q0.1, q1.1, q2.1, q3.1]
  | some fp =>
    rw [hpt] at hfound
    obtain ⟨b, o, rfl, -, hR⟩ := hfound
    clear hpt
    have hcl := Lib.hid (HCh.out W5 hvp5.out)
    have hRh := Lib.hid hR
    obtain ⟨g0, T0, ht0⟩ := Reach.there hsp5h.out hR
    have hbw : b < W5.heap.size := ht0.1.lt
    have hown := Reach.own hsp5h.out hR
    have hbg : b ≠ g + 1 ∧ b ≠ g + 2 := by
      rcases hown with ⟨rfl, -⟩ | hh
      · omega
      · have := hh.1; omega
    obtain ⟨hbg1, hbg2⟩ := hbg
    have hbgg : g ≤ b := by
      rcases hown with ⟨rfl, -⟩ | hh
      · omega
      · have := hh.1; omega
    clear hR ht0 hown HCh
    go_wp2_with fail
    refine hcl.out.mono ?_
    rintro e W6 ⟨v', rfl, hspn, hb6⟩
    obtain ⟨s3, s4, B1, B2, rfl, hB1, hB2, hU1, hU2⟩ := hspn
    obtain ⟨p3, c3, rfl⟩ := SlSp.slice hU1
    obtain ⟨p4, c4, rfl⟩ := SlSp.slice hU2
    have hsp6 := Lib.hid (FsSp.below hb6 hsp5h.out)
    have hR6 := Lib.hid (hRh.out.below hb6)
    have hF36 : Hid (∀ j, j < 4 → ∃ u, Wc W6 (g + 2) j u) := Lib.hid (fun j hj => by
      obtain ⟨u, hu⟩ := hF3w.out j hj
      exact ⟨u, hu.below hb6⟩)
    obtain ⟨gg, T, ht⟩ := Reach.there hsp6.out hR6.out
    obtain ⟨y0, y1, T1, T2, T3, -, -, -, ⟨x2, y2, -⟩, ⟨x3, y3, -⟩, -⟩ := ht
    have hb6h := Lib.hid (show Below g w W6 from hb5h.out.trans (hb6.mono (by rw [hs5]; omega)))
    have hs56 := hb6.size
    have z0 := y0.1
    have z1 := y1.1
    have z2 := y2.1
    have z3 := y3.1
    have f0 := y0.2
    have f1 := y1.2
    have f2 := y2.2
    have f3 := y3.2
    have hU1h := Lib.hid hU1
    have hU2h := Lib.hid hU2
    clear hcl hb6 hRh hsp5h hF3w hb5h hU1 hU2 c10 c11 c12 c13 hvp5
    go_upto_region 6 with fail
    obtain ⟨W7, hW7, q0, q1, q2, q3, hfar7, hbel7, hs7⟩ := set4o W6 b o (.int .u8 h.op) (.string h.n) (.slice p3 h.ts.len c3) (.slice p4 h.sub.len c4) y0 y1 y2 y3
    rw [hW7]
    have hkeep7 : ∀ x i v, x ≠ b → Wc W6 x i v → Wc W7 x i v := fun x i v hx hc => hfar7 x i v (fun h => hx h.1) hc
    have hnew : FAtSp W7 h b o (Rg W5.heap.size W6.heap.size) := ⟨q0, q1, B1, B2, fun _ => False, hB1, hB2, fun _ h => h.elim, ⟨_, q2, TSp.keep (fun x i v hx hc => hkeep7 x i v (by have := (hB1 x hx).1; omega) hc) hU1h.out⟩, ⟨_, q3, FSp.keep (fun x i v hx hc => hkeep7 x i v (by have := (hB2 x hx).1.1; omega) hc) hU2h.out⟩, trivial⟩
    obtain ⟨gr, hput, hgr⟩ := put_sp hfar7 hnew (fun x hx hx' => by have := hx.2; have := hx'.1; omega) (fun hx => by have := hx.1; omega) hsp6.out hR6.out
    have hput := Lib.hid hput
    obtain ⟨r0, r1, C1, C2, C3, hC1, hC2, -, ⟨t3, r2, hV1⟩, ⟨t4, r3, hV2⟩, -⟩ := hgr
    obtain ⟨p5, c5, rfl⟩ := SlSp.slice hV1
    obtain ⟨p6, c6, rfl⟩ := SlSp.slice hV2
    simp only [Nat.zero_add] at r1 r2 r3
    obtain ⟨u0, v0⟩ := hF36.out 0 (by omega)
    obtain ⟨u1, v1⟩ := hF36.out 1 (by omega)
    obtain ⟨u2, v2⟩ := hF36.out 2 (by omega)
    obtain ⟨u3, v3⟩ := hF36.out 3 (by omega)
    replace v0 := hkeep7 _ _ _ (Ne.symm hbg2) v0
    replace v1 := hkeep7 _ _ _ (Ne.symm hbg2) v1
    replace v2 := hkeep7 _ _ _ (Ne.symm hbg2) v2
    replace v3 := hkeep7 _ _ _ (Ne.symm hbg2) v3
    have hb7h := Lib.hid (hbel7 _ _ hb6h.out hbgg)
    clear hkeep7 hnew hfar7 hW7 q0 q1 q2 q3 y0 y1 y2 y3 z0 z1 z2 z3 f0 f1 f2 f3 hU1h hU2h hsp6 hR6 hF36 hb6h hB1 hB2 hbel7
    have z0 := v0.1
    have z1 := v1.1
    have z2 := v2.1
    have z3 := v3.1
    have f0 := v0.2
    have f1 := v1.2
    have f2 := v2.2
    have f3 := v3.2
    have rr0 := r0.1
    have rr1 := r1.1
    have rr2 := r2.1
    have rr3 := r3.1
    have hV1h := Lib.hid hV1
    have hV2h := Lib.hid hV2
    clear r0 r1 r2 r3 hV1 hV2
    go_wp2_with fail
    obtain ⟨W8, hW8, q0, q1, q2, q3, hfar8, hbel8, hs8⟩ := set4o W7 (g + 2) 0 (.int .u8 gr.op) (.string gr.n) (.slice p5 gr.ts.len c5) (.slice p6 gr.sub.len c6) v0 (by simpa using v1) (by simpa using v2) (by simpa using v3)
    simp only [Nat.zero_add] at hW8 q1 q2 q3
    rw [hW8]
    have hkeep8 : ∀ x i v, x ≠ g + 2 → Wc W7 x i v → Wc W8 x i v := fun x i v hx hc => hfar8 x i v (fun h => hx h.1) hc
    have hN : ∀ x, (Rg (g + 3) W4.heap.size x ∨ Rg W5.heap.size W6.heap.size x) → g + 3 ≤ x ∧ x < W8.heap.size := fun x hx => by
      rcases hx with hx | hx
      · have := hx.1; have := hx.2; omega
      · have := hx.1; have := hx.2; omega
    refine bodyPost_ret (v := .tuple #[fval gr (.slice p5 gr.ts.len c5) (.slice p6 gr.sub.len c6), .int .i64 0]) ?_ rfl ⟨⟨_, _, rfl, by
      exact ⟨⟨_, _, C1, C2, rfl, fun x hx => ⟨by have := (hN x (hC1 x hx)).1; rw [hgh.out]; omega, (hN x (hC1 x hx)).2⟩, fun x hx => ⟨⟨by have := (hN x (hC2 x hx).1).1; rw [hgh.out]; omega, (hN x (hC2 x hx).1).2⟩, (hC2 x hx).2⟩,
        TSp.keep (fun x i v hx hc => hkeep8 x i v (by have := (hN x (hC1 x hx)).1; omega) hc) hV1h.out, FSp.keep (fun x i v hx hc => hkeep8 x i v (by have := (hN x (hC2 x hx).1).1; omega) hc) hV2h.out⟩, rfl⟩⟩, by rw [hgh.out]; exact hbel8 _ _ hb7h.out (by omega)⟩
    simp [results, Tryd.results11, go_sem, q0.1, q1.1, q2.1, q3.1]
end Go.Proofs.YtngdieldgnlogaaDoor
