/- The law's own copies: their lists may be appended to, each apart from the other's tree. -/
import Derived.Test.YtngdieldgnlogaaDoorDT
import Derived.Test.YtngdieldgnlogaaDoorRW
namespace Go.Proofs.YtngdieldgnlogaaDoor
open Go Go.RowKit
set_option maxRecDepth 100000
set_option linter.unusedVariables false
def FVS (W : World) (lo : Nat) (f : FT) (v : Value) : Prop := ∃ (p9 : Option Addr) (n9 : Nat) (p8 : Option Addr) (n8 z1 z2 : Nat) (xs : List Value), v = fval f (.slice p9 f.ts.len n9) (.slice p8 f.sub.len n8) ∧ lo ≤ z1 ∧ z1 ≤ z2 ∧ z2 ≤ W.heap.size ∧ W.ownsRow z1 49 3 (.slice p9 f.ts.len n9) f.ts.len xs ∧
  (∀ g, (Value.slice p9 f.ts.len n9).ownBlock = some g → g < z2) ∧ TRow (hideR W z2 W.heap.size) z1 (.slice p9 f.ts.len n9) f.ts xs ∧ GRow W z2 (.slice p8 f.sub.len n8) f.sub
theorem CRow.form {W : World} {lo : Nat} {s : Value} {q : Ts} (h : CRow W lo s q) : ∃ p c, s = .slice p q.len c := by
  obtain ⟨p, c, e, -⟩ := h.own
  exact ⟨p, c, e⟩
theorem GRow.form {W : World} {lo : Nat} {s : Value} {q : Fs} (h : GRow W lo s q) : ∃ p c, s = .slice p q.len c := by
  obtain ⟨p, c, e, -⟩ := h.own
  exact ⟨p, c, e⟩
theorem load5' {W : World} {g o : Nat} {v : Int} (h : W.cell? ⟨g, o, none⟩ = some (.int .u8 v)) : (Instr.loadAt 5 (.pointer (some ⟨g, o, none⟩))).run Tryd.prog W = .ok (.int .u8 v) W := by simp [Instr.loadAt, go_sem, h]
theorem FVS.mk' {wD wT wF : World} {lo g n9 n8 : Nat} {f : FT} {p9 p8 : Option Addr} {vs : List Value} (hlo : lo ≤ wD.heap.size) (hg : g < wD.heap.size) (hCT : CRow wT wD.heap.size (.slice p9 f.ts.len n9) f.ts) (hbT : Below wD.heap.size wD wT) (hGF : GRow wF wT.heap.size (.slice p8 f.sub.len n8) f.sub) (hbF : Below wT.heap.size wT wF) : FVS (wF.setCells g 0 vs) lo f (fval f (.slice p9 f.ts.len n9) (.slice p8 f.sub.len n8)) := by
  obtain ⟨xs, hown, hrow⟩ := hCT
  have h1 := hbT.size
  have h2 := hbF.size
  refine ⟨p9, n9, p8, n8, wD.heap.size, wT.heap.size, xs, rfl, hlo, h1, ?_, ?_, fun g e => (hown.lt g e).2, ?_, hGF.set (by omega)⟩
  · have := (grown_setCells g vs 0 wF).size; omega
  · exact (owns_below hbF hown).kept (grown_setCells g vs 0 wF) (.inr fun e => by have := (hown.lt g e).1; omega)
  · refine hrow.impLo fun b o' y hb hc hn => ⟨hideR_keep (.inl (lt_of_cell hc)) ?_, hn⟩
    rw [World.cell?_setCells_out g _ _ _ _ (fun e => by simp at e; omega)]
    exact cell_below hbF hc
set_option maxHeartbeats 8000000 in
theorem copyFs_any (f : FT) (v : Value) (w : World) (hv : FVal w f v) (hs : f.size ≤ 1000000) : Calls Tryd.prog 23 #[v] w fun e w' => (∃ v', e = .returned v' ∧ FVS w' w.heap.size f v') ∧ Below w.heap.size w w' := by
  have hfz : f.size = f.ts.size + f.sub.size + 1 := rfl
  obtain ⟨sa, ss, rfl, ha, hss⟩ := id hv
  obtain ⟨pa, ca, rfl, -⟩ := id ha
  obtain ⟨pu, cu, rfl, -⟩ := id hss
  obtain ⟨W2, hW2, hst, hy, hs2⟩ := two_boxes hv 25
  have hyh := Lib.hid (show Fr4 (w.heap.size + 1) W2 from hy)
  obtain ⟨b0, b1, b2, b3, hb, hT, hU⟩ := hst
  have hvh := Lib.hid hv
  have HT : Hid (∀ W, (W.cell? ⟨w.heap.size, 0, none⟩ = some (.int .u8 f.op) ∧ W.cell? ⟨w.heap.size, 1, none⟩ = some (.string f.n) ∧ W.cell? ⟨w.heap.size, 2, none⟩ = some (.slice pa f.ts.len ca) ∧ W.cell? ⟨w.heap.size, 3, none⟩ = some (.slice pu f.sub.len cu) ∧ Below w.heap.size w W ∧ Fr4 (w.heap.size + 1) W) →
      Calls Tryd.prog 53 #[.slice pa f.ts.len ca] W fun e w' => (∃ p9 n9, e = .returned (.slice p9 f.ts.len n9) ∧ CRow w' W.heap.size (.slice p9 f.ts.len n9) f.ts ∧ Below W.heap.size W w') ∧
        (w'.cell? ⟨w.heap.size, 0, none⟩ = some (.int .u8 f.op) ∧ w'.cell? ⟨w.heap.size, 1, none⟩ = some (.string f.n) ∧ w'.cell? ⟨w.heap.size, 2, none⟩ = some (.slice pa f.ts.len ca) ∧ w'.cell? ⟨w.heap.size, 3, none⟩ = some (.slice pu f.sub.len cu) ∧ Below w.heap.size w w' ∧ Fr4 (w.heap.size + 1) w')) :=
    Lib.hid (fun W hW => (copyTr_any f.ts.size f.ts _ W (Nat.le_refl _) (TSl.below hW.2.2.2.2.1 ha) (by omega)).mono fun e w' ⟨⟨s', he, hc⟩, hb'⟩ => by
      obtain ⟨p9, n9, rfl⟩ := hc.form
      exact ⟨⟨p9, n9, he, hc, hb'⟩, cell_below hb' hW.1, cell_below hb' hW.2.1, cell_below hb' hW.2.2.1, cell_below hb' hW.2.2.2.1, bel_step hW.2.2.2.2.1 hb', fun j hj => (hW.2.2.2.2.2 j hj).imp fun _ h => h.below hb'⟩)
  have HF : Hid (∀ W, (W.cell? ⟨w.heap.size, 0, none⟩ = some (.int .u8 f.op) ∧ W.cell? ⟨w.heap.size, 1, none⟩ = some (.string f.n) ∧ W.cell? ⟨w.heap.size, 2, none⟩ = some (.slice pa f.ts.len ca) ∧ W.cell? ⟨w.heap.size, 3, none⟩ = some (.slice pu f.sub.len cu) ∧ Below w.heap.size w W ∧ Fr4 (w.heap.size + 1) W) →
      Calls Tryd.prog 54 #[.slice pu f.sub.len cu] W fun e w' => (∃ p8 n8, e = .returned (.slice p8 f.sub.len n8) ∧ GRow w' W.heap.size (.slice p8 f.sub.len n8) f.sub ∧ Below W.heap.size W w') ∧
        (∃ u0 u1 u2 u3, Wc w' (w.heap.size + 1) 0 u0 ∧ Wc w' (w.heap.size + 1) 1 u1 ∧ Wc w' (w.heap.size + 1) 2 u2 ∧ Wc w' (w.heap.size + 1) 3 u3) ∧
        (w'.cell? ⟨w.heap.size, 0, none⟩ = some (.int .u8 f.op) ∧ w'.cell? ⟨w.heap.size, 1, none⟩ = some (.string f.n) ∧ w'.cell? ⟨w.heap.size, 2, none⟩ = some (.slice pa f.ts.len ca) ∧ w'.cell? ⟨w.heap.size, 3, none⟩ = some (.slice pu f.sub.len cu) ∧ Below w.heap.size w w' ∧ Fr4 (w.heap.size + 1) w')) :=
    Lib.hid (fun W hW => (copyLr_any f.sub _ W (FSl.below hW.2.2.2.2.1 hss) (by omega)).mono fun e w' ⟨⟨s', he, hc⟩, hb'⟩ => by
      obtain ⟨p9, n9, rfl⟩ := hc.form
      obtain ⟨u0, y0⟩ := hW.2.2.2.2.2 0 (by omega)
      obtain ⟨u1, y1⟩ := hW.2.2.2.2.2 1 (by omega)
      obtain ⟨u2, y2⟩ := hW.2.2.2.2.2 2 (by omega)
      obtain ⟨u3, y3⟩ := hW.2.2.2.2.2 3 (by omega)
      exact ⟨⟨p9, n9, he, hc, hb'⟩, ⟨_, _, _, _, y0.below hb', y1.below hb', y2.below hb', y3.below hb'⟩, cell_below hb' hW.1, cell_below hb' hW.2.1, cell_below hb' hW.2.2.1, cell_below hb' hW.2.2.2.1, bel_step hW.2.2.2.2.1 hb', fun j hj => (hW.2.2.2.2.2 j hj).imp fun _ h => h.below hb'⟩)
  have hcells : W2.drew.cell? ⟨w.heap.size, 0, none⟩ = some (.int .u8 f.op) ∧ W2.drew.cell? ⟨w.heap.size, 1, none⟩ = some (.string f.n) ∧ W2.drew.cell? ⟨w.heap.size, 2, none⟩ = some (.slice pa f.ts.len ca) ∧ W2.drew.cell? ⟨w.heap.size, 3, none⟩ = some (.slice pu f.sub.len cu) ∧ Below w.heap.size w W2.drew ∧ Fr4 (w.heap.size + 1) W2.drew := ⟨b0, b1, b2, b3, hb.drew, hyh.out⟩
  have hs2h := Lib.hid hs2
  clear hs2 b0 b1 b2 b3 hb hT hU hy hv ha hss hyh
  go_enter Tryd.func23, Tryd.ntmps23
  go_wp2_with fail
  clear hW2
  go_region_held3 (fun W => W.cell? ⟨w.heap.size, 0, none⟩ = some (.int .u8 f.op) ∧ W.cell? ⟨w.heap.size, 1, none⟩ = some (.string f.n) ∧ W.cell? ⟨w.heap.size, 2, none⟩ = some (.slice pa f.ts.len ca) ∧ W.cell? ⟨w.heap.size, 3, none⟩ = some (.slice pu f.sub.len cu) ∧ Below w.heap.size w W ∧ Fr4 (w.heap.size + 1) W)
    (first
      | (with_reducible assumption)
      | (with_reducible exact hcells)
      | (exact ⟨keep4 hSS.1 (by omega), keep4 hSS.2.1 (by omega), keep4 hSS.2.2.1 (by omega), keep4 hSS.2.2.2.1 (by omega), below4 hSS.2.2.2.2.1 (by omega), Fr4.set4 hSS.2.2.2.2.2⟩))
    (first
      | (go_at_call 53; (with_reducible refine (HT.out _ (by assumption)).mono ?_); rintro e wT ⟨⟨p9, n9, rfl, hCT, hbT⟩, hSS⟩)
      | (go_at_call 54; (with_reducible refine (HF.out _ (by assumption)).mono ?_); rintro e wF ⟨⟨p8, n8, rfl, hGF, hbF⟩, ⟨u0, u1, u2, u3, ⟨z0, f0⟩, ⟨z1, f1⟩, ⟨z2, f2⟩, ⟨z3, f3⟩⟩, hSS⟩))
  have hfin : FVS ((((wF.setCell ⟨w.heap.size + 1, 0, none⟩ (.int .u8 f.op)).setCell ⟨w.heap.size + 1, 1, none⟩ (.string f.n)).setCell ⟨w.heap.size + 1, 2, none⟩ (.slice p9 f.ts.len n9)).setCell ⟨w.heap.size + 1, 3, none⟩ (.slice p8 f.sub.len n8)) w.heap.size f (fval f (.slice p9 f.ts.len n9) (.slice p8 f.sub.len n8)) := by
    have hsd : W2.drew.heap.size = w.heap.size + 2 := hs2h.out
    exact FVS.mk' (vs := [.int .u8 f.op, .string f.n, .slice p9 f.ts.len n9, .slice p8 f.sub.len n8]) (by omega) (by omega) hCT hbT hGF hbF
  have hbSS := hSS.2.2.2.2.1
  obtain ⟨W5, hW5, r0, r1, r2, r3, -, hbel5, -⟩ := set4o wF (w.heap.size + 1) 0 (.int .u8 f.op) (.string f.n) (.slice p9 f.ts.len n9) (.slice p8 f.sub.len n8) ⟨z0, f0⟩ ⟨z1, f1⟩ ⟨z2, f2⟩ ⟨z3, f3⟩
  simp only [Nat.zero_add] at hW5 r1 r2 r3
  rw [hW5] at hfin
  have hfh := Lib.hid hfin
  have hb5 := Lib.hid (hbel5 _ _ hbSS (by omega))
  rw [hW5]
  clear hW5 hbel5 hfin z0 z1 z2 z3 f0 f1 f2 f3 HT HF hcells hCT hGF hbT hbF hbSS
  go_wp2_with fail
  refine bodyPost_ret (v := fval f (.slice p9 f.ts.len n9) (.slice p8 f.sub.len n8)) ?_ rfl ⟨⟨_, rfl, hfh.out⟩, hb5.out⟩
  simp [results, Tryd.results23, go_sem, r0.1, r1.1, r2.1, r3.1]
end Go.Proofs.YtngdieldgnlogaaDoor
