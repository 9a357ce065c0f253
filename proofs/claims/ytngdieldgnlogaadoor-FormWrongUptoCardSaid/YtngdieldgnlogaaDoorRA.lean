/- The reference's At. -/
import Derived.Test.YtngdieldgnlogaaDoorWT
import Derived.Deep.RegionHeld3
import Derived.Deep.Cut
import Derived.StillTailTactics
namespace Go.Proofs.YtngdieldgnlogaaDoor
open Go Go.RowKit
set_option maxRecDepth 100000
set_option linter.unusedVariables false
def RAt (W : World) (r : Option FT) (v : Value) (e : Int) : Prop := match r with
  | none => v = fval ⟨0, ⟨#[]⟩, .nil, .nil⟩ (.slice none 0 0) (.slice none 0 0) ∧ e = 6
  | some g => FVal W g v ∧ e = 0
/-- The boxes of a formula that came in, and of what goes out. -/
theorem two_boxes {f : FT} {sa ss : Value} {w : World} (hv : FVal w f (fval f sa ss)) (t : TypeId) : ∃ W2, (w.alloc (.cells #[.int .u8 f.op, .string f.n, sa, ss] t)).alloc (.cells #[.int .u8 0, .string ⟨#[]⟩, .slice none 0 0, .slice none 0 0] t) = W2 ∧
    FS f sa ss w w.heap.size W2 ∧ (∀ j, j < 4 → ∃ u, Wc W2 (w.heap.size + 1) j u) ∧ W2.heap.size = w.heap.size + 2 := by
  refine ⟨_, rfl, (FS.start (t := t) hv).next (bel_laid _ _), fun j hj => ?_, by simp⟩
  have hF := Free.lit (w.alloc (.cells #[.int .u8 f.op, .string f.n, sa, ss] t)) #[.int .u8 0, .string ⟨#[]⟩, .slice none 0 0, .slice none 0 0] t
  rw [World.size_alloc] at hF
  exact hF.wc (by simpa using hj)
theorem bel_drewR {B : Nat} {a w : World} (h : Below B a w) (n : Nat) : Below B a (w.drewN n) := h.trans ⟨rfl, rfl, rfl, Nat.le_refl _, fun _ _ => rfl⟩
theorem RAt.spelt {W : World} {r : Option FT} {v : Value} {e : Int} (h : RAt W r v e) : ∃ op nm q1 n1 c1 q2 n2 c2, v = .agg #[.int .u8 op, .string nm, .slice q1 n1 c1, .slice q2 n2 c2] := by
  cases r with
  | none => exact ⟨_, _, _, _, _, _, _, _, h.1⟩
  | some g =>
    obtain ⟨⟨sa, ss, rfl, ⟨p, c, rfl, -⟩, ⟨p', c', rfl, -⟩⟩, -⟩ := h
    exact ⟨_, _, _, _, _, _, _, _, rfl⟩
def Fr4 (g : Nat) (W : World) : Prop := ∀ j, j < 4 → ∃ u, Wc W g j u
theorem keep4 {W : World} {G x i : Nat} {v a0 a1 a2 a3 : Value} (h : W.cell? ⟨x, i, none⟩ = some v) (hx : x ≠ G) : ((((W.setCell ⟨G, 0, none⟩ a0).setCell ⟨G, 1, none⟩ a1).setCell ⟨G, 2, none⟩ a2).setCell ⟨G, 3, none⟩ a3).cell? ⟨x, i, none⟩ = some v := by
  rw [set_off (.inl hx), set_off (.inl hx), set_off (.inl hx), set_off (.inl hx)]; exact h
theorem below4 {B : Nat} {w W : World} {G : Nat} {a0 a1 a2 a3 : Value} (h : Below B w W) (hB : B ≤ G) : Below B w ((((W.setCell ⟨G, 0, none⟩ a0).setCell ⟨G, 1, none⟩ a1).setCell ⟨G, 2, none⟩ a2).setCell ⟨G, 3, none⟩ a3) :=
  (((h.setCell (p := ⟨G, _, none⟩) hB _).setCell (p := ⟨G, _, none⟩) hB _).setCell (p := ⟨G, _, none⟩) hB _).setCell (p := ⟨G, _, none⟩) hB _
theorem Fr4.set4 {W : World} {G : Nat} {a0 a1 a2 a3 : Value} (h : Fr4 G W) : Fr4 G ((((W.setCell ⟨G, 0, none⟩ a0).setCell ⟨G, 1, none⟩ a1).setCell ⟨G, 2, none⟩ a2).setCell ⟨G, 3, none⟩ a3) := by
  obtain ⟨u0, y0⟩ := h 0 (by omega)
  obtain ⟨u1, y1⟩ := h 1 (by omega)
  obtain ⟨u2, y2⟩ := h 2 (by omega)
  obtain ⟨u3, y3⟩ := h 3 (by omega)
  obtain ⟨W', hW, q0, q1, q2, q3, -⟩ := set4o W G 0 a0 a1 a2 a3 y0 y1 y2 y3
  simp only [Nat.zero_add] at hW q1 q2 q3
  rw [hW]
  intro j hj
  match j, hj with
  | 0, _ => exact ⟨_, q0⟩
  | 1, _ => exact ⟨_, q1⟩
  | 2, _ => exact ⟨_, q2⟩
  | 3, _ => exact ⟨_, q3⟩
def RefAt (l : List Int) : Prop := ∀ (f : FT) (v : Value) (p : Option Addr) (c : Nat) (w0 w : World), FVal w0 f v → Below w0.heap.size w0 w → LSl w0 l (.slice p l.length c) → l.length ≤ c → c ≤ maxLen → f.size ≤ 1000000 →
  Calls Tryd.prog 27 #[v, .slice p l.length c] w fun e w' => (∃ v' er, e = .returned (.tuple #[v', .int .i64 er]) ∧ RAt w0 (f.part l) v' er) ∧ Below w.heap.size w w'
set_option maxHeartbeats 4000000 in
theorem refAt_nil : RefAt [] := by
    intro f v p c w0 w hv0 hb0 hl hc hcm hs
    have hv := FVal.below hb0 hv0
    have hvv := Lib.hid hv0
    have hb0h := Lib.hid hb0
    obtain ⟨sa, ss, rfl, ha, hss⟩ := id hv
    obtain ⟨pa, ca, rfl, -⟩ := id ha
    obtain ⟨pu, cu, rfl, -⟩ := id hss
    obtain ⟨W2, hW2, ⟨b0, b1, b2, b3, hb, hT, hU⟩, hy, hs2⟩ := two_boxes hv 25
    obtain ⟨u0, y0⟩ := hy 0 (by omega)
    obtain ⟨u1, y1⟩ := hy 1 (by omega)
    obtain ⟨u2, y2⟩ := hy 2 (by omega)
    obtain ⟨u3, y3⟩ := hy 3 (by omega)
    have z0 := y0.1
    have z1 := y1.1
    have z2 := y2.1
    have z3 := y3.1
    have f0 := y0.2
    have f1 := y1.2
    have f2 := y2.2
    have f3 := y3.2
    have hTh := Lib.hid hT
    have hUh := Lib.hid hU
    have hbh := Lib.hid hb
    have h0 : (((([] : List Int).length : Nat) : Int) == 0) = true := rfl
    clear hT hU hb ha hss hy hv hv0 hb0 hl
    go_enter Tryd.func27, Tryd.ntmps27
    go_wp2_with fail
    obtain ⟨W7, hW7, q0, q1, q2, q3, hfar7, hbel7, hs7⟩ := set4o W2 (w.heap.size + 1) 0 (.int .u8 f.op) (.string f.n) (.slice pa f.ts.len ca) (.slice pu f.sub.len cu) y0 (by simpa using y1) (by simpa using y2) (by simpa using y3)
    simp only [Nat.zero_add] at hW7 q1 q2 q3
    rw [hW7]
    have hb7 := hbel7 _ _ hbh.out (by omega)
    refine bodyPost_ret (v := .tuple #[fval f (.slice pa f.ts.len ca) (.slice pu f.sub.len cu), .int .i64 0]) ?_ rfl ⟨⟨_, _, rfl, hvv.out, rfl⟩, hb7⟩
    simp [results, Tryd.results27, go_sem, q0.1, q1.1, q2.1, q3.1]
set_option maxHeartbeats 4000000 in
theorem refAt_cons (i : Int) (l : List Int) (ih : RefAt l) : RefAt (i :: l) := by
    intro f v p c w0 w hv0 hb0 hl hc hcm hs
    have hv := FVal.below hb0 hv0
    have hvv := Lib.hid hv0
    have hb0h := Lib.hid hb0
    obtain ⟨sa, ss, rfl, ha, hss⟩ := id hv0
    obtain ⟨pa, ca, rfl, -⟩ := id ha
    obtain ⟨pu, cu, bu, ou, rfl, hpu, hfu⟩ := FSl.opened hss
    obtain ⟨W2, hW2, ⟨b0, b1, b2, b3, hb, hT, hU⟩, hy, hs2⟩ := two_boxes hv 25
    obtain ⟨pl, cl, hse, hl0 | ⟨bl, ol, hpl, hx, hat⟩⟩ := hl
    · simp at hl0
    obtain ⟨rfl, -, rfl⟩ : p = pl ∧ True ∧ c = cl := by simp at hse; exact ⟨hse.1, trivial, hse.2⟩
    subst hpl
    have x0 := cell_below (bel_step hb0 hb) hx
    have hx0h := Lib.hid hx
    have hat0h := Lib.hid hat
    obtain ⟨n, hn⟩ : ∃ n, l.length = n := ⟨_, rfl⟩
    have hlen : (i :: l).length = n + 1 := by simp [hn]
    rw [hlen] at hc ⊢
    have h0 : (((n + 1 : Nat) : Int) == 0) = false := beq_eq_false_iff_ne.2 (by omega)
    have hbh := Lib.hid hb
    have hnh := Lib.hid hn
    have hyh := Lib.hid hy
    have hUh := Lib.hid hU
    clear hse hn hlen hat hx hv hv0 hb0 ha hss hT hU hb hy
    go_enter Tryd.func27, Tryd.ntmps27
    have tail_none : f.part (i :: l) = none → i < 0 ∨ (f.sub.len : Int) ≤ i → True := fun _ _ => trivial
    by_cases h1 : i < 0
    · have hp := Lib.hid (show f.part (i :: l) = none by rw [FT.part, if_neg (by omega)])
      obtain ⟨u0, y0⟩ := hyh.out 0 (by omega)
      obtain ⟨u1, y1⟩ := hyh.out 1 (by omega)
      obtain ⟨u2, y2⟩ := hyh.out 2 (by omega)
      obtain ⟨u3, y3⟩ := hyh.out 3 (by omega)
      have z0 := y0.1
      have z1 := y1.1
      have z2 := y2.1
      have z3 := y3.1
      have f0 := y0.2
      have f1 := y1.2
      have f2 := y2.2
      have f3 := y3.2
      go_wp2_with fail
      go_quiet (fail)
      go_wp2_with fail
      obtain ⟨W7, hW7, q0, q1, q2, q3, -, hbel7, -⟩ := set4o (W2.drewN nq) (w.heap.size + 1) 0 (.int .u8 0) (.string ⟨#[]⟩) (.slice none 0 0) (.slice none 0 0) y0 y1 y2 y3
      simp only [Nat.zero_add] at hW7 q1 q2 q3
      rw [hW7]
      refine bodyPost_ret (v := .tuple #[fval ⟨0, ⟨#[]⟩, .nil, .nil⟩ (.slice none 0 0) (.slice none 0 0), .int .i64 6]) ?_ rfl ⟨⟨_, _, rfl, by rw [hp.out]; exact ⟨rfl, rfl⟩⟩, hbel7 _ _ (bel_drewR hbh.out nq) (by omega)⟩
      simp [results, Tryd.results27, go_sem, q0.1, q1.1, q2.1, q3.1]
    by_cases h2 : (f.sub.len : Int) ≤ i
    · have hp := Lib.hid (show f.part (i :: l) = none by rw [FT.part, if_neg (by omega)])
      obtain ⟨u0, y0⟩ := hyh.out 0 (by omega)
      obtain ⟨u1, y1⟩ := hyh.out 1 (by omega)
      obtain ⟨u2, y2⟩ := hyh.out 2 (by omega)
      obtain ⟨u3, y3⟩ := hyh.out 3 (by omega)
      have z0 := y0.1
      have z1 := y1.1
      have z2 := y2.1
      have z3 := y3.1
      have f0 := y0.2
      have f1 := y1.2
      have f2 := y2.2
      have f3 := y3.2
      go_wp2_with fail
      go_quiet (fail)
      go_wp2_with fail
      obtain ⟨W7, hW7, q0, q1, q2, q3, -, hbel7, -⟩ := set4o (W2.drewN nq) (w.heap.size + 1) 0 (.int .u8 0) (.string ⟨#[]⟩) (.slice none 0 0) (.slice none 0 0) y0 y1 y2 y3
      simp only [Nat.zero_add] at hW7 q1 q2 q3
      rw [hW7]
      refine bodyPost_ret (v := .tuple #[fval ⟨0, ⟨#[]⟩, .nil, .nil⟩ (.slice none 0 0) (.slice none 0 0), .int .i64 6]) ?_ rfl ⟨⟨_, _, rfl, by rw [hp.out]; exact ⟨rfl, rfl⟩⟩, hbel7 _ _ (bel_drewR hbh.out nq) (by omega)⟩
      simp [results, Tryd.results27, go_sem, q0.1, q1.1, q2.1, q3.1]
    obtain ⟨k, hk⟩ : ∃ k : Nat, i = (k : Int) := ⟨i.toNat, by omega⟩
    have hkl : k < f.sub.len := by omega
    have hp := Lib.hid (show f.part (i :: l) = (f.sub.get k).part l by rw [FT.part, if_pos (by omega), hk]; rfl)
    subst hk
    obtain rfl : pu = some ⟨bu, ou, none⟩ := hpu.resolve_left (by omega)
    go_wp2_with fail
    go_quiet (fail)
    go_wp2_with fail
    obtain ⟨V, hV⟩ : ∃ V, W2.drewN nq = V := ⟨_, rfl⟩
    have hfa := hfu.get (k := k) hkl
    obtain ⟨fk, hfk⟩ : ∃ fk, f.sub.get k = fk := ⟨_, rfl⟩
    have hsk : fk.size ≤ 1000000 := by rw [← hfk]; have := Fs.get_size f.sub k hkl; have h3 : f.size = f.ts.size + f.sub.size + 1 := rfl; omega
    rw [hfk] at hp hfa
    clear hfk hfu
    have hbV : Below w.heap.size w V := by rw [← hV]; exact bel_drewR hbh.out nq
    have hbV0 := bel_step hb0h.out hbV
    have hle0 : w0.heap.size ≤ w.heap.size := hb0h.out.size
    obtain ⟨e0, e1, ⟨s2, e2, e2s⟩, ⟨s3, e3, e3s⟩⟩ := hfa
    have hfkvh := Lib.hid (show FVal w0 fk (fval fk s2 s3) from ⟨_, _, rfl, e2s, e3s⟩)
    have he0h := Lib.hid e0
    obtain ⟨p2, c2, rfl, -⟩ := e2s
    obtain ⟨p3, c3, rfl, -⟩ := e3s
    replace e0 := cell_below hbV0 e0
    replace e1 := cell_below hbV0 e1
    replace e2 := cell_below hbV0 e2
    replace e3 := cell_below hbV0 e3
    have g3 : V.cell? ⟨w.heap.size, 3, none⟩ = some (.slice (some ⟨bu, ou, none⟩) f.sub.len cu) := by rw [← hV]; exact b3
    have gx : V.cell? ⟨bl, ol, none⟩ = some (.int .i64 k) := by rw [← hV]; exact x0
    have hsV : V.heap.size = w.heap.size + 2 := by rw [← hV]; exact hs2
    have hyV : Hid (∀ j, j < 4 → ∃ u, Wc V (w.heap.size + 1) j u) := by rw [← hV]; exact hyh
    have hc' : n ≤ c - 1 := by omega
    obtain ⟨qo, hqo, hqa⟩ : ∃ qo, (if c = 1 then some (⟨bl, ol, none⟩ : Addr) else some ⟨bl, ol + 1, none⟩) = some ⟨bl, qo, none⟩ ∧ (n = 0 ∨ qo = ol + 1) := by
      by_cases e : c = 1
      · exact ⟨ol, by rw [if_pos e], .inl (by omega)⟩
      · exact ⟨ol + 1, by rw [if_neg e], .inr rfl⟩
    have hl1 : (1 : Int) ≤ (n : Int) + 1 := by omega
    have hl2 : (n : Int) + 1 ≤ (c : Int) := by omega
    have hih : Hid (∀ W, (W.cell? ⟨w.heap.size, 3, none⟩ = some (.slice (some ⟨bu, ou, none⟩) f.sub.len cu) ∧ W.cell? ⟨bl, ol, none⟩ = some (.int .i64 k) ∧ W.cell? ⟨bu, ou + k * 4, none⟩ = some (.int .u8 fk.op) ∧ W.cell? ⟨bu, ou + k * 4 + 1, none⟩ = some (.string fk.n) ∧ W.cell? ⟨bu, ou + k * 4 + 2, none⟩ = some (.slice p2 fk.ts.len c2) ∧ W.cell? ⟨bu, ou + k * 4 + 3, none⟩ = some (.slice p3 fk.sub.len c3) ∧ Below w.heap.size w W ∧ Fr4 (w.heap.size + 1) W) → Calls Tryd.prog 27 #[fval fk (.slice p2 fk.ts.len c2) (.slice p3 fk.sub.len c3), .slice (some ⟨bl, qo, none⟩) n (c - 1)] W fun e w' => (∃ op nm q1 n1 c1 q2 n2 c2 er, e = .returned (.tuple #[.agg #[.int .u8 op, .string nm, .slice q1 n1 c1, .slice q2 n2 c2], .int .i64 er]) ∧ RAt w0 (fk.part l) (.agg #[.int .u8 op, .string nm, .slice q1 n1 c1, .slice q2 n2 c2]) er) ∧
      (∃ u0 u1 u2 u3, Wc w' (w.heap.size + 1) 0 u0 ∧ Wc w' (w.heap.size + 1) 1 u1 ∧ Wc w' (w.heap.size + 1) 2 u2 ∧ Wc w' (w.heap.size + 1) 3 u3) ∧ (w'.cell? ⟨w.heap.size, 3, none⟩ = some (.slice (some ⟨bu, ou, none⟩) f.sub.len cu) ∧ w'.cell? ⟨bl, ol, none⟩ = some (.int .i64 k) ∧ w'.cell? ⟨bu, ou + k * 4, none⟩ = some (.int .u8 fk.op) ∧ w'.cell? ⟨bu, ou + k * 4 + 1, none⟩ = some (.string fk.n) ∧ w'.cell? ⟨bu, ou + k * 4 + 2, none⟩ = some (.slice p2 fk.ts.len c2) ∧ w'.cell? ⟨bu, ou + k * 4 + 3, none⟩ = some (.slice p3 fk.sub.len c3) ∧ Below w.heap.size w w' ∧ Fr4 (w.heap.size + 1) w')) :=
      Lib.hid (fun W hWW => by
        have hW := hWW.2.2.2.2.2.2.1
        obtain ⟨u0, y0⟩ := hWW.2.2.2.2.2.2.2 0 (by omega)
        obtain ⟨u1, y1⟩ := hWW.2.2.2.2.2.2.2 1 (by omega)
        obtain ⟨u2, y2⟩ := hWW.2.2.2.2.2.2.2 2 (by omega)
        obtain ⟨u3, y3⟩ := hWW.2.2.2.2.2.2.2 3 (by omega)
        have h1 : LSl w0 l (.slice (some ⟨bl, qo, none⟩) l.length (c - 1)) := ⟨_, _, rfl, by
          rcases hqa with h0 | h0
          · exact .inl (by rw [hnh.out]; exact h0)
          · exact .inr ⟨_, _, rfl, by rw [h0]; exact hat0h.out⟩⟩
        have h2 := ih fk _ (some ⟨bl, qo, none⟩) (c - 1) w0 W hfkvh.out (bel_step hb0h.out hW) h1 (by rw [hnh.out]; omega) (by omega) hsk
        rw [hnh.out] at h2
        refine h2.mono ?_
        rintro e w' ⟨⟨v', er, he, hr⟩, hb⟩
        obtain ⟨op, nm, q1, n1, c1, q2, n2, c2, rfl⟩ := RAt.spelt hr
        exact ⟨⟨_, _, _, _, _, _, _, _, _, he, hr⟩, ⟨_, _, _, _, y0.below hb, y1.below hb, y2.below hb, y3.below hb⟩, cell_below hb hWW.1, cell_below hb hWW.2.1, cell_below hb hWW.2.2.1, cell_below hb hWW.2.2.2.1, cell_below hb hWW.2.2.2.2.1, cell_below hb hWW.2.2.2.2.2.1, bel_step hW hb, fun j hj => (hWW.2.2.2.2.2.2.2 j hj).imp fun _ h => h.below hb⟩)
    clear hqa
    clear ih hfkvh hyh hbh hnh hat0h hb0h hbV0 b0 b1 b2 b3 x0 hs2
    have hcells : V.drew.cell? ⟨w.heap.size, 3, none⟩ = some (.slice (some ⟨bu, ou, none⟩) f.sub.len cu) ∧ V.drew.cell? ⟨bl, ol, none⟩ = some (.int .i64 k) ∧ V.drew.cell? ⟨bu, ou + k * 4, none⟩ = some (.int .u8 fk.op) ∧ V.drew.cell? ⟨bu, ou + k * 4 + 1, none⟩ = some (.string fk.n) ∧ V.drew.cell? ⟨bu, ou + k * 4 + 2, none⟩ = some (.slice p2 fk.ts.len c2) ∧ V.drew.cell? ⟨bu, ou + k * 4 + 3, none⟩ = some (.slice p3 fk.sub.len c3) ∧ Below w.heap.size w V.drew ∧ Fr4 (w.heap.size + 1) V.drew := ⟨g3, gx, e0, e1, e2, e3, hbV.drew, hyV.out⟩
    have hxl : bl ≠ w.heap.size + 1 ∧ bu ≠ w.heap.size + 1 := by have := lt_of_cell hx0h.out; have := lt_of_cell he0h.out; omega
    obtain ⟨hxl1, hxl2⟩ := hxl
    rw [hV]
    clear hV hyV hbV hx0h he0h
    go_region_held3 (fun W => W.cell? ⟨w.heap.size, 3, none⟩ = some (.slice (some ⟨bu, ou, none⟩) f.sub.len cu) ∧ W.cell? ⟨bl, ol, none⟩ = some (.int .i64 k) ∧ W.cell? ⟨bu, ou + k * 4, none⟩ = some (.int .u8 fk.op) ∧ W.cell? ⟨bu, ou + k * 4 + 1, none⟩ = some (.string fk.n) ∧ W.cell? ⟨bu, ou + k * 4 + 2, none⟩ = some (.slice p2 fk.ts.len c2) ∧ W.cell? ⟨bu, ou + k * 4 + 3, none⟩ = some (.slice p3 fk.sub.len c3) ∧ Below w.heap.size w W ∧ Fr4 (w.heap.size + 1) W)
      (first
        | (with_reducible assumption)
        | (with_reducible exact hcells)
        | (exact ⟨keep4 hSS.1 (by omega), keep4 hSS.2.1 hxl1, keep4 hSS.2.2.1 hxl2, keep4 hSS.2.2.2.1 hxl2, keep4 hSS.2.2.2.2.1 hxl2, keep4 hSS.2.2.2.2.2.1 hxl2, below4 hSS.2.2.2.2.2.2.1 (by omega), Fr4.set4 hSS.2.2.2.2.2.2.2⟩))
      (first
        | (go_at_call 27; (with_reducible refine (hih.out _ (by assumption)).mono ?_); rintro e w' ⟨⟨op, nm, q1, n1, c1, q2, n2, c2, er, rfl, hres⟩, ⟨u0, u1, u2, u3, ⟨z0, f0⟩, ⟨z1, f1⟩, ⟨z2, f2⟩, ⟨z3, f3⟩⟩, hSS⟩))
    obtain ⟨W7, hW7, r0, r1, r2, r3, -, hbel7, -⟩ := set4o w' (w.heap.size + 1) 0 (.int .u8 op) (.string nm) (.slice q1 n1 c1) (.slice q2 n2 c2) ⟨z0, f0⟩ ⟨z1, f1⟩ ⟨z2, f2⟩ ⟨z3, f3⟩
    simp only [Nat.zero_add] at hW7 r1 r2 r3
    have hres7 := Lib.hid hres
    have hb7 := Lib.hid (hbel7 _ _ hSS.2.2.2.2.2.2.1 (by omega))
    rw [hW7]
    clear hW7 hbel7 hres z0 z1 z2 z3 f0 f1 f2 f3 hih hcells
    go_wp2_with fail
    refine bodyPost_ret (v := .tuple #[.agg #[.int .u8 op, .string nm, .slice q1 n1 c1, .slice q2 n2 c2], .int .i64 er]) ?_ rfl ⟨⟨_, _, rfl, by rw [hp.out]; exact hres7.out⟩, hb7.out⟩
    simp [results, Tryd.results27, go_sem, r0.1, r1.1, r2.1, r3.1]
theorem refAt_any : ∀ l : List Int, RefAt l
  | [] => refAt_nil
  | i :: l => refAt_cons i l (refAt_any l)
end Go.Proofs.YtngdieldgnlogaaDoor
