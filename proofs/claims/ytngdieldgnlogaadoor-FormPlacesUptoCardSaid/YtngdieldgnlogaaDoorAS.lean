/- At, in blocks of its own. -/
import Derived.Test.YtngdieldgnlogaaDoorWT
namespace Go.Proofs.YtngdieldgnlogaaDoor
open Go Go.RowKit
set_option maxRecDepth 100000
set_option linter.unusedVariables false
/-- What At returns, in blocks of its own. -/
def AtSp (W : World) (lo : Nat) (r : Option FT) (v : Value) (e : Int) : Prop := match r with
  | none => v = fval ⟨0, ⟨#[]⟩, .nil, .nil⟩ (.slice none 0 0) (.slice none 0 0) ∧ e = 6
  | some g => FVSp W g v (Rg lo W.heap.size) ∧ e = 0
set_option maxHeartbeats 4000000 in
theorem at_sp (f : FT) (l : List Int) (v sl : Value) (w : World) (hv : FVal w f v) (hl : LSl w l sl) (hn : l.length ≤ 1000000) (hs : f.size ≤ 1000000) :
    Calls Tryd.prog 10 #[v, sl] w fun e w' => (∃ v' er, e = .returned (.tuple #[v', .int .i64 er]) ∧ AtSp w' w.heap.size (f.part l) v' er) ∧ Below w.heap.size w w' := by
  have hv0 := hv
  obtain ⟨sa, ss, rfl, ha, hss⟩ := hv
  obtain ⟨pa, ca, rfl, -⟩ := id ha
  obtain ⟨p, c, rfl, -⟩ := id hss
  obtain ⟨pl, cl, rfl, -⟩ := id hl
  have hst := (FS.start (t := 25) hv0).next (bel_laid _ (.cells #[.int .u8 0, .string ⟨#[]⟩, .slice none 0 0, .slice none 0 0] 25))
  have hF2 := Free.lit (w.alloc (.cells #[.int .u8 f.op, .string f.n, .slice pa f.ts.len ca, .slice p f.sub.len c] 25)) #[.int .u8 0, .string ⟨#[]⟩, .slice none 0 0, .slice none 0 0] 25
  have hl2 := LSl.below (bel_laid _ (.cells #[.int .u8 0, .string ⟨#[]⟩, .slice none 0 0, .slice none 0 0] 25)) (LSl.below (bel_laid w (.cells #[.int .u8 f.op, .string f.n, .slice pa f.ts.len ca, .slice p f.sub.len c] 25)) hl)
  have hgs : ((w.alloc (.cells #[.int .u8 f.op, .string f.n, .slice pa f.ts.len ca, .slice p f.sub.len c] 25)).alloc (.cells #[.int .u8 0, .string ⟨#[]⟩, .slice none 0 0, .slice none 0 0] 25)).heap.size = w.heap.size + 2 := by simp
  have hz0 := cell_new (w.alloc (.cells #[.int .u8 f.op, .string f.n, .slice pa f.ts.len ca, .slice p f.sub.len c] 25)) #[.int .u8 0, .string ⟨#[]⟩, .slice none 0 0, .slice none 0 0] 25
  rw [World.size_alloc] at hF2 hz0
  clear hv0 ha hss hl
  obtain ⟨res, hres⟩ : ∃ res, f.part l = res := ⟨_, rfl⟩
  have hsz : ∀ g, res = some g → g.size ≤ 1000000 := fun g hg => Nat.le_trans (Fs.part_size l f g (hres.trans hg)) hs
  have HFd := Lib.hid (fun V (hV : FAt V f w.heap.size 0) hl => find_any f l w.heap.size 0 (.slice pl l.length cl) V hV hl hn)
  rw [hres] at HFd ⊢
  clear hres
  go_enter Tryd.func10, Tryd.ntmps10
  go_wp2_with fail
  generalize (w.alloc (.cells #[.int .u8 f.op, .string f.n, .slice pa f.ts.len ca, .slice p f.sub.len c] 25)).alloc (.cells #[.int .u8 0, .string ⟨#[]⟩, .slice none 0 0, .slice none 0 0] 25) = W2 at hst hF2 hl2 hgs hz0 ⊢
  refine (HFd.out W2 ⟨hst.1, hst.2.1, ⟨_, hst.2.2.1, hst.2.2.2.2.2.1⟩, ⟨_, hst.2.2.2.1, hst.2.2.2.2.2.2⟩⟩ hl2).mono ?_
  rintro e W3 ⟨⟨vp, rfl, hfound⟩, rfl⟩
  have hbel := hst.2.2.2.2.1
  clear HFd hst hl2
  obtain ⟨g, hg⟩ : ∃ g, w.heap.size = g := ⟨_, rfl⟩
  rw [hg] at hF2 hgs hz0 ⊢
  cases res with
  | none =>
    obtain rfl : vp = .pointer none := hfound
    obtain ⟨⟨x0, y0⟩, z0⟩ := hF2 0 (by simp)
    obtain ⟨⟨x1, y1⟩, z1⟩ := hF2 1 (by simp)
    obtain ⟨⟨x2, y2⟩, z2⟩ := hF2 2 (by simp)
    obtain ⟨⟨x3, y3⟩, z3⟩ := hF2 3 (by simp)
    clear hF2 hz0
    go_wp2_with fail
    obtain ⟨W5, hW5, e0, e1, e2, e3, hfar, hbl⟩ := set4 W2 (g + 1) (.int .u8 0) (.string ⟨#[]⟩) (.slice none 0 0) (.slice none 0 0) y0 y1 y2 y3
    rw [hW5]
    refine bodyPost_ret (v := .tuple #[fval ⟨0, ⟨#[]⟩, .nil, .nil⟩ (.slice none 0 0) (.slice none 0 0), .int .i64 6]) ?_ rfl ⟨⟨_, _, rfl, rfl, rfl⟩, hbl _ _ hbel (by omega)⟩
    simp [results, Tryd.results10, go_sem, e0, e1, e2, e3]
  | some ft =>
    obtain ⟨b, o, rfl, hft⟩ := hfound
    obtain ⟨sx, sy, m2, m3, hfv⟩ := hft.val
    obtain ⟨m0, m1, -, -⟩ := hft
    have HC := Lib.hid (copy_sp ft _ W2 hfv (hsz ft rfl))
    clear hfv
    go_wp2_with fail
    refine HC.out.mono ?_
    rintro e W4 ⟨v', rfl, hsp, hb4⟩
    rw [hgs] at hsp
    obtain ⟨s1, s2, A1, A2, rfl, hA1, hA2, hown1, hown2⟩ := hsp
    replace hF2 := hF2.below hb4
    have hb5 := bel_step hbel hb4
    clear hb4 HC m0 m1 m2 m3 hz0
    obtain ⟨p1, c1, hse, -⟩ := id hown1
    subst hse
    obtain ⟨p2, c2, hse, -⟩ := id hown2
    subst hse
    obtain ⟨⟨x0, y0⟩, z0⟩ := hF2 0 (by simp)
    obtain ⟨⟨x1, y1⟩, z1⟩ := hF2 1 (by simp)
    obtain ⟨⟨x2, y2⟩, z2⟩ := hF2 2 (by simp)
    obtain ⟨⟨x3, y3⟩, z3⟩ := hF2 3 (by simp)
    have hown1h := Lib.hid hown1
    have hown2h := Lib.hid hown2
    clear hF2 hown1 hown2
    go_wp2_with fail
    obtain ⟨W5, hW5, q0, q1, q2, q3, hfar, hbl, hs5⟩ := set4o W4 (g + 1) 0 (.int .u8 ft.op) (.string ft.n) (.slice p1 ft.ts.len c1) (.slice p2 ft.sub.len c2) ⟨y0, z0⟩ ⟨y1, z1⟩ ⟨y2, z2⟩ ⟨y3, z3⟩
    simp only [Nat.zero_add] at hW5 q1 q2 q3
    have e0 := q0.1
    have e1 := q1.1
    have e2 := q2.1
    have e3 := q3.1
    rw [hW5]
    have hown : FVSp W5 ft (fval ft (.slice p1 ft.ts.len c1) (.slice p2 ft.sub.len c2)) (Rg w.heap.size W5.heap.size) :=
      ⟨_, _, A1, A2, rfl, fun x hx => ⟨by have := (hA1 x hx).1; omega, by have := (hA1 x hx).2; omega⟩, fun x hx => ⟨⟨by have := (hA2 x hx).1.1; omega, by have := (hA2 x hx).1.2; omega⟩, (hA2 x hx).2⟩,
        TSp.keep (fun x i v hx hc => hfar x i v (by have := (hA1 x hx).1; omega) hc) hown1h.out, FSp.keep (fun x i v hx hc => hfar x i v (by have := (hA2 x hx).1.1; omega) hc) hown2h.out⟩
    refine bodyPost_ret (v := .tuple #[fval ft (.slice p1 ft.ts.len c1) (.slice p2 ft.sub.len c2), .int .i64 0]) ?_ rfl ⟨⟨_, _, rfl, hown, rfl⟩, hbl _ _ hb5 (by omega)⟩
    simp [results, Tryd.results10, go_sem, e0, e1, e2, e3]
end Go.Proofs.YtngdieldgnlogaaDoor
