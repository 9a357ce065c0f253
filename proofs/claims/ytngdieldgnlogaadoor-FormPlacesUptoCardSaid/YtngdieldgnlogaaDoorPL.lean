/- The walk of places. -/
import Derived.Test.YtngdieldgnlogaaDoorRW
import Derived.Test.YtngdieldgnlogaaDoorOW
import Derived.Test.YtngdieldgnlogaaDoorAS
import Derived.Test.YtngdieldgnlogaaDoorD6
import Derived.Test.YtngdieldgnlogaaDoorD4
import Derived.Test.YtngdieldgnlogaaDoorUP
import Derived.Test.YtngdieldgnlogaaDoorFR
namespace Go.Proofs.YtngdieldgnlogaaDoor
open Go Go.RowKit
set_option maxRecDepth 100000
set_option linter.unusedVariables false
def gt (r : Option FT) : FT := r.getD zF
def ec (r : Option FT) : Int := if r.isSome then 0 else 6
theorem zero_sp (W : World) (S : Nat → Prop) : FVSp W zF (fval zF (.slice none 0 0) (.slice none 0 0)) S :=
  ⟨_, _, fun _ => False, fun _ => False, rfl, fun _ h => h.elim, fun _ h => h.elim, ⟨none, 0, rfl, .inl rfl⟩, ⟨none, 0, rfl, .inl rfl⟩⟩
theorem FVSp.spelt {W : World} {g : FT} {v : Value} {S : Nat → Prop} (h : FVSp W g v S) : ∃ p n p' n', v = fval g (.slice p g.ts.len n) (.slice p' g.sub.len n') := by
  obtain ⟨sa, ss, S1, S2, rfl, -, -, ⟨p, c, rfl, -⟩, ⟨p', c', rfl, -⟩⟩ := h
  exact ⟨_, _, _, _, rfl⟩
theorem FVal.spelt {W : World} {g : FT} {v : Value} (h : FVal W g v) : ∃ p n p' n', v = fval g (.slice p g.ts.len n) (.slice p' g.sub.len n') := by
  obtain ⟨sa, ss, rfl, ⟨p, c, rfl, -⟩, ⟨p', c', rfl, -⟩⟩ := h
  exact ⟨_, _, _, _, rfl⟩
theorem at_u (f : FT) (l : List Int) (v sl : Value) (w : World) (hv : FVal w f v) (hl : LSl w l sl) (hn : l.length ≤ 1000000) (hs : f.size ≤ 1000000) :
    Calls Tryd.prog 10 #[v, sl] w fun e w' => (∃ p n p' n', e = .returned (.tuple #[fval (gt (f.part l)) (.slice p (gt (f.part l)).ts.len n) (.slice p' (gt (f.part l)).sub.len n'), .int .i64 (ec (f.part l))]) ∧
      FVSp w' (gt (f.part l)) (fval (gt (f.part l)) (.slice p (gt (f.part l)).ts.len n) (.slice p' (gt (f.part l)).sub.len n')) (Rg w.heap.size w'.heap.size)) ∧ Below w.heap.size w w' :=
  (at_sp f l v sl w hv hl hn hs).mono fun e w' ⟨⟨v', er, he, hr⟩, hb⟩ => by
    cases hp : f.part l with
    | none =>
      rw [hp] at hr
      obtain ⟨rfl, rfl⟩ := hr
      exact ⟨⟨none, 0, none, 0, he, zero_sp _ _⟩, hb⟩
    | some g =>
      rw [hp] at hr
      obtain ⟨hr, rfl⟩ := hr
      obtain ⟨p, n, p', n', rfl⟩ := hr.spelt
      exact ⟨⟨p, n, p', n', he, hr⟩, hb⟩
theorem with_u (f h : FT) (l : List Int) (v vp sl : Value) (w : World) (hv : FVal w f v) (hvp : FVal w h vp) (hl : LSl w l sl) (hn : l.length ≤ 1000000) (hs : f.size ≤ 1000000) (hs' : h.size ≤ 1000000) :
    Calls Tryd.prog 11 #[v, sl, vp] w fun e w' => (∃ p n p' n', e = .returned (.tuple #[fval (gt (f.put l h)) (.slice p (gt (f.put l h)).ts.len n) (.slice p' (gt (f.put l h)).sub.len n'), .int .i64 (ec (f.put l h))]) ∧
      FVSp w' (gt (f.put l h)) (fval (gt (f.put l h)) (.slice p (gt (f.put l h)).ts.len n) (.slice p' (gt (f.put l h)).sub.len n')) (Rg w.heap.size w'.heap.size)) ∧ Below w.heap.size w w' :=
  (with_any f h l v vp sl w hv hvp hl hn hs hs').mono fun e w' ⟨⟨v', er, he, hr⟩, hb⟩ => by
    cases hp : f.put l h with
    | none =>
      rw [hp] at hr
      obtain ⟨rfl, rfl⟩ := hr
      exact ⟨⟨none, 0, none, 0, he, zero_sp _ _⟩, hb⟩
    | some g =>
      rw [hp] at hr
      obtain ⟨hr, rfl⟩ := hr
      obtain ⟨p, n, p', n', rfl⟩ := hr.spelt
      exact ⟨⟨p, n, p', n', he, hr⟩, hb⟩
theorem RAt.u {W : World} {r : Option FT} {v : Value} {e : Int} (h : RAt W r v e) : FVal W (gt r) v ∧ e = ec r := by
  cases r with
  | none =>
    obtain ⟨rfl, rfl⟩ := h
    exact ⟨(zero_sp W (fun _ => False)).at, rfl⟩
  | some g => exact ⟨h.1, h.2⟩
theorem rat_u (f : FT) (l : List Int) (v : Value) (p : Option Addr) (c : Nat) (w : World) (hv : FVal w f v) (hl : LSl w l (.slice p l.length c)) (hc : l.length ≤ c) (hcm : c ≤ maxLen) (hs : f.size ≤ 1000000) :
    Calls Tryd.prog 27 #[v, .slice p l.length c] w fun e w' => (∃ p n p' n', e = .returned (.tuple #[fval (gt (f.part l)) (.slice p (gt (f.part l)).ts.len n) (.slice p' (gt (f.part l)).sub.len n'), .int .i64 (ec (f.part l))]) ∧
      FVal w' (gt (f.part l)) (fval (gt (f.part l)) (.slice p (gt (f.part l)).ts.len n) (.slice p' (gt (f.part l)).sub.len n'))) ∧ Below w.heap.size w w' :=
  (refAt_any l f v p c w w hv (Below.refl _ _) hl hc hcm hs).mono fun e w' ⟨⟨v', er, he, hr⟩, hb⟩ => by
    obtain ⟨h1, rfl⟩ := hr.u
    obtain ⟨p, n, p', n', rfl⟩ := h1.spelt
    exact ⟨⟨p, n, p', n', he, FVal.below hb h1⟩, hb⟩
theorem rw_u (f h : FT) (l : List Int) (v vp : Value) (p : Option Addr) (c : Nat) (w : World) (hv : FVal w f v) (hvp : FVal w h vp) (hl : LSl w l (.slice p l.length c)) (hc : l.length ≤ c) (hcm : c ≤ maxLen) (hs : f.size ≤ 1000000) :
    Calls Tryd.prog 28 #[v, .slice p l.length c, vp] w fun e w' => (∃ p n p' n', e = .returned (.tuple #[fval (gt (f.put l h)) (.slice p (gt (f.put l h)).ts.len n) (.slice p' (gt (f.put l h)).sub.len n'), .int .i64 (ec (f.put l h))]) ∧
      FVal w' (gt (f.put l h)) (fval (gt (f.put l h)) (.slice p (gt (f.put l h)).ts.len n) (.slice p' (gt (f.put l h)).sub.len n'))) ∧ Below w.heap.size w w' :=
  (refW_any l f h v vp p c w w hv hvp (Below.refl _ _) hl hc hcm hs).mono fun e w' ⟨⟨v', er, he, U, hr, hU⟩, hb⟩ => by
    obtain ⟨h1, rfl⟩ := hr.u
    obtain ⟨p, n, p', n', rfl⟩ := h1.spelt
    exact ⟨⟨p, n, p', n', he, FVal.ext (fun b o y hc => (hU b o y hc).1) h1⟩, hb⟩
/-- A struct variable into which a formula is stored. -/
theorem store_box {W : World} {b : Nat} {g : FT} {p q : Option Addr} {m n : Nat} (hF : Fr4' b W) : ∃ W', (Instr.storeAt 25 (.pointer (some ⟨b, 0, none⟩)) (fval g (.slice p g.ts.len m) (.slice q g.sub.len n))).run Tryd.prog W = .ok () W' ∧
    W'.cell? ⟨b, 0, none⟩ = some (.int .u8 g.op) ∧ W'.cell? ⟨b, 1, none⟩ = some (.string g.n) ∧ W'.cell? ⟨b, 2, none⟩ = some (.slice p g.ts.len m) ∧ W'.cell? ⟨b, 3, none⟩ = some (.slice q g.sub.len n) ∧
    (∀ x i v, x ≠ b → Wc W x i v → Wc W' x i v) ∧ (∀ x i v, x ≠ b → W.cell? ⟨x, i, none⟩ = some v → W'.cell? ⟨x, i, none⟩ = some v) ∧ (∀ B w0, Below B w0 W → B ≤ b → Below B w0 W') ∧ W'.heap.size = W.heap.size := by
  obtain ⟨u0, y0⟩ := hF 0 (by omega)
  obtain ⟨u1, y1⟩ := hF 1 (by omega)
  obtain ⟨u2, y2⟩ := hF 2 (by omega)
  obtain ⟨u3, y3⟩ := hF 3 (by omega)
  obtain ⟨W', hW, q0, q1, q2, q3, hfar, hbel, hs⟩ := set4o W b 0 (.int .u8 g.op) (.string g.n) (.slice p g.ts.len m) (.slice q g.sub.len n) y0 y1 y2 y3
  simp only [Nat.zero_add] at hW q1 q2 q3
  have hcell : ∀ x i v, x ≠ b → W.cell? ⟨x, i, none⟩ = some v → W'.cell? ⟨x, i, none⟩ = some v := fun x i v hx hc => by
    rw [← hW, set_off (.inl hx), set_off (.inl hx), set_off (.inl hx), set_off (.inl hx)]; exact hc
  refine ⟨W', ?_, q0.1, q1.1, q2.1, q3.1, fun x i v hx hc => hfar x i v (fun h => hx h.1) hc, hcell, hbel, hs⟩
  have z0 := y0.1
  have z1 := y1.1
  have z2 := y2.1
  have z3 := y3.1
  have f0 := y0.2
  have f1 := y1.2
  have f2 := y2.2
  have f3 := y3.2
  simp [Instr.storeAt, go_sem, z0, z1, z2, z3, f0, f1, f2, f3, hW]
/-- The slots of the first region. -/
def VPl (a : Act) (f h : FT) (vf vh : Value) (d : Nat) (u : Value) (W : World) : Prop :=
  if d = 17 then u = vf else if d = 18 then FVal W f u else if d = 19 then u = vh else if d = 20 then FVal W h u else if d = 7 ∨ d = 8 then True else u = a.tmps.getD d undef
theorem VPl.below {a : Act} {f h : FT} {vf vh : Value} {d : Nat} {u : Value} {A B : World} (hb : Below A.heap.size A B) (hh : VPl a f h vf vh d u A) : VPl a f h vf vh d u B := by
  unfold VPl at hh ⊢
  by_cases k1 : d = 17
  · rw [if_pos k1] at hh ⊢; exact hh
  rw [if_neg k1] at hh ⊢
  by_cases k2 : d = 18
  · rw [if_pos k2] at hh ⊢; exact FVal.below hb hh
  rw [if_neg k2] at hh ⊢
  by_cases k3 : d = 19
  · rw [if_pos k3] at hh ⊢; exact hh
  rw [if_neg k3] at hh ⊢
  by_cases k4 : d = 20
  · rw [if_pos k4] at hh ⊢; exact FVal.below hb hh
  rw [if_neg k4] at hh ⊢
  exact hh
end Go.Proofs.YtngdieldgnlogaaDoor
