/- The listed variable 'steps' reads as its datum, so its nine cells hold the six numbers and the three shifts; and what the door's run leaves meets that. -/
import Derived.Test.YthalafjbkmemhaaDoorX8
import Derived.Test.YthalafjbkmemhaaDoorTie
import Derived.Test.YthalafjbkmemhaaDoorCards
import Derived.ProofKit
import Derived.OpenShut
import Derived.ShutString
import Derived.LaidMore
import Derived.Stop.Joined
import Derived.SevenTiedAt
import Derived.Deep.Strs
import Derived.ChangeOld
import Derived.Below
namespace Go.Proofs.YthalafjbkmemhaaDoor
open Go.ChangeShapes Go.WideShapes Go.ChangeAt Go.RowKit
set_option maxRecDepth 100000
theorem own : ownKnob Tryd.prog.godebug = none := by kernel_rfl
theorem laidOut : laidOutB Tryd.prog = true := by kernel_rfl
/-- A slice of integers that came in: nil, or a row of cap cells with the numbers zs. -/
def IsRow (k : IntKind) (w : World) (a : Option Addr) (len cap : Nat) (zs : List Int) : Prop :=
  (a = none ∧ len = 0 ∧ cap = 0 ∧ zs = []) ∨
  ∃ x, a = some x ∧ len ≤ cap ∧ cap ≤ maxLen ∧ zs.length = cap ∧ (∀ i, i < zs.length → w.cell? (x.add i) = some (.int k (zs.getD i 0))) ∧ ∀ n ∈ zs, (Lit.int k n).wf = true
def laid1 : List (String × DataW Unit) := [("lyceum/seed.steps", Rows.laid_lyceum_seed_steps)]
theorem gSteps : Tryd.prog.globalNamed "lyceum/seed.steps" = some 0 := by kernel_rfl
theorem tSteps : (Tryd.prog.globals[0]?).map (·.type) = some 69 := by kernel_rfl
theorem bytes3 : Tryd.prog.bytesOf 3 = 8 := by kernel_rfl
theorem bytes5 : Tryd.prog.bytesOf 5 = 1 := by kernel_rfl
theorem cells3 : Tryd.prog.cellsOf 3 = 1 := by kernel_rfl
theorem cells22 : Tryd.prog.cellsOf 22 = 1 := by kernel_rfl
theorem cells68 : Tryd.prog.cellsOf 68 = 3 := by kernel_rfl
theorem cells69 : Tryd.prog.cellsOf 69 = 9 := by kernel_rfl
theorem door_met (os : Os) (args : Array Value) : laidMetH Tryd.prog laid1 ((World.doorLaid Tryd.prog 17 os).forCall (fun _ _ => 0) ⟨#[], args, []⟩).memory :=
  laidMetH_of_parts3 (fuel := 8) (laidMet_of_run' 8 (by kernel_rfl) (by kernel_rfl)) (by kernel_rfl) (by kernel_rfl)
theorem step_of {H : Type} {enc : TypeId × Value → H} {W : World} {base : Nat} {sp : Nat → Bool} {held : Bool} {fuel : Nat} {cs : List Value} {p : List MemPlace} {a b c : Int}
    (h : DataW.trod enc Tryd.prog W base sp held fuel 68 cs = some (.agg [.lit (.int .i64 a), .lit (.int .u64 b), .lit (.int .u64 c)], p)) : cs = [.int .i64 a, .int .u64 b, .int .u64 c] := by
  obtain ⟨xs, n, _, hx, hl, hn, hf⟩ := DataW.trod_struct Tryd.underlying68 h
  rw [cells68] at hl
  match cs, hl with
  | [c0, c1, c2], _ =>
    match xs, hn, hx, hf with
    | [x0, x1, x2], _, hx, hf =>
      have f0 := hf 0 _ rfl
      have f1 := hf 1 _ rfl
      have f2 := hf 2 _ rfl
      simp [cells3, cells22] at f0 f1 f2
      obtain ⟨n0, e0, y0, _⟩ := DataW.trod_int Tryd.underlying3 f0
      obtain ⟨n1, e1, y1, _⟩ := DataW.trod_int Tryd.underlying22 f1
      obtain ⟨n2, e2, y2, _⟩ := DataW.trod_int Tryd.underlying22 f2
      subst y0 y1 y2
      simp at hx e0 e1 e2
      obtain ⟨⟨rfl, rfl, rfl⟩, _⟩ := hx
      rw [e0, e1, e2]
theorem of_laid {W : World} (h : laidMetH Tryd.prog laid1 W) : Stp W := by
  rw [MakeChecks.laidMetH_plain _ _ _ (by kernel_rfl)] at h
  obtain ⟨ps, ⟨g0, t0, cs0, f0, p0, q0, hg0, ht0, hv0, hd0, _, _⟩, _, _⟩ := h
  obtain rfl := Option.some.inj (gSteps.symm.trans hg0)
  obtain rfl := Option.some.inj (tSteps.symm.trans ht0)
  obtain ⟨xs, m, _, hx, hl, hn, hel⟩ := DataW.trod_array Tryd.underlying69 hd0
  rw [cells69] at hl
  have e0 := hel 0 (by decide)
  have e1 := hel 1 (by decide)
  have e2 := hel 2 (by decide)
  obtain ⟨l⟩ := cs0
  match l, hl with
  | [c0, c1, c2, c3, c4, c5, c6, c7, c8], _ =>
    match xs, hn, hx, e0, e1, e2 with
    | [(x0, r0), (x1, r1), (x2, r2)], _, hx, e0, e1, e2 =>
      simp [cells68] at e0 e1 e2
      simp [Rows.laid_lyceum_seed_steps] at hx
      obtain ⟨⟨rfl, rfl, rfl⟩, _⟩ := hx
      have s0 := step_of e0
      have s1 := step_of e1
      have s2 := step_of e2
      simp at s0 s1 s2
      obtain ⟨rfl, rfl, rfl⟩ := s0
      obtain ⟨rfl, rfl, rfl⟩ := s1
      obtain ⟨rfl, rfl, rfl⟩ := s2
      unfold World.var? at hv0
      rw [gSteps] at hv0
      simp only [Option.bind_some] at hv0
      split at hv0
      · rename_i cs t fr hh
        cases hv0
        exact ⟨t, fr, hh⟩
      · cases hv0
end Go.Proofs.YthalafjbkmemhaaDoor
