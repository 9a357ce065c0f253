/- Tokens that come in. -/
import Derived.Test.YthkfkdcmnkkdhaaDoorT1
import Derived.ProofKit
import Derived.OpenShut
import Derived.ShutString
import Derived.ChangeArms
import Derived.WideShapes
namespace Go.Proofs.YthkfkdcmnkkdhaaDoor
open Go Go.RowKit Go.ChangeShapes Go.WideShapes
set_option maxRecDepth 100000
set_option linter.unusedVariables false
theorem k27 : Tryd.prog.cellsOf 27 = 3 := by kernel_rfl
theorem k5 : Tryd.prog.cellsOf 5 = 1 := by kernel_rfl
theorem k9 : Tryd.prog.cellsOf 9 = 1 := by kernel_rfl
theorem k3 : Tryd.prog.cellsOf 3 = 1 := by kernel_rfl
theorem cells_at {w : World} {base b o n : Nat} {cs : List Value} (h : w.cells? base ⟨b, o, none⟩ n = some cs) : cs.length = n ∧ ∀ j, j < n → w.cell? ⟨b, o + j, none⟩ = cs[j]? := by
  unfold World.cells? at h
  split at h
  · refine ⟨by have := mapM_some_length h; simpa using this, fun j hj => ?_⟩
    have := mapM_some_get h j j (by simp [hj])
    have e : (Addr.add ⟨b, o, none⟩ j) = ⟨b, o + j, none⟩ := by
      by_cases h0 : j = 0
      · subst h0; rfl
      · simp [Addr.add, h0]
    rw [e] at this
    exact this
  · cases h
theorem spot_none {w : World} {base n : Nat} {a : Addr} {cs : List Value} (h : w.cells? base a (n + 1) = some cs) : a = ⟨a.block, a.off, none⟩ := by
  unfold World.cells? at h
  split at h
  · have := mapM_some_get h 0 0 (by simp)
    rw [show a.add 0 = a from rfl] at this
    have hl := mapM_some_length h
    have h0 : cs[0]? = some (cs[0]'(by rw [hl]; simp)) := List.getElem?_eq_getElem _
    rw [h0] at this
    unfold World.cell? at this
    split at this
    · split at this
      · cases this
      · rename_i hs
        cases a with
        | mk b o s =>
          cases s with
          | none => rfl
          | some x => exact absurd rfl hs
    · cases this
  · cases h
theorem open_tok {H : Type} {enc : TypeId × Value → H} {w : World} {base : Nat} {sp : Nat → Bool} {held : Bool} {m : Nat} {cs : List Value} {x : DataW H × List MemPlace}
    (h : DataW.trod enc Tryd.prog w base sp held m 27 cs = some x) : ∃ t : Lx.Tok, cs = tokC t := by
  obtain ⟨xs, n, rfl, hx, hl, hn, hf⟩ := DataW.trod_struct Tryd.underlying27 h
  rw [k27] at hl
  match cs, hl with
  | [a, b, c], _ =>
    have f0 := hf 0 _ rfl
    have f1 := hf 1 _ rfl
    have f2 := hf 2 _ rfl
    simp [k5, k9, k3] at f0 f1 f2
    have g : ∀ i, i < 3 → ∃ y, xs[i]? = some y := fun i hi => ⟨xs[i]'(by rw [hn]; exact hi), List.getElem?_eq_getElem _⟩
    obtain ⟨y0, g0⟩ := g 0 (by omega)
    obtain ⟨y1, g1⟩ := g 1 (by omega)
    obtain ⟨y2, g2⟩ := g 2 (by omega)
    rw [g0] at f0
    rw [g1] at f1
    rw [g2] at f2
    obtain ⟨k, e0, -, -⟩ := DataW.trod_int Tryd.underlying5 f0
    obtain ⟨s, e1, -, -⟩ := DataW.trod_string Tryd.underlying9 f1
    obtain ⟨at', e2, -, -⟩ := DataW.trod_int Tryd.underlying3 f2
    simp at e0 e1 e2
    exact ⟨⟨k, s.data.toList, at'⟩, by rw [e0, e1, e2]; rfl⟩
/-- Tokens that come in lie somewhere. -/
theorem open_toks {H : Type} {enc : TypeId × Value → H} {w : World} {base : Nat} {sp : Nat → Bool} {held : Bool} {r : Reach} {b0 : Nat} {v : Value} {d : DataW H} {p : List MemPlace}
    (hv : Value.okWide Tryd.prog w r b0 24 v) (h : DataW.Trod enc Tryd.prog w base sp held 24 v d p) : ∃ l, TokSl w l v := by
  obtain ⟨a, len, cap, rfl⟩ := okWide_slice Tryd.underlying24 hv
  obtain ⟨fuel, hf⟩ := h
  replace hf : DataW.trod enc Tryd.prog w base sp held fuel 24 [.slice a len cap] = some (d, p) := hf
  rcases DataW.trod_slice Tryd.underlying24 hf with ⟨h0, -⟩ | ⟨a', len', cap', elems, rest, n, -, h0, -, -, -, -, hlen, hel, -, -⟩
  · simp at h0
    obtain ⟨rfl, rfl, rfl⟩ := h0
    exact ⟨[], none, 0, rfl, .inl rfl⟩
  · simp at h0
    obtain ⟨rfl, rfl, rfl⟩ := h0
    have hi : ∀ i, i < len → ∃ t : Lx.Tok, w.cells? base (a'.add (i * 3)) 3 = some (tokC t) := fun i hi => by
      have h1 := hel i hi
      rw [k27] at h1
      have h2 : elems[i]? = some elems[i] := List.getElem?_eq_getElem (by omega)
      rw [h2] at h1
      obtain ⟨cs', hc, ht⟩ := Option.bind_eq_some_iff.1 h1
      obtain ⟨t, rfl⟩ := open_tok ht
      exact ⟨t, hc⟩
    rcases Nat.eq_zero_or_pos len with rfl | hpos
    · exact ⟨[], some a', cap, rfl, .inl rfl⟩
    · obtain ⟨b, o, rfl⟩ : ∃ b o, a' = ⟨b, o, none⟩ := by
        obtain ⟨_, hc⟩ := hi 0 hpos
        rw [Nat.zero_mul, show a'.add 0 = a' from rfl] at hc
        exact ⟨_, _, spot_none hc⟩
      have hadd : ∀ i, Addr.add ⟨b, o, none⟩ i = ⟨b, o + i, none⟩ := fun i => by
        by_cases h0 : i = 0
        · subst h0; rfl
        · simp [Addr.add, h0]
      have hall : ∀ d k, k + d = len → ∃ r : List Lx.Tok, r.length = d ∧ TokAt w r b (o + k * 3) := by
        intro d
        induction d with
        | zero => exact fun k _ => ⟨[], rfl, fun i t ht => by simp at ht⟩
        | succ d ihd =>
          intro k hk
          obtain ⟨r, hr, hat⟩ := ihd (k + 1) (by omega)
          obtain ⟨t, hc⟩ := hi k (by omega)
          rw [hadd] at hc
          obtain ⟨-, hcs⟩ := cells_at hc
          refine ⟨t :: r, by simp [hr], fun i u hu => ?_⟩
          cases i with
          | zero =>
            simp at hu
            subst hu
            refine ⟨?_, ?_, ?_⟩
            · simpa [tokC] using hcs 0 (by omega)
            · simpa [tokC] using hcs 1 (by omega)
            · simpa [tokC] using hcs 2 (by omega)
          | succ i =>
            have := hat i u (by simpa using hu)
            rw [show o + (k + 1) * 3 + i * 3 = o + k * 3 + (i + 1) * 3 by omega] at this
            exact this
      obtain ⟨r, hr, hat⟩ := hall len 0 (by omega)
      exact ⟨r, some ⟨b, o, none⟩, cap, by rw [hr], .inr ⟨b, o, rfl, by simpa using hat⟩⟩
end Go.Proofs.YthkfkdcmnkkdhaaDoor
