/- The faults that append, in memory. -/
import Derived.Test.YtngdieldgnlogaaDoorDV
import Derived.Deep.AppendLies
namespace Go.Proofs.YtngdieldgnlogaaDoor
open Go Go.RowKit
set_option maxRecDepth 100000
set_option linter.unusedVariables false
theorem TRow.app {W : World} {lo : Nat} {s : Value} {r : Ts} {ys : List Value} (hr : TRow W lo s r ys) : ∀ {q : Ts} {xs : List Value}, TRow W lo s q xs → TRow W lo s (q.app r) (xs ++ ys)
  | .nil, _, rfl => hr
  | .cons _ _ _ _, _, ⟨u', rest, e, ht', h⟩ => ⟨u', _, by rw [e]; rfl, ht', TRow.app hr h⟩
theorem FRow.app {W : World} {lo : Nat} {s : Value} {r : Fs} {ys : List Value} (hr : FRow W lo s r ys) : ∀ {q : Fs} {xs : List Value}, FRow W lo s q xs → FRow W lo s (q.app r) (xs ++ ys)
  | .nil, _, rfl => hr
  | .cons _ _ _ _ _, _, ⟨u', rest, e, ht', h⟩ => ⟨u', _, by rw [e, List.append_assoc], ht', FRow.app hr h⟩
theorem nil_tt (W : World) (lo : Nat) (s : Value) : TTr W lo s .nil (.slice none 0 0) :=
  ⟨{ W with heap := #[] }, ⟨none, 0, rfl, .inl rfl⟩, fun b o y h => by simp [World.cell?] at h⟩
theorem nil_ff (W : World) (lo : Nat) (s : Value) (op : Int) (n : ByteArray) : FTr W lo s ⟨op, n, .nil, .nil⟩ (.agg #[.int .u8 op, .string n, .slice none 0 0, .slice none 0 0]) :=
  ⟨{ W with heap := #[] }, ⟨_, _, rfl, ⟨none, 0, rfl, .inl rfl⟩, ⟨none, 0, rfl, .inl rfl⟩⟩, fun b o y h => by simp [World.cell?] at h⟩
/-- The five terms. -/
abbrev fiveA : Ts := .cons false ⟨#[97]⟩ .nil (.cons false ⟨#[97]⟩ .nil (.cons false ⟨#[97]⟩ .nil (.cons false ⟨#[97]⟩ .nil (.cons false ⟨#[97]⟩ .nil .nil))))
abbrev a1 : List Value := [.bool false, .string ⟨#[97]⟩, .slice none 0 0]
theorem five_row (W : World) (lo : Nat) (s : Value) : TRow W lo s fiveA (a1 ++ (a1 ++ (a1 ++ (a1 ++ a1)))) :=
  ⟨_, _, rfl, nil_tt _ _ _, _, _, rfl, nil_tt _ _ _, _, _, rfl, nil_tt _ _ _, _, _, rfl, nil_tt _ _ _, _, _, rfl, nil_tt _ _ _, rfl⟩
theorem none_row (W : World) (lo : Nat) (s : Value) : TRow W lo s (.cons false ⟨#[]⟩ .nil .nil) [.bool false, .string ⟨#[]⟩, .slice none 0 0] := ⟨_, _, rfl, nil_tt _ _ _, rfl⟩
theorem atom_row (W : World) (lo : Nat) (s : Value) : FRow W lo s (.cons 1 ⟨#[80]⟩ .nil .nil .nil) [.int .u8 1, .string ⟨#[80]⟩, .slice none 0 0, .slice none 0 0] := ⟨_, _, by simp [cells4], nil_ff _ _ _ _ _, rfl⟩
/-- Terms appended to a copy: `w9` is `w1` but for a cell of box `b`. -/
theorem app_terms {W7 w w1 : World} {z1 z2 b k gg cap : Nat} {s u : Value} {p8 : Option Addr} {n8 : Nat} {q r : Ts} {sub : Fs} {xs news : List Value}
    (h7 : Below W7.heap.size W7 w) (hb : W7.heap.size ≤ b) (hz : z2 ≤ W7.heap.size) (hbw : b < w.heap.size)
    (hrow : TRow (hideR W7 z2 W7.heap.size) z1 s q xs) (hlt : ∀ g, s.ownBlock = some g → g < z2) (hG : GRow W7 z2 (.slice p8 sub.len n8) sub)
    (hown1 : w1.ownsRow z1 49 3 (.slice (some ⟨gg, 0, none⟩) (q.len + r.len) cap) (q.len + r.len) (xs ++ news)) (hgrow : w.grownBy w1 s.ownBlock) (hat : s.ownBlock = some gg ∨ gg = w.heap.size)
    (hr : ∀ W s, TRow W z1 s r news) :
    TSl (w1.setCell ⟨b, k, none⟩ u) (q.app r) (.slice (some ⟨gg, 0, none⟩) (q.len + r.len) cap) ∧ FSl (w1.setCell ⟨b, k, none⟩ u) sub (.slice p8 sub.len n8) ∧ s.ownBlock ≠ some b := by
  have h1 := h7.size
  have hk : ∀ x o y, W7.cell? ⟨x, o, none⟩ = some y → s.ownBlock ≠ some x → (w1.setCell ⟨b, k, none⟩ u).cell? ⟨x, o, none⟩ = some y := by
    intro x o y hc hn
    have := lt_of_cell hc
    rw [set_off (.inl (by omega))]
    exact hgrow.cell (cell_below h7 hc) (fun e => hn e.symm)
  have hnb : s.ownBlock ≠ some b := fun e => by have := hlt b e; omega
  have hgb : gg ≠ b := by
    rcases hat with e | e
    · exact fun e2 => hnb (by rw [e, e2])
    · omega
  have hown9 : (w1.setCell ⟨b, k, none⟩ u).ownsRow z1 49 3 (.slice (some ⟨gg, 0, none⟩) (q.len + r.len) cap) (q.len + r.len) (xs ++ news) :=
    hown1.kept (grown_setCells b [u] k w1) (.inr (by simp [Value.ownBlock]; exact hgb))
  have hrow9 : TRow (w1.setCell ⟨b, k, none⟩ u) z1 (.slice (some ⟨gg, 0, none⟩) (q.len + r.len) cap) q xs := by
    refine hrow.impLo fun x o y hx hc hn => ?_
    obtain ⟨-, hc7⟩ := hideR_cell hc
    refine ⟨hk _ _ _ hc7 hn, ?_⟩
    have := lt_of_cell hc7
    simp only [Value.ownBlock]
    intro e
    simp at e
    rcases hat with e2 | e2
    · exact hn (by rw [e2, e])
    · omega
  have hC : CRow (w1.setCell ⟨b, k, none⟩ u) z1 (.slice (some ⟨gg, 0, none⟩) (q.len + r.len) cap) (q.app r) := ⟨_, by rw [Ts.len_app]; exact hown9, TRow.app (hr _ _) hrow9⟩
  refine ⟨hC.own.at, (FOwn.keep (fun x o y hx hc => hk x o y hc fun e => ?_) hG.own).at, hnb⟩
  have := hlt x e
  omega
theorem app_forms {W7 w w1 : World} {z1 z2 b k gg cap : Nat} {s u : Value} {p9 : Option Addr} {n9 : Nat} {ts : Ts} {q r : Fs} {ys xs news : List Value}
    (h7 : Below W7.heap.size W7 w) (hb : W7.heap.size ≤ b) (hz : z2 ≤ W7.heap.size) (hbw : b < w.heap.size)
    (hown : W7.ownsRow z1 49 3 (.slice p9 ts.len n9) ts.len ys) (hrowT : TRow (hideR W7 z2 W7.heap.size) z1 (.slice p9 ts.len n9) ts ys) (hlt : ∀ g, (Value.slice p9 ts.len n9).ownBlock = some g → g < z2)
    (hown0 : W7.ownsRow z2 25 4 s q.len xs) (hrow : FRow W7 z2 s q xs)
    (hown1 : w1.ownsRow z2 25 4 (.slice (some ⟨gg, 0, none⟩) (q.len + r.len) cap) (q.len + r.len) (xs ++ news)) (hgrow : w.grownBy w1 s.ownBlock) (hat : s.ownBlock = some gg ∨ gg = w.heap.size)
    (hr : ∀ W s, FRow W z2 s r news) :
    TSl (w1.setCell ⟨b, k, none⟩ u) ts (.slice p9 ts.len n9) ∧ FSl (w1.setCell ⟨b, k, none⟩ u) (q.app r) (.slice (some ⟨gg, 0, none⟩) (q.len + r.len) cap) ∧ s.ownBlock ≠ some b := by
  have h1 := h7.size
  have hk : ∀ x o y, W7.cell? ⟨x, o, none⟩ = some y → s.ownBlock ≠ some x → (w1.setCell ⟨b, k, none⟩ u).cell? ⟨x, o, none⟩ = some y := by
    intro x o y hc hn
    have := lt_of_cell hc
    rw [set_off (.inl (by omega))]
    exact hgrow.cell (cell_below h7 hc) (fun e => hn e.symm)
  have hlo : ∀ g, s.ownBlock = some g → z2 ≤ g ∧ g < W7.heap.size := hown0.lt
  have hnb : s.ownBlock ≠ some b := fun e => by have := (hlo b e).2; omega
  have hgb : gg ≠ b := by
    rcases hat with e | e
    · exact fun e2 => hnb (by rw [e, e2])
    · omega
  have hown9 : (w1.setCell ⟨b, k, none⟩ u).ownsRow z2 25 4 (.slice (some ⟨gg, 0, none⟩) (q.len + r.len) cap) (q.len + r.len) (xs ++ news) :=
    hown1.kept (grown_setCells b [u] k w1) (.inr (by simp [Value.ownBlock]; exact hgb))
  have hrow9 : FRow (w1.setCell ⟨b, k, none⟩ u) z2 (.slice (some ⟨gg, 0, none⟩) (q.len + r.len) cap) q xs := by
    refine hrow.impLo fun x o y hx hc7 hn => ?_
    refine ⟨hk _ _ _ hc7 hn, ?_⟩
    have := lt_of_cell hc7
    simp only [Value.ownBlock]
    intro e
    simp at e
    rcases hat with e2 | e2
    · exact hn (by rw [e2, e])
    · omega
  have hC : GRow (w1.setCell ⟨b, k, none⟩ u) z2 (.slice (some ⟨gg, 0, none⟩) (q.len + r.len) cap) (q.app r) := ⟨_, by rw [Fs.len_app]; exact hown9, FRow.app (hr _ _) hrow9⟩
  have hT : CRow (w1.setCell ⟨b, k, none⟩ u) z1 (.slice p9 ts.len n9) ts := by
    refine ⟨_, ((owns_below h7 hown).kept hgrow ?_).kept (grown_setCells b [u] k w1) ?_, hrowT.impLo fun x o y hx hc hn => ?_⟩
    · cases e0 : (Value.slice p9 ts.len n9).ownBlock with
      | none => exact .inl rfl
      | some g =>
        refine .inr fun e => ?_
        have h1 := hlt g e0
        have h2 := (hlo g e.symm).1
        omega
    · cases e0 : (Value.slice p9 ts.len n9).ownBlock with
      | none => exact .inl rfl
      | some g =>
        refine .inr fun e => ?_
        have h1 := hlt g e0
        simp at e
        omega
    · obtain ⟨hx2, hc7⟩ := hideR_cell hc
      have := lt_of_cell hc7
      exact ⟨hk _ _ _ hc7 (fun e => by have := (hlo x e).1; omega), hn⟩
  exact ⟨hT.own.at, hC.own.at, hnb⟩
end Go.Proofs.YtngdieldgnlogaaDoor
