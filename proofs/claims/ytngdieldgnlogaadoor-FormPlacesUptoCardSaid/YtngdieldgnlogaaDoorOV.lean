/- What is overwritten: all of a tree, and nothing else. -/
import Derived.Test.YtngdieldgnlogaaDoorSF
namespace Go.Proofs.YtngdieldgnlogaaDoor
open Go Go.RowKit
set_option maxRecDepth 100000
set_option linter.unusedVariables false
/-- Blocks outside S are as they were. -/
structure But (S : Nat → Prop) (w w' : World) : Prop where
  os : w'.os = w.os
  tape : w'.tape = w.tape
  output : w'.output = w.output
  size : w.heap.size ≤ w'.heap.size
  block : ∀ k, k < w.heap.size → ¬ S k → w'.heap[k]? = w.heap[k]?
theorem But.refl (S : Nat → Prop) (w : World) : But S w w := ⟨rfl, rfl, rfl, Nat.le_refl _, fun _ _ _ => rfl⟩
theorem But.trans {S : Nat → Prop} {a b c : World} (h : But S a b) (k : But S b c) : But S a c :=
  ⟨k.os.trans h.os, k.tape.trans h.tape, k.output.trans h.output, Nat.le_trans h.size k.size, fun i hi hn => (k.block i (Nat.lt_of_lt_of_le hi h.size) hn).trans (h.block i hi hn)⟩
theorem But.mono {S S' : Nat → Prop} {a b : World} (hs : ∀ x, S x → S' x) (h : But S a b) : But S' a b := ⟨h.os, h.tape, h.output, h.size, fun k hk hn => h.block k hk fun hx => hn (hs k hx)⟩
theorem But.alloc (S : Nat → Prop) (w : World) (o : Obj) : But S w (w.alloc o) := ⟨rfl, rfl, rfl, by simp, fun k hk _ => Below.heap_alloc _ _ _ hk⟩
theorem But.drew (S : Nat → Prop) (w : World) : But S w w.drew := ⟨rfl, rfl, rfl, Nat.le_refl _, fun _ _ _ => rfl⟩
theorem But.of_below {S : Nat → Prop} {w w' : World} (h : Below w.heap.size w w') : But S w w' := ⟨h.os, h.tape, h.output, h.size, fun k hk _ => h.block k hk⟩
theorem But.set {S : Nat → Prop} {w : World} {p : Addr} (hp : S p.block) (u : Value) : But S w (w.setCell p u) :=
  ⟨rfl, rfl, rfl, by simp [World.setCell], fun k _ hn => Below.heap_setCell _ _ _ _ (fun e => hn (e ▸ hp))⟩
theorem But.below {S : Nat → Prop} {B : Nat} {w w' : World} (hB : ∀ x, S x → B ≤ x) (hs : B ≤ w.heap.size) (h : But S w w') : Below B w w' :=
  ⟨h.os, h.tape, h.output, h.size, fun k hk => h.block k (by omega) fun hx => by have := hB k hx; omega⟩
theorem Wc.but {S : Nat → Prop} {w w' : World} (h : But S w w') {b o : Nat} {v : Value} (hb : ¬ S b) (hc : Wc w b o v) : Wc w' b o v := by
  have e := h.block b hc.lt hb
  exact ⟨(World.cell?_of_block (a := ⟨b, o, none⟩) e).trans hc.1, (World.frozen?_of_block (a := ⟨b, o, none⟩) e).trans hc.2⟩
theorem cell_but {S : Nat → Prop} {w w' : World} (h : But S w w') {b o : Nat} {v : Value} (hb : ¬ S b) (hc : w.cell? ⟨b, o, none⟩ = some v) : w'.cell? ⟨b, o, none⟩ = some v :=
  (World.cell?_of_block (a := ⟨b, o, none⟩) (h.block b (lt_of_cell hc) hb)).trans hc
/-- So many terms, or formulas, that are overwritten. -/
def leafT : Nat → Ts
  | 0 => .nil
  | k + 1 => .cons false ⟨#[45]⟩ .nil (leafT k)
def leafF : Nat → Fs
  | 0 => .nil
  | k + 1 => .cons 99 ⟨#[]⟩ .nil .nil (leafF k)
theorem leafT_len : ∀ k, (leafT k).len = k
  | 0 => rfl
  | k + 1 => by simp only [leafT, Ts.len, leafT_len k]
theorem leafF_len : ∀ k, (leafF k).len = k
  | 0 => rfl
  | k + 1 => by simp only [leafF, Fs.len, leafF_len k]
theorem leafT_size : ∀ k, (leafT k).size = k
  | 0 => rfl
  | k + 1 => by simp only [leafT, Ts.size, leafT_size k]; omega
theorem leafF_size : ∀ k, (leafF k).size = k
  | 0 => rfl
  | k + 1 => by simp only [leafF, Fs.size, Ts.size, leafF_size k]; omega
theorem leafT_app : ∀ k, (leafT k).app (leafT 1) = leafT (k + 1)
  | 0 => rfl
  | k + 1 => by show Ts.cons _ _ _ ((leafT k).app (leafT 1)) = _; rw [leafT_app k]; rfl
theorem leafF_app : ∀ k, (leafF k).app (leafF 1) = leafF (k + 1)
  | 0 => rfl
  | k + 1 => by show Fs.cons _ _ _ _ ((leafF k).app (leafF 1)) = _; rw [leafF_app k]; rfl
/-- What was in formulas that are overwritten is overwritten, too. -/
def FsOv (w W : World) : Fs → Nat → Nat → (Nat → Prop) → Prop
  | .nil, _, _, _ => True
  | .cons op n ts sub r, b, o, S => ∃ S1 S2 S3 : Nat → Prop, (∀ x, S1 x → S x) ∧ (∀ x, S2 x → S x ∧ ¬ S1 x) ∧ (∀ x, S3 x → S x ∧ ¬ S1 x ∧ ¬ S2 x) ∧
    (∃ s, w.cell? ⟨b, o + 2, none⟩ = some s ∧ TSp W (leafT ts.len) s S1) ∧ (∃ s', w.cell? ⟨b, o + 3, none⟩ = some s' ∧ FSp W (leafF sub.len) s' S2) ∧ FsOv w W r b (o + 4) S3
theorem FsOv.mono {w W : World} : ∀ {t : Fs} {b o : Nat} {S S' : Nat → Prop}, (∀ x, S x → S' x) → FsOv w W t b o S → FsOv w W t b o S'
  | .nil, _, _, _, _, _, _ => trivial
  | .cons _ _ _ _ _, _, _, _, _, hs, ⟨S1, S2, S3, h2, h3, h4, h5⟩ => ⟨S1, S2, S3, fun x h => hs x (h2 x h), fun x h => ⟨hs x (h3 x h).1, (h3 x h).2⟩, fun x h => ⟨hs x (h4 x h).1, (h4 x h).2⟩, h5⟩
theorem FsOv.keep {w W W' : World} : ∀ {t : Fs} {b o : Nat} {S : Nat → Prop}, (∀ x i v, S x → Wc W x i v → Wc W' x i v) → FsOv w W t b o S → FsOv w W' t b o S
  | .nil, _, _, _, _, _ => trivial
  | .cons _ _ _ _ _, _, _, _, hS, ⟨S1, S2, S3, h1, h2, h3, ⟨s, c2, hs⟩, ⟨s', c3, hs'⟩, hr⟩ =>
    ⟨S1, S2, S3, h1, h2, h3, ⟨s, c2, TSp.keep (fun x i v hx => hS x i v (h1 x hx)) hs⟩, ⟨s', c3, FSp.keep (fun x i v hx => hS x i v (h2 x hx).1) hs'⟩, FsOv.keep (fun x i v hx => hS x i v (h3 x hx).1) hr⟩
theorem FsOv.snoc {w W : World} {op : Int} {n : ByteArray} {ts : Ts} {sub : Fs} {b : Nat} {S1 S2 : Nat → Prop} {s s' : Value} : ∀ {q : Fs} {o : Nat} {S Sq : Nat → Prop}, (∀ x, Sq x → S x) → (∀ x, S1 x → S x ∧ ¬ Sq x) → (∀ x, S2 x → S x ∧ ¬ Sq x ∧ ¬ S1 x) →
    w.cell? ⟨b, o + q.len * 4 + 2, none⟩ = some s → TSp W (leafT ts.len) s S1 → w.cell? ⟨b, o + q.len * 4 + 3, none⟩ = some s' → FSp W (leafF sub.len) s' S2 → FsOv w W q b o Sq → FsOv w W (q.app (.cons op n ts sub .nil)) b o S
  | .nil, o, S, Sq, h0, h1, h2, c2, hs, c3, hs', _ => by
    simp only [Fs.len, Nat.zero_mul, Nat.add_zero] at c2 c3
    exact ⟨S1, S2, fun _ => False, fun x h => (h1 x h).1, fun x h => ⟨(h2 x h).1, (h2 x h).2.2⟩, fun _ h => h.elim, ⟨s, c2, hs⟩, ⟨s', c3, hs'⟩, trivial⟩
  | .cons op' n' ts' sub' q, o, S, Sq, h0, h1, h2, c2, hs, c3, hs', ⟨A1, A2, A3, q1, q2, q3, e2, e3, hq⟩ => by
    simp only [Fs.len] at c2 c3
    refine ⟨A1, A2, fun x => A3 x ∨ S1 x ∨ S2 x, fun x h => h0 x (q1 x h), fun x h => ⟨h0 x (q2 x h).1, (q2 x h).2⟩, fun x h => ?_, e2, e3,
      FsOv.snoc (Sq := A3) (fun x h => .inl h) (fun x h => ⟨.inr (.inl h), fun h3 => (h1 x h).2 (q3 x h3).1⟩) (fun x h => ⟨.inr (.inr h), fun h3 => (h2 x h).2.1 (q3 x h3).1, (h2 x h).2.2⟩)
        (by rwa [show o + 4 + q.len * 4 = o + (q.len + 1) * 4 by omega]) hs (by rwa [show o + 4 + q.len * 4 = o + (q.len + 1) * 4 by omega]) hs' hq⟩
    rcases h with h | h | h
    · exact ⟨h0 x (q3 x h).1, (q3 x h).2⟩
    · exact ⟨(h1 x h).1, fun ha => (h1 x h).2 (q1 x ha), fun ha => (h1 x h).2 (q2 x ha).1⟩
    · exact ⟨(h2 x h).1, fun ha => (h2 x h).2.1 (q1 x ha), fun ha => (h2 x h).2.1 (q2 x ha).1⟩
end Go.Proofs.YtngdieldgnlogaaDoor
