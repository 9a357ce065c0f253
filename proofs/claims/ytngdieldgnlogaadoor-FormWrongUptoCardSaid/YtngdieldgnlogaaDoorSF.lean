/- A part put at a place of a formula that lies in blocks of its own. -/
import Derived.Test.YtngdieldgnlogaaDoorSC
namespace Go.Proofs.YtngdieldgnlogaaDoor
open Go Go.RowKit
set_option maxRecDepth 100000
set_option linter.unusedVariables false
def Fs.set : Fs → Nat → FT → Fs
  | .nil, _, _ => .nil
  | .cons _ _ _ _ r, 0, h => .cons h.op h.n h.ts h.sub r
  | .cons op n ts sub r, k + 1, h => .cons op n ts sub (r.set k h)
theorem Fs.len_set : ∀ (t : Fs) (k : Nat) (h : FT), (t.set k h).len = t.len
  | .nil, _, _ => rfl
  | .cons _ _ _ _ _, 0, _ => rfl
  | .cons _ _ _ _ r, k + 1, h => by simp only [Fs.set, Fs.len, Fs.len_set r k h]
/-- The formula with another part at a place. -/
def FT.put : FT → List Int → FT → Option FT
  | _, [], h => some h
  | f, i :: l, h => if 0 ≤ i ∧ i < f.sub.len then ((f.sub.get i.toNat).put l h).map (fun g => ⟨f.op, f.n, f.ts, f.sub.set i.toNat g⟩) else none
theorem FT.put_none : ∀ (l : List Int) (f h : FT), f.part l = none → f.put l h = none
  | [], f, h, e => by simp [FT.part] at e
  | i :: l, f, h, e => by
    rw [FT.part] at e
    rw [FT.put]
    split
    · rename_i hi
      rw [if_pos hi] at e
      rw [FT.put_none l _ h e]
      rfl
    · rfl
/-- The address of the part at a place. -/
def Reach (W : World) : List Int → FT → Nat → Nat → Nat → Nat → Prop
  | [], _, b, o, b', o' => b = b' ∧ o = o'
  | i :: l, f, b, o, b', o' => 0 ≤ i ∧ i < f.sub.len ∧ ∃ bs os c, W.cell? ⟨b, o + 3, none⟩ = some (.slice (some ⟨bs, os, none⟩) f.sub.len c) ∧ Reach W l (f.sub.get i.toNat) bs (os + i.toNat * 4) b' o'
abbrev FAtSp (W : World) (f : FT) (b o : Nat) (S : Nat → Prop) : Prop := FsSp W (.cons f.op f.n f.ts f.sub .nil) b o S
theorem FAtSp.at {W : World} {f : FT} {b o : Nat} {S : Nat → Prop} (h : FAtSp W f b o S) : FAt W f b o := by
  obtain ⟨h0, h1, h2, h3, -⟩ := FsSp.at h
  exact ⟨h0, h1, h2, h3⟩
/-- One of a row of formulas, and the row with another one there. -/
theorem FsSp.part {W W' : World} {N : Nat → Prop} : ∀ {t : Fs} {k b o : Nat} {T : Nat → Prop}, k < t.len → (∀ x, T x → ¬ N x) → FsSp W t b o T →
    ∃ Tk : Nat → Prop, (∀ x, Tk x → T x) ∧ FAtSp W (t.get k) b (o + k * 4) Tk ∧ ∀ g, FAtSp W' g b (o + k * 4) (fun x => Tk x ∨ N x) →
      (∀ x i v, T x → ¬ Tk x → Wc W x i v → Wc W' x i v) → (∀ i v, ¬ (o + k * 4 ≤ i ∧ i < o + k * 4 + 4) → Wc W b i v → Wc W' b i v) → FsSp W' (t.set k g) b o (fun x => T x ∨ N x)
  | .nil, k, _, _, _, h, _, _ => by simp [Fs.len] at h
  | .cons op n ts sub r, 0, b, o, T, _, hN, ⟨h0, h1, S1, S2, S3, q1, q2, q3, hs, hs', hr⟩ => by
    refine ⟨fun x => S1 x ∨ S2 x, fun x hx => hx.elim (q1 x) (fun h => (q2 x h).1), ⟨by simpa [Fs.get] using h0, by simpa [Fs.get] using h1, S1, S2, fun _ => False, fun x h => .inl h, fun x h => ⟨.inr h, (q2 x h).2⟩, fun _ h => h.elim, by simpa [Fs.get] using hs, by simpa [Fs.get] using hs', trivial⟩, ?_⟩
    rintro g ⟨g0, g1, A1, A2, A3, p1, p2, p3, gs, gs', -⟩ hfar hrow
    simp only [Nat.zero_mul, Nat.add_zero] at g0 g1 gs gs' hrow
    refine ⟨g0, g1, A1, A2, S3, fun x h => ?_, fun x h => ⟨?_, (p2 x h).2⟩, fun x h => ⟨.inl (q3 x h).1, fun h2 => ?_, fun h2 => ?_⟩, gs, gs', FsSp.keep (fun x i v hx hc => hfar x i v (q3 x hx).1 (fun h => h.elim (q3 x hx).2.1 (q3 x hx).2.2) hc) (fun i v hi hj hc => hrow i v (by omega) hc) hr⟩
    · rcases p1 x h with (h | h) | h
      · exact .inl (q1 x h)
      · exact .inl (q2 x h).1
      · exact .inr h
    · rcases (p2 x h).1 with (h | h) | h
      · exact .inl (q1 x h)
      · exact .inl (q2 x h).1
      · exact .inr h
    · rcases p1 x h2 with (h' | h') | h'
      · exact (q3 x h).2.1 h'
      · exact (q3 x h).2.2 h'
      · exact hN x (q3 x h).1 h'
    · rcases (p2 x h2).1 with (h' | h') | h'
      · exact (q3 x h).2.1 h'
      · exact (q3 x h).2.2 h'
      · exact hN x (q3 x h).1 h'
  | .cons op n ts sub r, k + 1, b, o, T, hk, hN, ⟨h0, h1, S1, S2, S3, q1, q2, q3, ⟨s, h2, hs⟩, ⟨s', h3, hs'⟩, hr⟩ => by
    obtain ⟨Tk, t1, t2, t3⟩ := FsSp.part (W := W) (W' := W') (N := N) (k := k) (by simp only [Fs.len] at hk; omega) (fun x hx => hN x (q3 x hx).1) hr
    rw [show o + 4 + k * 4 = o + (k + 1) * 4 by omega] at t2 t3
    refine ⟨Tk, fun x hx => (q3 x (t1 x hx)).1, t2, fun g hg hfar hrow => ?_⟩
    have hr' := t3 g hg (fun x i v hx hn hc => hfar x i v (q3 x hx).1 hn hc) hrow
    have hno : ∀ x, Tk x → ¬ S1 x ∧ ¬ S2 x := fun x hx => (q3 x (t1 x hx)).2
    refine ⟨hrow _ _ (by omega) h0, hrow _ _ (by omega) h1, S1, S2, fun x => S3 x ∨ N x, fun x h => .inl (q1 x h), fun x h => ⟨.inl (q2 x h).1, (q2 x h).2⟩, fun x h => ?_, ⟨s, hrow _ _ (by omega) h2, TSp.keep (fun x i v hx hc => hfar x i v (q1 x hx) (fun h => (hno x h).1 hx) hc) hs⟩,
      ⟨s', hrow _ _ (by omega) h3, FSp.keep (fun x i v hx hc => hfar x i v (q2 x hx).1 (fun h => (hno x h).2 hx) hc) hs'⟩, hr'⟩
    rcases h with h | h
    · exact ⟨.inl (q3 x h).1, (q3 x h).2⟩
    · exact ⟨.inr h, fun h1 => hN x (q1 x h1) h, fun h2 => hN x (q2 x h2).1 h⟩
theorem FsSp.one {W : World} {t : Fs} {k b o : Nat} {T : Nat → Prop} (hk : k < t.len) (h : FsSp W t b o T) : ∃ Tk : Nat → Prop, (∀ x, Tk x → T x) ∧ FAtSp W (t.get k) b (o + k * 4) Tk := by
  obtain ⟨Tk, h1, h2, -⟩ := FsSp.part (W' := W) (N := fun _ => False) hk (fun _ _ h => h) h
  exact ⟨Tk, h1, h2⟩
theorem Reach.own {W : World} {b' o' : Nat} : ∀ {l : List Int} {f : FT} {b o : Nat} {S : Nat → Prop}, FAtSp W f b o S → Reach W l f b o b' o' → (b' = b ∧ o' = o) ∨ S b'
  | [], _, _, _, _, _, ⟨h1, h2⟩ => .inl ⟨h1.symm, h2.symm⟩
  | i :: l, f, b, o, S, ⟨_, _, S1, S2, S3, q1, q2, q3, _, ⟨s', h3, hs'⟩, _⟩, ⟨hi, hj, bs, os, c, hc, hR⟩ => by
    obtain ⟨p, c', e, h0 | ⟨b2, o2, ep, hb2, hsub⟩⟩ := hs'
    · omega
    have e1 := h3.1.symm.trans hc
    rw [e, ep] at e1
    simp at e1
    obtain ⟨⟨rfl, rfl⟩, rfl⟩ := e1
    obtain ⟨Tk, t1, t2⟩ := FsSp.one (k := i.toNat) (by omega) hsub
    rcases Reach.own t2 hR with ⟨rfl, -⟩ | h
    · exact .inr (q2 _ hb2).1
    · exact .inr (q2 _ (t1 _ h).1).1
theorem put_sp {W W' : World} {b' o' : Nat} {h : FT} {N : Nat → Prop} (hfar : ∀ x i v, ¬ (x = b' ∧ o' ≤ i ∧ i < o' + 4) → Wc W x i v → Wc W' x i v) (hnew : FAtSp W' h b' o' N) :
    ∀ {l : List Int} {f : FT} {b o : Nat} {S : Nat → Prop}, (∀ x, S x → ¬ N x) → ¬ S b → FAtSp W f b o S → Reach W l f b o b' o' → ∃ g, f.put l h = some g ∧ FAtSp W' g b o (fun x => S x ∨ N x)
  | [], f, b, o, S, _, _, _, hR => by
    obtain ⟨rfl, rfl⟩ := hR
    exact ⟨h, rfl, FsSp.mono (fun x hx => .inr hx) hnew⟩
  | i :: l, f, b, o, S, hN, hb, ⟨h0, h1, S1, S2, S3, q1, q2, q3, ⟨s, h2, hs⟩, ⟨s', h3, hs'⟩, hr⟩, ⟨hi, hj, bs, os, c, hc, hR⟩ => by
    obtain ⟨p, c', e, hz | ⟨b2, o2, ep, hb2, hsub⟩⟩ := hs'
    · omega
    have e1 := h3.1.symm.trans hc
    rw [e, ep] at e1
    simp at e1
    obtain ⟨⟨rfl, rfl⟩, rfl⟩ := e1
    obtain ⟨Tk, t1, t2, t3⟩ := FsSp.part (W := W) (W' := W') (N := N) (k := i.toNat) (by omega) (fun x hx => hN x (q2 x hx.1).1) hsub
    have hTb : ¬ Tk b2 := fun h => (t1 _ h).2 rfl
    obtain ⟨g, hg, hgs⟩ := put_sp hfar hnew (fun x hx => hN x (q2 x (t1 x hx).1).1) hTb t2 hR
    have hwhere := Reach.own t2 hR
    have hbb : b' ≠ b := by
      rintro rfl
      rcases hwhere with ⟨rfl, -⟩ | h
      · exact hb (q2 _ hb2).1
      · exact hb (q2 _ (t1 _ h).1).1
    have hS2 : S2 b' := by
      rcases hwhere with ⟨rfl, -⟩ | h
      · exact hb2
      · exact (t1 _ h).1
    have hsub' := t3 g hgs (fun x i' v hx hn hc => hfar x i' v (fun hh => by
        obtain ⟨rfl, -⟩ := hh
        rcases hwhere with ⟨rfl, -⟩ | h
        · exact hx.2 rfl
        · exact hn h) hc) (fun i' v hni hc => hfar b2 i' v (fun hh => by
        obtain ⟨rfl, hh1, hh2⟩ := hh
        rcases hwhere with ⟨-, rfl⟩ | h
        · exact hni ⟨hh1, hh2⟩
        · exact hTb h) hc)
    refine ⟨⟨f.op, f.n, f.ts, f.sub.set i.toNat g⟩, by rw [FT.put, if_pos ⟨hi, hj⟩, hg]; rfl, ?_⟩
    have hkb : ∀ i' v, Wc W b i' v → Wc W' b i' v := fun i' v hc => hfar b i' v (fun hh => hbb hh.1.symm) hc
    refine ⟨hkb _ _ h0, hkb _ _ h1, S1, fun x => S2 x ∨ N x, fun _ => False, fun x h => .inl (q1 x h), fun x h => ?_, fun _ h => h.elim, ⟨s, hkb _ _ h2, TSp.keep (fun x i' v hx hc => hfar x i' v (fun hh => (q2 _ hS2).2 (hh.1 ▸ hx)) hc) hs⟩,
      ⟨s', hkb _ _ h3, p, c', by rw [Fs.len_set]; exact e, .inr ⟨b2, o2, ep, .inl hb2, FsSp.mono (fun x hx => ?_) hsub'⟩⟩, trivial⟩
    · rcases h with h | h
      · exact ⟨.inl (q2 x h).1, (q2 x h).2⟩
      · exact ⟨.inr h, fun h1 => hN x (q1 x h1) h⟩
    · rcases hx with hx | hx
      · exact ⟨.inl hx.1, hx.2⟩
      · exact ⟨.inr hx, fun e => hN b2 (q2 _ hb2).1 (e ▸ hx)⟩
end Go.Proofs.YtngdieldgnlogaaDoor
