/- Formulas that come in are trees. Formulas that come in are trees, and weigh at most their datum's bulk. A formula that comes in: its operators are not negative. -/
import Derived.Test.YtngdieldgnlogaaGreatDoorMT
import Derived.ProofKit
import Derived.OpenShut
import Derived.ShutString
import Derived.ChangeArms
import Derived.Test.YtngdieldgnlogaaGreatDoorQD
import Derived.Test.YtngdieldgnlogaaGreatDoorRows
import Derived.Test.YtngdieldgnlogaaGreatDoorMG
namespace Go.Proofs.YtngdieldgnlogaaGreatDoor
open Go Go.RowKit
set_option maxRecDepth 100000
set_option linter.unusedVariables false
theorem c50 : Tryz.prog.cellsOf 46 = 3 := by kernel_rfl
theorem c27 : Tryz.prog.cellsOf 25 = 4 := by kernel_rfl
theorem c4 : Tryz.prog.cellsOf 4 = 1 := by kernel_rfl
theorem c5 : Tryz.prog.cellsOf 5 = 1 := by kernel_rfl
theorem c9 : Tryz.prog.cellsOf 9 = 1 := by kernel_rfl
theorem c24 : Tryz.prog.cellsOf 22 = 1 := by kernel_rfl
theorem c25 : Tryz.prog.cellsOf 23 = 1 := by kernel_rfl
theorem cells_at {w : World} {base b o n : Nat} {cs : List Value} (h : w.cells? base ⟨b, o, none⟩ n = some cs) : cs.length = n ∧ ∀ j, j < n → w.cell? ⟨b, o + j, none⟩ = cs[j]? := by
  unfold World.cells? at h
  split at h
  · refine ⟨by have := mapM_some_length h; simpa using this, fun j hj => ?_⟩
    have := mapM_some_get h j j (by simp [hj])
    have e : (Addr.add ⟨b, o, none⟩ j) = ⟨b, o + j, none⟩ := by
      by_cases h0 : j = 0
      · subst h0; rfl
      · simp [Addr.add, h0]
    rw [e] at this
    exact this
  · cases h
theorem spot_none {w : World} {base n : Nat} {a : Addr} {cs : List Value} (h : w.cells? base a (n + 1) = some cs) : a = ⟨a.block, a.off, none⟩ := by
  unfold World.cells? at h
  split at h
  · have := mapM_some_get h 0 0 (by simp)
    rw [show a.add 0 = a from rfl] at this
    have hl := mapM_some_length h
    have h0 : cs[0]? = some (cs[0]'(by rw [hl]; simp)) := List.getElem?_eq_getElem _
    rw [h0] at this
    unfold World.cell? at this
    split at this
    · split at this
      · cases this
      · rename_i hs
        cases a with
        | mk b o s =>
          cases s with
          | none => rfl
          | some x => exact absurd rfl hs
    · cases this
  · cases h
def TermOpens (H : Type) (enc : TypeId × Value → H) (w : World) (base : Nat) (sp : Nat → Bool) (held : Bool) (m : Nat) : Prop :=
  ∀ (cs : List Value) (x : DataW H × List MemPlace), DataW.trod enc Tryz.prog w base sp held m 46 cs = some x → ∃ v n ts s, cs = [.bool v, .string n, s] ∧ TSl w ts s
theorem open_tslice {H : Type} {enc : TypeId × Value → H} {w : World} {base : Nat} {sp : Nat → Bool} {held : Bool} {m : Nat} (ih : ∀ n, n < m → TermOpens H enc w base sp held n) {cs : List Value} {x : DataW H × List MemPlace}
    (h : DataW.trod enc Tryz.prog w base sp held m 22 cs = some x) : ∃ ts s, cs = [s] ∧ TSl w ts s := by
  rcases DataW.trod_slice Tryz.underlying22 h with ⟨rfl, -⟩ | ⟨a, len, cap, elems, rest, n, rfl, rfl, -, -, -, -, hlen, hel, -, -⟩
  · exact ⟨.nil, _, rfl, none, 0, rfl, .inl rfl⟩
  · have hi : ∀ i, i < len → ∃ v n ts s, w.cells? base (a.add (i * 3)) 3 = some [.bool v, .string n, s] ∧ TSl w ts s := fun i hi => by
      have h1 := hel i hi
      rw [c50] at h1
      have h2 : elems[i]? = some elems[i] := List.getElem?_eq_getElem (by omega)
      rw [h2] at h1
      obtain ⟨cs', hc, ht⟩ := Option.bind_eq_some_iff.1 h1
      obtain ⟨v, nm, ts, s, rfl, hts⟩ := ih n (by omega) _ _ ht
      exact ⟨v, nm, ts, s, hc, hts⟩
    rcases Nat.eq_zero_or_pos len with rfl | hpos
    · exact ⟨.nil, _, rfl, some a, cap, rfl, .inl rfl⟩
    · obtain ⟨b, o, rfl⟩ : ∃ b o, a = ⟨b, o, none⟩ := by
        obtain ⟨_, _, _, _, hc, _⟩ := hi 0 hpos
        rw [Nat.zero_mul, show a.add 0 = a from rfl] at hc
        exact ⟨_, _, spot_none hc⟩
      have hadd : ∀ i, Addr.add ⟨b, o, none⟩ i = ⟨b, o + i, none⟩ := fun i => by
        by_cases h0 : i = 0
        · subst h0; rfl
        · simp [Addr.add, h0]
      have hall : ∀ d k, k + d = len → ∃ r : Ts, r.len = d ∧ TsAt w r b (o + k * 3) := by
        intro d
        induction d with
        | zero => exact fun k _ => ⟨.nil, rfl, trivial⟩
        | succ d ihd =>
          intro k hk
          obtain ⟨r, hr, hat⟩ := ihd (k + 1) (by omega)
          obtain ⟨v, nm, ts, s, hc, hts⟩ := hi k (by omega)
          rw [hadd] at hc
          obtain ⟨-, hcs⟩ := cells_at hc
          exact ⟨.cons v nm ts r, by simp [Ts.len, hr], hcs 0 (by omega), hcs 1 (by omega), ⟨s, hcs 2 (by omega), hts⟩, by rwa [show o + k * 3 + 3 = o + (k + 1) * 3 by omega]⟩
      obtain ⟨r, hr, hat⟩ := hall len 0 (by omega)
      exact ⟨r, _, rfl, some ⟨b, o, none⟩, cap, by rw [hr], .inr ⟨b, o, rfl, by simpa using hat⟩⟩
theorem open_term {H : Type} {enc : TypeId × Value → H} {w : World} {base : Nat} {sp : Nat → Bool} {held : Bool} (m : Nat) : TermOpens H enc w base sp held m := by
  induction m using Nat.strongRecOn with
  | _ m ih =>
    intro cs x h
    obtain ⟨xs, n, rfl, hx, hl, hn, hf⟩ := DataW.trod_struct Tryz.underlying46 h
    rw [c50] at hl
    match cs, hl with
    | [a, b, c], _ =>
      have f0 := hf 0 _ rfl
      have f1 := hf 1 _ rfl
      have f2 := hf 2 _ rfl
      simp [c4, c9, c24] at f0 f1 f2
      have g : ∀ i, i < 3 → ∃ y, xs[i]? = some y := fun i hi => ⟨xs[i]'(by rw [hn]; exact hi), List.getElem?_eq_getElem _⟩
      obtain ⟨y0, g0⟩ := g 0 (by omega)
      obtain ⟨y1, g1⟩ := g 1 (by omega)
      obtain ⟨y2, g2⟩ := g 2 (by omega)
      rw [g0] at f0
      rw [g1] at f1
      rw [g2] at f2
      obtain ⟨v, e0, -⟩ := DataW.trod_bool Tryz.underlying4 f0
      obtain ⟨s, e1, -, -⟩ := DataW.trod_string Tryz.underlying9 f1
      obtain ⟨ts, sl, e2, hts⟩ := open_tslice (fun k hk => ih k (by omega)) f2
      simp at e0 e1 e2
      exact ⟨v, s, ts, sl, by rw [e0, e1, e2], hts⟩
def FormOpens (H : Type) (enc : TypeId × Value → H) (w : World) (base : Nat) (sp : Nat → Bool) (held : Bool) (m : Nat) : Prop :=
  ∀ (cs : List Value) (x : DataW H × List MemPlace), DataW.trod enc Tryz.prog w base sp held m 25 cs = some x → ∃ op n ts sub s s', cs = [.int .u8 op, .string n, s, s'] ∧ TSl w ts s ∧ FSl w sub s'
theorem open_fslice {H : Type} {enc : TypeId × Value → H} {w : World} {base : Nat} {sp : Nat → Bool} {held : Bool} {m : Nat} (ih : ∀ n, n < m → FormOpens H enc w base sp held n) {cs : List Value} {x : DataW H × List MemPlace}
    (h : DataW.trod enc Tryz.prog w base sp held m 23 cs = some x) : ∃ ts s, cs = [s] ∧ FSl w ts s := by
  rcases DataW.trod_slice Tryz.underlying23 h with ⟨rfl, -⟩ | ⟨a, len, cap, elems, rest, n, rfl, rfl, -, -, -, -, hlen, hel, -, -⟩
  · exact ⟨.nil, _, rfl, none, 0, rfl, .inl rfl⟩
  · have hi : ∀ i, i < len → ∃ op n ts sub s s', w.cells? base (a.add (i * 4)) 4 = some [.int .u8 op, .string n, s, s'] ∧ TSl w ts s ∧ FSl w sub s' := fun i hi => by
      have h1 := hel i hi
      rw [c27] at h1
      have h2 : elems[i]? = some elems[i] := List.getElem?_eq_getElem (by omega)
      rw [h2] at h1
      obtain ⟨cs', hc, ht⟩ := Option.bind_eq_some_iff.1 h1
      obtain ⟨op, nm, ts, sub, s, s', rfl, hts, hfs⟩ := ih n (by omega) _ _ ht
      exact ⟨op, nm, ts, sub, s, s', hc, hts, hfs⟩
    rcases Nat.eq_zero_or_pos len with rfl | hpos
    · exact ⟨.nil, _, rfl, some a, cap, rfl, .inl rfl⟩
    · obtain ⟨b, o, rfl⟩ : ∃ b o, a = ⟨b, o, none⟩ := by
        obtain ⟨_, _, _, _, _, _, hc, _⟩ := hi 0 hpos
        rw [Nat.zero_mul, show a.add 0 = a from rfl] at hc
        exact ⟨_, _, spot_none hc⟩
      have hadd : ∀ i, Addr.add ⟨b, o, none⟩ i = ⟨b, o + i, none⟩ := fun i => by
        by_cases h0 : i = 0
        · subst h0; rfl
        · simp [Addr.add, h0]
      have hall : ∀ d k, k + d = len → ∃ r : Fs, r.len = d ∧ FsAt w r b (o + k * 4) := by
        intro d
        induction d with
        | zero => exact fun k _ => ⟨.nil, rfl, trivial⟩
        | succ d ihd =>
          intro k hk
          obtain ⟨r, hr, hat⟩ := ihd (k + 1) (by omega)
          obtain ⟨op, nm, ts, sub, s, s', hc, hts, hfs⟩ := hi k (by omega)
          rw [hadd] at hc
          obtain ⟨-, hcs⟩ := cells_at hc
          exact ⟨.cons op nm ts sub r, by simp [Fs.len, hr], hcs 0 (by omega), hcs 1 (by omega), ⟨s, hcs 2 (by omega), hts⟩, ⟨s', hcs 3 (by omega), hfs⟩, by rwa [show o + k * 4 + 4 = o + (k + 1) * 4 by omega]⟩
      obtain ⟨r, hr, hat⟩ := hall len 0 (by omega)
      exact ⟨r, _, rfl, some ⟨b, o, none⟩, cap, by rw [hr], .inr ⟨b, o, rfl, by simpa using hat⟩⟩
theorem open_formC {H : Type} {enc : TypeId × Value → H} {w : World} {base : Nat} {sp : Nat → Bool} {held : Bool} (m : Nat) : FormOpens H enc w base sp held m := by
  induction m using Nat.strongRecOn with
  | _ m ih =>
    intro cs x h
    obtain ⟨xs, n, rfl, hx, hl, hn, hf⟩ := DataW.trod_struct Tryz.underlying25 h
    rw [c27] at hl
    match cs, hl with
    | [a, b, c, d], _ =>
      have f0 := hf 0 _ rfl
      have f1 := hf 1 _ rfl
      have f2 := hf 2 _ rfl
      have f3 := hf 3 _ rfl
      simp [c5, c9, c24, c25] at f0 f1 f2 f3
      have g : ∀ i, i < 4 → ∃ y, xs[i]? = some y := fun i hi => ⟨xs[i]'(by rw [hn]; exact hi), List.getElem?_eq_getElem _⟩
      obtain ⟨y0, g0⟩ := g 0 (by omega)
      obtain ⟨y1, g1⟩ := g 1 (by omega)
      obtain ⟨y2, g2⟩ := g 2 (by omega)
      obtain ⟨y3, g3⟩ := g 3 (by omega)
      rw [g0] at f0
      rw [g1] at f1
      rw [g2] at f2
      rw [g3] at f3
      obtain ⟨op, e0, -, -⟩ := DataW.trod_int Tryz.underlying5 f0
      obtain ⟨s, e1, -, -⟩ := DataW.trod_string Tryz.underlying9 f1
      obtain ⟨ts, sl, e2, hts⟩ := open_tslice (fun k _ => open_term k) f2
      obtain ⟨fs, sl', e3, hfs⟩ := open_fslice (fun k hk => ih k (by omega)) f3
      simp at e0 e1 e2 e3
      exact ⟨op, s, ts, fs, sl, sl', by rw [e0, e1, e2, e3], hts, hfs⟩
end Go.Proofs.YtngdieldgnlogaaGreatDoor
namespace Go.Proofs.YtngdieldgnlogaaGreatDoor
open Go Go.RowKit
set_option maxRecDepth 100000
set_option linter.unusedVariables false
def TermOpensW (H : Type) (enc : TypeId × Value → H) (w : World) (base : Nat) (sp : Nat → Bool) (held : Bool) (m : Nat) : Prop :=
  ∀ (cs : List Value) (x : DataW H × List MemPlace), DataW.trod enc Tryz.prog w base sp held m 46 cs = some x → ∃ v n ts s, cs = [.bool v, .string n, s] ∧ TSl w ts s ∧ n.size + ts.wt + 1 ≤ Rows.uptoBulk x.1
theorem open_tsliceW {H : Type} {enc : TypeId × Value → H} {w : World} {base : Nat} {sp : Nat → Bool} {held : Bool} {m : Nat} (ih : ∀ n, n < m → TermOpensW H enc w base sp held n) {cs : List Value} {x : DataW H × List MemPlace}
    (h : DataW.trod enc Tryz.prog w base sp held m 22 cs = some x) : ∃ ts s, cs = [s] ∧ TSl w ts s ∧ ts.wt ≤ Rows.uptoBulk x.1 := by
  rcases DataW.trod_slice Tryz.underlying22 h with ⟨rfl, -⟩ | ⟨a, len, cap, elems, rest, n, rfl, rfl, rfl, -, -, -, hlen, hel, -, -⟩
  · exact ⟨.nil, _, rfl, ⟨none, 0, rfl, .inl rfl⟩, Nat.zero_le _⟩
  · have hi : ∀ i (hi : i < len), ∃ v n ts s, w.cells? base (a.add (i * 3)) 3 = some [.bool v, .string n, s] ∧ TSl w ts s ∧ n.size + ts.wt + 1 ≤ Rows.uptoBulk (elems[i]'(by omega)).1 := fun i hi => by
      have h1 := hel i hi
      rw [c50] at h1
      have h2 : elems[i]? = some elems[i] := List.getElem?_eq_getElem (by omega)
      rw [h2] at h1
      obtain ⟨cs', hc, ht⟩ := Option.bind_eq_some_iff.1 h1
      obtain ⟨v, nm, ts, s, rfl, hts, hw⟩ := ih n (by omega) _ _ ht
      exact ⟨v, nm, ts, s, hc, hts, hw⟩
    rcases Nat.eq_zero_or_pos len with rfl | hpos
    · exact ⟨.nil, _, rfl, ⟨some a, cap, rfl, .inl rfl⟩, Nat.zero_le _⟩
    · obtain ⟨b, o, rfl⟩ : ∃ b o, a = ⟨b, o, none⟩ := by
        obtain ⟨_, _, _, _, hc, _⟩ := hi 0 hpos
        rw [Nat.zero_mul, show a.add 0 = a from rfl] at hc
        exact ⟨_, _, spot_none hc⟩
      have hadd : ∀ i, Addr.add ⟨b, o, none⟩ i = ⟨b, o + i, none⟩ := fun i => by
        by_cases h0 : i = 0
        · subst h0; rfl
        · simp [Addr.add, h0]
      have hall : ∀ d k, k + d = len → ∃ r : Ts, r.len = d ∧ TsAt w r b (o + k * 3) ∧ r.wt ≤ Rows.uptoBulkAll ((elems.drop k).map (·.1)) := by
        intro d
        induction d with
        | zero => exact fun k _ => ⟨.nil, rfl, trivial, Nat.zero_le _⟩
        | succ d ihd =>
          intro k hk
          obtain ⟨r, hr, hat, hwr⟩ := ihd (k + 1) (by omega)
          obtain ⟨v, nm, ts, s, hc, hts, hw⟩ := hi k (by omega)
          rw [hadd] at hc
          obtain ⟨-, hcs⟩ := cells_at hc
          refine ⟨.cons v nm ts r, by simp [Ts.len, hr], ⟨hcs 0 (by omega), hcs 1 (by omega), ⟨s, hcs 2 (by omega), hts⟩, by rwa [show o + k * 3 + 3 = o + (k + 1) * 3 by omega]⟩, ?_⟩
          rw [List.drop_eq_getElem_cons (by omega : k < elems.length)]
          simp only [List.map_cons, Rows.uptoBulkAll, Ts.wt]
          omega
      obtain ⟨r, hr, hat, hwr⟩ := hall len 0 (by omega)
      refine ⟨r, _, rfl, ⟨some ⟨b, o, none⟩, cap, by rw [hr], .inr ⟨b, o, rfl, by simpa using hat⟩⟩, ?_⟩
      simp only [Rows.uptoBulk]
      rw [List.drop_zero] at hwr
      omega
theorem open_termW {H : Type} {enc : TypeId × Value → H} {w : World} {base : Nat} {sp : Nat → Bool} {held : Bool} (m : Nat) : TermOpensW H enc w base sp held m := by
  induction m using Nat.strongRecOn with
  | _ m ih =>
    intro cs x h
    obtain ⟨xs, n, rfl, hx, hl, hn, hf⟩ := DataW.trod_struct Tryz.underlying46 h
    rw [c50] at hl
    match cs, hl, xs, hn, hx, hf with
    | [a, b, c], _, [y0, y1, y2], _, hx, hf =>
      have f0 := hf 0 _ rfl
      have f1 := hf 1 _ rfl
      have f2 := hf 2 _ rfl
      simp [c4, c9, c24] at f0 f1 f2
      obtain ⟨v, e0, -⟩ := DataW.trod_bool Tryz.underlying4 f0
      obtain ⟨s, e1, k1, -⟩ := DataW.trod_string Tryz.underlying9 f1
      obtain ⟨ts, sl, e2, hts, hw⟩ := open_tsliceW (fun k hk => ih k (by omega)) f2
      simp at e0 e1 e2
      refine ⟨v, s, ts, sl, by rw [e0, e1, e2], hts, ?_⟩
      subst k1 hx
      have hd : s.data.toList.length = s.size := by simp
      simp only [List.map_cons, List.map_nil, Rows.uptoBulk, Rows.uptoBulkAll, hd]
      omega
def FormOpensW (H : Type) (enc : TypeId × Value → H) (w : World) (base : Nat) (sp : Nat → Bool) (held : Bool) (m : Nat) : Prop :=
  ∀ (cs : List Value) (x : DataW H × List MemPlace), DataW.trod enc Tryz.prog w base sp held m 25 cs = some x → ∃ op n ts sub s s', cs = [.int .u8 op, .string n, s, s'] ∧ TSl w ts s ∧ FSl w sub s' ∧ n.size + ts.wt + sub.wt + 1 ≤ Rows.uptoBulk x.1
theorem open_fsliceW {H : Type} {enc : TypeId × Value → H} {w : World} {base : Nat} {sp : Nat → Bool} {held : Bool} {m : Nat} (ih : ∀ n, n < m → FormOpensW H enc w base sp held n) {cs : List Value} {x : DataW H × List MemPlace}
    (h : DataW.trod enc Tryz.prog w base sp held m 23 cs = some x) : ∃ ts s, cs = [s] ∧ FSl w ts s ∧ ts.wt ≤ Rows.uptoBulk x.1 := by
  rcases DataW.trod_slice Tryz.underlying23 h with ⟨rfl, -⟩ | ⟨a, len, cap, elems, rest, n, rfl, rfl, rfl, -, -, -, hlen, hel, -, -⟩
  · exact ⟨.nil, _, rfl, ⟨none, 0, rfl, .inl rfl⟩, Nat.zero_le _⟩
  · have hi : ∀ i (hi : i < len), ∃ op n ts sub s s', w.cells? base (a.add (i * 4)) 4 = some [.int .u8 op, .string n, s, s'] ∧ TSl w ts s ∧ FSl w sub s' ∧ n.size + ts.wt + sub.wt + 1 ≤ Rows.uptoBulk (elems[i]'(by omega)).1 := fun i hi => by
      have h1 := hel i hi
      rw [c27] at h1
      have h2 : elems[i]? = some elems[i] := List.getElem?_eq_getElem (by omega)
      rw [h2] at h1
      obtain ⟨cs', hc, ht⟩ := Option.bind_eq_some_iff.1 h1
      obtain ⟨op, nm, ts, sub, s, s', rfl, hts, hfs, hw⟩ := ih n (by omega) _ _ ht
      exact ⟨op, nm, ts, sub, s, s', hc, hts, hfs, hw⟩
    rcases Nat.eq_zero_or_pos len with rfl | hpos
    · exact ⟨.nil, _, rfl, ⟨some a, cap, rfl, .inl rfl⟩, Nat.zero_le _⟩
    · obtain ⟨b, o, rfl⟩ : ∃ b o, a = ⟨b, o, none⟩ := by
        obtain ⟨_, _, _, _, _, _, hc, _⟩ := hi 0 hpos
        rw [Nat.zero_mul, show a.add 0 = a from rfl] at hc
        exact ⟨_, _, spot_none hc⟩
      have hadd : ∀ i, Addr.add ⟨b, o, none⟩ i = ⟨b, o + i, none⟩ := fun i => by
        by_cases h0 : i = 0
        · subst h0; rfl
        · simp [Addr.add, h0]
      have hall : ∀ d k, k + d = len → ∃ r : Fs, r.len = d ∧ FsAt w r b (o + k * 4) ∧ r.wt ≤ Rows.uptoBulkAll ((elems.drop k).map (·.1)) := by
        intro d
        induction d with
        | zero => exact fun k _ => ⟨.nil, rfl, trivial, Nat.zero_le _⟩
        | succ d ihd =>
          intro k hk
          obtain ⟨r, hr, hat, hwr⟩ := ihd (k + 1) (by omega)
          obtain ⟨op, nm, ts, sub, s, s', hc, hts, hfs, hw⟩ := hi k (by omega)
          rw [hadd] at hc
          obtain ⟨-, hcs⟩ := cells_at hc
          refine ⟨.cons op nm ts sub r, by simp [Fs.len, hr], ⟨hcs 0 (by omega), hcs 1 (by omega), ⟨s, hcs 2 (by omega), hts⟩, ⟨s', hcs 3 (by omega), hfs⟩, by rwa [show o + k * 4 + 4 = o + (k + 1) * 4 by omega]⟩, ?_⟩
          rw [List.drop_eq_getElem_cons (by omega : k < elems.length)]
          simp only [List.map_cons, Rows.uptoBulkAll, Fs.wt]
          omega
      obtain ⟨r, hr, hat, hwr⟩ := hall len 0 (by omega)
      refine ⟨r, _, rfl, ⟨some ⟨b, o, none⟩, cap, by rw [hr], .inr ⟨b, o, rfl, by simpa using hat⟩⟩, ?_⟩
      simp only [Rows.uptoBulk]
      rw [List.drop_zero] at hwr
      omega
theorem open_formW {H : Type} {enc : TypeId × Value → H} {w : World} {base : Nat} {sp : Nat → Bool} {held : Bool} (m : Nat) : FormOpensW H enc w base sp held m := by
  induction m using Nat.strongRecOn with
  | _ m ih =>
    intro cs x h
    obtain ⟨xs, n, rfl, hx, hl, hn, hf⟩ := DataW.trod_struct Tryz.underlying25 h
    rw [c27] at hl
    match cs, hl, xs, hn, hx, hf with
    | [a, b, c, d], _, [y0, y1, y2, y3], _, hx, hf =>
      have f0 := hf 0 _ rfl
      have f1 := hf 1 _ rfl
      have f2 := hf 2 _ rfl
      have f3 := hf 3 _ rfl
      simp [c5, c9, c24, c25] at f0 f1 f2 f3
      obtain ⟨op, e0, -, -⟩ := DataW.trod_int Tryz.underlying5 f0
      obtain ⟨s, e1, k1, -⟩ := DataW.trod_string Tryz.underlying9 f1
      obtain ⟨ts, sl, e2, hts, hw⟩ := open_tsliceW (fun k _ => open_termW k) f2
      obtain ⟨fs, sl', e3, hfs, hw'⟩ := open_fsliceW (fun k hk => ih k (by omega)) f3
      simp at e0 e1 e2 e3
      refine ⟨op, s, ts, fs, sl, sl', by rw [e0, e1, e2, e3], hts, hfs, ?_⟩
      subst k1 hx
      have hd : s.data.toList.length = s.size := by simp
      simp only [List.map_cons, List.map_nil, Rows.uptoBulk, Rows.uptoBulkAll, hd]
      omega
/-- A formula that comes in. -/
theorem open_form {H : Type} {enc : TypeId × Value → H} {w : World} {base b0 : Nat} {sp : Nat → Bool} {held : Bool} {r : Reach} {v : Value} {d : DataW H} {p : List MemPlace} (hv : Value.okWide Tryz.prog w r b0 25 v) (h : DataW.Trod enc Tryz.prog w base sp held 25 v d p) :
    ∃ f : FT, FVal w f v ∧ f.wt ≤ Rows.uptoBulk d := by
  unfold Value.okWide at hv
  rw [Tryz.underlying25] at hv
  obtain ⟨cs, rfl, hsz, -⟩ := hv
  obtain ⟨m, hm⟩ := h
  obtain ⟨op, n, ts, sub, s, s', hcs, h1, h2, hw⟩ := open_formW m _ _ hm
  simp only [Value.cells] at hcs
  obtain rfl : cs = #[.int .u8 op, .string n, s, s'] := by cases cs; simp_all
  exact ⟨⟨op, n, ts, sub⟩, ⟨s, s', rfl, h1, h2⟩, by simpa [FT.wt] using hw⟩
end Go.Proofs.YtngdieldgnlogaaGreatDoor
namespace Go.Proofs.YtngdieldgnlogaaGreatDoor
open Go Go.RowKit
set_option maxRecDepth 100000
set_option linter.unusedVariables false
theorem u8_nonneg {x : Int} (h : (Lit.int .u8 x).wf = true) : 0 ≤ x := by
  have : 0 ≤ x ∧ x ≤ 255 := by simpa [Lit.wf, IntKind.min, IntKind.max, IntKind.signed, IntKind.bits] using h
  exact this.1
def FormOpensQ (H : Type) (enc : TypeId × Value → H) (w : World) (base : Nat) (sp : Nat → Bool) (held : Bool) (m : Nat) : Prop :=
  ∀ (cs : List Value) (x : DataW H × List MemPlace), DataW.trod enc Tryz.prog w base sp held m 25 cs = some x → ∃ op n ts sub s s', cs = [.int .u8 op, .string n, s, s'] ∧ TSl w ts s ∧ FSl w sub s' ∧ n.size + ts.wt + sub.wt + 1 ≤ Rows.uptoBulk x.1 ∧ 0 ≤ op ∧ ∀ p ∈ sub.parts, 0 ≤ p.op
theorem open_fsliceQ {H : Type} {enc : TypeId × Value → H} {w : World} {base : Nat} {sp : Nat → Bool} {held : Bool} {m : Nat} (ih : ∀ n, n < m → FormOpensQ H enc w base sp held n) {cs : List Value} {x : DataW H × List MemPlace}
    (h : DataW.trod enc Tryz.prog w base sp held m 23 cs = some x) : ∃ ts s, cs = [s] ∧ FSl w ts s ∧ ts.wt ≤ Rows.uptoBulk x.1 ∧ ∀ p ∈ ts.parts, 0 ≤ p.op := by
  rcases DataW.trod_slice Tryz.underlying23 h with ⟨rfl, -⟩ | ⟨a, len, cap, elems, rest, n, rfl, rfl, rfl, -, -, -, hlen, hel, -, -⟩
  · exact ⟨.nil, _, rfl, ⟨none, 0, rfl, .inl rfl⟩, Nat.zero_le _, fun p hp => by cases hp⟩
  · have hi : ∀ i (hi : i < len), ∃ op n ts sub s s', w.cells? base (a.add (i * 4)) 4 = some [.int .u8 op, .string n, s, s'] ∧ TSl w ts s ∧ FSl w sub s' ∧ n.size + ts.wt + sub.wt + 1 ≤ Rows.uptoBulk (elems[i]'(by omega)).1 ∧ 0 ≤ op ∧ ∀ p ∈ sub.parts, 0 ≤ p.op := fun i hi => by
      have h1 := hel i hi
      rw [c27] at h1
      have h2 : elems[i]? = some elems[i] := List.getElem?_eq_getElem (by omega)
      rw [h2] at h1
      obtain ⟨cs', hc, ht⟩ := Option.bind_eq_some_iff.1 h1
      obtain ⟨op, nm, ts, sub, s, s', rfl, hts, hfs, hw, ho⟩ := ih n (by omega) _ _ ht
      exact ⟨op, nm, ts, sub, s, s', hc, hts, hfs, hw, ho⟩
    rcases Nat.eq_zero_or_pos len with rfl | hpos
    · exact ⟨.nil, _, rfl, ⟨some a, cap, rfl, .inl rfl⟩, Nat.zero_le _, fun p hp => by cases hp⟩
    · obtain ⟨b, o, rfl⟩ : ∃ b o, a = ⟨b, o, none⟩ := by
        obtain ⟨_, _, _, _, _, _, hc, _⟩ := hi 0 hpos
        rw [Nat.zero_mul, show a.add 0 = a from rfl] at hc
        exact ⟨_, _, spot_none hc⟩
      have hadd : ∀ i, Addr.add ⟨b, o, none⟩ i = ⟨b, o + i, none⟩ := fun i => by
        by_cases h0 : i = 0
        · subst h0; rfl
        · simp [Addr.add, h0]
      have hall : ∀ d k, k + d = len → ∃ r : Fs, r.len = d ∧ FsAt w r b (o + k * 4) ∧ r.wt ≤ Rows.uptoBulkAll ((elems.drop k).map (·.1)) ∧ ∀ p ∈ r.parts, 0 ≤ p.op := by
        intro d
        induction d with
        | zero => exact fun k _ => ⟨.nil, rfl, trivial, Nat.zero_le _, fun p hp => by cases hp⟩
        | succ d ihd =>
          intro k hk
          obtain ⟨r, hr, hat, hwr, hor⟩ := ihd (k + 1) (by omega)
          obtain ⟨op, nm, ts, sub, s, s', hc, hts, hfs, hw, ho1, ho2⟩ := hi k (by omega)
          rw [hadd] at hc
          obtain ⟨-, hcs⟩ := cells_at hc
          refine ⟨.cons op nm ts sub r, by simp [Fs.len, hr], ⟨hcs 0 (by omega), hcs 1 (by omega), ⟨s, hcs 2 (by omega), hts⟩, ⟨s', hcs 3 (by omega), hfs⟩, by rwa [show o + k * 4 + 4 = o + (k + 1) * 4 by omega]⟩, ?_, fun p hp => ?_⟩
          · rw [List.drop_eq_getElem_cons (by omega : k < elems.length)]
            simp only [List.map_cons, Rows.uptoBulkAll, Fs.wt]
            omega
          · simp only [Fs.parts, List.mem_cons, List.mem_append] at hp
            rcases hp with rfl | hp | hp
            · exact ho1
            · exact ho2 p hp
            · exact hor p hp
      obtain ⟨r, hr, hat, hwr, hor⟩ := hall len 0 (by omega)
      refine ⟨r, _, rfl, ⟨some ⟨b, o, none⟩, cap, by rw [hr], .inr ⟨b, o, rfl, by simpa using hat⟩⟩, ?_, hor⟩
      simp only [Rows.uptoBulk]
      rw [List.drop_zero] at hwr
      omega
theorem open_formQ {H : Type} {enc : TypeId × Value → H} {w : World} {base : Nat} {sp : Nat → Bool} {held : Bool} (m : Nat) : FormOpensQ H enc w base sp held m := by
  induction m using Nat.strongRecOn with
  | _ m ih =>
    intro cs x h
    obtain ⟨xs, n, rfl, hx, hl, hn, hf⟩ := DataW.trod_struct Tryz.underlying25 h
    rw [c27] at hl
    match cs, hl, xs, hn, hx, hf with
    | [a, b, c, d], _, [y0, y1, y2, y3], _, hx, hf =>
      have f0 := hf 0 _ rfl
      have f1 := hf 1 _ rfl
      have f2 := hf 2 _ rfl
      have f3 := hf 3 _ rfl
      simp [c5, c9, c24, c25] at f0 f1 f2 f3
      obtain ⟨op, e0, -, hwf⟩ := DataW.trod_int Tryz.underlying5 f0
      obtain ⟨s, e1, k1, -⟩ := DataW.trod_string Tryz.underlying9 f1
      obtain ⟨ts, sl, e2, hts, hw⟩ := open_tsliceW (fun k _ => open_termW k) f2
      obtain ⟨fs, sl', e3, hfs, hw', ho⟩ := open_fsliceQ (fun k hk => ih k (by omega)) f3
      simp at e0 e1 e2 e3
      refine ⟨op, s, ts, fs, sl, sl', by rw [e0, e1, e2, e3], hts, hfs, ?_, (u8_nonneg hwf), ho⟩
      subst k1 hx
      have hd : s.data.toList.length = s.size := by simp
      simp only [List.map_cons, List.map_nil, Rows.uptoBulk, Rows.uptoBulkAll, hd]
      omega
/-- A formula that comes in. -/
theorem open_formOp {H : Type} {enc : TypeId × Value → H} {w : World} {base b0 : Nat} {sp : Nat → Bool} {held : Bool} {r : Reach} {v : Value} {d : DataW H} {p : List MemPlace} (hv : Value.okWide Tryz.prog w r b0 25 v) (h : DataW.Trod enc Tryz.prog w base sp held 25 v d p) :
    ∃ f : FT, FVal w f v ∧ f.wt ≤ Rows.uptoBulk d ∧ ∀ p ∈ f.parts, 0 ≤ p.op := by
  unfold Value.okWide at hv
  rw [Tryz.underlying25] at hv
  obtain ⟨cs, rfl, hsz, -⟩ := hv
  obtain ⟨m, hm⟩ := h
  obtain ⟨op, n, ts, sub, s, s', hcs, h1, h2, hw, ho1, ho2⟩ := open_formQ m _ _ hm
  simp only [Value.cells] at hcs
  obtain rfl : cs = #[.int .u8 op, .string n, s, s'] := by cases cs; simp_all
  exact ⟨⟨op, n, ts, sub⟩, ⟨s, s', rfl, h1, h2⟩, by simpa [FT.wt] using hw, fun p hp => by
    simp only [FT.parts, List.mem_cons] at hp
    rcases hp with rfl | hp
    · exact ho1
    · exact ho2 p hp⟩
end Go.Proofs.YtngdieldgnlogaaGreatDoor
