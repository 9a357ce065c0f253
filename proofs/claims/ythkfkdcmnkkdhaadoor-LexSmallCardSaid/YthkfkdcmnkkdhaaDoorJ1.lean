/- Join: the texts of all tokens but the end, a space between them. -/
import Derived.Test.YthkfkdcmnkkdhaaDoorT1
import Derived.Test.YthkfkdcmnkkdhaaDoorH1
namespace Go.Proofs.YthkfkdcmnkkdhaaDoor
open Go Go.RowKit
set_option maxRecDepth 100000
set_option linter.unusedVariables false
/-- The texts that are joined. -/
def texts (l : List Lx.Tok) : List (List UInt8) := (l.filter fun t => t.k != 5).map (·.t)
theorem texts_nil : texts [] = [] := rfl
theorem texts_snoc (l : List Lx.Tok) (t : Lx.Tok) : texts (l ++ [t]) = if t.k = 5 then texts l else texts l ++ [t.t] := by
  unfold texts
  rw [List.filter_append]
  by_cases h : t.k = 5
  · simp [h]
  · simp [h]
theorem take_snoc' {α : Type} (l : List α) (i : Nat) (x : α) (h : l[i]? = some x) : l.take (i + 1) = l.take i ++ [x] := by
  rw [List.take_add_one, h]
  rfl
theorem texts_len (l : List Lx.Tok) : (texts l).length ≤ l.length := by
  unfold texts
  rw [List.length_map]
  exact List.length_filter_le _ _
theorem join_joinT (l : List (List UInt8)) : Lib.join l [32] = Lx.joinT l := by
  match l with
  | [] => rfl
  | [t] => simp [Lib.join_one, Lx.joinT]
  | t :: u :: r =>
    have := join_joinT (u :: r)
    simp only [Lx.joinT]
    rw [← this]
    simp [Lib.join]
theorem joinT_len (N : Nat) : ∀ (l : List (List UInt8)), (∀ t ∈ l, t.length ≤ N) → (Lx.joinT l).length ≤ l.length * (N + 1)
  | [], _ => by simp [Lx.joinT]
  | [t], h => by have := h t (by simp); simp only [Lx.joinT, List.length_cons, List.length_nil]; omega
  | t :: u :: r, h => by
    have h1 := h t (by simp)
    have h2 := joinT_len N (u :: r) (fun x hx => h x (by simp [hx]))
    simp only [Lx.joinT, List.length_append, List.length_cons] at h2 ⊢
    rw [show (r.length + 1 + 1) * (N + 1) = (r.length + 1) * (N + 1) + (N + 1) by rw [Nat.add_mul]; omega]
    omega
/-- Texts that a round owns. -/
def strs (l : List (List UInt8)) : List Value := l.map fun t => .string ⟨t.toArray⟩
theorem info34 : (Tryd.prog.info? 9).map (fun i => (i.zero, i.size, i.bytes)) = some (some (.string ⟨#[]⟩), 1, 16) := by kernel_rfl
theorem map_bytes (L : List (List UInt8)) : (L.map fun x => (⟨x.toArray⟩ : ByteArray)).map (fun x => x.data.toList) = L := by
  rw [List.map_map]
  have e : (fun x : ByteArray => x.data.toList) ∘ (fun x : List UInt8 => (⟨x.toArray⟩ : ByteArray)) = id := by funext x; simp
  rw [e, List.map_id]
theorem owns_cap {V : World} {B : Nat} {g n cap : Nat} {e : TypeId} {xs : List Value} (h : V.ownsRow B e 1 (.slice (some ⟨g, 0, none⟩) n cap) n xs) : n ≤ cap := by
  obtain ⟨h1, ⟨e, h0⟩ | ⟨g', cap', cur, e, h2, h3, h4⟩⟩ := h
  · cases e
  · cases e
    exact h4.1
theorem join_row (L : List (List UInt8)) (v : Value) (B : Nat) (w : World) (h : w.ownsRow B 9 1 v L.length (strs L)) (hb : (Lx.joinT L).length ≤ 140737488355328) (hL : L.length ≤ 1000000) :
    Calls Tryd.prog 21 #[v, .string ⟨#[32]⟩] w fun e w' => e = .returned (.string ⟨(Lx.joinT L).toArray⟩) ∧ Below w.heap.size w w' := by
  obtain ⟨h1, ⟨rfl, h0⟩ | ⟨g, cap, cur, rfl, h2, h3, h4⟩⟩ := id h
  · have : L = [] := List.length_eq_zero_iff.1 h0
    subst this
    exact (Tryd.join_none none 0 ⟨#[32]⟩ w).mono fun e w' ⟨he, hw⟩ => ⟨he, hw ▸ Below.refl _ _⟩
  · have hc := h.cells (g := g) rfl
    have hgl := (h.lt g rfl).2
    have hcells : ∀ (j : Nat) (x : ByteArray), (L.map fun x => (⟨x.toArray⟩ : ByteArray))[j]? = some x → w.cell? ⟨g, 0 + j, none⟩ = some (.string x) := by
      intro j x hj
      have h5 := hc j (.string x) (by
        rw [strs, List.getElem?_map]
        rw [List.getElem?_map] at hj
        cases hq : L[j]? with
        | none => rw [hq] at hj; cases hj
        | some y => rw [hq] at hj; cases hj; rfl)
      rw [Nat.zero_add]
      by_cases hj0 : j = 0
      · subst hj0; simpa [Addr.add] using h5
      · simpa [Addr.add, hj0] using h5
    have e2 : Lib.join ((L.map fun x => (⟨x.toArray⟩ : ByteArray)).map (fun x => x.data.toList)) (⟨#[32]⟩ : ByteArray).data.toList = Lx.joinT L := by
      rw [map_bytes]
      exact join_joinT L
    have h6 := Tryd.join_any g 0 cap (L.map fun x => ⟨x.toArray⟩) ⟨#[32]⟩ w hcells hgl (by rw [List.length_map]; omega) (by rw [List.length_map]; exact owns_cap h) (by rw [e2]; exact hb)
    rw [e2, List.length_map] at h6
    exact h6
set_option maxHeartbeats 2000000 in
theorem lexJoin_any (l : List Lx.Tok) (s : Value) (w : World) (h : TokSl w l s) (hl : l.length ≤ 20000) (hn : ∀ t ∈ l, t.t.length ≤ 20000) :
    Calls Tryd.prog 13 #[s] w fun e w' => e = .returned (.string ⟨(Lx.joinT (texts l)).toArray⟩) ∧ Below w.heap.size w w' := by
  obtain ⟨i0, hi, hz0, hz1, hz2⟩ := info_parts info34
  obtain ⟨p, c, b, o, rfl, hp, hat⟩ := h.opened
  have hath := Lib.hid hat
  clear hat h
  go_enter Tryd.func13, Tryd.ntmps13
  go_wp2_with fail
  go_loopw [3, 8] (fun v i wr => ∃ (k cv : Nat) (pv : Option Addr), k ≤ l.length ∧ v = .slice pv (texts (l.take k)).length cv ∧ i = .int .i64 k ∧ wr.ownsRow w.heap.size 9 1 v (texts (l.take k)).length (strs (texts (l.take k))) ∧ Below w.heap.size w wr) (fun _ i _ => l.length - (intOf i).toNat)
  case atStart => exact ⟨0, 0, none, Nat.zero_le _, rfl, rfl, World.ownsRow_nil _ _ _ _, Below.refl _ _⟩
  case round =>
    obtain ⟨k, cv, pv, hk, rfl, rfl, hown, hb⟩ := hrel
    have htl := texts_len (l.take k)
    rw [List.length_take, Nat.min_eq_left hk] at htl
    by_cases hlt : k < l.length
    · have hlt' : (k : Int) < (l.length : Int) := by omega
      obtain ⟨t, ht⟩ : ∃ t, l[k]? = some t := ⟨_, List.getElem?_eq_getElem hlt⟩
      rcases hp with hp | rfl
      · omega
      obtain ⟨a0, a1, a2⟩ := hath.out k t ht
      have d0 := cell_below hb a0
      have d1 := cell_below hb a1
      have d2 := cell_below hb a2
      have hts := take_snoc' l k t ht
      have hsn := texts_snoc (l.take k) t
      rw [← hts] at hsn
      have hsnh := Lib.hid hsn
      clear hsn hts a0 a1 a2
      generalize texts (l.take k) = L at hown htl hsnh ⊢
      have hownh := Lib.hid hown
      have hbh := Lib.hid hb
      clear hown hb
      by_cases h5 : t.k = 5
      · have h5a : (t.k == 5) = true := beq_iff_eq.2 h5
        have h5b : (t.k != 5) = false := by simp [h5]
        rw [if_pos h5] at hsnh
        rw [h5] at d0
        go_wp2_with fail
        go_roundw
        case rel => exact ⟨k + 1, cv, pv, by omega, by rw [hsnh.out], by go_num, by rw [hsnh.out]; exact hownh.out.alloc _, bel_step hbh.out (bel_laid _ _)⟩
        case measure => simp [intOf]; omega
      · have h5a : (t.k == 5) = false := by simpa using h5
        have h5b : (t.k != 5) = true := by simpa using h5
        rw [if_neg h5] at hsnh
        go_wp2_with (at_builtin; refine wpList_append_own _ rfl _ _ 34 rfl w.heap.size 9 i0 (.string ⟨#[]⟩) 1 16 Tryd.underlying34 hi hz0 hz1 hz2 rfl (by decide) _ _ _ rfl ((hownh.out.alloc _).alloc _) ⟨wr.heap.size + 1, 0, none⟩ 1 1 [.string ⟨t.t.toArray⟩] rfl rfl ?c1 ?c2 ?c3 ?c4 ?c5 ?_)
        case c1 =>
          intro j u hj
          match j, hj with
          | 0, hj => simp at hj; subst hj; simp [Addr.add, go_sem]
        case c2 => intro u hu; simp at hu; subst hu; rfl
        case c3 => unfold maxLen; omega
        case c4 => omega
        case c5 => have := hbh.out.size; simp; omega
        intro v' w1 hown' hgrow _
        obtain ⟨pv', cv', rfl⟩ : ∃ pv cv, v' = .slice pv (L.length + 1) cv := by
          obtain ⟨-, ⟨rfl, h0⟩ | ⟨g, cap, cur, rfl, -⟩⟩ := id hown'
          · exact ⟨none, 0, by rw [h0]⟩
          · exact ⟨_, _, rfl⟩
        have hb1 : Below w.heap.size w w1 := (bel_step hbh.out (bel_step (bel_laid wr _) (bel_laid _ _))).grown hgrow (by have := hbh.out.size; simp; omega) (fun g hg => (hownh.out.lt g hg).1)
        go_wp2_with fail
        go_roundw
        case rel => exact ⟨k + 1, cv', pv', by omega, by rw [hsnh.out]; simp, by go_num, by rw [hsnh.out]; simpa [strs] using hown', hb1⟩
        case measure => simp [intOf]; omega
    · obtain rfl : k = l.length := by omega
      rw [List.take_length] at hown htl ⊢
      have hNs : ∀ x ∈ texts l, x.length ≤ 20000 := by
        intro x hx
        obtain ⟨t, ht, rfl⟩ := List.mem_map.1 hx
        exact hn t (List.mem_filter.1 ht).1
      have hjl := joinT_len 20000 (texts l) hNs
      have hjl2 : (texts l).length * (20000 + 1) ≤ 20000 * 20001 := Nat.mul_le_mul (by omega) (by omega)
      have hjb : (Lx.joinT (texts l)).length ≤ 140737488355328 := by omega
      obtain ⟨L, hL⟩ : ∃ L, texts l = L := ⟨_, rfl⟩
      rw [hL] at hown htl hjb ⊢
      have hcall := join_row L _ w.heap.size wr hown hjb (by omega)
      have hch := Lib.hid hcall
      have hbh := Lib.hid hb
      have hLh := Lib.hid hL
      clear hown hb hcall hL hjl hjl2 hNs htl
      go_wp2_with (go_at_call 21; refine hch.out.mono ?_; rintro e w5 ⟨rfl, hb5⟩)
      go_ret
      exact ⟨by rw [hLh.out]; rfl, bel_step hbh.out hb5⟩
end Go.Proofs.YthkfkdcmnkkdhaaDoor
