/- The reference's Join; tokens compared. -/
import Derived.Test.YthkfkdcmnkkdhaaDoorJ1
namespace Go.Proofs.YthkfkdcmnkkdhaaDoor
open Go Go.RowKit
set_option maxRecDepth 100000
set_option linter.unusedVariables false
theorem joinT_snoc (l : List (List UInt8)) (t : List UInt8) : Lx.joinT (l ++ [t]) = if l.length = 0 then t else Lx.joinT l ++ (32 :: t) := by
  match l with
  | [] => rfl
  | [a] => rfl
  | a :: b :: r =>
    have := joinT_snoc (b :: r) t
    rw [if_neg (by simp)] at this ⊢
    simp only [List.cons_append, Lx.joinT] at this ⊢
    rw [this]
    simp
theorem bytes_app (a b : List UInt8) : (⟨a.toArray⟩ : ByteArray) ++ ⟨b.toArray⟩ = ⟨(a ++ b).toArray⟩ := by
  apply ByteArray.ext
  rw [ByteArray.data_append]
  simp
set_option maxHeartbeats 2000000 in
theorem refJoin_any (l : List Lx.Tok) (s : Value) (w : World) (h : TokSl w l s) (hl : l.length ≤ 20000) (hn : ∀ t ∈ l, t.t.length ≤ 20000) :
    Calls Tryd.prog 14 #[s] w fun e w' => e = .returned (.string ⟨(Lx.joinT (texts l)).toArray⟩) ∧ Below w.heap.size w w' := by
  obtain ⟨p, c, b, o, rfl, hp, hat⟩ := h.opened
  have hath := Lib.hid hat
  clear hat h
  go_enter Tryd.func14, Tryd.ntmps14
  go_wp2_with fail
  go_loop [3, 4, 5] (fun v m i => ∃ k : Nat, k ≤ l.length ∧ v = .string ⟨(Lx.joinT (texts (l.take k))).toArray⟩ ∧ m = .int .i64 (texts (l.take k)).length ∧ i = .int .i64 k) (fun _ _ i => l.length - (intOf i).toNat)
  case atStart => exact ⟨0, Nat.zero_le _, rfl, rfl, rfl⟩
  case round =>
    obtain ⟨k, hk, rfl, rfl, rfl⟩ := hrel
    have htl := texts_len (l.take k)
    rw [List.length_take, Nat.min_eq_left hk] at htl
    by_cases hlt : k < l.length
    · have hlt' : (k : Int) < (l.length : Int) := by omega
      obtain ⟨t, ht⟩ : ∃ t, l[k]? = some t := ⟨_, List.getElem?_eq_getElem hlt⟩
      rcases hp with hp | rfl
      · omega
      obtain ⟨a0, a1, a2⟩ := hath.out k t ht
      have hts := take_snoc' l k t ht
      have hsn := texts_snoc (l.take k) t
      rw [← hts] at hsn
      have hsnh := Lib.hid hsn
      have hNs : ∀ x ∈ texts (l.take k), x.length ≤ 20000 := by
        intro x hx
        obtain ⟨t, ht, rfl⟩ := List.mem_map.1 hx
        exact hn t (List.mem_of_mem_take (List.mem_filter.1 ht).1)
      have hjl := joinT_len 20000 (texts (l.take k)) hNs
      have hjl2 : (texts (l.take k)).length * (20000 + 1) ≤ 20000 * 20001 := Nat.mul_le_mul (by omega) (by omega)
      have htn := hn t (List.mem_of_getElem? ht)
      have hjb : (Lx.joinT (texts (l.take k))).length ≤ 400020000 := by omega
      clear hsn hts hjl hjl2 hNs
      generalize texts (l.take k) = L at htl hsnh hjb ⊢
      by_cases h5 : t.k = 5
      · have h5a : (t.k == 5) = true := beq_iff_eq.2 h5
        rw [if_pos h5] at hsnh
        rw [h5] at a0
        go_wp2_with fail
        go_round
        case rel => exact ⟨k + 1, by omega, by rw [hsnh.out], by rw [hsnh.out], by go_num⟩
        case measure => simp [intOf]; omega
      · have h5a : (t.k == 5) = false := by simpa using h5
        rw [if_neg h5] at hsnh
        by_cases h0 : L.length = 0
        · have hL : L = [] := List.length_eq_zero_iff.1 h0
          subst hL
          go_wp2_with fail
          refine ⟨⟨k + 1, by omega, ?_, by rw [hsnh.out]; rfl, by go_num⟩, by simp [intOf]; omega⟩
          rw [hsnh.out, bytes_app]
          rfl
        · have h0' : (0 : Int) < (L.length : Int) := by omega
          go_wp2_with fail
          refine ⟨⟨k + 1, by omega, ?_, by rw [hsnh.out, List.length_append]; simp, by go_num⟩, by simp [intOf]; omega⟩
          rw [hsnh.out, show (#[32] : Array UInt8) = ([32] : List UInt8).toArray from rfl, bytes_app, bytes_app, joinT_snoc, if_neg h0]
          simp
    · obtain rfl : k = l.length := by omega
      rw [List.take_length]
      go_wp2_with fail
      go_ret
      exact ⟨rfl, Below.refl _ _⟩
/-- Tokens are the same, as two functions of the law tell it. -/
theorem tok_of {W : World} {l : List Lx.Tok} {s : Value} (h : TokSl W l s) : ∃ p c b o, s = .slice p l.length c ∧ (l.length = 0 ∨ p = some ⟨b, o, none⟩) ∧ TokAt W l b o := h.opened
set_option maxHeartbeats 2000000 in
theorem same_any (l : List Lx.Tok) (s s' : Value) (w : World) (h : TokSl w l s) (h' : TokSl w l s') (hl : l.length ≤ 20000) :
    Calls Tryd.prog 15 #[s, s'] w fun e w' => e = .returned (.bool true) ∧ Below w.heap.size w w' := by
  obtain ⟨p, c, b, o, rfl, hp, hat⟩ := h.opened
  obtain ⟨p', c', b', o', rfl, hp', hat'⟩ := h'.opened
  have hath := Lib.hid hat
  have hath' := Lib.hid hat'
  clear hat hat' h h'
  go_enter Tryd.func15, Tryd.ntmps15
  go_wp2_with fail
  go_loopw [5] (fun i wr => ∃ k : Nat, k ≤ l.length ∧ i = .int .i64 k ∧ Below w.heap.size w wr) (fun i _ => l.length - (intOf i).toNat)
  case atStart => exact ⟨0, Nat.zero_le _, rfl, Below.refl _ _⟩
  case round =>
    obtain ⟨k, hk, rfl, hb⟩ := hrel
    by_cases hlt : k < l.length
    · have hlt' : (k : Int) < (l.length : Int) := by omega
      obtain ⟨t, ht⟩ : ∃ t, l[k]? = some t := ⟨_, List.getElem?_eq_getElem hlt⟩
      rcases hp with hp | rfl
      · omega
      rcases hp' with hp' | rfl
      · omega
      obtain ⟨a0, a1, a2⟩ := hath.out k t ht
      obtain ⟨b0, b1, b2⟩ := hath'.out k t ht
      have d0 := cell_below hb a0
      have d1 := cell_below hb a1
      have d2 := cell_below hb a2
      have f0 := cell_below hb b0
      have f1 := cell_below hb b1
      have f2 := cell_below hb b2
      have hbh := Lib.hid hb
      have q1 : (t.k != t.k) = false := by simp
      have q2 : (t.at' != t.at') = false := by simp
      clear a0 a1 a2 b0 b1 b2 hb ht
      go_wp2_with fail
      go_quiet (fail)
      go_wp2_with fail
      exact ⟨⟨k + 1, by omega, by go_num, bel_step hbh.out (bel_drewN _ _)⟩, by simp [intOf]; omega⟩
    · obtain rfl : k = l.length := by omega
      go_wp2_with fail
      go_ret
      exact ⟨rfl, hb⟩
theorem alike_len : ∀ {l m : List Lx.Tok}, Lx.Alike l m → l.length = m.length
  | [], [], _ => rfl
  | _ :: _, _ :: _, h => by simp only [List.length_cons]; rw [alike_len h.2.2]
theorem alike_get : ∀ {l m : List Lx.Tok}, Lx.Alike l m → ∀ (i : Nat) (t u : Lx.Tok), l[i]? = some t → m[i]? = some u → t.k = u.k ∧ t.t = u.t
  | [], [], _, i, t, u, h, _ => by simp at h
  | a :: l, b :: m, h, i, t, u, h1, h2 => by
    cases i with
    | zero => simp at h1 h2; subst h1 h2; exact ⟨h.1, h.2.1⟩
    | succ i => exact alike_get h.2.2 i t u (by simpa using h1) (by simpa using h2)
set_option maxHeartbeats 2000000 in
theorem alike_any (l m : List Lx.Tok) (s s' : Value) (w : World) (h : TokSl w l s) (h' : TokSl w m s') (hl : l.length ≤ 20000) (ha : Lx.Alike l m) :
    Calls Tryd.prog 17 #[s, s'] w fun e w' => e = .returned (.bool true) ∧ Below w.heap.size w w' := by
  have hlm := alike_len ha
  have hag := Lib.hid (alike_get ha)
  clear ha
  obtain ⟨p, c, b, o, rfl, hp, hat⟩ := h.opened
  obtain ⟨p', c', b', o', rfl, hp', hat'⟩ := h'.opened
  have hath := Lib.hid hat
  have hath' := Lib.hid hat'
  rw [← hlm] at hp' ⊢
  clear hat hat' h h'
  go_enter Tryd.func17, Tryd.ntmps17
  go_wp2_with fail
  go_loopw [5] (fun i wr => ∃ k : Nat, k ≤ l.length ∧ i = .int .i64 k ∧ Below w.heap.size w wr) (fun i _ => l.length - (intOf i).toNat)
  case atStart => exact ⟨0, Nat.zero_le _, rfl, Below.refl _ _⟩
  case round =>
    obtain ⟨k, hk, rfl, hb⟩ := hrel
    by_cases hlt : k < l.length
    · have hlt' : (k : Int) < (l.length : Int) := by omega
      obtain ⟨t, ht⟩ : ∃ t, l[k]? = some t := ⟨_, List.getElem?_eq_getElem hlt⟩
      rcases hp with hp | rfl
      · omega
      rcases hp' with hp' | rfl
      · omega
      obtain ⟨a0, a1, a2⟩ := hath.out k t ht
      obtain ⟨u, hu⟩ : ∃ u, m[k]? = some u := ⟨_, List.getElem?_eq_getElem (by omega)⟩
      obtain ⟨g1, g2⟩ := hag.out k t u ht hu
      obtain ⟨b0, b1, b2⟩ := hath'.out k u hu
      rw [← g1] at b0
      rw [← g2] at b1
      have d0 := cell_below hb a0
      have d1 := cell_below hb a1
      have f0 := cell_below hb b0
      have f1 := cell_below hb b1
      have hbh := Lib.hid hb
      have q1 : (t.k != t.k) = false := by simp
      clear a0 a1 a2 b0 b1 b2 hb ht hu g1 g2
      go_wp2_with fail
      go_quiet (fail)
      go_wp2_with fail
      exact ⟨⟨k + 1, by omega, by go_num, bel_step hbh.out (bel_drewN _ _)⟩, by simp [intOf]; omega⟩
    · obtain rfl : k = l.length := by omega
      go_wp2_with fail
      go_ret
      exact ⟨rfl, hb⟩
end Go.Proofs.YthkfkdcmnkkdhaaDoor
