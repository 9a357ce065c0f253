/- What seed's and the kit's small functions on lists of integers return, for every input: sum, SameInts, Pick; and the closure that drawer makes. -/
import Derived.Test.YthalafjbkmemhaaDoorX2
namespace Go.Proofs.YthalafjbkmemhaaDoor
open Go Go.RowKit
set_option maxRecDepth 100000
/-- v reads in w as the list l of integers. -/
def Rd (w : World) (v : Value) (l : List Int) : Prop :=
  (v = .slice none 0 0 ∧ l = []) ∨ ∃ b off cap, v = .slice (some ⟨b, off, none⟩) l.length cap ∧ b < w.heap.size ∧ ∀ i, i < l.length → w.cell? ⟨b, off + i, none⟩ = some (.int .i64 (l.getD i 0))
theorem Rd.below {w w' : World} {B : Nat} {v : Value} {l : List Int} (h : Rd w v l) (hb : Below B w w') (hB : w.heap.size ≤ B) : Rd w' v l := by
  rcases h with h | ⟨b, off, cap, h1, h2, h3⟩
  · exact .inl h
  · exact .inr ⟨b, off, cap, h1, Nat.lt_of_lt_of_le h2 hb.size, fun i hi => (hb.cell (p := ⟨b, off + i, none⟩) (Nat.lt_of_lt_of_le h2 hB)).trans (h3 i hi)⟩
def okW (x : Int) : Bool := decide (0 ≤ x ∧ x ≤ 1099511627776)
def sumB (l : List Int) : Bool := decide (l.length ≤ 1000) && l.all okW && decide (0 < l.sum)
def sumV (l : List Int) : Int := if sumB l = true then l.sum else 0
theorem sum_nn : ∀ (l : List Int), l.all okW = true → 0 ≤ l.sum ∧ l.sum ≤ l.length * 1099511627776
  | [], _ => by simp
  | x :: l, h => by
    simp only [List.all_cons, Bool.and_eq_true, okW, decide_eq_true_eq] at h
    have := sum_nn l h.2
    simp only [List.sum_cons, List.length_cons, Int.natCast_add, Int.natCast_one]
    omega
theorem take_sum (l : List Int) (k : Nat) (h : k < l.length) : (l.take (k + 1)).sum = (l.take k).sum + l.getD k 0 := by
  rw [List.take_succ_eq_append_getElem h, List.sum_append]
  simp [List.getD, h]
theorem take_all (l : List Int) (k : Nat) (h : k < l.length) : (l.take (k + 1)).all okW = ((l.take k).all okW && okW (l.getD k 0)) := by
  rw [List.take_succ_eq_append_getElem h, List.all_append]
  simp [List.getD, h]
theorem all_take_false (l : List Int) (k : Nat) (h : (l.take k).all okW = false) : l.all okW = false := by
  rw [← List.take_append_drop k l, List.all_append, h]; rfl
set_option maxHeartbeats 1000000 in
theorem sum_any (v : Value) (l : List Int) (w : World) (h : Rd w v l) (hm : l.length ≤ 9223372036854775807) :
    Calls Tryd.prog 47 #[v] w fun e w' => e = .returned (.tuple #[.int .i64 (sumV l), .bool (sumB l)]) ∧ w = w' := by
  rcases h with ⟨rfl, rfl⟩ | ⟨b, off, cap, rfl, _, hc⟩
  · go_enter Tryd.func47, Tryd.ntmps47
    go_wp2
    go_rounds 1
    go_ret2
    exact ⟨rfl, rfl⟩
  · by_cases hl : l.length ≤ 1000
    · have hl1 : ¬ (1000 : Int) < (l.length : Int) := by omega
      go_enter Tryd.func47, Tryd.ntmps47
      go_wp2
      go_loop [4, 12] (fun s i => ∃ k : Nat, k ≤ l.length ∧ i = .int .i64 k ∧ s = .int .i64 (l.take k).sum ∧ Hid ((l.take k).all okW = true)) (fun _ i => l.length - (intOf i).toNat)
      case atStart => exact ⟨0, Nat.zero_le _, rfl, rfl, Lib.hid rfl⟩
      case round =>
        obtain ⟨k, hk, rfl, rfl, hall⟩ := hrel
        have hs := sum_nn _ hall.out
        have hlen : (l.take k).length ≤ 1000 := by have := List.length_take_le k l; omega
        have hs1 : 0 ≤ (l.take k).sum := hs.1
        have hs2 : (l.take k).sum ≤ 1099511627776000 := by have := hs.2; omega
        clear hs hlen
        by_cases hlt : k < l.length
        · have hck := hc k hlt
          clear hc
          have ts := Lib.hid (take_sum l k hlt)
          have ta := Lib.hid (take_all l k hlt)
          generalize hx : l.getD k 0 = x at hck ts ta
          by_cases h1 : x < 0
          · have hb : sumB l = false := by
              have : (l.take (k+1)).all okW = false := by rw [ta.out, hall.out]; simp [okW]; omega
              simp [sumB, all_take_false _ _ this]
            have hb' : sumV l = 0 := by simp [sumV, hb]
            have HB := Lib.hid hb
            have HV := Lib.hid hb'
            clear hb hb' hx
            go_wp2
            go_ret2
            exact ⟨by rw [HB.out, HV.out]; rfl, rfl⟩
          · by_cases h2 : 1099511627776 < x
            · have hb : sumB l = false := by
                have : (l.take (k+1)).all okW = false := by rw [ta.out, hall.out]; simp [okW]; omega
                simp [sumB, all_take_false _ _ this]
              have hb' : sumV l = 0 := by simp [sumV, hb]
              have HB := Lib.hid hb
              have HV := Lib.hid hb'
              clear hb hb' hx
              go_wp2
              go_ret2
              exact ⟨by rw [HB.out, HV.out]; rfl, rfl⟩
            · clear hx
              have h3 : 0 ≤ x := by omega
              have h4 : x ≤ 1099511627776 := by omega
              go_wp2
              go_round
              case rel => exact ⟨k + 1, by omega, by go_num, by rw [ts.out], Lib.hid (by rw [ta.out, hall.out]; simp [okW]; omega)⟩
              case measure => simp [intOf]; omega
        · have e : l.take k = l := List.take_of_length_le (by omega)
          rw [e] at hall hs1 hs2 ⊢
          have hb : sumB l = decide (0 < l.sum) := by simp [sumB, hl, hall.out]
          have hb' : sumV l = l.sum := by
            simp only [sumV, hb, decide_eq_true_eq]
            split <;> omega
          have HB := Lib.hid hb
          have HV := Lib.hid hb'
          clear hb hb' e hc
          go_wp2
          go_ret2
          exact ⟨by rw [HB.out, HV.out]; rfl, rfl⟩
    · have hb : sumB l = false := by simp [sumB]; omega
      have hb' : sumV l = 0 := by simp [sumV, hb]
      rw [hb, hb']
      have hl1 : (1000 : Int) < (l.length : Int) := by omega
      clear hb hb' hc hl
      go_enter Tryd.func47, Tryd.ntmps47
      go_wp2
      go_ret2
      exact ⟨rfl, rfl⟩
theorem Rd.val {w : World} {v : Value} {l : List Int} (h : Rd w v l) : ∃ a cap, v = .slice a l.length cap := by
  rcases h with ⟨rfl, rfl⟩ | ⟨b, off, cap, rfl, _, _⟩
  · exact ⟨none, 0, rfl⟩
  · exact ⟨_, cap, rfl⟩
theorem Rd.some {w : World} {v : Value} {l : List Int} (h : Rd w v l) (hl : 0 < l.length) : ∃ b off cap, v = .slice (some ⟨b, off, none⟩) l.length cap ∧ b < w.heap.size ∧ ∀ i, i < l.length → w.cell? ⟨b, off + i, none⟩ = some (.int .i64 (l.getD i 0)) := by
  rcases h with ⟨rfl, rfl⟩ | h
  · simp at hl
  · exact h
theorem ext_take (l m : List Int) (k : Nat) (h1 : k < l.length) (h2 : k < m.length) (h : l.take k = m.take k) (e : l.getD k 0 = m.getD k 0) : l.take (k + 1) = m.take (k + 1) := by
  rw [List.take_succ_eq_append_getElem h1, List.take_succ_eq_append_getElem h2, h]
  simp [List.getD, h1, h2] at e
  rw [e]
set_option maxHeartbeats 1000000 in
theorem same_any (v u : Value) (l m : List Int) (w : World) (hv : Rd w v l) (hu : Rd w u m) (hm1 : l.length ≤ 9223372036854775807) (hm2 : m.length ≤ 9223372036854775807) :
    Calls Tryd.prog 28 #[v, u] w fun e w' => e = .returned (.bool (decide (l = m))) ∧ Below w.heap.size w w' := by
  by_cases hl : l.length = m.length
  · by_cases h0 : l.length = 0
    · obtain rfl := List.eq_nil_of_length_eq_zero h0
      obtain rfl := List.eq_nil_of_length_eq_zero (by omega : m.length = 0)
      obtain ⟨a, cap, rfl⟩ := hv.val
      obtain ⟨a2, cap2, rfl⟩ := hu.val
      clear hv hu h0 hl
      go_enter Tryd.func28, Tryd.ntmps28
      go_wp2
      go_rounds 1
      go_ret
      exact ⟨rfl, Below.refl _ _⟩
    · obtain ⟨b, off, cap, rfl, hb, hc⟩ := hv.some (by omega)
      obtain ⟨b2, off2, cap2, rfl, hb2, hc2⟩ := hu.some (by omega)
      clear hv hu
      have t1 : ((l.length : Int) != (m.length : Int)) = false := by rw [hl]; simp
      have t2 : ((l.length : Int) == (m.length : Int)) = true := by rw [hl]; simp
      have HL := Lib.hid hl
      have hle : l.length ≤ m.length := by omega
      have hle2 : m.length ≤ l.length := by omega
      clear hl h0
      go_enter Tryd.func28, Tryd.ntmps28
      go_wp2
      go_loopw [5] (fun i wr => ∃ k : Nat, k ≤ l.length ∧ i = .int .i64 k ∧ Hid (l.take k = m.take k) ∧ Below w.heap.size w wr) (fun i _ => l.length - (intOf i).toNat)
      case atStart => exact ⟨0, Nat.zero_le _, rfl, Lib.hid rfl, Below.refl _ _⟩
      case round =>
        obtain ⟨k, hk, rfl, hall, hbw⟩ := hrel
        by_cases hlt : k < l.length
        · have c1 : wr.cell? ⟨b, off + k, none⟩ = some (.int .i64 (l.getD k 0)) := (hbw.cell (p := ⟨b, off + k, none⟩) hb).trans (hc k hlt)
          have c2 : wr.cell? ⟨b2, off2 + k, none⟩ = some (.int .i64 (m.getD k 0)) := (hbw.cell (p := ⟨b2, off2 + k, none⟩) hb2).trans (hc2 k (by omega))
          have hlt2 : k < m.length := by omega
          have HE := Lib.hid (ext_take l m k hlt hlt2 hall.out)
          have HN : l.getD k 0 ≠ m.getD k 0 → decide (l = m) = false := fun hne => by
            apply decide_eq_false
            intro e
            rw [e] at hne
            exact hne rfl
          have HN' := Lib.hid HN
          clear hc hc2 HN
          generalize l.getD k 0 = x at c1 HE HN'
          generalize m.getD k 0 = y at c2 HE HN'
          by_cases hxy : x = y
          · subst hxy
            have HE2 := Lib.hid (HE.out rfl)
            clear HE
            have e1 : (x != x) = false := by simp
            go_wp2
            go_quiet (fail)
            go_wp2
            go_roundw
            case rel => exact ⟨k + 1, by omega, by go_num, HE2, below_drewN hbw _⟩
            case measure => simp [intOf]; omega
          · have e1 : (x != y) = true := by simpa using hxy
            have e2 : (x == y) = false := by simpa using hxy
            have HF := Lib.hid (HN'.out hxy)
            clear hxy HN' HE
            go_wp2
            go_quiet (fail)
            go_wp2
            go_ret
            exact ⟨by rw [HF.out]; rfl, below_drewN hbw _⟩
        · have e : l = m := by
            have := hall.out
            rw [List.take_of_length_le (by omega), List.take_of_length_le (by omega)] at this
            exact this
          have HT := Lib.hid (decide_eq_true e)
          clear e hc hc2
          go_wp2
          go_ret
          exact ⟨by rw [HT.out]; rfl, hbw⟩
  · have hne : decide (l = m) = false := decide_eq_false (fun e => hl (by rw [e]))
    rw [hne]
    obtain ⟨a, cap, rfl⟩ := hv.val
    obtain ⟨a2, cap2, rfl⟩ := hu.val
    have t1 : ((l.length : Int) != (m.length : Int)) = true := by simp; omega
    have t2 : ((l.length : Int) == (m.length : Int)) = false := by simp; omega
    clear hv hu hne hl
    go_enter Tryd.func28, Tryd.ntmps28
    go_wp2
    go_ret
    exact ⟨rfl, Below.refl _ _⟩
def pickI (a n : Int) : Int := a % n
theorem tmod_cases (a n : Int) (h1 : 1 ≤ n) : (a.tmod n = a % n ∧ 0 ≤ a % n ∧ a % n < n) ∨ (a.tmod n = a % n - n ∧ 0 < a % n ∧ a % n < n) := by
  have p1 : 0 ≤ a % n := Int.emod_nonneg _ (by omega)
  have p2 : a % n < n := Int.emod_lt_of_pos a (by omega)
  have e := Int.tmod_eq_emod (a := a) (b := n)
  split at e
  · exact .inl ⟨by omega, p1, p2⟩
  · rename_i hd
    have : a % n ≠ 0 := fun h0 => hd (.inr (Int.dvd_of_emod_eq_zero h0))
    exact .inr ⟨by omega, by omega, p2⟩
set_option maxHeartbeats 1000000 in
theorem pick_any (a n : Int) (w : World) (h1 : 1 ≤ n) (h2 : n ≤ 9223372036854775807) :
    Calls Tryd.prog 23 #[.int .i64 a, .int .i64 n] w fun e w' => e = .returned (.int .i64 (pickI a n)) ∧ w = w' := by
  rcases tmod_cases a n h1 with ⟨e, p1, p2⟩ | ⟨e, p1, p2⟩
  · have q1 : 0 ≤ a.tmod n := by omega
    have q2 : a.tmod n ≤ 9223372036854775807 := by omega
    have HE := Lib.hid e
    clear e p1 p2
    go_enter Tryd.func23, Tryd.ntmps23
    go_wp2
    go_ret
    exact ⟨by unfold pickI; rw [← HE.out]; rfl, rfl⟩
  · have q1 : a.tmod n < 0 := by omega
    have q2 : 0 ≤ a.tmod n + n := by omega
    have q3 : a.tmod n + n ≤ 9223372036854775807 := by omega
    have q4 : -9223372036854775808 ≤ a.tmod n := by omega
    have HE := Lib.hid (show a.tmod n + n = pickI a n by unfold pickI; omega)
    clear e p1 p2
    go_enter Tryd.func23, Tryd.ntmps23
    go_wp2
    go_ret
    exact ⟨by rw [← HE.out]; rfl, rfl⟩
end Go.Proofs.YthalafjbkmemhaaDoor
