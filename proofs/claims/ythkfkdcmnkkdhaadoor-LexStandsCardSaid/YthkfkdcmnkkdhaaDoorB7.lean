/- LexStands. -/
import Derived.Test.YthkfkdcmnkkdhaaDoorB6
import Derived.Test.YthkfkdcmnkkdhaaDoorL6
namespace Go.Proofs.YthkfkdcmnkkdhaaDoor
open Go Go.RowKit
set_option maxRecDepth 100000
set_option linter.unusedVariables false
theorem bla_cases {c : Int} (h : blaC c = true) : c = 32 ∨ c = 9 ∨ c = 10 ∨ c = 13 := by
  simp only [blaC, Bool.or_eq_true, beq_iff_eq] at h
  omega
/-- A part of a text, as a string's part tells it. -/
theorem part_eq (x : ByteArray) (q n : Nat) (t : List UInt8) (h : t = (x.data.toList.drop q).take n) : (x.extract q (q + n)).toList = t := by
  rw [ByteArray.toList_eq, ByteArray.data_extract, Array.toList_extract, h]
  simp [List.extract_eq_take_drop]
set_option maxHeartbeats 4000000 in
theorem lexStands_walk (s : ByteArray) (w : World) (hsg : Sgs w) (hm : s.size ≤ maxLen) : Calls Tryd.prog 7 #[.string s] w fun e w' => e = .returned (.bool true) ∧ Below w.heap.size w w' := by
  unfold maxLen at hm
  have hsh := Lib.hid hsg
  have hA := Lib.hid (awake_any w hsg)
  clear hsg
  by_cases hlong : 3000 < s.size
  · have h1 : (3000 : Int) < (s.size : Int) := by omega
    go_enter Tryd.func7, Tryd.ntmps7
    go_wp2_with fail
    refine hA.out.mono ?_
    rintro e w1 ⟨rfl, hb1⟩
    clear hA
    go_wp2_with fail
    go_ret
    exact ⟨rfl, hb1⟩
  · have h1 : (s.size : Int) ≤ 3000 := by omega
    have hLx := Lib.hid (fun W h => lex_small s (by omega) W h)
    go_enter Tryd.func7, Tryd.ntmps7
    go_wp2_with fail
    refine hA.out.mono ?_
    rintro e w1 ⟨rfl, hb1⟩
    have hs1 := hsh.out.of hb1
    have hb1h := Lib.hid hb1
    clear hA hb1 hsh
    go_wp2_with fail
    refine (hLx.out w1 hs1).mono ?_
    rintro e w2 ⟨v, a, er, rfl, ho, hb2⟩
    have hb2h := Lib.hid (bel_step hb1h.out hb2)
    clear hb1h hs1 hLx hb2
    cases hq : Lx.lex rkL mkL s.data.toList 0 with
    | bad p e2 =>
      have he := Lx.lex_bad_e rkL mkL kinds _ _ _ _ _ (Nat.le_refl _) hq
      rw [hq] at ho
      obtain ⟨rfl, rfl, rfl⟩ := ho
      rcases he with rfl | rfl
      all_goals
        go_wp2_with fail
        go_ret
        exact ⟨rfl, hb2h.out⟩
    | ok l =>
      obtain ⟨j1, -⟩ := joined_math (by rw [Array.length_toList]; show s.size ≤ 3000; omega) hq
      rw [hq] at ho
      obtain ⟨htk, rfl, rfl⟩ := ho
      obtain ⟨p, c, b, o, rfl, hp, hat⟩ := htk.opened
      have hath := Lib.hid hat
      have hqh := Lib.hid hq
      clear hq htk hat
      go_wp2_with fail
      go_loopw [6, 7] (fun at' i wr => ∃ k q : Nat, k ≤ l.length ∧ q ≤ s.size ∧ i = .int .i64 k ∧ at' = .int .i64 q ∧ Below w2.heap.size w2 wr ∧ (k = l.length ∧ q = s.size ∨ Lx.lex rkL mkL (s.data.toList.drop q) q = .ok (l.drop k))) (fun _ i _ => l.length - (intOf i).toNat)
      case atStart => exact ⟨0, 0, Nat.zero_le _, Nat.zero_le _, rfl, rfl, Below.refl _ _, .inr (by simpa using hqh.out)⟩
      case round =>
        obtain ⟨k, q, hk, hqs, rfl, rfl, hb, hlx⟩ := hrel
        have hbh := Lib.hid hb
        by_cases hlt : k < l.length
        · have hlt' : (k : Int) < (l.length : Int) := by omega
          rcases hlx with ⟨h, -⟩ | hlx
          · omega
          obtain ⟨q2, t, rest, e1, e2, e3, e4, e5, e6⟩ := lex_at s q hqs _ hlx
          have ht : l[k]? = some t := by
            have := congrArg (fun y : List Lx.Tok => y[0]?) e1
            simpa using this
          have hrest : l.drop (k + 1) = rest := by
            rw [← List.drop_drop, e1]
            rfl
          rcases hp with hp | rfl
          · omega
          obtain ⟨a0, a1, a2⟩ := hath.out k t ht
          rw [e2] at a2
          have d0 := cell_below hb a0
          have d1 := cell_below hb a1
          have d2 := cell_below hb a2
          have e5h := Lib.hid e5
          have hresth := Lib.hid hrest
          have hqq : (q : Int) ≤ (q2 : Int) := by omega
          have hq2s : (q2 : Int) ≤ (s.size : Int) := by omega
          clear a0 a1 a2 ht hb e1 hlx hrest e5 e2
          rcases e6 with ⟨rfl, k5, kt, kr⟩ | ⟨k5, n, hn1, hn2, hn3, hn4, hn5, hn6⟩
          · rw [k5] at d0
            rw [kt] at d1
            have hkl : k + 1 = l.length := by
              have := congrArg List.length (hresth.out.trans kr)
              rw [List.length_drop, List.length_nil] at this
              omega
            have hkl' : ((k : Int) + 1 == (l.length : Int)) = true := by simp; omega
            have hpart : (s.extract s.size s.size).toList = [] := part_eq s s.size 0 [] (by simp)
            have hw0 : IntKind.i64.wrap (s.size : Int) = (s.size : Int) := IntWalk.i64_in _ (by omega)
            have hw1 : IntKind.i64.wrap ((s.size : Int) + 0) = (s.size : Int) := by rw [Int.add_zero]; exact hw0
            have hw2 : IntKind.i64.wrap ((k : Int) + 1) = (k : Int) + 1 := IntWalk.i64_in _ (by omega)
            have hp0 : (0 : Int) ≤ (s.size : Int) := by omega
            have hbl2 := bel_laid wr (.cells #[.int .u8 5, .string ⟨([] : List UInt8).toArray⟩, .int .i64 (s.size : Int)] 27)
            go_wp2_with fail
            go_quiet (fail)
            have hbV := Lib.hid (bel_step (bel_step hbh.out hbl2) (bel_drewN _ nq))
            obtain ⟨y1, -⟩ := blk_below (bel_drewN (wr.alloc (.cells #[.int .u8 5, .string ⟨([] : List UInt8).toArray⟩, .int .i64 (s.size : Int)] 27)) nq) 1 _ rfl
            obtain ⟨y2, -⟩ := blk_below (bel_drewN (wr.alloc (.cells #[.int .u8 5, .string ⟨([] : List UInt8).toArray⟩, .int .i64 (s.size : Int)] 27)) nq) 2 _ rfl
            generalize (wr.alloc (.cells #[.int .u8 5, .string ⟨([] : List UInt8).toArray⟩, .int .i64 (s.size : Int)] 27)).drewN nq = V at y1 y2 hbV ⊢
            replace y1 : V.cell? ⟨wr.heap.size, 1, none⟩ = some (.string ⟨([] : List UInt8).toArray⟩) := y1
            replace y2 : V.cell? ⟨wr.heap.size, 2, none⟩ = some (.int .i64 (s.size : Int)) := y2
            clear d0 d1 d2 hbl2
            go_wp2_with fail
            go_loop [6] (fun at' => ∃ a : Nat, q ≤ a ∧ a ≤ s.size ∧ at' = .int .i64 a) (fun at' => s.size - (intOf at').toNat)
            case atStart => exact ⟨q, Nat.le_refl _, by omega, rfl⟩
            case round =>
              obtain ⟨a, ha1, ha2, rfl⟩ := hrel
              by_cases hlt2 : a < s.size
              · have hlt3 : (a : Int) < (s.size : Int) := by omega
                have has : a < s.size := by omega
                have has' : (a : Int) < (s.size : Int) := by omega
                have hbl := bla_cases (e5h.out a has ha1 hlt2)
                rcases hbl with hbl | hbl | hbl | hbl
                all_goals
                  go_wp2_with fail
                  go_round
                  case rel => exact ⟨a + 1, by omega, by omega, by go_num⟩
                  case measure => simp [intOf]; omega
              · obtain rfl : a = s.size := by omega
                go_wp2_with fail
                exact ⟨⟨k + 1, s.size, by omega, Nat.le_refl _, by go_num, rfl, hbV.out, .inl ⟨hkl, rfl⟩⟩, by simp [intOf]; omega⟩
          · have k5b : (t.k == 5) = false := by simpa using k5
            have hsz : (⟨t.t.toArray⟩ : ByteArray).size = n := by show t.t.toArray.size = _; simpa using hn4
            have hpart := part_eq s q2 n t.t hn3
            have hne : t.t.isEmpty = false := by
              cases hq : t.t with
              | nil => rw [hq] at hn4; simp at hn4; omega
              | cons => rfl
            have hkl : k + 1 < l.length := by
              have := List.length_pos_iff.2 hn5
              rw [← hresth.out, List.length_drop] at this
              omega
            have hkl' : ((k : Int) + 1 == (l.length : Int)) = false := by simp; omega
            have hn2' : (q2 : Int) + (n : Int) ≤ (s.size : Int) := by omega
            have hlx2 := Lib.hid hn6
            have hw1 : IntKind.i64.wrap ((q2 : Int) + (n : Int)) = (q2 : Int) + (n : Int) := IntWalk.i64_in _ (by omega)
            have hw2 : IntKind.i64.wrap ((k : Int) + 1) = (k : Int) + 1 := IntWalk.i64_in _ (by omega)
            have hp0 : (0 : Int) ≤ (q2 : Int) := by omega
            have hp1 : (q2 : Int) ≤ (q2 : Int) + (n : Int) := by omega
            have hp2 : ((q2 : Int) + (n : Int)).toNat = q2 + n := by omega
            clear hn3 hn4 hn5 hn6
            have hbl2 := bel_laid wr (.cells #[.int .u8 t.k, .string ⟨t.t.toArray⟩, .int .i64 (q2 : Int)] 27)
            go_wp2_with fail
            go_quiet (fail)
            have hbV := Lib.hid (bel_step (bel_step hbh.out hbl2) (bel_drewN _ nq))
            obtain ⟨y1, -⟩ := blk_below (bel_drewN (wr.alloc (.cells #[.int .u8 t.k, .string ⟨t.t.toArray⟩, .int .i64 (q2 : Int)] 27)) nq) 1 _ rfl
            obtain ⟨y2, -⟩ := blk_below (bel_drewN (wr.alloc (.cells #[.int .u8 t.k, .string ⟨t.t.toArray⟩, .int .i64 (q2 : Int)] 27)) nq) 2 _ rfl
            generalize (wr.alloc (.cells #[.int .u8 t.k, .string ⟨t.t.toArray⟩, .int .i64 (q2 : Int)] 27)).drewN nq = V at y1 y2 hbV ⊢
            replace y1 : V.cell? ⟨wr.heap.size, 1, none⟩ = some (.string ⟨t.t.toArray⟩) := y1
            replace y2 : V.cell? ⟨wr.heap.size, 2, none⟩ = some (.int .i64 (q2 : Int)) := y2
            clear d0 d1 d2 hbl2
            go_wp2_with fail
            go_loop [6] (fun at' => ∃ a : Nat, q ≤ a ∧ a ≤ q2 ∧ at' = .int .i64 a) (fun at' => s.size - (intOf at').toNat)
            case atStart => exact ⟨q, Nat.le_refl _, by omega, rfl⟩
            case round =>
              obtain ⟨a, ha1, ha2, rfl⟩ := hrel
              by_cases hlt2 : a < q2
              · have hlt3 : (a : Int) < (q2 : Int) := by omega
                have has : a < s.size := by omega
                have has' : (a : Int) < (s.size : Int) := by omega
                have hbl := bla_cases (e5h.out a has ha1 hlt2)
                rcases hbl with hbl | hbl | hbl | hbl
                all_goals
                  go_wp2_with fail
                  go_round
                  case rel => exact ⟨a + 1, by omega, by omega, by go_num⟩
                  case measure => simp [intOf]; omega
              · obtain rfl : a = q2 := by omega
                go_wp2_with fail
                exact ⟨⟨k + 1, a + n, by omega, hn2, by go_num, by go_num, hbV.out, .inr (by rw [hresth.out]; exact hlx2.out)⟩, by simp [intOf]; omega⟩
        · obtain rfl : k = l.length := by omega
          have hqs2 : q = s.size := by
            rcases hlx with ⟨-, h⟩ | h
            · exact h
            · rw [List.drop_length] at h
              obtain ⟨l0, e1, -⟩ := Lx.lex_shape rkL mkL kinds _ _ _ _ (Nat.le_refl _) h
              simp at e1
          subst hqs2
          have hee : ((s.size : Int) == (s.size : Int)) = true := by simp
          clear hb hlx
          go_wp2_with fail
          go_ret
          exact ⟨rfl, bel_step hb2h.out hbh.out⟩
end Go.Proofs.YthkfkdcmnkkdhaaDoor
