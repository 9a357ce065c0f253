/- LexBoth. -/
import Derived.StillTailTactics
import Derived.Test.YthkfkdcmnkkdhaaDoorI3
import Derived.Test.YthkfkdcmnkkdhaaDoorB6
import Derived.Test.YthkfkdcmnkkdhaaDoorL5
namespace Go.Proofs.YthkfkdcmnkkdhaaDoor
open Go Go.RowKit
set_option maxRecDepth 100000
set_option linter.unusedVariables false
theorem app_list2 (a b : ByteArray) : (a ++ b).data.toList = a.data.toList ++ b.data.toList := by
  rw [ByteArray.data_append, Array.toList_append]
def blk (r : Nat) : UInt8 := [32, 9, 10, 13].getD r 0
theorem blk_blank (r : Nat) (h : r < 4) : Lx.blank (blk r) = true := by
  rcases show r = 0 ∨ r = 1 ∨ r = 2 ∨ r = 3 by omega with rfl | rfl | rfl | rfl <;> rfl
theorem blk_list (r : Nat) (h : r < 4) : ((⟨#[32, 9, 10, 13]⟩ : ByteArray).extract r (r + 1)).data.toList = [blk r] := by
  rcases show r = 0 ∨ r = 1 ∨ r = 2 ∨ r = 3 by omega with rfl | rfl | rfl | rfl <;> rfl
theorem blk_size (r : Nat) (h : r < 4) : ((⟨#[32, 9, 10, 13]⟩ : ByteArray).extract r (r + 1)).size = 1 := by
  rcases show r = 0 ∨ r = 1 ∨ r = 2 ∨ r = 3 by omega with rfl | rfl | rfl | rfl <;> rfl
theorem bad_le : ∀ (n : Nat) (x : List UInt8) (p a : Nat) (e : Int), x.length ≤ n → Lx.lex rkL mkL x p = .bad a e → a ≤ p + x.length
  | _, [], p, a, e, _, h => by rw [Lx.lex_nil] at h; cases h
  | 0, _ :: _, _, _, _, h, _ => by simp at h
  | n + 1, c :: r, p, a, e, hn, h => by
    simp only [List.length_cons] at hn ⊢
    cases hb : Lx.blank c with
    | true =>
      rw [Lx.lex_blank _ _ _ _ _ hb] at h
      have := bad_le n r (p + 1) a e (by omega) h
      omega
    | false =>
      cases ht : Lx.tk rkL mkL c r with
      | err e' =>
        rw [Lx.lex_err _ _ _ _ _ hb ht] at h
        cases h
        omega
      | tok k m =>
        rw [Lx.lex_tok _ _ _ _ _ hb ht] at h
        have hm := Lx.tk_le rkL mkL c r k m ht
        cases hq : Lx.lex rkL mkL (r.drop m) (p + 1 + m) with
        | ok l => rw [hq] at h; cases h
        | bad a' e' =>
          rw [hq] at h
          cases h
          have := bad_le n (r.drop m) (p + 1 + m) a e (by rw [List.length_drop]; omega) hq
          rw [List.length_drop] at this
          omega
/-- A token, moved. -/
def moved (d : Nat) (t : Lx.Tok) : Lx.Tok := ⟨t.k, t.t, t.at' + d⟩
theorem TokSl.pre {W : World} {l0 l1 : List Lx.Tok} {p : Option Addr} {b o c : Nat} (hp : l0.length = 0 ∨ p = some ⟨b, o, none⟩) (h : TokAt W (l0 ++ l1) b o) : TokSl W l0 (.slice p l0.length c) := by
  refine ⟨p, c, rfl, ?_⟩
  rcases hp with h0 | rfl
  · exact .inl h0
  · refine .inr ⟨b, o, rfl, fun i t ht => h i t ?_⟩
    rw [List.getElem?_append_left (by obtain ⟨hi, -⟩ := List.getElem?_eq_some_iff.1 ht; exact hi)]
    exact ht
theorem lex_okc (x : ByteArray) (l : List Lx.Tok) (hx : Lx.lex rkL mkL x.data.toList 0 = .ok l) (hm : x.size ≤ 16384) (w : World) (hs : Sgs w) :
    Calls Tryd.prog 16 #[.string x] w fun e w' => ∃ v, e = .returned (.tuple #[v, .int .i64 0, .int .i64 0]) ∧ TokSl w' l v ∧ Below w.heap.size w w' ∧ Cap v := by
  refine (lex_cap x hm w hs).mono ?_
  rintro e w' ⟨v, a, er, he, ho, hb, hc⟩
  rw [hx] at ho
  obtain ⟨h1, rfl, rfl⟩ := ho
  exact ⟨v, he, h1, hb, hc⟩
theorem alike_refl : ∀ l : List Lx.Tok, Lx.Alike l l
  | [] => trivial
  | _ :: l => ⟨rfl, rfl, alike_refl l⟩
/-- The three ways of two texts with a blank between them. -/
theorem both_math (x y : List UInt8) (b : UInt8) (hb : Lx.blank b = true) :
    (∃ p e, e ≠ 0 ∧ Lx.lex rkL mkL x 0 = .bad p e ∧ Lx.lex rkL mkL (x ++ [b] ++ y) 0 = .bad p e) ∨
    (∃ l p e, e ≠ 0 ∧ Lx.lex rkL mkL x 0 = .ok l ∧ Lx.lex rkL mkL y 0 = .bad p e ∧ Lx.lex rkL mkL (x ++ [b] ++ y) 0 = .bad (p + (x.length + 1)) e) ∨
    (∃ l0 m, Lx.lex rkL mkL x 0 = .ok (l0 ++ [⟨5, [], (x.length : Int)⟩]) ∧ l0.length ≤ x.length ∧ Lx.lex rkL mkL y 0 = .ok m ∧ m.length ≤ y.length + 1 ∧ Lx.lex rkL mkL (x ++ [b] ++ y) 0 = .ok (l0 ++ m.map (moved (x.length + 1)))) := by
  have e1 : x ++ [b] ++ y = x ++ b :: y := by simp
  rw [e1]
  have hlen : ∀ (z : List UInt8) (l : List Lx.Tok), Lx.lex rkL mkL z 0 = .ok l → l.length ≤ z.length + 1 := by
    intro z l h
    obtain ⟨l0, rfl, h2, h3⟩ := Lx.lex_shape rkL mkL kinds z.length z 0 l (Nat.le_refl _) h
    have := Lx.len_sum l0 (fun t ht => Lx.good_pos (h2 t ht).1)
    simp
    omega
  have h3 := Lx.lex_shift rkL mkL (x.length + 1) y.length y 0 (Nat.le_refl _)
  rcases Lx.lex_both rkL mkL b y hb x.length x 0 (Nat.le_refl _) with ⟨a, e', h1, h2⟩ | ⟨l0, h1, h2⟩
  · have he := Lx.lex_bad_e rkL mkL kinds _ _ _ _ _ (Nat.le_refl _) h1
    exact .inl ⟨a, e', by omega, h1, h2⟩
  · have hl := hlen x _ h1
    simp only [List.length_append, List.length_cons, List.length_nil] at hl
    rw [show 0 + x.length + 1 = 0 + (x.length + 1) by omega, h3] at h2
    rw [show 0 + x.length = x.length by omega] at h1
    cases hq : Lx.lex rkL mkL y 0 with
    | bad p e =>
      have he := Lx.lex_bad_e rkL mkL kinds _ _ _ _ _ (Nat.le_refl _) hq
      rw [hq] at h2
      exact .inr (.inl ⟨_, p, e, by omega, h1, rfl, h2⟩)
    | ok m =>
      rw [hq] at h2
      exact .inr (.inr ⟨l0, m, h1, by omega, rfl, hlen y m hq, h2⟩)
set_option maxHeartbeats 4000000 in
theorem lexBoth_walk (s t : ByteArray) (a : Int) (w : World) (hsg : Sgs w) (hm : s.size ≤ maxLen) (hmt : t.size ≤ maxLen) (ha : (Lit.int .u8 a).wf = true) : Calls Tryd.prog 8 #[.string s, .string t, .int .u8 a] w fun e w' => e = .returned (.bool true) ∧ Below w.heap.size w w' := by
  unfold maxLen at hm hmt
  have ha0 : 0 ≤ a ∧ a ≤ 255 := by simpa [Lit.wf, IntKind.min, IntKind.max, show IntKind.u8.signed = false from rfl, show IntKind.u8.bits = 8 from rfl] using ha
  clear ha
  have hsh := Lib.hid hsg
  have hA := Lib.hid (awake_any w hsg)
  clear hsg
  by_cases hlong : 1500 < s.size
  · have h1 : (1500 : Int) < (s.size : Int) := by omega
    go_enter Tryd.func8, Tryd.ntmps8
    go_wp2_with fail
    refine hA.out.mono ?_
    rintro e w1 ⟨rfl, hb1⟩
    clear hA
    go_wp2_with fail
    go_ret
    exact ⟨rfl, hb1⟩
  · have h1 : (s.size : Int) ≤ 1500 := by omega
    by_cases hlong2 : 1500 < t.size
    · have h2 : (1500 : Int) < (t.size : Int) := by omega
      go_enter Tryd.func8, Tryd.ntmps8
      go_wp2_with fail
      refine hA.out.mono ?_
      rintro e w1 ⟨rfl, hb1⟩
      clear hA
      go_wp2_with fail
      go_ret
      exact ⟨rfl, hb1⟩
    have h2 : (t.size : Int) ≤ 1500 := by omega
    have hLx := Lib.hid (fun W h => lex_cap s (by omega) W h)
    have hLt := Lib.hid (fun W h => lex_small t (by omega) W h)
    have h00 := ha0.1
    have h01 := ha0.2
    have hr6 : 0 ≤ a % 4 ∧ a % 4 < 4 := ⟨Int.emod_nonneg _ (by decide), Int.emod_lt_of_pos _ (by decide)⟩
    obtain ⟨r, hr4, hr⟩ : ∃ r : Nat, r < 4 ∧ a % 4 = (r : Int) := ⟨(a % 4).toNat, by omega, by omega⟩
    clear ha0 hr6
    have hB := both_math s.data.toList t.data.toList (blk r) (blk_blank r hr4)
    have hXl : (s ++ (⟨#[32, 9, 10, 13]⟩ : ByteArray).extract r (r + 1) ++ t).data.toList = s.data.toList ++ [blk r] ++ t.data.toList := by rw [app_list2, app_list2, blk_list r hr4]
    rw [← hXl] at hB
    have hXs : (s ++ (⟨#[32, 9, 10, 13]⟩ : ByteArray).extract r (r + 1) ++ t).size ≤ 16384 := by
      rw [ByteArray.size_append, ByteArray.size_append, blk_size r hr4]
      omega
    have hBh := Lib.hid hB
    have hXsh := Lib.hid hXs
    have hr0 : (0 : Int) ≤ (r : Int) := by omega
    have hr3 : (r : Int) ≤ 3 := by omega
    have hr5 : (r : Int) + 1 ≤ 4 := by omega
    have hrt : ((r : Int) + 1).toNat = r + 1 := by omega
    have hsl : s.data.toList.length = s.size := by simp
    have htl : t.data.toList.length = t.size := by simp
    clear hB hXl hXs
    go_enter Tryd.func8, Tryd.ntmps8
    go_wp2_with fail
    refine hA.out.mono ?_
    rintro e w1 ⟨rfl, hb1⟩
    have hs1 := hsh.out.of hb1
    have hb1h := Lib.hid hb1
    clear hA hb1 hsh
    go_wp2_with fail
    refine (hLx.out w1 hs1).mono ?_
    rintro e w2 ⟨v, a1, er, rfl, ho, hb2, hcp⟩
    have hcph := Lib.hid hcp
    clear hcp
    have hb2h := Lib.hid (bel_step hb1h.out hb2)
    have hs2 := hs1.of hb2
    clear hb1h hs1 hLx hb2
    go_wp2_with fail
    refine (hLt.out w2 hs2).mono ?_
    rintro e w3 ⟨v3, a3, er3, rfl, ho3, hb3⟩
    have hb3h := Lib.hid (bel_step hb2h.out hb3)
    have hs3 := hs2.of hb3
    clear hb2h hs2 hLt
    rcases hBh.out with ⟨p, e, hne, hq1, hq2⟩ | ⟨l, p, e, hne, hq1, hq2, hq3⟩ | ⟨l0, m, hq1, hl0, hq2, hml, hq3⟩
    · have hL := Lib.hid (lex_bad _ p e hq2 hXsh.out w3 hs3)
      rw [hq1] at ho
      obtain ⟨rfl, rfl, rfl⟩ := ho
      have e1 : (er != 0) = true := by simpa using hne
      have e2 : (er == er) = true := by simp
      have e3 : ((p : Int) == (p : Int)) = true := by simp
      clear hq1 hq2 hBh hXsh hne
      go_wp2_with fail
      refine hL.out.mono ?_
      rintro e w4 ⟨rfl, hb4⟩
      have hb4h := Lib.hid (bel_step hb3h.out hb4)
      clear hL hb4
      go_wp2_with fail
      go_ret
      exact ⟨rfl, hb4h.out⟩
    · have hL := Lib.hid (lex_bad _ _ e hq3 hXsh.out w3 hs3)
      rw [hsl] at hL
      rw [hq1] at ho
      rw [hq2] at ho3
      obtain ⟨htk, rfl, rfl⟩ := ho
      obtain ⟨rfl, rfl, rfl⟩ := ho3
      obtain ⟨pp, cc, bb, oo, rfl, -, -⟩ := htk.opened
      have hcast : ((p + (s.size + 1) : Nat) : Int) = (p : Int) + (s.size : Int) + 1 := by omega
      rw [hcast] at hL
      have e1 : (er3 != 0) = true := by simpa using hne
      have e2 : (er3 == er3) = true := by simp
      have e3 : ((p : Int) + (s.size : Int) + 1 == (p : Int) + (s.size : Int) + 1) = true := by simp
      have hp := bad_le t.data.toList.length t.data.toList 0 p er3 (Nat.le_refl _) hq2
      rw [htl] at hp
      have hp1 : (p : Int) ≤ 1500 := by omega
      clear hq1 hq2 hq3 hBh hXsh hne htk hcast
      go_wp2_with fail
      refine hL.out.mono ?_
      rintro e w4 ⟨rfl, hb4⟩
      have hb4h := Lib.hid (bel_step hb3h.out hb4)
      clear hL hb4
      go_wp2_with fail
      go_ret
      exact ⟨rfl, hb4h.out⟩
    · have hge := Lib.hid (lex_ge t.data.toList.length t.data.toList 0 m (Nat.le_refl _) hq2)
      have hle := Lib.hid (lex_le t.data.toList.length t.data.toList 0 m (Nat.le_refl _) hq2)
      rw [hsl] at hq1 hq3
      have hL := Lib.hid (lex_okc _ _ hq3 hXsh.out w3 hs3)
      rw [hq1] at ho
      rw [hq2] at ho3
      obtain ⟨htk, rfl, rfl⟩ := ho
      obtain ⟨htk3, rfl, rfl⟩ := ho3
      have htk1 := htk.below hb3
      obtain ⟨p1, c1, b1, o1, rfl, hp1, hat1⟩ := htk1.opened
      obtain ⟨p2, c2, b2, o2, rfl, hp2, hat2⟩ := htk3.opened
      have hat1h := Lib.hid hat1
      have hat2h := Lib.hid hat2
      obtain ⟨n1, hn1⟩ : ∃ n1, (l0 ++ [(⟨5, [], (s.size : Int)⟩ : Lx.Tok)]).length = n1 := ⟨_, rfl⟩
      have hcp1 := hcph.out
      rw [hn1] at hcp1 ⊢
      rw [hn1] at hp1
      have hc1 := hcp1.le
      clear hcp1 hcph
      have hn1' : n1 = l0.length + 1 := by rw [← hn1]; simp
      have hml' : m.length ≤ 1501 := by omega
      have hl0' : l0.length ≤ 1500 := by omega
      have hmp : 0 < m.length := by obtain ⟨m0, rfl, -⟩ := Lx.lex_shape rkL mkL kinds _ _ _ _ (Nat.le_refl _) hq2; simp
      clear hq1 hq2 hq3 hBh hXsh htk htk1 htk3 hat1 hat2 hn1 hb3
      go_wp2_with fail
      refine hL.out.mono ?_
      rintro e w4 ⟨v4, rfl, htk4, hb4, hcp4⟩
      obtain ⟨p4, c4, b4, o4, rfl, hp4, hat4⟩ := htk4.opened
      have hat4h := Lib.hid hat4
      have hb4h := Lib.hid hb4
      have hs4 := hs3.of hb4
      obtain ⟨n4, hn4⟩ : ∃ n4, (l0 ++ m.map (moved (s.size + 1))).length = n4 := ⟨_, rfl⟩
      rw [hn4] at hcp4 ⊢
      rw [hn4] at hp4
      have hc4 := hcp4.le
      clear hcp4
      have hn4' : n4 = l0.length + m.length := by rw [← hn4]; simp
      clear htk4 hat4 hb4 hL hn4
      have q0 : (n1 : Int) = (l0.length : Int) + 1 := by omega
      have q1 : (n4 : Int) = (l0.length : Int) + (m.length : Int) := by omega
      have q2 : (m.length : Int) ≤ 1501 := by omega
      have q3 : (l0.length : Int) ≤ 1500 := by omega
      have ww1 : IntKind.i64.wrap ((n1 : Int) + (m.length : Int)) = (n4 : Int) + 1 := by rw [IntWalk.i64_in _ (by omega)]; omega
      have ww2 : IntKind.i64.wrap ((n4 : Int) + 1 - 1) = (n4 : Int) := by rw [IntWalk.i64_in _ (by omega)]; omega
      have ww3 : ((n4 : Int) != (n4 : Int)) = false := by simp
      go_wp2_with fail
      go_loopw [16] (fun i wr => ∃ k : Nat, k ≤ m.length ∧ i = .int .i64 k ∧ Below w4.heap.size w4 wr) (fun i _ => m.length - (intOf i).toNat)
      case atStart => exact ⟨0, Nat.zero_le _, rfl, Below.refl _ _⟩
      case round =>
        obtain ⟨k, hk, rfl, hb⟩ := hrel
        have hbh := Lib.hid hb
        by_cases hlt : k < m.length
        · have hlt' : (k : Int) < (m.length : Int) := by omega
          obtain ⟨u, hu⟩ : ∃ u, m[k]? = some u := ⟨_, List.getElem?_eq_getElem (by omega)⟩
          have hx : (l0 ++ m.map (moved (s.size + 1)))[l0.length + k]? = some (moved (s.size + 1) u) := by
            rw [List.getElem?_append_right (by omega), Nat.add_sub_cancel_left, List.getElem?_map, hu]; rfl
          rcases hp4 with hp4 | rfl
          · omega
          rcases hp2 with hp2 | rfl
          · omega
          obtain ⟨a0, a1, a2⟩ := hat4h.out _ _ hx
          obtain ⟨f0, f1, f2⟩ := hat2h.out k u hu
          have d0 := cell_below hb a0
          have d1 := cell_below hb a1
          have d2 := cell_below hb a2
          have f0 := cell_below hb (cell_below hb4h.out f0)
          have f1 := cell_below hb (cell_below hb4h.out f1)
          have f2 := cell_below hb (cell_below hb4h.out f2)
          have hu0 := hge.out u (List.mem_of_getElem? hu)
          have hu1 := hle.out u (List.mem_of_getElem? hu)
          rw [htl] at hu1
          clear a0 a1 a2 hu hx hb
          have e0 : (moved (s.size + 1) u).at' = u.at' + (s.size : Int) + 1 := by show u.at' + ((s.size + 1 : Nat) : Int) = _; omega
          have e1 : (moved (s.size + 1) u).k = u.k := rfl
          have e2 : (moved (s.size + 1) u).t = u.t := rfl
          rw [e1] at d0
          rw [e2] at d1
          rw [e0] at d2
          have g1 : IntKind.i64.wrap ((l0.length : Int) + (k : Int)) = (l0.length : Int) + (k : Int) := IntWalk.i64_in _ (by omega)
          have g2 : ((l0.length : Int) + (k : Int)).toNat = l0.length + k := by omega
          have g3 : IntKind.i64.wrap ((n1 : Int) - 1) = (l0.length : Int) := by rw [IntWalk.i64_in _ (by omega)]; omega
          have g4 : (0 : Int) ≤ (l0.length : Int) + (k : Int) := by omega
          have g5 : (l0.length : Int) + (k : Int) < (n4 : Int) := by omega
          have g6 : IntKind.i64.wrap (u.at' + (s.size : Int)) = u.at' + (s.size : Int) := IntWalk.i64_in _ (by omega)
          have g7 : IntKind.i64.wrap (u.at' + (s.size : Int) + 1) = u.at' + (s.size : Int) + 1 := IntWalk.i64_in _ (by omega)
          have g8 : (u.at' + (s.size : Int) + 1 != u.at' + (s.size : Int) + 1) = false := by simp
          have hbl2 := bel_laid wr (.cells #[.int .u8 u.k, .string ⟨u.t.toArray⟩, .int .i64 (u.at' + (s.size : Int) + 1)] 27)
          go_wp2_with fail
          have f0' := cell_below hbl2 f0
          have f1' := cell_below hbl2 f1
          have f2' := cell_below hbl2 f2
          have y0 := cell_new wr #[.int .u8 u.k, .string ⟨u.t.toArray⟩, .int .i64 (u.at' + (s.size : Int) + 1)] 27 0
          have y1 := cell_new wr #[.int .u8 u.k, .string ⟨u.t.toArray⟩, .int .i64 (u.at' + (s.size : Int) + 1)] 27 1
          have y2 := cell_new wr #[.int .u8 u.k, .string ⟨u.t.toArray⟩, .int .i64 (u.at' + (s.size : Int) + 1)] 27 2
          have hbV := Lib.hid (bel_step hbh.out hbl2)
          obtain ⟨L, hL⟩ : ∃ L, wr.heap.size = L := ⟨_, rfl⟩
          rw [hL] at y0 y1 y2 ⊢
          generalize wr.alloc (.cells #[.int .u8 u.k, .string ⟨u.t.toArray⟩, .int .i64 (u.at' + (s.size : Int) + 1)] 27) = V at y0 y1 y2 f0' f1' f2' hbV ⊢
          replace y0 : V.cell? ⟨L, 0, none⟩ = some (.int .u8 u.k) := y0
          replace y1 : V.cell? ⟨L, 1, none⟩ = some (.string ⟨u.t.toArray⟩) := y1
          replace y2 : V.cell? ⟨L, 2, none⟩ = some (.int .i64 (u.at' + (s.size : Int) + 1)) := y2
          clear hbl2 f0 f1 f2 d0 d1 d2 hL
          go_quiet (fail)
          have hbX := Lib.hid (bel_step hbV.out (bel_drewN _ nq))
          go_wp2_with fail
          exact ⟨⟨k + 1, by omega, by go_num, hbX.out⟩, by simp [intOf]; omega⟩
        · obtain rfl : k = m.length := by omega
          obtain rfl : p1 = _ := hp1.resolve_left (by omega)
          obtain rfl : p4 = _ := hp4.resolve_left (by omega)
          have hbb := Lib.hid (bel_step (bel_step hb3h.out hb4h.out) hb)
          have hal : TokSl wr l0 (.slice (some ⟨b1, o1, none⟩) l0.length c1) := TokSl.pre (.inr rfl) ((hat1h.out.below hb4h.out).below hb)
          have hal4 : TokSl wr l0 (.slice (some ⟨b4, o4, none⟩) l0.length c4) := TokSl.pre (.inr rfl) (hat4h.out.below hb)
          have hC := Lib.hid (fun W (hW : Below wr.heap.size wr W) => alike_any l0 l0 _ _ W (hal4.below hW) (hal.below hW) (by omega) (alike_refl l0))
          have g3 : IntKind.i64.wrap ((l0.length : Int) + 1 - 1) = (l0.length : Int) := by rw [IntWalk.i64_in _ (by omega)]; omega
          have g4 : (l0.length : Int) ≤ (c1 : Int) := by omega
          have g5 : (l0.length : Int) ≤ (c4 : Int) := by omega
          have g6 : (0 : Int) ≤ (l0.length : Int) := by omega
          have g7 : IntKind.i64.wrap (l0.length : Int) = (l0.length : Int) := IntWalk.i64_in _ (by omega)
          have g8 : IntKind.i64.wrap (((l0.length + 1 : Nat) : Int) - 1) = (l0.length : Int) := by rw [IntWalk.i64_in _ (by omega)]; omega
          have g9 : ((l0.length : Int)).toNat = l0.length := by omega
          clear hal hal4 hb hat1h hat2h hat4h hge hle hp1 hp2 hp4
          go_wp2_with fail
          go_still_tail 10, (by kernel_rfl)
          change wpList _ _ _ _ _ wr.drew
          have hC2 := Lib.hid (hC.out _ (bel_drew wr))
          have hbd := Lib.hid (bel_step hbb.out (bel_drew wr))
          generalize wr.drew = w5 at hC2 hbd ⊢
          clear hC hbb
          go_wp2_with (go_at_call 17; refine hC2.out.mono ?_; rintro e w6 ⟨rfl, hb6⟩)
          go_ret
          exact ⟨rfl, bel_step hbd.out hb6⟩
end Go.Proofs.YthkfkdcmnkkdhaaDoor
