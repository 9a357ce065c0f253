/- LexJoined. -/
import Derived.Test.YthkfkdcmnkkdhaaDoorA1
import Derived.Test.YthkfkdcmnkkdhaaDoorJ2
import Derived.Test.YthkfkdcmnkkdhaaDoorL4
namespace Go.Proofs.YthkfkdcmnkkdhaaDoor
open Go Go.RowKit
set_option maxRecDepth 100000
set_option linter.unusedVariables false
theorem texts_shape (l0 : List Lx.Tok) (a : Int) (h : ∀ t ∈ l0, t.k ≠ 5) : texts (l0 ++ [⟨5, [], a⟩]) = l0.map (·.t) := by
  rw [texts_snoc, if_pos rfl]
  unfold texts
  rw [List.filter_eq_self.2 (fun t ht => by simpa using h t ht)]
theorem alike_kinds : ∀ {l m : List Lx.Tok}, Lx.Alike l m → (∀ t ∈ l, t.k ≠ 5) → (∀ t ∈ m, t.k ≠ 5)
  | [], [], _, _ => by simp
  | a :: l, b :: m, h, hk => by
    intro t ht
    rcases List.mem_cons.1 ht with rfl | ht
    · rw [← h.1]; exact hk a (by simp)
    · exact alike_kinds h.2.2 (fun u hu => hk u (by simp [hu])) t ht
theorem alike_texts : ∀ {l m : List Lx.Tok}, Lx.Alike l m → l.map (·.t) = m.map (·.t)
  | [], [], _ => rfl
  | a :: l, b :: m, h => by simp only [List.map_cons]; rw [h.2.1, alike_texts h.2.2]
/-- The tokens of the text of tokens. -/
theorem joined_math {x : List UInt8} {l : List Lx.Tok} (hx : x.length ≤ 3000) (h : Lx.lex rkL mkL x 0 = .ok l) :
    l.length ≤ 3001 ∧ (∀ t ∈ l, t.t.length ≤ 3000) ∧ (Lx.joinT (texts l)).length ≤ 6000 ∧
      ∃ m, Lx.lex rkL mkL (Lx.joinT (texts l)) 0 = .ok m ∧ Lx.Alike l m ∧ texts m = texts l ∧ m.length ≤ 3001 ∧ (∀ t ∈ m, t.t.length ≤ 3000) := by
  obtain ⟨l0, rfl, h2, h3⟩ := Lx.lex_shape rkL mkL kinds x.length x 0 l (Nat.le_refl _) h
  have hk : ∀ t ∈ l0, t.k ≠ 5 := fun t ht => (h2 t ht).2
  have hlen := Lx.len_sum l0 (fun t ht => Lx.good_pos (h2 t ht).1)
  have hjs := Lx.join_sum l0
  have htx := texts_shape l0 ((0 + x.length : Nat) : Int) hk
  have hmem : ∀ t ∈ l0, t.t.length ≤ 3000 := fun t ht => by have := Lx.mem_sum l0 t ht; omega
  rw [htx]
  obtain ⟨m, h4, h5⟩ := Lx.lex_join rkL mkL l0 0 (fun t ht => (h2 t ht).1)
  have hml := alike_len h5
  refine ⟨by simp; omega, ?_, by omega, _, h4, Lx.alike_app h5 rfl rfl, ?_, ?_, ?_⟩
  · intro t ht
    rcases List.mem_append.1 ht with ht | ht
    · exact hmem t ht
    · simp at ht; subst ht; simp
  · rw [texts_shape m _ (alike_kinds h5 hk)]
    exact (alike_texts h5).symm
  · simp; omega
  · intro t ht
    rcases List.mem_append.1 ht with ht | ht
    · obtain ⟨i, hi, rfl⟩ := List.getElem_of_mem ht
      have := (alike_get h5 i l0[i] m[i] (List.getElem?_eq_getElem (by omega)) (List.getElem?_eq_getElem hi)).2
      rw [← this]
      exact hmem _ (List.getElem_mem _)
    · simp at ht; subst ht; simp
set_option maxHeartbeats 2000000 in
theorem lexJoined_walk (s : ByteArray) (w : World) (hsg : Sgs w) (hm : s.size ≤ maxLen) : Calls Tryd.prog 6 #[.string s] w fun e w' => e = .returned (.bool true) ∧ Below w.heap.size w w' := by
  unfold maxLen at hm
  have hsh := Lib.hid hsg
  have hA := Lib.hid (awake_any w hsg)
  clear hsg
  by_cases hlong : 3000 < s.size
  · have h1 : (3000 : Int) < (s.size : Int) := by omega
    go_enter Tryd.func6, Tryd.ntmps6
    go_wp2_with fail
    refine hA.out.mono ?_
    rintro e w1 ⟨rfl, hb1⟩
    clear hA
    go_wp2_with fail
    go_ret
    exact ⟨rfl, hb1⟩
  · have h1 : (s.size : Int) ≤ 3000 := by omega
    have hLx := Lib.hid (fun W h => lex_small s (by omega) W h)
    go_enter Tryd.func6, Tryd.ntmps6
    go_wp2_with fail
    refine hA.out.mono ?_
    rintro e w1 ⟨rfl, hb1⟩
    have hs1 := hsh.out.of hb1
    have hb1h := Lib.hid hb1
    clear hA hb1 hsh
    go_wp2_with fail
    refine (hLx.out w1 hs1).mono ?_
    rintro e w2 ⟨v, a, er, rfl, ho, hb2⟩
    have hb2h := Lib.hid (bel_step hb1h.out hb2)
    have hs2 := hs1.of hb2
    clear hb1h hs1 hLx hb2
    cases hq : Lx.lex rkL mkL s.data.toList 0 with
    | bad p e2 =>
      have he := Lx.lex_bad_e rkL mkL kinds _ _ _ _ _ (Nat.le_refl _) hq
      rw [hq] at ho
      obtain ⟨rfl, rfl, rfl⟩ := ho
      rcases he with rfl | rfl
      · go_wp2_with fail
        go_ret
        exact ⟨rfl, hb2h.out⟩
      · go_wp2_with fail
        go_ret
        exact ⟨rfl, hb2h.out⟩
    | ok l =>
      obtain ⟨j1, j2, j3, m, j4, j5, j6, j7, j8⟩ := joined_math (by rw [Array.length_toList]; show s.size ≤ 3000; omega) hq
      rw [hq] at ho
      obtain ⟨htk, rfl, rfl⟩ := ho
      obtain ⟨p, c, b, o, rfl, -, -⟩ := htk.opened
      obtain ⟨T, hT⟩ : ∃ T, Lx.joinT (texts l) = T := ⟨_, rfl⟩
      rw [hT] at j3 j4
      have hJ := Lib.hid (lexJoin_any l _ w2 htk (by omega) (fun t ht => by have := j2 t ht; omega))
      rw [hT] at hJ
      have hL2 := Lib.hid (fun W h => lex_ok ⟨T.toArray⟩ m (by simpa using j4) (by show T.toArray.size ≤ 16384; simp; omega) W h)
      have htkh := Lib.hid htk
      have hs2h := Lib.hid hs2
      have j5h := Lib.hid j5
      have j6h := Lib.hid (j6.trans rfl)
      have hTh := Lib.hid hT
      have j7h := Lib.hid j7
      have j8h := Lib.hid j8
      have j1h := Lib.hid j1
      clear hq htk hs2 j1 j2 j3 j4 j5 j6 j7 j8 hT
      go_wp2_with fail
      refine hJ.out.mono ?_
      rintro e w3 ⟨rfl, hb3⟩
      have hs3 := hs2h.out.of hb3
      have htk3 := htkh.out.below hb3
      have hb3h := Lib.hid (bel_step hb2h.out hb3)
      clear hJ hs2h htkh hb3 hb2h
      go_wp2_with fail
      refine (hL2.out w3 hs3).mono ?_
      rintro e w4 ⟨v4, rfl, htk4, hb4⟩
      have htk3' := htk3.below hb4
      have hAl := Lib.hid (alike_any l m _ _ w4 htk3' htk4 (by have := j1h.out; omega) j5h.out)
      have hb4h := Lib.hid (bel_step hb3h.out hb4)
      have hJ2 := Lib.hid (fun V (hV : Below w4.heap.size w4 V) => lexJoin_any m _ V (htk4.below hV) (by have := j7h.out; omega) (fun t ht => by have := j8h.out t ht; omega))
      rw [j6h.out, hTh.out] at hJ2
      obtain ⟨p4, c4, b4, o4, rfl, -, -⟩ := htk4.opened
      have hTT : (T == T) = true := by simp
      clear htk3 htk3' htk4 hb4 hs3 hL2 hb3h
      go_wp2_with fail
      refine hAl.out.mono ?_
      rintro e w5 ⟨rfl, hb5⟩
      have hb5h := Lib.hid (bel_step hb4h.out hb5)
      have hJ3 := Lib.hid (hJ2.out w5 hb5)
      clear hAl hJ2 hb5 hb4h
      go_wp2_with fail
      refine hJ3.out.mono ?_
      rintro e w6 ⟨rfl, hb6⟩
      have hb6h := Lib.hid (bel_step hb5h.out hb6)
      clear hJ3 hb6 hb5h
      go_wp2_with fail
      go_ret
      exact ⟨rfl, hb6h.out⟩
end Go.Proofs.YthkfkdcmnkkdhaaDoor
