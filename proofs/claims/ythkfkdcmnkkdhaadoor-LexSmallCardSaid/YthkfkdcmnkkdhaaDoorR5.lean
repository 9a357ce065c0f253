/- lexes: all three answers at one string. -/
import Derived.Test.YthkfkdcmnkkdhaaDoorR4
import Derived.Test.YthkfkdcmnkkdhaaDoorA1
import Derived.Test.YthkfkdcmnkkdhaaDoorL4
namespace Go.Proofs.YthkfkdcmnkkdhaaDoor
open Go Go.RowKit
set_option maxRecDepth 100000
set_option linter.unusedVariables false
/-- Both Lexes answer the same, in tokens that are few and short. -/
theorem lexes_parts (s : ByteArray) : ∃ (l : List Lx.Tok) (a er : Int), l.length ≤ 20000 ∧ (∀ t ∈ l, t.t.length ≤ 20000) ∧
    (∀ W, Sgs W → Calls Tryd.prog 16 #[.string s] W fun e w' => ∃ v, e = .returned (.tuple #[v, .int .i64 a, .int .i64 er]) ∧ TokSl w' l v ∧ Below W.heap.size W w') ∧
    (∀ W, Calls Tryd.prog 18 #[.string s] W fun e w' => ∃ v, e = .returned (.tuple #[v, .int .i64 a, .int .i64 er]) ∧ TokSl w' l v ∧ Below W.heap.size W w') := by
  by_cases hm : s.size ≤ 16384
  · cases hq : Lx.lex rkL mkL s.data.toList 0 with
    | ok l =>
      have hxl : s.data.toList.length = s.size := by simp
      obtain ⟨l0, hl, h2, h3⟩ := Lx.lex_shape rkL mkL kinds _ _ _ _ (Nat.le_refl _) hq
      have hlen := Lx.len_sum l0 (fun t ht => Lx.good_pos (h2 t ht).1)
      rw [hxl] at h3
      refine ⟨l, 0, 0, by rw [hl]; simp; omega, ?_, fun W hW => ?_, fun W => ?_⟩
      · intro t ht
        rw [hl] at ht
        rcases List.mem_append.1 ht with ht | ht
        · have := Lx.mem_sum l0 t ht; omega
        · simp at ht; subst ht; simp
      · refine (lex_small s hm W hW).mono ?_
        rintro e w' ⟨v, a, er, he, ho, hb⟩
        rw [hq] at ho
        obtain ⟨h1, rfl, rfl⟩ := ho
        exact ⟨v, he, h1, hb⟩
      · refine (refLex_any s hm W).mono ?_
        rintro e w' ⟨v, a, er, he, ho, hb⟩
        rw [hq] at ho
        obtain ⟨h1, rfl, rfl⟩ := ho
        exact ⟨v, he, h1, hb⟩
    | bad p er =>
      refine ⟨[], p, er, Nat.zero_le _, fun t ht => by simp at ht, fun W hW => ?_, fun W => ?_⟩
      · refine (lex_small s hm W hW).mono ?_
        rintro e w' ⟨v, a, er, he, ho, hb⟩
        rw [hq] at ho
        obtain ⟨rfl, rfl, rfl⟩ := ho
        exact ⟨_, he, SlOf_nil _ _, hb⟩
      · refine (refLex_any s hm W).mono ?_
        rintro e w' ⟨v, a, er, he, ho, hb⟩
        rw [hq] at ho
        obtain ⟨rfl, rfl, rfl⟩ := ho
        exact ⟨_, he, SlOf_nil _ _, hb⟩
  · refine ⟨[], 0, 3, Nat.zero_le _, fun t ht => by simp at ht, fun W hW => ?_, fun W => ?_⟩
    · refine (lex_long s (by omega) W).mono ?_
      rintro e w' ⟨rfl, hb⟩
      exact ⟨_, rfl, SlOf_nil _ _, hb⟩
    · refine (refLex_long s (by omega) W).mono ?_
      rintro e w' ⟨rfl, hb⟩
      exact ⟨_, rfl, SlOf_nil _ _, hb⟩
set_option maxHeartbeats 4000000 in
theorem lexes_any (s : ByteArray) (w : World) (hsg : Sgs w) : Calls Tryd.prog 11 #[.string s] w fun e w' => e = .returned (.bool true) ∧ Below w.heap.size w w' := by
  obtain ⟨l, a, er, hl, hn, h16, h18⟩ := lexes_parts s
  have H16 := Lib.hid (h16 w hsg)
  have H18 := Lib.hid h18
  have hnh := Lib.hid hn
  have HW := Lib.hid (fun W => lexWord_any s W)
  have HR := Lib.hid (fun W => refWord_any s W)
  clear h16 h18 hn hsg
  generalize isWordB s.toList = bw at HW HR
  have hbw : (bw == bw) = true := by simp
  have haa : (a == a) = true := by simp
  have hee : (er == er) = true := by simp
  obtain ⟨T, hT⟩ : ∃ T, Lx.joinT (texts l) = T := ⟨_, rfl⟩
  have hTT : (T == T) = true := by simp
  have hTh := Lib.hid hT
  clear hT
  go_enter Tryd.func11, Tryd.ntmps11
  go_wp2_with fail
  refine H16.out.mono ?_
  rintro e w1 ⟨v, rfl, htk, hb1⟩
  have htkh := Lib.hid htk
  have hb1h := Lib.hid hb1
  have H18' := Lib.hid (H18.out w1)
  clear H16 H18 htk hb1
  go_wp2_with fail
  refine H18'.out.mono ?_
  rintro e w2 ⟨v2, rfl, htk2, hb2⟩
  have htk1 := htkh.out.below hb2
  have hb2h := Lib.hid (bel_step hb1h.out hb2)
  have hS := Lib.hid (same_any l _ _ w2 htk1 htk2 (by omega))
  have hJ := Lib.hid (fun W (h : Below w2.heap.size w2 W) => lexJoin_any l _ W (htk1.below h) (by omega) (fun t ht => by have := hnh.out t ht; omega))
  have hJ2 := Lib.hid (fun W (h : Below w2.heap.size w2 W) => refJoin_any l _ W (htk2.below h) (by omega) (fun t ht => by have := hnh.out t ht; omega))
  rw [hTh.out] at hJ hJ2
  clear H18' htkh hb1h hb2 htk1 htk2 hnh hTh
  go_wp2_with fail
  refine hS.out.mono ?_
  rintro e w3 ⟨rfl, hb3⟩
  have hb3h := Lib.hid hb3
  have hJ' := Lib.hid (hJ.out w3 hb3)
  clear hS hJ hb3
  go_wp2_with fail
  refine hJ'.out.mono ?_
  rintro e w4 ⟨rfl, hb4⟩
  have hb4h := Lib.hid (bel_step hb3h.out hb4)
  have hJ2' := Lib.hid (hJ2.out w4 hb4h.out)
  clear hJ' hJ2 hb4 hb3h
  go_wp2_with fail
  refine hJ2'.out.mono ?_
  rintro e w5 ⟨rfl, hb5⟩
  have hb5h := Lib.hid (bel_step hb2h.out (bel_step hb4h.out hb5))
  clear hJ2' hb5 hb4h hb2h
  have HW' := Lib.hid (HW.out w5)
  clear HW
  go_wp2_with fail
  refine HW'.out.mono ?_
  rintro e w6 ⟨rfl, hww⟩
  replace hww := hww.symm
  subst hww
  clear HW'
  have HR' := Lib.hid (HR.out w5)
  clear HR
  go_wp2_with fail
  refine HR'.out.mono ?_
  rintro e w6 ⟨rfl, hww⟩
  replace hww := hww.symm
  subst hww
  clear HR'
  go_wp2_with fail
  go_ret
  exact ⟨rfl, hb5h.out⟩
set_option maxHeartbeats 2000000 in
theorem lexTells_walk (s : ByteArray) (w : World) (hsg : Sgs w) (hm : s.size ≤ maxLen) : Calls Tryd.prog 3 #[.string s] w fun e w' => e = .returned (.bool true) ∧ Below w.heap.size w w' := by
  have hA := Lib.hid (fun V (hV : Below w.heap.size w V) => awake_any V (hsg.of hV))
  have hE := Lib.hid (lexes_any s w hsg)
  clear hsg
  by_cases hlong : 3000 < s.size
  · have h1 : (3000 : Int) < (s.size : Int) := by omega
    have hA1 := Lib.hid (hA.out w (Below.refl _ _))
    clear hA hE
    go_enter Tryd.func3, Tryd.ntmps3
    go_wp2_with fail
    refine hA1.out.mono ?_
    rintro e w1 ⟨rfl, hb1⟩
    clear hA1
    go_wp2_with fail
    go_ret
    exact ⟨rfl, hb1⟩
  · have h1 : (s.size : Int) ≤ 3000 := by omega
    go_enter Tryd.func3, Tryd.ntmps3
    go_wp2_with fail
    refine hE.out.mono ?_
    rintro e w1 ⟨rfl, hb1⟩
    have hA1 := Lib.hid (hA.out w1 hb1)
    have hb1h := Lib.hid hb1
    clear hA hE hb1
    go_wp2_with fail
    refine hA1.out.mono ?_
    rintro e w2 ⟨rfl, hb2⟩
    clear hA1
    go_wp2_with fail
    go_ret
    exact ⟨rfl, bel_step hb1h.out hb2⟩
end Go.Proofs.YthkfkdcmnkkdhaaDoor
