/- LexWrong. -/
import Derived.Test.YthkfkdcmnkkdhaaDoorB6
namespace Go.Proofs.YthkfkdcmnkkdhaaDoor
open Go Go.RowKit
set_option maxRecDepth 100000
set_option linter.unusedVariables false
theorem app_list (a b : ByteArray) : (a ++ b).data.toList = a.data.toList ++ b.data.toList := by
  rw [ByteArray.data_append, Array.toList_append]
theorem wrong_math (x bad : List UInt8) (e : Int) (h : Lx.lex rkL mkL (bad ++ [32, 80]) 0 = .bad 0 e) :
    (∃ a e', Lx.lex rkL mkL x 0 = .bad a e' ∧ Lx.lex rkL mkL (x ++ [32] ++ bad ++ [32, 80]) 0 = .bad a e') ∨
    (∃ l, Lx.lex rkL mkL x 0 = .ok l ∧ Lx.lex rkL mkL (x ++ [32] ++ bad ++ [32, 80]) 0 = .bad (x.length + 1) e) := by
  have e1 : x ++ [32] ++ bad ++ [32, 80] = x ++ 32 :: (bad ++ [32, 80]) := by simp
  rw [e1]
  rcases Lx.lex_both rkL mkL 32 (bad ++ [32, 80]) rfl x.length x 0 (Nat.le_refl _) with ⟨a, e', h1, h2⟩ | ⟨l0, h1, h2⟩
  · exact .inl ⟨a, e', h1, h2⟩
  · refine .inr ⟨_, h1, ?_⟩
    have h3 := Lx.lex_shift rkL mkL (x.length + 1) (bad ++ [32, 80]).length (bad ++ [32, 80]) 0 (Nat.le_refl _)
    rw [h] at h3
    rw [h2, show 0 + x.length + 1 = 0 + (x.length + 1) by omega, h3]
    simp [Lx.Out.shift, Lx.Out.app]
/-- The one of six things, and its error. -/
def badW (r : Nat) : List UInt8 := [[55], [36], [45], [120, 121], [63], [128]].getD r []
def badE (r : Nat) : Int := if r = 3 ∨ r = 4 then 41 else 40
theorem bad_lex (r : Nat) (hr : r < 6) : Lx.lex rkL mkL (badW r ++ [32, 80]) 0 = .bad 0 (badE r) := by
  rcases show r = 0 ∨ r = 1 ∨ r = 2 ∨ r = 3 ∨ r = 4 ∨ r = 5 by omega with rfl | rfl | rfl | rfl | rfl | rfl
  all_goals kernel_rfl
set_option maxHeartbeats 4000000 in
theorem lexWrong_walk (s : ByteArray) (a : Int) (w : World) (hsg : Sgs w) (hm : s.size ≤ maxLen) (ha : (Lit.int .u8 a).wf = true) : Calls Tryd.prog 10 #[.string s, .int .u8 a] w fun e w' => e = .returned (.bool true) ∧ Below w.heap.size w w' := by
  unfold maxLen at hm
  have ha0 : 0 ≤ a ∧ a ≤ 255 := by simpa [Lit.wf, IntKind.min, IntKind.max, show IntKind.u8.signed = false from rfl, show IntKind.u8.bits = 8 from rfl] using ha
  clear ha
  have hsh := Lib.hid hsg
  have hA := Lib.hid (awake_any w hsg)
  clear hsg
  by_cases hlong : 1500 < s.size
  · have h1 : (1500 : Int) < (s.size : Int) := by omega
    go_enter Tryd.func10, Tryd.ntmps10
    go_wp2_with fail
    refine hA.out.mono ?_
    rintro e w1 ⟨rfl, hb1⟩
    clear hA
    go_wp2_with fail
    go_ret
    exact ⟨rfl, hb1⟩
  · have h1 : (s.size : Int) ≤ 1500 := by omega
    have hLx := Lib.hid (fun W h => lex_small s (by omega) W h)
    have h00 := ha0.1
    have h01 := ha0.2
    have hr6 : 0 ≤ a % 6 ∧ a % 6 < 6 := ⟨Int.emod_nonneg _ (by decide), Int.emod_lt_of_pos _ (by decide)⟩
    have hcases : a % 6 = 0 ∨ a % 6 = 1 ∨ a % 6 = 2 ∨ a % 6 = 3 ∨ a % 6 = 4 ∨ a % 6 = 5 := by omega
    clear ha0 hr6
    rcases hcases with hr | hr | hr | hr | hr | hr
    · have hX := wrong_math s.data.toList [55] 40 (bad_lex 0 (by decide))
      have hls : (s ++ ⟨#[32]⟩ ++ ⟨#[55]⟩ ++ ⟨#[32, 80]⟩ : ByteArray).data.toList = s.data.toList ++ [32] ++ [55] ++ [32, 80] := by rw [app_list, app_list, app_list]
      rw [← hls] at hX
      have hsz : (s ++ ⟨#[32]⟩ ++ ⟨#[55]⟩ ++ ⟨#[32, 80]⟩ : ByteArray).size ≤ 16384 := by
        rw [ByteArray.size_append, ByteArray.size_append, ByteArray.size_append]
        have e1 : (⟨#[32]⟩ : ByteArray).size = 1 := rfl
        have e2 : (⟨#[55]⟩ : ByteArray).size = 1 := rfl
        have e3 : (⟨#[32, 80]⟩ : ByteArray).size = 2 := rfl
        omega
      have hXh := Lib.hid hX
      have hszh := Lib.hid hsz
      clear hls hX hsz
      go_enter Tryd.func10, Tryd.ntmps10
      go_wp2_with fail
      refine hA.out.mono ?_
      rintro e w1 ⟨rfl, hb1⟩
      have hs1 := hsh.out.of hb1
      have hb1h := Lib.hid hb1
      clear hA hb1 hsh
      go_wp2_with fail
      refine (hLx.out _ (hs1.of (bel_laid _ _))).mono ?_
      rintro e w2 ⟨v, a1, er, rfl, ho, hb2⟩
      have hb2h := Lib.hid (bel_step (bel_step hb1h.out (bel_laid _ _)) hb2)
      have hs2 := (hs1.of (bel_laid w1 _)).of hb2
      clear hb1h hs1 hLx hb2
      rcases hXh.out with ⟨a2, e2, hq, hq2⟩ | ⟨l, hq, hq2⟩
      · have hL2 := Lib.hid (fun W h => lex_bad _ a2 e2 hq2 hszh.out W h)
        have he := Lx.lex_bad_e rkL mkL kinds _ _ _ _ _ (Nat.le_refl _) hq
        rw [hq] at ho
        obtain ⟨rfl, rfl, rfl⟩ := ho
        clear hq hq2 hXh
        rcases he with rfl | rfl
        all_goals
          have hL3 := Lib.hid (hL2.out w2 hs2)
          have hee : ((a2 : Int) == (a2 : Int)) = true := by simp
          go_wp2_with fail
          refine hL3.out.mono ?_
          rintro e w3 ⟨rfl, hb3⟩
          have hb3h := Lib.hid (bel_step hb2h.out hb3)
          clear hL3 hL2 hb3
          go_wp2_with fail
          go_ret
          exact ⟨rfl, hb3h.out⟩
      · have hlen : s.data.toList.length = s.size := by simp
        rw [hlen] at hq2
        have hL2 := Lib.hid (lex_bad _ (s.size + 1) 40 hq2 hszh.out w2 hs2)
        rw [hq] at ho
        obtain ⟨htk, rfl, rfl⟩ := ho
        obtain ⟨p, c, b, o, rfl, -, -⟩ := htk.opened
        have hce : ((s.size + 1 : Nat) : Int) = (s.size : Int) + 1 := by omega
        rw [hce] at hL2
        have hee : ((s.size : Int) + 1 == (s.size : Int) + 1) = true := by simp
        clear hq hq2 hXh htk hlen hce
        go_wp2_with fail
        refine hL2.out.mono ?_
        rintro e w3 ⟨rfl, hb3⟩
        have hb3h := Lib.hid (bel_step hb2h.out hb3)
        clear hL2 hb3
        go_wp2_with fail
        go_ret
        exact ⟨rfl, hb3h.out⟩
    · have hX := wrong_math s.data.toList [36] 40 (bad_lex 1 (by decide))
      have hls : (s ++ ⟨#[32]⟩ ++ ⟨#[36]⟩ ++ ⟨#[32, 80]⟩ : ByteArray).data.toList = s.data.toList ++ [32] ++ [36] ++ [32, 80] := by rw [app_list, app_list, app_list]
      rw [← hls] at hX
      have hsz : (s ++ ⟨#[32]⟩ ++ ⟨#[36]⟩ ++ ⟨#[32, 80]⟩ : ByteArray).size ≤ 16384 := by
        rw [ByteArray.size_append, ByteArray.size_append, ByteArray.size_append]
        have e1 : (⟨#[32]⟩ : ByteArray).size = 1 := rfl
        have e2 : (⟨#[36]⟩ : ByteArray).size = 1 := rfl
        have e3 : (⟨#[32, 80]⟩ : ByteArray).size = 2 := rfl
        omega
      have hXh := Lib.hid hX
      have hszh := Lib.hid hsz
      clear hls hX hsz
      go_enter Tryd.func10, Tryd.ntmps10
      go_wp2_with fail
      refine hA.out.mono ?_
      rintro e w1 ⟨rfl, hb1⟩
      have hs1 := hsh.out.of hb1
      have hb1h := Lib.hid hb1
      clear hA hb1 hsh
      go_wp2_with fail
      refine (hLx.out _ (hs1.of (bel_laid _ _))).mono ?_
      rintro e w2 ⟨v, a1, er, rfl, ho, hb2⟩
      have hb2h := Lib.hid (bel_step (bel_step hb1h.out (bel_laid _ _)) hb2)
      have hs2 := (hs1.of (bel_laid w1 _)).of hb2
      clear hb1h hs1 hLx hb2
      rcases hXh.out with ⟨a2, e2, hq, hq2⟩ | ⟨l, hq, hq2⟩
      · have hL2 := Lib.hid (fun W h => lex_bad _ a2 e2 hq2 hszh.out W h)
        have he := Lx.lex_bad_e rkL mkL kinds _ _ _ _ _ (Nat.le_refl _) hq
        rw [hq] at ho
        obtain ⟨rfl, rfl, rfl⟩ := ho
        clear hq hq2 hXh
        rcases he with rfl | rfl
        all_goals
          have hL3 := Lib.hid (hL2.out w2 hs2)
          have hee : ((a2 : Int) == (a2 : Int)) = true := by simp
          go_wp2_with fail
          refine hL3.out.mono ?_
          rintro e w3 ⟨rfl, hb3⟩
          have hb3h := Lib.hid (bel_step hb2h.out hb3)
          clear hL3 hL2 hb3
          go_wp2_with fail
          go_ret
          exact ⟨rfl, hb3h.out⟩
      · have hlen : s.data.toList.length = s.size := by simp
        rw [hlen] at hq2
        have hL2 := Lib.hid (lex_bad _ (s.size + 1) 40 hq2 hszh.out w2 hs2)
        rw [hq] at ho
        obtain ⟨htk, rfl, rfl⟩ := ho
        obtain ⟨p, c, b, o, rfl, -, -⟩ := htk.opened
        have hce : ((s.size + 1 : Nat) : Int) = (s.size : Int) + 1 := by omega
        rw [hce] at hL2
        have hee : ((s.size : Int) + 1 == (s.size : Int) + 1) = true := by simp
        clear hq hq2 hXh htk hlen hce
        go_wp2_with fail
        refine hL2.out.mono ?_
        rintro e w3 ⟨rfl, hb3⟩
        have hb3h := Lib.hid (bel_step hb2h.out hb3)
        clear hL2 hb3
        go_wp2_with fail
        go_ret
        exact ⟨rfl, hb3h.out⟩
    · have hX := wrong_math s.data.toList [45] 40 (bad_lex 2 (by decide))
      have hls : (s ++ ⟨#[32]⟩ ++ ⟨#[45]⟩ ++ ⟨#[32, 80]⟩ : ByteArray).data.toList = s.data.toList ++ [32] ++ [45] ++ [32, 80] := by rw [app_list, app_list, app_list]
      rw [← hls] at hX
      have hsz : (s ++ ⟨#[32]⟩ ++ ⟨#[45]⟩ ++ ⟨#[32, 80]⟩ : ByteArray).size ≤ 16384 := by
        rw [ByteArray.size_append, ByteArray.size_append, ByteArray.size_append]
        have e1 : (⟨#[32]⟩ : ByteArray).size = 1 := rfl
        have e2 : (⟨#[45]⟩ : ByteArray).size = 1 := rfl
        have e3 : (⟨#[32, 80]⟩ : ByteArray).size = 2 := rfl
        omega
      have hXh := Lib.hid hX
      have hszh := Lib.hid hsz
      clear hls hX hsz
      go_enter Tryd.func10, Tryd.ntmps10
      go_wp2_with fail
      refine hA.out.mono ?_
      rintro e w1 ⟨rfl, hb1⟩
      have hs1 := hsh.out.of hb1
      have hb1h := Lib.hid hb1
      clear hA hb1 hsh
      go_wp2_with fail
      refine (hLx.out _ (hs1.of (bel_laid _ _))).mono ?_
      rintro e w2 ⟨v, a1, er, rfl, ho, hb2⟩
      have hb2h := Lib.hid (bel_step (bel_step hb1h.out (bel_laid _ _)) hb2)
      have hs2 := (hs1.of (bel_laid w1 _)).of hb2
      clear hb1h hs1 hLx hb2
      rcases hXh.out with ⟨a2, e2, hq, hq2⟩ | ⟨l, hq, hq2⟩
      · have hL2 := Lib.hid (fun W h => lex_bad _ a2 e2 hq2 hszh.out W h)
        have he := Lx.lex_bad_e rkL mkL kinds _ _ _ _ _ (Nat.le_refl _) hq
        rw [hq] at ho
        obtain ⟨rfl, rfl, rfl⟩ := ho
        clear hq hq2 hXh
        rcases he with rfl | rfl
        all_goals
          have hL3 := Lib.hid (hL2.out w2 hs2)
          have hee : ((a2 : Int) == (a2 : Int)) = true := by simp
          go_wp2_with fail
          refine hL3.out.mono ?_
          rintro e w3 ⟨rfl, hb3⟩
          have hb3h := Lib.hid (bel_step hb2h.out hb3)
          clear hL3 hL2 hb3
          go_wp2_with fail
          go_ret
          exact ⟨rfl, hb3h.out⟩
      · have hlen : s.data.toList.length = s.size := by simp
        rw [hlen] at hq2
        have hL2 := Lib.hid (lex_bad _ (s.size + 1) 40 hq2 hszh.out w2 hs2)
        rw [hq] at ho
        obtain ⟨htk, rfl, rfl⟩ := ho
        obtain ⟨p, c, b, o, rfl, -, -⟩ := htk.opened
        have hce : ((s.size + 1 : Nat) : Int) = (s.size : Int) + 1 := by omega
        rw [hce] at hL2
        have hee : ((s.size : Int) + 1 == (s.size : Int) + 1) = true := by simp
        clear hq hq2 hXh htk hlen hce
        go_wp2_with fail
        refine hL2.out.mono ?_
        rintro e w3 ⟨rfl, hb3⟩
        have hb3h := Lib.hid (bel_step hb2h.out hb3)
        clear hL2 hb3
        go_wp2_with fail
        go_ret
        exact ⟨rfl, hb3h.out⟩
    · have hX := wrong_math s.data.toList [120, 121] 41 (bad_lex 3 (by decide))
      have hls : (s ++ ⟨#[32]⟩ ++ ⟨#[120, 121]⟩ ++ ⟨#[32, 80]⟩ : ByteArray).data.toList = s.data.toList ++ [32] ++ [120, 121] ++ [32, 80] := by rw [app_list, app_list, app_list]
      rw [← hls] at hX
      have hsz : (s ++ ⟨#[32]⟩ ++ ⟨#[120, 121]⟩ ++ ⟨#[32, 80]⟩ : ByteArray).size ≤ 16384 := by
        rw [ByteArray.size_append, ByteArray.size_append, ByteArray.size_append]
        have e1 : (⟨#[32]⟩ : ByteArray).size = 1 := rfl
        have e2 : (⟨#[120, 121]⟩ : ByteArray).size = 2 := rfl
        have e3 : (⟨#[32, 80]⟩ : ByteArray).size = 2 := rfl
        omega
      have hXh := Lib.hid hX
      have hszh := Lib.hid hsz
      clear hls hX hsz
      go_enter Tryd.func10, Tryd.ntmps10
      go_wp2_with fail
      refine hA.out.mono ?_
      rintro e w1 ⟨rfl, hb1⟩
      have hs1 := hsh.out.of hb1
      have hb1h := Lib.hid hb1
      clear hA hb1 hsh
      go_wp2_with fail
      refine (hLx.out _ (hs1.of (bel_laid _ _))).mono ?_
      rintro e w2 ⟨v, a1, er, rfl, ho, hb2⟩
      have hb2h := Lib.hid (bel_step (bel_step hb1h.out (bel_laid _ _)) hb2)
      have hs2 := (hs1.of (bel_laid w1 _)).of hb2
      clear hb1h hs1 hLx hb2
      rcases hXh.out with ⟨a2, e2, hq, hq2⟩ | ⟨l, hq, hq2⟩
      · have hL2 := Lib.hid (fun W h => lex_bad _ a2 e2 hq2 hszh.out W h)
        have he := Lx.lex_bad_e rkL mkL kinds _ _ _ _ _ (Nat.le_refl _) hq
        rw [hq] at ho
        obtain ⟨rfl, rfl, rfl⟩ := ho
        clear hq hq2 hXh
        rcases he with rfl | rfl
        all_goals
          have hL3 := Lib.hid (hL2.out w2 hs2)
          have hee : ((a2 : Int) == (a2 : Int)) = true := by simp
          go_wp2_with fail
          refine hL3.out.mono ?_
          rintro e w3 ⟨rfl, hb3⟩
          have hb3h := Lib.hid (bel_step hb2h.out hb3)
          clear hL3 hL2 hb3
          go_wp2_with fail
          go_ret
          exact ⟨rfl, hb3h.out⟩
      · have hlen : s.data.toList.length = s.size := by simp
        rw [hlen] at hq2
        have hL2 := Lib.hid (lex_bad _ (s.size + 1) 41 hq2 hszh.out w2 hs2)
        rw [hq] at ho
        obtain ⟨htk, rfl, rfl⟩ := ho
        obtain ⟨p, c, b, o, rfl, -, -⟩ := htk.opened
        have hce : ((s.size + 1 : Nat) : Int) = (s.size : Int) + 1 := by omega
        rw [hce] at hL2
        have hee : ((s.size : Int) + 1 == (s.size : Int) + 1) = true := by simp
        clear hq hq2 hXh htk hlen hce
        go_wp2_with fail
        refine hL2.out.mono ?_
        rintro e w3 ⟨rfl, hb3⟩
        have hb3h := Lib.hid (bel_step hb2h.out hb3)
        clear hL2 hb3
        go_wp2_with fail
        go_ret
        exact ⟨rfl, hb3h.out⟩
    · have hX := wrong_math s.data.toList [63] 41 (bad_lex 4 (by decide))
      have hls : (s ++ ⟨#[32]⟩ ++ ⟨#[63]⟩ ++ ⟨#[32, 80]⟩ : ByteArray).data.toList = s.data.toList ++ [32] ++ [63] ++ [32, 80] := by rw [app_list, app_list, app_list]
      rw [← hls] at hX
      have hsz : (s ++ ⟨#[32]⟩ ++ ⟨#[63]⟩ ++ ⟨#[32, 80]⟩ : ByteArray).size ≤ 16384 := by
        rw [ByteArray.size_append, ByteArray.size_append, ByteArray.size_append]
        have e1 : (⟨#[32]⟩ : ByteArray).size = 1 := rfl
        have e2 : (⟨#[63]⟩ : ByteArray).size = 1 := rfl
        have e3 : (⟨#[32, 80]⟩ : ByteArray).size = 2 := rfl
        omega
      have hXh := Lib.hid hX
      have hszh := Lib.hid hsz
      clear hls hX hsz
      go_enter Tryd.func10, Tryd.ntmps10
      go_wp2_with fail
      refine hA.out.mono ?_
      rintro e w1 ⟨rfl, hb1⟩
      have hs1 := hsh.out.of hb1
      have hb1h := Lib.hid hb1
      clear hA hb1 hsh
      go_wp2_with fail
      refine (hLx.out _ (hs1.of (bel_laid _ _))).mono ?_
      rintro e w2 ⟨v, a1, er, rfl, ho, hb2⟩
      have hb2h := Lib.hid (bel_step (bel_step hb1h.out (bel_laid _ _)) hb2)
      have hs2 := (hs1.of (bel_laid w1 _)).of hb2
      clear hb1h hs1 hLx hb2
      rcases hXh.out with ⟨a2, e2, hq, hq2⟩ | ⟨l, hq, hq2⟩
      · have hL2 := Lib.hid (fun W h => lex_bad _ a2 e2 hq2 hszh.out W h)
        have he := Lx.lex_bad_e rkL mkL kinds _ _ _ _ _ (Nat.le_refl _) hq
        rw [hq] at ho
        obtain ⟨rfl, rfl, rfl⟩ := ho
        clear hq hq2 hXh
        rcases he with rfl | rfl
        all_goals
          have hL3 := Lib.hid (hL2.out w2 hs2)
          have hee : ((a2 : Int) == (a2 : Int)) = true := by simp
          go_wp2_with fail
          refine hL3.out.mono ?_
          rintro e w3 ⟨rfl, hb3⟩
          have hb3h := Lib.hid (bel_step hb2h.out hb3)
          clear hL3 hL2 hb3
          go_wp2_with fail
          go_ret
          exact ⟨rfl, hb3h.out⟩
      · have hlen : s.data.toList.length = s.size := by simp
        rw [hlen] at hq2
        have hL2 := Lib.hid (lex_bad _ (s.size + 1) 41 hq2 hszh.out w2 hs2)
        rw [hq] at ho
        obtain ⟨htk, rfl, rfl⟩ := ho
        obtain ⟨p, c, b, o, rfl, -, -⟩ := htk.opened
        have hce : ((s.size + 1 : Nat) : Int) = (s.size : Int) + 1 := by omega
        rw [hce] at hL2
        have hee : ((s.size : Int) + 1 == (s.size : Int) + 1) = true := by simp
        clear hq hq2 hXh htk hlen hce
        go_wp2_with fail
        refine hL2.out.mono ?_
        rintro e w3 ⟨rfl, hb3⟩
        have hb3h := Lib.hid (bel_step hb2h.out hb3)
        clear hL2 hb3
        go_wp2_with fail
        go_ret
        exact ⟨rfl, hb3h.out⟩
    · have hX := wrong_math s.data.toList [128] 40 (bad_lex 5 (by decide))
      have hls : (s ++ ⟨#[32]⟩ ++ ⟨#[128]⟩ ++ ⟨#[32, 80]⟩ : ByteArray).data.toList = s.data.toList ++ [32] ++ [128] ++ [32, 80] := by rw [app_list, app_list, app_list]
      rw [← hls] at hX
      have hsz : (s ++ ⟨#[32]⟩ ++ ⟨#[128]⟩ ++ ⟨#[32, 80]⟩ : ByteArray).size ≤ 16384 := by
        rw [ByteArray.size_append, ByteArray.size_append, ByteArray.size_append]
        have e1 : (⟨#[32]⟩ : ByteArray).size = 1 := rfl
        have e2 : (⟨#[128]⟩ : ByteArray).size = 1 := rfl
        have e3 : (⟨#[32, 80]⟩ : ByteArray).size = 2 := rfl
        omega
      have hXh := Lib.hid hX
      have hszh := Lib.hid hsz
      clear hls hX hsz
      go_enter Tryd.func10, Tryd.ntmps10
      go_wp2_with fail
      refine hA.out.mono ?_
      rintro e w1 ⟨rfl, hb1⟩
      have hs1 := hsh.out.of hb1
      have hb1h := Lib.hid hb1
      clear hA hb1 hsh
      go_wp2_with fail
      refine (hLx.out _ (hs1.of (bel_laid _ _))).mono ?_
      rintro e w2 ⟨v, a1, er, rfl, ho, hb2⟩
      have hb2h := Lib.hid (bel_step (bel_step hb1h.out (bel_laid _ _)) hb2)
      have hs2 := (hs1.of (bel_laid w1 _)).of hb2
      clear hb1h hs1 hLx hb2
      rcases hXh.out with ⟨a2, e2, hq, hq2⟩ | ⟨l, hq, hq2⟩
      · have hL2 := Lib.hid (fun W h => lex_bad _ a2 e2 hq2 hszh.out W h)
        have he := Lx.lex_bad_e rkL mkL kinds _ _ _ _ _ (Nat.le_refl _) hq
        rw [hq] at ho
        obtain ⟨rfl, rfl, rfl⟩ := ho
        clear hq hq2 hXh
        rcases he with rfl | rfl
        all_goals
          have hL3 := Lib.hid (hL2.out w2 hs2)
          have hee : ((a2 : Int) == (a2 : Int)) = true := by simp
          go_wp2_with fail
          refine hL3.out.mono ?_
          rintro e w3 ⟨rfl, hb3⟩
          have hb3h := Lib.hid (bel_step hb2h.out hb3)
          clear hL3 hL2 hb3
          go_wp2_with fail
          go_ret
          exact ⟨rfl, hb3h.out⟩
      · have hlen : s.data.toList.length = s.size := by simp
        rw [hlen] at hq2
        have hL2 := Lib.hid (lex_bad _ (s.size + 1) 40 hq2 hszh.out w2 hs2)
        rw [hq] at ho
        obtain ⟨htk, rfl, rfl⟩ := ho
        obtain ⟨p, c, b, o, rfl, -, -⟩ := htk.opened
        have hce : ((s.size + 1 : Nat) : Int) = (s.size : Int) + 1 := by omega
        rw [hce] at hL2
        have hee : ((s.size : Int) + 1 == (s.size : Int) + 1) = true := by simp
        clear hq hq2 hXh htk hlen hce
        go_wp2_with fail
        refine hL2.out.mono ?_
        rintro e w3 ⟨rfl, hb3⟩
        have hb3h := Lib.hid (bel_step hb2h.out hb3)
        clear hL2 hb3
        go_wp2_with fail
        go_ret
        exact ⟨rfl, hb3h.out⟩
end Go.Proofs.YthkfkdcmnkkdhaaDoor
