/- LexLongest. -/
import Derived.Test.YthkfkdcmnkkdhaaDoorB6
import Derived.Test.YthkfkdcmnkkdhaaDoorL5
namespace Go.Proofs.YthkfkdcmnkkdhaaDoor
open Go Go.RowKit
set_option maxRecDepth 100000
set_option linter.unusedVariables false
/-- Two tokens in blocks of their own. -/
structure Two (V : World) (b7 b8 : Nat) (t u : Lx.Tok) (U : World) : Prop where
  bel : Below V.heap.size V U
  a0 : U.cell? ⟨b7, 0, none⟩ = some (.int .u8 t.k)
  a1 : U.cell? ⟨b7, 1, none⟩ = some (.string ⟨t.t.toArray⟩)
  a2 : U.cell? ⟨b7, 2, none⟩ = some (.int .i64 t.at')
  c0 : U.cell? ⟨b8, 0, none⟩ = some (.int .u8 u.k)
  c1 : U.cell? ⟨b8, 1, none⟩ = some (.string ⟨u.t.toArray⟩)
  c2 : U.cell? ⟨b8, 2, none⟩ = some (.int .i64 u.at')
theorem app_list' (a b : List UInt8) : ((⟨a.toArray⟩ : ByteArray) ++ ⟨b.toArray⟩).data.toList = a ++ b := by
  rw [ByteArray.data_append, Array.toList_append]
theorem two_a (V : World) (t u : Lx.Tok) : Two V V.heap.size (V.heap.size + 1) t u ((V.alloc (.cells #[.int .u8 t.k, .string ⟨t.t.toArray⟩, .int .i64 t.at'] 27)).alloc (.cells #[.int .u8 u.k, .string ⟨u.t.toArray⟩, .int .i64 u.at'] 27)).drew := by
  have h1 := bel_laid V (.cells #[.int .u8 t.k, .string ⟨t.t.toArray⟩, .int .i64 t.at'] 27)
  have h2 := bel_laid (V.alloc (.cells #[.int .u8 t.k, .string ⟨t.t.toArray⟩, .int .i64 t.at'] 27)) (.cells #[.int .u8 u.k, .string ⟨u.t.toArray⟩, .int .i64 u.at'] 27)
  have h3 := bel_drew ((V.alloc (.cells #[.int .u8 t.k, .string ⟨t.t.toArray⟩, .int .i64 t.at'] 27)).alloc (.cells #[.int .u8 u.k, .string ⟨u.t.toArray⟩, .int .i64 u.at'] 27))
  have e := cell_new V #[.int .u8 t.k, .string ⟨t.t.toArray⟩, .int .i64 t.at'] 27
  have f := cell_new (V.alloc (.cells #[.int .u8 t.k, .string ⟨t.t.toArray⟩, .int .i64 t.at'] 27)) #[.int .u8 u.k, .string ⟨u.t.toArray⟩, .int .i64 u.at'] 27
  rw [World.size_alloc] at f
  exact ⟨bel_step (bel_step h1 h2) h3, cell_below (bel_step h2 h3) ((e 0).trans rfl), cell_below (bel_step h2 h3) ((e 1).trans rfl), cell_below (bel_step h2 h3) ((e 2).trans rfl),
    cell_below h3 ((f 0).trans rfl), cell_below h3 ((f 1).trans rfl), cell_below h3 ((f 2).trans rfl)⟩
theorem two_b (V : World) (t u : Lx.Tok) : Two V (V.heap.size + 1) V.heap.size t u ((V.alloc (.cells #[.int .u8 u.k, .string ⟨u.t.toArray⟩, .int .i64 u.at'] 27)).alloc (.cells #[.int .u8 t.k, .string ⟨t.t.toArray⟩, .int .i64 t.at'] 27)).drew := by
  obtain ⟨h, a0, a1, a2, c0, c1, c2⟩ := two_a V u t
  exact ⟨h, c0, c1, c2, a0, a1, a2⟩
set_option maxHeartbeats 4000000 in
theorem lexLongest_walk (s : ByteArray) (w : World) (hsg : Sgs w) (hm : s.size ≤ maxLen) : Calls Tryd.prog 9 #[.string s] w fun e w' => e = .returned (.bool true) ∧ Below w.heap.size w w' := by
  unfold maxLen at hm
  have hsh := Lib.hid hsg
  have hA := Lib.hid (awake_any w hsg)
  clear hsg
  by_cases hlong : 3000 < s.size
  · have h1 : (3000 : Int) < (s.size : Int) := by omega
    go_enter Tryd.func9, Tryd.ntmps9
    go_wp2_with fail
    refine hA.out.mono ?_
    rintro e w1 ⟨rfl, hb1⟩
    clear hA
    go_wp2_with fail
    go_ret
    exact ⟨rfl, hb1⟩
  · have h1 : (s.size : Int) ≤ 3000 := by omega
    have hLx := Lib.hid (fun W h => lex_small s (by omega) W h)
    go_enter Tryd.func9, Tryd.ntmps9
    go_wp2_with fail
    refine hA.out.mono ?_
    rintro e w1 ⟨rfl, hb1⟩
    have hs1 := hsh.out.of hb1
    have hb1h := Lib.hid hb1
    clear hA hb1 hsh
    go_wp2_with fail
    refine (hLx.out w1 hs1).mono ?_
    rintro e w2 ⟨v, a, er, rfl, ho, hb2⟩
    have hb2h := Lib.hid (bel_step hb1h.out hb2)
    have hs2 := hs1.of hb2
    clear hb1h hs1 hLx hb2
    cases hq : Lx.lex rkL mkL s.data.toList 0 with
    | bad p e2 =>
      have he := Lx.lex_bad_e rkL mkL kinds _ _ _ _ _ (Nat.le_refl _) hq
      rw [hq] at ho
      obtain ⟨rfl, rfl, rfl⟩ := ho
      rcases he with rfl | rfl
      all_goals
        go_wp2_with fail
        go_ret
        exact ⟨rfl, hb2h.out⟩
    | ok l =>
      have hxl : s.data.toList.length = s.size := by simp
      have hpair := Lib.hid (lex_pairs s.data.toList.length s.data.toList 0 l (Nat.le_refl _) hq)
      have hge := Lib.hid (lex_ge s.data.toList.length s.data.toList 0 l (Nat.le_refl _) hq)
      have hle := Lib.hid (lex_le s.data.toList.length s.data.toList 0 l (Nat.le_refl _) hq)
      obtain ⟨j1, j2, -⟩ := joined_math (by rw [hxl]; omega) hq
      have j2h := Lib.hid j2
      rw [hq] at ho
      obtain ⟨htk, rfl, rfl⟩ := ho
      obtain ⟨p, c, b, o, rfl, hp, hat⟩ := htk.opened
      have hath := Lib.hid hat
      have hs2h := Lib.hid hs2
      clear hq htk hat hs2 j2
      go_wp2_with fail
      go_loopw [6] (fun i wr => ∃ k : Nat, k ≤ l.length ∧ i = .int .i64 k ∧ Below w2.heap.size w2 wr) (fun i _ => l.length - (intOf i).toNat)
      case atStart => exact ⟨0, Nat.zero_le _, rfl, Below.refl _ _⟩
      case round =>
        obtain ⟨k, hk, rfl, hb⟩ := hrel
        have hbh := Lib.hid hb
        by_cases hlt : k + 2 < l.length
        · have hlt' : (k : Int) + 2 < (l.length : Int) := by omega
          have hlt0 : (k : Int) < (l.length : Int) := by omega
          have hlt1 : (k : Int) + 1 < (l.length : Int) := by omega
          obtain ⟨t, ht⟩ : ∃ t, l[k]? = some t := ⟨_, List.getElem?_eq_getElem (by omega)⟩
          obtain ⟨u, hu⟩ : ∃ u, l[k + 1]? = some u := ⟨_, List.getElem?_eq_getElem (by omega)⟩
          rcases hp with hp | rfl
          · omega
          obtain ⟨a0, a1, a2⟩ := hath.out k t ht
          obtain ⟨b0, b1, b2⟩ := hath.out (k + 1) u hu
          have d0 := cell_below hb a0
          have d1 := cell_below hb a1
          have d2 := cell_below hb a2
          have f0 := cell_below hb b0
          have f1 := cell_below hb b1
          have f2 := cell_below hb b2
          have hPO := hpair.out k t u hlt ht hu
          have ht0 := hge.out t (List.mem_of_getElem? ht)
          have ht1 := hle.out t (List.mem_of_getElem? ht)
          have hu0 := hge.out u (List.mem_of_getElem? hu)
          have hu1 := hle.out u (List.mem_of_getElem? hu)
          rw [hxl] at ht1 hu1
          have hPOh := Lib.hid hPO
          have hj2t := j2h.out t (List.mem_of_getElem? ht)
          have hj2u := j2h.out u (List.mem_of_getElem? hu)
          have htk1 : ((k : Int) + 1).toNat = k + 1 := by omega
          have hk0 : (0 : Int) ≤ (k : Int) + 1 := by omega
          have hw1 : IntKind.i64.wrap ((k : Int) + 1) = (k : Int) + 1 := IntWalk.i64_in _ (by omega)
          clear a0 a1 a2 b0 b1 b2 ht hu hPO hb
          have hS : ∀ W, Below wr.heap.size wr W → W.cell? ⟨b, o + k * 3, none⟩ = some (.int .u8 t.k) ∧ W.cell? ⟨b, o + k * 3 + 1, none⟩ = some (.string ⟨t.t.toArray⟩) ∧ W.cell? ⟨b, o + k * 3 + 2, none⟩ = some (.int .i64 t.at') ∧
              W.cell? ⟨b, o + (k + 1) * 3, none⟩ = some (.int .u8 u.k) ∧ W.cell? ⟨b, o + (k + 1) * 3 + 1, none⟩ = some (.string ⟨u.t.toArray⟩) ∧ W.cell? ⟨b, o + (k + 1) * 3 + 2, none⟩ = some (.int .i64 u.at') ∧ Below wr.heap.size wr W :=
            fun W hb => ⟨cell_below hb d0, cell_below hb d1, cell_below hb d2, cell_below hb f0, cell_below hb f1, cell_below hb f2, hb⟩
          have hSh := Lib.hid hS
          clear hS
          go_wp2_with fail
          go_region_held3 (fun W => W.cell? ⟨b, o + k * 3, none⟩ = some (.int .u8 t.k) ∧ W.cell? ⟨b, o + k * 3 + 1, none⟩ = some (.string ⟨t.t.toArray⟩) ∧ W.cell? ⟨b, o + k * 3 + 2, none⟩ = some (.int .i64 t.at') ∧ W.cell? ⟨b, o + (k + 1) * 3, none⟩ = some (.int .u8 u.k) ∧ W.cell? ⟨b, o + (k + 1) * 3 + 1, none⟩ = some (.string ⟨u.t.toArray⟩) ∧ W.cell? ⟨b, o + (k + 1) * 3 + 2, none⟩ = some (.int .i64 u.at') ∧ Below wr.heap.size wr W)
            (first | assumption | exact hSh.out _ (bel_drew _) | exact hSh.out _ (bel_step (bel_laid _ _) (bel_drew _)) | exact hSh.out _ (bel_step (bel_step (bel_laid _ _) (bel_laid _ _)) (bel_drew _)) | trace_state)
            (fail)
          all_goals
            first
              | (have hT := two_a wr t u
                 obtain ⟨U, hU⟩ : ∃ U, ((wr.alloc (.cells #[.int .u8 t.k, .string ⟨t.t.toArray⟩, .int .i64 t.at'] 27)).alloc (.cells #[.int .u8 u.k, .string ⟨u.t.toArray⟩, .int .i64 u.at'] 27)).drew = U := ⟨_, rfl⟩
                 rw [hU] at hT ⊢
                 clear hU)
              | (have hT := two_b wr t u
                 obtain ⟨U, hU⟩ : ∃ U, ((wr.alloc (.cells #[.int .u8 u.k, .string ⟨u.t.toArray⟩, .int .i64 u.at'] 27)).alloc (.cells #[.int .u8 t.k, .string ⟨t.t.toArray⟩, .int .i64 t.at'] 27)).drew = U := ⟨_, rfl⟩
                 rw [hU] at hT ⊢
                 clear hU)
            have z0 := hT.a0
            have z1 := hT.a1
            have z2 := hT.a2
            have y0 := hT.c0
            have y1 := hT.c1
            have y2 := hT.c2
            have hbU := Lib.hid (bel_step hbh.out hT.bel)
            have hTh := Lib.hid hT
            have hsz : (⟨t.t.toArray⟩ : ByteArray).size = t.t.length := by show t.t.toArray.size = _; simp
            clear d0 d1 d2 f0 f1 f2 hSh hT
            by_cases hadj : u.at' = t.at' + (t.t.length : Int)
            · obtain ⟨hlx, hkk⟩ := hPOh.out hadj
              have hsu : (⟨u.t.toArray⟩ : ByteArray).size = u.t.length := by show u.t.toArray.size = _; simp
              have hL3 := Lib.hid (lex_ok (⟨t.t.toArray⟩ ++ ⟨u.t.toArray⟩) _ (by rw [app_list']; exact hlx) (by rw [ByteArray.size_append, hsz, hsu]; omega) U (hs2h.out.of hbU.out))
              have hne : (t.at' + (t.t.length : Int) != u.at') = false := by rw [hadj]; simp
              have hneh := Lib.hid hne
              clear hadj hsu hlx hne
              have hne := hneh.out
              go_wp2_with fail
              refine hL3.out.mono ?_
              rintro e w5 ⟨v5, rfl, htk5, hb5⟩
              have x0 := cell_below hb5 z0
              have x1 := cell_below hb5 z1
              have v0 := cell_below hb5 y0
              have v1 := cell_below hb5 y1
              obtain ⟨p5, c5, b5, o5, rfl, hp5, hat5⟩ := htk5.opened
              rcases hp5 with hp5 | rfl
              · cases hp5
              have m0 := (hat5 0 _ rfl).2.1
              have m1 := (hat5 1 _ rfl).2.1
              simp only [Nat.zero_mul, Nat.add_zero, Nat.one_mul] at m0 m1
              have hbW := Lib.hid (bel_step hbU.out hb5)
              simp only [List.length_cons, List.length_nil, Nat.zero_add, Nat.reduceAdd]
              clear z0 z1 z2 y0 y1 y2 hat5 htk5 hb5 hL3 hneh hPOh
              go_wp2_with fail
              go_quiet (fail)
              have x0' := cell_below (bel_drewN w5 nq) x0
              have v0' := cell_below (bel_drewN w5 nq) v0
              have hbX := Lib.hid (bel_step hbW.out (bel_drewN w5 nq))
              generalize w5.drewN nq = w6 at x0' v0' hbX ⊢
              clear x0 x1 v0 v1 m0 m1 hbW
              by_cases k4 : t.k = 4
              · have k4b : (t.k != 4) = false := by simp [k4]
                go_wp2_with fail
                exact ⟨⟨k + 1, by omega, by go_num, hbX.out⟩, by simp [intOf]; omega⟩
              · have k4b : (t.k != 4) = true := by simpa using k4
                by_cases u4 : u.k = 4
                · have u4b : (u.k != 4) = false := by simp [u4]
                  go_wp2_with fail
                  exact ⟨⟨k + 1, by omega, by go_num, hbX.out⟩, by simp [intOf]; omega⟩
                · have u4b : (u.k != 4) = true := by simpa using u4
                  have u2 : u.k = 2 := by rcases hkk with h | h | h; exact absurd h k4; exact absurd h u4; exact h
                  have u2b : (u.k != 2) = false := by simp [u2]
                  clear u2 u4 k4
                  go_wp2_with fail
                  exact ⟨⟨k + 1, by omega, by go_num, hbX.out⟩, by simp [intOf]; omega⟩
            · have hne : (t.at' + (t.t.length : Int) != u.at') = true := by simp; omega
              have hne2 : (t.at' + (t.t.length : Int) == u.at') = false := by simp; omega
              clear hadj hPOh
              go_wp2_with fail
              exact ⟨⟨k + 1, by omega, by go_num, hbU.out⟩, by simp [intOf]; omega⟩
        · have hlt' : ¬ ((k : Int) + 2 < (l.length : Int)) := by omega
          have hlt2 : (l.length : Int) ≤ (k : Int) + 2 := by omega
          clear hb
          go_wp2_with fail
          go_ret
          exact ⟨rfl, bel_step hb2h.out hbh.out⟩
end Go.Proofs.YthkfkdcmnkkdhaaDoor
