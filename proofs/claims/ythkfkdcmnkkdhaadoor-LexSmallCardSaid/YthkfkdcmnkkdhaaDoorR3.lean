/- The reference's token, as the mathematics tells it. -/
import Derived.Test.YthkfkdcmnkkdhaaDoorR2
namespace Go.Proofs.YthkfkdcmnkkdhaaDoor
open Go Go.RowKit
set_option maxRecDepth 100000
set_option linter.unusedVariables false
set_option maxHeartbeats 2000000 in
theorem refTok_sign (s : ByteArray) (h0 : 0 < s.size) (hc : letC (s[0].toNat : Int) = false) (h63 : ((s[0].toNat : Int) != 63) = true) (w : World) :
    Calls Tryd.prog 23 #[.string s] w fun e w' => e = .returned (if sgV s.data.toList = 0 then tok3 0 0 40 else tok3 4 (sgV s.data.toList) 0) ∧ w' = w := by
  have h0' : (0 : Int) < (s.size : Int) := by omega
  have hL0 := Lib.hid (refLetter_any (s[0].toNat : Int) w)
  have hS := Lib.hid (refSign_any s h0 w)
  rw [hc] at hL0
  clear hc
  obtain ⟨g, hg⟩ : ∃ g, sgV s.data.toList = g := ⟨_, rfl⟩
  rw [hg] at hS ⊢
  clear hg
  by_cases hz : g = 0
  · subst hz
    rw [if_pos rfl]
    go_enter Tryd.func23, Tryd.ntmps23
    go_wp2_with fail
    refine hL0.out.mono ?_
    rintro e w1 ⟨rfl, rfl⟩
    clear hL0
    go_wp2_with fail
    refine hS.out.mono ?_
    rintro e w1 ⟨rfl, rfl⟩
    go_wp2_with fail
    refine bodyPost_ret (v := .tuple #[.int .u8 0, .int .i64 0, .int .i64 40]) (by simp [results, Tryd.results23, go_sem]) rfl ⟨rfl, rfl⟩
  · rw [if_neg hz]
    have hz' : (g == 0) = false := by simpa using hz
    clear hz
    go_enter Tryd.func23, Tryd.ntmps23
    go_wp2_with fail
    refine hL0.out.mono ?_
    rintro e w1 ⟨rfl, rfl⟩
    clear hL0
    go_wp2_with fail
    refine hS.out.mono ?_
    rintro e w1 ⟨rfl, rfl⟩
    go_wp2_with fail
    refine hS.out.mono ?_
    rintro e w1 ⟨rfl, rfl⟩
    go_wp2_with fail
    refine bodyPost_ret (v := .tuple #[.int .u8 4, .int .i64 g, .int .i64 0]) (by simp [results, Tryd.results23, go_sem]) rfl ⟨rfl, rfl⟩
theorem byte0 (s : ByteArray) (c : UInt8) (r : List UInt8) (h : s.data.toList = c :: r) : ∃ h0 : 0 < s.size, s[0] = c := by
  have hl : s.data.toList.length = s.size := by simp
  rw [h] at hl
  simp only [List.length_cons] at hl
  have h2 : s.data[0]? = some c := by
    have h1 : s.data.toList[0]? = some c := by rw [h]; rfl
    simpa using h1
  exact ⟨by omega, (Array.getElem?_eq_some_iff.1 h2).2⟩
theorem byteI0 (s : ByteArray) (c : UInt8) (r : List UInt8) (h : s.data.toList = c :: r) : byteI s 0 = (c.toNat : Int) := by
  obtain ⟨h0, h1⟩ := byte0 s c r h
  rw [byteI, dif_pos h0, h1]
/-- What the reference's token tells. -/
def tkOut : Lx.Tk → Value
  | .err e => tok3 0 0 e
  | .tok k m => tok3 k (m + 1 : Nat) 0
theorem runV_rk (W : ByteArray) (n : Int) (h : byteI W 0 ≠ 63) : runV (isWordB W.toList) (refMeta W) (refVar W) (refFun W) (refPred W) n = if rkB W = 0 then tok3 0 0 41 else tok3 (rkB W) n 0 := by
  have hM : refMeta W = false := by simp [refMeta, ofMeta, h]
  unfold rkB nameB
  rw [hM, var_eq, fun_eq, pred_eq]
  generalize isWordB W.toList = b1
  generalize refVar W = b2
  generalize refFun W = b3
  generalize refPred W = b4
  cases b1 <;> cases b2 <;> cases b3 <;> cases b4 <;> rfl
theorem runV_mk (W : ByteArray) (n : Int) (r : List UInt8) (h : W.data.toList = 63 :: r) : runV (isWordB W.toList) (refMeta W) (refVar W) (refFun W) (refPred W) n = if mkB W = 0 then tok3 0 0 41 else tok3 (mkB W) n 0 := by
  have hb : byteI W 0 = 63 := byteI0 W 63 r h
  have h1 : isWordB W.toList = false := by
    rw [ByteArray.toList_eq, h]
    simp [isWordB]
  have h2 : refVar W = false := by simp [refVar, inI, hb]
  have h3 : refFun W = false := by simp [refFun, inI, hb]
  have h4 : refPred W = false := by simp [refPred, inI, hb]
  unfold mkB
  rw [h1, h2, h3, h4, meta_eq]
  cases refMeta W <;> rfl
theorem sgV_tk (c : UInt8) (r : List UInt8) : (if sgV (c :: r) = 0 then tok3 0 0 40 else tok3 4 (sgV (c :: r)) 0) = tkOut (match Lx.sgn (c :: r) with
    | none => .err 40
    | some s => .tok 4 (s.length - 1)) := by
  unfold sgV
  cases hs : Lx.sgn (c :: r) with
  | none => rfl
  | some s =>
    have hpos := Lx.sgs_pos s (Lx.sgn_mem hs).1
    simp only [tkOut]
    rw [if_neg (by omega), show s.length - 1 + 1 = s.length by omega]
theorem refTok_any (y : ByteArray) (hm : y.size ≤ 1000000) (c : UInt8) (r : List UInt8) (hy : y.data.toList = c :: r) (w : World) :
    Calls Tryd.prog 23 #[.string y] w fun e w' => e = .returned (tkOut (Lx.tk rkL mkL c r)) ∧ w' = w := by
  obtain ⟨h0, hc0⟩ := byte0 y c r hy
  have hr : runB y = Lx.run r := by unfold runB; rw [hy]; rfl
  have he : y.extract 0 (1 + runB y) = ⟨(c :: r.take (Lx.run r)).toArray⟩ := by
    rw [extract_take, hy, hr, Nat.add_comm, List.take_succ_cons]
  have hn : 1 + runB y = Lx.run r + 1 := by omega
  unfold Lx.tk
  cases hl : Lx.letter c with
  | true =>
    have hlc : letC (y[0].toNat : Int) = true := by rw [hc0, letC_of]; exact hl
    have h63 : byteI (⟨(c :: r.take (Lx.run r)).toArray⟩ : ByteArray) 0 ≠ 63 := by
      rw [byteI0 _ c (r.take (Lx.run r)) (by simp)]
      intro e
      rw [hc0, e] at hlc
      exact absurd hlc (by decide)
    refine (refTok_run y h0 hm (.inl hlc) w).mono ?_
    rw [he, runV_rk _ _ h63, hn]
    rintro e w' ⟨rfl, rfl⟩
    refine ⟨?_, rfl⟩
    simp only [if_true]
    by_cases hk : rkB ⟨(c :: r.take (Lx.run r)).toArray⟩ = 0
    · rw [if_pos hk, if_pos (show rkL _ = 0 from hk)]; rfl
    · rw [if_neg hk, if_neg (show ¬ rkL _ = 0 from hk)]; rfl
  | false =>
    have hlc : letC (y[0].toNat : Int) = false := by rw [hc0, letC_of]; exact hl
    simp only [Bool.false_eq_true, if_false]
    by_cases hc : c = 63
    · subst hc
      refine (refTok_run y h0 hm (.inr ⟨hlc, by rw [hc0]; rfl⟩) w).mono ?_
      rw [he, runV_mk _ _ (r.take (Lx.run r)) (by simp), hn]
      rintro e w' ⟨rfl, rfl⟩
      refine ⟨?_, rfl⟩
      simp only [if_true]
      by_cases hk : mkB ⟨(63 :: r.take (Lx.run r)).toArray⟩ = 0
      · rw [if_pos hk, if_pos (show mkL _ = 0 from hk)]; rfl
      · rw [if_neg hk, if_neg (show ¬ mkL _ = 0 from hk)]; rfl
    · rw [if_neg hc]
      refine (refTok_sign y h0 hlc (by
        rw [hc0]
        simp only [bne_iff_ne, ne_eq]
        intro e
        exact hc (UInt8.toNat_inj.1 (by rw [show (63 : UInt8).toNat = 63 from rfl]; omega))) w).mono ?_
      rw [hy, sgV_tk]
      rintro e w' ⟨rfl, rfl⟩
      exact ⟨rfl, rfl⟩
end Go.Proofs.YthkfkdcmnkkdhaaDoor
