/- The walk of FormPlaces. -/
import Derived.Test.YtngdieldgnlogaaDoorPW
import Derived.Test.YtngdieldgnlogaaDoorA1
import Derived.Test.YtngdieldgnlogaaDoorD2
namespace Go.Proofs.YtngdieldgnlogaaDoor
open Go Go.RowKit
set_option maxRecDepth 100000
set_option linter.unusedVariables false
set_option maxHeartbeats 8000000 in
theorem formPlaces_walk (f h : FT) (l : List Int) (va vb : Value) (p : Option Addr) (c : Nat) (w : World) (hrw : Rws w) (hva : FVal w f va) (hvb : FVal w h vb) (hl : LSl w l (.slice p l.length c)) (hc : l.length ≤ c) (hcm : c ≤ maxLen) (hwt : f.wt + h.wt ≤ 1500000) :
    Calls Tryd.prog 3 #[va, vb, .slice p l.length c] w fun e w' => e = .returned (.bool true) ∧ Below w.heap.size w w' := by
  have HA := Lib.hid (fun V hr => awake_any V hr)
  have hrwh := Lib.hid hrw
  have hlh := Lib.hid hl
  clear hrw
  obtain ⟨sa, ua, rfl, ha, hua⟩ := id hva
  obtain ⟨sb, ub, rfl, hb, hub⟩ := id hvb
  obtain ⟨pa, ca, rfl, -⟩ := id ha
  obtain ⟨pb, cb, rfl, -⟩ := id hb
  obtain ⟨qa, da, rfl, -⟩ := id hua
  obtain ⟨qb, db, rfl, -⟩ := id hub
  clear ha hb hua hub hl
  obtain ⟨W1, W2, hW1, hW2, s1, s2, k1, k2⟩ := in_boxes hva hvb 25
  have k1h := Lib.hid k1
  have k2h := Lib.hid k2
  obtain ⟨g, hg⟩ : ∃ g, w.heap.size = g := ⟨_, rfl⟩
  rw [hg] at s1 s2 k1h k2h
  clear k1 k2 hva hvb
  have htl := two_list k1h.out.val k2h.out.val 25
  rw [s2] at htl
  replace htl := Lib.hid htl
  obtain ⟨c10, c11, c12, c13, -⟩ := k1h.out
  obtain ⟨c20, c21, c22, c23, -⟩ := k2h.out
  go_enter Tryd.func3, Tryd.ntmps3
  go_wp2_with fail
  refine (small_any _ _ _ htl.out (by simp only [FT.wt] at hwt; simp only [Fs.wt]; omega)).mono ?_
  rintro e w4 ⟨rfl, hb4⟩
  have hb24 := bel_step (bel_laid W2 _) hb4
  have k1h := Lib.hid (k1h.out.next hb24)
  have k2h := Lib.hid (k2h.out.next hb24)
  have hAw := Lib.hid (HA.out w4 (hrwh.out.of k1h.out.2.2.2.2.1))
  clear hb24 hb4 c10 c11 c12 c13 c20 c21 c22 c23 hW1 hW2 hg s1 s2
  cases hsm : Fs.small (.cons f.op f.n f.ts f.sub (.cons h.op h.n h.ts h.sub .nil))
  · go_wp2_with fail
    refine hAw.out.mono ?_
    rintro e w5 ⟨rfl, hb5⟩
    have hfin := Lib.hid (bel_step k1h.out.2.2.2.2.1 hb5)
    clear hb5
    go_wp2_with fail
    go_ret
    exact ⟨rfl, hfin.out⟩
  have hsz := Fs.small_size hsm
  simp only [Fs.size] at hsz
  clear hsm
  by_cases hl60 : l.length ≤ 60
  rotate_left
  · have g1 : (60 : Int) < (l.length : Int) := by omega
    go_wp2_with fail
    refine hAw.out.mono ?_
    rintro e w5 ⟨rfl, hb5⟩
    have hfin := Lib.hid (bel_step k1h.out.2.2.2.2.1 hb5)
    clear hb5
    go_wp2_with fail
    go_ret
    exact ⟨rfl, hfin.out⟩
  have g1 : ¬ (60 : Int) < (l.length : Int) := by omega
  have HP := Lib.hid (places_any f h l _ _ p c w4 k1h.out.val k2h.out.val (LSl.below k1h.out.2.2.2.2.1 hlh.out) hc hcm (by omega) (by have h1 : f.size = f.ts.size + f.sub.size + 1 := rfl; have h2 : h.size = h.ts.size + h.sub.size + 1 := rfl; omega))
  obtain ⟨c10, c11, c12, c13, -⟩ := k1h.out
  obtain ⟨c20, c21, c22, c23, -⟩ := k2h.out
  clear hsz hwt hAw hc hcm
  go_wp2_with fail
  refine HP.out.mono ?_
  rintro e w5 ⟨rfl, hb5⟩
  have hb05 := Lib.hid (bel_step k1h.out.2.2.2.2.1 hb5)
  have hAw := Lib.hid (HA.out w5 (hrwh.out.of hb05.out))
  clear hb5 HP c10 c11 c12 c13 c20 c21 c22 c23 HA
  go_wp2_with fail
  refine hAw.out.mono ?_
  rintro e w6 ⟨rfl, hb6⟩
  have hfin := Lib.hid (bel_step hb05.out hb6)
  clear hb6 hAw
  go_wp2_with fail
  go_ret
  exact ⟨rfl, hfin.out⟩
end Go.Proofs.YtngdieldgnlogaaDoor
