/- FormNames. -/
import Derived.Test.YtpcjpdfigkcojaaDoorA1
import Derived.Test.YtpcjpdfigkcojaaDoorMM
namespace Go.Proofs.YtpcjpdfigkcojaaDoor
open Go Go.RowKit
set_option maxRecDepth 100000
set_option linter.unusedVariables false
set_option maxHeartbeats 1000000 in
theorem formNames_walk (s : ByteArray) (w : World) (hrw : Rws w) (hm : s.size ≤ maxLen) : Calls Tryd.prog 3 #[.string s] w fun e w' => e = .returned (.bool true) ∧ Below w.heap.size w w' := by
  have HA := Lib.hid (fun V hr => awake_any V hr)
  have HN := Lib.hid (fun V => names_any s V (by unfold maxLen at hm; omega))
  have hrwh := Lib.hid hrw
  unfold maxLen at hm
  clear hrw
  by_cases h : 100 < s.size
  · have h1 : (100 : Int) < (s.size : Int) := by omega
    go_enter Tryd.func3, Tryd.ntmps3
    go_wp2_with fail
    refine (HA.out _ hrwh.out).mono ?_
    rintro e w1 ⟨rfl, hb1⟩
    clear HA HN hrwh
    go_wp2_with fail
    go_ret
    exact ⟨rfl, hb1⟩
  · have h1 : (s.size : Int) ≤ 100 := by omega
    go_enter Tryd.func3, Tryd.ntmps3
    go_wp2_with fail
    refine (HN.out _).mono ?_
    rintro e w1 ⟨rfl, hb1⟩
    have hr1 := hrwh.out.of hb1
    have hrh1 := Lib.hid hr1
    clear hr1 hrwh HN
    go_wp2_with fail
    refine (HA.out _ hrh1.out).mono ?_
    rintro e w2 ⟨rfl, hb2⟩
    have hb := bel_step hb1 hb2
    clear hb1 hb2 HA hrh1
    go_wp2_with fail
    go_ret
    exact ⟨rfl, hb⟩
end Go.Proofs.YtpcjpdfigkcojaaDoor
