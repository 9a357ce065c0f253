/- FormParts for every formula. -/
import Derived.Test.YtngdieldgnlogaaDoorFQ
import Derived.Test.YtngdieldgnlogaaDoorPQ
namespace Go.Proofs.YtngdieldgnlogaaDoor
open Go Go.RowKit
theorem formParts_all (f : FT) (va : Value) (w : World) (hrw : Rws w) (hva : FVal w f va) (hwt : f.wt ≤ 1500000) (hop : ∀ p ∈ f.parts, 0 ≤ p.op) :
    Calls Tryd.prog 5 #[va] w fun e w' => e = .returned (.bool true) ∧ Below w.heap.size w w' :=
  formParts_walk f va w hrw hva hwt hop fun h => pf_any f h hop
end Go.Proofs.YtngdieldgnlogaaDoor
