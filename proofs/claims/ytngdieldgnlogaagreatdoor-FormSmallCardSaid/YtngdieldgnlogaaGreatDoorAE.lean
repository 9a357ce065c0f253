/- The walk of FormAsks, for every formula. -/
import Derived.Test.YtngdieldgnlogaaGreatDoorAC
import Derived.Test.YtngdieldgnlogaaGreatDoorA1
import Derived.Test.YtngdieldgnlogaaGreatDoorQD
namespace Go.Proofs.YtngdieldgnlogaaGreatDoor
open Go Go.RowKit
set_option maxRecDepth 100000
set_option linter.unusedVariables false
theorem one_listP {f:FT} {p q:Option Addr} {a b:Nat} {W:World} (hv:FVal W f (fval f (.slice p f.ts.len a) (.slice q f.sub.len b))) (t:TypeId) :
  FSl (W.alloc (.cells #[.int .u8 f.op,.string f.n,.slice p f.ts.len a,.slice q f.sub.len b] t)) (.cons f.op f.n f.ts f.sub .nil) (.slice (some ⟨W.heap.size,0,none⟩) 1 1):=by
 have cN:=fun i=>cell_new W #[.int .u8 f.op,.string f.n,.slice p f.ts.len a,.slice q f.sub.len b] t i
 have b5:=bel_laid W (.cells #[.int .u8 f.op,.string f.n,.slice p f.ts.len a,.slice q f.sub.len b] t)
 obtain⟨_,_,e,t1,t2⟩:=hv
 simp at e
 obtain⟨rfl,rfl⟩:=e
 exact⟨_,_,rfl,.inr ⟨_,_,rfl,cN 0,cN 1,⟨_,cN 2,TSl.below b5 t1⟩,⟨_,cN 3,FSl.below b5 t2⟩,trivial⟩⟩
end Go.Proofs.YtngdieldgnlogaaGreatDoor
