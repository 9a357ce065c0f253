/- slices.SortFunc at symbols, by the shelf. -/
import Derived.Shelf.SlSortCmp.InsertionK
import Derived.Shelf.Lay
import Derived.Ground.SlsfProg
import Derived.Test.YtngdieldgnlogaaDoorMS
namespace Go.Proofs
open Go Go.Shelf Go.RowKit Go.Lib Go.Sort
set_option maxRecDepth 100000
shelf_lay_g SlLaysF0.n6 Slsf 6 at Tryd 74 as Tryd.sortSym
#check @Tryd.sortSym
end Go.Proofs
