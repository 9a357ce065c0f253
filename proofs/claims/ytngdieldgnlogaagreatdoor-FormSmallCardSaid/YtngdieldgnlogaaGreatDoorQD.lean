/- The law's measure: size. The law's measure: Size and Small. -/
import Derived.Test.YtngdieldgnlogaaGreatDoorMV
import Derived.Deep.RegionHeld3
namespace Go.Proofs.YtngdieldgnlogaaGreatDoor
open Go Go.RowKit
set_option maxRecDepth 100000
set_option linter.unusedVariables false
def Ts.wt:Ts→Nat
 | .nil=>0
 | .cons _ n ts r=>n.size+ts.wt+r.wt+1
def Fs.wt:Fs→Nat
 | .nil=>0
 | .cons _ n ts sub r=>n.size+ts.wt+sub.wt+r.wt+1
def FT.wt (f:FT):Nat:=f.n.size+f.ts.wt+f.sub.wt+1
def SzK (w:World) (a:Ts) (s:Value) (r:Ts) (b o:Nat) (W:World):Prop:=Below w.heap.size w W∧TSl W a s∧TsAt W r b o
def SzS (w:World) (a:Ts) (ps:Option Addr) (cs:Nat) (nm:ByteArray) (r:Ts) (b o:Nat) (W:World):Prop :=
 W.cell? ⟨b,o+1,none⟩=some (.string nm)∧W.cell? ⟨b,o+2,none⟩=some (.slice ps a.len cs)∧SzK w a (.slice ps a.len cs) r b (o+3) W
theorem SzS.next {w:World} {a:Ts} {ps:Option Addr} {cs:Nat} {nm:ByteArray} {r:Ts} {b o:Nat} {W W':World} (h:SzS w a ps cs nm r b o W) (hb:Below W.heap.size W W'):SzS w a ps cs nm r b o W' :=
 ⟨c_B hb h.1,c_B hb h.2.1,bS h.2.2.1 hb,TSl.below hb h.2.2.2.1,TsAt.below hb h.2.2.2.2⟩
end Go.Proofs.YtngdieldgnlogaaGreatDoor
namespace Go.Proofs.YtngdieldgnlogaaGreatDoor
open Go Go.RowKit
set_option maxRecDepth 100000
set_option linter.unusedVariables false
end Go.Proofs.YtngdieldgnlogaaGreatDoor
