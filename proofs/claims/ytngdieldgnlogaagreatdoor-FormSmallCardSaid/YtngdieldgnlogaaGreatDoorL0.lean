/- The listed variable 'rows' reads as its datum, so its cells hold the table; and what the door's run leaves meets that. -/
import Derived.Test.YtngdieldgnlogaaGreatDoorMR
import Derived.Test.YtngdieldgnlogaaGreatDoorTie
import Derived.Test.YtngdieldgnlogaaGreatDoorCards
import Derived.ProofKit
import Derived.OpenShut
import Derived.ShutString
import Derived.LaidMore
import Derived.Stop.Joined
import Derived.SevenTiedAt
import Derived.Deep.Strs
import Derived.ChangeOld
import Derived.Below
namespace Go.Proofs.YtngdieldgnlogaaGreatDoor
open Go.ChangeShapes Go.WideShapes Go.ChangeAt Go.RowKit
set_option maxRecDepth 100000
theorem own:ownKnob Tryz.prog.godebug=none:=by kernel_rfl
def laid1:List (String × DataW Unit):=[("lyceum/syntax.rows",Rows.laid_lyceum_syntax_rows)]
theorem gRows:Tryz.prog.globalNamed "lyceum/syntax.rows" = some 0:=by kernel_rfl
theorem tRows:(Tryz.prog.globals[0]?).map (·.type)=some 105:=by kernel_rfl
theorem cells3L:Tryz.prog.cellsOf 3=1:=by kernel_rfl
theorem cells5:Tryz.prog.cellsOf 5=1:=by kernel_rfl
theorem cells104:Tryz.prog.cellsOf 104=3:=by kernel_rfl
theorem cells105:Tryz.prog.cellsOf 105=51:=by kernel_rfl
theorem door_met (os:Os) (args:Array Value):laidMetH Tryz.prog laid1 ((World.doorLaid Tryz.prog 30 os).forCall (fun _ _=>0) ⟨#[],args,[]⟩).memory :=
 laidMetH_of_parts3 (fuel:=8) (laidMet_of_run' 8 (by kernel_rfl) (by kernel_rfl)) (by kernel_rfl) (by kernel_rfl)
theorem row_of {H:Type} {enc:TypeId × Value→H} {W:World} {base:Nat} {sp:Nat→Bool} {held:Bool} {fuel:Nat} {cs:List Value} {p:List MemPlace} {a b c:Int}
  (h:DataW.trod enc Tryz.prog W base sp held fuel 104 cs=some (.agg [.lit (.int .u8 a),.lit (.int .i64 b),.lit (.int .i64 c)],p)):cs=[.int .u8 a,.int .i64 b,.int .i64 c]:=by
 obtain⟨xs,n,_,hx,hl,hn,hf⟩:=DataW.trod_struct Tryz.underlying104 h
 rw[cells104] at hl
 match cs,hl with
 | [c0,c1,c2],_ =>
  match xs,hn,hx,hf with
  | [x0,x1,x2],_,hx,hf =>
   have f0:=hf 0 _ rfl
   have f1:=hf 1 _ rfl
   have f2:=hf 2 _ rfl
   simp[cells3L,cells5] at f0 f1 f2
   obtain⟨n0,e0,y0,_⟩:=DataW.trod_int Tryz.underlying5 f0
   obtain⟨n1,e1,y1,_⟩:=DataW.trod_int Tryz.underlying3 f1
   obtain⟨n2,e2,y2,_⟩:=DataW.trod_int Tryz.underlying3 f2
   subst y0 y1 y2
   simp at hx e0 e1 e2
   obtain⟨⟨rfl,rfl,rfl⟩,_⟩:=hx
   rw[e0,e1,e2]
theorem row_at (m r:Nat) (hm:m < 17) (hr:r < 3):rowCells.toList[m*3+r]? = [Value.int .u8 (rowK m:Int),.int .i64 (rowA m:Int),.int .i64 (rowS m:Int)][r]?:=by
 rcases show r=0∨r=1∨r=2 by omega with rfl | rfl | rfl
 all_goals
  rcases show m=0∨m=1∨m=2∨m=3∨m=4∨m=5∨m=6∨m=7∨m=8∨m=9∨m=10∨m=11∨m=12∨m=13∨m=14∨m=15∨m=16 by omega with rfl | rfl | rfl | rfl | rfl | rfl | rfl | rfl | rfl | rfl | rfl | rfl | rfl | rfl | rfl | rfl | rfl
  all_goals kernel_rfl
theorem of_laid {W:World} (h:laidMetH Tryz.prog laid1 W):Rws W:=by
 rw[MakeChecks.laidMetH_plain _ _ _ (by kernel_rfl)] at h
 obtain⟨ps,⟨g0,t0,cs0,f0,p0,q0,hg0,ht0,hv0,hd0,_,_⟩,_,_⟩:=h
 obtain rfl:=Option.some.inj (gRows.symm.trans hg0)
 obtain rfl:=Option.some.inj (tRows.symm.trans ht0)
 obtain⟨xs,m,_,hx,hl,hn,hel⟩:=DataW.trod_array Tryz.underlying105 hd0
 rw[cells105] at hl
 simp only[Rows.laid_lyceum_syntax_rows,Prod.mk.injEq,DataW.agg.injEq] at hx
 obtain⟨hx,-⟩:=hx
 have hrow:∀ i,i < 17→(cs0.toList.drop (i*3)).take 3=[.int .u8 (rowK i:Int),.int .i64 (rowA i:Int),.int .i64 (rowS i:Int)]:=by
  intro i hi
  have h1:=hel i hi
  rw[cells104] at h1
  have hlt:i < xs.length:=by omega
  have h2:(xs.map (·.1))[i]? = some xs[i].1:=by simp[hlt]
  rw[List.getElem?_eq_getElem hlt] at h1
  rw[←hx] at h2
  generalize xs[i]=x at h1 h2
  obtain⟨y,q⟩:=x
  clear hx hel hn hl
  rcases show i=0∨i=1∨i=2∨i=3∨i=4∨i=5∨i=6∨i=7∨i=8∨i=9∨i=10∨i=11∨i=12∨i=13∨i=14∨i=15∨i=16 by omega with rfl | rfl | rfl | rfl | rfl | rfl | rfl | rfl | rfl | rfl | rfl | rfl | rfl | rfl | rfl | rfl | rfl
  all_goals
   simp at h2
   subst h2
   exact row_of h1
 have hcs:cs0=rowCells:=by
  apply Array.ext'
  apply List.ext_getElem?
  intro j
  by_cases hj:j < 51
  ·have h3:=congrArg (fun l:List Value=>l[j%3]?) (hrow (j/3) (by omega))
   have h4:((cs0.toList.drop (j/3*3)).take 3)[j%3]? = cs0.toList[j]?:=by
    rw[List.getElem?_take_of_lt (by omega),List.getElem?_drop,show j/3*3+j%3=j by omega]
   have h5:rowCells.toList[j]? = [Value.int .u8 (rowK (j/3):Int),.int .i64 (rowA (j/3):Int),.int .i64 (rowS (j/3):Int)][j%3]?:=by
    have:=row_at (j/3) (j%3) (by omega) (by omega)
    rwa [show j/3*3+j%3=j by omega] at this
   rw[←h4,h5]
   exact h3
  ·rw[List.getElem?_eq_none (by omega),List.getElem?_eq_none (by
    have:rowCells.toList.length=51:=by kernel_rfl
    omega)]
 unfold World.var? at hv0
 rw[gRows] at hv0
 simp only[Option.bind_some] at hv0
 split at hv0
 ·rename_i cs t fr hh
  cases hv0
  exact⟨t,fr,by rw[←hcs];exact hh⟩
 ·cases hv0
end Go.Proofs.YtngdieldgnlogaaGreatDoor
