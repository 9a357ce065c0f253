/-
  NARROWER THAN 'FOR EVERY INPUT', by the rows' own cells (each row's printed sentence says how): FormAsks: loops, laid · FormSmall: laid.
  DERIVED. THE GIVEN ROWS OF THIS SEAT. 2 by the template 'for every input the law returns true; each argument reads behind the call as it read before'; 0 by the template 'total and deterministic' (their statements: YtngdieldgnlogaaGreatDoorTotals.lean).
  GIVEN WITH THE SEED: the statements are not yours to turn. If you find one false, say at which input.
  Laid BY PROGRAM, IN A SANDBOX (cutbox-rows.mjs): the forced cells as the released guide's own fill.sh prints them over the translation 67e6896a22e03f01… (all of the seat's roots in one cut). By AI agents, Wed Nov 11 2026. No macro, syntax, notation, axiom, sorry.
-/
import Derived.Test.YtngdieldgnlogaaGreatDoorChecked
import GoSem.Claim
import GoSem.ClaimJoined
import GoSem.ClaimMapViews
import Derived.JoinedTies
import Derived.KernelRfl
namespace Go.Proofs.YtngdieldgnlogaaGreatDoor
/- THE CELL 'sum', in the pinned program and in every row, IS THE sha256 OF THE DUMP (.gsa) THAT YtngdieldgnlogaaGreatDoorProg.lean LOADS. Nothing in Lean hashes anything: it is a label: what it is worth is what the hold of that sum in a sandbox is worth. -/
noncomputable def Tryz.pinned : Pinned := { name := "ytngdieldgnlogaagreatdoor", sum := "67e6896a22e03f019d2da800d1fc0320338f20e1c978492b54a55ef7cb7e2117", checked := Tryz.checked }
namespace Rows
def none {H : Type} : Left H := { results := [], args := [] }

/- WHAT THE LISTED PACKAGE-LEVEL VARIABLES READ AS WHEN THE CALL BEGINS. Each datum BY PROGRAM (the guide's laid-datum.mjs) off the statement by which the dump's own 'gosem.cut.vars' lays the variable. In a bare row this is a premise. The card (YtngdieldgnlogaaGreatDoorCards.lean) ties it to the program's text. -/
def laid_lyceum_syntax_rows {H : Type} : DataW H := .agg [.agg [.lit (.int .u8 0), .lit (.int .i64 0), .lit (.int .i64 0)], .agg [.lit (.int .u8 1), .lit (.int .i64 4), .lit (.int .i64 0)], .agg [.lit (.int .u8 0), .lit (.int .i64 0), .lit (.int .i64 0)], .agg [.lit (.int .u8 0), .lit (.int .i64 0), .lit (.int .i64 1)], .agg [.lit (.int .u8 0), .lit (.int .i64 0), .lit (.int .i64 2)], .agg [.lit (.int .u8 0), .lit (.int .i64 0), .lit (.int .i64 2)], .agg [.lit (.int .u8 0), .lit (.int .i64 0), .lit (.int .i64 2)], .agg [.lit (.int .u8 0), .lit (.int .i64 0), .lit (.int .i64 2)], .agg [.lit (.int .u8 2), .lit (.int .i64 0), .lit (.int .i64 1)], .agg [.lit (.int .u8 2), .lit (.int .i64 0), .lit (.int .i64 1)], .agg [.lit (.int .u8 0), .lit (.int .i64 0), .lit (.int .i64 1)], .agg [.lit (.int .u8 0), .lit (.int .i64 0), .lit (.int .i64 1)], .agg [.lit (.int .u8 0), .lit (.int .i64 0), .lit (.int .i64 1)], .agg [.lit (.int .u8 0), .lit (.int .i64 0), .lit (.int .i64 1)], .agg [.lit (.int .u8 0), .lit (.int .i64 0), .lit (.int .i64 2)], .agg [.lit (.int .u8 3), .lit (.int .i64 0), .lit (.int .i64 0)], .agg [.lit (.int .u8 3), .lit (.int .i64 2), .lit (.int .i64 0)]]

/-- 'lyceumlaw02.FormAsks': WHATEVER THE INPUT: true; the input reads as it did. -/
def formAsksSpec : ChangeSpec := { name := "formAsks", fn := fun _ => fun
  | [d] => { results := [.lit (.bool true)], args := [d] }
  | _ => none }
def formAsksRow : OpenClaim := { program := "ytngdieldgnlogaagreatdoor", sum := "67e6896a22e03f019d2da800d1fc0320338f20e1c978492b54a55ef7cb7e2117", func := "lyceum/lyceumlaw02.FormAsks", spec := "formAsks", unfollowed := true, recurses := true, named := ["lyceum/syntax.rows"], loops := true, apart := false, laid := [("lyceum/syntax.rows", laid_lyceum_syntax_rows)] }
def FormAsksSaid : Prop := formAsksRow.holds Tryz.pinned (OpenSpec.ofChange formAsksSpec)

/-- ITS FALSE NEIGHBOUR: 'it returns false'. Refute it at one input. -/
def formAsksWrong : ChangeSpec := { name := "formAsks", fn := fun _ => fun
  | [d] => { results := [.lit (.bool false)], args := [d] }
  | _ => none }
def FormAsksWrongFalsely : Prop := formAsksRow.holds Tryz.pinned (OpenSpec.ofChange formAsksWrong)

/-- 'lyceumlaw02.FormSmall': WHATEVER THE INPUT: true; the input reads as it did. -/
def formSmallSpec : ChangeSpec := { name := "formSmall", fn := fun _ => fun
  | [] => { results := [.lit (.bool true)], args := [] }
  | _ => none }
def formSmallRow : OpenClaim := { program := "ytngdieldgnlogaagreatdoor", sum := "67e6896a22e03f019d2da800d1fc0320338f20e1c978492b54a55ef7cb7e2117", func := "lyceum/lyceumlaw02.FormSmall", spec := "formSmall", unfollowed := true, recurses := true, named := ["lyceum/syntax.rows"], apart := false, laid := [("lyceum/syntax.rows", laid_lyceum_syntax_rows)] }
def FormSmallSaid : Prop := formSmallRow.holds Tryz.pinned (OpenSpec.ofChange formSmallSpec)

/-- ITS FALSE NEIGHBOUR: 'it returns false'. Refute it at one input. -/
def formSmallWrong : ChangeSpec := { name := "formSmall", fn := fun _ => fun
  | [] => { results := [.lit (.bool false)], args := [] }
  | _ => none }
def FormSmallWrongFalsely : Prop := formSmallRow.holds Tryz.pinned (OpenSpec.ofChange formSmallWrong)

/- THE SECOND FORM. 'bulk': how many values and letters a reading holds, each counted each time it is reached (what is shared counts as often as it is met; a slice's spare places count too). A statement '..UptoSaid' is the law's where the arguments, and the package variables that the reading takes, are together of bulk at most 1048576: NARROWER than '..Said'. Prove '..Said' where nothing that the law and all that it calls make is longer than what came in: it says more and counts as full. Else prove '..UptoSaid'. A law counts once. -/
mutual
def uptoBulk {H : Type} : DataW H → Nat
  | .lit (.string bytes) => bytes.length + 1
  | .lit _ => 1
  | .nil => 1
  | .ptr d => uptoBulk d + 1
  | .slice elems spare => uptoBulkAll elems + uptoBulkAll spare + 1
  | .agg parts => uptoBulkAll parts + 1
  | .iface _ d => uptoBulk d + 1
  | .map entries => uptoBulkEntries entries + 1
  | .held _ => 1
def uptoBulkAll {H : Type} : List (DataW H) → Nat
  | [] => 0
  | d :: r => uptoBulk d + uptoBulkAll r
def uptoBulkEntries {H : Type} : List (Lit × DataW H) → Nat
  | [] => 0
  | x :: r => uptoBulkEntry x + uptoBulkEntries r
def uptoBulkEntry {H : Type} : Lit × DataW H → Nat
  | (.string bytes, d) => bytes.length + uptoBulk d + 1
  | (_, d) => uptoBulk d + 1
 end
def uptoSmall : (H : Type) → List (DataW H) → Bool := fun _ ds => decide (uptoBulkAll ds ≤ 1048576)
def OpenSpec.upto (s : _root_.Go.ChangeSpec) : _root_.Go.OpenSpec := { _root_.Go.OpenSpec.ofChange s with cond := some uptoSmall }

/-- 'lyceumlaw02.FormAsks', WHERE WHAT IT READS IS OF BULK AT MOST 1048576: true; the input reads as it did. -/
def formAsksUptoRow : OpenClaim := { program := "ytngdieldgnlogaagreatdoor", sum := "67e6896a22e03f019d2da800d1fc0320338f20e1c978492b54a55ef7cb7e2117", func := "lyceum/lyceumlaw02.FormAsks", spec := "formAsks", unfollowed := true, recurses := true, named := ["lyceum/syntax.rows"], loops := true, apart := false, laid := [("lyceum/syntax.rows", laid_lyceum_syntax_rows)], narrowed := true }
def FormAsksUptoSaid : Prop := formAsksUptoRow.holds Tryz.pinned (OpenSpec.upto formAsksSpec)

/-- 'lyceumlaw02.FormSmall', WHERE WHAT IT READS IS OF BULK AT MOST 1048576: true; the input reads as it did. -/
def formSmallUptoRow : OpenClaim := { program := "ytngdieldgnlogaagreatdoor", sum := "67e6896a22e03f019d2da800d1fc0320338f20e1c978492b54a55ef7cb7e2117", func := "lyceum/lyceumlaw02.FormSmall", spec := "formSmall", unfollowed := true, recurses := true, named := ["lyceum/syntax.rows"], apart := false, laid := [("lyceum/syntax.rows", laid_lyceum_syntax_rows)], narrowed := true }
def FormSmallUptoSaid : Prop := formSmallUptoRow.holds Tryz.pinned (OpenSpec.upto formSmallSpec)

end Rows
end Go.Proofs.YtngdieldgnlogaaGreatDoor
