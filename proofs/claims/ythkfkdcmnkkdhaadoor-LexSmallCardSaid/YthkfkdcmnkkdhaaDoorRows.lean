/-
  NARROWER THAN 'FOR EVERY INPUT', by the rows' own cells (each row's printed sentence says how): LexTells: laid · LexJoins: laid · LexSmall: laid · LexJoined: laid · LexStands: laid · LexBoth: laid · LexLongest: laid · LexWrong: laid.
  DERIVED. THE GIVEN ROWS OF THIS SEAT. 8 by the template 'for every input the law returns true; each argument reads behind the call as it read before'; 0 by the template 'total and deterministic' (their statements: YthkfkdcmnkkdhaaDoorTotals.lean).
  GIVEN WITH THE SEED: the statements are not yours to turn. If you find one false, say at which input.
  Laid BY PROGRAM, IN A SANDBOX (cutbox-rows.mjs): the forced cells as the released guide's own fill.sh prints them over the translation 24902cc57a835940… (all of the seat's roots in one cut). By AI agents, Wed Nov 11 2026. No macro, syntax, notation, axiom, sorry.
-/
import Derived.Test.YthkfkdcmnkkdhaaDoorChecked
import GoSem.Claim
import GoSem.ClaimJoined
import GoSem.ClaimMapViews
import Derived.JoinedTies
import Derived.KernelRfl
namespace Go.Proofs.YthkfkdcmnkkdhaaDoor
/- THE CELL 'sum', in the pinned program and in every row, IS THE sha256 OF THE DUMP (.gsa) THAT YthkfkdcmnkkdhaaDoorProg.lean LOADS. Nothing in Lean hashes anything: it is a label: what it is worth is what the hold of that sum in a sandbox is worth. -/
noncomputable def Tryd.pinned : Pinned := { name := "ythkfkdcmnkkdhaadoor", sum := "24902cc57a8359407a40b4783de8d31c959d06cca0b3bb0296a461472910aee1", checked := Tryd.checked }
namespace Rows
def none {H : Type} : Left H := { results := [], args := [] }

/- WHAT THE LISTED PACKAGE-LEVEL VARIABLES READ AS WHEN THE CALL BEGINS. Each datum BY PROGRAM (the guide's laid-datum.mjs) off the statement by which the dump's own 'gosem.cut.vars' lays the variable. In a bare row this is a premise. The card (YthkfkdcmnkkdhaaDoorCards.lean) ties it to the program's text. -/
def laid_lyceum_lex_signs {H : Type} : DataW H := .agg [.lit (.string [60, 45, 62]), .lit (.string [45, 62]), .lit (.string [91, 93]), .lit (.string [60, 62]), .lit (.string [40]), .lit (.string [41]), .lit (.string [44]), .lit (.string [126]), .lit (.string [38]), .lit (.string [124]), .lit (.string [47]), .lit (.string [91]), .lit (.string [93])]

/-- 'lyceumlaw04.LexTells': WHATEVER THE INPUT: true; the input reads as it did. -/
def lexTellsSpec : ChangeSpec := { name := "lexTells", fn := fun _ => fun
  | [d] => { results := [.lit (.bool true)], args := [d] }
  | _ => none }
def lexTellsRow : OpenClaim := { program := "ythkfkdcmnkkdhaadoor", sum := "24902cc57a8359407a40b4783de8d31c959d06cca0b3bb0296a461472910aee1", func := "lyceum/lyceumlaw04.LexTells", spec := "lexTells", inPlace := ["internal/abi.NoEscape", "internal/bytealg.MakeNoZero"], unfollowed := true, recurses := true, named := ["lyceum/lex.signs"], apart := false, laid := [("lyceum/lex.signs", laid_lyceum_lex_signs)] }
def LexTellsSaid : Prop := lexTellsRow.holds Tryd.pinned (OpenSpec.ofChange lexTellsSpec)

/-- ITS FALSE NEIGHBOUR: 'it returns false'. Refute it at one input. -/
def lexTellsWrong : ChangeSpec := { name := "lexTells", fn := fun _ => fun
  | [d] => { results := [.lit (.bool false)], args := [d] }
  | _ => none }
def LexTellsWrongFalsely : Prop := lexTellsRow.holds Tryd.pinned (OpenSpec.ofChange lexTellsWrong)

/-- 'lyceumlaw04.LexJoins': WHATEVER THE INPUT: true; the input reads as it did. -/
def lexJoinsSpec : ChangeSpec := { name := "lexJoins", fn := fun _ => fun
  | [d] => { results := [.lit (.bool true)], args := [d] }
  | _ => none }
def lexJoinsRow : OpenClaim := { program := "ythkfkdcmnkkdhaadoor", sum := "24902cc57a8359407a40b4783de8d31c959d06cca0b3bb0296a461472910aee1", func := "lyceum/lyceumlaw04.LexJoins", spec := "lexJoins", inPlace := ["internal/abi.NoEscape", "internal/bytealg.MakeNoZero"], unfollowed := true, recurses := true, named := ["lyceum/lex.signs"], apart := false, laid := [("lyceum/lex.signs", laid_lyceum_lex_signs)] }
def LexJoinsSaid : Prop := lexJoinsRow.holds Tryd.pinned (OpenSpec.ofChange lexJoinsSpec)

/-- ITS FALSE NEIGHBOUR: 'it returns false'. Refute it at one input. -/
def lexJoinsWrong : ChangeSpec := { name := "lexJoins", fn := fun _ => fun
  | [d] => { results := [.lit (.bool false)], args := [d] }
  | _ => none }
def LexJoinsWrongFalsely : Prop := lexJoinsRow.holds Tryd.pinned (OpenSpec.ofChange lexJoinsWrong)

/-- 'lyceumlaw04.LexSmall': WHATEVER THE INPUT: true; the input reads as it did. -/
def lexSmallSpec : ChangeSpec := { name := "lexSmall", fn := fun _ => fun
  | [] => { results := [.lit (.bool true)], args := [] }
  | _ => none }
def lexSmallRow : OpenClaim := { program := "ythkfkdcmnkkdhaadoor", sum := "24902cc57a8359407a40b4783de8d31c959d06cca0b3bb0296a461472910aee1", func := "lyceum/lyceumlaw04.LexSmall", spec := "lexSmall", inPlace := ["internal/abi.NoEscape", "internal/bytealg.MakeNoZero"], unfollowed := true, recurses := true, named := ["lyceum/lex.signs"], apart := false, laid := [("lyceum/lex.signs", laid_lyceum_lex_signs)] }
def LexSmallSaid : Prop := lexSmallRow.holds Tryd.pinned (OpenSpec.ofChange lexSmallSpec)

/-- ITS FALSE NEIGHBOUR: 'it returns false'. Refute it at one input. -/
def lexSmallWrong : ChangeSpec := { name := "lexSmall", fn := fun _ => fun
  | [] => { results := [.lit (.bool false)], args := [] }
  | _ => none }
def LexSmallWrongFalsely : Prop := lexSmallRow.holds Tryd.pinned (OpenSpec.ofChange lexSmallWrong)

/-- 'lyceumlaw04.LexJoined': WHATEVER THE INPUT: true; the input reads as it did. -/
def lexJoinedSpec : ChangeSpec := { name := "lexJoined", fn := fun _ => fun
  | [d] => { results := [.lit (.bool true)], args := [d] }
  | _ => none }
def lexJoinedRow : OpenClaim := { program := "ythkfkdcmnkkdhaadoor", sum := "24902cc57a8359407a40b4783de8d31c959d06cca0b3bb0296a461472910aee1", func := "lyceum/lyceumlaw04.LexJoined", spec := "lexJoined", inPlace := ["internal/abi.NoEscape", "internal/bytealg.MakeNoZero"], unfollowed := true, recurses := true, named := ["lyceum/lex.signs"], apart := false, laid := [("lyceum/lex.signs", laid_lyceum_lex_signs)] }
def LexJoinedSaid : Prop := lexJoinedRow.holds Tryd.pinned (OpenSpec.ofChange lexJoinedSpec)

/-- ITS FALSE NEIGHBOUR: 'it returns false'. Refute it at one input. -/
def lexJoinedWrong : ChangeSpec := { name := "lexJoined", fn := fun _ => fun
  | [d] => { results := [.lit (.bool false)], args := [d] }
  | _ => none }
def LexJoinedWrongFalsely : Prop := lexJoinedRow.holds Tryd.pinned (OpenSpec.ofChange lexJoinedWrong)

/-- 'lyceumlaw04.LexStands': WHATEVER THE INPUT: true; the input reads as it did. -/
def lexStandsSpec : ChangeSpec := { name := "lexStands", fn := fun _ => fun
  | [d] => { results := [.lit (.bool true)], args := [d] }
  | _ => none }
def lexStandsRow : OpenClaim := { program := "ythkfkdcmnkkdhaadoor", sum := "24902cc57a8359407a40b4783de8d31c959d06cca0b3bb0296a461472910aee1", func := "lyceum/lyceumlaw04.LexStands", spec := "lexStands", inPlace := ["internal/abi.NoEscape", "internal/bytealg.MakeNoZero"], unfollowed := true, recurses := true, named := ["lyceum/lex.signs"], apart := false, laid := [("lyceum/lex.signs", laid_lyceum_lex_signs)] }
def LexStandsSaid : Prop := lexStandsRow.holds Tryd.pinned (OpenSpec.ofChange lexStandsSpec)

/-- ITS FALSE NEIGHBOUR: 'it returns false'. Refute it at one input. -/
def lexStandsWrong : ChangeSpec := { name := "lexStands", fn := fun _ => fun
  | [d] => { results := [.lit (.bool false)], args := [d] }
  | _ => none }
def LexStandsWrongFalsely : Prop := lexStandsRow.holds Tryd.pinned (OpenSpec.ofChange lexStandsWrong)

/-- 'lyceumlaw04.LexBoth': WHATEVER THE INPUT: true; the input reads as it did. -/
def lexBothSpec : ChangeSpec := { name := "lexBoth", fn := fun _ => fun
  | [d1, d2, d3] => { results := [.lit (.bool true)], args := [d1, d2, d3] }
  | _ => none }
def lexBothRow : OpenClaim := { program := "ythkfkdcmnkkdhaadoor", sum := "24902cc57a8359407a40b4783de8d31c959d06cca0b3bb0296a461472910aee1", func := "lyceum/lyceumlaw04.LexBoth", spec := "lexBoth", inPlace := ["internal/abi.NoEscape", "internal/bytealg.MakeNoZero"], unfollowed := true, recurses := true, named := ["lyceum/lex.signs"], apart := false, laid := [("lyceum/lex.signs", laid_lyceum_lex_signs)] }
def LexBothSaid : Prop := lexBothRow.holds Tryd.pinned (OpenSpec.ofChange lexBothSpec)

/-- ITS FALSE NEIGHBOUR: 'it returns false'. Refute it at one input. -/
def lexBothWrong : ChangeSpec := { name := "lexBoth", fn := fun _ => fun
  | [d1, d2, d3] => { results := [.lit (.bool false)], args := [d1, d2, d3] }
  | _ => none }
def LexBothWrongFalsely : Prop := lexBothRow.holds Tryd.pinned (OpenSpec.ofChange lexBothWrong)

/-- 'lyceumlaw04.LexLongest': WHATEVER THE INPUT: true; the input reads as it did. -/
def lexLongestSpec : ChangeSpec := { name := "lexLongest", fn := fun _ => fun
  | [d] => { results := [.lit (.bool true)], args := [d] }
  | _ => none }
def lexLongestRow : OpenClaim := { program := "ythkfkdcmnkkdhaadoor", sum := "24902cc57a8359407a40b4783de8d31c959d06cca0b3bb0296a461472910aee1", func := "lyceum/lyceumlaw04.LexLongest", spec := "lexLongest", inPlace := ["internal/abi.NoEscape", "internal/bytealg.MakeNoZero"], unfollowed := true, recurses := true, named := ["lyceum/lex.signs"], apart := false, laid := [("lyceum/lex.signs", laid_lyceum_lex_signs)] }
def LexLongestSaid : Prop := lexLongestRow.holds Tryd.pinned (OpenSpec.ofChange lexLongestSpec)

/-- ITS FALSE NEIGHBOUR: 'it returns false'. Refute it at one input. -/
def lexLongestWrong : ChangeSpec := { name := "lexLongest", fn := fun _ => fun
  | [d] => { results := [.lit (.bool false)], args := [d] }
  | _ => none }
def LexLongestWrongFalsely : Prop := lexLongestRow.holds Tryd.pinned (OpenSpec.ofChange lexLongestWrong)

/-- 'lyceumlaw04.LexWrong': WHATEVER THE INPUT: true; the input reads as it did. -/
def lexWrongSpec : ChangeSpec := { name := "lexWrong", fn := fun _ => fun
  | [d1, d2] => { results := [.lit (.bool true)], args := [d1, d2] }
  | _ => none }
def lexWrongRow : OpenClaim := { program := "ythkfkdcmnkkdhaadoor", sum := "24902cc57a8359407a40b4783de8d31c959d06cca0b3bb0296a461472910aee1", func := "lyceum/lyceumlaw04.LexWrong", spec := "lexWrong", inPlace := ["internal/abi.NoEscape", "internal/bytealg.MakeNoZero"], unfollowed := true, recurses := true, named := ["lyceum/lex.signs"], apart := false, laid := [("lyceum/lex.signs", laid_lyceum_lex_signs)] }
def LexWrongSaid : Prop := lexWrongRow.holds Tryd.pinned (OpenSpec.ofChange lexWrongSpec)

/-- ITS FALSE NEIGHBOUR: 'it returns false'. Refute it at one input. -/
def lexWrongWrong : ChangeSpec := { name := "lexWrong", fn := fun _ => fun
  | [d1, d2] => { results := [.lit (.bool false)], args := [d1, d2] }
  | _ => none }
def LexWrongWrongFalsely : Prop := lexWrongRow.holds Tryd.pinned (OpenSpec.ofChange lexWrongWrong)

/- THE SECOND FORM. 'bulk': how many values and letters a reading holds, each counted each time it is reached (what is shared counts as often as it is met; a slice's spare places count too). A statement '..UptoSaid' is the law's where the arguments, and the package variables that the reading takes, are together of bulk at most 1048576: NARROWER than '..Said'. Prove '..Said' where nothing that the law and all that it calls make is longer than what came in: it says more and counts as full. Else prove '..UptoSaid'. A law counts once. -/
mutual
def uptoBulk {H : Type} : DataW H → Nat
  | .lit (.string bytes) => bytes.length + 1
  | .lit _ => 1
  | .nil => 1
  | .ptr d => uptoBulk d + 1
  | .slice elems spare => uptoBulkAll elems + uptoBulkAll spare + 1
  | .agg parts => uptoBulkAll parts + 1
  | .iface _ d => uptoBulk d + 1
  | .map entries => uptoBulkEntries entries + 1
  | .held _ => 1
def uptoBulkAll {H : Type} : List (DataW H) → Nat
  | [] => 0
  | d :: r => uptoBulk d + uptoBulkAll r
def uptoBulkEntries {H : Type} : List (Lit × DataW H) → Nat
  | [] => 0
  | x :: r => uptoBulkEntry x + uptoBulkEntries r
def uptoBulkEntry {H : Type} : Lit × DataW H → Nat
  | (.string bytes, d) => bytes.length + uptoBulk d + 1
  | (_, d) => uptoBulk d + 1
 end
def uptoSmall : (H : Type) → List (DataW H) → Bool := fun _ ds => decide (uptoBulkAll ds ≤ 1048576)
def OpenSpec.upto (s : _root_.Go.ChangeSpec) : _root_.Go.OpenSpec := { _root_.Go.OpenSpec.ofChange s with cond := some uptoSmall }

/-- 'lyceumlaw04.LexTells', WHERE WHAT IT READS IS OF BULK AT MOST 1048576: true; the input reads as it did. -/
def lexTellsUptoRow : OpenClaim := { program := "ythkfkdcmnkkdhaadoor", sum := "24902cc57a8359407a40b4783de8d31c959d06cca0b3bb0296a461472910aee1", func := "lyceum/lyceumlaw04.LexTells", spec := "lexTells", inPlace := ["internal/abi.NoEscape", "internal/bytealg.MakeNoZero"], unfollowed := true, recurses := true, named := ["lyceum/lex.signs"], apart := false, laid := [("lyceum/lex.signs", laid_lyceum_lex_signs)], narrowed := true }
def LexTellsUptoSaid : Prop := lexTellsUptoRow.holds Tryd.pinned (OpenSpec.upto lexTellsSpec)

/-- 'lyceumlaw04.LexJoins', WHERE WHAT IT READS IS OF BULK AT MOST 1048576: true; the input reads as it did. -/
def lexJoinsUptoRow : OpenClaim := { program := "ythkfkdcmnkkdhaadoor", sum := "24902cc57a8359407a40b4783de8d31c959d06cca0b3bb0296a461472910aee1", func := "lyceum/lyceumlaw04.LexJoins", spec := "lexJoins", inPlace := ["internal/abi.NoEscape", "internal/bytealg.MakeNoZero"], unfollowed := true, recurses := true, named := ["lyceum/lex.signs"], apart := false, laid := [("lyceum/lex.signs", laid_lyceum_lex_signs)], narrowed := true }
def LexJoinsUptoSaid : Prop := lexJoinsUptoRow.holds Tryd.pinned (OpenSpec.upto lexJoinsSpec)

/-- 'lyceumlaw04.LexSmall', WHERE WHAT IT READS IS OF BULK AT MOST 1048576: true; the input reads as it did. -/
def lexSmallUptoRow : OpenClaim := { program := "ythkfkdcmnkkdhaadoor", sum := "24902cc57a8359407a40b4783de8d31c959d06cca0b3bb0296a461472910aee1", func := "lyceum/lyceumlaw04.LexSmall", spec := "lexSmall", inPlace := ["internal/abi.NoEscape", "internal/bytealg.MakeNoZero"], unfollowed := true, recurses := true, named := ["lyceum/lex.signs"], apart := false, laid := [("lyceum/lex.signs", laid_lyceum_lex_signs)], narrowed := true }
def LexSmallUptoSaid : Prop := lexSmallUptoRow.holds Tryd.pinned (OpenSpec.upto lexSmallSpec)

/-- 'lyceumlaw04.LexJoined', WHERE WHAT IT READS IS OF BULK AT MOST 1048576: true; the input reads as it did. -/
def lexJoinedUptoRow : OpenClaim := { program := "ythkfkdcmnkkdhaadoor", sum := "24902cc57a8359407a40b4783de8d31c959d06cca0b3bb0296a461472910aee1", func := "lyceum/lyceumlaw04.LexJoined", spec := "lexJoined", inPlace := ["internal/abi.NoEscape", "internal/bytealg.MakeNoZero"], unfollowed := true, recurses := true, named := ["lyceum/lex.signs"], apart := false, laid := [("lyceum/lex.signs", laid_lyceum_lex_signs)], narrowed := true }
def LexJoinedUptoSaid : Prop := lexJoinedUptoRow.holds Tryd.pinned (OpenSpec.upto lexJoinedSpec)

/-- 'lyceumlaw04.LexStands', WHERE WHAT IT READS IS OF BULK AT MOST 1048576: true; the input reads as it did. -/
def lexStandsUptoRow : OpenClaim := { program := "ythkfkdcmnkkdhaadoor", sum := "24902cc57a8359407a40b4783de8d31c959d06cca0b3bb0296a461472910aee1", func := "lyceum/lyceumlaw04.LexStands", spec := "lexStands", inPlace := ["internal/abi.NoEscape", "internal/bytealg.MakeNoZero"], unfollowed := true, recurses := true, named := ["lyceum/lex.signs"], apart := false, laid := [("lyceum/lex.signs", laid_lyceum_lex_signs)], narrowed := true }
def LexStandsUptoSaid : Prop := lexStandsUptoRow.holds Tryd.pinned (OpenSpec.upto lexStandsSpec)

/-- 'lyceumlaw04.LexBoth', WHERE WHAT IT READS IS OF BULK AT MOST 1048576: true; the input reads as it did. -/
def lexBothUptoRow : OpenClaim := { program := "ythkfkdcmnkkdhaadoor", sum := "24902cc57a8359407a40b4783de8d31c959d06cca0b3bb0296a461472910aee1", func := "lyceum/lyceumlaw04.LexBoth", spec := "lexBoth", inPlace := ["internal/abi.NoEscape", "internal/bytealg.MakeNoZero"], unfollowed := true, recurses := true, named := ["lyceum/lex.signs"], apart := false, laid := [("lyceum/lex.signs", laid_lyceum_lex_signs)], narrowed := true }
def LexBothUptoSaid : Prop := lexBothUptoRow.holds Tryd.pinned (OpenSpec.upto lexBothSpec)

/-- 'lyceumlaw04.LexLongest', WHERE WHAT IT READS IS OF BULK AT MOST 1048576: true; the input reads as it did. -/
def lexLongestUptoRow : OpenClaim := { program := "ythkfkdcmnkkdhaadoor", sum := "24902cc57a8359407a40b4783de8d31c959d06cca0b3bb0296a461472910aee1", func := "lyceum/lyceumlaw04.LexLongest", spec := "lexLongest", inPlace := ["internal/abi.NoEscape", "internal/bytealg.MakeNoZero"], unfollowed := true, recurses := true, named := ["lyceum/lex.signs"], apart := false, laid := [("lyceum/lex.signs", laid_lyceum_lex_signs)], narrowed := true }
def LexLongestUptoSaid : Prop := lexLongestUptoRow.holds Tryd.pinned (OpenSpec.upto lexLongestSpec)

/-- 'lyceumlaw04.LexWrong', WHERE WHAT IT READS IS OF BULK AT MOST 1048576: true; the input reads as it did. -/
def lexWrongUptoRow : OpenClaim := { program := "ythkfkdcmnkkdhaadoor", sum := "24902cc57a8359407a40b4783de8d31c959d06cca0b3bb0296a461472910aee1", func := "lyceum/lyceumlaw04.LexWrong", spec := "lexWrong", inPlace := ["internal/abi.NoEscape", "internal/bytealg.MakeNoZero"], unfollowed := true, recurses := true, named := ["lyceum/lex.signs"], apart := false, laid := [("lyceum/lex.signs", laid_lyceum_lex_signs)], narrowed := true }
def LexWrongUptoSaid : Prop := lexWrongUptoRow.holds Tryd.pinned (OpenSpec.upto lexWrongSpec)

end Rows
end Go.Proofs.YthkfkdcmnkkdhaaDoor
