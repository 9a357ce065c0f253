/- What more operations do. -/
import Derived.Test.YtngdieldgnlogaaDoorU6
import Derived.Test.YtngdieldgnlogaaDoorMS
namespace Go.Proofs.YtngdieldgnlogaaDoor
open Go Go.RowKit
set_option maxRecDepth 100000
section
variable {a : Act} {w w' : World} {o : Oper} {v u r : Value} {x y : Operand}
theorem ex_pick {P : Program} {z : Operand} (hop : o.op = .pick x y z) (hx : a.eval x = .bool true) (hy : a.eval y = v) : (execOp a.eval o).run P w = .ok (.value v) w := by
  simp [execOp, hop, hx, hy, asBool]
theorem ex_not {P : Program} {t : TypeId} {b : Bool} (hop : o.op = .unOp .not t x) (hx : a.eval x = .bool b) : (execOp a.eval o).run P w = .ok (.value (.bool !b)) w := by
  simp [execOp, hop, hx, Op.unary]
theorem ex_bin {P : Program} {k : BinOp} {t t' : TypeId} (hop : o.op = .binOp k t x y t') (hx : a.eval x = u) (hy : a.eval y = r) (hg : (eqGuard k t x y u r).run P w = .ok () w) (hr : (binOp k t u r).run P w = .ok v w) : (execOp a.eval o).run P w = .ok (.value v) w := by
  simp [execOp, hop, hx, hy, hg, hr, Result.andThen]
theorem ex_build2 {P : Program} {t : TypeId} (hop : o.op = .build t #[(0, x), (1, y)]) (hx : a.eval x = u) (hy : a.eval y = r) (hr : (Instr.build t #[(0, u), (1, r)]).run P w = .ok v w) : (execOp a.eval o).run P w = .ok (.value v) w := by
  simp [execOp, hop, hx, hy, hr, Result.andThen]
theorem ex_call2 {P : Program} {f : Nat} {t t' : TypeId} (he : ∀ args w, (callFunc f args).run P w = .ok (.enter f args) w) (hop : o.op = .call { callee := .value (.func f), args := #[x, y], argTypes := #[t, t'] }) (hx : a.eval x = u) (hy : a.eval y = r) : (execOp a.eval o).run P w = .ok (.enter f #[u, r]) w := by
  have e1 : a.eval (.func f) = .func (.func f) #[] #[] := rfl
  simp [execOp, hop, resolve, invoke, hx, hy, e1, he, Deferred.ofValue]
end
theorem guard_int {t : TypeId} {k : IntKind} (x y : Operand) (m n : Int) (w : World) : (eqGuard .eql t x y (.int k m) (.int k n)).run Tryd.prog w = .ok () w := by
  simp [eqGuard]
theorem eql_int (m n : Int) (w : World) : (binOp .eql 3 (.int .i64 m) (.int .i64 n)).run Tryd.prog w = .ok (.bool (m == n)) w := by
  simp [go_sem]
theorem eql_errno (m n : Int) (w : World) : (binOp .eql 30 (.int .i64 m) (.int .i64 n)).run Tryd.prog w = .ok (.bool (m == n)) w := by
  simp [go_sem]
theorem guard_sym (x y : Operand) (s t : ByteArray) (m n : Int) (w : World) : (eqGuard .eql 60 x y (.agg #[.string s, .int .i64 m]) (.agg #[.string t, .int .i64 n])).run Tryd.prog w = .ok () w := by
  simp [eqGuard]
theorem build_sym (s : ByteArray) (m : Int) (w : World) : (Instr.build 60 #[(0, .string s), (1, .int .i64 m)]).run Tryd.prog w = .ok (.agg #[.string s, .int .i64 m]) w := by
  simp [Instr.build, go_sem]
theorem index39 {W : World} {g c : Nat} (i : Nat) (hi : i < 2) : (Instr.indexAt 42 (.slice (some ⟨g, 0, none⟩) 2 c) (.int .i64 i)).run Tryd.prog W = .ok (.pointer (some ⟨g, i * 2, none⟩)) W := by
  simp [Instr.indexAt, go_sem]
  omega
theorem load46 {W : World} {g o : Nat} {c0 c1 : Value} (h0 : W.cell? ⟨g, o, none⟩ = some c0) (h1 : W.cell? ⟨g, o + 1, none⟩ = some c1) : (Instr.loadAt 60 (.pointer (some ⟨g, o, none⟩))).run Tryd.prog W = .ok (.agg #[c0, c1]) W := by
  have hi : (Tryd.prog.info? 60).map (·.size) = some 2 := by kernel_rfl
  refine run_loadAt_mid W g o 60 [c0, c1] _ ?_ Tryd.underlying60 rfl hi
  intro j u hj
  match j, hj with
  | 0, hj => simp at hj; subst hj; exact h0
  | 1, hj => simp at hj; subst hj; exact h1
end Go.Proofs.YtngdieldgnlogaaDoor
