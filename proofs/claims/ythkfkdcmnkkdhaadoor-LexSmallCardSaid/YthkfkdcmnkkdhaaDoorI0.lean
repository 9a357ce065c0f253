/- What single operations do, in the region in which the scanner is made. -/
import Derived.Test.YthkfkdcmnkkdhaaDoorG1
import Derived.Test.YthkfkdcmnkkdhaaDoorU1
namespace Go.Proofs.YthkfkdcmnkkdhaaDoor
open Go Go.RowKit
set_option maxRecDepth 100000
set_option linter.unusedVariables false
section
variable {P : Program} {a : Act} {w w' : World} {o : Oper} {v u r : Value} {x y : Operand}
theorem ex_load {t : TypeId} {x : Operand} (hop : o.op = .load t x) (hx : a.eval x = u) (hr : (Instr.loadAt t u).run P w = .ok v w) : (execOp a.eval o).run P w = .ok (.value v) w := by
  simp [execOp, hop, hx, hr, Result.andThen]
theorem ex_store {t : TypeId} {x y : Operand} {r : Value} (hop : o.op = .store t x y) (hx : a.eval x = u) (hy : a.eval y = r) (hr : (Instr.storeAt t u r).run P w = .ok () w') : (execOp a.eval o).run P w = .ok .skip w' := by
  simp [execOp, hop, hx, hy, hr, Result.andThen]
theorem ex_alloc {t : TypeId} (hop : o.op = .alloc t) (hr : (Instr.alloc t true (.tuple #[])).run P w = .ok v w') : (execOp a.eval o).run P w = .ok (.value v) w' := by
  simp [execOp, hop, hr, Result.andThen]
theorem ex_build12 {t : TypeId} (hop : o.op = .build t #[(1, x), (2, y)]) (hx : a.eval x = u) (hy : a.eval y = r) (hr : (Instr.build t #[(1, u), (2, r)]).run P w = .ok v w) : (execOp a.eval o).run P w = .ok (.value v) w := by
  simp [execOp, hop, hx, hy, hr, Result.andThen]
theorem ex_call0 {f : Nat} (he : ∀ args w, (callFunc f args).run P w = .ok (.enter f args) w) (hop : o.op = .call { callee := .value (.func f), args := #[], argTypes := #[] }) : (execOp a.eval o).run P w = .ok (.enter f #[]) w := by
  have e1 : a.eval (.func f) = .func (.func f) #[] #[] := rfl
  simp [execOp, hop, resolve, invoke, e1, he, Deferred.ofValue]
end
/-- Cells put in one after the other. -/
theorem fold_get : ∀ (l : List Value) (k off : Nat) (b : Array Value), off + k + l.length ≤ b.size →
    ((l.zipIdx k).foldl (fun cs (p : Value × Nat) => cs.setIfInBounds (off + p.2) p.1) b).size = b.size ∧
    ∀ i, ((l.zipIdx k).foldl (fun cs (p : Value × Nat) => cs.setIfInBounds (off + p.2) p.1) b)[i]? = if off + k ≤ i ∧ i < off + k + l.length then l[i - (off + k)]? else b[i]?
  | [], k, off, b, _ => ⟨rfl, fun i => by rw [if_neg (by simp)]; rfl⟩
  | v :: l, k, off, b, h => by
    simp only [List.length_cons] at h
    obtain ⟨h1, h2⟩ := fold_get l (k + 1) off (b.setIfInBounds (off + k) v) (by simp; omega)
    simp only [List.zipIdx_cons, List.foldl_cons]
    refine ⟨by rw [h1]; simp, fun i => ?_⟩
    rw [h2 i]
    by_cases hi : off + k = i
    · subst hi
      rw [if_neg (by omega), if_pos (by simp), Array.getElem?_setIfInBounds_self_of_lt (by omega)]
      simp
    · by_cases hr : off + (k + 1) ≤ i ∧ i < off + (k + 1) + l.length
      · rw [if_pos hr, if_pos (by simp only [List.length_cons]; omega)]
        rw [show i - (off + k) = (i - (off + (k + 1))) + 1 by omega]
        simp
      · rw [if_neg hr, if_neg (by simp only [List.length_cons]; omega), Array.getElem?_setIfInBounds_ne hi]
theorem fill67 (B : Array Value) (hb : B.size = 258) (h0 : B[0]? = some (.int .i64 0)) (x : ByteArray) (cs : Array Value) (h : cs.size = 256) :
    Instr.fill (([(0, 1), (1, 1), (2, 256)] : List (Nat × Nat)).toArray[·]?) B [(1, .string x), (2, .agg cs)] = some (scanC 0 x cs) := by
  have hc1 : (Value.string x).cells = #[.string x] := rfl
  have hc2 : (Value.agg cs).cells = cs := rfl
  simp only [Instr.fill, List.getElem?_toArray, List.getElem?_cons_succ, List.getElem?_cons_zero, hc1, hc2, h, hb]
  rw [if_neg (by simp)]
  have hb1 : ((#[Value.string x] : Array Value).zipIdx.foldl (fun cs (p : Value × Nat) => cs.setIfInBounds (1 + p.2) p.1) B) = B.setIfInBounds 1 (.string x) := rfl
  rw [hb1, if_neg (by simp [hb])]
  congr 1
  obtain ⟨f1, f2⟩ := fold_get cs.toList 0 2 (B.setIfInBounds 1 (.string x)) (by simp [hb, h])
  have e : cs.zipIdx.foldl (fun cs (p : Value × Nat) => cs.setIfInBounds (2 + p.2) p.1) (B.setIfInBounds 1 (.string x)) = (cs.toList.zipIdx 0).foldl (fun cs (p : Value × Nat) => cs.setIfInBounds (2 + p.2) p.1) (B.setIfInBounds 1 (.string x)) := by
    rw [← Array.foldl_toList, Array.toList_zipIdx]
  rw [e]
  apply Array.ext_getElem?
  intro i
  rw [f2 i]
  simp only [Array.length_toList, h]
  by_cases hi2 : 2 ≤ i
  · rw [scanC, Array.getElem?_append_right (by simp; omega)]
    by_cases hlt : i < 258
    · rw [if_pos (by omega)]
      simp
    · rw [if_neg (by omega), Array.getElem?_eq_none (by simp [hb]; omega), Array.getElem?_eq_none (by simp [h]; omega)]
  · rw [if_neg (by omega), scanC, Array.getElem?_append_left (by simp; omega)]
    match i, hi2 with
    | 0, _ => rw [Array.getElem?_setIfInBounds_ne (by omega), h0]; rfl
    | 1, _ => rw [Array.getElem?_setIfInBounds_self_of_lt (by omega)]; rfl
    | i + 2, hi2 => omega
theorem zero67 : (Tryd.prog.info? 67).map (fun i => i.zero.map Value.cells) = some (some (scanC 0 ⟨#[]⟩ (Array.replicate 256 .nilFunc))) := by kernel_rfl
theorem places67 : (match Tryd.prog.underlying 67 with | some (.struct fs) => fs.toList.mapM (fun f => (Tryd.prog.info? f.type).map fun i => (f.offset, i.size)) | _ => none) = some [(0, 1), (1, 1), (2, 256)] := by kernel_rfl
theorem built67 (x : ByteArray) (cs : Array Value) (h : cs.size = 256) : Tryd.prog.built 67 [(1, .string x), (2, .agg cs)] = some (scanC 0 x cs) := by
  have hz := zero67
  have hp := places67
  unfold Program.built
  cases hi : Tryd.prog.info? 67 with
  | none => rw [hi] at hz; cases hz
  | some it =>
    rw [hi] at hz
    cases hu : Tryd.prog.underlying 67 with
    | none => rw [hu] at hp; cases hp
    | some d =>
      rw [hu] at hp
      cases d with
      | struct fields =>
        simp only at hp
        cases hzz : it.zero with
        | none => simp [hzz] at hz
        | some z =>
          simp only [Option.map_some, hzz, Option.some.injEq] at hz
          simp only [hzz, hp, hz]
          exact fill67 _ (by simp [scanC]) (by rw [scanC, Array.getElem?_append_left (by simp)]; rfl) x cs h
      | _ => simp at hp
end Go.Proofs.YthkfkdcmnkkdhaaDoor
