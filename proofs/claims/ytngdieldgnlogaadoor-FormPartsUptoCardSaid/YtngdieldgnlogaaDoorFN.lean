/- What FormParts asks of the list of parts; the regions' operations. -/
import Derived.Test.YtngdieldgnlogaaDoorPD
import Derived.Test.YtngdieldgnlogaaDoorWI
import Derived.Test.YtngdieldgnlogaaDoorOP
import Derived.Test.YtngdieldgnlogaaDoorSW
import Derived.Test.YtngdieldgnlogaaDoorD2
import Derived.Test.YtngdieldgnlogaaDoorVM
import Derived.Test.YtngdieldgnlogaaDoorA1
import Derived.Test.YtngdieldgnlogaaDoorU6
namespace Go.Proofs.YtngdieldgnlogaaDoor
open Go Go.RowKit
set_option maxRecDepth 100000
set_option linter.unusedVariables false
theorem one_listP {f : FT} {p q : Option Addr} {a b : Nat} {W : World} (hv : FVal W f (fval f (.slice p f.ts.len a) (.slice q f.sub.len b))) (t : TypeId) :
    FSl (W.alloc (.cells #[.int .u8 f.op, .string f.n, .slice p f.ts.len a, .slice q f.sub.len b] t)) (.cons f.op f.n f.ts f.sub .nil) (.slice (some ⟨W.heap.size, 0, none⟩) 1 1) := by
  have cN := fun i => cell_new W #[.int .u8 f.op, .string f.n, .slice p f.ts.len a, .slice q f.sub.len b] t i
  have b5 := bel_laid W (.cells #[.int .u8 f.op, .string f.n, .slice p f.ts.len a, .slice q f.sub.len b] t)
  obtain ⟨_, _, e, t1, t2⟩ := hv
  simp at e
  obtain ⟨rfl, rfl⟩ := e
  exact ⟨_, _, rfl, .inr ⟨_, _, rfl, cN 0, cN 1, ⟨_, cN 2, TSl.below b5 t1⟩, ⟨_, cN 3, FSl.below b5 t2⟩, trivial⟩⟩
def Fs.of : List FT → Fs
  | [] => .nil
  | f :: r => .cons f.op f.n f.ts f.sub (Fs.of r)
theorem Fs.of_len : ∀ l : List FT, (Fs.of l).len = l.length
  | [] => rfl
  | f :: r => by simp [Fs.of, Fs.len, Fs.of_len r]
/-- Values of formulas in a row are a list of formulas. -/
theorem fsAt_of {V : World} {lo g : Nat} : ∀ (l : List FT) (vs : List Value) (k : Nat), Ows V lo vs l → (∀ j u, (flatV vs)[j]? = some u → V.cell? ⟨g, k + j, none⟩ = some u) → FsAt V (Fs.of l) g k
  | [], _, _, _, _ => trivial
  | f :: r, [], _, h, _ => h.elim
  | f :: r, v :: vs, k, ⟨⟨sa, ss, e, h1, h2⟩, h3⟩, hc => by
    subst e
    have e4 : flatV (fval f sa ss :: vs) = [.int .u8 f.op, .string f.n, sa, ss] ++ flatV vs := by
      simp only [flatV, List.flatMap_cons]
      rfl
    have c0 := hc 0 (.int .u8 f.op) (by rw [e4]; rfl)
    have c1 := hc 1 (.string f.n) (by rw [e4]; rfl)
    have c2 := hc 2 sa (by rw [e4]; rfl)
    have c3 := hc 3 ss (by rw [e4]; rfl)
    rw [Nat.add_zero] at c0
    exact ⟨c0, c1, ⟨sa, c2, TOwn.at h1⟩, ⟨ss, c3, FOwn.at h2⟩, fsAt_of r vs (k + 4) h3 fun j u hu => by
      have := hc (j + 4) u (by rw [e4]; simpa using hu)
      rwa [show k + (j + 4) = k + 4 + j by omega] at this⟩
theorem parts_list {f : FT} {lo : Nat} {s : Value} {V : World} (h : PartsR f lo s V) (hs : f.size ≤ 1000) : FSl V (Fs.of (pickedT f.parts)) s := by
  obtain ⟨h, -⟩ | ⟨-, l1, hown, hO⟩ := h
  · omega
  obtain ⟨h0, ⟨rfl, hz⟩ | ⟨g, cap, cur, rfl, hg, h3, h4⟩⟩ := id hown
  · exact ⟨none, 0, by rw [Fs.of_len, hz], .inl (by rw [Fs.of_len, hz])⟩
  · refine ⟨_, cap, by rw [Fs.of_len], .inr ⟨g, 0, rfl, fsAt_of _ l1 0 hO fun j u hu => ?_⟩⟩
    have hj : j < (pickedT f.parts).length * 4 := by
      have := (List.getElem?_eq_some_iff.1 hu).1
      rw [h0] at this
      exact this
    rw [Nat.zero_add, hown.cellAt j hj]
    exact hu
theorem guard_eq (x y : Operand) (m n : Int) (w : World) : (eqGuard .eql 3 x y (.int .i64 m) (.int .i64 n)).run Tryd.prog w = .ok () w := by
  simp [eqGuard]
theorem eql_len {n : Nat} {b : Bool} (h : ((n : Int) == 0) = b) (w : World) : (binOp .eql 3 (.int .i64 (n : Int)) (.int .i64 0)).run Tryd.prog w = .ok (.bool b) w := by
  rw [← h]
  exact eql_int _ _ w
theorem wants_undef {ops : Array Oper} {a : Act} {j d : Nat} {o : Oper} (b : Bool) (hg : o.guard = some (j, b)) (hj : dstAt ops j = some d) (hd : a.tmps[d]? = some undef) : Region.wanted o (yielded ops a.tmps) = false := by
  have : ((ops[j]?).bind (·.dst)) = some d := hj
  simp [Region.wanted, hg, yielded, this, hd, undef]
theorem uniq_len : ∀ (r : List Sy) (q : Sy), (uniqA q r).length ≤ r.length
  | [], _ => Nat.le_refl _
  | p :: r, q => by
    unfold uniqA
    have := uniq_len r p
    split
    · simp only [List.length_cons]; omega
    · simp only [List.length_cons]; omega
theorem uniq_le (l : List Sy) : (uniq l).length ≤ l.length := by
  cases l with
  | nil => exact Nat.le_refl _
  | cons q r => simp only [uniq, List.length_cons]; have := uniq_len r q; omega
theorem guard_any (x y : Operand) (u v : Value) (w : World) : (eqGuard .andNot 39 x y u v).run Tryd.prog w = .ok () w := rfl
theorem andNot_zero {m n : BitVec 32} (h : m &&& ~~~n = 0#32) (w : World) : (binOp .andNot 39 (mval m) (mval n)).run Tryd.prog w = .ok (mval 0#32) w := by
  rw [andNot_op, h]
theorem guard_u32 (x y : Operand) (m : BitVec 32) (w : World) : (eqGuard .neq 39 x y (mval m) (.int .u32 0)).run Tryd.prog w = .ok () w := by
  simp [eqGuard, mval]
theorem neq_zero (w : World) : (binOp .neq 39 (mval 0#32) (.int .u32 0)).run Tryd.prog w = .ok (.bool false) w := by
  simp [mval, go_sem]
theorem guard_gtr (x y : Operand) (u v : Value) (w : World) : (eqGuard .gtr 3 x y u v).run Tryd.prog w = .ok () w := rfl
theorem gtr_op {i : Nat} {b : Bool} (h : decide ((0 : Int) < (i : Int)) = b) (w : World) : (binOp .gtr 3 (.int .i64 (i : Int)) (.int .i64 0)).run Tryd.prog w = .ok (.bool b) w := by
  rw [← h]
  simp [go_sem]
theorem guard_geq (x y : Operand) (u v : Value) (w : World) : (eqGuard .geq 3 x y u v).run Tryd.prog w = .ok () w := rfl
theorem geq_lt {m n : Nat} (h : m < n) (w : World) : (binOp .geq 3 (.int .i64 (m : Int)) (.int .i64 (n : Int))).run Tryd.prog w = .ok (.bool false) w := by
  simp [go_sem]
  omega
theorem preds_len (f : FT) (hs : f.size ≤ 1000000) : (uniq (ms (f.parts.flatMap symP))).length ≤ 1000000 := by
  have h1 := uniq_le (ms (f.parts.flatMap symP))
  rw [ms_len] at h1
  have h2 := symP_len f.parts
  have h3 := f.length_all
  omega
theorem funcs_len (f : FT) (hs : f.size ≤ 1000000) : (uniq (ms (f.terms.flatMap symT))).length ≤ 1000000 := by
  have h1 := uniq_le (ms (f.terms.flatMap symT))
  rw [ms_len] at h1
  have h2 := symT_len f.terms
  have h3 := f.length_all
  omega
/-- What FormParts asks of the list. -/
structure PF (f : FT) (L : Fs) : Prop where
  len : 0 < L.len
  head : (L.get 0).eqB f = true
  right : ∀ i, i < L.len → ∀ sc, (f.fits && f.right sc) = true → ((L.get i).fits && (L.get i).right sc) = true
  mask : ∀ i, i < L.len → maskOf (L.get i).parts &&& ~~~maskOf f.parts = 0#32
  size : ∀ i, i < L.len → 0 < i → (L.get i).size < f.size
  deep : ∀ i, i < L.len → 0 < i → (L.get i).deep < f.deep
  le : ∀ i, i < L.len → (L.get i).size ≤ f.size
  preds : ∀ i, i < L.len → withinB (uniq (ms ((L.get i).parts.flatMap symP))) (uniq (ms (f.parts.flatMap symP))) = true
  funcs : ∀ i, i < L.len → withinB (uniq (ms ((L.get i).terms.flatMap symT))) (uniq (ms (f.terms.flatMap symT))) = true
  diff : ∀ i k, k < i → i < L.len → (L.get i).eqB (L.get k) = false
  listed : Listed L f
  opn : ∀ i, i < L.len → ∀ p ∈ (L.get i).parts, 0 ≤ p.op
  total : L.size ≤ 1000000
theorem predicates_all (f : FT) (hs : f.size ≤ 1000000) (v : Value) (w : World) (hv : FVal w f v) : Calls Tryd.prog 20 #[v] w fun e w' => (∃ v', e = .returned v' ∧ SySl w' (uniq (ms (f.parts.flatMap symP))) v') ∧ Below w.heap.size w w' :=
  predicates_any _ _ inOrder_all ordS_put f trivial hs v w hv
theorem functions_all (f : FT) (hs : f.size ≤ 1000000) (v : Value) (w : World) (hv : FVal w f v) : Calls Tryd.prog 21 #[v] w fun e w' => (∃ v', e = .returned v' ∧ SySl w' (uniq (ms (f.terms.flatMap symT))) v') ∧ Below w.heap.size w w' :=
  functions_any _ _ inOrder_all ordS_put f trivial hs v w hv
end Go.Proofs.YtngdieldgnlogaaDoor
