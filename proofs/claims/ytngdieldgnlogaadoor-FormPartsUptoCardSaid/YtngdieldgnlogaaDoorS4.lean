/- A list of symbols in an own block, in the sort's words. -/
import Derived.Test.YtngdieldgnlogaaDoorS3
import Derived.Test.YtngdieldgnlogaaDoorMS
import Derived.Shelf.SlSortCmp.WholeK
namespace Go.Proofs.YtngdieldgnlogaaDoor
open Go Go.RowKit Go.Sort
set_option maxRecDepth 100000
set_option linter.unusedVariables false
def encSy (x : Sy) : List Value := [.string x.1, .int .i64 x.2]
theorem flat_get : ∀ (l : List Sy) (j : Nat), j < l.length * 2 → (flat l)[j]? = some ((encSy (l[j / 2]!))[j % 2]!)
  | [], j, h => by simp at h
  | x :: r, 0, _ => by simp [flat, encSy]
  | x :: r, 1, _ => by simp [flat, encSy]
  | x :: r, j + 2, h => by
    have ih := flat_get r j (by simp only [List.length_cons] at h; omega)
    have e1 : (j + 2) / 2 = j / 2 + 1 := by omega
    have e2 : (j + 2) % 2 = j % 2 := by omega
    rw [e1, e2]
    have e3 : (flat (x :: r))[j + 2]? = (flat r)[j]? := by simp [flat]
    rw [e3, ih]
    rfl
theorem holds_of_own {V : World} {B g n cap : Nat} {l : List Sy} (hn : l.length = n) (h : V.ownsRow B 60 2 (.slice (some ⟨g, 0, none⟩) n cap) n (flat l)) : HoldsK encSy 2 V g 0 l.toArray := by
  subst hn
  intro j hj
  rw [size_flatK, List.size_toArray] at hj
  refine ⟨?_, by rw [Nat.zero_add]; exact h.frozenAt j⟩
  rw [Nat.zero_add, h.cellAt j hj, flat_get l j hj, get_flatK _ _ _ _ (by simpa using hj)]
  simp
theorem cmpLaysSym (blk off size : Nat) (w : World) : CmpLays Tryd.prog 75 #[] encSy 2 sySym blk off size w :=
  fun _ _ _ _ x y => symCmp_any x.1 x.2 y.1 y.2 _
theorem isAgg60 (w : World) : (isAgg 60).run Tryd.prog w = .ok true w := Tryd.isAgg60 w
theorem sizeOf60 (w : World) : (Go.sizeOf 60).run Tryd.prog w = .ok 2 w := Tryd.sizeOf60 w
theorem sort_any {V : World} {B g cap : Nat} {l : List Sy} (h : V.ownsRow B 60 2 (.slice (some ⟨g, 0, none⟩) l.length cap) l.length (flat l)) (hl : l.length ≤ 1000000) :
    Calls Tryd.prog 74 #[.slice (some ⟨g, 0, none⟩) l.length cap, .func (.func 75) #[] #[]] V fun e w' => e = .returned (.tuple #[]) ∧ ∃ (d : Array Sy) (n : Nat) (os : Array Obj), PermIn 0 l.length l.toArray d ∧ SortedIn (ltOf sySym) 0 l.length d ∧ w' = sortWorldK encSy 2 V g 0 n d os := by
  have hH := holds_of_own rfl h
  have hg := (h.lt g rfl).2
  have eg : ∀ args w, (callFunc 75 args).run Tryd.prog w = .ok (.enter 75 args) w := enters_of Tryd.func75 (by kernel_rfl) rfl
  have hcon := AnyQ.slices_SortFunc Tryd.sortSym 2 isAgg60 sizeOf60 encSy (fun _ => rfl) (fun x v hv => by simp [encSy] at hv; rcases hv with rfl | rfl <;> rfl) sySym swoSym 75 #[] g 0 cap l.toArray V eg (cmpLaysSym g 0 _ V) hH hg (by simp; omega)
  exact hcon
end Go.Proofs.YtngdieldgnlogaaDoor
