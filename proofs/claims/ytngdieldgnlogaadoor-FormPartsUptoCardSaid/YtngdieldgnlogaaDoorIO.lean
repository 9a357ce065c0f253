/- inOrder, for every list of symbols. -/
import Derived.Test.YtngdieldgnlogaaDoorCP
import Derived.Test.YtngdieldgnlogaaDoorME
import Derived.Shelf.SlSortCmp.NoneTotal
namespace Go.Proofs.YtngdieldgnlogaaDoor
open Go Go.RowKit Go.Sort
set_option maxRecDepth 100000
set_option linter.unusedVariables false
/-- The symbols in their order. -/
def ms (l : List Sy) : List Sy := l.mergeSort fun x y => !(ltOf sySym) y x
/-- A list of symbols in memory. -/
def SySl (V : World) (l : List Sy) (v : Value) : Prop := ∃ (p : Option Addr) (c : Nat), v = .slice p l.length c ∧ (l.length = 0 ∨ ∃ g, p = some ⟨g, 0, none⟩ ∧ SyAt V l g 0)
def OrdS (l : List Sy) (v : Value) (V : World) : Prop := SySl V (uniq (ms l)) v
theorem SySl.below {V V' : World} {l : List Sy} {v : Value} (hb : Below V.heap.size V V') (h : SySl V l v) : SySl V' l v := by
  obtain ⟨p, c, rfl, h⟩ := h
  exact ⟨p, c, rfl, h.imp id fun ⟨g, hp, hs⟩ => ⟨g, hp, SyAt.below hb hs⟩⟩
theorem ba_ext {s t : ByteArray} (h : s.toList = t.toList) : s = t := by
  rw [ByteArray.toList_eq, ByteArray.toList_eq] at h
  cases s; cases t
  simpa using h
theorem sy_total (x y : Sy) (h1 : (ltOf sySym) x y = false) (h2 : (ltOf sySym) y x = false) : x = y := by
  simp only [ltOf, decide_eq_false_iff_not, symCmp_lt] at h1 h2
  have e1 : x.1.toList = y.1.toList := by
    have a1 : y.1.toList ≤ x.1.toList := List.not_lt.1 fun h => h1 (.inl h)
    have a2 : x.1.toList ≤ y.1.toList := List.not_lt.1 fun h => h2 (.inl h)
    exact List.le_antisymm a2 a1
  have e2 : x.2 = y.2 := by
    have a1 : ¬ x.2 < y.2 := fun h => h1 (.inr ⟨e1, h⟩)
    have a2 : ¬ y.2 < x.2 := fun h => h2 (.inr ⟨e1.symm, h⟩)
    omega
  exact Prod.ext (ba_ext e1) e2
theorem room_own {V : World} {B g n cap : Nat} {l : List Sy} (hn : l.length = n) (h : V.ownsRow B 60 2 (.slice (some ⟨g, 0, none⟩) n cap) n (flat l)) : n ≤ cap ∧ RoomS V g (n * 2) := by
  refine ⟨?_, fun j hj => ?_⟩
  · obtain ⟨-, ⟨hz, -⟩ | ⟨g', cap', cur, hv, -, -, h3, -⟩⟩ := id h
    · cases hz
    · cases hv; exact h3
  · have hl := flat_get l j (by omega)
    refine ⟨(encSy (l[j / 2]!))[j % 2]!, ?_, h.frozenAt j⟩
    rw [h.cellAt j hj]
    exact hl
theorem room_sorted {V W : World} {g m : Nat} (hc : ∀ j v, V.frozen? ⟨g, j, none⟩ = v → W.frozen? ⟨g, j, none⟩ = v) (hr : RoomS V g m) (hs : ∀ j, j < m → ∃ v, W.cell? ⟨g, j, none⟩ = some v) : RoomS W g m := fun j hj => by
  obtain ⟨u, hu⟩ := hr j hj
  obtain ⟨v, hv⟩ := hs j hj
  exact ⟨v, hv, hc j _ hu.2⟩
theorem sort_total {V : World} {B g cap : Nat} {l : List Sy} (h : V.ownsRow B 60 2 (.slice (some ⟨g, 0, none⟩) l.length cap) l.length (flat l)) (hl : l.length ≤ 1000000) :
    Calls Tryd.prog 74 #[.slice (some ⟨g, 0, none⟩) l.length cap, .func (.func 75) #[] #[]] V fun e w' => e = .returned (.tuple #[]) ∧ ∃ (n : Nat) (os : Array Obj), w' = sortWorldK encSy 2 V g 0 n (ms l).toArray os := by
  have hH := holds_of_own rfl h
  have hg := (h.lt g rfl).2
  have eg : ∀ args w, (callFunc 75 args).run Tryd.prog w = .ok (.enter 75 args) w := enters_of Tryd.func75 (by kernel_rfl) rfl
  exact AnyQ.slices_SortFunc_total Tryd.sortSym 2 isAgg60 sizeOf60 encSy (fun _ => rfl) (fun x v hv => by simp [encSy] at hv; rcases hv with rfl | rfl <;> rfl) sySym swoSym 75 #[] g 0 cap l.toArray V eg (cmpLaysSym g 0 _ V) hH hg (by simp; omega) sy_total
theorem ms_perm (l : List Sy) : (ms l).Perm l := List.mergeSort_perm _ _
theorem ms_len (l : List Sy) : (ms l).length = l.length := (ms_perm l).length_eq
set_option maxHeartbeats 2000000 in
theorem inOrder_all : InOrder (fun _ => True) OrdS := by
  rintro l s B V - hl hB h
  by_cases hne : l = []
  · subst hne
    obtain ⟨p, cap, rfl⟩ : ∃ p cap, s = .slice p 0 cap := by
      obtain ⟨-, ⟨hv, -⟩ | ⟨g, cap, cur, hv, -⟩⟩ := id h
      · exact ⟨_, _, hv⟩
      · exact ⟨_, _, hv⟩
    have HS := Lib.hid (fun W => AnyF.slices_SortFunc_none (P := Tryd.prog) Tryd.sortSym p cap (.func (.func 75) #[] #[]) W)
    have HC := Lib.hid (fun W => compact_apart [] p 0 0 cap W (.inl rfl) trivial trivial (by simp))
    have hfin : Hid (∀ W, OrdS [] (.slice p 0 cap) W) := Lib.hid fun W => by
      have e0 : uniq (ms []) = [] := by simp [ms, uniq]
      show SySl W (uniq (ms [])) (.slice p 0 cap)
      rw [e0]
      exact ⟨p, cap, rfl, .inl rfl⟩
    clear h
    go_enter Tryd.func52, Tryd.ntmps52
    go_wp2_with fail
    refine (HS.out _).mono ?_
    rintro e w1 ⟨rfl, rfl⟩
    go_wp2_with fail
    refine (HC.out _).mono ?_
    rintro e w2 ⟨rfl, hb⟩
    have hbh := Lib.hid hb
    go_wp2_with fail
    go_ret
    exact ⟨⟨_, rfl, hfin.out _⟩, World.grownBy.trans (World.grownBy.refl _ _) ⟨hbh.out.os, hbh.out.tape, hbh.out.output, hbh.out.size, fun k hk _ => hbh.out.block k hk⟩⟩
  have hpos : 0 < l.length := List.length_pos_iff.2 hne
  obtain ⟨g, cap, rfl⟩ : ∃ g cap, s = .slice (some ⟨g, 0, none⟩) l.length cap := by
    obtain ⟨-, ⟨-, h0⟩ | ⟨g, cap, cur, hv, -⟩⟩ := id h
    · omega
    · exact ⟨g, cap, hv⟩
  have hgV := (h.lt g rfl).2
  have HS := Lib.hid (sort_total h hl)
  have hH := holds_of_own rfl h
  obtain ⟨hcap, hroom⟩ := room_own rfl h
  clear h
  go_enter Tryd.func52, Tryd.ntmps52
  go_wp2_with fail
  refine HS.out.mono ?_
  rintro e w1 ⟨rfl, n, os, rfl⟩
  have hds : (ms l).toArray.size = l.length := by simp [ms_len]
  have hH2 := holdsK_sortWorldK_c encSy 2 V g 0 l.toArray (ms l).toArray n os hH hgV (by simp [ms_len])
  have hgr := grownBy_sortedSy (V := V) (g := g) (n := n) (os := os) (ms l).toArray
  generalize sortWorldK encSy 2 V g 0 n (ms l).toArray os = W at hH2 hgr ⊢
  have hsy : SyAt W (ms l) g 0 := syAt_of _ _ _ _ fun i hi => by
    have hi' : i < (ms l).toArray.size := by simpa using hi
    have c0 := (hH2.cell hi' (show 0 < 2 by omega)).1
    have c1 := (hH2.cell hi' (show 1 < 2 by omega)).1
    have e : (ms l)[i]! = (ms l).toArray[i]! := by rw [getElem!_pos _ i hi, getElem!_pos _ i hi']; simp
    rw [e]
    exact ⟨c0, c1⟩
  have hroomW : RoomS W g ((ms l).length * 2) := fun j hj => by
    have hj' : j / 2 < (ms l).toArray.size := by simp; omega
    have hc := hH2.cell hj' (show j % 2 < 2 by omega)
    have e : 0 + j / 2 * 2 + j % 2 = j := by omega
    rw [e] at hc
    exact ⟨_, hc.1, hc.2⟩
  have HC := Lib.hid (compact_all (ms l) g cap W hsy hroomW (by rw [ms_len]; omega) (by rw [ms_len]; exact hcap))
  rw [ms_len] at HC
  clear HS hH hH2 hsy hroomW hroom
  go_wp2_with fail
  refine HC.out.mono ?_
  rintro e w2 ⟨rfl, hsy2, hg2⟩
  have hfin : OrdS l (.slice (some ⟨g, 0, none⟩) (uniq (ms l)).length cap) w2 := ⟨_, _, rfl, .inr ⟨g, rfl, hsy2⟩⟩
  have hgf : V.grownBy w2 (some g) := World.grownBy.trans hgr hg2
  clear HC hsy2 hg2 hgr
  go_wp2_with fail
  go_ret
  exact ⟨⟨_, rfl, hfin⟩, hgf⟩
theorem ordS_put : ∀ l v (V : World) D o o', V.heap[D]? = some o → o.isCells = false → OrdS l v V → OrdS l v (V.putObj D o') := by
  intro l v V D o o' hD ho h
  obtain ⟨p, c, hv, h⟩ := h
  exact ⟨p, c, hv, h.imp id fun ⟨g, hp, hs⟩ => ⟨g, hp, hs.kept fun b i u hc => (KL.put (L := []) o' hD ho (Nat.lt_succ_self D)).2.1 b i u (by simp) hc⟩⟩
end Go.Proofs.YtngdieldgnlogaaDoor
