/- The walk of FormCompares. -/
import Derived.Test.YtpcjpdfigkcojaaDoorX4
namespace Go.Proofs.YtpcjpdfigkcojaaDoor
open Go Go.RowKit
set_option maxRecDepth 100000
set_option linter.unusedVariables false
set_option maxHeartbeats 4000000 in
theorem formCompares_walk (f g : FT) (va vb : Value) (w : World) (hrw : Rws w) (hva : FVal w f va) (hvb : FVal w g vb) (hwt : f.wt + g.wt ≤ 1500000) :
    Calls Tryd.prog 4 #[va, vb] w fun e w' => e = .returned (.bool true) ∧ Below w.heap.size w w' := by
  have HA := Lib.hid (fun V hr => awake_any V hr)
  have hrwh := Lib.hid hrw
  clear hrw
  obtain ⟨sa, ua, rfl, ha, hua⟩ := id hva
  obtain ⟨sb, ub, rfl, hb, hub⟩ := id hvb
  obtain ⟨pa, ca, rfl, -⟩ := id ha
  obtain ⟨pb, cb, rfl, -⟩ := id hb
  obtain ⟨qa, da, rfl, -⟩ := id hua
  obtain ⟨qb, db, rfl, -⟩ := id hub
  clear ha hb hua hub
  have e1 := bel_laid w (.cells #[.int .u8 f.op, .string f.n, .slice pa f.ts.len ca, .slice qa f.sub.len da] 27)
  have e2 := bel_laid (w.alloc (.cells #[.int .u8 f.op, .string f.n, .slice pa f.ts.len ca, .slice qa f.sub.len da] 27)) (.cells #[.int .u8 g.op, .string g.n, .slice pb g.ts.len cb, .slice qb g.sub.len db] 27)
  have k1 := (FS.start (t := 27) hva).next e2
  have k2 := FS.start (t := 27) (FVal.below e1 hvb)
  rw [World.size_alloc] at k2
  have e12 := bel_step e1 e2
  have b5 := bel_laid ((w.alloc (.cells #[.int .u8 f.op, .string f.n, .slice pa f.ts.len ca, .slice qa f.sub.len da] 27)).alloc (.cells #[.int .u8 g.op, .string g.n, .slice pb g.ts.len cb, .slice qb g.sub.len db] 27)) (.cells #[.int .u8 f.op, .string f.n, .slice pa f.ts.len ca, .slice qa f.sub.len da, .int .u8 g.op, .string g.n, .slice pb g.ts.len cb, .slice qb g.sub.len db] 27)
  have hsl : FSl (((w.alloc (.cells #[.int .u8 f.op, .string f.n, .slice pa f.ts.len ca, .slice qa f.sub.len da] 27)).alloc (.cells #[.int .u8 g.op, .string g.n, .slice pb g.ts.len cb, .slice qb g.sub.len db] 27)).alloc (.cells #[.int .u8 f.op, .string f.n, .slice pa f.ts.len ca, .slice qa f.sub.len da, .int .u8 g.op, .string g.n, .slice pb g.ts.len cb, .slice qb g.sub.len db] 27)) (.cons f.op f.n f.ts f.sub (.cons g.op g.n g.ts g.sub .nil)) (.slice (some ⟨(((w.alloc (.cells #[.int .u8 f.op, .string f.n, .slice pa f.ts.len ca, .slice qa f.sub.len da] 27)).alloc (.cells #[.int .u8 g.op, .string g.n, .slice pb g.ts.len cb, .slice qb g.sub.len db] 27))).heap.size, 0, none⟩) 2 2) := by
    have cN := fun i => cell_new ((w.alloc (.cells #[.int .u8 f.op, .string f.n, .slice pa f.ts.len ca, .slice qa f.sub.len da] 27)).alloc (.cells #[.int .u8 g.op, .string g.n, .slice pb g.ts.len cb, .slice qb g.sub.len db] 27)) #[.int .u8 f.op, .string f.n, .slice pa f.ts.len ca, .slice qa f.sub.len da, .int .u8 g.op, .string g.n, .slice pb g.ts.len cb, .slice qb g.sub.len db] 27 i
    have t1 := k1.2.2.2.2.2
    have t2 := k2.2.2.2.2.2
    exact ⟨_, _, rfl, .inr ⟨_, _, rfl, cN 0, cN 1, ⟨_, cN 2, TSl.below b5 t1.1⟩, ⟨_, cN 3, FSl.below b5 t1.2⟩, cN 4, cN 5, ⟨_, cN 6, TSl.below b5 t2.1⟩, ⟨_, cN 7, FSl.below b5 t2.2⟩, trivial⟩⟩
  rw [World.size_alloc, World.size_alloc] at hsl
  have j1 := Lib.hid (k1.next b5)
  have j2 := Lib.hid (k2.next b5)
  have hslh := Lib.hid hsl
  have hb05 := Lib.hid (bel_step e12 b5)
  clear k1 k2 e1 e2 e12 b5 hsl hva hvb
  go_enter Tryd.func4, Tryd.ntmps4
  go_wp2_with fail
  have hsl2 := hslh.out
  refine (small_any _ _ _ hsl2 (by simp only [FT.wt] at hwt; simp only [Fs.wt]; omega)).mono ?_
  rintro e w6 ⟨rfl, hb6⟩
  have hw6 := Lib.hid (bel_step hb05.out hb6)
  have m1 := j1.out.next hb6
  have m2 := j2.out.next hb6
  clear hsl2 hslh hb6 j1 j2 hb05
  cases hsm : Fs.small (.cons f.op f.n f.ts f.sub (.cons g.op g.n g.ts g.sub .nil))
  · clear m1 m2
    go_wp2_with fail
    refine (HA.out _ (hrwh.out.of hw6.out)).mono ?_
    rintro e w7 ⟨rfl, hb7⟩
    have hfin := bel_step hw6.out hb7
    clear hb7 HA hrwh hw6
    go_wp2_with fail
    go_ret
    exact ⟨rfl, hfin⟩
  have hsz := Fs.small_size hsm
  simp only [Fs.size] at hsz
  have s1 : f.size ≤ 1000000 := by simp only [FT.size]; omega
  have s2 : g.size ≤ 1000000 := by simp only [FT.size]; omega
  have HC := Lib.hid (compares_any f g _ _ w6 m1.val m2.val s1 s2)
  obtain ⟨c10, c11, c12, c13, -⟩ := m1
  obtain ⟨c20, c21, c22, c23, -⟩ := m2
  clear hsm hsz s1 s2 hwt
  go_wp2_with fail
  refine HC.out.mono ?_
  rintro e w7 ⟨rfl, hb7⟩
  have hw7 := Lib.hid (bel_step hw6.out hb7)
  clear hb7 HC hw6 c10 c11 c12 c13 c20 c21 c22 c23
  go_wp2_with fail
  refine (HA.out _ (hrwh.out.of hw7.out)).mono ?_
  rintro e w8 ⟨rfl, hb8⟩
  have hfin := bel_step hw7.out hb8
  clear hb8 HA hrwh hw7
  go_wp2_with fail
  go_ret
  exact ⟨rfl, hfin⟩
end Go.Proofs.YtpcjpdfigkcojaaDoor
