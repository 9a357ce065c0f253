/- The walk of FormAsks, for every formula. -/
import Derived.Test.YtngdieldgnlogaaGreatDoorAC
import Derived.Test.YtngdieldgnlogaaGreatDoorA1
import Derived.Test.YtngdieldgnlogaaGreatDoorQD
namespace Go.Proofs.YtngdieldgnlogaaGreatDoor
open Go Go.RowKit
set_option maxRecDepth 100000
set_option linter.unusedVariables false
theorem one_listP {f : FT} {p q : Option Addr} {a b : Nat} {W : World} (hv : FVal W f (fval f (.slice p f.ts.len a) (.slice q f.sub.len b))) (t : TypeId) :
    FSl (W.alloc (.cells #[.int .u8 f.op, .string f.n, .slice p f.ts.len a, .slice q f.sub.len b] t)) (.cons f.op f.n f.ts f.sub .nil) (.slice (some ⟨W.heap.size, 0, none⟩) 1 1) := by
  have cN := fun i => cell_new W #[.int .u8 f.op, .string f.n, .slice p f.ts.len a, .slice q f.sub.len b] t i
  have b5 := bel_laid W (.cells #[.int .u8 f.op, .string f.n, .slice p f.ts.len a, .slice q f.sub.len b] t)
  obtain ⟨_, _, e, t1, t2⟩ := hv
  simp at e
  obtain ⟨rfl, rfl⟩ := e
  exact ⟨_, _, rfl, .inr ⟨_, _, rfl, cN 0, cN 1, ⟨_, cN 2, TSl.below b5 t1⟩, ⟨_, cN 3, FSl.below b5 t2⟩, trivial⟩⟩
set_option maxHeartbeats 4000000 in
theorem formAsks_all (f : FT) (va : Value) (w : World) (hrw : Rws w) (hva : FVal w f va) (hwt : f.wt ≤ 1500000) (hop : ∀ p ∈ f.parts, 0 ≤ p.op) :
    Calls Tryz.prog 3 #[va] w fun e w' => e = .returned (.bool true) ∧ Below w.heap.size w w' := by
  have HA := Lib.hid (fun V hr => awake_any V hr)
  have hrwh := Lib.hid hrw
  have hoph := Lib.hid hop
  clear hrw hop
  obtain ⟨sa, ua, rfl, ha, hua⟩ := id hva
  obtain ⟨pa, ca, rfl, -⟩ := id ha
  obtain ⟨qa, da, rfl, -⟩ := id hua
  clear ha hua
  have hst := FS.start (t := 25) hva
  have k1h := Lib.hid hst
  obtain ⟨W1, hW1⟩ : ∃ W1, w.alloc (.cells #[.int .u8 f.op, .string f.n, .slice pa f.ts.len ca, .slice qa f.sub.len da] 25) = W1 := ⟨_, rfl⟩
  rw [hW1] at k1h
  obtain ⟨g, hg⟩ : ∃ g, w.heap.size = g := ⟨_, rfl⟩
  rw [hg] at k1h
  clear hst hva
  obtain ⟨c10, c11, c12, c13, -⟩ := k1h.out
  go_enter Tryz.func3, Tryz.ntmps3
  go_wp2_with fail
  refine (small_any _ _ _ (one_listP k1h.out.val 25) (by simp only [FT.wt] at hwt; simp only [Fs.wt]; omega)).mono ?_
  rintro e w4 ⟨rfl, hb4⟩
  have k1h := Lib.hid (k1h.out.next (bel_step (bel_laid W1 _) hb4))
  clear hb4 c10 c11 c12 c13 hg hW1
  cases hsm : Fs.small (.cons f.op f.n f.ts f.sub .nil)
  · have hAw := Lib.hid (HA.out w4 (hrwh.out.of k1h.out.2.2.2.2.1))
    go_wp2_with fail
    refine hAw.out.mono ?_
    rintro e w5 ⟨rfl, hb5⟩
    have hfin := Lib.hid (bel_step k1h.out.2.2.2.2.1 hb5)
    clear hb5 hAw
    go_wp2_with fail
    go_ret
    exact ⟨rfl, hfin.out⟩
  have hsz := Fs.small_size hsm
  simp only [Fs.size] at hsz
  have hfz : f.size = f.ts.size + f.sub.size + 1 := rfl
  have HP := Lib.hid (asks_any f _ w4 (hrwh.out.of k1h.out.2.2.2.2.1) k1h.out.val (by omega) (by omega) hoph.out)
  clear hsm hsz hfz hwt
  obtain ⟨c10, c11, c12, c13, -⟩ := k1h.out
  go_wp2_with fail
  refine HP.out.mono ?_
  rintro e w5 ⟨rfl, hb5⟩
  have hb05 := Lib.hid (bel_step k1h.out.2.2.2.2.1 hb5)
  have hAw := Lib.hid (HA.out w5 (hrwh.out.of hb05.out))
  clear hb5 HP c10 c11 c12 c13 HA
  go_wp2_with fail
  refine hAw.out.mono ?_
  rintro e w6 ⟨rfl, hb6⟩
  have hfin := Lib.hid (bel_step hb05.out hb6)
  clear hb6 hAw
  go_wp2_with fail
  go_ret
  exact ⟨rfl, hfin.out⟩
end Go.Proofs.YtngdieldgnlogaaGreatDoor
