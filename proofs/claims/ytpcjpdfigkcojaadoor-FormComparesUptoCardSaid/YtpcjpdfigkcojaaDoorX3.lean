/- Same of the reference, both comparisons of terms, and FormCompares. -/
import Derived.Test.YtpcjpdfigkcojaaDoorX2
import Derived.Test.YtpcjpdfigkcojaaDoorD8
namespace Go.Proofs.YtpcjpdfigkcojaaDoor
open Go Go.RowKit
set_option maxRecDepth 100000
set_option linter.unusedVariables false
theorem refSame_any (f : FT) (v : Value) (g : FT) (v' : Value) (w : World) (hv : FVal w f v) (hv' : FVal w g v') (hs : f.size ≤ 1000000) (hs' : g.size ≤ 1000000) :
    Calls Tryd.prog 35 #[v, v'] w fun e w' => e = .returned (.bool (cmpForm f g == 0)) ∧ Below w.heap.size w w' := by
  have HC := refForm_any f
  obtain ⟨q, hq⟩ : ∃ q, cmpForm f g = q := ⟨_, rfl⟩
  rw [hq]
  obtain ⟨sa, ss, rfl, ha, hss⟩ := id hv
  obtain ⟨pa, ca, rfl, -⟩ := id ha
  obtain ⟨p, c, rfl, -⟩ := id hss
  obtain ⟨sb, st, rfl, hb, hst'⟩ := id hv'
  obtain ⟨pb, cb, rfl, -⟩ := id hb
  obtain ⟨pt, ct, rfl, -⟩ := id hst'
  have hbl := bel_step (bel_laid w (.cells #[.int .u8 f.op, .string f.n, .slice pa f.ts.len ca, .slice p f.sub.len c] 27)) (bel_laid (w.alloc (.cells #[.int .u8 f.op, .string f.n, .slice pa f.ts.len ca, .slice p f.sub.len c] 27)) (.cells #[.int .u8 g.op, .string g.n, .slice pb g.ts.len cb, .slice pt g.sub.len ct] 27))
  have HC' := Lib.hid (HC _ g _ _ (FVal.below hbl hv) (FVal.below hbl hv') hs hs')
  rw [hq] at HC'
  clear HC ha hss hb hst' hv hv' hq
  go_enter Tryd.func35, Tryd.ntmps35
  go_wp2_with fail
  refine HC'.out.mono ?_
  rintro e w2 ⟨rfl, hb3⟩
  have hfin := bel_step hbl hb3
  clear hbl hb3 HC'
  go_wp2_with fail
  go_ret
  exact ⟨rfl, hfin⟩
theorem sameTerm36_any (ts : Ts) (v : Bool) (n : ByteArray) (sa : Value) (v' : Bool) (n' : ByteArray) (ts' : Ts) (sb : Value) (w : World) (ha : TSl w ts sa) (hb : TSl w ts' sb) (hs : ts.size ≤ 1000000) (hs' : ts'.size ≤ 1000000) :
    Calls Tryd.prog 36 #[.agg #[.bool v, .string n, sa], .agg #[.bool v', .string n', sb]] w fun e w' => e = .returned (.bool (cmpTerm v n ts v' n' ts' == 0)) ∧ Below w.heap.size w w' := by
  have HC := cmpTerm_any ts v n
  obtain ⟨q, hq⟩ : ∃ q, cmpTerm v n ts v' n' ts' = q := ⟨_, rfl⟩
  rw [hq]
  obtain ⟨pa, ca, rfl, -⟩ := id ha
  obtain ⟨pb, cb, rfl, -⟩ := id hb
  have hbl := bel_step (bel_laid w (.cells #[.bool v, .string n, .slice pa ts.len ca] 50)) (bel_laid (w.alloc (.cells #[.bool v, .string n, .slice pa ts.len ca] 50)) (.cells #[.bool v', .string n', .slice pb ts'.len cb] 50))
  have HC' := Lib.hid (HC _ v' n' ts' _ _ (TSl.below hbl ha) (TSl.below hbl hb) hs hs')
  rw [hq] at HC'
  clear HC ha hb hq
  go_enter Tryd.func36, Tryd.ntmps36
  go_wp2_with fail
  refine HC'.out.mono ?_
  rintro e w2 ⟨rfl, hb3⟩
  have hfin := bel_step hbl hb3
  clear hbl hb3 HC'
  go_wp2_with fail
  go_ret
  exact ⟨rfl, hfin⟩
theorem sameTerm37_any (ts : Ts) (v : Bool) (n : ByteArray) (sa : Value) (v' : Bool) (n' : ByteArray) (ts' : Ts) (sb : Value) (w : World) (ha : TSl w ts sa) (hb : TSl w ts' sb) (hs : ts.size ≤ 1000000) (hs' : ts'.size ≤ 1000000) :
    Calls Tryd.prog 37 #[.agg #[.bool v, .string n, sa], .agg #[.bool v', .string n', sb]] w fun e w' => e = .returned (.bool (cmpTerm v n ts v' n' ts' == 0)) ∧ Below w.heap.size w w' := by
  have HC := refTerm_any ts v n
  obtain ⟨q, hq⟩ : ∃ q, cmpTerm v n ts v' n' ts' = q := ⟨_, rfl⟩
  rw [hq]
  obtain ⟨pa, ca, rfl, -⟩ := id ha
  obtain ⟨pb, cb, rfl, -⟩ := id hb
  have hbl := bel_step (bel_laid w (.cells #[.bool v, .string n, .slice pa ts.len ca] 50)) (bel_laid (w.alloc (.cells #[.bool v, .string n, .slice pa ts.len ca] 50)) (.cells #[.bool v', .string n', .slice pb ts'.len cb] 50))
  have HC' := Lib.hid (HC _ v' n' ts' _ _ (TSl.below hbl ha) (TSl.below hbl hb) hs hs')
  rw [hq] at HC'
  clear HC ha hb hq
  go_enter Tryd.func37, Tryd.ntmps37
  go_wp2_with fail
  refine HC'.out.mono ?_
  rintro e w2 ⟨rfl, hb3⟩
  have hfin := bel_step hbl hb3
  clear hbl hb3 HC'
  go_wp2_with fail
  go_ret
  exact ⟨rfl, hfin⟩
end Go.Proofs.YtpcjpdfigkcojaaDoor
