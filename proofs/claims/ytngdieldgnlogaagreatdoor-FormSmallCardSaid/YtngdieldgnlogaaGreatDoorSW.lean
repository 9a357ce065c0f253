/- Schema. -/
import Derived.Test.YtngdieldgnlogaaGreatDoorMR
namespace Go.Proofs.YtngdieldgnlogaaGreatDoor
open Go Go.RowKit
set_option maxRecDepth 100000
set_option linter.unusedVariables false
set_option maxHeartbeats 1000000 in
theorem schema_any (f:FT) (hs:f.size≤1000000) (v:Value) (w:World) (hrw:Rws w) (hv:FVal w f v) :
  Calls Tryz.prog 17 #[v] w fun e w'=>e=.returned (.bool (f.fits && f.right true))∧Below w.heap.size w w':=by
 obtain⟨sa,ss,rfl,ha,hss⟩:=id hv
 obtain⟨pa,ca,hsa,-⟩:=id ha
 obtain⟨p,c,hsb,-⟩:=id hss
 subst hsa hsb
 have hst:=FS.start (t:=25) hv
 have HW:=h_X (fits_any f hs)
 have HR:=h_X (rightForm_any f true)
 clear ha hss hv
 cases hf:f.fits with
 | true =>
  rw[hf] at HW
  rw[Bool.true_and]
  clear hf
  generalize f.right true=r at HR ⊢
  go_enter Tryz.func17,Tryz.ntmps17
  go_wp2_with fail
  refine(HW.out _ _ hst.val).mono ?_
  rintro e W2 ⟨rfl,hb⟩
  have hrw2:=(hrw.of (bel_laid w _)).of hb
  have hS:=hst.next hb
  clear hst hb
  generalize w.heap.size=g at hS ⊢
  have hS':=hS
  obtain⟨b0,b1,b2,b3,-⟩:=hS'
  go_wp2_with fail
  refine(HR.out _ _ hrw2 hS.val hs).mono ?_
  rintro e W3 ⟨rfl,hb⟩
  have hS3:=(hS.next hb).2.2.2.2.1
  clear hS hb b0 b1 b2 b3
  go_wp2_with fail
  go_ret
  exact⟨rfl,hS3⟩
 | false =>
  rw[hf] at HW
  rw[Bool.false_and]
  clear hf
  go_enter Tryz.func17,Tryz.ntmps17
  go_wp2_with fail
  refine(HW.out _ _ hst.val).mono ?_
  rintro e W2 ⟨rfl,hb⟩
  have hS3:=(hst.next hb).2.2.2.2.1
  clear hst hb
  go_wp2_with fail
  go_ret
  exact⟨rfl,hS3⟩
end Go.Proofs.YtngdieldgnlogaaGreatDoor
