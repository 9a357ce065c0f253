/- The walk of FormSmall, given the law's shapes. -/
import Derived.Test.YtngdieldgnlogaaGreatDoorAH
import Derived.Test.YtngdieldgnlogaaGreatDoorMM
namespace Go.Proofs.YtngdieldgnlogaaGreatDoor
set_option linter.unusedSimpArgs false
open Go Go.RowKit
set_option maxRecDepth 100000
set_option linter.unusedVariables false
set_option maxHeartbeats 16000000 in
theorem formSmall_walk (HS:∀ V:World,Rws V→Calls Tryz.prog 9 #[] V fun e w'=>e=.returned (.bool true)∧Below V.heap.size V w') (w:World) (hrw:Rws w) :
  Calls Tryz.prog 4 #[] w fun e w'=>e=.returned (.bool true)∧Below w.heap.size w w':=by
 have hrwh:=h_X hrw
 have HSh:=h_X HS
 clear hrw HS
 go_enter Tryz.func4,Tryz.ntmps4
 go_wp2_with fail
 go_loopw [2] (fun i wr=>∃ k:Nat,i=.int .i64 (k:Int)∧k≤4913∧Below w.heap.size w wr) (fun i _=>4913 - (intOf i).toNat)
 case atStart=>exact⟨0,rfl,Nat.zero_le _,Below.refl _ _⟩
 case round =>
  obtain⟨k,rfl,hk0,hbw⟩:=hrel
  have hbwh:=h_X hbw
  clear hbw
  by_cases hk:k < 4913
  ·have hki:(k:Int) < 4913:=by omega
   have hkw:IntKind.i64.wrap ((k:Int)+1)=(k:Int)+1:=IntWalk.i64_in _ (by omega)
   go_wp2_with fail
   go_loopw [3,4,5] (fun s j n wr=>∃ (q:Nat) (b:ByteArray) (m:Nat),j=.int .i64 (q:Int)∧q≤3∧s=.string b∧b.size≤q∧n=.int .i64 (m:Int)∧m≤4913∧Below w.heap.size w wr) (fun _ j _ _=>3 - (intOf j).toNat)
   case atStart=>exact⟨0,⟨#[]⟩,k,rfl,by omega,rfl,Nat.le_refl _,rfl,hk0,hbwh.out⟩
   case round =>
    obtain⟨q,b,m,rfl,hq3,rfl,hbs,rfl,hm,hbw⟩:=hrel
    clear hbwh
    have hbwh:=h_X hbw
    clear hbw
    by_cases hq:q < 3
    ·have hqi:(q:Int) < 3:=by omega
     have hqw:IntKind.i64.wrap ((q:Int)+1)=(q:Int)+1:=IntWalk.i64_in _ (by omega)
     have hrm:(m:Int).tmod 17=((m%17:Nat):Int):=by rw[Int.tmod_eq_emod_of_nonneg (by omega)];omega
     have hdv:(m:Int).tdiv 17=((m/17:Nat):Int):=by rw[Int.tdiv_eq_ediv_of_nonneg (by omega)];omega
     by_cases hr:m%17 < 16
     ·have hri:((m%17:Nat):Int) < 16:=by omega
      go_wp2_with fail
      refine⟨⟨q+1,_,m/17,rfl,by omega,rfl,?_,by rw[show ((m/17:Nat):Int)=(m:Int)/17 by omega],by omega,hbwh.out⟩,by simp[intOf];omega⟩
      rw[ByteArray.size_append,ByteArray.size_extract]
      omega
     ·have hri:¬ ((m%17:Nat):Int) < 16:=by omega
      go_wp2
      exact⟨⟨q+1,_,m/17,rfl,by omega,rfl,by omega,by rw[show ((m/17:Nat):Int)=(m:Int)/17 by omega],by omega,hbwh.out⟩,by simp[intOf];omega⟩
    ·have hqi:¬ (q:Int) < 3:=by omega
     have HN:=h_X (names_any b wr (by omega))
     go_wp2_with fail
     refine HN.out.mono ?_
     rintro e w2 ⟨rfl,hb2⟩
     have hbz:=h_X (bS hbwh.out hb2)
     clear HN hb2
     go_wp2
     go_roundw
     case rel=>exact⟨k+1,rfl,by omega,hbz.out⟩
     case measure=>simp[intOf];omega
  ·have hki:¬ (k:Int) < 4913:=by omega
   go_wp2_with fail
   obtain⟨W2,hW2⟩:∃ W2,W2=wr.alloc (.cells #[.string ⟨#[97,108,108]⟩,.string ⟨#[115,111,109,101]⟩,.string ⟨#[102,97,108,115,101]⟩,.string ⟨#[110,101,120,116]⟩,.string ⟨#[97,108,119,97,121,115]⟩,.string ⟨#[117,110,116,105,108]⟩,.string ⟨#[97,108,108,115]⟩,.string ⟨#[65,108,108]⟩,.string ⟨#[63,97,108,108]⟩,.string ⟨#[63,65,108,108]⟩,.string ⟨#[63,102,97,108,115,101]⟩,.string ⟨#[120,110,101,120,116]⟩,.string ⟨#[117,49,50,51,52,53,54,55,56,57,48,49,50,51,52,53,54]⟩,.string ⟨#[117,49,50,51,52,53,54,55,56,57,48,49,50,51,52,53,54,55]⟩,.string ⟨#[97,50,51,52,53,54,55,56,57,48,49,50,51,52,53,54]⟩,.string ⟨#[97,50,51,52,53,54,55,56,57,48,49,50,51,52,53,54,55]⟩,.string ⟨#[63,65,51,52,53,54,55,56,57,48,49,50,51,52,53,54]⟩,.string ⟨#[63,65,51,52,53,54,55,56,57,48,49,50,51,52,53,54,55]⟩,.string ⟨#[195,169]⟩,.string ⟨#[97,128]⟩] 9):=⟨_,rfl⟩
   have hcell:=h_X (show ∀ i,i < 20→∃ s,W2.cell? ⟨wr.heap.size,i,none⟩=some (.string s)∧s.size≤100 from fun i hi=>by
    rw[hW2,cell_new]
    rcases(by omega:i=0∨i=1∨i=2∨i=3∨i=4∨i=5∨i=6∨i=7∨i=8∨i=9∨i=10∨i=11∨i=12∨i=13∨i=14∨i=15∨i=16∨i=17∨i=18∨i=19) with rfl | rfl | rfl | rfl | rfl | rfl | rfl | rfl | rfl | rfl | rfl | rfl | rfl | rfl | rfl | rfl | rfl | rfl | rfl | rfl
    all_goals exact⟨_,rfl,by decide⟩)
   have hb2:=h_X (show Below w.heap.size w W2 from hW2 ▸ bS hbwh.out (bel_laid wr _))
   rw[←hW2]
   obtain⟨g,hg⟩:∃ g,wr.heap.size=g:=⟨_,rfl⟩
   rw[hg] at hcell ⊢
   clear hW2 hg hbwh
   go_loopw [7] (fun i wr=>∃ k:Nat,i=.int .i64 (k:Int)∧k≤20∧Below W2.heap.size W2 wr) (fun i _=>20 - (intOf i).toNat)
   case atStart=>exact⟨0,rfl,Nat.zero_le _,Below.refl _ _⟩
   case round =>
    obtain⟨i,rfl,hi0,hbw⟩:=hrel
    have hbwh:=h_X hbw
    by_cases hi:i < 20
    ·have hii:(i:Int) < 20:=by omega
     have hi1:(0:Int)≤(i:Int):=by omega
     have hiw:IntKind.i64.wrap ((i:Int)+1)=(i:Int)+1:=IntWalk.i64_in _ (by omega)
     obtain⟨s,hs,hss⟩:=hcell.out i hi
     replace hs:=c_B hbw hs
     have HN:=h_X (names_any s wr (by omega))
     clear hbw
     go_wp2_with fail
     refine HN.out.mono ?_
     rintro e w3 ⟨rfl,hb3⟩
     have hbz:=h_X (bS hbwh.out hb3)
     clear HN hb3 hs
     go_wp2
     go_roundw
     case rel=>exact⟨i+1,rfl,by omega,hbz.out⟩
     case measure=>simp[intOf];omega
    ·have hii:¬ (i:Int) < 20:=by omega
     clear hbw
     go_wp2_with fail
     refine(HSh.out wr (hrwh.out.of (bS hb2.out hbwh.out))).mono ?_
     rintro e w4 ⟨rfl,hb4⟩
     have hbz:=h_X (bS (bS hb2.out hbwh.out) hb4)
     clear hb4 hbwh
     go_wp2_with fail
     refine(limits_any w4 (hrwh.out.of hbz.out)).mono ?_
     rintro e w5 ⟨rfl,hb5⟩
     have hbz:=h_X (bS hbz.out hb5)
     clear hb5
     go_wp2_with fail
     refine(awake_any w5 (hrwh.out.of hbz.out)).mono ?_
     rintro e w6 ⟨rfl,hb6⟩
     have hbz:=h_X (bS hbz.out hb6)
     clear hb6
     go_wp2_with fail
     go_ret
     exact⟨rfl,hbz.out⟩
end Go.Proofs.YtngdieldgnlogaaGreatDoor
