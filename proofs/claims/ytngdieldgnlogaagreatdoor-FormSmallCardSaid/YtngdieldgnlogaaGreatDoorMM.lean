/- The reference's names, and that they are the same. The reference's names are the program's. The reference's functions about names; names. -/
import Derived.Test.YtngdieldgnlogaaGreatDoorMN
namespace Go.Proofs.YtngdieldgnlogaaGreatDoor
open Go Go.RowKit
set_option maxRecDepth 100000
set_option linter.unusedVariables false
def inI (lo hi c:Int):Bool:=decide (lo≤c) && decide (c≤hi)
theorem in_any (c lo hi:Int) (w:World):Calls Tryz.prog 90 #[.int .u8 c,.int .u8 lo,.int .u8 hi] w fun e w'=>e=.returned (.bool (inI lo hi c))∧w=w':=by
 by_cases h1:lo≤c
 ·by_cases h2:c≤hi
  ·have e:inI lo hi c=true:=by simp[inI,h1,h2]
   rw[e]
   clear e
   go_enter Tryz.func90,Tryz.ntmps90
   go_wp2
   go_ret
   exact⟨rfl,rfl⟩
  ·have e:inI lo hi c=false:=by simp[inI,h2]
   rw[e]
   clear e
   go_enter Tryz.func90,Tryz.ntmps90
   go_wp2
   go_ret
   exact⟨rfl,rfl⟩
 ·have e:inI lo hi c=false:=by simp[inI,h1]
  rw[e]
  clear e
  go_enter Tryz.func90,Tryz.ntmps90
  go_wp2
  go_ret
  exact⟨rfl,rfl⟩
def lettersB (rest:Int→Bool) (s:ByteArray):Bool:=allFrom rest s (s.size - 1) 1 && decide (0 < s.size) && decide (s.size≤16)
set_option maxHeartbeats 2000000 in
theorem lettersD_any (s:ByteArray) (w:World) (hm:s.size≤9223372036854775807):Calls Tryz.prog 89 #[.string s,.bool true] w fun e w'=>e=.returned (.bool (lettersB digitI s))∧w=w':=by
 obtain⟨rr,hrr⟩:∃ rr,lettersB digitI s=rr:=⟨_,rfl⟩
 rw[hrr]
 replace hrr:=h_X hrr
 go_enter Tryz.func89,Tryz.ntmps89
 go_wp2_with fail
 go_loopw [5] (fun i wr=>∃ k:Nat,1≤k∧(k≤s.size∨s.size=0∧k=1)∧i=.int .i64 k∧allFrom digitI s (k - 1) 1=true∧w=wr) (fun i _=>s.size - (intOf i).toNat)
 case atStart=>exact⟨1,Nat.le_refl _,by omega,rfl,rfl,rfl⟩
 case round =>
  obtain⟨k,hk1,hk2,rfl,hall,rfl⟩:=hrel
  replace hall:=h_X hall
  by_cases hlt:k < s.size
  ·have hlt':(k:Int) < (s.size:Int):=by omega
   have ek:=byteI_lt s k hlt
   have hsp:=h_X (allFrom_split digitI s (s.size - 1) 1 (k - 1) (by omega))
   have hnext:digitI (byteI s k)=true→allFrom digitI s (k+1 - 1) 1=true:=fun hd=>by
    have h3:=allFrom_split digitI s k 1 (k - 1) (by omega)
    rw[show k+1 - 1=k by omega,h3,hall.out,show k - (k - 1)=0+1 by omega,show 1+(k - 1)=k by omega]
    simp[allFrom,hd]
   have hbad:digitI (byteI s k)=false→rr=false:=fun hd=>by
    rw[←hrr.out,lettersB,hsp.out,hall.out,show s.size - 1 - (k - 1)=(s.size - 1 - k)+1 by omega,show 1+(k - 1)=k by omega]
    simp[allFrom,hd]
   replace hnext:=h_X hnext
   replace hbad:=h_X hbad
   have hdef:digitI (byteI s k)=inI 48 57 (byteI s k):=rfl
   replace hdef:=h_X hdef
   have I1:=h_X (in_any (byteI s k) 48 57)
   have I2:=h_X (in_any (byteI s k) 65 90)
   have I3:=h_X (in_any (byteI s k) 97 122)
   cases q1:inI 48 57 (byteI s k) with
   | true =>
    have Q1:=h_X q1
    rw[q1] at I1
    clear q1
    go_wp2_with (first
     | (go_at_call 90;with_reducible refine(I1.out _).mono ?_;rintro e w' ⟨rfl,rfl⟩)
     | (go_at_call 90;with_reducible refine(I2.out _).mono ?_;rintro e w' ⟨rfl,rfl⟩)
     | (go_at_call 90;with_reducible refine(I3.out _).mono ?_;rintro e w' ⟨rfl,rfl⟩))
    go_roundw
    case rel=>exact⟨k+1,by omega,by omega,by go_num,hnext.out (by rw[hdef.out];simp[Q1.out]),trivial⟩
    case measure=>simp[intOf];omega
   | false =>
    have Q1:=h_X q1
    rw[q1] at I1
    clear q1
    have:rr=false:=hbad.out (by rw[hdef.out];simp[Q1.out])
    subst this
    go_wp2_with (first
     | (go_at_call 90;with_reducible refine(I1.out _).mono ?_;rintro e w' ⟨rfl,rfl⟩)
     | (go_at_call 90;with_reducible refine(I2.out _).mono ?_;rintro e w' ⟨rfl,rfl⟩)
     | (go_at_call 90;with_reducible refine(I3.out _).mono ?_;rintro e w' ⟨rfl,rfl⟩))
    go_ret
    exact⟨rfl,rfl⟩
  ·have hge:(s.size:Int)≤(k:Int):=by omega
   by_cases hz:0 < s.size
   ·have hk:k=s.size:=by omega
    have hz':(0:Int) < (s.size:Int):=by omega
    by_cases h16:s.size≤16
    ·have h16':(s.size:Int)≤16:=by omega
     have:rr=true:=by rw[←hrr.out,lettersB,←hk,hall.out,hk];simp[hz,h16]
     subst this
     clear hrr hall
     go_wp2_with fail
     go_ret
     exact⟨rfl,rfl⟩
    ·have h16':(16:Int) < (s.size:Int):=by omega
     have h16d:decide ((s.size:Int)≤16)=false:=decide_eq_false (by omega)
     have:rr=false:=by rw[←hrr.out,lettersB];simp[h16]
     subst this
     clear hrr hall
     go_wp2_with fail
     go_ret
     exact⟨rfl,rfl⟩
   ·have hz':(s.size:Int)≤0:=by omega
    have:rr=false:=by rw[←hrr.out,lettersB];simp[hz]
    subst this
    clear hrr hall
    go_wp2_with fail
    go_ret
    exact⟨rfl,rfl⟩
set_option maxHeartbeats 2000000 in
theorem lettersL_any (s:ByteArray) (w:World) (hm:s.size≤9223372036854775807):Calls Tryz.prog 89 #[.string s,.bool false] w fun e w'=>e=.returned (.bool (lettersB letterI s))∧w=w':=by
 obtain⟨rr,hrr⟩:∃ rr,lettersB letterI s=rr:=⟨_,rfl⟩
 rw[hrr]
 replace hrr:=h_X hrr
 go_enter Tryz.func89,Tryz.ntmps89
 go_wp2_with fail
 go_loopw [5] (fun i wr=>∃ k:Nat,1≤k∧(k≤s.size∨s.size=0∧k=1)∧i=.int .i64 k∧allFrom letterI s (k - 1) 1=true∧w=wr) (fun i _=>s.size - (intOf i).toNat)
 case atStart=>exact⟨1,Nat.le_refl _,by omega,rfl,rfl,rfl⟩
 case round =>
  obtain⟨k,hk1,hk2,rfl,hall,rfl⟩:=hrel
  replace hall:=h_X hall
  by_cases hlt:k < s.size
  ·have hlt':(k:Int) < (s.size:Int):=by omega
   have ek:=byteI_lt s k hlt
   have hsp:=h_X (allFrom_split letterI s (s.size - 1) 1 (k - 1) (by omega))
   have hnext:letterI (byteI s k)=true→allFrom letterI s (k+1 - 1) 1=true:=fun hd=>by
    have h3:=allFrom_split letterI s k 1 (k - 1) (by omega)
    rw[show k+1 - 1=k by omega,h3,hall.out,show k - (k - 1)=0+1 by omega,show 1+(k - 1)=k by omega]
    simp[allFrom,hd]
   have hbad:letterI (byteI s k)=false→rr=false:=fun hd=>by
    rw[←hrr.out,lettersB,hsp.out,hall.out,show s.size - 1 - (k - 1)=(s.size - 1 - k)+1 by omega,show 1+(k - 1)=k by omega]
    simp[allFrom,hd]
   replace hnext:=h_X hnext
   replace hbad:=h_X hbad
   have hdef:letterI (byteI s k)=((inI 97 122 (byteI s k) || inI 65 90 (byteI s k)) || inI 48 57 (byteI s k)):=rfl
   replace hdef:=h_X hdef
   have I1:=h_X (in_any (byteI s k) 48 57)
   have I2:=h_X (in_any (byteI s k) 65 90)
   have I3:=h_X (in_any (byteI s k) 97 122)
   cases q1:inI 48 57 (byteI s k) with
   | true =>
    have Q1:=h_X q1
    rw[q1] at I1
    clear q1
    go_wp2_with (first
     | (go_at_call 90;with_reducible refine(I1.out _).mono ?_;rintro e w' ⟨rfl,rfl⟩)
     | (go_at_call 90;with_reducible refine(I2.out _).mono ?_;rintro e w' ⟨rfl,rfl⟩)
     | (go_at_call 90;with_reducible refine(I3.out _).mono ?_;rintro e w' ⟨rfl,rfl⟩))
    go_roundw
    case rel=>exact⟨k+1,by omega,by omega,by go_num,hnext.out (by rw[hdef.out];simp[Q1.out]),trivial⟩
    case measure=>simp[intOf];omega
   | false =>
    have Q1:=h_X q1
    rw[q1] at I1
    clear q1
    cases q2:inI 65 90 (byteI s k) with
    | true =>
     have Q2:=h_X q2
     rw[q2] at I2
     clear q2
     go_wp2_with (first
      | (go_at_call 90;with_reducible refine(I1.out _).mono ?_;rintro e w' ⟨rfl,rfl⟩)
      | (go_at_call 90;with_reducible refine(I2.out _).mono ?_;rintro e w' ⟨rfl,rfl⟩)
      | (go_at_call 90;with_reducible refine(I3.out _).mono ?_;rintro e w' ⟨rfl,rfl⟩))
     go_roundw
     case rel=>exact⟨k+1,by omega,by omega,by go_num,hnext.out (by rw[hdef.out];simp[Q1.out,Q2.out]),trivial⟩
     case measure=>simp[intOf];omega
    | false =>
     have Q2:=h_X q2
     rw[q2] at I2
     clear q2
     cases q3:inI 97 122 (byteI s k) with
     | true =>
      have Q3:=h_X q3
      rw[q3] at I3
      clear q3
      go_wp2_with (first
       | (go_at_call 90;with_reducible refine(I1.out _).mono ?_;rintro e w' ⟨rfl,rfl⟩)
       | (go_at_call 90;with_reducible refine(I2.out _).mono ?_;rintro e w' ⟨rfl,rfl⟩)
       | (go_at_call 90;with_reducible refine(I3.out _).mono ?_;rintro e w' ⟨rfl,rfl⟩))
      go_roundw
      case rel=>exact⟨k+1,by omega,by omega,by go_num,hnext.out (by rw[hdef.out];simp[Q1.out,Q2.out,Q3.out]),trivial⟩
      case measure=>simp[intOf];omega
     | false =>
      have Q3:=h_X q3
      rw[q3] at I3
      clear q3
      have:rr=false:=hbad.out (by rw[hdef.out];simp[Q1.out,Q2.out,Q3.out])
      subst this
      go_wp2_with (first
       | (go_at_call 90;with_reducible refine(I1.out _).mono ?_;rintro e w' ⟨rfl,rfl⟩)
       | (go_at_call 90;with_reducible refine(I2.out _).mono ?_;rintro e w' ⟨rfl,rfl⟩)
       | (go_at_call 90;with_reducible refine(I3.out _).mono ?_;rintro e w' ⟨rfl,rfl⟩))
      go_ret
      exact⟨rfl,rfl⟩
  ·have hge:(s.size:Int)≤(k:Int):=by omega
   by_cases hz:0 < s.size
   ·have hk:k=s.size:=by omega
    have hz':(0:Int) < (s.size:Int):=by omega
    by_cases h16:s.size≤16
    ·have h16':(s.size:Int)≤16:=by omega
     have:rr=true:=by rw[←hrr.out,lettersB,←hk,hall.out,hk];simp[hz,h16]
     subst this
     clear hrr hall
     go_wp2_with fail
     go_ret
     exact⟨rfl,rfl⟩
    ·have h16':(16:Int) < (s.size:Int):=by omega
     have h16d:decide ((s.size:Int)≤16)=false:=decide_eq_false (by omega)
     have:rr=false:=by rw[←hrr.out,lettersB];simp[h16]
     subst this
     clear hrr hall
     go_wp2_with fail
     go_ret
     exact⟨rfl,rfl⟩
   ·have hz':(s.size:Int)≤0:=by omega
    have:rr=false:=by rw[←hrr.out,lettersB];simp[hz]
    subst this
    clear hrr hall
    go_wp2_with fail
    go_ret
    exact⟨rfl,rfl⟩
end Go.Proofs.YtngdieldgnlogaaGreatDoor
namespace Go.Proofs.YtngdieldgnlogaaGreatDoor
open Go Go.RowKit
set_option maxRecDepth 100000
set_option linter.unusedVariables false
def refVar (s:ByteArray):Bool:=lettersB digitI s && inI 117 122 (byteI s 0)
def refPred (s:ByteArray):Bool:=lettersB letterI s && inI 65 90 (byteI s 0)
def isWord5 (l:List UInt8):Bool:=l == [97,108,108] || l == [115,111,109,101] || l == [102,97,108,115,101] || l == [110,101,120,116] || l == [97,108,119,97,121,115]
def refFun (s:ByteArray):Bool:=!isWord5 s.toList && (lettersB letterI s && inI 97 116 (byteI s 0))
def ofMeta (name:ByteArray→Bool) (s:ByteArray):Bool:=decide (1 < s.size) && decide (s.size≤16) && decide (byteI s 0=63) && name (s.extract 1 s.size)
theorem of_toList {s:ByteArray} {l:List UInt8} (h:(s.toList == l)=true):s=⟨⟨l⟩⟩:=by
 have h1:s.toList=l:=by simpa using h
 rw[ByteArray.toList_eq] at h1
 apply ByteArray.ext
 rw[←h1]
theorem word_cases {s:ByteArray} (h:isWordB s.toList=true):s=⟨⟨[97,108,108]⟩⟩∨s=⟨⟨[115,111,109,101]⟩⟩∨s=⟨⟨[102,97,108,115,101]⟩⟩∨s=⟨⟨[110,101,120,116]⟩⟩∨s=⟨⟨[97,108,119,97,121,115]⟩⟩∨s=⟨⟨[117,110,116,105,108]⟩⟩:=by
 unfold isWordB at h
 simp only[Bool.or_eq_true] at h
 rcases h with ((((h | h) | h) | h) | h) | h
 ·exact .inl (of_toList h)
 ·exact .inr (.inl (of_toList h))
 ·exact .inr (.inr (.inl (of_toList h)))
 ·exact .inr (.inr (.inr (.inl (of_toList h))))
 ·exact .inr (.inr (.inr (.inr (.inl (of_toList h)))))
 ·exact .inr (.inr (.inr (.inr (.inr (of_toList h)))))
theorem spelled_of (lo hi:Int) (R:Int→Bool) (s:ByteArray) (h:isWordB s.toList=false):spelled lo hi R s=(lettersB R s && inI lo hi (byteI s 0)):=by
 unfold spelled lettersB inI
 rw[h]
 cases decide (0 < s.size)<;>cases decide (s.size≤16)<;>cases decide (lo≤byteI s 0)<;>cases decide (byteI s 0≤hi)<;>cases allFrom R s (s.size - 1) 1<;>rfl
theorem spelled_word (lo hi:Int) (R:Int→Bool) (s:ByteArray) (h:isWordB s.toList=true):spelled lo hi R s=false:=by
 unfold spelled
 rw[h]
 simp
theorem var_eq (s:ByteArray):isVar s=refVar s:=by
 unfold isVar refVar
 cases h:isWordB s.toList with
 | false=>exact spelled_of _ _ _ _ h
 | true =>
  rw[spelled_word _ _ _ _ h]
  rcases word_cases h with rfl | rfl | rfl | rfl | rfl | rfl<;>decide
theorem pred_eq (s:ByteArray):isPred s=refPred s:=by
 unfold isPred refPred
 cases h:isWordB s.toList with
 | false=>exact spelled_of _ _ _ _ h
 | true =>
  rw[spelled_word _ _ _ _ h]
  rcases word_cases h with rfl | rfl | rfl | rfl | rfl | rfl<;>decide
theorem word5_of {s:ByteArray} (h:isWordB s.toList=false):isWord5 s.toList=false:=by
 unfold isWordB at h
 unfold isWord5
 simp only[Bool.or_eq_false_iff] at *
 exact h.1
theorem fun_eq (s:ByteArray):isFun s=refFun s:=by
 unfold isFun refFun
 cases h:isWordB s.toList with
 | false=>rw[spelled_of _ _ _ _ h,word5_of h];rfl
 | true =>
  rw[spelled_word _ _ _ _ h]
  rcases word_cases h with rfl | rfl | rfl | rfl | rfl | rfl<;>first | decide | (simp[isWord5,ByteArray.toList_eq];done) | (simp[isWord5,ByteArray.toList_eq];intro _;decide)
theorem marked_eq (n m:ByteArray→Bool) (h:∀ s,n s=m s) (he:∀ s:ByteArray,s.size=0→n s=false) (s:ByteArray):markedB n s=ofMeta m s:=by
 unfold markedB ofMeta
 rw[←h]
 by_cases h1:1 < s.size
 ·have h0:0 < s.size:=by omega
  simp only[decide_eq_true h1,decide_eq_true h0,Bool.true_and]
  cases decide (byteI s 0=63)<;>cases decide (s.size≤16)<;>rfl
 ·have hz:n (s.extract 1 s.size)=false:=he _ (by rw[ByteArray.size_extract];omega)
  rw[hz]
  simp
theorem spelled_empty (lo hi:Int) (R:Int→Bool) (s:ByteArray) (h:s.size=0):spelled lo hi R s=false:=by simp[spelled,h]
def refMeta (s:ByteArray):Bool:=ofMeta refPred s || ofMeta refFun s
theorem meta_eq (s:ByteArray):isMeta s=refMeta s:=by
 unfold isMeta refMeta
 rw[marked_eq isPred refPred pred_eq (fun s h=>spelled_empty _ _ _ s h),marked_eq isFun refFun fun_eq (fun s h=>spelled_empty _ _ _ s h)]
end Go.Proofs.YtngdieldgnlogaaGreatDoor
namespace Go.Proofs.YtngdieldgnlogaaGreatDoor
open Go Go.RowKit
set_option maxRecDepth 100000
set_option linter.unusedVariables false
theorem refVar_any (s:ByteArray) (w:World) (hm:s.size≤9223372036854775807):Calls Tryz.prog 43 #[.string s] w fun e w'=>e=.returned (.bool (refVar s))∧w=w':=by
 have HL:=h_X (lettersD_any s)
 have HI:=h_X (in_any (byteI s 0) 117 122)
 have hdef:refVar s=(lettersB digitI s && inI 117 122 (byteI s 0)):=rfl
 rw[hdef]
 clear hdef
 cases hq:lettersB digitI s with
 | false =>
  rw[hq] at HL
  rw[Bool.false_and]
  clear hq
  go_enter Tryz.func43,Tryz.ntmps43
  go_wp2_with (go_at_call 89;refine(HL.out _ hm).mono ?_;rintro e w1 ⟨rfl,rfl⟩)
  go_ret
  exact⟨rfl,rfl⟩
 | true =>
  have hz:0 < s.size:=by
   unfold lettersB at hq
   simp only[Bool.and_eq_true,decide_eq_true_eq] at hq
   exact hq.1.2
  have e0:=byteI_lt s 0 hz
  have hz':(0:Int) < (s.size:Int):=by omega
  rw[hq] at HL
  rw[Bool.true_and]
  clear hq
  generalize inI 117 122 (byteI s 0)=q at HI ⊢
  go_enter Tryz.func43,Tryz.ntmps43
  go_wp2_with (first
   | (go_at_call 89;refine(HL.out _ hm).mono ?_;rintro e w1 ⟨rfl,rfl⟩)
   | (go_at_call 90;refine(HI.out _).mono ?_;rintro e w2 ⟨rfl,rfl⟩))
  go_ret
  exact⟨rfl,rfl⟩
theorem refPred_any (s:ByteArray) (w:World) (hm:s.size≤9223372036854775807):Calls Tryz.prog 46 #[.string s] w fun e w'=>e=.returned (.bool (refPred s))∧w=w':=by
 have HL:=h_X (lettersL_any s)
 have HI:=h_X (in_any (byteI s 0) 65 90)
 have hdef:refPred s=(lettersB letterI s && inI 65 90 (byteI s 0)):=rfl
 rw[hdef]
 clear hdef
 cases hq:lettersB letterI s with
 | false =>
  rw[hq] at HL
  rw[Bool.false_and]
  clear hq
  go_enter Tryz.func46,Tryz.ntmps46
  go_wp2_with (go_at_call 89;refine(HL.out _ hm).mono ?_;rintro e w1 ⟨rfl,rfl⟩)
  go_ret
  exact⟨rfl,rfl⟩
 | true =>
  have hz:0 < s.size:=by
   unfold lettersB at hq
   simp only[Bool.and_eq_true,decide_eq_true_eq] at hq
   exact hq.1.2
  have e0:=byteI_lt s 0 hz
  have hz':(0:Int) < (s.size:Int):=by omega
  rw[hq] at HL
  rw[Bool.true_and]
  clear hq
  generalize inI 65 90 (byteI s 0)=q at HI ⊢
  go_enter Tryz.func46,Tryz.ntmps46
  go_wp2_with (first
   | (go_at_call 89;refine(HL.out _ hm).mono ?_;rintro e w1 ⟨rfl,rfl⟩)
   | (go_at_call 90;refine(HI.out _).mono ?_;rintro e w2 ⟨rfl,rfl⟩))
  go_ret
  exact⟨rfl,rfl⟩
set_option maxHeartbeats 2000000 in
theorem refFun_any (s:ByteArray) (w:World) (hm:s.size≤9223372036854775807):Calls Tryz.prog 44 #[.string s] w fun e w'=>e=.returned (.bool (refFun s))∧w=w':=by
 have HL:=h_X (lettersL_any s)
 have HI:=h_X (in_any (byteI s 0) 97 116)
 obtain⟨rr,hrr⟩:∃ rr,refFun s=rr:=⟨_,rfl⟩
 rw[hrr]
 replace hrr:=h_X hrr
 go_enter Tryz.func44,Tryz.ntmps44
 go_wp2_with fail
 all_goals first
  | (exfalso;simp_all;done)
  | skip
 any_goals (
  have hr:rr=false:=by rw[←hrr.out];simp[refFun,isWord5, *]
  subst hr
  go_ret
  exact⟨rfl,rfl⟩)
 have h5:isWord5 s.toList=false:=by simp[isWord5, *]
 have hrl:(lettersB letterI s && inI 97 116 (byteI s 0))=rr:=by rw[←hrr.out,refFun,h5];rfl
 clear h5 hrr
 refine(HL.out w hm).mono ?_
 rintro e w1 ⟨rfl,rfl⟩
 cases hq:lettersB letterI s with
 | false =>
  have:rr=false:=by rw[←hrl,hq];rfl
  subst this
  clear hrl hq HL HI
  go_wp2_with fail
  go_ret
  exact⟨rfl,rfl⟩
 | true =>
  have hz:0 < s.size:=by
   unfold lettersB at hq
   simp only[Bool.and_eq_true,decide_eq_true_eq] at hq
   exact hq.1.2
  have e0:=byteI_lt s 0 hz
  have hz':(0:Int) < (s.size:Int):=by omega
  have hr:inI 97 116 (byteI s 0)=rr:=by rw[←hrl,hq];rfl
  rw[hr] at HI
  clear hrl hq hr HL
  go_wp2_with (go_at_call 90;refine(HI.out _).mono ?_;rintro e w2 ⟨rfl,rfl⟩)
  go_ret
  exact⟨rfl,rfl⟩
theorem ofForms_any (s:ByteArray) (w:World) (hm:s.size≤9223372036854775807):Calls Tryz.prog 91 #[.string s] w fun e w'=>e=.returned (.bool (ofMeta refPred s))∧w=w':=by
 by_cases hz:1 < s.size
 rotate_left
 ·have hz':(s.size:Int)≤1:=by omega
  have hsp:ofMeta refPred s=false:=by simp[ofMeta,hz]
  rw[hsp]
  clear hsp
  go_enter Tryz.func91,Tryz.ntmps91
  go_wp2
  go_ret
  exact⟨rfl,rfl⟩
 have hz0:(1:Int) < (s.size:Int):=by omega
 by_cases hl:s.size≤16
 rotate_left
 ·have hl1:(16:Int) < (s.size:Int):=by omega
  have hsp:ofMeta refPred s=false:=by simp[ofMeta,hl]
  rw[hsp]
  clear hsp
  go_enter Tryz.func91,Tryz.ntmps91
  go_wp2
  go_ret
  exact⟨rfl,rfl⟩
 have hl1:(s.size:Int)≤16:=by omega
 have e0:=byteI_lt s 0 (by omega)
 by_cases hq:byteI s 0=63
 rotate_left
 ·have hm':(byteI s 0 == 63)=false:=beq_eq_false_iff_ne.2 hq
  have hsp:ofMeta refPred s=false:=by simp[ofMeta,hq]
  rw[hsp]
  clear hsp
  go_enter Tryz.func91,Tryz.ntmps91
  go_wp2
  go_ret
  exact⟨rfl,rfl⟩
 have hsp:ofMeta refPred s=refPred (s.extract 1 s.size):=by simp[ofMeta,hl,hz,hq]
 rw[hsp]
 clear hsp
 have hc:=h_X (refPred_any (s.extract 1 s.size))
 have hse:(s.extract 1 s.size).size≤9223372036854775807:=by rw[ByteArray.size_extract];omega
 go_enter Tryz.func91,Tryz.ntmps91
 go_wp2_with (go_at_call 46;refine(hc.out _ hse).mono ?_;rintro e w1 ⟨rfl,rfl⟩)
 go_ret
 exact⟨rfl,rfl⟩
theorem ofTerms_any (s:ByteArray) (w:World) (hm:s.size≤9223372036854775807):Calls Tryz.prog 92 #[.string s] w fun e w'=>e=.returned (.bool (ofMeta refFun s))∧w=w':=by
 by_cases hz:1 < s.size
 rotate_left
 ·have hz':(s.size:Int)≤1:=by omega
  have hsp:ofMeta refFun s=false:=by simp[ofMeta,hz]
  rw[hsp]
  clear hsp
  go_enter Tryz.func92,Tryz.ntmps92
  go_wp2
  go_ret
  exact⟨rfl,rfl⟩
 have hz0:(1:Int) < (s.size:Int):=by omega
 by_cases hl:s.size≤16
 rotate_left
 ·have hl1:(16:Int) < (s.size:Int):=by omega
  have hsp:ofMeta refFun s=false:=by simp[ofMeta,hl]
  rw[hsp]
  clear hsp
  go_enter Tryz.func92,Tryz.ntmps92
  go_wp2
  go_ret
  exact⟨rfl,rfl⟩
 have hl1:(s.size:Int)≤16:=by omega
 have e0:=byteI_lt s 0 (by omega)
 by_cases hq:byteI s 0=63
 rotate_left
 ·have hm':(byteI s 0 == 63)=false:=beq_eq_false_iff_ne.2 hq
  have hsp:ofMeta refFun s=false:=by simp[ofMeta,hq]
  rw[hsp]
  clear hsp
  go_enter Tryz.func92,Tryz.ntmps92
  go_wp2
  go_ret
  exact⟨rfl,rfl⟩
 have hsp:ofMeta refFun s=refFun (s.extract 1 s.size):=by simp[ofMeta,hl,hz,hq]
 rw[hsp]
 clear hsp
 have hc:=h_X (refFun_any (s.extract 1 s.size))
 have hse:(s.extract 1 s.size).size≤9223372036854775807:=by rw[ByteArray.size_extract];omega
 go_enter Tryz.func92,Tryz.ntmps92
 go_wp2_with (go_at_call 44;refine(hc.out _ hse).mono ?_;rintro e w1 ⟨rfl,rfl⟩)
 go_ret
 exact⟨rfl,rfl⟩
theorem refMeta_any (s:ByteArray) (w:World) (hm:s.size≤9223372036854775807):Calls Tryz.prog 47 #[.string s] w fun e w'=>e=.returned (.bool (refMeta s))∧w=w':=by
 have h1:=h_X (ofForms_any s)
 have h2:=h_X (ofTerms_any s)
 have hd:refMeta s=(ofMeta refPred s || ofMeta refFun s):=rfl
 rw[hd]
 clear hd
 generalize ofMeta refFun s=q at h2 ⊢
 cases hp:ofMeta refPred s with
 | true =>
  rw[hp] at h1
  clear hp
  rw[Bool.true_or]
  go_enter Tryz.func47,Tryz.ntmps47
  go_wp2_with (go_at_call 91;refine(h1.out _ hm).mono ?_;rintro e w1 ⟨rfl,rfl⟩)
  go_ret
  exact⟨rfl,rfl⟩
 | false =>
  rw[hp] at h1
  clear hp
  rw[Bool.false_or]
  go_enter Tryz.func47,Tryz.ntmps47
  go_wp2_with (first
   | (go_at_call 91;refine(h1.out _ hm).mono ?_;rintro e w1 ⟨rfl,rfl⟩)
   | (go_at_call 92;refine(h2.out _ hm).mono ?_;rintro e w2 ⟨rfl,rfl⟩))
  go_ret
  exact⟨rfl,rfl⟩
set_option maxHeartbeats 2000000 in
theorem names_any (s:ByteArray) (w:World) (hm:s.size≤9223372036854775807):Calls Tryz.prog 8 #[.string s] w fun e w'=>e=.returned (.bool true)∧Below w.heap.size w w':=by
 have v1:=variable_any s
 have v2:=refVar_any s
 have f1:=function_any s
 have f2:=refFun_any s
 have p1:=predicate_any s
 have p2:=refPred_any s
 have m1:=meta_any s
 have m2:=refMeta_any s
 rw[←var_eq] at v2
 rw[←fun_eq] at f2
 rw[←pred_eq] at p2
 rw[←meta_eq] at m2
 generalize isVar s=a at v1 v2
 generalize isFun s=b at f1 f2
 generalize isPred s=c at p1 p2
 generalize isMeta s=d at m1 m2
 have ea:(a == a)=true:=by simp
 have eb:(b == b)=true:=by simp
 have ec:(c == c)=true:=by simp
 have ed:(d == d)=true:=by simp
 replace v1:=h_X v1
 replace v2:=h_X v2
 replace f1:=h_X f1
 replace f2:=h_X f2
 replace p1:=h_X p1
 replace p2:=h_X p2
 replace m1:=h_X m1
 replace m2:=h_X m2
 go_enter Tryz.func8,Tryz.ntmps8
 go_wp2_with (first
  | (go_at_call 40;refine(v1.out _).mono ?_;rintro e w1 ⟨rfl,hb1⟩)
  | (go_at_call 43;refine(v2.out _ hm).mono ?_;rintro e w2 ⟨rfl,rfl⟩)
  | (go_at_call 41;refine(f1.out _).mono ?_;rintro e w3 ⟨rfl,hb2⟩)
  | (go_at_call 44;refine(f2.out _ hm).mono ?_;rintro e w4 ⟨rfl,rfl⟩)
  | (go_at_call 45;refine(p1.out _).mono ?_;rintro e w5 ⟨rfl,hb3⟩)
  | (go_at_call 46;refine(p2.out _ hm).mono ?_;rintro e w6 ⟨rfl,rfl⟩)
  | (go_at_call 42;refine(m1.out _).mono ?_;rintro e w7 ⟨rfl,hb4⟩)
  | (go_at_call 47;refine(m2.out _ hm).mono ?_;rintro e w8 ⟨rfl,rfl⟩))
 go_ret
 exact⟨rfl,bS (bS (bS hb1 hb2) hb3) hb4⟩
end Go.Proofs.YtngdieldgnlogaaGreatDoor
