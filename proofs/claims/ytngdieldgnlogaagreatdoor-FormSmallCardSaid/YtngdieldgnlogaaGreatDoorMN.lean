/- Names: bytes, words, spellings. Names: variables, functions, predicates, metavariables. The names that the law's wake-up asks for. -/
import Derived.Test.YtngdieldgnlogaaGreatDoorMT
namespace Go.Proofs.YtngdieldgnlogaaGreatDoor
open Go Go.RowKit
set_option maxRecDepth 100000
set_option linter.unusedVariables false
def digitI (c:Int):Bool:=decide (48≤c) && decide (c≤57)
def letterI (c:Int):Bool:=(decide (97≤c) && decide (c≤122)) || (decide (65≤c) && decide (c≤90)) || digitI c
theorem isDigit_any (c:Int) (w:World):Calls Tryz.prog 85 #[.int .u8 c] w fun e w'=>e=.returned (.bool (digitI c))∧w'=w:=by
 by_cases h1:48≤c
 ·by_cases h2:c≤57
  ·have e:digitI c=true:=by simp[digitI,h1,h2]
   rw[e]
   clear e
   go_enter Tryz.func85,Tryz.ntmps85
   go_wp2
   go_ret
   exact⟨rfl,rfl⟩
  ·have e:digitI c=false:=by simp[digitI,h2]
   rw[e]
   clear e
   go_enter Tryz.func85,Tryz.ntmps85
   go_wp2
   go_ret
   exact⟨rfl,rfl⟩
 ·have e:digitI c=false:=by simp[digitI,h1]
  rw[e]
  clear e
  go_enter Tryz.func85,Tryz.ntmps85
  go_wp2
  go_ret
  exact⟨rfl,rfl⟩
theorem isLetter_any (c:Int) (w:World):Calls Tryz.prog 86 #[.int .u8 c] w fun e w'=>e=.returned (.bool (letterI c))∧w'=w:=by
 have hd:=h_X (isDigit_any c w)
 by_cases h1:97≤c<;>by_cases h2:c≤122<;>by_cases h3:65≤c<;>by_cases h4:c≤90
 all_goals first
  | (exfalso;omega)
  | skip
 all_goals
  have H1:=h_X h1
  have H2:=h_X h2
  have H3:=h_X h3
  have H4:=h_X h4
  go_enter Tryz.func86,Tryz.ntmps86
  go_wp2_with (go_at_call 85;refine hd.out.mono ?_;clear hd;rintro e w' ⟨rfl,rfl⟩)
  go_ret
  refine⟨?_,rfl⟩
  simp[letterI,h1,h2,h3,h4]
  all_goals (intro h;exfalso;omega)
def isWordB (l:List UInt8):Bool:=l == [97,108,108] || l == [115,111,109,101] || l == [102,97,108,115,101] || l == [110,101,120,116] || l == [97,108,119,97,121,115] || l == [117,110,116,105,108]
theorem isWord_any (s:ByteArray) (w:World):Calls Tryz.prog 115 #[.string s] w fun e w'=>e=.returned (.bool (isWordB s.toList))∧w'=w:=by
 go_enter Tryz.func115,Tryz.ntmps115
 go_wp2
 all_goals first
  | (exfalso;simp_all;done)
  | skip
 all_goals go_ret
 all_goals refine⟨?_,rfl⟩
 all_goals simp[isWordB, *]
def byteI (s:ByteArray) (i:Nat):Int:=if h:i < s.size then (s[i].toNat:Int) else 0
theorem byteI_lt (s:ByteArray) (i:Nat) (h:i < s.size):(s[i].toNat:Int)=byteI s i:=by simp[byteI,h]
def allFrom (rest:Int→Bool) (s:ByteArray):Nat→Nat→Bool
 | 0,_=>true
 | k+1,i=>rest (byteI s i) && allFrom rest s k (i+1)
def spelled (lo hi:Int) (rest:Int→Bool) (s:ByteArray):Bool :=
 decide (0 < s.size) && decide (s.size≤16) && decide (lo≤byteI s 0) && decide (byteI s 0≤hi) && !isWordB s.toList && allFrom rest s (s.size - 1) 1
theorem empty_toList (s:ByteArray):s.toList.isEmpty=decide (s.size=0):=by
 rw[ByteArray.toList_eq]
 by_cases e:s.size=0
 ·have:s.data.toList=[]:=by
   apply List.eq_nil_of_length_eq_zero
   rw[Array.length_toList];exact e
  rw[this,decide_eq_true e];rfl
 ·rw[decide_eq_false e]
  cases h:s.data.toList with
  | nil=>exfalso;apply e;have:=congrArg List.length h;rw[Array.length_toList] at this;exact this
  | cons=>rfl
theorem bel_drew' (w:World):Below w.heap.size w w.drew:=⟨rfl,rfl,rfl,Nat.le_refl _,fun _ _=>rfl⟩
theorem bel_drewN (w:World) (n:Nat):Below w.heap.size w (w.drewN n):=by
 induction n with
 | zero=>exact Below.refl _ _
 | succ n ih=>exact bS ih (bel_drew' _)
theorem allFrom_split (rest:Int→Bool) (s:ByteArray):∀ (k i m:Nat),m≤k→allFrom rest s k i=(allFrom rest s m i && allFrom rest s (k - m) (i+m))
 | k,i,0,_=>by simp[allFrom]
 | 0,i,m+1,h=>by omega
 | k+1,i,m+1,h=>by
  have:=allFrom_split rest s k (i+1) m (by omega)
  simp only[allFrom,this,Bool.and_assoc]
  rw[show k+1 - (m+1)=k - m by omega,show i+1+m=i+(m+1) by omega]
set_option maxHeartbeats 2000000 in
theorem spellD_any (lo hi:Int) (s:ByteArray) (b:Nat) (w:World) (h0:w.cell? ⟨b,0,none⟩=some (.int .u8 lo)) (h1:w.cell? ⟨b+1,0,none⟩=some (.int .u8 hi)) (h2:w.cell? ⟨b+2,0,none⟩=some (.func (.func 85) #[] #[])) :
  Calls Tryz.prog 114 #[.string s,.pointer (some ⟨b,0,none⟩),.pointer (some ⟨b+1,0,none⟩),.pointer (some ⟨b+2,0,none⟩)] w fun e w'=>e=.returned (.bool (spelled lo hi digitI s))∧Below w.heap.size w w':=by
 have hw:=h_X (isWord_any s)
 by_cases hz:s.size=0
 ·have he:s.toList.isEmpty=true:=by rw[empty_toList,decide_eq_true hz]
  have hsp:spelled lo hi digitI s=false:=by simp[spelled,hz]
  rw[hsp]
  clear hsp
  go_enter Tryz.func114,Tryz.ntmps114
  go_wp2
  go_quiet (fail)
  go_wp2
  go_ret
  exact⟨rfl,bel_drewN _ _⟩
 have he:s.toList.isEmpty=false:=by rw[empty_toList,decide_eq_false hz]
 have hz0:(0:Int) < (s.size:Int):=by omega
 by_cases hl:s.size≤16
 rotate_left
 ·have hsp:spelled lo hi digitI s=false:=by simp[spelled,hl]
  have hl1:(16:Int) < (s.size:Int):=by omega
  have hl2:decide ((16:Int) < (s.size:Int))=true:=decide_eq_true hl1
  rw[hsp]
  clear hsp
  go_enter Tryz.func114,Tryz.ntmps114
  go_wp2
  go_quiet (fail)
  go_wp2
  go_ret
  exact⟨rfl,bel_drewN _ _⟩
 have hl1:(s.size:Int)≤16:=by omega
 have hl2:decide ((16:Int) < (s.size:Int))=false:=decide_eq_false (by omega)
 have e0:=byteI_lt s 0 (by omega)
 by_cases hlo:lo≤byteI s 0
 rotate_left
 ·have hsp:spelled lo hi digitI s=false:=by simp[spelled,hlo]
  have hlo1:byteI s 0 < lo:=by omega
  have hlo2:decide (byteI s 0 < lo)=true:=decide_eq_true hlo1
  rw[hsp]
  clear hsp
  go_enter Tryz.func114,Tryz.ntmps114
  go_wp2
  go_quiet (fail)
  go_wp2
  go_ret
  exact⟨rfl,bel_drewN _ _⟩
 have hlo2:decide (byteI s 0 < lo)=false:=decide_eq_false (by omega)
 by_cases hhi:byteI s 0≤hi
 rotate_left
 ·have hsp:spelled lo hi digitI s=false:=by simp[spelled,hhi]
  have hhi1:hi < byteI s 0:=by omega
  have hhi2:decide (hi < byteI s 0)=true:=decide_eq_true hhi1
  rw[hsp]
  clear hsp
  go_enter Tryz.func114,Tryz.ntmps114
  go_wp2
  go_quiet (fail)
  go_wp2
  go_ret
  exact⟨rfl,bel_drewN _ _⟩
 have hhi2:decide (hi < byteI s 0)=false:=decide_eq_false (by omega)
 cases hwd:isWordB s.toList with
 | true =>
  have hsp:spelled lo hi digitI s=false:=by simp[spelled,hwd]
  rw[hwd] at hw
  rw[hsp]
  clear hsp hwd
  go_enter Tryz.func114,Tryz.ntmps114
  go_wp2
  go_quiet ((go_at_call 115;refine Calls.quiet_of_same (hw.out _)))
  go_wp2
  go_ret
  exact⟨rfl,bel_drewN _ _⟩
 | false =>
  have hsp:spelled lo hi digitI s=allFrom digitI s (s.size - 1) 1:=by simp[spelled,hwd,hl,hlo,hhi];omega
  rw[hwd] at hw
  rw[hsp]
  clear hsp hwd
  obtain⟨rr,hrr⟩:∃ rr,allFrom digitI s (s.size - 1) 1=rr:=⟨_,rfl⟩
  rw[hrr]
  replace hrr:=h_X hrr
  have hR:=h_X (isDigit_any)
  go_enter Tryz.func114,Tryz.ntmps114
  go_wp2
  go_quiet ((go_at_call 115;refine Calls.quiet_of_same (hw.out _)))
  go_wp2
  have hbw:=bel_drewN w nq
  generalize w.drewN nq=W1 at hbw ⊢
  clear he hl2 hlo2 hhi2 e0 hw
  go_loopw [6] (fun i wr=>∃ k:Nat,1≤k∧k≤s.size∧i=.int .i64 k∧allFrom digitI s (k - 1) 1=true∧Below w.heap.size w wr) (fun i _=>s.size - (intOf i).toNat)
  case atStart=>exact⟨1,Nat.le_refl _,by omega,rfl,rfl,hbw⟩
  case round =>
   obtain⟨k,hk1,hk2,rfl,hall,hb⟩:=hrel
   have c2:=c_B hb h2
   clear h0 h1 h2 hbw
   have hA:=h_X hall
   clear hall
   by_cases hlt:k < s.size
   ·have hlt':(k:Int) < (s.size:Int):=by omega
    have ek:=byteI_lt s k hlt
    have hsp:=h_X (allFrom_split digitI s (s.size - 1) 1 (k - 1) (by omega))
    have hRk:=hR.out (byteI s k)
    cases hd:digitI (byteI s k) with
    | true =>
     rw[hd] at hRk
     replace hRk:=h_X hRk
     have hd':=h_X hd
     clear hd
     go_wp2
     go_quiet ((go_at_call 85;refine Calls.quiet_of_same (hRk.out _)))
     go_wp2
     go_roundw
     case rel =>
      refine⟨k+1,by omega,by omega,by go_num,?_,bS hb (bel_drewN _ _)⟩
      have h3:=allFrom_split digitI s k 1 (k - 1) (by omega)
      rw[show k+1 - 1=k by omega,h3,hA.out,show k - (k - 1)=0+1 by omega,show 1+(k - 1)=k by omega]
      simp[allFrom,hd'.out]
     case measure=>simp[intOf];omega
    | false =>
     rw[hd] at hRk
     replace hRk:=h_X hRk
     have hfin:allFrom digitI s (s.size - 1) 1=false:=by
      rw[hsp.out,hA.out,show s.size - 1 - (k - 1)=(s.size - 1 - k)+1 by omega,show 1+(k - 1)=k by omega]
      simp[allFrom,hd]
     rw[hrr.out] at hfin
     clear hd
     subst hfin
     go_wp2
     go_quiet ((go_at_call 85;refine Calls.quiet_of_same (hRk.out _)))
     go_wp2
     go_ret
     exact⟨rfl,bS hb (bel_drewN _ _)⟩
   ·obtain rfl:k=s.size:=by omega
    have hfin:=hA.out
    rw[hrr.out] at hfin
    subst hfin
    go_wp2
    go_ret
    exact⟨rfl,hb⟩
end Go.Proofs.YtngdieldgnlogaaGreatDoor
namespace Go.Proofs.YtngdieldgnlogaaGreatDoor
open Go Go.RowKit
set_option maxRecDepth 100000
set_option linter.unusedVariables false
set_option maxHeartbeats 2000000 in
theorem spellL_any (lo hi:Int) (s:ByteArray) (b:Nat) (w:World) (h0:w.cell? ⟨b,0,none⟩=some (.int .u8 lo)) (h1:w.cell? ⟨b+1,0,none⟩=some (.int .u8 hi)) (h2:w.cell? ⟨b+2,0,none⟩=some (.func (.func 86) #[] #[])) :
  Calls Tryz.prog 114 #[.string s,.pointer (some ⟨b,0,none⟩),.pointer (some ⟨b+1,0,none⟩),.pointer (some ⟨b+2,0,none⟩)] w fun e w'=>e=.returned (.bool (spelled lo hi letterI s))∧Below w.heap.size w w':=by
 have hw:=h_X (isWord_any s)
 by_cases hz:s.size=0
 ·have he:s.toList.isEmpty=true:=by rw[empty_toList,decide_eq_true hz]
  have hsp:spelled lo hi letterI s=false:=by simp[spelled,hz]
  rw[hsp]
  clear hsp
  go_enter Tryz.func114,Tryz.ntmps114
  go_wp2
  go_quiet (fail)
  go_wp2
  go_ret
  exact⟨rfl,bel_drewN _ _⟩
 have he:s.toList.isEmpty=false:=by rw[empty_toList,decide_eq_false hz]
 have hz0:(0:Int) < (s.size:Int):=by omega
 by_cases hl:s.size≤16
 rotate_left
 ·have hsp:spelled lo hi letterI s=false:=by simp[spelled,hl]
  have hl1:(16:Int) < (s.size:Int):=by omega
  have hl2:decide ((16:Int) < (s.size:Int))=true:=decide_eq_true hl1
  rw[hsp]
  clear hsp
  go_enter Tryz.func114,Tryz.ntmps114
  go_wp2
  go_quiet (fail)
  go_wp2
  go_ret
  exact⟨rfl,bel_drewN _ _⟩
 have hl1:(s.size:Int)≤16:=by omega
 have hl2:decide ((16:Int) < (s.size:Int))=false:=decide_eq_false (by omega)
 have e0:=byteI_lt s 0 (by omega)
 by_cases hlo:lo≤byteI s 0
 rotate_left
 ·have hsp:spelled lo hi letterI s=false:=by simp[spelled,hlo]
  have hlo1:byteI s 0 < lo:=by omega
  have hlo2:decide (byteI s 0 < lo)=true:=decide_eq_true hlo1
  rw[hsp]
  clear hsp
  go_enter Tryz.func114,Tryz.ntmps114
  go_wp2
  go_quiet (fail)
  go_wp2
  go_ret
  exact⟨rfl,bel_drewN _ _⟩
 have hlo2:decide (byteI s 0 < lo)=false:=decide_eq_false (by omega)
 by_cases hhi:byteI s 0≤hi
 rotate_left
 ·have hsp:spelled lo hi letterI s=false:=by simp[spelled,hhi]
  have hhi1:hi < byteI s 0:=by omega
  have hhi2:decide (hi < byteI s 0)=true:=decide_eq_true hhi1
  rw[hsp]
  clear hsp
  go_enter Tryz.func114,Tryz.ntmps114
  go_wp2
  go_quiet (fail)
  go_wp2
  go_ret
  exact⟨rfl,bel_drewN _ _⟩
 have hhi2:decide (hi < byteI s 0)=false:=decide_eq_false (by omega)
 cases hwd:isWordB s.toList with
 | true =>
  have hsp:spelled lo hi letterI s=false:=by simp[spelled,hwd]
  rw[hwd] at hw
  rw[hsp]
  clear hsp hwd
  go_enter Tryz.func114,Tryz.ntmps114
  go_wp2
  go_quiet ((go_at_call 115;refine Calls.quiet_of_same (hw.out _)))
  go_wp2
  go_ret
  exact⟨rfl,bel_drewN _ _⟩
 | false =>
  have hsp:spelled lo hi letterI s=allFrom letterI s (s.size - 1) 1:=by simp[spelled,hwd,hl,hlo,hhi];omega
  rw[hwd] at hw
  rw[hsp]
  clear hsp hwd
  obtain⟨rr,hrr⟩:∃ rr,allFrom letterI s (s.size - 1) 1=rr:=⟨_,rfl⟩
  rw[hrr]
  replace hrr:=h_X hrr
  have hR:=h_X (isLetter_any)
  go_enter Tryz.func114,Tryz.ntmps114
  go_wp2
  go_quiet ((go_at_call 115;refine Calls.quiet_of_same (hw.out _)))
  go_wp2
  have hbw:=bel_drewN w nq
  generalize w.drewN nq=W1 at hbw ⊢
  clear he hl2 hlo2 hhi2 e0 hw
  go_loopw [6] (fun i wr=>∃ k:Nat,1≤k∧k≤s.size∧i=.int .i64 k∧allFrom letterI s (k - 1) 1=true∧Below w.heap.size w wr) (fun i _=>s.size - (intOf i).toNat)
  case atStart=>exact⟨1,Nat.le_refl _,by omega,rfl,rfl,hbw⟩
  case round =>
   obtain⟨k,hk1,hk2,rfl,hall,hb⟩:=hrel
   have c2:=c_B hb h2
   clear h0 h1 h2 hbw
   have hA:=h_X hall
   clear hall
   by_cases hlt:k < s.size
   ·have hlt':(k:Int) < (s.size:Int):=by omega
    have ek:=byteI_lt s k hlt
    have hsp:=h_X (allFrom_split letterI s (s.size - 1) 1 (k - 1) (by omega))
    have hRk:=hR.out (byteI s k)
    cases hd:letterI (byteI s k) with
    | true =>
     rw[hd] at hRk
     replace hRk:=h_X hRk
     have hd':=h_X hd
     clear hd
     go_wp2
     go_quiet ((go_at_call 86;refine Calls.quiet_of_same (hRk.out _)))
     go_wp2
     go_roundw
     case rel =>
      refine⟨k+1,by omega,by omega,by go_num,?_,bS hb (bel_drewN _ _)⟩
      have h3:=allFrom_split letterI s k 1 (k - 1) (by omega)
      rw[show k+1 - 1=k by omega,h3,hA.out,show k - (k - 1)=0+1 by omega,show 1+(k - 1)=k by omega]
      simp[allFrom,hd'.out]
     case measure=>simp[intOf];omega
    | false =>
     rw[hd] at hRk
     replace hRk:=h_X hRk
     have hfin:allFrom letterI s (s.size - 1) 1=false:=by
      rw[hsp.out,hA.out,show s.size - 1 - (k - 1)=(s.size - 1 - k)+1 by omega,show 1+(k - 1)=k by omega]
      simp[allFrom,hd]
     rw[hrr.out] at hfin
     clear hd
     subst hfin
     go_wp2
     go_quiet ((go_at_call 86;refine Calls.quiet_of_same (hRk.out _)))
     go_wp2
     go_ret
     exact⟨rfl,bS hb (bel_drewN _ _)⟩
   ·obtain rfl:k=s.size:=by omega
    have hfin:=hA.out
    rw[hrr.out] at hfin
    subst hfin
    go_wp2
    go_ret
    exact⟨rfl,hb⟩
theorem spelling_any (lo hi:Int) (rf:Nat) (w:World):Calls Tryz.prog 84 #[.int .u8 lo,.int .u8 hi,.func (.func rf) #[] #[]] w fun e w' =>
  e=.returned (.func (.func 114) #[] #[.pointer (some ⟨w.heap.size,0,none⟩),.pointer (some ⟨w.heap.size+1,0,none⟩),.pointer (some ⟨w.heap.size+2,0,none⟩)])∧Below w.heap.size w w' ∧
   w'.cell? ⟨w.heap.size,0,none⟩=some (.int .u8 lo)∧w'.cell? ⟨w.heap.size+1,0,none⟩=some (.int .u8 hi)∧w'.cell? ⟨w.heap.size+2,0,none⟩=some (.func (.func rf) #[] #[]):=by
 go_enter Tryz.func84,Tryz.ntmps84
 go_wp2
 go_ret
 have e1:=cell_new w #[.int .u8 lo] 5 0
 have e2:=cell_new (w.alloc (.cells #[.int .u8 lo] 5)) #[.int .u8 hi] 5 0
 have e3:=cell_new ((w.alloc (.cells #[.int .u8 lo] 5)).alloc (.cells #[.int .u8 hi] 5)) #[.func (.func rf) #[] #[]] 92 0
 rw[World.size_alloc] at e2
 rw[World.size_alloc,World.size_alloc] at e3
 exact⟨rfl,Below.alloc (Below.alloc (bel_laid _ _) (by simp) _) (by simp;omega) _,c_B (bel_laid _ _) (c_B (bel_laid _ _) e1),c_B (bel_laid _ _) e2,e3⟩
def isVar (s:ByteArray):Bool:=spelled 117 122 digitI s
theorem variable_any (s:ByteArray) (w:World):Calls Tryz.prog 40 #[.string s] w fun e w'=>e=.returned (.bool (isVar s))∧Below w.heap.size w w':=by
 have h1:=h_X (spelling_any 117 122 85 w)
 have h2:=h_X (fun V b=>spellD_any 117 122 s b V)
 unfold isVar
 go_enter Tryz.func40,Tryz.ntmps40
 go_wp2_with (go_at_call 84;refine h1.out.mono ?_;rintro e w1 ⟨rfl,hb1,c0,c1,c2⟩)
 refine(h2.out _ _ c0 c1 c2).mono ?_
 rintro e w2 ⟨rfl,hb2⟩
 have hbb:=bS hb1 hb2
 clear h1 h2 hb1 hb2 c0 c1 c2
 go_wp2
 go_ret
 exact⟨rfl,hbb⟩
def isFun (s:ByteArray):Bool:=spelled 97 116 letterI s
theorem function_any (s:ByteArray) (w:World):Calls Tryz.prog 41 #[.string s] w fun e w'=>e=.returned (.bool (isFun s))∧Below w.heap.size w w':=by
 have h1:=h_X (spelling_any 97 116 86 w)
 have h2:=h_X (fun V b=>spellL_any 97 116 s b V)
 unfold isFun
 go_enter Tryz.func41,Tryz.ntmps41
 go_wp2_with (go_at_call 84;refine h1.out.mono ?_;rintro e w1 ⟨rfl,hb1,c0,c1,c2⟩)
 refine(h2.out _ _ c0 c1 c2).mono ?_
 rintro e w2 ⟨rfl,hb2⟩
 have hbb:=bS hb1 hb2
 clear h1 h2 hb1 hb2 c0 c1 c2
 go_wp2
 go_ret
 exact⟨rfl,hbb⟩
def isPred (s:ByteArray):Bool:=spelled 65 90 letterI s
theorem predicate_any (s:ByteArray) (w:World):Calls Tryz.prog 45 #[.string s] w fun e w'=>e=.returned (.bool (isPred s))∧Below w.heap.size w w':=by
 have h1:=h_X (spelling_any 65 90 86 w)
 have h2:=h_X (fun V b=>spellL_any 65 90 s b V)
 unfold isPred
 go_enter Tryz.func45,Tryz.ntmps45
 go_wp2_with (go_at_call 84;refine h1.out.mono ?_;rintro e w1 ⟨rfl,hb1,c0,c1,c2⟩)
 refine(h2.out _ _ c0 c1 c2).mono ?_
 rintro e w2 ⟨rfl,hb2⟩
 have hbb:=bS hb1 hb2
 clear h1 h2 hb1 hb2 c0 c1 c2
 go_wp2
 go_ret
 exact⟨rfl,hbb⟩
def markedB (name:ByteArray→Bool) (s:ByteArray):Bool:=decide (0 < s.size) && decide (byteI s 0=63) && decide (s.size≤16) && name (s.extract 1 s.size)
theorem markedP_any (s:ByteArray) (w:World):Calls Tryz.prog 116 #[.string s,.func (.func 45) #[] #[]] w fun e w'=>e=.returned (.bool (markedB isPred s))∧Below w.heap.size w w':=by
 by_cases hz:s.size=0
 ·have he:s.toList.isEmpty=true:=by rw[empty_toList,decide_eq_true hz]
  have hsp:markedB isPred s=false:=by simp[markedB,hz]
  rw[hsp]
  clear hsp
  go_enter Tryz.func116,Tryz.ntmps116
  go_wp2
  go_ret
  exact⟨rfl,Below.refl _ _⟩
 have he:s.toList.isEmpty=false:=by rw[empty_toList,decide_eq_false hz]
 have hz0:(0:Int) < (s.size:Int):=by omega
 have e0:=byteI_lt s 0 (by omega)
 by_cases hm:byteI s 0=63
 rotate_left
 ·have hm':(byteI s 0 == 63)=false:=beq_eq_false_iff_ne.2 hm
  have hsp:markedB isPred s=false:=by simp[markedB,hm]
  rw[hsp]
  clear hsp
  go_enter Tryz.func116,Tryz.ntmps116
  go_wp2
  go_ret
  exact⟨rfl,Below.refl _ _⟩
 by_cases hl:s.size≤16
 rotate_left
 ·have hl1:(16:Int) < (s.size:Int):=by omega
  have hsp:markedB isPred s=false:=by simp[markedB,hl]
  rw[hsp]
  clear hsp
  go_enter Tryz.func116,Tryz.ntmps116
  go_wp2
  go_ret
  exact⟨rfl,Below.refl _ _⟩
 have hl1:(s.size:Int)≤16:=by omega
 have hsp:markedB isPred s=isPred (s.extract 1 s.size):=by simp[markedB,hl,hm];omega
 rw[hsp]
 clear hsp
 have hc:=h_X (predicate_any (s.extract 1 s.size))
 go_enter Tryz.func116,Tryz.ntmps116
 go_wp2_with (go_at_call 45;refine(hc.out _).mono ?_;rintro e w1 ⟨rfl,hb1⟩)
 go_ret
 exact⟨rfl,hb1⟩
theorem formMeta_any (s:ByteArray) (w:World):Calls Tryz.prog 87 #[.string s] w fun e w'=>e=.returned (.bool (markedB isPred s))∧Below w.heap.size w w':=by
 have hc:=h_X (markedP_any s)
 generalize markedB isPred s=r at hc ⊢
 go_enter Tryz.func87,Tryz.ntmps87
 go_wp2_with (go_at_call 116;refine(hc.out _).mono ?_;rintro e w1 ⟨rfl,hb1⟩)
 go_ret
 exact⟨rfl,hb1⟩
theorem markedF_any (s:ByteArray) (w:World):Calls Tryz.prog 116 #[.string s,.func (.func 41) #[] #[]] w fun e w'=>e=.returned (.bool (markedB isFun s))∧Below w.heap.size w w':=by
 by_cases hz:s.size=0
 ·have he:s.toList.isEmpty=true:=by rw[empty_toList,decide_eq_true hz]
  have hsp:markedB isFun s=false:=by simp[markedB,hz]
  rw[hsp]
  clear hsp
  go_enter Tryz.func116,Tryz.ntmps116
  go_wp2
  go_ret
  exact⟨rfl,Below.refl _ _⟩
 have he:s.toList.isEmpty=false:=by rw[empty_toList,decide_eq_false hz]
 have hz0:(0:Int) < (s.size:Int):=by omega
 have e0:=byteI_lt s 0 (by omega)
 by_cases hm:byteI s 0=63
 rotate_left
 ·have hm':(byteI s 0 == 63)=false:=beq_eq_false_iff_ne.2 hm
  have hsp:markedB isFun s=false:=by simp[markedB,hm]
  rw[hsp]
  clear hsp
  go_enter Tryz.func116,Tryz.ntmps116
  go_wp2
  go_ret
  exact⟨rfl,Below.refl _ _⟩
 by_cases hl:s.size≤16
 rotate_left
 ·have hl1:(16:Int) < (s.size:Int):=by omega
  have hsp:markedB isFun s=false:=by simp[markedB,hl]
  rw[hsp]
  clear hsp
  go_enter Tryz.func116,Tryz.ntmps116
  go_wp2
  go_ret
  exact⟨rfl,Below.refl _ _⟩
 have hl1:(s.size:Int)≤16:=by omega
 have hsp:markedB isFun s=isFun (s.extract 1 s.size):=by simp[markedB,hl,hm];omega
 rw[hsp]
 clear hsp
 have hc:=h_X (function_any (s.extract 1 s.size))
 go_enter Tryz.func116,Tryz.ntmps116
 go_wp2_with (go_at_call 41;refine(hc.out _).mono ?_;rintro e w1 ⟨rfl,hb1⟩)
 go_ret
 exact⟨rfl,hb1⟩
theorem termMeta_any (s:ByteArray) (w:World):Calls Tryz.prog 88 #[.string s] w fun e w'=>e=.returned (.bool (markedB isFun s))∧Below w.heap.size w w':=by
 have hc:=h_X (markedF_any s)
 generalize markedB isFun s=r at hc ⊢
 go_enter Tryz.func88,Tryz.ntmps88
 go_wp2_with (go_at_call 116;refine(hc.out _).mono ?_;rintro e w1 ⟨rfl,hb1⟩)
 go_ret
 exact⟨rfl,hb1⟩
def isMeta (s:ByteArray):Bool:=markedB isPred s || markedB isFun s
theorem meta_any (s:ByteArray) (w:World):Calls Tryz.prog 42 #[.string s] w fun e w'=>e=.returned (.bool (isMeta s))∧Below w.heap.size w w':=by
 have h1:=h_X (formMeta_any s)
 have h2:=h_X (termMeta_any s)
 have hm:isMeta s=(markedB isPred s || markedB isFun s):=rfl
 rw[hm]
 clear hm
 generalize markedB isFun s=q at h2 ⊢
 cases hp:markedB isPred s with
 | true =>
  rw[hp] at h1
  clear hp
  rw[Bool.true_or]
  go_enter Tryz.func42,Tryz.ntmps42
  go_wp2_with (go_at_call 87;refine(h1.out _).mono ?_;rintro e w1 ⟨rfl,hb1⟩)
  go_ret
  exact⟨rfl,hb1⟩
 | false =>
  rw[hp] at h1
  clear hp
  rw[Bool.false_or]
  go_enter Tryz.func42,Tryz.ntmps42
  go_wp2_with (first
   | (go_at_call 87;refine(h1.out _).mono ?_;rintro e w1 ⟨rfl,hb1⟩)
   | (go_at_call 88;refine(h2.out _).mono ?_;rintro e w2 ⟨rfl,hb2⟩))
  go_ret
  exact⟨rfl,bS hb1 hb2⟩
end Go.Proofs.YtngdieldgnlogaaGreatDoor
namespace Go.Proofs.YtngdieldgnlogaaGreatDoor
open Go Go.RowKit
set_option maxRecDepth 100000
theorem var_x10 (w:World):Calls Tryz.prog 40 #[.string ⟨#[120,49,48]⟩] w fun e w'=>e=.returned (.bool true)∧Below w.heap.size w w':=by
 have h:=variable_any ⟨#[120,49,48]⟩ w
 rwa [show isVar ⟨#[120,49,48]⟩=true by kernel_rfl] at h
theorem var_xy (w:World):Calls Tryz.prog 40 #[.string ⟨#[120,121]⟩] w fun e w'=>e=.returned (.bool false)∧Below w.heap.size w w':=by
 have h:=variable_any ⟨#[120,121]⟩ w
 rwa [show isVar ⟨#[120,121]⟩=false by kernel_rfl] at h
theorem fun_next1 (w:World):Calls Tryz.prog 41 #[.string ⟨#[110,101,120,116,49]⟩] w fun e w'=>e=.returned (.bool true)∧Below w.heap.size w w':=by
 have h:=function_any ⟨#[110,101,120,116,49]⟩ w
 rwa [show isFun ⟨#[110,101,120,116,49]⟩=true by kernel_rfl] at h
theorem fun_all (w:World):Calls Tryz.prog 41 #[.string ⟨#[97,108,108]⟩] w fun e w'=>e=.returned (.bool false)∧Below w.heap.size w w':=by
 have h:=function_any ⟨#[97,108,108]⟩ w
 rwa [show isFun ⟨#[97,108,108]⟩=false by kernel_rfl] at h
theorem meta_t (w:World):Calls Tryz.prog 42 #[.string ⟨#[63,116]⟩] w fun e w'=>e=.returned (.bool true)∧Below w.heap.size w w':=by
 have h:=meta_any ⟨#[63,116]⟩ w
 rwa [show isMeta ⟨#[63,116]⟩=true by kernel_rfl] at h
theorem meta_u (w:World):Calls Tryz.prog 42 #[.string ⟨#[63,117]⟩] w fun e w'=>e=.returned (.bool false)∧Below w.heap.size w w':=by
 have h:=meta_any ⟨#[63,117]⟩ w
 rwa [show isMeta ⟨#[63,117]⟩=false by kernel_rfl] at h
end Go.Proofs.YtngdieldgnlogaaGreatDoor
