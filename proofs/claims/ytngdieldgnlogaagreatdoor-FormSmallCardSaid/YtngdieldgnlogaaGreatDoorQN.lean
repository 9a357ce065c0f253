/- The reference's size, Nodes, deep, Depth. The reference's Depth. -/
import Derived.Test.YtngdieldgnlogaaGreatDoorMH
namespace Go.Proofs.YtngdieldgnlogaaGreatDoor
open Go Go.RowKit
set_option maxRecDepth 100000
set_option linter.unusedVariables false
def RSize (N:Nat):Prop:=∀ (ts:Ts) (sa:Value) (w:World),ts.size≤N→TSl w ts sa→ts.size≤1000000→Calls Tryz.prog 70 #[sa] w fun e w'=>e=.returned (.int .i64 (ts.size:Int))∧w'=w
set_option maxHeartbeats 2000000 in
theorem refSize_any (N:Nat):RSize N:=by
 induction N using Nat.strongRecOn with
 | _ N ih =>
 intro ts sa w hN hts hs
 have ihh:=h_X ih
 obtain⟨p,c,b,o,rfl,hp,ht⟩:=TSl.opened hts
 have hll:=ts.len_le
 clear ih hts
 go_enter Tryz.func70,Tryz.ntmps70
 go_wp2
 go_loopw [3,4] (fun n i wr=>∃ (k m:Nat) (r:Ts),n=.int .i64 (m:Int)∧i=.int .i64 (k:Int)∧k+r.len=ts.len∧m+r.size=ts.size∧TsAt w r b (o+k*3)∧wr=w) (fun _ i _=>ts.len - (intOf i).toNat)
 case atStart=>exact⟨0,0,ts,rfl,rfl,by omega,by omega,by simpa using ht,rfl⟩
 case round =>
  obtain⟨k,m,r,rfl,rfl,hk,hm,hat,rfl⟩:=hrel
  cases r with
  | nil =>
   simp only[Ts.len,Ts.size,Nat.add_zero] at hk hm
   subst hk hm
   go_wp2
   go_ret
   exact⟨rfl,rfl⟩
  | cons v nm us r =>
   simp only[Ts.len,Ts.size] at hk hm
   have hkl:(k:Int) < (ts.len:Int):=by omega
   have hk0:(0:Int)≤(k:Int):=by omega
   obtain rfl:=hp.resolve_left (by omega)
   obtain⟨c0,c1,⟨s,c2,hus⟩,hr⟩:=hat
   have hrh:=h_X hr
   have HC:=h_X (ihh.out us.size (by omega) us s wr (Nat.le_refl _) hus (by omega))
   obtain⟨ps,cs,rfl,-⟩:=id hus
   have hw1:IntKind.i64.wrap ((m:Int)+1)=(m:Int)+1:=IntWalk.i64_in _ (by omega)
   have hw2:IntKind.i64.wrap ((m:Int)+1+(us.size:Int))=(m:Int)+1+(us.size:Int):=IntWalk.i64_in _ (by omega)
   have hw3:IntKind.i64.wrap ((k:Int)+1)=(k:Int)+1:=IntWalk.i64_in _ (by omega)
   have hmh:=h_X hm
   have hkh:=h_X hk
   clear hr hus hm hk hN
   go_wp2_with fail
   refine HC.out.mono ?_
   rintro e w' ⟨rfl,rfl⟩
   clear HC c0 c1 c2
   go_wp2_with fail
   go_roundw
   case rel=>exact⟨k+1,m+1+us.size,r,by congr 1,by congr 1,by have:=hkh.out;omega,by have:=hmh.out;omega,by have:=hrh.out;rwa [show o+(k+1)*3=o+k*3+3 by omega],trivial⟩
   case measure=>have:=hkh.out;simp[intOf];omega
def RDeep (N:Nat):Prop:=∀ (ts:Ts) (sa:Value) (w:World),ts.size≤N→TSl w ts sa→ts.size≤1000000→Calls Tryz.prog 74 #[sa] w fun e w'=>e=.returned (.int .i64 (ts.deep:Int))∧w'=w
set_option maxHeartbeats 2000000 in
theorem refDeep_any (N:Nat):RDeep N:=by
 induction N using Nat.strongRecOn with
 | _ N ih =>
 intro ts sa w hN hts hs
 have ihh:=h_X ih
 obtain⟨p,c,b,o,rfl,hp,ht⟩:=TSl.opened hts
 have hll:=ts.len_le
 clear ih hts
 go_enter Tryz.func74,Tryz.ntmps74
 go_wp2
 go_loopw [3,4] (fun n i wr=>∃ (k m:Nat) (r:Ts),n=.int .i64 (m:Int)∧i=.int .i64 (k:Int)∧k+r.len=ts.len∧r.size≤ts.size∧max m r.deep=ts.deep∧TsAt w r b (o+k*3)∧wr=w) (fun _ i _=>ts.len - (intOf i).toNat)
 case atStart=>exact⟨0,0,ts,rfl,rfl,by omega,Nat.le_refl _,by omega,by simpa using ht,rfl⟩
 case round =>
  obtain⟨k,m,r,rfl,rfl,hk,hrz,hm,hat,rfl⟩:=hrel
  cases r with
  | nil =>
   simp only[Ts.len,Ts.deep,Nat.add_zero,Nat.max_zero] at hk hm
   subst hk hm
   go_wp2
   go_ret
   exact⟨rfl,rfl⟩
  | cons v nm us r =>
   simp only[Ts.len,Ts.size,Ts.deep] at hk hm hrz
   have hud:=us.deep_le
   have hkl:(k:Int) < (ts.len:Int):=by omega
   have hk0:(0:Int)≤(k:Int):=by omega
   obtain rfl:=hp.resolve_left (by omega)
   obtain⟨c0,c1,⟨s,c2,hus⟩,hr⟩:=hat
   have hrh:=h_X hr
   have HC:=h_X (ihh.out us.size (by omega) us s wr (Nat.le_refl _) hus (by omega))
   obtain⟨ps,cs,rfl,-⟩:=id hus
   have hw1:IntKind.i64.wrap ((us.deep:Int)+1)=(us.deep:Int)+1:=IntWalk.i64_in _ (by omega)
   have hw3:IntKind.i64.wrap ((k:Int)+1)=(k:Int)+1:=IntWalk.i64_in _ (by omega)
   have hmh:=h_X hm
   have hkh:=h_X hk
   have hrzh:=h_X hrz
   clear hr hus hm hk hN hrz
   go_wp2_with fail
   refine HC.out.mono ?_
   rintro e w' ⟨rfl,rfl⟩
   clear HC c0 c1 c2
   by_cases hg:(m:Int) < (us.deep:Int)+1
   ·go_wp2_with fail
    go_roundw
    case rel=>exact⟨k+1,us.deep+1,r,by congr 1,by congr 1,by have:=hkh.out;omega,by have:=hrzh.out;omega,by have:=hmh.out;omega,by have:=hrh.out;rwa [show o+(k+1)*3=o+k*3+3 by omega],trivial⟩
    case measure=>have:=hkh.out;simp[intOf];omega
   ·go_wp2_with fail
    go_roundw
    case rel=>exact⟨k+1,m,r,rfl,by congr 1,by have:=hkh.out;omega,by have:=hrzh.out;omega,by have:=hmh.out;omega,by have:=hrh.out;rwa [show o+(k+1)*3=o+k*3+3 by omega],trivial⟩
    case measure=>have:=hkh.out;simp[intOf];omega
def RNodes (N:Nat):Prop:=∀ (f:FT) (v:Value) (w:World),f.size≤N→FVal w f v→f.size≤1000000→Calls Tryz.prog 20 #[v] w fun e w'=>e=.returned (.int .i64 (f.size:Int))∧Below w.heap.size w w'
set_option maxHeartbeats 4000000 in
theorem refNodes_any (N:Nat):RNodes N:=by
 induction N using Nat.strongRecOn with
 | _ N ih =>
 intro f v w hN hv hs
 have ihh:=h_X ih
 obtain⟨sa,ss,rfl,ha,hss⟩:=id hv
 have hst:=FS.start (t:=25) hv
 obtain⟨pa,ca,rfl,-⟩:=id ha
 obtain⟨p,c,b,o,rfl,hp,ht⟩:=FSl.opened hss
 have e1:f.size=f.ts.size+f.sub.size+1:=rfl
 have hll:=f.sub.len_le
 obtain⟨W1,hW1⟩:∃ W1,w.alloc (.cells #[.int .u8 f.op,.string f.n,.slice pa f.ts.len ca,.slice p f.sub.len c] 25)=W1:=⟨_,rfl⟩
 rw[hW1] at hst
 obtain⟨g,hg⟩:∃ g,w.heap.size=g:=⟨_,rfl⟩
 have hgh:=h_X hg
 rw[hg] at hst
 have k1h:=h_X hst
 have HC:=h_X (refSize_any f.ts.size f.ts _ W1 (Nat.le_refl _) hst.2.2.2.2.2.1 (by omega))
 have hth:=h_X (FsAt.below hst.2.2.2.2.1 ht)
 clear ih hst hv ha hss ht
 go_enter Tryz.func20,Tryz.ntmps20
 obtain⟨c0,c1,c2,c3,-⟩:=k1h.out
 go_wp2_with fail
 refine HC.out.mono ?_
 rintro e w2 ⟨rfl,hw2⟩
 rw[hw2]
 clear HC hW1 hg hw2
 have hw0:IntKind.i64.wrap (1+(f.ts.size:Int))=1+(f.ts.size:Int):=IntWalk.i64_in _ (by omega)
 go_wp2_with fail
 clear c0 c1 c2 c3 hw0
 go_loopw [3,4] (fun n i wr=>∃ (k m:Nat) (r:Fs),n=.int .i64 (m:Int)∧i=.int .i64 (k:Int)∧k+r.len=f.sub.len∧m+r.size=f.size∧1≤m∧FsAt wr r b (o+k*4)∧Below W1.heap.size W1 wr) (fun _ i _=>f.sub.len - (intOf i).toNat)
 case atStart=>exact⟨0,f.ts.size+1,f.sub,by congr 1;omega,rfl,by omega,by omega,by omega,by simpa using hth.out,Below.refl _ _⟩
 case round =>
  obtain⟨k,m,r,rfl,rfl,hk,hm,hm1,hat,hbw⟩:=hrel
  have hbwh:=h_X hbw
  obtain⟨c0,c1,c2,c3,-⟩:=k1h.out.next hbw
  clear hbw
  cases r with
  | nil =>
   simp only[Fs.len,Fs.size,Nat.add_zero] at hk hm
   subst hk hm
   have hfin:=h_X (bS k1h.out.2.2.2.2.1 hbwh.out)
   go_wp2_with fail
   go_ret
   exact⟨rfl,hfin.out⟩
  | cons op nm us sub r =>
   simp only[Fs.len,Fs.size] at hk hm
   have hkl:(k:Int) < (f.sub.len:Int):=by omega
   have hk0:(0:Int)≤(k:Int):=by omega
   obtain rfl:=hp.resolve_left (by omega)
   obtain⟨d0,d1,⟨s,d2,hus⟩,⟨s',d3,hfs⟩,hr⟩:=hat
   have hrh:=h_X hr
   have ez:(FT.mk op nm us sub).size=us.size+sub.size+1:=rfl
   have HC:=h_X (ihh.out (FT.mk op nm us sub).size (by omega) ⟨op,nm,us,sub⟩ (fval ⟨op,nm,us,sub⟩ s s') wr (Nat.le_refl _) ⟨_,_,rfl,hus,hfs⟩ (by omega))
   obtain⟨ps,cs,rfl,-⟩:=id hus
   obtain⟨ps',cs',rfl,-⟩:=id hfs
   have hw2:IntKind.i64.wrap ((m:Int)+((FT.mk op nm us sub).size:Int))=(m:Int)+((FT.mk op nm us sub).size:Int):=IntWalk.i64_in _ (by omega)
   have hw3:IntKind.i64.wrap ((k:Int)+1)=(k:Int)+1:=IntWalk.i64_in _ (by omega)
   have hmh:=h_X hm
   have hkh:=h_X hk
   have ezh:=h_X ez
   clear hr hus hfs hm hk hN ez
   go_wp2_with fail
   refine HC.out.mono ?_
   rintro e w' ⟨rfl,hb'⟩
   have hbwh:=h_X (bS hbwh.out hb')
   have hrh:=h_X (FsAt.below hb' hrh.out)
   clear HC c0 c1 c2 c3 d0 d1 d2 d3 hb'
   go_wp2_with fail
   go_roundw
   case rel=>exact⟨k+1,m+(FT.mk op nm us sub).size,r,by congr 1,by congr 1,by have:=hkh.out;omega,by have:=hmh.out;have:=ezh.out;omega,by omega,by have:=hrh.out;rwa [show o+(k+1)*4=o+k*4+4 by omega],hbwh.out⟩
   case measure=>have:=hkh.out;simp[intOf];omega
end Go.Proofs.YtngdieldgnlogaaGreatDoor
namespace Go.Proofs.YtngdieldgnlogaaGreatDoor
open Go Go.RowKit
set_option maxRecDepth 100000
set_option linter.unusedVariables false
def RDepth (N:Nat):Prop:=∀ (f:FT) (v:Value) (w:World),f.size≤N→FVal w f v→f.size≤1000000→Calls Tryz.prog 22 #[v] w fun e w'=>e=.returned (.int .i64 (f.deep:Int))∧Below w.heap.size w w'
set_option maxHeartbeats 4000000 in
theorem refDepth_any (N:Nat):RDepth N:=by
 induction N using Nat.strongRecOn with
 | _ N ih =>
 intro f v w hN hv hs
 have ihh:=h_X ih
 obtain⟨sa,ss,rfl,ha,hss⟩:=id hv
 have hst:=FS.start (t:=25) hv
 obtain⟨pa,ca,rfl,-⟩:=id ha
 obtain⟨p,c,b,o,rfl,hp,ht⟩:=FSl.opened hss
 have e1:f.size=f.ts.size+f.sub.size+1:=rfl
 have e2:f.deep=max f.ts.deep f.sub.deep+1:=rfl
 have e3:=f.ts.deep_le
 have e4:=f.sub.deep_le
 have hll:=f.sub.len_le
 obtain⟨W1,hW1⟩:∃ W1,w.alloc (.cells #[.int .u8 f.op,.string f.n,.slice pa f.ts.len ca,.slice p f.sub.len c] 25)=W1:=⟨_,rfl⟩
 rw[hW1] at hst
 obtain⟨g,hg⟩:∃ g,w.heap.size=g:=⟨_,rfl⟩
 have hgh:=h_X hg
 rw[hg] at hst
 have k1h:=h_X hst
 have HC:=h_X (refDeep_any f.ts.size f.ts _ W1 (Nat.le_refl _) hst.2.2.2.2.2.1 (by omega))
 have hth:=h_X (FsAt.below hst.2.2.2.2.1 ht)
 clear ih hst hv ha hss ht
 go_enter Tryz.func22,Tryz.ntmps22
 obtain⟨c0,c1,c2,c3,-⟩:=k1h.out
 go_wp2_with fail
 refine HC.out.mono ?_
 rintro e w2 ⟨rfl,hw2⟩
 rw[hw2]
 clear HC hW1 hg hw2
 go_wp2_with fail
 clear c0 c1 c2 c3
 go_loopw [3,4] (fun n i wr=>∃ (k m:Nat) (r:Fs),n=.int .i64 (m:Int)∧i=.int .i64 (k:Int)∧k+r.len=f.sub.len∧r.size≤f.sub.size∧max m r.deep+1=f.deep∧FsAt wr r b (o+k*4)∧Below W1.heap.size W1 wr) (fun _ i _=>f.sub.len - (intOf i).toNat)
 case atStart=>exact⟨0,f.ts.deep,f.sub,rfl,rfl,by omega,Nat.le_refl _,by omega,by simpa using hth.out,Below.refl _ _⟩
 case round =>
  obtain⟨k,m,r,rfl,rfl,hk,hrz,hm,hat,hbw⟩:=hrel
  have hbwh:=h_X hbw
  obtain⟨c0,c1,c2,c3,-⟩:=k1h.out.next hbw
  clear hbw
  cases r with
  | nil =>
   simp only[Fs.len,Fs.deep,Nat.add_zero,Nat.max_zero] at hk hm
   subst hk
   have hw5:IntKind.i64.wrap ((m:Int)+1)=(f.deep:Int):=by rw[IntWalk.i64_in _ (by omega)];omega
   have hfin:=h_X (bS k1h.out.2.2.2.2.1 hbwh.out)
   go_wp2_with fail
   go_ret
   exact⟨rfl,hfin.out⟩
  | cons op nm us sub r =>
   simp only[Fs.len,Fs.size,Fs.deep] at hk hm hrz
   have hkl:(k:Int) < (f.sub.len:Int):=by omega
   have hk0:(0:Int)≤(k:Int):=by omega
   obtain rfl:=hp.resolve_left (by omega)
   obtain⟨d0,d1,⟨s,d2,hus⟩,⟨s',d3,hfs⟩,hr⟩:=hat
   have hrh:=h_X hr
   have ez:(FT.mk op nm us sub).deep=max us.deep sub.deep+1:=rfl
   have ez2:(FT.mk op nm us sub).size=us.size+sub.size+1:=rfl
   have HC:=h_X (ihh.out (FT.mk op nm us sub).size (by omega) ⟨op,nm,us,sub⟩ (fval ⟨op,nm,us,sub⟩ s s') wr (Nat.le_refl _) ⟨_,_,rfl,hus,hfs⟩ (by omega))
   obtain⟨ps,cs,rfl,-⟩:=id hus
   obtain⟨ps',cs',rfl,-⟩:=id hfs
   have hw3:IntKind.i64.wrap ((k:Int)+1)=(k:Int)+1:=IntWalk.i64_in _ (by omega)
   have hmh:=h_X hm
   have hkh:=h_X hk
   have ezh:=h_X ez
   have hrzh:=h_X hrz
   clear hr hus hfs hm hk hN ez ez2 hrz
   go_wp2_with fail
   refine HC.out.mono ?_
   rintro e w' ⟨rfl,hb'⟩
   have hbwh:=h_X (bS hbwh.out hb')
   have hrh:=h_X (FsAt.below hb' hrh.out)
   clear HC c0 c1 c2 c3 d0 d1 d2 d3 hb'
   by_cases hg:(m:Int) < ((FT.mk op nm us sub).deep:Int)
   ·go_wp2_with fail
    go_roundw
    case rel=>exact⟨k+1,(FT.mk op nm us sub).deep,r,rfl,by congr 1,by have:=hkh.out;omega,by have:=hrzh.out;omega,by have:=hmh.out;have:=ezh.out;omega,by have:=hrh.out;rwa [show o+(k+1)*4=o+k*4+4 by omega],hbwh.out⟩
    case measure=>have:=hkh.out;simp[intOf];omega
   ·go_wp2_with fail
    go_roundw
    case rel=>exact⟨k+1,m,r,rfl,by congr 1,by have:=hkh.out;omega,by have:=hrzh.out;omega,by have:=hmh.out;have:=ezh.out;omega,by have:=hrh.out;rwa [show o+(k+1)*4=o+k*4+4 by omega],hbwh.out⟩
    case measure=>have:=hkh.out;simp[intOf];omega
end Go.Proofs.YtngdieldgnlogaaGreatDoor
