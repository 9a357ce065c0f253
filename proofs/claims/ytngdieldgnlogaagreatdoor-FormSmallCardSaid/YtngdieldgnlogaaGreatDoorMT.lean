/- Terms and formulas ts trees, and how they lie in memory. Depth: termDepth and deepest over terms. The law's comparison of two leaves. -/
import Derived.Test.YtngdieldgnlogaaGreatDoorRows
import Derived.WalkKit
import Derived.Handy
import Derived.Outline
import Derived.BigQuiet
import Derived.Deep.QuietTactic
import Derived.WalkSpells
import Derived.WalkLawsBesides
import Derived.WalkSmall
import Derived.Lib.Hide
import Derived.Deep.RegionHeld3
namespace Go.Proofs.YtngdieldgnlogaaGreatDoor
open Go Go.RowKit
theorem h_X {p : Prop} (h : p) : Hid p := Lib.hid h
set_option maxRecDepth 100000
inductive Ts where
 | nil
 | cons (v:Bool) (n:ByteArray) (ts r:Ts)
inductive Fs where
 | nil
 | cons (op:Int) (n:ByteArray) (ts:Ts) (sub r:Fs)
def Ts.len:Ts→Nat
 | .nil=>0
 | .cons _ _ _ r=>r.len+1
def Fs.len:Fs→Nat
 | .nil=>0
 | .cons _ _ _ _ r=>r.len+1
def Ts.size:Ts→Nat
 | .nil=>0
 | .cons _ _ ts r=>ts.size+r.size+1
def Fs.size:Fs→Nat
 | .nil=>0
 | .cons _ _ ts sub r=>ts.size+sub.size+r.size+1
def Ts.deep:Ts→Nat
 | .nil=>0
 | .cons _ _ ts r=>max (ts.deep+1) r.deep
def Fs.deep:Fs→Nat
 | .nil=>0
 | .cons _ _ ts sub r=>max (max ts.deep sub.deep+1) r.deep
theorem Ts.deep_le:∀ t:Ts,t.deep≤t.size
 | .nil=>Nat.le_refl _
 | .cons _ _ ts r=>by have:=ts.deep_le;have:=r.deep_le;simp only[Ts.deep,Ts.size];omega
theorem Fs.deep_le:∀ t:Fs,t.deep≤t.size
 | .nil=>Nat.le_refl _
 | .cons _ _ ts sub r=>by have:=ts.deep_le;have:=sub.deep_le;have:=r.deep_le;simp only[Fs.deep,Fs.size];omega
theorem Ts.len_le:∀ t:Ts,t.len≤t.size
 | .nil=>Nat.le_refl _
 | .cons _ _ ts r=>by have:=r.len_le;simp only[Ts.len,Ts.size];omega
theorem Fs.len_le:∀ t:Fs,t.len≤t.size
 | .nil=>Nat.le_refl _
 | .cons _ _ ts sub r=>by have:=r.len_le;simp only[Fs.len,Fs.size];omega
def SlOf (L:Nat→Nat→Prop) (k:Nat) (s:Value):Prop:=∃ p c,s=.slice p k c∧(k=0∨∃ b o,p=some ⟨b,o,none⟩∧L b o)
def TsAt (W:World):Ts→Nat→Nat→Prop
 | .nil,_,_=>True
 | .cons v n ts r,b,o=>W.cell? ⟨b,o,none⟩=some (.bool v)∧W.cell? ⟨b,o+1,none⟩=some (.string n)∧(∃ s,W.cell? ⟨b,o+2,none⟩=some s∧SlOf (TsAt W ts) ts.len s)∧TsAt W r b (o+3)
def FsAt (W:World):Fs→Nat→Nat→Prop
 | .nil,_,_=>True
 | .cons op n ts sub r,b,o=>W.cell? ⟨b,o,none⟩=some (.int .u8 op)∧W.cell? ⟨b,o+1,none⟩=some (.string n)∧(∃ s,W.cell? ⟨b,o+2,none⟩=some s∧SlOf (TsAt W ts) ts.len s)∧(∃ s,W.cell? ⟨b,o+3,none⟩=some s∧SlOf (FsAt W sub) sub.len s)∧FsAt W r b (o+4)
abbrev TSl (W:World) (t:Ts) (s:Value):Prop:=SlOf (TsAt W t) t.len s
abbrev FSl (W:World) (t:Fs) (s:Value):Prop:=SlOf (FsAt W t) t.len s
theorem SlOf.imp {L L':Nat→Nat→Prop} {k:Nat} {s:Value} (h:SlOf L k s) (hl:∀ b o,L b o→L' b o):SlOf L' k s:=by
 obtain⟨p,c,hs,hp⟩:=h
 exact⟨p,c,hs,hp.imp_right fun ⟨b,o,e,h⟩=>⟨b,o,e,hl b o h⟩⟩
theorem lt_of_cell {w:World} {b o:Nat} {v:Value} (h:w.cell? ⟨b,o,none⟩=some v):b < w.heap.size:=by
 by_cases hb:b < w.heap.size
 ·exact hb
 ·rw[World.cell?,Array.getElem?_eq_none (by simpa using hb)] at h
  simp at h
theorem c_B {w W:World} (hb:Below w.heap.size w W) {b o:Nat} {v:Value} (h:w.cell? ⟨b,o,none⟩=some v):W.cell? ⟨b,o,none⟩=some v:=(hb.cell (p:=⟨b,o,none⟩) (lt_of_cell h)).trans h
theorem TsAt.below {w W:World} (hb:Below w.heap.size w W):∀ {t:Ts} {b o:Nat},TsAt w t b o→TsAt W t b o
 | .nil,_,_,_=>trivial
 | .cons _ _ _ _,_,_,⟨h0,h1,⟨s,h2,hs⟩,hr⟩=>⟨c_B hb h0,c_B hb h1,⟨s,c_B hb h2,hs.imp fun _ _ h=>TsAt.below hb h⟩,TsAt.below hb hr⟩
theorem FsAt.below {w W:World} (hb:Below w.heap.size w W):∀ {t:Fs} {b o:Nat},FsAt w t b o→FsAt W t b o
 | .nil,_,_,_=>trivial
 | .cons _ _ _ _ _,_,_,⟨h0,h1,⟨s,h2,hs⟩,⟨s',h3,hs'⟩,hr⟩=>⟨c_B hb h0,c_B hb h1,⟨s,c_B hb h2,hs.imp fun _ _ h=>TsAt.below hb h⟩,⟨s',c_B hb h3,hs'.imp fun _ _ h=>FsAt.below hb h⟩,FsAt.below hb hr⟩
theorem TSl.below {w W:World} (hb:Below w.heap.size w W) {t:Ts} {s:Value} (h:TSl w t s):TSl W t s:=h.imp fun _ _ h=>TsAt.below hb h
theorem FSl.below {w W:World} (hb:Below w.heap.size w W) {t:Fs} {s:Value} (h:FSl w t s):FSl W t s:=h.imp fun _ _ h=>FsAt.below hb h
theorem TSl.nil_or {W:World} {t:Ts} {s:Value} (h:TSl W t s):∃ p c,s=.slice p t.len c∧(t=.nil∨∃ b o,p=some ⟨b,o,none⟩∧TsAt W t b o):=by
 obtain⟨p,c,hs,h0 | h⟩:=h
 ·cases t with
  | nil=>exact⟨p,c,hs,.inl rfl⟩
  | cons=>simp[Ts.len] at h0
 ·exact⟨p,c,hs,.inr h⟩
theorem FSl.nil_or {W:World} {t:Fs} {s:Value} (h:FSl W t s):∃ p c,s=.slice p t.len c∧(t=.nil∨∃ b o,p=some ⟨b,o,none⟩∧FsAt W t b o):=by
 obtain⟨p,c,hs,h0 | h⟩:=h
 ·cases t with
  | nil=>exact⟨p,c,hs,.inl rfl⟩
  | cons=>simp[Fs.len] at h0
 ·exact⟨p,c,hs,.inr h⟩
theorem cell_new (w:World) (cs:Array Value) (t:TypeId) (i:Nat):(w.alloc (.cells cs t)).cell? ⟨w.heap.size,i,none⟩=cs[i]?:=by
 simp only[World.cell?,heap_alloc_new]
 rfl
theorem bS {w wr w':World} (h:Below w.heap.size w wr) (hb:Below wr.heap.size wr w'):Below w.heap.size w w':=h.trans (hb.mono h.size)
theorem bel_laid (w:World) (o:Obj):Below w.heap.size w (w.alloc o):=Below.alloc (Below.refl _ _) (Nat.le_refl _) _
theorem bel_stepLaid {w wr w':World} {o:Obj} (h:Below w.heap.size w wr) (hb:Below (wr.alloc o).heap.size (wr.alloc o) w'):Below w.heap.size w w':=bS h (bS (bel_laid wr o) hb)
theorem TSl.opened {W:World} {t:Ts} {s:Value} (h:TSl W t s):∃ p c b o,s=.slice p t.len c∧(t.len=0∨p=some ⟨b,o,none⟩)∧TsAt W t b o:=by
 obtain⟨p,c,hs,rfl | ⟨b,o,hp,h⟩⟩:=TSl.nil_or h
 ·exact⟨p,c,0,0,hs,.inl rfl,trivial⟩
 ·exact⟨p,c,b,o,hs,.inr hp,h⟩
theorem FSl.opened {W:World} {t:Fs} {s:Value} (h:FSl W t s):∃ p c b o,s=.slice p t.len c∧(t.len=0∨p=some ⟨b,o,none⟩)∧FsAt W t b o:=by
 obtain⟨p,c,hs,rfl | ⟨b,o,hp,h⟩⟩:=FSl.nil_or h
 ·exact⟨p,c,0,0,hs,.inl rfl,trivial⟩
 ·exact⟨p,c,b,o,hs,.inr hp,h⟩
end Go.Proofs.YtngdieldgnlogaaGreatDoor
namespace Go.Proofs.YtngdieldgnlogaaGreatDoor
open Go Go.RowKit
set_option maxRecDepth 100000
def TermDepth (ts:Ts):Prop:=∀ (v:Bool) (n:ByteArray) (sa:Value) (w:World),TSl w ts sa→ts.size≤1000000 →
 Calls Tryz.prog 72 #[.agg #[.bool v,.string n,sa]] w fun e w'=>e=.returned (.int .i64 (1+(ts.deep:Int)))∧Below w.heap.size w w'
set_option maxHeartbeats 1000000 in
theorem deepestT_any (ts:Ts) (ih:∀ t:Ts,t.size < ts.size→TermDepth t) (sa:Value) (w:World) (h:TSl w ts sa) (hs:ts.size≤1000000) :
  Calls Tryz.prog 71 #[sa,.func (.func 72) #[] #[]] w fun e w'=>e=.returned (.int .i64 (ts.deep:Int))∧Below w.heap.size w w':=by
 obtain⟨p,c,b,o,rfl,hp,ht⟩:=TSl.opened h
 go_enter Tryz.func71,Tryz.ntmps71
 go_wp2
 go_loopw [5,10] (fun g i wr=>∃ (k m:Nat) (r:Ts),g=.int .i64 m∧i=.int .i64 k∧k+r.len=ts.len∧max m r.deep=ts.deep∧r.size≤ts.size∧TsAt wr r b (o+k*3)∧Below w.heap.size w wr) (fun _ i _=>ts.len - (intOf i).toNat)
 case atStart=>exact⟨0,0,ts,rfl,rfl,by omega,by omega,Nat.le_refl _,by simpa using ht,Below.refl _ _⟩
 case round =>
  obtain⟨k,m,r,rfl,rfl,hk,hm,hr,hat,hbw⟩:=hrel
  have hl:=ts.len_le
  have hd:=ts.deep_le
  cases r with
  | nil =>
   simp only[Ts.len] at hk
   have hk':k=ts.len:=by omega
   subst hk'
   have em:m=ts.deep:=by simp only[Ts.deep] at hm;omega
   subst em
   go_wp2
   go_ret
   exact⟨rfl,hbw⟩
  | cons v n as' r' =>
   simp only[Ts.len] at hk
   obtain⟨c0,c1,⟨s,c2,hs2⟩,hat'⟩:=hat
   have hs3:=h_X hs2
   obtain⟨ps,cs,rfl,-⟩:=hs2
   rcases hp with hp | hp
   ·omega
   subst hp
   have hlt:(k:Int) < (ts.len:Int):=by omega
   have hsz:as'.size < ts.size:=by simp only[Ts.size] at hr;omega
   have ih':=h_X (ih as' hsz)
   clear ih
   have hd':=as'.deep_le
   go_wp2_with (go_at_call 72;refine(ih'.out v n (.slice ps as'.len cs) _ (TSl.below (Below.alloc (Below.refl _ _) (Nat.le_refl _) _) hs3.out) (by omega)).mono ?_;rintro e w' ⟨rfl,hb2⟩)
   go_roundw
   case rel =>
    refine⟨k+1,max m (as'.deep+1),r',?_,by go_num,by omega,?_,?_,?_,bel_stepLaid hbw hb2⟩
    ·congr 1
     split<;>omega
    ·simp only[Ts.deep] at hm;omega
    ·simp only[Ts.size] at hr;omega
    ·have:=TsAt.below (bS (bel_laid wr _) hb2) hat'
     rwa [show o+(k+1)*3=o+k*3+3 by omega]
   case measure=>simp[intOf];omega
theorem termDepth_any (ts:Ts):TermDepth ts:=by
 intro v n sa w h hs
 have hd:=h_X (deepestT_any ts (fun t _=>termDepth_any t))
 have hdl:=ts.deep_le
 obtain⟨p,c,hsa,-⟩:=id h
 subst hsa
 go_enter Tryz.func72,Tryz.ntmps72
 go_wp2_with (go_at_call 71;refine(hd.out _ _ (TSl.below (bel_laid _ _) h) hs).mono ?_;rintro e w' ⟨rfl,hb2⟩)
 go_ret
 exact⟨rfl,bel_stepLaid (Below.refl _ _) hb2⟩
termination_by ts.size
structure FT where
 op:Int
 n:ByteArray
 ts:Ts
 sub:Fs
def FT.size (f:FT):Nat:=f.ts.size+f.sub.size+1
def FT.deep (f:FT):Nat:=max f.ts.deep f.sub.deep+1
def FVal (W:World) (f:FT) (v:Value):Prop:=∃ sa ss,v=.agg #[.int .u8 f.op,.string f.n,sa,ss]∧TSl W f.ts sa∧FSl W f.sub ss
theorem FVal.below {w W:World} (hb:Below w.heap.size w W) {f:FT} {v:Value} (h:FVal w f v):FVal W f v:=by
 obtain⟨sa,ss,hv,h1,h2⟩:=h
 exact⟨sa,ss,hv,TSl.below hb h1,FSl.below hb h2⟩
def DepthOf (f:FT):Prop:=∀ (v:Value) (w:World),FVal w f v→f.size≤1000000 →
 Calls Tryz.prog 21 #[v] w fun e w'=>e=.returned (.int .i64 (f.deep:Int))∧Below w.heap.size w w'
set_option maxHeartbeats 1000000 in
theorem deepestF_any (ts:Fs) (ih:∀ f:FT,f.size≤ts.size→DepthOf f) (sa:Value) (w:World) (h:FSl w ts sa) (hs:ts.size≤1000000) :
  Calls Tryz.prog 73 #[sa,.func (.func 21) #[] #[]] w fun e w'=>e=.returned (.int .i64 (ts.deep:Int))∧Below w.heap.size w w':=by
 obtain⟨p,c,b,o,rfl,hp,ht⟩:=FSl.opened h
 go_enter Tryz.func73,Tryz.ntmps73
 go_wp2
 go_loopw [5,10] (fun g i wr=>∃ (k m:Nat) (r:Fs),g=.int .i64 m∧i=.int .i64 k∧k+r.len=ts.len∧max m r.deep=ts.deep∧r.size≤ts.size∧FsAt wr r b (o+k*4)∧Below w.heap.size w wr) (fun _ i _=>ts.len - (intOf i).toNat)
 case atStart=>exact⟨0,0,ts,rfl,rfl,by omega,by omega,Nat.le_refl _,by simpa using ht,Below.refl _ _⟩
 case round =>
  obtain⟨k,m,r,rfl,rfl,hk,hm,hr,hat,hbw⟩:=hrel
  have hl:=ts.len_le
  have hd:=ts.deep_le
  cases r with
  | nil =>
   simp only[Fs.len] at hk
   have hk':k=ts.len:=by omega
   subst hk'
   have em:m=ts.deep:=by simp only[Fs.deep] at hm;omega
   subst em
   go_wp2
   go_ret
   exact⟨rfl,hbw⟩
  | cons op n t1 sub r' =>
   simp only[Fs.len] at hk
   obtain⟨c0,c1,⟨s,c2,hs2⟩,⟨s',c3,hs2'⟩,hat'⟩:=hat
   have hs3:=h_X hs2
   have hs3':=h_X hs2'
   obtain⟨ps,cs,rfl,-⟩:=hs2
   obtain⟨ps',cs',rfl,-⟩:=hs2'
   rcases hp with hp | hp
   ·omega
   subst hp
   have hlt:(k:Int) < (ts.len:Int):=by omega
   have hsz:(FT.mk op n t1 sub).size≤ts.size:=by simp only[FT.size];simp only[Fs.size] at hr;omega
   have ih':=h_X (ih ⟨op,n,t1,sub⟩ hsz)
   clear ih
   have hd':(FT.mk op n t1 sub).deep=max t1.deep sub.deep+1:=rfl
   have hd1:=t1.deep_le
   have hd2:=sub.deep_le
   simp only[FT.size] at hsz
   go_wp2_with (go_at_call 21;refine(ih'.out _ _ ⟨_,_,rfl,TSl.below (bel_laid _ _) hs3.out,FSl.below (bel_laid _ _) hs3'.out⟩ (by simp only[FT.size];omega)).mono ?_;rintro e w' ⟨rfl,hb2⟩)
   go_roundw
   case rel =>
    refine⟨k+1,max m (FT.mk op n t1 sub).deep,r',?_,by go_num,by omega,?_,?_,?_,bel_stepLaid hbw hb2⟩
    ·congr 1
     split<;>omega
    ·rw[hd'];simp only[Fs.deep] at hm;omega
    ·simp only[Fs.size] at hr;omega
    ·have:=FsAt.below (bS (bel_laid wr _) hb2) hat'
     rwa [show o+(k+1)*4=o+k*4+4 by omega]
   case measure=>simp[intOf];omega
def Boxed4 (W:World) (g:Nat) (op:Int) (n:ByteArray) (sa ss:Value):Prop :=
 W.cell? ⟨g,0,none⟩=some (.int .u8 op)∧W.cell? ⟨g,1,none⟩=some (.string n)∧W.cell? ⟨g,2,none⟩=some sa∧W.cell? ⟨g,3,none⟩=some ss
theorem Boxed4.laid (w:World) (op:Int) (n:ByteArray) (sa ss:Value) (t:TypeId):Boxed4 (w.alloc (.cells #[.int .u8 op,.string n,sa,ss] t)) w.heap.size op n sa ss :=
 ⟨by rw[cell_new];rfl,by rw[cell_new];rfl,by rw[cell_new];rfl,by rw[cell_new];rfl⟩
theorem Boxed4.below {w W:World} (hb:Below w.heap.size w W) {g:Nat} {op:Int} {n:ByteArray} {sa ss:Value} (h:Boxed4 w g op n sa ss):Boxed4 W g op n sa ss :=
 ⟨c_B hb h.1,c_B hb h.2.1,c_B hb h.2.2.1,c_B hb h.2.2.2⟩
def Kept (f:FT) (sa ss:Value) (w V:World):Prop:=Below w.heap.size w V∧TSl V f.ts sa∧FSl V f.sub ss
theorem Kept.next {f:FT} {sa ss:Value} {w V V':World} (h:Kept f sa ss w V) (hb:Below V.heap.size V V'):Kept f sa ss w V':=⟨bS h.1 hb,TSl.below hb h.2.1,FSl.below hb h.2.2⟩
theorem bel_drew (w:World):Below w.heap.size w w.drew:=⟨rfl,rfl,rfl,Nat.le_refl _,fun _ _=>rfl⟩
theorem deepT_keep (f:FT) (sa ss:Value) (w V:World) (g:Nat) (hsz:f.ts.size≤1000000) (h:V.cell? ⟨g,2,none⟩=some sa∧V.cell? ⟨g,3,none⟩=some ss∧Kept f sa ss w V) :
  Calls Tryz.prog 71 #[sa,.func (.func 72) #[] #[]] V fun e w'=>e=.returned (.int .i64 (f.ts.deep:Int))∧w'.cell? ⟨g,2,none⟩=some sa∧w'.cell? ⟨g,3,none⟩=some ss∧Kept f sa ss w w' :=
 (deepestT_any f.ts (fun t _=>termDepth_any t) sa V h.2.2.2.1 hsz).mono fun _ _ ⟨he,hb⟩=>⟨he,c_B hb h.1,c_B hb h.2.1,h.2.2.next hb⟩
theorem deepF_keep (f:FT) (ih:∀ t:FT,t.size≤f.sub.size→DepthOf t) (sa ss:Value) (w V:World) (g:Nat) (hsz:f.sub.size≤1000000) (h:V.cell? ⟨g,2,none⟩=some sa∧V.cell? ⟨g,3,none⟩=some ss∧Kept f sa ss w V) :
  Calls Tryz.prog 73 #[ss,.func (.func 21) #[] #[]] V fun e w'=>e=.returned (.int .i64 (f.sub.deep:Int))∧w'.cell? ⟨g,2,none⟩=some sa∧w'.cell? ⟨g,3,none⟩=some ss∧Kept f sa ss w w' :=
 (deepestF_any f.sub ih ss V h.2.2.2.2 hsz).mono fun _ _ ⟨he,hb⟩=>⟨he,c_B hb h.1,c_B hb h.2.1,h.2.2.next hb⟩
set_option maxHeartbeats 1000000 in
theorem depth_any (f:FT):DepthOf f:=by
  intro v w hv hs
  obtain⟨sa,ss,rfl,ha,hss⟩:=hv
  obtain⟨p,c,hsa,-⟩:=id ha
  obtain⟨p',c',hsb,-⟩:=id hss
  subst hsa hsb
  simp only[FT.size] at hs
  have d1:=f.ts.deep_le
  have d2:=f.sub.deep_le
  have hT:=h_X (fun V g=>deepT_keep f (.slice p f.ts.len c) (.slice p' f.sub.len c') w V g (by omega))
  have hF:=h_X (fun V g=>deepF_keep f (fun t _=>depth_any t) (.slice p f.ts.len c) (.slice p' f.sub.len c') w V g (by omega))
  have hfd:f.deep=max f.ts.deep f.sub.deep+1:=rfl
  go_enter Tryz.func21,Tryz.ntmps21
  go_wp2_with fail
  obtain⟨W,hW⟩:∃ W,w.alloc (.cells #[.int .u8 f.op,.string f.n,.slice p f.ts.len c,.slice p' f.sub.len c'] 25)=W:=⟨_,rfl⟩
  obtain⟨-,-,b2,b3⟩:=Boxed4.laid w f.op f.n (.slice p f.ts.len c) (.slice p' f.sub.len c') 25
  have hbl:=bel_laid w (.cells #[.int .u8 f.op,.string f.n,.slice p f.ts.len c,.slice p' f.sub.len c'] 25)
  rw[hW] at b2 b3 hbl ⊢
  clear hW
  have hk:Kept f (.slice p f.ts.len c) (.slice p' f.sub.len c') w W.drew:=Kept.next ⟨hbl,TSl.below hbl ha,FSl.below hbl hss⟩ (bel_drew W)
  clear hbl ha hss
  generalize w.heap.size=g at b2 b3 ⊢
  go_region_held3 (fun V=>V.cell? ⟨g,2,none⟩=some (.slice p f.ts.len c)∧V.cell? ⟨g,3,none⟩=some (.slice p' f.sub.len c')∧Kept f (.slice p f.ts.len c) (.slice p' f.sub.len c') w V) (first | assumption | exact⟨b2,b3,hk⟩)
    (first
      | (go_at_call 71;with_reducible refine(hT.out _ g (by assumption)).mono ?_;rintro e w' ⟨rfl,hSS⟩)
      | (go_at_call 73;with_reducible refine(hF.out _ g (by assumption)).mono ?_;rintro e w' ⟨rfl,hSS⟩))
  have hw:IntKind.i64.wrap (1+if f.ts.deep < f.sub.deep then (f.sub.deep:Int) else f.ts.deep)=(f.deep:Int):=by
    have e:(1+if f.ts.deep < f.sub.deep then (f.sub.deep:Int) else f.ts.deep)=(f.deep:Int):=by split<;>omega
    rw[e,IntKind.wrap_i64]
    omega
  rw[hw]
  clear hfd hw
  have hfin:=hSS.2.2.1
  clear hSS
  go_wp2
  all_goals go_ret
  all_goals exact⟨rfl,hfin⟩
termination_by f.size
decreasing_by rename_i h;simp only[FT.size] at *;omega
end Go.Proofs.YtngdieldgnlogaaGreatDoor
namespace Go.Proofs.YtngdieldgnlogaaGreatDoor
open Go Go.RowKit
set_option maxRecDepth 100000
set_option linter.unusedVariables false
theorem sameTerms_nil (p p':Option Addr) (c c':Nat) (w:World) :
  Calls Tryz.prog 75 #[.slice p 0 c,.slice p' 0 c'] w fun e w'=>e=.returned (.bool true)∧w'=w:=by
 go_enter Tryz.func75,Tryz.ntmps75
 go_wp2_with fail
 go_loopw [5] (fun i wr=>i=.int .i64 0∧wr=w) (fun _ _=>0)
 case atStart=>exact⟨rfl,rfl⟩
 case round =>
  obtain⟨rfl,rfl⟩:=hrel
  go_wp2_with fail
  go_ret
  exact⟨rfl,rfl⟩
theorem sameForms_nil (p p':Option Addr) (c c':Nat) (w:World) :
  Calls Tryz.prog 26 #[.slice p 0 c,.slice p' 0 c'] w fun e w'=>e=.returned (.bool true)∧w'=w:=by
 go_enter Tryz.func26,Tryz.ntmps26
 go_wp2_with fail
 go_loopw [5] (fun i wr=>i=.int .i64 0∧wr=w) (fun _ _=>0)
 case atStart=>exact⟨rfl,rfl⟩
 case round =>
  obtain⟨rfl,rfl⟩:=hrel
  go_wp2_with fail
  go_ret
  exact⟨rfl,rfl⟩
theorem sameLeaf (op:Int) (n:ByteArray) (p p' q q':Option Addr) (c c' d d':Nat) (w:World) :
  Calls Tryz.prog 25 #[.agg #[.int .u8 op,.string n,.slice p 0 c,.slice q 0 d],.agg #[.int .u8 op,.string n,.slice p' 0 c',.slice q' 0 d']] w fun e w'=>e=.returned (.bool true)∧Below w.heap.size w w':=by
 have hb:=bel_stepLaid (bel_laid w (.cells #[.int .u8 op,.string n,.slice p 0 c,.slice q 0 d] 25)) (Below.refl _ ((w.alloc (.cells #[.int .u8 op,.string n,.slice p 0 c,.slice q 0 d] 25)).alloc (.cells #[.int .u8 op,.string n,.slice p' 0 c',.slice q' 0 d'] 25)))
 have T:=h_X (fun V=>sameTerms_nil p p' c c' V)
 have F:=h_X (fun V=>sameForms_nil q q' d d' V)
 have e1:(op == op)=true:=by simp
 have e2:(n.toList == n.toList)=true:=by simp
 go_enter Tryz.func25,Tryz.ntmps25
 go_wp2_with (first
  | (go_at_call 75;refine(T.out _).mono ?_;rintro e w1 ⟨rfl,rfl⟩)
  | (go_at_call 26;refine(F.out _).mono ?_;rintro e w1 ⟨rfl,rfl⟩))
 go_ret
 exact⟨rfl,hb⟩
end Go.Proofs.YtngdieldgnlogaaGreatDoor
