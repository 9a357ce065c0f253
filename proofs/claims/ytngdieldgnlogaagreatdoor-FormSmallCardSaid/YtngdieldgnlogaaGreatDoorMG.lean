/- A range over a function: a contract of an iterator that tells the list T that comes, and the caller's law over it. The parts of a formula, one after the other: eachPart and parts. The parts, for rounds that move blocks of their own: which blocks a round keeps may hang on the world. The parts, for rounds that move blocks of their own, a map among them. -/
import Derived.RangeFuncNested
import Derived.RangeFuncBound
import Derived.RangeFuncCalls
import Derived.RangeFuncLeaves
import Derived.Shelf.Abstract
import Derived.Shelf.RegionOpen
import Derived.OwnWalkIn
import Derived.TacticsInMore
import Derived.LoopNIn
import Derived.LoopIn
import Derived.Test.YtngdieldgnlogaaGreatDoorMT
namespace Go.Proofs.YtngdieldgnlogaaGreatDoor
open Go Go.RowKit
set_option maxRecDepth 100000
def KL (L:List Nat) (K:Nat) (W W':World):Prop:=W.heap.size≤W'.heap.size∧(∀ b o v,b∉L→W.cell? ⟨b,o,none⟩=some v→W'.cell? ⟨b,o,none⟩=some v) ∧
 ∀ k o,K≤k→W.heap[k]? = some o→o.isCells=false→W'.heap[k]? = some o
theorem KL.refl (L:List Nat) (K:Nat) (W:World):KL L K W W:=⟨Nat.le_refl _,fun _ _ _ _ h=>h,fun _ _ _ h _=>h⟩
theorem KL.trans {L:List Nat} {K:Nat} {A B C:World} (h:KL L K A B) (h':KL L K B C):KL L K A C :=
 ⟨Nat.le_trans h.1 h'.1,fun b o v hb hc=>h'.2.1 b o v hb (h.2.1 b o v hb hc),fun k o hk ho hn=>h'.2.2 k o hk (h.2.2 k o hk ho hn) hn⟩
theorem KL.of_below {L:List Nat} {K:Nat} {W W':World} (h:Below W.heap.size W W'):KL L K W W' :=
 ⟨h.size,fun _ _ _ _ hc=>c_B h hc,fun k _ _ ho _=>(h.block k (Array.getElem?_eq_some_iff.1 ho).1).trans ho⟩
theorem KL.more {L:List Nat} {K K':Nat} {W W':World} (h:KL L K W W') (hK:K≤K'):KL L K' W W':=⟨h.1,h.2.1,fun k o hk=>h.2.2 k o (Nat.le_trans hK hk)⟩
theorem KL.from {L:List Nat} {K B:Nat} {W W':World} (h:KL L K W W') (hK:K≤B):KeepsFrom B W W':=⟨h.1,fun k o hk=>h.2.2 k o (Nat.le_trans hK hk)⟩
theorem KL.put {L:List Nat} {K:Nat} {W:World} {l:Nat} {o:Obj} (o':Obj) (hl:W.heap[l]? = some o) (ho:o.isCells=false) (hK:l < K):KL L K W (W.putObj l o'):=by
 refine⟨by simp[World.putObj],fun b i v _ hc=>?_,fun k o2 hk h2 _=>?_⟩
 ·have hne:l≠b:=by
   rintro rfl
   unfold World.cell? at hc
   rw[hl] at hc
   cases o<;>simp_all [Obj.isCells]
  have:(W.putObj l o').heap[b]? = W.heap[b]?:=World.putObj_heap_other (Ne.symm hne)
  unfold World.cell? at hc ⊢
  rw[this]
  exact hc
 ·rw[World.putObj_heap_other (by omega)]
  exact h2
theorem ne_of_cells {V:World} {c l i:Nat} {v:Value} {o:Obj} (h:V.cell? ⟨c,i,none⟩=some v) (hl:V.heap[l]? = some o) (ho:o.isCells=false):c≠l:=by
 rintro rfl
 unfold World.cell? at h
 rw[hl] at h
 cases o<;>simp_all [Obj.isCells]
theorem keeps_trans {K:Nat} {A B C:World} (h:KeepsFrom K A B) (h':KeepsFrom K B C):KeepsFrom K A C:=⟨Nat.le_trans h.size h'.size,fun k o hk ho hn=>h'.same k o hk (h.same k o hk ho hn) hn⟩
theorem keeps_more {K K':Nat} {A B:World} (h:KeepsFrom K A B) (hK:K≤K'):KeepsFrom K' A B:=⟨h.size,fun k o hk=>h.same k o (Nat.le_trans hK hk)⟩
theorem keeps_put {K l:Nat} (W:World) (o':Obj) (hK:l < K):KeepsFrom K W (W.putObj l o'):=⟨by simp[World.putObj],fun k o hk ho _=>by rw[World.putObj_heap_other (by omega)];exact ho⟩
section
variable {α τ : Type} {n : Nat} {P : Program} {w : World}
def SeqO (n:Nat) (P:Program) (g:Nat) (lb:Array Value) (encs:α→Array Value) (Kp:World→World→Prop) (tr:α→τ) (T:List τ) (w:World) (K:Nat):Prop :=
  ∀ (l:Nat) (J Jx:List α→World→Prop) (W:World),Below w.heap.size w W→K≤W.heap.size→OwnFrom W.heap.size J→OwnFrom W.heap.size Jx →
    (∀ m pre x W1,J pre W1→(pre ++ [x]).map tr <+: T→YieldAt Fence.wide m P l (encs x) W1 fun e W' =>
      (e=.returned (.bool true)∧J (pre ++ [x]) W'∧Kp W1 W')∨(e=.returned (.bool false)∧Jx (pre ++ [x]) W'∧KeepsFrom K W1 W')) →
    J [] W →
    CallsIn Fence.wide n P g (#[.func (.yield l) #[] #[]] ++ lb) W fun e W'=>(∃ v,e=.returned v)∧((∃ xs:List α,xs.map tr=T∧J xs W')∨(∃ pre:List α,pre.map tr <+: T∧Jx pre W'))
theorem wpIn_rangeFunc_O {g:Operand} {ps:Array Tmp} {assign body:Code} {Q:Exit→Act→World→Prop} {a:Act} {w:World}
    {gf:Nat} {lb:Array Value} (hg:a.eval g=.func (.func gf) #[] lb) (eg:∀ args w,(callFunc gf args).run P w=.ok (.enter gf args) w)
    {encs:α→Array Value} {Kp:World→World→Prop} {tr:α→τ} {T:List τ} {w0:World} (hseq:SeqO (n - 1) P gf lb encs Kp tr T w0 (w.heap.size+2))
    (hKt:∀ {A B C:World},Kp A B→Kp B C→Kp A C) (hKb:∀ (W:World) (l:Nat) (o o':Obj),w.heap.size≤l→l < w.heap.size+2→W.heap[l]? = some o→o.isCells=false→o.isWalk=false→Kp W (W.putObj l o')) (hb0:Below w0.heap.size w0 w) (hps:∀ x,(encs x).size=ps.size)
    (I:List α→World→Prop) (Ix:Code→List α→World→Prop) (hI:OwnFrom w.heap.size I) (hIx:∀ c,OwnFrom w.heap.size (Ix c)) (h0:I [] w) (Ax:α→Act→World→Prop) (hAx:∀ x a',OwnFrom w.heap.size (fun (_:Unit) W=>Ax x a' W))
    (hassign:∀ (m:Nat) (l:Nat) (pre:List α) (x:α) (W:World) (K:Act→World→Prop),I pre W→(∀ a' W',KeepsFrom w.heap.size W W'→Kp W W'→I pre W'→Ax x a' W'→K a' W') →
      assign.wpIn (Fence.wide.inRound l) m P (Exit.then K (fun _ _ _=>False)) { tmps:=(ps.zip (encs x)).foldl (fun t (p,v)=>t.setIfInBounds p v) a.tmps,defers:=[] } W)
    (hbody:∀ (m:Nat) (l:Nat) (pre:List α) (x:α) (a':Act) (W:World),w.heap.size≤l→(∃ r,W.heap[l]? = some (.loop r))→I pre W→Ax x a' W→(pre ++ [x]).map tr <+: T→body.wpIn (Fence.wide.inRound l) m P (ownPostG w.heap.size Kp I Ix (pre ++ [x]) W) a' W)
    (hdone:∀ (D:Nat) (xs:List α) (W:World),w.heap.size≤D→xs.map tr=T→I xs W→W.heap[D]? = some (.deferred (some []))→Q .normal { a with defers:={ target:=.collected D,args:=#[] } :: a.defers } W)
    (hstop:∀ (D:Nat) (c:Code) (pre:List α) (W:World),w.heap.size≤D→pre.map tr <+: T→Ix c pre W→W.heap[D]? = some (.deferred (some []))→c.wpIn Fence.wide n P Q { a with defers:={ target:=.collected D,args:=#[] } :: a.defers } W) :
    (Code.rangeFunc g ps assign body).wpIn Fence.wide n P Q a w:=by
  refine wpIn_rangeFunc ?_
  intro fn hfn
  rw[show Fence.wide.round=none from rfl]
  obtain⟨rec,hrec⟩:∃ rec:LoopState→Option Code→Loop,rec=fun st pe=>{ state:=st,pending:=pe,fn,tmps:=a.tmps,params:=ps,assign,body,defers:=w.heap.size }:=⟨_,rfl⟩
  obtain⟨V,hV⟩:∃ V,(w.alloc (.deferred (some []))).alloc (.loop (rec .ready none))=V:=⟨_,rfl⟩
  have sz:V.heap.size=w.heap.size+2:=by rw[←hV];simp
  have hl1:V.heap[w.heap.size+1]? = some (.loop (rec .ready none)):=by
    have:=World.alloc_heap_new (w.alloc (.deferred (some []))) (.loop (rec .ready none))
    rw[World.size_alloc] at this
    rw[←hV];exact this
  have hd1:V.heap[w.heap.size]? = some (.deferred (some [])):=by
    rw[←hV];exact(Below.heap_alloc _ _ _ (by simp)).trans (World.alloc_heap_new w _)
  have hI1:I [] V:=by rw[←hV];exact hI.alloc _ (hI.alloc _ h0)
  have hb1:Below w0.heap.size w0 V:=by
    rw[←hV]
    exact hb0.trans ((((Below.refl _ w).alloc (Nat.le_refl _) _).alloc (by simp) _).mono hb0.size)
  refine⟨w.heap.size+1,[{ target:=.collected w.heap.size,args:=#[] }],V,{ target:=.fn (.func gf) lb,args:=#[.func (.yield (w.heap.size+1)) #[] #[]] },V,gf,
    #[.func (.yield (w.heap.size+1)) #[] #[]] ++ lb,V,?_,?_,?_,?_,fun h=>(by cases h),?_⟩
  · rw[←hV,hrec];exact run_enterLoop_outer _ _ _ _ _
  · simp only[resolve,hg]
    simp[go_sem]
  · intro f' _;trivial
  · simp[invoke,go_sem,eg]
  ·
    have low:∀ {A B:World} {row:Option Nat} {k:Nat} {o:Obj},A.grownBy B row→(∀ r,row=some r→V.heap.size≤r∧∃ o:Obj,A.heap[r]? = some o∧o.isCells=false)→k < V.heap.size→A.heap[k]? = some o→B.heap[k]? = some o:=by
      intro A B row k o hg' hr hk ho
      have hA:k < A.heap.size:=(Array.getElem?_eq_some_iff.1 ho).1
      rw[hg'.block k hA (fun e=>by have:=(hr k e.symm).1;omega)]
      exact ho
    have up:∀ {A:World} {row:Option Nat},(∀ r,row=some r→V.heap.size≤r∧∃ o:Obj,A.heap[r]? = some o∧o.isCells=false)→(∀ r,row=some r→w.heap.size≤r∧∃ o:Obj,A.heap[r]? = some o∧o.isCells=false) :=
      fun hr r e=>⟨by have:=(hr r e).1;omega,(hr r e).2⟩
    refine(hseq (w.heap.size+1)
      (fun pre W=>I pre W∧W.heap[w.heap.size+1]? = some (.loop (rec .ready none))∧W.heap[w.heap.size]? = some (.deferred (some [])))
      (fun pre W=>∃ c,Ix c pre W∧W.heap[w.heap.size+1]? = some (.loop (rec .done (some c)))∧W.heap[w.heap.size]? = some (.deferred (some [])))
      V hb1 (by omega)
      (fun s A B row hs hg' hr=>⟨hI s A B row hs.1 hg' (up hr),low hg' hr (by omega) hs.2.1,low hg' hr (by omega) hs.2.2⟩)
      (fun s A B row hs hg' hr=>by
        obtain⟨c,hc,hl,hk⟩:=hs
        exact⟨c,hIx c s A B row hc hg' (up hr),low hg' hr (by omega) hl,low hg' hr (by omega) hk⟩)
      ?_ ⟨hI1,hl1,hd1⟩).mono ?_
    · rintro m pre x W ⟨hi,hl,hk⟩ hpre
      have hy:=run_yield (P:=P) (args:=encs x) hl (by rw[hrec];exact hps x)
      rw[hrec] at hy
      refine⟨fn,_,assign,body,hy,roundIn_of_wpIn hfn (hassign _ _ pre x W _ hi ?_)⟩
      clear hy
      intro a' X hkf hkp hia hax
      have hlX:=hkf.same _ _ (by omega) hl rfl
      have hkX:=hkf.same _ _ (Nat.le_refl _) hk rfl
      have ltX:w.heap.size+1 < X.heap.size:=(Array.getElem?_eq_some_iff.1 hlX).1
      refine⟨_,run_beginRound hlX (by rw[hrec]),?_⟩
      obtain⟨Y,hY⟩:∃ Y,X.putObj (w.heap.size+1) (.loop { rec .ready none with state:=.busy })=Y:=⟨_,rfl⟩
      have hlY:Y.heap[w.heap.size+1]? = some (.loop { rec .ready none with state:=.busy }):=by rw[←hY];exact World.putObj_heap_same ltX
      have hkY:Y.heap[w.heap.size]? = some (.deferred (some [])):=by rw[←hY];exact(World.putObj_heap_other (by omega)).trans hkX
      have hkpY:Kp X Y:=by rw[←hY];exact hKb _ _ _ _ (by omega) (by omega) hlX rfl rfl
      have hiY:I pre Y:=by rw[←hY];exact hI.putObj _ hia (by omega) hlX rfl
      have haY:Ax x a' Y:=by rw[←hY];exact(hAx x a').putObj (s:=()) _ hax (by omega) hlX rfl
      rw[hY]
      refine wpIn_mono (hbody _ _ pre x a' Y (by omega) ⟨_,hlY⟩ hiY haY hpre) ?_
      have fin:∀ (jump:Option Code) (Z:World),KeepsFrom w.heap.size Y Z →
          (Instr.endRound (w.heap.size+1) jump).run P Z=.ok (.bool jump.isNone) (Z.putObj (w.heap.size+1) (.loop (rec (if jump.isNone then .ready else .done) jump))) ∧
          Z.heap[w.heap.size+1]? = some (.loop { rec .ready none with state:=.busy }) ∧
          (Z.putObj (w.heap.size+1) (.loop (rec (if jump.isNone then .ready else .done) jump))).heap[w.heap.size+1]? = some (.loop (rec (if jump.isNone then .ready else .done) jump)) ∧
          (Z.putObj (w.heap.size+1) (.loop (rec (if jump.isNone then .ready else .done) jump))).heap[w.heap.size]? = some (.deferred (some [])):=fun jump Z hz=>by
        have h3:=hz.same _ _ (by omega) hlY rfl
        have h4:=run_endRound (P:=P) jump h3
        rw[hrec] at h4 ⊢
        exact⟨h4,by rw[hrec] at h3;exact h3,World.putObj_heap_same (Array.getElem?_eq_some_iff.1 h3).1,(World.putObj_heap_other (by omega)).trans (hz.same _ _ (Nat.le_refl _) hkY rfl)⟩
      have kout:∀ (o:Obj) (Z:World),KeepsFrom w.heap.size Y Z→KeepsFrom (w.heap.size+2) W (Z.putObj (w.heap.size+1) o):=fun o Z hz =>
        keeps_trans (keeps_more hkf (by omega)) (keeps_trans (by rw[←hY];exact keeps_put _ _ (by omega)) (keeps_trans (keeps_more hz (by omega)) (keeps_put _ _ (by omega))))
      have out:∀ (c:Code) (Z:World),KeepsFrom w.heap.size Y Z∧Ix c (pre ++ [x]) Z→_:=fun c Z hz=>fin (some c) Z hz.1
      rintro e b Z hp
      cases e with
      | normal =>
        obtain⟨hz,hkz,hiz⟩:=hp
        obtain⟨hr,h3,h4,h5⟩:=fin none Z hz
        exact⟨_,_,hr,.inl ⟨rfl,⟨hI.putObj _ hiz (by omega) h3 rfl,h4,h5⟩,hKt hkp (hKt (hKt hkpY hkz) (hKb _ _ _ _ (by omega) (by omega) h3 rfl rfl))⟩⟩
      | ret =>
        obtain⟨hr,h3,h4,h5⟩:=out .ret Z hp
        exact⟨_,_,hr,.inr ⟨rfl,⟨.ret,(hIx _).putObj _ hp.2 (by omega) h3 rfl,h4,h5⟩,kout _ _ hp.1⟩⟩
      | exit id =>
        obtain⟨hr,h3,h4,h5⟩:=out (.exit id) Z hp
        exact⟨_,_,hr,.inr ⟨rfl,⟨.exit id,(hIx _).putObj _ hp.2 (by omega) h3 rfl,h4,h5⟩,kout _ _ hp.1⟩⟩
      | goto t =>
        obtain⟨hr,h3,h4,h5⟩:=out (.goto t) Z hp
        exact⟨_,_,hr,.inr ⟨rfl,⟨.goto t,(hIx _).putObj _ hp.2 (by omega) h3 rfl,h4,h5⟩,kout _ _ hp.1⟩⟩
      | panic ch=>exact hp.elim
      | outgrown=>exact hp.elim
    · rintro e Z ⟨⟨v,rfl⟩,(⟨xs,hS,hi,hl,hk⟩ | ⟨pre,hSp,c,hi,hl,hk⟩)⟩
      · exact⟨none,_,by have:=run_endLoop (P:=P) hl (by rw[hrec];simp);rw[hrec] at this;exact this,hdone _ xs _ (Nat.le_refl _) hS (hI.putObj _ hi (by omega) hl rfl) ((World.putObj_heap_other (by omega)).trans hk)⟩
      · exact⟨some c,_,by have:=run_endLoop (P:=P) hl (by rw[hrec];simp);rw[hrec] at this;exact this,hstop _ c pre _ (Nat.le_refl _) hSp ((hIx c).putObj _ hi (by omega) hl rfl) ((World.putObj_heap_other (by omega)).trans hk)⟩
end
end Go.Proofs.YtngdieldgnlogaaGreatDoor
namespace Go.Proofs.YtngdieldgnlogaaGreatDoor
open Go Go.RowKit Go.Shelf
set_option maxRecDepth 100000
attribute [local go_sem] Oper.semAt_some
def Ext (w W:World):Prop:=∀ b o v,w.cell? ⟨b,o,none⟩=some v→W.cell? ⟨b,o,none⟩=some v
theorem Ext.refl (w:World):Ext w w:=fun _ _ _ h=>h
theorem Ext.of_below {w W:World} (h:Below w.heap.size w W):Ext w W:=fun _ _ _ hc=>c_B h hc
theorem Ext.trans {A B C:World} (h:Ext A B) (h':Ext B C):Ext A C:=fun b o v hc=>h' b o v (h b o v hc)
theorem Ext.keep {L:List Nat} {K:Nat} {w A B:World} (h:Ext w A) (hk:KL L K A B) (hL:∀ b∈L,w.heap.size≤b):Ext w B:=fun b o v hc =>
 hk.2.1 b o v (fun hb=>by have:=hL b hb;have:=lt_of_cell hc;omega) (h b o v hc)
theorem TsAt.ext {w W:World} (hb:Ext w W):∀ {t:Ts} {b o:Nat},TsAt w t b o→TsAt W t b o
 | .nil,_,_,_=>trivial
 | .cons _ _ _ _,_,_,⟨h0,h1,⟨s,h2,hs⟩,hr⟩=>⟨hb _ _ _ h0,hb _ _ _ h1,⟨s,hb _ _ _ h2,hs.imp fun _ _ h=>TsAt.ext hb h⟩,TsAt.ext hb hr⟩
theorem FsAt.ext {w W:World} (hb:Ext w W):∀ {t:Fs} {b o:Nat},FsAt w t b o→FsAt W t b o
 | .nil,_,_,_=>trivial
 | .cons _ _ _ _ _,_,_,⟨h0,h1,⟨s,h2,hs⟩,⟨s',h3,hs'⟩,hr⟩=>⟨hb _ _ _ h0,hb _ _ _ h1,⟨s,hb _ _ _ h2,hs.imp fun _ _ h=>TsAt.ext hb h⟩,⟨s',hb _ _ _ h3,hs'.imp fun _ _ h=>FsAt.ext hb h⟩,FsAt.ext hb hr⟩
theorem FVal.ext {w W:World} (hb:Ext w W) {f:FT} {v:Value} (h:FVal w f v):FVal W f v:=by
 obtain⟨sa,ss,hv,h1,h2⟩:=h
 exact⟨sa,ss,hv,h1.imp fun _ _ h=>TsAt.ext hb h,h2.imp fun _ _ h=>FsAt.ext hb h⟩
def Fs.parts:Fs→List FT
 | .nil=>[]
 | .cons op n ts sub r=>⟨op,n,ts,sub⟩ :: (sub.parts ++ r.parts)
def FT.parts (f:FT):List FT:=f :: f.sub.parts
abbrev FV (w:World):={ p:FT × Value // FVal w p.1 p.2 }
def FV.t {w:World} (x:FV w):FT:=x.1.1
theorem hdd (k:Nat):Fence.wide.depth.isSome=true→1≤k:=fun h=>by cases h
set_option maxHeartbeats 1000000 in
theorem eachPart_in (w0:World) (l B K:Nat) (L:List Nat) (hL:∀ b∈L,w0.heap.size≤b∧b < B) (T:List FT) (J Jx:List (FV w0)→World→Prop) (hJ:OwnFrom B J)
    (hY:∀ m pre (x:FV w0) W,J pre W→(pre ++ [x]).map FV.t <+: T→YieldAt Fence.wide m Tryz.prog l #[x.1.2] W fun e W' =>
      (e=.returned (.bool true)∧J (pre ++ [x]) W'∧KL L K W W')∨(e=.returned (.bool false)∧Jx (pre ++ [x]) W'∧KeepsFrom K W W')) :
    ∀ (k:Nat) (f:FT) (v:Value),f.size≤k→f.size≤1000000→FVal w0 f v→∀ (n:Nat) (pre:List (FV w0)) (W:World),B≤W.heap.size→Ext w0 W→J pre W→pre.map FV.t ++ f.parts <+: T →
      CallsIn Fence.wide n Tryz.prog 101 #[v,.func (.yield l) #[] #[]] W fun e W' =>
        (e=.returned (.bool true)∧∃ ys:List (FV w0),ys.map FV.t=f.parts∧J (pre ++ ys) W'∧KL L K W W') ∨
        (e=.returned (.bool false)∧∃ ys:List (FV w0),ys.map FV.t <+: f.parts∧Jx (pre ++ ys) W'∧KeepsFrom K W W'):=by
  intro k
  induction k with
  | zero=>intro f v h;simp[FT.size] at h
  | succ k ih =>
    intro f v hk hs hv n pre W hB hE hj hT
    have hv0:=hv
    have hs':f.sub.size≤1000000:=by simp only[FT.size] at hs;omega
    obtain⟨sa,ss,rfl,ha,hss⟩:=hv
    obtain⟨pa,ca,rfl,-⟩:=id ha
    obtain⟨p,c,b,o,rfl,hp,ht⟩:=FSl.opened hss
    obtain⟨fn,tmps,assign,body,hy,hR⟩:=hY (n - 1) pre ⟨(f,_),hv0⟩ (W.alloc (.cells #[.int .u8 f.op,.string f.n,.slice pa f.ts.len ca,.slice p f.sub.len c] 25)) (hJ.alloc _ hj) (by
      refine List.IsPrefix.trans ?_ hT
      rw[List.map_append]
      exact⟨f.sub.parts,by simp[FT.parts,FV.t]⟩)
    replace hR:=h_X hR
    have hih:=h_X ih
    have hYh:=h_X hY
    have hTh:=h_X hT
    clear ih hY hT
    refine callsIn_of_wp Tryz.func101 rfl trivial ?_ rfl
    simp only[Tryz.ntmps101,List.size_toArray,List.length_cons,List.length_nil,Nat.reduceAdd,Nat.reduceSub,Array.replicate_succ,Array.replicate_zero,List.push_toArray,List.append_toArray,List.nil_append,List.cons_append]
    gi_wp2
    refine⟨hdd _,hR.out.mono ?_⟩
    clear hR
    rintro e W2 (⟨rfl,hj2,hk2⟩ | ⟨rfl,hx2,hn2⟩)
    · have b3:W2.cell? ⟨W.heap.size,3,none⟩=some (.slice p f.sub.len c):=hk2.2.1 _ _ _ (fun hb=>by have:=(hL _ hb).2;omega) (by rw[cell_new];rfl)
      have hE2:Ext w0 W2:=(hE.trans (Ext.of_below (bel_laid W _))).keep hk2 (fun b hb=>(hL b hb).1)
      have hk3:KL L K W W2:=(KL.of_below (bel_laid W _)).trans hk2
      clear hk2
      have hj3:=h_X hj2
      clear hj2
      gi_wp2
      gi_loopw [14] (fun i wr=>∃ (k:Nat) (r:Fs) (ys:List (FV w0)),i=.int .i64 k∧k+r.len=f.sub.len∧r.size≤f.sub.size∧FsAt w0 r b (o+k*4)∧(ys.map FV.t) ++ r.parts=f.parts∧J (pre ++ ys) wr∧KL L K W wr∧Ext w0 wr) (fun i _=>f.sub.len - (intOf i).toNat)
      case atStart=>exact⟨0,f.sub,[⟨(f,_),hv0⟩],rfl,by omega,Nat.le_refl _,by simpa using ht,rfl,hj3.out,hk3,hE2⟩
      case round =>
        obtain⟨k',r,ys,rfl,hk',hr,hat,hys,hj4,hk4,hE4⟩:=hrel
        have hlen:=f.sub.len_le
        cases r with
        | nil =>
          simp only[Fs.len] at hk'
          have hkk:k'=f.sub.len:=by omega
          subst hkk
          simp only[Fs.parts,List.append_nil] at hys
          gi_wp2
          go_ret
          exact .inl ⟨rfl,ys,hys,hj4,hk4⟩
        | cons op nm t1 sub r' =>
          simp only[Fs.len] at hk'
          simp only[FsAt] at hat
          obtain⟨c0,c1,⟨s,c2,hs2⟩,⟨s',c3,hs2'⟩,hat'⟩:=hat
          have hchild:FVal w0 ⟨op,nm,t1,sub⟩ (.agg #[.int .u8 op,.string nm,s,s']):=⟨s,s',rfl,hs2,hs2'⟩
          obtain⟨ps,cs,rfl,-⟩:=hs2
          obtain⟨ps',cs',rfl,-⟩:=hs2'
          rcases hp with hp | hp
          · omega
          subst hp
          have hlt:(k':Int) < (f.sub.len:Int):=by omega
          simp only[Fs.size] at hr
          have hsz:(FT.mk op nm t1 sub).size≤k∧(FT.mk op nm t1 sub).size≤1000000:=by simp only[FT.size] at hk hs ⊢;omega
          have e0:=hE4 _ _ _ c0
          have e1:=hE4 _ _ _ c1
          have e2:=hE4 _ _ _ c2
          have e3:=hE4 _ _ _ c3
          clear c0 c1 c2 c3
          have hcall:=h_X (fun m=>hih.out _ _ hsz.1 hsz.2 hchild m (pre ++ ys) (wr.alloc (.cells #[.int .u8 op,.string nm,.slice ps t1.len cs,.slice ps' sub.len cs'] 25))
            (by have:=hk4.1;simp;omega) (hE4.trans (Ext.of_below (bel_laid _ _))) (hJ.alloc _ hj4)
            (by rw[List.map_append,List.append_assoc];refine List.IsPrefix.trans ?_ hTh.out;rw[List.prefix_append_right_inj,←hys];rw[List.prefix_append_right_inj];exact⟨r'.parts,rfl⟩))
          gi_wp2_with (refine⟨trivial,hdd _,(hcall.out _).mono ?_⟩;clear hcall;rintro e W5 (⟨rfl,zs,hzs,hj5,hk5⟩ | ⟨rfl,zs,hzs,hx5,hn5⟩))
          · go_roundw
            case rel =>
              refine⟨k'+1,r',ys ++ zs,by go_num,by omega,by omega,?_,?_,?_,hk4.trans ((KL.of_below (bel_laid _ _)).trans hk5),(hE4.trans (Ext.of_below (bel_laid _ _))).keep hk5 (fun b hb=>(hL b hb).1)⟩
              · rwa [show o+(k'+1)*4=o+k'*4+4 by omega]
              · rw[List.map_append,hzs,←hys];simp[Fs.parts,FT.parts]
              · rw[←List.append_assoc];exact hj5
            case measure=>simp[intOf];omega
          · go_ret
            refine .inr ⟨rfl,ys ++ zs,?_,?_,keeps_trans (hk4.from (Nat.le_refl _)) (keeps_trans ((KL.of_below (L:=L) (bel_laid _ _)).from (Nat.le_refl _)) hn5)⟩
            · rw[List.map_append,←hys,List.prefix_append_right_inj]
              exact hzs.trans ⟨r'.parts,rfl⟩
            · rw[←List.append_assoc];exact hx5
    · gi_wp2
      go_ret
      exact .inr ⟨rfl,[⟨(f,_),hv0⟩],⟨f.sub.parts,rfl⟩,hx2,keeps_trans ((KL.of_below (L:=L) (bel_laid _ _)).from (Nat.le_refl _)) hn2⟩
theorem parts_any (v:Value) (w:World) (f:FT) (hv:FVal w f v) :
  Calls Tryz.prog 60 #[v] w fun e w'=>e=.returned (.func (.func 100) #[] #[.pointer (some ⟨w.heap.size,0,none⟩)])∧Below w.heap.size w w'∧w.heap.size < w'.heap.size ∧
   (∃ sa ss,v=.agg #[.int .u8 f.op,.string f.n,sa,ss]∧Boxed4 w' w.heap.size f.op f.n sa ss):=by
 obtain⟨sa,ss,rfl,ha,hss⟩:=hv
 obtain⟨pa,ca,rfl,-⟩:=id ha
 obtain⟨p,c,rfl,-⟩:=id hss
 go_enter Tryz.func60,Tryz.ntmps60
 go_wp2
 go_ret
 exact⟨rfl,bel_laid _ _,by simp,_,_,rfl,Boxed4.laid _ _ _ _ _ _⟩
theorem parts_seq (f:FT) (hs:f.size≤1000000) (g K:Nat) (L:List Nat) (w0 w1:World) (sa ss:Value) (hE1:Ext w0 w1) (hb:Boxed4 w1 g f.op f.n sa ss) (hv:FVal w0 f (.agg #[.int .u8 f.op,.string f.n,sa,ss])) (n:Nat)
  (hL:∀ b∈L,w0.heap.size≤b∧b < w1.heap.size):SeqO n Tryz.prog 100 #[.pointer (some ⟨g,0,none⟩)] (fun x:FV w0=>#[x.1.2]) (KL L K) FV.t f.parts w1 K:=by
 intro l J Jx W hW _ hJ hJx hY h0
 obtain⟨sa',ss',he,ha,hss⟩:=id hv
 simp at he
 obtain⟨rfl,rfl⟩:=he
 have hE:Ext w0 W:=hE1.trans (Ext.of_below hW)
 have hp:=h_X (eachPart_in w0 l W.heap.size K L (fun b hb=>⟨(hL b hb).1,by have:=(hL b hb).2;have:=hW.size;omega⟩) f.parts J Jx hJ hY f.size f _ (Nat.le_refl _) hs hv (n - 1) [] W (Nat.le_refl _) hE h0 (by simp))
 obtain⟨d0,d1,d2,d3⟩:=Boxed4.below hW hb
 refine callsIn_of_wp Tryz.func100 rfl trivial ?_ rfl
 simp only[Tryz.ntmps100,List.size_toArray,List.length_cons,List.length_nil,Nat.reduceAdd,Nat.reduceSub,Array.replicate_succ,Array.replicate_zero,List.push_toArray,List.append_toArray,List.nil_append,List.cons_append]
 gi_wp2_with (refine⟨trivial,hdd _,hp.out.mono ?_⟩;clear hp;rintro e W1 (⟨rfl,ys,hys,hj,hk⟩ | ⟨rfl,ys,hys,hx,-⟩))
 ·go_end0
  exact⟨⟨_,rfl⟩,.inl ⟨ys,hys,hj⟩⟩
 ·go_end0
  exact⟨⟨_,rfl⟩,.inr ⟨ys,hys,hx⟩⟩
end Go.Proofs.YtngdieldgnlogaaGreatDoor
namespace Go.Proofs.YtngdieldgnlogaaGreatDoor
open Go Go.RowKit Go.Shelf
set_option maxRecDepth 100000
attribute [local go_sem] Oper.semAt_some
structure Lives (w0:World) (G:World→Prop) (Sf:World→Nat→Prop):Prop where
 sb:∀ {A B:World} {b:Nat},Below A.heap.size A B→b < A.heap.size→Sf A b→Sf B b
 gb:∀ {A B:World},Below A.heap.size A B→G A→G B
 fr:∀ (W:World) (o:Obj),G W→Sf (W.alloc o) W.heap.size
 s0:∀ {W:World} {b:Nat},G W→b < w0.heap.size→Sf W b
 pt:∀ {W:World} {l:Nat} {o:Obj} (o':Obj),W.heap[l]? = some o→o.isCells=false→(G W→G (W.putObj l o'))∧∀ b,b < W.heap.size→Sf W b→Sf (W.putObj l o') b
 gw:∀ {A B:World} {row:Option Nat},A.grownBy B row→(∀ r,row=some r→∃ o:Obj,A.heap[r]? = some o∧o.isCells=false)→(G A→G B)∧∀ b,b < A.heap.size→Sf A b→Sf B b
def KS (G:World→Prop) (Sf:World→Nat→Prop) (K:Nat) (A B:World):Prop:=A.heap.size≤B.heap.size∧(∀ b o v,Sf A b→A.cell? ⟨b,o,none⟩=some v→B.cell? ⟨b,o,none⟩=some v∧B.frozen? ⟨b,o,none⟩=A.frozen? ⟨b,o,none⟩) ∧
 (∀ b,b < A.heap.size→Sf A b→Sf B b)∧(G A→G B)∧∀ k o,K≤k→A.heap[k]? = some o→o.isCells=false→B.heap[k]? = some o
theorem KS.trans {G:World→Prop} {Sf:World→Nat→Prop} {K:Nat} {A B C:World} (h:KS G Sf K A B) (h':KS G Sf K B C):KS G Sf K A C :=
  ⟨Nat.le_trans h.1 h'.1,fun b o v hs hc=>⟨(h'.2.1 b o v (h.2.2.1 b (lt_of_cell hc) hs) (h.2.1 b o v hs hc).1).1,(h'.2.1 b o v (h.2.2.1 b (lt_of_cell hc) hs) (h.2.1 b o v hs hc).1).2.trans (h.2.1 b o v hs hc).2⟩,fun b hb hs=>h'.2.2.1 b (Nat.lt_of_lt_of_le hb h.1) (h.2.2.1 b hb hs),
   fun hg=>h'.2.2.2.1 (h.2.2.2.1 hg),fun k o hk ho hn=>h'.2.2.2.2 k o hk (h.2.2.2.2 k o hk ho hn) hn⟩
theorem KS.of_below {w0:World} {G:World→Prop} {Sf:World→Nat→Prop} (hL:Lives w0 G Sf) {K:Nat} {A B:World} (h:Below A.heap.size A B):KS G Sf K A B :=
 ⟨h.size,fun b o _ _ hc=>⟨c_B h hc,h.frozen (p:=⟨b,o,none⟩) (lt_of_cell hc)⟩,fun _ hb hs=>hL.sb h hb hs,fun hg=>hL.gb h hg,fun k _ _ ho _=>(h.block k (Array.getElem?_eq_some_iff.1 ho).1).trans ho⟩
theorem KS.from {G:World→Prop} {Sf:World→Nat→Prop} {K B:Nat} {W W':World} (h:KS G Sf K W W') (hK:K≤B):KeepsFrom B W W':=⟨h.1,fun k o hk=>h.2.2.2.2 k o (Nat.le_trans hK hk)⟩
theorem KS.more {G:World→Prop} {Sf:World→Nat→Prop} {K K':Nat} {A B:World} (h:KS G Sf K A B) (hK:K≤K'):KS G Sf K' A B:=⟨h.1,h.2.1,h.2.2.1,h.2.2.2.1,fun k o hk=>h.2.2.2.2 k o (Nat.le_trans hK hk)⟩
theorem KS.put {w0:World} {G:World→Prop} {Sf:World→Nat→Prop} (hL:Lives w0 G Sf) {K:Nat} {W:World} {l:Nat} {o:Obj} (o':Obj) (hl:W.heap[l]? = some o) (ho:o.isCells=false) (hK:l < K):KS G Sf K W (W.putObj l o'):=by
 have hkl:=KL.put (L:=[]) o' hl ho hK
 exact⟨hkl.1,fun b i v _ hc=>⟨hkl.2.1 b i v (by simp) hc,World.frozen?_of_block (World.putObj_heap_other (ne_of_cells hc hl ho))⟩,(hL.pt o' hl ho).2,(hL.pt o' hl ho).1,hkl.2.2⟩
theorem Ext.keepS {w0:World} {G:World→Prop} {Sf:World→Nat→Prop} {K:Nat} {A B:World} (h:Ext w0 A) (hL:Lives w0 G Sf) (hk:KS G Sf K A B) (hg:G A):Ext w0 B:=fun b o v hc =>
 (hk.2.1 b o v (hL.s0 hg (lt_of_cell hc)) (h b o v hc)).1
set_option maxHeartbeats 1000000 in
theorem eachPart_inS (w0:World) (l B K:Nat) {G:World→Prop} {Sf:World→Nat→Prop} (hL:Lives w0 G Sf) (T:List FT) (J Jx:List (FV w0)→World→Prop) (hJ:OwnFrom B J)
    (hY:∀ m pre (x:FV w0) W,J pre W→(pre ++ [x]).map FV.t <+: T→YieldAt Fence.wide m Tryz.prog l #[x.1.2] W fun e W' =>
      (e=.returned (.bool true)∧J (pre ++ [x]) W'∧KS G Sf K W W')∨(e=.returned (.bool false)∧Jx (pre ++ [x]) W'∧KeepsFrom K W W')) :
    ∀ (k:Nat) (f:FT) (v:Value),f.size≤k→f.size≤1000000→FVal w0 f v→∀ (n:Nat) (pre:List (FV w0)) (W:World),B≤W.heap.size→Ext w0 W→G W→J pre W→pre.map FV.t ++ f.parts <+: T →
      CallsIn Fence.wide n Tryz.prog 101 #[v,.func (.yield l) #[] #[]] W fun e W' =>
        (e=.returned (.bool true)∧∃ ys:List (FV w0),ys.map FV.t=f.parts∧J (pre ++ ys) W'∧KS G Sf K W W') ∨
        (e=.returned (.bool false)∧∃ ys:List (FV w0),ys.map FV.t <+: f.parts∧Jx (pre ++ ys) W'∧KeepsFrom K W W'):=by
  intro k
  induction k with
  | zero=>intro f v h;simp[FT.size] at h
  | succ k ih =>
    intro f v hk hs hv n pre W hB hE hG hj hT
    have hv0:=hv
    have hs':f.sub.size≤1000000:=by simp only[FT.size] at hs;omega
    obtain⟨sa,ss,rfl,ha,hss⟩:=hv
    obtain⟨pa,ca,rfl,-⟩:=id ha
    obtain⟨p,c,b,o,rfl,hp,ht⟩:=FSl.opened hss
    obtain⟨fn,tmps,assign,body,hy,hR⟩:=hY (n - 1) pre ⟨(f,_),hv0⟩ (W.alloc (.cells #[.int .u8 f.op,.string f.n,.slice pa f.ts.len ca,.slice p f.sub.len c] 25)) (hJ.alloc _ hj) (by
      refine List.IsPrefix.trans ?_ hT
      rw[List.map_append]
      exact⟨f.sub.parts,by simp[FT.parts,FV.t]⟩)
    replace hR:=h_X hR
    have hih:=h_X ih
    have hYh:=h_X hY
    have hTh:=h_X hT
    clear ih hY hT
    refine callsIn_of_wp Tryz.func101 rfl trivial ?_ rfl
    simp only[Tryz.ntmps101,List.size_toArray,List.length_cons,List.length_nil,Nat.reduceAdd,Nat.reduceSub,Array.replicate_succ,Array.replicate_zero,List.push_toArray,List.append_toArray,List.nil_append,List.cons_append]
    gi_wp2
    refine⟨hdd _,hR.out.mono ?_⟩
    clear hR
    rintro e W2 (⟨rfl,hj2,hk2⟩ | ⟨rfl,hx2,hn2⟩)
    · have b3:W2.cell? ⟨W.heap.size,3,none⟩=some (.slice p f.sub.len c):=(hk2.2.1 _ _ _ (hL.fr _ _ hG) (by rw[cell_new];rfl)).1
      have hE2:Ext w0 W2:=(hE.trans (Ext.of_below (bel_laid W _))).keepS hL hk2 (hL.gb (bel_laid W _) hG)
      have hk3:KS G Sf K W W2:=(KS.of_below hL (bel_laid W _)).trans hk2
      clear hk2
      have hj3:=h_X hj2
      clear hj2
      gi_wp2
      gi_loopw [14] (fun i wr=>∃ (k:Nat) (r:Fs) (ys:List (FV w0)),i=.int .i64 k∧k+r.len=f.sub.len∧r.size≤f.sub.size∧FsAt w0 r b (o+k*4)∧(ys.map FV.t) ++ r.parts=f.parts∧J (pre ++ ys) wr∧KS G Sf K W wr∧Ext w0 wr) (fun i _=>f.sub.len - (intOf i).toNat)
      case atStart=>exact⟨0,f.sub,[⟨(f,_),hv0⟩],rfl,by omega,Nat.le_refl _,by simpa using ht,rfl,hj3.out,hk3,hE2⟩
      case round =>
        obtain⟨k',r,ys,rfl,hk',hr,hat,hys,hj4,hk4,hE4⟩:=hrel
        have hlen:=f.sub.len_le
        cases r with
        | nil =>
          simp only[Fs.len] at hk'
          have hkk:k'=f.sub.len:=by omega
          subst hkk
          simp only[Fs.parts,List.append_nil] at hys
          gi_wp2
          go_ret
          exact .inl ⟨rfl,ys,hys,hj4,hk4⟩
        | cons op nm t1 sub r' =>
          simp only[Fs.len] at hk'
          simp only[FsAt] at hat
          obtain⟨c0,c1,⟨s,c2,hs2⟩,⟨s',c3,hs2'⟩,hat'⟩:=hat
          have hchild:FVal w0 ⟨op,nm,t1,sub⟩ (.agg #[.int .u8 op,.string nm,s,s']):=⟨s,s',rfl,hs2,hs2'⟩
          obtain⟨ps,cs,rfl,-⟩:=hs2
          obtain⟨ps',cs',rfl,-⟩:=hs2'
          rcases hp with hp | hp
          · omega
          subst hp
          have hlt:(k':Int) < (f.sub.len:Int):=by omega
          simp only[Fs.size] at hr
          have hsz:(FT.mk op nm t1 sub).size≤k∧(FT.mk op nm t1 sub).size≤1000000:=by simp only[FT.size] at hk hs ⊢;omega
          have e0:=hE4 _ _ _ c0
          have e1:=hE4 _ _ _ c1
          have e2:=hE4 _ _ _ c2
          have e3:=hE4 _ _ _ c3
          clear c0 c1 c2 c3
          have hcall:=h_X (fun m=>hih.out _ _ hsz.1 hsz.2 hchild m (pre ++ ys) (wr.alloc (.cells #[.int .u8 op,.string nm,.slice ps t1.len cs,.slice ps' sub.len cs'] 25))
            (by have:=hk4.1;simp;omega) (hE4.trans (Ext.of_below (bel_laid _ _))) (hL.gb (bel_laid _ _) (hk4.2.2.2.1 hG)) (hJ.alloc _ hj4)
            (by rw[List.map_append,List.append_assoc];refine List.IsPrefix.trans ?_ hTh.out;rw[List.prefix_append_right_inj,←hys];rw[List.prefix_append_right_inj];exact⟨r'.parts,rfl⟩))
          gi_wp2_with (refine⟨trivial,hdd _,(hcall.out _).mono ?_⟩;clear hcall;rintro e W5 (⟨rfl,zs,hzs,hj5,hk5⟩ | ⟨rfl,zs,hzs,hx5,hn5⟩))
          · go_roundw
            case rel =>
              refine⟨k'+1,r',ys ++ zs,by go_num,by omega,by omega,?_,?_,?_,hk4.trans ((KS.of_below hL (bel_laid _ _)).trans hk5),(hE4.trans (Ext.of_below (bel_laid _ _))).keepS hL hk5 (hL.gb (bel_laid _ _) (hk4.2.2.2.1 hG))⟩
              · rwa [show o+(k'+1)*4=o+k'*4+4 by omega]
              · rw[List.map_append,hzs,←hys];simp[Fs.parts,FT.parts]
              · rw[←List.append_assoc];exact hj5
            case measure=>simp[intOf];omega
          · go_ret
            refine .inr ⟨rfl,ys ++ zs,?_,?_,keeps_trans (hk4.from (Nat.le_refl _)) (keeps_trans ((KS.of_below hL (bel_laid _ _)).from (Nat.le_refl _)) hn5)⟩
            · rw[List.map_append,←hys,List.prefix_append_right_inj]
              exact hzs.trans ⟨r'.parts,rfl⟩
            · rw[←List.append_assoc];exact hx5
    · gi_wp2
      go_ret
      exact .inr ⟨rfl,[⟨(f,_),hv0⟩],⟨f.sub.parts,rfl⟩,hx2,keeps_trans ((KS.of_below hL (bel_laid _ _)).from (Nat.le_refl _)) hn2⟩
theorem parts_seqS (f:FT) (hs:f.size≤1000000) (g K:Nat) {G:World→Prop} {Sf:World→Nat→Prop} (w0 w1:World) (hL:Lives w0 G Sf) (hG:G w1) (sa ss:Value) (hE1:Ext w0 w1) (hb:Boxed4 w1 g f.op f.n sa ss) (hv:FVal w0 f (.agg #[.int .u8 f.op,.string f.n,sa,ss])) (n:Nat):SeqO n Tryz.prog 100 #[.pointer (some ⟨g,0,none⟩)] (fun x:FV w0=>#[x.1.2]) (KS G Sf K) FV.t f.parts w1 K:=by
 intro l J Jx W hW _ hJ hJx hY h0
 obtain⟨sa',ss',he,ha,hss⟩:=id hv
 simp at he
 obtain⟨rfl,rfl⟩:=he
 have hE:Ext w0 W:=hE1.trans (Ext.of_below hW)
 have hp:=h_X (eachPart_inS w0 l W.heap.size K hL f.parts J Jx hJ hY f.size f _ (Nat.le_refl _) hs hv (n - 1) [] W (Nat.le_refl _) hE (hL.gb hW hG) h0 (by simp))
 obtain⟨d0,d1,d2,d3⟩:=Boxed4.below hW hb
 refine callsIn_of_wp Tryz.func100 rfl trivial ?_ rfl
 simp only[Tryz.ntmps100,List.size_toArray,List.length_cons,List.length_nil,Nat.reduceAdd,Nat.reduceSub,Array.replicate_succ,Array.replicate_zero,List.push_toArray,List.append_toArray,List.nil_append,List.cons_append]
 gi_wp2_with (refine⟨trivial,hdd _,hp.out.mono ?_⟩;clear hp;rintro e W1 (⟨rfl,ys,hys,hj,hk⟩ | ⟨rfl,ys,hys,hx,-⟩))
 ·go_end0
  exact⟨⟨_,rfl⟩,.inl ⟨ys,hys,hj⟩⟩
 ·go_end0
  exact⟨⟨_,rfl⟩,.inr ⟨ys,hys,hx⟩⟩
end Go.Proofs.YtngdieldgnlogaaGreatDoor
namespace Go.Proofs.YtngdieldgnlogaaGreatDoor
open Go Go.RowKit Go.Shelf
set_option maxRecDepth 100000
attribute [local go_sem] Oper.semAt_some
structure Lives0 (w0:World) (G:World→Prop) (Sf:World→Nat→Prop):Prop where
 sb:∀ {A B:World} {b:Nat},Below A.heap.size A B→b < A.heap.size→Sf A b→Sf B b
 gb:∀ {A B:World},Below A.heap.size A B→G A→G B
 fr:∀ (W:World) (o:Obj),G W→Sf (W.alloc o) W.heap.size
 s0:∀ {W:World} {b:Nat},G W→b < w0.heap.size→Sf W b
theorem KS.of_below0 {w0:World} {G:World→Prop} {Sf:World→Nat→Prop} (hL:Lives0 w0 G Sf) {K:Nat} {A B:World} (h:Below A.heap.size A B):KS G Sf K A B :=
 ⟨h.size,fun b o _ _ hc=>⟨c_B h hc,h.frozen (p:=⟨b,o,none⟩) (lt_of_cell hc)⟩,fun _ hb hs=>hL.sb h hb hs,fun hg=>hL.gb h hg,fun k _ _ ho _=>(h.block k (Array.getElem?_eq_some_iff.1 ho).1).trans ho⟩
theorem Ext.keepS0 {w0:World} {G:World→Prop} {Sf:World→Nat→Prop} {K:Nat} {A B:World} (h:Ext w0 A) (hL:Lives0 w0 G Sf) (hk:KS G Sf K A B) (hg:G A):Ext w0 B:=fun b o v hc =>
 (hk.2.1 b o v (hL.s0 hg (lt_of_cell hc)) (h b o v hc)).1
set_option maxHeartbeats 1000000 in
theorem eachPart_in0 (w0:World) (l B K:Nat) {G:World→Prop} {Sf:World→Nat→Prop} (hL:Lives0 w0 G Sf) (T:List FT) (J Jx:List (FV w0)→World→Prop) (hJ:OwnFrom B J)
    (hY:∀ m pre (x:FV w0) W,J pre W→(pre ++ [x]).map FV.t <+: T→YieldAt Fence.wide m Tryz.prog l #[x.1.2] W fun e W' =>
      (e=.returned (.bool true)∧J (pre ++ [x]) W'∧KS G Sf K W W')∨(e=.returned (.bool false)∧Jx (pre ++ [x]) W'∧KeepsFrom K W W')) :
    ∀ (k:Nat) (f:FT) (v:Value),f.size≤k→f.size≤1000000→FVal w0 f v→∀ (n:Nat) (pre:List (FV w0)) (W:World),B≤W.heap.size→Ext w0 W→G W→J pre W→pre.map FV.t ++ f.parts <+: T →
      CallsIn Fence.wide n Tryz.prog 101 #[v,.func (.yield l) #[] #[]] W fun e W' =>
        (e=.returned (.bool true)∧∃ ys:List (FV w0),ys.map FV.t=f.parts∧J (pre ++ ys) W'∧KS G Sf K W W') ∨
        (e=.returned (.bool false)∧∃ ys:List (FV w0),ys.map FV.t <+: f.parts∧Jx (pre ++ ys) W'∧KeepsFrom K W W'):=by
  intro k
  induction k with
  | zero=>intro f v h;simp[FT.size] at h
  | succ k ih =>
    intro f v hk hs hv n pre W hB hE hG hj hT
    have hv0:=hv
    have hs':f.sub.size≤1000000:=by simp only[FT.size] at hs;omega
    obtain⟨sa,ss,rfl,ha,hss⟩:=hv
    obtain⟨pa,ca,rfl,-⟩:=id ha
    obtain⟨p,c,b,o,rfl,hp,ht⟩:=FSl.opened hss
    obtain⟨fn,tmps,assign,body,hy,hR⟩:=hY (n - 1) pre ⟨(f,_),hv0⟩ (W.alloc (.cells #[.int .u8 f.op,.string f.n,.slice pa f.ts.len ca,.slice p f.sub.len c] 25)) (hJ.alloc _ hj) (by
      refine List.IsPrefix.trans ?_ hT
      rw[List.map_append]
      exact⟨f.sub.parts,by simp[FT.parts,FV.t]⟩)
    replace hR:=h_X hR
    have hih:=h_X ih
    have hYh:=h_X hY
    have hTh:=h_X hT
    clear ih hY hT
    refine callsIn_of_wp Tryz.func101 rfl trivial ?_ rfl
    simp only[Tryz.ntmps101,List.size_toArray,List.length_cons,List.length_nil,Nat.reduceAdd,Nat.reduceSub,Array.replicate_succ,Array.replicate_zero,List.push_toArray,List.append_toArray,List.nil_append,List.cons_append]
    gi_wp2
    refine⟨hdd _,hR.out.mono ?_⟩
    clear hR
    rintro e W2 (⟨rfl,hj2,hk2⟩ | ⟨rfl,hx2,hn2⟩)
    · have b3:W2.cell? ⟨W.heap.size,3,none⟩=some (.slice p f.sub.len c):=(hk2.2.1 _ _ _ (hL.fr _ _ hG) (by rw[cell_new];rfl)).1
      have hE2:Ext w0 W2:=(hE.trans (Ext.of_below (bel_laid W _))).keepS0 hL hk2 (hL.gb (bel_laid W _) hG)
      have hk3:KS G Sf K W W2:=(KS.of_below0 hL (bel_laid W _)).trans hk2
      clear hk2
      have hj3:=h_X hj2
      clear hj2
      gi_wp2
      gi_loopw [14] (fun i wr=>∃ (k:Nat) (r:Fs) (ys:List (FV w0)),i=.int .i64 k∧k+r.len=f.sub.len∧r.size≤f.sub.size∧FsAt w0 r b (o+k*4)∧(ys.map FV.t) ++ r.parts=f.parts∧J (pre ++ ys) wr∧KS G Sf K W wr∧Ext w0 wr) (fun i _=>f.sub.len - (intOf i).toNat)
      case atStart=>exact⟨0,f.sub,[⟨(f,_),hv0⟩],rfl,by omega,Nat.le_refl _,by simpa using ht,rfl,hj3.out,hk3,hE2⟩
      case round =>
        obtain⟨k',r,ys,rfl,hk',hr,hat,hys,hj4,hk4,hE4⟩:=hrel
        have hlen:=f.sub.len_le
        cases r with
        | nil =>
          simp only[Fs.len] at hk'
          have hkk:k'=f.sub.len:=by omega
          subst hkk
          simp only[Fs.parts,List.append_nil] at hys
          gi_wp2
          go_ret
          exact .inl ⟨rfl,ys,hys,hj4,hk4⟩
        | cons op nm t1 sub r' =>
          simp only[Fs.len] at hk'
          simp only[FsAt] at hat
          obtain⟨c0,c1,⟨s,c2,hs2⟩,⟨s',c3,hs2'⟩,hat'⟩:=hat
          have hchild:FVal w0 ⟨op,nm,t1,sub⟩ (.agg #[.int .u8 op,.string nm,s,s']):=⟨s,s',rfl,hs2,hs2'⟩
          obtain⟨ps,cs,rfl,-⟩:=hs2
          obtain⟨ps',cs',rfl,-⟩:=hs2'
          rcases hp with hp | hp
          · omega
          subst hp
          have hlt:(k':Int) < (f.sub.len:Int):=by omega
          simp only[Fs.size] at hr
          have hsz:(FT.mk op nm t1 sub).size≤k∧(FT.mk op nm t1 sub).size≤1000000:=by simp only[FT.size] at hk hs ⊢;omega
          have e0:=hE4 _ _ _ c0
          have e1:=hE4 _ _ _ c1
          have e2:=hE4 _ _ _ c2
          have e3:=hE4 _ _ _ c3
          clear c0 c1 c2 c3
          have hcall:=h_X (fun m=>hih.out _ _ hsz.1 hsz.2 hchild m (pre ++ ys) (wr.alloc (.cells #[.int .u8 op,.string nm,.slice ps t1.len cs,.slice ps' sub.len cs'] 25))
            (by have:=hk4.1;simp;omega) (hE4.trans (Ext.of_below (bel_laid _ _))) (hL.gb (bel_laid _ _) (hk4.2.2.2.1 hG)) (hJ.alloc _ hj4)
            (by rw[List.map_append,List.append_assoc];refine List.IsPrefix.trans ?_ hTh.out;rw[List.prefix_append_right_inj,←hys];rw[List.prefix_append_right_inj];exact⟨r'.parts,rfl⟩))
          gi_wp2_with (refine⟨trivial,hdd _,(hcall.out _).mono ?_⟩;clear hcall;rintro e W5 (⟨rfl,zs,hzs,hj5,hk5⟩ | ⟨rfl,zs,hzs,hx5,hn5⟩))
          · go_roundw
            case rel =>
              refine⟨k'+1,r',ys ++ zs,by go_num,by omega,by omega,?_,?_,?_,hk4.trans ((KS.of_below0 hL (bel_laid _ _)).trans hk5),(hE4.trans (Ext.of_below (bel_laid _ _))).keepS0 hL hk5 (hL.gb (bel_laid _ _) (hk4.2.2.2.1 hG))⟩
              · rwa [show o+(k'+1)*4=o+k'*4+4 by omega]
              · rw[List.map_append,hzs,←hys];simp[Fs.parts,FT.parts]
              · rw[←List.append_assoc];exact hj5
            case measure=>simp[intOf];omega
          · go_ret
            refine .inr ⟨rfl,ys ++ zs,?_,?_,keeps_trans (hk4.from (Nat.le_refl _)) (keeps_trans ((KS.of_below0 hL (bel_laid _ _)).from (Nat.le_refl _)) hn5)⟩
            · rw[List.map_append,←hys,List.prefix_append_right_inj]
              exact hzs.trans ⟨r'.parts,rfl⟩
            · rw[←List.append_assoc];exact hx5
    · gi_wp2
      go_ret
      exact .inr ⟨rfl,[⟨(f,_),hv0⟩],⟨f.sub.parts,rfl⟩,hx2,keeps_trans ((KS.of_below0 hL (bel_laid _ _)).from (Nat.le_refl _)) hn2⟩
theorem parts_seq0 (f:FT) (hs:f.size≤1000000) (g K:Nat) {G:World→Prop} {Sf:World→Nat→Prop} (w0 w1:World) (hL:Lives0 w0 G Sf) (hG:G w1) (sa ss:Value) (hE1:Ext w0 w1) (hb:Boxed4 w1 g f.op f.n sa ss) (hv:FVal w0 f (.agg #[.int .u8 f.op,.string f.n,sa,ss])) (n:Nat):SeqO n Tryz.prog 100 #[.pointer (some ⟨g,0,none⟩)] (fun x:FV w0=>#[x.1.2]) (KS G Sf K) FV.t f.parts w1 K:=by
 intro l J Jx W hW _ hJ hJx hY h0
 obtain⟨sa',ss',he,ha,hss⟩:=id hv
 simp at he
 obtain⟨rfl,rfl⟩:=he
 have hE:Ext w0 W:=hE1.trans (Ext.of_below hW)
 have hp:=h_X (eachPart_in0 w0 l W.heap.size K hL f.parts J Jx hJ hY f.size f _ (Nat.le_refl _) hs hv (n - 1) [] W (Nat.le_refl _) hE (hL.gb hW hG) h0 (by simp))
 obtain⟨d0,d1,d2,d3⟩:=Boxed4.below hW hb
 refine callsIn_of_wp Tryz.func100 rfl trivial ?_ rfl
 simp only[Tryz.ntmps100,List.size_toArray,List.length_cons,List.length_nil,Nat.reduceAdd,Nat.reduceSub,Array.replicate_succ,Array.replicate_zero,List.push_toArray,List.append_toArray,List.nil_append,List.cons_append]
 gi_wp2_with (refine⟨trivial,hdd _,hp.out.mono ?_⟩;clear hp;rintro e W1 (⟨rfl,ys,hys,hj,hk⟩ | ⟨rfl,ys,hys,hx,-⟩))
 ·go_end0
  exact⟨⟨_,rfl⟩,.inl ⟨ys,hys,hj⟩⟩
 ·go_end0
  exact⟨⟨_,rfl⟩,.inr ⟨ys,hys,hx⟩⟩
end Go.Proofs.YtngdieldgnlogaaGreatDoor
