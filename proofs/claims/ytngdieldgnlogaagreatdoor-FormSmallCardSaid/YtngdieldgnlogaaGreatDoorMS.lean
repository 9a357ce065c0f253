/- Symbols in order: the order is a strict weak one. Two symbols are equal; Compact where no two neighbours are. A box that holds a list of symbols in a block of its own: what rounds that append to it keep. Predicates: the symbols are collected in a box. -/
import Derived.Test.YtngdieldgnlogaaGreatDoorMP
import Derived.Sort.Walk0
import Derived.Sort.Statements
import Derived.Deep.QuietTactic
import Derived.BigQuiet
import Derived.Test.YtngdieldgnlogaaGreatDoorMG
import Derived.Test.YtngdieldgnlogaaGreatDoorMH
import Derived.Maps.OwnIn
namespace Go.Proofs.YtngdieldgnlogaaGreatDoor
open Go Go.RowKit
set_option maxRecDepth 100000
set_option linter.unusedVariables false
abbrev Sy:=ByteArray × Int
def sySym (a b:Sy):Int:=symCmp a.1 a.2 b.1 b.2
theorem symCmp_lt (a b:Sy):sySym a b < 0↔a.1.toList < b.1.toList∨a.1.toList=b.1.toList∧a.2 < b.2:=by
 unfold sySym symCmp cmpS cmpI
 rw[bytesLess_eq]
 by_cases h1:a.1.toList < b.1.toList
 ·simp[h1]
 ·by_cases h2:a.1.toList=b.1.toList
  ·have h3:¬ (b.1.toList < b.1.toList):=List.lt_irrefl _
   rw[h2]
   simp only[h3,decide_false,beq_self_eq_true]
   by_cases h4:a.2 < b.2
   ·simp[h4]
   ·by_cases h5:b.2 < a.2<;>simp[h4,h5]
  ·simp[h1,h2]
theorem swoSym:Sort.SWO (fun a b:Sy=>decide (sySym a b < 0)) where
 irrefl x:=by
  rw[decide_eq_false_iff_not,symCmp_lt]
  rintro(h | ⟨-,h⟩)
  ·exact List.lt_irrefl _ h
  ·omega
 trans x y z h1 h2:=by
  rw[decide_eq_true_iff,symCmp_lt] at *
  rcases h1 with h1 | ⟨e1,h1⟩<;>rcases h2 with h2 | ⟨e2,h2⟩
  ·exact .inl (List.lt_trans h1 h2)
  ·exact .inl (e2 ▸ h1)
  ·exact .inl (e1 ▸ h2)
  ·exact .inr ⟨e1.trans e2,by omega⟩
 ntrans x y z h1 h2:=by
  rw[decide_eq_false_iff_not,symCmp_lt] at *
  simp only[not_or,not_and] at *
  obtain⟨a1,a2⟩:=h1
  obtain⟨b1,b2⟩:=h2
  have l1:y.1.toList≤x.1.toList:=List.not_lt.1 a1
  have l2:z.1.toList≤y.1.toList:=List.not_lt.1 b1
  refine⟨List.not_lt.2 (List.le_trans l2 l1),fun e=>?_⟩
  have e1:x.1.toList=y.1.toList:=List.le_antisymm (e ▸ l2) l1
  have e2:y.1.toList=z.1.toList:=e1.symm.trans e
  have:=a2 e1
  have:=b2 e2
  omega
end Go.Proofs.YtngdieldgnlogaaGreatDoor
namespace Go.Proofs.YtngdieldgnlogaaGreatDoor
open Go Go.RowKit
set_option maxRecDepth 100000
set_option linter.unusedVariables false
def SyAt (W:World):List Sy→Nat→Nat→Prop
 | [],_,_=>True
 | (s,x) :: r,b,o=>W.cell? ⟨b,o,none⟩=some (.string s)∧W.cell? ⟨b,o+1,none⟩=some (.int .i64 x)∧SyAt W r b (o+2)
theorem SyAt.below {w W:World} (hb:Below w.heap.size w W):∀ {l:List Sy} {b o:Nat},SyAt w l b o→SyAt W l b o
 | [],_,_,_=>trivial
 | (_,_) :: _,_,_,⟨h1,h2,h3⟩=>⟨c_B hb h1,c_B hb h2,SyAt.below hb h3⟩
def Apart:List Sy→Prop
 | a :: b :: r=>¬ (b.1.toList=a.1.toList∧b.2=a.2)∧Apart (b :: r)
 | _=>True
theorem eql46 (s t:ByteArray) (x y:Int) (w:World):(binOp .eql 56 (.agg #[.string s,.int .i64 x]) (.agg #[.string t,.int .i64 y])).run Tryz.prog w=.ok (.bool (s.toList == t.toList && x == y)) w:=by
 go_simp
 by_cases h1:s.toList=t.toList
 ·by_cases h2:x=y<;>simp[h1,h2]
 ·simp[h1]
theorem bel_drewN' (w:World) (n:Nat):Below w.heap.size w (w.drewN n):=⟨rfl,rfl,rfl,Nat.le_refl _,fun _ _=>rfl⟩
set_option maxHeartbeats 1000000 in
theorem compact_apart (l:List Sy) (p:Option Addr) (b o c:Nat) (w:World) (hp:l.length=0∨p=some ⟨b,o,none⟩) (h:SyAt w l b o) (ha:Apart l) (hn:l.length≤1000000) :
  Calls Tryz.prog 113 #[.slice p l.length c] w fun e w'=>e=.returned (.slice p l.length c)∧Below w.heap.size w w':=by
 by_cases hl:l.length < 2
 ·have h1:(l.length:Int) < 2:=by omega
  go_enter Tryz.func113,Tryz.ntmps113
  go_wp2
  go_ret
  exact⟨rfl,Below.refl _ _⟩
 have h1:¬ (l.length:Int) < 2:=by omega
 rcases hp with hp | hp
 ·omega
 subst hp
 go_enter Tryz.func113,Tryz.ntmps113
 go_wp2
 clear h1
 go_loopw [3] (fun i wr=>∃ (k:Nat) (q:Sy) (r:List Sy),i=.int .i64 ((k+1:Nat):Int)∧k+1+r.length=l.length∧SyAt wr (q :: r) b (o+k*2)∧Apart (q :: r)∧Below w.heap.size w wr) (fun i _=>l.length - (intOf i).toNat)
 case atStart =>
  cases l with
  | nil=>simp at hl
  | cons q r=>exact⟨0,q,r,rfl,by simp;omega,by simpa using h,ha,Below.refl _ _⟩
 case round =>
  clear h ha
  obtain⟨k,⟨s,x⟩,r,rfl,hk,hat,hap,hbw⟩:=hrel
  cases r with
  | nil =>
   have hk':k+1=l.length:=by simpa using hk
   rw[hk']
   go_wp2
   go_ret
   exact⟨rfl,hbw⟩
  | cons q2 r' =>
   obtain⟨t,y⟩:=q2
   have hlt:((k+1:Nat):Int) < (l.length:Int):=by simp only[List.length_cons] at hk;omega
   have hat2:=h_X hat.2.2
   obtain⟨c0,c1,d0,d1,-⟩:=hat
   have hap2:=h_X hap.2
   have hne:=hap.1
   simp only at hne
   have hfin:Below w.heap.size w wr:=hbw
   clear hap
   rw[show o+k*2+2=o+(k+1)*2 by omega] at d0 d1
   have hk0:(0:Int)≤((k+1:Nat):Int) - 1:=by omega
   have hk1:((k+1:Nat):Int) - 1 < (l.length:Int):=by omega
   have hk2:(((k+1:Nat):Int) - 1).toNat=k:=by omega
   have hfin2:∀ n,Below w.heap.size w (wr.drewN n):=fun n=>bS hfin (bel_drewN' wr n)
   have hat3:∀ n,SyAt (wr.drewN n) ((t,y) :: r') b (o+(k+1)*2):=fun n=>(by
    have:=SyAt.below (bel_drewN' wr n) hat2.out
    rwa [show o+(k+1)*2=o+k*2+2 by omega])
   replace hat3:=h_X hat3
   by_cases e1:t.toList=s.toList
   ·have e2:y≠x:=fun h=>hne ⟨e1,h⟩
    go_wp2
    go_quiet (fail)
    go_wp2
    go_roundw
    case rel=>exact⟨k+1,(t,y),r',by go_num,by simp only[List.length_cons] at hk;omega,hat3.out _,hap2.out,hfin2 _⟩
    case measure=>simp[intOf];omega
   ·go_wp2
    go_quiet (fail)
    go_wp2
    go_roundw
    case rel=>exact⟨k+1,(t,y),r',by go_num,by simp only[List.length_cons] at hk;omega,hat3.out _,hap2.out,hfin2 _⟩
    case measure=>simp[intOf];omega
end Go.Proofs.YtngdieldgnlogaaGreatDoor
namespace Go.Proofs.YtngdieldgnlogaaGreatDoor
open Go Go.RowKit Go.Shelf
set_option maxRecDepth 100000
set_option linter.unusedVariables false
def flat (l:List Sy):List Value:=l.flatMap fun p=>[.string p.1,.int .i64 p.2]
theorem flat_snoc (l:List Sy) (s:ByteArray) (x:Int):flat (l ++ [(s,x)])=flat l ++ [.string s,.int .i64 x]:=by simp[flat]
def LBox (c B:Nat) (l:List Sy) (V:World):Prop:=∃ s,V.cell? ⟨c,0,none⟩=some s∧V.frozen? ⟨c,0,none⟩=false∧V.ownsRow B 56 2 s l.length (flat l)
def GB (c B:Nat) (V:World):Prop:=∃ l,LBox c B l V
def SB (c:Nat) (V:World) (b:Nat):Prop:=∃ s,V.cell? ⟨c,0,none⟩=some s∧b≠c∧s.ownBlock≠some b
theorem owns_of_block {V V':World} {B:Nat} {e:TypeId} {z:Nat} {s:Value} {n:Nat} {xs:List Value} (h:V.ownsRow B e z s n xs) (hk:∀ g o,s.ownBlock=some g→V.heap[g]? = some o→o.isCells=true→V'.heap[g]? = some o):V'.ownsRow B e z s n xs:=by
 obtain⟨hl,⟨rfl,h0⟩ | ⟨g,cap,cur,rfl,h1,h2,h3⟩⟩:=h
 ·exact⟨hl,.inl ⟨rfl,h0⟩⟩
 ·exact⟨hl,.inr ⟨g,cap,cur,rfl,h1,hk g _ rfl h2 rfl,h3⟩⟩
theorem owns_cells {V:World} {B:Nat} {e:TypeId} {z:Nat} {s:Value} {n:Nat} {xs:List Value} (h:V.ownsRow B e z s n xs) {g:Nat} (hg:s.ownBlock=some g):∃ o,V.heap[g]? = some o∧o.isCells=true:=by
 obtain⟨hl,⟨rfl,h0⟩ | ⟨g',cap,cur,rfl,h1,h2,h3⟩⟩:=h
 ·cases hg
 ·cases hg
  exact⟨_,h2,rfl⟩
theorem LBox.below {c B:Nat} {l:List Sy} {V V':World} (h:LBox c B l V) (hb:Below V.heap.size V V'):LBox c B l V':=by
 obtain⟨s,h1,h2,h3⟩:=h
 refine⟨s,c_B hb h1,?_,owns_of_block h3 fun g o hg ho _=>(hb.block g (Array.getElem?_eq_some_iff.1 ho).1).trans ho⟩
 rw[World.frozen?_of_block (hb.block c (lt_of_cell h1))]
 exact h2
theorem LBox.grown {c B:Nat} {l:List Sy} {V V':World} {row:Option Nat} (h:LBox c B l V) (hg:V.grownBy V' row) (hr:∀ r,row=some r→∃ o:Obj,V.heap[r]? = some o∧o.isCells=false):LBox c B l V':=by
 obtain⟨s,h1,h2,h3⟩:=h
 refine⟨s,cell_kept h1 hg hr,(frozen_kept h1 hg hr).trans h2,h3.kept hg ?_⟩
 cases hs:s.ownBlock with
 | none=>exact .inl rfl
 | some g =>
  refine .inr fun e=>?_
  obtain⟨o,ho,hn⟩:=hr g e.symm
  obtain⟨o',ho',hn'⟩:=owns_cells h3 hs
  rw[ho] at ho'
  cases ho'
  rw[hn] at hn'
  cases hn'
theorem lives (w0:World) {c B:Nat} (hc:w0.heap.size≤c) (hB:c < B):Lives w0 (GB c B) (SB c) where
 sb:=fun h hb ⟨s,h1,h2,h3⟩=>⟨s,c_B h h1,h2,h3⟩
 gb:=fun h ⟨l,hl⟩=>⟨l,hl.below h⟩
 fr:=by
  rintro W o ⟨l,s,h1,h2,h3⟩
  have hcw:=lt_of_cell h1
  exact⟨s,c_B (bel_laid W o) h1,by omega,fun hg=>by have:=h3.lt _ hg;omega⟩
 s0:=by
  rintro W b ⟨l,s,h1,h2,h3⟩ hb
  exact⟨s,h1,by omega,fun hg=>by have:=h3.lt _ hg;omega⟩
 gw:=fun hg hr=>⟨fun ⟨l,hl⟩=>⟨l,hl.grown hg hr⟩,fun b _ ⟨s,h1,h2,h3⟩=>⟨s,cell_kept h1 hg hr,h2,h3⟩⟩
 pt:=by
  intro W l o o' hl ho
  refine⟨?_,?_⟩
  ·rintro⟨ls,s,h1,h2,h3⟩
   have hcl:=ne_of_cells h1 hl ho
   refine⟨ls,s,(World.cell?_of_block (World.putObj_heap_other hcl)).trans h1,?_,owns_of_block h3 fun g ob hg hgo hcells=>?_⟩
   ·rw[World.frozen?_of_block (World.putObj_heap_other hcl)]
    exact h2
   ·have:g≠l:=by
     rintro rfl
     rw[hl] at hgo
     cases hgo
     rw[ho] at hcells
     cases hcells
    rw[World.putObj_heap_other this]
    exact hgo
  ·rintro b hb ⟨s,h1,h2,h3⟩
   exact⟨s,(World.cell?_of_block (World.putObj_heap_other (ne_of_cells h1 hl ho))).trans h1,h2,h3⟩
end Go.Proofs.YtngdieldgnlogaaGreatDoor
namespace Go.Proofs.YtngdieldgnlogaaGreatDoor
open Go Go.RowKit Go.Shelf
set_option maxRecDepth 100000
set_option linter.unusedVariables false
attribute [local go_sem] Oper.semAt_some
theorem LBox.app {c B K:Nat} {l:List Sy} {V V2:World} {s s':Value} {p:Sy} (hcB:c < B) (h1:V.cell? ⟨c,0,none⟩=some s) (h2:V.frozen? ⟨c,0,none⟩=false) (h3:V.ownsRow B 56 2 s l.length (flat l))
  (hg:V.grownBy V2 s.ownBlock) (ho:V2.ownsRow B 56 2 s' (l.length+1) (flat l ++ [.string p.1,.int .i64 p.2])) (hob:s'.ownBlock=s.ownBlock∨s'.ownBlock=some V.heap.size) :
  V2.cell? ⟨c,0,none⟩=some s∧V2.frozen? ⟨c,0,none⟩=false∧KS (GB c B) (SB c) K V (V2.setCell ⟨c,0,none⟩ s')∧LBox c B (l ++ [p]) (V2.setCell ⟨c,0,none⟩ s') ∧
   ∀ (w:World) (b0:Nat),b0≤c→b0≤V.heap.size→Below b0 w V→Below b0 w (V2.setCell ⟨c,0,none⟩ s'):=by
 have hcV:=lt_of_cell h1
 have hne:∀ g,s.ownBlock=some g→B≤g:=fun g hg=>(h3.lt g hg).1
 have hblk:V2.heap[c]? = V.heap[c]?:=hg.block c hcV (fun e=>by have:=hne c e.symm;omega)
 have g1:V2.cell? ⟨c,0,none⟩=some s:=(World.cell?_of_block hblk).trans h1
 have g2:V2.frozen? ⟨c,0,none⟩=false:=by rw[World.frozen?_of_block hblk];exact h2
 have gc:(V2.setCell ⟨c,0,none⟩ s').cell? ⟨c,0,none⟩=some s':=World.cell?_setCell_same _ _ _ g1
 have hbox:LBox c B (l ++ [p]) (V2.setCell ⟨c,0,none⟩ s'):=by
  refine⟨s',gc,by rw[World.frozen?_setCell];exact g2,?_⟩
  have:=ownsRow_setCell_below ho (a:=⟨c,0,none⟩) hcB s'
  rw[List.length_append,List.length_singleton,flat_snoc]
  exact this
 refine⟨g1,g2,⟨?_,?_,?_,fun _=>⟨_,hbox⟩,?_⟩,hbox,?_⟩
 ·exact Nat.le_trans hg.size (KeepsOthers.setCell V2 ⟨c,0,none⟩ s').size
 ·rintro b o v ⟨s2,hs2,hb1,hb2⟩ hc
  rw[h1] at hs2
  cases hs2
  rw[World.cell?_setCell_far _ _ _ _ (fun e=>hb1 (show c=b from e).symm),World.frozen?_setCell]
  exact⟨(World.cell?_of_block (hg.block b (lt_of_cell hc) (fun e=>hb2 e.symm))).trans hc,World.frozen?_of_block (hg.block b (lt_of_cell hc) (fun e=>hb2 e.symm))⟩
 ·rintro b hb ⟨s2,hs2,hb1,hb2⟩
  rw[h1] at hs2
  cases hs2
  refine⟨s',gc,hb1,fun e'=>?_⟩
  rcases hob with e | e
  ·exact hb2 (e ▸ e')
  ·rw[e] at e';cases e';omega
 ·intro k o hk hko hn
  have hk1:V2.heap[k]? = V.heap[k]?:=hg.block k (Array.getElem?_eq_some_iff.1 hko).1 (fun e=>by
   obtain⟨o',ho',hn'⟩:=owns_cells h3 e.symm
   rw[hko] at ho'
   cases ho'
   rw[hn] at hn'
   cases hn')
  exact(KeepsOthers.setCell V2 ⟨c,0,none⟩ s').same k o (hk1.trans hko) hn
 ·intro w b0 hb0 hbV hbl
  exact(hbl.grown hg hbV (fun k e=>by have:=hne k e;omega)).setCell (p:=⟨c,0,none⟩) hb0 _
def symP (f:FT):List Sy:=if f.op=1 then [(f.n,(f.ts.len:Int))] else []
def InOrder (Dl:List Sy→Prop) (R:List Sy→Value→World→Prop):Prop:=∀ (l:List Sy) (s:Value) (B:Nat) (V:World),Dl l→l.length≤1000000→B≤V.heap.size→V.ownsRow B 56 2 s l.length (flat l) →
 Calls Tryz.prog 78 #[s] V fun e w'=>(∃ v,e=.returned v∧R l v w')∧V.grownBy w' s.ownBlock
theorem info46:(Tryz.prog.info? 56).map (fun i=>(i.zero,i.size,i.bytes))=some (some (.agg #[.string ⟨#[]⟩,.int .i64 0]),2,24):=by kernel_rfl
end Go.Proofs.YtngdieldgnlogaaGreatDoor
