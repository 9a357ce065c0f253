/- slices.SortFunc at symbols, by the shelf. A list of symbols in an own block, in the sort's words. inOrder, for symbols that differ. -/
import Derived.Shelf.SlSortCmp.InsertionK
import Derived.Shelf.Lay
import Derived.Ground.SlsfProg
import Derived.Test.YtngdieldgnlogaaGreatDoorMS
import Derived.Shelf.SlSortCmp.WholeK
namespace Go.Proofs
open Go Go.Shelf Go.RowKit Go.Lib Go.Sort
set_option maxRecDepth 100000
shelf_lay_g SlLaysF0.n6 Slsf 6 at Tryz 108 as Tryz.sortSym
#check @Tryz.sortSym
end Go.Proofs
namespace Go.Proofs.YtngdieldgnlogaaGreatDoor
open Go Go.RowKit Go.Sort
set_option maxRecDepth 100000
set_option linter.unusedVariables false
def encSy (x:Sy):List Value:=[.string x.1,.int .i64 x.2]
theorem flat_get:∀ (l:List Sy) (j:Nat),j < l.length*2→(flat l)[j]? = some ((encSy (l[j/2]!))[j%2]!)
 | [],j,h=>by simp at h
 | x :: r,0,_=>by simp[flat,encSy]
 | x :: r,1,_=>by simp[flat,encSy]
 | x :: r,j+2,h=>by
  have ih:=flat_get r j (by simp only[List.length_cons] at h;omega)
  have e1:(j+2)/2=j/2+1:=by omega
  have e2:(j+2)%2=j%2:=by omega
  rw[e1,e2]
  have e3:(flat (x :: r))[j+2]? = (flat r)[j]?:=by simp[flat]
  rw[e3,ih]
  rfl
theorem holds_of_own {V:World} {B g n cap:Nat} {l:List Sy} (hn:l.length=n) (h:V.ownsRow B 56 2 (.slice (some ⟨g,0,none⟩) n cap) n (flat l)):HoldsK encSy 2 V g 0 l.toArray:=by
 subst hn
 intro j hj
 rw[size_flatK,List.size_toArray] at hj
 refine⟨?_,by rw[Nat.zero_add];exact h.frozenAt j⟩
 rw[Nat.zero_add,h.cellAt j hj,flat_get l j hj,get_flatK _ _ _ _ (by simpa using hj)]
 simp
theorem cmpLaysSym (blk off size:Nat) (w:World):CmpLays Tryz.prog 109 #[] encSy 2 sySym blk off size w :=
 fun _ _ _ _ x y=>symCmp_any x.1 x.2 y.1 y.2 _
theorem isAgg56 (w:World):(isAgg 56).run Tryz.prog w=.ok true w:=Tryz.isAgg56 w
theorem sizeOf56 (w:World):(Go.sizeOf 56).run Tryz.prog w=.ok 2 w:=Tryz.sizeOf56 w
theorem sort_any {V:World} {B g cap:Nat} {l:List Sy} (h:V.ownsRow B 56 2 (.slice (some ⟨g,0,none⟩) l.length cap) l.length (flat l)) (hl:l.length≤1000000) :
  Calls Tryz.prog 108 #[.slice (some ⟨g,0,none⟩) l.length cap,.func (.func 109) #[] #[]] V fun e w'=>e=.returned (.tuple #[])∧∃ (d:Array Sy) (n:Nat) (os:Array Obj),PermIn 0 l.length l.toArray d∧SortedIn (ltOf sySym) 0 l.length d∧w'=sortWorldK encSy 2 V g 0 n d os:=by
 have hH:=holds_of_own rfl h
 have hg:=(h.lt g rfl).2
 have eg:∀ args w,(callFunc 109 args).run Tryz.prog w=.ok (.enter 109 args) w:=enters_of Tryz.func109 (by kernel_rfl) rfl
 have hcon:=AnyQ.slices_SortFunc Tryz.sortSym 2 isAgg56 sizeOf56 encSy (fun _=>rfl) (fun x v hv=>by simp[encSy] at hv;rcases hv with rfl | rfl<;>rfl) sySym swoSym 109 #[] g 0 cap l.toArray V eg (cmpLaysSym g 0 _ V) hH hg (by simp;omega)
 exact hcon
end Go.Proofs.YtngdieldgnlogaaGreatDoor
namespace Go.Proofs.YtngdieldgnlogaaGreatDoor
open Go Go.RowKit Go.Sort
set_option maxRecDepth 100000
set_option linter.unusedVariables false
theorem grownBy_sortedSy {V:World} {g n:Nat} {os:Array Obj} (d:Array Sy):V.grownBy (sortWorldK encSy 2 V g 0 n d os) (some g):=by
 unfold sortWorldK putRowK
 refine⟨rfl,rfl,rfl,by simp,fun k hk hne=>?_⟩
 rw[heap_grow_old _ _ (by simpa using hk)]
 have:g≠k:=fun e=>hne (by rw[e])
 simp[putRow,mapBlock,Sort.ahead,Array.getElem?_modify,this]
theorem syAt_of:∀ (l:List Sy) (V:World) (b o:Nat),(∀ i,i < l.length→V.cell? ⟨b,o+i*2,none⟩=some (.string l[i]!.1)∧V.cell? ⟨b,o+i*2+1,none⟩=some (.int .i64 l[i]!.2))→SyAt V l b o
 | [],_,_,_,_=>trivial
 | (s,x) :: r,V,b,o,h=>by
  have h0:=h 0 (by simp)
  refine⟨by simpa using h0.1,by simpa using h0.2,syAt_of r V b (o+2) fun i hi=>?_⟩
  have:=h (i+1) (by simp;omega)
  rw[show o+(i+1)*2=o+2+i*2 by omega] at this
  simpa using this
def Differ (a b:Sy):Prop:=¬ (b.1.toList=a.1.toList∧b.2=a.2)
theorem apart_of:∀ {l:List Sy},l.Pairwise Differ→Apart l
 | [],_=>trivial
 | [_],_=>trivial
 | a :: b :: r,h=>by
  rw[List.pairwise_cons] at h
  exact⟨h.1 b (by simp),apart_of h.2⟩
def Ordered (l:List Sy) (v:Value) (V:World):Prop:=∃ (l':List Sy) (g cap:Nat),l'.Perm l∧SortedIn (ltOf sySym) 0 l'.length l'.toArray∧v=.slice (some ⟨g,0,none⟩) l'.length cap∧SyAt V l' g 0
set_option maxHeartbeats 1000000 in
theorem inOrder_any:InOrder (fun l=>l≠[]∧l.Pairwise Differ) Ordered:=by
 rintro l s B V ⟨hne,hdf⟩ hl hB h
 have hpos:0 < l.length:=List.length_pos_iff.2 hne
 obtain⟨g,cap,rfl⟩:∃ g cap,s=.slice (some ⟨g,0,none⟩) l.length cap:=by
  obtain⟨-,⟨-,h0⟩ | ⟨g,cap,cur,hv,-⟩⟩:=id h
  ·omega
  ·exact⟨g,cap,hv⟩
 have hgV:=(h.lt g rfl).2
 have HS:=h_X (sort_any h hl)
 have hH:=holds_of_own rfl h
 clear h
 go_enter Tryz.func78,Tryz.ntmps78
 go_wp2_with fail
 refine HS.out.mono ?_
 rintro e w1 ⟨rfl,d,n,os,hp,hso,rfl⟩
 have hds:d.size=l.length:=by have:=hp.1;simpa using this
 have hH2:=holdsK_sortWorldK_c encSy 2 V g 0 l.toArray d n os hH hgV (by simpa using hp.1)
 have hgr:=grownBy_sortedSy (V:=V) (g:=g) (n:=n) (os:=os) d
 have hperm:d.toList.Perm l:=by
  have:=hp.2.2
  rw[Array.extract_eq_self_of_le (by omega),Array.extract_eq_self_of_le (by simp)] at this
  simpa using this
 generalize sortWorldK encSy 2 V g 0 n d os=W at hH2 hgr ⊢
 have hsy:SyAt W d.toList g 0:=syAt_of _ _ _ _ fun i hi=>by
  have hi':i < d.size:=by simpa using hi
  have c0:=(hH2.cell hi' (show 0 < 2 by omega)).1
  have c1:=(hH2.cell hi' (show 1 < 2 by omega)).1
  have e:d.toList[i]! = d[i]!:=by rw[getElem!_pos _ i hi,getElem!_pos _ i hi'];simp
  rw[e]
  exact⟨c0,c1⟩
 have hap:Apart d.toList:=apart_of ((hperm.pairwise_iff (fun {a b} h h'=>h ⟨h'.1.symm,h'.2.symm⟩)).2 hdf)
 have hlen:d.toList.length=l.length:=by simpa using hds
 have HC:=h_X (compact_apart d.toList (some ⟨g,0,none⟩) g 0 cap W (.inr rfl) hsy hap (by omega))
 rw[hlen] at HC
 clear HS hH hH2 hap hp hdf
 go_wp2_with fail
 refine HC.out.mono ?_
 rintro e w2 ⟨rfl,hb⟩
 have hfin:Ordered l (.slice (some ⟨g,0,none⟩) l.length cap) w2:=⟨d.toList,g,cap,hperm,by rw[hlen];simpa using hso,by rw[hlen],SyAt.below hb hsy⟩
 have hgf:V.grownBy w2 (some g):=⟨hb.os.trans hgr.os,hb.tape.trans hgr.tape,hb.output.trans hgr.output,Nat.le_trans hgr.size hb.size,fun k hk hn=>(hb.block k (Nat.lt_of_lt_of_le hk hgr.size)).trans (hgr.block k hk hn)⟩
 clear HC hsy hb hgr
 go_wp2_with fail
 go_ret
 exact⟨⟨_,rfl,hfin⟩,hgf⟩
end Go.Proofs.YtngdieldgnlogaaGreatDoor
