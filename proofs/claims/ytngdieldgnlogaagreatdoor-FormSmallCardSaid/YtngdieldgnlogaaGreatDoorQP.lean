/- The reference's Forms: all parts of a formula, in order. What is picked; a row of formulas read at a place. The reference's Parts. -/
import Derived.Test.YtngdieldgnlogaaGreatDoorQF
import Derived.Test.YtngdieldgnlogaaGreatDoorMV
import Derived.Test.YtngdieldgnlogaaGreatDoorD7
import Derived.Test.YtngdieldgnlogaaGreatDoorQC
import Derived.Test.YtngdieldgnlogaaGreatDoorQV
import Derived.Test.YtngdieldgnlogaaGreatDoorQN
import Derived.Test.YtngdieldgnlogaaGreatDoorQX
namespace Go.Proofs.YtngdieldgnlogaaGreatDoor
open Go Go.RowKit
set_option maxRecDepth 100000
set_option linter.unusedVariables false
def VS (U:World):List Value→List FT→Prop
 | [],[]=>True
 | v :: l,f :: r=>FVal U f v∧VS U l r
 | _,_=>False
theorem VS.app {U:World}:∀ {l:List Value} {r:List FT} {l':List Value} {r':List FT},VS U l r→VS U l' r'→VS U (l ++ l') (r ++ r')
 | [],[],_,_,_,h'=>h'
 | _ :: _,_ :: _,_,_,h,h'=>⟨h.1,VS.app h.2 h'⟩
 | [],_ :: _,_,_,h,_=>h.elim
 | _ :: _,[],_,_,h,_=>h.elim
theorem VS.flat {U:World}:∀ {l:List Value} {r:List FT},VS U l r→(flatV l).length=r.length*4∧∀ u∈flatV l,u.oneCell'=true
 | [],[],_=>⟨rfl,fun u h=>by cases h⟩
 | v :: l,f :: r,h=>by
  obtain⟨⟨sa,ss,rfl,⟨p1,c1,rfl,-⟩,⟨p2,c2,rfl,-⟩⟩,h2⟩:=h
  obtain⟨e1,e2⟩:=VS.flat h2
  constructor
  ·simp only[flatV,List.flatMap_cons,List.length_append] at e1 ⊢
   rw[e1]
   simp[cells4]
   omega
  ·intro u hu
   simp only[flatV,List.flatMap_cons,List.mem_append] at e2 hu
   rcases hu with hu | hu
   ·simp[cells4] at hu
    rcases hu with rfl | rfl | rfl | rfl<;>rfl
   ·exact e2 u hu
 | [],_ :: _,h=>h.elim
 | _ :: _,[],h=>h.elim
theorem flatV_app (l l':List Value):flatV (l ++ l')=flatV l ++ flatV l':=by simp[flatV]
theorem owns_less {W:World} {B B':Nat} {e:TypeId} {z:Nat} {s:Value} {n:Nat} {xs:List Value} (hb:B≤B') (h:W.ownsRow B' e z s n xs):W.ownsRow B e z s n xs :=
 ⟨h.1,h.2.imp id fun ⟨g,cap,cur,a,b,c⟩=>⟨g,cap,cur,a,Nat.le_trans hb b,c⟩⟩
def RForms (N:Nat):Prop:=∀ (f:FT) (U:World) (v:Value) (w:World),f.size≤N→FVal U f v→Ext U w→f.size≤1000000 →
 Calls Tryz.prog 76 #[v] w fun e w'=>(∃ s l,e=.returned s∧w'.ownsRow w.heap.size 25 4 s f.parts.length (flatV l)∧VS U l f.parts)∧Below w.heap.size w w'
set_option maxHeartbeats 4000000 in
theorem refForms_any (N:Nat):RForms N:=by
 induction N using Nat.strongRecOn with
 | _ N ih =>
 intro f U v w hN hvU hex hs
 have ihh:=h_X ih
 have hvh:=h_X hvU
 have hv:=FVal.ext hex hvU
 obtain⟨sa,ss,rfl,haU,hssU⟩:=id hvU
 obtain⟨pa,ca,rfl,-⟩:=id haU
 obtain⟨p,c,b,o,rfl,hp,ht⟩:=FSl.opened hssU
 have hll2:=f.sub.len_le
 have hlp:=f.sub.length_parts_le
 have ez:f.size=f.ts.size+f.sub.size+1:=rfl
 have hpl:f.parts=f :: f.sub.parts:=rfl
 have hst:=FS.start (t:=25) hv
 obtain⟨W1,hW1⟩:∃ W1,w.alloc (.cells #[.int .u8 f.op,.string f.n,.slice pa f.ts.len ca,.slice p f.sub.len c] 25)=W1:=⟨_,rfl⟩
 rw[hW1] at hst
 obtain⟨g,hg⟩:∃ g,w.heap.size=g:=⟨_,rfl⟩
 have hgh:=h_X hg
 have hexh:=h_X (Ext.trans hex (Ext.of_below hst.2.2.2.2.1))
 have hsz1:w.heap.size≤W1.heap.size:=hst.2.2.2.2.1.size
 rw[hg] at hst
 have k1h:=h_X hst
 have hth:=h_X ht
 obtain⟨i0,hi,hz0,hz1,hz2⟩:=info_parts info27
 have hown0:(W1.alloc (.cells #[.int .u8 f.op,.string f.n,.slice pa f.ts.len ca,.slice p f.sub.len c] 25)).ownsRow W1.heap.size 25 4 (.slice (some ⟨W1.heap.size,0,none⟩) 1 1) 1 (flatV [.agg #[.int .u8 f.op,.string f.n,.slice pa f.ts.len ca,.slice p f.sub.len c]]) :=
  ⟨rfl,.inr ⟨W1.heap.size,1,_,rfl,Nat.le_refl _,heap_alloc_new W1 _,Nat.le_refl _,by decide,rfl,rfl⟩⟩
 have hown0h:=h_X hown0
 clear ih hst hv hvU haU hssU ht hex hown0
 go_enter Tryz.func76,Tryz.ntmps76
 obtain⟨c0,c1,c2,c3,-⟩:=k1h.out
 go_wp2_with fail
 clear c0 c1 c2 c3
 go_loopw [3,4] (fun out i wr=>∃ (k:Nat) (l:List Value) (q:List FT) (r:Fs),i=.int .i64 (k:Int)∧k+r.len=f.sub.len∧r.size≤f.sub.size∧f.parts=q ++ r.parts∧wr.ownsRow W1.heap.size 25 4 out q.length (flatV l)∧VS U l q∧FsAt U r b (o+k*4)∧Below W1.heap.size W1 wr) (fun _ i _=>f.sub.len - (intOf i).toNat)
 case atStart=>exact⟨0,[_],[f],f.sub,rfl,by omega,Nat.le_refl _,rfl,hown0h.out,⟨hvh.out,trivial⟩,by simpa using hth.out,bel_laid _ _⟩
 case round =>
  obtain⟨k,l,q,r,rfl,hk,hrz,hpq,hown,hVS,hat,hbw⟩:=hrel
  have hbwh:=h_X hbw
  obtain⟨c0,c1,c2,c3,-⟩:=k1h.out.next hbw
  cases r with
  | nil =>
   simp only[Fs.len,Nat.add_zero] at hk
   subst hk
   simp only[Fs.parts,List.append_nil] at hpq
   subst hpq
   have hfin:=h_X (show wr.ownsRow w.heap.size 25 4 u3 f.parts.length (flatV l)∧VS U l f.parts∧Below w.heap.size w wr from ⟨owns_less hsz1 hown,hVS,bS k1h.out.2.2.2.2.1 hbw⟩)
   clear hown hVS hat hbw hown0h
   go_wp2_with fail
   go_ret
   exact⟨⟨_,_,rfl,hfin.out.1,hfin.out.2.1⟩,hfin.out.2.2⟩
  | cons op nm us sub r =>
   simp only[Fs.len,Fs.size] at hk hrz
   simp only[Fs.parts] at hpq
   have hkl:(k:Int) < (f.sub.len:Int):=by omega
   have hk0:(0:Int)≤(k:Int):=by omega
   obtain rfl:=hp.resolve_left (by omega)
   have hexr:Ext U wr:=Ext.trans hexh.out (Ext.of_below hbw)
   obtain⟨d0,d1,⟨s,d2,hus⟩,⟨s',d3,hfs⟩,hrest⟩:=hat
   have e0:=hexr _ _ _ d0
   have e1:=hexr _ _ _ d1
   have e2:=hexr _ _ _ d2
   have e3:=hexr _ _ _ d3
   have ez1:(FT.mk op nm us sub).size=us.size+sub.size+1:=rfl
   have hvp:FVal U ⟨op,nm,us,sub⟩ (.agg #[.int .u8 op,.string nm,s,s']):=⟨s,s',rfl,hus,hfs⟩
   have HC:=h_X (ihh.out (FT.mk op nm us sub).size (by omega) ⟨op,nm,us,sub⟩ U _ wr (Nat.le_refl _) hvp hexr (by omega))
   obtain⟨ps,cs,rfl,-⟩:=id hus
   obtain⟨ps',cs',rfl,-⟩:=id hfs
   have hw3:IntKind.i64.wrap ((k:Int)+1)=(k:Int)+1:=IntWalk.i64_in _ (by omega)
   have hlp1:=sub.length_parts_le
   have hlen1:q.length+(1+sub.parts.length+r.parts.length)=1+f.sub.parts.length:=by
    have:=congrArg List.length hpq
    rw[hpl] at this
    simp only[List.length_cons,List.length_append] at this
    omega
   have hh:=h_X (show wr.ownsRow W1.heap.size 25 4 u3 q.length (flatV l)∧VS U l q∧FsAt U r b (o+k*4+4)∧f.parts=q ++ ((⟨op,nm,us,sub⟩ :: sub.parts) ++ r.parts) from ⟨hown,hVS,hrest,hpq⟩)
   clear hown hVS hrest hpq hus hfs hvp d0 d1 d2 d3 hbw hpl
   go_wp2_with fail
   refine HC.out.mono ?_
   rintro e w' ⟨⟨s2,l2,rfl,hown2,hVS2⟩,hb2⟩
   obtain⟨g2,cap2,rfl⟩:∃ g2 cap2,s2=.slice (some ⟨g2,0,none⟩) (sub.parts.length+1) cap2:=by
    obtain⟨-,⟨-,h0⟩ | ⟨g,cap,cur,hv,-⟩⟩:=id hown2
    ·simp[FT.parts] at h0
    ·exact⟨g,cap,hv⟩
   obtain⟨hfl,hone⟩:=hVS2.flat
   have hoh:=h_X (owns_below hb2 hh.out.1)
   have hcells:=h_X (hown2.cells (g:=g2) rfl)
   have hlt2:∀ g,u3.ownBlock=some g→W1.heap.size≤g∧g < w'.heap.size:=hoh.out.lt
   have hVSh:=h_X hVS2
   have hb2h:=h_X hb2
   have hsz2:W1.heap.size≤w'.heap.size:=Nat.le_trans hbwh.out.size hb2.size
   have hflh:=h_X hfl
   have honeh:=h_X hone
   clear HC hown2 hVS2 hb2 hfl hone c0 c1 c2 c3 e0 e1 e2 e3
   go_wp2_with (at_builtin;refine wpList_append_own_at _ rfl _ _ 23 rfl W1.heap.size 25 i0 (.agg #[.int .u8 0,.string ⟨#[]⟩,.slice none 0 0,.slice none 0 0]) 4 72 Tryz.underlying23 hi hz0 hz1 hz2 rfl (by decide) _ _ _ rfl hoh.out ⟨g2,0,none⟩ (sub.parts.length+1) cap2 (flatV l2) rfl hflh.out hcells.out honeh.out ?c3 ?c4 hsz2 ?_)
   case c3=>unfold maxLen;omega
   case c4=>omega
   intro vv w1 hown1 hgrow _ hob
   have hbw1:=h_X (show Below W1.heap.size W1 w1 from (bS hbwh.out hb2h.out).grown hgrow hsz2 (fun g e=>(hlt2 g e).1))
   have hown1h:=h_X (show w1.ownsRow W1.heap.size 25 4 vv (q ++ (⟨op,nm,us,sub⟩ :: sub.parts:List FT)).length (flatV (l ++ l2)) by rw[flatV_app,List.length_append];exact hown1)
   clear hown1 hgrow hob hoh hcells hlt2 hb2h
   go_wp2
   go_roundw
   case rel=>exact⟨k+1,l ++ l2,q ++ (⟨op,nm,us,sub⟩ :: sub.parts),r,by congr 1,by omega,by omega,by rw[List.append_assoc];exact hh.out.2.2.2,hown1h.out,VS.app hh.out.2.1 hVSh.out,by have:=hh.out.2.2.1;rwa [show o+(k+1)*4=o+k*4+4 by omega],hbw1.out⟩
   case measure=>simp[intOf];omega
end Go.Proofs.YtngdieldgnlogaaGreatDoor
namespace Go.Proofs.YtngdieldgnlogaaGreatDoor
open Go Go.RowKit Go.Sort
set_option maxRecDepth 100000
set_option linter.unusedVariables false
theorem Ts.eqB_eq:∀ a b:Ts,a.eqB b=true→a=b
 | .nil,.nil,_=>rfl
 | .nil,.cons _ _ _ _,h=>by simp[Ts.eqB] at h
 | .cons _ _ _ _,.nil,h=>by simp[Ts.eqB] at h
 | .cons v n ts r,.cons v' n' ts' r',h=>by
  simp only[Ts.eqB,Bool.and_eq_true,beq_iff_eq] at h
  obtain⟨⟨⟨h1,h2⟩,h3⟩,h4⟩:=h
  rw[h1,ba_ext h2,Ts.eqB_eq _ _ h3,Ts.eqB_eq _ _ h4]
theorem Fs.eqB_eq:∀ a b:Fs,a.eqB b=true→a=b
 | .nil,.nil,_=>rfl
 | .nil,.cons _ _ _ _ _,h=>by simp[Fs.eqB] at h
 | .cons _ _ _ _ _,.nil,h=>by simp[Fs.eqB] at h
 | .cons op n ts sub r,.cons op' n' ts' sub' r',h=>by
  simp only[Fs.eqB,Bool.and_eq_true,beq_iff_eq] at h
  obtain⟨⟨⟨⟨h1,h2⟩,h3⟩,h4⟩,h5⟩:=h
  rw[h1,ba_ext h2,Ts.eqB_eq _ _ h3,Fs.eqB_eq _ _ h4,Fs.eqB_eq _ _ h5]
theorem FT.eqB_eq {f g:FT} (h:f.eqB g=true):f=g:=by
 simp only[FT.eqB,Bool.and_eq_true,beq_iff_eq] at h
 obtain⟨⟨⟨h1,h2⟩,h3⟩,h4⟩:=h
 cases f;cases g
 simp only at h1 h2 h3 h4
 rw[h1,ba_ext h2,Ts.eqB_eq _ _ h3,Fs.eqB_eq _ _ h4]
theorem pickT_eq (acc:List FT) (f:FT):(f∈acc∧pickT acc f=acc)∨(f∉acc∧pickT acc f=acc ++ [f]):=by
 unfold pickT
 by_cases h:f∈acc
 ·refine .inl ⟨h,if_pos ?_⟩
  refine List.any_eq_true.2 ⟨f,List.mem_filter.2 ⟨h,by simp⟩,?_⟩
  rw[beq_iff_eq,cmpForm_eq]
  exact FT.eqB_refl f
 ·refine .inr ⟨h,if_neg ?_⟩
  intro h2
  obtain⟨g,hg,he⟩:=List.any_eq_true.1 h2
  rw[beq_iff_eq,cmpForm_eq] at he
  have:=FT.eqB_eq he
  subst this
  exact h (List.mem_filter.1 hg).1
theorem picked_spec:∀ (l acc:List FT),acc.Nodup→(l.foldl pickT acc).Nodup∧(∀ x,x∈l.foldl pickT acc↔x∈acc∨x∈l)∧(∃ r,l.foldl pickT acc=acc ++ r)∧(l.foldl pickT acc).length≤acc.length+l.length
 | [],acc,h=>⟨h,fun x=>by simp,⟨[],by simp⟩,by simp⟩
 | f :: l,acc,h=>by
  rw[List.foldl_cons]
  rcases pickT_eq acc f with ⟨h1,e⟩ | ⟨h1,e⟩
  ·rw[e]
   obtain⟨a1,a2,a3,a4⟩:=picked_spec l acc h
   refine⟨a1,fun x=>?_,a3,by simp only[List.length_cons];omega⟩
   rw[a2,List.mem_cons]
   constructor
   ·rintro(h | h)
    ·exact .inl h
    ·exact .inr (.inr h)
   ·rintro(h | rfl | h)
    ·exact .inl h
    ·exact .inl h1
    ·exact .inr h
  ·rw[e]
   have hn:(acc ++ [f]).Nodup:=by
    rw[List.nodup_append]
    exact⟨h,by simp,fun a ha b hb e'=>by
     rw[List.mem_singleton] at hb
     rw[e',hb] at ha
     exact h1 ha⟩
   obtain⟨a1,a2,⟨r,a3⟩,a4⟩:=picked_spec l (acc ++ [f]) hn
   refine⟨a1,fun x=>?_,⟨f :: r,by rw[a3];simp⟩,by simp only[List.length_append,List.length_cons,List.length_nil] at a4 ⊢;omega⟩
   rw[a2,List.mem_append,List.mem_singleton,List.mem_cons,or_assoc]
theorem cmp_same (f g:FT):(cmpForm f g == 0)=true↔f=g:=by
 rw[beq_iff_eq,cmpForm_eq]
 exact⟨FT.eqB_eq,fun e=>by rw[e];exact FT.eqB_refl g⟩
theorem VS.at {U:World}:∀ {l:List Value} {r:List FT} (i:Nat) (h:i < r.length),VS U l r→∃ pa na ca pb cb,FVal U r[i] (.agg #[.int .u8 r[i].op,.string r[i].n,.slice pa na ca,.slice pb r[i].sub.len cb]) ∧
  (flatV l)[i*4]? = some (.int .u8 r[i].op)∧(flatV l)[i*4+1]? = some (.string r[i].n)∧(flatV l)[i*4+2]? = some (.slice pa na ca)∧(flatV l)[i*4+3]? = some (.slice pb r[i].sub.len cb)
 | [],[],i,h,_=>by simp at h
 | v :: l,f :: r,0,h,hv=>by
  obtain⟨⟨sa,ss,rfl,⟨p1,c1,rfl,h1⟩,⟨p2,c2,rfl,h2⟩⟩,-⟩:=hv
  exact⟨p1,_,c1,p2,c2,⟨_,_,rfl,⟨p1,c1,rfl,h1⟩,⟨p2,c2,rfl,h2⟩⟩,by simp[flatV,cells4],by simp[flatV,cells4],by simp[flatV,cells4],by simp[flatV,cells4]⟩
 | v :: l,f :: r,i+1,h,hv=>by
  obtain⟨pa,na,ca,pb,cb,h1,h2,h3,h4,h5⟩:=VS.at i (by simpa using h) hv.2
  obtain⟨⟨sa,ss,rfl,⟨p1,c1,rfl,-⟩,⟨p2,c2,rfl,-⟩⟩,-⟩:=hv
  have hfl:∀ j,(flatV (.agg #[.int .u8 f.op,.string f.n,.slice p1 f.ts.len c1,.slice p2 f.sub.len c2] :: l))[j+4]? = (flatV l)[j]?:=fun j=>by
   simp only[flatV,List.flatMap_cons,cells4]
   rw[List.getElem?_append_right (by simp)]
   simp
  refine⟨pa,na,ca,pb,cb,h1,?_,?_,?_,?_⟩
  ·rw[show (i+1)*4=i*4+4 by omega,hfl];exact h2
  ·rw[show (i+1)*4+1=i*4+1+4 by omega,hfl];exact h3
  ·rw[show (i+1)*4+2=i*4+2+4 by omega,hfl];exact h4
  ·rw[show (i+1)*4+3=i*4+3+4 by omega,hfl];exact h5
 | [],_ :: _,_,_,h=>h.elim
 | _ :: _,[],_,_,h=>h.elim
theorem VS.cell {U W:World} {B g n cap:Nat} {l:List Value} {r:List FT} (i:Nat) (h:i < r.length) (hv:VS U l r) (hown:W.ownsRow B 25 4 (.slice (some ⟨g,0,none⟩) n cap) n (flatV l)) :
  ∃ pa na ca pb cb,FVal U r[i] (.agg #[.int .u8 r[i].op,.string r[i].n,.slice pa na ca,.slice pb r[i].sub.len cb]) ∧
  W.cell? ⟨g,i*4,none⟩=some (.int .u8 r[i].op)∧W.cell? ⟨g,i*4+1,none⟩=some (.string r[i].n)∧W.cell? ⟨g,i*4+2,none⟩=some (.slice pa na ca)∧W.cell? ⟨g,i*4+3,none⟩=some (.slice pb r[i].sub.len cb):=by
 obtain⟨pa,na,ca,pb,cb,h1,h2,h3,h4,h5⟩:=hv.at i h
 have hc:∀ j u,(flatV l)[j]? = some u→W.cell? ⟨g,j,none⟩=some u:=fun j u hu=>by
  have:=hown.cells (g:=g) rfl j u hu
  by_cases e:j=0
  ·subst e;simpa[Addr.add] using this
  ·simpa[Addr.add,e] using this
 exact⟨pa,na,ca,pb,cb,h1,hc _ _ h2,hc _ _ h3,hc _ _ h4,hc _ _ h5⟩
end Go.Proofs.YtngdieldgnlogaaGreatDoor
namespace Go.Proofs.YtngdieldgnlogaaGreatDoor
open Go Go.RowKit
set_option maxRecDepth 100000
set_option linter.unusedVariables false
theorem picked_step {l:List FT} {k:Nat} (h:k < l.length) :
  ((l.take k).any (fun p=>cmpForm l[k] p == 0)=true→pickedT (l.take (k+1))=pickedT (l.take k)) ∧
  ((l.take k).any (fun p=>cmpForm l[k] p == 0)=false→pickedT (l.take (k+1))=pickedT (l.take k) ++ [l[k]]):=by
 have e:l.take (k+1)=l.take k ++ [l[k]]:=by simp
 have e2:pickedT (l.take (k+1))=pickT (pickedT (l.take k)) l[k]:=by rw[e];unfold pickedT;rw[List.foldl_append];rfl
 have hm:=(picked_spec (l.take k) [] List.nodup_nil).2.1 l[k]
 have hiff:(l.take k).any (fun p=>cmpForm l[k] p == 0)=true↔l[k]∈l.take k:=by
  rw[List.any_eq_true]
  exact⟨fun ⟨p,h1,h2⟩=>by rw[(cmp_same _ _).1 h2];exact h1,fun h=>⟨_,h,(cmp_same _ _).2 rfl⟩⟩
 have hm2:l[k]∈pickedT (l.take k)↔l[k]∈l.take k:=by unfold pickedT;rw[hm];simp
 refine⟨fun h1=>?_,fun h1=>?_⟩
 ·rcases pickT_eq (pickedT (l.take k)) l[k] with ⟨-,h3⟩ | ⟨h3,-⟩
  ·rw[e2,h3]
  ·exact(h3 (hm2.2 (hiff.1 h1))).elim
 ·rcases pickT_eq (pickedT (l.take k)) l[k] with ⟨h3,-⟩ | ⟨-,h3⟩
  ·have:=hiff.2 (hm2.1 h3);rw[h1] at this;cases this
  ·rw[e2,h3]
theorem any_step {l:List FT} {m:Nat} (h:m < l.length) (P:FT→Bool):(l.take (m+1)).any P=((l.take m).any P || P l[m]):=by
 have e:l.take (m+1)=l.take m ++ [l[m]]:=by simp
 rw[e,List.any_append,List.any_cons,List.any_nil,Bool.or_false]
theorem Fs.partZ:∀ (t:Fs) (p:FT),p∈t.parts→p.size≤t.size
 | .nil,p,h=>by cases h
 | .cons op n ts sub r,p,h=>by
  simp only[Fs.parts,List.mem_cons,List.mem_append] at h
  rcases h with rfl | h | h
  ·simp only[FT.size,Fs.size];omega
  ·have:=sub.partZ p h;simp only[Fs.size];omega
  ·have:=r.partZ p h;simp only[Fs.size];omega
theorem part_small {f p:FT} (h:p∈f.parts):p.size≤f.size:=by
 rcases List.mem_cons.1 h with rfl | h
 ·exact Nat.le_refl _
 ·have:=f.sub.partZ p h;simp only[FT.size] at this ⊢;omega
def PartsV (f:FT) (w:World) (s:Value) (V:World):Prop :=
 (1000 < f.size∧s=.slice none 0 0)∨(f.size≤1000∧∃ l,V.ownsRow w.heap.size 25 4 s (pickedT f.parts).length (flatV l)∧VS w l (pickedT f.parts))
set_option maxHeartbeats 4000000 in
theorem refParts_any (f:FT) (v:Value) (w:World) (hv:FVal w f v) (hs:f.size≤1000000) :
    Calls Tryz.prog 27 #[v] w fun e w'=>(∃ s,e=.returned s∧PartsV f w s w')∧Below w.heap.size w w':=by
  have hvh:=h_X hv
  obtain⟨sa,ss,rfl,ha,hss⟩:=id hv
  obtain⟨pa,ca,rfl,-⟩:=id ha
  obtain⟨p,c,rfl,-⟩:=id hss
  have hll2:=f.sub.len_le
  have hlp:=f.sub.length_parts_le
  have ez:f.size=f.ts.size+f.sub.size+1:=rfl
  have hpl:f.parts.length=f.sub.parts.length+1:=rfl
  have hst:=FS.start (t:=25) hv
  obtain⟨W1,hW1⟩:∃ W1,w.alloc (.cells #[.int .u8 f.op,.string f.n,.slice pa f.ts.len ca,.slice p f.sub.len c] 25)=W1:=⟨_,rfl⟩
  rw[hW1] at hst
  obtain⟨g,hg⟩:∃ g,w.heap.size=g:=⟨_,rfl⟩
  have hgh:=h_X hg
  have hsz1:w.heap.size≤W1.heap.size:=hst.2.2.2.2.1.size
  have hb1h:=h_X hst.2.2.2.2.1
  rw[hg] at hst
  have k1h:=h_X hst
  have HN:=h_X (refNodes_any f.size f _ W1 (Nat.le_refl _) hst.val hs)
  have HF:=h_X (fun W (hb:Below w.heap.size w W)=>refForms_any f.size f w _ W (Nat.le_refl _) hv (Ext.of_below hb) hs)
  obtain⟨i0,hi,hz0,hz1,hz2⟩:=info_parts info27
  clear hst hv ha hss
  go_enter Tryz.func27,Tryz.ntmps27
  obtain⟨c0,c1,c2,c3,-⟩:=k1h.out
  go_wp2_with fail
  refine HN.out.mono ?_
  rintro e w2 ⟨rfl,hb2⟩
  have k2h:=h_X (k1h.out.next hb2)
  have hb2h:=h_X (bS hb1h.out hb2)
  clear HN hW1 c0 c1 c2 c3 hb2 k1h
  by_cases hq:f.size≤1000
  rotate_left
  · have hq':1000 < (f.size:Int):=by omega
    have hqh:=h_X (show 1000 < f.size by omega)
    clear hq hg
    go_wp2_with fail
    go_ret
    exact⟨⟨_,rfl,.inl ⟨hqh.out,rfl⟩⟩,hb2h.out⟩
  have hq':(f.size:Int)≤1000:=by omega
  obtain⟨c0,c1,c2,c3,-⟩:=k2h.out
  clear hg
  go_wp2_with fail
  refine(HF.out _ hb2h.out).mono ?_
  rintro e WF ⟨⟨s,l,rfl,hown,hVS⟩,hb3⟩
  clear c0 c1 c2 c3 HF k2h
  have hsz3:w.heap.size≤WF.heap.size:=Nat.le_trans hb2h.out.size hb3.size
  have hbF:=h_X (bS hb2h.out hb3)
  obtain⟨n,hn⟩:∃ n,f.parts.length=n:=⟨_,rfl⟩
  rw[hn] at hown
  obtain⟨g2,cap2,rfl⟩:∃ g2 cap2,s=.slice (some ⟨g2,0,none⟩) n cap2:=by
    obtain⟨-,⟨-,h0⟩ | ⟨g,cap,cur,hv,-⟩⟩:=id hown
    · omega
    · exact⟨g,cap,hv⟩
  have hC:=h_X (fun i (h:i < f.parts.length)=>hVS.cell i h hown)
  clear hown hVS hb3
  go_wp2_with fail
  have hg2:g2 < WF.heap.size:=by
    by_cases h0:0 < f.parts.length
    · obtain⟨_,_,_,_,_,-,h1,-⟩:=hC.out 0 h0
      exact lt_of_cell h1
    · omega
  go_loopw [3,5] (fun out i wr=>∃ (k:Nat) (l':List Value),i=.int .i64 (k:Int)∧k≤n∧wr.ownsRow WF.heap.size 25 4 out (pickedT (f.parts.take k)).length (flatV l')∧VS w l' (pickedT (f.parts.take k))∧Below WF.heap.size WF wr) (fun _ i _=>n - (intOf i).toNat)
  case atStart=>exact⟨0,[],rfl,by omega,World.ownsRow_nil _ _ _ _,trivial,Below.refl _ _⟩
  case round =>
    obtain⟨k,l',rfl,hkn,hown,hVS,hbw⟩:=hrel
    have hbwh:=h_X hbw
    by_cases hk:k < n
    rotate_left
    · obtain rfl:k=n:=by omega
      have hlt:¬ (k:Int) < (k:Int):=by omega
      have htk:f.parts.take k=f.parts:=List.take_of_length_le (by omega)
      rw[htk] at hown hVS
      have hfin:=h_X (show PartsV f w u3 wr∧Below w.heap.size w wr from ⟨.inr ⟨hq,l',owns_less hsz3 hown,hVS⟩,bS hbF.out hbw⟩)
      clear hown hVS hbw htk hC
      go_wp2_with fail
      go_ret
      exact⟨⟨_,rfl,hfin.out.1⟩,hfin.out.2⟩
    · have hki:(k:Int) < (n:Int):=by omega
      have hk0:(0:Int)≤(k:Int):=by omega
      have hkl:k < f.parts.length:=by omega
      have hh:=h_X (show wr.ownsRow WF.heap.size 25 4 u3 (pickedT (f.parts.take k)).length (flatV l')∧VS w l' (pickedT (f.parts.take k)) from ⟨hown,hVS⟩)
      have hw3:IntKind.i64.wrap ((k:Int)+1)=(k:Int)+1:=IntWalk.i64_in _ (by omega)
      clear hown hVS hbw
      go_wp2_with fail
      go_loopw [6,7] (fun old j wv=>∃ (m:Nat),j=.int .i64 (m:Int)∧m≤k∧old=.bool ((f.parts.take m).any fun p=>cmpForm f.parts[k] p == 0)∧Below wr.heap.size wr wv) (fun _ j _=>k - (intOf j).toNat)
      case atStart=>exact⟨0,rfl,by omega,rfl,Below.refl _ _⟩
      case round =>
        rename World=>wv
        obtain⟨m,rfl,hmk,rfl,hbv⟩:=hrel
        by_cases hm:m < k
        rotate_left
        · obtain rfl:m=k:=by omega
          have hlt:¬ (m:Int) < (m:Int):=by omega
          have hbv2:=bS hbwh.out hbv
          have hbvh:=h_X hbv2
          cases hold:(f.parts.take m).any fun p=>cmpForm f.parts[m] p == 0 with
          | true =>
            have hp:=(picked_step hkl).1 hold
            have hfin:=h_X (show wv.ownsRow WF.heap.size 25 4 u3 (pickedT (f.parts.take (m+1))).length (flatV l')∧VS w l' (pickedT (f.parts.take (m+1))) from by rw[hp];exact⟨owns_below hbv hh.out.1,hh.out.2⟩)
            clear hold hp hbv hbv2
            go_wp2_with fail
            go_roundw
            case rel=>exact⟨m+1,l',by congr 1,by omega,hfin.out.1,hfin.out.2,hbvh.out⟩
            case measure=>simp[intOf];omega
          | false =>
            have hp:=h_X ((picked_step hkl).2 hold)
            obtain⟨p1,n1,c1,p2,c2,hvk,d0,d1,d2,d3⟩:=hC.out m hkl
            have hvkh:=h_X hvk
            replace d0:=c_B hbv2 d0
            replace d1:=c_B hbv2 d1
            replace d2:=c_B hbv2 d2
            replace d3:=c_B hbv2 d3
            have hbl:=bel_laid wv (.cells #[.int .u8 f.parts[m].op,.string f.parts[m].n,.slice p1 n1 c1,.slice p2 f.parts[m].sub.len c2] 25)
            have hoh:=h_X (owns_below hbl (owns_below hbv hh.out.1))
            have hlt2:∀ g,u3.ownBlock=some g→WF.heap.size≤g∧g < (wv.alloc (.cells #[.int .u8 f.parts[m].op,.string f.parts[m].n,.slice p1 n1 c1,.slice p2 f.parts[m].sub.len c2] 25)).heap.size:=hoh.out.lt
            have hb4h:=h_X (bS hbv2 hbl)
            have hpk:(pickedT (f.parts.take m)).length≤m:=by
              have:=(picked_spec (f.parts.take m) [] List.nodup_nil).2.2.2
              unfold pickedT
              simp only[List.length_nil,Nat.zero_add,List.length_take] at this
              omega
            have hszv:WF.heap.size≤wv.heap.size:=hbv2.size
            clear hold hbv hbv2 hbl hvk
            generalize f.parts[m].op=o1 at *
            go_wp2_with (at_builtin;refine wpList_append_own_at _ rfl _ _ 23 rfl WF.heap.size 25 i0 (.agg #[.int .u8 0,.string ⟨#[]⟩,.slice none 0 0,.slice none 0 0]) 4 72 Tryz.underlying23 hi hz0 hz1 hz2 rfl (by decide) _ _ _ rfl hoh.out ⟨wv.heap.size,0,none⟩ 1 1 [.int .u8 o1,.string f.parts[m].n,.slice p1 n1 c1,.slice p2 f.parts[m].sub.len c2] rfl rfl ?c1 ?c2 ?c3 ?c4 ?c5 ?_)
            case c2=>exact⟨rfl,rfl,rfl,rfl⟩
            case c3=>unfold maxLen;omega
            case c4=>omega
            case c5=>omega
            intro vv w1 hown1 hgrow _ hob
            have hbw1:=h_X (show Below WF.heap.size WF w1 from hb4h.out.grown hgrow hb4h.out.size (fun g e=>(hlt2 g e).1))
            have hown1h:=h_X (show w1.ownsRow WF.heap.size 25 4 vv (pickedT (f.parts.take (m+1))).length (flatV (l' ++ [.agg #[.int .u8 o1,.string f.parts[m].n,.slice p1 n1 c1,.slice p2 f.parts[m].sub.len c2]])) by rw[hp.out,flatV_snoc,List.length_append];exact hown1)
            have hVS1:=h_X (show VS w (l' ++ [.agg #[.int .u8 o1,.string f.parts[m].n,.slice p1 n1 c1,.slice p2 f.parts[m].sub.len c2]]) (pickedT (f.parts.take (m+1))) by rw[hp.out];exact VS.app hh.out.2 ⟨hvkh.out,trivial⟩)
            clear hown1 hgrow hob hoh hlt2 hb4h d0 d1 d2 d3
            go_wp2
            go_roundw
            case rel=>exact⟨m+1,_,by congr 1,by omega,hown1h.out,hVS1.out,hbw1.out⟩
            case measure=>simp[intOf];omega
        · have hmi:(m:Int) < (k:Int):=by omega
          have hm0:(0:Int)≤(m:Int):=by omega
          have hml:m < f.parts.length:=by omega
          have hmn:(m:Int) < (n:Int):=by omega
          have hw4:IntKind.i64.wrap ((m:Int)+1)=(m:Int)+1:=IntWalk.i64_in _ (by omega)
          have hbv2:=bS hbwh.out hbv
          obtain⟨p1,n1,c1,p2,c2,hvk,d0,d1,d2,d3⟩:=hC.out k hkl
          obtain⟨q1,r1,a1,q2,a2,hvm,e0,e1,e2,e3⟩:=hC.out m hml
          have z0:=c_B hbwh.out d0
          have z1:=c_B hbwh.out d1
          have z2:=c_B hbwh.out d2
          have z3:=c_B hbwh.out d3
          have y0:=c_B hbwh.out e0
          have y1:=c_B hbwh.out e1
          have y2:=c_B hbwh.out e2
          have y3:=c_B hbwh.out e3
          replace d0:=c_B hbv2 d0
          replace d1:=c_B hbv2 d1
          replace d2:=c_B hbv2 d2
          replace d3:=c_B hbv2 d3
          replace e0:=c_B hbv2 e0
          replace e1:=c_B hbv2 e1
          replace e2:=c_B hbv2 e2
          replace e3:=c_B hbv2 e3
          obtain⟨q,hq⟩:∃ q,(cmpForm f.parts[k] f.parts[m] == 0)=q:=⟨_,rfl⟩
          have hzk:f.parts[k].size≤1000000:=by have:=(part_small (List.getElem_mem hkl));omega
          have hzm:f.parts[m].size≤1000000:=by have:=(part_small (List.getElem_mem hml));omega
          have hVK:=h_X hvk
          have hVM:=h_X hvm
          have hBF:=h_X (bS hbF.out hbv2)
          have hstep:=h_X (any_step hml (fun p=>cmpForm f.parts[k] p == 0))
          have HC:=h_X (fun V (hb:Below wr.heap.size wr V)=>(by
            have hx:Ext w V:=Ext.of_below (bS hbF.out (bS hbwh.out hb))
            have:=refSame_any f.parts[k] _ f.parts[m] _ V (FVal.ext hx hvk) (FVal.ext hx hvm) hzk hzm
            rw[hq] at this
            exact this.mono fun e w' he=>⟨he.1,bS hb he.2⟩:Calls Tryz.prog 77 #[.agg #[.int .u8 f.parts[k].op,.string f.parts[k].n,.slice p1 n1 c1,.slice p2 f.parts[k].sub.len c2],.agg #[.int .u8 f.parts[m].op,.string f.parts[m].n,.slice q1 r1 a1,.slice q2 f.parts[m].sub.len a2]] V fun e w'=>e=.returned (.bool q)∧Below wr.heap.size wr w'))
          have hst2:Hid ((f.parts.take (m+1)).any (fun p=>cmpForm f.parts[k] p == 0)=((f.parts.take m).any (fun p=>cmpForm f.parts[k] p == 0) || q)):=h_X (by rw[hstep.out,←hq])
          obtain⟨old,hold⟩:∃ old,(f.parts.take m).any (fun p=>cmpForm f.parts[k] p == 0)=old:=⟨_,rfl⟩
          rw[hold] at hst2 ⊢
          have hbvh:=h_X hbv
          clear hstep hold hq hbv2 hzk hzm hvk hvm hVK hVM hBF
          obtain⟨xo,hxo⟩:∃ x,f.parts[k].op=x:=⟨_,rfl⟩
          obtain⟨xn,hxn⟩:∃ x,f.parts[k].n=x:=⟨_,rfl⟩
          obtain⟨xl,hxl⟩:∃ x,f.parts[k].sub.len=x:=⟨_,rfl⟩
          obtain⟨yo,hyo⟩:∃ x,f.parts[m].op=x:=⟨_,rfl⟩
          obtain⟨yn,hyn⟩:∃ x,f.parts[m].n=x:=⟨_,rfl⟩
          obtain⟨yl,hyl⟩:∃ x,f.parts[m].sub.len=x:=⟨_,rfl⟩
          rw[hxo] at d0 z0 HC
          rw[hxn] at d1 z1 HC
          rw[hxl] at d3 z3 HC
          rw[hyo] at e0 y0 HC
          rw[hyn] at e1 y1 HC
          rw[hyl] at e3 y3 HC
          have CC:=h_X (fun V (hb:Below wr.heap.size wr V)=>show V.cell? ⟨g2,k*4,none⟩=some (.int .u8 xo)∧V.cell? ⟨g2,k*4+1,none⟩=some (.string xn)∧V.cell? ⟨g2,k*4+2,none⟩=some (.slice p1 n1 c1)∧V.cell? ⟨g2,k*4+3,none⟩=some (.slice p2 xl c2)∧V.cell? ⟨g2,m*4,none⟩=some (.int .u8 yo)∧V.cell? ⟨g2,m*4+1,none⟩=some (.string yn)∧V.cell? ⟨g2,m*4+2,none⟩=some (.slice q1 r1 a1)∧V.cell? ⟨g2,m*4+3,none⟩=some (.slice q2 yl a2)∧Below wr.heap.size wr V from ⟨c_B hb z0,c_B hb z1,c_B hb z2,c_B hb z3,c_B hb y0,c_B hb y1,c_B hb y2,c_B hb y3,hb⟩)
          clear z0 z1 z2 z3 y0 y1 y2 y3
          have HS:=h_X (fun V (hV:((fun V:World=>V.cell? ⟨g2,k*4,none⟩=some (.int .u8 xo)∧V.cell? ⟨g2,k*4+1,none⟩=some (.string xn)∧V.cell? ⟨g2,k*4+2,none⟩=some (.slice p1 n1 c1)∧V.cell? ⟨g2,k*4+3,none⟩=some (.slice p2 xl c2)∧V.cell? ⟨g2,m*4,none⟩=some (.int .u8 yo)∧V.cell? ⟨g2,m*4+1,none⟩=some (.string yn)∧V.cell? ⟨g2,m*4+2,none⟩=some (.slice q1 r1 a1)∧V.cell? ⟨g2,m*4+3,none⟩=some (.slice q2 yl a2)∧Below wr.heap.size wr V) V))=>show Calls Tryz.prog 77 #[.agg #[.int .u8 xo,.string xn,.slice p1 n1 c1,.slice p2 xl c2],.agg #[.int .u8 yo,.string yn,.slice q1 r1 a1,.slice q2 yl a2]] V fun e w'=>e=.returned (.bool q)∧(fun V:World=>V.cell? ⟨g2,k*4,none⟩=some (.int .u8 xo)∧V.cell? ⟨g2,k*4+1,none⟩=some (.string xn)∧V.cell? ⟨g2,k*4+2,none⟩=some (.slice p1 n1 c1)∧V.cell? ⟨g2,k*4+3,none⟩=some (.slice p2 xl c2)∧V.cell? ⟨g2,m*4,none⟩=some (.int .u8 yo)∧V.cell? ⟨g2,m*4+1,none⟩=some (.string yn)∧V.cell? ⟨g2,m*4+2,none⟩=some (.slice q1 r1 a1)∧V.cell? ⟨g2,m*4+3,none⟩=some (.slice q2 yl a2)∧Below wr.heap.size wr V) w' from (HC.out V hV.2.2.2.2.2.2.2.2).mono fun e w' he=>⟨he.1,CC.out w' he.2⟩)
          clear HC hxo hxn hxl hyo hyn hyl
          go_wp2_with fail
          go_region_held3 (fun V:World=>V.cell? ⟨g2,k*4,none⟩=some (.int .u8 xo)∧V.cell? ⟨g2,k*4+1,none⟩=some (.string xn)∧V.cell? ⟨g2,k*4+2,none⟩=some (.slice p1 n1 c1)∧V.cell? ⟨g2,k*4+3,none⟩=some (.slice p2 xl c2)∧V.cell? ⟨g2,m*4,none⟩=some (.int .u8 yo)∧V.cell? ⟨g2,m*4+1,none⟩=some (.string yn)∧V.cell? ⟨g2,m*4+2,none⟩=some (.slice q1 r1 a1)∧V.cell? ⟨g2,m*4+3,none⟩=some (.slice q2 yl a2)∧Below wr.heap.size wr V) (first | assumption | exact⟨d0,d1,d2,d3,e0,e1,e2,e3,bS hbvh.out (bel_drew wv)⟩)
            (first
              | (go_at_call 77;refine(HS.out _ (by assumption)).mono ?_;rintro e w' ⟨rfl,hSS⟩))
          have hbS:=h_X hSS.2.2.2.2.2.2.2.2
          clear HS CC hSS d0 d1 d2 d3 e0 e1 e2 e3
          cases q with
          | true =>
            have hfin:=h_X (show Value.bool true=.bool ((f.parts.take (m+1)).any fun p=>cmpForm f.parts[k] p == 0) by rw[hst2.out,Bool.or_true])
            go_wp2_with fail
            go_roundw
            case rel=>exact⟨m+1,by congr 1,by omega,hfin.out,hbS.out⟩
            case measure=>simp[intOf];omega
          | false =>
            have hfin:=h_X (show Value.bool old=.bool ((f.parts.take (m+1)).any fun p=>cmpForm f.parts[k] p == 0) by rw[hst2.out,Bool.or_false])
            go_wp2_with fail
            go_roundw
            case rel=>exact⟨m+1,by congr 1,by omega,hfin.out,hbS.out⟩
            case measure=>simp[intOf];omega
end Go.Proofs.YtngdieldgnlogaaGreatDoor
