/- Basics for regions that draw their order. A region that draws its order, by what is so whatever has come up: an invariant over the operations that have come up, the slots that the region writes, and the world. A drawn region that lays some cells, appends them to a list and stores the list that comes out: what is so on the way. A drawn region whose slots are known beforehand, or known by what they are: what is so on the way. -/
import Derived.Test.YtngdieldgnlogaaGreatDoorSP
import Derived.Test.YtngdieldgnlogaaGreatDoorQU
import Derived.Test.YtngdieldgnlogaaGreatDoorQE
import Derived.Deep.AppendLies
namespace Go.Proofs.YtngdieldgnlogaaGreatDoor
open Go Go.RowKit
set_option maxRecDepth 100000
set_option linter.unusedVariables false
theorem act_puts {a a':Act} {n:Nat} {vals:List (Nat × Value)} (hn:a.tmps.size=n) (hn':a'.tmps.size=n) (hd:a'.defers=a.defers) (hpw:vals.Pairwise (fun p q=>p.1≠q.1))
  (hb:∀ d,d < n→keyB vals d=false→a'.tmps[d]? = a.tmps[d]?) (hv:∀ d,d < n→keyB vals d=true→a'.tmps[d]? = some (slotV a vals d)):a'=puts a vals:=by
 have et:a'.tmps=(puts a vals).tmps:=by
  apply Array.ext_getElem?
  intro d
  by_cases hdn:d < n
  ·cases hk:keyB vals d with
   | false=>rw[puts_other _ _ _ hk];exact hb d hdn hk
   | true=>rw[puts_same _ a a d hpw hk (by omega)];exact hv d hdn hk
  ·rw[Array.getElem?_eq_none (by omega),Array.getElem?_eq_none (by rw[puts_size];omega)]
 have ed:a'.defers=(puts a vals).defers:=by rw[puts_defs];exact hd
 cases a'
 cases h:puts a vals
 simp_all
theorem ex_alloc {o:Oper} {ev:Operand→Value} {w:World} (hop:o.op=.alloc 25):(execOp ev o).run Tryz.prog w=.ok (.value (.pointer (some ⟨w.heap.size,0,none⟩))) (w.alloc (.cells #[.int .u8 0,.string ⟨#[]⟩,.slice none 0 0,.slice none 0 0] 25)):=by
 simp[execOp,hop,go_sem]
def Fr4' (g:Nat) (W:World):Prop:=∀ j,j < 4→∃ u,Wc W g j u
theorem Fr4'.below {g:Nat} {W W':World} (hb:Below W.heap.size W W') (h:Fr4' g W):Fr4' g W':=fun j hj=>(h j hj).imp fun _ h=>h.below hb
theorem Fr4'.new (W:World):Fr4' W.heap.size (W.alloc (.cells #[.int .u8 0,.string ⟨#[]⟩,.slice none 0 0,.slice none 0 0] 25)):=fun j hj=>(Free.lit W #[.int .u8 0,.string ⟨#[]⟩,.slice none 0 0,.slice none 0 0] 25).wc (by simpa using hj)
def zipV (ks:List Nat) (g:Nat→Value):List (Nat × Value):=ks.map fun d=>(d,g d)
theorem keyB_zipV (ks:List Nat) (g:Nat→Value) (d:Nat):keyB (zipV ks g) d=ks.contains d:=by
 induction ks with
 | nil=>rfl
 | cons k r ih =>
  show (k == d || keyB (zipV r g) d)=(k :: r).contains d
  rw[ih,List.contains_cons]
  congr 1
  rw[Bool.eq_iff_iff,beq_iff_eq,beq_iff_eq]
  exact eq_comm
theorem slotV_zipV (a:Act) (ks:List Nat) (g:Nat→Value) (d:Nat) (h:ks.contains d=true):slotV a (zipV ks g) d=g d:=by
 induction ks with
 | nil=>simp at h
 | cons k r ih =>
  show (if k == d then g k else slotV a (zipV r g) d)=g d
  by_cases e:k=d
  ·subst e;simp
  ·have e':(k == d)=false:=by simp[e]
   rw[e']
   simp only[Bool.false_eq_true,if_false]
   refine ih ?_
   simp only[List.contains_cons,Bool.or_eq_true,beq_iff_eq] at h
   rcases h with h | h
   ·exact(e h.symm).elim
   ·exact h
theorem wq1 {w w1:World} {b k:Nat} {v:Value} {r:Option Nat} {P:Prop} (_:P) (hg:w.grownBy w1 r) (hn:some b≠r) (h:Wc w b k v):Wc w1 b k v :=
 ⟨hg.cell h.1 hn,(hg.frozen_far _ (lt_of_cell h.1) hn).trans h.2⟩
theorem in_boxes {f h:FT} {sa ss sb sc:Value} {w:World} (hv:FVal w f (fval f sa ss)) (hv':FVal w h (fval h sb sc)) (t:TypeId) :
  ∃ W1 W2,w.alloc (.cells #[.int .u8 f.op,.string f.n,sa,ss] t)=W1∧W1.alloc (.cells #[.int .u8 h.op,.string h.n,sb,sc] t)=W2∧W1.heap.size=w.heap.size+1∧W2.heap.size=w.heap.size+2 ∧
   FS f sa ss w w.heap.size W2∧FS h sb sc w (w.heap.size+1) W2:=by
 have e1:=bel_laid w (.cells #[.int .u8 f.op,.string f.n,sa,ss] t)
 have k2:=FS.start (t:=t) (FVal.below e1 hv')
 rw[World.size_alloc] at k2
 exact⟨_,_,rfl,rfl,by simp,by simp,(FS.start (t:=t) hv).next (bel_laid _ _),⟨k2.1,k2.2.1,k2.2.2.1,k2.2.2.2.1,bS e1 k2.2.2.2.2.1,k2.2.2.2.2.2⟩⟩
theorem Ts.eqB_refl:∀ a:Ts,a.eqB a=true
 | .nil=>rfl
 | .cons v n ts r=>by simp[Ts.eqB,Ts.eqB_refl ts,Ts.eqB_refl r]
theorem Fs.eqB_refl:∀ a:Fs,a.eqB a=true
 | .nil=>rfl
 | .cons op n ts sub r=>by simp[Fs.eqB,Ts.eqB_refl ts,Fs.eqB_refl sub,Fs.eqB_refl r]
theorem FT.eqB_refl (f:FT):f.eqB f=true:=by simp[FT.eqB,Ts.eqB_refl,Fs.eqB_refl]
theorem FVal.spelt {W:World} {g:FT} {v:Value} (h:FVal W g v):∃ p n p' n',v=fval g (.slice p g.ts.len n) (.slice p' g.sub.len n'):=by
 obtain⟨sa,ss,rfl,⟨p,c,rfl,-⟩,⟨p',c',rfl,-⟩⟩:=h
 exact⟨_,_,_,_,rfl⟩
theorem store_box {W:World} {b:Nat} {g:FT} {p q:Option Addr} {m n:Nat} (hF:Fr4' b W):∃ W',(Instr.storeAt 25 (.pointer (some ⟨b,0,none⟩)) (fval g (.slice p g.ts.len m) (.slice q g.sub.len n))).run Tryz.prog W=.ok () W' ∧
  W'.cell? ⟨b,0,none⟩=some (.int .u8 g.op)∧W'.cell? ⟨b,1,none⟩=some (.string g.n)∧W'.cell? ⟨b,2,none⟩=some (.slice p g.ts.len m)∧W'.cell? ⟨b,3,none⟩=some (.slice q g.sub.len n) ∧
  (∀ x i v,x≠b→Wc W x i v→Wc W' x i v)∧(∀ x i v,x≠b→W.cell? ⟨x,i,none⟩=some v→W'.cell? ⟨x,i,none⟩=some v)∧(∀ B w0,Below B w0 W→B≤b→Below B w0 W')∧W'.heap.size=W.heap.size:=by
 obtain⟨u0,y0⟩:=hF 0 (by omega)
 obtain⟨u1,y1⟩:=hF 1 (by omega)
 obtain⟨u2,y2⟩:=hF 2 (by omega)
 obtain⟨u3,y3⟩:=hF 3 (by omega)
 obtain⟨W',hW,q0,q1,q2,q3,hfar,hbel,hs⟩:=set4o W b 0 (.int .u8 g.op) (.string g.n) (.slice p g.ts.len m) (.slice q g.sub.len n) y0 y1 y2 y3
 simp only[Nat.zero_add] at hW q1 q2 q3
 have hcell:∀ x i v,x≠b→W.cell? ⟨x,i,none⟩=some v→W'.cell? ⟨x,i,none⟩=some v:=fun x i v hx hc=>by
  rw[←hW,set_off (.inl hx),set_off (.inl hx),set_off (.inl hx),set_off (.inl hx)];exact hc
 refine⟨W',?_,q0.1,q1.1,q2.1,q3.1,fun x i v hx hc=>hfar x i v (fun h=>hx h.1) hc,hcell,hbel,hs⟩
 have z0:=y0.1
 have z1:=y1.1
 have z2:=y2.1
 have z3:=y3.1
 have f0:=y0.2
 have f1:=y1.2
 have f2:=y2.2
 have f3:=y3.2
 simp[Instr.storeAt,go_sem,z0,z1,z2,z3,f0,f1,f2,f3,hW]
end Go.Proofs.YtngdieldgnlogaaGreatDoor
namespace Go.Proofs.YtngdieldgnlogaaGreatDoor
open Go Go.RowKit
set_option maxRecDepth 100000
set_option linter.unusedVariables false
def depsOf (ops:Array Oper) (i:Nat):List Nat:=match ops[i]? with
 | none=>[]
 | some o=>(o.after.toList.filter fun e=>Region.binds .any e).map fun e=>e.on
def upd {β:Type} (f:Nat→β) (d:Nat) (v:β):Nat→β:=fun x=>if x=d then v else f x
theorem upd_same {β:Type} (f:Nat→β) (d:Nat) (v:β):upd f d v d=v:=if_pos rfl
theorem upd_ne {β:Type} (f:Nat→β) {d x:Nat} (v:β) (h:x≠d):upd f d v x=f x:=if_neg h
def fitR (ops:Array Oper) (n:Nat) (ks:List Nat):Bool :=
 ((List.range ops.size).all fun i=>(depsOf ops i).all (fun j=>decide (j < i)) && (match dstAt ops i with | none=>true | some d=>ks.contains d)) &&
 ks.all (fun d=>decide (d < n)) && decide (ks.Pairwise (·≠·))
def StepR (ops:Array Oper) (stp:Nat→(Act→World→Prop)→Act→World→Prop) (ks:List Nat) (J:(Nat→Bool)→(Nat→Value)→World→Prop) (a:Act) (i:Nat):Prop :=
 ∀ (l:Nat→Bool) (g:Nat→Value) (W:World),l i=false→(∀ j,(depsOf ops i).contains j=true→l j=true)→(∀ q j,l q=true→(depsOf ops q).contains j=true→l j=true)→J l g W →
  (∀ d,ks.contains d=true→(puts a (zipV ks g)).tmps[d]? = some (g d))→(∀ d,ks.contains d=false→(puts a (zipV ks g)).tmps[d]? = a.tmps[d]?) →
  (∀ d v,ks.contains d=true→(puts a (zipV ks g)).put (some d) v=puts a (zipV ks (upd g d v))) →
  stp i (fun a' W'=>∃ g',a'=puts a (zipV ks g')∧J (upd l i true) g' W') (puts a (zipV ks g)) W
def StepsR (ops:Array Oper) (stp:Nat→(Act→World→Prop)→Act→World→Prop) (ks:List Nat) (J:(Nat→Bool)→(Nat→Value)→World→Prop) (a:Act):Nat→List Oper→Prop
 | _,[]=>True
 | i,_ :: r=>StepR ops stp ks J a i∧StepsR ops stp ks J a (i+1) r
theorem StepsR.at {ops:Array Oper} {stp:Nat→(Act→World→Prop)→Act→World→Prop} {ks:List Nat} {J:(Nat→Bool)→(Nat→Value)→World→Prop} {a:Act} (l:List Oper) :
  ∀ (m:Nat),StepsR ops stp ks J a m l→∀ i,i < l.length→StepR ops stp ks J a (m+i):=by
 induction l with
 | nil=>intro m _ i hi;simp at hi
 | cons x r ih =>
  intro m h i hi
  unfold StepsR at h
  cases i with
  | zero=>exact h.1
  | succ i =>
   have:=ih (m+1) h.2 i (by simpa using hi)
   rwa [show m+1+i=m+(i+1) by omega] at this
theorem put_asis (a:Act) (d:Nat):a.put (some d) (a.tmps.getD d undef)=a:=by
 have et:(a.put (some d) (a.tmps.getD d undef)).tmps=a.tmps:=by
  apply Array.ext_getElem?
  intro x
  show (a.tmps.setIfInBounds d (a.tmps.getD d undef))[x]? = a.tmps[x]?
  by_cases hx:d=x
  ·subst hx
   by_cases hd:d < a.tmps.size
   ·simp[hd]
   ·have h9:a.tmps.size≤d:=by omega
    simp[h9]
  ·simp[Array.getElem?_setIfInBounds_ne hx]
 have ed:(a.put (some d) (a.tmps.getD d undef)).defers=a.defers:=rfl
 cases a
 cases h:Act.put _ _ _
 simp_all
theorem puts_zip_same (a:Act):∀ ks:List Nat,puts a (zipV ks fun d=>a.tmps.getD d undef)=a
 | []=>rfl
 | d :: r=>by
  show puts (a.put (some d) (a.tmps.getD d undef)) (zipV r fun d=>a.tmps.getD d undef)=a
  rw[put_asis]
  exact puts_zip_same a r
theorem pw_zip {ks:List Nat} (h:ks.Pairwise (·≠·)) (g:Nat→Value):(zipV ks g).Pairwise (fun p q=>p.1≠q.1):=by
 rw[zipV,List.pairwise_map];exact h
theorem puts_zip_get {a:Act} {ks:List Nat} {n:Nat} (hn:a.tmps.size=n) (hlt:ks.all (fun d=>decide (d < n))=true) (hp:ks.Pairwise (·≠·)) (g:Nat→Value) {d:Nat} (hd:ks.contains d=true) :
  (puts a (zipV ks g)).tmps[d]? = some (g d):=by
 have h2:=List.all_eq_true.1 hlt d (cM hd)
 rw[decide_eq_true_eq] at h2
 rw[puts_same _ a a d (pw_zip hp g) (by rw[keyB_zipV];exact hd) (by omega),slotV_zipV _ _ _ _ hd]
theorem puts_zip_put {a:Act} {ks:List Nat} {n:Nat} (hn:a.tmps.size=n) (hlt:ks.all (fun d=>decide (d < n))=true) (hp:ks.Pairwise (·≠·)) (g:Nat→Value) (d:Nat) (v:Value) (hd:ks.contains d=true) :
  (puts a (zipV ks g)).put (some d) v=puts a (zipV ks (upd g d v)):=by
 have hdn:=List.all_eq_true.1 hlt d (cM hd)
 rw[decide_eq_true_eq] at hdn
 refine act_puts (n:=n) hn (by simp[Act.put,puts_size,hn]) (by rw[show ((puts a (zipV ks g)).put (some d) v).defers=(puts a (zipV ks g)).defers from rfl,puts_defs]) (pw_zip hp _) ?_ ?_
 ·intro x hx hk
  rw[keyB_zipV] at hk
  have hne:d≠x:=fun e=>by rw[e] at hd;rw[hd] at hk;cases hk
  show ((puts a (zipV ks g)).tmps.setIfInBounds d v)[x]? = _
  rw[Array.getElem?_setIfInBounds_ne hne]
  exact puts_other _ _ _ (by rw[keyB_zipV];exact hk)
 ·intro x hx hk
  rw[keyB_zipV] at hk
  rw[slotV_zipV _ _ _ _ hk]
  show ((puts a (zipV ks g)).tmps.setIfInBounds d v)[x]? = _
  by_cases e:d=x
  ·subst e
   rw[upd_same]
   simp[puts_size,hn,hdn]
  ·rw[Array.getElem?_setIfInBounds_ne e,puts_zip_get hn hlt hp g hk,upd_ne _ _ (Ne.symm e)]
theorem any_run {ops:Array Oper} {Qn:Act→World→Prop} {stp:Nat→(Act→World→Prop)→Act→World→Prop} (hmono:∀ {i:Nat} {K K':Act→World→Prop} {a:Act} {w:World},(∀ a w,K a w→K' a w)→stp i K a w→stp i K' a w)
  {n:Nat} {ks:List Nat} {J:(Nat→Bool)→(Nat→Value)→World→Prop} {a:Act} (hn:a.tmps.size=n) (hf:fitR ops n ks=true) (hst:StepsR ops stp ks J a 0 ops.toList)
  (hend:∀ l g W,(∀ j,j < ops.size→l j=true)→J l g W→Qn (puts a (zipV ks g)) W) :
  ∀ (m:Nat) (L:Array Bool) (g:Nat→Value) (W:World),L.size=ops.size→upTo L ops.size=m→(∀ q j,L.getD q false=true→(depsOf ops q).contains j=true→L.getD j false=true)→J (fun j=>L.getD j false) g W →
   anyG .any ops Qn stp m L (puts a (zipV ks g)) W:=by
 simp only[fitR,Bool.and_eq_true,decide_eq_true_eq] at hf
 obtain⟨⟨hf,hlt⟩,hp⟩:=hf
 simp only[List.all_eq_true,List.mem_range,Bool.and_eq_true] at hf
 have getF:∀ {L:Array Bool} {j:Nat},j < L.size→L.getD j false=L.getD j true:=fun {L j} h=>by simp[h]
 intro m
 induction m with
 | zero =>
  intro L g W hs hm hcl hJ
  have hall:=upTo_zero hm
  refine⟨?_,hend _ g W (fun j hj=>by show L.getD j false=true;rw[getF (by omega)];exact hall j hj) hJ⟩
  apply List.eq_nil_iff_forall_not_mem.2
  intro i hi
  obtain⟨hun,o,ho,-⟩:=mem_ready.1 hi
  have:=hall i (Array.getElem?_eq_some_iff.1 ho).1
  rw[this] at hun
  cases hun
 | succ m ih =>
  intro L g W hs hm hcl hJ
  refine⟨fun h0=>?_,fun i hi=>?_⟩
  ·exfalso
   obtain⟨j,hj,hj1,hj2⟩:=upTo_pos (listed:=L) (k:=ops.size) (by omega)
   have hmem:j∈Region.ready .any ops L:=mem_ready.2 ⟨hj1,ops[j],Array.getElem?_eq_getElem hj,fun e he hb=>by
    have h2:=(hf j hj).1 e.on (by
     unfold depsOf
     rw[Array.getElem?_eq_getElem hj]
     exact List.mem_map.2 ⟨e,List.mem_filter.2 ⟨Array.mem_toList_iff.2 he,hb⟩,rfl⟩)
    rw[decide_eq_true_eq] at h2
    rw[getF (by omega)]
    exact hj2 e.on h2⟩
   rw[h0] at hmem
   cases hmem
  ·obtain⟨hun,o,ho,hall⟩:=mem_ready.1 hi
   have hiN:i < ops.size:=(Array.getElem?_eq_some_iff.1 ho).1
   have hst':=StepsR.at _ 0 hst i (by simpa using hiN)
   rw[Nat.zero_add] at hst'
   have hun':L.getD i false=false:=by rw[getF (by omega)];exact hun
   have xD:∀ j,(depsOf ops i).contains j=true→L.getD j false=true:=fun j hj=>by
    have hj':=cM hj
    unfold depsOf at hj'
    rw[ho] at hj'
    obtain⟨e,he,rfl⟩:=List.mem_map.1 hj'
    obtain⟨he1,he2⟩:=List.mem_filter.1 he
    exact hall e (Array.mem_toList_iff.1 he1) he2
   have hset:∀ j,(L.setIfInBounds i true).getD j false=upd (fun j=>L.getD j false) i true j:=fun j=>by
    by_cases e:j=i
    ·subst e
     rw[upd_same]
     simp[show j < L.size by omega]
    ·rw[upd_ne _ _ e,getD_set_ne false (Ne.symm e)]
   refine hmono ?_ (hst' (fun j=>L.getD j false) g W hun' xD hcl hJ (fun d hd=>puts_zip_get hn hlt hp g hd) (fun d hd=>puts_other _ _ _ (by rw[keyB_zipV];exact hd)) (fun d v hd=>puts_zip_put hn hlt hp g d v hd))
   rintro a' W' ⟨g',rfl,hJ'⟩
   refine ih _ g' W' (by simpa using hs) (by have:=upTo_set (k:=ops.size) (by omega) hun hiN;omega) ?_ ?_
   ·intro q j hq hd
    rw[hset] at hq ⊢
    by_cases ej:j=i
    ·subst ej;rw[upd_same]
    rw[upd_ne _ _ ej]
    by_cases eq:q=i
    ·subst eq;exact xD j hd
    ·rw[upd_ne _ _ eq] at hq;exact hcl q j hq hd
   ·have:(fun j=>(L.setIfInBounds i true).getD j false)=upd (fun j=>L.getD j false) i true:=funext hset
    rw[this]
    exact hJ'
theorem wp_region_run {P:Program} {ops:Array Oper} {Q:Exit→Act→World→Prop} {id:Nat} {a:Act} {w:World} (hm:P.follows .mixedOrders=true) (n:Nat) (ks:List Nat) (J:(Nat→Bool)→(Nat→Value)→World→Prop)
  (hf:fitR ops n ks=true) (hn:a.tmps.size=n) (h0:J (fun _=>false) (fun d=>a.tmps.getD d undef) w.drew) (hst:StepsR ops (wpOp P ops Q) ks J a 0 ops.toList)
  (hend:∀ l g W,(∀ j,j < ops.size→l j=true)→J l g W→Q .normal (puts a (zipV ks g)) W):(Code.region id ops true).wp P Q a w:=by
 refine wp_region_any hm ?_
 rw[←anyG_wp]
 have hF:∀ j,(Array.replicate ops.size false).getD j false=false:=fun j=>by
  by_cases hj:j < ops.size
  ·simp[hj]
  ·simp[hj]
 have:=any_run (Qn:=Q .normal) (stp:=wpOp P ops Q) (fun h hh=>wpOp_mono h hh) hn hf hst hend ops.size (Array.replicate ops.size false) (fun d=>a.tmps.getD d undef) w.drew (by simp) (upTo_new (Nat.le_refl _)) (fun q j hq=>by rw[hF] at hq;cases hq)
  (by rw[show (fun j=>(Array.replicate ops.size false).getD j false)=fun _=>false from funext hF];exact h0)
 rw[puts_zip_same] at this
 exact this
end Go.Proofs.YtngdieldgnlogaaGreatDoor
namespace Go.Proofs.YtngdieldgnlogaaGreatDoor
open Go Go.RowKit
set_option maxRecDepth 100000
set_option linter.unusedVariables false
structure JA (w0:World) (lits:List (Nat × Nat × Value)) (iL dL iA dA iS:Nat) (news:List Value) (base e size n m:Nat) (s:Value) (xs:List Value) (fin:Value→World→World) (l:Nat→Bool) (g:Nat→Value) (W:World):Prop where
 lit:∀ p∈lits,l p.1=true→g p.2.1=p.2.2
 laid:l iL=true→l iA=false→∃ bn,g dL=.slice (some ⟨bn,0,none⟩) m m∧∀ j u,news[j]? = some u→W.cell? ((⟨bn,0,none⟩:Addr).add j)=some u
 low:l iA=false→Below w0.heap.size w0 W
 app:l iA=true→∃ gg cap wa wq,Below w0.heap.size w0 wa∧wq.ownsRow base e size (.slice (some ⟨gg,0,none⟩) (n+m) cap) (n+m) (xs ++ news)∧wa.grownBy wq s.ownBlock∧(s.ownBlock=some gg∨gg=wa.heap.size)∧g dA=.slice (some ⟨gg,0,none⟩) (n+m) cap∧W=if l iS=true then fin (g dA) wq else wq
def okA (lits:List (Nat × Nat × Value)) (iL dL iA dA iS:Nat):Bool :=
 decide (iL≠iA) && decide (iL≠iS) && decide (iA≠iS) && decide (dL≠dA) && lits.all (fun p=>decide (p.1≠iL) && decide (p.1≠iA) && decide (p.1≠iS) && decide (p.2.1≠dL) && decide (p.2.1≠dA)) &&
 decide ((lits.map fun p=>p.1).Pairwise (·≠·)) && decide ((lits.map fun p=>p.2.1).Pairwise (·≠·))
theorem uniq_map {α:Type} (f:α→Nat):∀ {l:List α},(l.map f).Pairwise (·≠·)→∀ {x y:α},x∈l→y∈l→f x=f y→x=y
 | [],_,_,_,h,_,_=>by cases h
 | z :: r,hp,x,y,hx,hy,e=>by
  rw[List.map_cons,List.pairwise_cons] at hp
  rcases List.mem_cons.1 hx with hx1 | hx1
  ·rcases List.mem_cons.1 hy with hy1 | hy1
   ·rw[hx1,hy1]
   ·exact absurd (hx1 ▸ e) (hp.1 _ (List.mem_map.2 ⟨y,hy1,rfl⟩))
  ·rcases List.mem_cons.1 hy with hy1 | hy1
   ·exact absurd (hy1 ▸ e.symm) (hp.1 _ (List.mem_map.2 ⟨x,hx1,rfl⟩))
   ·exact uniq_map f hp.2 hx1 hy1 e
section
variable {w0 : World} {lits : List (Nat × Nat × Value)} {iL dL iA dA iS : Nat} {news : List Value} {base e size n m : Nat} {s : Value} {xs : List Value} {fin : Value → World → World} {l : Nat → Bool} {g : Nat → Value} {W : World}
theorem okA.out (ok:okA lits iL dL iA dA iS=true):iL≠iA∧iL≠iS∧iA≠iS∧dL≠dA∧(∀ p∈lits,p.1≠iL∧p.1≠iA∧p.1≠iS∧p.2.1≠dL∧p.2.1≠dA)∧(lits.map fun p=>p.1).Pairwise (·≠·)∧(lits.map fun p=>p.2.1).Pairwise (·≠·):=by
 simp only[okA,Bool.and_eq_true,decide_eq_true_eq,List.all_eq_true] at ok
 obtain⟨⟨⟨⟨⟨⟨h1,h2⟩,h3⟩,h4⟩,h5⟩,h6⟩,h7⟩:=ok
 exact⟨h1,h2,h3,h4,fun p hp=>by obtain⟨⟨⟨⟨a1,a2⟩,a3⟩,a4⟩,a5⟩:=h5 p hp;exact⟨a1,a2,a3,a4,a5⟩,h6,h7⟩
theorem JA.start (g:Nat→Value) (w:World):JA w lits iL dL iA dA iS news base e size n m s xs fin (fun _=>false) g w.drew :=
 ⟨fun p _ h=>(by cases h),fun h=>(by cases h),fun _=>bel_drew w,fun h=>(by cases h)⟩
theorem JA.made (ok:okA lits iL dL iA dA iS=true) (h:JA w0 lits iL dL iA dA iS news base e size n m s xs fin l g W) {i d:Nat} {v:Value} (hi:(i,d,v)∈lits) {W':World} (hw:W'=W∨(l iA=false∧Below W.heap.size W W')) :
  JA w0 lits iL dL iA dA iS news base e size n m s xs fin (upd l i true) (upd g d v) W':=by
 obtain⟨o1,o2,o3,o4,o5,o6,o7⟩:=okA.out ok
 obtain⟨n1,n2,n3,n4,n5⟩:=o5 _ hi
 simp only at n1 n2 n3 n4 n5
 refine⟨?_,?_,?_,?_⟩
 ·intro p hp hl
  by_cases ep:p.1=i
  ·have:=uniq_map _ o6 hp hi ep
   subst this
   exact upd_same _ _ _
  ·rw[upd_ne _ _ ep] at hl
   rw[upd_ne _ _ (fun ed=>ep (by have:=uniq_map (fun p:Nat × Nat × Value=>p.2.1) o7 hp hi ed;rw[this])),h.lit p hp hl]
 ·intro h1 h2
  rw[upd_ne _ _ (Ne.symm n1)] at h1
  rw[upd_ne _ _ (Ne.symm n2)] at h2
  rw[upd_ne _ _ (Ne.symm n4)]
  obtain⟨bn,hb,hc⟩:=h.laid h1 h2
  refine⟨bn,hb,fun j u hu=>?_⟩
  have:=hc j u hu
  rcases hw with rfl | ⟨-,hw⟩
  ·exact this
  ·have e9:(⟨bn,0,none⟩:Addr).add j=⟨bn,j,none⟩:=by unfold Addr.add;split<;>simp_all
   rw[e9] at this ⊢
   exact c_B hw this
 ·intro h2
  rw[upd_ne _ _ (Ne.symm n2)] at h2
  rcases hw with rfl | ⟨-,hw⟩
  ·exact h.low h2
  ·exact bS (h.low h2) hw
 ·intro h2
  rw[upd_ne _ _ (Ne.symm n2)] at h2
  rw[upd_ne _ _ (Ne.symm n5),upd_ne _ _ (Ne.symm n3)]
  rcases hw with rfl | ⟨hw,-⟩
  ·exact h.app h2
  ·rw[hw] at h2;cases h2
theorem JA.grow (ok:okA lits iL dL iA dA iS=true) (h:JA w0 lits iL dL iA dA iS news base e size n m s xs fin l g W) (hA:l iA=false) (hS:l iS=false) {gg cap:Nat} {wq:World}
  (hown:wq.ownsRow base e size (.slice (some ⟨gg,0,none⟩) (n+m) cap) (n+m) (xs ++ news)) (hgrow:W.grownBy wq s.ownBlock) (hat:s.ownBlock=some gg∨gg=W.heap.size) :
  JA w0 lits iL dL iA dA iS news base e size n m s xs fin (upd l iA true) (upd g dA (.slice (some ⟨gg,0,none⟩) (n+m) cap)) wq:=by
 obtain⟨o1,o2,o3,o4,o5,o6,o7⟩:=okA.out ok
 refine⟨?_,?_,?_,?_⟩
 ·intro p hp hl
  obtain⟨n1,n2,n3,n4,n5⟩:=o5 p hp
  rw[upd_ne _ _ n2] at hl
  rw[upd_ne _ _ n5,h.lit p hp hl]
 ·intro _ h2
  rw[upd_same] at h2;cases h2
 ·intro h2
  rw[upd_same] at h2;cases h2
 ·intro _
  refine⟨gg,cap,W,wq,h.low hA,hown,hgrow,hat,upd_same _ _ _,?_⟩
  rw[upd_ne _ _ (Ne.symm o3),hS]
  rfl
theorem JA.store (ok:okA lits iL dL iA dA iS=true) (h:JA w0 lits iL dL iA dA iS news base e size n m s xs fin l g W) (hA:l iA=true) (hS:l iS=false) :
  JA w0 lits iL dL iA dA iS news base e size n m s xs fin (upd l iS true) g (fin (g dA) W):=by
 obtain⟨o1,o2,o3,o4,o5,o6,o7⟩:=okA.out ok
 refine⟨?_,?_,?_,?_⟩
 ·intro p hp hl
  obtain⟨n1,n2,n3,n4,n5⟩:=o5 p hp
  rw[upd_ne _ _ n3] at hl
  exact h.lit p hp hl
 ·intro _ h2
  rw[upd_ne _ _ o3,hA] at h2;cases h2
 ·intro h2
  rw[upd_ne _ _ o3,hA] at h2;cases h2
 ·intro _
  obtain⟨gg,cap,wa,wq,h1,h2,h3,h4,h5,h6⟩:=h.app hA
  refine⟨gg,cap,wa,wq,h1,h2,h3,h4,h5,?_⟩
  rw[hS] at h6
  rw[upd_same,h6]
  rfl
theorem JA.grown (h:JA w0 lits iL dL iA dA iS news base e size n m s xs fin l g W) (hA:l iA=true) (hS:l iS=false):∃ gg cap wa,Below w0.heap.size w0 wa∧wa.grownBy W s.ownBlock∧g dA=.slice (some ⟨gg,0,none⟩) (n+m) cap:=by
 obtain⟨gg,cap,wa,wq,h1,h2,h3,h4,h5,h6⟩:=h.app hA
 rw[hS] at h6
 have h7:W=wq:=h6
 exact⟨gg,cap,wa,h1,h7 ▸ h3,h5⟩
theorem JA.end (h:JA w0 lits iL dL iA dA iS news base e size n m s xs fin l g W) (hA:l iA=true) (hS:l iS=true):∃ gg cap wa wq,Below w0.heap.size w0 wa∧wq.ownsRow base e size (.slice (some ⟨gg,0,none⟩) (n+m) cap) (n+m) (xs ++ news)∧wa.grownBy wq s.ownBlock∧(s.ownBlock=some gg∨gg=wa.heap.size) ∧
  g dA=.slice (some ⟨gg,0,none⟩) (n+m) cap∧W=fin (.slice (some ⟨gg,0,none⟩) (n+m) cap) wq:=by
 obtain⟨gg,cap,wa,wq,h1,h2,h3,h4,h5,h6⟩:=h.app hA
 refine⟨gg,cap,wa,wq,h1,h2,h3,h4,h5,?_⟩
 rw[hS,h5] at h6
 exact h6
theorem JA.wc (h:JA w0 lits iL dL iA dA iS news base e size n m s xs fin l g W) (hS:l iS=false) {b k:Nat} {v:Value} (hc:Wc w0 b k v) (hn:some b≠s.ownBlock):Wc W b k v:=by
 cases hA:l iA with
 | false=>exact hc.below (h.low hA)
 | true =>
  obtain⟨gg,cap,wa,h1,h2,-⟩:=h.grown hA hS
  exact wq1 trivial h2 hn (hc.below h1)
theorem JA.cell (h:JA w0 lits iL dL iA dA iS news base e size n m s xs fin l g W) (hS:l iS=false) {b k:Nat} {v:Value} (hc:w0.cell? ⟨b,k,none⟩=some v) (hn:some b≠s.ownBlock):W.cell? ⟨b,k,none⟩=some v:=by
 cases hA:l iA with
 | false=>exact c_B (h.low hA) hc
 | true =>
  obtain⟨gg,cap,wa,h1,h2,-⟩:=h.grown hA hS
  exact h2.cell (c_B h1 hc) hn
end
theorem off_of {l:Nat→Bool} {q j:Nat} (hcl:l q=true→l j=true) (h:l j=false):l q=false:=by
 cases hq:l q with
 | false=>rfl
 | true=>rw[hcl hq] at h;cases h
theorem loadFs {W:World} {b k n c:Nat} {p:Option Addr} (h:W.cell? ⟨b,k,none⟩=some (.slice p n c)):(Instr.loadAt 23 (.pointer (some ⟨b,k,none⟩))).run Tryz.prog W=.ok (.slice p n c) W:=by
 simp[Instr.loadAt,go_sem,h]
theorem loadTs {W:World} {b k n c:Nat} {p:Option Addr} (h:W.cell? ⟨b,k,none⟩=some (.slice p n c)):(Instr.loadAt 22 (.pointer (some ⟨b,k,none⟩))).run Tryz.prog W=.ok (.slice p n c) W:=by
 simp[Instr.loadAt,go_sem,h]
theorem loadFo {W:World} {g o:Nat} {f:FT} {p q:Option Addr} {m n:Nat} (h0:W.cell? ⟨g,o,none⟩=some (.int .u8 f.op)) (h1:W.cell? ⟨g,o+1,none⟩=some (.string f.n)) (h2:W.cell? ⟨g,o+2,none⟩=some (.slice p f.ts.len m)) (h3:W.cell? ⟨g,o+3,none⟩=some (.slice q f.sub.len n)) :
  (Instr.loadAt 25 (.pointer (some ⟨g,o,none⟩))).run Tryz.prog W=.ok (fval f (.slice p f.ts.len m) (.slice q f.sub.len n)) W:=by
 simp[Instr.loadAt,go_sem,h0,h1,h2,h3]
theorem storeF {W:World} {b:Nat} {g:FT} {p q:Option Addr} {m n:Nat} {u0 u1 u2 u3:Value} (y0:Wc W b 0 u0) (y1:Wc W b 1 u1) (y2:Wc W b 2 u2) (y3:Wc W b 3 u3):(Instr.storeAt 25 (.pointer (some ⟨b,0,none⟩)) (fval g (.slice p g.ts.len m) (.slice q g.sub.len n))).run Tryz.prog W =
  .ok () ((((W.setCell ⟨b,0,none⟩ (.int .u8 g.op)).setCell ⟨b,1,none⟩ (.string g.n)).setCell ⟨b,2,none⟩ (.slice p g.ts.len m)).setCell ⟨b,3,none⟩ (.slice q g.sub.len n)):=by
 have a0:=y0.1
 have a1:=y1.1
 have a2:=y2.1
 have a3:=y3.1
 have b0:=y0.2
 have b1:=y1.2
 have b2:=y2.2
 have b3:=y3.2
 simp[Instr.storeAt,go_sem,a0,a1,a2,a3,b0,b1,b2,b3]
abbrev a5:Array Value:=#[.bool false,.string ⟨#[97]⟩,.slice none 0 0,.bool false,.string ⟨#[97]⟩,.slice none 0 0,.bool false,.string ⟨#[97]⟩,.slice none 0 0,.bool false,.string ⟨#[97]⟩,.slice none 0 0,.bool false,.string ⟨#[97]⟩,.slice none 0 0]
end Go.Proofs.YtngdieldgnlogaaGreatDoor
namespace Go.Proofs.YtngdieldgnlogaaGreatDoor
open Go Go.RowKit
set_option maxRecDepth 100000
set_option linter.unusedVariables false
structure JK (w0:World) (lits:List (Nat × Nat × Value)) (prs:List (Nat × Nat × (Value→World→Prop))) (l:Nat→Bool) (g:Nat→Value) (W:World):Prop where
 lit:∀ p∈lits,l p.1=true→g p.2.1=p.2.2
 pr:∀ p∈prs,l p.1=true→p.2.2 (g p.2.1) W
 low:Below w0.heap.size w0 W
def okK (lits:List (Nat × Nat × Value)) (prs:List (Nat × Nat × (Value→World→Prop))):Bool :=
 decide ((lits.map (fun p=>p.1) ++ prs.map (fun p=>p.1)).Pairwise (·≠·)) && decide ((lits.map (fun p=>p.2.1) ++ prs.map (fun p=>p.2.1)).Pairwise (·≠·))
def Stb (P:Value→World→Prop):Prop:=∀ v W W',Below W.heap.size W W'→P v W→P v W'
section
variable {w0 : World} {lits : List (Nat × Nat × Value)} {prs : List (Nat × Nat × (Value → World → Prop))} {l : Nat → Bool} {g : Nat → Value} {W : World}
theorem okK.out (ok:okK lits prs=true):(lits.map fun p=>p.1).Pairwise (·≠·)∧(prs.map fun p=>p.1).Pairwise (·≠·)∧(∀ p∈lits,∀ q∈prs,p.1≠q.1)∧(lits.map fun p=>p.2.1).Pairwise (·≠·)∧(prs.map fun p=>p.2.1).Pairwise (·≠·)∧(∀ p∈lits,∀ q∈prs,p.2.1≠q.2.1):=by
 simp only[okK,Bool.and_eq_true,decide_eq_true_eq,List.pairwise_append] at ok
 obtain⟨⟨a1,a2,a3⟩,⟨b1,b2,b3⟩⟩:=ok
 exact⟨a1,a2,fun p hp q hq=>a3 _ (List.mem_map.2 ⟨p,hp,rfl⟩) _ (List.mem_map.2 ⟨q,hq,rfl⟩),b1,b2,fun p hp q hq=>b3 _ (List.mem_map.2 ⟨p,hp,rfl⟩) _ (List.mem_map.2 ⟨q,hq,rfl⟩)⟩
theorem JK.start (g:Nat→Value) (w:World):JK w lits prs (fun _=>false) g w.drew :=
 ⟨fun p _ h=>(by cases h),fun p _ h=>(by cases h),bel_drew w⟩
theorem JK.made (ok:okK lits prs=true) (hst:∀ p∈prs,Stb p.2.2) (h:JK w0 lits prs l g W) {i d:Nat} {v:Value} (hi:(i,d,v)∈lits) {W':World} (hb:Below W.heap.size W W'):JK w0 lits prs (upd l i true) (upd g d v) W':=by
 obtain⟨a1,a2,a3,b1,b2,b3⟩:=okK.out ok
 refine⟨fun p hp hl=>?_,fun p hp hl=>?_,bS h.low hb⟩
 ·by_cases ep:p.1=i
  ·have:=uniq_map _ a1 hp hi ep
   subst this
   exact upd_same _ _ _
  ·rw[upd_ne _ _ ep] at hl
   rw[upd_ne _ _ (fun ed=>ep (by have:=uniq_map (fun p:Nat × Nat × Value=>p.2.1) b1 hp hi ed;rw[this])),h.lit p hp hl]
 ·rw[upd_ne _ _ (Ne.symm (a3 _ hi p hp))] at hl
  rw[upd_ne _ _ (Ne.symm (b3 _ hi p hp))]
  exact hst p hp _ _ _ hb (h.pr p hp hl)
theorem JK.madeP (ok:okK lits prs=true) (hst:∀ p∈prs,Stb p.2.2) (h:JK w0 lits prs l g W) {i d:Nat} {P:Value→World→Prop} (hi:(i,d,P)∈prs) {v:Value} {W':World} (hv:P v W') (hb:Below W.heap.size W W'):JK w0 lits prs (upd l i true) (upd g d v) W':=by
 obtain⟨a1,a2,a3,b1,b2,b3⟩:=okK.out ok
 refine⟨fun p hp hl=>?_,fun p hp hl=>?_,bS h.low hb⟩
 ·rw[upd_ne _ _ (a3 p hp _ hi)] at hl
  rw[upd_ne _ _ (b3 p hp _ hi),h.lit p hp hl]
 ·by_cases ep:p.1=i
  ·have:=uniq_map _ a2 hp hi ep
   subst this
   rw[upd_same]
   exact hv
  ·rw[upd_ne _ _ ep] at hl
   rw[upd_ne _ _ (fun ed=>ep (by have:=uniq_map (fun p:Nat × Nat × (Value→World→Prop)=>p.2.1) b2 hp hi ed;rw[this]))]
   exact hst p hp _ _ _ hb (h.pr p hp hl)
theorem lT {lits : List (Nat × Nat × Value)} {l : Nat → Bool} {g : Nat → Value} (H : ∀ p ∈ lits, l p.1 = true → g p.2.1 = p.2.2) (k : Nat) {i d : Nat} {v : Value} (h : lits[k]? = some (i, d, v)) (hl : l i = true) : g d = v := H _ (gM k h) hl
theorem lE {lits : List (Nat × Nat × Value)} {l : Nat → Bool} {g : Nat → Value} {a : Act} {i d : Nat} {v : Value} (hg : a.tmps[d]? = some (g d)) (H : ∀ p ∈ lits, l p.1 = true → g p.2.1 = p.2.2) (k : Nat) (h : lits[k]? = some (i, d, v)) (hl : l i = true) : a.eval (.tmp d) = v := (eval_tmp hg).trans (H _ (gM k h) hl)
theorem JK.M {w0 W : World} {lits : List (Nat × Nat × Value)} {prs : List (Nat × Nat × (Value → World → Prop))} {l : Nat → Bool} {g : Nat → Value} (ok : okK lits prs = true) (hst : ∀ p ∈ prs, Stb p.2.2) (h : JK w0 lits prs l g W) (k : Nat) {i d : Nat} {v : Value} (hi : lits[k]? = some (i, d, v)) : JK w0 lits prs (upd l i true) (upd g d v) W := JK.made ok hst h (gM k hi) (Below.refl _ _)
theorem gD {lits : List (Nat × Nat × Value)} {l : Nat → Bool} {g : Nat → Value} {a : Act} {i d : Nat} {v : Value} (hg : a.tmps[d]? = some (g d)) (H : ∀ p ∈ lits, l p.1 = true → g p.2.1 = p.2.2) (k : Nat) (h : lits[k]? = some (i, d, v)) (hl : l i = true) : a.tmps[d]? = some v := hg.trans (congrArg some (H _ (gM k h) hl))
abbrev okL {lits : List (Nat × Nat × Value)} {prs : List (Nat × Nat × (Value → World → Prop))} (_ : okK lits prs = true) := lits
abbrev okP {lits : List (Nat × Nat × Value)} {prs : List (Nat × Nat × (Value → World → Prop))} (_ : okK lits prs = true) := prs
theorem nO {b : Bool} {P : Prop} (h : b = true) (n : b = false) : P := by rw [n] at h; cases h
end
end Go.Proofs.YtngdieldgnlogaaGreatDoor
