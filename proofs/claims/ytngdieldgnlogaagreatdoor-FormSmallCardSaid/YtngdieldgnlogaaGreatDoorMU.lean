/- A region that draws its order, by what its slots hold: each operation is walked once, whatever came before it. One operation of a region that draws its order. -/
import Derived.Orders
import Derived.OrdersIn
import Derived.Maps.OwnIn
namespace Go.Proofs.YtngdieldgnlogaaGreatDoor
open Go
theorem cM {l : List Nat} {a : Nat} (h : l.contains a = true) : a ∈ l := List.contains_iff_mem.1 h
theorem gM {α : Type} {l : List α} {a : α} (i : Nat) (h : l[i]? = some a) : a ∈ l := List.mem_of_getElem? h
section
variable {md : Region.Mode} {ops : Array Oper}
def anyG (md:Region.Mode) (ops:Array Oper) (Qn:Act→World→Prop) (stp:Nat→(Act→World→Prop)→Act→World→Prop):Nat→Array Bool→Act→World→Prop
 | 0,listed,a,w=>Region.ready md ops listed=[]∧Qn a w
 | fuel+1,listed,a,w=>(Region.ready md ops listed=[]→Qn a w)∧∀ i∈Region.ready md ops listed,stp i (anyG md ops Qn stp fuel (listed.setIfInBounds i true)) a w
theorem anyG_wp {P:Program} {Q:Exit→Act→World→Prop}:∀ (fuel:Nat) (listed:Array Bool),anyG md ops (Q .normal) (wpOp P ops Q) fuel listed=wpAny P md ops Q fuel listed
 | 0,_=>rfl
 | fuel+1,listed=>by
  funext a w
  simp only[anyG,wpAny,anyG_wp fuel]
theorem anyG_wpIn {F:Fence} {n:Nat} {P:Program} {Q:Exit→Act→World→Prop}:∀ (fuel:Nat) (listed:Array Bool),anyG md ops (Q .normal) (wpOpIn F n P ops Q) fuel listed=wpAnyIn F n P md ops Q fuel listed
 | 0,_=>rfl
 | fuel+1,listed=>by
  funext a w
  simp only[anyG,wpAnyIn,anyG_wpIn fuel]
def dstAt (ops:Array Oper) (i:Nat):Option Nat:=(ops[i]?).bind (·.dst)
def fitG (md:Region.Mode) (ops:Array Oper) (k n:Nat) (bs:List Nat):Bool :=
  decide (k≤ops.size) &&
  (List.range ops.size).all fun i=>match ops[i]? with
    | none=>false
    | some o =>
      if i < k then
        (o.after.all fun e=>!Region.binds md e || decide (e.on < i)) &&
        ((o.looksAt ops).all fun d=>bs.contains d || o.after.any fun e=>Region.binds md e && (dstAt ops e.on == some d)) &&
        (match o.dst with
          | none=>true
          | some d=>decide (d < n) && !bs.contains d && (List.range k).all fun j=>j == i || dstAt ops j != some d)
      else (List.range k).all fun j=>o.after.any fun e=>Region.binds md e && (e.on == j)
structure Held (ops:Array Oper) (n:Nat) (bs:List Nat) (VT:Nat→Value→World→Prop) (I:Array Bool→Act→World→Prop) (D:List Deferred) (listed:Array Bool) (a:Act) (w:World):Prop where
 size:a.tmps.size=n
 defs:a.defers=D
 inv:I listed a w
 base:∀ d∈bs,∃ v,a.tmps[d]? = some v∧VT d v w
 made:∀ i d,listed.getD i false=true→dstAt ops i=some d→∃ v,a.tmps[d]? = some v∧VT d v w
def StepG (ops:Array Oper) (stp:Nat→(Act→World→Prop)→Act→World→Prop) (n:Nat) (bs:List Nat) (VT:Nat→Value→World→Prop) (I:Array Bool→Act→World→Prop) (R:World→World→Prop) (D:List Deferred) (i:Nat) (o:Oper):Prop :=
 ∀ L a w,L.size=ops.size→L.getD i true=false→a.tmps.size=n→a.defers=D→I L a w→(∀ d∈bs,∃ v,a.tmps[d]? = some v∧VT d v w)→(∀ d∈o.looksAt ops,∃ v,a.tmps[d]? = some v∧VT d v w) →
  stp i (fun a' w'=>∃ v,a'=a.put o.dst v∧(∀ d,o.dst=some d→VT d v w')∧I (L.setIfInBounds i true) (a.put o.dst v) w'∧R w w') a w
def StepsG (ops:Array Oper) (stp:Nat→(Act→World→Prop)→Act→World→Prop) (n:Nat) (bs:List Nat) (VT:Nat→Value→World→Prop) (I:Array Bool→Act→World→Prop) (R:World→World→Prop) (D:List Deferred):Nat→List Oper→Prop
 | _,[]=>True
 | i,o :: r=>StepG ops stp n bs VT I R D i o∧StepsG ops stp n bs VT I R D (i+1) r
theorem StepsG.at {stp:Nat→(Act→World→Prop)→Act→World→Prop} {n:Nat} {bs:List Nat} {VT:Nat→Value→World→Prop} {I:Array Bool→Act→World→Prop} {R:World→World→Prop} {D:List Deferred} (l:List Oper) :
  ∀ (m:Nat),StepsG ops stp n bs VT I R D m l→∀ i o,l[i]? = some o→StepG ops stp n bs VT I R D (m+i) o:=by
 induction l with
 | nil=>intro m _ i o ho;simp at ho
 | cons x r ih =>
  intro m h i o ho
  unfold StepsG at h
  cases i with
  | zero =>
   simp at ho
   subst ho
   exact h.1
  | succ i =>
   simp at ho
   have:=ih (m+1) h.2 i o ho
   rwa [show m+1+i=m+(i+1) by omega] at this
def upTo (listed:Array Bool):Nat→Nat
 | 0=>0
 | k+1=>upTo listed k+if listed.getD k true then 0 else 1
theorem upTo_zero {listed:Array Bool}:∀ {k:Nat},upTo listed k=0→∀ i,i < k→listed.getD i true=true
 | k+1,h,i,hi=>by
  simp only[upTo] at h
  by_cases hk:i=k
  ·subst hk
   cases hl:listed.getD i true
   ·simp only[hl] at h;simp at h
   ·rfl
  ·exact upTo_zero (k:=k) (by omega) i (by omega)
theorem upTo_pos {listed:Array Bool}:∀ {k:Nat},0 < upTo listed k→∃ i,i < k∧listed.getD i true=false∧∀ j,j < i→listed.getD j true=true
 | k+1,h=>by
  by_cases hk:0 < upTo listed k
  ·obtain⟨i,hi,h1,h2⟩:=upTo_pos hk
   exact⟨i,by omega,h1,h2⟩
  ·have h0:upTo listed k=0:=by omega
   refine⟨k,by omega,?_,fun j hj=>upTo_zero h0 j hj⟩
   simp only[upTo,h0] at h
   cases hl:listed.getD k true
   ·rfl
   ·simp only[hl] at h;simp at h
theorem upTo_set {listed:Array Bool} {i:Nat} (hi:i < listed.size) (hl:listed.getD i true=false):∀ {k:Nat},i < k→upTo (listed.setIfInBounds i true) k+1=upTo listed k
 | k+1,hk=>by
  simp only[upTo]
  by_cases hik:i=k
  ·subst hik
   have e1:(listed.setIfInBounds i true).getD i true=true:=by simp[hi]
   have e2:∀ m,m≤i→upTo (listed.setIfInBounds i true) m=upTo listed m:=by
    intro m
    induction m with
    | zero=>intro _;rfl
    | succ m ih =>
     intro hm
     simp only[upTo,ih (by omega),getD_set_ne true (show i≠m by omega)]
   rw[e2 i (Nat.le_refl _),e1,hl]
   rfl
  ·rw[getD_set_ne true hik]
   have:=upTo_set hi hl (k:=k) (by omega)
   omega
theorem upTo_new {N:Nat}:∀ {k:Nat},k≤N→upTo (Array.replicate N false) k=k
 | 0,_=>rfl
 | k+1,h=>by
  rw[upTo,upTo_new (by omega)]
  have:(Array.replicate N false).getD k true=false:=by simp[show k < N by omega]
  rw[this]
  rfl
def headUp (k N:Nat):Array Bool:=(List.replicate k true ++ List.replicate (N - k) false).toArray
theorem eq_headUp {listed:Array Bool} {k N:Nat} (hk:k≤N) (hs:listed.size=N) (h1:∀ i,i < k→listed.getD i true=true) (h2:∀ i,k≤i→i < N→listed.getD i true=false):listed=headUp k N:=by
 apply Array.ext
 ·simp[headUp,hs];omega
 ·intro i hi _
  have hiN:i < N:=by omega
  simp only[headUp,List.getElem_toArray]
  by_cases hik:i < k
  ·have:=h1 i hik
   rw[List.getElem_append_left (by simpa using hik),List.getElem_replicate]
   simpa[hi] using this
  ·have:=h2 i (by omega) hiN
   rw[List.getElem_append_right (by simpa using hik),List.getElem_replicate]
   simpa[hi] using this
theorem anyG_part {Qn:Act→World→Prop} {stp:Nat→(Act→World→Prop)→Act→World→Prop} (hmono:∀ {i:Nat} {K K':Act→World→Prop} {a:Act} {w:World},(∀ a w,K a w→K' a w)→stp i K a w→stp i K' a w)
  {n k:Nat} {bs:List Nat} {VT:Nat→Value→World→Prop} {I:Array Bool→Act→World→Prop} {R:World→World→Prop} {D:List Deferred} (hf:fitG md ops k n bs=true)
  (hVT:∀ d v w w',R w w'→VT d v w→VT d v w') (hst:StepsG ops stp n bs VT I R D 0 (ops.toList.take k))
  (hend:∀ a w,Held ops n bs VT I D (headUp k ops.size) a w→anyG md ops Qn stp (ops.size - k) (headUp k ops.size) a w) :
  ∀ (m:Nat) (listed:Array Bool) (a:Act) (w:World),listed.size=ops.size→upTo listed k=m→(∀ i,k≤i→i < ops.size→listed.getD i true=false)→Held ops n bs VT I D listed a w →
   anyG md ops Qn stp (m+(ops.size - k)) listed a w:=by
 simp only[fitG,Bool.and_eq_true,decide_eq_true_eq,List.all_eq_true,List.mem_range] at hf
 obtain⟨hkN,hf⟩:=hf
 intro m
 induction m with
 | zero =>
  intro listed a w hs hm hhi hH
  have e:=eq_headUp hkN hs (upTo_zero hm) hhi
  rw[Nat.zero_add]
  subst e
  exact hend a w hH
 | succ m ih =>
  intro listed a w hs hm hhi hH
  rw[show m+1+(ops.size - k)=(m+(ops.size - k))+1 by omega]
  have hlow:∀ i,i∈Region.ready md ops listed→i < k:=by
   intro i hi
   obtain⟨hun,o,ho,hall⟩:=mem_ready.1 hi
   have hiN:i < ops.size:=(Array.getElem?_eq_some_iff.1 ho).1
   have:=hf i hiN
   rw[ho] at this
   by_cases hik:i < k
   ·exact hik
   ·simp only[if_neg hik,List.all_eq_true,List.mem_range] at this
    obtain⟨j,hj,hj1,hj2⟩:=upTo_pos (listed:=listed) (k:=k) (by omega)
    have:=this j hj
    obtain⟨e,he,hb⟩:=Array.any_eq_true'.1 this
    simp only[Bool.and_eq_true,beq_iff_eq] at hb
    have h3:=hall e he hb.1
    rw[hb.2] at h3
    have:j < listed.size:=by omega
    simp[this] at hj1 h3
    rw[h3] at hj1
    cases hj1
  refine⟨fun h0=>?_,fun i hi=>?_⟩
  ·exfalso
   obtain⟨j,hj,hj1,hj2⟩:=upTo_pos (listed:=listed) (k:=k) (by omega)
   have hjN:j < ops.size:=by omega
   have h1:=hf j hjN
   rw[Array.getElem?_eq_getElem hjN] at h1
   simp only[if_pos hj,Bool.and_eq_true] at h1
   have hmem:j∈Region.ready md ops listed:=mem_ready.2 ⟨hj1,ops[j],Array.getElem?_eq_getElem hjN,fun e he hb=>by
    have h2:=Array.all_eq_true'.1 h1.1.1 e he
    simp only[hb,Bool.not_true,Bool.false_or,decide_eq_true_eq] at h2
    have h3:=hj2 e.on h2
    have:e.on < listed.size:=by omega
    simpa[this] using h3⟩
   rw[h0] at hmem
   cases hmem
  ·have hik:=hlow i hi
   obtain⟨hun,o,ho,hall⟩:=mem_ready.1 hi
   have hiN:i < ops.size:=(Array.getElem?_eq_some_iff.1 ho).1
   have h1:=hf i hiN
   rw[ho] at h1
   simp only[if_pos hik,Bool.and_eq_true,List.all_eq_true] at h1
   obtain⟨⟨-,hlook⟩,hdst⟩:=h1
   have hso:StepG ops stp n bs VT I R D i o:=by
    have:=StepsG.at _ _ hst i o (by rw[List.getElem?_take_of_lt hik];simpa using ho)
    rwa [Nat.zero_add] at this
   refine hmono ?_ (hso listed a w hs hun hH.size hH.defs hH.inv hH.base fun d hd=>?_)
   ·rintro a' w' ⟨v,rfl,hv,hI',hR⟩
    refine ih _ _ _ (by simpa using hs) (by have:=upTo_set (by omega) hun hik;omega) (fun j hj hjN=>by rw[getD_set_ne true (show i≠j by omega)];exact hhi j hj hjN) ⟨?_,?_,hI',?_,?_⟩
    ·cases hd:o.dst<;>simp[Act.put,hH.size]
    ·cases hd:o.dst<;>simp[Act.put,hH.defs]
    ·intro d hd
     obtain⟨u,hu,hvu⟩:=hH.base d hd
     refine⟨u,?_,hVT _ _ _ _ hR hvu⟩
     cases hod:o.dst with
     | none=>exact hu
     | some d' =>
      rw[hod] at hdst
      simp only[Bool.and_eq_true,Bool.not_eq_true',decide_eq_true_eq] at hdst
      have hne:d'≠d:=by
       rintro rfl
       have:=hdst.1.2
       rw[List.contains_iff_mem.2 hd] at this
       cases this
      simpa[Act.put,Array.getElem?_setIfInBounds_ne hne] using hu
    ·intro j d hj hjd
     by_cases hji:i=j
     ·subst hji
      simp only[dstAt,ho,Option.bind_some] at hjd
      rw[hjd] at hdst
      simp only[Bool.and_eq_true,decide_eq_true_eq] at hdst
      have hlt:d < a.tmps.size:=by rw[hH.size];exact hdst.1.1
      exact⟨v,by simp[Act.put,hjd,hlt],hv d hjd⟩
     ·rw[getD_set_ne false hji] at hj
      obtain⟨u,hu,hvu⟩:=hH.made j d hj hjd
      refine⟨u,?_,hVT _ _ _ _ hR hvu⟩
      cases hod:o.dst with
      | none=>exact hu
      | some d' =>
       have hjk:j < k:=by
        have hjs:j < listed.size:=by
         rcases Nat.lt_or_ge j listed.size with h' | h'
         ·exact h'
         ·simp[Array.getElem?_eq_none h'] at hj
        rcases Nat.lt_or_ge j k with h' | h'
        ·exact h'
        ·have:=hhi j h' (by omega)
         simp[hjs] at this hj
         rw[hj] at this
         cases this
       rw[hod] at hdst
       simp only[Bool.and_eq_true,List.all_eq_true,List.mem_range,Bool.or_eq_true,beq_iff_eq,bne_iff_ne] at hdst
       have hne:d'≠d:=by
        rintro rfl
        rcases hdst.2 j hjk with h | h
        ·exact hji h.symm
        ·exact h hjd
       simpa[Act.put,Array.getElem?_setIfInBounds_ne hne] using hu
   ·have:=hlook d hd
    simp only[Bool.or_eq_true] at this
    rcases this with h | h
    ·exact hH.base d (cM h)
    ·obtain⟨e,he,hb⟩:=Array.any_eq_true'.1 h
     simp only[Bool.and_eq_true,beq_iff_eq] at hb
     exact hH.made e.on d (hall e he hb.1) hb.2
end
section
variable {P : Program} {ops : Array Oper} {Q : Exit → Act → World → Prop} {n k : Nat} {bs : List Nat} {VT : Nat → Value → World → Prop} {I : Array Bool → Act → World → Prop} {R : World → World → Prop}
theorem held_new {D:List Deferred} {a:Act} {w:World} {N:Nat} (h1:a.tmps.size=n) (h2:a.defers=D) (h3:I (Array.replicate N false) a w) (h4:∀ d∈bs,∃ v,a.tmps[d]? = some v∧VT d v w):Held ops n bs VT I D (Array.replicate N false) a w :=
 ⟨h1,h2,h3,h4,fun i d h _=>by
  by_cases hi:i < N
  ·simp[hi] at h
  ·simp[Array.getElem?_eq_none (show (Array.replicate N false).size≤i by simp;omega)] at h⟩
theorem wp_region_held_slots {id:Nat} {a:Act} {w:World} (hm:P.follows .mixedOrders=true) (k n:Nat) (bs:List Nat) (VT:Nat→Value→World→Prop) (I:Array Bool→Act→World→Prop) (R:World→World→Prop) (hf:fitG .any ops k n bs=true)
  (hVT:∀ d v w w',R w w'→VT d v w→VT d v w') (h1:a.tmps.size=n) (h3:I (Array.replicate ops.size false) a { w with drawn:=w.drawn+1 }) (h4:∀ d∈bs,∃ v,a.tmps[d]? = some v∧VT d v { w with drawn:=w.drawn+1 })
  (hst:StepsG ops (wpOp P ops Q) n bs VT I R a.defers 0 (ops.toList.take k))
  (hend:∀ a' w',Held ops n bs VT I a.defers (headUp k ops.size) a' w'→wpAny P .any ops Q (ops.size - k) (headUp k ops.size) a' w'):(Code.region id ops true).wp P Q a w:=by
 refine wp_region_any hm ?_
 rw[←anyG_wp]
 have hk:k≤ops.size:=by
  simp only[fitG,Bool.and_eq_true,decide_eq_true_eq] at hf
  exact hf.1
 have:=anyG_part (Qn:=Q .normal) (stp:=wpOp P ops Q) (fun h hh=>wpOp_mono h hh) hf hVT hst (fun a' w' hh=>by rw[anyG_wp];exact hend a' w' hh) k (Array.replicate ops.size false) a { w with drawn:=w.drawn+1 } (by simp) (upTo_new hk)
  (fun i _ hi=>by simp[hi]) (held_new h1 rfl h3 h4)
 rwa [show k+(ops.size - k)=ops.size by omega] at this
theorem wpIn_region_held_slots {F:Fence} {nf:Nat} {id:Nat} {a:Act} {w:World} (hm:P.follows .mixedOrders=true) (k n:Nat) (bs:List Nat) (VT:Nat→Value→World→Prop) (I:Array Bool→Act→World→Prop) (R:World→World→Prop) (hf:fitG .any ops k n bs=true)
  (hVT:∀ d v w w',R w w'→VT d v w→VT d v w') (h1:a.tmps.size=n) (h3:I (Array.replicate ops.size false) a { w with drawn:=w.drawn+1 }) (h4:∀ d∈bs,∃ v,a.tmps[d]? = some v∧VT d v { w with drawn:=w.drawn+1 })
  (hst:StepsG ops (wpOpIn F nf P ops Q) n bs VT I R a.defers 0 (ops.toList.take k))
  (hend:∀ a' w',Held ops n bs VT I a.defers (headUp k ops.size) a' w'→wpAnyIn F nf P .any ops Q (ops.size - k) (headUp k ops.size) a' w'):(Code.region id ops true).wpIn F nf P Q a w:=by
 refine wpIn_region_any hm ?_
 rw[←anyG_wpIn]
 have hk:k≤ops.size:=by
  simp only[fitG,Bool.and_eq_true,decide_eq_true_eq] at hf
  exact hf.1
 have:=anyG_part (Qn:=Q .normal) (stp:=wpOpIn F nf P ops Q) (fun h hh=>wpOpIn_mono h hh) hf hVT hst (fun a' w' hh=>by rw[anyG_wpIn];exact hend a' w' hh) k (Array.replicate ops.size false) a { w with drawn:=w.drawn+1 } (by simp) (upTo_new hk)
  (fun i _ hi=>by simp[hi]) (held_new h1 rfl h3 h4)
 rwa [show k+(ops.size - k)=ops.size by omega] at this
end
end Go.Proofs.YtngdieldgnlogaaGreatDoor
namespace Go.Proofs.YtngdieldgnlogaaGreatDoor
open Go
section
variable {P : Program} {ops : Array Oper} {Q : Exit → Act → World → Prop} {K : Act → World → Prop} {a : Act} {w w' : World} {i : Nat} {o : Oper} {v : Value}
theorem wants_on {j d:Nat} (hg:o.guard=some (j,true)) (hj:dstAt ops j=some d) (hd:a.tmps[d]? = some (.bool true)):Region.wanted o (yielded ops a.tmps)=true:=by
 have:((ops[j]?).bind (·.dst))=some d:=hj
 simp[Region.wanted,hg,yielded,this,hd]
theorem op_val (ho:ops[i]? = some o) (hw:Region.wanted o (yielded ops a.tmps)=true) (hr:(execOp a.eval o).run P w=.ok (.value v) w') (hK:K (a.put o.dst v) w'):wpOp P ops Q i K a w:=by
 unfold wpOp
 simp only[ho,hw,if_true]
 exact .inl (by unfold Oper.wp;rw[hr];exact hK)
theorem op_skip (ho:ops[i]? = some o) (hw:Region.wanted o (yielded ops a.tmps)=true) (hr:(execOp a.eval o).run P w=.ok .skip w') (hK:K (a.put o.dst undef) w'):wpOp P ops Q i K a w:=by
 unfold wpOp
 simp only[ho,hw,if_true]
 exact .inl (by unfold Oper.wp;rw[hr];exact hK)
theorem op_call {f:Nat} {args:Array Value} (ho:ops[i]? = some o) (hw:Region.wanted o (yielded ops a.tmps)=true) (hr:(execOp a.eval o).run P w=.ok (.enter f args) w)
  (hc:Calls P f args w fun e w'=>∃ v,e=.returned v∧K (a.put o.dst v) w'):wpOp P ops Q i K a w:=by
 unfold wpOp
 simp only[ho,hw,if_true]
 refine .inl ?_
 unfold Oper.wp
 rw[hr]
 exact hc.mono fun e w' ⟨v,he,hK⟩=>by subst he;exact hK
variable {F : Fence} {n : Nat}
theorem opIn_val (hF:∀ f,F.fn f) (hs:∀ c,o.op≠.defer c) (ho:ops[i]? = some o) (hw:Region.wanted o (yielded ops a.tmps)=true) (hr:(execOp a.eval o).run P w=.ok (.value v) w') (hK:K (a.put o.dst v) w'):wpOpIn F n P ops Q i K a w:=by
 unfold wpOpIn
 simp only[ho,hw,if_true]
 unfold Oper.wpIn
 rw[Oper.semAt_plain F _ _ hs,hr]
 exact⟨fun f _=>hF f,hK⟩
theorem opIn_skip (hF:∀ f,F.fn f) (hs:∀ c,o.op≠.defer c) (ho:ops[i]? = some o) (hw:Region.wanted o (yielded ops a.tmps)=true) (hr:(execOp a.eval o).run P w=.ok .skip w') (hK:K (a.put o.dst undef) w'):wpOpIn F n P ops Q i K a w:=by
 unfold wpOpIn
 simp only[ho,hw,if_true]
 unfold Oper.wpIn
 rw[Oper.semAt_plain F _ _ hs,hr]
 exact⟨fun f _=>hF f,hK⟩
theorem opIn_call {f:Nat} {args:Array Value} (hF:∀ f,F.fn f) (hd:F.depth=none) (hs:∀ c,o.op≠.defer c) (ho:ops[i]? = some o) (hw:Region.wanted o (yielded ops a.tmps)=true) (hr:(execOp a.eval o).run P w=.ok (.enter f args) w)
  (hc:CallsIn F (n - 1) P f args w fun e w'=>∃ v,e=.returned v∧K (a.put o.dst v) w'):wpOpIn F n P ops Q i K a w:=by
 unfold wpOpIn
 simp only[ho,hw,if_true]
 unfold Oper.wpIn
 rw[Oper.semAt_plain F _ _ hs,hr]
 refine⟨fun f _=>hF f,(fun h=>by rw[hd] at h;cases h),?_⟩
 exact hc.mono fun e w' ⟨v,he,hK⟩=>by subst he;exact hK
theorem anyIn_one {md:Region.Mode} {fuel:Nat} {listed:Array Bool} (hr:Region.ready md ops listed=[i]) (h:wpOpIn F n P ops Q i (wpAnyIn F n P md ops Q fuel (listed.setIfInBounds i true)) a w):wpAnyIn F n P md ops Q (fuel+1) listed a w :=
 ⟨(fun h0=>by rw[hr] at h0;cases h0),fun j hj=>by rw[hr] at hj;simp at hj;subst hj;exact h⟩
theorem anyIn_none {md:Region.Mode} {fuel:Nat} {listed:Array Bool} (hr:Region.ready md ops listed=[]) (h:Q .normal a w):wpAnyIn F n P md ops Q fuel listed a w:=by
 cases fuel with
 | zero=>exact⟨hr,h⟩
 | succ f=>exact⟨fun _=>h,fun j hj=>by rw[hr] at hj;cases hj⟩
theorem anyIn_two {md:Region.Mode} {fuel:Nat} {listed:Array Bool} {j:Nat} (hr:Region.ready md ops listed=[i,j]) (h:wpOpIn F n P ops Q i (wpAnyIn F n P md ops Q fuel (listed.setIfInBounds i true)) a w)
  (h':wpOpIn F n P ops Q j (wpAnyIn F n P md ops Q fuel (listed.setIfInBounds j true)) a w):wpAnyIn F n P md ops Q (fuel+1) listed a w :=
 ⟨(fun h0=>by rw[hr] at h0;cases h0),fun k hk=>by
  rw[hr] at hk
  simp at hk
  rcases hk with rfl | rfl
  ·exact h
  ·exact h'⟩
theorem any_none {md:Region.Mode} {fuel:Nat} {listed:Array Bool} (hr:Region.ready md ops listed=[]) (h:Q .normal a w):wpAny P md ops Q fuel listed a w:=by
 cases fuel with
 | zero=>exact⟨hr,h⟩
 | succ f=>exact⟨fun _=>h,fun j hj=>by rw[hr] at hj;cases hj⟩
theorem any_one {md:Region.Mode} {fuel:Nat} {listed:Array Bool} (hr:Region.ready md ops listed=[i]) (h:wpOp P ops Q i (wpAny P md ops Q fuel (listed.setIfInBounds i true)) a w):wpAny P md ops Q (fuel+1) listed a w :=
 ⟨(fun h0=>by rw[hr] at h0;cases h0),fun j hj=>by rw[hr] at hj;simp at hj;subst hj;exact h⟩
end
theorem eval_tmp {a:Act} {d:Nat} {v:Value} (h:a.tmps[d]? = some v):a.eval (.tmp d)=v:=by
 simp[Act.eval,h]
end Go.Proofs.YtngdieldgnlogaaGreatDoor
