/- Regions in which several slots are not known; what stands at a place, apart from the rest; what is put at a place. -/
import Derived.Test.YtngdieldgnlogaaGreatDoorQS
import Derived.Test.YtngdieldgnlogaaGreatDoorQU
import Derived.Test.YtngdieldgnlogaaGreatDoorQV
namespace Go.Proofs.YtngdieldgnlogaaGreatDoor
open Go Go.RowKit
set_option maxRecDepth 100000
set_option linter.unusedVariables false
def J2 (lo:Nat) (L:Array Bool) (a:Act) (W:World):Prop :=
 (L.getD 4 false=true→∃ b,a.tmps[7]? = some (.pointer (some ⟨b,0,none⟩))∧lo≤b∧Fr4' b W)∧(L.getD 5 false=true→∃ b,a.tmps[8]? = some (.pointer (some ⟨b,0,none⟩))∧lo≤b∧Fr4' b W) ∧
 (L.getD 4 false=true→L.getD 5 false=true→a.tmps[7]?≠a.tmps[8]?)
theorem getD_other {L:Array Bool} {i j:Nat} (h:i≠j):(L.setIfInBounds i true).getD j false=L.getD j false:=by
 simp[Array.getD_eq_getD_getElem?,Array.getElem?_setIfInBounds_ne h]
theorem J2.other {lo:Nat} {L:Array Bool} {a:Act} {W W':World} {i d:Nat} {v:Value} (h:J2 lo L a W) (hb:Below W.heap.size W W') (h4:i≠4) (h5:i≠5) (h7:d≠7) (h8:d≠8):J2 lo (L.setIfInBounds i true) (a.put (some d) v) W':=by
 have e7:(a.put (some d) v).tmps[7]? = a.tmps[7]?:=by simp[Act.put,Array.getElem?_setIfInBounds_ne h7]
 have e8:(a.put (some d) v).tmps[8]? = a.tmps[8]?:=by simp[Act.put,Array.getElem?_setIfInBounds_ne h8]
 unfold J2
 rw[getD_other h4,getD_other h5,e7,e8]
 exact⟨fun hl=>(h.1 hl).imp fun b hb'=>⟨hb'.1,hb'.2.1,hb'.2.2.below hb⟩,fun hl=>(h.2.1 hl).imp fun b hb'=>⟨hb'.1,hb'.2.1,hb'.2.2.below hb⟩,h.2.2⟩
theorem J2.seven {lo:Nat} {L:Array Bool} {a:Act} {W:World} (h:J2 lo L a W) (hlo:lo≤W.heap.size) (hn:8 < a.tmps.size) :
  J2 lo (L.setIfInBounds 4 true) (a.put (some 7) (.pointer (some ⟨W.heap.size,0,none⟩))) (W.alloc (.cells #[.int .u8 0,.string ⟨#[]⟩,.slice none 0 0,.slice none 0 0] 25)):=by
 have e7:(a.put (some 7) (.pointer (some ⟨W.heap.size,0,none⟩))).tmps[7]? = some (.pointer (some ⟨W.heap.size,0,none⟩)):=by simp[Act.put,show 7 < a.tmps.size by omega]
 have e8:(a.put (some 7) (.pointer (some ⟨W.heap.size,0,none⟩))).tmps[8]? = a.tmps[8]?:=by simp[Act.put]
 unfold J2
 rw[getD_other (show 4≠5 by decide),e7,e8]
 refine⟨fun _=>⟨_,rfl,hlo,Fr4'.new W⟩,fun hl=>(h.2.1 hl).imp fun b hb'=>⟨hb'.1,hb'.2.1,hb'.2.2.below (bel_laid _ _)⟩,fun _ hl e=>?_⟩
 obtain⟨b,hb1,-,hb3⟩:=h.2.1 hl
 rw[hb1] at e
 simp at e
 obtain⟨u,hu⟩:=hb3 0 (by omega)
 have:=hu.lt
 omega
theorem J2.eight {lo:Nat} {L:Array Bool} {a:Act} {W:World} (h:J2 lo L a W) (hlo:lo≤W.heap.size) (hn:8 < a.tmps.size) :
  J2 lo (L.setIfInBounds 5 true) (a.put (some 8) (.pointer (some ⟨W.heap.size,0,none⟩))) (W.alloc (.cells #[.int .u8 0,.string ⟨#[]⟩,.slice none 0 0,.slice none 0 0] 25)):=by
 have e7:(a.put (some 8) (.pointer (some ⟨W.heap.size,0,none⟩))).tmps[7]? = a.tmps[7]?:=by simp[Act.put]
 have e8:(a.put (some 8) (.pointer (some ⟨W.heap.size,0,none⟩))).tmps[8]? = some (.pointer (some ⟨W.heap.size,0,none⟩)):=by simp[Act.put,hn]
 unfold J2
 rw[getD_other (show 5≠4 by decide),e7,e8]
 refine⟨fun hl=>(h.1 hl).imp fun b hb'=>⟨hb'.1,hb'.2.1,hb'.2.2.below (bel_laid _ _)⟩,fun _=>⟨_,rfl,hlo,Fr4'.new W⟩,fun hl _ e=>?_⟩
 obtain⟨b,hb1,-,hb3⟩:=h.1 hl
 rw[hb1] at e
 simp at e
 obtain⟨u,hu⟩:=hb3 0 (by omega)
 have:=hu.lt
 omega
end Go.Proofs.YtngdieldgnlogaaGreatDoor
namespace Go.Proofs.YtngdieldgnlogaaGreatDoor
open Go
section
variable {md : Region.Mode} {ops : Array Oper}
def fitT (md:Region.Mode) (ops:Array Oper) (k n:Nat) (bs:List Nat):Bool :=
  decide (k≤ops.size) &&
  (List.range ops.size).all fun i=>match ops[i]? with
    | none=>false
    | some o =>
      if i < k then
        (o.after.all fun e=>!Region.binds md e || decide (e.on < i)) &&
        ((o.looksAt ops).all fun d=>bs.contains d || o.after.any fun e=>Region.binds md e && (dstAt ops e.on == some d)) &&
        (match o.dst with
          | none=>true
          | some d=>decide (d < n) && !bs.contains d && (List.range k).all fun j=>j == i || dstAt ops j != some d)
      else (List.range k).all fun j=>(o.after.any fun e=>Region.binds md e && (e.on == j)) ||
        (List.range k).any fun q=>(o.after.any fun e=>Region.binds md e && (e.on == q)) && (match ops[q]? with | none=>false | some oq=>oq.after.any fun e=>Region.binds md e && (e.on == j))
theorem anyT_part {Qn:Act→World→Prop} {stp:Nat→(Act→World→Prop)→Act→World→Prop} (hmono:∀ {i:Nat} {K K':Act→World→Prop} {a:Act} {w:World},(∀ a w,K a w→K' a w)→stp i K a w→stp i K' a w)
  {n k:Nat} {bs:List Nat} {VT:Nat→Value→World→Prop} {I:Array Bool→Act→World→Prop} {R:World→World→Prop} {D:List Deferred} (hf:fitT md ops k n bs=true)
  (hVT:∀ d v w w',R w w'→VT d v w→VT d v w') (hst:StepsG ops stp n bs VT I R D 0 (ops.toList.take k))
  (hend:∀ a w,Held ops n bs VT I D (headUp k ops.size) a w→anyG md ops Qn stp (ops.size - k) (headUp k ops.size) a w) :
  ∀ (m:Nat) (listed:Array Bool) (a:Act) (w:World),listed.size=ops.size→upTo listed k=m→(∀ i,k≤i→i < ops.size→listed.getD i true=false)→(∀ (q:Nat) (oq:Oper),ops[q]? = some oq→listed.getD q false=true→∀ e∈oq.after,Region.binds md e=true→listed.getD e.on false=true)→Held ops n bs VT I D listed a w →
   anyG md ops Qn stp (m+(ops.size - k)) listed a w:=by
 simp only[fitT,Bool.and_eq_true,decide_eq_true_eq,List.all_eq_true,List.mem_range] at hf
 obtain⟨hkN,hf⟩:=hf
 intro m
 induction m with
 | zero =>
  intro listed a w hs hm hhi hdc hH
  have e:=eq_headUp hkN hs (upTo_zero hm) hhi
  rw[Nat.zero_add]
  subst e
  exact hend a w hH
 | succ m ih =>
  intro listed a w hs hm hhi hdc hH
  rw[show m+1+(ops.size - k)=(m+(ops.size - k))+1 by omega]
  have hlow:∀ i,i∈Region.ready md ops listed→i < k:=by
   intro i hi
   obtain⟨hun,o,ho,hall⟩:=mem_ready.1 hi
   have hiN:i < ops.size:=(Array.getElem?_eq_some_iff.1 ho).1
   have:=hf i hiN
   rw[ho] at this
   by_cases hik:i < k
   ·exact hik
   ·simp only[if_neg hik,List.all_eq_true,List.mem_range] at this
    obtain⟨j,hj,hj1,hj2⟩:=upTo_pos (listed:=listed) (k:=k) (by omega)
    have:=this j hj
    have h3:listed.getD j false=true:=by
     rw[Bool.or_eq_true] at this
     rcases this with this | this
     ·obtain⟨e,he,hb⟩:=Array.any_eq_true'.1 this
      simp only[Bool.and_eq_true,beq_iff_eq] at hb
      have h3:=hall e he hb.1
      rwa [hb.2] at h3
     ·obtain⟨q,hq,hqq⟩:=List.any_eq_true.1 this
      rw[Bool.and_eq_true] at hqq
      obtain⟨h5,h6⟩:=hqq
      obtain⟨e,he,hb⟩:=Array.any_eq_true'.1 h5
      simp only[Bool.and_eq_true,beq_iff_eq] at hb
      have h7:=hall e he hb.1
      rw[hb.2] at h7
      cases hoq:ops[q]? with
      | none=>rw[hoq] at h6;cases h6
      | some oq =>
       rw[hoq] at h6
       obtain⟨e',he',hb'⟩:=Array.any_eq_true'.1 h6
       simp only[Bool.and_eq_true,beq_iff_eq] at hb'
       have h8:=hdc q oq hoq h7 e' he' hb'.1
       rwa [hb'.2] at h8
    have:j < listed.size:=by omega
    simp[this] at hj1 h3
    rw[h3] at hj1
    cases hj1
  refine⟨fun h0=>?_,fun i hi=>?_⟩
  ·exfalso
   obtain⟨j,hj,hj1,hj2⟩:=upTo_pos (listed:=listed) (k:=k) (by omega)
   have hjN:j < ops.size:=by omega
   have h1:=hf j hjN
   rw[Array.getElem?_eq_getElem hjN] at h1
   simp only[if_pos hj,Bool.and_eq_true] at h1
   have hmem:j∈Region.ready md ops listed:=mem_ready.2 ⟨hj1,ops[j],Array.getElem?_eq_getElem hjN,fun e he hb=>by
    have h2:=Array.all_eq_true'.1 h1.1.1 e he
    simp only[hb,Bool.not_true,Bool.false_or,decide_eq_true_eq] at h2
    have h3:=hj2 e.on h2
    have:e.on < listed.size:=by omega
    simpa[this] using h3⟩
   rw[h0] at hmem
   cases hmem
  ·have hik:=hlow i hi
   obtain⟨hun,o,ho,hall⟩:=mem_ready.1 hi
   have hiN:i < ops.size:=(Array.getElem?_eq_some_iff.1 ho).1
   have h1:=hf i hiN
   rw[ho] at h1
   simp only[if_pos hik,Bool.and_eq_true,List.all_eq_true] at h1
   obtain⟨⟨-,hlook⟩,hdst⟩:=h1
   have hso:StepG ops stp n bs VT I R D i o:=by
    have:=StepsG.at _ _ hst i o (by rw[List.getElem?_take_of_lt hik];simpa using ho)
    rwa [Nat.zero_add] at this
   refine hmono ?_ (hso listed a w hs hun hH.size hH.defs hH.inv hH.base fun d hd=>?_)
   ·rintro a' w' ⟨v,rfl,hv,hI',hR⟩
    refine ih _ _ _ (by simpa using hs) (by have:=upTo_set (by omega) hun hik;omega) (fun j hj hjN=>by rw[getD_set_ne true (show i≠j by omega)];exact hhi j hj hjN) (fun q oq hq hl e he hb=>?_) ⟨?_,?_,hI',?_,?_⟩
    ·have hmon:∀ j,listed.getD j false=true→(listed.setIfInBounds i true).getD j false=true:=fun j hj=>by
      by_cases hji:i=j
      ·subst hji
       have:i < listed.size:=by omega
       simp[this]
      ·rw[getD_set_ne false hji];exact hj
     by_cases hqi:i=q
     ·subst hqi
      rw[ho] at hq
      cases hq
      exact hmon _ (hall e he hb)
     ·rw[getD_set_ne false hqi] at hl
      exact hmon _ (hdc q oq hq hl e he hb)
    ·cases hd:o.dst<;>simp[Act.put,hH.size]
    ·cases hd:o.dst<;>simp[Act.put,hH.defs]
    ·intro d hd
     obtain⟨u,hu,hvu⟩:=hH.base d hd
     refine⟨u,?_,hVT _ _ _ _ hR hvu⟩
     cases hod:o.dst with
     | none=>exact hu
     | some d' =>
      rw[hod] at hdst
      simp only[Bool.and_eq_true,Bool.not_eq_true',decide_eq_true_eq] at hdst
      have hne:d'≠d:=by
       rintro rfl
       have:=hdst.1.2
       rw[List.contains_iff_mem.2 hd] at this
       cases this
      simpa[Act.put,Array.getElem?_setIfInBounds_ne hne] using hu
    ·intro j d hj hjd
     by_cases hji:i=j
     ·subst hji
      simp only[dstAt,ho,Option.bind_some] at hjd
      rw[hjd] at hdst
      simp only[Bool.and_eq_true,decide_eq_true_eq] at hdst
      have hlt:d < a.tmps.size:=by rw[hH.size];exact hdst.1.1
      exact⟨v,by simp[Act.put,hjd,hlt],hv d hjd⟩
     ·rw[getD_set_ne false hji] at hj
      obtain⟨u,hu,hvu⟩:=hH.made j d hj hjd
      refine⟨u,?_,hVT _ _ _ _ hR hvu⟩
      cases hod:o.dst with
      | none=>exact hu
      | some d' =>
       have hjk:j < k:=by
        have hjs:j < listed.size:=by
         rcases Nat.lt_or_ge j listed.size with h' | h'
         ·exact h'
         ·simp[Array.getElem?_eq_none h'] at hj
        rcases Nat.lt_or_ge j k with h' | h'
        ·exact h'
        ·have:=hhi j h' (by omega)
         simp[hjs] at this hj
         rw[hj] at this
         cases this
       rw[hod] at hdst
       simp only[Bool.and_eq_true,List.all_eq_true,List.mem_range,Bool.or_eq_true,beq_iff_eq,bne_iff_ne] at hdst
       have hne:d'≠d:=by
        rintro rfl
        rcases hdst.2 j hjk with h | h
        ·exact hji h.symm
        ·exact h hjd
       simpa[Act.put,Array.getElem?_setIfInBounds_ne hne] using hu
   ·have:=hlook d hd
    simp only[Bool.or_eq_true] at this
    rcases this with h | h
    ·exact hH.base d (cM h)
    ·obtain⟨e,he,hb⟩:=Array.any_eq_true'.1 h
     simp only[Bool.and_eq_true,beq_iff_eq] at hb
     exact hH.made e.on d (hall e he hb.1) hb.2
end
theorem wp_region_held_slotsT {P:Program} {ops:Array Oper} {Q:Exit→Act→World→Prop} {id:Nat} {a:Act} {w:World} (hm:P.follows .mixedOrders=true) (k n:Nat) (bs:List Nat) (VT:Nat→Value→World→Prop) (I:Array Bool→Act→World→Prop) (R:World→World→Prop) (hf:fitT .any ops k n bs=true)
  (hVT:∀ d v w w',R w w'→VT d v w→VT d v w') (h1:a.tmps.size=n) (h3:I (Array.replicate ops.size false) a { w with drawn:=w.drawn+1 }) (h4:∀ d∈bs,∃ v,a.tmps[d]? = some v∧VT d v { w with drawn:=w.drawn+1 })
  (hst:StepsG ops (wpOp P ops Q) n bs VT I R a.defers 0 (ops.toList.take k))
  (hend:∀ a' w',Held ops n bs VT I a.defers (headUp k ops.size) a' w'→wpAny P .any ops Q (ops.size - k) (headUp k ops.size) a' w'):(Code.region id ops true).wp P Q a w:=by
 refine wp_region_any hm ?_
 rw[←anyG_wp]
 have hk:k≤ops.size:=by
  simp only[fitT,Bool.and_eq_true,decide_eq_true_eq] at hf
  exact hf.1
 have:=anyT_part (Qn:=Q .normal) (stp:=wpOp P ops Q) (fun h hh=>wpOp_mono h hh) hf hVT hst (fun a' w' hh=>by rw[anyG_wp];exact hend a' w' hh) k (Array.replicate ops.size false) a { w with drawn:=w.drawn+1 } (by simp) (upTo_new hk)
  (fun i _ hi=>by simp[hi]) (fun q oq hq hl e he hb=>by
   by_cases hi:q < ops.size
   ·simp[hi] at hl
   ·simp[Array.getElem?_eq_none (show (Array.replicate ops.size false).size≤q by simp;omega)] at hl) (held_new h1 rfl h3 h4)
 rwa [show k+(ops.size - k)=ops.size by omega] at this
end Go.Proofs.YtngdieldgnlogaaGreatDoor
namespace Go.Proofs.YtngdieldgnlogaaGreatDoor
open Go Go.RowKit
set_option maxRecDepth 100000
set_option linter.unusedVariables false
theorem wp_region_rel {P:Program} {ops:Array Oper} {Q:Exit→Act→World→Prop} {id:Nat} {a:Act} {w:World} (hm:P.follows .mixedOrders=true) (k n:Nat) (ks:List Nat) (VT:Nat→Value→World→Prop) (I:Array Bool→Act→World→Prop) (R:World→World→Prop)
  (hnd:ks.Pairwise (·≠·)) (hf:fitT .any ops k n ((List.range n).filter fun d=>!ks.contains d)=true) (hks:ks.all (fun d=>(List.range k).any fun i=>dstAt ops i == some d)=true) (hko:k≤ops.size)
  (hVT:∀ d v w w',R w w'→VT d v w→VT d v w') (h1:a.tmps.size=n) (h3:I (Array.replicate ops.size false) a w.drew)
  (hst:StepsG ops (wpOp P ops Q) n ((List.range n).filter fun d=>!ks.contains d) (fun d u W=>if ks.contains d=true then VT d u W else u=a.tmps.getD d undef) I R a.defers 0 (ops.toList.take k))
  (hend:∀ (g:Nat→Value) w',(∀ d,ks.contains d=true→VT d (g d) w')→I (headUp k ops.size) (puts a (zipV ks g)) w'→wpAny P .any ops Q (ops.size - k) (headUp k ops.size) (puts a (zipV ks g)) w'):(Code.region id ops true).wp P Q a w:=by
 refine wp_region_held_slotsT hm k n ((List.range n).filter fun d=>!ks.contains d) (fun d u W=>if ks.contains d=true then VT d u W else u=a.tmps.getD d undef) I R hf ?_ h1 h3 ?_ hst ?_
 ·intro d v A B hR h
  by_cases e:ks.contains d=true
  ·rw[if_pos e] at h ⊢;exact hVT d v A B hR h
  ·rw[if_neg e] at h ⊢;exact h
 ·intro d hd
  obtain⟨hlt,hno⟩:=List.mem_filter.1 hd
  have hno':ks.contains d=false:=by simpa using hno
  have hlt':d < a.tmps.size:=by rw[h1];exact List.mem_range.1 hlt
  refine⟨a.tmps[d],by simp[hlt'],?_⟩
  rw[if_neg (by rw[hno'];decide)]
  simp[hlt']
 ·intro a' w' hH
  have hslot:∀ d,ks.contains d=true→∃ v,a'.tmps[d]? = some v∧VT d v w':=by
   intro d hd
   have h5:=List.all_eq_true.1 hks d (cM hd)
   obtain⟨i,hi,hid⟩:=List.any_eq_true.1 h5
   have hik:=List.mem_range.1 hi
   obtain⟨v,hv,hvt⟩:=hH.made i d (by simp[headUp,Array.getD_eq_getD_getElem?,List.getElem?_append_left (show i < (List.replicate k true).length by simpa using hik),hik]) (by simpa using hid)
   rw[if_pos hd] at hvt
   exact⟨v,hv,hvt⟩
  have ea:a'=puts a (zipV ks fun d=>a'.tmps.getD d undef):=by
   refine act_puts h1 hH.size hH.defs ?_ ?_ ?_
   ·rw[zipV,List.pairwise_map];exact hnd
   ·intro d hd hk
    rw[keyB_zipV] at hk
    obtain⟨v,hv,hvt⟩:=hH.base d (List.mem_filter.2 ⟨List.mem_range.2 hd,by rw[hk];rfl⟩)
    rw[if_neg (by rw[hk];decide)] at hvt
    have hlt':d < a.tmps.size:=by omega
    rw[hv,hvt]
    simp[hlt']
   ·intro d hd hk
    rw[keyB_zipV] at hk
    rw[slotV_zipV _ _ _ _ hk]
    obtain⟨v,hv,-⟩:=hslot d hk
    simp[hv]
  have hfin:=hend (fun d=>a'.tmps.getD d undef) w' (fun d hd=>by
   obtain⟨v,hv,hvt⟩:=hslot d hd
   simpa[hv] using hvt) (by rw[←ea];exact hH.inv)
  rw[←ea] at hfin
  exact hfin
end Go.Proofs.YtngdieldgnlogaaGreatDoor
namespace Go.Proofs.YtngdieldgnlogaaGreatDoor
open Go Go.RowKit
set_option maxRecDepth 100000
set_option linter.unusedVariables false
def AtSp (W:World) (lo:Nat) (r:Option FT) (v:Value) (e:Int):Prop:=match r with
 | none=>v=fval ⟨0,⟨#[]⟩,.nil,.nil⟩ (.slice none 0 0) (.slice none 0 0)∧e=6
 | some g=>FVSp W g v (Rg lo W.heap.size)∧e=0
set_option maxHeartbeats 4000000 in
theorem at_sp (f:FT) (l:List Int) (v sl:Value) (w:World) (hv:FVal w f v) (hl:LSl w l sl) (hn:l.length≤1000000) (hs:f.size≤1000000) :
  Calls Tryz.prog 38 #[v,sl] w fun e w'=>(∃ v' er,e=.returned (.tuple #[v',.int .i64 er])∧AtSp w' w.heap.size (f.part l) v' er)∧Below w.heap.size w w':=by
 have hv0:=hv
 obtain⟨sa,ss,rfl,ha,hss⟩:=hv
 obtain⟨pa,ca,rfl,-⟩:=id ha
 obtain⟨p,c,rfl,-⟩:=id hss
 obtain⟨pl,cl,rfl,-⟩:=id hl
 have hst:=(FS.start (t:=25) hv0).next (bel_laid _ (.cells #[.int .u8 0,.string ⟨#[]⟩,.slice none 0 0,.slice none 0 0] 25))
 have hF2:=Free.lit (w.alloc (.cells #[.int .u8 f.op,.string f.n,.slice pa f.ts.len ca,.slice p f.sub.len c] 25)) #[.int .u8 0,.string ⟨#[]⟩,.slice none 0 0,.slice none 0 0] 25
 have hl2:=LSl.below (bel_laid _ (.cells #[.int .u8 0,.string ⟨#[]⟩,.slice none 0 0,.slice none 0 0] 25)) (LSl.below (bel_laid w (.cells #[.int .u8 f.op,.string f.n,.slice pa f.ts.len ca,.slice p f.sub.len c] 25)) hl)
 have hgs:((w.alloc (.cells #[.int .u8 f.op,.string f.n,.slice pa f.ts.len ca,.slice p f.sub.len c] 25)).alloc (.cells #[.int .u8 0,.string ⟨#[]⟩,.slice none 0 0,.slice none 0 0] 25)).heap.size=w.heap.size+2:=by simp
 have hz0:=cell_new (w.alloc (.cells #[.int .u8 f.op,.string f.n,.slice pa f.ts.len ca,.slice p f.sub.len c] 25)) #[.int .u8 0,.string ⟨#[]⟩,.slice none 0 0,.slice none 0 0] 25
 rw[World.size_alloc] at hF2 hz0
 clear hv0 ha hss hl
 obtain⟨res,hres⟩:∃ res,f.part l=res:=⟨_,rfl⟩
 have hsz:∀ g,res=some g→g.size≤1000000:=fun g hg=>Nat.le_trans (Fs.part_size l f g (hres.trans hg)) hs
 have HFd:=h_X (fun V (hV:FAt V f w.heap.size 0) hl=>find_any f l w.heap.size 0 (.slice pl l.length cl) V hV hl hn)
 rw[hres] at HFd ⊢
 clear hres
 go_enter Tryz.func38,Tryz.ntmps38
 go_wp2_with fail
 generalize (w.alloc (.cells #[.int .u8 f.op,.string f.n,.slice pa f.ts.len ca,.slice p f.sub.len c] 25)).alloc (.cells #[.int .u8 0,.string ⟨#[]⟩,.slice none 0 0,.slice none 0 0] 25)=W2 at hst hF2 hl2 hgs hz0 ⊢
 refine(HFd.out W2 ⟨hst.1,hst.2.1,⟨_,hst.2.2.1,hst.2.2.2.2.2.1⟩,⟨_,hst.2.2.2.1,hst.2.2.2.2.2.2⟩⟩ hl2).mono ?_
 rintro e W3 ⟨⟨vp,rfl,hfound⟩,rfl⟩
 have hbel:=hst.2.2.2.2.1
 clear HFd hst hl2
 obtain⟨g,hg⟩:∃ g,w.heap.size=g:=⟨_,rfl⟩
 rw[hg] at hF2 hgs hz0 ⊢
 cases res with
 | none =>
  obtain rfl:vp=.pointer none:=hfound
  obtain⟨⟨x0,y0⟩,z0⟩:=hF2 0 (by simp)
  obtain⟨⟨x1,y1⟩,z1⟩:=hF2 1 (by simp)
  obtain⟨⟨x2,y2⟩,z2⟩:=hF2 2 (by simp)
  obtain⟨⟨x3,y3⟩,z3⟩:=hF2 3 (by simp)
  clear hF2 hz0
  go_wp2_with fail
  obtain⟨W5,hW5,e0,e1,e2,e3,hfar,hbl⟩:=set4 W2 (g+1) (.int .u8 0) (.string ⟨#[]⟩) (.slice none 0 0) (.slice none 0 0) y0 y1 y2 y3
  rw[hW5]
  refine bodyPost_ret (v:=.tuple #[fval ⟨0,⟨#[]⟩,.nil,.nil⟩ (.slice none 0 0) (.slice none 0 0),.int .i64 6]) ?_ rfl ⟨⟨_,_,rfl,rfl,rfl⟩,hbl _ _ hbel (by omega)⟩
  simp[results,Tryz.results38,go_sem,e0,e1,e2,e3]
 | some ft =>
  obtain⟨b,o,rfl,hft⟩:=hfound
  obtain⟨sx,sy,m2,m3,hfv⟩:=hft.val
  obtain⟨m0,m1,-,-⟩:=hft
  have HC:=h_X (copy_sp ft _ W2 hfv (hsz ft rfl))
  clear hfv
  go_wp2_with fail
  refine HC.out.mono ?_
  rintro e W4 ⟨v',rfl,hsp,hb4⟩
  rw[hgs] at hsp
  obtain⟨s1,s2,A1,A2,rfl,hA1,hA2,hown1,hown2⟩:=hsp
  replace hF2:=hF2.below hb4
  have hb5:=bS hbel hb4
  clear hb4 HC m0 m1 m2 m3 hz0
  obtain⟨p1,c1,hse,-⟩:=id hown1
  subst hse
  obtain⟨p2,c2,hse,-⟩:=id hown2
  subst hse
  obtain⟨⟨x0,y0⟩,z0⟩:=hF2 0 (by simp)
  obtain⟨⟨x1,y1⟩,z1⟩:=hF2 1 (by simp)
  obtain⟨⟨x2,y2⟩,z2⟩:=hF2 2 (by simp)
  obtain⟨⟨x3,y3⟩,z3⟩:=hF2 3 (by simp)
  have hown1h:=h_X hown1
  have hown2h:=h_X hown2
  clear hF2 hown1 hown2
  go_wp2_with fail
  obtain⟨W5,hW5,q0,q1,q2,q3,hfar,hbl,hs5⟩:=set4o W4 (g+1) 0 (.int .u8 ft.op) (.string ft.n) (.slice p1 ft.ts.len c1) (.slice p2 ft.sub.len c2) ⟨y0,z0⟩ ⟨y1,z1⟩ ⟨y2,z2⟩ ⟨y3,z3⟩
  simp only[Nat.zero_add] at hW5 q1 q2 q3
  have e0:=q0.1
  have e1:=q1.1
  have e2:=q2.1
  have e3:=q3.1
  rw[hW5]
  have hown:FVSp W5 ft (fval ft (.slice p1 ft.ts.len c1) (.slice p2 ft.sub.len c2)) (Rg w.heap.size W5.heap.size) :=
   ⟨_,_,A1,A2,rfl,fun x hx=>⟨by have:=(hA1 x hx).1;omega,by have:=(hA1 x hx).2;omega⟩,fun x hx=>⟨⟨by have:=(hA2 x hx).1.1;omega,by have:=(hA2 x hx).1.2;omega⟩,(hA2 x hx).2⟩,
    TSp.keep (fun x i v hx hc=>hfar x i v (by have:=(hA1 x hx).1;omega) hc) hown1h.out,FSp.keep (fun x i v hx hc=>hfar x i v (by have:=(hA2 x hx).1.1;omega) hc) hown2h.out⟩
  refine bodyPost_ret (v:=.tuple #[fval ft (.slice p1 ft.ts.len c1) (.slice p2 ft.sub.len c2),.int .i64 0]) ?_ rfl ⟨⟨_,_,rfl,hown,rfl⟩,hbl _ _ hb5 (by omega)⟩
  simp[results,Tryz.results38,go_sem,e0,e1,e2,e3]
end Go.Proofs.YtngdieldgnlogaaGreatDoor
namespace Go.Proofs.YtngdieldgnlogaaGreatDoor
open Go Go.RowKit
set_option linter.unusedVariables false
theorem Fs.get_set:∀ (t:Fs) (k:Nat) (h:FT),k < t.len→(t.set k h).get k=h
 | .nil,_,_,hk=>by simp[Fs.len] at hk
 | .cons _ _ _ _ _,0,_,_=>rfl
 | .cons _ _ _ _ r,k+1,h,hk=>by simp only[Fs.set,Fs.get];exact Fs.get_set r k h (by simp only[Fs.len] at hk;omega)
theorem Fs.set_get:∀ (t:Fs) (k:Nat),k < t.len→t.set k (t.get k)=t
 | .nil,_,hk=>by simp[Fs.len] at hk
 | .cons _ _ _ _ _,0,_=>rfl
 | .cons _ _ _ _ r,k+1,hk=>by simp only[Fs.set,Fs.get,Fs.set_get r k (by simp only[Fs.len] at hk;omega)]
theorem Fs.set_set:∀ (t:Fs) (k:Nat) (g h:FT),(t.set k g).set k h=t.set k h
 | .nil,_,_,_=>rfl
 | .cons _ _ _ _ _,0,_,_=>rfl
 | .cons _ _ _ _ r,k+1,g,h=>by simp only[Fs.set,Fs.set_set r k g h]
theorem Fs.size_set:∀ (t:Fs) (k:Nat) (h:FT),k < t.len→(t.set k h).size+(t.get k).size=t.size+h.size
 | .nil,_,_,hk=>by simp[Fs.len] at hk
 | .cons _ _ _ _ _,0,_,_=>by simp only[Fs.set,Fs.get,Fs.size,FT.size];omega
 | .cons _ _ _ _ r,k+1,h,hk=>by
  have:=Fs.size_set r k h (by simp only[Fs.len] at hk;omega)
  simp only[Fs.set,Fs.get,Fs.size];omega
theorem FT.put_part:∀ (l:List Int) (f h o:FT),f.part l=some o→∃ g,f.put l h=some g∧g.part l=some h∧g.put l o=some f∧g.size+o.size=f.size+h.size
 | [],f,h,o,e=>by
  simp only[FT.part,Option.some.injEq] at e
  subst e
  exact⟨h,rfl,rfl,rfl,by omega⟩
 | i :: l,f,h,o,e=>by
  rw[FT.part] at e
  split at e
  ·rename_i hi
   obtain⟨g,h1,h2,h3,h4⟩:=FT.put_part l _ h o e
   have hs:=Fs.size_set f.sub i.toNat g (by omega)
   refine⟨⟨f.op,f.n,f.ts,f.sub.set i.toNat g⟩,by rw[FT.put,if_pos hi,h1];rfl,?_,?_,by simp only[FT.size] at h4 hs ⊢;omega⟩
   ·rw[FT.part,if_pos (by rw[Fs.len_set];exact hi)]
    rw[Fs.get_set _ _ _ (by omega)]
    exact h2
   ·rw[FT.put,if_pos (by rw[Fs.len_set];exact hi)]
    rw[Fs.get_set _ _ _ (by omega),h3]
    simp only[Option.map_some,Fs.set_set,Fs.set_get _ _ (show i.toNat < f.sub.len by omega)]
  ·cases e
end Go.Proofs.YtngdieldgnlogaaGreatDoor
