/- Symbols put into a list in order, one by one: mathematics. The reference's Predicates, from what is known of its insertion. The reference's functions of terms, from what is known of its insertion. The reference's Functions, from what is known of its insertion. The walk of the insertion: mathematics; own rows of symbols read. -/
import Derived.Test.YtngdieldgnlogaaGreatDoorQC
import Derived.Test.YtngdieldgnlogaaGreatDoorQP
import Derived.Test.YtngdieldgnlogaaGreatDoorMK
namespace Go.Proofs.YtngdieldgnlogaaGreatDoor
open Go Go.RowKit Go.Sort
set_option maxRecDepth 100000
set_option linter.unusedVariables false
abbrev ltS (a b:Sy):Prop:=sySym a b < 0
theorem ltS_trans {a b c:Sy} (h1:ltS a b) (h2:ltS b c):ltS a c:=of_decide_eq_true (swoSym.trans a b c (decide_eq_true h1) (decide_eq_true h2))
theorem ltS_irr (a:Sy):¬ ltS a a:=of_decide_eq_false (swoSym.irrefl a)
theorem ltS_tri {a b:Sy} (h:a≠b):ltS a b∨ltS b a:=by
 by_cases h1:ltS a b
 ·exact .inl h1
 ·by_cases h2:ltS b a
  ·exact .inr h2
  ·exact(h (sy_total a b (decide_eq_false h1) (decide_eq_false h2))).elim
theorem not_lt {a b:Sy}:(!(ltOf sySym) b a)=true↔¬ ltS b a:=by
 unfold ltOf ltS
 simp
theorem ms_sorted (l:List Sy):(ms l).Pairwise fun a b=>¬ ltS b a:=by
 have h:=List.pairwise_mergeSort (le:=fun x y=>!(ltOf sySym) y x) (fun a b c h1 h2=>by
  rw[not_lt] at h1 h2 ⊢
  exact fun h3=>by
   by_cases e:a=b
   ·subst e;exact h2 h3
   ·rcases ltS_tri e with k | k
    ·exact h2 (ltS_trans h3 k)
    ·exact h1 k) (fun a b=>by
  rw[Bool.or_eq_true,not_lt,not_lt]
  by_cases h1:ltS b a
  ·exact .inr fun h2=>ltS_irr _ (ltS_trans h1 h2)
  ·exact .inl h1) l
 exact h.imp fun {a b} h=>not_lt.1 h
theorem uniqA_spec:∀ (r:List Sy) (q:Sy),(q :: r).Pairwise (fun a b=>¬ ltS b a)→(q :: uniqA q r).Pairwise ltS∧∀ x,x∈q :: uniqA q r↔x∈q :: r
 | [],q,_=>⟨by simp[uniqA],fun x=>by simp[uniqA]⟩
 | p :: r,q,h=>by
  have h0:=List.pairwise_cons.1 h
  have ih:=uniqA_spec r p h0.2
  unfold uniqA
  by_cases e:p.1.toList=q.1.toList∧p.2=q.2
  ·rw[if_pos e]
   have epq:p=q:=Prod.ext (ba_ext e.1) e.2
   subst epq
   refine⟨ih.1,fun x=>?_⟩
   rw[ih.2]
   simp
  ·rw[if_neg e]
   have hne:q≠p:=fun e'=>e (by rw[e'];exact⟨rfl,rfl⟩)
   have hqp:ltS q p:=(ltS_tri hne).resolve_right (h0.1 p (List.mem_cons_self ..))
   refine⟨List.pairwise_cons.2 ⟨fun x hx=>?_,ih.1⟩,fun x=>?_⟩
   ·rcases List.mem_cons.1 hx with rfl | hx'
    ·exact hqp
    ·exact ltS_trans hqp ((List.pairwise_cons.1 ih.1).1 x hx')
   ·rw[List.mem_cons,ih.2,List.mem_cons,List.mem_cons,List.mem_cons]
theorem uniq_spec (l:List Sy):(uniq (ms l)).Pairwise ltS∧∀ x,x∈uniq (ms l)↔x∈l:=by
 have hs:=ms_sorted l
 have hp:=ms_perm l
 cases hm:ms l with
 | nil =>
  rw[hm] at hp
  have:l=[]:=hp.symm.eq_nil
  subst this
  exact⟨by simp[uniq],fun x=>by simp[uniq]⟩
 | cons q r =>
  rw[hm] at hs hp
  obtain⟨h1,h2⟩:=uniqA_spec r q hs
  exact⟨h1,fun x=>by rw[show uniq (q :: r)=q :: uniqA q r from rfl,h2];exact hp.mem_iff⟩
theorem ltS_asym {a b:Sy} (h:ltS a b):¬ ltS b a:=fun h'=>ltS_irr _ (ltS_trans h h')
theorem sorted_ext:∀ (a b:List Sy),a.Pairwise ltS→b.Pairwise ltS→(∀ x,x∈a↔x∈b)→a=b
 | [],[],_,_,_=>rfl
 | [],y :: r,_,_,h=>by have:=(h y).2 (List.mem_cons_self ..);cases this
 | x :: a,[],_,_,h=>by have:=(h x).1 (List.mem_cons_self ..);cases this
 | x :: a,y :: r,ha,hb,h=>by
  have ha':=List.pairwise_cons.1 ha
  have hb':=List.pairwise_cons.1 hb
  have hxy:x=y:=by
   rcases List.mem_cons.1 ((h x).1 (List.mem_cons_self ..)) with e | hx
   ·exact e
   ·rcases List.mem_cons.1 ((h y).2 (List.mem_cons_self ..)) with e | hy
    ·exact e.symm
    ·exact(ltS_asym (ha'.1 y hy) (hb'.1 x hx)).elim
  subst hxy
  congr 1
  refine sorted_ext a r ha'.2 hb'.2 fun z=>⟨fun hz=>?_,fun hz=>?_⟩
  ·exact(List.mem_cons.1 ((h z).1 (List.mem_cons_of_mem _ hz))).resolve_left fun e=>ltS_irr x (by have:=ha'.1 z hz;rwa [e] at this)
  ·exact(List.mem_cons.1 ((h z).2 (List.mem_cons_of_mem _ hz))).resolve_left fun e=>ltS_irr x (by have:=hb'.1 z hz;rwa [e] at this)
def putS (s:Sy):List Sy→List Sy
 | []=>[s]
 | x :: r=>if ltS s x then s :: x :: r else x :: putS s r
open Classical in
noncomputable def insR (l:List Sy) (s:Sy):List Sy:=if s∈l then l else putS s l
theorem mem_putS (s x:Sy):∀ l:List Sy,x∈putS s l↔x=s∨x∈l
 | []=>by simp[putS]
 | y :: r=>by
  unfold putS
  by_cases h:ltS s y
  ·rw[if_pos h,List.mem_cons]
  ·rw[if_neg h,List.mem_cons,mem_putS s x r,List.mem_cons]
   constructor
   ·rintro(e | e | e)
    ·exact .inr (.inl e)
    ·exact .inl e
    ·exact .inr (.inr e)
   ·rintro(e | e | e)
    ·exact .inr (.inl e)
    ·exact .inl e
    ·exact .inr (.inr e)
theorem putS_sorted (s:Sy):∀ l:List Sy,s∉l→l.Pairwise ltS→(putS s l).Pairwise ltS
 | [],_,_=>by simp[putS]
 | y :: r,hn,h=>by
  have h':=List.pairwise_cons.1 h
  unfold putS
  by_cases hl:ltS s y
  ·rw[if_pos hl]
   refine List.pairwise_cons.2 ⟨fun x hx=>?_,h⟩
   rcases List.mem_cons.1 hx with rfl | hx'
   ·exact hl
   ·exact ltS_trans hl (h'.1 x hx')
  ·rw[if_neg hl]
   refine List.pairwise_cons.2 ⟨fun x hx=>?_,putS_sorted s r (fun e=>hn (List.mem_cons_of_mem _ e)) h'.2⟩
   rcases(mem_putS s x r).1 hx with rfl | hx'
   ·exact(ltS_tri (fun e=>hn (by rw[e];exact List.mem_cons_self ..))).resolve_left hl
   ·exact h'.1 x hx'
theorem insR_spec (l:List Sy) (s:Sy) (h:l.Pairwise ltS):(insR l s).Pairwise ltS∧∀ x,x∈insR l s↔x∈l∨x=s:=by
 unfold insR
 by_cases hm:s∈l
 ·rw[if_pos hm]
  exact⟨h,fun x=>⟨.inl,fun e=>e.elim id (fun e=>by rw[e];exact hm)⟩⟩
 ·rw[if_neg hm]
  exact⟨putS_sorted s l hm h,fun x=>by rw[mem_putS];exact Or.comm⟩
theorem fold_ins:∀ (l acc:List Sy),acc.Pairwise ltS→(l.foldl insR acc).Pairwise ltS∧∀ x,x∈l.foldl insR acc↔x∈acc∨x∈l
 | [],acc,h=>⟨h,fun x=>by simp⟩
 | s :: l,acc,h=>by
  obtain⟨h1,h2⟩:=insR_spec acc s h
  obtain⟨h3,h4⟩:=fold_ins l (insR acc s) h1
  exact⟨h3,fun x=>by rw[List.foldl_cons,h4,h2,List.mem_cons,or_assoc]⟩
theorem fold_uniq (l:List Sy):l.foldl insR []=uniq (ms l):=by
 obtain⟨h1,h2⟩:=fold_ins l [] List.Pairwise.nil
 obtain⟨h3,h4⟩:=uniq_spec l
 exact sorted_ext _ _ h1 h3 fun x=>by rw[h2,h4];simp
theorem insR_len (l:List Sy) (s:Sy):(insR l s).length≤l.length+1:=by
 unfold insR
 by_cases hm:s∈l
 ·rw[if_pos hm];omega
 ·rw[if_neg hm]
  clear hm
  induction l with
  | nil=>simp[putS]
  | cons y r ih=>unfold putS;by_cases h:ltS s y<;>simp[h]<;>omega
end Go.Proofs.YtngdieldgnlogaaGreatDoor
namespace Go.Proofs.YtngdieldgnlogaaGreatDoor
open Go Go.RowKit
set_option maxRecDepth 100000
set_option linter.unusedVariables false
def InsC:Prop:=∀ (l:List Sy) (s:ByteArray) (x:Int) (v:Value) (V:World),l.Pairwise ltS→SySl V l v→l.length≤1000000 →
 Calls Tryz.prog 79 #[v,.agg #[.string s,.int .i64 x]] V fun e w'=>(∃ v',e=.returned v'∧SySl w' (insR l (s,x)) v')∧Below V.heap.size V w'
noncomputable def insL (l:List Sy):List Sy:=l.foldl insR []
theorem insL_len (l:List Sy):(insL l).length≤l.length:=by
 suffices h:∀ (l acc:List Sy),(l.foldl insR acc).length≤acc.length+l.length by have:=h l [];simpa[insL] using this
 intro l
 induction l with
 | nil=>intro acc;simp
 | cons s r ih=>intro acc;have:=ih (insR acc s);have:=insR_len acc s;simp only[List.foldl_cons,List.length_cons];omega
theorem insL_sorted (l:List Sy):(insL l).Pairwise ltS:=(fold_ins l [] List.Pairwise.nil).1
theorem insL_snoc (l:List Sy) (s:Sy):insL (l ++ [s])=insR (insL l) s:=by simp[insL,List.foldl_append]
theorem syms_len:∀ (l:List FT),(l.flatMap symP).length≤l.length
 | []=>Nat.le_refl _
 | p :: r=>by
  have:=syms_len r
  simp only[List.flatMap_cons,List.length_append,List.length_cons]
  have h1:(symP p).length≤1:=by unfold symP;split<;>simp
  omega
set_option maxHeartbeats 4000000 in
theorem refPreds_any (HI:InsC) (f:FT) (v:Value) (w:World) (hv:FVal w f v) (hs:f.size≤1000000) :
    Calls Tryz.prog 30 #[v] w fun e w'=>(∃ s,e=.returned s∧SySl w' (insL (f.parts.flatMap symP)) s)∧Below w.heap.size w w':=by
  have hvh:=h_X hv
  obtain⟨sa,ss,rfl,ha,hss⟩:=id hv
  obtain⟨pa,ca,rfl,-⟩:=id ha
  obtain⟨p,c,rfl,-⟩:=id hss
  have hll2:=f.sub.len_le
  have hlp:=f.sub.length_parts_le
  have ez:f.size=f.ts.size+f.sub.size+1:=rfl
  have hpl:f.parts.length=f.sub.parts.length+1:=rfl
  have hst:=FS.start (t:=25) hv
  obtain⟨W1,hW1⟩:∃ W1,w.alloc (.cells #[.int .u8 f.op,.string f.n,.slice pa f.ts.len ca,.slice p f.sub.len c] 25)=W1:=⟨_,rfl⟩
  rw[hW1] at hst
  obtain⟨g,hg⟩:∃ g,w.heap.size=g:=⟨_,rfl⟩
  have hgh:=h_X hg
  have hsz1:w.heap.size≤W1.heap.size:=hst.2.2.2.2.1.size
  have hb1h:=h_X hst.2.2.2.2.1
  rw[hg] at hst
  have k1h:=h_X hst
  have HF:=h_X (refForms_any f.size f w _ W1 (Nat.le_refl _) hv (Ext.of_below hb1h.out) hs)
  have HIh:=h_X HI
  clear hst hv ha hss HI
  go_enter Tryz.func30,Tryz.ntmps30
  obtain⟨c0,c1,c2,c3,-⟩:=k1h.out
  go_wp2_with fail
  clear hg
  refine HF.out.mono ?_
  rintro e WF ⟨⟨s,l,rfl,hown,hVS⟩,hb3⟩
  clear c0 c1 c2 c3 HF k1h hW1
  have hbF:=h_X (bS hb1h.out hb3)
  obtain⟨n,hn⟩:∃ n,f.parts.length=n:=⟨_,rfl⟩
  rw[hn] at hown
  obtain⟨g2,cap2,rfl⟩:∃ g2 cap2,s=.slice (some ⟨g2,0,none⟩) n cap2:=by
    obtain⟨-,⟨-,h0⟩ | ⟨g,cap,cur,hv,-⟩⟩:=id hown
    · omega
    · exact⟨g,cap,hv⟩
  have hC:=h_X (fun i (h:i < f.parts.length)=>hVS.cell i h hown)
  clear hown hVS hb3
  go_wp2_with fail
  go_loopw [3,5] (fun out i wr=>∃ (k:Nat),i=.int .i64 (k:Int)∧k≤n∧SySl wr (insL ((f.parts.take k).flatMap symP)) out∧Below WF.heap.size WF wr) (fun _ i _=>n - (intOf i).toNat)
  case atStart=>exact⟨0,rfl,by omega,⟨none,0,rfl,.inl rfl⟩,Below.refl _ _⟩
  case round =>
    obtain⟨k,rfl,hkn,hsl,hbw⟩:=hrel
    have hbwh:=h_X hbw
    by_cases hk:k < n
    rotate_left
    · obtain rfl:k=n:=by omega
      have hlt:¬ (k:Int) < (k:Int):=by omega
      have htk:f.parts.take k=f.parts:=List.take_of_length_le (by omega)
      rw[htk] at hsl
      have hfin:=h_X (show SySl wr (insL (f.parts.flatMap symP)) u3∧Below w.heap.size w wr from ⟨hsl,bS hbF.out hbw⟩)
      clear hsl hbw htk hC
      go_wp2_with fail
      go_ret
      exact⟨⟨_,rfl,hfin.out.1⟩,hfin.out.2⟩
    · have hki:(k:Int) < (n:Int):=by omega
      have hk0:(0:Int)≤(k:Int):=by omega
      have hkl:k < f.parts.length:=by omega
      have hslh:=h_X hsl
      have hw3:IntKind.i64.wrap ((k:Int)+1)=(k:Int)+1:=IntWalk.i64_in _ (by omega)
      have etk:(f.parts.take (k+1)).flatMap symP=(f.parts.take k).flatMap symP ++ symP f.parts[k]:=by
        have e:f.parts.take (k+1)=f.parts.take k ++ [f.parts[k]]:=by simp
        rw[e,List.flatMap_append];simp
      obtain⟨p1,n1,c1,p2,c2,hvk,d0,d1,d2,d3⟩:=hC.out k hkl
      replace d0:=c_B hbw d0
      replace d1:=c_B hbw d1
      replace d2:=c_B hbw d2
      obtain rfl:n1=f.parts[k].ts.len:=by
        obtain⟨sa,ss,he,⟨_,_,e1,-⟩,-⟩:=hvk
        simp at he
        rw[←he.1] at e1
        simp at e1
        exact e1.2.1
      by_cases ho:f.parts[k].op=1
      rotate_left
      · have ho':(f.parts[k].op == 1)=false:=by rw[beq_eq_false_iff_ne];exact ho
        have hfin:=h_X (show SySl wr (insL ((f.parts.take (k+1)).flatMap symP)) u3 from by rw[etk,show symP f.parts[k]=[] from if_neg ho,List.append_nil];exact hsl)
        clear ho hsl etk hbw
        go_wp2_with fail
        go_roundw
        case rel=>exact⟨k+1,by congr 1,by omega,hfin.out,hbwh.out⟩
        case measure=>simp[intOf];omega
      · have ho':(f.parts[k].op == 1)=true:=by rw[beq_iff_eq];exact ho
        have hins:Hid (insL ((f.parts.take (k+1)).flatMap symP)=insR (insL ((f.parts.take k).flatMap symP)) (f.parts[k].n,(f.parts[k].ts.len:Int))):=h_X (by rw[etk,show symP f.parts[k]=[(f.parts[k].n,(f.parts[k].ts.len:Int))] from if_pos ho,insL_snoc])
        have hlen:(insL ((f.parts.take k).flatMap symP)).length≤1000000:=by
          have h1:=insL_len ((f.parts.take k).flatMap symP)
          have h2:=syms_len (f.parts.take k)
          have h3:(f.parts.take k).length≤k:=by simp;omega
          omega
        have hsrt:=insL_sorted ((f.parts.take k).flatMap symP)
        have z1:=d1
        have z2:=d2
        have HS:=h_X (fun V (hV:V.cell? ⟨g2,k*4+1,none⟩=some (.string f.parts[k].n)∧V.cell? ⟨g2,k*4+2,none⟩=some (.slice p1 f.parts[k].ts.len c1)∧Below wr.heap.size wr V)=>show Calls Tryz.prog 79 #[u3,.agg #[.string f.parts[k].n,.int .i64 (f.parts[k].ts.len:Int)]] V fun e w'=>(∃ v',e=.returned v'∧SySl w' (insR (insL ((f.parts.take k).flatMap symP)) (f.parts[k].n,(f.parts[k].ts.len:Int))) v')∧(w'.cell? ⟨g2,k*4+1,none⟩=some (.string f.parts[k].n)∧w'.cell? ⟨g2,k*4+2,none⟩=some (.slice p1 f.parts[k].ts.len c1)∧Below wr.heap.size wr w') from
          (HIh.out _ _ _ u3 V hsrt (SySl.below hV.2.2 hsl) hlen).mono fun e w' he=>⟨he.1,c_B (bS hV.2.2 he.2) z1,c_B (bS hV.2.2 he.2) z2,bS hV.2.2 he.2⟩)
        clear ho hsl etk hbw hsrt hlen z1 z2 hvk hslh
        go_wp2_with fail
        go_region_held3 (fun V:World=>V.cell? ⟨g2,k*4+1,none⟩=some (.string f.parts[k].n)∧V.cell? ⟨g2,k*4+2,none⟩=some (.slice p1 f.parts[k].ts.len c1)∧Below wr.heap.size wr V) (first | assumption | exact⟨d1,d2,bel_drew wr⟩)
          (first
            | (go_at_call 79;refine(HS.out _ (by assumption)).mono ?_;rintro e w' ⟨⟨v',rfl,hv'⟩,hSS⟩))
        have hfin:=h_X (show SySl w' (insL ((f.parts.take (k+1)).flatMap symP)) v'∧Below WF.heap.size WF w' from ⟨by rw[hins.out];exact hv',bS hbwh.out hSS.2.2⟩)
        clear HS hSS hv' d0 d1 d2 d3 hins
        go_wp2_with fail
        go_roundw
        case rel=>exact⟨k+1,by congr 1,by omega,hfin.out.1,hfin.out.2⟩
        case measure=>simp[intOf];omega
end Go.Proofs.YtngdieldgnlogaaGreatDoor
namespace Go.Proofs.YtngdieldgnlogaaGreatDoor
open Go Go.RowKit
set_option maxRecDepth 100000
set_option linter.unusedVariables false
theorem foldI_len (l acc:List Sy):(l.foldl insR acc).length≤acc.length+l.length:=by
 induction l generalizing acc with
 | nil=>simp
 | cons s r ih=>have:=ih (insR acc s);have:=insR_len acc s;simp only[List.foldl_cons,List.length_cons];omega
theorem symsT_len (ts:Ts):(ts.terms.flatMap symT).length≤ts.size:=by
 have:=symT_len ts.terms
 rw[ts.length_terms] at this
 exact this
def RFuns (N:Nat):Prop:=∀ (ts:Ts) (l:List Sy) (v sa:Value) (w:World),ts.size≤N→TSl w ts sa→SySl w l v→l.Pairwise ltS→l.length+ts.size≤1000000 →
 Calls Tryz.prog 80 #[v,sa] w fun e w'=>(∃ v',e=.returned v'∧SySl w' ((ts.terms.flatMap symT).foldl insR l) v')∧Below w.heap.size w w'
set_option maxHeartbeats 4000000 in
theorem refFuns_any (HI:InsC) (N:Nat):RFuns N:=by
  induction N using Nat.strongRecOn with
  | _ N ih =>
  intro ts l v sa w hN hts hsl hsrt hs
  have ihh:=h_X ih
  have HIh:=h_X HI
  obtain⟨p,c,b,o,rfl,hp,ht⟩:=TSl.opened hts
  have hll:=ts.len_le
  have hth:=h_X ht
  have hslh:=h_X hsl
  have hsrth:=h_X hsrt
  obtain⟨fin,hf⟩:∃ fin,(ts.terms.flatMap symT).foldl insR l=fin:=⟨_,rfl⟩
  rw[hf]
  have hfh:=h_X hf
  clear ih hts HI ht hsl hsrt hf
  go_enter Tryz.func80,Tryz.ntmps80
  go_wp2_with fail
  go_loopw [0,5] (fun out i wr=>∃ (k:Nat) (r:Ts) (acc:List Sy),i=.int .i64 (k:Int)∧k+r.len=ts.len∧r.size≤ts.size∧acc.length+r.size≤1000000∧acc.Pairwise ltS∧(r.terms.flatMap symT).foldl insR acc=fin∧SySl wr acc out∧TsAt wr r b (o+k*3)∧Below w.heap.size w wr) (fun _ i _=>ts.len - (intOf i).toNat)
  case atStart=>exact⟨0,ts,l,rfl,by omega,Nat.le_refl _,hs,hsrth.out,hfh.out,hslh.out,by simpa using hth.out,Below.refl _ _⟩
  case round =>
    obtain⟨k,r,acc,rfl,hk,hrz,hal,hsr,hfold,hsl,hat,hbw⟩:=hrel
    have hbwh:=h_X hbw
    cases r with
    | nil =>
      simp only[Ts.len,Nat.add_zero] at hk
      subst hk
      have hfin:=h_X (show SySl wr fin u0 from by rw[←hfold];exact hsl)
      clear hsl hfold hsr hat hrz hal hbw
      go_wp2_with fail
      go_ret
      exact⟨⟨_,rfl,hfin.out⟩,hbwh.out⟩
    | cons tv nm us r =>
      simp only[Ts.len,Ts.size] at hk hrz hal
      have hkl:(k:Int) < (ts.len:Int):=by omega
      have hk0:(0:Int)≤(k:Int):=by omega
      obtain rfl:=hp.resolve_left (by omega)
      obtain⟨d0,d1,⟨s,d2,hus⟩,hrest⟩:=hat
      obtain⟨ps,cs,rfl,-⟩:=id hus
      have hw3:IntKind.i64.wrap ((k:Int)+1)=(k:Int)+1:=IntWalk.i64_in _ (by omega)
      have hush:=h_X hus
      have hresth:=h_X hrest
      obtain⟨acc1,hacc1⟩:∃ acc1,(symT ⟨tv,nm,us⟩).foldl insR acc=acc1:=⟨_,rfl⟩
      have hf2:((us.terms.flatMap symT) ++ (r.terms.flatMap symT)).foldl insR acc1=fin:=by
        rw[←hacc1,←hfold]
        simp only[Ts.terms,List.flatMap_cons,List.flatMap_append,List.foldl_append]
      obtain⟨acc2,hacc2⟩:∃ acc2,(us.terms.flatMap symT).foldl insR acc1=acc2:=⟨_,rfl⟩
      rw[List.foldl_append,hacc2] at hf2
      have hs1:acc1.Pairwise ltS∧acc1.length≤acc.length+1:=by
        rw[←hacc1]
        refine⟨(fold_ins _ acc hsr).1,Nat.le_trans (foldI_len _ _) ?_⟩
        have:(symT ⟨tv,nm,us⟩).length≤1:=by unfold symT;split<;>simp
        omega
      have hs2:acc2.Pairwise ltS∧acc2.length≤acc1.length+us.size:=by
        rw[←hacc2]
        exact⟨(fold_ins _ acc1 hs1.1).1,Nat.le_trans (foldI_len _ _) (by have:=symsT_len us;omega)⟩
      have hs1h:=h_X hs1
      have hs2h:=h_X hs2
      have hf2h:=h_X hf2
      have HC:=h_X (fun V (hb:Below wr.heap.size wr V) (v1:Value) (h1:SySl V acc1 v1)=>(by
        have:=ihh.out us.size (by omega) us acc1 v1 (.slice ps us.len cs) V (Nat.le_refl _) (TSl.below hb hus) h1 hs1.1 (by omega)
        rw[hacc2] at this
        exact this:Calls Tryz.prog 80 #[v1,.slice ps us.len cs] V fun e w'=>(∃ v',e=.returned v'∧SySl w' acc2 v')∧Below V.heap.size V w'))
      have hz1:acc2.length+r.size≤1000000:=by omega
      clear hfold hf2 hs1 hs2 hacc2 hus hrest hbw ihh
      cases tv with
      | true =>
        have hac:acc=acc1:=by rw[←hacc1];rfl
        subst hac
        have hslh:=h_X hsl
        clear hsl hsr hacc1
        go_wp2_with fail
        refine(HC.out wr (Below.refl _ _) _ hslh.out).mono ?_
        rintro e w9 ⟨⟨v9,rfl,hv9⟩,hb9⟩
        have hbl:=h_X (bS (Below.refl _ _) hb9)
        have hv9h:=h_X hv9
        have hr9:=h_X (TsAt.below (bS (Below.refl _ _) hb9) hresth.out)
        clear HC hv9 hb9 d0 d1 d2
        go_wp2_with fail
        go_roundw
        case rel=>exact⟨k+1,r,acc2,by congr 1,by omega,by omega,hz1,hs2h.out.1,hf2h.out,hv9h.out,by have:=hr9.out;rwa [show o+(k+1)*3=o+k*3+3 by omega],bS hbwh.out hbl.out⟩
        case measure=>simp[intOf];omega
      | false =>
        have hac:insR acc (nm,(us.len:Int))=acc1:=by rw[←hacc1];rfl
        have z1:=d1
        have z2:=d2
        have HS:=h_X (fun V (hV:V.cell? ⟨b,o+k*3+1,none⟩=some (.string nm)∧V.cell? ⟨b,o+k*3+2,none⟩=some (.slice ps us.len cs)∧Below wr.heap.size wr V)=>show Calls Tryz.prog 79 #[u0,.agg #[.string nm,.int .i64 (us.len:Int)]] V fun e w'=>(∃ v',e=.returned v'∧SySl w' acc1 v')∧(w'.cell? ⟨b,o+k*3+1,none⟩=some (.string nm)∧w'.cell? ⟨b,o+k*3+2,none⟩=some (.slice ps us.len cs)∧Below wr.heap.size wr w') from
          (HIh.out acc nm us.len u0 V hsr (SySl.below hV.2.2 hsl) (by omega)).mono fun e w' he=>⟨by rw[←hac];exact he.1,c_B (bS hV.2.2 he.2) z1,c_B (bS hV.2.2 he.2) z2,bS hV.2.2 he.2⟩)
        clear hsl hsr hacc1 hac z1 z2
        go_wp2_with fail
        go_region_held3 (fun V:World=>V.cell? ⟨b,o+k*3+1,none⟩=some (.string nm)∧V.cell? ⟨b,o+k*3+2,none⟩=some (.slice ps us.len cs)∧Below wr.heap.size wr V) (first | assumption | exact⟨d1,d2,bel_drew wr⟩)
          (first
            | (go_at_call 79;refine(HS.out _ (by assumption)).mono ?_;rintro e w' ⟨⟨v',rfl,hv'⟩,hSS⟩))
        obtain⟨f1,f2,hbS⟩:=hSS
        have hbSh:=h_X hbS
        have hvh:=h_X hv'
        clear HS hv' hbS d0 d1 d2
        go_wp2_with fail
        refine(HC.out w' hbSh.out _ hvh.out).mono ?_
        rintro e w9 ⟨⟨v9,rfl,hv9⟩,hb9⟩
        have hbl:=h_X (bS hbSh.out hb9)
        have hv9h:=h_X hv9
        have hr9:=h_X (TsAt.below (bS hbSh.out hb9) hresth.out)
        clear HC hv9 hb9 f1 f2
        go_wp2_with fail
        go_roundw
        case rel=>exact⟨k+1,r,acc2,by congr 1,by omega,by omega,hz1,hs2h.out.1,hf2h.out,hv9h.out,by have:=hr9.out;rwa [show o+(k+1)*3=o+k*3+3 by omega],bS hbwh.out hbl.out⟩
        case measure=>simp[intOf];omega
end Go.Proofs.YtngdieldgnlogaaGreatDoor
namespace Go.Proofs.YtngdieldgnlogaaGreatDoor
open Go Go.RowKit
set_option maxRecDepth 100000
set_option linter.unusedVariables false
def symQ (f:FT):List Sy:=f.ts.terms.flatMap symT
theorem symQ_len:∀ (l:List FT) (p:FT),(l.flatMap symQ).length≤(l.map fun p=>p.ts.size).sum
 | [],_=>by simp
 | q :: r,p=>by
  have:=symQ_len r p
  have h1:(symQ q).length≤q.ts.size:=symsT_len q.ts
  simp only[List.flatMap_cons,List.length_append,List.map_cons,List.sum_cons]
  omega
theorem sum_take (l:List FT) (k:Nat) (h:k < l.length):((l.take k).map fun p=>p.ts.size).sum+l[k].ts.size≤(l.map fun p=>p.ts.size).sum:=by
 induction l generalizing k with
 | nil=>simp at h
 | cons q r ih =>
  cases k with
  | zero=>simp
  | succ k=>have:=ih k (by simpa using h);simp only[List.take_succ_cons,List.map_cons,List.sum_cons,List.getElem_cons_succ];omega
theorem sum_len:∀ l:List FT,(l.flatMap fun p=>p.ts.terms).length=(l.map fun p=>p.ts.size).sum
 | []=>rfl
 | q :: r=>by simp only[List.flatMap_cons,List.length_append,List.map_cons,List.sum_cons,Ts.length_terms,sum_len r]
theorem sum_parts (f:FT):(f.parts.map fun p=>p.ts.size).sum≤f.size:=by
 have h:=f.length_all
 rw[FT.terms,sum_len] at h
 omega
theorem TSl.ext {w W:World} (hb:Ext w W) {t:Ts} {v:Value} (h:TSl w t v):TSl W t v:=h.imp fun _ _ h=>TsAt.ext hb h
set_option maxHeartbeats 4000000 in
theorem refFunctions_any (HI:InsC) (f:FT) (v:Value) (w:World) (hv:FVal w f v) (hs:f.size≤1000000) :
  Calls Tryz.prog 32 #[v] w fun e w'=>(∃ s,e=.returned s∧SySl w' (insL (f.terms.flatMap symT)) s)∧Below w.heap.size w w':=by
 have hvh:=h_X hv
 obtain⟨sa,ss,rfl,ha,hss⟩:=id hv
 obtain⟨pa,ca,rfl,-⟩:=id ha
 obtain⟨p,c,rfl,-⟩:=id hss
 have hll2:=f.sub.len_le
 have hlp:=f.sub.length_parts_le
 have ez:f.size=f.ts.size+f.sub.size+1:=rfl
 have hpl:f.parts.length=f.sub.parts.length+1:=rfl
 have hst:=FS.start (t:=25) hv
 obtain⟨W1,hW1⟩:∃ W1,w.alloc (.cells #[.int .u8 f.op,.string f.n,.slice pa f.ts.len ca,.slice p f.sub.len c] 25)=W1:=⟨_,rfl⟩
 rw[hW1] at hst
 obtain⟨g,hg⟩:∃ g,w.heap.size=g:=⟨_,rfl⟩
 have hgh:=h_X hg
 have hsz1:w.heap.size≤W1.heap.size:=hst.2.2.2.2.1.size
 have hb1h:=h_X hst.2.2.2.2.1
 rw[hg] at hst
 have k1h:=h_X hst
 have HF:=h_X (refForms_any f.size f w _ W1 (Nat.le_refl _) hv (Ext.of_below hb1h.out) hs)
 have HIh:=h_X HI
 clear hst hv ha hss HI
 go_enter Tryz.func32,Tryz.ntmps32
 obtain⟨c0,c1,c2,c3,-⟩:=k1h.out
 go_wp2_with fail
 clear hg
 refine HF.out.mono ?_
 rintro e WF ⟨⟨s,l,rfl,hown,hVS⟩,hb3⟩
 clear c0 c1 c2 c3 HF k1h hW1
 have hbF:=h_X (bS hb1h.out hb3)
 obtain⟨n,hn⟩:∃ n,f.parts.length=n:=⟨_,rfl⟩
 rw[hn] at hown
 obtain⟨g2,cap2,rfl⟩:∃ g2 cap2,s=.slice (some ⟨g2,0,none⟩) n cap2:=by
  obtain⟨-,⟨-,h0⟩ | ⟨g,cap,cur,hv,-⟩⟩:=id hown
  ·omega
  ·exact⟨g,cap,hv⟩
 have hC:=h_X (fun i (h:i < f.parts.length)=>hVS.cell i h hown)
 clear hown hVS hb3
 go_wp2_with fail
 go_loopw [3,5] (fun out i wr=>∃ (k:Nat),i=.int .i64 (k:Int)∧k≤n∧SySl wr (insL ((f.parts.take k).flatMap symQ)) out∧Below WF.heap.size WF wr) (fun _ i _=>n - (intOf i).toNat)
 case atStart=>exact⟨0,rfl,by omega,⟨none,0,rfl,.inl rfl⟩,Below.refl _ _⟩
 case round =>
  obtain⟨k,rfl,hkn,hsl,hbw⟩:=hrel
  have hbwh:=h_X hbw
  by_cases hk:k < n
  rotate_left
  ·obtain rfl:k=n:=by omega
   have hlt:¬ (k:Int) < (k:Int):=by omega
   have htk:f.parts.take k=f.parts:=List.take_of_length_le (by omega)
   rw[htk] at hsl
   have eQ:f.parts.flatMap symQ=f.terms.flatMap symT:=by rw[FT.terms,List.flatMap_assoc];rfl
   rw[eQ] at hsl
   have hfin:=h_X (show SySl wr (insL (f.terms.flatMap symT)) u3∧Below w.heap.size w wr from ⟨hsl,bS hbF.out hbw⟩)
   clear hsl hbw htk hC eQ
   go_wp2_with fail
   go_ret
   exact⟨⟨_,rfl,hfin.out.1⟩,hfin.out.2⟩
  ·have hki:(k:Int) < (n:Int):=by omega
   have hk0:(0:Int)≤(k:Int):=by omega
   have hkl:k < f.parts.length:=by omega
   have hslh:=h_X hsl
   have hw3:IntKind.i64.wrap ((k:Int)+1)=(k:Int)+1:=IntWalk.i64_in _ (by omega)
   have etk:(f.parts.take (k+1)).flatMap symQ=(f.parts.take k).flatMap symQ ++ symQ f.parts[k]:=by
    have e:f.parts.take (k+1)=f.parts.take k ++ [f.parts[k]]:=by simp
    rw[e,List.flatMap_append];simp
   obtain⟨p1,n1,c1,p2,c2,hvk,d0,d1,d2,d3⟩:=hC.out k hkl
   replace d2:=c_B hbw d2
   have hts:TSl w f.parts[k].ts (.slice p1 n1 c1):=by
    obtain⟨sa,ss,he,h1,-⟩:=hvk
    simp at he
    rw[he.1]
    exact h1
   have hins:Hid ((f.parts[k].ts.terms.flatMap symT).foldl insR (insL ((f.parts.take k).flatMap symQ))=insL ((f.parts.take (k+1)).flatMap symQ)):=h_X (by rw[etk];simp[insL,List.foldl_append,symQ])
   have hlen:=insL_len ((f.parts.take k).flatMap symQ)
   have hlq:=symQ_len (f.parts.take k) f.parts[k]
   have hlt9:((f.parts.take k).map fun p=>p.ts.size).sum+f.parts[k].ts.size≤1000000:=by
    have h1:=sum_take f.parts k hkl
    have h2:=sum_parts f
    omega
   have HC:=h_X (refFuns_any HIh.out f.parts[k].ts.size f.parts[k].ts (insL ((f.parts.take k).flatMap symQ)) u3 (.slice p1 n1 c1) wr (Nat.le_refl _) (TSl.ext (Ext.of_below (bS hbF.out hbw)) hts) hsl (insL_sorted _) (by omega))
   clear hsl etk hbw hlen hlq hlt9 hvk hts hslh
   go_wp2_with fail
   refine HC.out.mono ?_
   rintro e w9 ⟨⟨v9,rfl,hv9⟩,hb9⟩
   have hfin:=h_X (show SySl w9 (insL ((f.parts.take (k+1)).flatMap symQ)) v9∧Below WF.heap.size WF w9 from ⟨by rw[←hins.out];exact hv9,bS hbwh.out hb9⟩)
   clear HC hv9 hb9 d0 d1 d2 d3 hins
   go_wp2_with fail
   go_roundw
   case rel=>exact⟨k+1,by congr 1,by omega,hfin.out.1,hfin.out.2⟩
   case measure=>simp[intOf];omega
end Go.Proofs.YtngdieldgnlogaaGreatDoor
namespace Go.Proofs.YtngdieldgnlogaaGreatDoor
open Go Go.RowKit
set_option maxRecDepth 100000
set_option linter.unusedVariables false
theorem putS_none (s:Sy) (r:List Sy):∀ pre:List Sy,(∀ y∈pre,¬ ltS s y)→putS s (pre ++ r)=pre ++ putS s r
 | [],_=>rfl
 | y :: pre,h=>by
  rw[List.cons_append,putS,if_neg (h y (List.mem_cons_self ..)),putS_none s r pre fun z hz=>h z (List.mem_cons_of_mem _ hz)]
  rfl
theorem putS_some (s:Sy) (r:List Sy):∀ pre:List Sy,(∃ y∈pre,ltS s y)→putS s (pre ++ r)=putS s pre ++ r
 | [],h=>by obtain⟨y,hy,-⟩:=h;cases hy
 | y :: pre,h=>by
  rw[List.cons_append,putS,putS]
  by_cases hl:ltS s y
  ·rw[if_pos hl,if_pos hl];rfl
  ·rw[if_neg hl,if_neg hl]
   obtain⟨z,hz,hlz⟩:=h
   rcases List.mem_cons.1 hz with rfl | hz'
   ·exact(hl hlz).elim
   ·rw[putS_some s r pre ⟨z,hz',hlz⟩];rfl
theorem putS_low (s y:Sy) (pre:List Sy) (hp:∀ z∈pre,¬ ltS s z) (hl:ltS s y):putS s (pre ++ [y])=pre ++ [s,y]:=by
 rw[putS_none s [y] pre hp,putS,if_pos hl]
theorem putS_end (s:Sy) (l:List Sy) (hp:∀ z∈l,¬ ltS s z):putS s l=l ++ [s]:=by
 have:=putS_none s [] l hp
 rw[List.append_nil] at this
 rw[this];rfl
theorem sy_of_row {W:World} {g:Nat}:∀ (l:List Sy) (o:Nat),(∀ j u,(flat l)[j]? = some u→W.cell? ⟨g,o+j,none⟩=some u)→SyAt W l g o
 | [],_,_=>trivial
 | (s,x) :: r,o,h=>by
  have h0:=h 0 (.string s) (by simp[flat])
  have h1:=h 1 (.int .i64 x) (by simp[flat])
  refine⟨h0,h1,sy_of_row r (o+2) fun j u hu=>?_⟩
  have:=h (j+2) u (by simpa[flat] using hu)
  rwa [show o+(j+2)=o+2+j by omega] at this
theorem SySl.of_row {W:World} {B cap g n:Nat} {e:TypeId} {l:List Sy} (hn:n=l.length) (h:W.ownsRow B e 2 (.slice (some ⟨g,0,none⟩) n cap) n (flat l)):SySl W l (.slice (some ⟨g,0,none⟩) n cap):=by
 subst hn
 refine⟨some ⟨g,0,none⟩,cap,rfl,.inr ⟨g,rfl,sy_of_row l 0 fun j u hu=>?_⟩⟩
 have:=h.cells (g:=g) rfl j u hu
 rw[Nat.zero_add]
 by_cases e:j=0
 ·subst e;simpa[Addr.add] using this
 ·simpa[Addr.add,e] using this
end Go.Proofs.YtngdieldgnlogaaGreatDoor
