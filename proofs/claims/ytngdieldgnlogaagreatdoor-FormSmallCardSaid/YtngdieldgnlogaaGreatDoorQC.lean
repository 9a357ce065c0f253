/- slices.Compact for any list of symbols, and so inOrder for any list. inOrder, for every list of symbols. -/
import Derived.Test.YtngdieldgnlogaaGreatDoorQZ
import Derived.Test.YtngdieldgnlogaaGreatDoorSP
import Derived.Test.YtngdieldgnlogaaGreatDoorME
import Derived.Shelf.SlSortCmp.NoneTotal
namespace Go.Proofs.YtngdieldgnlogaaGreatDoor
open Go Go.RowKit Go.Sort
set_option maxRecDepth 100000
set_option linter.unusedVariables false
def uniqA:Sy→List Sy→List Sy
 | _,[]=>[]
 | q,p :: r=>if p.1.toList=q.1.toList∧p.2=q.2 then uniqA p r else p :: uniqA p r
def uniq:List Sy→List Sy
 | []=>[]
 | q :: r=>q :: uniqA q r
theorem SyAt.app:∀ {d r:List Sy} {W:World} {b o:Nat},SyAt W d b o→SyAt W r b (o+d.length*2)→SyAt W (d ++ r) b o
 | [],_,_,_,_,_,h=>by simpa using h
 | (_,_) :: d,r,W,b,o,⟨h1,h2,h3⟩,h=>⟨h1,h2,SyAt.app h3 (by rw[show o+2+d.length*2=o+(d.length+1)*2 by omega];simpa using h)⟩
theorem SyAt.parts:∀ {d r:List Sy} {W:World} {b o:Nat},SyAt W (d ++ r) b o→SyAt W d b o∧SyAt W r b (o+d.length*2)
 | [],_,_,_,_,h=>⟨trivial,by simpa using h⟩
 | (_,_) :: d,r,W,b,o,⟨h1,h2,h3⟩=>by
  have h4:=SyAt.parts (d:=d) h3
  refine⟨⟨h1,h2,h4.1⟩,?_⟩
  rw[show o+((_,_) :: d:List Sy).length*2=o+2+d.length*2 by simp only[List.length_cons];omega]
  exact h4.2
theorem SyAt.off {g i:Nat} {v:Value}:∀ {d:List Sy} {W:World} {o:Nat},(i < o∨o+d.length*2≤i)→SyAt W d g o→SyAt (W.setCell ⟨g,i,none⟩ v) d g o
 | [],_,_,_,_=>trivial
 | (_,_) :: d,W,o,hi,⟨h1,h2,h3⟩=>by
  simp only[List.length_cons] at hi
  exact⟨by rw[set_off (.inr (by omega))];exact h1,by rw[set_off (.inr (by omega))];exact h2,SyAt.off (by omega) h3⟩
theorem SyAt.offs {g i:Nat} {vs:List Value}:∀ {d:List Sy} {W:World} {o:Nat},o+d.length*2≤i→SyAt W d g o→SyAt (W.setCells g i vs) d g o
 | [],_,_,_,_=>trivial
 | (_,_) :: d,W,o,hi,⟨h1,h2,h3⟩=>by
  simp only[List.length_cons] at hi
  exact⟨by rw[World.cell?_setCells_out _ _ _ _ _ (fun _ _=>.inl (show o < i by omega))];exact h1,by rw[World.cell?_setCells_out _ _ _ _ _ (fun _ _=>.inl (show o+1 < i by omega))];exact h2,SyAt.offs (by omega) h3⟩
def RoomS (W:World) (g m:Nat):Prop:=∀ j,j < m→∃ v,Wc W g j v
theorem RoomS.set {W:World} {g m i:Nat} {v:Value} (h:RoomS W g m):RoomS (W.setCell ⟨g,i,none⟩ v) g m:=fun j hj=>by
 obtain⟨u,hu⟩:=h j hj
 by_cases e:j=i
 ·subst e;exact⟨v,wc_on hu.1 hu.2⟩
 ·exact⟨u,wc_off (.inr e) hu⟩
theorem RoomS.below {W W':World} {g m:Nat} (hb:Below W.heap.size W W') (h:RoomS W g m):RoomS W' g m:=fun j hj=>(h j hj).imp fun _ hu=>hu.below hb
theorem grow_step {W V V':World} {g:Nat} (h:W.grownBy V (some g)) (hb:Below V.heap.size V V'):W.grownBy V' (some g) :=
 ⟨hb.os.trans h.os,hb.tape.trans h.tape,hb.output.trans h.output,Nat.le_trans h.size hb.size,fun k hk hn=>(hb.block k (Nat.lt_of_lt_of_le hk h.size)).trans (h.block k hk hn)⟩
theorem grow_set {W V:World} {g i:Nat} {v:Value} (h:W.grownBy V (some g)):W.grownBy (V.setCell ⟨g,i,none⟩ v) (some g) :=
 World.grownBy.trans h ⟨rfl,rfl,rfl,by simp[World.setCell],fun k _ hn=>Below.heap_setCell _ _ _ _ (fun e=>hn (by rw[e]))⟩
theorem grown_sets (g:Nat):∀ (vs:List Value) (o:Nat) (W:World),W.grownBy (W.setCells g o vs) (some g)
 | [],_,W=>World.grownBy.refl _ _
 | v :: vs,o,W=>World.grownBy.trans (grow_set (World.grownBy.refl _ _)) (grown_sets g vs (o+1) _)
theorem clear_sym (W:World) (g o n c:Nat) (hn:0 < n) (hr:∀ j,j < n*2→∃ v,Wc W g (o+j) v) :
    ∃ vs:List Value,∀ ty,(Builtin.clear_ #[40] ty #[.slice (some ⟨g,o,none⟩) n c]).run Tryz.prog W=.ok (.tuple #[]) (W.setCells g o vs):=by
  obtain⟨m,rfl⟩:∃ m,n=m+1:=⟨n - 1,by omega⟩
  have hz:∀ w,(zeroValue 56).run Tryz.prog w=.ok (.agg #[.string ⟨#[]⟩,.int .i64 0]) w:=fun w=>by simp[go_sem]
  have hcl:(Value.agg #[.string ⟨#[]⟩,.int .i64 0]).cells = #[.string ⟨#[]⟩,.int .i64 0]:=rfl
  have hlen:(Builtin.zeroCells #[Value.string ⟨#[]⟩,.int .i64 0] (m+1)).toList.length=(m+1)*2:=by simp[Builtin.zeroCells]
  have hst:=run_storeCells_cells (P:=Tryz.prog) g o (Builtin.zeroCells #[Value.string ⟨#[]⟩,.int .i64 0] (m+1)).toList 0 W
    (fun j hj=>by obtain⟨u,hu⟩:=hr j (by omega);rw[Nat.add_zero,hu.1];rfl) (fun j hj=>by obtain⟨u,hu⟩:=hr j (by omega);exact hu.2)
    (fun v hv=>by
      obtain⟨i,hi,e⟩:=List.mem_iff_getElem.1 hv
      simp[Builtin.zeroCells] at e
      rcases Nat.mod_two_eq_zero_or_one i with h | h<;>simp[h] at e<;>subst e<;>rfl)
  simp only[Nat.add_zero] at hst
  exact⟨(Builtin.zeroCells #[Value.string ⟨#[]⟩,.int .i64 0] (m+1)).toList,fun ty=>by simp[Builtin.clear_,run_underlying Tryz.underlying40,hz,hcl,hst]⟩
theorem clear_keep {W:World} {g o n c:Nat} {d:List Sy} (hn:0 < n) (hr:RoomS W g (o+n*2)) (hd:SyAt W d g 0) (ho:d.length*2≤o) :
  ∃ W',(∀ ty,(Builtin.clear_ #[40] ty #[.slice (some ⟨g,o,none⟩) n c]).run Tryz.prog W=.ok (.tuple #[]) W')∧SyAt W' d g 0∧W.grownBy W' (some g):=by
 obtain⟨vs,hrun⟩:=clear_sym W g o n c hn (fun j hj=>hr (o+j) (by omega))
 exact⟨_,hrun,SyAt.offs (by omega) hd,grown_sets g vs o W⟩
set_option maxHeartbeats 4000000 in
theorem compact_all (l:List Sy) (g cap:Nat) (w:World) (hsy:SyAt w l g 0) (hroom:RoomS w g (l.length*2)) (hn:l.length≤1000000) (hcap:l.length≤cap) :
  Calls Tryz.prog 113 #[.slice (some ⟨g,0,none⟩) l.length cap] w fun e w'=>e=.returned (.slice (some ⟨g,0,none⟩) (uniq l).length cap)∧SyAt w' (uniq l) g 0∧w.grownBy w' (some g):=by
 by_cases hl:l.length < 2
 ·have h1:(l.length:Int) < 2:=by omega
  have hu:uniq l=l:=by
   match l,hl with
   | [],_=>rfl
   | [_],_=>rfl
   | _ :: _ :: _,h=>simp only[List.length_cons] at h;omega
  have hfin:=h_X hsy
  clear hsy hroom
  rw[hu]
  go_enter Tryz.func113,Tryz.ntmps113
  go_wp2
  go_ret
  exact⟨rfl,hfin.out,World.grownBy.refl _ _⟩
 have h1:¬ (l.length:Int) < 2:=by omega
 have hsyh:=h_X hsy
 have hroomh:=h_X hroom
 clear hsy hroom
 go_enter Tryz.func113,Tryz.ntmps113
 go_wp2
 clear h1
 go_loopw [3] (fun i wr=>∃ (pre:List Sy) (q:Sy) (r:List Sy),i=.int .i64 ((pre.length+1:Nat):Int)∧l=pre ++ q :: r∧SyAt wr (q :: r) g (pre.length*2)∧uniq l=pre ++ q :: uniqA q r∧Below w.heap.size w wr) (fun i _=>l.length - (intOf i).toNat)
 case atStart =>
  cases l with
  | nil=>simp at hl
  | cons q r=>exact⟨[],q,r,rfl,rfl,by simpa using hsyh.out,rfl,Below.refl _ _⟩
 case round =>
  obtain⟨pre,⟨s,x⟩,r,rfl,hlr,hat,hun,hbw⟩:=hrel
  have hll:l.length=pre.length+1+r.length:=by rw[hlr];simp;omega
  have hbwh:=h_X hbw
  have hunh:=h_X hun
  have hlrh:=h_X hlr
  obtain⟨k,hk⟩:∃ k,pre.length=k:=⟨_,rfl⟩
  have hkh:=h_X hk
  rw[hk] at hat hll ⊢
  clear hbw hun hlr hk
  cases r with
  | nil =>
   have hk':k+1=l.length:=by simpa using hll.symm
   have hfin:Hid (SyAt wr (uniq l) g 0∧uniq l=l):=h_X (by
    have e:uniq l=l:=by rw[hunh.out,hlrh.out];rfl
    rw[e]
    exact⟨SyAt.below hbwh.out hsyh.out,rfl⟩)
   have hfin2:Hid (w.grownBy wr (some g)):=h_X (grow_step (World.grownBy.refl _ _) hbwh.out)
   rw[hk']
   clear hat hll hk'
   go_wp2
   go_ret
   refine⟨?_,hfin.out.1,hfin2.out⟩
   rw[hfin.out.2]
   rfl
  | cons q2 r' =>
   obtain⟨t,y⟩:=q2
   have hlt:((k+1:Nat):Int) < (l.length:Int):=by simp only[List.length_cons] at hll;omega
   have hat2:=h_X hat.2.2
   obtain⟨c0,c1,d0,d1,-⟩:=hat
   rw[show k*2+2=(k+1)*2 by omega] at d0 d1
   have hk0:(0:Int)≤((k+1:Nat):Int) - 1:=by omega
   have hk1:((k+1:Nat):Int) - 1 < (l.length:Int):=by omega
   have hk2:(((k+1:Nat):Int) - 1).toNat=k:=by omega
   have hfin2:∀ n,Hid (Below w.heap.size w (wr.drewN n)):=fun n=>h_X (bS hbwh.out (bel_drewN' wr n))
   have hat3:∀ n,SyAt (wr.drewN n) ((t,y) :: r') g ((k+1)*2):=fun n=>(by
    have:=SyAt.below (bel_drewN' wr n) hat2.out
    rwa [show (k+1)*2=k*2+2 by omega])
   replace hat3:=h_X hat3
   by_cases e1:t.toList=s.toList
   ·by_cases e2:y=x
    ·subst e2
     have hS:=h_X (show SyAt wr (pre ++ [(s,y)]) g 0 from SyAt.app (d:=pre) (by
      have:=SyAt.below hbwh.out hsyh.out
      rw[hlrh.out] at this
      exact(SyAt.parts this).1) (by rw[hkh.out,Nat.zero_add];exact⟨c0,c1,trivial⟩))
     have hR:=h_X (hroomh.out.below hbwh.out)
     have hU:uniq l=(pre ++ [(s,y)]) ++ uniqA (t,y) r':=by rw[hunh.out];simp[uniqA,e1]
     have hUh:=h_X hU
     have hg0:=h_X (grow_step (World.grownBy.refl w (some g)) hbwh.out)
     clear hU
     go_wp2
     go_quiet (fail)
     go_wp2
     obtain⟨m,hm⟩:∃ m,r'.length+1=m:=⟨_,rfl⟩
     obtain⟨K,hK⟩:∃ K,k+1=K:=⟨_,rfl⟩
     have hsum:=h_X (show K+m=l.length by simp only[List.length_cons] at hll;omega)
     have hKk:=h_X hK
     have hmr:=h_X hm
     rw[hm,hK]
     have hKc:K≤cap:=by have:=hsum.out;omega
     have hat4:=h_X (fun n=>SyAt.below (bel_drewN' wr n) (hat3.out 0))
     clear hm hK hlt hat2 c0 c1 d0 d1 hk0 hk1 hk2 hfin2 hll e1
     go_loopw [3,5] (fun s3 s5 wv=>∃ (j:Nat) (d:List Sy) (q':Sy) (r2:List Sy),s3=.int .i64 (d.length:Int)∧s5=.int .i64 ((j+1:Nat):Int)∧K+j+1+r2.length=l.length∧SyAt wv (q' :: r2) g ((K+j)*2)∧SyAt wv d g 0∧d.length≤K+j∧uniq l=d ++ uniqA q' r2∧RoomS wv g (l.length*2)∧w.grownBy wv (some g)) (fun _ s5 _=>l.length - (intOf s5).toNat)
     case atStart =>
      refine⟨0,pre ++ [(s,y)],(t,y),r',by simp[hkh.out,←hKk.out],rfl,by have:=hsum.out;have:=hmr.out;omega,?_,SyAt.below (bel_drewN' wr _) hS.out,by simp[hkh.out,←hKk.out],hUh.out,hR.out.below (bel_drewN' wr _),grow_step hg0.out (bel_drewN' wr _)⟩
      have:=hat3.out
      rw[←hKk.out]
      exact this _
     case round =>
      obtain⟨j,d,⟨t2,y2⟩,r2,rfl,rfl,hjl,hcell,hd,hdl,hu,hroom,hgw⟩:=hrel
      have hK0:=hsum.out
      have hdn:d.length < l.length:=by omega
      obtain⟨D,hD⟩:∃ D,d.length=D:=⟨_,rfl⟩
      have hDh:=h_X hD
      rw[hD] at hdl hdn ⊢
      cases r2 with
      | nil =>
       have hjm:j+1=m:=by simp only[List.length_nil] at hjl;omega
       obtain⟨W',hcl,hdW,hgW⟩:=clear_keep (W:=wr) (g:=g) (o:=D*2) (n:=l.length - D) (c:=cap - D) (d:=d) (by omega) (by rw[show D*2+(l.length - D)*2=l.length*2 by omega];exact hroom) hd (by rw[hD];exact Nat.le_refl _)
       have hu':uniq l=d:=by rw[hu];simp[uniqA]
       have hfin:=h_X (show SyAt W' (uniq l) g 0∧w.grownBy W' (some g)∧(uniq l).length=D from ⟨by rw[hu'];exact hdW,World.grownBy.trans hgw hgW,by rw[hu'];exact hD⟩)
       rw[hjm]
       have hda:(0:Int)≤(D:Int):=by omega
       have hdb:(D:Int)≤(l.length:Int):=by omega
       have hdc:(D:Int)≤(cap:Int):=by omega
       clear hcell hd hu hroom hgw hjl hdl hK0 hjm hD hdW hgW hu'
       go_wp2
       go_ret
       refine⟨?_,hfin.out.1,hfin.out.2.1⟩
       rw[hfin.out.2.2]
       rfl
      | cons p3 r3 =>
       obtain⟨t3,y3⟩:=p3
       obtain⟨J,hJ⟩:∃ J,j+1=J:=⟨_,rfl⟩
       have hlt:(J:Int) < (m:Int):=by simp only[List.length_cons] at hjl;omega
       have hj0:(0:Int)≤(J:Int) - 1:=by omega
       have hj1:(J:Int) - 1 < (m:Int):=by omega
       have hj2:((J:Int) - 1).toNat=j:=by omega
       have hj4:IntKind.i64.wrap ((J:Int)+1)=(J:Int)+1:=IntWalk.i64_in _ (by omega)
       have hj3:IntKind.i64.wrap ((J:Int) - 1)=(J:Int) - 1:=IntWalk.i64_in _ (by omega)
       have hcell2:=hcell.2.2
       rw[show (K+j)*2+2=(K+(j+1))*2 by omega] at hcell2
       have hc2:=h_X hcell2
       obtain⟨c0,c1,d0,d1,-⟩:=hcell
       rw[show (K+j)*2=K*2+j*2 by omega] at c0 c1 d0 d1
       rw[show K*2+j*2+2=K*2+J*2 by omega] at d0 d1
       rw[hJ]
       have hJh:=h_X hJ
       clear hJ
       obtain⟨u0,hu0⟩:=hroom (D*2) (by omega)
       obtain⟨u1,hu1⟩:=hroom (D*2+1) (by omega)
       have hu0h:=h_X hu0
       have hu1h:=h_X hu1
       have d0h:=h_X d0
       have d1h:=h_X d1
       have hdl':(D:Int) < (l.length:Int):=by omega
       have hdh:=h_X hd
       have huh:=h_X hu
       have hrh:=h_X hroom
       have hgh:=h_X hgw
       have hjlh:=h_X (show K+(j+1)+1+r3.length=l.length by simp only[List.length_cons] at hjl;omega)
       have hdlh:=h_X hdl
       clear hcell2 hd hu hroom hgw hjl hdl hK0 hD hu0 hu1 hdn
       by_cases e3:t3.toList=t2.toList
       ·by_cases e4:y3=y2
        ·go_wp2
         go_quiet (fail)
         go_wp2
         go_roundw
         case rel=>exact⟨j+1,d,(t3,y3),r3,by rw[hDh.out],by have:=hJh.out;congr 1;omega,hjlh.out,SyAt.below (bel_drewN' wr _) hc2.out,SyAt.below (bel_drewN' wr _) hdh.out,by have:=hdlh.out;rw[hDh.out];omega,by rw[huh.out];simp[uniqA,e3,e4],hrh.out.below (bel_drewN' wr _),grow_step hgh.out (bel_drewN' wr _)⟩
         case measure=>have:=hjlh.out;have:=hJh.out;simp[intOf];omega
        ·go_wp2
         go_quiet (fail)
         obtain⟨V,hV⟩:∃ V,wr.drewN nq=V:=⟨_,rfl⟩
         have hbV:Below wr.heap.size wr V:=by rw[←hV];exact bel_drewN' wr nq
         rw[hV]
         clear hV
         have hs0:=(hu0h.out.below hbV).1
         have hf0:=(hu0h.out.below hbV).2
         have hs1:=(hu1h.out.below hbV).1
         have hf1:=(hu1h.out.below hbV).2
         replace d0:=c_B hbV d0h.out
         replace d1:=c_B hbV d1h.out
         have hbVh:=h_X hbV
         have hw':IntKind.i64.wrap ((D:Int)+1)=(D:Int)+1:=IntWalk.i64_in _ (by have:=hdlh.out;have:=hsum.out;omega)
         clear hbV
         go_wp2
         go_roundw
         case rel =>
          refine⟨j+1,d ++ [(t3,y3)],(t3,y3),r3,?_,by have:=hJh.out;congr 1;omega,hjlh.out,?_,?_,?_,?_,?_,?_⟩
          ·rw[List.length_append,hDh.out];simp
          ·exact SyAt.off (.inl (by have:=hdlh.out;omega)) (SyAt.off (.inl (by have:=hdlh.out;omega)) (SyAt.below hbVh.out hc2.out))
          ·refine SyAt.app (SyAt.off (.inr (by rw[hDh.out];omega)) (SyAt.off (.inr (by rw[hDh.out];omega)) (SyAt.below hbVh.out hdh.out))) ?_
           rw[Nat.zero_add,hDh.out]
           exact⟨by rw[set_off (.inr (by omega))];exact set_on hs0,set_on (by rw[set_off (.inr (by omega))];exact hs1),trivial⟩
          ·rw[List.length_append,hDh.out];have:=hdlh.out;simp;omega
          ·rw[huh.out];simp[uniqA,e3,e4]
          ·exact((hrh.out.below hbVh.out).set).set
          ·exact grow_set (grow_set (grow_step hgh.out hbVh.out))
         case measure=>have:=hjlh.out;have:=hJh.out;simp[intOf];omega
       ·go_wp2
        go_quiet (fail)
        obtain⟨V,hV⟩:∃ V,wr.drewN nq=V:=⟨_,rfl⟩
        have hbV:Below wr.heap.size wr V:=by rw[←hV];exact bel_drewN' wr nq
        rw[hV]
        clear hV
        have hs0:=(hu0h.out.below hbV).1
        have hf0:=(hu0h.out.below hbV).2
        have hs1:=(hu1h.out.below hbV).1
        have hf1:=(hu1h.out.below hbV).2
        replace d0:=c_B hbV d0h.out
        replace d1:=c_B hbV d1h.out
        have hbVh:=h_X hbV
        have hw':IntKind.i64.wrap ((D:Int)+1)=(D:Int)+1:=IntWalk.i64_in _ (by have:=hdlh.out;have:=hsum.out;omega)
        clear hbV
        go_wp2
        go_roundw
        case rel =>
         refine⟨j+1,d ++ [(t3,y3)],(t3,y3),r3,?_,by have:=hJh.out;congr 1;omega,hjlh.out,?_,?_,?_,?_,?_,?_⟩
         ·rw[List.length_append,hDh.out];simp
         ·exact SyAt.off (.inl (by have:=hdlh.out;omega)) (SyAt.off (.inl (by have:=hdlh.out;omega)) (SyAt.below hbVh.out hc2.out))
         ·refine SyAt.app (SyAt.off (.inr (by rw[hDh.out];omega)) (SyAt.off (.inr (by rw[hDh.out];omega)) (SyAt.below hbVh.out hdh.out))) ?_
          rw[Nat.zero_add,hDh.out]
          exact⟨by rw[set_off (.inr (by omega))];exact set_on hs0,set_on (by rw[set_off (.inr (by omega))];exact hs1),trivial⟩
         ·rw[List.length_append,hDh.out];have:=hdlh.out;simp;omega
         ·rw[huh.out];simp[uniqA,e3]
         ·exact((hrh.out.below hbVh.out).set).set
         ·exact grow_set (grow_set (grow_step hgh.out hbVh.out))
        case measure=>have:=hjlh.out;have:=hJh.out;simp[intOf];omega
    ·go_wp2
     go_quiet (fail)
     go_wp2
     go_roundw
     case rel=>exact⟨pre ++ [(s,x)],(t,y),r',by simp[hkh.out],by rw[hlrh.out];simp,by simp only[List.length_append,List.length_singleton,hkh.out];exact hat3.out _,by rw[hunh.out];simp[uniqA,e1,e2],(hfin2 _).out⟩
     case measure=>simp[intOf];omega
   ·go_wp2
    go_quiet (fail)
    go_wp2
    go_roundw
    case rel=>exact⟨pre ++ [(s,x)],(t,y),r',by simp[hkh.out],by rw[hlrh.out];simp,by simp only[List.length_append,List.length_singleton,hkh.out];exact hat3.out _,by rw[hunh.out];simp[uniqA,e1],(hfin2 _).out⟩
    case measure=>simp[intOf];omega
end Go.Proofs.YtngdieldgnlogaaGreatDoor
namespace Go.Proofs.YtngdieldgnlogaaGreatDoor
open Go Go.RowKit Go.Sort
set_option maxRecDepth 100000
set_option linter.unusedVariables false
def ms (l:List Sy):List Sy:=l.mergeSort fun x y=>!(ltOf sySym) y x
def SySl (V:World) (l:List Sy) (v:Value):Prop:=∃ (p:Option Addr) (c:Nat),v=.slice p l.length c∧(l.length=0∨∃ g,p=some ⟨g,0,none⟩∧SyAt V l g 0)
def OrdS (l:List Sy) (v:Value) (V:World):Prop:=SySl V (uniq (ms l)) v
theorem SySl.below {V V':World} {l:List Sy} {v:Value} (hb:Below V.heap.size V V') (h:SySl V l v):SySl V' l v:=by
 obtain⟨p,c,rfl,h⟩:=h
 exact⟨p,c,rfl,h.imp id fun ⟨g,hp,hs⟩=>⟨g,hp,SyAt.below hb hs⟩⟩
theorem ba_ext {s t:ByteArray} (h:s.toList=t.toList):s=t:=by
 rw[ByteArray.toList_eq,ByteArray.toList_eq] at h
 cases s;cases t
 simpa using h
theorem sy_total (x y:Sy) (h1:(ltOf sySym) x y=false) (h2:(ltOf sySym) y x=false):x=y:=by
 simp only[ltOf,decide_eq_false_iff_not,symCmp_lt] at h1 h2
 have e1:x.1.toList=y.1.toList:=by
  have a1:y.1.toList≤x.1.toList:=List.not_lt.1 fun h=>h1 (.inl h)
  have a2:x.1.toList≤y.1.toList:=List.not_lt.1 fun h=>h2 (.inl h)
  exact List.le_antisymm a2 a1
 have e2:x.2=y.2:=by
  have a1:¬ x.2 < y.2:=fun h=>h1 (.inr ⟨e1,h⟩)
  have a2:¬ y.2 < x.2:=fun h=>h2 (.inr ⟨e1.symm,h⟩)
  omega
 exact Prod.ext (ba_ext e1) e2
theorem room_own {V:World} {B g n cap:Nat} {l:List Sy} (hn:l.length=n) (h:V.ownsRow B 56 2 (.slice (some ⟨g,0,none⟩) n cap) n (flat l)):n≤cap∧RoomS V g (n*2):=by
 refine⟨?_,fun j hj=>?_⟩
 ·obtain⟨-,⟨hz,-⟩ | ⟨g',cap',cur,hv,-,-,h3,-⟩⟩:=id h
  ·cases hz
  ·cases hv;exact h3
 ·have hl:=flat_get l j (by omega)
  refine⟨(encSy (l[j/2]!))[j%2]!,?_,h.frozenAt j⟩
  rw[h.cellAt j hj]
  exact hl
theorem sort_total {V:World} {B g cap:Nat} {l:List Sy} (h:V.ownsRow B 56 2 (.slice (some ⟨g,0,none⟩) l.length cap) l.length (flat l)) (hl:l.length≤1000000) :
  Calls Tryz.prog 108 #[.slice (some ⟨g,0,none⟩) l.length cap,.func (.func 109) #[] #[]] V fun e w'=>e=.returned (.tuple #[])∧∃ (n:Nat) (os:Array Obj),w'=sortWorldK encSy 2 V g 0 n (ms l).toArray os:=by
 have hH:=holds_of_own rfl h
 have hg:=(h.lt g rfl).2
 have eg:∀ args w,(callFunc 109 args).run Tryz.prog w=.ok (.enter 109 args) w:=enters_of Tryz.func109 (by kernel_rfl) rfl
 exact AnyQ.slices_SortFunc_total Tryz.sortSym 2 isAgg56 sizeOf56 encSy (fun _=>rfl) (fun x v hv=>by simp[encSy] at hv;rcases hv with rfl | rfl<;>rfl) sySym swoSym 109 #[] g 0 cap l.toArray V eg (cmpLaysSym g 0 _ V) hH hg (by simp;omega) sy_total
theorem ms_perm (l:List Sy):(ms l).Perm l:=List.mergeSort_perm _ _
theorem ms_len (l:List Sy):(ms l).length=l.length:=(ms_perm l).length_eq
set_option maxHeartbeats 2000000 in
theorem inOrder_all:InOrder (fun _=>True) OrdS:=by
 rintro l s B V - hl hB h
 by_cases hne:l=[]
 ·subst hne
  obtain⟨p,cap,rfl⟩:∃ p cap,s=.slice p 0 cap:=by
   obtain⟨-,⟨hv,-⟩ | ⟨g,cap,cur,hv,-⟩⟩:=id h
   ·exact⟨_,_,hv⟩
   ·exact⟨_,_,hv⟩
  have HS:=h_X (fun W=>AnyF.slices_SortFunc_none (P:=Tryz.prog) Tryz.sortSym p cap (.func (.func 109) #[] #[]) W)
  have HC:=h_X (fun W=>compact_apart [] p 0 0 cap W (.inl rfl) trivial trivial (by simp))
  have hfin:Hid (∀ W,OrdS [] (.slice p 0 cap) W):=h_X fun W=>by
   have e0:uniq (ms [])=[]:=by simp[ms,uniq]
   show SySl W (uniq (ms [])) (.slice p 0 cap)
   rw[e0]
   exact⟨p,cap,rfl,.inl rfl⟩
  clear h
  go_enter Tryz.func78,Tryz.ntmps78
  go_wp2_with fail
  refine(HS.out _).mono ?_
  rintro e w1 ⟨rfl,rfl⟩
  go_wp2_with fail
  refine(HC.out _).mono ?_
  rintro e w2 ⟨rfl,hb⟩
  have hbh:=h_X hb
  go_wp2_with fail
  go_ret
  exact⟨⟨_,rfl,hfin.out _⟩,World.grownBy.trans (World.grownBy.refl _ _) ⟨hbh.out.os,hbh.out.tape,hbh.out.output,hbh.out.size,fun k hk _=>hbh.out.block k hk⟩⟩
 have hpos:0 < l.length:=List.length_pos_iff.2 hne
 obtain⟨g,cap,rfl⟩:∃ g cap,s=.slice (some ⟨g,0,none⟩) l.length cap:=by
  obtain⟨-,⟨-,h0⟩ | ⟨g,cap,cur,hv,-⟩⟩:=id h
  ·omega
  ·exact⟨g,cap,hv⟩
 have hgV:=(h.lt g rfl).2
 have HS:=h_X (sort_total h hl)
 have hH:=holds_of_own rfl h
 obtain⟨hcap,hroom⟩:=room_own rfl h
 clear h
 go_enter Tryz.func78,Tryz.ntmps78
 go_wp2_with fail
 refine HS.out.mono ?_
 rintro e w1 ⟨rfl,n,os,rfl⟩
 have hds:(ms l).toArray.size=l.length:=by simp[ms_len]
 have hH2:=holdsK_sortWorldK_c encSy 2 V g 0 l.toArray (ms l).toArray n os hH hgV (by simp[ms_len])
 have hgr:=grownBy_sortedSy (V:=V) (g:=g) (n:=n) (os:=os) (ms l).toArray
 generalize sortWorldK encSy 2 V g 0 n (ms l).toArray os=W at hH2 hgr ⊢
 have hsy:SyAt W (ms l) g 0:=syAt_of _ _ _ _ fun i hi=>by
  have hi':i < (ms l).toArray.size:=by simpa using hi
  have c0:=(hH2.cell hi' (show 0 < 2 by omega)).1
  have c1:=(hH2.cell hi' (show 1 < 2 by omega)).1
  have e:(ms l)[i]! = (ms l).toArray[i]!:=by rw[getElem!_pos _ i hi,getElem!_pos _ i hi'];simp
  rw[e]
  exact⟨c0,c1⟩
 have hroomW:RoomS W g ((ms l).length*2):=fun j hj=>by
  have hj':j/2 < (ms l).toArray.size:=by simp;omega
  have hc:=hH2.cell hj' (show j%2 < 2 by omega)
  have e:0+j/2*2+j%2=j:=by omega
  rw[e] at hc
  exact⟨_,hc.1,hc.2⟩
 have HC:=h_X (compact_all (ms l) g cap W hsy hroomW (by rw[ms_len];omega) (by rw[ms_len];exact hcap))
 rw[ms_len] at HC
 clear HS hH hH2 hsy hroomW hroom
 go_wp2_with fail
 refine HC.out.mono ?_
 rintro e w2 ⟨rfl,hsy2,hg2⟩
 have hfin:OrdS l (.slice (some ⟨g,0,none⟩) (uniq (ms l)).length cap) w2:=⟨_,_,rfl,.inr ⟨g,rfl,hsy2⟩⟩
 have hgf:V.grownBy w2 (some g):=World.grownBy.trans hgr hg2
 clear HC hsy2 hg2 hgr
 go_wp2_with fail
 go_ret
 exact⟨⟨_,rfl,hfin⟩,hgf⟩
theorem ordS_put:∀ l v (V:World) D o o',V.heap[D]? = some o→o.isCells=false→OrdS l v V→OrdS l v (V.putObj D o'):=by
 intro l v V D o o' hD ho h
 obtain⟨p,c,hv,h⟩:=h
 exact⟨p,c,hv,h.imp id fun ⟨g,hp,hs⟩=>⟨g,hp,hs.kept fun b i u hc=>(KL.put (L:=[]) o' hD ho (Nat.lt_succ_self D)).2.1 b i u (by simp) hc⟩⟩
end Go.Proofs.YtngdieldgnlogaaGreatDoor
