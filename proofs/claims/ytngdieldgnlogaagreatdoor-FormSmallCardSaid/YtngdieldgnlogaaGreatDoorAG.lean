/- The law's grows: a formula that grows to 402 nodes, and to 1001. -/
import Derived.Test.YtngdieldgnlogaaGreatDoorAF
namespace Go.Proofs.YtngdieldgnlogaaGreatDoor
set_option linter.unusedSimpArgs false
open Go Go.RowKit
set_option maxRecDepth 100000
set_option linter.unusedVariables false
theorem two_punch {F G:FT} {p q p' q':Option Addr} {a b a' b' g:Nat} {W:World} (hgW:g < W.heap.size) (hv:FVal (punch W g) F (fval F (.slice p F.ts.len a) (.slice q F.sub.len b))) (hv':FVal (punch W g) G (fval G (.slice p' G.ts.len a') (.slice q' G.sub.len b'))) (t:TypeId) :
  FSl (punch (W.alloc (.cells #[.int .u8 F.op,.string F.n,.slice p F.ts.len a,.slice q F.sub.len b,.int .u8 G.op,.string G.n,.slice p' G.ts.len a',.slice q' G.sub.len b'] t)) g) (.cons F.op F.n F.ts F.sub (.cons G.op G.n G.ts G.sub .nil)) (.slice (some ⟨W.heap.size,0,none⟩) 2 2):=by
 have h:=two_list hv hv' t
 rw[punch_size] at h
 rw[punch_alloc hgW]
 exact h
theorem one_punch {F:FT} {p q:Option Addr} {a b g:Nat} {W:World} (hgW:g < W.heap.size) (hv:FVal (punch W g) F (fval F (.slice p F.ts.len a) (.slice q F.sub.len b))) (t:TypeId) :
  FSl (punch (W.alloc (.cells #[.int .u8 F.op,.string F.n,.slice p F.ts.len a,.slice q F.sub.len b] t)) g) (.cons F.op F.n F.ts F.sub .nil) (.slice (some ⟨W.heap.size,0,none⟩) 1 1):=by
 have h:=one_listP hv t
 rw[punch_size] at h
 rw[punch_alloc hgW]
 exact h
theorem A0.val (c:UInt8) (W:World):FVal W (A0 c) (.agg #[.int .u8 1,.string ⟨#[c]⟩,.slice none 0 0,.slice none 0 0]):=⟨_,_,rfl,⟨none,0,rfl,.inl rfl⟩,⟨none,0,rfl,.inl rfl⟩⟩
theorem A0.size (c:UInt8):(A0 c).size=1:=rfl
theorem A0.wt (c:UInt8):(A0 c).wt=2:=rfl
theorem ex_call3 {P:Program} {a:Act} {w:World} {o:Oper} {u r s:Value} {f:Nat} {x y z:Operand} {t t' t2:TypeId} (he:∀ args w,(callFunc f args).run P w=.ok (.enter f args) w) (hop:o.op=.call { callee:=.value (.func f),args:=#[x,y,z],argTypes:=#[t,t',t2] }) (hx:a.eval x=u) (hy:a.eval y=r) (hz:a.eval z=s):(execOp a.eval o).run P w=.ok (.enter f #[u,r,s]) w:=by
 have e1:a.eval (.func f)=.func (.func f) #[] #[]:=rfl
 simp[execOp,hop,resolve,invoke,hx,hy,hz,e1,he,Deferred.ofValue]
theorem BX.lt {F:FT} {v:Value} {g:Nat} {W:World} (h:BX F v g W):g < W.heap.size:=h.c0.lt
set_option maxHeartbeats 8000000 in
theorem grows_any (f:FT) (m:Nat) (v:Value) (w:World) (hrw:Rws w) (hv:FVal w f v) (hsz:f.size+2*m+3=402) (hwt:f.wt≤100000) (hop:Opn f) :
  Calls Tryz.prog 52 #[v,.int .i64 (m:Int)] w fun e w'=>e=.returned (.bool true)∧Below w.heap.size w w':=by
 have hrwh:=h_X hrw
 obtain⟨sa,ss,rfl,ha,hss⟩:=id hv
 obtain⟨pa,ca,rfl,-⟩:=id ha
 obtain⟨p,c,rfl,-⟩:=id hss
 have hbx:=h_X (bx_new hv)
 have hb1:=h_X (bel_laid w (.cells #[.int .u8 f.op,.string f.n,.slice pa f.ts.len ca,.slice p f.sub.len c] 25))
 obtain⟨W1,hW1⟩:∃ W1,w.alloc (.cells #[.int .u8 f.op,.string f.n,.slice pa f.ts.len ca,.slice p f.sub.len c] 25)=W1:=⟨_,rfl⟩
 rw[hW1] at hbx hb1
 obtain⟨g,hg⟩:∃ g,w.heap.size=g:=⟨_,rfl⟩
 have hgle:=h_X (Nat.le_of_eq hg)
 rw[hg] at hbx
 have hoph:=h_X hop
 clear ha hss hv hrw hop
 go_enter Tryz.func52,Tryz.ntmps52
 go_wp2_with fail
 clear hg hW1
 go_loopw [5] (fun i wr=>∃ (k:Nat) (F:FT) (V:Value),i=.int .i64 (k:Int)∧k≤m∧F.size=f.size+2*k∧F.wt≤f.wt+10*k∧Opn F∧BX F V g wr∧Below w.heap.size w wr) (fun i _=>m - (intOf i).toNat)
 case atStart=>exact⟨0,f,_,rfl,Nat.zero_le _,rfl,Nat.le_refl _,hoph.out,hbx.out,hb1.out⟩
 case round =>
  obtain⟨k,F,V,rfl,hkm,hFs,hFw,hFo,hB,hbw⟩:=hrel
  have hbwh:=h_X hbw
  have hBh:=h_X hB
  have hFoh:=h_X hFo
  clear hbw hFo hbx hb1
  obtain⟨y0,y1,⟨pF,cF,y2,qF,dF,y3,rfl⟩,hval⟩:=hB
  have hvalh:=h_X hval
  clear hval
  have x0:=y0.1
  have x1:=y1.1
  have x2:=y2.1
  have x3:=y3.1
  clear y0 y1 y2 y3
  by_cases hk:k < m
  ·have hki:(k:Int) < (m:Int):=by omega
   have hkw:IntKind.i64.wrap ((k:Int)+1)=(k:Int)+1:=IntWalk.i64_in _ (by omega)
   go_wp2_with fail
   have hok:okK [(0,14,fval F (.slice pF F.ts.len cF) (.slice qF F.sub.len dF)),(1,15,.agg #[.int .u8 1,.string ⟨#[81]⟩,.slice none 0 0,.slice none 0 0])] [(2,16,(fun v W=>FSl (punch W g) (.cons F.op F.n F.ts F.sub (.cons (A0 81).op (A0 81).n (A0 81).ts (A0 81).sub .nil)) v)),(3,17,(fun v W=>FVal (punch W g) (N2 5 ⟨#[]⟩ F (A0 81)) v))]=true:=by kernel_rfl
   refine wp_region_run (by kernel_rfl) 58 [14,15,16,17] (fun l_ g_ W_=>(l_ 4=false→JK wr (okL hok) (okP hok) l_ g_ W_)∧(l_ 4=true→∃ V_,BX (N2 5 ⟨#[]⟩ F (A0 81)) V_ g W_∧Below w.heap.size w W_)) (by kernel_rfl) rfl ⟨fun _=>JK.start _ _,fun h=>by cases h⟩ ?hst5 ?hend5
   case hst5 =>
    have hst:∀ p∈okP hok,Stb p.2.2:=(fun p hp=>by simp only[okP,List.mem_cons,List.not_mem_nil,or_false] at hp;exact hp.elim (fun h=>by subst h;exact fun v W W' hb h=>FSl.below (punch_below hb) h) (fun h=>by subst h;exact fun v W W' hb h=>FVal.below (punch_below hb) h))
    refine⟨?_,?_,?_,?_,?_,trivial⟩
    ·rintro l gv W hun xD hcl hJ hg ha hp
     have n0:l 4=false:=by
      cases e:l 4 with
      | false=>rfl
      | true=>have:=hcl 4 0 e (by kernel_rfl);rw[hun] at this;cases this
     have hJ:=hJ.1 n0
     refine' op_val ?h1 ?w1 ?r1 ?K1
     case h1=>rfl
     case w1=>exact rfl
     case r1=>exact(ex_load rfl (eval_tmp ((ha 2 (by kernel_rfl)).trans rfl)) (loadFo (c_B hJ.low x0) (c_B hJ.low x1) (c_B hJ.low x2) (c_B hJ.low x3)))
     case K1=>exact⟨_,hp 14 _ (by kernel_rfl),⟨fun _=>JK.M hok hst hJ 0 rfl,fun h=>nO h n0⟩⟩
    ·rintro l gv W hun xD hcl hJ hg ha hp
     have n0:l 4=false:=by
      cases e:l 4 with
      | false=>rfl
      | true=>have:=hcl 4 1 e (by kernel_rfl);rw[hun] at this;cases this
     have hJ:=hJ.1 n0
     refine' op_call ?h2 ?w2 ?r2 ?hc2
     case h2=>rfl
     case w2=>exact rfl
     case r2=>exact(ex_call2 (enters_of Tryz.func39 (by kernel_rfl) rfl) rfl rfl rfl)
     case hc2 =>
      refine(atom_all ⟨#[81]⟩ none 0 0 W).mono ?_
      rintro e W' ⟨rfl,hb⟩
      exact⟨_,rfl,_,hp 15 _ (by kernel_rfl),⟨fun _=>JK.made hok hst hJ (gM 1 rfl) hb,fun h=>nO h n0⟩⟩
    ·rintro l gv W hun xD hcl hJ hg ha hp
     have n0:l 4=false:=by
      cases e:l 4 with
      | false=>rfl
      | true=>have:=hcl 4 2 e (by kernel_rfl);rw[hun] at this;cases this
     have hJ:=hJ.1 n0
     refine' op_val ?h3 ?w3 ?r3 ?K3
     case h3=>rfl
     case w3=>exact rfl
     case r3=>exact(ex_buildSlice2 rfl (lE (hg 14 (by kernel_rfl)) hJ.lit 0 rfl (xD 0 (by kernel_rfl))) (lE (hg 15 (by kernel_rfl)) hJ.lit 1 rfl (xD 1 (by kernel_rfl))) (build_two W _ _ _ _ _ _ _ _))
     case K3=>exact⟨_,hp 16 _ (by kernel_rfl),⟨fun _=>JK.madeP hok hst hJ (gM 0 rfl) (two_punch (Nat.lt_of_lt_of_le hBh.out.lt hJ.low.size) (FVal.below (punch_below hJ.low) hvalh.out) (A0.val 81 _) 25) (bel_laid W _),fun h=>nO h n0⟩⟩
    ·rintro l gv W hun xD hcl hJ hg ha hp
     have n0:l 4=false:=by
      cases e:l 4 with
      | false=>rfl
      | true=>have:=hcl 4 3 e (by kernel_rfl);rw[hun] at this;cases this
     have hJ:=hJ.1 n0
     refine' op_call ?h4 ?w4 ?r4 ?hc4
     case h4=>rfl
     case w4=>exact rfl
     case r4=>exact(ex_call3 (enters_of Tryz.func49 (by kernel_rfl) rfl) rfl rfl rfl (eval_tmp (hg 16 (by kernel_rfl))))
     case hc4 =>
      refine(of_form 5 ⟨#[]⟩ (.cons F.op F.n F.ts F.sub (.cons (A0 81).op (A0 81).n (A0 81).ts (A0 81).sub .nil)) _ g W (hJ.pr _ (gM 0 rfl) (xD 2 (by kernel_rfl)))).mono ?_
      rintro e W' ⟨⟨v',rfl,hv'⟩,hb⟩
      exact⟨_,rfl,_,hp 17 _ (by kernel_rfl),⟨fun _=>JK.madeP hok hst hJ (gM 1 rfl) hv' hb,fun h=>nO h n0⟩⟩
    ·rintro l gv W hun xD hcl hJ hg ha hp
     have hJ:=hJ.1 hun
     have hP:=hJ.pr _ (gM 1 rfl) (xD 3 (by kernel_rfl))
     obtain⟨p9,m9,q9,n9,e9⟩:=FVal.spelt hP
     have hB:=hBh.out.below hJ.low
     exact op_skip rfl rfl (ex_store rfl (eval_tmp ((ha 2 (by kernel_rfl)).trans rfl)) ((eval_tmp (hg 17 (by kernel_rfl))).trans e9) hB.run) ⟨gv,rfl,⟨fun h=>(by rw[show upd l 4 true 4=true from rfl] at h;cases h),fun _=>⟨_,hB.set (by rw[←e9];exact hP),below_set4 (bS hbwh.out hJ.low) hgle.out⟩⟩⟩
   case hend5 =>
    rintro ll gv W9 hl hJ
    have hfin:=hJ.2 (hl 4 (of_decide_eq_true (by kernel_rfl)))
    clear hJ hl
    simp only[zipV,List.map_cons,List.map_nil,puts,Act.put,List.setIfInBounds_toArray,List.set_cons_succ,List.set_cons_zero]
    obtain⟨u14,hu14⟩:∃ u,gv 14=u:=⟨_,rfl⟩
    rw[hu14]
    clear hu14
    obtain⟨u15,hu15⟩:∃ u,gv 15=u:=⟨_,rfl⟩
    rw[hu15]
    clear hu15
    obtain⟨u16,hu16⟩:∃ u,gv 16=u:=⟨_,rfl⟩
    rw[hu16]
    clear hu16
    obtain⟨u17,hu17⟩:∃ u,gv 17=u:=⟨_,rfl⟩
    rw[hu17]
    clear hu17
    obtain⟨V2,hB2,hb2⟩:=hfin
    have hGs:(N2 5 ⟨#[]⟩ F (A0 81)).size=F.size+2:=by rw[N2.size,A0.size]
    have hGw:(N2 5 ⟨#[]⟩ F (A0 81)).wt≤F.wt+3:=by rw[N2.wt,A0.wt];omega
    have hGo:=h_X (show Opn (N2 5 ⟨#[]⟩ F (A0 81)) from N2.open (by decide) hFoh.out (A0.open 81))
    obtain⟨w8,hw8⟩:∃ w8,W9=w8:=⟨_,rfl⟩
    rw[hw8] at hB2 hb2 ⊢
    clear hw8 x0 x1 x2 x3 hvalh hBh hbwh
    generalize (N2 5 ⟨#[]⟩ F (A0 81))=G at hGs hGw hGo hB2
    have hB2h:=h_X hB2
    have hb2h:=h_X hb2
    obtain⟨y0,y1,⟨pG,cG,y2,qG,dG,y3,rfl⟩,-⟩:=hB2
    have x0:=y0.1
    have x1:=y1.1
    have x2:=y2.1
    have x3:=y3.1
    have HA:=h_X (asks_any G _ w8 (hrwh.out.of hb2) hB2h.out.at (by omega) (by omega) hGo.out)
    clear y0 y1 y2 y3 hb2
    go_wp2_with fail
    refine HA.out.mono ?_
    rintro e w9 ⟨rfl,hb9⟩
    have hB9:=h_X (hB2h.out.below hb9)
    have hbz:=h_X (bS hb2h.out hb9)
    clear HA hb9 x0 x1 x2 x3
    go_wp2
    go_roundw
    case rel=>exact⟨k+1,G,_,rfl,by omega,by omega,by omega,hGo.out,hB9.out,hbz.out⟩
    case measure=>simp[intOf];omega
  ·have hki:¬ (k:Int) < (m:Int):=by omega
   obtain rfl:k=m:=by omega
   clear x0 x1 x2 x3
   go_wp2_with fail
   go_loopw [6] (fun i wr=>∃ (j:Nat) (G:FT) (V:Value),i=.int .i64 (j:Int)∧j≤3∧G.size=F.size+j∧G.wt≤F.wt+10*j∧Opn G∧BX G V g wr∧Below w.heap.size w wr) (fun i _=>3 - (intOf i).toNat)
   case atStart=>exact⟨0,F,_,rfl,Nat.zero_le _,rfl,Nat.le_refl _,hFoh.out,hBh.out,hbwh.out⟩
   case round =>
    obtain⟨j,G,V,rfl,hj3,hGs,hGw,hGo,hB,hbw⟩:=hrel
    clear hBh hbwh hvalh hFoh
    have hbwh:=h_X hbw
    have hBh:=h_X hB
    have hGoh:=h_X hGo
    clear hbw hGo
    obtain⟨y0,y1,⟨pF,cF,y2,qF,dF,y3,rfl⟩,hval⟩:=hB
    have hvalh:=h_X hval
    clear hval
    have x0:=y0.1
    have x1:=y1.1
    have x2:=y2.1
    have x3:=y3.1
    clear y0 y1 y2 y3
    by_cases hj:j < 3
    ·have hji:(j:Int) < 3:=by omega
     have hkw:IntKind.i64.wrap ((j:Int)+1)=(j:Int)+1:=IntWalk.i64_in _ (by omega)
     have HO:=h_X (of_form 3 ⟨#[]⟩ _ _ g _ (one_punch hBh.out.lt hvalh.out 25))
     go_wp2_with fail
     refine HO.out.mono ?_
     rintro e w2 ⟨⟨v2,rfl,hv2⟩,hb2⟩
     obtain⟨p9,m9,q9,n9,rfl⟩:=FVal.spelt hv2
     have hB2:=hBh.out.below (bS (bel_laid wr _) hb2)
     have hbn:=h_X (bS hbwh.out (bS (bel_laid wr _) hb2))
     have hN:=h_X (hB2.set hv2)
     have hlw:=h_X (below_set4 (a:=.int .u8 3) (b:=.string ⟨#[]⟩) (c:=.slice p9 Ts.nil.len m9) (d:=.slice q9 (Fs.cons G.op G.n G.ts G.sub .nil).len n9) hbn.out hgle.out)
     obtain⟨a0,a1,⟨p8,c8,a2,q8,d8,a3,-⟩,-⟩:=hB2
     obtain⟨a0,b0⟩:=a0
     obtain⟨a1,b1⟩:=a1
     obtain⟨a2,b2⟩:=a2
     obtain⟨a3,b3⟩:=a3
     clear HO hb2 hv2 x0 x1 x2 x3 hBh hvalh
     go_wp2_with fail
     refine(asks_any (N1 3 ⟨#[]⟩ G) _ _ (hrwh.out.of hlw.out) hN.out.at (by rw[N1.size];omega) (by rw[N1.wt];omega) (N1.open (by decide) hGoh.out)).mono ?_
     rintro e w9 ⟨rfl,hb9⟩
     have hB9:=h_X (hN.out.below hb9)
     have hbz:=h_X (bS hlw.out hb9)
     clear hb9 hN hlw a0 a1 a2 a3 b0 b1 b2 b3
     go_wp2
     go_roundw
     case rel=>exact⟨j+1,N1 3 ⟨#[]⟩ G,_,rfl,by omega,by rw[N1.size];omega,by rw[N1.wt];omega,N1.open (by decide) hGoh.out,hB9.out,hbz.out⟩
     case measure=>simp[intOf];omega
    ·have hji:¬ (j:Int) < 3:=by omega
     obtain rfl:j=3:=by omega
     have e402:((G.size:Nat):Int)=402:=by omega
     have HN:=h_X (refNodes_any G.size G _ wr (Nat.le_refl _) hBh.out.at (by omega))
     rw[e402] at HN
     go_wp2_with fail
     refine HN.out.mono ?_
     rintro e w3 ⟨rfl,hb3⟩
     have hBh:=h_X (hBh.out.below hb3)
     have hbwh:=h_X (bS hbwh.out hb3)
     have hvalh:=h_X (FVal.below (punch_below hb3) hvalh.out)
     replace x0:=c_B hb3 x0
     replace x1:=c_B hb3 x1
     replace x2:=c_B hb3 x2
     replace x3:=c_B hb3 x3
     clear HN hb3
     have HO:=h_X (of_form 7 ⟨#[]⟩ _ _ g _ (two_punch hBh.out.lt hvalh.out hvalh.out 25))
     go_wp2_with fail
     refine HO.out.mono ?_
     rintro e w2 ⟨⟨v2,rfl,hv2⟩,hb2⟩
     obtain⟨p9,m9,q9,n9,rfl⟩:=FVal.spelt hv2
     have hB2:=hBh.out.below (bS (bel_laid w3 _) hb2)
     have hbn:=h_X (bS hbwh.out (bS (bel_laid w3 _) hb2))
     have hN:=h_X (hB2.set hv2)
     have hlw:=h_X (below_set4 (a:=.int .u8 7) (b:=.string ⟨#[]⟩) (c:=.slice p9 Ts.nil.len m9) (d:=.slice q9 (Fs.cons G.op G.n G.ts G.sub (.cons G.op G.n G.ts G.sub .nil)).len n9) hbn.out hgle.out)
     obtain⟨a0,a1,⟨p8,c8,a2,q8,d8,a3,-⟩,-⟩:=hB2
     obtain⟨a0,b0⟩:=a0
     obtain⟨a1,b1⟩:=a1
     obtain⟨a2,b2⟩:=a2
     obtain⟨a3,b3⟩:=a3
     clear HO hb2 hv2 x0 x1 x2 x3 hBh hvalh
     go_wp2_with fail
     have hHs:(N2 7 ⟨#[]⟩ G G).size=805:=by rw[N2.size];omega
     have hHw:(N2 7 ⟨#[]⟩ G G).wt≤2*G.wt+1:=by rw[N2.wt];omega
     have hHo:=h_X (show Opn (N2 7 ⟨#[]⟩ G G) from N2.open (by decide) hGoh.out hGoh.out)
     obtain⟨w4,hw4⟩:∃ w4,((((w2.setCell ⟨g,0,none⟩ (.int .u8 7)).setCell ⟨g,1,none⟩ (.string ⟨#[]⟩)).setCell ⟨g,2,none⟩ (.slice p9 Ts.nil.len m9)).setCell ⟨g,3,none⟩ (.slice q9 (Fs.cons G.op G.n G.ts G.sub (.cons G.op G.n G.ts G.sub .nil)).len n9))=w4:=⟨_,rfl⟩
     have hN4:=h_X (show BX (N2 7 ⟨#[]⟩ G G) _ g w4 from hw4 ▸ hN.out)
     have hl4:=h_X (show Below w.heap.size w w4 from hw4 ▸ hlw.out)
     rw[hw4]
     clear hw4 hN hlw a0 a1 a2 a3 b0 b1 b2 b3
     generalize N2 7 ⟨#[]⟩ G G=H0 at hHs hHw hHo hN4
     go_loopw [8] (fun i wr=>∃ (j:Nat) (G:FT) (V:Value),i=.int .i64 (j:Int)∧j≤196∧G.size=805+j∧G.wt≤H0.wt+10*j∧Opn G∧BX G V g wr∧Below w.heap.size w wr) (fun i _=>196 - (intOf i).toNat)
     case atStart=>exact⟨0,H0,_,rfl,Nat.zero_le _,hHs,Nat.le_refl _,hHo.out,hN4.out,hl4.out⟩
     case round =>
      rename_i G0
      obtain⟨j,G,V,rfl,hj3,hG2s,hG2w,hGo,hB,hbw⟩:=hrel
      clear hN4 hl4 hHo hGoh hbwh
      have hbwh:=h_X hbw
      have hBh:=h_X hB
      have hGoh:=h_X hGo
      clear hbw hGo
      obtain⟨y0,y1,⟨pF,cF,y2,qF,dF,y3,rfl⟩,hval⟩:=hB
      have hvalh:=h_X hval
      clear hval
      have x0:=y0.1
      have x1:=y1.1
      have x2:=y2.1
      have x3:=y3.1
      clear y0 y1 y2 y3
      by_cases hj:j < 196
      ·have hji:(j:Int) < 196:=by omega
       have hkw:IntKind.i64.wrap ((j:Int)+1)=(j:Int)+1:=IntWalk.i64_in _ (by omega)
       have HO:=h_X (of_form 3 ⟨#[]⟩ _ _ g _ (one_punch hBh.out.lt hvalh.out 25))
       by_cases h192:192 < j
       ·have h19:(192:Int) < (j:Int):=by omega
        go_wp2_with fail
        refine HO.out.mono ?_
        rintro e w2 ⟨⟨v2,rfl,hv2⟩,hb2⟩
        obtain⟨p9,m9,q9,n9,rfl⟩:=FVal.spelt hv2
        have hB2:=hBh.out.below (bS (bel_laid wr _) hb2)
        have hbn:=h_X (bS hbwh.out (bS (bel_laid wr _) hb2))
        have hN:=h_X (hB2.set hv2)
        have hlw:=h_X (below_set4 (a:=.int .u8 3) (b:=.string ⟨#[]⟩) (c:=.slice p9 Ts.nil.len m9) (d:=.slice q9 (Fs.cons G.op G.n G.ts G.sub .nil).len n9) hbn.out hgle.out)
        obtain⟨a0,a1,⟨p8,c8,a2,q8,d8,a3,-⟩,-⟩:=hB2
        obtain⟨a0,b0⟩:=a0
        obtain⟨a1,b1⟩:=a1
        obtain⟨a2,b2⟩:=a2
        obtain⟨a3,b3⟩:=a3
        clear HO hb2 hv2 x0 x1 x2 x3 hBh hvalh
        go_wp2_with fail
        refine(asks_any (N1 3 ⟨#[]⟩ G) _ _ (hrwh.out.of hlw.out) hN.out.at (by rw[N1.size];omega) (by rw[N1.wt];omega) (N1.open (by decide) hGoh.out)).mono ?_
        rintro e w9 ⟨rfl,hb9⟩
        have hB9:=h_X (hN.out.below hb9)
        have hbz:=h_X (bS hlw.out hb9)
        clear hb9 hN hlw a0 a1 a2 a3 b0 b1 b2 b3
        go_wp2
        go_roundw
        case rel=>exact⟨j+1,N1 3 ⟨#[]⟩ G,_,rfl,by omega,by rw[N1.size];omega,by rw[N1.wt];omega,N1.open (by decide) hGoh.out,hB9.out,hbz.out⟩
        case measure=>simp[intOf];omega
       ·have h19:¬ (192:Int) < (j:Int):=by omega
        go_wp2_with fail
        refine HO.out.mono ?_
        rintro e w2 ⟨⟨v2,rfl,hv2⟩,hb2⟩
        obtain⟨p9,m9,q9,n9,rfl⟩:=FVal.spelt hv2
        have hB2:=hBh.out.below (bS (bel_laid wr _) hb2)
        have hbn:=h_X (bS hbwh.out (bS (bel_laid wr _) hb2))
        have hN:=h_X (hB2.set hv2)
        have hlw:=h_X (below_set4 (a:=.int .u8 3) (b:=.string ⟨#[]⟩) (c:=.slice p9 Ts.nil.len m9) (d:=.slice q9 (Fs.cons G.op G.n G.ts G.sub .nil).len n9) hbn.out hgle.out)
        obtain⟨a0,a1,⟨p8,c8,a2,q8,d8,a3,-⟩,-⟩:=hB2
        obtain⟨a0,b0⟩:=a0
        obtain⟨a1,b1⟩:=a1
        obtain⟨a2,b2⟩:=a2
        obtain⟨a3,b3⟩:=a3
        clear HO hb2 hv2 x0 x1 x2 x3 hBh hvalh
        have hGG:=h_X (show BX (N1 3 ⟨#[]⟩ G) _ g _ from hN.out)
        go_wp2
        go_roundw
        case rel=>exact⟨j+1,N1 3 ⟨#[]⟩ G,_,rfl,by omega,by rw[N1.size];omega,by rw[N1.wt];omega,N1.open (by decide) hGoh.out,hGG.out,hlw.out⟩
        case measure=>simp[intOf];omega
      ·have hji:¬ (j:Int) < 196:=by omega
       obtain rfl:j=196:=by omega
       have e1001:((G.size:Nat):Int)=1001:=by omega
       have HN:=h_X (refNodes_any G.size G _ wr (Nat.le_refl _) hBh.out.at (by omega))
       rw[e1001] at HN
       go_wp2_with fail
       refine HN.out.mono ?_
       rintro e w3 ⟨rfl,hb3⟩
       have hfin:=h_X (bS hbwh.out hb3)
       clear HN hb3 x0 x1 x2 x3
       go_wp2_with fail
       go_ret
       exact⟨rfl,hfin.out⟩
end Go.Proofs.YtngdieldgnlogaaGreatDoor
