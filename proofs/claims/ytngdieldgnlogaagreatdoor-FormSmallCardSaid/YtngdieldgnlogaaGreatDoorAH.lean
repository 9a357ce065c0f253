/- The law's limits: formulas at the greatest size and depth. -/
import Derived.Test.YtngdieldgnlogaaGreatDoorAI
namespace Go.Proofs.YtngdieldgnlogaaGreatDoor
set_option linter.unusedSimpArgs false
open Go Go.RowKit
set_option maxRecDepth 100000
set_option linter.unusedVariables false
set_option maxHeartbeats 16000000 in
theorem limits_any (w:World) (hrw:Rws w) :
  Calls Tryz.prog 10 #[] w fun e w'=>e=.returned (.bool true)∧Below w.heap.size w w':=by
 have hrwh:=h_X hrw
 clear hrw
 go_enter Tryz.func10,Tryz.ntmps10
 go_wp2_with fail
 refine(atom_all ⟨#[80]⟩ none 0 0 _).mono ?_
 rintro e w1 ⟨rfl,hb1⟩
 go_wp2_with fail
 refine(atom_all ⟨#[80]⟩ none 0 0 _).mono ?_
 rintro e w2 ⟨rfl,hb2⟩
 go_wp2_with fail
 refine(term_all 97 none 0 0 _).mono ?_
 rintro e w3 ⟨⟨tv,rfl⟩,hb3⟩
 have hb:=h_X (bS (bS hb1 hb2) hb3)
 clear hb1 hb2 hb3
 go_wp2_with fail
 have e1:(w3.alloc (.cells #[.int .u8 1,.string ⟨#[80]⟩,.slice none 0 0,.slice none 0 0] 25)).heap.size=w3.heap.size+1:=World.size_alloc _ _
 have e2:((w3.alloc (.cells #[.int .u8 1,.string ⟨#[80]⟩,.slice none 0 0,.slice none 0 0] 25)).alloc (.cells #[.int .u8 1,.string ⟨#[80]⟩,.slice none 0 0,.slice none 0 0] 25)).heap.size=w3.heap.size+1+1:=by rw[World.size_alloc,e1]
 have hbA:=bel_laid w3 (.cells #[.int .u8 1,.string ⟨#[80]⟩,.slice none 0 0,.slice none 0 0] 25)
 have hbB:=bel_laid (w3.alloc (.cells #[.int .u8 1,.string ⟨#[80]⟩,.slice none 0 0,.slice none 0 0] 25)) (.cells #[.int .u8 1,.string ⟨#[80]⟩,.slice none 0 0,.slice none 0 0] 25)
 have hbC:=bel_laid ((w3.alloc (.cells #[.int .u8 1,.string ⟨#[80]⟩,.slice none 0 0,.slice none 0 0] 25)).alloc (.cells #[.int .u8 1,.string ⟨#[80]⟩,.slice none 0 0,.slice none 0 0] 25)) (.cells #[.bool tv,.string ⟨#[97]⟩,.slice none 0 0] 46)
 have q1:=fun i v (h:#[Value.int .u8 1,.string ⟨#[80]⟩,.slice none 0 0,.slice none 0 0][i]? = some v)=>(((lit_wc (W:=w3) (t:=25) h).below hbB).below hbC)
 have q2:=fun i v (h:#[Value.int .u8 1,.string ⟨#[80]⟩,.slice none 0 0,.slice none 0 0][i]? = some v)=>((lit_wc (W:=w3.alloc (.cells #[.int .u8 1,.string ⟨#[80]⟩,.slice none 0 0,.slice none 0 0] 25)) (t:=25) h).below hbC)
 have q3:=fun i v (h:#[Value.bool tv,.string ⟨#[97]⟩,.slice none 0 0][i]? = some v)=>(lit_wc (W:=((w3.alloc (.cells #[.int .u8 1,.string ⟨#[80]⟩,.slice none 0 0,.slice none 0 0] 25)).alloc (.cells #[.int .u8 1,.string ⟨#[80]⟩,.slice none 0 0,.slice none 0 0] 25))) (t:=46) h)
 have hb0:=h_X (bS hb.out (bS hbA (bS hbB hbC)))
 rw[e1] at q2
 rw[e2] at q3
 obtain⟨W0,hW0⟩:∃ W0,(((w3.alloc (.cells #[.int .u8 1,.string ⟨#[80]⟩,.slice none 0 0,.slice none 0 0] 25)).alloc (.cells #[.int .u8 1,.string ⟨#[80]⟩,.slice none 0 0,.slice none 0 0] 25)).alloc (.cells #[.bool tv,.string ⟨#[97]⟩,.slice none 0 0] 46))=W0:=⟨_,rfl⟩
 rw[hW0] at q1 q2 q3 hb0 ⊢
 have hle1:=hb.out.size
 obtain⟨g1,hg1⟩:∃ g,w3.heap.size=g:=⟨_,rfl⟩
 rw[hg1] at q1 q2 q3 hle1 ⊢
 obtain⟨g2,hg2⟩:∃ g,g1+1=g:=⟨_,rfl⟩
 rw[hg2] at q2 q3 ⊢
 obtain⟨g3,hg3⟩:∃ g,g2+1=g:=⟨_,rfl⟩
 rw[hg3] at q3 ⊢
 have hgs:=h_X (show w.heap.size≤g1∧g1 < g2∧g2 < g3 from ⟨hle1,by omega,by omega⟩)
 have hB0:=h_X (show BU (pun W0 g1 g3) (A0 80) (.agg #[.int .u8 1,.string ⟨#[80]⟩,.slice none 0 0,.slice none 0 0]) g1 W0 from ⟨q1 0 _ rfl,q1 1 _ rfl,⟨none,0,q1 2 _ rfl,none,0,q1 3 _ rfl,rfl⟩,A0.val 80 _⟩)
 have hG0:=h_X (show G2 g2 W0 from ⟨q2 0 _ rfl,q2 1 _ rfl,q2 2 _ rfl,q2 3 _ rfl⟩)
 have hT0:=h_X (show TU (pun W0 g1 g3) ⟨tv,⟨#[97]⟩,.nil⟩ (.agg #[.bool tv,.string ⟨#[97]⟩,.slice none 0 0]) g3 W0 from ⟨q3 0 _ rfl,q3 1 _ rfl,none,0,q3 2 _ rfl,rfl,⟨none,0,rfl,.inl rfl⟩⟩)
 clear e1 e2 hbA hbB hbC q1 q2 q3 hW0 hg1 hg2 hg3 hle1 hb
 go_loopw [4] (fun i wr=>∃ (k:Nat) (F:FT) (T:TT) (V VT:Value),i=.int .i64 (k:Int)∧k≤42∧F.size=k+1∧F.wt≤10+10*k∧Opn F∧BU (pun wr g1 g3) F V g1 wr∧TU (pun wr g1 g3) T VT g3 wr∧T.ts.size≤k∧T.n.size+T.ts.wt≤10+10*k∧G2 g2 wr∧Below w.heap.size w wr) (fun i _=>42 - (intOf i).toNat)
 case atStart=>exact⟨0,A0 80,_,_,_,rfl,Nat.zero_le _,rfl,by rw[A0.wt];omega,A0.open 80,hB0.out,hT0.out,Nat.le_refl _,(show (1:Nat)+0≤10+10*0 by decide),hG0.out,hb0.out⟩
 case round =>
  obtain⟨k,F,T,V,VT,rfl,hk42,hFs,hFw,hFo,hB,hT,hTs,hTw,hG,hbw⟩:=hrel
  clear hB0 hG0 hT0 hb0
  have hbwh:=h_X hbw
  have hBh:=h_X hB
  have hTh:=h_X hT
  have hGh:=h_X hG
  have hFoh:=h_X hFo
  clear hbw hFo hG
  obtain⟨y0,y1,⟨pF,cF,y2,qF,dF,y3,rfl⟩,hval⟩:=hB
  obtain⟨z0,z1,⟨pT,cT,z2,rfl,hts⟩⟩:=hT
  have hvalh:=h_X hval
  have htsh:=h_X hts
  have hl1:=y0.lt
  have hl3:=z0.lt
  have x0:=y0.1
  have x1:=y1.1
  have x2:=y2.1
  have x3:=y3.1
  have t0:=z0.1
  have t1:=z1.1
  have t2:=z2.1
  clear y0 y1 y2 y3 z0 z1 z2 hval hts
  by_cases hk:k < 42
  ·have hki:(k:Int) < 42:=by omega
   have hkw:IntKind.i64.wrap ((k:Int)+1)=(k:Int)+1:=IntWalk.i64_in _ (by omega)
   go_wp2_with fail
   have hok:okK [(0,15,fval F (.slice pF F.ts.len cF) (.slice qF F.sub.len dF)),(3,18,.agg #[.bool T.v,.string T.n,.slice pT T.ts.len cT])] [(1,16,(fun v W=>FSl (pun W g1 g3) (.cons F.op F.n F.ts F.sub .nil) v)),(2,17,(fun v W=>FVal (pun W g1 g3) (N1 3 ⟨#[]⟩ F) v)),(4,19,(fun v W=>TSl (pun W g1 g3) (.cons T.v T.n T.ts .nil) v)),(5,20,(fun v W=>TVc (pun W g1 g3) 102 (.cons T.v T.n T.ts .nil) v))]=true:=by kernel_rfl
   refine wp_region_run (by kernel_rfl) 105 [15,16,17,18,19,20] (fun l_ g_ W_=>(l_ 6=false→JK wr (okL hok) (okP hok) l_ g_ W_)∧(l_ 6=true→((l_ 7=false→(∃ V_,BU (pun W_ g1 g3) (N1 3 ⟨#[]⟩ F) V_ g1 W_)∧(∃ V_,TU (pun W_ g1 g3) T V_ g3 W_)∧TVc (pun W_ g1 g3) 102 (.cons T.v T.n T.ts .nil) (g_ 20)∧G2 g2 W_∧Below w.heap.size w W_)∧(l_ 7=true→(∃ V_,BU (pun W_ g1 g3) (N1 3 ⟨#[]⟩ F) V_ g1 W_)∧(∃ (b_:Bool) (V_:Value),TU (pun W_ g1 g3) ⟨b_,⟨#[102]⟩,(.cons T.v T.n T.ts .nil)⟩ V_ g3 W_)∧G2 g2 W_∧Below w.heap.size w W_)))) (by kernel_rfl) rfl ⟨fun _=>JK.start _ _,fun h=>by cases h⟩ ?hst7 ?hend7
   case hst7 =>
    have hst:∀ p∈okP hok,Stb p.2.2:=(fun p hp=>by simp only[okP,List.mem_cons,List.not_mem_nil,or_false] at hp;exact hp.elim (fun h=>by subst h;exact fun v W W' hb h=>FSl.below (pun_below hb) h) (fun hp=>hp.elim (fun h=>by subst h;exact fun v W W' hb h=>FVal.below (pun_below hb) h) (fun hp=>hp.elim (fun h=>by subst h;exact fun v W W' hb h=>TSl.below (pun_below hb) h) (fun h=>by subst h;exact fun v W W' hb h=>TVc.ext (Ext.of_below (pun_below hb)) h))))
    refine⟨?_,?_,?_,?_,?_,?_,?_,?_,trivial⟩
    ·rintro l gv W hun xD hcl hJ hg ha hp
     have n0:l 6=false:=off_of (fun e=>hcl 6 0 e (by kernel_rfl)) hun
     have hJ:=hJ.1 n0
     refine' op_val ?h1 ?w1 ?r1 ?K1
     case h1=>rfl
     case w1=>exact rfl
     case r1=>exact(ex_load rfl (eval_tmp ((ha 1 (by kernel_rfl)).trans rfl)) (loadFo (c_B hJ.low x0) (c_B hJ.low x1) (c_B hJ.low x2) (c_B hJ.low x3)))
     case K1=>exact⟨_,hp 15 _ (by kernel_rfl),⟨fun _=>JK.M hok hst hJ 0 rfl,fun h=>nO h n0⟩⟩
    ·rintro l gv W hun xD hcl hJ hg ha hp
     have n0:l 6=false:=off_of (fun e=>hcl 6 1 e (by kernel_rfl)) hun
     have hJ:=hJ.1 n0
     refine' op_val ?h2 ?w2 ?r2 ?K2
     case h2=>rfl
     case w2=>exact rfl
     case r2=>exact(ex_buildSlice rfl (lE (hg 15 (by kernel_rfl)) hJ.lit 0 rfl (xD 0 (by kernel_rfl))) (build_one W _ _ _ _))
     case K2=>exact⟨_,hp 16 _ (by kernel_rfl),⟨fun _=>JK.madeP hok hst hJ (gM 0 rfl) (one_listU (Nat.lt_of_lt_of_le hl1 hJ.low.size) (Nat.lt_of_lt_of_le hl3 hJ.low.size) (FVal.below (pun_below hJ.low) hvalh.out) 25) (bel_laid W _),fun h=>nO h n0⟩⟩
    ·rintro l gv W hun xD hcl hJ hg ha hp
     have n0:l 6=false:=off_of (fun e=>hcl 6 2 e (by kernel_rfl)) hun
     have hJ:=hJ.1 n0
     refine' op_call ?h3 ?w3 ?r3 ?hc3
     case h3=>rfl
     case w3=>exact rfl
     case r3=>exact(ex_call3 (enters_of Tryz.func49 (by kernel_rfl) rfl) rfl rfl rfl (eval_tmp (hg 16 (by kernel_rfl))))
     case hc3 =>
      refine(of_formU 3 ⟨#[]⟩ (.cons F.op F.n F.ts F.sub .nil) _ g1 g3 W (hJ.pr _ (gM 0 rfl) (xD 1 (by kernel_rfl)))).mono ?_
      rintro e W' ⟨⟨v',rfl,hv'⟩,hb⟩
      exact⟨_,rfl,_,hp 17 _ (by kernel_rfl),⟨fun _=>JK.madeP hok hst hJ (gM 1 rfl) hv' hb,fun h=>nO h n0⟩⟩
    ·rintro l gv W hun xD hcl hJ hg ha hp
     have n0:l 6=false:=by
      cases e:l 6 with
      | false=>rfl
      | true=>have c0:=hcl 6 5 e (by kernel_rfl);have c1:=hcl 5 4 c0 (by kernel_rfl);have c2:=hcl 4 3 c1 (by kernel_rfl);rw[hun] at c2;cases c2
     have hJ:=hJ.1 n0
     refine' op_val ?h4 ?w4 ?r4 ?K4
     case h4=>rfl
     case w4=>exact rfl
     case r4=>exact(ex_load rfl (eval_tmp ((ha 3 (by kernel_rfl)).trans rfl)) (loadT46b (c_B hJ.low t0) (c_B hJ.low t1) (c_B hJ.low t2)))
     case K4=>exact⟨_,hp 18 _ (by kernel_rfl),⟨fun _=>JK.M hok hst hJ 1 rfl,fun h=>nO h n0⟩⟩
    ·rintro l gv W hun xD hcl hJ hg ha hp
     have n0:l 6=false:=by
      cases e:l 6 with
      | false=>rfl
      | true=>have c0:=hcl 6 5 e (by kernel_rfl);have c1:=hcl 5 4 c0 (by kernel_rfl);rw[hun] at c1;cases c1
     have hJ:=hJ.1 n0
     refine' op_val ?h5 ?w5 ?r5 ?K5
     case h5=>rfl
     case w5=>exact rfl
     case r5=>exact(ex_buildSlice rfl (lE (hg 18 (by kernel_rfl)) hJ.lit 1 rfl (xD 3 (by kernel_rfl))) (build_t1 W _ _ _))
     case K5=>exact⟨_,hp 19 _ (by kernel_rfl),⟨fun _=>JK.madeP hok hst hJ (gM 2 rfl) (one_termU (Nat.lt_of_lt_of_le hl1 hJ.low.size) (Nat.lt_of_lt_of_le hl3 hJ.low.size) (TSl.below (pun_below hJ.low) htsh.out) 46) (bel_laid W _),fun h=>nO h n0⟩⟩
    ·rintro l gv W hun xD hcl hJ hg ha hp
     have n0:l 6=false:=off_of (fun e=>hcl 6 5 e (by kernel_rfl)) hun
     have hJ:=hJ.1 n0
     refine' op_call ?h6 ?w6 ?r6 ?hc6
     case h6=>rfl
     case w6=>exact rfl
     case r6=>exact(ex_call2 (enters_of Tryz.func48 (by kernel_rfl) rfl) rfl rfl (eval_tmp (hg 19 (by kernel_rfl))))
     case hc6 =>
      refine(term_formU 102 (.cons T.v T.n T.ts .nil) _ g1 g3 W (hJ.pr _ (gM 2 rfl) (xD 4 (by kernel_rfl)))).mono ?_
      rintro e W' ⟨⟨v',rfl,hv'⟩,hb⟩
      exact⟨_,rfl,_,hp 20 _ (by kernel_rfl),⟨fun _=>JK.madeP hok hst hJ (gM 3 rfl) hv' hb,fun h=>nO h n0⟩⟩
    ·rintro l gv W hun xD hcl hJ hg ha hp
     have hJ:=hJ.1 hun
     have h7:l 7=false:=by
      cases e:l 7 with
      | false=>rfl
      | true=>have:=hcl 7 6 e (by kernel_rfl);rw[hun] at this;cases this
     have hP:=(hJ.pr _ (gM 1 rfl) (xD 2 (by kernel_rfl)))
     have hT:=(hJ.pr _ (gM 3 rfl) (xD 5 (by kernel_rfl)))
     obtain⟨p9,m9,q9,n9,e9⟩:=FVal.spelt hP
     rw[e9] at hP
     obtain⟨W',hst,hB',eU,hkp,hbl⟩:=(hBh.out.below hJ.low).set hP
     have hgs':=hgs.out
     exact op_skip rfl rfl (ex_store rfl (eval_tmp ((ha 1 (by kernel_rfl)).trans rfl)) ((eval_tmp (hg 17 (by kernel_rfl))).trans e9) hst) ⟨gv,rfl,⟨fun h=>(by rw[show upd l 6 true 6=true from rfl] at h;cases h),fun _=>⟨fun _=>⟨⟨_,hB'⟩,⟨_,(hTh.out.below hJ.low).keep (by rw[eU];exact fun _ _ _ h=>h) (fun i u hc=>hkp _ _ _ (by omega) hc)⟩,by rw[eU];exact hT,G2.keep (hGh.out.keep fun i u hc=>hc.below hJ.low) (fun i u hc=>hkp _ _ _ (by omega) hc),hbl _ _ (bS hbwh.out hJ.low) hgs'.1⟩,fun h=>(by rw[show upd l 6 true 7=l 7 from rfl,h7] at h;cases h)⟩⟩⟩
    ·rintro l gv W hun xD hcl hJ hg ha hp
     have h6:=xD 6 (by kernel_rfl)
     obtain⟨hBx,⟨VTx,hTUx⟩,hTx,hGx,hbx⟩:=(hJ.2 h6).1 hun
     obtain⟨V9,hBx⟩:=hBx
     obtain⟨b9,p9,m9,e9,hts9⟩:=hTx
     obtain⟨W',hst,hT',eU,hkp,hbl⟩:=TU.set (s:=⟨b9,⟨#[102]⟩,(.cons T.v T.n T.ts .nil)⟩) hTUx hts9
     have hgs':=hgs.out
     exact op_skip rfl rfl (ex_store rfl (eval_tmp ((ha 3 (by kernel_rfl)).trans rfl)) ((eval_tmp (hg 20 (by kernel_rfl))).trans e9) hst) ⟨gv,rfl,⟨fun h=>(by rw[show upd l 7 true 6=l 6 from rfl,h6] at h;cases h),fun _=>⟨fun h=>(by rw[show upd l 7 true 7=true from rfl] at h;cases h),fun _=>⟨⟨V9,hBx.keep (by rw[eU];exact fun _ _ _ h=>h) (fun i u hc=>hkp _ _ _ (by omega) hc)⟩,⟨b9,_,hT'⟩,hGx.keep (fun i u hc=>hkp _ _ _ (by omega) hc),hbl _ _ hbx (by omega)⟩⟩⟩⟩
   case hend7 =>
    rintro ll gv W9 hl hJ
    replace hl:=fun j h=>hl j (of_decide_eq_true h)
    have hfin:=(hJ.2 (hl 6 (by kernel_rfl))).2 (hl 7 (by kernel_rfl))
    clear hJ hl
    simp only[zipV,List.map_cons,List.map_nil,puts,Act.put,List.setIfInBounds_toArray,List.set_cons_succ,List.set_cons_zero]
    obtain⟨u15,hu15⟩:∃ u,gv 15=u:=⟨_,rfl⟩
    rw[hu15]
    clear hu15
    obtain⟨u18,hu18⟩:∃ u,gv 18=u:=⟨_,rfl⟩
    rw[hu18]
    clear hu18
    obtain⟨u16,hu16⟩:∃ u,gv 16=u:=⟨_,rfl⟩
    rw[hu16]
    clear hu16
    obtain⟨u17,hu17⟩:∃ u,gv 17=u:=⟨_,rfl⟩
    rw[hu17]
    clear hu17
    obtain⟨u19,hu19⟩:∃ u,gv 19=u:=⟨_,rfl⟩
    rw[hu19]
    clear hu19
    obtain⟨u20,hu20⟩:∃ u,gv 20=u:=⟨_,rfl⟩
    rw[hu20]
    clear hu20
    obtain⟨⟨V2,hB2⟩,⟨b2,VT2,hT2⟩,hG2,hb2⟩:=hfin
    have hF2s:(N1 3 ⟨#[]⟩ F).size=F.size+1:=N1.size _ _ _
    have hF2w:(N1 3 ⟨#[]⟩ F).wt=F.wt+1:=N1.wt _ _
    have hF2o:=h_X (show Opn (N1 3 ⟨#[]⟩ F) from N1.open (by decide) hFoh.out)
    have hS2s:(Ts.cons T.v T.n T.ts .nil).size=T.ts.size+1:=by simp only[Ts.size]<;>omega
    have hS2w:(Ts.cons T.v T.n T.ts .nil).wt=T.n.size+T.ts.wt+1:=by simp only[Ts.wt]<;>omega
    obtain⟨w8,hw8⟩:∃ w8,W9=w8:=⟨_,rfl⟩
    rw[hw8] at hB2 hT2 hG2 hb2 ⊢
    clear hw8 x0 x1 x2 x3 t0 t1 t2 hBh hTh hGh hbwh hvalh htsh hl1 hl3 hFoh
    generalize N1 3 ⟨#[]⟩ F=F2 at hF2s hF2w hF2o hB2
    generalize Ts.cons T.v T.n T.ts .nil=S2 at hS2s hS2w hT2
    have hB2h:=h_X hB2
    have hT2h:=h_X hT2
    have hG2h:=h_X hG2
    have hb2h:=h_X hb2
    obtain⟨y0,y1,⟨pG,cG,y2,qG,dG,y3,rfl⟩,-⟩:=hB2
    obtain⟨z0,z1,⟨pS,cS,z2,rfl,hts⟩⟩:=hT2
    have htsh:=h_X (show TSl w8 S2 (.slice pS S2.len cS) from TSl.ext (pun_ext _ _ _) hts)
    have x0:=y0.1
    have x1:=y1.1
    have x2:=y2.1
    have x3:=y3.1
    have t0:w8.cell? ⟨g3,0,none⟩=some (.bool b2):=z0.1
    have t1:w8.cell? ⟨g3,1,none⟩=some (.string ⟨#[102]⟩):=z1.1
    have t2:w8.cell? ⟨g3,2,none⟩=some (.slice pS S2.len cS):=z2.1
    clear y0 y1 y2 y3 z0 z1 z2 hts hG2 hb2
    have HA1:=h_X (asks_any F2 _ w8 (hrwh.out.of hb2h.out) hB2h.out.at (by omega) (by omega) hF2o.out)
    go_wp2_with fail
    refine HA1.out.mono ?_
    rintro e w9 ⟨rfl,hb9⟩
    replace t0:=c_B hb9 t0
    replace t1:=c_B hb9 t1
    replace t2:=c_B hb9 t2
    have hts9:=h_X (TSl.below hb9 htsh.out)
    have hb89:=h_X hb9
    clear HA1 hb9 x0 x1 x2 x3
    have HT1:=h_X (atom_form ⟨#[80]⟩ (.cons b2 ⟨#[102]⟩ S2 .nil) _ _ (one_term (b:=b2) (n:=⟨#[102]⟩) hts9.out 46))
    go_wp2_with fail
    refine HT1.out.mono ?_
    rintro e w10 ⟨⟨v10,rfl,hv10⟩,hb10⟩
    obtain⟨r1,s1,r2,s2,rfl⟩:=FVal.spelt hv10
    have hb810:=h_X (bS hb89.out (bS (bel_laid w9 _) hb10))
    have hsA:(FT.mk 1 ⟨#[80]⟩ (.cons b2 ⟨#[102]⟩ S2 .nil) .nil).size≤1000000:=by simp only[FT.size,Fs.size,Ts.size];omega
    have hwA:(FT.mk 1 ⟨#[80]⟩ (.cons b2 ⟨#[102]⟩ S2 .nil) .nil).wt≤4000000:=by
     have e1:(⟨#[80]⟩:ByteArray).size=1:=rfl
     have e2:(⟨#[102]⟩:ByteArray).size=1:=rfl
     simp only[FT.wt,Fs.wt,Ts.wt,e1,e2];omega
    have HA2:=h_X (asks_any _ _ w10 (hrwh.out.of (bS hb2h.out hb810.out)) hv10 hsA hwA (opn_atom _ _))
    clear HT1 hv10 hb10 hb89 hts9
    go_wp2_with fail
    refine HA2.out.mono ?_
    rintro e w11 ⟨rfl,hb11⟩
    have hb811:=h_X (bS hb810.out hb11)
    have hts11:=h_X (TSl.below hb811.out htsh.out)
    have t0:w11.cell? ⟨g3,0,none⟩=some (.bool b2):=(hT2h.out.below hb811.out).c0.1
    have t1:w11.cell? ⟨g3,1,none⟩=some (.string ⟨#[102]⟩):=(hT2h.out.below hb811.out).c1.1
    have t2:w11.cell? ⟨g3,2,none⟩=some (.slice pS S2.len cS):=by
     obtain⟨p',c',h',e',-⟩:=hT2h.out.c2
     simp at e'
     obtain⟨rfl,rfl⟩:=e'
     exact(h'.below hb811.out).1
    clear HA2 hb11 hb810
    have HT2:=h_X (atom_form ⟨#[80]⟩ (.cons b2 ⟨#[102]⟩ S2 .nil) _ _ (one_term (b:=b2) (n:=⟨#[102]⟩) hts11.out 46))
    go_wp2_with fail
    refine HT2.out.mono ?_
    rintro e w12 ⟨⟨v12,rfl,hv12⟩,hb12⟩
    obtain⟨r3,s3,r4,s4,rfl⟩:=FVal.spelt hv12
    have hb812:=h_X (bS hb811.out (bS (bel_laid w11 _) hb12))
    have HT3:=h_X (of_formW 8 ⟨#[120]⟩ _ _ _ (one_listP hv12 25))
    clear HT2 hv12 hb12 t0 t1 t2 hb811
    go_wp2_with fail
    refine HT3.out.mono ?_
    rintro e w13 ⟨⟨v13,rfl,hv13⟩,hb13⟩
    obtain⟨r5,s5,r6,s6,rfl⟩:=FVal.spelt hv13
    have hb813:=h_X (bS hb812.out (bS (bel_laid w12 _) hb13))
    have HA3:=h_X (asks_any _ _ w13 (hrwh.out.of (bS hb2h.out hb813.out)) hv13 (by simp only[FT.size,Fs.size,Ts.size];omega) (by
     have e1:(⟨#[80]⟩:ByteArray).size=1:=rfl
     have e2:(⟨#[102]⟩:ByteArray).size=1:=rfl
     have e3:(⟨#[120]⟩:ByteArray).size=1:=rfl
     simp only[FT.wt,Fs.wt,Ts.wt,e1,e2,e3];omega) (opn_of1 (by decide) (opn_atom _ _)))
    clear HT3 hv13 hb13 hb812
    go_wp2_with fail
    refine HA3.out.mono ?_
    rintro e w14 ⟨rfl,hb14⟩
    have hb814:=bS hb813.out hb14
    have hB14:=h_X (hB2h.out.below hb814)
    have hT14:=h_X (hT2h.out.below hb814)
    have hG14:=h_X (hG2h.out.keep fun i u hc=>hc.below hb814)
    have hbz:=h_X (bS hb2h.out hb814)
    clear HA3 hb14 hb813 hb814 hB2h hT2h hG2h hb2h
    go_wp2
    go_roundw
    case rel=>exact⟨k+1,F2,⟨b2,⟨#[102]⟩,S2⟩,_,_,rfl,by omega,by omega,by omega,hF2o.out,hB14.out,hT14.out,(show S2.size≤k+1 by omega),(show 1+S2.wt≤10+10*(k+1) by omega),hG14.out,hbz.out⟩
    case measure=>simp[intOf];omega
  ·have hki:¬ (k:Int) < 42:=by omega
   have hBX:=h_X (show BX (A0 80) (.agg #[.int .u8 1,.string ⟨#[80]⟩,.slice none 0 0,.slice none 0 0]) g2 wr from ⟨hGh.out.1,hGh.out.2.1,⟨none,0,hGh.out.2.2.1,none,0,hGh.out.2.2.2,rfl⟩,A0.val 80 _⟩)
   clear hBh hTh hGh hFoh hvalh htsh x0 x1 x2 x3 t0 t1 t2 hl1 hl3
   have hgle:w.heap.size≤g2:=by have:=hgs.out;omega
   have hgle:=h_X hgle
   go_wp2_with fail
   go_loopw [5] (fun i wr=>∃ (j:Nat) (G:FT) (V:Value),i=.int .i64 (j:Int)∧j≤7∧G.size+1=2*2 ^ j∧G.wt+1≤3*2 ^ j∧Opn G∧BX G V g2 wr∧(j=0∨∃ G0,G=N2 4 ⟨#[]⟩ G0 G0∧G0.size+1=2 ^ j∧Opn G0∧G0.wt≤G.wt)∧Below w.heap.size w wr) (fun i _=>7 - (intOf i).toNat)
   case atStart=>exact⟨0,A0 80,_,rfl,Nat.zero_le _,rfl,by decide,A0.open 80,hBX.out,.inl rfl,hbwh.out⟩
   case round =>
    obtain⟨j,G,V,rfl,hj7,hGs,hGw,hGo,hB,hG0,hbw⟩:=hrel
    clear hBX hbwh
    have hbwh:=h_X hbw
    have hBh:=h_X hB
    have hGoh:=h_X hGo
    clear hbw hGo
    obtain⟨y0,y1,⟨pF,cF,y2,qF,dF,y3,rfl⟩,hval⟩:=hB
    have hvalh:=h_X hval
    have x0:=y0.1
    have x1:=y1.1
    have x2:=y2.1
    have x3:=y3.1
    clear y0 y1 y2 y3 hval
    by_cases hj:j < 7
    ·have hji:(j:Int) < 7:=by omega
     have hkw:IntKind.i64.wrap ((j:Int)+1)=(j:Int)+1:=IntWalk.i64_in _ (by omega)
     clear hG0
     have HO:=h_X (of_form 4 ⟨#[]⟩ _ _ g2 _ (two_punch hBh.out.lt hvalh.out hvalh.out 25))
     go_wp2_with fail
     refine HO.out.mono ?_
     rintro e w2 ⟨⟨v2,rfl,hv2⟩,hb2⟩
     obtain⟨p9,m9,q9,n9,rfl⟩:=FVal.spelt hv2
     have hB2:=hBh.out.below (bS (bel_laid wr _) hb2)
     have hbn:=h_X (bS hbwh.out (bS (bel_laid wr _) hb2))
     have hN:=h_X (hB2.set hv2)
     have hlw:=h_X (below_set4 (a:=.int .u8 4) (b:=.string ⟨#[]⟩) (c:=.slice p9 Ts.nil.len m9) (d:=.slice q9 (Fs.cons G.op G.n G.ts G.sub (.cons G.op G.n G.ts G.sub .nil)).len n9) hbn.out hgle.out)
     obtain⟨a0,a1,⟨p8,c8,a2,q8,d8,a3,-⟩,-⟩:=hB2
     obtain⟨a0,b0⟩:=a0
     obtain⟨a1,b1⟩:=a1
     obtain⟨a2,b2⟩:=a2
     obtain⟨a3,b3⟩:=a3
     clear HO hb2 hv2 x0 x1 x2 x3 hBh hvalh
     have hGG:=h_X (show BX (N2 4 ⟨#[]⟩ G G) _ g2 _ from hN.out)
     go_wp2
     go_roundw
     case rel=>exact⟨j+1,N2 4 ⟨#[]⟩ G G,_,rfl,by omega,by rw[N2.size,Nat.pow_succ];omega,by rw[N2.wt,Nat.pow_succ];omega,N2.open (by decide) hGoh.out hGoh.out,hGG.out,.inr ⟨G,rfl,by rw[Nat.pow_succ];omega,hGoh.out,by rw[N2.wt];omega⟩,hlw.out⟩
     case measure=>simp[intOf];omega
    ·have hji:¬ (j:Int) < 7:=by omega
     obtain rfl:j=7:=by omega
     obtain⟨G0,hGe,hG0s,hG0o,hG0w⟩:=hG0.resolve_left (by omega)
     have e7:(2:Nat) ^ 7=128:=by decide
     rw[e7] at hGs hGw hG0s
     have hsub:G.sub=.cons G0.op G0.n G0.ts G0.sub (.cons G0.op G0.n G0.ts G0.sub .nil):=by rw[hGe];rfl
     obtain⟨_,_,he,-,hss⟩:=FVal.ext (punch_ext _ _) hvalh.out
     simp at he
     obtain⟨rfl,rfl⟩:=he
     have hlen:G.sub.len=2:=by rw[hsub];rfl
     obtain⟨_,_,hse,hss2⟩:=id hss
     cases hse
     obtain⟨b,o,rfl,hsat⟩:=hss2.resolve_left (by omega)
     rw[hsub] at hsat
     obtain⟨d0,d1,⟨s2,d2,hs2⟩,⟨s3,d3,hs3⟩,-⟩:=hsat
     obtain⟨p5,c5,rfl,-⟩:=id hs2
     obtain⟨p6,c6,rfl,-⟩:=id hs3
     have hv0:=h_X (show FVal wr G0 (fval G0 (.slice p5 G0.ts.len c5) (.slice p6 G0.sub.len c6)) from ⟨_,_,rfl,hs2,hs3⟩)
     have hvG:=h_X (FVal.ext (punch_ext _ _) hvalh.out)
     have hl0:0 < G.sub.len:=by omega
     have hG0oh:=h_X hG0o
     have hGis:=h_X hGe
     have hNs:(N2 6 ⟨#[]⟩ G G0).size+2*8+3=402:=by rw[N2.size];omega
     have hNw:(N2 6 ⟨#[]⟩ G G0).wt≤100000:=by rw[N2.wt];omega
     clear hGe hG0 hsub hss hss2 hs2 hs3 hvalh hBh hG0o hlen
     go_wp2_with fail
     have hok:okK [(0,48,fval G (.slice pF G.ts.len cF) (.slice (some ⟨b,o,none⟩) G.sub.len dF)),(1,49,.pointer (some ⟨g2,3,none⟩)),(2,50,.slice (some ⟨b,o,none⟩) G.sub.len dF),(3,51,.pointer (some ⟨b,o,none⟩)),(4,52,fval G0 (.slice p5 G0.ts.len c5) (.slice p6 G0.sub.len c6)),(7,55,.bool true),(8,56,.bool false)] [(5,53,(fun v W=>FSl W (.cons G.op G.n G.ts G.sub (.cons G0.op G0.n G0.ts G0.sub .nil)) v)),(6,54,(fun v W=>FVal W (N2 6 ⟨#[]⟩ G G0) v))]=true:=by kernel_rfl
     refine wp_region_run (by kernel_rfl) 105 [48,49,50,51,52,53,54,55,56] (JK wr (okL hok) (okP hok)) (by kernel_rfl) rfl (JK.start _ _) ?hst16 ?hend16
     case hst16 =>
      have hst:∀ p∈okP hok,Stb p.2.2:=(fun p hp=>by simp only[okP,List.mem_cons,List.not_mem_nil,or_false] at hp;exact hp.elim (fun h=>by subst h;exact fun v W W' hb h=>FSl.below hb h) (fun h=>by subst h;exact fun v W W' hb h=>FVal.below hb h))
      refine⟨?_,?_,?_,?_,?_,?_,?_,?_,?_,trivial⟩
      ·rintro l gv W hun xD hcl hJ hg ha hp
       refine' op_val ?h8 ?w8 ?r8 ?K8
       case h8=>rfl
       case w8=>exact rfl
       case r8=>exact(ex_load rfl (eval_tmp ((ha 2 (by kernel_rfl)).trans rfl)) (loadFo (c_B hJ.low x0) (c_B hJ.low x1) (c_B hJ.low x2) (c_B hJ.low x3)))
       case K8=>exact⟨_,hp 48 _ (by kernel_rfl),JK.M hok hst hJ 0 rfl⟩
      ·rintro l gv W hun xD hcl hJ hg ha hp
       refine' op_val ?h9 ?w9 ?r9 ?K9
       case h9=>rfl
       case w9=>exact rfl
       case r9=>exact(ex_field rfl (eval_tmp ((ha 2 (by kernel_rfl)).trans rfl)) f25_3)
       case K9=>exact⟨_,hp 49 _ (by kernel_rfl),JK.M hok hst hJ 1 rfl⟩
      ·rintro l gv W hun xD hcl hJ hg ha hp
       refine' op_val ?h10 ?w10 ?r10 ?K10
       case h10=>rfl
       case w10=>exact rfl
       case r10=>exact(ex_load rfl (lE (hg 49 (by kernel_rfl)) hJ.lit 1 rfl (xD 1 (by kernel_rfl))) (loadFs (c_B hJ.low x3)))
       case K10=>exact⟨_,hp 50 _ (by kernel_rfl),JK.M hok hst hJ 2 rfl⟩
      ·rintro l gv W hun xD hcl hJ hg ha hp
       refine' op_val ?h11 ?w11 ?r11 ?K11
       case h11=>rfl
       case w11=>exact rfl
       case r11=>exact(ex_indexAddr rfl (lE (hg 50 (by kernel_rfl)) hJ.lit 2 rfl (xD 2 (by kernel_rfl))) rfl (index0 hl0))
       case K11=>exact⟨_,hp 51 _ (by kernel_rfl),JK.M hok hst hJ 3 rfl⟩
      ·rintro l gv W hun xD hcl hJ hg ha hp
       refine' op_val ?h12 ?w12 ?r12 ?K12
       case h12=>rfl
       case w12=>exact rfl
       case r12=>exact(ex_load rfl (lE (hg 51 (by kernel_rfl)) hJ.lit 3 rfl (xD 3 (by kernel_rfl))) (loadFo (c_B hJ.low d0) (c_B hJ.low d1) (c_B hJ.low d2) (c_B hJ.low d3)))
       case K12=>exact⟨_,hp 52 _ (by kernel_rfl),JK.M hok hst hJ 4 rfl⟩
      ·rintro l gv W hun xD hcl hJ hg ha hp
       refine' op_val ?h13 ?w13 ?r13 ?K13
       case h13=>rfl
       case w13=>exact rfl
       case r13=>exact(ex_buildSlice2 rfl (lE (hg 48 (by kernel_rfl)) hJ.lit 0 rfl (xD 0 (by kernel_rfl))) (lE (hg 52 (by kernel_rfl)) hJ.lit 4 rfl (xD 4 (by kernel_rfl))) (build_two W _ _ _ _ _ _ _ _))
       case K13=>exact⟨_,hp 53 _ (by kernel_rfl),JK.madeP hok hst hJ (gM 0 rfl) (two_list (FVal.below hJ.low hvG.out) (FVal.below hJ.low hv0.out) 25) (bel_laid W _)⟩
      ·rintro l gv W hun xD hcl hJ hg ha hp
       refine' op_call ?h14 ?w14 ?r14 ?hc14
       case h14=>rfl
       case w14=>exact rfl
       case r14=>exact(ex_call3 (enters_of Tryz.func49 (by kernel_rfl) rfl) rfl rfl rfl (eval_tmp (hg 53 (by kernel_rfl))))
       case hc14 =>
        refine(of_formW 6 ⟨#[]⟩ (.cons G.op G.n G.ts G.sub (.cons G0.op G0.n G0.ts G0.sub .nil)) _ W (hJ.pr _ (gM 0 rfl) (xD 5 (by kernel_rfl)))).mono ?_
        rintro e W' ⟨⟨v',rfl,hv'⟩,hb⟩
        exact⟨_,rfl,_,hp 54 _ (by kernel_rfl),JK.madeP hok hst hJ (gM 1 rfl) hv' hb⟩
      ·rintro l gv W hun xD hcl hJ hg ha hp
       refine' op_call ?h15 ?w15 ?r15 ?hc15
       case h15=>rfl
       case w15=>exact rfl
       case r15=>exact(ex_call2 (enters_of Tryz.func52 (by kernel_rfl) rfl) rfl (eval_tmp (hg 54 (by kernel_rfl))) rfl)
       case hc15 =>
        refine(grows_any (N2 6 ⟨#[]⟩ G G0) 8 _ W (hrwh.out.of (bS hbwh.out hJ.low)) (hJ.pr _ (gM 1 rfl) (xD 6 (by kernel_rfl))) hNs hNw (N2.open (by decide) hGoh.out hG0oh.out)).mono ?_
        rintro e W' ⟨rfl,hb⟩
        exact⟨_,rfl,_,hp 55 _ (by kernel_rfl),JK.made hok hst hJ (gM 5 rfl) hb⟩
      ·rintro l gv W hun xD hcl hJ hg ha hp
       refine' op_val ?h16 ?w16 ?r16 ?K16
       case h16=>rfl
       case w16=>exact rfl
       case r16=>exact(ex_not rfl (lE (hg 55 (by kernel_rfl)) hJ.lit 5 rfl (xD 7 (by kernel_rfl))))
       case K16=>exact⟨_,hp 56 _ (by kernel_rfl),JK.M hok hst hJ 6 rfl⟩
     case hend16 =>
      rintro ll gv W9 hl hJ
      replace hl:=fun j h=>hl j (of_decide_eq_true h)
      have e48:=lT hJ.lit 0 rfl (hl 0 (by kernel_rfl))
      have e49:=lT hJ.lit 1 rfl (hl 1 (by kernel_rfl))
      have e50:=lT hJ.lit 2 rfl (hl 2 (by kernel_rfl))
      have e51:=lT hJ.lit 3 rfl (hl 3 (by kernel_rfl))
      have e52:=lT hJ.lit 4 rfl (hl 4 (by kernel_rfl))
      have e55:=lT hJ.lit 5 rfl (hl 7 (by kernel_rfl))
      have e56:=lT hJ.lit 6 rfl (hl 8 (by kernel_rfl))
      simp only[zipV,List.map_cons,List.map_nil,puts,Act.put,List.setIfInBounds_toArray,List.set_cons_succ,List.set_cons_zero,e48,e49,e50,e51,e52,e55,e56]
      have hlow:=h_X hJ.low
      clear e48 e49 e50 e51 e52 e55 e56 hJ hl
      obtain⟨u53,hu53⟩:∃ u,gv 53=u:=⟨_,rfl⟩
      rw[hu53]
      clear hu53
      obtain⟨u54,hu54⟩:∃ u,gv 54=u:=⟨_,rfl⟩
      rw[hu54]
      clear hu54
      obtain⟨w20,hw20⟩:∃ w20,W9=w20:=⟨_,rfl⟩
      rw[hw20] at hlow ⊢
      have hb20:=h_X (bS hbwh.out hlow.out)
      clear hw20 hlow x0 x1 x2 x3 d0 d1 d2 d3 hv0 hvG hbwh hGis hGoh hG0oh hgle
      go_wp2_with fail
      obtain⟨i0,hi,hz0,hz1,hz2⟩:=info_parts info50
      go_loopw [6,7] (fun out i wr=>∃ (j:Nat) (xs:List Value) (ts:Ts),i=.int .i64 (j:Int)∧j≤4∧ts.size=21*j∧ts.len=j∧ts.wt≤100*j∧wr.ownsRow w20.heap.size 46 3 out j (flatT xs)∧(∀ r,out.ownBlock=some r→TL (punch wr r) xs ts)∧(out.ownBlock=none→xs=[]∧ts=.nil)∧Below w20.heap.size w20 wr) (fun _ i _=>4 - (intOf i).toNat)
      case atStart=>exact⟨0,[],.nil,rfl,Nat.zero_le _,rfl,rfl,Nat.le_refl _,World.ownsRow_nil _ _ _ _,(fun r h=>by cases h),(fun _=>⟨rfl,rfl⟩),Below.refl _ _⟩
      case round =>
       obtain⟨j,xs,ts,rfl,hj4,hts,htl,htw,hown,hTL,hTN,hbw⟩:=hrel
       have hbwh:=h_X hbw
       have hownh:=h_X hown
       have hTLh:=h_X hTL
       have hTNh:=h_X hTN
       clear hbw hown hTL hTN
       by_cases hj:j < 4
       ·have hji:(j:Int) < 4:=by omega
        have hkw:IntKind.i64.wrap ((j:Int)+1)=(j:Int)+1:=IntWalk.i64_in _ (by omega)
        have hbx0:=h_X (Below.refl wr.heap.size wr)
        go_wp2_with fail
        refine(term_all 97 none 0 0 _).mono ?_
        rintro e v1 ⟨⟨b11,rfl⟩,hbz⟩
        have hbx1:=h_X (bS hbx0.out hbz)
        clear hbz hbx0
        go_wp2_with fail
        refine(term_all 98 none 0 0 _).mono ?_
        rintro e v2 ⟨⟨b12,rfl⟩,hbz⟩
        have hbx2:=h_X (bS hbx1.out hbz)
        clear hbz hbx1
        go_wp2_with fail
        refine(term_all 99 none 0 0 _).mono ?_
        rintro e v3 ⟨⟨b13,rfl⟩,hbz⟩
        have hbx3:=h_X (bS hbx2.out hbz)
        clear hbz hbx2
        go_wp2_with fail
        refine(term_all 100 none 0 0 _).mono ?_
        rintro e v4 ⟨⟨b14,rfl⟩,hbz⟩
        have hbx4:=h_X (bS hbx3.out hbz)
        clear hbz hbx3
        have HTx:=h_X (term_formH 104 _ _ wr.heap.size _ (four_termsH hbx4.out.size (b1:=b11) (b2:=b12) (b3:=b13) (b4:=b14) (n1:=⟨#[97]⟩) (n2:=⟨#[98]⟩) (n3:=⟨#[99]⟩) (n4:=⟨#[100]⟩) (nil_terms _) (nil_terms _) (nil_terms _) (nil_terms _) 46))
        go_wp2_with fail
        refine HTx.out.mono ?_
        rintro e v5 ⟨⟨vx,rfl,bh1,ph1,ch1,rfl,hth1⟩,hbz⟩
        have hth1h:=h_X hth1
        have hbx5:=h_X (bS hbx4.out (bS (bel_laid v4 _) hbz))
        clear HTx hbz hth1 hbx4
        go_wp2_with fail
        refine(term_all 97 none 0 0 _).mono ?_
        rintro e v6 ⟨⟨b21,rfl⟩,hbz⟩
        have hbx6:=h_X (bS hbx5.out hbz)
        have hth1h:=h_X (TSl.below (hideLow_below hbz) hth1h.out)
        clear hbz hbx5
        go_wp2_with fail
        refine(term_all 98 none 0 0 _).mono ?_
        rintro e v7 ⟨⟨b22,rfl⟩,hbz⟩
        have hbx7:=h_X (bS hbx6.out hbz)
        have hth1h:=h_X (TSl.below (hideLow_below hbz) hth1h.out)
        clear hbz hbx6
        go_wp2_with fail
        refine(term_all 99 none 0 0 _).mono ?_
        rintro e v8 ⟨⟨b23,rfl⟩,hbz⟩
        have hbx8:=h_X (bS hbx7.out hbz)
        have hth1h:=h_X (TSl.below (hideLow_below hbz) hth1h.out)
        clear hbz hbx7
        go_wp2_with fail
        refine(term_all 100 none 0 0 _).mono ?_
        rintro e v9 ⟨⟨b24,rfl⟩,hbz⟩
        have hbx9:=h_X (bS hbx8.out hbz)
        have hth1h:=h_X (TSl.below (hideLow_below hbz) hth1h.out)
        clear hbz hbx8
        have HTx:=h_X (term_formH 104 _ _ wr.heap.size _ (four_termsH hbx9.out.size (b1:=b21) (b2:=b22) (b3:=b23) (b4:=b24) (n1:=⟨#[97]⟩) (n2:=⟨#[98]⟩) (n3:=⟨#[99]⟩) (n4:=⟨#[100]⟩) (nil_terms _) (nil_terms _) (nil_terms _) (nil_terms _) 46))
        go_wp2_with fail
        refine HTx.out.mono ?_
        rintro e v10 ⟨⟨vx,rfl,bh2,ph2,ch2,rfl,hth2⟩,hbz⟩
        have hth2h:=h_X hth2
        have hbx10:=h_X (bS hbx9.out (bS (bel_laid v9 _) hbz))
        have hth1h:=h_X (TSl.below (hideLow_below (bS (bel_laid v9 _) hbz)) hth1h.out)
        clear HTx hbz hth2 hbx9
        go_wp2_with fail
        refine(term_all 97 none 0 0 _).mono ?_
        rintro e v11 ⟨⟨b31,rfl⟩,hbz⟩
        have hbx11:=h_X (bS hbx10.out hbz)
        have hth1h:=h_X (TSl.below (hideLow_below hbz) hth1h.out)
        have hth2h:=h_X (TSl.below (hideLow_below hbz) hth2h.out)
        clear hbz hbx10
        go_wp2_with fail
        refine(term_all 98 none 0 0 _).mono ?_
        rintro e v12 ⟨⟨b32,rfl⟩,hbz⟩
        have hbx12:=h_X (bS hbx11.out hbz)
        have hth1h:=h_X (TSl.below (hideLow_below hbz) hth1h.out)
        have hth2h:=h_X (TSl.below (hideLow_below hbz) hth2h.out)
        clear hbz hbx11
        go_wp2_with fail
        refine(term_all 99 none 0 0 _).mono ?_
        rintro e v13 ⟨⟨b33,rfl⟩,hbz⟩
        have hbx13:=h_X (bS hbx12.out hbz)
        have hth1h:=h_X (TSl.below (hideLow_below hbz) hth1h.out)
        have hth2h:=h_X (TSl.below (hideLow_below hbz) hth2h.out)
        clear hbz hbx12
        go_wp2_with fail
        refine(term_all 100 none 0 0 _).mono ?_
        rintro e v14 ⟨⟨b34,rfl⟩,hbz⟩
        have hbx14:=h_X (bS hbx13.out hbz)
        have hth1h:=h_X (TSl.below (hideLow_below hbz) hth1h.out)
        have hth2h:=h_X (TSl.below (hideLow_below hbz) hth2h.out)
        clear hbz hbx13
        have HTx:=h_X (term_formH 104 _ _ wr.heap.size _ (four_termsH hbx14.out.size (b1:=b31) (b2:=b32) (b3:=b33) (b4:=b34) (n1:=⟨#[97]⟩) (n2:=⟨#[98]⟩) (n3:=⟨#[99]⟩) (n4:=⟨#[100]⟩) (nil_terms _) (nil_terms _) (nil_terms _) (nil_terms _) 46))
        go_wp2_with fail
        refine HTx.out.mono ?_
        rintro e v15 ⟨⟨vx,rfl,bh3,ph3,ch3,rfl,hth3⟩,hbz⟩
        have hth3h:=h_X hth3
        have hbx15:=h_X (bS hbx14.out (bS (bel_laid v14 _) hbz))
        have hth1h:=h_X (TSl.below (hideLow_below (bS (bel_laid v14 _) hbz)) hth1h.out)
        have hth2h:=h_X (TSl.below (hideLow_below (bS (bel_laid v14 _) hbz)) hth2h.out)
        clear HTx hbz hth3 hbx14
        go_wp2_with fail
        refine(term_all 97 none 0 0 _).mono ?_
        rintro e v16 ⟨⟨b41,rfl⟩,hbz⟩
        have hbx16:=h_X (bS hbx15.out hbz)
        have hth1h:=h_X (TSl.below (hideLow_below hbz) hth1h.out)
        have hth2h:=h_X (TSl.below (hideLow_below hbz) hth2h.out)
        have hth3h:=h_X (TSl.below (hideLow_below hbz) hth3h.out)
        clear hbz hbx15
        go_wp2_with fail
        refine(term_all 98 none 0 0 _).mono ?_
        rintro e v17 ⟨⟨b42,rfl⟩,hbz⟩
        have hbx17:=h_X (bS hbx16.out hbz)
        have hth1h:=h_X (TSl.below (hideLow_below hbz) hth1h.out)
        have hth2h:=h_X (TSl.below (hideLow_below hbz) hth2h.out)
        have hth3h:=h_X (TSl.below (hideLow_below hbz) hth3h.out)
        clear hbz hbx16
        go_wp2_with fail
        refine(term_all 99 none 0 0 _).mono ?_
        rintro e v18 ⟨⟨b43,rfl⟩,hbz⟩
        have hbx18:=h_X (bS hbx17.out hbz)
        have hth1h:=h_X (TSl.below (hideLow_below hbz) hth1h.out)
        have hth2h:=h_X (TSl.below (hideLow_below hbz) hth2h.out)
        have hth3h:=h_X (TSl.below (hideLow_below hbz) hth3h.out)
        clear hbz hbx17
        go_wp2_with fail
        refine(term_all 100 none 0 0 _).mono ?_
        rintro e v19 ⟨⟨b44,rfl⟩,hbz⟩
        have hbx19:=h_X (bS hbx18.out hbz)
        have hth1h:=h_X (TSl.below (hideLow_below hbz) hth1h.out)
        have hth2h:=h_X (TSl.below (hideLow_below hbz) hth2h.out)
        have hth3h:=h_X (TSl.below (hideLow_below hbz) hth3h.out)
        clear hbz hbx18
        have HTx:=h_X (term_formH 104 _ _ wr.heap.size _ (four_termsH hbx19.out.size (b1:=b41) (b2:=b42) (b3:=b43) (b4:=b44) (n1:=⟨#[97]⟩) (n2:=⟨#[98]⟩) (n3:=⟨#[99]⟩) (n4:=⟨#[100]⟩) (nil_terms _) (nil_terms _) (nil_terms _) (nil_terms _) 46))
        go_wp2_with fail
        refine HTx.out.mono ?_
        rintro e v20 ⟨⟨vx,rfl,bh4,ph4,ch4,rfl,hth4⟩,hbz⟩
        have hth4h:=h_X hth4
        have hbx20:=h_X (bS hbx19.out (bS (bel_laid v19 _) hbz))
        have hth1h:=h_X (TSl.below (hideLow_below (bS (bel_laid v19 _) hbz)) hth1h.out)
        have hth2h:=h_X (TSl.below (hideLow_below (bS (bel_laid v19 _) hbz)) hth2h.out)
        have hth3h:=h_X (TSl.below (hideLow_below (bS (bel_laid v19 _) hbz)) hth3h.out)
        clear HTx hbz hth4 hbx19
        have HTx:=h_X (term_formH 103 _ _ wr.heap.size _ (four_termsH hbx20.out.size (b1:=bh1) (b2:=bh2) (b3:=bh3) (b4:=bh4) (n1:=⟨#[104]⟩) (n2:=⟨#[104]⟩) (n3:=⟨#[104]⟩) (n4:=⟨#[104]⟩) hth1h.out hth2h.out hth3h.out hth4h.out 46))
        go_wp2_with fail
        refine HTx.out.mono ?_
        rintro e v21 ⟨⟨vx,rfl,bg,pg,cg,rfl,htg⟩,hbz⟩
        have htgh:=h_X htg
        have hbx:=h_X (bS hbx20.out (bS (bel_laid v20 _) hbz))
        clear HTx hbz htg hbx20 hth1h hth2h hth3h hth4h
        have e1:(⟨#[97]⟩:ByteArray).size=1:=rfl
        have e2:(⟨#[98]⟩:ByteArray).size=1:=rfl
        have e3:(⟨#[99]⟩:ByteArray).size=1:=rfl
        have e4:(⟨#[100]⟩:ByteArray).size=1:=rfl
        have e5:(⟨#[104]⟩:ByteArray).size=1:=rfl
        have hSs:(Ts.cons bh1 ⟨#[104]⟩ (Ts.cons b11 ⟨#[97]⟩ .nil (.cons b12 ⟨#[98]⟩ .nil (.cons b13 ⟨#[99]⟩ .nil (.cons b14 ⟨#[100]⟩ .nil .nil)))) (.cons bh2 ⟨#[104]⟩ (Ts.cons b21 ⟨#[97]⟩ .nil (.cons b22 ⟨#[98]⟩ .nil (.cons b23 ⟨#[99]⟩ .nil (.cons b24 ⟨#[100]⟩ .nil .nil)))) (.cons bh3 ⟨#[104]⟩ (Ts.cons b31 ⟨#[97]⟩ .nil (.cons b32 ⟨#[98]⟩ .nil (.cons b33 ⟨#[99]⟩ .nil (.cons b34 ⟨#[100]⟩ .nil .nil)))) (.cons bh4 ⟨#[104]⟩ (Ts.cons b41 ⟨#[97]⟩ .nil (.cons b42 ⟨#[98]⟩ .nil (.cons b43 ⟨#[99]⟩ .nil (.cons b44 ⟨#[100]⟩ .nil .nil)))) .nil)))).size=20:=by simp only[Ts.size]
        have hSw:(Ts.cons bh1 ⟨#[104]⟩ (Ts.cons b11 ⟨#[97]⟩ .nil (.cons b12 ⟨#[98]⟩ .nil (.cons b13 ⟨#[99]⟩ .nil (.cons b14 ⟨#[100]⟩ .nil .nil)))) (.cons bh2 ⟨#[104]⟩ (Ts.cons b21 ⟨#[97]⟩ .nil (.cons b22 ⟨#[98]⟩ .nil (.cons b23 ⟨#[99]⟩ .nil (.cons b24 ⟨#[100]⟩ .nil .nil)))) (.cons bh3 ⟨#[104]⟩ (Ts.cons b31 ⟨#[97]⟩ .nil (.cons b32 ⟨#[98]⟩ .nil (.cons b33 ⟨#[99]⟩ .nil (.cons b34 ⟨#[100]⟩ .nil .nil)))) (.cons bh4 ⟨#[104]⟩ (Ts.cons b41 ⟨#[97]⟩ .nil (.cons b42 ⟨#[98]⟩ .nil (.cons b43 ⟨#[99]⟩ .nil (.cons b44 ⟨#[100]⟩ .nil .nil)))) .nil)))).wt≤60:=by simp only[Ts.wt,e1,e2,e3,e4,e5];decide
        generalize (Ts.cons bh1 ⟨#[104]⟩ (Ts.cons b11 ⟨#[97]⟩ .nil (.cons b12 ⟨#[98]⟩ .nil (.cons b13 ⟨#[99]⟩ .nil (.cons b14 ⟨#[100]⟩ .nil .nil)))) (.cons bh2 ⟨#[104]⟩ (Ts.cons b21 ⟨#[97]⟩ .nil (.cons b22 ⟨#[98]⟩ .nil (.cons b23 ⟨#[99]⟩ .nil (.cons b24 ⟨#[100]⟩ .nil .nil)))) (.cons bh3 ⟨#[104]⟩ (Ts.cons b31 ⟨#[97]⟩ .nil (.cons b32 ⟨#[98]⟩ .nil (.cons b33 ⟨#[99]⟩ .nil (.cons b34 ⟨#[100]⟩ .nil .nil)))) (.cons bh4 ⟨#[104]⟩ (Ts.cons b41 ⟨#[97]⟩ .nil (.cons b42 ⟨#[98]⟩ .nil (.cons b43 ⟨#[99]⟩ .nil (.cons b44 ⟨#[100]⟩ .nil .nil)))) .nil))))=S at hSs hSw htgh ⊢
        clear e1 e2 e3 e4 e5
        have hbl:=bel_laid v21 (.cells #[.bool bg,.string ⟨#[103]⟩,.slice pg S.len cg] 46)
        have hB:=h_X (bS hbwh.out (bS hbx.out hbl))
        have hoh:=h_X (owns_below (bS hbx.out hbl) hownh.out)
        have hlt2:∀ g',u6.ownBlock=some g'→w20.heap.size≤g'∧g' < (v21.alloc (.cells #[.bool bg,.string ⟨#[103]⟩,.slice pg S.len cg] 46)).heap.size:=hoh.out.lt
        have hszv:w20.heap.size≤v21.heap.size:=by have h1:=(bS hbwh.out hbx.out).size;exact h1
        have htg2:=h_X (TSl.below (hideLow_below hbl) htgh.out)
        have hlt3:∀ r,u6.ownBlock=some r→r < wr.heap.size:=fun r h=>(hownh.out.lt r h).2
        have hlt3h:=h_X hlt3
        have hbv21:=h_X (bS hbx.out hbl)
        clear hbl hownh htgh hlt3
        go_wp2_with (at_builtin;refine wpList_append_own_at _ rfl _ _ 22 rfl w20.heap.size 46 i0 (.agg #[.bool false,.string ⟨#[]⟩,.slice none 0 0]) 3 48 Tryz.underlying22 hi hz0 hz1 hz2 rfl (by decide) _ _ _ rfl hoh.out ⟨v21.heap.size,0,none⟩ 1 1 [.bool bg,.string ⟨#[103]⟩,.slice pg S.len cg] rfl rfl ?ca1 ?ca2 ?ca3 ?ca4 ?ca5 ?_)
        (try case ca1=>intro j' u hu;rw[Addr.add_lit,Nat.zero_add,World.cell?_alloc_new];simpa using hu)
        case ca2=>first | exact⟨rfl,rfl,rfl⟩ | (intro u hu;simp at hu;rcases hu with rfl | rfl | rfl<;>rfl)
        case ca3=>unfold maxLen;omega
        case ca4=>omega
        case ca5=>first | omega | (rw[World.size_alloc];omega)
        intro vv v99 hown1 hgrow _ hob
        have hb99:=h_X (show Below w20.heap.size w20 v99 from hB.out.grown hgrow hB.out.size (fun g' e=>(hlt2 g' e).1))
        have hO:=h_X (show v99.ownsRow w20.heap.size 46 3 vv (j+1) (flatT (xs ++ [.agg #[.bool bg,.string ⟨#[103]⟩,.slice pg S.len cg]])) by rw[flatT_snoc];exact hown1)
        have hTS:=h_X (tl_step (n:=⟨#[103]⟩) (b:=bg) hbv21.out hlt3h.out hTLh.out hTNh.out htg2.out hgrow (by first | exact hob | (rw[World.size_alloc];exact hob)))
        have hNo:=h_X (show vv.ownBlock=none→xs ++ [Value.agg #[.bool bg,.string ⟨#[103]⟩,.slice pg S.len cg]]=[]∧ts.app (.cons bg ⟨#[103]⟩ S .nil)=.nil from fun h=>by
         obtain⟨-,⟨-,hz⟩ | ⟨g',cap,cur,rfl,-⟩⟩:=hO.out
         ·omega
         ·cases h)
        clear hown1 hgrow hob hoh hlt2 hB hszv hbv21 htg2 hlt3h hTLh hTNh hbwh hbx
        go_wp2
        go_roundw
        case rel =>
         have r1:(ts.app (.cons bg ⟨#[103]⟩ S .nil)).size=21*(j+1):=by rw[Ts.app_size];simp only[Ts.size];omega
         have r2:(ts.app (.cons bg ⟨#[103]⟩ S .nil)).len=j+1:=by rw[Ts.app_len];simp only[Ts.len];omega
         have r3:(ts.app (.cons bg ⟨#[103]⟩ S .nil)).wt≤100*(j+1):=by
          have e6:(⟨#[103]⟩:ByteArray).size=1:=rfl
          rw[Ts.app_wt];simp only[Ts.wt,e6];omega
         exact⟨j+1,_,ts.app (.cons bg ⟨#[103]⟩ S .nil),rfl,by omega,r1,r2,r3,hO.out,hTS.out,hNo.out,hb99.out⟩
        case measure=>simp[intOf];omega
       ·have hji:¬ (j:Int) < 4:=by omega
        obtain rfl:j=4:=by omega
        have hTsl:=h_X (show TSl wr ts u6 from by
         obtain⟨-,⟨-,hz⟩ | ⟨g',cap,cur,e,-⟩⟩:=id hownh.out
         ·omega
         ·exact TSl.of_owns htl hownh.out (TL.ext (punch_ext _ _) (hTLh.out g' (by rw[e];rfl))))
        have htlh:=h_X htl
        clear hownh hTLh hTNh htl
        have hbx0:=h_X (Below.refl wr.heap.size wr)
        have HA1:=h_X (atom_form ⟨#[80]⟩ ts _ wr hTsl.out)
        go_wp2_with fail
        refine HA1.out.mono ?_
        rintro e a1 ⟨⟨q1,rfl,hq1⟩,hc1⟩
        obtain⟨l1,m1,l2,m2,rfl⟩:=FVal.spelt hq1
        have hq1h:=h_X hq1
        have hc1h:=h_X hc1
        clear HA1 hq1 hc1
        have HA2:=h_X (atom_form ⟨#[81]⟩ ts _ a1 (TSl.below hc1h.out hTsl.out))
        go_wp2_with fail
        refine HA2.out.mono ?_
        rintro e a2 ⟨⟨q2,rfl,hq2⟩,hc2⟩
        obtain⟨l3,m3,l4,m4,rfl⟩:=FVal.spelt hq2
        have hq2h:=h_X hq2
        have hq1h:=h_X (FVal.below hc2 hq1h.out)
        have hc2h:=h_X (bS hc1h.out hc2)
        clear HA2 hq2 hc2 hc1h
        have HA3:=h_X (of_formW 4 ⟨#[]⟩ _ _ _ (two_list hq1h.out hq2h.out 25))
        go_wp2_with fail
        refine HA3.out.mono ?_
        rintro e a3 ⟨⟨q3,rfl,hq3⟩,hc3⟩
        obtain⟨l5,m5,l6,m6,rfl⟩:=FVal.spelt hq3
        have hq3h:=h_X hq3
        have hc3h:=h_X (bS hc2h.out (bS (bel_laid a2 _) hc3))
        clear HA3 hq3 hc3 hc2h hq1h hq2h
        have HA4:=h_X (atom_form ⟨#[82]⟩ ts _ a3 (TSl.below hc3h.out hTsl.out))
        go_wp2_with fail
        refine HA4.out.mono ?_
        rintro e a4 ⟨⟨q4,rfl,hq4⟩,hc4⟩
        obtain⟨l7,m7,l8,m8,rfl⟩:=FVal.spelt hq4
        have hq4h:=h_X hq4
        have hq3h:=h_X (FVal.below hc4 hq3h.out)
        have hc4h:=h_X (bS hc3h.out hc4)
        clear HA4 hq4 hc4 hc3h
        have HA5:=h_X (atom_form ⟨#[83]⟩ ts _ a4 (TSl.below hc4h.out hTsl.out))
        go_wp2_with fail
        refine HA5.out.mono ?_
        rintro e a5 ⟨⟨q5,rfl,hq5⟩,hc5⟩
        obtain⟨l9,m9,la,ma,rfl⟩:=FVal.spelt hq5
        have hq5h:=h_X hq5
        have hq4h:=h_X (FVal.below hc5 hq4h.out)
        have hq3h:=h_X (FVal.below hc5 hq3h.out)
        have hc5h:=h_X (bS hc4h.out hc5)
        clear HA5 hq5 hc5 hc4h
        have HA6:=h_X (of_formW 4 ⟨#[]⟩ _ _ _ (two_list hq4h.out hq5h.out 25))
        go_wp2_with fail
        refine HA6.out.mono ?_
        rintro e a6 ⟨⟨q6,rfl,hq6⟩,hc6⟩
        obtain⟨lb,mb,lc,mc,rfl⟩:=FVal.spelt hq6
        have hq6h:=h_X hq6
        have hq3h:=h_X (FVal.below (bS (bel_laid a5 _) hc6) hq3h.out)
        have hc6h:=h_X (bS hc5h.out (bS (bel_laid a5 _) hc6))
        clear HA6 hq6 hc6 hc5h hq4h hq5h
        have HA7:=h_X (of_formW 4 ⟨#[]⟩ _ _ _ (two_list hq3h.out hq6h.out 25))
        go_wp2_with fail
        refine HA7.out.mono ?_
        rintro e a7 ⟨⟨q7,rfl,hq7⟩,hc7⟩
        have hc7h:=h_X (bS hc6h.out (bS (bel_laid a6 _) hc7))
        have hbz:=h_X (bS hb20.out (bS hbwh.out hc7h.out))
        have HG:=h_X (grows_any _ 28 _ a7 (hrwh.out.of hbz.out) hq7 (by simp only[FT.size,Fs.size,Ts.size];omega) (by
         have e1:(⟨#[80]⟩:ByteArray).size=1:=rfl
         have e2:(⟨#[81]⟩:ByteArray).size=1:=rfl
         have e3:(⟨#[82]⟩:ByteArray).size=1:=rfl
         have e4:(⟨#[83]⟩:ByteArray).size=1:=rfl
         have e5:(⟨#[]⟩:ByteArray).size=0:=rfl
         simp only[FT.wt,Fs.wt,Ts.wt,e1,e2,e3,e4,e5];omega) (N2.open (F:=⟨4,⟨#[]⟩,.nil,_⟩) (G:=⟨4,⟨#[]⟩,.nil,_⟩) (by decide) (N2.open (F:=⟨1,⟨#[80]⟩,ts,.nil⟩) (G:=⟨1,⟨#[81]⟩,ts,.nil⟩) (by decide) (opn_atom _ _) (opn_atom _ _)) (N2.open (F:=⟨1,⟨#[82]⟩,ts,.nil⟩) (G:=⟨1,⟨#[83]⟩,ts,.nil⟩) (by decide) (opn_atom _ _) (opn_atom _ _))))
        clear HA7 hq7 hc7 hc6h hq3h hq6h hc7h
        go_wp2_with fail
        refine HG.out.mono ?_
        rintro e a8 ⟨rfl,hc8⟩
        have hfin:=h_X (bS hbz.out hc8)
        clear HG hc8 hbz
        go_wp2_with fail
        go_ret
        exact⟨rfl,hfin.out⟩
end Go.Proofs.YtngdieldgnlogaaGreatDoor
