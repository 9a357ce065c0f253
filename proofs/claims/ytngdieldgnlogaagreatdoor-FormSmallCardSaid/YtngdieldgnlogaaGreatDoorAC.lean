/- What the law asks of one formula: all answers are the document's, and nothing shares memory with the formula. -/
import Derived.Test.YtngdieldgnlogaaGreatDoorQA
namespace Go.Proofs.YtngdieldgnlogaaGreatDoor
open Go Go.RowKit
set_option maxRecDepth 100000
set_option linter.unusedVariables false
theorem i22 {W:World} {b o k n c:Nat} (hk:k < n):(Instr.indexAt 22 (.slice (some ⟨b,o,none⟩) n c) (.int .i64 (k:Int))).run Tryz.prog W=.ok (.pointer (some ⟨b,o+k*3,none⟩)) W:=by
 have h1:(k:Int) < (n:Int):=by omega
 have h0:(0:Int)≤(k:Int):=by omega
 simp[Instr.indexAt,go_sem,h0,hk]
theorem f25_2 {W:World} {b:Nat}:(Instr.fieldAt 25 (.pointer (some ⟨b,0,none⟩)) 2).run Tryz.prog W=.ok (.pointer (some ⟨b,2,none⟩)) W:=by
 simp[Instr.fieldAt,go_sem]
theorem loadT46 {W:World} {b o k c:Nat} {v:Bool} {n:ByteArray} {p:Option Addr} (h0:W.cell? ⟨b,o,none⟩=some (.bool v)) (h1:W.cell? ⟨b,o+1,none⟩=some (.string n)) (h2:W.cell? ⟨b,o+2,none⟩=some (.slice p k c)):(Instr.loadAt 46 (.pointer (some ⟨b,o,none⟩))).run Tryz.prog W=.ok (.agg #[.bool v,.string n,.slice p k c]) W:=by
 simp[Instr.loadAt,go_sem,h0,h1,h2]
set_option maxHeartbeats 16000000 in
theorem asks_any (f:FT) (v:Value) (w:World) (hrw:Rws w) (hv:FVal w f v) (s6:f.size≤1000000) (hwt:f.wt≤4000000) (hop:∀ p∈f.parts,0≤p.op) :
  Calls Tryz.prog 6 #[v] w fun e w'=>e=.returned (.bool true)∧Below w.heap.size w w':=by
 have hrwh:=h_X hrw
 obtain⟨sa,ss,rfl,ha,hss⟩:=id hv
 obtain⟨pa,ca,rfl,-⟩:=id ha
 obtain⟨p,c,rfl,-⟩:=id hss
 have k1:=FS.start (t:=25) hv
 obtain⟨g,hg⟩:∃ g,w.heap.size=g:=⟨_,rfl⟩
 obtain⟨W1,hW1⟩:∃ W1,w.alloc (.cells #[.int .u8 f.op,.string f.n,.slice pa f.ts.len ca,.slice p f.sub.len c] 25)=W1:=⟨_,rfl⟩
 rw[hW1,hg] at k1
 have k1h:=h_X k1
 have HC:=h_X (copyF_any f _ _ k1.val s6)
 clear ha hss hv hrw
 obtain⟨c10,c11,c12,c13,-⟩:=k1
 go_enter Tryz.func6,Tryz.ntmps6
 go_wp2_with fail
 refine HC.out.mono ?_
 rintro e w3 ⟨⟨v3,rfl,ho3⟩,hb3⟩
 obtain⟨p1,m1,p2,m2,rfl⟩:=FVal.spelt (FVOwn.at ho3)
 clear HC c10 c11 c12 c13
 have k1h:=h_X (k1h.out.next hb3)
 go_wp2_with fail
 obtain⟨W4,hW4,hb34,k2⟩:=box_of (w:=w) k1h.out.2.2.2.2.1 (FVOwn.at ho3) 25
 rw[hW4]
 obtain⟨g3,hg3⟩:∃ g3,w3.heap.size=g3:=⟨_,rfl⟩
 rw[hg3] at k2 ⊢
 have k1h:=h_X (k1h.out.next hb34)
 have k2h:=h_X k2
 have k14h:=h_X k1h.out
 have k24h:=h_X k2
 have hlt3:g3 < W4.heap.size:=lt_of_cell k2.1
 have hltg:g < W4.heap.size:=lt_of_cell k1h.out.1
 clear hW4 hb34 ho3 hb3 hg hW1 hg3
 obtain⟨i0,i1,i2,i3,-⟩:=k2
 have hin:∀ W,Below W4.heap.size W4 W→FVal W f (fval f (.slice p1 f.ts.len m1) (.slice p2 f.sub.len m2)):=fun W hb=>(k2h.out.next hb).val
 refine wp_region_run (by kernel_rfl) 104 [9,10,11,12,4,5] (JC W4 f (fval f (.slice p1 f.ts.len m1) (.slice p2 f.sub.len m2))) (by kernel_rfl) rfl (JC.start (bel_drew W4) _) ?hst ?hend
 case hst =>
  refine⟨?_,?_,?_,?_,?_,?_,?_,trivial⟩
  ·rintro l gv W hun xD hcl hJ hg ha hp
   refine' op_val ?h1 ?w1 ?r1 ?K1
   case h1=>rfl
   case w1=>exact rfl
   case r1=>exact(ex_load rfl (eval_tmp ((ha 3 (by kernel_rfl)).trans rfl)) (loadFo (c_B hJ.low i0) (c_B hJ.low i1) (c_B hJ.low i2) (c_B hJ.low i3)))
   case K1=>exact⟨_,hp 9 _ (by kernel_rfl),hJ.op0⟩
  ·rintro l gv W hun xD hcl hJ hg ha hp
   have n3:l 3=false:=by
    cases e:l 3 with
    | false=>rfl
    | true=>have:=hcl 3 1 e (by kernel_rfl);rw[hun] at this;cases this
   have n5:l 5=false:=by
    cases e:l 5 with
    | false=>rfl
    | true=>have:=hcl 5 1 e (by kernel_rfl);rw[hun] at this;cases this
   refine' op_call ?h2 ?w2 ?r2 ?hc2
   case h2=>rfl
   case w2=>exact rfl
   case r2=>exact(ex_call1 (enters_of Tryz.func13 (by kernel_rfl) rfl) rfl ((eval_tmp (hg 9 (by kernel_rfl))).trans (hJ.i9 (xD 0 (by kernel_rfl)))))
   case hc2 =>
    refine(copy_sp f _ W (hin W hJ.low) s6).mono ?_
    rintro e W' ⟨v',rfl,hsp,hb⟩
    exact⟨v',rfl,_,hp 10 _ (by kernel_rfl),hJ.op1 n3 n5 hb hsp⟩
  ·rintro l gv W hun xD hcl hJ hg ha hp
   refine' op_val ?h3 ?w3 ?r3 ?K3
   case h3=>rfl
   case w3=>exact rfl
   case r3=>exact(ex_load rfl (eval_tmp ((ha 3 (by kernel_rfl)).trans rfl)) (loadFo (c_B hJ.low i0) (c_B hJ.low i1) (c_B hJ.low i2) (c_B hJ.low i3)))
   case K3=>exact⟨_,hp 11 _ (by kernel_rfl),hJ.op2⟩
  ·rintro l gv W hun xD hcl hJ hg ha hp
   have n5:l 5=false:=by
    cases e:l 5 with
    | false=>rfl
    | true=>have:=hcl 5 3 e (by kernel_rfl);rw[hun] at this;cases this
   have n6:l 6=false:=by
    cases e:l 6 with
    | false=>rfl
    | true=>have:=hcl 6 3 e (by kernel_rfl);rw[hun] at this;cases this
   refine' op_call ?h4 ?w4 ?r4 ?hc4
   case h4=>rfl
   case w4=>exact rfl
   case r4=>exact(ex_call1 (enters_of Tryz.func14 (by kernel_rfl) rfl) rfl ((eval_tmp (hg 11 (by kernel_rfl))).trans (hJ.i11 (xD 2 (by kernel_rfl)))))
   case hc4 =>
    refine(parts31_any f s6 _ W (hin W hJ.low)).mono ?_
    rintro e W' ⟨⟨v',rfl,hR⟩,hb⟩
    exact⟨v',rfl,_,hp 12 _ (by kernel_rfl),hJ.op3 (xD 1 (by kernel_rfl)) n5 n6 hb (parts_sp hR)⟩
  ·rintro l gv W hun xD hcl hJ hg ha hp
   have n5:l 5=false:=by
    cases e:l 5 with
    | false=>rfl
    | true=>have:=hcl 5 4 e (by kernel_rfl);rw[hun] at this;cases this
   refine' op_val ?h5 ?w5 ?r5 ?K5
   case h5=>rfl
   case w5=>exact rfl
   case r5=>exact ex_alloc rfl
   case K5=>exact⟨_,hp 4 _ (by kernel_rfl),hJ.op4 n5⟩
  ·rintro l gv W hun xD hcl hJ hg ha hp
   obtain⟨W',hst,hJ'⟩:=hJ.op5 (xD 1 (by kernel_rfl)) (xD 4 (by kernel_rfl)) hun
   exact op_skip rfl rfl (ex_store rfl (eval_tmp (hg 4 (by kernel_rfl))) (eval_tmp (hg 10 (by kernel_rfl))) hst) ⟨gv,rfl,hJ'⟩
  ·rintro l gv W hun xD hcl hJ hg ha hp
   refine' op_val ?h7 ?w7 ?r7 ?K7
   case h7=>rfl
   case w7=>exact rfl
   case r7=>exact(ex_assign rfl (eval_tmp (hg 12 (by kernel_rfl))))
   case K7=>exact⟨_,hp 5 _ (by kernel_rfl),hJ.op6⟩
 case hend =>
  rintro ll gv w9 hl hJ
  replace hl:=fun j h=>hl j (of_decide_eq_true h)
  have e9:gv 9=fval f (.slice p1 f.ts.len m1) (.slice p2 f.sub.len m2):=hJ.i9 (hl 0 (by kernel_rfl))
  have e11:gv 11=fval f (.slice p1 f.ts.len m1) (.slice p2 f.sub.len m2):=hJ.i11 (hl 2 (by kernel_rfl))
  have e5:gv 5=gv 12:=hJ.asg (hl 6 (by kernel_rfl))
  obtain⟨z1,z2,a1,a2,hown,hb1,hpp⟩:=hJ.own (hl 1 (by kernel_rfl))
  obtain⟨z3,z4,a3,a4,hparts,hb2⟩:=hpp (hl 3 (by kernel_rfl))
  obtain⟨b,e4,b1,b2,-,hbx⟩:=hJ.box (hl 4 (by kernel_rfl))
  obtain⟨po,mo,qo,no,e10,o0,o1,o2,o3⟩:=hbx (hl 5 (by kernel_rfl))
  have hnb1:=hb1 (hl 4 (by kernel_rfl)) b e4
  have hnb2:=hb2 (hl 4 (by kernel_rfl)) b e4
  obtain⟨u12,e12⟩:∃ u,gv 12=u:=⟨_,rfl⟩
  rw[e10] at hown
  rw[e12] at hparts e5
  have hlow:=h_X hJ.low
  have hb49:=h_X hJ.low
  clear hb1 hb2 hpp hbx hJ hl i0 i1 i2 i3
  simp only[zipV,List.map_cons,List.map_nil,puts,Act.put,List.setIfInBounds_toArray,List.set_cons_succ,List.set_cons_zero,e9,e10,e11,e12,e4,e5]
  clear e9 e10 e11 e12 e4 e5
  have k1h:=h_X (k1h.out.next hlow.out)
  have k2h:=h_X (k2h.out.next hlow.out)
  have kbh:=h_X (show FS f (.slice po f.ts.len mo) (.slice qo f.sub.len no) w b w9 from ⟨o0,o1,o2,o3,k1h.out.2.2.2.2.1,by
   obtain⟨_,_,he,h1,h2⟩:=hown.at
   simp at he
   obtain⟨rfl,rfl⟩:=he
   exact⟨h1,h2⟩⟩)
  obtain⟨sa',sb',S1,S2,he,u1,u2,hS1,hS2⟩:=hown
  simp at he
  obtain⟨rfl,rfl⟩:=he
  have hS1h:=h_X hS1
  have hS2h:=h_X hS2
  have hPh:=h_X hparts
  have hplh:=h_X hparts.at
  have hrw9:=h_X (hrwh.out.of k1h.out.2.2.2.2.1)
  have hopsh:=h_X hop
  have hr1:∀ x,S1 x→z1≤x∧x < z2:=fun x hx=>u1 x hx
  have hr2:∀ x,S2 x→(z1≤x∧x < z2)∧¬ S1 x:=fun x hx=>⟨(u2 x hx).1,(u2 x hx).2⟩
  have hr1h:=h_X hr1
  have hr2h:=h_X hr2
  have hzs:=h_X (show (W4.heap.size≤z1∧z1≤z2)∧z2≤w9.heap.size∧z2≤z3∧z4≤w9.heap.size∧W4.heap.size≤b∧b < w9.heap.size∧g3 < W4.heap.size∧g < W4.heap.size∧¬ (z1≤b∧b < z2)∧¬ (z3≤b∧b < z4) from ⟨a1,a2,a3,a4,b1,b2,hlt3,hltg,hnb1,hnb2⟩)
  have hszL:=h_X (picked_size f)
  clear hS1 hS2 hparts hop hin hr1 hr2 u1 u2 hnb1 hnb2 a1 a2 a3 a4 b1 b2 hlt3 hltg hlow o0 o1 o2 o3
  obtain⟨rb,hrb⟩:∃ b,(f.fits && f.right false)=b:=⟨_,rfl⟩
  obtain⟨sb,hsb⟩:∃ b,(f.fits && f.right true)=b:=⟨_,rfl⟩
  have hrbh:=h_X hrb
  have hsbh:=h_X hsb
  obtain⟨L,hL⟩:∃ L,partsL f=L:=⟨_,rfl⟩
  have HRP:=h_X (refParts_fs f s6)
  rw[hL] at hszL hplh hPh HRP
  have hk1:=k1h.out
  obtain⟨f0,f1,f2,f3,-⟩:=id hk1
  have fvf:=h_X hk1.val
  have hk2:=k2h.out
  obtain⟨i0,i1,i2,i3,-⟩:=id hk2
  have fvi:=h_X hk2.val
  have hk3:=kbh.out
  obtain⟨o0,o1,o2,o3,-⟩:=id hk3
  have fvo:=h_X hk3.val
  clear hk1 hk2 hk3 hrb hsb
  have hrwW:∀ W,Below w9.heap.size w9 W→Rws W:=fun W hb=>hrw9.out.of hb
  go_wp2_with fail
  have hok:okK [(0,13,fval f (.slice p1 f.ts.len m1) (.slice p2 f.sub.len m2)),(1,14,.bool rb),(2,15,fval f (.slice pa f.ts.len ca) (.slice p f.sub.len c)),(3,16,.bool rb),(4,17,.bool false),(5,18,.bool false),(6,19,fval f (.slice p1 f.ts.len m1) (.slice p2 f.sub.len m2)),(7,20,.bool sb),(8,21,fval f (.slice pa f.ts.len ca) (.slice p f.sub.len c)),(9,22,.bool sb),(10,23,.bool false),(11,24,.bool false),(12,25,.bool false),(13,26,fval f (.slice p1 f.ts.len m1) (.slice p2 f.sub.len m2)),(14,27,.int .i64 (f.size:Int)),(15,28,fval f (.slice pa f.ts.len ca) (.slice p f.sub.len c)),(16,29,.int .i64 (f.size:Int)),(17,30,.bool false),(18,31,.bool false),(19,32,.bool false),(20,33,fval f (.slice p1 f.ts.len m1) (.slice p2 f.sub.len m2)),(21,34,.int .i64 (f.deep:Int)),(22,35,fval f (.slice pa f.ts.len ca) (.slice p f.sub.len c)),(23,36,.int .i64 (f.deep:Int)),(24,37,.bool false),(25,38,.bool false),(26,39,.bool false),(27,40,fval f (.slice p1 f.ts.len m1) (.slice p2 f.sub.len m2)),(28,41,.int .u32 ((maskOf f.parts).toNat:Int)),(29,42,fval f (.slice pa f.ts.len ca) (.slice p f.sub.len c)),(30,43,.int .u32 ((maskOf f.parts).toNat:Int)),(31,44,.bool false),(32,45,.bool false),(33,46,.bool false),(34,47,fval f (.slice po f.ts.len mo) (.slice qo f.sub.len no)),(35,48,fval f (.slice pa f.ts.len ca) (.slice p f.sub.len c)),(36,49,.bool true),(37,50,.bool false),(38,51,.bool false),(39,52,.bool false),(40,53,u12),(41,54,fval f (.slice pa f.ts.len ca) (.slice p f.sub.len c)),(43,56,.bool true),(44,57,.bool false),(45,58,.bool false)] [(42,55,(fun v W=>FSl W L v))]=true:=by kernel_rfl
  refine wp_region_run (by kernel_rfl) 104 [13,14,15,16,17,18,19,20,21,22,23,24,25,26,27,28,29,30,31,32,33,34,35,36,37,38,39,40,41,42,43,44,45,46,47,48,49,50,51,52,53,54,55,56,57,58] (JK w9 (okL hok) (okP hok)) (by kernel_rfl) rfl (JK.start _ _) ?hst46 ?hend46
  case hst46 =>
   have hst:∀ p∈okP hok,Stb p.2.2:=(fun p hp=>by rw[List.mem_singleton] at hp;subst hp;exact stb_fs _)
   refine⟨?_,?_,?_,?_,?_,?_,?_,?_,?_,?_,?_,?_,?_,?_,?_,?_,?_,?_,?_,?_,?_,?_,?_,?_,?_,?_,?_,?_,?_,?_,?_,?_,?_,?_,?_,?_,?_,?_,?_,?_,?_,?_,?_,?_,?_,?_,trivial⟩
   ·rintro l gv W hun xD hcl hJ hg ha hp
    refine' op_val ?h1 ?w1 ?r1 ?K1
    case h1=>rfl
    case w1=>exact rfl
    case r1=>exact(ex_load rfl (eval_tmp ((ha 3 (by kernel_rfl)).trans rfl)) (loadFo (c_B hJ.low i0) (c_B hJ.low i1) (c_B hJ.low i2) (c_B hJ.low i3)))
    case K1=>exact⟨_,hp 13 _ (by kernel_rfl),JK.M hok hst hJ 0 rfl⟩
   ·rintro l gv W hun xD hcl hJ hg ha hp
    refine' op_call ?h2 ?w2 ?r2 ?hc2
    case h2=>rfl
    case w2=>exact rfl
    case r2=>exact(ex_call1 (enters_of Tryz.func15 (by kernel_rfl) rfl) rfl (lE (hg 13 (by kernel_rfl)) hJ.lit 0 rfl (xD 0 (by kernel_rfl))))
    case hc2 =>
     refine(right_any f s6 _ W (hrwW W hJ.low) (FVal.below hJ.low fvi.out)).mono ?_
     rintro e W' ⟨rfl,hb⟩
     exact⟨_,(congrArg (fun b=>Ending.returned (Value.bool b)) (hrbh.out)),_,hp 14 _ (by kernel_rfl),JK.made hok hst hJ (gM 1 rfl) hb⟩
   ·rintro l gv W hun xD hcl hJ hg ha hp
    refine' op_val ?h3 ?w3 ?r3 ?K3
    case h3=>rfl
    case w3=>exact rfl
    case r3=>exact(ex_load rfl (eval_tmp ((ha 1 (by kernel_rfl)).trans rfl)) (loadFo (c_B hJ.low f0) (c_B hJ.low f1) (c_B hJ.low f2) (c_B hJ.low f3)))
    case K3=>exact⟨_,hp 15 _ (by kernel_rfl),JK.M hok hst hJ 2 rfl⟩
   ·rintro l gv W hun xD hcl hJ hg ha hp
    refine' op_call ?h4 ?w4 ?r4 ?hc4
    case h4=>rfl
    case w4=>exact rfl
    case r4=>exact(ex_call1 (enters_of Tryz.func16 (by kernel_rfl) rfl) rfl (lE (hg 15 (by kernel_rfl)) hJ.lit 2 rfl (xD 2 (by kernel_rfl))))
    case hc4 =>
     refine(refRight_any f s6 hwt _ W (FVal.below hJ.low fvf.out)).mono ?_
     rintro e W' ⟨rfl,hb⟩
     exact⟨_,(congrArg (fun b=>Ending.returned (Value.bool b)) (hrbh.out)),_,hp 16 _ (by kernel_rfl),JK.made hok hst hJ (gM 3 rfl) hb⟩
   ·rintro l gv W hun xD hcl hJ hg ha hp
    refine' op_val ?h5 ?w5 ?r5 ?K5
    case h5=>rfl
    case w5=>exact rfl
    case r5=>exact(ex_bin rfl (lE (hg 14 (by kernel_rfl)) hJ.lit 1 rfl (xD 1 (by kernel_rfl))) (lE (hg 16 (by kernel_rfl)) hJ.lit 3 rfl (xD 3 (by kernel_rfl))) (guard_bool _ _ _ _ _ W) (neqB _ W))
    case K5=>exact⟨_,hp 17 _ (by kernel_rfl),JK.M hok hst hJ 4 rfl⟩
   ·rintro l gv W hun xD hcl hJ hg ha hp
    refine' op_val ?h6 ?w6 ?r6 ?K6
    case h6=>rfl
    case w6=>exact rfl
    case r6=>exact(ex_move rfl (lE (hg 17 (by kernel_rfl)) hJ.lit 4 rfl (xD 4 (by kernel_rfl))))
    case K6=>exact⟨_,hp 18 _ (by kernel_rfl),JK.M hok hst hJ 5 rfl⟩
   ·rintro l gv W hun xD hcl hJ hg ha hp
    have hgd:=gD (hg 18 (by kernel_rfl)) hJ.lit 5 rfl (xD 5 (by kernel_rfl))
    refine' op_val ?h7 ?w7 ?r7 ?K7
    case h7=>rfl
    case w7=>exact(wants_yes false rfl (by kernel_rfl) hgd)
    case r7=>exact(ex_load rfl (eval_tmp ((ha 3 (by kernel_rfl)).trans rfl)) (loadFo (c_B hJ.low i0) (c_B hJ.low i1) (c_B hJ.low i2) (c_B hJ.low i3)))
    case K7=>exact⟨_,hp 19 _ (by kernel_rfl),JK.M hok hst hJ 6 rfl⟩
   ·rintro l gv W hun xD hcl hJ hg ha hp
    have hgd:=gD (hg 18 (by kernel_rfl)) hJ.lit 5 rfl (xD 5 (by kernel_rfl))
    refine' op_call ?h8 ?w8 ?r8 ?hc8
    case h8=>rfl
    case w8=>exact(wants_yes false rfl (by kernel_rfl) hgd)
    case r8=>exact(ex_call1 (enters_of Tryz.func17 (by kernel_rfl) rfl) rfl (lE (hg 19 (by kernel_rfl)) hJ.lit 6 rfl (xD 6 (by kernel_rfl))))
    case hc8 =>
     refine(schema_any f s6 _ W (hrwW W hJ.low) (FVal.below hJ.low fvi.out)).mono ?_
     rintro e W' ⟨rfl,hb⟩
     exact⟨_,(congrArg (fun b=>Ending.returned (Value.bool b)) (hsbh.out)),_,hp 20 _ (by kernel_rfl),JK.made hok hst hJ (gM 7 rfl) hb⟩
   ·rintro l gv W hun xD hcl hJ hg ha hp
    have hgd:=gD (hg 18 (by kernel_rfl)) hJ.lit 5 rfl (xD 5 (by kernel_rfl))
    refine' op_val ?h9 ?w9 ?r9 ?K9
    case h9=>rfl
    case w9=>exact(wants_yes false rfl (by kernel_rfl) hgd)
    case r9=>exact(ex_load rfl (eval_tmp ((ha 1 (by kernel_rfl)).trans rfl)) (loadFo (c_B hJ.low f0) (c_B hJ.low f1) (c_B hJ.low f2) (c_B hJ.low f3)))
    case K9=>exact⟨_,hp 21 _ (by kernel_rfl),JK.M hok hst hJ 8 rfl⟩
   ·rintro l gv W hun xD hcl hJ hg ha hp
    have hgd:=gD (hg 18 (by kernel_rfl)) hJ.lit 5 rfl (xD 5 (by kernel_rfl))
    refine' op_call ?h10 ?w10 ?r10 ?hc10
    case h10=>rfl
    case w10=>exact(wants_yes false rfl (by kernel_rfl) hgd)
    case r10=>exact(ex_call1 (enters_of Tryz.func18 (by kernel_rfl) rfl) rfl (lE (hg 21 (by kernel_rfl)) hJ.lit 8 rfl (xD 8 (by kernel_rfl))))
    case hc10 =>
     refine(refSchema_any f s6 hwt _ W (FVal.below hJ.low fvf.out)).mono ?_
     rintro e W' ⟨rfl,hb⟩
     exact⟨_,(congrArg (fun b=>Ending.returned (Value.bool b)) (hsbh.out)),_,hp 22 _ (by kernel_rfl),JK.made hok hst hJ (gM 9 rfl) hb⟩
   ·rintro l gv W hun xD hcl hJ hg ha hp
    have hgd:=gD (hg 18 (by kernel_rfl)) hJ.lit 5 rfl (xD 5 (by kernel_rfl))
    refine' op_val ?h11 ?w11 ?r11 ?K11
    case h11=>rfl
    case w11=>exact(wants_yes false rfl (by kernel_rfl) hgd)
    case r11=>exact(ex_bin rfl (lE (hg 20 (by kernel_rfl)) hJ.lit 7 rfl (xD 7 (by kernel_rfl))) (lE (hg 22 (by kernel_rfl)) hJ.lit 9 rfl (xD 9 (by kernel_rfl))) (guard_bool _ _ _ _ _ W) (neqB _ W))
    case K11=>exact⟨_,hp 23 _ (by kernel_rfl),JK.M hok hst hJ 10 rfl⟩
   ·rintro l gv W hun xD hcl hJ hg ha hp
    refine' op_val ?h12 ?w12 ?r12 ?K12
    case h12=>rfl
    case w12=>exact rfl
    case r12=>exact(ex_pickF rfl (lE (hg 18 (by kernel_rfl)) hJ.lit 5 rfl (xD 5 (by kernel_rfl))) (lE (hg 23 (by kernel_rfl)) hJ.lit 10 rfl (xD 10 (by kernel_rfl))))
    case K12=>exact⟨_,hp 24 _ (by kernel_rfl),JK.M hok hst hJ 11 rfl⟩
   ·rintro l gv W hun xD hcl hJ hg ha hp
    refine' op_val ?h13 ?w13 ?r13 ?K13
    case h13=>rfl
    case w13=>exact rfl
    case r13=>exact(ex_move rfl (lE (hg 24 (by kernel_rfl)) hJ.lit 11 rfl (xD 11 (by kernel_rfl))))
    case K13=>exact⟨_,hp 25 _ (by kernel_rfl),JK.M hok hst hJ 12 rfl⟩
   ·rintro l gv W hun xD hcl hJ hg ha hp
    have hgd:=gD (hg 25 (by kernel_rfl)) hJ.lit 12 rfl (xD 12 (by kernel_rfl))
    refine' op_val ?h14 ?w14 ?r14 ?K14
    case h14=>rfl
    case w14=>exact(wants_yes false rfl (by kernel_rfl) hgd)
    case r14=>exact(ex_load rfl (eval_tmp ((ha 3 (by kernel_rfl)).trans rfl)) (loadFo (c_B hJ.low i0) (c_B hJ.low i1) (c_B hJ.low i2) (c_B hJ.low i3)))
    case K14=>exact⟨_,hp 26 _ (by kernel_rfl),JK.M hok hst hJ 13 rfl⟩
   ·rintro l gv W hun xD hcl hJ hg ha hp
    have hgd:=gD (hg 25 (by kernel_rfl)) hJ.lit 12 rfl (xD 12 (by kernel_rfl))
    refine' op_call ?h15 ?w15 ?r15 ?hc15
    case h15=>rfl
    case w15=>exact(wants_yes false rfl (by kernel_rfl) hgd)
    case r15=>exact(ex_call1 (enters_of Tryz.func19 (by kernel_rfl) rfl) rfl (lE (hg 26 (by kernel_rfl)) hJ.lit 13 rfl (xD 13 (by kernel_rfl))))
    case hc15 =>
     refine(nodes_any f s6 _ W (FVal.below hJ.low fvi.out)).mono ?_
     rintro e W' ⟨rfl,hb⟩
     exact⟨_,rfl,_,hp 27 _ (by kernel_rfl),JK.made hok hst hJ (gM 14 rfl) hb⟩
   ·rintro l gv W hun xD hcl hJ hg ha hp
    have hgd:=gD (hg 25 (by kernel_rfl)) hJ.lit 12 rfl (xD 12 (by kernel_rfl))
    refine' op_val ?h16 ?w16 ?r16 ?K16
    case h16=>rfl
    case w16=>exact(wants_yes false rfl (by kernel_rfl) hgd)
    case r16=>exact(ex_load rfl (eval_tmp ((ha 1 (by kernel_rfl)).trans rfl)) (loadFo (c_B hJ.low f0) (c_B hJ.low f1) (c_B hJ.low f2) (c_B hJ.low f3)))
    case K16=>exact⟨_,hp 28 _ (by kernel_rfl),JK.M hok hst hJ 15 rfl⟩
   ·rintro l gv W hun xD hcl hJ hg ha hp
    have hgd:=gD (hg 25 (by kernel_rfl)) hJ.lit 12 rfl (xD 12 (by kernel_rfl))
    refine' op_call ?h17 ?w17 ?r17 ?hc17
    case h17=>rfl
    case w17=>exact(wants_yes false rfl (by kernel_rfl) hgd)
    case r17=>exact(ex_call1 (enters_of Tryz.func20 (by kernel_rfl) rfl) rfl (lE (hg 28 (by kernel_rfl)) hJ.lit 15 rfl (xD 15 (by kernel_rfl))))
    case hc17 =>
     refine(refNodes_any f.size f _ W (Nat.le_refl _) (FVal.below hJ.low fvf.out) s6).mono ?_
     rintro e W' ⟨rfl,hb⟩
     exact⟨_,rfl,_,hp 29 _ (by kernel_rfl),JK.made hok hst hJ (gM 16 rfl) hb⟩
   ·rintro l gv W hun xD hcl hJ hg ha hp
    have hgd:=gD (hg 25 (by kernel_rfl)) hJ.lit 12 rfl (xD 12 (by kernel_rfl))
    refine' op_val ?h18 ?w18 ?r18 ?K18
    case h18=>rfl
    case w18=>exact(wants_yes false rfl (by kernel_rfl) hgd)
    case r18=>exact(ex_bin rfl (lE (hg 27 (by kernel_rfl)) hJ.lit 14 rfl (xD 14 (by kernel_rfl))) (lE (hg 29 (by kernel_rfl)) hJ.lit 16 rfl (xD 16 (by kernel_rfl))) (gneq3 _ _ _ _ W) (neq3 _))
    case K18=>exact⟨_,hp 30 _ (by kernel_rfl),JK.M hok hst hJ 17 rfl⟩
   ·rintro l gv W hun xD hcl hJ hg ha hp
    refine' op_val ?h19 ?w19 ?r19 ?K19
    case h19=>rfl
    case w19=>exact rfl
    case r19=>exact(ex_pickF rfl (lE (hg 25 (by kernel_rfl)) hJ.lit 12 rfl (xD 12 (by kernel_rfl))) (lE (hg 30 (by kernel_rfl)) hJ.lit 17 rfl (xD 17 (by kernel_rfl))))
    case K19=>exact⟨_,hp 31 _ (by kernel_rfl),JK.M hok hst hJ 18 rfl⟩
   ·rintro l gv W hun xD hcl hJ hg ha hp
    refine' op_val ?h20 ?w20 ?r20 ?K20
    case h20=>rfl
    case w20=>exact rfl
    case r20=>exact(ex_move rfl (lE (hg 31 (by kernel_rfl)) hJ.lit 18 rfl (xD 18 (by kernel_rfl))))
    case K20=>exact⟨_,hp 32 _ (by kernel_rfl),JK.M hok hst hJ 19 rfl⟩
   ·rintro l gv W hun xD hcl hJ hg ha hp
    have hgd:=gD (hg 32 (by kernel_rfl)) hJ.lit 19 rfl (xD 19 (by kernel_rfl))
    refine' op_val ?h21 ?w21 ?r21 ?K21
    case h21=>rfl
    case w21=>exact(wants_yes false rfl (by kernel_rfl) hgd)
    case r21=>exact(ex_load rfl (eval_tmp ((ha 3 (by kernel_rfl)).trans rfl)) (loadFo (c_B hJ.low i0) (c_B hJ.low i1) (c_B hJ.low i2) (c_B hJ.low i3)))
    case K21=>exact⟨_,hp 33 _ (by kernel_rfl),JK.M hok hst hJ 20 rfl⟩
   ·rintro l gv W hun xD hcl hJ hg ha hp
    have hgd:=gD (hg 32 (by kernel_rfl)) hJ.lit 19 rfl (xD 19 (by kernel_rfl))
    refine' op_call ?h22 ?w22 ?r22 ?hc22
    case h22=>rfl
    case w22=>exact(wants_yes false rfl (by kernel_rfl) hgd)
    case r22=>exact(ex_call1 (enters_of Tryz.func21 (by kernel_rfl) rfl) rfl (lE (hg 33 (by kernel_rfl)) hJ.lit 20 rfl (xD 20 (by kernel_rfl))))
    case hc22 =>
     refine(depth_any f _ W (FVal.below hJ.low fvi.out) s6).mono ?_
     rintro e W' ⟨rfl,hb⟩
     exact⟨_,rfl,_,hp 34 _ (by kernel_rfl),JK.made hok hst hJ (gM 21 rfl) hb⟩
   ·rintro l gv W hun xD hcl hJ hg ha hp
    have hgd:=gD (hg 32 (by kernel_rfl)) hJ.lit 19 rfl (xD 19 (by kernel_rfl))
    refine' op_val ?h23 ?w23 ?r23 ?K23
    case h23=>rfl
    case w23=>exact(wants_yes false rfl (by kernel_rfl) hgd)
    case r23=>exact(ex_load rfl (eval_tmp ((ha 1 (by kernel_rfl)).trans rfl)) (loadFo (c_B hJ.low f0) (c_B hJ.low f1) (c_B hJ.low f2) (c_B hJ.low f3)))
    case K23=>exact⟨_,hp 35 _ (by kernel_rfl),JK.M hok hst hJ 22 rfl⟩
   ·rintro l gv W hun xD hcl hJ hg ha hp
    have hgd:=gD (hg 32 (by kernel_rfl)) hJ.lit 19 rfl (xD 19 (by kernel_rfl))
    refine' op_call ?h24 ?w24 ?r24 ?hc24
    case h24=>rfl
    case w24=>exact(wants_yes false rfl (by kernel_rfl) hgd)
    case r24=>exact(ex_call1 (enters_of Tryz.func22 (by kernel_rfl) rfl) rfl (lE (hg 35 (by kernel_rfl)) hJ.lit 22 rfl (xD 22 (by kernel_rfl))))
    case hc24 =>
     refine(refDepth_any f.size f _ W (Nat.le_refl _) (FVal.below hJ.low fvf.out) s6).mono ?_
     rintro e W' ⟨rfl,hb⟩
     exact⟨_,rfl,_,hp 36 _ (by kernel_rfl),JK.made hok hst hJ (gM 23 rfl) hb⟩
   ·rintro l gv W hun xD hcl hJ hg ha hp
    have hgd:=gD (hg 32 (by kernel_rfl)) hJ.lit 19 rfl (xD 19 (by kernel_rfl))
    refine' op_val ?h25 ?w25 ?r25 ?K25
    case h25=>rfl
    case w25=>exact(wants_yes false rfl (by kernel_rfl) hgd)
    case r25=>exact(ex_bin rfl (lE (hg 34 (by kernel_rfl)) hJ.lit 21 rfl (xD 21 (by kernel_rfl))) (lE (hg 36 (by kernel_rfl)) hJ.lit 23 rfl (xD 23 (by kernel_rfl))) (gneq3 _ _ _ _ W) (neq3 _))
    case K25=>exact⟨_,hp 37 _ (by kernel_rfl),JK.M hok hst hJ 24 rfl⟩
   ·rintro l gv W hun xD hcl hJ hg ha hp
    refine' op_val ?h26 ?w26 ?r26 ?K26
    case h26=>rfl
    case w26=>exact rfl
    case r26=>exact(ex_pickF rfl (lE (hg 32 (by kernel_rfl)) hJ.lit 19 rfl (xD 19 (by kernel_rfl))) (lE (hg 37 (by kernel_rfl)) hJ.lit 24 rfl (xD 24 (by kernel_rfl))))
    case K26=>exact⟨_,hp 38 _ (by kernel_rfl),JK.M hok hst hJ 25 rfl⟩
   ·rintro l gv W hun xD hcl hJ hg ha hp
    refine' op_val ?h27 ?w27 ?r27 ?K27
    case h27=>rfl
    case w27=>exact rfl
    case r27=>exact(ex_move rfl (lE (hg 38 (by kernel_rfl)) hJ.lit 25 rfl (xD 25 (by kernel_rfl))))
    case K27=>exact⟨_,hp 39 _ (by kernel_rfl),JK.M hok hst hJ 26 rfl⟩
   ·rintro l gv W hun xD hcl hJ hg ha hp
    have hgd:=gD (hg 39 (by kernel_rfl)) hJ.lit 26 rfl (xD 26 (by kernel_rfl))
    refine' op_val ?h28 ?w28 ?r28 ?K28
    case h28=>rfl
    case w28=>exact(wants_yes false rfl (by kernel_rfl) hgd)
    case r28=>exact(ex_load rfl (eval_tmp ((ha 3 (by kernel_rfl)).trans rfl)) (loadFo (c_B hJ.low i0) (c_B hJ.low i1) (c_B hJ.low i2) (c_B hJ.low i3)))
    case K28=>exact⟨_,hp 40 _ (by kernel_rfl),JK.M hok hst hJ 27 rfl⟩
   ·rintro l gv W hun xD hcl hJ hg ha hp
    have hgd:=gD (hg 39 (by kernel_rfl)) hJ.lit 26 rfl (xD 26 (by kernel_rfl))
    refine' op_call ?h29 ?w29 ?r29 ?hc29
    case h29=>rfl
    case w29=>exact(wants_yes false rfl (by kernel_rfl) hgd)
    case r29=>exact(ex_call1 (enters_of Tryz.func23 (by kernel_rfl) rfl) rfl (lE (hg 40 (by kernel_rfl)) hJ.lit 27 rfl (xD 27 (by kernel_rfl))))
    case hc29 =>
     refine(ops_any f hopsh.out s6 _ W (FVal.below hJ.low fvi.out)).mono ?_
     rintro e W' ⟨rfl,hb⟩
     exact⟨_,rfl,_,hp 41 _ (by kernel_rfl),JK.made hok hst hJ (gM 28 rfl) hb⟩
   ·rintro l gv W hun xD hcl hJ hg ha hp
    have hgd:=gD (hg 39 (by kernel_rfl)) hJ.lit 26 rfl (xD 26 (by kernel_rfl))
    refine' op_val ?h30 ?w30 ?r30 ?K30
    case h30=>rfl
    case w30=>exact(wants_yes false rfl (by kernel_rfl) hgd)
    case r30=>exact(ex_load rfl (eval_tmp ((ha 1 (by kernel_rfl)).trans rfl)) (loadFo (c_B hJ.low f0) (c_B hJ.low f1) (c_B hJ.low f2) (c_B hJ.low f3)))
    case K30=>exact⟨_,hp 42 _ (by kernel_rfl),JK.M hok hst hJ 29 rfl⟩
   ·rintro l gv W hun xD hcl hJ hg ha hp
    have hgd:=gD (hg 39 (by kernel_rfl)) hJ.lit 26 rfl (xD 26 (by kernel_rfl))
    refine' op_call ?h31 ?w31 ?r31 ?hc31
    case h31=>rfl
    case w31=>exact(wants_yes false rfl (by kernel_rfl) hgd)
    case r31=>exact(ex_call1 (enters_of Tryz.func24 (by kernel_rfl) rfl) rfl (lE (hg 42 (by kernel_rfl)) hJ.lit 29 rfl (xD 29 (by kernel_rfl))))
    case hc31 =>
     refine(refOps_any f.size f _ W (Nat.le_refl _) (FVal.below hJ.low fvf.out) s6 hopsh.out).mono ?_
     rintro e W' ⟨rfl,hb⟩
     exact⟨_,rfl,_,hp 43 _ (by kernel_rfl),JK.made hok hst hJ (gM 30 rfl) hb⟩
   ·rintro l gv W hun xD hcl hJ hg ha hp
    have hgd:=gD (hg 39 (by kernel_rfl)) hJ.lit 26 rfl (xD 26 (by kernel_rfl))
    refine' op_val ?h32 ?w32 ?r32 ?K32
    case h32=>rfl
    case w32=>exact(wants_yes false rfl (by kernel_rfl) hgd)
    case r32=>exact(ex_bin rfl (lE (hg 41 (by kernel_rfl)) hJ.lit 28 rfl (xD 28 (by kernel_rfl))) (lE (hg 43 (by kernel_rfl)) hJ.lit 30 rfl (xD 30 (by kernel_rfl))) (g35 _ _ _ _ W) (neq35 _ W))
    case K32=>exact⟨_,hp 44 _ (by kernel_rfl),JK.M hok hst hJ 31 rfl⟩
   ·rintro l gv W hun xD hcl hJ hg ha hp
    refine' op_val ?h33 ?w33 ?r33 ?K33
    case h33=>rfl
    case w33=>exact rfl
    case r33=>exact(ex_pickF rfl (lE (hg 39 (by kernel_rfl)) hJ.lit 26 rfl (xD 26 (by kernel_rfl))) (lE (hg 44 (by kernel_rfl)) hJ.lit 31 rfl (xD 31 (by kernel_rfl))))
    case K33=>exact⟨_,hp 45 _ (by kernel_rfl),JK.M hok hst hJ 32 rfl⟩
   ·rintro l gv W hun xD hcl hJ hg ha hp
    refine' op_val ?h34 ?w34 ?r34 ?K34
    case h34=>rfl
    case w34=>exact rfl
    case r34=>exact(ex_move rfl (lE (hg 45 (by kernel_rfl)) hJ.lit 32 rfl (xD 32 (by kernel_rfl))))
    case K34=>exact⟨_,hp 46 _ (by kernel_rfl),JK.M hok hst hJ 33 rfl⟩
   ·rintro l gv W hun xD hcl hJ hg ha hp
    have hgd:=gD (hg 46 (by kernel_rfl)) hJ.lit 33 rfl (xD 33 (by kernel_rfl))
    refine' op_val ?h35 ?w35 ?r35 ?K35
    case h35=>rfl
    case w35=>exact(wants_yes false rfl (by kernel_rfl) hgd)
    case r35=>exact(ex_load rfl (eval_tmp ((ha 4 (by kernel_rfl)).trans rfl)) (loadFo (c_B hJ.low o0) (c_B hJ.low o1) (c_B hJ.low o2) (c_B hJ.low o3)))
    case K35=>exact⟨_,hp 47 _ (by kernel_rfl),JK.M hok hst hJ 34 rfl⟩
   ·rintro l gv W hun xD hcl hJ hg ha hp
    have hgd:=gD (hg 46 (by kernel_rfl)) hJ.lit 33 rfl (xD 33 (by kernel_rfl))
    refine' op_val ?h36 ?w36 ?r36 ?K36
    case h36=>rfl
    case w36=>exact(wants_yes false rfl (by kernel_rfl) hgd)
    case r36=>exact(ex_load rfl (eval_tmp ((ha 1 (by kernel_rfl)).trans rfl)) (loadFo (c_B hJ.low f0) (c_B hJ.low f1) (c_B hJ.low f2) (c_B hJ.low f3)))
    case K36=>exact⟨_,hp 48 _ (by kernel_rfl),JK.M hok hst hJ 35 rfl⟩
   ·rintro l gv W hun xD hcl hJ hg ha hp
    have hgd:=gD (hg 46 (by kernel_rfl)) hJ.lit 33 rfl (xD 33 (by kernel_rfl))
    refine' op_call ?h37 ?w37 ?r37 ?hc37
    case h37=>rfl
    case w37=>exact(wants_yes false rfl (by kernel_rfl) hgd)
    case r37=>exact(ex_call2 (enters_of Tryz.func25 (by kernel_rfl) rfl) rfl (lE (hg 47 (by kernel_rfl)) hJ.lit 34 rfl (xD 34 (by kernel_rfl))) (lE (hg 48 (by kernel_rfl)) hJ.lit 35 rfl (xD 35 (by kernel_rfl))))
    case hc37 =>
     refine(sameF_any f _ f _ W (FVal.below hJ.low fvo.out) (FVal.below hJ.low fvf.out) s6 s6).mono ?_
     rintro e W' ⟨rfl,hb⟩
     exact⟨_,(congrArg (fun b=>Ending.returned (Value.bool b)) (FT.eqB_refl f)),_,hp 49 _ (by kernel_rfl),JK.made hok hst hJ (gM 36 rfl) hb⟩
   ·rintro l gv W hun xD hcl hJ hg ha hp
    have hgd:=gD (hg 46 (by kernel_rfl)) hJ.lit 33 rfl (xD 33 (by kernel_rfl))
    refine' op_val ?h38 ?w38 ?r38 ?K38
    case h38=>rfl
    case w38=>exact(wants_yes false rfl (by kernel_rfl) hgd)
    case r38=>exact(ex_not rfl (lE (hg 49 (by kernel_rfl)) hJ.lit 36 rfl (xD 36 (by kernel_rfl))))
    case K38=>exact⟨_,hp 50 _ (by kernel_rfl),JK.M hok hst hJ 37 rfl⟩
   ·rintro l gv W hun xD hcl hJ hg ha hp
    refine' op_val ?h39 ?w39 ?r39 ?K39
    case h39=>rfl
    case w39=>exact rfl
    case r39=>exact(ex_pickF rfl (lE (hg 46 (by kernel_rfl)) hJ.lit 33 rfl (xD 33 (by kernel_rfl))) (lE (hg 50 (by kernel_rfl)) hJ.lit 37 rfl (xD 37 (by kernel_rfl))))
    case K39=>exact⟨_,hp 51 _ (by kernel_rfl),JK.M hok hst hJ 38 rfl⟩
   ·rintro l gv W hun xD hcl hJ hg ha hp
    refine' op_val ?h40 ?w40 ?r40 ?K40
    case h40=>rfl
    case w40=>exact rfl
    case r40=>exact(ex_move rfl (lE (hg 51 (by kernel_rfl)) hJ.lit 38 rfl (xD 38 (by kernel_rfl))))
    case K40=>exact⟨_,hp 52 _ (by kernel_rfl),JK.M hok hst hJ 39 rfl⟩
   ·rintro l gv W hun xD hcl hJ hg ha hp
    have hgd:=gD (hg 52 (by kernel_rfl)) hJ.lit 39 rfl (xD 39 (by kernel_rfl))
    refine' op_val ?h41 ?w41 ?r41 ?K41
    case h41=>rfl
    case w41=>exact(wants_yes false rfl (by kernel_rfl) hgd)
    case r41=>exact(ex_move rfl (eval_tmp ((ha 5 (by kernel_rfl)).trans rfl)))
    case K41=>exact⟨_,hp 53 _ (by kernel_rfl),JK.M hok hst hJ 40 rfl⟩
   ·rintro l gv W hun xD hcl hJ hg ha hp
    have hgd:=gD (hg 52 (by kernel_rfl)) hJ.lit 39 rfl (xD 39 (by kernel_rfl))
    refine' op_val ?h42 ?w42 ?r42 ?K42
    case h42=>rfl
    case w42=>exact(wants_yes false rfl (by kernel_rfl) hgd)
    case r42=>exact(ex_load rfl (eval_tmp ((ha 1 (by kernel_rfl)).trans rfl)) (loadFo (c_B hJ.low f0) (c_B hJ.low f1) (c_B hJ.low f2) (c_B hJ.low f3)))
    case K42=>exact⟨_,hp 54 _ (by kernel_rfl),JK.M hok hst hJ 41 rfl⟩
   ·rintro l gv W hun xD hcl hJ hg ha hp
    have hgd:=gD (hg 52 (by kernel_rfl)) hJ.lit 39 rfl (xD 39 (by kernel_rfl))
    refine' op_call ?h43 ?w43 ?r43 ?hc43
    case h43=>rfl
    case w43=>exact(wants_yes false rfl (by kernel_rfl) hgd)
    case r43=>exact(ex_call1 (enters_of Tryz.func27 (by kernel_rfl) rfl) rfl (lE (hg 54 (by kernel_rfl)) hJ.lit 41 rfl (xD 41 (by kernel_rfl))))
    case hc43 =>
     refine(HRP.out _ W (FVal.below hJ.low fvf.out)).mono ?_
     rintro e W' ⟨⟨v',rfl,hv'⟩,hb⟩
     exact⟨_,rfl,_,hp 55 _ (by kernel_rfl),JK.madeP hok hst hJ (gM 0 rfl) hv' hb⟩
   ·rintro l gv W hun xD hcl hJ hg ha hp
    have hgd:=gD (hg 52 (by kernel_rfl)) hJ.lit 39 rfl (xD 39 (by kernel_rfl))
    refine' op_call ?h44 ?w44 ?r44 ?hc44
    case h44=>rfl
    case w44=>exact(wants_yes false rfl (by kernel_rfl) hgd)
    case r44=>exact(ex_call2 (enters_of Tryz.func26 (by kernel_rfl) rfl) rfl (lE (hg 53 (by kernel_rfl)) hJ.lit 40 rfl (xD 40 (by kernel_rfl))) (eval_tmp (hg 55 (by kernel_rfl))))
    case hc44 =>
     refine(sameL_any L (fun t _=>sameF_any t) L _ _ W (FSl.below hJ.low hplh.out) (hJ.pr _ (gM 0 rfl) (xD 42 (by kernel_rfl))) hszL.out hszL.out).mono ?_
     rintro e W' ⟨rfl,hb⟩
     exact⟨_,(congrArg (fun b=>Ending.returned (Value.bool b)) (Fs.eqB_refl L)),_,hp 56 _ (by kernel_rfl),JK.made hok hst hJ (gM 42 rfl) hb⟩
   ·rintro l gv W hun xD hcl hJ hg ha hp
    have hgd:=gD (hg 52 (by kernel_rfl)) hJ.lit 39 rfl (xD 39 (by kernel_rfl))
    refine' op_val ?h45 ?w45 ?r45 ?K45
    case h45=>rfl
    case w45=>exact(wants_yes false rfl (by kernel_rfl) hgd)
    case r45=>exact(ex_not rfl (lE (hg 56 (by kernel_rfl)) hJ.lit 42 rfl (xD 43 (by kernel_rfl))))
    case K45=>exact⟨_,hp 57 _ (by kernel_rfl),JK.M hok hst hJ 43 rfl⟩
   ·rintro l gv W hun xD hcl hJ hg ha hp
    refine' op_val ?h46 ?w46 ?r46 ?K46
    case h46=>rfl
    case w46=>exact rfl
    case r46=>exact(ex_pickF rfl (lE (hg 52 (by kernel_rfl)) hJ.lit 39 rfl (xD 39 (by kernel_rfl))) (lE (hg 57 (by kernel_rfl)) hJ.lit 43 rfl (xD 44 (by kernel_rfl))))
    case K46=>exact⟨_,hp 58 _ (by kernel_rfl),JK.M hok hst hJ 44 rfl⟩
  case hend46 =>
   rintro ll gv W9 hl hJ
   replace hl:=fun j h=>hl j (of_decide_eq_true h)
   have e13:=lT hJ.lit 0 rfl (hl 0 (by kernel_rfl))
   have e14:=lT hJ.lit 1 rfl (hl 1 (by kernel_rfl))
   have e15:=lT hJ.lit 2 rfl (hl 2 (by kernel_rfl))
   have e16:=lT hJ.lit 3 rfl (hl 3 (by kernel_rfl))
   have e17:=lT hJ.lit 4 rfl (hl 4 (by kernel_rfl))
   have e18:=lT hJ.lit 5 rfl (hl 5 (by kernel_rfl))
   have e19:=lT hJ.lit 6 rfl (hl 6 (by kernel_rfl))
   have e20:=lT hJ.lit 7 rfl (hl 7 (by kernel_rfl))
   have e21:=lT hJ.lit 8 rfl (hl 8 (by kernel_rfl))
   have e22:=lT hJ.lit 9 rfl (hl 9 (by kernel_rfl))
   have e23:=lT hJ.lit 10 rfl (hl 10 (by kernel_rfl))
   have e24:=lT hJ.lit 11 rfl (hl 11 (by kernel_rfl))
   have e25:=lT hJ.lit 12 rfl (hl 12 (by kernel_rfl))
   have e26:=lT hJ.lit 13 rfl (hl 13 (by kernel_rfl))
   have e27:=lT hJ.lit 14 rfl (hl 14 (by kernel_rfl))
   have e28:=lT hJ.lit 15 rfl (hl 15 (by kernel_rfl))
   have e29:=lT hJ.lit 16 rfl (hl 16 (by kernel_rfl))
   have e30:=lT hJ.lit 17 rfl (hl 17 (by kernel_rfl))
   have e31:=lT hJ.lit 18 rfl (hl 18 (by kernel_rfl))
   have e32:=lT hJ.lit 19 rfl (hl 19 (by kernel_rfl))
   have e33:=lT hJ.lit 20 rfl (hl 20 (by kernel_rfl))
   have e34:=lT hJ.lit 21 rfl (hl 21 (by kernel_rfl))
   have e35:=lT hJ.lit 22 rfl (hl 22 (by kernel_rfl))
   have e36:=lT hJ.lit 23 rfl (hl 23 (by kernel_rfl))
   have e37:=lT hJ.lit 24 rfl (hl 24 (by kernel_rfl))
   have e38:=lT hJ.lit 25 rfl (hl 25 (by kernel_rfl))
   have e39:=lT hJ.lit 26 rfl (hl 26 (by kernel_rfl))
   have e40:=lT hJ.lit 27 rfl (hl 27 (by kernel_rfl))
   have e41:=lT hJ.lit 28 rfl (hl 28 (by kernel_rfl))
   have e42:=lT hJ.lit 29 rfl (hl 29 (by kernel_rfl))
   have e43:=lT hJ.lit 30 rfl (hl 30 (by kernel_rfl))
   have e44:=lT hJ.lit 31 rfl (hl 31 (by kernel_rfl))
   have e45:=lT hJ.lit 32 rfl (hl 32 (by kernel_rfl))
   have e46:=lT hJ.lit 33 rfl (hl 33 (by kernel_rfl))
   have e47:=lT hJ.lit 34 rfl (hl 34 (by kernel_rfl))
   have e48:=lT hJ.lit 35 rfl (hl 35 (by kernel_rfl))
   have e49:=lT hJ.lit 36 rfl (hl 36 (by kernel_rfl))
   have e50:=lT hJ.lit 37 rfl (hl 37 (by kernel_rfl))
   have e51:=lT hJ.lit 38 rfl (hl 38 (by kernel_rfl))
   have e52:=lT hJ.lit 39 rfl (hl 39 (by kernel_rfl))
   have e53:=lT hJ.lit 40 rfl (hl 40 (by kernel_rfl))
   have e54:=lT hJ.lit 41 rfl (hl 41 (by kernel_rfl))
   have e56:=lT hJ.lit 42 rfl (hl 43 (by kernel_rfl))
   have e57:=lT hJ.lit 43 rfl (hl 44 (by kernel_rfl))
   have e58:=lT hJ.lit 44 rfl (hl 45 (by kernel_rfl))
   simp only[zipV,List.map_cons,List.map_nil,puts,Act.put,List.setIfInBounds_toArray,List.set_cons_succ,List.set_cons_zero,e13,e14,e15,e16,e17,e18,e19,e20,e21,e22,e23,e24,e25,e26,e27,e28,e29,e30,e31,e32,e33,e34,e35,e36,e37,e38,e39,e40,e41,e42,e43,e44,e45,e46,e47,e48,e49,e50,e51,e52,e53,e54,e56,e57,e58]
   have hlow:=h_X hJ.low
   clear e13 e14 e15 e16 e17 e18 e19 e20 e21 e22 e23 e24 e25 e26 e27 e28 e29 e30 e31 e32 e33 e34 e35 e36 e37 e38 e39 e40 e41 e42 e43 e44 e45 e46 e47 e48 e49 e50 e51 e52 e53 e54 e56 e57 e58 hJ hl
   obtain⟨u55,hu55⟩:∃ u,gv 55=u:=⟨_,rfl⟩
   rw[hu55]
   clear hu55
   obtain⟨w10,hw10⟩:∃ w10,W9=w10:=⟨_,rfl⟩
   rw[hw10] at hlow ⊢
   clear hw10 f0 f1 f2 f3 i0 i1 i2 i3 o0 o1 o2 o3 hrwW HRP
   have hb910:=hlow
   have k1h:=h_X (k1h.out.next hlow.out)
   have k2h:=h_X (k2h.out.next hlow.out)
   have kbh:=h_X (kbh.out.next hlow.out)
   clear hlow
   go_wp2_with fail
   have HP1:=h_X (predicates_all f s6)
   have HP2:=h_X (refPreds_all f s6)
   have hlp:=preds_len f s6
   have HP3:=h_X (functions_all f s6)
   have HP4:=h_X (refFunctions_all f s6)
   have hlf:=funcs_len f s6
   generalize uniq (ms (f.parts.flatMap symP))=LP at HP1 HP2 hlp
   generalize uniq (ms (f.terms.flatMap symT))=LF at HP3 HP4 hlf
   have hk1:=k1h.out
   obtain⟨f0,f1,f2,f3,-⟩:=id hk1
   have fvf:=h_X hk1.val
   have hk2:=k2h.out
   obtain⟨i0,i1,i2,i3,-⟩:=id hk2
   have fvi:=h_X hk2.val
   clear hk1 hk2
   have hok:okK [(0,59,fval f (.slice p1 f.ts.len m1) (.slice p2 f.sub.len m2)),(2,61,fval f (.slice pa f.ts.len ca) (.slice p f.sub.len c)),(4,63,.bool true),(5,64,.bool false),(6,65,.bool false),(7,66,fval f (.slice p1 f.ts.len m1) (.slice p2 f.sub.len m2)),(9,68,fval f (.slice pa f.ts.len ca) (.slice p f.sub.len c)),(11,70,.bool true),(12,71,.bool false),(13,72,.bool false)] [(1,60,(fun v W=>SySl W LP v)),(3,62,(fun v W=>SySl W LP v)),(8,67,(fun v W=>SySl W LF v)),(10,69,(fun v W=>SySl W LF v))]=true:=by kernel_rfl
   refine wp_region_run (by kernel_rfl) 104 [59,60,61,62,63,64,65,66,67,68,69,70,71,72] (JK w10 (okL hok) (okP hok)) (by kernel_rfl) rfl (JK.start _ _) ?hst60 ?hend60
   case hst60 =>
    have hst:∀ p∈okP hok,Stb p.2.2:=(fun p hp=>by simp only[okP,List.mem_cons,List.not_mem_nil,or_false] at hp;rcases hp with rfl | rfl | rfl | rfl<;>exact stb_sy _)
    refine⟨?_,?_,?_,?_,?_,?_,?_,?_,?_,?_,?_,?_,?_,?_,trivial⟩
    ·rintro l gv W hun xD hcl hJ hg ha hp
     refine' op_val ?h47 ?w47 ?r47 ?K47
     case h47=>rfl
     case w47=>exact rfl
     case r47=>exact(ex_load rfl (eval_tmp ((ha 3 (by kernel_rfl)).trans rfl)) (loadFo (c_B hJ.low i0) (c_B hJ.low i1) (c_B hJ.low i2) (c_B hJ.low i3)))
     case K47=>exact⟨_,hp 59 _ (by kernel_rfl),JK.M hok hst hJ 0 rfl⟩
    ·rintro l gv W hun xD hcl hJ hg ha hp
     refine' op_call ?h48 ?w48 ?r48 ?hc48
     case h48=>rfl
     case w48=>exact rfl
     case r48=>exact(ex_call1 (enters_of Tryz.func29 (by kernel_rfl) rfl) rfl (lE (hg 59 (by kernel_rfl)) hJ.lit 0 rfl (xD 0 (by kernel_rfl))))
     case hc48 =>
      refine(HP1.out _ W (FVal.below hJ.low fvi.out)).mono ?_
      rintro e W' ⟨⟨v',rfl,hv'⟩,hb⟩
      exact⟨_,rfl,_,hp 60 _ (by kernel_rfl),JK.madeP hok hst hJ (gM 0 rfl) hv' hb⟩
    ·rintro l gv W hun xD hcl hJ hg ha hp
     refine' op_val ?h49 ?w49 ?r49 ?K49
     case h49=>rfl
     case w49=>exact rfl
     case r49=>exact(ex_load rfl (eval_tmp ((ha 1 (by kernel_rfl)).trans rfl)) (loadFo (c_B hJ.low f0) (c_B hJ.low f1) (c_B hJ.low f2) (c_B hJ.low f3)))
     case K49=>exact⟨_,hp 61 _ (by kernel_rfl),JK.M hok hst hJ 1 rfl⟩
    ·rintro l gv W hun xD hcl hJ hg ha hp
     refine' op_call ?h50 ?w50 ?r50 ?hc50
     case h50=>rfl
     case w50=>exact rfl
     case r50=>exact(ex_call1 (enters_of Tryz.func30 (by kernel_rfl) rfl) rfl (lE (hg 61 (by kernel_rfl)) hJ.lit 1 rfl (xD 2 (by kernel_rfl))))
     case hc50 =>
      refine(HP2.out _ W (FVal.below hJ.low fvf.out)).mono ?_
      rintro e W' ⟨⟨v',rfl,hv'⟩,hb⟩
      exact⟨_,rfl,_,hp 62 _ (by kernel_rfl),JK.madeP hok hst hJ (gM 1 rfl) hv' hb⟩
    ·rintro l gv W hun xD hcl hJ hg ha hp
     refine' op_call ?h51 ?w51 ?r51 ?hc51
     case h51=>rfl
     case w51=>exact rfl
     case r51=>exact(ex_call2 (enters_of Tryz.func28 (by kernel_rfl) rfl) rfl (eval_tmp (hg 60 (by kernel_rfl))) (eval_tmp (hg 62 (by kernel_rfl))))
     case hc51 =>
      refine(symbols_any LP _ _ W (hJ.pr _ (gM 0 rfl) (xD 1 (by kernel_rfl))) (hJ.pr _ (gM 1 rfl) (xD 3 (by kernel_rfl))) hlp).mono ?_
      rintro e W' ⟨rfl,hb⟩
      exact⟨_,rfl,_,hp 63 _ (by kernel_rfl),JK.made hok hst hJ (gM 2 rfl) hb⟩
    ·rintro l gv W hun xD hcl hJ hg ha hp
     refine' op_val ?h52 ?w52 ?r52 ?K52
     case h52=>rfl
     case w52=>exact rfl
     case r52=>exact(ex_not rfl (lE (hg 63 (by kernel_rfl)) hJ.lit 2 rfl (xD 4 (by kernel_rfl))))
     case K52=>exact⟨_,hp 64 _ (by kernel_rfl),JK.M hok hst hJ 3 rfl⟩
    ·rintro l gv W hun xD hcl hJ hg ha hp
     refine' op_val ?h53 ?w53 ?r53 ?K53
     case h53=>rfl
     case w53=>exact rfl
     case r53=>exact(ex_move rfl (lE (hg 64 (by kernel_rfl)) hJ.lit 3 rfl (xD 5 (by kernel_rfl))))
     case K53=>exact⟨_,hp 65 _ (by kernel_rfl),JK.M hok hst hJ 4 rfl⟩
    ·rintro l gv W hun xD hcl hJ hg ha hp
     have hgd:=gD (hg 65 (by kernel_rfl)) hJ.lit 4 rfl (xD 6 (by kernel_rfl))
     refine' op_val ?h54 ?w54 ?r54 ?K54
     case h54=>rfl
     case w54=>exact(wants_yes false rfl (by kernel_rfl) hgd)
     case r54=>exact(ex_load rfl (eval_tmp ((ha 3 (by kernel_rfl)).trans rfl)) (loadFo (c_B hJ.low i0) (c_B hJ.low i1) (c_B hJ.low i2) (c_B hJ.low i3)))
     case K54=>exact⟨_,hp 66 _ (by kernel_rfl),JK.M hok hst hJ 5 rfl⟩
    ·rintro l gv W hun xD hcl hJ hg ha hp
     have hgd:=gD (hg 65 (by kernel_rfl)) hJ.lit 4 rfl (xD 6 (by kernel_rfl))
     refine' op_call ?h55 ?w55 ?r55 ?hc55
     case h55=>rfl
     case w55=>exact(wants_yes false rfl (by kernel_rfl) hgd)
     case r55=>exact(ex_call1 (enters_of Tryz.func31 (by kernel_rfl) rfl) rfl (lE (hg 66 (by kernel_rfl)) hJ.lit 5 rfl (xD 7 (by kernel_rfl))))
     case hc55 =>
      refine(HP3.out _ W (FVal.below hJ.low fvi.out)).mono ?_
      rintro e W' ⟨⟨v',rfl,hv'⟩,hb⟩
      exact⟨_,rfl,_,hp 67 _ (by kernel_rfl),JK.madeP hok hst hJ (gM 2 rfl) hv' hb⟩
    ·rintro l gv W hun xD hcl hJ hg ha hp
     have hgd:=gD (hg 65 (by kernel_rfl)) hJ.lit 4 rfl (xD 6 (by kernel_rfl))
     refine' op_val ?h56 ?w56 ?r56 ?K56
     case h56=>rfl
     case w56=>exact(wants_yes false rfl (by kernel_rfl) hgd)
     case r56=>exact(ex_load rfl (eval_tmp ((ha 1 (by kernel_rfl)).trans rfl)) (loadFo (c_B hJ.low f0) (c_B hJ.low f1) (c_B hJ.low f2) (c_B hJ.low f3)))
     case K56=>exact⟨_,hp 68 _ (by kernel_rfl),JK.M hok hst hJ 6 rfl⟩
    ·rintro l gv W hun xD hcl hJ hg ha hp
     have hgd:=gD (hg 65 (by kernel_rfl)) hJ.lit 4 rfl (xD 6 (by kernel_rfl))
     refine' op_call ?h57 ?w57 ?r57 ?hc57
     case h57=>rfl
     case w57=>exact(wants_yes false rfl (by kernel_rfl) hgd)
     case r57=>exact(ex_call1 (enters_of Tryz.func32 (by kernel_rfl) rfl) rfl (lE (hg 68 (by kernel_rfl)) hJ.lit 6 rfl (xD 9 (by kernel_rfl))))
     case hc57 =>
      refine(HP4.out _ W (FVal.below hJ.low fvf.out)).mono ?_
      rintro e W' ⟨⟨v',rfl,hv'⟩,hb⟩
      exact⟨_,rfl,_,hp 69 _ (by kernel_rfl),JK.madeP hok hst hJ (gM 3 rfl) hv' hb⟩
    ·rintro l gv W hun xD hcl hJ hg ha hp
     have hgd:=gD (hg 65 (by kernel_rfl)) hJ.lit 4 rfl (xD 6 (by kernel_rfl))
     refine' op_call ?h58 ?w58 ?r58 ?hc58
     case h58=>rfl
     case w58=>exact(wants_yes false rfl (by kernel_rfl) hgd)
     case r58=>exact(ex_call2 (enters_of Tryz.func28 (by kernel_rfl) rfl) rfl (eval_tmp (hg 67 (by kernel_rfl))) (eval_tmp (hg 69 (by kernel_rfl))))
     case hc58 =>
      refine(symbols_any LF _ _ W (hJ.pr _ (gM 2 rfl) (xD 8 (by kernel_rfl))) (hJ.pr _ (gM 3 rfl) (xD 10 (by kernel_rfl))) hlf).mono ?_
      rintro e W' ⟨rfl,hb⟩
      exact⟨_,rfl,_,hp 70 _ (by kernel_rfl),JK.made hok hst hJ (gM 7 rfl) hb⟩
    ·rintro l gv W hun xD hcl hJ hg ha hp
     have hgd:=gD (hg 65 (by kernel_rfl)) hJ.lit 4 rfl (xD 6 (by kernel_rfl))
     refine' op_val ?h59 ?w59 ?r59 ?K59
     case h59=>rfl
     case w59=>exact(wants_yes false rfl (by kernel_rfl) hgd)
     case r59=>exact(ex_not rfl (lE (hg 70 (by kernel_rfl)) hJ.lit 7 rfl (xD 11 (by kernel_rfl))))
     case K59=>exact⟨_,hp 71 _ (by kernel_rfl),JK.M hok hst hJ 8 rfl⟩
    ·rintro l gv W hun xD hcl hJ hg ha hp
     refine' op_val ?h60 ?w60 ?r60 ?K60
     case h60=>rfl
     case w60=>exact rfl
     case r60=>exact(ex_pickF rfl (lE (hg 65 (by kernel_rfl)) hJ.lit 4 rfl (xD 6 (by kernel_rfl))) (lE (hg 71 (by kernel_rfl)) hJ.lit 8 rfl (xD 12 (by kernel_rfl))))
     case K60=>exact⟨_,hp 72 _ (by kernel_rfl),JK.M hok hst hJ 9 rfl⟩
   case hend60 =>
    rintro ll gv W9 hl hJ
    replace hl:=fun j h=>hl j (of_decide_eq_true h)
    have e59:=lT hJ.lit 0 rfl (hl 0 (by kernel_rfl))
    have e61:=lT hJ.lit 1 rfl (hl 2 (by kernel_rfl))
    have e63:=lT hJ.lit 2 rfl (hl 4 (by kernel_rfl))
    have e64:=lT hJ.lit 3 rfl (hl 5 (by kernel_rfl))
    have e65:=lT hJ.lit 4 rfl (hl 6 (by kernel_rfl))
    have e66:=lT hJ.lit 5 rfl (hl 7 (by kernel_rfl))
    have e68:=lT hJ.lit 6 rfl (hl 9 (by kernel_rfl))
    have e70:=lT hJ.lit 7 rfl (hl 11 (by kernel_rfl))
    have e71:=lT hJ.lit 8 rfl (hl 12 (by kernel_rfl))
    have e72:=lT hJ.lit 9 rfl (hl 13 (by kernel_rfl))
    simp only[zipV,List.map_cons,List.map_nil,puts,Act.put,List.setIfInBounds_toArray,List.set_cons_succ,List.set_cons_zero,e59,e61,e63,e64,e65,e66,e68,e70,e71,e72]
    have hlow:=h_X hJ.low
    clear e59 e61 e63 e64 e65 e66 e68 e70 e71 e72 hJ hl
    obtain⟨u60,hu60⟩:∃ u,gv 60=u:=⟨_,rfl⟩
    rw[hu60]
    clear hu60
    obtain⟨u62,hu62⟩:∃ u,gv 62=u:=⟨_,rfl⟩
    rw[hu62]
    clear hu62
    obtain⟨u67,hu67⟩:∃ u,gv 67=u:=⟨_,rfl⟩
    rw[hu67]
    clear hu67
    obtain⟨u69,hu69⟩:∃ u,gv 69=u:=⟨_,rfl⟩
    rw[hu69]
    clear hu69
    obtain⟨w11,hw11⟩:∃ w11,W9=w11:=⟨_,rfl⟩
    rw[hw11] at hlow ⊢
    clear hw11 f0 f1 f2 f3 i0 i1 i2 i3 HP1 HP2 HP3 HP4 hlp hlf
    have hb911:=h_X (bS hb910.out hlow.out)
    have k1h:=h_X (k1h.out.next hlow.out)
    have k2h:=h_X (k2h.out.next hlow.out)
    have kbh:=h_X (kbh.out.next hlow.out)
    clear hlow hb910
    go_wp2_with fail
    go_loopw [6] (fun s6 wr=>∃ i:Nat,s6=.int .i64 (i:Int)∧i≤f.ts.len∧Below w11.heap.size w11 wr) (fun s6 _=>f.ts.len - (intOf s6).toNat)
    case atStart=>exact⟨0,rfl,Nat.zero_le _,Below.refl _ _⟩
    case round =>
     obtain⟨i,rfl,hil,hbr⟩:=hrel
     have hbrh:=h_X hbr
     have hk1:=k1h.out.next hbr
     have hk2:=k2h.out.next hbr
     have hk3:=kbh.out.next hbr
     obtain⟨f0,f1,f2,f3,-,hfa,-⟩:=id hk1
     obtain⟨i0,i1,i2,i3,-,hia,-⟩:=id hk2
     have htl:=f.ts.len_le
     have hfz:f.size=f.ts.size+f.sub.size+1:=rfl
     by_cases hiL:i < f.ts.len
     ·have hi1:(i:Int) < (f.ts.len:Int):=by omega
      have hi0:(0:Int)≤(i:Int):=by omega
      have hkw:IntKind.i64.wrap ((i:Int)+1)=(i:Int)+1:=IntWalk.i64_in _ (by omega)
      obtain⟨_,_,hx1,hx2⟩:=hfa
      cases hx1
      obtain⟨xb,xo,rfl,hxt⟩:=hx2.resolve_left (by omega)
      obtain⟨_,_,hy1,hy2⟩:=hia
      cases hy1
      obtain⟨yb,yo,rfl,hyt⟩:=hy2.resolve_left (by omega)
      obtain⟨tv,tn,ts,tp,tp',tc,tc',⟨x0,x1,x2,x3⟩,⟨y0,y1,y2,y3⟩,hts,htw⟩:=hyt.both hxt hiL
      have ht6:ts.size≤1000000:=by omega
      have htw4:tn.size+ts.wt≤4000000:=by simp only[FT.wt] at hwt;omega
      have x3h:=h_X x3
      have y3h:=h_X y3
      obtain⟨tb,htb⟩:∃ b,rightT false tv tn ts=b:=⟨_,rfl⟩
      have htbh:=h_X htb
      clear htb x3 y3 hxt hyt hx2 hy2 hk1 hk2 hk3 hbr hts htw
      go_wp2_with fail
      have hok:okK [(0,80,.pointer (some ⟨g3,2,none⟩)),(1,81,.slice (some ⟨yb,yo,none⟩) f.ts.len m1),(2,82,.int .i64 (i:Int)),(3,83,.pointer (some ⟨yb,yo+i*3,none⟩)),(4,84,.agg #[.bool tv,.string tn,.slice tp ts.len tc]),(5,85,.bool tb),(6,86,.pointer (some ⟨g,2,none⟩)),(7,87,.slice (some ⟨xb,xo,none⟩) f.ts.len ca),(8,88,.int .i64 (i:Int)),(9,89,.pointer (some ⟨xb,xo+i*3,none⟩)),(10,90,.agg #[.bool tv,.string tn,.slice tp' ts.len tc']),(11,91,.bool tb),(12,92,.bool false)] []=true:=by kernel_rfl
      refine wp_region_run (by kernel_rfl) 104 [80,81,82,83,84,85,86,87,88,89,90,91,92] (JK wr (okL hok) (okP hok)) (by kernel_rfl) rfl (JK.start _ _) ?hst73 ?hend73
      case hst73 =>
       have hst:∀ p∈okP hok,Stb p.2.2:=fun p hp=>(by cases hp)
       refine⟨?_,?_,?_,?_,?_,?_,?_,?_,?_,?_,?_,?_,?_,trivial⟩
       ·rintro l gv W hun xD hcl hJ hg ha hp
        refine' op_val ?h61 ?w61 ?r61 ?K61
        case h61=>rfl
        case w61=>exact rfl
        case r61=>exact(ex_field rfl (eval_tmp ((ha 3 (by kernel_rfl)).trans rfl)) f25_2)
        case K61=>exact⟨_,hp 80 _ (by kernel_rfl),JK.M hok hst hJ 0 rfl⟩
       ·rintro l gv W hun xD hcl hJ hg ha hp
        refine' op_val ?h62 ?w62 ?r62 ?K62
        case h62=>rfl
        case w62=>exact rfl
        case r62=>exact(ex_load rfl (lE (hg 80 (by kernel_rfl)) hJ.lit 0 rfl (xD 0 (by kernel_rfl))) (loadTs (c_B hJ.low i2)))
        case K62=>exact⟨_,hp 81 _ (by kernel_rfl),JK.M hok hst hJ 1 rfl⟩
       ·rintro l gv W hun xD hcl hJ hg ha hp
        refine' op_val ?h63 ?w63 ?r63 ?K63
        case h63=>rfl
        case w63=>exact rfl
        case r63=>exact(ex_move rfl (eval_tmp ((ha 6 (by kernel_rfl)).trans rfl)))
        case K63=>exact⟨_,hp 82 _ (by kernel_rfl),JK.M hok hst hJ 2 rfl⟩
       ·rintro l gv W hun xD hcl hJ hg ha hp
        refine' op_val ?h64 ?w64 ?r64 ?K64
        case h64=>rfl
        case w64=>exact rfl
        case r64=>exact(ex_indexAddr rfl (lE (hg 81 (by kernel_rfl)) hJ.lit 1 rfl (xD 1 (by kernel_rfl))) (lE (hg 82 (by kernel_rfl)) hJ.lit 2 rfl (xD 2 (by kernel_rfl))) (i22 hiL))
        case K64=>exact⟨_,hp 83 _ (by kernel_rfl),JK.M hok hst hJ 3 rfl⟩
       ·rintro l gv W hun xD hcl hJ hg ha hp
        refine' op_val ?h65 ?w65 ?r65 ?K65
        case h65=>rfl
        case w65=>exact rfl
        case r65=>exact(ex_load rfl (lE (hg 83 (by kernel_rfl)) hJ.lit 3 rfl (xD 3 (by kernel_rfl))) (loadT46 (c_B hJ.low x0) (c_B hJ.low x1) (c_B hJ.low x2)))
        case K65=>exact⟨_,hp 84 _ (by kernel_rfl),JK.M hok hst hJ 4 rfl⟩
       ·rintro l gv W hun xD hcl hJ hg ha hp
        refine' op_call ?h66 ?w66 ?r66 ?hc66
        case h66=>rfl
        case w66=>exact rfl
        case r66=>exact(ex_call1 (enters_of Tryz.func33 (by kernel_rfl) rfl) rfl (lE (hg 84 (by kernel_rfl)) hJ.lit 4 rfl (xD 4 (by kernel_rfl))))
        case hc66 =>
         refine(term33_any ts tv tn _ W (TSl.below hJ.low x3h.out) ht6).mono ?_
         rintro e W' ⟨rfl,hb⟩
         exact⟨_,(congrArg (fun b=>Ending.returned (Value.bool b)) (htbh.out)),_,hp 85 _ (by kernel_rfl),JK.made hok hst hJ (gM 5 rfl) hb⟩
       ·rintro l gv W hun xD hcl hJ hg ha hp
        refine' op_val ?h67 ?w67 ?r67 ?K67
        case h67=>rfl
        case w67=>exact rfl
        case r67=>exact(ex_field rfl (eval_tmp ((ha 1 (by kernel_rfl)).trans rfl)) f25_2)
        case K67=>exact⟨_,hp 86 _ (by kernel_rfl),JK.M hok hst hJ 6 rfl⟩
       ·rintro l gv W hun xD hcl hJ hg ha hp
        refine' op_val ?h68 ?w68 ?r68 ?K68
        case h68=>rfl
        case w68=>exact rfl
        case r68=>exact(ex_load rfl (lE (hg 86 (by kernel_rfl)) hJ.lit 6 rfl (xD 6 (by kernel_rfl))) (loadTs (c_B hJ.low f2)))
        case K68=>exact⟨_,hp 87 _ (by kernel_rfl),JK.M hok hst hJ 7 rfl⟩
       ·rintro l gv W hun xD hcl hJ hg ha hp
        refine' op_val ?h69 ?w69 ?r69 ?K69
        case h69=>rfl
        case w69=>exact rfl
        case r69=>exact(ex_move rfl (eval_tmp ((ha 6 (by kernel_rfl)).trans rfl)))
        case K69=>exact⟨_,hp 88 _ (by kernel_rfl),JK.M hok hst hJ 8 rfl⟩
       ·rintro l gv W hun xD hcl hJ hg ha hp
        refine' op_val ?h70 ?w70 ?r70 ?K70
        case h70=>rfl
        case w70=>exact rfl
        case r70=>exact(ex_indexAddr rfl (lE (hg 87 (by kernel_rfl)) hJ.lit 7 rfl (xD 7 (by kernel_rfl))) (lE (hg 88 (by kernel_rfl)) hJ.lit 8 rfl (xD 8 (by kernel_rfl))) (i22 hiL))
        case K70=>exact⟨_,hp 89 _ (by kernel_rfl),JK.M hok hst hJ 9 rfl⟩
       ·rintro l gv W hun xD hcl hJ hg ha hp
        refine' op_val ?h71 ?w71 ?r71 ?K71
        case h71=>rfl
        case w71=>exact rfl
        case r71=>exact(ex_load rfl (lE (hg 89 (by kernel_rfl)) hJ.lit 9 rfl (xD 9 (by kernel_rfl))) (loadT46 (c_B hJ.low y0) (c_B hJ.low y1) (c_B hJ.low y2)))
        case K71=>exact⟨_,hp 90 _ (by kernel_rfl),JK.M hok hst hJ 10 rfl⟩
       ·rintro l gv W hun xD hcl hJ hg ha hp
        refine' op_call ?h72 ?w72 ?r72 ?hc72
        case h72=>rfl
        case w72=>exact rfl
        case r72=>exact(ex_call1 (enters_of Tryz.func34 (by kernel_rfl) rfl) rfl (lE (hg 90 (by kernel_rfl)) hJ.lit 10 rfl (xD 10 (by kernel_rfl))))
        case hc72 =>
         refine(refTermT_any ts tv tn _ W (TSl.below hJ.low y3h.out) ht6 htw4).mono ?_
         rintro e W' ⟨rfl,hb⟩
         exact⟨_,(congrArg (fun b=>Ending.returned (Value.bool b)) (htbh.out)),_,hp 91 _ (by kernel_rfl),JK.made hok hst hJ (gM 11 rfl) hb⟩
       ·rintro l gv W hun xD hcl hJ hg ha hp
        refine' op_val ?h73 ?w73 ?r73 ?K73
        case h73=>rfl
        case w73=>exact rfl
        case r73=>exact(ex_bin rfl (lE (hg 85 (by kernel_rfl)) hJ.lit 5 rfl (xD 5 (by kernel_rfl))) (lE (hg 91 (by kernel_rfl)) hJ.lit 11 rfl (xD 11 (by kernel_rfl))) (guard_bool _ _ _ _ _ W) (neqB _ W))
        case K73=>exact⟨_,hp 92 _ (by kernel_rfl),JK.M hok hst hJ 12 rfl⟩
      case hend73 =>
       rintro ll gv W9 hl hJ
       replace hl:=fun j h=>hl j (of_decide_eq_true h)
       have e80:=lT hJ.lit 0 rfl (hl 0 (by kernel_rfl))
       have e81:=lT hJ.lit 1 rfl (hl 1 (by kernel_rfl))
       have e82:=lT hJ.lit 2 rfl (hl 2 (by kernel_rfl))
       have e83:=lT hJ.lit 3 rfl (hl 3 (by kernel_rfl))
       have e84:=lT hJ.lit 4 rfl (hl 4 (by kernel_rfl))
       have e85:=lT hJ.lit 5 rfl (hl 5 (by kernel_rfl))
       have e86:=lT hJ.lit 6 rfl (hl 6 (by kernel_rfl))
       have e87:=lT hJ.lit 7 rfl (hl 7 (by kernel_rfl))
       have e88:=lT hJ.lit 8 rfl (hl 8 (by kernel_rfl))
       have e89:=lT hJ.lit 9 rfl (hl 9 (by kernel_rfl))
       have e90:=lT hJ.lit 10 rfl (hl 10 (by kernel_rfl))
       have e91:=lT hJ.lit 11 rfl (hl 11 (by kernel_rfl))
       have e92:=lT hJ.lit 12 rfl (hl 12 (by kernel_rfl))
       simp only[zipV,List.map_cons,List.map_nil,puts,Act.put,List.setIfInBounds_toArray,List.set_cons_succ,List.set_cons_zero,e80,e81,e82,e83,e84,e85,e86,e87,e88,e89,e90,e91,e92]
       have hlow:=h_X hJ.low
       clear e80 e81 e82 e83 e84 e85 e86 e87 e88 e89 e90 e91 e92 hJ hl
       have hbx:=h_X (bS hbrh.out hlow.out)
       clear hlow f0 f1 f2 f3 i0 i1 i2 i3 x0 x1 x2 y0 y1 y2
       go_wp2
       go_roundw
       case rel=>exact⟨i+1,rfl,hiL,hbx.out⟩
       case measure=>simp[intOf];omega
     ·have hie:¬ (i:Int) < (f.ts.len:Int):=by omega
      obtain⟨q0,q1,q2,q3,-⟩:=id hk3
      have q2h:=h_X q2
      have q3h:=h_X q3
      have hb9r:=h_X (bS hb911.out hbr)
      have hb4r:=h_X (bS hb49.out hb9r.out)
      have HO1:=h_X (overT_any f.ts _ S1 wr (TSp.keep (fun _ _ _ _ hc=>hc.below hb9r.out) hS1h.out) (by omega))
      clear hk1 hk2 hk3 hbr hfa hia f0 f1 f3 i0 i1 i2 i3 q0 q1 q3
      go_wp2_with fail
      obtain⟨a1,a2,a3,a4,b1,b2,lt3,ltg,nb1,nb2⟩:=hzs.out
      refine HO1.out.mono ?_
      rintro e w18 ⟨⟨rv1,rfl⟩,-,hbut⟩
      have hb18h:=h_X (hb4r.out.trans (hbut.below (B:=W4.heap.size) (fun x hx=>Nat.le_trans a1.1 (hr1h.out x hx).1) hb4r.out.size))
      have q3:=cell_but hbut (fun h=>nb1 (hr1h.out _ h)) q3h.out
      have hF2:=FSp.keep (W':=w18) (fun x i v hx hc=>Wc.but hbut (hr2h.out x hx).2 hc) (FSp.keep (fun _ _ _ _ hc=>hc.below hb9r.out) hS2h.out)
      have hPw:=h_X (FSp.keep (W':=w18) (fun x i v hx hc=>Wc.but hbut (fun h=>by have:=(hr1h.out x h).2;have:=hx.1;omega) hc) (FSp.keep (fun _ _ _ _ hc=>hc.below hb9r.out) hPh.out))
      have HO2:=h_X (overF_any f.sub _ S2 w18 hF2 (by omega))
      clear HO1 hbut hF2 f2 q3h q2h
      go_wp2_with fail
      refine HO2.out.mono ?_
      rintro e w19 ⟨⟨rv2,rfl⟩,-,-,hbut⟩
      have hb19h:=h_X (hb18h.out.trans (hbut.below (B:=W4.heap.size) (fun x hx=>Nat.le_trans a1.1 (hr2h.out x hx).1.1) hb18h.out.size))
      have hPx:=FSp.keep (W':=w19) (fun x i v hx hc=>Wc.but hbut (fun h=>by have:=(hr2h.out x h).1.2;have:=hx.1;omega) hc) hPw.out
      have HO3:=h_X (overF_any L _ (Rg z3 z4) w19 hPx hszL.out)
      clear HO2 hbut hPx hPw q3
      go_wp2_with fail
      refine HO3.out.mono ?_
      rintro e w20 ⟨⟨rv3,rfl⟩,-,-,hbut⟩
      have hb20h:=h_X (hb19h.out.trans (hbut.below (B:=W4.heap.size) (fun x hx=>by have:=hx.1;omega) hb19h.out.size))
      have k1e:=h_X (k14h.out.next hb20h.out)
      have k2e:=h_X (k24h.out.next hb20h.out)
      have HS:=h_X (sameF_any f _ f _ w20 k2e.out.val k1e.out.val s6 s6)
      rw[FT.eqB_refl] at HS
      obtain⟨f0,f1,f2,f3,-⟩:=k1e.out
      obtain⟨i0,i1,i2,i3,-⟩:=k2e.out
      have hbe:=h_X k1e.out.2.2.2.2.1
      clear HO3 hbut
      go_wp2_with fail
      refine HS.out.mono ?_
      rintro e w21 ⟨rfl,hb21⟩
      have hfin:=h_X (bS hbe.out hb21)
      clear HS hb21 f0 f1 f2 f3 i0 i1 i2 i3
      go_wp2_with fail
      go_ret
      exact⟨rfl,hfin.out⟩
end Go.Proofs.YtngdieldgnlogaaGreatDoor
