/- The law's shapes. -/
import Derived.Test.YtngdieldgnlogaaGreatDoorAK
import Derived.Test.YtngdieldgnlogaaGreatDoorX4
import Derived.Test.YtngdieldgnlogaaGreatDoorZC
namespace Go.Proofs.YtngdieldgnlogaaGreatDoor
set_option linter.unusedSimpArgs false
open Go Go.RowKit
set_option maxRecDepth 100000
set_option linter.unusedVariables false
def IL (l:List Int) (v:Value) (W:World):Prop:=∃ p c,v=.slice p l.length c∧LSl W l (.slice p l.length c)∧l.length≤c∧c≤maxLen
theorem IL.below {l:List Int} {v:Value} {W W':World} (h:IL l v W) (hb:Below W.heap.size W W'):IL l v W':=by
 obtain⟨p,c,e,h1,h2⟩:=h
 exact⟨p,c,e,LSl.below hb h1,h2⟩
theorem places_list (f h:FT) (l:List Int) (va vb v:Value) (w:World) (hva:FVal w f va) (hvb:FVal w h vb) (hl:IL l v w) (hn:l.length≤1000000) (hs:f.size+h.size≤400000):Calls Tryz.prog 51 #[va,vb,v] w fun e w'=>e=.returned (.bool true)∧Below w.heap.size w w':=by
 obtain⟨p,c,rfl,h1,h2,h3⟩:=hl
 exact places_any f h l va vb p c w hva hvb h1 h2 h3 hn hs
theorem il_one (x:Int) (W:World) (t:TypeId):IL [x] (.slice (some ⟨W.heap.size,0,none⟩) 1 1) (W.alloc (.cells #[.int .i64 x] t)) :=
 ⟨_,_,rfl,⟨_,_,rfl,.inr ⟨_,0,rfl,cell_new W #[.int .i64 x] t 0,trivial⟩⟩,Nat.le_refl _,by unfold maxLen;decide⟩
theorem il_two (x y:Int) (W:World) (t:TypeId):IL [x,y] (.slice (some ⟨W.heap.size,0,none⟩) 2 2) (W.alloc (.cells #[.int .i64 x,.int .i64 y] t)) :=
 ⟨_,_,rfl,⟨_,_,rfl,.inr ⟨_,0,rfl,cell_new W #[.int .i64 x,.int .i64 y] t 0,cell_new W #[.int .i64 x,.int .i64 y] t 1,trivial⟩⟩,Nat.le_refl _,by unfold maxLen;decide⟩
theorem build_i1 (w:World) (x:Int):(Instr.buildSlice 53 1 #[(0,.int .i64 x)]).run Tryz.prog w=.ok (.slice (some ⟨w.heap.size,0,none⟩) 1 1) (w.alloc (.cells #[.int .i64 x] 3)):=by
 simp[Instr.buildSlice,go_sem]
theorem build_i2 (w:World) (x y:Int):(Instr.buildSlice 53 2 #[(0,.int .i64 x),(1,.int .i64 y)]).run Tryz.prog w=.ok (.slice (some ⟨w.heap.size,0,none⟩) 2 2) (w.alloc (.cells #[.int .i64 x,.int .i64 y] 3)):=by
 simp[Instr.buildSlice,go_sem]
theorem sub3 {W:World} (a:Nat) (ha:a≤1000000):(binOp .sub 3 (.int .i64 (a:Int)) (.int .i64 1)).run Tryz.prog W=.ok (.int .i64 ((a:Int) - 1)) W:=by
 have h1:IntKind.i64.wrap ((a:Int) - 1)=(a:Int) - 1:=IntWalk.i64_in _ (by omega)
 simp[go_sem,h1]
theorem gsub3 (x y:Operand) (u v:Value) (w:World):(eqGuard .sub 3 x y u v).run Tryz.prog w=.ok () w:=rfl
theorem two_any {F G:FT} {a b c d a' b' c' d':Value} {W:World} (hv:FVal W F (.agg #[a,b,c,d])) (hv':FVal W G (.agg #[a',b',c',d'])) (t:TypeId):FSl (W.alloc (.cells #[a,b,c,d,a',b',c',d'] t)) (.cons F.op F.n F.ts F.sub (.cons G.op G.n G.ts G.sub .nil)) (.slice (some ⟨W.heap.size,0,none⟩) 2 2):=by
 obtain⟨sa,ss,e,h1,h2⟩:=hv
 obtain⟨sb,st,e',h3,h4⟩:=hv'
 simp at e e'
 obtain⟨rfl,rfl,rfl,rfl⟩:=e
 obtain⟨rfl,rfl,rfl,rfl⟩:=e'
 have cN:=fun i=>cell_new W #[.int .u8 F.op,.string F.n,c,d,.int .u8 G.op,.string G.n,c',d'] t i
 have hb:=bel_laid W (.cells #[.int .u8 F.op,.string F.n,c,d,.int .u8 G.op,.string G.n,c',d'] t)
 exact⟨_,_,rfl,.inr ⟨_,_,rfl,cN 0,cN 1,⟨_,cN 2,TSl.below hb h1⟩,⟨_,cN 3,FSl.below hb h2⟩,cN 4,cN 5,⟨_,cN 6,TSl.below hb h3⟩,⟨_,cN 7,FSl.below hb h4⟩,trivial⟩⟩
set_option maxHeartbeats 16000000 in
theorem shapes_any (w:World) (hrw:Rws w) :
  Calls Tryz.prog 9 #[] w fun e w'=>e=.returned (.bool true)∧Below w.heap.size w w':=by
 have hrwh:=h_X hrw
 clear hrw
 have fN:∀ i,i < 8→∃ s:ByteArray,(w.alloc (.cells #[.string ⟨#[]⟩,.string ⟨#[80]⟩,.string ⟨#[120]⟩,.string ⟨#[97]⟩,.string ⟨#[63,65]⟩,.string ⟨#[63,116]⟩,.string ⟨#[97,108,108]⟩,.string ⟨#[112,95]⟩] 9)).cell? ⟨w.heap.size,i,none⟩=some (.string s)∧s.size≤3:=fun i hi=>by
  rw[cell_new]
  rcases(by omega:i=0∨i=1∨i=2∨i=3∨i=4∨i=5∨i=6∨i=7) with rfl | rfl | rfl | rfl | rfl | rfl | rfl | rfl
  all_goals exact⟨_,rfl,by decide⟩
 have fNh:=h_X fN
 clear fN
 go_enter Tryz.func9,Tryz.ntmps9
 go_wp2_with fail
 refine(atom_all ⟨#[81]⟩ none 0 0 _).mono ?_
 rintro e w1 ⟨rfl,hb1⟩
 go_wp2_with fail
 refine(term_all 120 none 0 0 _).mono ?_
 rintro e w2 ⟨⟨b1,rfl⟩,hb2⟩
 go_wp2_with fail
 refine(term_all 97 none 0 0 _).mono ?_
 rintro e w3 ⟨⟨b2,rfl⟩,hb3⟩
 go_wp2_with fail
 refine(term_all 122 none 0 0 _).mono ?_
 rintro e w4 ⟨⟨b3,rfl⟩,hb4⟩
 go_wp2_with fail
 refine(term_all 99 none 0 0 _).mono ?_
 rintro e w5 ⟨⟨b4,rfl⟩,hb5⟩
 have HT:=h_X (term_form 98 _ _ _ (two_terms (b1:=b3) (b2:=b4) (n1:=⟨#[122]⟩) (n2:=⟨#[99]⟩) (nil_terms w5) (nil_terms w5) 46))
 go_wp2_with fail
 refine HT.out.mono ?_
 rintro e w6 ⟨⟨v6,rfl,b5,p5,c5,rfl,hth⟩,hb6⟩
 clear HT
 go_wp2_with fail
 refine(term_all 100 none 0 0 _).mono ?_
 rintro e w7 ⟨⟨b6,rfl⟩,hb7⟩
 have hA5:=five_terms (b1:=b1) (b2:=true) (b3:=b2) (b4:=b5) (b5:=b6) (n1:=⟨#[120]⟩) (n2:=⟨#[63,116]⟩) (n3:=⟨#[97]⟩) (n4:=⟨#[98]⟩) (n5:=⟨#[100]⟩) (nil_terms w7) (nil_terms w7) (nil_terms w7) (TSl.below hb7 hth) (nil_terms w7) 46
 have hA5h:=h_X hA5
 clear hA5 hth
 have hbP:=h_X (bS hb2 (bS hb3 (bS hb4 (bS hb5 (bS (bel_laid w5 (.cells #[.bool b3,.string ⟨#[122]⟩,.slice none 0 0,.bool b4,.string ⟨#[99]⟩,.slice none 0 0] 46)) (bS hb6 hb7))))))
 have hb1h:=h_X hb1
 clear hb1 hb2 hb3 hb4 hb5 hb6 hb7
 have hb7:=bel_laid w7 (.cells #[.bool b1,.string ⟨#[120]⟩,.slice none 0 0,.bool true,.string ⟨#[63,116]⟩,.slice none 0 0,.bool b2,.string ⟨#[97]⟩,.slice none 0 0,.bool b5,.string ⟨#[98]⟩,.slice p5 (Ts.cons b3 ⟨#[122]⟩ .nil (.cons b4 ⟨#[99]⟩ .nil .nil)).len c5,.bool b6,.string ⟨#[100]⟩,.slice none 0 0] 46)
 have hbN:=h_X (bS hb1h.out (bS (bel_laid w1 (.cells #[.int .u8 1,.string ⟨#[81]⟩,.slice none 0 0,.slice none 0 0,.int .u8 2,.string ⟨#[]⟩,.slice none 0 0,.slice none 0 0] 25)) (bS hbP.out hb7)))
 have cP:=fun i=>cell_new w1 #[.int .u8 1,.string ⟨#[81]⟩,.slice none 0 0,.slice none 0 0,.int .u8 2,.string ⟨#[]⟩,.slice none 0 0,.slice none 0 0] 25 i
 have hbQ:=bS hbP.out hb7
 go_wp2_with fail
 obtain⟨W0,hW0⟩:∃ W0,W0=w7.alloc (.cells #[.bool b1,.string ⟨#[120]⟩,.slice none 0 0,.bool true,.string ⟨#[63,116]⟩,.slice none 0 0,.bool b2,.string ⟨#[97]⟩,.slice none 0 0,.bool b5,.string ⟨#[98]⟩,.slice p5 (Ts.cons b3 ⟨#[122]⟩ .nil (.cons b4 ⟨#[99]⟩ .nil .nil)).len c5,.bool b6,.string ⟨#[100]⟩,.slice none 0 0] 46):=⟨_,rfl⟩
 obtain⟨AT,hAT⟩:∃ AT,AT=Ts.cons b1 ⟨#[120]⟩ .nil (.cons true ⟨#[63,116]⟩ .nil (.cons b2 ⟨#[97]⟩ .nil (.cons b5 ⟨#[98]⟩ (.cons b3 ⟨#[122]⟩ .nil (.cons b4 ⟨#[99]⟩ .nil .nil)) (.cons b6 ⟨#[100]⟩ .nil .nil)))):=⟨_,rfl⟩
 have hSH:=h_X (show SH w.heap.size w1.heap.size w7.heap.size AT W0 from by
  rw[hW0,hAT]
  exact⟨fun i hi=>(fNh.out i hi).imp fun _ h=>⟨c_B hbN.out h.1,h.2⟩,c_B hbQ (cP 0),c_B hbQ (cP 1),c_B hbQ (cP 2),c_B hbQ (cP 3),c_B hbQ (cP 4),c_B hbQ (cP 5),c_B hbQ (cP 6),c_B hbQ (cP 7),hA5h.out⟩)
 have hATl:AT.len=5:=by rw[hAT];rfl
 have hATs:AT.size=7:=by rw[hAT];rfl
 have hATw:AT.wt≤40:=by rw[hAT];simp only[Ts.wt];decide
 have hb0:=h_X (show Below w.heap.size w W0 from by rw[hW0];exact bS (bel_laid w _) hbN.out)
 have hgaW:w7.heap.size < W0.heap.size:=by rw[hW0,World.size_alloc];omega
 rw[←hW0]
 obtain⟨gn,hgn⟩:∃ g,w.heap.size=g:=⟨_,rfl⟩
 obtain⟨gp,hgp⟩:∃ g,w1.heap.size=g:=⟨_,rfl⟩
 obtain⟨ga,hga⟩:∃ g,w7.heap.size=g:=⟨_,rfl⟩
 have hb0':=hb0.out
 rw[hgn,hgp,hga] at hSH ⊢
 rw[hga] at hgaW
 clear hb7 hbN cP hbQ hW0 hAT hA5h hbP hb1h fNh hgn hgp hga
 go_loopw [4,5] (fun out i wr=>∃ (k:Nat) (xs:List Value) (fs:List FT),i=.int .i64 (k:Int)∧k≤3648∧(k=0∨0 < fs.length)∧97*fs.length≤k+96∧wr.ownsRow W0.heap.size 25 4 out fs.length (flatV xs)∧(∀ r,out.ownBlock=some r→VS (punch wr r) xs fs)∧(out.ownBlock=none→xs=[]∧fs=[])∧(∀ F∈fs,F.size≤20∧F.wt≤200∧Opn F)∧Below W0.heap.size W0 wr) (fun _ i _=>3648 - (intOf i).toNat)
 case atStart=>exact⟨0,[],[],rfl,Nat.zero_le _,.inl rfl,by decide,World.ownsRow_nil _ _ _ _,(fun r h=>by cases h),(fun _=>⟨rfl,rfl⟩),(fun F h=>by cases h),Below.refl _ _⟩
 case round =>
  obtain⟨k,xs,fs,rfl,hk0,hkp,hkl,hown,hVS,hVN,hfs,hbw⟩:=hrel
  have hbwh:=h_X hbw
  have hownh:=h_X hown
  have hVSh:=h_X hVS
  have hVNh:=h_X hVN
  have hfsh:=h_X hfs
  have hS:=hSH.out.below hbw
  clear hbw hown hVS hVN hfs
  by_cases hk:k < 3648
  ·have hki:(k:Int) < 3648:=by omega
   have hkw:IntKind.i64.wrap ((k:Int)+1)=(k:Int)+1:=IntWalk.i64_in _ (by omega)
   obtain⟨nm,hnm,hnms⟩:=hS.names (k/19%8) (by omega)
   have hq3:k/152%4≤3:=by omega
   have hq5:k/608≤5:=by omega
   have h256:k%19 < 256:=by omega
   have hk6:k≤1000000:=by omega
   obtain⟨-,p0,p1,p2,p3,p4,p5,p6,p7,hargs⟩:=id hS
   have hargsh:=h_X hargs
   have hSh:=h_X hS
   clear hS hargs
   go_wp2_with fail
   have hok:okK [(0,30,.int .i64 (k:Int)),(1,31,.int .i64 ((k%19:Nat):Int)),(2,32,.int .u8 ((k%19:Nat):Int)),(3,33,.slice (some ⟨gn,0,none⟩) 8 8),(4,34,.int .i64 (k:Int)),(5,35,.int .i64 ((k/19:Nat):Int)),(6,36,.int .i64 ((k/19%8:Nat):Int)),(7,37,.pointer (some ⟨gn,k/19%8,none⟩)),(8,38,.string nm),(10,40,.slice (some ⟨gp,0,none⟩) 2 2),(11,41,.pointer (some ⟨gp,0,none⟩)),(12,42,.agg #[.int .u8 1,.string ⟨#[81]⟩,.slice none 0 0,.slice none 0 0]),(13,43,.slice (some ⟨gp,0,none⟩) 2 2),(14,44,.pointer (some ⟨gp,4,none⟩)),(15,45,.agg #[.int .u8 2,.string ⟨#[]⟩,.slice none 0 0,.slice none 0 0]),(16,46,.slice (some ⟨gp,0,none⟩) 2 2),(17,47,.pointer (some ⟨gp,0,none⟩)),(18,48,.agg #[.int .u8 1,.string ⟨#[81]⟩,.slice none 0 0,.slice none 0 0]),(20,50,.int .i64 (k:Int)),(21,51,.int .i64 ((k/152:Nat):Int)),(22,52,.int .i64 ((k/152%4:Nat):Int)),(25,55,.slice (some ⟨ga,0,none⟩) 5 5),(26,56,.int .i64 (k:Int)),(27,57,.int .i64 ((k/608:Nat):Int)),(28,58,.slice (some ⟨ga,0,none⟩) (k/608) 5)] [(9,39,(fun v _=>∃ g:Nat,v=.slice (some ⟨g,0,none⟩) 0 0)),(19,49,(fun v W=>∃ g:Nat,v=.slice (some ⟨g,0,none⟩) 3 3∧PC g W)),(23,53,(fun v W=>∃ g:Nat,v=.slice (some ⟨g,0,none⟩) (k/152%4) 3∧PC g W)),(24,54,(fun v W=>SbP wr.heap.size (k/152%4) v W)),(29,59,(fun v W=>∃ s:Value,v=.agg #[.int .u8 ((k%19:Nat):Int),.string nm,.slice (some ⟨ga,0,none⟩) (k/608) 5,s]∧SbP wr.heap.size (k/152%4) s W)),(30,6,(fun v W=>∃ b:Nat,v=.pointer (some ⟨b,0,none⟩)∧wr.heap.size≤b∧Fr4' b W))]=true:=by kernel_rfl
   refine wp_region_run (by kernel_rfl) 216 [30,31,32,33,34,35,36,37,38,39,40,41,42,43,44,45,46,47,48,49,50,51,52,53,54,55,56,57,58,59,6] (fun l_ g_ W_=>(l_ 31=false→(JK wr (okL hok) (okP hok) l_ g_ W_∧DBk l_ g_))∧(l_ 31=true→(∃ (b_:Nat) (s_:Value),g_ 6=.pointer (some ⟨b_,0,none⟩)∧wr.heap.size≤b_∧(Wc W_ b_ 0 (.int .u8 ((k%19:Nat):Int))∧Wc W_ b_ 1 (.string nm)∧Wc W_ b_ 2 (.slice (some ⟨ga,0,none⟩) (k/608) 5)∧Wc W_ b_ 3 s_)∧SbP wr.heap.size (k/152%4) s_ W_∧Below wr.heap.size wr W_))) (by kernel_rfl) rfl ⟨fun _=>⟨JK.start _ _,(fun h=>by cases h)⟩,fun h=>by cases h⟩ ?hst23 ?hend23
   case hst23 =>
    have hst:∀ p∈okP hok,Stb p.2.2:=(fun p hp=>by simp only[okP,List.mem_cons,List.not_mem_nil,or_false] at hp;exact hp.elim (fun h=>by subst h;exact fun v W W' hb h=>h) (fun hp=>hp.elim (fun h=>by subst h;exact fun v W W' hb h=>h.imp fun g h=>⟨h.1,h.2.below hb⟩) (fun hp=>hp.elim (fun h=>by subst h;exact fun v W W' hb h=>h.imp fun g h=>⟨h.1,h.2.below hb⟩) (fun hp=>hp.elim (fun h=>by subst h;exact fun v W W' hb h=>h.below hb) (fun hp=>hp.elim (fun h=>by subst h;exact fun v W W' hb h=>h.imp fun g h=>⟨h.1,h.2.below hb⟩) (fun h=>by subst h;exact fun v W W' hb h=>h.imp fun g h=>⟨h.1,h.2.1,h.2.2.below hb⟩))))))
    refine⟨?_,?_,?_,?_,?_,?_,?_,?_,?_,?_,?_,?_,?_,?_,?_,?_,?_,?_,?_,?_,?_,?_,?_,?_,?_,?_,?_,?_,?_,?_,?_,?_,trivial⟩
    ·rintro l gv W hun xD hcl hJ hg ha hp
     have n0:l 31=false:=off_of (fun e=>hcl 31 0 e (by kernel_rfl)) hun
     obtain⟨hJ,hD⟩:=hJ.1 n0
     refine' op_val ?h1 ?w1 ?r1 ?K1
     case h1=>rfl
     case w1=>exact rfl
     case r1=>exact(ex_move rfl (eval_tmp ((ha 5 (by kernel_rfl)).trans rfl)))
     case K1=>exact⟨_,hp 30 _ (by kernel_rfl),⟨fun _=>⟨JK.M hok hst hJ 0 rfl,hD⟩,fun h=>nO h n0⟩⟩
    ·rintro l gv W hun xD hcl hJ hg ha hp
     have n0:l 31=false:=off_of (fun e=>hcl 31 1 e (by kernel_rfl)) hun
     obtain⟨hJ,hD⟩:=hJ.1 n0
     refine' op_val ?h2 ?w2 ?r2 ?K2
     case h2=>rfl
     case w2=>exact rfl
     case r2=>exact(ex_bin rfl (lE (hg 30 (by kernel_rfl)) hJ.lit 0 rfl (xD 0 (by kernel_rfl))) rfl (grem3 _ _ _ _ W) (rem3 _ _ (by decide)))
     case K2=>exact⟨_,hp 31 _ (by kernel_rfl),⟨fun _=>⟨JK.M hok hst hJ 1 rfl,hD⟩,fun h=>nO h n0⟩⟩
    ·rintro l gv W hun xD hcl hJ hg ha hp
     have n0:l 31=false:=off_of (fun e=>hcl 31 2 e (by kernel_rfl)) hun
     obtain⟨hJ,hD⟩:=hJ.1 n0
     exact op_val rfl rfl (ex_convert rfl (lE (hg 31 (by kernel_rfl)) hJ.lit 1 rfl (xD 1 (by kernel_rfl))) (conv35 _ h256)) ⟨_,hp 32 _ (by kernel_rfl),⟨fun _=>⟨JK.M hok hst hJ 2 rfl,hD⟩,fun h=>nO h n0⟩⟩
    ·rintro l gv W hun xD hcl hJ hg ha hp
     have n0:l 31=false:=off_of (fun e=>hcl 31 3 e (by kernel_rfl)) hun
     obtain⟨hJ,hD⟩:=hJ.1 n0
     refine' op_val ?h3 ?w3 ?r3 ?K3
     case h3=>rfl
     case w3=>exact rfl
     case r3=>exact(ex_move rfl (eval_tmp ((ha 1 (by kernel_rfl)).trans rfl)))
     case K3=>exact⟨_,hp 33 _ (by kernel_rfl),⟨fun _=>⟨JK.M hok hst hJ 3 rfl,hD⟩,fun h=>nO h n0⟩⟩
    ·rintro l gv W hun xD hcl hJ hg ha hp
     have n0:l 31=false:=off_of (fun e=>hcl 31 4 e (by kernel_rfl)) hun
     obtain⟨hJ,hD⟩:=hJ.1 n0
     refine' op_val ?h4 ?w4 ?r4 ?K4
     case h4=>rfl
     case w4=>exact rfl
     case r4=>exact(ex_move rfl (eval_tmp ((ha 5 (by kernel_rfl)).trans rfl)))
     case K4=>exact⟨_,hp 34 _ (by kernel_rfl),⟨fun _=>⟨JK.M hok hst hJ 4 rfl,hD⟩,fun h=>nO h n0⟩⟩
    ·rintro l gv W hun xD hcl hJ hg ha hp
     have n0:l 31=false:=off_of (fun e=>hcl 31 5 e (by kernel_rfl)) hun
     obtain⟨hJ,hD⟩:=hJ.1 n0
     refine' op_val ?h5 ?w5 ?r5 ?K5
     case h5=>rfl
     case w5=>exact rfl
     case r5=>exact(ex_bin rfl (lE (hg 34 (by kernel_rfl)) hJ.lit 4 rfl (xD 4 (by kernel_rfl))) rfl (gquo3 _ _ _ _ W) (quo3 _ _ (by decide) (by decide) (by omega)))
     case K5=>exact⟨_,hp 35 _ (by kernel_rfl),⟨fun _=>⟨JK.M hok hst hJ 5 rfl,hD⟩,fun h=>nO h n0⟩⟩
    ·rintro l gv W hun xD hcl hJ hg ha hp
     have n0:l 31=false:=off_of (fun e=>hcl 31 6 e (by kernel_rfl)) hun
     obtain⟨hJ,hD⟩:=hJ.1 n0
     refine' op_val ?h6 ?w6 ?r6 ?K6
     case h6=>rfl
     case w6=>exact rfl
     case r6=>exact(ex_bin rfl (lE (hg 35 (by kernel_rfl)) hJ.lit 5 rfl (xD 5 (by kernel_rfl))) rfl (grem3 _ _ _ _ W) (rem3 _ _ (by decide)))
     case K6=>exact⟨_,hp 36 _ (by kernel_rfl),⟨fun _=>⟨JK.M hok hst hJ 6 rfl,hD⟩,fun h=>nO h n0⟩⟩
    ·rintro l gv W hun xD hcl hJ hg ha hp
     have n0:l 31=false:=off_of (fun e=>hcl 31 7 e (by kernel_rfl)) hun
     obtain⟨hJ,hD⟩:=hJ.1 n0
     refine' op_val ?h7 ?w7 ?r7 ?K7
     case h7=>rfl
     case w7=>exact rfl
     case r7=>exact(ex_indexAddr rfl (lE (hg 33 (by kernel_rfl)) hJ.lit 3 rfl (xD 3 (by kernel_rfl))) (lE (hg 36 (by kernel_rfl)) hJ.lit 6 rfl (xD 6 (by kernel_rfl))) (idx30 (by omega)))
     case K7=>exact⟨_,hp 37 _ (by kernel_rfl),⟨fun _=>⟨JK.M hok hst hJ 7 rfl,hD⟩,fun h=>nO h n0⟩⟩
    ·rintro l gv W hun xD hcl hJ hg ha hp
     have n0:l 31=false:=off_of (fun e=>hcl 31 8 e (by kernel_rfl)) hun
     obtain⟨hJ,hD⟩:=hJ.1 n0
     refine' op_val ?h8 ?w8 ?r8 ?K8
     case h8=>rfl
     case w8=>exact rfl
     case r8=>exact(ex_load rfl (lE (hg 37 (by kernel_rfl)) hJ.lit 7 rfl (xD 7 (by kernel_rfl))) (ld9z (c_B hJ.low hnm)))
     case K8=>exact⟨_,hp 38 _ (by kernel_rfl),⟨fun _=>⟨JK.M hok hst hJ 8 rfl,hD⟩,fun h=>nO h n0⟩⟩
    ·rintro l gv W hun xD hcl hJ hg ha hp
     have n0:l 31=false:=off_of (fun e=>hcl 31 9 e (by kernel_rfl)) hun
     obtain⟨hJ,hD⟩:=hJ.1 n0
     exact op_val rfl rfl (ex_buildSlice0 rfl lay0F) ⟨_,hp 39 _ (by kernel_rfl),⟨fun _=>⟨JK.madeP hok hst hJ (gM 0 rfl) ⟨_,rfl⟩ (bel_laid W _),hD⟩,fun h=>nO h n0⟩⟩
    ·rintro l gv W hun xD hcl hJ hg ha hp
     have n0:l 31=false:=off_of (fun e=>hcl 31 10 e (by kernel_rfl)) hun
     obtain⟨hJ,hD⟩:=hJ.1 n0
     refine' op_val ?h9 ?w9 ?r9 ?K9
     case h9=>rfl
     case w9=>exact rfl
     case r9=>exact(ex_move rfl (eval_tmp ((ha 2 (by kernel_rfl)).trans rfl)))
     case K9=>exact⟨_,hp 40 _ (by kernel_rfl),⟨fun _=>⟨JK.M hok hst hJ 9 rfl,hD⟩,fun h=>nO h n0⟩⟩
    ·rintro l gv W hun xD hcl hJ hg ha hp
     have n0:l 31=false:=off_of (fun e=>hcl 31 11 e (by kernel_rfl)) hun
     obtain⟨hJ,hD⟩:=hJ.1 n0
     refine' op_val ?h10 ?w10 ?r10 ?K10
     case h10=>rfl
     case w10=>exact rfl
     case r10=>exact(ex_indexAddr rfl (lE (hg 40 (by kernel_rfl)) hJ.lit 9 rfl (xD 10 (by kernel_rfl))) rfl (index0 (by decide)))
     case K10=>exact⟨_,hp 41 _ (by kernel_rfl),⟨fun _=>⟨JK.M hok hst hJ 10 rfl,hD⟩,fun h=>nO h n0⟩⟩
    ·rintro l gv W hun xD hcl hJ hg ha hp
     have n0:l 31=false:=off_of (fun e=>hcl 31 12 e (by kernel_rfl)) hun
     obtain⟨hJ,hD⟩:=hJ.1 n0
     refine' op_val ?h11 ?w11 ?r11 ?K11
     case h11=>rfl
     case w11=>exact rfl
     case r11=>exact(ex_load rfl (lE (hg 41 (by kernel_rfl)) hJ.lit 10 rfl (xD 11 (by kernel_rfl))) (loadFo (f:=A0 81) (c_B hJ.low p0) (c_B hJ.low p1) (c_B hJ.low p2) (c_B hJ.low p3)))
     case K11=>exact⟨_,hp 42 _ (by kernel_rfl),⟨fun _=>⟨JK.M hok hst hJ 11 rfl,hD⟩,fun h=>nO h n0⟩⟩
    ·rintro l gv W hun xD hcl hJ hg ha hp
     have n0:l 31=false:=off_of (fun e=>hcl 31 13 e (by kernel_rfl)) hun
     obtain⟨hJ,hD⟩:=hJ.1 n0
     refine' op_val ?h12 ?w12 ?r12 ?K12
     case h12=>rfl
     case w12=>exact rfl
     case r12=>exact(ex_move rfl (eval_tmp ((ha 2 (by kernel_rfl)).trans rfl)))
     case K12=>exact⟨_,hp 43 _ (by kernel_rfl),⟨fun _=>⟨JK.M hok hst hJ 12 rfl,hD⟩,fun h=>nO h n0⟩⟩
    ·rintro l gv W hun xD hcl hJ hg ha hp
     have n0:l 31=false:=off_of (fun e=>hcl 31 14 e (by kernel_rfl)) hun
     obtain⟨hJ,hD⟩:=hJ.1 n0
     refine' op_val ?h13 ?w13 ?r13 ?K13
     case h13=>rfl
     case w13=>exact rfl
     case r13=>exact(ex_indexAddr rfl (lE (hg 43 (by kernel_rfl)) hJ.lit 12 rfl (xD 13 (by kernel_rfl))) rfl index1F)
     case K13=>exact⟨_,hp 44 _ (by kernel_rfl),⟨fun _=>⟨JK.M hok hst hJ 13 rfl,hD⟩,fun h=>nO h n0⟩⟩
    ·rintro l gv W hun xD hcl hJ hg ha hp
     have n0:l 31=false:=off_of (fun e=>hcl 31 15 e (by kernel_rfl)) hun
     obtain⟨hJ,hD⟩:=hJ.1 n0
     refine' op_val ?h14 ?w14 ?r14 ?K14
     case h14=>rfl
     case w14=>exact rfl
     case r14=>exact(ex_load rfl (lE (hg 44 (by kernel_rfl)) hJ.lit 13 rfl (xD 14 (by kernel_rfl))) (loadFo (f:=F0) (c_B hJ.low p4) (c_B hJ.low p5) (c_B hJ.low p6) (c_B hJ.low p7)))
     case K14=>exact⟨_,hp 45 _ (by kernel_rfl),⟨fun _=>⟨JK.M hok hst hJ 14 rfl,hD⟩,fun h=>nO h n0⟩⟩
    ·rintro l gv W hun xD hcl hJ hg ha hp
     have n0:l 31=false:=off_of (fun e=>hcl 31 16 e (by kernel_rfl)) hun
     obtain⟨hJ,hD⟩:=hJ.1 n0
     refine' op_val ?h15 ?w15 ?r15 ?K15
     case h15=>rfl
     case w15=>exact rfl
     case r15=>exact(ex_move rfl (eval_tmp ((ha 2 (by kernel_rfl)).trans rfl)))
     case K15=>exact⟨_,hp 46 _ (by kernel_rfl),⟨fun _=>⟨JK.M hok hst hJ 15 rfl,hD⟩,fun h=>nO h n0⟩⟩
    ·rintro l gv W hun xD hcl hJ hg ha hp
     have n0:l 31=false:=off_of (fun e=>hcl 31 17 e (by kernel_rfl)) hun
     obtain⟨hJ,hD⟩:=hJ.1 n0
     refine' op_val ?h16 ?w16 ?r16 ?K16
     case h16=>rfl
     case w16=>exact rfl
     case r16=>exact(ex_indexAddr rfl (lE (hg 46 (by kernel_rfl)) hJ.lit 15 rfl (xD 16 (by kernel_rfl))) rfl (index0 (by decide)))
     case K16=>exact⟨_,hp 47 _ (by kernel_rfl),⟨fun _=>⟨JK.M hok hst hJ 16 rfl,hD⟩,fun h=>nO h n0⟩⟩
    ·rintro l gv W hun xD hcl hJ hg ha hp
     have n0:l 31=false:=off_of (fun e=>hcl 31 18 e (by kernel_rfl)) hun
     obtain⟨hJ,hD⟩:=hJ.1 n0
     refine' op_val ?h17 ?w17 ?r17 ?K17
     case h17=>rfl
     case w17=>exact rfl
     case r17=>exact(ex_load rfl (lE (hg 47 (by kernel_rfl)) hJ.lit 16 rfl (xD 17 (by kernel_rfl))) (loadFo (f:=A0 81) (c_B hJ.low p0) (c_B hJ.low p1) (c_B hJ.low p2) (c_B hJ.low p3)))
     case K17=>exact⟨_,hp 48 _ (by kernel_rfl),⟨fun _=>⟨JK.M hok hst hJ 17 rfl,hD⟩,fun h=>nO h n0⟩⟩
    ·rintro l gv W hun xD hcl hJ hg ha hp
     have n0:l 31=false:=off_of (fun e=>hcl 31 19 e (by kernel_rfl)) hun
     obtain⟨hJ,hD⟩:=hJ.1 n0
     have hcn:=fun i=>cell_new W #[.int .u8 1,.string ⟨#[81]⟩,.slice none 0 0,.slice none 0 0,.int .u8 2,.string ⟨#[]⟩,.slice none 0 0,.slice none 0 0,.int .u8 1,.string ⟨#[81]⟩,.slice none 0 0,.slice none 0 0] 25 i
     exact op_val rfl rfl (ex_buildSlice3 rfl (lE (hg 42 (by kernel_rfl)) hJ.lit 11 rfl (xD 12 (by kernel_rfl))) (lE (hg 45 (by kernel_rfl)) hJ.lit 14 rfl (xD 15 (by kernel_rfl))) (lE (hg 48 (by kernel_rfl)) hJ.lit 17 rfl (xD 18 (by kernel_rfl))) (build_three W _ _ _ _ _ _ _ _ _ _ _ _)) ⟨_,hp 49 _ (by kernel_rfl),⟨fun _=>⟨JK.madeP hok hst hJ (gM 1 rfl) ⟨_,rfl,fun j u hu=>by rw[hcn];simpa[PCl] using hu⟩ (bel_laid W _),hD⟩,fun h=>nO h n0⟩⟩
    ·rintro l gv W hun xD hcl hJ hg ha hp
     have n0:l 31=false:=off_of (fun e=>hcl 31 20 e (by kernel_rfl)) hun
     obtain⟨hJ,hD⟩:=hJ.1 n0
     refine' op_val ?h18 ?w18 ?r18 ?K18
     case h18=>rfl
     case w18=>exact rfl
     case r18=>exact(ex_move rfl (eval_tmp ((ha 5 (by kernel_rfl)).trans rfl)))
     case K18=>exact⟨_,hp 50 _ (by kernel_rfl),⟨fun _=>⟨JK.M hok hst hJ 18 rfl,hD⟩,fun h=>nO h n0⟩⟩
    ·rintro l gv W hun xD hcl hJ hg ha hp
     have n0:l 31=false:=off_of (fun e=>hcl 31 21 e (by kernel_rfl)) hun
     obtain⟨hJ,hD⟩:=hJ.1 n0
     refine' op_val ?h19 ?w19 ?r19 ?K19
     case h19=>rfl
     case w19=>exact rfl
     case r19=>exact(ex_bin rfl (lE (hg 50 (by kernel_rfl)) hJ.lit 18 rfl (xD 20 (by kernel_rfl))) rfl (gquo3 _ _ _ _ W) (quo3 _ _ (by decide) (by decide) (by omega)))
     case K19=>exact⟨_,hp 51 _ (by kernel_rfl),⟨fun _=>⟨JK.M hok hst hJ 19 rfl,hD⟩,fun h=>nO h n0⟩⟩
    ·rintro l gv W hun xD hcl hJ hg ha hp
     have n0:l 31=false:=off_of (fun e=>hcl 31 22 e (by kernel_rfl)) hun
     obtain⟨hJ,hD⟩:=hJ.1 n0
     refine' op_val ?h20 ?w20 ?r20 ?K20
     case h20=>rfl
     case w20=>exact rfl
     case r20=>exact(ex_bin rfl (lE (hg 51 (by kernel_rfl)) hJ.lit 19 rfl (xD 21 (by kernel_rfl))) rfl (grem3 _ _ _ _ W) (rem3 _ _ (by decide)))
     case K20=>exact⟨_,hp 52 _ (by kernel_rfl),⟨fun _=>⟨JK.M hok hst hJ 20 rfl,hD⟩,fun h=>nO h n0⟩⟩
    ·rintro l gv W hun xD hcl hJ hg ha hp
     have n0:l 31=false:=off_of (fun e=>hcl 31 23 e (by kernel_rfl)) hun
     obtain⟨hJ,hD⟩:=hJ.1 n0
     obtain⟨g9,e9,h9⟩:=(hJ.pr _ (gM 1 rfl) (xD 19 (by kernel_rfl)))
     exact op_val rfl rfl (ex_slice rfl ((eval_tmp (hg 49 (by kernel_rfl))).trans e9) (lE (hg 52 (by kernel_rfl)) hJ.lit 20 rfl (xD 22 (by kernel_rfl))) (slice_forms hq3)) ⟨_,hp 53 _ (by kernel_rfl),⟨fun _=>⟨JK.madeP hok hst hJ (gM 2 rfl) ⟨_,rfl,h9⟩ (Below.refl _ _),hD⟩,fun h=>nO h n0⟩⟩
    ·rintro l gv W hun xD hcl hJ hg ha hp
     have n0:l 31=false:=off_of (fun e=>hcl 31 24 e (by kernel_rfl)) hun
     obtain⟨hJ,hD⟩:=hJ.1 n0
     obtain⟨g8,e8⟩:=(hJ.pr _ (gM 0 rfl) (xD 9 (by kernel_rfl)))
     obtain⟨g9,e9,h9⟩:=(hJ.pr _ (gM 2 rfl) (xD 23 (by kernel_rfl)))
     obtain⟨v',W',hr,hb,hv⟩:=app_empty (W:=W) (g:=g8) (m:=k/152%4) (c:=3) (ad:=⟨g9,0,none⟩) (news:=PCl.take (k/152%4*4)) 23 (by simp[PCl];omega) (fun j u hu=>by rw[Addr.add_lit,Nat.zero_add];exact h9 j u (List.getElem?_take_some hu)) hq3
     have hsb:SbP wr.heap.size (k/152%4) v' W':=by
      rcases hv with ⟨h0,rfl⟩ | ⟨h0,cap,rfl,hc⟩
      ·rw[h0];exact⟨_,_,rfl,.inl rfl⟩
      ·exact⟨_,_,rfl,.inr ⟨_,rfl,hJ.low.size,hc⟩⟩
     have n29:l 29=false:=off_of (fun e=>hcl 29 24 e (by kernel_rfl)) hun
     exact op_val rfl rfl (ex_append rfl ((eval_tmp (hg 39 (by kernel_rfl))).trans e8) ((eval_tmp (hg 53 (by kernel_rfl))).trans e9) hr) ⟨_,hp 54 _ (by kernel_rfl),⟨fun _=>⟨JK.madeP hok hst hJ (gM 3 rfl) hsb hb,fun h30 b hb6=>⟨fun _ hs=>by
      have h30':l 30=true:=h30
      obtain⟨b',e6,-,hF⟩:=hJ.pr _ (gM 5 rfl) h30'
      have e6':gv 6=.pointer (some ⟨b,0,none⟩):=hb6
      rw[e6] at e6'
      cases e6'
      obtain⟨u,hu⟩:=hF 0 (by omega)
      have hlt:=hu.lt
      rcases hv with ⟨h0,rfl⟩ | ⟨h0,cap,rfl,hc⟩
      ·cases hs
      ·obtain⟨m,hm⟩:∃ m,k/152%4=m+1:=⟨k/152%4 - 1,by omega⟩
       have hs':sblk (.slice (some ⟨W.heap.size,0,none⟩) (k/152%4) cap)=some b:=hs
       rw[hm] at hs'
       have:=Option.some.inj hs'
       simp at this
       omega,fun h29=>by
      have h29':l 29=true:=h29
      rw[n29] at h29'
      cases h29'⟩⟩,fun h=>nO h n0⟩⟩
    ·rintro l gv W hun xD hcl hJ hg ha hp
     have n0:l 31=false:=off_of (fun e=>hcl 31 25 e (by kernel_rfl)) hun
     obtain⟨hJ,hD⟩:=hJ.1 n0
     refine' op_val ?h21 ?w21 ?r21 ?K21
     case h21=>rfl
     case w21=>exact rfl
     case r21=>exact(ex_move rfl (eval_tmp ((ha 3 (by kernel_rfl)).trans rfl)))
     case K21=>exact⟨_,hp 55 _ (by kernel_rfl),⟨fun _=>⟨JK.M hok hst hJ 21 rfl,hD⟩,fun h=>nO h n0⟩⟩
    ·rintro l gv W hun xD hcl hJ hg ha hp
     have n0:l 31=false:=off_of (fun e=>hcl 31 26 e (by kernel_rfl)) hun
     obtain⟨hJ,hD⟩:=hJ.1 n0
     refine' op_val ?h22 ?w22 ?r22 ?K22
     case h22=>rfl
     case w22=>exact rfl
     case r22=>exact(ex_move rfl (eval_tmp ((ha 5 (by kernel_rfl)).trans rfl)))
     case K22=>exact⟨_,hp 56 _ (by kernel_rfl),⟨fun _=>⟨JK.M hok hst hJ 22 rfl,hD⟩,fun h=>nO h n0⟩⟩
    ·rintro l gv W hun xD hcl hJ hg ha hp
     have n0:l 31=false:=off_of (fun e=>hcl 31 27 e (by kernel_rfl)) hun
     obtain⟨hJ,hD⟩:=hJ.1 n0
     refine' op_val ?h23 ?w23 ?r23 ?K23
     case h23=>rfl
     case w23=>exact rfl
     case r23=>exact(ex_bin rfl (lE (hg 56 (by kernel_rfl)) hJ.lit 22 rfl (xD 26 (by kernel_rfl))) rfl (gquo3 _ _ _ _ W) (quo3 _ _ (by decide) (by decide) (by omega)))
     case K23=>exact⟨_,hp 57 _ (by kernel_rfl),⟨fun _=>⟨JK.M hok hst hJ 23 rfl,hD⟩,fun h=>nO h n0⟩⟩
    ·rintro l gv W hun xD hcl hJ hg ha hp
     have n0:l 31=false:=off_of (fun e=>hcl 31 28 e (by kernel_rfl)) hun
     obtain⟨hJ,hD⟩:=hJ.1 n0
     exact op_val rfl rfl (ex_slice rfl (lE (hg 55 (by kernel_rfl)) hJ.lit 21 rfl (xD 25 (by kernel_rfl))) (lE (hg 57 (by kernel_rfl)) hJ.lit 23 rfl (xD 27 (by kernel_rfl))) (slice_terms hq5)) ⟨_,hp 58 _ (by kernel_rfl),⟨fun _=>⟨JK.M hok hst hJ 24 rfl,hD⟩,fun h=>nO h n0⟩⟩
    ·rintro l gv W hun xD hcl hJ hg ha hp
     have n0:l 31=false:=off_of (fun e=>hcl 31 29 e (by kernel_rfl)) hun
     obtain⟨hJ,hD⟩:=hJ.1 n0
     have hsb:=(hJ.pr _ (gM 3 rfl) (xD 24 (by kernel_rfl)))
     obtain⟨p9,c9,e9,h9⟩:=id hsb
     exact op_val rfl rfl (ex_build0132 rfl (lE (hg 32 (by kernel_rfl)) hJ.lit 2 rfl (xD 2 (by kernel_rfl))) (lE (hg 38 (by kernel_rfl)) hJ.lit 8 rfl (xD 8 (by kernel_rfl))) (lE (hg 58 (by kernel_rfl)) hJ.lit 24 rfl (xD 28 (by kernel_rfl))) ((eval_tmp (hg 54 (by kernel_rfl))).trans e9) run_build0132) ⟨_,hp 59 _ (by kernel_rfl),⟨fun _=>⟨JK.madeP hok hst hJ (gM 4 rfl) ⟨_,rfl,e9 ▸ hsb⟩ (Below.refl _ _),fun h30 b hb6=>⟨(hD h30 b hb6).1,fun _ hs=>(hD h30 b hb6).1 (xD 24 (by kernel_rfl)) (by rw[e9];exact hs)⟩⟩,fun h=>nO h n0⟩⟩
    ·rintro l gv W hun xD hcl hJ hg ha hp
     have n0:l 31=false:=off_of (fun e=>hcl 31 30 e (by kernel_rfl)) hun
     obtain⟨hJ,hD⟩:=hJ.1 n0
     exact op_val rfl rfl (ex_alloc rfl) ⟨_,hp 6 _ (by kernel_rfl),⟨fun _=>⟨JK.madeP hok hst hJ (gM 5 rfl) ⟨_,rfl,hJ.low.size,Fr4'.new W⟩ (bel_laid W _),fun _ b hb6=>by
      have e6:Value.pointer (some ⟨W.heap.size,0,none⟩)=.pointer (some ⟨b,0,none⟩):=hb6
      cases e6
      exact⟨fun h24 hs=>Nat.lt_irrefl _ ((hJ.pr _ (gM 3 rfl) h24).lt hs),fun h29 hs=>by
       obtain⟨s9,e9,h9⟩:=hJ.pr _ (gM 4 rfl) h29
       have hs2:sub4 (gv 59)=some W.heap.size:=hs
       rw[e9] at hs2
       exact Nat.lt_irrefl _ (h9.lt hs2)⟩⟩,fun h=>nO h n0⟩⟩
    ·rintro l gv W hun xD hcl hJ hg ha hp
     obtain⟨hJ,hD⟩:=hJ.1 hun
     obtain⟨s9,e9,h9⟩:=(hJ.pr _ (gM 4 rfl) (xD 29 (by kernel_rfl)))
     obtain⟨b9,e6,hz9,hF⟩:=(hJ.pr _ (gM 5 rfl) (xD 30 (by kernel_rfl)))
     have hne:sblk s9≠some b9:=fun hs=>(hD (xD 30 (by kernel_rfl)) b9 e6).2 (xD 29 (by kernel_rfl)) (by rw[e9];exact hs)
     obtain⟨u0,y0⟩:=hF 0 (by omega)
     obtain⟨u1,y1⟩:=hF 1 (by omega)
     obtain⟨u2,y2⟩:=hF 2 (by omega)
     obtain⟨u3,y3⟩:=hF 3 (by omega)
     obtain⟨p9,c9,rfl,-⟩:=id h9
     have hst9:=storeAny (k:=((k%19:Nat):Int)) (b:=nm) (p:=some ⟨ga,0,none⟩) (n:=k/608) (c:=5) (q:=p9) (m:=k/152%4) (d:=c9) y0 y1 y2 y3
     obtain⟨W',hW'⟩:∃ W',W'=((((W.setCell ⟨b9,0,none⟩ (.int .u8 ((k%19:Nat):Int))).setCell ⟨b9,1,none⟩ (.string nm)).setCell ⟨b9,2,none⟩ (.slice (some ⟨ga,0,none⟩) (k/608) 5)).setCell ⟨b9,3,none⟩ (.slice p9 (k/152%4) c9)):=⟨_,rfl⟩
     have hwc:=set4_wc (a:=.int .u8 ((k%19:Nat):Int)) (b:=.string nm) (c:=.slice (some ⟨ga,0,none⟩) (k/608) 5) (d:=.slice p9 (k/152%4) c9) y0 y1 y2 y3
     have hfr:=SbP.far (W':=W') h9 hne (fun x i u hx hc=>by rw[hW'];exact set4_far hx hc)
     have hbl:Below wr.heap.size wr W':=by rw[hW'];exact below_set4 hJ.low hz9
     rw[←hW'] at hst9 hwc
     clear hW' y0 y1 y2 y3 hF
     have hfin:True→∃ (b_:Nat) (s_:Value),gv 6=.pointer (some ⟨b_,0,none⟩)∧wr.heap.size≤b_∧(Wc W' b_ 0 (.int .u8 ((k%19:Nat):Int))∧Wc W' b_ 1 (.string nm)∧Wc W' b_ 2 (.slice (some ⟨ga,0,none⟩) (k/608) 5)∧Wc W' b_ 3 s_)∧SbP wr.heap.size (k/152%4) s_ W'∧Below wr.heap.size wr W':=fun _=>⟨b9,_,e6,hz9,hwc,hfr,hbl⟩
     have hfin2:∃ (b_:Nat) (s_:Value),gv 6=.pointer (some ⟨b_,0,none⟩)∧wr.heap.size≤b_∧(Wc W' b_ 0 (.int .u8 ((k%19:Nat):Int))∧Wc W' b_ 1 (.string nm)∧Wc W' b_ 2 (.slice (some ⟨ga,0,none⟩) (k/608) 5)∧Wc W' b_ 3 s_)∧SbP wr.heap.size (k/152%4) s_ W'∧Below wr.heap.size wr W':=⟨b9,_,e6,hz9,hwc,hfr,hbl⟩
     clear hfin
     refine op_skip rfl rfl (ex_store rfl ((eval_tmp (hg 6 (by kernel_rfl))).trans e6) ((eval_tmp (hg 59 (by kernel_rfl))).trans e9) hst9) ?_
     refine⟨gv,put_none _ _,?_,fun _=>hfin2⟩
     intro h
     rw[show upd l 31 true 31=true from rfl] at h
     cases h
   case hend23 =>
    rintro ll gv W9 hl hJ
    replace hl:=fun j h=>hl j (of_decide_eq_true h)
    have hfin:=hJ.2 (hl 31 (by kernel_rfl))
    clear hJ hl
    simp only[zipV,List.map_cons,List.map_nil,puts,Act.put,List.setIfInBounds_toArray,List.set_cons_succ,List.set_cons_zero]
    obtain⟨bx,sx,e6,hzx,hcx,hsx,hbx⟩:=hfin
    rw[e6]
    clear e6
    obtain⟨u30,hu30⟩:∃ u,gv 30=u:=⟨_,rfl⟩
    rw[hu30]
    clear hu30
    obtain⟨u31,hu31⟩:∃ u,gv 31=u:=⟨_,rfl⟩
    rw[hu31]
    clear hu31
    obtain⟨u32,hu32⟩:∃ u,gv 32=u:=⟨_,rfl⟩
    rw[hu32]
    clear hu32
    obtain⟨u33,hu33⟩:∃ u,gv 33=u:=⟨_,rfl⟩
    rw[hu33]
    clear hu33
    obtain⟨u34,hu34⟩:∃ u,gv 34=u:=⟨_,rfl⟩
    rw[hu34]
    clear hu34
    obtain⟨u35,hu35⟩:∃ u,gv 35=u:=⟨_,rfl⟩
    rw[hu35]
    clear hu35
    obtain⟨u36,hu36⟩:∃ u,gv 36=u:=⟨_,rfl⟩
    rw[hu36]
    clear hu36
    obtain⟨u37,hu37⟩:∃ u,gv 37=u:=⟨_,rfl⟩
    rw[hu37]
    clear hu37
    obtain⟨u38,hu38⟩:∃ u,gv 38=u:=⟨_,rfl⟩
    rw[hu38]
    clear hu38
    obtain⟨u40,hu40⟩:∃ u,gv 40=u:=⟨_,rfl⟩
    rw[hu40]
    clear hu40
    obtain⟨u41,hu41⟩:∃ u,gv 41=u:=⟨_,rfl⟩
    rw[hu41]
    clear hu41
    obtain⟨u42,hu42⟩:∃ u,gv 42=u:=⟨_,rfl⟩
    rw[hu42]
    clear hu42
    obtain⟨u43,hu43⟩:∃ u,gv 43=u:=⟨_,rfl⟩
    rw[hu43]
    clear hu43
    obtain⟨u44,hu44⟩:∃ u,gv 44=u:=⟨_,rfl⟩
    rw[hu44]
    clear hu44
    obtain⟨u45,hu45⟩:∃ u,gv 45=u:=⟨_,rfl⟩
    rw[hu45]
    clear hu45
    obtain⟨u46,hu46⟩:∃ u,gv 46=u:=⟨_,rfl⟩
    rw[hu46]
    clear hu46
    obtain⟨u47,hu47⟩:∃ u,gv 47=u:=⟨_,rfl⟩
    rw[hu47]
    clear hu47
    obtain⟨u48,hu48⟩:∃ u,gv 48=u:=⟨_,rfl⟩
    rw[hu48]
    clear hu48
    obtain⟨u50,hu50⟩:∃ u,gv 50=u:=⟨_,rfl⟩
    rw[hu50]
    clear hu50
    obtain⟨u51,hu51⟩:∃ u,gv 51=u:=⟨_,rfl⟩
    rw[hu51]
    clear hu51
    obtain⟨u52,hu52⟩:∃ u,gv 52=u:=⟨_,rfl⟩
    rw[hu52]
    clear hu52
    obtain⟨u55,hu55⟩:∃ u,gv 55=u:=⟨_,rfl⟩
    rw[hu55]
    clear hu55
    obtain⟨u56,hu56⟩:∃ u,gv 56=u:=⟨_,rfl⟩
    rw[hu56]
    clear hu56
    obtain⟨u57,hu57⟩:∃ u,gv 57=u:=⟨_,rfl⟩
    rw[hu57]
    clear hu57
    obtain⟨u58,hu58⟩:∃ u,gv 58=u:=⟨_,rfl⟩
    rw[hu58]
    clear hu58
    obtain⟨u39,hu39⟩:∃ u,gv 39=u:=⟨_,rfl⟩
    rw[hu39]
    clear hu39
    obtain⟨u49,hu49⟩:∃ u,gv 49=u:=⟨_,rfl⟩
    rw[hu49]
    clear hu49
    obtain⟨u53,hu53⟩:∃ u,gv 53=u:=⟨_,rfl⟩
    rw[hu53]
    clear hu53
    obtain⟨u54,hu54⟩:∃ u,gv 54=u:=⟨_,rfl⟩
    rw[hu54]
    clear hu54
    obtain⟨u59,hu59⟩:∃ u,gv 59=u:=⟨_,rfl⟩
    rw[hu59]
    clear hu59
    obtain⟨w8,hw8⟩:∃ w8,W9=w8:=⟨_,rfl⟩
    rw[hw8] at hcx hsx hbx ⊢
    clear hw8 hnm p0 p1 p2 p3 p4 p5 p6 p7
    have hTk:(AT.take (k/608)).len=k/608:=Ts.take_len _ _ (by omega)
    have hTs:=Ts.take_size (k/608) AT
    have hTw:=Ts.take_wt (k/608) AT
    have hSs:=subsF_size (k/152%4)
    have hSw:=subsF_wt (k/152%4)
    obtain⟨F,hFe⟩:∃ F:FT,F=⟨((k%19:Nat):Int),nm,AT.take (k/608),subsF (k/152%4)⟩:=⟨_,rfl⟩
    have hFv:∀ U:World,Ext W0 U→(∀ g' i u,wr.heap.size≤g'→w8.cell? ⟨g',i,none⟩=some u→U.cell? ⟨g',i,none⟩=some u)→FVal U F (.agg #[.int .u8 ((k%19:Nat):Int),.string nm,.slice (some ⟨ga,0,none⟩) (k/608) 5,sx]):=fun U hE hU=>by
     rw[hFe]
     exact⟨_,_,rfl,⟨_,5,by show Value.slice _ _ _=.slice _ (AT.take (k/608)).len 5;rw[hTk],.inr ⟨ga,0,rfl,TsAt.take _ (TsAt.kept hE hSH.out.args)⟩⟩,SbP.fs hq3 hsx hU⟩
    have hFs:F.size≤20:=by rw[hFe];simp only[FT.size];omega
    have hFw:F.wt≤200:=by rw[hFe];simp only[FT.wt];omega
    have hFo:=h_X (show Opn F from by rw[hFe];exact opn_sh (by omega) _ _ _)
    have hE8:=Ext.of_below (bS hbwh.out hbx)
    have hF8:=h_X (hFv w8 hE8 fun _ _ _ _ h=>h)
    have hFvh:=h_X hFv
    have hb08:=h_X (bS hb0.out (bS hbwh.out hbx))
    have hbxh:=h_X hbx
    obtain⟨px,cx,rfl,-⟩:=id hsx
    obtain⟨⟨x0,f0⟩,⟨x1,f1⟩,⟨x2,f2⟩,⟨x3,f3⟩⟩:=hcx
    have hxh:=h_X (show w8.cell? ⟨bx,0,none⟩=some (.int .u8 ((k%19:Nat):Int))∧w8.cell? ⟨bx,1,none⟩=some (.string nm)∧w8.cell? ⟨bx,2,none⟩=some (.slice (some ⟨ga,0,none⟩) (k/608) 5)∧w8.cell? ⟨bx,3,none⟩=some (.slice px (k/152%4) cx) from ⟨x0,x1,x2,x3⟩)
    have HA:=h_X (asks_any F _ w8 (hrwh.out.of hb08.out) hF8.out (by omega) (by omega) hFo.out)
    clear hFv hE8 hbx hsx hTk hTs hTw hSs hSw hFe f0 f1 f2 f3
    go_wp2_with fail
    refine HA.out.mono ?_
    rintro e w9 ⟨rfl,hb9⟩
    replace x0:=c_B hb9 x0
    replace x1:=c_B hb9 x1
    replace x2:=c_B hb9 x2
    replace x3:=c_B hb9 x3
    have hb89:=h_X hb9
    have HO:=h_X (of_formW 3 ⟨#[]⟩ _ _ _ (one_any (FVal.below hb9 hF8.out) 25))
    clear HA hb9
    go_wp2_with fail
    refine HO.out.mono ?_
    rintro e w10 ⟨⟨v10,rfl,hv10⟩,hb10⟩
    have hb810:=h_X (bS hb89.out (bS (bel_laid w9 _) hb10))
    have HA2:=h_X (asks_any (N1 3 ⟨#[]⟩ F) v10 w10 (hrwh.out.of (bS hb08.out hb810.out)) hv10 (by rw[N1.size];omega) (by rw[N1.wt];omega) (N1.open (by decide) hFo.out))
    clear HO hv10 hb10 x0 x1 x2 x3 hb89
    go_wp2_with fail
    refine HA2.out.mono ?_
    rintro e w11 ⟨rfl,hb11⟩
    have hb811:=h_X (bS hb810.out hb11)
    have hbr11:=h_X (bS hbxh.out (bS hb810.out hb11))
    clear HA2 hb11 hb810
    have hrm:(k:Int).tmod 97=((k%97:Nat):Int):=by rw[Int.tmod_eq_emod_of_nonneg (by omega)];omega
    by_cases h97:k%97=0
    ·have h97i:((k%97:Nat):Int)=0:=by omega
     have x0:=c_B hb811.out hxh.out.1
     have x1:=c_B hb811.out hxh.out.2.1
     have x2:=c_B hb811.out hxh.out.2.2.1
     have x3:=c_B hb811.out hxh.out.2.2.2
     obtain⟨i0,hi,hz0,hz1,hz2⟩:=info_parts info27
     have hbl:=bel_laid w11 (.cells #[.int .u8 ((k%19:Nat):Int),.string nm,.slice (some ⟨ga,0,none⟩) (k/608) 5,.slice px (k/152%4) cx] 25)
     have hbV:=h_X (bS hbr11.out hbl)
     have hoh:=h_X (owns_below (bS hbr11.out hbl) hownh.out)
     have hlt2:∀ g',u4.ownBlock=some g'→W0.heap.size≤g'∧g' < (w11.alloc (.cells #[.int .u8 ((k%19:Nat):Int),.string nm,.slice (some ⟨ga,0,none⟩) (k/608) 5,.slice px (k/152%4) cx] 25)).heap.size:=hoh.out.lt
     have hlt3h:=h_X (show ∀ r,u4.ownBlock=some r→r < wr.heap.size from fun r h=>(hownh.out.lt r h).2)
     have hB:=h_X (bS hbwh.out hbV.out)
     have hszv:W0.heap.size≤w11.heap.size:=(bS hbwh.out hbr11.out).size
     have h811V:=h_X (bS hb811.out hbl)
     clear hbl hownh
     go_wp2_with (at_builtin;refine wpList_append_own_at _ rfl _ _ 23 rfl W0.heap.size 25 i0 (.agg #[.int .u8 0,.string ⟨#[]⟩,.slice none 0 0,.slice none 0 0]) 4 72 Tryz.underlying23 hi hz0 hz1 hz2 rfl (by decide) _ _ _ rfl hoh.out ⟨w11.heap.size,0,none⟩ 1 1 [.int .u8 ((k%19:Nat):Int),.string nm,.slice (some ⟨ga,0,none⟩) (k/608) 5,.slice px (k/152%4) cx] rfl rfl ?ca1 ?ca2 ?ca3 ?ca4 ?ca5 ?_)
     (try case ca1=>intro j' u hu;rw[Addr.add_lit,Nat.zero_add,World.cell?_alloc_new];simpa using hu)
     case ca2=>first | exact⟨rfl,rfl,rfl,rfl⟩ | (intro u hu;simp at hu;rcases hu with rfl | rfl | rfl | rfl<;>rfl)
     case ca3=>unfold maxLen;omega
     case ca4=>omega
     case ca5=>first | omega | (rw[World.size_alloc];omega)
     intro vv v99 hown1 hgrow _ hob
     have e19:((k%19:Nat):Int)=(k:Int)%19:=by omega
     have hb99:=h_X (show Below W0.heap.size W0 v99 from hB.out.grown (by rw[e19];exact hgrow) hB.out.size (fun g' e=>(hlt2 g' e).1))
     have hO:=h_X (show v99.ownsRow W0.heap.size 25 4 vv (fs ++ [F]).length (flatV (xs ++ [.agg #[.int .u8 ((k%19:Nat):Int),.string nm,.slice (some ⟨ga,0,none⟩) (k/608) 5,.slice px (k/152%4) cx]])) by rw[flatV_snoc,List.length_append,e19];exact hown1)
     have hsz9:=(bS hbwh.out hbV.out).size
     have hg9:=hgrow
     rw[←e19] at hg9
     have hvv:∀ r,(u4.ownBlock=some r∨r=(w11.alloc (.cells #[.int .u8 ((k%19:Nat):Int),.string nm,.slice (some ⟨ga,0,none⟩) (k/608) 5,.slice px (k/152%4) cx] 25)).heap.size)→FVal (punch v99 r) F (.agg #[.int .u8 ((k%19:Nat):Int),.string nm,.slice (some ⟨ga,0,none⟩) (k/608) 5,.slice px (k/152%4) cx]):=fun r hr=>hFvh.out _ (fun b' o y hc=>by
       have k1:=lt_of_cell hc
       have k2:=c_B hB.out hc
       have hne:b'≠r:=by
        rcases hr with e | e
        ·have:=(hlt2 r e).1;omega
        ·omega
       rw[punch_cell hne]
       exact hg9.cell k2 (fun e=>by have:=(hlt2 b' e.symm).1;omega)) (fun g' i u hz hc=>by
       have k2:=c_B h811V.out hc
       have k3:=lt_of_cell k2
       have hne:g'≠r:=by
        rcases hr with e | e
        ·have:=hlt3h.out r e;omega
        ·omega
       rw[punch_cell hne]
       exact hg9.cell k2 (fun e=>by have:=hlt3h.out g' e.symm;omega))
     have hVS2:=h_X (vs_step hbV.out hlt3h.out hVSh.out hVNh.out hvv hg9 (by first | exact hob | (rw[World.size_alloc];exact hob)))
     have hNo:=h_X (show vv.ownBlock=none→xs ++ [Value.agg #[.int .u8 ((k%19:Nat):Int),.string nm,.slice (some ⟨ga,0,none⟩) (k/608) 5,.slice px (k/152%4) cx]]=[]∧fs ++ [F]=[] from fun h=>by
      obtain⟨-,⟨-,hz⟩ | ⟨g',cap,cur,rfl,-⟩⟩:=hO.out
      ·simp at hz
      ·cases h)
     have hfs2:=h_X (show ∀ G∈fs ++ [F],G.size≤20∧G.wt≤200∧Opn G from fun G hG=>by
      rcases List.mem_append.1 hG with h | h
      ·exact hfsh.out G h
      ·rw[List.mem_singleton.1 h];exact⟨hFs,hFw,hFo.out⟩)
     clear hown1 hgrow hg9 hob hvv hoh hlt2 hB hbV hlt3h hszv hsz9 h811V hVSh hVNh x0 x1 x2 x3 hxh hb811 hbr11 hb08 hF8 hFvh hbwh hSh hbxh
     go_wp2
     go_roundw
     case rel=>exact⟨k+1,_,fs ++ [F],rfl,by omega,.inr (by simp),by rw[List.length_append];simp;omega,hO.out,hVS2.out,hNo.out,hfs2.out,hb99.out⟩
     case measure=>simp[intOf];omega
    ·have h97i:¬ ((k%97:Nat):Int)=0:=by omega
     have hO:=h_X (owns_below hbr11.out hownh.out)
     have hVS2:=h_X (show ∀ r,u4.ownBlock=some r→VS (punch w11 r) xs fs from fun r hr=>VS.ext (Ext.of_below (punch_below hbr11.out)) (hVSh.out r hr))
     have hbz:=h_X (bS hbwh.out hbr11.out)
     have hkp':0 < fs.length:=by
      rcases hkp with rfl | h
      ·exact absurd rfl h97
      ·exact h
     clear hownh hVSh hxh hb811 hbr11 hb08 hF8 hFvh hFo hbwh hSh hbxh
     go_wp2
     go_roundw
     case rel=>exact⟨k+1,xs,fs,rfl,by omega,.inr hkp',by omega,hO.out,hVS2.out,hVNh.out,hfsh.out,hbz.out⟩
     case measure=>simp[intOf];omega
  ·have hki:¬ (k:Int) < 3648:=by omega
   obtain rfl:k=3648:=by omega
   have hn0:0 < fs.length:=by omega
   obtain⟨gs,cap,hue⟩:∃ gs cap,u4=.slice (some ⟨gs,0,none⟩) fs.length cap:=by
    obtain⟨-,⟨-,hz⟩ | ⟨g',cap',cur,e,-⟩⟩:=id hownh.out
    ·omega
    ·exact⟨g',cap',e⟩
   subst hue
   have hVSw:=h_X (VS.ext (punch_ext _ _) (hVSh.out gs rfl))
   have hCell:=h_X (fun i (hi:i < fs.length)=>VS.cell i hi hVSw.out hownh.out)
   have hbB:=h_X (bS hb0.out hbwh.out)
   have hbWB:=h_X hbwh.out
   obtain⟨n,hn⟩:∃ n,fs.length=n:=⟨_,rfl⟩
   have hnh:=h_X hn
   have hn38:n≤38:=by omega
   have hn1:0 < n:=by omega
   rw[hn]
   clear hownh hVSh hVNh hS hkp hkl hn0 hn
   obtain⟨wB,hwB⟩:∃ wB,wr=wB:=⟨_,rfl⟩
   rw[hwB] at hVSw hCell hbB hbWB ⊢
   clear hwB
   have hmw:IntKind.i64.wrap ((n:Int)*(n:Int))=((n*n:Nat):Int):=by
    have h1:n*n≤1444:=Nat.mul_le_mul hn38 hn38
    have h2:(n:Int)*(n:Int)=((n*n:Nat):Int):=by simp
    rw[h2]
    exact IntWalk.i64_in _ (by omega)
   have hnn:n*n≤1444:=Nat.mul_le_mul hn38 hn38
   generalize hNN:n*n=NN at hmw hnn
   have hNNh:=h_X hNN
   clear hNN
   go_wp2_with fail
   go_loopw [7] (fun i wr=>∃ k:Nat,i=.int .i64 (k:Int)∧k≤NN∧Below wB.heap.size wB wr) (fun i _=>NN - (intOf i).toNat)
   case atStart=>exact⟨0,rfl,Nat.zero_le _,Below.refl _ _⟩
   case round =>
    obtain⟨k,rfl,hk0',hbw⟩:=hrel
    clear hbwh
    have hbwh:=h_X hbw
    clear hbw
    by_cases hk:k < NN
    ·have hki:(k:Int) < (NN:Int):=by omega
     have hkw:IntKind.i64.wrap ((k:Int)+1)=(k:Int)+1:=IntWalk.i64_in _ (by omega)
     have hka:k%n < n:=Nat.mod_lt _ hn1
     have hkb:k/n < n:=by rw[Nat.div_lt_iff_lt_mul hn1,hNNh.out];exact hk
     obtain⟨pA,nA,cA,qA,dA,hvA,a0,a1,a2,a3⟩:=hCell.out (k%n) (by rw[hnh.out];exact hka)
     obtain⟨pB,nB,cB,qB,dB,hvB,b0,b1,b2,b3⟩:=hCell.out (k/n) (by rw[hnh.out];exact hkb)
     have hfA:=hfsh.out _ (List.getElem_mem (show k%n < fs.length by rw[hnh.out];exact hka))
     have hfB:=hfsh.out _ (List.getElem_mem (show k/n < fs.length by rw[hnh.out];exact hkb))
     replace a0:=c_B hbwh.out a0
     replace a1:=c_B hbwh.out a1
     replace a2:=c_B hbwh.out a2
     replace a3:=c_B hbwh.out a3
     replace b0:=c_B hbwh.out b0
     replace b1:=c_B hbwh.out b1
     replace b2:=c_B hbwh.out b2
     replace b3:=c_B hbwh.out b3
     have hvAh:=h_X (FVal.below hbwh.out hvA)
     have hvBh:=h_X (FVal.below hbwh.out hvB)
     clear hvA hvB
     generalize fs[k%n]'(by rw[hnh.out];exact hka)=A at *
     generalize fs[k/n]'(by rw[hnh.out];exact hkb)=B at *
     go_wp2_with fail
     have hok:okK [(0,86,.slice (some ⟨gs,0,none⟩) n cap),(1,87,.int .i64 (k:Int)),(2,88,.slice (some ⟨gs,0,none⟩) n cap),(3,89,.int .i64 (n:Int)),(4,90,.int .i64 ((k%n:Nat):Int)),(5,91,.pointer (some ⟨gs,k%n*4,none⟩)),(6,92,.agg #[.int .u8 A.op,.string A.n,.slice pA nA cA,.slice qA A.sub.len dA]),(7,93,.slice (some ⟨gs,0,none⟩) n cap),(8,94,.int .i64 (k:Int)),(9,95,.slice (some ⟨gs,0,none⟩) n cap),(10,96,.int .i64 (n:Int)),(11,97,.int .i64 ((k/n:Nat):Int)),(12,98,.pointer (some ⟨gs,k/n*4,none⟩)),(13,99,.agg #[.int .u8 B.op,.string B.n,.slice pB nB cB,.slice qB B.sub.len dB])] [(14,8,(fun v W=>∃ b:Nat,v=.pointer (some ⟨b,0,none⟩)∧wr.heap.size≤b∧Fr4' b W)),(15,9,(fun v W=>∃ b:Nat,v=.pointer (some ⟨b,0,none⟩)∧wr.heap.size≤b∧Fr4' b W))]=true:=by kernel_rfl
     refine wp_region_run (by kernel_rfl) 216 [86,87,88,89,90,91,92,93,94,95,96,97,98,99,8,9] (fun l_ g_ W_=>(l_ 17=false→(JK wr (okL hok) (okP hok) l_ g_ W_∧((l_ 14=true→l_ 15=true→∀ a b:Nat,g_ 8=.pointer (some ⟨a,0,none⟩)→g_ 9=.pointer (some ⟨b,0,none⟩)→a≠b)∧(l_ 16=true→∀ a:Nat,g_ 8=.pointer (some ⟨a,0,none⟩)→Cl4 a A.op A.n (.slice pA nA cA) (.slice qA A.sub.len dA) W_))))∧(l_ 17=true→(∃ a_ b_:Nat,g_ 8=.pointer (some ⟨a_,0,none⟩)∧g_ 9=.pointer (some ⟨b_,0,none⟩)∧wr.heap.size≤a_∧wr.heap.size≤b_∧a_≠b_∧Cl4 a_ A.op A.n (.slice pA nA cA) (.slice qA A.sub.len dA) W_∧Cl4 b_ B.op B.n (.slice pB nB cB) (.slice qB B.sub.len dB) W_∧Below wr.heap.size wr W_))) (by kernel_rfl) rfl ⟨fun _=>⟨JK.start _ _,⟨fun h=>(by cases h),fun h=>(by cases h)⟩⟩,fun h=>by cases h⟩ ?hst37 ?hend37
     case hst37 =>
      have hst:∀ p∈okP hok,Stb p.2.2:=(fun p hp=>by simp only[okP,List.mem_cons,List.not_mem_nil,or_false] at hp;exact hp.elim (fun h=>by subst h;exact fun v W W' hb h=>h.imp fun g h=>⟨h.1,h.2.1,h.2.2.below hb⟩) (fun h=>by subst h;exact fun v W W' hb h=>h.imp fun g h=>⟨h.1,h.2.1,h.2.2.below hb⟩))
      refine⟨?_,?_,?_,?_,?_,?_,?_,?_,?_,?_,?_,?_,?_,?_,?_,?_,?_,?_,trivial⟩
      ·rintro l gv W hun xD hcl hJ hg ha hp
       have n0:l 17=false:=off_of (fun e=>hcl 17 0 e (by kernel_rfl)) hun
       obtain⟨hJ,hD⟩:=hJ.1 n0
       refine' op_val ?h24 ?w24 ?r24 ?K24
       case h24=>rfl
       case w24=>exact rfl
       case r24=>exact(ex_move rfl (eval_tmp ((ha 4 (by kernel_rfl)).trans rfl)))
       case K24=>exact⟨_,hp 86 _ (by kernel_rfl),⟨fun _=>⟨JK.M hok hst hJ 0 rfl,hD⟩,fun h=>nO h n0⟩⟩
      ·rintro l gv W hun xD hcl hJ hg ha hp
       have n0:l 17=false:=off_of (fun e=>hcl 17 1 e (by kernel_rfl)) hun
       obtain⟨hJ,hD⟩:=hJ.1 n0
       refine' op_val ?h25 ?w25 ?r25 ?K25
       case h25=>rfl
       case w25=>exact rfl
       case r25=>exact(ex_move rfl (eval_tmp ((ha 7 (by kernel_rfl)).trans rfl)))
       case K25=>exact⟨_,hp 87 _ (by kernel_rfl),⟨fun _=>⟨JK.M hok hst hJ 1 rfl,hD⟩,fun h=>nO h n0⟩⟩
      ·rintro l gv W hun xD hcl hJ hg ha hp
       have n0:l 17=false:=off_of (fun e=>hcl 17 2 e (by kernel_rfl)) hun
       obtain⟨hJ,hD⟩:=hJ.1 n0
       refine' op_val ?h26 ?w26 ?r26 ?K26
       case h26=>rfl
       case w26=>exact rfl
       case r26=>exact(ex_move rfl (eval_tmp ((ha 4 (by kernel_rfl)).trans rfl)))
       case K26=>exact⟨_,hp 88 _ (by kernel_rfl),⟨fun _=>⟨JK.M hok hst hJ 2 rfl,hD⟩,fun h=>nO h n0⟩⟩
      ·rintro l gv W hun xD hcl hJ hg ha hp
       have n0:l 17=false:=off_of (fun e=>hcl 17 3 e (by kernel_rfl)) hun
       obtain⟨hJ,hD⟩:=hJ.1 n0
       refine' op_val ?h27 ?w27 ?r27 ?K27
       case h27=>rfl
       case w27=>exact rfl
       case r27=>exact(ex_len Tryz.underlying23 rfl (lE (hg 88 (by kernel_rfl)) hJ.lit 2 rfl (xD 2 (by kernel_rfl))) rfl)
       case K27=>exact⟨_,hp 89 _ (by kernel_rfl),⟨fun _=>⟨JK.M hok hst hJ 3 rfl,hD⟩,fun h=>nO h n0⟩⟩
      ·rintro l gv W hun xD hcl hJ hg ha hp
       have n0:l 17=false:=off_of (fun e=>hcl 17 4 e (by kernel_rfl)) hun
       obtain⟨hJ,hD⟩:=hJ.1 n0
       refine' op_val ?h28 ?w28 ?r28 ?K28
       case h28=>rfl
       case w28=>exact rfl
       case r28=>exact(ex_bin rfl (lE (hg 87 (by kernel_rfl)) hJ.lit 1 rfl (xD 1 (by kernel_rfl))) (lE (hg 89 (by kernel_rfl)) hJ.lit 3 rfl (xD 3 (by kernel_rfl))) (grem3 _ _ _ _ W) (rem3 _ _ (by omega)))
       case K28=>exact⟨_,hp 90 _ (by kernel_rfl),⟨fun _=>⟨JK.M hok hst hJ 4 rfl,hD⟩,fun h=>nO h n0⟩⟩
      ·rintro l gv W hun xD hcl hJ hg ha hp
       have n0:l 17=false:=off_of (fun e=>hcl 17 5 e (by kernel_rfl)) hun
       obtain⟨hJ,hD⟩:=hJ.1 n0
       refine' op_val ?h29 ?w29 ?r29 ?K29
       case h29=>rfl
       case w29=>exact rfl
       case r29=>exact(ex_indexAddr rfl (lE (hg 86 (by kernel_rfl)) hJ.lit 0 rfl (xD 0 (by kernel_rfl))) (lE (hg 90 (by kernel_rfl)) hJ.lit 4 rfl (xD 4 (by kernel_rfl))) (ixF hka))
       case K29=>exact⟨_,hp 91 _ (by kernel_rfl),⟨fun _=>⟨JK.M hok hst hJ 5 rfl,hD⟩,fun h=>nO h n0⟩⟩
      ·rintro l gv W hun xD hcl hJ hg ha hp
       have n0:l 17=false:=off_of (fun e=>hcl 17 6 e (by kernel_rfl)) hun
       obtain⟨hJ,hD⟩:=hJ.1 n0
       refine' op_val ?h30 ?w30 ?r30 ?K30
       case h30=>rfl
       case w30=>exact rfl
       case r30=>exact(ex_load rfl (lE (hg 91 (by kernel_rfl)) hJ.lit 5 rfl (xD 5 (by kernel_rfl))) (loadAny (c_B hJ.low a0) (c_B hJ.low a1) (c_B hJ.low a2) (c_B hJ.low a3)))
       case K30=>exact⟨_,hp 92 _ (by kernel_rfl),⟨fun _=>⟨JK.M hok hst hJ 6 rfl,hD⟩,fun h=>nO h n0⟩⟩
      ·rintro l gv W hun xD hcl hJ hg ha hp
       have n0:l 17=false:=off_of (fun e=>hcl 17 7 e (by kernel_rfl)) hun
       obtain⟨hJ,hD⟩:=hJ.1 n0
       refine' op_val ?h31 ?w31 ?r31 ?K31
       case h31=>rfl
       case w31=>exact rfl
       case r31=>exact(ex_move rfl (eval_tmp ((ha 4 (by kernel_rfl)).trans rfl)))
       case K31=>exact⟨_,hp 93 _ (by kernel_rfl),⟨fun _=>⟨JK.M hok hst hJ 7 rfl,hD⟩,fun h=>nO h n0⟩⟩
      ·rintro l gv W hun xD hcl hJ hg ha hp
       have n0:l 17=false:=off_of (fun e=>hcl 17 8 e (by kernel_rfl)) hun
       obtain⟨hJ,hD⟩:=hJ.1 n0
       refine' op_val ?h32 ?w32 ?r32 ?K32
       case h32=>rfl
       case w32=>exact rfl
       case r32=>exact(ex_move rfl (eval_tmp ((ha 7 (by kernel_rfl)).trans rfl)))
       case K32=>exact⟨_,hp 94 _ (by kernel_rfl),⟨fun _=>⟨JK.M hok hst hJ 8 rfl,hD⟩,fun h=>nO h n0⟩⟩
      ·rintro l gv W hun xD hcl hJ hg ha hp
       have n0:l 17=false:=off_of (fun e=>hcl 17 9 e (by kernel_rfl)) hun
       obtain⟨hJ,hD⟩:=hJ.1 n0
       refine' op_val ?h33 ?w33 ?r33 ?K33
       case h33=>rfl
       case w33=>exact rfl
       case r33=>exact(ex_move rfl (eval_tmp ((ha 4 (by kernel_rfl)).trans rfl)))
       case K33=>exact⟨_,hp 95 _ (by kernel_rfl),⟨fun _=>⟨JK.M hok hst hJ 9 rfl,hD⟩,fun h=>nO h n0⟩⟩
      ·rintro l gv W hun xD hcl hJ hg ha hp
       have n0:l 17=false:=off_of (fun e=>hcl 17 10 e (by kernel_rfl)) hun
       obtain⟨hJ,hD⟩:=hJ.1 n0
       refine' op_val ?h34 ?w34 ?r34 ?K34
       case h34=>rfl
       case w34=>exact rfl
       case r34=>exact(ex_len Tryz.underlying23 rfl (lE (hg 95 (by kernel_rfl)) hJ.lit 9 rfl (xD 9 (by kernel_rfl))) rfl)
       case K34=>exact⟨_,hp 96 _ (by kernel_rfl),⟨fun _=>⟨JK.M hok hst hJ 10 rfl,hD⟩,fun h=>nO h n0⟩⟩
      ·rintro l gv W hun xD hcl hJ hg ha hp
       have n0:l 17=false:=off_of (fun e=>hcl 17 11 e (by kernel_rfl)) hun
       obtain⟨hJ,hD⟩:=hJ.1 n0
       refine' op_val ?h35 ?w35 ?r35 ?K35
       case h35=>rfl
       case w35=>exact rfl
       case r35=>exact(ex_bin rfl (lE (hg 94 (by kernel_rfl)) hJ.lit 8 rfl (xD 8 (by kernel_rfl))) (lE (hg 96 (by kernel_rfl)) hJ.lit 10 rfl (xD 10 (by kernel_rfl))) (gquo3 _ _ _ _ W) (quoN k n (by omega) (by omega)))
       case K35=>exact⟨_,hp 97 _ (by kernel_rfl),⟨fun _=>⟨JK.M hok hst hJ 11 rfl,hD⟩,fun h=>nO h n0⟩⟩
      ·rintro l gv W hun xD hcl hJ hg ha hp
       have n0:l 17=false:=off_of (fun e=>hcl 17 12 e (by kernel_rfl)) hun
       obtain⟨hJ,hD⟩:=hJ.1 n0
       refine' op_val ?h36 ?w36 ?r36 ?K36
       case h36=>rfl
       case w36=>exact rfl
       case r36=>exact(ex_indexAddr rfl (lE (hg 93 (by kernel_rfl)) hJ.lit 7 rfl (xD 7 (by kernel_rfl))) (lE (hg 97 (by kernel_rfl)) hJ.lit 11 rfl (xD 11 (by kernel_rfl))) (ixF hkb))
       case K36=>exact⟨_,hp 98 _ (by kernel_rfl),⟨fun _=>⟨JK.M hok hst hJ 12 rfl,hD⟩,fun h=>nO h n0⟩⟩
      ·rintro l gv W hun xD hcl hJ hg ha hp
       have n0:l 17=false:=off_of (fun e=>hcl 17 13 e (by kernel_rfl)) hun
       obtain⟨hJ,hD⟩:=hJ.1 n0
       refine' op_val ?h37 ?w37 ?r37 ?K37
       case h37=>rfl
       case w37=>exact rfl
       case r37=>exact(ex_load rfl (lE (hg 98 (by kernel_rfl)) hJ.lit 12 rfl (xD 12 (by kernel_rfl))) (loadAny (c_B hJ.low b0) (c_B hJ.low b1) (c_B hJ.low b2) (c_B hJ.low b3)))
       case K37=>exact⟨_,hp 99 _ (by kernel_rfl),⟨fun _=>⟨JK.M hok hst hJ 13 rfl,hD⟩,fun h=>nO h n0⟩⟩
      ·rintro l gv W hun xD hcl hJ hg ha hp
       have n0:l 17=false:=off_of (fun e=>hcl 17 14 e (by kernel_rfl)) hun
       obtain⟨hJ,hD⟩:=hJ.1 n0
       have n16:l 16=false:=off_of (fun e=>hcl 16 14 e (by kernel_rfl)) hun
       exact op_val rfl rfl (ex_alloc rfl) ⟨_,hp 8 _ (by kernel_rfl),⟨fun _=>⟨JK.madeP hok hst hJ (gM 0 rfl) ⟨_,rfl,hJ.low.size,Fr4'.new W⟩ (bel_laid W _),⟨fun _ h15 a b ha hb=>by
        have ha':Value.pointer (some ⟨W.heap.size,0,none⟩)=.pointer (some ⟨a,0,none⟩):=ha
        cases ha'
        obtain⟨b',e9,-,hF⟩:=hJ.pr _ (gM 1 rfl) h15
        have hb':gv 9=.pointer (some ⟨b,0,none⟩):=hb
        rw[e9] at hb'
        cases hb'
        obtain⟨u,hu⟩:=hF 0 (by omega)
        have:=hu.lt
        omega,fun h16=>by
        have h16':l 16=true:=h16
        rw[n16] at h16'
        cases h16'⟩⟩,fun h=>nO h n0⟩⟩
      ·rintro l gv W hun xD hcl hJ hg ha hp
       have n0:l 17=false:=off_of (fun e=>hcl 17 15 e (by kernel_rfl)) hun
       obtain⟨hJ,hD⟩:=hJ.1 n0
       exact op_val rfl rfl (ex_alloc rfl) ⟨_,hp 9 _ (by kernel_rfl),⟨fun _=>⟨JK.madeP hok hst hJ (gM 1 rfl) ⟨_,rfl,hJ.low.size,Fr4'.new W⟩ (bel_laid W _),⟨fun h14 _ a b ha hb=>by
        have hb':Value.pointer (some ⟨W.heap.size,0,none⟩)=.pointer (some ⟨b,0,none⟩):=hb
        cases hb'
        obtain⟨a',e8,-,hF⟩:=hJ.pr _ (gM 0 rfl) h14
        have ha':gv 8=.pointer (some ⟨a,0,none⟩):=ha
        rw[e8] at ha'
        cases ha'
        obtain⟨u,hu⟩:=hF 0 (by omega)
        have:=hu.lt
        omega,fun h16 a ha=>(hD.2 h16 a ha).keep fun _ _ hc=>hc.below (bel_laid W _)⟩⟩,fun h=>nO h n0⟩⟩
      ·rintro l gv W hun xD hcl hJ hg ha hp
       have n0:l 17=false:=off_of (fun e=>hcl 17 16 e (by kernel_rfl)) hun
       obtain⟨hJ,hD⟩:=hJ.1 n0
       obtain⟨a9,e8,hz9,hF⟩:=hJ.pr _ (gM 0 rfl) (xD 14 (by kernel_rfl))
       obtain⟨u0,y0⟩:=hF 0 (by omega)
       obtain⟨u1,y1⟩:=hF 1 (by omega)
       obtain⟨u2,y2⟩:=hF 2 (by omega)
       obtain⟨u3,y3⟩:=hF 3 (by omega)
       have hst9:=storeAny (k:=A.op) (b:=A.n) (p:=pA) (n:=nA) (c:=cA) (q:=qA) (m:=A.sub.len) (d:=dA) y0 y1 y2 y3
       have hwc:=set4_wc (a:=.int .u8 A.op) (b:=.string A.n) (c:=.slice pA nA cA) (d:=.slice qA A.sub.len dA) y0 y1 y2 y3
       have hJ9:=JK.moved (i:=16) hJ (by kernel_rfl) (by kernel_rfl) (below_set4 (a:=.int .u8 A.op) (b:=.string A.n) (c:=.slice pA nA cA) (d:=.slice qA A.sub.len dA) hJ.low hz9) (fun p hp=>by
        simp only[List.mem_cons,List.not_mem_nil,or_false] at hp
        exact hp.elim (fun h=>by subst h;exact fun v h=>h.imp fun g h=>⟨h.1,h.2.1,h.2.2.set4 hF⟩) (fun h=>by subst h;exact fun v h=>h.imp fun g h=>⟨h.1,h.2.1,h.2.2.set4 hF⟩))
       refine op_skip rfl rfl (ex_store rfl ((eval_tmp (hg 8 (by kernel_rfl))).trans e8) (lE (hg 92 (by kernel_rfl)) hJ.lit 6 rfl (xD 6 (by kernel_rfl))) hst9) ?_
       refine⟨gv,put_none _ _,fun _=>⟨hJ9,⟨fun h14 h15=>hD.1 h14 h15,fun _ a ha=>?_⟩⟩,fun h=>nO h n0⟩
       rw[e8] at ha
       cases ha
       exact hwc
      ·rintro l gv W hun xD hcl hJ hg ha hp
       obtain⟨hJ,hD⟩:=hJ.1 hun
       obtain⟨a9,e8,hza,-⟩:=hJ.pr _ (gM 0 rfl) (hcl 16 14 (xD 16 (by kernel_rfl)) (by kernel_rfl))
       obtain⟨b9,e9,hz9,hF⟩:=hJ.pr _ (gM 1 rfl) (xD 15 (by kernel_rfl))
       have hne:=hD.1 (hcl 16 14 (xD 16 (by kernel_rfl)) (by kernel_rfl)) (xD 15 (by kernel_rfl)) a9 b9 e8 e9
       have hA9:=hD.2 (xD 16 (by kernel_rfl)) a9 e8
       obtain⟨u0,y0⟩:=hF 0 (by omega)
       obtain⟨u1,y1⟩:=hF 1 (by omega)
       obtain⟨u2,y2⟩:=hF 2 (by omega)
       obtain⟨u3,y3⟩:=hF 3 (by omega)
       have hst9:=storeAny (k:=B.op) (b:=B.n) (p:=pB) (n:=nB) (c:=cB) (q:=qB) (m:=B.sub.len) (d:=dB) y0 y1 y2 y3
       have hwc:=set4_wc (a:=.int .u8 B.op) (b:=.string B.n) (c:=.slice pB nB cB) (d:=.slice qB B.sub.len dB) y0 y1 y2 y3
       have hbl:=below_set4 (a:=.int .u8 B.op) (b:=.string B.n) (c:=.slice pB nB cB) (d:=.slice qB B.sub.len dB) hJ.low hz9
       have hA10:=hA9.keep fun i u hc=>wc_set4 (a:=.int .u8 B.op) (b:=.string B.n) (c:=.slice pB nB cB) (d:=.slice qB B.sub.len dB) hne hc
       refine op_skip rfl rfl (ex_store rfl ((eval_tmp (hg 9 (by kernel_rfl))).trans e9) (lE (hg 99 (by kernel_rfl)) hJ.lit 13 rfl (xD 13 (by kernel_rfl))) hst9) ?_
       refine⟨gv,put_none _ _,?_,fun _=>⟨a9,b9,e8,e9,hza,hz9,hne,hA10,hwc,hbl⟩⟩
       intro h
       rw[show upd l 17 true 17=true from rfl] at h
       cases h
     case hend37 =>
      rintro ll gv W9 hl hJ
      replace hl:=fun j h=>hl j (of_decide_eq_true h)
      have hfin:=hJ.2 (hl 17 (by kernel_rfl))
      clear hJ hl
      simp only[zipV,List.map_cons,List.map_nil,puts,Act.put,List.setIfInBounds_toArray,List.set_cons_succ,List.set_cons_zero]
      obtain⟨xa,xb,e8,e9,hza,hzb,hnab,hcA,hcB,hbx⟩:=hfin
      rw[e8,e9]
      clear e8 e9
      obtain⟨u86,hu86⟩:∃ u,gv 86=u:=⟨_,rfl⟩
      rw[hu86]
      clear hu86
      obtain⟨u87,hu87⟩:∃ u,gv 87=u:=⟨_,rfl⟩
      rw[hu87]
      clear hu87
      obtain⟨u88,hu88⟩:∃ u,gv 88=u:=⟨_,rfl⟩
      rw[hu88]
      clear hu88
      obtain⟨u89,hu89⟩:∃ u,gv 89=u:=⟨_,rfl⟩
      rw[hu89]
      clear hu89
      obtain⟨u90,hu90⟩:∃ u,gv 90=u:=⟨_,rfl⟩
      rw[hu90]
      clear hu90
      obtain⟨u91,hu91⟩:∃ u,gv 91=u:=⟨_,rfl⟩
      rw[hu91]
      clear hu91
      obtain⟨u92,hu92⟩:∃ u,gv 92=u:=⟨_,rfl⟩
      rw[hu92]
      clear hu92
      obtain⟨u93,hu93⟩:∃ u,gv 93=u:=⟨_,rfl⟩
      rw[hu93]
      clear hu93
      obtain⟨u94,hu94⟩:∃ u,gv 94=u:=⟨_,rfl⟩
      rw[hu94]
      clear hu94
      obtain⟨u95,hu95⟩:∃ u,gv 95=u:=⟨_,rfl⟩
      rw[hu95]
      clear hu95
      obtain⟨u96,hu96⟩:∃ u,gv 96=u:=⟨_,rfl⟩
      rw[hu96]
      clear hu96
      obtain⟨u97,hu97⟩:∃ u,gv 97=u:=⟨_,rfl⟩
      rw[hu97]
      clear hu97
      obtain⟨u98,hu98⟩:∃ u,gv 98=u:=⟨_,rfl⟩
      rw[hu98]
      clear hu98
      obtain⟨u99,hu99⟩:∃ u,gv 99=u:=⟨_,rfl⟩
      rw[hu99]
      clear hu99
      obtain⟨w20,hw20⟩:∃ w20,W9=w20:=⟨_,rfl⟩
      rw[hw20] at hcA hcB hbx ⊢
      clear hw20 a0 a1 a2 a3 b0 b1 b2 b3
      have hvAh:=h_X (FVal.below hbx hvAh.out)
      have hvBh:=h_X (FVal.below hbx hvBh.out)
      have hbz:=h_X (bS hbwh.out hbx)
      obtain⟨⟨a0,-⟩,⟨a1,-⟩,⟨a2,-⟩,⟨a3,-⟩⟩:=hcA
      obtain⟨⟨b0,-⟩,⟨b1,-⟩,⟨b2,-⟩,⟨b3,-⟩⟩:=hcB
      have hsN:(N2 4 ⟨#[]⟩ A B).size+A.size≤400000:=by rw[N2.size];omega
      clear hbx hza hzb hnab hbwh
      go_wp2_with fail
      have hok:okK [(0,100,.agg #[.int .u8 A.op,.string A.n,.slice pA nA cA,.slice qA A.sub.len dA]),(1,101,.agg #[.int .u8 B.op,.string B.n,.slice pB nB cB,.slice qB B.sub.len dB]),(2,102,.bool true),(3,103,.bool false),(4,104,.bool false),(5,105,.agg #[.int .u8 A.op,.string A.n,.slice pA nA cA,.slice qA A.sub.len dA]),(6,106,.agg #[.int .u8 B.op,.string B.n,.slice pB nB cB,.slice qB B.sub.len dB]),(9,109,.agg #[.int .u8 A.op,.string A.n,.slice pA nA cA,.slice qA A.sub.len dA]),(10,110,.int .i64 (k:Int)),(11,111,.int .i64 ((k%3:Nat):Int)),(13,113,.bool true),(14,114,.bool false),(15,115,.bool false),(16,116,.bool false),(17,117,.agg #[.int .u8 A.op,.string A.n,.slice pA nA cA,.slice qA A.sub.len dA]),(18,118,.agg #[.int .u8 B.op,.string B.n,.slice pB nB cB,.slice qB B.sub.len dB]),(19,119,.int .i64 (k:Int)),(20,120,.int .i64 ((k%4:Nat):Int)),(21,121,.int .i64 (((k%4:Nat):Int) - 1)),(22,122,.int .i64 (k:Int)),(23,123,.int .i64 ((k%2:Nat):Int)),(25,125,.bool true),(26,126,.bool false),(27,127,.bool false)] [(7,107,(fun v W=>FSl W (.cons A.op A.n A.ts A.sub (.cons B.op B.n B.ts B.sub .nil)) v)),(8,108,(fun v W=>FVal W (N2 4 ⟨#[]⟩ A B) v)),(12,112,(fun v W=>IL [((k%3:Nat):Int)] v W)),(24,124,(fun v W=>IL [((k%4:Nat):Int) - 1,((k%2:Nat):Int)] v W))]=true:=by kernel_rfl
      refine wp_region_run (by kernel_rfl) 216 [100,101,102,103,104,105,106,107,108,109,110,111,112,113,114,115,116,117,118,119,120,121,122,123,124,125,126,127] (JK w20 (okL hok) (okP hok)) (by kernel_rfl) rfl (JK.start _ _) ?hst65 ?hend65
      case hst65 =>
       have hst:∀ p∈okP hok,Stb p.2.2:=(fun p hp=>by simp only[okP,List.mem_cons,List.not_mem_nil,or_false] at hp;exact hp.elim (fun h=>by subst h;exact fun v W W' hb h=>FSl.below hb h) (fun hp=>hp.elim (fun h=>by subst h;exact fun v W W' hb h=>FVal.below hb h) (fun hp=>hp.elim (fun h=>by subst h;exact fun v W W' hb h=>h.below hb) (fun h=>by subst h;exact fun v W W' hb h=>h.below hb))))
       refine⟨?_,?_,?_,?_,?_,?_,?_,?_,?_,?_,?_,?_,?_,?_,?_,?_,?_,?_,?_,?_,?_,?_,?_,?_,?_,?_,?_,?_,trivial⟩
       ·rintro l gv W hun xD hcl hJ hg ha hp
        refine' op_val ?h38 ?w38 ?r38 ?K38
        case h38=>rfl
        case w38=>exact rfl
        case r38=>exact(ex_load rfl (eval_tmp ((ha 8 (by kernel_rfl)).trans rfl)) (loadAny (c_B hJ.low a0) (c_B hJ.low a1) (c_B hJ.low a2) (c_B hJ.low a3)))
        case K38=>exact⟨_,hp 100 _ (by kernel_rfl),JK.M hok hst hJ 0 rfl⟩
       ·rintro l gv W hun xD hcl hJ hg ha hp
        refine' op_val ?h39 ?w39 ?r39 ?K39
        case h39=>rfl
        case w39=>exact rfl
        case r39=>exact(ex_load rfl (eval_tmp ((ha 9 (by kernel_rfl)).trans rfl)) (loadAny (c_B hJ.low b0) (c_B hJ.low b1) (c_B hJ.low b2) (c_B hJ.low b3)))
        case K39=>exact⟨_,hp 101 _ (by kernel_rfl),JK.M hok hst hJ 1 rfl⟩
       ·rintro l gv W hun xD hcl hJ hg ha hp
        refine' op_call ?h40 ?w40 ?r40 ?hc40
        case h40=>rfl
        case w40=>exact rfl
        case r40=>exact(ex_call2 (enters_of Tryz.func50 (by kernel_rfl) rfl) rfl (lE (hg 100 (by kernel_rfl)) hJ.lit 0 rfl (xD 0 (by kernel_rfl))) (lE (hg 101 (by kernel_rfl)) hJ.lit 1 rfl (xD 1 (by kernel_rfl))))
        case hc40 =>
         refine(compares_any A B _ _ W (FVal.below hJ.low hvAh.out) (FVal.below hJ.low hvBh.out) (by omega) (by omega)).mono ?_
         rintro e W' ⟨rfl,hb⟩
         exact⟨_,rfl,_,hp 102 _ (by kernel_rfl),JK.made hok hst hJ (gM 2 rfl) hb⟩
       ·rintro l gv W hun xD hcl hJ hg ha hp
        refine' op_val ?h41 ?w41 ?r41 ?K41
        case h41=>rfl
        case w41=>exact rfl
        case r41=>exact(ex_not rfl (lE (hg 102 (by kernel_rfl)) hJ.lit 2 rfl (xD 2 (by kernel_rfl))))
        case K41=>exact⟨_,hp 103 _ (by kernel_rfl),JK.M hok hst hJ 3 rfl⟩
       ·rintro l gv W hun xD hcl hJ hg ha hp
        refine' op_val ?h42 ?w42 ?r42 ?K42
        case h42=>rfl
        case w42=>exact rfl
        case r42=>exact(ex_move rfl (lE (hg 103 (by kernel_rfl)) hJ.lit 3 rfl (xD 3 (by kernel_rfl))))
        case K42=>exact⟨_,hp 104 _ (by kernel_rfl),JK.M hok hst hJ 4 rfl⟩
       ·rintro l gv W hun xD hcl hJ hg ha hp
        have hgd:=gD (hg 104 (by kernel_rfl)) hJ.lit 4 rfl (xD 4 (by kernel_rfl))
        refine' op_val ?h43 ?w43 ?r43 ?K43
        case h43=>rfl
        case w43=>exact(wants_yes false rfl (by kernel_rfl) hgd)
        case r43=>exact(ex_load rfl (eval_tmp ((ha 8 (by kernel_rfl)).trans rfl)) (loadAny (c_B hJ.low a0) (c_B hJ.low a1) (c_B hJ.low a2) (c_B hJ.low a3)))
        case K43=>exact⟨_,hp 105 _ (by kernel_rfl),JK.M hok hst hJ 5 rfl⟩
       ·rintro l gv W hun xD hcl hJ hg ha hp
        have hgd:=gD (hg 104 (by kernel_rfl)) hJ.lit 4 rfl (xD 4 (by kernel_rfl))
        refine' op_val ?h44 ?w44 ?r44 ?K44
        case h44=>rfl
        case w44=>exact(wants_yes false rfl (by kernel_rfl) hgd)
        case r44=>exact(ex_load rfl (eval_tmp ((ha 9 (by kernel_rfl)).trans rfl)) (loadAny (c_B hJ.low b0) (c_B hJ.low b1) (c_B hJ.low b2) (c_B hJ.low b3)))
        case K44=>exact⟨_,hp 106 _ (by kernel_rfl),JK.M hok hst hJ 6 rfl⟩
       ·rintro l gv W hun xD hcl hJ hg ha hp
        have hgd:=gD (hg 104 (by kernel_rfl)) hJ.lit 4 rfl (xD 4 (by kernel_rfl))
        refine' op_val ?h45 ?w45 ?r45 ?K45
        case h45=>rfl
        case w45=>exact(wants_yes false rfl (by kernel_rfl) hgd)
        case r45=>exact(ex_buildSlice2 rfl (lE (hg 105 (by kernel_rfl)) hJ.lit 5 rfl (xD 5 (by kernel_rfl))) (lE (hg 106 (by kernel_rfl)) hJ.lit 6 rfl (xD 6 (by kernel_rfl))) (build_two W _ _ _ _ _ _ _ _))
        case K45=>exact⟨_,hp 107 _ (by kernel_rfl),JK.madeP hok hst hJ (gM 0 rfl) (two_any (FVal.below hJ.low hvAh.out) (FVal.below hJ.low hvBh.out) 25) (bel_laid W _)⟩
       ·rintro l gv W hun xD hcl hJ hg ha hp
        have hgd:=gD (hg 104 (by kernel_rfl)) hJ.lit 4 rfl (xD 4 (by kernel_rfl))
        refine' op_call ?h46 ?w46 ?r46 ?hc46
        case h46=>rfl
        case w46=>exact(wants_yes false rfl (by kernel_rfl) hgd)
        case r46=>exact(ex_call3 (enters_of Tryz.func49 (by kernel_rfl) rfl) rfl rfl rfl (eval_tmp (hg 107 (by kernel_rfl))))
        case hc46 =>
         refine(of_formW 4 ⟨#[]⟩ (.cons A.op A.n A.ts A.sub (.cons B.op B.n B.ts B.sub .nil)) _ W (hJ.pr _ (gM 0 rfl) (xD 7 (by kernel_rfl)))).mono ?_
         rintro e W' ⟨⟨v',rfl,hv'⟩,hb⟩
         exact⟨_,rfl,_,hp 108 _ (by kernel_rfl),JK.madeP hok hst hJ (gM 1 rfl) hv' hb⟩
       ·rintro l gv W hun xD hcl hJ hg ha hp
        have hgd:=gD (hg 104 (by kernel_rfl)) hJ.lit 4 rfl (xD 4 (by kernel_rfl))
        refine' op_val ?h47 ?w47 ?r47 ?K47
        case h47=>rfl
        case w47=>exact(wants_yes false rfl (by kernel_rfl) hgd)
        case r47=>exact(ex_load rfl (eval_tmp ((ha 8 (by kernel_rfl)).trans rfl)) (loadAny (c_B hJ.low a0) (c_B hJ.low a1) (c_B hJ.low a2) (c_B hJ.low a3)))
        case K47=>exact⟨_,hp 109 _ (by kernel_rfl),JK.M hok hst hJ 7 rfl⟩
       ·rintro l gv W hun xD hcl hJ hg ha hp
        have hgd:=gD (hg 104 (by kernel_rfl)) hJ.lit 4 rfl (xD 4 (by kernel_rfl))
        refine' op_val ?h48 ?w48 ?r48 ?K48
        case h48=>rfl
        case w48=>exact(wants_yes false rfl (by kernel_rfl) hgd)
        case r48=>exact(ex_move rfl (eval_tmp ((ha 7 (by kernel_rfl)).trans rfl)))
        case K48=>exact⟨_,hp 110 _ (by kernel_rfl),JK.M hok hst hJ 8 rfl⟩
       ·rintro l gv W hun xD hcl hJ hg ha hp
        have hgd:=gD (hg 104 (by kernel_rfl)) hJ.lit 4 rfl (xD 4 (by kernel_rfl))
        refine' op_val ?h49 ?w49 ?r49 ?K49
        case h49=>rfl
        case w49=>exact(wants_yes false rfl (by kernel_rfl) hgd)
        case r49=>exact(ex_bin rfl (lE (hg 110 (by kernel_rfl)) hJ.lit 8 rfl (xD 10 (by kernel_rfl))) rfl (grem3 _ _ _ _ W) (rem3 _ _ (by decide)))
        case K49=>exact⟨_,hp 111 _ (by kernel_rfl),JK.M hok hst hJ 9 rfl⟩
       ·rintro l gv W hun xD hcl hJ hg ha hp
        have hgd:=gD (hg 104 (by kernel_rfl)) hJ.lit 4 rfl (xD 4 (by kernel_rfl))
        refine' op_val ?h50 ?w50 ?r50 ?K50
        case h50=>rfl
        case w50=>exact(wants_yes false rfl (by kernel_rfl) hgd)
        case r50=>exact(ex_buildSlice rfl (lE (hg 111 (by kernel_rfl)) hJ.lit 9 rfl (xD 11 (by kernel_rfl))) (build_i1 W _))
        case K50=>exact⟨_,hp 112 _ (by kernel_rfl),JK.madeP hok hst hJ (gM 2 rfl) (il_one _ W 3) (bel_laid W _)⟩
       ·rintro l gv W hun xD hcl hJ hg ha hp
        have hgd:=gD (hg 104 (by kernel_rfl)) hJ.lit 4 rfl (xD 4 (by kernel_rfl))
        refine' op_call ?h51 ?w51 ?r51 ?hc51
        case h51=>rfl
        case w51=>exact(wants_yes false rfl (by kernel_rfl) hgd)
        case r51=>exact(ex_call3 (enters_of Tryz.func51 (by kernel_rfl) rfl) rfl (eval_tmp (hg 108 (by kernel_rfl))) (lE (hg 109 (by kernel_rfl)) hJ.lit 7 rfl (xD 9 (by kernel_rfl))) (eval_tmp (hg 112 (by kernel_rfl))))
        case hc51 =>
         refine(places_list (N2 4 ⟨#[]⟩ A B) A _ _ _ _ W (hJ.pr _ (gM 1 rfl) (xD 8 (by kernel_rfl))) (FVal.below hJ.low hvAh.out) (hJ.pr _ (gM 2 rfl) (xD 12 (by kernel_rfl))) (by simp) hsN).mono ?_
         rintro e W' ⟨rfl,hb⟩
         exact⟨_,rfl,_,hp 113 _ (by kernel_rfl),JK.made hok hst hJ (gM 10 rfl) hb⟩
       ·rintro l gv W hun xD hcl hJ hg ha hp
        have hgd:=gD (hg 104 (by kernel_rfl)) hJ.lit 4 rfl (xD 4 (by kernel_rfl))
        refine' op_val ?h52 ?w52 ?r52 ?K52
        case h52=>rfl
        case w52=>exact(wants_yes false rfl (by kernel_rfl) hgd)
        case r52=>exact(ex_not rfl (lE (hg 113 (by kernel_rfl)) hJ.lit 10 rfl (xD 13 (by kernel_rfl))))
        case K52=>exact⟨_,hp 114 _ (by kernel_rfl),JK.M hok hst hJ 11 rfl⟩
       ·rintro l gv W hun xD hcl hJ hg ha hp
        refine' op_val ?h53 ?w53 ?r53 ?K53
        case h53=>rfl
        case w53=>exact rfl
        case r53=>exact(ex_pickF rfl (lE (hg 104 (by kernel_rfl)) hJ.lit 4 rfl (xD 4 (by kernel_rfl))) (lE (hg 114 (by kernel_rfl)) hJ.lit 11 rfl (xD 14 (by kernel_rfl))))
        case K53=>exact⟨_,hp 115 _ (by kernel_rfl),JK.M hok hst hJ 12 rfl⟩
       ·rintro l gv W hun xD hcl hJ hg ha hp
        refine' op_val ?h54 ?w54 ?r54 ?K54
        case h54=>rfl
        case w54=>exact rfl
        case r54=>exact(ex_move rfl (lE (hg 115 (by kernel_rfl)) hJ.lit 12 rfl (xD 15 (by kernel_rfl))))
        case K54=>exact⟨_,hp 116 _ (by kernel_rfl),JK.M hok hst hJ 13 rfl⟩
       ·rintro l gv W hun xD hcl hJ hg ha hp
        have hgd:=gD (hg 116 (by kernel_rfl)) hJ.lit 13 rfl (xD 16 (by kernel_rfl))
        refine' op_val ?h55 ?w55 ?r55 ?K55
        case h55=>rfl
        case w55=>exact(wants_yes false rfl (by kernel_rfl) hgd)
        case r55=>exact(ex_load rfl (eval_tmp ((ha 8 (by kernel_rfl)).trans rfl)) (loadAny (c_B hJ.low a0) (c_B hJ.low a1) (c_B hJ.low a2) (c_B hJ.low a3)))
        case K55=>exact⟨_,hp 117 _ (by kernel_rfl),JK.M hok hst hJ 14 rfl⟩
       ·rintro l gv W hun xD hcl hJ hg ha hp
        have hgd:=gD (hg 116 (by kernel_rfl)) hJ.lit 13 rfl (xD 16 (by kernel_rfl))
        refine' op_val ?h56 ?w56 ?r56 ?K56
        case h56=>rfl
        case w56=>exact(wants_yes false rfl (by kernel_rfl) hgd)
        case r56=>exact(ex_load rfl (eval_tmp ((ha 9 (by kernel_rfl)).trans rfl)) (loadAny (c_B hJ.low b0) (c_B hJ.low b1) (c_B hJ.low b2) (c_B hJ.low b3)))
        case K56=>exact⟨_,hp 118 _ (by kernel_rfl),JK.M hok hst hJ 15 rfl⟩
       ·rintro l gv W hun xD hcl hJ hg ha hp
        have hgd:=gD (hg 116 (by kernel_rfl)) hJ.lit 13 rfl (xD 16 (by kernel_rfl))
        refine' op_val ?h57 ?w57 ?r57 ?K57
        case h57=>rfl
        case w57=>exact(wants_yes false rfl (by kernel_rfl) hgd)
        case r57=>exact(ex_move rfl (eval_tmp ((ha 7 (by kernel_rfl)).trans rfl)))
        case K57=>exact⟨_,hp 119 _ (by kernel_rfl),JK.M hok hst hJ 16 rfl⟩
       ·rintro l gv W hun xD hcl hJ hg ha hp
        have hgd:=gD (hg 116 (by kernel_rfl)) hJ.lit 13 rfl (xD 16 (by kernel_rfl))
        refine' op_val ?h58 ?w58 ?r58 ?K58
        case h58=>rfl
        case w58=>exact(wants_yes false rfl (by kernel_rfl) hgd)
        case r58=>exact(ex_bin rfl (lE (hg 119 (by kernel_rfl)) hJ.lit 16 rfl (xD 19 (by kernel_rfl))) rfl (grem3 _ _ _ _ W) (rem3 _ _ (by decide)))
        case K58=>exact⟨_,hp 120 _ (by kernel_rfl),JK.M hok hst hJ 17 rfl⟩
       ·rintro l gv W hun xD hcl hJ hg ha hp
        have hgd:=gD (hg 116 (by kernel_rfl)) hJ.lit 13 rfl (xD 16 (by kernel_rfl))
        refine' op_val ?h59 ?w59 ?r59 ?K59
        case h59=>rfl
        case w59=>exact(wants_yes false rfl (by kernel_rfl) hgd)
        case r59=>exact(ex_bin rfl (lE (hg 120 (by kernel_rfl)) hJ.lit 17 rfl (xD 20 (by kernel_rfl))) rfl (gsub3 _ _ _ _ W) (sub3 _ (by omega)))
        case K59=>exact⟨_,hp 121 _ (by kernel_rfl),JK.M hok hst hJ 18 rfl⟩
       ·rintro l gv W hun xD hcl hJ hg ha hp
        have hgd:=gD (hg 116 (by kernel_rfl)) hJ.lit 13 rfl (xD 16 (by kernel_rfl))
        refine' op_val ?h60 ?w60 ?r60 ?K60
        case h60=>rfl
        case w60=>exact(wants_yes false rfl (by kernel_rfl) hgd)
        case r60=>exact(ex_move rfl (eval_tmp ((ha 7 (by kernel_rfl)).trans rfl)))
        case K60=>exact⟨_,hp 122 _ (by kernel_rfl),JK.M hok hst hJ 19 rfl⟩
       ·rintro l gv W hun xD hcl hJ hg ha hp
        have hgd:=gD (hg 116 (by kernel_rfl)) hJ.lit 13 rfl (xD 16 (by kernel_rfl))
        refine' op_val ?h61 ?w61 ?r61 ?K61
        case h61=>rfl
        case w61=>exact(wants_yes false rfl (by kernel_rfl) hgd)
        case r61=>exact(ex_bin rfl (lE (hg 122 (by kernel_rfl)) hJ.lit 19 rfl (xD 22 (by kernel_rfl))) rfl (grem3 _ _ _ _ W) (rem3 _ _ (by decide)))
        case K61=>exact⟨_,hp 123 _ (by kernel_rfl),JK.M hok hst hJ 20 rfl⟩
       ·rintro l gv W hun xD hcl hJ hg ha hp
        have hgd:=gD (hg 116 (by kernel_rfl)) hJ.lit 13 rfl (xD 16 (by kernel_rfl))
        refine' op_val ?h62 ?w62 ?r62 ?K62
        case h62=>rfl
        case w62=>exact(wants_yes false rfl (by kernel_rfl) hgd)
        case r62=>exact(ex_buildSlice2 rfl (lE (hg 121 (by kernel_rfl)) hJ.lit 18 rfl (xD 21 (by kernel_rfl))) (lE (hg 123 (by kernel_rfl)) hJ.lit 20 rfl (xD 23 (by kernel_rfl))) (build_i2 W _ _))
        case K62=>exact⟨_,hp 124 _ (by kernel_rfl),JK.madeP hok hst hJ (gM 3 rfl) (il_two _ _ W 3) (bel_laid W _)⟩
       ·rintro l gv W hun xD hcl hJ hg ha hp
        have hgd:=gD (hg 116 (by kernel_rfl)) hJ.lit 13 rfl (xD 16 (by kernel_rfl))
        refine' op_call ?h63 ?w63 ?r63 ?hc63
        case h63=>rfl
        case w63=>exact(wants_yes false rfl (by kernel_rfl) hgd)
        case r63=>exact(ex_call3 (enters_of Tryz.func51 (by kernel_rfl) rfl) rfl (lE (hg 117 (by kernel_rfl)) hJ.lit 14 rfl (xD 17 (by kernel_rfl))) (lE (hg 118 (by kernel_rfl)) hJ.lit 15 rfl (xD 18 (by kernel_rfl))) (eval_tmp (hg 124 (by kernel_rfl))))
        case hc63 =>
         refine(places_list A B _ _ _ _ W (FVal.below hJ.low hvAh.out) (FVal.below hJ.low hvBh.out) (hJ.pr _ (gM 3 rfl) (xD 24 (by kernel_rfl))) (by simp) (by omega)).mono ?_
         rintro e W' ⟨rfl,hb⟩
         exact⟨_,rfl,_,hp 125 _ (by kernel_rfl),JK.made hok hst hJ (gM 21 rfl) hb⟩
       ·rintro l gv W hun xD hcl hJ hg ha hp
        have hgd:=gD (hg 116 (by kernel_rfl)) hJ.lit 13 rfl (xD 16 (by kernel_rfl))
        refine' op_val ?h64 ?w64 ?r64 ?K64
        case h64=>rfl
        case w64=>exact(wants_yes false rfl (by kernel_rfl) hgd)
        case r64=>exact(ex_not rfl (lE (hg 125 (by kernel_rfl)) hJ.lit 21 rfl (xD 25 (by kernel_rfl))))
        case K64=>exact⟨_,hp 126 _ (by kernel_rfl),JK.M hok hst hJ 22 rfl⟩
       ·rintro l gv W hun xD hcl hJ hg ha hp
        refine' op_val ?h65 ?w65 ?r65 ?K65
        case h65=>rfl
        case w65=>exact rfl
        case r65=>exact(ex_pickF rfl (lE (hg 116 (by kernel_rfl)) hJ.lit 13 rfl (xD 16 (by kernel_rfl))) (lE (hg 126 (by kernel_rfl)) hJ.lit 22 rfl (xD 26 (by kernel_rfl))))
        case K65=>exact⟨_,hp 127 _ (by kernel_rfl),JK.M hok hst hJ 23 rfl⟩
      case hend65 =>
       rintro ll gv W9 hl hJ
       replace hl:=fun j h=>hl j (of_decide_eq_true h)
       have e100:=lT hJ.lit 0 rfl (hl 0 (by kernel_rfl))
       have e101:=lT hJ.lit 1 rfl (hl 1 (by kernel_rfl))
       have e102:=lT hJ.lit 2 rfl (hl 2 (by kernel_rfl))
       have e103:=lT hJ.lit 3 rfl (hl 3 (by kernel_rfl))
       have e104:=lT hJ.lit 4 rfl (hl 4 (by kernel_rfl))
       have e105:=lT hJ.lit 5 rfl (hl 5 (by kernel_rfl))
       have e106:=lT hJ.lit 6 rfl (hl 6 (by kernel_rfl))
       have e109:=lT hJ.lit 7 rfl (hl 9 (by kernel_rfl))
       have e110:=lT hJ.lit 8 rfl (hl 10 (by kernel_rfl))
       have e111:=lT hJ.lit 9 rfl (hl 11 (by kernel_rfl))
       have e113:=lT hJ.lit 10 rfl (hl 13 (by kernel_rfl))
       have e114:=lT hJ.lit 11 rfl (hl 14 (by kernel_rfl))
       have e115:=lT hJ.lit 12 rfl (hl 15 (by kernel_rfl))
       have e116:=lT hJ.lit 13 rfl (hl 16 (by kernel_rfl))
       have e117:=lT hJ.lit 14 rfl (hl 17 (by kernel_rfl))
       have e118:=lT hJ.lit 15 rfl (hl 18 (by kernel_rfl))
       have e119:=lT hJ.lit 16 rfl (hl 19 (by kernel_rfl))
       have e120:=lT hJ.lit 17 rfl (hl 20 (by kernel_rfl))
       have e121:=lT hJ.lit 18 rfl (hl 21 (by kernel_rfl))
       have e122:=lT hJ.lit 19 rfl (hl 22 (by kernel_rfl))
       have e123:=lT hJ.lit 20 rfl (hl 23 (by kernel_rfl))
       have e125:=lT hJ.lit 21 rfl (hl 25 (by kernel_rfl))
       have e126:=lT hJ.lit 22 rfl (hl 26 (by kernel_rfl))
       have e127:=lT hJ.lit 23 rfl (hl 27 (by kernel_rfl))
       simp only[zipV,List.map_cons,List.map_nil,puts,Act.put,List.setIfInBounds_toArray,List.set_cons_succ,List.set_cons_zero,e100,e101,e102,e103,e104,e105,e106,e109,e110,e111,e113,e114,e115,e116,e117,e118,e119,e120,e121,e122,e123,e125,e126,e127]
       have hlow:=h_X hJ.low
       clear e100 e101 e102 e103 e104 e105 e106 e109 e110 e111 e113 e114 e115 e116 e117 e118 e119 e120 e121 e122 e123 e125 e126 e127 hJ hl
       obtain⟨u107,hu107⟩:∃ u,gv 107=u:=⟨_,rfl⟩
       rw[hu107]
       clear hu107
       obtain⟨u108,hu108⟩:∃ u,gv 108=u:=⟨_,rfl⟩
       rw[hu108]
       clear hu108
       obtain⟨u112,hu112⟩:∃ u,gv 112=u:=⟨_,rfl⟩
       rw[hu112]
       clear hu112
       obtain⟨u124,hu124⟩:∃ u,gv 124=u:=⟨_,rfl⟩
       rw[hu124]
       clear hu124
       have hby:=h_X (bS hbz.out hlow.out)
       clear hlow a0 a1 a2 a3 b0 b1 b2 b3 hvAh hvBh hbz
       go_wp2
       go_roundw
       case rel=>exact⟨k+1,rfl,by omega,hby.out⟩
       case measure=>simp[intOf];omega
    ·have hki:¬ (k:Int) < (NN:Int):=by omega
     have hb2h:=h_X (bS hbB.out hbwh.out)
     have hSw:=h_X (hSH.out.below (bS (show Below W0.heap.size W0 wB from hbWB.out) hbwh.out))
     obtain⟨-,-,-,-,-,-,-,-,-,hargs⟩:=id hSw.out
     have hAT:=h_X (show TSl wr AT (.slice (some ⟨ga,0,none⟩) AT.len 5) from ⟨_,_,rfl,.inr ⟨ga,0,rfl,hargs⟩⟩)
     have hT4l:(AT.take 4).len=4:=Ts.take_len _ _ (by omega)
     have hAT4:=h_X (show TSl wr (AT.take 4) (.slice (some ⟨ga,0,none⟩) (AT.take 4).len 5) from ⟨_,_,rfl,.inr ⟨ga,0,rfl,TsAt.take 4 hargs⟩⟩)
     have hT4s:=Ts.take_size 4 AT
     have hT4w:=Ts.take_wt 4 AT
     rw[hT4l] at hAT4
     rw[hATl] at hAT
     clear hbwh hCell hVSw hfsh hargs
     go_wp2_with fail
     have hok:okK [(0,128,.agg #[.bool false,.string ⟨#[]⟩,.slice none 0 0]),(1,129,.agg #[.bool true,.string ⟨#[]⟩,.slice none 0 0]),(2,130,.agg #[.bool true,.string ⟨#[97]⟩,.slice none 0 0]),(3,131,.agg #[.bool false,.string ⟨#[120]⟩,.slice none 0 0]),(7,135,.agg #[.bool false,.string ⟨#[]⟩,.slice none 0 0]),(10,138,.slice (some ⟨ga,0,none⟩) 5 5),(11,139,.agg #[.bool false,.string ⟨#[102]⟩,.slice (some ⟨ga,0,none⟩) 5 5]),(12,140,.slice (some ⟨ga,0,none⟩) 5 5),(13,141,.slice (some ⟨ga,0,none⟩) 4 5),(14,142,.agg #[.bool false,.string ⟨#[102]⟩,.slice (some ⟨ga,0,none⟩) 4 5]),(15,143,.agg #[.bool false,.string ⟨#[63,116]⟩,.slice none 0 0]),(16,144,.agg #[.bool true,.string ⟨#[63,84]⟩,.slice none 0 0]),(17,145,.agg #[.bool false,.string ⟨#[97,108,108]⟩,.slice none 0 0])] [(4,132,(fun v _=>∃ b:Bool,v=.agg #[.bool b,.string ⟨#[120]⟩,.slice none 0 0])),(5,133,(fun v W=>∃ b:Bool,TSl W (.cons b ⟨#[120]⟩ .nil .nil) v)),(6,134,(fun v W=>∃ (b:Bool) (s:Value),v=.agg #[.bool true,.string ⟨#[120]⟩,s]∧TSl W (.cons b ⟨#[120]⟩ .nil .nil) s)),(8,136,(fun v W=>TSl W (.cons false ⟨#[]⟩ .nil .nil) v)),(9,137,(fun v W=>∃ s:Value,v=.agg #[.bool false,.string ⟨#[97]⟩,s]∧TSl W (.cons false ⟨#[]⟩ .nil .nil) s)),(18,146,(fun v W=>∃ (g:Nat) (O:Ts),v=.slice (some ⟨g,0,none⟩) 11 11∧TsAt W O g 0∧O.len=11∧O.size≤60∧O.wt≤400)),(19,10,(fun v W=>∃ (g:Nat) (O:Ts),v=.slice (some ⟨g,0,none⟩) 11 11∧TsAt W O g 0∧O.len=11∧O.size≤60∧O.wt≤400))]=true:=by kernel_rfl
     refine wp_region_run (by kernel_rfl) 216 [128,129,130,131,132,133,134,135,136,137,138,139,140,141,142,143,144,145,146,10] (JK wr (okL hok) (okP hok)) (by kernel_rfl) rfl (JK.start _ _) ?hst79 ?hend79
     case hst79 =>
      have hst:∀ p∈okP hok,Stb p.2.2:=(fun p hp=>by simp only[okP,List.mem_cons,List.not_mem_nil,or_false] at hp;exact hp.elim (fun h=>by subst h;exact fun v W W' hb h=>h) (fun hp=>hp.elim (fun h=>by subst h;exact fun v W W' hb h=>h.imp fun b h=>TSl.below hb h) (fun hp=>hp.elim (fun h=>by subst h;exact fun v W W' hb h=>h.imp fun b h=>h.imp fun s h=>⟨h.1,TSl.below hb h.2⟩) (fun hp=>hp.elim (fun h=>by subst h;exact fun v W W' hb h=>TSl.below hb h) (fun hp=>hp.elim (fun h=>by subst h;exact fun v W W' hb h=>h.imp fun s h=>⟨h.1,TSl.below hb h.2⟩) (fun hp=>hp.elim (fun h=>by subst h;exact fun v W W' hb h=>h.imp fun g h=>h.imp fun O h=>⟨h.1,TsAt.kept (Ext.of_below hb) h.2.1,h.2.2⟩) (fun h=>by subst h;exact fun v W W' hb h=>h.imp fun g h=>h.imp fun O h=>⟨h.1,TsAt.kept (Ext.of_below hb) h.2.1,h.2.2⟩)))))))
      refine⟨?_,?_,?_,?_,?_,?_,?_,?_,?_,?_,?_,?_,?_,?_,?_,?_,?_,?_,?_,?_,trivial⟩
      ·rintro l gv W hun xD hcl hJ hg ha hp
       refine' op_val ?h66 ?w66 ?r66 ?K66
       case h66=>rfl
       case w66=>exact rfl
       case r66=>exact(ex_bld0 rfl  rb0)
       case K66=>exact⟨_,hp 128 _ (by kernel_rfl),JK.M hok hst hJ 0 rfl⟩
      ·rintro l gv W hun xD hcl hJ hg ha hp
       refine' op_val ?h67 ?w67 ?r67 ?K67
       case h67=>rfl
       case w67=>exact rfl
       case r67=>exact(ex_bld1 rfl rfl rbA)
       case K67=>exact⟨_,hp 129 _ (by kernel_rfl),JK.M hok hst hJ 1 rfl⟩
      ·rintro l gv W hun xD hcl hJ hg ha hp
       refine' op_val ?h68 ?w68 ?r68 ?K68
       case h68=>rfl
       case w68=>exact rfl
       case r68=>exact(ex_bld2 rfl rfl rfl rbAB)
       case K68=>exact⟨_,hp 130 _ (by kernel_rfl),JK.M hok hst hJ 2 rfl⟩
      ·rintro l gv W hun xD hcl hJ hg ha hp
       refine' op_val ?h69 ?w69 ?r69 ?K69
       case h69=>rfl
       case w69=>exact rfl
       case r69=>exact(ex_bld1 rfl rfl rbB)
       case K69=>exact⟨_,hp 131 _ (by kernel_rfl),JK.M hok hst hJ 3 rfl⟩
      ·rintro l gv W hun xD hcl hJ hg ha hp
       refine' op_call ?h70 ?w70 ?r70 ?hc70
       case h70=>rfl
       case w70=>exact rfl
       case r70=>exact(ex_call2 (enters_of Tryz.func48 (by kernel_rfl) rfl) rfl rfl rfl)
       case hc70 =>
        refine(term_x 120 W).mono ?_
        rintro e W' ⟨⟨v',rfl,hv'⟩,hb⟩
        exact⟨_,rfl,_,hp 132 _ (by kernel_rfl),JK.madeP hok hst hJ (gM 0 rfl) hv' hb⟩
      ·rintro l gv W hun xD hcl hJ hg ha hp
       obtain⟨b,e⟩:=(hJ.pr _ (gM 0 rfl) (xD 4 (by kernel_rfl)))
       exact op_val rfl rfl (ex_buildSlice rfl ((eval_tmp (hg 132 (by kernel_rfl))).trans e) (build_t1 W _ _ _)) ⟨_,hp 133 _ (by kernel_rfl),JK.madeP hok hst hJ (gM 1 rfl) ⟨b,one_term (nil_terms W) 46⟩ (bel_laid W _)⟩
      ·rintro l gv W hun xD hcl hJ hg ha hp
       obtain⟨b,h⟩:=(hJ.pr _ (gM 1 rfl) (xD 5 (by kernel_rfl)))
       obtain⟨p9,c9,e9,-⟩:=id h
       rw[e9] at h
       exact op_val rfl rfl (ex_bld3 rfl rfl rfl ((eval_tmp (hg 133 (by kernel_rfl))).trans e9) rbABC) ⟨_,hp 134 _ (by kernel_rfl),JK.madeP hok hst hJ (gM 2 rfl) ⟨b,_,rfl,h⟩ (Below.refl _ _)⟩
      ·rintro l gv W hun xD hcl hJ hg ha hp
       refine' op_val ?h71 ?w71 ?r71 ?K71
       case h71=>rfl
       case w71=>exact rfl
       case r71=>exact(ex_bld0 rfl  rb0)
       case K71=>exact⟨_,hp 135 _ (by kernel_rfl),JK.M hok hst hJ 4 rfl⟩
      ·rintro l gv W hun xD hcl hJ hg ha hp
       exact op_val rfl rfl (ex_buildSlice rfl (lE (hg 135 (by kernel_rfl)) hJ.lit 4 rfl (xD 7 (by kernel_rfl))) (build_t1 W _ _ _)) ⟨_,hp 136 _ (by kernel_rfl),JK.madeP hok hst hJ (gM 3 rfl) (one_term (nil_terms W) 46) (bel_laid W _)⟩
      ·rintro l gv W hun xD hcl hJ hg ha hp
       have h:=(hJ.pr _ (gM 3 rfl) (xD 8 (by kernel_rfl)))
       obtain⟨p9,c9,e9,-⟩:=id h
       rw[e9] at h
       exact op_val rfl rfl (ex_bld2 rfl rfl ((eval_tmp (hg 136 (by kernel_rfl))).trans e9) rbBC) ⟨_,hp 137 _ (by kernel_rfl),JK.madeP hok hst hJ (gM 4 rfl) ⟨_,rfl,h⟩ (Below.refl _ _)⟩
      ·rintro l gv W hun xD hcl hJ hg ha hp
       refine' op_val ?h72 ?w72 ?r72 ?K72
       case h72=>rfl
       case w72=>exact rfl
       case r72=>exact(ex_move rfl (eval_tmp ((ha 3 (by kernel_rfl)).trans rfl)))
       case K72=>exact⟨_,hp 138 _ (by kernel_rfl),JK.M hok hst hJ 5 rfl⟩
      ·rintro l gv W hun xD hcl hJ hg ha hp
       refine' op_val ?h73 ?w73 ?r73 ?K73
       case h73=>rfl
       case w73=>exact rfl
       case r73=>exact(ex_bld2 rfl rfl (lE (hg 138 (by kernel_rfl)) hJ.lit 5 rfl (xD 10 (by kernel_rfl))) rbBC)
       case K73=>exact⟨_,hp 139 _ (by kernel_rfl),JK.M hok hst hJ 6 rfl⟩
      ·rintro l gv W hun xD hcl hJ hg ha hp
       refine' op_val ?h74 ?w74 ?r74 ?K74
       case h74=>rfl
       case w74=>exact rfl
       case r74=>exact(ex_move rfl (eval_tmp ((ha 3 (by kernel_rfl)).trans rfl)))
       case K74=>exact⟨_,hp 140 _ (by kernel_rfl),JK.M hok hst hJ 7 rfl⟩
      ·rintro l gv W hun xD hcl hJ hg ha hp
       refine' op_val ?h75 ?w75 ?r75 ?K75
       case h75=>rfl
       case w75=>exact rfl
       case r75=>exact(ex_slice rfl (lE (hg 140 (by kernel_rfl)) hJ.lit 7 rfl (xD 12 (by kernel_rfl))) rfl (slice_terms (k:=4) (by decide)))
       case K75=>exact⟨_,hp 141 _ (by kernel_rfl),JK.M hok hst hJ 8 rfl⟩
      ·rintro l gv W hun xD hcl hJ hg ha hp
       refine' op_val ?h76 ?w76 ?r76 ?K76
       case h76=>rfl
       case w76=>exact rfl
       case r76=>exact(ex_bld2 rfl rfl (lE (hg 141 (by kernel_rfl)) hJ.lit 8 rfl (xD 13 (by kernel_rfl))) rbBC)
       case K76=>exact⟨_,hp 142 _ (by kernel_rfl),JK.M hok hst hJ 9 rfl⟩
      ·rintro l gv W hun xD hcl hJ hg ha hp
       refine' op_val ?h77 ?w77 ?r77 ?K77
       case h77=>rfl
       case w77=>exact rfl
       case r77=>exact(ex_bld1 rfl rfl rbB)
       case K77=>exact⟨_,hp 143 _ (by kernel_rfl),JK.M hok hst hJ 10 rfl⟩
      ·rintro l gv W hun xD hcl hJ hg ha hp
       refine' op_val ?h78 ?w78 ?r78 ?K78
       case h78=>rfl
       case w78=>exact rfl
       case r78=>exact(ex_bld2 rfl rfl rfl rbAB)
       case K78=>exact⟨_,hp 144 _ (by kernel_rfl),JK.M hok hst hJ 11 rfl⟩
      ·rintro l gv W hun xD hcl hJ hg ha hp
       refine' op_val ?h79 ?w79 ?r79 ?K79
       case h79=>rfl
       case w79=>exact rfl
       case r79=>exact(ex_bld1 rfl rfl rbB)
       case K79=>exact⟨_,hp 145 _ (by kernel_rfl),JK.M hok hst hJ 12 rfl⟩
      ·rintro l gv W hun xD hcl hJ hg ha hp
       obtain⟨b,s1,e1,h1⟩:=(hJ.pr _ (gM 2 rfl) (xD 6 (by kernel_rfl)))
       obtain⟨s2,e2,h2⟩:=(hJ.pr _ (gM 4 rfl) (xD 9 (by kernel_rfl)))
       obtain⟨p1,c1,rfl,-⟩:=id h1
       obtain⟨p2,c2,rfl,-⟩:=id h2
       have h3:=TSl.below hJ.low hAT.out
       have h4:=TSl.below hJ.low hAT4.out
       have hO:=odd_at h1 h2 (show TSl W AT (.slice (some ⟨ga,0,none⟩) AT.len 5) by rw[hATl];exact h3) (show TSl W (AT.take 4) (.slice (some ⟨ga,0,none⟩) (AT.take 4).len 5) by rw[hT4l];exact h4) 46
       rw[hATl,hT4l] at hO
       exact op_val rfl rfl (ex_buildSlice11 rfl (lE (hg 128 (by kernel_rfl)) hJ.lit 0 rfl (xD 0 (by kernel_rfl))) (lE (hg 129 (by kernel_rfl)) hJ.lit 1 rfl (xD 1 (by kernel_rfl))) (lE (hg 130 (by kernel_rfl)) hJ.lit 2 rfl (xD 2 (by kernel_rfl))) (lE (hg 131 (by kernel_rfl)) hJ.lit 3 rfl (xD 3 (by kernel_rfl))) ((eval_tmp (hg 134 (by kernel_rfl))).trans e1) ((eval_tmp (hg 137 (by kernel_rfl))).trans e2) (lE (hg 139 (by kernel_rfl)) hJ.lit 6 rfl (xD 11 (by kernel_rfl))) (lE (hg 142 (by kernel_rfl)) hJ.lit 9 rfl (xD 14 (by kernel_rfl))) (lE (hg 143 (by kernel_rfl)) hJ.lit 10 rfl (xD 15 (by kernel_rfl))) (lE (hg 144 (by kernel_rfl)) hJ.lit 11 rfl (xD 16 (by kernel_rfl))) (lE (hg 145 (by kernel_rfl)) hJ.lit 12 rfl (xD 17 (by kernel_rfl))) (build_odd W _ _ _ _ _ _ _ _ _ _ _ _)) ⟨_,hp 146 _ (by kernel_rfl),JK.madeP hok hst hJ (gM 5 rfl) ⟨_,_,rfl,hO,rfl,(by simp only[OT,Ts.size];omega),(by
        have z1:(⟨#[97]⟩:ByteArray).size=1:=rfl
        have z2:(⟨#[120]⟩:ByteArray).size=1:=rfl
        have z3:(⟨#[102]⟩:ByteArray).size=1:=rfl
        have z4:(⟨#[63,116]⟩:ByteArray).size=2:=rfl
        have z5:(⟨#[63,84]⟩:ByteArray).size=2:=rfl
        have z6:(⟨#[97,108,108]⟩:ByteArray).size=3:=rfl
        have z7:(⟨#[]⟩:ByteArray).size=0:=rfl
        simp only[OT,Ts.wt,z1,z2,z3,z4,z5,z6,z7];omega)⟩ (bel_laid W _)⟩
      ·rintro l gv W hun xD hcl hJ hg ha hp
       exact op_val rfl rfl (ex_assign rfl (eval_tmp (hg 146 (by kernel_rfl)))) ⟨_,hp 10 _ (by kernel_rfl),JK.madeP hok hst hJ (gM 6 rfl) (hJ.pr _ (gM 5 rfl) (xD 18 (by kernel_rfl))) (Below.refl _ _)⟩
     case hend79 =>
      rintro ll gv W9 hl hJ
      replace hl:=fun j h=>hl j (of_decide_eq_true h)
      have e128:=lT hJ.lit 0 rfl (hl 0 (by kernel_rfl))
      have e129:=lT hJ.lit 1 rfl (hl 1 (by kernel_rfl))
      have e130:=lT hJ.lit 2 rfl (hl 2 (by kernel_rfl))
      have e131:=lT hJ.lit 3 rfl (hl 3 (by kernel_rfl))
      have e135:=lT hJ.lit 4 rfl (hl 7 (by kernel_rfl))
      have e138:=lT hJ.lit 5 rfl (hl 10 (by kernel_rfl))
      have e139:=lT hJ.lit 6 rfl (hl 11 (by kernel_rfl))
      have e140:=lT hJ.lit 7 rfl (hl 12 (by kernel_rfl))
      have e141:=lT hJ.lit 8 rfl (hl 13 (by kernel_rfl))
      have e142:=lT hJ.lit 9 rfl (hl 14 (by kernel_rfl))
      have e143:=lT hJ.lit 10 rfl (hl 15 (by kernel_rfl))
      have e144:=lT hJ.lit 11 rfl (hl 16 (by kernel_rfl))
      have e145:=lT hJ.lit 12 rfl (hl 17 (by kernel_rfl))
      simp only[zipV,List.map_cons,List.map_nil,puts,Act.put,List.setIfInBounds_toArray,List.set_cons_succ,List.set_cons_zero,e128,e129,e130,e131,e135,e138,e139,e140,e141,e142,e143,e144,e145]
      obtain⟨go,O,e10,hOat,hOl,hOs,hOw⟩:=hJ.pr _ (gM 6 rfl) (hl 19 (by kernel_rfl))
      rw[e10]
      clear e10
      have hlow:=h_X hJ.low
      clear e128 e129 e130 e131 e135 e138 e139 e140 e141 e142 e143 e144 e145 hJ hl
      obtain⟨u132,hu132⟩:∃ u,gv 132=u:=⟨_,rfl⟩
      rw[hu132]
      clear hu132
      obtain⟨u133,hu133⟩:∃ u,gv 133=u:=⟨_,rfl⟩
      rw[hu133]
      clear hu133
      obtain⟨u134,hu134⟩:∃ u,gv 134=u:=⟨_,rfl⟩
      rw[hu134]
      clear hu134
      obtain⟨u136,hu136⟩:∃ u,gv 136=u:=⟨_,rfl⟩
      rw[hu136]
      clear hu136
      obtain⟨u137,hu137⟩:∃ u,gv 137=u:=⟨_,rfl⟩
      rw[hu137]
      clear hu137
      obtain⟨u146,hu146⟩:∃ u,gv 146=u:=⟨_,rfl⟩
      rw[hu146]
      clear hu146
      obtain⟨wC,hwC⟩:∃ wC,W9=wC:=⟨_,rfl⟩
      rw[hwC] at hlow hOat ⊢
      have hbC:=h_X (bS hb2h.out hlow.out)
      have hOath:=h_X hOat
      clear hwC hlow hOat hSw hAT hAT4 hb2h
      go_wp2_with fail
      go_loopw [11] (fun i wr=>∃ i':Nat,i=.int .i64 (i':Int)∧i'≤11∧Below wC.heap.size wC wr) (fun i _=>11 - (intOf i).toNat)
      case atStart=>exact⟨0,rfl,Nat.zero_le _,Below.refl _ _⟩
      case round =>
       obtain⟨i,rfl,hi0,hbw⟩:=hrel
       have hbwh:=h_X hbw
       clear hbw
       by_cases hi:i < 11
       ·have hii:(i:Int) < 11:=by omega
        have hiw:IntKind.i64.wrap ((i:Int)+1)=(i:Int)+1:=IntWalk.i64_in _ (by omega)
        go_wp2_with fail
        go_loopw [12] (fun q wr=>∃ q':Nat,q=.int .i64 (q':Int)∧q'≤11∧Below wC.heap.size wC wr) (fun q _=>11 - (intOf q).toNat)
        case atStart=>exact⟨0,rfl,Nat.zero_le _,hbwh.out⟩
        case round =>
         obtain⟨q,rfl,hq0,hbw⟩:=hrel
         clear hbwh
         have hbwh:=h_X hbw
         clear hbw
         by_cases hq:q < 11
         ·have hqi:(q:Int) < 11:=by omega
          have hqw:IntKind.i64.wrap ((q:Int)+1)=(q:Int)+1:=IntWalk.i64_in _ (by omega)
          have hOw2:=TsAt.kept (Ext.of_below hbwh.out) hOath.out
          obtain⟨v1,n1,t1,p1,-,c1,-,⟨x0,x1,x2,ht1⟩,-,hs1,hw1⟩:=hOw2.both hOw2 (show i < O.len by omega)
          obtain⟨v2,n2,t2,p2,-,c2,-,⟨y0,y1,y2,ht2⟩,-,hs2,hw2⟩:=hOw2.both hOw2 (show q < O.len by omega)
          have ht1h:=h_X ht1
          have ht2h:=h_X ht2
          have hrwr:=h_X (hrwh.out.of (bS hbC.out hbwh.out))
          clear hOw2 ht1 ht2
          have hi11:i < 11:=hi
          go_wp2_with fail
          have hok:okK [(0,159,.slice (some ⟨go,0,none⟩) 11 11),(1,160,.int .i64 (i:Int)),(2,161,.pointer (some ⟨go,0+i*3,none⟩)),(3,162,.agg #[.bool v1,.string n1,.slice p1 t1.len c1]),(6,165,.bool true),(7,166,.bool false),(8,167,.bool false),(9,168,.slice (some ⟨go,0,none⟩) 11 11),(10,169,.int .i64 (i:Int)),(11,170,.pointer (some ⟨go,0+i*3,none⟩)),(12,171,.agg #[.bool v1,.string n1,.slice p1 t1.len c1]),(13,172,.slice (some ⟨go,0,none⟩) 11 11),(14,173,.int .i64 (q:Int)),(15,174,.pointer (some ⟨go,0+q*3,none⟩)),(16,175,.agg #[.bool v2,.string n2,.slice p2 t2.len c2]),(19,178,.bool true),(20,179,.bool false),(21,180,.bool false),(22,181,.bool false),(24,183,.slice (some ⟨go,0,none⟩) 11 11),(25,184,.int .i64 (q:Int)),(26,185,.pointer (some ⟨go,0+q*3,none⟩)),(27,186,.agg #[.bool v2,.string n2,.slice p2 t2.len c2]),(30,189,.bool true),(31,190,.bool false),(32,191,.bool false),(33,192,.bool false),(34,193,.slice (some ⟨go,0,none⟩) 11 11),(35,194,.int .i64 (i:Int)),(36,195,.pointer (some ⟨go,0+i*3,none⟩)),(37,196,.agg #[.bool v1,.string n1,.slice p1 t1.len c1]),(38,197,.slice (some ⟨go,0,none⟩) 11 11),(39,198,.int .i64 (q:Int)),(40,199,.pointer (some ⟨go,0+q*3,none⟩)),(41,200,.agg #[.bool v2,.string n2,.slice p2 t2.len c2]),(44,203,.slice (some ⟨go,0,none⟩) 11 11),(45,204,.int .i64 (q:Int)),(46,205,.pointer (some ⟨go,0+q*3,none⟩)),(47,206,.agg #[.bool v2,.string n2,.slice p2 t2.len c2]),(48,207,.slice (some ⟨go,0,none⟩) 11 11),(49,208,.int .i64 (i:Int)),(50,209,.pointer (some ⟨go,0+i*3,none⟩)),(51,210,.agg #[.bool v1,.string n1,.slice p1 t1.len c1]),(54,213,.bool true),(55,214,.bool false),(56,215,.bool false)] [(4,163,(fun v W=>TSl W (.cons v1 n1 t1 .nil) v)),(5,164,(fun v W=>FVal W ⟨1,⟨#[80]⟩,(.cons v1 n1 t1 .nil),.nil⟩ v)),(17,176,(fun v W=>TSl W (.cons v1 n1 t1 (.cons v2 n2 t2 .nil)) v)),(18,177,(fun v W=>FVal W ⟨16,⟨#[63,65]⟩,(.cons v1 n1 t1 (.cons v2 n2 t2 .nil)),.nil⟩ v)),(23,182,(fun v _=>∃ b:Bool,v=.agg #[.bool b,.string ⟨#[120]⟩,.slice none 0 0])),(28,187,(fun v W=>∃ b:Bool,TSl W (.cons b ⟨#[120]⟩ .nil (.cons v2 n2 t2 .nil)) v)),(29,188,(fun v W=>∃ b:Bool,FVal W ⟨16,⟨#[63,65]⟩,(.cons b ⟨#[120]⟩ .nil (.cons v2 n2 t2 .nil)),.nil⟩ v)),(42,201,(fun v W=>TSl W (.cons v1 n1 t1 (.cons v2 n2 t2 .nil)) v)),(43,202,(fun v W=>FVal W ⟨1,⟨#[80]⟩,(.cons v1 n1 t1 (.cons v2 n2 t2 .nil)),.nil⟩ v)),(52,211,(fun v W=>TSl W (.cons v2 n2 t2 (.cons v1 n1 t1 .nil)) v)),(53,212,(fun v W=>FVal W ⟨1,⟨#[80]⟩,(.cons v2 n2 t2 (.cons v1 n1 t1 .nil)),.nil⟩ v))]=true:=by kernel_rfl
          refine wp_region_run (by kernel_rfl) 216 [159,160,161,162,163,164,165,166,167,168,169,170,171,172,173,174,175,176,177,178,179,180,181,182,183,184,185,186,187,188,189,190,191,192,193,194,195,196,197,198,199,200,201,202,203,204,205,206,207,208,209,210,211,212,213,214,215] (JK wr (okL hok) (okP hok)) (by kernel_rfl) rfl (JK.start _ _) ?hst132 ?hend132
          case hst132 =>
           have hst:∀ p∈okP hok,Stb p.2.2:=(fun p hp=>by simp only[okP,List.mem_cons,List.not_mem_nil,or_false] at hp;exact hp.elim (fun h=>by subst h;exact fun v W W' hb h=>TSl.below hb h) (fun hp=>hp.elim (fun h=>by subst h;exact fun v W W' hb h=>FVal.below hb h) (fun hp=>hp.elim (fun h=>by subst h;exact fun v W W' hb h=>TSl.below hb h) (fun hp=>hp.elim (fun h=>by subst h;exact fun v W W' hb h=>FVal.below hb h) (fun hp=>hp.elim (fun h=>by subst h;exact fun v W W' hb h=>h) (fun hp=>hp.elim (fun h=>by subst h;exact fun v W W' hb h=>h.imp fun b h=>TSl.below hb h) (fun hp=>hp.elim (fun h=>by subst h;exact fun v W W' hb h=>h.imp fun b h=>FVal.below hb h) (fun hp=>hp.elim (fun h=>by subst h;exact fun v W W' hb h=>TSl.below hb h) (fun hp=>hp.elim (fun h=>by subst h;exact fun v W W' hb h=>FVal.below hb h) (fun hp=>hp.elim (fun h=>by subst h;exact fun v W W' hb h=>TSl.below hb h) (fun h=>by subst h;exact fun v W W' hb h=>FVal.below hb h)))))))))))
           refine⟨?_,?_,?_,?_,?_,?_,?_,?_,?_,?_,?_,?_,?_,?_,?_,?_,?_,?_,?_,?_,?_,?_,?_,?_,?_,?_,?_,?_,?_,?_,?_,?_,?_,?_,?_,?_,?_,?_,?_,?_,?_,?_,?_,?_,?_,?_,?_,?_,?_,?_,?_,?_,?_,?_,?_,?_,?_,trivial⟩
           ·rintro l gv W hun xD hcl hJ hg ha hp
            refine' op_val ?h80 ?w80 ?r80 ?K80
            case h80=>rfl
            case w80=>exact rfl
            case r80=>exact(ex_move rfl (eval_tmp ((ha 10 (by kernel_rfl)).trans rfl)))
            case K80=>exact⟨_,hp 159 _ (by kernel_rfl),JK.M hok hst hJ 0 rfl⟩
           ·rintro l gv W hun xD hcl hJ hg ha hp
            refine' op_val ?h81 ?w81 ?r81 ?K81
            case h81=>rfl
            case w81=>exact rfl
            case r81=>exact(ex_move rfl (eval_tmp ((ha 11 (by kernel_rfl)).trans rfl)))
            case K81=>exact⟨_,hp 160 _ (by kernel_rfl),JK.M hok hst hJ 1 rfl⟩
           ·rintro l gv W hun xD hcl hJ hg ha hp
            refine' op_val ?h82 ?w82 ?r82 ?K82
            case h82=>rfl
            case w82=>exact rfl
            case r82=>exact(ex_indexAddr rfl (lE (hg 159 (by kernel_rfl)) hJ.lit 0 rfl (xD 0 (by kernel_rfl))) (lE (hg 160 (by kernel_rfl)) hJ.lit 1 rfl (xD 1 (by kernel_rfl))) (i22 hi11))
            case K82=>exact⟨_,hp 161 _ (by kernel_rfl),JK.M hok hst hJ 2 rfl⟩
           ·rintro l gv W hun xD hcl hJ hg ha hp
            refine' op_val ?h83 ?w83 ?r83 ?K83
            case h83=>rfl
            case w83=>exact rfl
            case r83=>exact(ex_load rfl (lE (hg 161 (by kernel_rfl)) hJ.lit 2 rfl (xD 2 (by kernel_rfl))) (loadT46b (c_B hJ.low x0) (c_B hJ.low x1) (c_B hJ.low x2)))
            case K83=>exact⟨_,hp 162 _ (by kernel_rfl),JK.M hok hst hJ 3 rfl⟩
           ·rintro l gv W hun xD hcl hJ hg ha hp
            refine' op_val ?h84 ?w84 ?r84 ?K84
            case h84=>rfl
            case w84=>exact rfl
            case r84=>exact(ex_buildSlice rfl (lE (hg 162 (by kernel_rfl)) hJ.lit 3 rfl (xD 3 (by kernel_rfl))) (build_t1 W _ _ _))
            case K84=>exact⟨_,hp 163 _ (by kernel_rfl),JK.madeP hok hst hJ (gM 0 rfl) (one_term (TSl.below hJ.low ht1h.out) 46) (bel_laid W _)⟩
           ·rintro l gv W hun xD hcl hJ hg ha hp
            refine' op_call ?h85 ?w85 ?r85 ?hc85
            case h85=>rfl
            case w85=>exact rfl
            case r85=>exact(ex_call2 (enters_of Tryz.func39 (by kernel_rfl) rfl) rfl rfl (eval_tmp (hg 163 (by kernel_rfl))))
            case hc85 =>
             refine(atom_form ⟨#[80]⟩ (.cons v1 n1 t1 .nil) _ W (hJ.pr _ (gM 0 rfl) (xD 4 (by kernel_rfl)))).mono ?_
             rintro e W' ⟨⟨v',rfl,hv'⟩,hb⟩
             exact⟨_,rfl,_,hp 164 _ (by kernel_rfl),JK.madeP hok hst hJ (gM 1 rfl) hv' hb⟩
           ·rintro l gv W hun xD hcl hJ hg ha hp
            refine' op_call ?h86 ?w86 ?r86 ?hc86
            case h86=>rfl
            case w86=>exact rfl
            case r86=>exact(ex_call1 (enters_of Tryz.func6 (by kernel_rfl) rfl) rfl (eval_tmp (hg 164 (by kernel_rfl))))
            case hc86 =>
             refine(asks_any ⟨1,⟨#[80]⟩,(.cons v1 n1 t1 .nil),.nil⟩ _ W (hrwr.out.of hJ.low) (hJ.pr _ (gM 1 rfl) (xD 5 (by kernel_rfl))) (by simp only[FT.size,Fs.size,Ts.size];omega) (by have e1:(⟨#[80]⟩:ByteArray).size=1:=rfl;have e2:(⟨#[63,65]⟩:ByteArray).size=2:=rfl;have e3:(⟨#[120]⟩:ByteArray).size=1:=rfl;simp only[FT.wt,Fs.wt,Ts.wt,e1,e2,e3];omega) (opn_atom _ _)).mono ?_
             rintro e W' ⟨rfl,hb⟩
             exact⟨_,rfl,_,hp 165 _ (by kernel_rfl),JK.made hok hst hJ (gM 4 rfl) hb⟩
           ·rintro l gv W hun xD hcl hJ hg ha hp
            refine' op_val ?h87 ?w87 ?r87 ?K87
            case h87=>rfl
            case w87=>exact rfl
            case r87=>exact(ex_not rfl (lE (hg 165 (by kernel_rfl)) hJ.lit 4 rfl (xD 6 (by kernel_rfl))))
            case K87=>exact⟨_,hp 166 _ (by kernel_rfl),JK.M hok hst hJ 5 rfl⟩
           ·rintro l gv W hun xD hcl hJ hg ha hp
            refine' op_val ?h88 ?w88 ?r88 ?K88
            case h88=>rfl
            case w88=>exact rfl
            case r88=>exact(ex_move rfl (lE (hg 166 (by kernel_rfl)) hJ.lit 5 rfl (xD 7 (by kernel_rfl))))
            case K88=>exact⟨_,hp 167 _ (by kernel_rfl),JK.M hok hst hJ 6 rfl⟩
           ·rintro l gv W hun xD hcl hJ hg ha hp
            have hgd:=gD (hg 167 (by kernel_rfl)) hJ.lit 6 rfl (xD 8 (by kernel_rfl))
            refine' op_val ?h89 ?w89 ?r89 ?K89
            case h89=>rfl
            case w89=>exact(wants_yes false rfl (by kernel_rfl) hgd)
            case r89=>exact(ex_move rfl (eval_tmp ((ha 10 (by kernel_rfl)).trans rfl)))
            case K89=>exact⟨_,hp 168 _ (by kernel_rfl),JK.M hok hst hJ 7 rfl⟩
           ·rintro l gv W hun xD hcl hJ hg ha hp
            have hgd:=gD (hg 167 (by kernel_rfl)) hJ.lit 6 rfl (xD 8 (by kernel_rfl))
            refine' op_val ?h90 ?w90 ?r90 ?K90
            case h90=>rfl
            case w90=>exact(wants_yes false rfl (by kernel_rfl) hgd)
            case r90=>exact(ex_move rfl (eval_tmp ((ha 11 (by kernel_rfl)).trans rfl)))
            case K90=>exact⟨_,hp 169 _ (by kernel_rfl),JK.M hok hst hJ 8 rfl⟩
           ·rintro l gv W hun xD hcl hJ hg ha hp
            have hgd:=gD (hg 167 (by kernel_rfl)) hJ.lit 6 rfl (xD 8 (by kernel_rfl))
            refine' op_val ?h91 ?w91 ?r91 ?K91
            case h91=>rfl
            case w91=>exact(wants_yes false rfl (by kernel_rfl) hgd)
            case r91=>exact(ex_indexAddr rfl (lE (hg 168 (by kernel_rfl)) hJ.lit 7 rfl (xD 9 (by kernel_rfl))) (lE (hg 169 (by kernel_rfl)) hJ.lit 8 rfl (xD 10 (by kernel_rfl))) (i22 hi11))
            case K91=>exact⟨_,hp 170 _ (by kernel_rfl),JK.M hok hst hJ 9 rfl⟩
           ·rintro l gv W hun xD hcl hJ hg ha hp
            have hgd:=gD (hg 167 (by kernel_rfl)) hJ.lit 6 rfl (xD 8 (by kernel_rfl))
            refine' op_val ?h92 ?w92 ?r92 ?K92
            case h92=>rfl
            case w92=>exact(wants_yes false rfl (by kernel_rfl) hgd)
            case r92=>exact(ex_load rfl (lE (hg 170 (by kernel_rfl)) hJ.lit 9 rfl (xD 11 (by kernel_rfl))) (loadT46b (c_B hJ.low x0) (c_B hJ.low x1) (c_B hJ.low x2)))
            case K92=>exact⟨_,hp 171 _ (by kernel_rfl),JK.M hok hst hJ 10 rfl⟩
           ·rintro l gv W hun xD hcl hJ hg ha hp
            have hgd:=gD (hg 167 (by kernel_rfl)) hJ.lit 6 rfl (xD 8 (by kernel_rfl))
            refine' op_val ?h93 ?w93 ?r93 ?K93
            case h93=>rfl
            case w93=>exact(wants_yes false rfl (by kernel_rfl) hgd)
            case r93=>exact(ex_move rfl (eval_tmp ((ha 10 (by kernel_rfl)).trans rfl)))
            case K93=>exact⟨_,hp 172 _ (by kernel_rfl),JK.M hok hst hJ 11 rfl⟩
           ·rintro l gv W hun xD hcl hJ hg ha hp
            have hgd:=gD (hg 167 (by kernel_rfl)) hJ.lit 6 rfl (xD 8 (by kernel_rfl))
            refine' op_val ?h94 ?w94 ?r94 ?K94
            case h94=>rfl
            case w94=>exact(wants_yes false rfl (by kernel_rfl) hgd)
            case r94=>exact(ex_move rfl (eval_tmp ((ha 12 (by kernel_rfl)).trans rfl)))
            case K94=>exact⟨_,hp 173 _ (by kernel_rfl),JK.M hok hst hJ 12 rfl⟩
           ·rintro l gv W hun xD hcl hJ hg ha hp
            have hgd:=gD (hg 167 (by kernel_rfl)) hJ.lit 6 rfl (xD 8 (by kernel_rfl))
            refine' op_val ?h95 ?w95 ?r95 ?K95
            case h95=>rfl
            case w95=>exact(wants_yes false rfl (by kernel_rfl) hgd)
            case r95=>exact(ex_indexAddr rfl (lE (hg 172 (by kernel_rfl)) hJ.lit 11 rfl (xD 13 (by kernel_rfl))) (lE (hg 173 (by kernel_rfl)) hJ.lit 12 rfl (xD 14 (by kernel_rfl))) (i22 hq))
            case K95=>exact⟨_,hp 174 _ (by kernel_rfl),JK.M hok hst hJ 13 rfl⟩
           ·rintro l gv W hun xD hcl hJ hg ha hp
            have hgd:=gD (hg 167 (by kernel_rfl)) hJ.lit 6 rfl (xD 8 (by kernel_rfl))
            refine' op_val ?h96 ?w96 ?r96 ?K96
            case h96=>rfl
            case w96=>exact(wants_yes false rfl (by kernel_rfl) hgd)
            case r96=>exact(ex_load rfl (lE (hg 174 (by kernel_rfl)) hJ.lit 13 rfl (xD 15 (by kernel_rfl))) (loadT46b (c_B hJ.low y0) (c_B hJ.low y1) (c_B hJ.low y2)))
            case K96=>exact⟨_,hp 175 _ (by kernel_rfl),JK.M hok hst hJ 14 rfl⟩
           ·rintro l gv W hun xD hcl hJ hg ha hp
            have hgd:=gD (hg 167 (by kernel_rfl)) hJ.lit 6 rfl (xD 8 (by kernel_rfl))
            refine' op_val ?h97 ?w97 ?r97 ?K97
            case h97=>rfl
            case w97=>exact(wants_yes false rfl (by kernel_rfl) hgd)
            case r97=>exact(ex_buildSlice2 rfl (lE (hg 171 (by kernel_rfl)) hJ.lit 10 rfl (xD 12 (by kernel_rfl))) (lE (hg 175 (by kernel_rfl)) hJ.lit 14 rfl (xD 16 (by kernel_rfl))) (build_t2 W _ _ _ _ _ _))
            case K97=>exact⟨_,hp 176 _ (by kernel_rfl),JK.madeP hok hst hJ (gM 2 rfl) (two_terms (TSl.below hJ.low ht1h.out) (TSl.below hJ.low ht2h.out) 46) (bel_laid W _)⟩
           ·rintro l gv W hun xD hcl hJ hg ha hp
            have hgd:=gD (hg 167 (by kernel_rfl)) hJ.lit 6 rfl (xD 8 (by kernel_rfl))
            have h:TSl W (.cons v1 n1 t1 (.cons v2 n2 t2 .nil)) (gv 176):=(hJ.pr _ (gM 2 rfl) (xD 17 (by kernel_rfl)))
            have h0:=h
            cases h0 with
            | intro p9 h9 =>
             cases h9 with
             | intro c9 h8 =>
              refine' op_val ?h9018 ?w9018 ?r9018 ?K9018
              case h9018=>rfl
              case w9018=>exact(wants_yes false rfl (by kernel_rfl) hgd)
              case r9018=>exact(ex_bld3 rfl rfl rfl ((eval_tmp (hg 176 (by kernel_rfl))).trans h8.1) rbF)
              case K9018=>exact⟨_,hp 177 _ (by kernel_rfl),JK.madeP hok hst hJ (gM 3 rfl) (fval_leaf (tsl_to h h8.1)) (Below.refl _ _)⟩
           ·rintro l gv W hun xD hcl hJ hg ha hp
            have hgd:=gD (hg 167 (by kernel_rfl)) hJ.lit 6 rfl (xD 8 (by kernel_rfl))
            refine' op_call ?h98 ?w98 ?r98 ?hc98
            case h98=>rfl
            case w98=>exact(wants_yes false rfl (by kernel_rfl) hgd)
            case r98=>exact(ex_call1 (enters_of Tryz.func6 (by kernel_rfl) rfl) rfl (eval_tmp (hg 177 (by kernel_rfl))))
            case hc98 =>
             refine(asks_any ⟨16,⟨#[63,65]⟩,(.cons v1 n1 t1 (.cons v2 n2 t2 .nil)),.nil⟩ _ W (hrwr.out.of hJ.low) (hJ.pr _ (gM 3 rfl) (xD 18 (by kernel_rfl))) (by simp only[FT.size,Fs.size,Ts.size];omega) (by have e1:(⟨#[80]⟩:ByteArray).size=1:=rfl;have e2:(⟨#[63,65]⟩:ByteArray).size=2:=rfl;have e3:(⟨#[120]⟩:ByteArray).size=1:=rfl;simp only[FT.wt,Fs.wt,Ts.wt,e1,e2,e3];omega) (opn_leaf (by decide) _ _)).mono ?_
             rintro e W' ⟨rfl,hb⟩
             exact⟨_,rfl,_,hp 178 _ (by kernel_rfl),JK.made hok hst hJ (gM 15 rfl) hb⟩
           ·rintro l gv W hun xD hcl hJ hg ha hp
            have hgd:=gD (hg 167 (by kernel_rfl)) hJ.lit 6 rfl (xD 8 (by kernel_rfl))
            refine' op_val ?h99 ?w99 ?r99 ?K99
            case h99=>rfl
            case w99=>exact(wants_yes false rfl (by kernel_rfl) hgd)
            case r99=>exact(ex_not rfl (lE (hg 178 (by kernel_rfl)) hJ.lit 15 rfl (xD 19 (by kernel_rfl))))
            case K99=>exact⟨_,hp 179 _ (by kernel_rfl),JK.M hok hst hJ 16 rfl⟩
           ·rintro l gv W hun xD hcl hJ hg ha hp
            refine' op_val ?h100 ?w100 ?r100 ?K100
            case h100=>rfl
            case w100=>exact rfl
            case r100=>exact(ex_pickF rfl (lE (hg 167 (by kernel_rfl)) hJ.lit 6 rfl (xD 8 (by kernel_rfl))) (lE (hg 179 (by kernel_rfl)) hJ.lit 16 rfl (xD 20 (by kernel_rfl))))
            case K100=>exact⟨_,hp 180 _ (by kernel_rfl),JK.M hok hst hJ 17 rfl⟩
           ·rintro l gv W hun xD hcl hJ hg ha hp
            refine' op_val ?h101 ?w101 ?r101 ?K101
            case h101=>rfl
            case w101=>exact rfl
            case r101=>exact(ex_move rfl (lE (hg 180 (by kernel_rfl)) hJ.lit 17 rfl (xD 21 (by kernel_rfl))))
            case K101=>exact⟨_,hp 181 _ (by kernel_rfl),JK.M hok hst hJ 18 rfl⟩
           ·rintro l gv W hun xD hcl hJ hg ha hp
            have hgd:=gD (hg 181 (by kernel_rfl)) hJ.lit 18 rfl (xD 22 (by kernel_rfl))
            refine' op_call ?h102 ?w102 ?r102 ?hc102
            case h102=>rfl
            case w102=>exact(wants_yes false rfl (by kernel_rfl) hgd)
            case r102=>exact(ex_call2 (enters_of Tryz.func48 (by kernel_rfl) rfl) rfl rfl rfl)
            case hc102 =>
             refine(term_x 120 W).mono ?_
             rintro e W' ⟨⟨v',rfl,hv'⟩,hb⟩
             exact⟨_,rfl,_,hp 182 _ (by kernel_rfl),JK.madeP hok hst hJ (gM 4 rfl) hv' hb⟩
           ·rintro l gv W hun xD hcl hJ hg ha hp
            have hgd:=gD (hg 181 (by kernel_rfl)) hJ.lit 18 rfl (xD 22 (by kernel_rfl))
            refine' op_val ?h103 ?w103 ?r103 ?K103
            case h103=>rfl
            case w103=>exact(wants_yes false rfl (by kernel_rfl) hgd)
            case r103=>exact(ex_move rfl (eval_tmp ((ha 10 (by kernel_rfl)).trans rfl)))
            case K103=>exact⟨_,hp 183 _ (by kernel_rfl),JK.M hok hst hJ 19 rfl⟩
           ·rintro l gv W hun xD hcl hJ hg ha hp
            have hgd:=gD (hg 181 (by kernel_rfl)) hJ.lit 18 rfl (xD 22 (by kernel_rfl))
            refine' op_val ?h104 ?w104 ?r104 ?K104
            case h104=>rfl
            case w104=>exact(wants_yes false rfl (by kernel_rfl) hgd)
            case r104=>exact(ex_move rfl (eval_tmp ((ha 12 (by kernel_rfl)).trans rfl)))
            case K104=>exact⟨_,hp 184 _ (by kernel_rfl),JK.M hok hst hJ 20 rfl⟩
           ·rintro l gv W hun xD hcl hJ hg ha hp
            have hgd:=gD (hg 181 (by kernel_rfl)) hJ.lit 18 rfl (xD 22 (by kernel_rfl))
            refine' op_val ?h105 ?w105 ?r105 ?K105
            case h105=>rfl
            case w105=>exact(wants_yes false rfl (by kernel_rfl) hgd)
            case r105=>exact(ex_indexAddr rfl (lE (hg 183 (by kernel_rfl)) hJ.lit 19 rfl (xD 24 (by kernel_rfl))) (lE (hg 184 (by kernel_rfl)) hJ.lit 20 rfl (xD 25 (by kernel_rfl))) (i22 hq))
            case K105=>exact⟨_,hp 185 _ (by kernel_rfl),JK.M hok hst hJ 21 rfl⟩
           ·rintro l gv W hun xD hcl hJ hg ha hp
            have hgd:=gD (hg 181 (by kernel_rfl)) hJ.lit 18 rfl (xD 22 (by kernel_rfl))
            refine' op_val ?h106 ?w106 ?r106 ?K106
            case h106=>rfl
            case w106=>exact(wants_yes false rfl (by kernel_rfl) hgd)
            case r106=>exact(ex_load rfl (lE (hg 185 (by kernel_rfl)) hJ.lit 21 rfl (xD 26 (by kernel_rfl))) (loadT46b (c_B hJ.low y0) (c_B hJ.low y1) (c_B hJ.low y2)))
            case K106=>exact⟨_,hp 186 _ (by kernel_rfl),JK.M hok hst hJ 22 rfl⟩
           ·rintro l gv W hun xD hcl hJ hg ha hp
            have hgd:=gD (hg 181 (by kernel_rfl)) hJ.lit 18 rfl (xD 22 (by kernel_rfl))
            have h0:∃ b:Bool,gv 182=.agg #[.bool b,.string ⟨#[120]⟩,.slice none 0 0]:=(hJ.pr _ (gM 4 rfl) (xD 23 (by kernel_rfl)))
            cases h0 with
            | intro b e =>
             refine' op_val ?h9028 ?w9028 ?r9028 ?K9028
             case h9028=>rfl
             case w9028=>exact(wants_yes false rfl (by kernel_rfl) hgd)
             case r9028=>exact(ex_buildSlice2 rfl ((eval_tmp (hg 182 (by kernel_rfl))).trans e) (lE (hg 186 (by kernel_rfl)) hJ.lit 22 rfl (xD 27 (by kernel_rfl))) (build_t2 W _ _ _ _ _ _))
             case K9028=>exact⟨_,hp 187 _ (by kernel_rfl),JK.madeP hok hst hJ (gM 5 rfl) ⟨b,two_terms (nil_terms W) (TSl.below hJ.low ht2h.out) 46⟩ (bel_laid W _)⟩
           ·rintro l gv W hun xD hcl hJ hg ha hp
            have hgd:=gD (hg 181 (by kernel_rfl)) hJ.lit 18 rfl (xD 22 (by kernel_rfl))
            have h00:∃ b:Bool,TSl W (.cons b ⟨#[120]⟩ .nil (.cons v2 n2 t2 .nil)) (gv 187):=(hJ.pr _ (gM 5 rfl) (xD 28 (by kernel_rfl)))
            cases h00 with
            | intro b h =>
             have h0:=h
             cases h0 with
             | intro p9 h9 =>
              cases h9 with
              | intro c9 h8 =>
               refine' op_val ?h9029 ?w9029 ?r9029 ?K9029
               case h9029=>rfl
               case w9029=>exact(wants_yes false rfl (by kernel_rfl) hgd)
               case r9029=>exact(ex_bld3 rfl rfl rfl ((eval_tmp (hg 187 (by kernel_rfl))).trans h8.1) rbF)
               case K9029=>exact⟨_,hp 188 _ (by kernel_rfl),JK.madeP hok hst hJ (gM 6 rfl) ⟨b,fval_leaf (tsl_to h h8.1)⟩ (Below.refl _ _)⟩
           ·rintro l gv W hun xD hcl hJ hg ha hp
            have hgd:=gD (hg 181 (by kernel_rfl)) hJ.lit 18 rfl (xD 22 (by kernel_rfl))
            have h0:∃ b:Bool,FVal W (FT.mk 16 ⟨#[63,65]⟩ (.cons b ⟨#[120]⟩ .nil (.cons v2 n2 t2 .nil)) .nil) (gv 188):=(hJ.pr _ (gM 6 rfl) (xD 29 (by kernel_rfl)))
            cases h0 with
            | intro b h =>
             refine' op_call ?h9030 ?w9030 ?r9030 ?hc9030
             case h9030=>rfl
             case w9030=>exact(wants_yes false rfl (by kernel_rfl) hgd)
             case r9030=>exact(ex_call1 (enters_of Tryz.func6 (by kernel_rfl) rfl) rfl (eval_tmp (hg 188 (by kernel_rfl))))
             case hc9030 =>
              refine(asks_any (FT.mk 16 ⟨#[63,65]⟩ (.cons b ⟨#[120]⟩ .nil (.cons v2 n2 t2 .nil)) .nil) _ W (hrwr.out.of hJ.low) h (by simp only[FT.size,Fs.size,Ts.size];omega) (by have e1:(⟨#[80]⟩:ByteArray).size=1:=rfl;have e2:(⟨#[63,65]⟩:ByteArray).size=2:=rfl;have e3:(⟨#[120]⟩:ByteArray).size=1:=rfl;simp only[FT.wt,Fs.wt,Ts.wt,e1,e2,e3];omega) (opn_leaf (by decide) _ _)).mono ?_
              rintro e W' ⟨rfl,hb⟩
              exact⟨_,rfl,_,hp 189 _ (by kernel_rfl),JK.made hok hst hJ (gM 23 rfl) hb⟩
           ·rintro l gv W hun xD hcl hJ hg ha hp
            have hgd:=gD (hg 181 (by kernel_rfl)) hJ.lit 18 rfl (xD 22 (by kernel_rfl))
            refine' op_val ?h107 ?w107 ?r107 ?K107
            case h107=>rfl
            case w107=>exact(wants_yes false rfl (by kernel_rfl) hgd)
            case r107=>exact(ex_not rfl (lE (hg 189 (by kernel_rfl)) hJ.lit 23 rfl (xD 30 (by kernel_rfl))))
            case K107=>exact⟨_,hp 190 _ (by kernel_rfl),JK.M hok hst hJ 24 rfl⟩
           ·rintro l gv W hun xD hcl hJ hg ha hp
            refine' op_val ?h108 ?w108 ?r108 ?K108
            case h108=>rfl
            case w108=>exact rfl
            case r108=>exact(ex_pickF rfl (lE (hg 181 (by kernel_rfl)) hJ.lit 18 rfl (xD 22 (by kernel_rfl))) (lE (hg 190 (by kernel_rfl)) hJ.lit 24 rfl (xD 31 (by kernel_rfl))))
            case K108=>exact⟨_,hp 191 _ (by kernel_rfl),JK.M hok hst hJ 25 rfl⟩
           ·rintro l gv W hun xD hcl hJ hg ha hp
            refine' op_val ?h109 ?w109 ?r109 ?K109
            case h109=>rfl
            case w109=>exact rfl
            case r109=>exact(ex_move rfl (lE (hg 191 (by kernel_rfl)) hJ.lit 25 rfl (xD 32 (by kernel_rfl))))
            case K109=>exact⟨_,hp 192 _ (by kernel_rfl),JK.M hok hst hJ 26 rfl⟩
           ·rintro l gv W hun xD hcl hJ hg ha hp
            have hgd:=gD (hg 192 (by kernel_rfl)) hJ.lit 26 rfl (xD 33 (by kernel_rfl))
            refine' op_val ?h110 ?w110 ?r110 ?K110
            case h110=>rfl
            case w110=>exact(wants_yes false rfl (by kernel_rfl) hgd)
            case r110=>exact(ex_move rfl (eval_tmp ((ha 10 (by kernel_rfl)).trans rfl)))
            case K110=>exact⟨_,hp 193 _ (by kernel_rfl),JK.M hok hst hJ 27 rfl⟩
           ·rintro l gv W hun xD hcl hJ hg ha hp
            have hgd:=gD (hg 192 (by kernel_rfl)) hJ.lit 26 rfl (xD 33 (by kernel_rfl))
            refine' op_val ?h111 ?w111 ?r111 ?K111
            case h111=>rfl
            case w111=>exact(wants_yes false rfl (by kernel_rfl) hgd)
            case r111=>exact(ex_move rfl (eval_tmp ((ha 11 (by kernel_rfl)).trans rfl)))
            case K111=>exact⟨_,hp 194 _ (by kernel_rfl),JK.M hok hst hJ 28 rfl⟩
           ·rintro l gv W hun xD hcl hJ hg ha hp
            have hgd:=gD (hg 192 (by kernel_rfl)) hJ.lit 26 rfl (xD 33 (by kernel_rfl))
            refine' op_val ?h112 ?w112 ?r112 ?K112
            case h112=>rfl
            case w112=>exact(wants_yes false rfl (by kernel_rfl) hgd)
            case r112=>exact(ex_indexAddr rfl (lE (hg 193 (by kernel_rfl)) hJ.lit 27 rfl (xD 34 (by kernel_rfl))) (lE (hg 194 (by kernel_rfl)) hJ.lit 28 rfl (xD 35 (by kernel_rfl))) (i22 hi11))
            case K112=>exact⟨_,hp 195 _ (by kernel_rfl),JK.M hok hst hJ 29 rfl⟩
           ·rintro l gv W hun xD hcl hJ hg ha hp
            have hgd:=gD (hg 192 (by kernel_rfl)) hJ.lit 26 rfl (xD 33 (by kernel_rfl))
            refine' op_val ?h113 ?w113 ?r113 ?K113
            case h113=>rfl
            case w113=>exact(wants_yes false rfl (by kernel_rfl) hgd)
            case r113=>exact(ex_load rfl (lE (hg 195 (by kernel_rfl)) hJ.lit 29 rfl (xD 36 (by kernel_rfl))) (loadT46b (c_B hJ.low x0) (c_B hJ.low x1) (c_B hJ.low x2)))
            case K113=>exact⟨_,hp 196 _ (by kernel_rfl),JK.M hok hst hJ 30 rfl⟩
           ·rintro l gv W hun xD hcl hJ hg ha hp
            have hgd:=gD (hg 192 (by kernel_rfl)) hJ.lit 26 rfl (xD 33 (by kernel_rfl))
            refine' op_val ?h114 ?w114 ?r114 ?K114
            case h114=>rfl
            case w114=>exact(wants_yes false rfl (by kernel_rfl) hgd)
            case r114=>exact(ex_move rfl (eval_tmp ((ha 10 (by kernel_rfl)).trans rfl)))
            case K114=>exact⟨_,hp 197 _ (by kernel_rfl),JK.M hok hst hJ 31 rfl⟩
           ·rintro l gv W hun xD hcl hJ hg ha hp
            have hgd:=gD (hg 192 (by kernel_rfl)) hJ.lit 26 rfl (xD 33 (by kernel_rfl))
            refine' op_val ?h115 ?w115 ?r115 ?K115
            case h115=>rfl
            case w115=>exact(wants_yes false rfl (by kernel_rfl) hgd)
            case r115=>exact(ex_move rfl (eval_tmp ((ha 12 (by kernel_rfl)).trans rfl)))
            case K115=>exact⟨_,hp 198 _ (by kernel_rfl),JK.M hok hst hJ 32 rfl⟩
           ·rintro l gv W hun xD hcl hJ hg ha hp
            have hgd:=gD (hg 192 (by kernel_rfl)) hJ.lit 26 rfl (xD 33 (by kernel_rfl))
            refine' op_val ?h116 ?w116 ?r116 ?K116
            case h116=>rfl
            case w116=>exact(wants_yes false rfl (by kernel_rfl) hgd)
            case r116=>exact(ex_indexAddr rfl (lE (hg 197 (by kernel_rfl)) hJ.lit 31 rfl (xD 38 (by kernel_rfl))) (lE (hg 198 (by kernel_rfl)) hJ.lit 32 rfl (xD 39 (by kernel_rfl))) (i22 hq))
            case K116=>exact⟨_,hp 199 _ (by kernel_rfl),JK.M hok hst hJ 33 rfl⟩
           ·rintro l gv W hun xD hcl hJ hg ha hp
            have hgd:=gD (hg 192 (by kernel_rfl)) hJ.lit 26 rfl (xD 33 (by kernel_rfl))
            refine' op_val ?h117 ?w117 ?r117 ?K117
            case h117=>rfl
            case w117=>exact(wants_yes false rfl (by kernel_rfl) hgd)
            case r117=>exact(ex_load rfl (lE (hg 199 (by kernel_rfl)) hJ.lit 33 rfl (xD 40 (by kernel_rfl))) (loadT46b (c_B hJ.low y0) (c_B hJ.low y1) (c_B hJ.low y2)))
            case K117=>exact⟨_,hp 200 _ (by kernel_rfl),JK.M hok hst hJ 34 rfl⟩
           ·rintro l gv W hun xD hcl hJ hg ha hp
            have hgd:=gD (hg 192 (by kernel_rfl)) hJ.lit 26 rfl (xD 33 (by kernel_rfl))
            refine' op_val ?h118 ?w118 ?r118 ?K118
            case h118=>rfl
            case w118=>exact(wants_yes false rfl (by kernel_rfl) hgd)
            case r118=>exact(ex_buildSlice2 rfl (lE (hg 196 (by kernel_rfl)) hJ.lit 30 rfl (xD 37 (by kernel_rfl))) (lE (hg 200 (by kernel_rfl)) hJ.lit 34 rfl (xD 41 (by kernel_rfl))) (build_t2 W _ _ _ _ _ _))
            case K118=>exact⟨_,hp 201 _ (by kernel_rfl),JK.madeP hok hst hJ (gM 7 rfl) (two_terms (TSl.below hJ.low ht1h.out) (TSl.below hJ.low ht2h.out) 46) (bel_laid W _)⟩
           ·rintro l gv W hun xD hcl hJ hg ha hp
            have hgd:=gD (hg 192 (by kernel_rfl)) hJ.lit 26 rfl (xD 33 (by kernel_rfl))
            refine' op_call ?h119 ?w119 ?r119 ?hc119
            case h119=>rfl
            case w119=>exact(wants_yes false rfl (by kernel_rfl) hgd)
            case r119=>exact(ex_call2 (enters_of Tryz.func39 (by kernel_rfl) rfl) rfl rfl (eval_tmp (hg 201 (by kernel_rfl))))
            case hc119 =>
             refine(atom_form ⟨#[80]⟩ (.cons v1 n1 t1 (.cons v2 n2 t2 .nil)) _ W (hJ.pr _ (gM 7 rfl) (xD 42 (by kernel_rfl)))).mono ?_
             rintro e W' ⟨⟨v',rfl,hv'⟩,hb⟩
             exact⟨_,rfl,_,hp 202 _ (by kernel_rfl),JK.madeP hok hst hJ (gM 8 rfl) hv' hb⟩
           ·rintro l gv W hun xD hcl hJ hg ha hp
            have hgd:=gD (hg 192 (by kernel_rfl)) hJ.lit 26 rfl (xD 33 (by kernel_rfl))
            refine' op_val ?h120 ?w120 ?r120 ?K120
            case h120=>rfl
            case w120=>exact(wants_yes false rfl (by kernel_rfl) hgd)
            case r120=>exact(ex_move rfl (eval_tmp ((ha 10 (by kernel_rfl)).trans rfl)))
            case K120=>exact⟨_,hp 203 _ (by kernel_rfl),JK.M hok hst hJ 35 rfl⟩
           ·rintro l gv W hun xD hcl hJ hg ha hp
            have hgd:=gD (hg 192 (by kernel_rfl)) hJ.lit 26 rfl (xD 33 (by kernel_rfl))
            refine' op_val ?h121 ?w121 ?r121 ?K121
            case h121=>rfl
            case w121=>exact(wants_yes false rfl (by kernel_rfl) hgd)
            case r121=>exact(ex_move rfl (eval_tmp ((ha 12 (by kernel_rfl)).trans rfl)))
            case K121=>exact⟨_,hp 204 _ (by kernel_rfl),JK.M hok hst hJ 36 rfl⟩
           ·rintro l gv W hun xD hcl hJ hg ha hp
            have hgd:=gD (hg 192 (by kernel_rfl)) hJ.lit 26 rfl (xD 33 (by kernel_rfl))
            refine' op_val ?h122 ?w122 ?r122 ?K122
            case h122=>rfl
            case w122=>exact(wants_yes false rfl (by kernel_rfl) hgd)
            case r122=>exact(ex_indexAddr rfl (lE (hg 203 (by kernel_rfl)) hJ.lit 35 rfl (xD 44 (by kernel_rfl))) (lE (hg 204 (by kernel_rfl)) hJ.lit 36 rfl (xD 45 (by kernel_rfl))) (i22 hq))
            case K122=>exact⟨_,hp 205 _ (by kernel_rfl),JK.M hok hst hJ 37 rfl⟩
           ·rintro l gv W hun xD hcl hJ hg ha hp
            have hgd:=gD (hg 192 (by kernel_rfl)) hJ.lit 26 rfl (xD 33 (by kernel_rfl))
            refine' op_val ?h123 ?w123 ?r123 ?K123
            case h123=>rfl
            case w123=>exact(wants_yes false rfl (by kernel_rfl) hgd)
            case r123=>exact(ex_load rfl (lE (hg 205 (by kernel_rfl)) hJ.lit 37 rfl (xD 46 (by kernel_rfl))) (loadT46b (c_B hJ.low y0) (c_B hJ.low y1) (c_B hJ.low y2)))
            case K123=>exact⟨_,hp 206 _ (by kernel_rfl),JK.M hok hst hJ 38 rfl⟩
           ·rintro l gv W hun xD hcl hJ hg ha hp
            have hgd:=gD (hg 192 (by kernel_rfl)) hJ.lit 26 rfl (xD 33 (by kernel_rfl))
            refine' op_val ?h124 ?w124 ?r124 ?K124
            case h124=>rfl
            case w124=>exact(wants_yes false rfl (by kernel_rfl) hgd)
            case r124=>exact(ex_move rfl (eval_tmp ((ha 10 (by kernel_rfl)).trans rfl)))
            case K124=>exact⟨_,hp 207 _ (by kernel_rfl),JK.M hok hst hJ 39 rfl⟩
           ·rintro l gv W hun xD hcl hJ hg ha hp
            have hgd:=gD (hg 192 (by kernel_rfl)) hJ.lit 26 rfl (xD 33 (by kernel_rfl))
            refine' op_val ?h125 ?w125 ?r125 ?K125
            case h125=>rfl
            case w125=>exact(wants_yes false rfl (by kernel_rfl) hgd)
            case r125=>exact(ex_move rfl (eval_tmp ((ha 11 (by kernel_rfl)).trans rfl)))
            case K125=>exact⟨_,hp 208 _ (by kernel_rfl),JK.M hok hst hJ 40 rfl⟩
           ·rintro l gv W hun xD hcl hJ hg ha hp
            have hgd:=gD (hg 192 (by kernel_rfl)) hJ.lit 26 rfl (xD 33 (by kernel_rfl))
            refine' op_val ?h126 ?w126 ?r126 ?K126
            case h126=>rfl
            case w126=>exact(wants_yes false rfl (by kernel_rfl) hgd)
            case r126=>exact(ex_indexAddr rfl (lE (hg 207 (by kernel_rfl)) hJ.lit 39 rfl (xD 48 (by kernel_rfl))) (lE (hg 208 (by kernel_rfl)) hJ.lit 40 rfl (xD 49 (by kernel_rfl))) (i22 hi11))
            case K126=>exact⟨_,hp 209 _ (by kernel_rfl),JK.M hok hst hJ 41 rfl⟩
           ·rintro l gv W hun xD hcl hJ hg ha hp
            have hgd:=gD (hg 192 (by kernel_rfl)) hJ.lit 26 rfl (xD 33 (by kernel_rfl))
            refine' op_val ?h127 ?w127 ?r127 ?K127
            case h127=>rfl
            case w127=>exact(wants_yes false rfl (by kernel_rfl) hgd)
            case r127=>exact(ex_load rfl (lE (hg 209 (by kernel_rfl)) hJ.lit 41 rfl (xD 50 (by kernel_rfl))) (loadT46b (c_B hJ.low x0) (c_B hJ.low x1) (c_B hJ.low x2)))
            case K127=>exact⟨_,hp 210 _ (by kernel_rfl),JK.M hok hst hJ 42 rfl⟩
           ·rintro l gv W hun xD hcl hJ hg ha hp
            have hgd:=gD (hg 192 (by kernel_rfl)) hJ.lit 26 rfl (xD 33 (by kernel_rfl))
            refine' op_val ?h128 ?w128 ?r128 ?K128
            case h128=>rfl
            case w128=>exact(wants_yes false rfl (by kernel_rfl) hgd)
            case r128=>exact(ex_buildSlice2 rfl (lE (hg 206 (by kernel_rfl)) hJ.lit 38 rfl (xD 47 (by kernel_rfl))) (lE (hg 210 (by kernel_rfl)) hJ.lit 42 rfl (xD 51 (by kernel_rfl))) (build_t2 W _ _ _ _ _ _))
            case K128=>exact⟨_,hp 211 _ (by kernel_rfl),JK.madeP hok hst hJ (gM 9 rfl) (two_terms (TSl.below hJ.low ht2h.out) (TSl.below hJ.low ht1h.out) 46) (bel_laid W _)⟩
           ·rintro l gv W hun xD hcl hJ hg ha hp
            have hgd:=gD (hg 192 (by kernel_rfl)) hJ.lit 26 rfl (xD 33 (by kernel_rfl))
            refine' op_call ?h129 ?w129 ?r129 ?hc129
            case h129=>rfl
            case w129=>exact(wants_yes false rfl (by kernel_rfl) hgd)
            case r129=>exact(ex_call2 (enters_of Tryz.func39 (by kernel_rfl) rfl) rfl rfl (eval_tmp (hg 211 (by kernel_rfl))))
            case hc129 =>
             refine(atom_form ⟨#[80]⟩ (.cons v2 n2 t2 (.cons v1 n1 t1 .nil)) _ W (hJ.pr _ (gM 9 rfl) (xD 52 (by kernel_rfl)))).mono ?_
             rintro e W' ⟨⟨v',rfl,hv'⟩,hb⟩
             exact⟨_,rfl,_,hp 212 _ (by kernel_rfl),JK.madeP hok hst hJ (gM 10 rfl) hv' hb⟩
           ·rintro l gv W hun xD hcl hJ hg ha hp
            have hgd:=gD (hg 192 (by kernel_rfl)) hJ.lit 26 rfl (xD 33 (by kernel_rfl))
            refine' op_call ?h130 ?w130 ?r130 ?hc130
            case h130=>rfl
            case w130=>exact(wants_yes false rfl (by kernel_rfl) hgd)
            case r130=>exact(ex_call2 (enters_of Tryz.func50 (by kernel_rfl) rfl) rfl (eval_tmp (hg 202 (by kernel_rfl))) (eval_tmp (hg 212 (by kernel_rfl))))
            case hc130 =>
             refine(compares_any ⟨1,⟨#[80]⟩,(.cons v1 n1 t1 (.cons v2 n2 t2 .nil)),.nil⟩ ⟨1,⟨#[80]⟩,(.cons v2 n2 t2 (.cons v1 n1 t1 .nil)),.nil⟩ _ _ W (hJ.pr _ (gM 8 rfl) (xD 43 (by kernel_rfl))) (hJ.pr _ (gM 10 rfl) (xD 53 (by kernel_rfl))) (by simp only[FT.size,Fs.size,Ts.size];omega) (by simp only[FT.size,Fs.size,Ts.size];omega)).mono ?_
             rintro e W' ⟨rfl,hb⟩
             exact⟨_,rfl,_,hp 213 _ (by kernel_rfl),JK.made hok hst hJ (gM 43 rfl) hb⟩
           ·rintro l gv W hun xD hcl hJ hg ha hp
            have hgd:=gD (hg 192 (by kernel_rfl)) hJ.lit 26 rfl (xD 33 (by kernel_rfl))
            refine' op_val ?h131 ?w131 ?r131 ?K131
            case h131=>rfl
            case w131=>exact(wants_yes false rfl (by kernel_rfl) hgd)
            case r131=>exact(ex_not rfl (lE (hg 213 (by kernel_rfl)) hJ.lit 43 rfl (xD 54 (by kernel_rfl))))
            case K131=>exact⟨_,hp 214 _ (by kernel_rfl),JK.M hok hst hJ 44 rfl⟩
           ·rintro l gv W hun xD hcl hJ hg ha hp
            refine' op_val ?h132 ?w132 ?r132 ?K132
            case h132=>rfl
            case w132=>exact rfl
            case r132=>exact(ex_pickF rfl (lE (hg 192 (by kernel_rfl)) hJ.lit 26 rfl (xD 33 (by kernel_rfl))) (lE (hg 214 (by kernel_rfl)) hJ.lit 44 rfl (xD 55 (by kernel_rfl))))
            case K132=>exact⟨_,hp 215 _ (by kernel_rfl),JK.M hok hst hJ 45 rfl⟩
          case hend132 =>
           rintro ll gv W9 hl hJ
           replace hl:=fun j h=>hl j (of_decide_eq_true h)
           have e159:=lT hJ.lit 0 rfl (hl 0 (by kernel_rfl))
           have e160:=lT hJ.lit 1 rfl (hl 1 (by kernel_rfl))
           have e161:=lT hJ.lit 2 rfl (hl 2 (by kernel_rfl))
           have e162:=lT hJ.lit 3 rfl (hl 3 (by kernel_rfl))
           have e165:=lT hJ.lit 4 rfl (hl 6 (by kernel_rfl))
           have e166:=lT hJ.lit 5 rfl (hl 7 (by kernel_rfl))
           have e167:=lT hJ.lit 6 rfl (hl 8 (by kernel_rfl))
           have e168:=lT hJ.lit 7 rfl (hl 9 (by kernel_rfl))
           have e169:=lT hJ.lit 8 rfl (hl 10 (by kernel_rfl))
           have e170:=lT hJ.lit 9 rfl (hl 11 (by kernel_rfl))
           have e171:=lT hJ.lit 10 rfl (hl 12 (by kernel_rfl))
           have e172:=lT hJ.lit 11 rfl (hl 13 (by kernel_rfl))
           have e173:=lT hJ.lit 12 rfl (hl 14 (by kernel_rfl))
           have e174:=lT hJ.lit 13 rfl (hl 15 (by kernel_rfl))
           have e175:=lT hJ.lit 14 rfl (hl 16 (by kernel_rfl))
           have e178:=lT hJ.lit 15 rfl (hl 19 (by kernel_rfl))
           have e179:=lT hJ.lit 16 rfl (hl 20 (by kernel_rfl))
           have e180:=lT hJ.lit 17 rfl (hl 21 (by kernel_rfl))
           have e181:=lT hJ.lit 18 rfl (hl 22 (by kernel_rfl))
           have e183:=lT hJ.lit 19 rfl (hl 24 (by kernel_rfl))
           have e184:=lT hJ.lit 20 rfl (hl 25 (by kernel_rfl))
           have e185:=lT hJ.lit 21 rfl (hl 26 (by kernel_rfl))
           have e186:=lT hJ.lit 22 rfl (hl 27 (by kernel_rfl))
           have e189:=lT hJ.lit 23 rfl (hl 30 (by kernel_rfl))
           have e190:=lT hJ.lit 24 rfl (hl 31 (by kernel_rfl))
           have e191:=lT hJ.lit 25 rfl (hl 32 (by kernel_rfl))
           have e192:=lT hJ.lit 26 rfl (hl 33 (by kernel_rfl))
           have e193:=lT hJ.lit 27 rfl (hl 34 (by kernel_rfl))
           have e194:=lT hJ.lit 28 rfl (hl 35 (by kernel_rfl))
           have e195:=lT hJ.lit 29 rfl (hl 36 (by kernel_rfl))
           have e196:=lT hJ.lit 30 rfl (hl 37 (by kernel_rfl))
           have e197:=lT hJ.lit 31 rfl (hl 38 (by kernel_rfl))
           have e198:=lT hJ.lit 32 rfl (hl 39 (by kernel_rfl))
           have e199:=lT hJ.lit 33 rfl (hl 40 (by kernel_rfl))
           have e200:=lT hJ.lit 34 rfl (hl 41 (by kernel_rfl))
           have e203:=lT hJ.lit 35 rfl (hl 44 (by kernel_rfl))
           have e204:=lT hJ.lit 36 rfl (hl 45 (by kernel_rfl))
           have e205:=lT hJ.lit 37 rfl (hl 46 (by kernel_rfl))
           have e206:=lT hJ.lit 38 rfl (hl 47 (by kernel_rfl))
           have e207:=lT hJ.lit 39 rfl (hl 48 (by kernel_rfl))
           have e208:=lT hJ.lit 40 rfl (hl 49 (by kernel_rfl))
           have e209:=lT hJ.lit 41 rfl (hl 50 (by kernel_rfl))
           have e210:=lT hJ.lit 42 rfl (hl 51 (by kernel_rfl))
           have e213:=lT hJ.lit 43 rfl (hl 54 (by kernel_rfl))
           have e214:=lT hJ.lit 44 rfl (hl 55 (by kernel_rfl))
           have e215:=lT hJ.lit 45 rfl (hl 56 (by kernel_rfl))
           simp only[zipV,List.map_cons,List.map_nil,puts,Act.put,List.setIfInBounds_toArray,List.set_cons_succ,List.set_cons_zero,e159,e160,e161,e162,e165,e166,e167,e168,e169,e170,e171,e172,e173,e174,e175,e178,e179,e180,e181,e183,e184,e185,e186,e189,e190,e191,e192,e193,e194,e195,e196,e197,e198,e199,e200,e203,e204,e205,e206,e207,e208,e209,e210,e213,e214,e215]
           have hlow:=h_X hJ.low
           clear e159 e160 e161 e162 e165 e166 e167 e168 e169 e170 e171 e172 e173 e174 e175 e178 e179 e180 e181 e183 e184 e185 e186 e189 e190 e191 e192 e193 e194 e195 e196 e197 e198 e199 e200 e203 e204 e205 e206 e207 e208 e209 e210 e213 e214 e215 hJ hl
           obtain⟨u163,hu163⟩:∃ u,gv 163=u:=⟨_,rfl⟩
           rw[hu163]
           clear hu163
           obtain⟨u164,hu164⟩:∃ u,gv 164=u:=⟨_,rfl⟩
           rw[hu164]
           clear hu164
           obtain⟨u176,hu176⟩:∃ u,gv 176=u:=⟨_,rfl⟩
           rw[hu176]
           clear hu176
           obtain⟨u177,hu177⟩:∃ u,gv 177=u:=⟨_,rfl⟩
           rw[hu177]
           clear hu177
           obtain⟨u182,hu182⟩:∃ u,gv 182=u:=⟨_,rfl⟩
           rw[hu182]
           clear hu182
           obtain⟨u187,hu187⟩:∃ u,gv 187=u:=⟨_,rfl⟩
           rw[hu187]
           clear hu187
           obtain⟨u188,hu188⟩:∃ u,gv 188=u:=⟨_,rfl⟩
           rw[hu188]
           clear hu188
           obtain⟨u201,hu201⟩:∃ u,gv 201=u:=⟨_,rfl⟩
           rw[hu201]
           clear hu201
           obtain⟨u202,hu202⟩:∃ u,gv 202=u:=⟨_,rfl⟩
           rw[hu202]
           clear hu202
           obtain⟨u211,hu211⟩:∃ u,gv 211=u:=⟨_,rfl⟩
           rw[hu211]
           clear hu211
           obtain⟨u212,hu212⟩:∃ u,gv 212=u:=⟨_,rfl⟩
           rw[hu212]
           clear hu212
           have hby:=h_X (bS hbwh.out hlow.out)
           clear hlow x0 x1 x2 y0 y1 y2 ht1h ht2h hbwh hrwr
           go_wp2
           go_roundw
           case rel=>exact⟨q+1,rfl,by omega,hby.out⟩
           case measure=>simp[intOf];omega
         ·have hqi:¬ (q:Int) < 11:=by omega
          go_wp2
          go_roundw
          case rel=>exact⟨i+1,rfl,by omega,hbwh.out⟩
          case measure=>simp[intOf];omega
       ·have hii:¬ (i:Int) < 11:=by omega
        have hfin:=h_X (bS hbC.out hbwh.out)
        clear hbwh
        go_wp2_with fail
        go_ret
        exact⟨rfl,hfin.out⟩
end Go.Proofs.YtngdieldgnlogaaGreatDoor
