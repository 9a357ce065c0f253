/- The law's compares, for all formulas. -/
import Derived.Test.YtngdieldgnlogaaGreatDoorQX
namespace Go.Proofs.YtngdieldgnlogaaGreatDoor
open Go Go.RowKit
set_option maxRecDepth 100000
set_option linter.unusedVariables false
theorem FS.rng {f:FT} {sa ss:Value} {w V:World} {g:Nat} (h:FS f sa ss w g V):V.rangeAt g 0 [.int .u8 f.op,.string f.n,sa,ss]:=by
 intro j u hj
 match j,hj with
 | 0,hj=>simp at hj;subst hj;exact h.1
 | 1,hj=>simp at hj;subst hj;exact h.2.1
 | 2,hj=>simp at hj;subst hj;exact h.2.2.1
 | 3,hj=>simp at hj;subst hj;exact h.2.2.2.1
theorem guard_int3 (k:BinOp) (x y:Operand) (m n:Int) (w:World):(eqGuard k 3 x y (.int .i64 m) (.int .i64 n)).run Tryz.prog w=.ok () w:=by
 cases k<;>simp[eqGuard]
theorem neq_int (m n:Int) (w:World) {r:Bool} (h:(m != n)=r):(binOp .neq 3 (.int .i64 m) (.int .i64 n)).run Tryz.prog w=.ok (.bool r) w:=by
 subst h
 simp[go_sem,bne]
theorem bne_self (t:Bool):(t != t)=false:=by cases t<;>rfl
theorem bne_selfI (x:Int):(x != x)=false:=by simp
def KS2 (t t2:Ts) (s s2:Value) (f g:FT) (sa ss sb st:Value) (w:World) (X Y:Nat) (V:World):Prop:=KTT t t2 s s2 w V∧F2 f g sa ss sb st w X Y V
theorem KS2.next {t t2:Ts} {s s2:Value} {f g:FT} {sa ss sb st:Value} {w V V':World} {X Y:Nat} (h:KS2 t t2 s s2 f g sa ss sb st w X Y V) (hb:Below V.heap.size V V'):KS2 t t2 s s2 f g sa ss sb st w X Y V':=⟨h.1.next hb,h.2.next hb⟩
set_option maxHeartbeats 8000000 in
theorem compares_any (f g:FT) (va vb:Value) (w:World) (hva:FVal w f va) (hvb:FVal w g vb) (s1:f.size≤1000000) (s2:g.size≤1000000) :
    Calls Tryz.prog 50 #[va,vb] w fun e w'=>e=.returned (.bool true)∧Below w.heap.size w w':=by
  obtain⟨sa,ss,rfl,ha,hss⟩:=id hva
  obtain⟨pa,ca,ba,oa,rfl,hpa,hta⟩:=TSl.opened ha
  obtain⟨qa,da,rfl,-⟩:=id hss
  obtain⟨sb,st,rfl,hb,hst⟩:=id hvb
  obtain⟨pb,cb,bb,ob,rfl,hpb,htb⟩:=TSl.opened hb
  obtain⟨qb,db,rfl,-⟩:=id hst
  have hbl1:=bel_laid w (.cells #[.int .u8 f.op,.string f.n,.slice pa f.ts.len ca,.slice qa f.sub.len da] 25)
  have hS1:=(FS.start (t:=25) hva).next (bel_laid _ (.cells #[.int .u8 g.op,.string g.n,.slice pb g.ts.len cb,.slice qb g.sub.len db] 25))
  have hS2':=FS.start (t:=25) (FVal.below hbl1 hvb)
  have hS2:FS g (.slice pb g.ts.len cb) (.slice qb g.sub.len db) w (w.heap.size+1) ((w.alloc (.cells #[.int .u8 f.op,.string f.n,.slice pa f.ts.len ca,.slice qa f.sub.len da] 25)).alloc (.cells #[.int .u8 g.op,.string g.n,.slice pb g.ts.len cb,.slice qb g.sub.len db] 25)):=by
    rw[World.size_alloc] at hS2'
    exact⟨hS2'.1,hS2'.2.1,hS2'.2.2.1,hS2'.2.2.2.1,bS hbl1 hS2'.2.2.2.2.1,hS2'.2.2.2.2.2⟩
  clear hS2' hbl1 ha hss hb hst hva hvb
  have h2:F2 f g _ _ _ _ w w.heap.size (w.heap.size+1) _:=⟨hS1,hS2⟩
  have h2h:=h_X h2
  have htah:=h_X hta
  have htbh:=h_X htb
  clear hS1 hS2 h2 hta htb
  obtain⟨x,hx⟩:∃ x,cmpForm f g=x:=⟨_,rfl⟩
  obtain⟨t,ht⟩:∃ t,(x == 0)=t:=⟨_,rfl⟩
  have CAB:=h_X (fun V (hV:F2 f g (.slice pa f.ts.len ca) (.slice qa f.sub.len da) (.slice pb g.ts.len cb) (.slice qb g.sub.len db) w w.heap.size (w.heap.size+1) V)=>show Calls Tryz.prog 93 #[.agg #[.int .u8 f.op,.string f.n,.slice pa f.ts.len ca,.slice qa f.sub.len da],.agg #[.int .u8 g.op,.string g.n,.slice pb g.ts.len cb,.slice qb g.sub.len db]] V (fun e w'=>e=.returned (.int .i64 x)∧Below V.heap.size V w') from by
    have:=cmpForm_any f _ g _ V hV.1.val hV.2.val s1 s2
    rwa [hx] at this)
  have CR:=h_X (fun V (hV:F2 f g (.slice pa f.ts.len ca) (.slice qa f.sub.len da) (.slice pb g.ts.len cb) (.slice qb g.sub.len db) w w.heap.size (w.heap.size+1) V)=>show Calls Tryz.prog 94 #[.agg #[.int .u8 f.op,.string f.n,.slice pa f.ts.len ca,.slice qa f.sub.len da],.agg #[.int .u8 g.op,.string g.n,.slice pb g.ts.len cb,.slice qb g.sub.len db]] V (fun e w'=>e=.returned (.int .i64 x)∧Below V.heap.size V w') from by
    have:=refForm_any f _ g _ V hV.1.val hV.2.val s1 s2
    rwa [hx] at this)
  have SM:=h_X (fun V (hV:F2 f g (.slice pa f.ts.len ca) (.slice qa f.sub.len da) (.slice pb g.ts.len cb) (.slice qb g.sub.len db) w w.heap.size (w.heap.size+1) V)=>show Calls Tryz.prog 62 #[.agg #[.int .u8 f.op,.string f.n,.slice pa f.ts.len ca,.slice qa f.sub.len da],.agg #[.int .u8 g.op,.string g.n,.slice pb g.ts.len cb,.slice qb g.sub.len db]] V (fun e w'=>e=.returned (.bool t)∧Below V.heap.size V w') from by
    have:=same_any f _ g _ V hV.1.val hV.2.val s1 s2
    rwa [hx,ht] at this)
  have SR:=h_X (fun V (hV:F2 f g (.slice pa f.ts.len ca) (.slice qa f.sub.len da) (.slice pb g.ts.len cb) (.slice qb g.sub.len db) w w.heap.size (w.heap.size+1) V)=>show Calls Tryz.prog 77 #[.agg #[.int .u8 f.op,.string f.n,.slice pa f.ts.len ca,.slice qa f.sub.len da],.agg #[.int .u8 g.op,.string g.n,.slice pb g.ts.len cb,.slice qb g.sub.len db]] V (fun e w'=>e=.returned (.bool t)∧Below V.heap.size V w') from by
    have:=refSame_any f _ g _ V hV.1.val hV.2.val s1 s2
    rwa [hx,ht] at this)
  have z1:f.ts.size≤1000000:=by simp only[FT.size] at s1;omega
  have z2:g.ts.size≤1000000:=by simp only[FT.size] at s2;omega
  clear hx ht s1 s2
  go_enter Tryz.func50,Tryz.ntmps50
  go_wp2_with fail
  refine wp_region_puts (by kernel_rfl) 59 [(6,.agg #[.int .u8 f.op,.string f.n,.slice pa f.ts.len ca,.slice qa f.sub.len da]),(7,.agg #[.int .u8 g.op,.string g.n,.slice pb g.ts.len cb,.slice qb g.sub.len db]),(8,.int .i64 x),(9,.agg #[.int .u8 f.op,.string f.n,.slice pa f.ts.len ca,.slice qa f.sub.len da]),(10,.agg #[.int .u8 g.op,.string g.n,.slice pb g.ts.len cb,.slice qb g.sub.len db]),(11,.int .i64 x),(12,.bool false),(13,.bool false),(14,.agg #[.int .u8 f.op,.string f.n,.slice pa f.ts.len ca,.slice qa f.sub.len da]),(15,.agg #[.int .u8 g.op,.string g.n,.slice pb g.ts.len cb,.slice qb g.sub.len db]),(16,.bool t),(17,.agg #[.int .u8 f.op,.string f.n,.slice pa f.ts.len ca,.slice qa f.sub.len da]),(18,.agg #[.int .u8 g.op,.string g.n,.slice pb g.ts.len cb,.slice qb g.sub.len db]),(19,.bool t),(20,.bool false),(21,.bool false)] (fun W=>F2 f g (.slice pa f.ts.len ca) (.slice qa f.sub.len da) (.slice pb g.ts.len cb) (.slice qb g.sub.len db) w w.heap.size (w.heap.size+1) W) (fun W W'=>Below W.heap.size W W') (by kernel_rfl) (by kernel_rfl) rfl (h2h.out.next (bel_drew _)) ?hst ?hend
  case hst =>
    refine⟨?_,?_,?_,?_,?_,?_,?_,?_,?_,?_,?_,?_,?_,?_,?_,?_,trivial⟩
    · intro L a W hLs hL hn hd hI hb hl
      obtain⟨u2,h2,e2⟩:=hl 2 (cM (by kernel_rfl))
      replace e2:u2=.pointer (some ⟨w.heap.size,0,none⟩):=e2
      subst e2
      exact op_val rfl rfl (ex_load rfl (eval_tmp h2) (load27 hI.1.rng)) ⟨_,rfl,fun d hd=>by cases hd;rfl,hI,Below.refl _ _⟩
    · intro L a W hLs hL hn hd hI hb hl
      obtain⟨u3,h3,e3⟩:=hl 3 (cM (by kernel_rfl))
      replace e3:u3=.pointer (some ⟨w.heap.size+1,0,none⟩):=e3
      subst e3
      exact op_val rfl rfl (ex_load rfl (eval_tmp h3) (load27 hI.2.rng)) ⟨_,rfl,fun d hd=>by cases hd;rfl,hI,Below.refl _ _⟩
    · intro L a W hLs hL hn hd hI hb hl
      obtain⟨u6,h6,e6⟩:=hl 6 (cM (by kernel_rfl))
      replace e6:u6=.agg #[.int .u8 f.op,.string f.n,.slice pa f.ts.len ca,.slice qa f.sub.len da]:=e6
      subst e6
      obtain⟨u7,h7,e7⟩:=hl 7 (cM (by kernel_rfl))
      replace e7:u7=.agg #[.int .u8 g.op,.string g.n,.slice pb g.ts.len cb,.slice qb g.sub.len db]:=e7
      subst e7
      refine op_call rfl rfl (ex_call2 (enters_of Tryz.func93 (by kernel_rfl) rfl) rfl (eval_tmp h6) (eval_tmp h7)) ((CAB.out W hI).mono ?_)
      rintro e W' ⟨rfl,hb'⟩
      exact⟨_,rfl,_,rfl,fun d hd=>by cases hd;rfl,hI.next hb',hb'⟩
    · intro L a W hLs hL hn hd hI hb hl
      obtain⟨u2,h2,e2⟩:=hl 2 (cM (by kernel_rfl))
      replace e2:u2=.pointer (some ⟨w.heap.size,0,none⟩):=e2
      subst e2
      exact op_val rfl rfl (ex_load rfl (eval_tmp h2) (load27 hI.1.rng)) ⟨_,rfl,fun d hd=>by cases hd;rfl,hI,Below.refl _ _⟩
    · intro L a W hLs hL hn hd hI hb hl
      obtain⟨u3,h3,e3⟩:=hl 3 (cM (by kernel_rfl))
      replace e3:u3=.pointer (some ⟨w.heap.size+1,0,none⟩):=e3
      subst e3
      exact op_val rfl rfl (ex_load rfl (eval_tmp h3) (load27 hI.2.rng)) ⟨_,rfl,fun d hd=>by cases hd;rfl,hI,Below.refl _ _⟩
    · intro L a W hLs hL hn hd hI hb hl
      obtain⟨u9,h9,e9⟩:=hl 9 (cM (by kernel_rfl))
      replace e9:u9=.agg #[.int .u8 f.op,.string f.n,.slice pa f.ts.len ca,.slice qa f.sub.len da]:=e9
      subst e9
      obtain⟨u10,h10,e10⟩:=hl 10 (cM (by kernel_rfl))
      replace e10:u10=.agg #[.int .u8 g.op,.string g.n,.slice pb g.ts.len cb,.slice qb g.sub.len db]:=e10
      subst e10
      refine op_call rfl rfl (ex_call2 (enters_of Tryz.func94 (by kernel_rfl) rfl) rfl (eval_tmp h9) (eval_tmp h10)) ((CR.out W hI).mono ?_)
      rintro e W' ⟨rfl,hb'⟩
      exact⟨_,rfl,_,rfl,fun d hd=>by cases hd;rfl,hI.next hb',hb'⟩
    · intro L a W hLs hL hn hd hI hb hl
      obtain⟨u8,h8,e8⟩:=hl 8 (cM (by kernel_rfl))
      replace e8:u8=.int .i64 x:=e8
      subst e8
      obtain⟨u11,h11,e11⟩:=hl 11 (cM (by kernel_rfl))
      replace e11:u11=.int .i64 x:=e11
      subst e11
      exact op_val rfl rfl (ex_bin rfl (eval_tmp h8) (eval_tmp h11) (guard_int3 _ _ _ _ _ _) (neq_int _ _ W (bne_selfI x))) ⟨_,rfl,fun d hd=>by cases hd;rfl,hI,Below.refl _ _⟩
    · intro L a W hLs hL hn hd hI hb hl
      obtain⟨u12,h12,e12⟩:=hl 12 (cM (by kernel_rfl))
      replace e12:u12=.bool false:=e12
      subst e12
      exact op_val rfl rfl (ex_move rfl (eval_tmp h12)) ⟨_,rfl,fun d hd=>by cases hd;rfl,hI,Below.refl _ _⟩
    · intro L a W hLs hL hn hd hI hb hl
      obtain⟨ug,hg,eg⟩:=hl 13 (cM (by kernel_rfl))
      replace eg:ug=.bool false:=eg
      subst eg
      obtain⟨u2,h2,e2⟩:=hl 2 (cM (by kernel_rfl))
      replace e2:u2=.pointer (some ⟨w.heap.size,0,none⟩):=e2
      subst e2
      exact op_val rfl (wants_yes false rfl (by kernel_rfl) hg) (ex_load rfl (eval_tmp h2) (load27 hI.1.rng)) ⟨_,rfl,fun d hd=>by cases hd;rfl,hI,Below.refl _ _⟩
    · intro L a W hLs hL hn hd hI hb hl
      obtain⟨ug,hg,eg⟩:=hl 13 (cM (by kernel_rfl))
      replace eg:ug=.bool false:=eg
      subst eg
      obtain⟨u3,h3,e3⟩:=hl 3 (cM (by kernel_rfl))
      replace e3:u3=.pointer (some ⟨w.heap.size+1,0,none⟩):=e3
      subst e3
      exact op_val rfl (wants_yes false rfl (by kernel_rfl) hg) (ex_load rfl (eval_tmp h3) (load27 hI.2.rng)) ⟨_,rfl,fun d hd=>by cases hd;rfl,hI,Below.refl _ _⟩
    · intro L a W hLs hL hn hd hI hb hl
      obtain⟨ug,hg,eg⟩:=hl 13 (cM (by kernel_rfl))
      replace eg:ug=.bool false:=eg
      subst eg
      obtain⟨u14,h14,e14⟩:=hl 14 (cM (by kernel_rfl))
      replace e14:u14=.agg #[.int .u8 f.op,.string f.n,.slice pa f.ts.len ca,.slice qa f.sub.len da]:=e14
      subst e14
      obtain⟨u15,h15,e15⟩:=hl 15 (cM (by kernel_rfl))
      replace e15:u15=.agg #[.int .u8 g.op,.string g.n,.slice pb g.ts.len cb,.slice qb g.sub.len db]:=e15
      subst e15
      refine op_call rfl (wants_yes false rfl (by kernel_rfl) hg) (ex_call2 (enters_of Tryz.func62 (by kernel_rfl) rfl) rfl (eval_tmp h14) (eval_tmp h15)) ((SM.out W hI).mono ?_)
      rintro e W' ⟨rfl,hb'⟩
      exact⟨_,rfl,_,rfl,fun d hd=>by cases hd;rfl,hI.next hb',hb'⟩
    · intro L a W hLs hL hn hd hI hb hl
      obtain⟨ug,hg,eg⟩:=hl 13 (cM (by kernel_rfl))
      replace eg:ug=.bool false:=eg
      subst eg
      obtain⟨u2,h2,e2⟩:=hl 2 (cM (by kernel_rfl))
      replace e2:u2=.pointer (some ⟨w.heap.size,0,none⟩):=e2
      subst e2
      exact op_val rfl (wants_yes false rfl (by kernel_rfl) hg) (ex_load rfl (eval_tmp h2) (load27 hI.1.rng)) ⟨_,rfl,fun d hd=>by cases hd;rfl,hI,Below.refl _ _⟩
    · intro L a W hLs hL hn hd hI hb hl
      obtain⟨ug,hg,eg⟩:=hl 13 (cM (by kernel_rfl))
      replace eg:ug=.bool false:=eg
      subst eg
      obtain⟨u3,h3,e3⟩:=hl 3 (cM (by kernel_rfl))
      replace e3:u3=.pointer (some ⟨w.heap.size+1,0,none⟩):=e3
      subst e3
      exact op_val rfl (wants_yes false rfl (by kernel_rfl) hg) (ex_load rfl (eval_tmp h3) (load27 hI.2.rng)) ⟨_,rfl,fun d hd=>by cases hd;rfl,hI,Below.refl _ _⟩
    · intro L a W hLs hL hn hd hI hb hl
      obtain⟨ug,hg,eg⟩:=hl 13 (cM (by kernel_rfl))
      replace eg:ug=.bool false:=eg
      subst eg
      obtain⟨u17,h17,e17⟩:=hl 17 (cM (by kernel_rfl))
      replace e17:u17=.agg #[.int .u8 f.op,.string f.n,.slice pa f.ts.len ca,.slice qa f.sub.len da]:=e17
      subst e17
      obtain⟨u18,h18,e18⟩:=hl 18 (cM (by kernel_rfl))
      replace e18:u18=.agg #[.int .u8 g.op,.string g.n,.slice pb g.ts.len cb,.slice qb g.sub.len db]:=e18
      subst e18
      refine op_call rfl (wants_yes false rfl (by kernel_rfl) hg) (ex_call2 (enters_of Tryz.func77 (by kernel_rfl) rfl) rfl (eval_tmp h17) (eval_tmp h18)) ((SR.out W hI).mono ?_)
      rintro e W' ⟨rfl,hb'⟩
      exact⟨_,rfl,_,rfl,fun d hd=>by cases hd;rfl,hI.next hb',hb'⟩
    · intro L a W hLs hL hn hd hI hb hl
      obtain⟨ug,hg,eg⟩:=hl 13 (cM (by kernel_rfl))
      replace eg:ug=.bool false:=eg
      subst eg
      obtain⟨u16,h16,e16⟩:=hl 16 (cM (by kernel_rfl))
      replace e16:u16=.bool t:=e16
      subst e16
      obtain⟨u19,h19,e19⟩:=hl 19 (cM (by kernel_rfl))
      replace e19:u19=.bool t:=e19
      subst e19
      exact op_val rfl (wants_yes false rfl (by kernel_rfl) hg) (ex_bin rfl (eval_tmp h16) (eval_tmp h19) (guard_bool _ _ _ _ _ _) (neq_bool _ _ W (bne_self t))) ⟨_,rfl,fun d hd=>by cases hd;rfl,hI,Below.refl _ _⟩
    · intro L a W hLs hL hn hd hI hb hl
      obtain⟨u13,h13,e13⟩:=hl 13 (cM (by kernel_rfl))
      replace e13:u13=.bool false:=e13
      subst e13
      obtain⟨u20,h20,e20⟩:=hl 20 (cM (by kernel_rfl))
      replace e20:u20=.bool false:=e20
      subst e20
      exact op_val rfl rfl (ex_pickF rfl (eval_tmp h13) (eval_tmp h20)) ⟨_,rfl,fun d hd=>by cases hd;rfl,hI,Below.refl _ _⟩
  case hend =>
  intro w7 h7
  clear CAB CR SM SR h2h
  simp only[puts,Act.put,List.setIfInBounds_toArray,List.set_cons_succ,List.set_cons_zero]
  generalize w.heap.size+1=Y at h7 ⊢
  generalize hX:w.heap.size=X at h7 ⊢
  have h7h:=h_X h7
  clear h7
  have hlen:=f.ts.len_le
  have hlen':=g.ts.len_le
  go_wp2_with fail
  go_loopw [5] (fun i wr=>∃ (k:Nat) (x y:Ts),i=.int .i64 k∧k+x.len=f.ts.len∧k+y.len=g.ts.len∧x.size≤f.ts.size∧y.size≤g.ts.size∧TsAt w x ba (oa+k*3)∧TsAt w y bb (ob+k*3)∧F2 f g (.slice pa f.ts.len ca) (.slice qa f.sub.len da) (.slice pb g.ts.len cb) (.slice qb g.sub.len db) w X Y wr) (fun i _=>f.ts.len - (intOf i).toNat)
  case atStart=>exact⟨0,f.ts,g.ts,rfl,by omega,by omega,Nat.le_refl _,Nat.le_refl _,by simpa using htah.out,by simpa using htbh.out,h7h.out⟩
  case round =>
    obtain⟨k,x,y,rfl,hkx,hky,hxs,hys,hax,hay,hF⟩:=hrel
    replace hkx:=h_X hkx
    replace hky:=h_X hky
    have hbw:Below w.heap.size w wr:=hF.1.2.2.2.2.1
    have hFh:=h_X hF
    obtain⟨⟨-,-,b2,-,-⟩,⟨-,-,d2',-,-⟩⟩:=hF
    clear h7h
    cases x with
    | nil =>
      have hk':k=f.ts.len:=by have:=hkx.out;simp only[Ts.len] at this;omega
      subst hk'
      clear hkx hky
      go_wp2_with fail
      go_ret
      exact⟨rfl,hbw⟩
    | cons v n t x' =>
      have hlt:(k:Int) < (f.ts.len:Int):=by have:=hkx.out;simp only[Ts.len] at this;omega
      cases y with
      | nil =>
        have hk':k=g.ts.len:=by have:=hky.out;simp only[Ts.len] at this;omega
        subst hk'
        clear hkx hky
        go_wp2_with fail
        go_ret
        exact⟨rfl,hbw⟩
      | cons v2 n2 t2 y' =>
        obtain⟨c0,c1,⟨s,c2,hs2⟩,hax'⟩:=hax
        obtain⟨d0,d1,⟨s',d2,hs2'⟩,hay'⟩:=hay
        have hlt2:(k:Int) < (g.ts.len:Int):=by have:=hky.out;simp only[Ts.len] at this;omega
        rcases hpa with hpa | hpa
        · omega
        subst hpa
        rcases hpb with hpb | hpb
        · omega
        subst hpb
        simp only[Ts.size] at hxs hys
        have htz:t.size≤1000000∧t2.size≤1000000:=by omega
        have hK:KS2 t t2 s s' f g _ _ _ _ w X Y wr:=⟨⟨hbw,TSl.below hbw hs2,TSl.below hbw hs2'⟩,hFh.out⟩
        obtain⟨ps,cs,rfl,-⟩:=hs2
        obtain⟨ps',cs',rfl,-⟩:=hs2'
        replace c0:=c_B hbw c0
        replace c1:=c_B hbw c1
        replace c2:=c_B hbw c2
        replace d0:=c_B hbw d0
        replace d1:=c_B hbw d1
        replace d2:=c_B hbw d2
        obtain⟨q,hq⟩:∃ q,(cmpTerm v n t v2 n2 t2 == 0)=q:=⟨_,rfl⟩
        obtain⟨S,hS⟩:∃ S:World→Prop,S=(fun V=>V.cell? ⟨X,2,none⟩=some (.slice (some ⟨ba,oa,none⟩) f.ts.len ca)∧V.cell? ⟨Y,2,none⟩=some (.slice (some ⟨bb,ob,none⟩) g.ts.len cb)∧V.cell? ⟨ba,oa+k*3,none⟩=some (.bool v)∧V.cell? ⟨ba,oa+k*3+1,none⟩=some (.string n)∧V.cell? ⟨ba,oa+k*3+2,none⟩=some (.slice ps t.len cs)∧V.cell? ⟨bb,ob+k*3,none⟩=some (.bool v2)∧V.cell? ⟨bb,ob+k*3+1,none⟩=some (.string n2)∧V.cell? ⟨bb,ob+k*3+2,none⟩=some (.slice ps' t2.len cs')∧KS2 t t2 (.slice ps t.len cs) (.slice ps' t2.len cs') f g (.slice (some ⟨ba,oa,none⟩) f.ts.len ca) (.slice qa f.sub.len da) (.slice (some ⟨bb,ob,none⟩) g.ts.len cb) (.slice qb g.sub.len db) w X Y V):=⟨_,rfl⟩
        have HA:=h_X (fun V (hV:S V)=>show Calls Tryz.prog 95 #[.agg #[.bool v,.string n,.slice ps t.len cs],.agg #[.bool v2,.string n2,.slice ps' t2.len cs']] V fun e w'=>e=.returned (.bool q)∧S w' from by
          rw[hS] at hV ⊢
          obtain⟨v0,v1,v2',v3,v4,v5,v6,v7,v10⟩:=hV
          exact(sameTerm36_any t v n _ v2 n2 t2 _ V v10.1.2.1 v10.1.2.2 htz.1 htz.2).mono (fun e w' he =>
            ⟨by rw[he.1,hq],c_B he.2 v0,c_B he.2 v1,c_B he.2 v2',c_B he.2 v3,c_B he.2 v4,c_B he.2 v5,c_B he.2 v6,c_B he.2 v7,v10.next he.2⟩))
        have HB:=h_X (fun V (hV:S V)=>show Calls Tryz.prog 96 #[.agg #[.bool v,.string n,.slice ps t.len cs],.agg #[.bool v2,.string n2,.slice ps' t2.len cs']] V fun e w'=>e=.returned (.bool q)∧S w' from by
          rw[hS] at hV ⊢
          obtain⟨v0,v1,v2',v3,v4,v5,v6,v7,v10⟩:=hV
          exact(sameTerm37_any t v n _ v2 n2 t2 _ V v10.1.2.1 v10.1.2.2 htz.1 htz.2).mono (fun e w' he =>
            ⟨by rw[he.1,hq],c_B he.2 v0,c_B he.2 v1,c_B he.2 v2',c_B he.2 v3,c_B he.2 v4,c_B he.2 v5,c_B he.2 v6,c_B he.2 v7,v10.next he.2⟩))
        subst hS
        have hKd:=hK.next (bel_drew wr)
        clear hK hFh hq
        have hqq:(q != q)=false:=bne_self q
        go_wp2_with fail
        go_region_held3 (fun V=>V.cell? ⟨X,2,none⟩=some (.slice (some ⟨ba,oa,none⟩) f.ts.len ca)∧V.cell? ⟨Y,2,none⟩=some (.slice (some ⟨bb,ob,none⟩) g.ts.len cb)∧V.cell? ⟨ba,oa+k*3,none⟩=some (.bool v)∧V.cell? ⟨ba,oa+k*3+1,none⟩=some (.string n)∧V.cell? ⟨ba,oa+k*3+2,none⟩=some (.slice ps t.len cs)∧V.cell? ⟨bb,ob+k*3,none⟩=some (.bool v2)∧V.cell? ⟨bb,ob+k*3+1,none⟩=some (.string n2)∧V.cell? ⟨bb,ob+k*3+2,none⟩=some (.slice ps' t2.len cs')∧KS2 t t2 (.slice ps t.len cs) (.slice ps' t2.len cs') f g (.slice (some ⟨ba,oa,none⟩) f.ts.len ca) (.slice qa f.sub.len da) (.slice (some ⟨bb,ob,none⟩) g.ts.len cb) (.slice qb g.sub.len db) w X Y V) (first | assumption | exact⟨b2,d2',c0,c1,c2,d0,d1,d2,hKd⟩)
          (first
            | (go_at_call 95;refine(HA.out _ (by assumption)).mono ?_;rintro e w' ⟨rfl,hSS⟩)
            | (go_at_call 96;refine(HB.out _ (by assumption)).mono ?_;rintro e w' ⟨rfl,hSS⟩))
        obtain⟨-,-,-,-,-,-,-,-,hKR⟩:=hSS
        have hF2:=h_X hKR.2
        clear hKR b2 d2' c0 c1 c2 d0 d1 d2 hKd HA HB
        go_wp2_with fail
        go_roundw
        case rel =>
          refine⟨k+1,x',y',by go_num,by have:=hkx.out;simp only[Ts.len] at this;omega,by have:=hky.out;simp only[Ts.len] at this;omega,by omega,by omega,?_,?_,hF2.out⟩
          · rwa [show oa+(k+1)*3=oa+k*3+3 by omega]
          · rwa [show ob+(k+1)*3=ob+k*3+3 by omega]
        case measure=>simp[intOf];omega
end Go.Proofs.YtngdieldgnlogaaGreatDoor
