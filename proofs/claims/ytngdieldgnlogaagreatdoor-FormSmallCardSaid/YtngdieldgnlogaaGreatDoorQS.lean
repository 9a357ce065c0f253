/- Copies of formulas lie apart from each other and from all that was there, and may be written. A part put at a place of a formula that lies in blocks of its own. What is overwritten: all of a tree, and nothing else. find and With, over blocks of their own. The law's own overwriting: OverTerms and Over. -/
import Derived.Test.YtngdieldgnlogaaGreatDoorSP
import Derived.Deep.Cut
namespace Go.Proofs.YtngdieldgnlogaaGreatDoor
open Go Go.RowKit
set_option maxRecDepth 100000
set_option linter.unusedVariables false
def CopyTermS (ts:Ts):Prop:=∀ (v:Bool) (n:ByteArray) (sa:Value) (w:World),TSl w ts sa→ts.size≤1000000 →
 Calls Tryz.prog 57 #[.agg #[.bool v,.string n,sa]] w fun e w'=>∃ s',e=.returned (.agg #[.bool v,.string n,s'])∧TSp w' ts s' (Rg w.heap.size w'.heap.size)∧Below w.heap.size w w'
set_option maxHeartbeats 4000000 in
theorem copiesT_sp (ts:Ts) (ih:∀ t:Ts,t.size < ts.size→CopyTermS t) (sa:Value) (w:World) (hv:TSl w ts sa) (hs:ts.size≤1000000) :
  Calls Tryz.prog 56 #[sa,.func (.func 57) #[] #[]] w fun e w'=>∃ s',e=.returned s'∧TSp w' ts s' (Rg w.heap.size w'.heap.size)∧Below w.heap.size w w':=by
 obtain⟨p,c,b,o,rfl,hp,ht⟩:=TSl.opened hv
 have hlen:=ts.len_le
 by_cases hz:ts.len=0
 ·have hz':((ts.len:Int) == 0)=true:=by rw[beq_iff_eq];omega
  go_enter Tryz.func56,Tryz.ntmps56
  go_wp2
  go_ret
  exact⟨.slice none 0 0,rfl,⟨none,0,by rw[hz],.inl hz⟩,Below.refl _ _⟩
 have hz':((ts.len:Int) == 0)=false:=beq_eq_false_iff_ne.2 (by omega)
 have hmk:=make_terms ts.len (by omega)
 have hp':p=some ⟨b,o,none⟩:=hp.resolve_left hz
 subst hp'
 clear hp
 go_enter Tryz.func56,Tryz.ntmps56
 go_wp2
 have hfr:=Free.made w #[.bool false,.string ⟨#[]⟩,.slice none 0 0] (ts.len*3) 46
 have hbl:=bel_laid w (.cells (madeCells #[.bool false,.string ⟨#[]⟩,.slice none 0 0] (ts.len*3)) 46)
 have hgs:w.heap.size < (w.alloc (.cells (madeCells #[.bool false,.string ⟨#[]⟩,.slice none 0 0] (ts.len*3)) 46)).heap.size:=by simp
 generalize w.alloc (.cells (madeCells #[.bool false,.string ⟨#[]⟩,.slice none 0 0] (ts.len*3)) 46)=W1 at hfr hbl hgs ⊢
 obtain⟨g,hg⟩:∃ g,w.heap.size=g:=⟨_,rfl⟩
 rw[hg] at hfr hgs ⊢
 clear hmk
 go_loopw [16] (fun i wr=>∃ (k:Nat) (q r:Ts),i=.int .i64 k∧q.len=k∧q.app r=ts∧r.size≤ts.size∧TsAt w r b (o+k*3)∧TsSp wr q g 0 (Rg (g+1) wr.heap.size)∧Free wr g (ts.len*3)∧g < wr.heap.size∧Below w.heap.size w wr) (fun i _=>ts.len - (intOf i).toNat)
 case atStart=>exact⟨0,.nil,ts,rfl,rfl,rfl,Nat.le_refl _,by simpa using ht,trivial,hfr,hgs,hbl⟩
 case round =>
  obtain⟨k,q,r,rfl,hq,hqr,hrs,hat,hown,hfree,hgw,hbw⟩:=hrel
  have hll:=Ts.len_app q r
  rw[hqr] at hll
  replace hll:=h_X hll
  replace hqr:=h_X hqr
  cases r with
  | nil =>
   have hk':k=ts.len:=by have:=hll.out;simp only[Ts.len] at this;omega
   have hqt:q=ts:=by have:=hqr.out;rwa [Ts.app_nil] at this
   clear hll hqr hq
   subst hqt
   subst hk'
   clear hz' ih hv
   go_wp2_with fail
   go_ret
   exact⟨_,rfl,⟨_,_,rfl,.inr ⟨g,0,rfl,⟨by omega,hgw⟩,TsSp.mono (fun x hx=>⟨⟨by have:=hx.1;omega,hx.2⟩,by have:=hx.1;omega⟩) hown⟩⟩,hbw⟩
  | cons v n t2 r' =>
   obtain⟨c0,c1,⟨s,c2,hs2⟩,hat'⟩:=hat
   replace c0:=c_B hbw c0
   replace c1:=c_B hbw c1
   replace c2:=c_B hbw c2
   have hs3:=h_X (TSl.below hbw hs2)
   obtain⟨ps,cs,rfl,-⟩:=hs2
   have hlt:(k:Int) < (ts.len:Int):=by have:=hll.out;simp only[Ts.len] at this;omega
   simp only[Ts.size] at hrs
   have hsz:t2.size < ts.size:=by omega
   have ih':=h_X (ih t2 hsz)
   clear ih hz'
   go_wp2_with fail
   refine(ih'.out v n (.slice ps t2.len cs) _ (TSl.below (bel_laid _ _) hs3.out) (by omega)).mono ?_
   rintro e w5 ⟨s',rfl,hown5,hb5⟩
   have hb6:=bS (bel_laid wr _) hb5
   rw[World.size_alloc] at hown5
   replace hfree:=hfree.below hb6
   replace hown:=TsSp.below hb6 hown
   have hs56:=hb6.size
   replace hown5:TSp w5 t2 s' (Rg wr.heap.size w5.heap.size):=TSp.mono (fun x hx=>⟨by have:=hx.1;omega,hx.2⟩) hown5
   have hbw5:=bS hbw hb6
   have hgw5:g < w5.heap.size:=Nat.lt_of_lt_of_le hgw hb6.size
   clear hb5 hb6 hs3 ih'
   obtain⟨ps',cs',hse,-⟩:=id hown5
   subst hse
   obtain⟨⟨u0,d0⟩,f0⟩:=hfree (k*3) (by omega)
   obtain⟨⟨u1,d1⟩,f1⟩:=hfree (k*3+1) (by omega)
   obtain⟨⟨u2,d2⟩,f2⟩:=hfree (k*3+2) (by omega)
   have hfreeh:=h_X hfree
   have hownh:=h_X hown
   have hown5h:=h_X hown5
   clear hfree hown hown5 c0 c1 c2
   go_wp2_with fail
   subst hq
   refine⟨⟨q.len+1,q.app (.cons v n t2 .nil),r',by go_num,by rw[Ts.len_app];rfl,by rw[Ts.app_assoc];exact hqr.out,by omega,by rwa [show o+(q.len+1)*3=o+q.len*3+3 by omega],by rw[size_setCell,size_setCell,size_setCell];exact TsSp.push hgw hs56 hownh.out hown5h.out hfreeh.out (by omega),((hfreeh.out.set _ _).set _ _).set _ _,by rw[size_setCell,size_setCell,size_setCell];exact hgw5,((hbw5.setCell (p:=⟨g,_,none⟩) (by simp;omega) _).setCell (p:=⟨g,_,none⟩) (by simp;omega) _).setCell (p:=⟨g,_,none⟩) (by simp;omega) _⟩,?_⟩
   simp[intOf]
   omega
theorem copyTerm_sp (ts:Ts):CopyTermS ts:=by
 intro v n sa w hv hs
 have hc:=h_X (copiesT_sp ts (fun t _=>copyTerm_sp t))
 obtain⟨p,c,hse,-⟩:=id hv
 subst hse
 go_enter Tryz.func57,Tryz.ntmps57
 go_wp2_with fail
 have hF1:=(Free.lit w #[.bool v,.string n,.slice p ts.len c] 46).below (bel_laid (w.alloc (.cells #[.bool v,.string n,.slice p ts.len c] 46)) (.cells #[.bool false,.string ⟨#[]⟩,.slice none 0 0] 46))
 have hF2:=Free.lit (w.alloc (.cells #[.bool v,.string n,.slice p ts.len c] 46)) #[.bool false,.string ⟨#[]⟩,.slice none 0 0] 46
 have hb2:=bS (bel_laid w (.cells #[.bool v,.string n,.slice p ts.len c] 46)) (bel_laid (w.alloc (.cells #[.bool v,.string n,.slice p ts.len c] 46)) (.cells #[.bool false,.string ⟨#[]⟩,.slice none 0 0] 46))
 have k0:=c_B (bel_laid (w.alloc (.cells #[.bool v,.string n,.slice p ts.len c] 46)) (.cells #[.bool false,.string ⟨#[]⟩,.slice none 0 0] 46)) (show (w.alloc (.cells #[.bool v,.string n,.slice p ts.len c] 46)).cell? ⟨w.heap.size,0,none⟩=some (.bool v) by rw[cell_new];rfl)
 have k1:=c_B (bel_laid (w.alloc (.cells #[.bool v,.string n,.slice p ts.len c] 46)) (.cells #[.bool false,.string ⟨#[]⟩,.slice none 0 0] 46)) (show (w.alloc (.cells #[.bool v,.string n,.slice p ts.len c] 46)).cell? ⟨w.heap.size,1,none⟩=some (.string n) by rw[cell_new];rfl)
 have hgs:((w.alloc (.cells #[.bool v,.string n,.slice p ts.len c] 46)).alloc (.cells #[.bool false,.string ⟨#[]⟩,.slice none 0 0] 46)).heap.size=w.heap.size+2:=by simp
 rw[World.size_alloc] at hF2
 generalize (w.alloc (.cells #[.bool v,.string n,.slice p ts.len c] 46)).alloc (.cells #[.bool false,.string ⟨#[]⟩,.slice none 0 0] 46)=W2 at hF1 hF2 hb2 k0 k1 hgs ⊢
 refine(hc.out _ W2 (TSl.below hb2 hv) hs).mono ?_
 rintro e W3 ⟨s',rfl,hown,hb3⟩
 rw[hgs] at hown
 replace hF1:=hF1.below hb3
 replace hF2:=hF2.below hb3
 replace k0:=c_B hb3 k0
 replace k1:=c_B hb3 k1
 have hbb:=bS hb2 hb3
 have hg3:w.heap.size+2≤W3.heap.size:=by have:=hb3.size;omega
 clear hb2 hb3 hc hgs hv
 obtain⟨p',c',hse,-⟩:=id hown
 subst hse
 obtain⟨g,hg⟩:∃ g,w.heap.size=g:=⟨_,rfl⟩
 rw[hg] at hF1 hF2 k0 k1 hg3 hown ⊢
 obtain⟨⟨u2,d2⟩,f2⟩:=hF1 2 (by simp)
 obtain⟨⟨x0,y0⟩,z0⟩:=hF2 0 (by simp)
 obtain⟨⟨x1,y1⟩,z1⟩:=hF2 1 (by simp)
 obtain⟨⟨x2,y2⟩,z2⟩:=hF2 2 (by simp)
 clear hF1 hF2
 go_wp2_with fail
 obtain⟨W4,hW4⟩:∃ W4,((((W3.setCell ⟨g,2,none⟩ (.slice p' ts.len c')).setCell ⟨g+1,0,none⟩ (.bool v)).setCell ⟨g+1,1,none⟩ (.string n)).setCell ⟨g+1,2,none⟩ (.slice p' ts.len c'))=W4:=⟨_,rfl⟩
 have e0:W4.cell? ⟨g+1,0,none⟩=some (.bool v):=by
  rw[←hW4,set_off (.inr (by omega)),set_off (.inr (by omega))];exact set_on (by rw[set_off (.inl (by omega))];exact y0)
 have e1:W4.cell? ⟨g+1,1,none⟩=some (.string n):=by
  rw[←hW4,set_off (.inr (by omega))];exact set_on (by rw[set_off (.inr (by omega)),set_off (.inl (by omega))];exact y1)
 have e2:W4.cell? ⟨g+1,2,none⟩=some (.slice p' ts.len c'):=by
  rw[←hW4];exact set_on (by rw[set_off (.inr (by omega)),set_off (.inr (by omega)),set_off (.inl (by omega))];exact y2)
 have hfar:∀ b o v',Rg (g+2) W3.heap.size b→Wc W3 b o v'→Wc W4 b o v':=fun b o v' hb hc=>by
  have:=hb.1
  rw[←hW4]
  exact wc_off (.inl (by omega)) (wc_off (.inl (by omega)) (wc_off (.inl (by omega)) (wc_off (.inl (by omega)) hc)))
 have hsz4:W4.heap.size=W3.heap.size:=by rw[←hW4,size_setCell,size_setCell,size_setCell,size_setCell]
 have hb4:Below w.heap.size w W4:=by
  rw[←hW4]
  exact(((hbb.setCell (p:=⟨g,_,none⟩) (by simp;omega) _).setCell (p:=⟨g+1,_,none⟩) (by simp;omega) _).setCell (p:=⟨g+1,_,none⟩) (by simp;omega) _).setCell (p:=⟨g+1,_,none⟩) (by simp;omega) _
 rw[hW4]
 refine bodyPost_ret (v:=.agg #[.bool v,.string n,.slice p' ts.len c']) ?_ rfl ⟨_,rfl,TSp.mono (fun x hx=>⟨by have:=hx.1;omega,by have:=hx.2;omega⟩) (TSp.keep hfar hown),hb4⟩
 simp[results,Tryz.results57,go_sem,e0,e1,e2]
termination_by ts.size
def CopyFormS (f:FT):Prop:=∀ (v:Value) (w:World),FVal w f v→f.size≤1000000 →
 Calls Tryz.prog 13 #[v] w fun e w'=>∃ v',e=.returned v'∧FVSp w' f v' (Rg w.heap.size w'.heap.size)∧Below w.heap.size w w'
set_option maxHeartbeats 4000000 in
theorem copiesF_sp (ts:Fs) (ih:∀ t:FT,t.size≤ts.size→CopyFormS t) (sa:Value) (w:World) (hv:FSl w ts sa) (hs:ts.size≤1000000) :
  Calls Tryz.prog 58 #[sa,.func (.func 13) #[] #[]] w fun e w'=>∃ s',e=.returned s'∧FSp w' ts s' (Rg w.heap.size w'.heap.size)∧Below w.heap.size w w':=by
 obtain⟨p,c,b,o,rfl,hp,ht⟩:=FSl.opened hv
 have hlen:=ts.len_le
 by_cases hz:ts.len=0
 ·have hz':((ts.len:Int) == 0)=true:=by rw[beq_iff_eq];omega
  go_enter Tryz.func58,Tryz.ntmps58
  go_wp2
  go_ret
  exact⟨.slice none 0 0,rfl,⟨none,0,by rw[hz],.inl hz⟩,Below.refl _ _⟩
 have hz':((ts.len:Int) == 0)=false:=beq_eq_false_iff_ne.2 (by omega)
 have hmk:=make_forms ts.len (by omega)
 have hp':p=some ⟨b,o,none⟩:=hp.resolve_left hz
 subst hp'
 clear hp
 go_enter Tryz.func58,Tryz.ntmps58
 go_wp2
 have hfr:=Free.made w #[.int .u8 0,.string ⟨#[]⟩,.slice none 0 0,.slice none 0 0] (ts.len*4) 25
 have hbl:=bel_laid w (.cells (madeCells #[.int .u8 0,.string ⟨#[]⟩,.slice none 0 0,.slice none 0 0] (ts.len*4)) 25)
 have hgs:w.heap.size < (w.alloc (.cells (madeCells #[.int .u8 0,.string ⟨#[]⟩,.slice none 0 0,.slice none 0 0] (ts.len*4)) 25)).heap.size:=by simp
 generalize w.alloc (.cells (madeCells #[.int .u8 0,.string ⟨#[]⟩,.slice none 0 0,.slice none 0 0] (ts.len*4)) 25)=W1 at hfr hbl hgs ⊢
 obtain⟨g,hg⟩:∃ g,w.heap.size=g:=⟨_,rfl⟩
 rw[hg] at hfr hgs ⊢
 clear hmk
 go_loopw [16] (fun i wr=>∃ (k:Nat) (q r:Fs),i=.int .i64 k∧q.len=k∧q.app r=ts∧r.size≤ts.size∧FsAt w r b (o+k*4)∧FsSp wr q g 0 (Rg (g+1) wr.heap.size)∧Free wr g (ts.len*4)∧g < wr.heap.size∧Below w.heap.size w wr) (fun i _=>ts.len - (intOf i).toNat)
 case atStart=>exact⟨0,.nil,ts,rfl,rfl,rfl,Nat.le_refl _,by simpa using ht,trivial,hfr,hgs,hbl⟩
 case round =>
  obtain⟨k,q,r,rfl,hq,hqr,hrs,hat,hown,hfree,hgw,hbw⟩:=hrel
  have hll:=Fs.len_app q r
  rw[hqr] at hll
  replace hll:=h_X hll
  replace hqr:=h_X hqr
  cases r with
  | nil =>
   have hk':k=ts.len:=by have:=hll.out;simp only[Fs.len] at this;omega
   have hqt:q=ts:=by have:=hqr.out;rwa [Fs.app_nil] at this
   clear hll hqr hq
   subst hqt
   subst hk'
   clear hz' ih hv
   go_wp2_with fail
   go_ret
   exact⟨_,rfl,⟨_,_,rfl,.inr ⟨g,0,rfl,⟨by omega,hgw⟩,FsSp.mono (fun x hx=>⟨⟨by have:=hx.1;omega,hx.2⟩,by have:=hx.1;omega⟩) hown⟩⟩,hbw⟩
  | cons op n t2 sub r' =>
   obtain⟨c0,c1,⟨s,c2,hs2⟩,⟨s1,c3,hs2'⟩,hat'⟩:=hat
   replace c0:=c_B hbw c0
   replace c1:=c_B hbw c1
   replace c2:=c_B hbw c2
   replace c3:=c_B hbw c3
   have hs3:=h_X (TSl.below hbw hs2)
   have hs3':=h_X (FSl.below hbw hs2')
   obtain⟨ps,cs,rfl,-⟩:=hs2
   obtain⟨pt,ct,rfl,-⟩:=hs2'
   have hlt:(k:Int) < (ts.len:Int):=by have:=hll.out;simp only[Fs.len] at this;omega
   simp only[Fs.size] at hrs
   have hsz:(FT.mk op n t2 sub).size≤ts.size:=by simp only[FT.size];omega
   have hsz2:(FT.mk op n t2 sub).size≤1000000:=by omega
   have ih':=h_X (ih ⟨op,n,t2,sub⟩ hsz)
   clear ih hz'
   go_wp2_with fail
   refine(ih'.out _ _ ⟨_,_,rfl,TSl.below (bel_laid _ _) hs3.out,FSl.below (bel_laid _ _) hs3'.out⟩ hsz2).mono ?_
   rintro e w5 ⟨v',rfl,hown5,hb5⟩
   obtain⟨s',s2',A1,A2,rfl,hA1,hA2,hown51,hown61⟩:=id hown5
   have hb6:=bS (bel_laid wr _) hb5
   rw[World.size_alloc] at hown5
   replace hfree:=hfree.below hb6
   replace hown:=FsSp.below hb6 hown
   have hs56:=hb6.size
   replace hown5:FVSp w5 ⟨op,n,t2,sub⟩ (fval ⟨op,n,t2,sub⟩ s' s2') (Rg wr.heap.size w5.heap.size):=FVSp.mono (fun x hx=>⟨by have:=hx.1;omega,hx.2⟩) hown5
   have hbw5:=bS hbw hb6
   have hgw5:g < w5.heap.size:=Nat.lt_of_lt_of_le hgw hb6.size
   clear hb5 hb6 hs3 hs3' ih'
   obtain⟨ps',cs',hse⟩:=SlSp.slice hown51
   subst hse
   obtain⟨pt',ct',hse⟩:=SlSp.slice hown61
   subst hse
   obtain⟨⟨u0,d0⟩,f0⟩:=hfree (k*4) (by omega)
   obtain⟨⟨u1,d1⟩,f1⟩:=hfree (k*4+1) (by omega)
   obtain⟨⟨u2,d2⟩,f2⟩:=hfree (k*4+2) (by omega)
   obtain⟨⟨u3,d3⟩,f3⟩:=hfree (k*4+3) (by omega)
   have hfreeh:=h_X hfree
   have hownh:=h_X hown
   have hown5h:=h_X hown5
   clear hfree hown hown5 hown51 hown61 hA1 hA2 c0 c1 c2 c3
   go_wp2_with fail
   subst hq
   refine⟨⟨q.len+1,q.app (.cons op n t2 sub .nil),r',by go_num,by rw[Fs.len_app];rfl,by rw[Fs.app_assoc];exact hqr.out,by omega,by rwa [show o+(q.len+1)*4=o+q.len*4+4 by omega],by rw[size_setCell,size_setCell,size_setCell,size_setCell];exact FsSp.push hgw hs56 hownh.out hown5h.out hfreeh.out (by omega),(((hfreeh.out.set _ _).set _ _).set _ _).set _ _,by rw[size_setCell,size_setCell,size_setCell,size_setCell];exact hgw5,(((hbw5.setCell (p:=⟨g,_,none⟩) (by simp;omega) _).setCell (p:=⟨g,_,none⟩) (by simp;omega) _).setCell (p:=⟨g,_,none⟩) (by simp;omega) _).setCell (p:=⟨g,_,none⟩) (by simp;omega) _⟩,?_⟩
   simp[intOf]
   omega
set_option maxHeartbeats 4000000 in
theorem copy_sp (f:FT):CopyFormS f:=by
 intro v w hv hs
 have hc:=h_X (copiesT_sp f.ts (fun t _=>copyTerm_sp t))
 have hd:=h_X (copiesF_sp f.sub (fun t _=>copy_sp t))
 have hs1:f.ts.size≤1000000:=by simp only[FT.size] at hs;omega
 have hs2:f.sub.size≤1000000:=by simp only[FT.size] at hs;omega
 have hv0:=hv
 obtain⟨sa,ss,rfl,ha,hss⟩:=hv
 obtain⟨pa,ca,rfl,-⟩:=id ha
 obtain⟨p,c,rfl,-⟩:=id hss
 have hst:=(FS.start (t:=25) hv0).next (bel_laid _ (.cells #[.int .u8 0,.string ⟨#[]⟩,.slice none 0 0,.slice none 0 0] 25))
 have hF1:=(Free.lit w #[.int .u8 f.op,.string f.n,.slice pa f.ts.len ca,.slice p f.sub.len c] 25).below (bel_laid _ (.cells #[.int .u8 0,.string ⟨#[]⟩,.slice none 0 0,.slice none 0 0] 25))
 have hF2:=Free.lit (w.alloc (.cells #[.int .u8 f.op,.string f.n,.slice pa f.ts.len ca,.slice p f.sub.len c] 25)) #[.int .u8 0,.string ⟨#[]⟩,.slice none 0 0,.slice none 0 0] 25
 have hgs:((w.alloc (.cells #[.int .u8 f.op,.string f.n,.slice pa f.ts.len ca,.slice p f.sub.len c] 25)).alloc (.cells #[.int .u8 0,.string ⟨#[]⟩,.slice none 0 0,.slice none 0 0] 25)).heap.size=w.heap.size+2:=by simp
 rw[World.size_alloc] at hF2
 have hssh:=h_X hss
 clear hv0 ha hss
 go_enter Tryz.func13,Tryz.ntmps13
 go_wp2_with fail
 generalize (w.alloc (.cells #[.int .u8 f.op,.string f.n,.slice pa f.ts.len ca,.slice p f.sub.len c] 25)).alloc (.cells #[.int .u8 0,.string ⟨#[]⟩,.slice none 0 0,.slice none 0 0] 25)=W2 at hst hF1 hF2 hgs ⊢
 refine(hc.out _ W2 hst.2.2.2.2.2.1 hs1).mono ?_
 rintro e W3 ⟨s1,rfl,hown1,hb3⟩
 rw[hgs] at hown1
 replace hst:=hst.next hb3
 replace hF1:=hF1.below hb3
 replace hF2:=hF2.below hb3
 have hg3:w.heap.size+2≤W3.heap.size:=by have:=hb3.size;omega
 clear hb3 hc hgs
 obtain⟨g,hg⟩:∃ g,w.heap.size=g:=⟨_,rfl⟩
 rw[hg] at hst hF1 hF2 hg3 hown1 ⊢
 obtain⟨p1,c1,hse,-⟩:=id hown1
 subst hse
 obtain⟨⟨u2,d2⟩,f2⟩:=hF1 2 (by simp)
 obtain⟨b0,b1,b2,b3,hk⟩:=hst
 go_wp2_with fail
 have hbs:=hk.1.setCell (p:=⟨g,2,none⟩) (by simp;omega) (.slice p1 f.ts.len c1)
 obtain⟨W4,hW4⟩:∃ W4,W3.setCell ⟨g,2,none⟩ (.slice p1 f.ts.len c1)=W4:=⟨_,rfl⟩
 have hfar3:∀ b o v',b≠g→W3.cell? ⟨b,o,none⟩=some v'→W4.cell? ⟨b,o,none⟩=some v':=fun b o v' hb hcl=>by
  rw[←hW4,set_off (.inl hb)];exact hcl
 have h0:W4.cell? ⟨g,0,none⟩=some (.int .u8 f.op):=by rw[←hW4,set_off (.inr (by omega))];exact b0
 have h1:W4.cell? ⟨g,1,none⟩=some (.string f.n):=by rw[←hW4,set_off (.inr (by omega))];exact b1
 have h2:W4.cell? ⟨g,2,none⟩=some (.slice p1 f.ts.len c1):=by rw[←hW4];exact set_on d2
 have h3:W4.cell? ⟨g,3,none⟩=some (.slice p f.sub.len c):=by rw[←hW4,set_off (.inr (by omega))];exact b3
 have hF14:Free W4 g 4:=by rw[←hW4];exact hF1.set _ _
 have hF24:Free W4 (g+1) 4:=fun j hj=>by
  obtain⟨⟨u,hu⟩,hf⟩:=hF2 j hj
  exact⟨⟨u,hfar3 _ _ _ (by omega) hu⟩,by rw[←hW4,World.frozen?_setCell];exact hf⟩
 have hsz4:W4.heap.size=W3.heap.size:=by rw[←hW4,size_setCell]
 replace hown1:TSp W4 f.ts (.slice p1 f.ts.len c1) (Rg (g+2) W3.heap.size):=TSp.keep (fun b o v' hb hcl=>by rw[←hW4];exact wc_off (.inl (by have:=hb.1;omega)) hcl) hown1
 rw[hW4] at hbs ⊢
 have hss4:=h_X (FSl.below hbs hssh.out)
 clear hW4 hfar3 hF1 hF2 d2 f2 b0 b1 b2 b3 hk hssh
 go_wp2_with fail
 refine(hd.out _ W4 hss4.out hs2).mono ?_
 rintro e W5 ⟨s2,rfl,hown2,hb5⟩
 have h45:=hb5.size
 obtain⟨m,hm⟩:∃ m,W3.heap.size=m:=⟨_,rfl⟩
 rw[hm] at hown1 hg3 hsz4
 rw[hsz4] at hown2 h45
 replace hown1:=TSp.below hb5 hown1
 replace h0:=c_B hb5 h0
 replace h1:=c_B hb5 h1
 replace h2:=c_B hb5 h2
 replace hF14:=hF14.below hb5
 replace hF24:=hF24.below hb5
 have hbs5:=bS hbs hb5
 have hg5:g+2≤W5.heap.size:=by have:=hb5.size;omega
 clear hb5 hd hss4 h3 hsz4 hbs hm
 obtain⟨p2,c2,hse,-⟩:=id hown2
 subst hse
 obtain⟨⟨u3,d3⟩,f3⟩:=hF14 3 (by simp)
 obtain⟨⟨x0,y0⟩,z0⟩:=hF24 0 (by simp)
 obtain⟨⟨x1,y1⟩,z1⟩:=hF24 1 (by simp)
 obtain⟨⟨x2,y2⟩,z2⟩:=hF24 2 (by simp)
 obtain⟨⟨x3,y3⟩,z3⟩:=hF24 3 (by simp)
 clear hF14 hF24
 have hown1h:=h_X hown1
 have hown2h:=h_X hown2
 clear hown1 hown2
 go_wp2_with fail
 obtain⟨W6,hW6⟩:∃ W6,(((((W5.setCell ⟨g,3,none⟩ (.slice p2 f.sub.len c2)).setCell ⟨g+1,0,none⟩ (.int .u8 f.op)).setCell ⟨g+1,1,none⟩ (.string f.n)).setCell ⟨g+1,2,none⟩ (.slice p1 f.ts.len c1)).setCell ⟨g+1,3,none⟩ (.slice p2 f.sub.len c2))=W6:=⟨_,rfl⟩
 have e0:W6.cell? ⟨g+1,0,none⟩=some (.int .u8 f.op):=by
  rw[←hW6,set_off (.inr (by omega)),set_off (.inr (by omega)),set_off (.inr (by omega))];exact set_on (by rw[set_off (.inl (by omega))];exact y0)
 have e1:W6.cell? ⟨g+1,1,none⟩=some (.string f.n):=by
  rw[←hW6,set_off (.inr (by omega)),set_off (.inr (by omega))];exact set_on (by rw[set_off (.inr (by omega)),set_off (.inl (by omega))];exact y1)
 have e2:W6.cell? ⟨g+1,2,none⟩=some (.slice p1 f.ts.len c1):=by
  rw[←hW6,set_off (.inr (by omega))];exact set_on (by rw[set_off (.inr (by omega)),set_off (.inr (by omega)),set_off (.inl (by omega))];exact y2)
 have e3:W6.cell? ⟨g+1,3,none⟩=some (.slice p2 f.sub.len c2):=by
  rw[←hW6];exact set_on (by rw[set_off (.inr (by omega)),set_off (.inr (by omega)),set_off (.inr (by omega)),set_off (.inl (by omega))];exact y3)
 have hfar:∀ b o v',g+2≤b→Wc W5 b o v'→Wc W6 b o v':=fun b o v' hb hcl=>by
  rw[←hW6]
  exact wc_off (.inl (by omega)) (wc_off (.inl (by omega)) (wc_off (.inl (by omega)) (wc_off (.inl (by omega)) (wc_off (.inl (by omega)) hcl))))
 have hsz6:W6.heap.size=W5.heap.size:=by rw[←hW6,size_setCell,size_setCell,size_setCell,size_setCell,size_setCell]
 have hb6:Below w.heap.size w W6:=by
  rw[←hW6]
  exact((((hbs5.setCell (p:=⟨g,_,none⟩) (by simp;omega) _).setCell (p:=⟨g+1,_,none⟩) (by simp;omega) _).setCell (p:=⟨g+1,_,none⟩) (by simp;omega) _).setCell (p:=⟨g+1,_,none⟩) (by simp;omega) _).setCell (p:=⟨g+1,_,none⟩) (by simp;omega) _
 rw[hW6]
 refine bodyPost_ret (v:=fval f (.slice p1 f.ts.len c1) (.slice p2 f.sub.len c2)) ?_ rfl ⟨_,rfl,⟨_,_,Rg (g+2) m,Rg m W5.heap.size,rfl,fun x hx=>⟨by have:=hx.1;omega,by have:=hx.2;omega⟩,fun x hx=>⟨⟨by have:=hx.1;omega,by have:=hx.2;omega⟩,fun h=>by have:=hx.1;have:=h.2;omega⟩,TSp.keep (fun b o v' hb hcl=>hfar b o v' hb.1 hcl) hown1h.out,FSp.keep (fun b o v' hb hcl=>hfar b o v' (by have:=hb.1;omega) hcl) hown2h.out⟩,hb6⟩
 simp[results,Tryz.results13,go_sem,e0,e1,e2,e3]
termination_by f.size
decreasing_by rename_i h;simp only[FT.size] at *;omega
end Go.Proofs.YtngdieldgnlogaaGreatDoor
namespace Go.Proofs.YtngdieldgnlogaaGreatDoor
open Go Go.RowKit
set_option maxRecDepth 100000
set_option linter.unusedVariables false
def Fs.set:Fs→Nat→FT→Fs
 | .nil,_,_=>.nil
 | .cons _ _ _ _ r,0,h=>.cons h.op h.n h.ts h.sub r
 | .cons op n ts sub r,k+1,h=>.cons op n ts sub (r.set k h)
theorem Fs.len_set:∀ (t:Fs) (k:Nat) (h:FT),(t.set k h).len=t.len
 | .nil,_,_=>rfl
 | .cons _ _ _ _ _,0,_=>rfl
 | .cons _ _ _ _ r,k+1,h=>by simp only[Fs.set,Fs.len,Fs.len_set r k h]
def FT.put:FT→List Int→FT→Option FT
 | _,[],h=>some h
 | f,i :: l,h=>if 0≤i∧i < f.sub.len then ((f.sub.get i.toNat).put l h).map (fun g=>⟨f.op,f.n,f.ts,f.sub.set i.toNat g⟩) else none
theorem FT.put_none:∀ (l:List Int) (f h:FT),f.part l=none→f.put l h=none
 | [],f,h,e=>by simp[FT.part] at e
 | i :: l,f,h,e=>by
  rw[FT.part] at e
  rw[FT.put]
  split
  ·rename_i hi
   rw[if_pos hi] at e
   rw[FT.put_none l _ h e]
   rfl
  ·rfl
def Reach (W:World):List Int→FT→Nat→Nat→Nat→Nat→Prop
 | [],_,b,o,b',o'=>b=b'∧o=o'
 | i :: l,f,b,o,b',o'=>0≤i∧i < f.sub.len∧∃ bs os c,W.cell? ⟨b,o+3,none⟩=some (.slice (some ⟨bs,os,none⟩) f.sub.len c)∧Reach W l (f.sub.get i.toNat) bs (os+i.toNat*4) b' o'
abbrev FAtSp (W:World) (f:FT) (b o:Nat) (S:Nat→Prop):Prop:=FsSp W (.cons f.op f.n f.ts f.sub .nil) b o S
theorem FAtSp.at {W:World} {f:FT} {b o:Nat} {S:Nat→Prop} (h:FAtSp W f b o S):FAt W f b o:=by
 obtain⟨h0,h1,h2,h3,-⟩:=FsSp.at h
 exact⟨h0,h1,h2,h3⟩
theorem FsSp.part {W W':World} {N:Nat→Prop}:∀ {t:Fs} {k b o:Nat} {T:Nat→Prop},k < t.len→(∀ x,T x→¬ N x)→FsSp W t b o T →
  ∃ Tk:Nat→Prop,(∀ x,Tk x→T x)∧FAtSp W (t.get k) b (o+k*4) Tk∧∀ g,FAtSp W' g b (o+k*4) (fun x=>Tk x∨N x) →
   (∀ x i v,T x→¬ Tk x→Wc W x i v→Wc W' x i v)→(∀ i v,¬ (o+k*4≤i∧i < o+k*4+4)→Wc W b i v→Wc W' b i v)→FsSp W' (t.set k g) b o (fun x=>T x∨N x)
 | .nil,k,_,_,_,h,_,_=>by simp[Fs.len] at h
 | .cons op n ts sub r,0,b,o,T,_,hN,⟨h0,h1,S1,S2,S3,q1,q2,q3,hs,hs',hr⟩=>by
  refine⟨fun x=>S1 x∨S2 x,fun x hx=>hx.elim (q1 x) (fun h=>(q2 x h).1),⟨by simpa[Fs.get] using h0,by simpa[Fs.get] using h1,S1,S2,fun _=>False,fun x h=>.inl h,fun x h=>⟨.inr h,(q2 x h).2⟩,fun _ h=>h.elim,by simpa[Fs.get] using hs,by simpa[Fs.get] using hs',trivial⟩,?_⟩
  rintro g ⟨g0,g1,A1,A2,A3,p1,p2,p3,gs,gs',-⟩ hfar hrow
  simp only[Nat.zero_mul,Nat.add_zero] at g0 g1 gs gs' hrow
  refine⟨g0,g1,A1,A2,S3,fun x h=>?_,fun x h=>⟨?_,(p2 x h).2⟩,fun x h=>⟨.inl (q3 x h).1,fun h2=>?_,fun h2=>?_⟩,gs,gs',FsSp.keep (fun x i v hx hc=>hfar x i v (q3 x hx).1 (fun h=>h.elim (q3 x hx).2.1 (q3 x hx).2.2) hc) (fun i v hi hj hc=>hrow i v (by omega) hc) hr⟩
  ·rcases p1 x h with (h | h) | h
   ·exact .inl (q1 x h)
   ·exact .inl (q2 x h).1
   ·exact .inr h
  ·rcases(p2 x h).1 with (h | h) | h
   ·exact .inl (q1 x h)
   ·exact .inl (q2 x h).1
   ·exact .inr h
  ·rcases p1 x h2 with (h' | h') | h'
   ·exact(q3 x h).2.1 h'
   ·exact(q3 x h).2.2 h'
   ·exact hN x (q3 x h).1 h'
  ·rcases(p2 x h2).1 with (h' | h') | h'
   ·exact(q3 x h).2.1 h'
   ·exact(q3 x h).2.2 h'
   ·exact hN x (q3 x h).1 h'
 | .cons op n ts sub r,k+1,b,o,T,hk,hN,⟨h0,h1,S1,S2,S3,q1,q2,q3,⟨s,h2,hs⟩,⟨s',h3,hs'⟩,hr⟩=>by
  obtain⟨Tk,t1,t2,t3⟩:=FsSp.part (W:=W) (W':=W') (N:=N) (k:=k) (by simp only[Fs.len] at hk;omega) (fun x hx=>hN x (q3 x hx).1) hr
  rw[show o+4+k*4=o+(k+1)*4 by omega] at t2 t3
  refine⟨Tk,fun x hx=>(q3 x (t1 x hx)).1,t2,fun g hg hfar hrow=>?_⟩
  have hr':=t3 g hg (fun x i v hx hn hc=>hfar x i v (q3 x hx).1 hn hc) hrow
  have hno:∀ x,Tk x→¬ S1 x∧¬ S2 x:=fun x hx=>(q3 x (t1 x hx)).2
  refine⟨hrow _ _ (by omega) h0,hrow _ _ (by omega) h1,S1,S2,fun x=>S3 x∨N x,fun x h=>.inl (q1 x h),fun x h=>⟨.inl (q2 x h).1,(q2 x h).2⟩,fun x h=>?_,⟨s,hrow _ _ (by omega) h2,TSp.keep (fun x i v hx hc=>hfar x i v (q1 x hx) (fun h=>(hno x h).1 hx) hc) hs⟩,
   ⟨s',hrow _ _ (by omega) h3,FSp.keep (fun x i v hx hc=>hfar x i v (q2 x hx).1 (fun h=>(hno x h).2 hx) hc) hs'⟩,hr'⟩
  rcases h with h | h
  ·exact⟨.inl (q3 x h).1,(q3 x h).2⟩
  ·exact⟨.inr h,fun h1=>hN x (q1 x h1) h,fun h2=>hN x (q2 x h2).1 h⟩
theorem FsSp.one {W:World} {t:Fs} {k b o:Nat} {T:Nat→Prop} (hk:k < t.len) (h:FsSp W t b o T):∃ Tk:Nat→Prop,(∀ x,Tk x→T x)∧FAtSp W (t.get k) b (o+k*4) Tk:=by
 obtain⟨Tk,h1,h2,-⟩:=FsSp.part (W':=W) (N:=fun _=>False) hk (fun _ _ h=>h) h
 exact⟨Tk,h1,h2⟩
theorem Reach.own {W:World} {b' o':Nat}:∀ {l:List Int} {f:FT} {b o:Nat} {S:Nat→Prop},FAtSp W f b o S→Reach W l f b o b' o'→(b'=b∧o'=o)∨S b'
 | [],_,_,_,_,_,⟨h1,h2⟩=>.inl ⟨h1.symm,h2.symm⟩
 | i :: l,f,b,o,S,⟨_,_,S1,S2,S3,q1,q2,q3,_,⟨s',h3,hs'⟩,_⟩,⟨hi,hj,bs,os,c,hc,hR⟩=>by
  obtain⟨p,c',e,h0 | ⟨b2,o2,ep,hb2,hsub⟩⟩:=hs'
  ·omega
  have e1:=h3.1.symm.trans hc
  rw[e,ep] at e1
  simp at e1
  obtain⟨⟨rfl,rfl⟩,rfl⟩:=e1
  obtain⟨Tk,t1,t2⟩:=FsSp.one (k:=i.toNat) (by omega) hsub
  rcases Reach.own t2 hR with ⟨rfl,-⟩ | h
  ·exact .inr (q2 _ hb2).1
  ·exact .inr (q2 _ (t1 _ h).1).1
theorem put_sp {W W':World} {b' o':Nat} {h:FT} {N:Nat→Prop} (hfar:∀ x i v,¬ (x=b'∧o'≤i∧i < o'+4)→Wc W x i v→Wc W' x i v) (hnew:FAtSp W' h b' o' N) :
  ∀ {l:List Int} {f:FT} {b o:Nat} {S:Nat→Prop},(∀ x,S x→¬ N x)→¬ S b→FAtSp W f b o S→Reach W l f b o b' o'→∃ g,f.put l h=some g∧FAtSp W' g b o (fun x=>S x∨N x)
 | [],f,b,o,S,_,_,_,hR=>by
  obtain⟨rfl,rfl⟩:=hR
  exact⟨h,rfl,FsSp.mono (fun x hx=>.inr hx) hnew⟩
 | i :: l,f,b,o,S,hN,hb,⟨h0,h1,S1,S2,S3,q1,q2,q3,⟨s,h2,hs⟩,⟨s',h3,hs'⟩,hr⟩,⟨hi,hj,bs,os,c,hc,hR⟩=>by
  obtain⟨p,c',e,hz | ⟨b2,o2,ep,hb2,hsub⟩⟩:=hs'
  ·omega
  have e1:=h3.1.symm.trans hc
  rw[e,ep] at e1
  simp at e1
  obtain⟨⟨rfl,rfl⟩,rfl⟩:=e1
  obtain⟨Tk,t1,t2,t3⟩:=FsSp.part (W:=W) (W':=W') (N:=N) (k:=i.toNat) (by omega) (fun x hx=>hN x (q2 x hx.1).1) hsub
  have hTb:¬ Tk b2:=fun h=>(t1 _ h).2 rfl
  obtain⟨g,hg,hgs⟩:=put_sp hfar hnew (fun x hx=>hN x (q2 x (t1 x hx).1).1) hTb t2 hR
  have hwhere:=Reach.own t2 hR
  have hbb:b'≠b:=by
   rintro rfl
   rcases hwhere with ⟨rfl,-⟩ | h
   ·exact hb (q2 _ hb2).1
   ·exact hb (q2 _ (t1 _ h).1).1
  have hS2:S2 b':=by
   rcases hwhere with ⟨rfl,-⟩ | h
   ·exact hb2
   ·exact(t1 _ h).1
  have hsub':=t3 g hgs (fun x i' v hx hn hc=>hfar x i' v (fun hh=>by
    obtain⟨rfl,-⟩:=hh
    rcases hwhere with ⟨rfl,-⟩ | h
    ·exact hx.2 rfl
    ·exact hn h) hc) (fun i' v hni hc=>hfar b2 i' v (fun hh=>by
    obtain⟨rfl,hh1,hh2⟩:=hh
    rcases hwhere with ⟨-,rfl⟩ | h
    ·exact hni ⟨hh1,hh2⟩
    ·exact hTb h) hc)
  refine⟨⟨f.op,f.n,f.ts,f.sub.set i.toNat g⟩,by rw[FT.put,if_pos ⟨hi,hj⟩,hg];rfl,?_⟩
  have hkb:∀ i' v,Wc W b i' v→Wc W' b i' v:=fun i' v hc=>hfar b i' v (fun hh=>hbb hh.1.symm) hc
  refine⟨hkb _ _ h0,hkb _ _ h1,S1,fun x=>S2 x∨N x,fun _=>False,fun x h=>.inl (q1 x h),fun x h=>?_,fun _ h=>h.elim,⟨s,hkb _ _ h2,TSp.keep (fun x i' v hx hc=>hfar x i' v (fun hh=>(q2 _ hS2).2 (hh.1 ▸ hx)) hc) hs⟩,
   ⟨s',hkb _ _ h3,p,c',by rw[Fs.len_set];exact e,.inr ⟨b2,o2,ep,.inl hb2,FsSp.mono (fun x hx=>?_) hsub'⟩⟩,trivial⟩
  ·rcases h with h | h
   ·exact⟨.inl (q2 x h).1,(q2 x h).2⟩
   ·exact⟨.inr h,fun h1=>hN x (q1 x h1) h⟩
  ·rcases hx with hx | hx
   ·exact⟨.inl hx.1,hx.2⟩
   ·exact⟨.inr hx,fun e=>hN b2 (q2 _ hb2).1 (e ▸ hx)⟩
end Go.Proofs.YtngdieldgnlogaaGreatDoor
namespace Go.Proofs.YtngdieldgnlogaaGreatDoor
open Go Go.RowKit
set_option maxRecDepth 100000
set_option linter.unusedVariables false
structure But (S:Nat→Prop) (w w':World):Prop where
 os:w'.os=w.os
 tape:w'.tape=w.tape
 output:w'.output=w.output
 size:w.heap.size≤w'.heap.size
 block:∀ k,k < w.heap.size→¬ S k→w'.heap[k]? = w.heap[k]?
theorem But.refl (S:Nat→Prop) (w:World):But S w w:=⟨rfl,rfl,rfl,Nat.le_refl _,fun _ _ _=>rfl⟩
theorem But.trans {S:Nat→Prop} {a b c:World} (h:But S a b) (k:But S b c):But S a c :=
 ⟨k.os.trans h.os,k.tape.trans h.tape,k.output.trans h.output,Nat.le_trans h.size k.size,fun i hi hn=>(k.block i (Nat.lt_of_lt_of_le hi h.size) hn).trans (h.block i hi hn)⟩
theorem But.mono {S S':Nat→Prop} {a b:World} (hs:∀ x,S x→S' x) (h:But S a b):But S' a b:=⟨h.os,h.tape,h.output,h.size,fun k hk hn=>h.block k hk fun hx=>hn (hs k hx)⟩
theorem But.alloc (S:Nat→Prop) (w:World) (o:Obj):But S w (w.alloc o):=⟨rfl,rfl,rfl,by simp,fun k hk _=>Below.heap_alloc _ _ _ hk⟩
theorem But.drew (S:Nat→Prop) (w:World):But S w w.drew:=⟨rfl,rfl,rfl,Nat.le_refl _,fun _ _ _=>rfl⟩
theorem But.of_below {S:Nat→Prop} {w w':World} (h:Below w.heap.size w w'):But S w w':=⟨h.os,h.tape,h.output,h.size,fun k hk _=>h.block k hk⟩
theorem But.set {S:Nat→Prop} {w:World} {p:Addr} (hp:S p.block) (u:Value):But S w (w.setCell p u) :=
 ⟨rfl,rfl,rfl,by simp[World.setCell],fun k _ hn=>Below.heap_setCell _ _ _ _ (fun e=>hn (e ▸ hp))⟩
theorem But.below {S:Nat→Prop} {B:Nat} {w w':World} (hB:∀ x,S x→B≤x) (hs:B≤w.heap.size) (h:But S w w'):Below B w w' :=
 ⟨h.os,h.tape,h.output,h.size,fun k hk=>h.block k (by omega) fun hx=>by have:=hB k hx;omega⟩
theorem Wc.but {S:Nat→Prop} {w w':World} (h:But S w w') {b o:Nat} {v:Value} (hb:¬ S b) (hc:Wc w b o v):Wc w' b o v:=by
 have e:=h.block b hc.lt hb
 exact⟨(World.cell?_of_block (a:=⟨b,o,none⟩) e).trans hc.1,(World.frozen?_of_block (a:=⟨b,o,none⟩) e).trans hc.2⟩
theorem cell_but {S:Nat→Prop} {w w':World} (h:But S w w') {b o:Nat} {v:Value} (hb:¬ S b) (hc:w.cell? ⟨b,o,none⟩=some v):w'.cell? ⟨b,o,none⟩=some v :=
 (World.cell?_of_block (a:=⟨b,o,none⟩) (h.block b (lt_of_cell hc) hb)).trans hc
def leafT:Nat→Ts
 | 0=>.nil
 | k+1=>.cons false ⟨#[45]⟩ .nil (leafT k)
def leafF:Nat→Fs
 | 0=>.nil
 | k+1=>.cons 99 ⟨#[]⟩ .nil .nil (leafF k)
theorem leafT_len:∀ k,(leafT k).len=k
 | 0=>rfl
 | k+1=>by simp only[leafT,Ts.len,leafT_len k]
theorem leafF_len:∀ k,(leafF k).len=k
 | 0=>rfl
 | k+1=>by simp only[leafF,Fs.len,leafF_len k]
theorem leafT_size:∀ k,(leafT k).size=k
 | 0=>rfl
 | k+1=>by simp only[leafT,Ts.size,leafT_size k];omega
theorem leafF_size:∀ k,(leafF k).size=k
 | 0=>rfl
 | k+1=>by simp only[leafF,Fs.size,Ts.size,leafF_size k];omega
theorem leafT_app:∀ k,(leafT k).app (leafT 1)=leafT (k+1)
 | 0=>rfl
 | k+1=>by show Ts.cons _ _ _ ((leafT k).app (leafT 1))=_;rw[leafT_app k];rfl
theorem leafF_app:∀ k,(leafF k).app (leafF 1)=leafF (k+1)
 | 0=>rfl
 | k+1=>by show Fs.cons _ _ _ _ ((leafF k).app (leafF 1))=_;rw[leafF_app k];rfl
def FsOv (w W:World):Fs→Nat→Nat→(Nat→Prop)→Prop
 | .nil,_,_,_=>True
 | .cons op n ts sub r,b,o,S=>∃ S1 S2 S3:Nat→Prop,(∀ x,S1 x→S x)∧(∀ x,S2 x→S x∧¬ S1 x)∧(∀ x,S3 x→S x∧¬ S1 x∧¬ S2 x) ∧
  (∃ s,w.cell? ⟨b,o+2,none⟩=some s∧TSp W (leafT ts.len) s S1)∧(∃ s',w.cell? ⟨b,o+3,none⟩=some s'∧FSp W (leafF sub.len) s' S2)∧FsOv w W r b (o+4) S3
theorem FsOv.mono {w W:World}:∀ {t:Fs} {b o:Nat} {S S':Nat→Prop},(∀ x,S x→S' x)→FsOv w W t b o S→FsOv w W t b o S'
 | .nil,_,_,_,_,_,_=>trivial
 | .cons _ _ _ _ _,_,_,_,_,hs,⟨S1,S2,S3,h2,h3,h4,h5⟩=>⟨S1,S2,S3,fun x h=>hs x (h2 x h),fun x h=>⟨hs x (h3 x h).1,(h3 x h).2⟩,fun x h=>⟨hs x (h4 x h).1,(h4 x h).2⟩,h5⟩
theorem FsOv.keep {w W W':World}:∀ {t:Fs} {b o:Nat} {S:Nat→Prop},(∀ x i v,S x→Wc W x i v→Wc W' x i v)→FsOv w W t b o S→FsOv w W' t b o S
 | .nil,_,_,_,_,_=>trivial
 | .cons _ _ _ _ _,_,_,_,hS,⟨S1,S2,S3,h1,h2,h3,⟨s,c2,hs⟩,⟨s',c3,hs'⟩,hr⟩ =>
  ⟨S1,S2,S3,h1,h2,h3,⟨s,c2,TSp.keep (fun x i v hx=>hS x i v (h1 x hx)) hs⟩,⟨s',c3,FSp.keep (fun x i v hx=>hS x i v (h2 x hx).1) hs'⟩,FsOv.keep (fun x i v hx=>hS x i v (h3 x hx).1) hr⟩
theorem FsOv.snoc {w W:World} {op:Int} {n:ByteArray} {ts:Ts} {sub:Fs} {b:Nat} {S1 S2:Nat→Prop} {s s':Value}:∀ {q:Fs} {o:Nat} {S Sq:Nat→Prop},(∀ x,Sq x→S x)→(∀ x,S1 x→S x∧¬ Sq x)→(∀ x,S2 x→S x∧¬ Sq x∧¬ S1 x) →
  w.cell? ⟨b,o+q.len*4+2,none⟩=some s→TSp W (leafT ts.len) s S1→w.cell? ⟨b,o+q.len*4+3,none⟩=some s'→FSp W (leafF sub.len) s' S2→FsOv w W q b o Sq→FsOv w W (q.app (.cons op n ts sub .nil)) b o S
 | .nil,o,S,Sq,h0,h1,h2,c2,hs,c3,hs',_=>by
  simp only[Fs.len,Nat.zero_mul,Nat.add_zero] at c2 c3
  exact⟨S1,S2,fun _=>False,fun x h=>(h1 x h).1,fun x h=>⟨(h2 x h).1,(h2 x h).2.2⟩,fun _ h=>h.elim,⟨s,c2,hs⟩,⟨s',c3,hs'⟩,trivial⟩
 | .cons op' n' ts' sub' q,o,S,Sq,h0,h1,h2,c2,hs,c3,hs',⟨A1,A2,A3,q1,q2,q3,e2,e3,hq⟩=>by
  simp only[Fs.len] at c2 c3
  refine⟨A1,A2,fun x=>A3 x∨S1 x∨S2 x,fun x h=>h0 x (q1 x h),fun x h=>⟨h0 x (q2 x h).1,(q2 x h).2⟩,fun x h=>?_,e2,e3,
   FsOv.snoc (Sq:=A3) (fun x h=>.inl h) (fun x h=>⟨.inr (.inl h),fun h3=>(h1 x h).2 (q3 x h3).1⟩) (fun x h=>⟨.inr (.inr h),fun h3=>(h2 x h).2.1 (q3 x h3).1,(h2 x h).2.2⟩)
    (by rwa [show o+4+q.len*4=o+(q.len+1)*4 by omega]) hs (by rwa [show o+4+q.len*4=o+(q.len+1)*4 by omega]) hs' hq⟩
  rcases h with h | h | h
  ·exact⟨h0 x (q3 x h).1,(q3 x h).2⟩
  ·exact⟨(h1 x h).1,fun ha=>(h1 x h).2 (q1 x ha),fun ha=>(h1 x h).2 (q2 x ha).1⟩
  ·exact⟨(h2 x h).1,fun ha=>(h2 x h).2.1 (q1 x ha),fun ha=>(h2 x h).2.1 (q2 x ha).1⟩
end Go.Proofs.YtngdieldgnlogaaGreatDoor
namespace Go.Proofs.YtngdieldgnlogaaGreatDoor
open Go Go.RowKit
set_option maxRecDepth 100000
set_option linter.unusedVariables false
theorem Reach.below {W W':World} (hb:Below W.heap.size W W') {b' o':Nat}:∀ {l:List Int} {f:FT} {b o:Nat},Reach W l f b o b' o'→Reach W' l f b o b' o'
 | [],_,_,_,h=>h
 | _ :: _,_,_,_,⟨h1,h2,bs,os,c,hc,hR⟩=>⟨h1,h2,bs,os,c,c_B hb hc,Reach.below hb hR⟩
theorem Reach.there {W:World} {b' o':Nat}:∀ {l:List Int} {f:FT} {b o:Nat} {S:Nat→Prop},FAtSp W f b o S→Reach W l f b o b' o'→∃ (g:FT) (T:Nat→Prop),FAtSp W g b' o' T
 | [],f,_,_,S,h,hR=>by
  obtain⟨rfl,rfl⟩:=hR
  exact⟨f,S,h⟩
 | i :: l,f,b,o,S,⟨_,_,S1,S2,S3,q1,q2,q3,_,⟨s',h3,hs'⟩,_⟩,⟨hi,hj,bs,os,c,hc,hR⟩=>by
  obtain⟨p,c',e,h0 | ⟨b2,o2,ep,hb2,hsub⟩⟩:=hs'
  ·omega
  have e1:=h3.1.symm.trans hc
  rw[e,ep] at e1
  simp at e1
  obtain⟨⟨rfl,rfl⟩,rfl⟩:=e1
  obtain⟨Tk,t1,t2⟩:=FsSp.one (k:=i.toNat) (by omega) hsub
  exact Reach.there t2 hR
def FoundR (W:World) (f:FT) (l:List Int) (b0 o0:Nat) (r:Option FT) (v:Value):Prop:=match r with
 | none=>v=.pointer none
 | some g=>∃ b o,v=.pointer (some ⟨b,o,none⟩)∧FAt W g b o∧Reach W l f b0 o0 b o
set_option maxHeartbeats 2000000 in
theorem find_reach (f:FT) (l:List Int) (b0 o0:Nat) (sl:Value) (w:World) (hf:FAt w f b0 o0) (hl:LSl w l sl) (hn:l.length≤1000000) :
  Calls Tryz.prog 83 #[.pointer (some ⟨b0,o0,none⟩),sl] w fun e w'=>(∃ v,e=.returned v∧FoundR w f l b0 o0 (f.part l) v)∧w=w':=by
 obtain⟨p,c,bp,op,rfl,hp,ht⟩:=LSl.opened hl
 obtain⟨res,hres⟩:∃ res,f.part l=res:=⟨_,rfl⟩
 rw[hres]
 replace hres:=h_X hres
 go_enter Tryz.func83,Tryz.ntmps83
 go_wp2
 go_loopw [0,9] (fun q i wr=>∃ (k:Nat) (r:List Int) (g:FT) (b o:Nat),q=.pointer (some ⟨b,o,none⟩)∧i=.int .i64 k∧k+r.length=l.length∧LsAt w r bp (op+k)∧FAt w g b o∧g.part r=res∧(∀ b' o',Reach w r g b o b' o'→Reach w l f b0 o0 b' o')∧w=wr) (fun _ i _=>l.length - (intOf i).toNat)
 case atStart=>exact⟨0,l,f,b0,o0,rfl,rfl,by omega,by simpa using ht,hf,hres.out,fun _ _ h=>h,rfl⟩
 case round =>
  obtain⟨k,r,g,b,o,rfl,rfl,hk,hat,hg,hpart,hre,rfl⟩:=hrel
  replace hpart:=h_X hpart
  replace hre:=h_X hre
  cases r with
  | nil =>
   have hk':k=l.length:=by simpa using hk
   subst hk'
   have:res=some g:=by rw[←hpart.out];rfl
   subst this
   go_wp2
   go_ret
   exact⟨⟨_,rfl,b,o,rfl,hg,hre.out _ _ ⟨rfl,rfl⟩⟩,rfl⟩
  | cons x r' =>
   rcases hp with hp | hp
   ·simp only[List.length_cons] at hk;omega
   subst hp
   obtain⟨hx,hat'⟩:=hat
   have hlt:(k:Int) < (l.length:Int):=by simp only[List.length_cons] at hk;omega
   have hg':=h_X hg
   obtain⟨g0,g1,-,⟨ss,g3,hss⟩⟩:=hg
   obtain⟨ps,cs,bs,os,rfl,hps,hfs⟩:=FSl.opened hss
   clear hss g0 g1
   by_cases h1:0≤x
   ·by_cases h2:x < g.sub.len
    ·have hsub:=hps.resolve_left (by omega)
     subst hsub
     obtain⟨xn,hxn⟩:∃ xn:Nat,x=(xn:Int):=⟨x.toNat,by omega⟩
     subst hxn
     have hch:=h_X (FsAt.get hfs (k:=xn) (by omega))
     have hp2:=h_X (show (g.sub.get xn).part r'=res by rw[←hpart.out,FT.part,if_pos ⟨h1,h2⟩];rfl)
     have hre2:=h_X (show ∀ b' o',Reach w r' (g.sub.get xn) bs (os+xn*4) b' o'→Reach w l f b0 o0 b' o' from fun b' o' h=>hre.out b' o' ⟨h1,h2,bs,os,cs,g3,h⟩)
     clear hfs hps
     go_wp2
     go_roundw
     case rel=>exact⟨k+1,r',g.sub.get xn,bs,os+xn*4,rfl,by go_num,by simp only[List.length_cons] at hk;omega,by rwa [show op+(k+1)=op+k+1 by omega],hch.out,hp2.out,hre2.out,trivial⟩
     case measure=>simp[intOf];omega
    ·have:res=none:=by rw[←hpart.out,FT.part,if_neg (by omega)]
     subst this
     have h2':(g.sub.len:Int)≤x:=by omega
     go_wp2
     go_ret
     exact⟨⟨_,rfl,rfl⟩,rfl⟩
   ·have:res=none:=by rw[←hpart.out,FT.part,if_neg (by omega)]
    subst this
    have h1':x < 0:=by omega
    go_wp2
    go_ret
    exact⟨⟨_,rfl,rfl⟩,rfl⟩
theorem set4o (W:World) (g o:Nat) (a0 a1 a2 a3:Value) {x0 x1 x2 x3:Value} (y0:Wc W g o x0) (y1:Wc W g (o+1) x1) (y2:Wc W g (o+2) x2) (y3:Wc W g (o+3) x3) :
  ∃ W',(((W.setCell ⟨g,o,none⟩ a0).setCell ⟨g,o+1,none⟩ a1).setCell ⟨g,o+2,none⟩ a2).setCell ⟨g,o+3,none⟩ a3=W'∧Wc W' g o a0∧Wc W' g (o+1) a1∧Wc W' g (o+2) a2∧Wc W' g (o+3) a3 ∧
   (∀ x i v,¬ (x=g∧o≤i∧i < o+4)→Wc W x i v→Wc W' x i v)∧(∀ B w0,Below B w0 W→B≤g→Below B w0 W')∧W'.heap.size=W.heap.size:=by
 refine⟨_,rfl,?_,?_,?_,?_,fun x i v hn hc=>?_,fun B w0 h hB=>((((h.setCell (p:=⟨g,_,none⟩) hB _).setCell (p:=⟨g,_,none⟩) hB _).setCell (p:=⟨g,_,none⟩) hB _).setCell (p:=⟨g,_,none⟩) hB _),by rw[size_setCell,size_setCell,size_setCell,size_setCell]⟩
 ·exact wc_off (.inr (by omega)) (wc_off (.inr (by omega)) (wc_off (.inr (by omega)) (wc_on y0.1 y0.2)))
 ·exact wc_off (.inr (by omega)) (wc_off (.inr (by omega)) (wc_on (wc_off (v:=a0) (.inr (by omega)) y1).1 (wc_off (.inr (by omega)) y1).2))
 ·exact wc_off (.inr (by omega)) (wc_on (wc_off (v:=a1) (.inr (by omega)) (wc_off (v:=a0) (.inr (by omega)) y2)).1 (wc_off (.inr (by omega)) (wc_off (.inr (by omega)) y2)).2)
 ·exact wc_on (wc_off (v:=a2) (.inr (by omega)) (wc_off (v:=a1) (.inr (by omega)) (wc_off (v:=a0) (.inr (by omega)) y3))).1 (wc_off (.inr (by omega)) (wc_off (.inr (by omega)) (wc_off (.inr (by omega)) y3))).2
 ·have hne:∀ j,j < 4→x≠g∨i≠o+j:=fun j hj=>by
   by_cases e:x=g
   ·exact .inr (fun e2=>hn ⟨e,by omega,by omega⟩)
   ·exact .inl e
  exact wc_off (hne 3 (by omega)) (wc_off (hne 2 (by omega)) (wc_off (hne 1 (by omega)) (wc_off (hne 0 (by omega)) hc)))
theorem Free.wc {W:World} {g m j:Nat} (h:Free W g m) (hj:j < m):∃ v,Wc W g j v:=by
 obtain⟨⟨u,hu⟩,hf⟩:=h j hj
 exact⟨u,hu,hf⟩
def WithRes (W:World) (lo:Nat) (r:Option FT) (v:Value) (e:Int):Prop:=match r with
 | none=>v=fval ⟨0,⟨#[]⟩,.nil,.nil⟩ (.slice none 0 0) (.slice none 0 0)∧e=6
 | some g=>FVSp W g v (Rg lo W.heap.size)∧e=0
set_option maxHeartbeats 8000000 in
theorem with_any (f h:FT) (l:List Int) (v vp sl:Value) (w:World) (hv:FVal w f v) (hvp:FVal w h vp) (hl:LSl w l sl) (hn:l.length≤1000000) (hs:f.size≤1000000) (hs':h.size≤1000000) :
  Calls Tryz.prog 97 #[v,sl,vp] w fun e w'=>(∃ v' er,e=.returned (.tuple #[v',.int .i64 er])∧WithRes w' w.heap.size (f.put l h) v' er)∧Below w.heap.size w w':=by
 obtain⟨sa,ss,rfl,ha,hss⟩:=id hv
 obtain⟨pa,ca,rfl,-⟩:=id ha
 obtain⟨p,c,rfl,-⟩:=id hss
 obtain⟨sa',ss',rfl,ha',hss'⟩:=id hvp
 obtain⟨pa',ca',rfl,-⟩:=id ha'
 obtain⟨p',c',rfl,-⟩:=id hss'
 obtain⟨pl,cl,rfl,-⟩:=id hl
 clear ha hss ha' hss'
 have e1:=bel_laid w (.cells #[.int .u8 f.op,.string f.n,.slice pa f.ts.len ca,.slice p f.sub.len c] 25)
 have hl1:=LSl.below e1 hl
 have k2:=FS.start (t:=25) (FVal.below e1 hvp)
 have k1:=FS.start (t:=25) hv
 have hF1:=Free.lit w #[.int .u8 f.op,.string f.n,.slice pa f.ts.len ca,.slice p f.sub.len c] 25
 rw[World.size_alloc] at k2
 obtain⟨W1,hW1⟩:∃ W1,w.alloc (.cells #[.int .u8 f.op,.string f.n,.slice pa f.ts.len ca,.slice p f.sub.len c] 25)=W1:=⟨_,rfl⟩
 have s1:W1.heap.size=w.heap.size+1:=by rw[←hW1,World.size_alloc]
 rw[hW1] at e1 hl1 k1 k2 hF1
 have e2:=bel_laid W1 (.cells #[.int .u8 h.op,.string h.n,.slice pa' h.ts.len ca',.slice p' h.sub.len c'] 25)
 obtain⟨W2,hW2⟩:∃ W2,W1.alloc (.cells #[.int .u8 h.op,.string h.n,.slice pa' h.ts.len ca',.slice p' h.sub.len c'] 25)=W2:=⟨_,rfl⟩
 have s2:W2.heap.size=w.heap.size+2:=by rw[←hW2,World.size_alloc,s1]
 rw[hW2] at e2 k2
 have e3:=bel_laid W2 (.cells #[.int .u8 0,.string ⟨#[]⟩,.slice none 0 0,.slice none 0 0] 25)
 have hF3:=Free.lit W2 #[.int .u8 0,.string ⟨#[]⟩,.slice none 0 0,.slice none 0 0] 25
 rw[s2] at hF3
 obtain⟨W3,hW3⟩:∃ W3,W2.alloc (.cells #[.int .u8 0,.string ⟨#[]⟩,.slice none 0 0,.slice none 0 0] 25)=W3:=⟨_,rfl⟩
 have s3:W3.heap.size=w.heap.size+3:=by rw[←hW3,World.size_alloc,s2]
 rw[hW3] at e3 hF3
 have e23:=bS e2 e3
 have k1:=k1.next e23
 have k2:=k2.next e3
 have hl3:=LSl.below e23 hl1
 have hF1:=hF1.below e23
 have hb3:=bS e1 e23
 have hlh:=h_X hl
 have hvph:=h_X hvp
 clear e1 e2 e3 e23 hl hl1 hv hvp
 have HCf:=h_X (copy_sp f _ W3 k1.val hs)
 have HCh:=h_X (fun V hV=>copy_sp h (fval h (.slice pa' h.ts.len ca') (.slice p' h.sub.len c')) V hV hs')
 obtain⟨g,hg⟩:∃ g,w.heap.size=g:=⟨_,rfl⟩
 have hgh:=h_X hg
 obtain⟨b0,b1,b2,b3,-⟩:=k1
 have k2h:=h_X k2
 have hl3h:=h_X hl3
 have hb3h:=h_X hb3
 have hF1h:=h_X hF1
 have hF3h:=h_X hF3
 have s3h:=h_X s3
 rw[hg] at s1 s2
 clear k2 hl3 hb3 hF1 hF3 s3
 go_enter Tryz.func97,Tryz.ntmps97
 go_upto_region 1 with fail
 clear hW1 hW2 hW3
 rw[hg] at b0 b1 b2 b3 k2h hb3h hF1h hF3h s3h
 clear hg s1 s2
 go_wp2_with fail
 refine HCf.out.mono ?_
 rintro e W4 ⟨v',rfl,hsp,hb4⟩
 clear HCf b0 b1 b2 b3
 rw[s3h.out] at hsp
 have s34:=hb4.size
 rw[s3h.out] at s34
 obtain⟨s1,s2,A1,A2,rfl,hA1,hA2,hT1,hT2⟩:=hsp
 obtain⟨p1,c1,rfl⟩:=SlSp.slice hT1
 obtain⟨p2,c2,rfl⟩:=SlSp.slice hT2
 have k2h:=h_X (k2h.out.next hb4)
 have hl3h:=h_X (LSl.below hb4 hl3h.out)
 have hF3h:=h_X (hF3h.out.below hb4)
 have hF1:=hF1h.out.below hb4
 have hb4h:=h_X (show Below g w W4 from hb3h.out.trans (hb4.mono (by rw[s3h.out];omega)))
 obtain⟨v0,y0⟩:=hF1.wc (j:=0) (by simp)
 obtain⟨v1,y1⟩:=hF1.wc (j:=1) (by simp)
 obtain⟨v2,y2⟩:=hF1.wc (j:=2) (by simp)
 obtain⟨v3,y3⟩:=hF1.wc (j:=3) (by simp)
 have z0:=y0.1
 have z1:=y1.1
 have z2:=y2.1
 have z3:=y3.1
 have f0:=y0.2
 have f1:=y1.2
 have f2:=y2.2
 have f3:=y3.2
 have hT1h:=h_X hT1
 have hT2h:=h_X hT2
 clear hF1 hF1h hb3h hb4 s3h hT1 hT2
 go_upto_region 2 with fail
 obtain⟨W5,hW5,q0,q1,q2,q3,hfar5,hbel5,hs5⟩:=set4o W4 g 0 (.int .u8 f.op) (.string f.n) (.slice p1 f.ts.len c1) (.slice p2 f.sub.len c2) y0 (by simpa using y1) (by simpa using y2) (by simpa using y3)
 simp only[Nat.zero_add] at hW5 q1 q2 q3
 rw[hW5]
 have hb5h:=h_X (hbel5 _ _ hb4h.out (Nat.le_refl _))
 have hkeep5:∀ x i v,x≠g→Wc W4 x i v→Wc W5 x i v:=fun x i v hx hc=>hfar5 x i v (fun h=>hx h.1) hc
 have hsp5:FAtSp W5 f g 0 (Rg (g+3) W4.heap.size):=⟨q0,by simpa using q1,A1,A2,fun _=>False,hA1,hA2,fun _ h=>h.elim,⟨_,by simpa using q2,TSp.keep (fun x i v hx hc=>hkeep5 x i v (by have:=(hA1 x hx).1;omega) hc) hT1h.out⟩,⟨_,by simpa using q3,FSp.keep (fun x i v hx hc=>hkeep5 x i v (by have:=(hA2 x hx).1.1;omega) hc) hT2h.out⟩,trivial⟩
 clear y0 y1 y2 y3 z0 z1 z2 z3 f0 f1 f2 f3 hT1h hT2h hA1 hA2 v0 v1 v2 v3
 have hsz:=s34
 have hF3w:Hid (∀ j,j < 4→∃ u,Wc W5 (g+2) j u):=h_X (fun j hj=>by
  obtain⟨u,hu⟩:=hF3h.out.wc (j:=j) (by simpa using hj)
  exact⟨u,hkeep5 _ _ _ (by omega) hu⟩)
 obtain⟨c10,c11,c12,c13,-⟩:=k2h.out
 have hcell5:∀ i v,W4.cell? ⟨g+1,i,none⟩=some v→W5.cell? ⟨g+1,i,none⟩=some v:=fun i v hc=>by
  rw[←hW5,set_off (.inl (by omega)),set_off (.inl (by omega)),set_off (.inl (by omega)),set_off (.inl (by omega))];exact hc
 replace c10:=hcell5 _ _ c10
 replace c11:=hcell5 _ _ c11
 replace c12:=hcell5 _ _ c12
 replace c13:=hcell5 _ _ c13
 have hbw5:Below w.heap.size w W5:=by rw[hgh.out];exact hb5h.out
 have hl5:=LSl.below hbw5 hlh.out
 have hvp5:=h_X (FVal.below hbw5 hvph.out)
 clear hcell5 hkeep5 hfar5 hbel5 hW5 q0 q1 q2 q3 hF3h k2h hl3h hb4h hbw5 hlh hvph
 have HFd:=h_X (find_reach f l g 0 _ W5 hsp5.at hl5 hn)
 have hsp5h:=h_X hsp5
 clear hl5 hsp5
 go_wp2_with fail
 refine HFd.out.mono ?_
 rintro e w6 ⟨⟨vf,rfl,hfound⟩,rfl⟩
 clear HFd
 cases hpt:f.part l with
 | none =>
  rw[hpt] at hfound
  obtain rfl:vf=.pointer none:=hfound
  have hput:=h_X (FT.put_none l f h hpt)
  obtain⟨u0,y0⟩:=hF3w.out 0 (by omega)
  obtain⟨u1,y1⟩:=hF3w.out 1 (by omega)
  obtain⟨u2,y2⟩:=hF3w.out 2 (by omega)
  obtain⟨u3,y3⟩:=hF3w.out 3 (by omega)
  have z0:=y0.1
  have z1:=y1.1
  have z2:=y2.1
  have z3:=y3.1
  have f0:=y0.2
  have f1:=y1.2
  have f2:=y2.2
  have f3:=y3.2
  clear HCh hsp5h hvp5 c10 c11 c12 c13 hpt hF3w hs5
  go_wp2_with fail
  obtain⟨W7,hW7,q0,q1,q2,q3,-,hbel7,-⟩:=set4o W5 (g+2) 0 (.int .u8 0) (.string ⟨#[]⟩) (.slice none 0 0) (.slice none 0 0) y0 (by simpa using y1) (by simpa using y2) (by simpa using y3)
  simp only[Nat.zero_add] at hW7 q1 q2 q3
  rw[hW7]
  refine bodyPost_ret (v:=.tuple #[fval ⟨0,⟨#[]⟩,.nil,.nil⟩ (.slice none 0 0) (.slice none 0 0),.int .i64 6]) ?_ rfl ⟨⟨_,_,rfl,by rw[hput.out];exact⟨rfl,rfl⟩⟩,by rw[hgh.out];exact hbel7 _ _ hb5h.out (by omega)⟩
  simp[results,Tryz.results97,go_sem,q0.1,q1.1,q2.1,q3.1]
 | some fp =>
  rw[hpt] at hfound
  obtain⟨b,o,rfl,-,hR⟩:=hfound
  clear hpt
  have hcl:=h_X (HCh.out W5 hvp5.out)
  have hRh:=h_X hR
  obtain⟨g0,T0,ht0⟩:=Reach.there hsp5h.out hR
  have hbw:b < W5.heap.size:=ht0.1.lt
  have hown:=Reach.own hsp5h.out hR
  have hbg:b≠g+1∧b≠g+2:=by
   rcases hown with ⟨rfl,-⟩ | hh
   ·omega
   ·have:=hh.1;omega
  obtain⟨hbg1,hbg2⟩:=hbg
  have hbgg:g≤b:=by
   rcases hown with ⟨rfl,-⟩ | hh
   ·omega
   ·have:=hh.1;omega
  clear hR ht0 hown HCh
  go_wp2_with fail
  refine hcl.out.mono ?_
  rintro e W6 ⟨v',rfl,hspn,hb6⟩
  obtain⟨s3,s4,B1,B2,rfl,hB1,hB2,hU1,hU2⟩:=hspn
  obtain⟨p3,c3,rfl⟩:=SlSp.slice hU1
  obtain⟨p4,c4,rfl⟩:=SlSp.slice hU2
  have hsp6:=h_X (FsSp.below hb6 hsp5h.out)
  have hR6:=h_X (hRh.out.below hb6)
  have hF36:Hid (∀ j,j < 4→∃ u,Wc W6 (g+2) j u):=h_X (fun j hj=>by
   obtain⟨u,hu⟩:=hF3w.out j hj
   exact⟨u,hu.below hb6⟩)
  obtain⟨gg,T,ht⟩:=Reach.there hsp6.out hR6.out
  obtain⟨y0,y1,T1,T2,T3,-,-,-,⟨x2,y2,-⟩,⟨x3,y3,-⟩,-⟩:=ht
  have hb6h:=h_X (show Below g w W6 from hb5h.out.trans (hb6.mono (by rw[hs5];omega)))
  have hs56:=hb6.size
  have z0:=y0.1
  have z1:=y1.1
  have z2:=y2.1
  have z3:=y3.1
  have f0:=y0.2
  have f1:=y1.2
  have f2:=y2.2
  have f3:=y3.2
  have hU1h:=h_X hU1
  have hU2h:=h_X hU2
  clear hcl hb6 hRh hsp5h hF3w hb5h hU1 hU2 c10 c11 c12 c13 hvp5
  go_upto_region 6 with fail
  obtain⟨W7,hW7,q0,q1,q2,q3,hfar7,hbel7,hs7⟩:=set4o W6 b o (.int .u8 h.op) (.string h.n) (.slice p3 h.ts.len c3) (.slice p4 h.sub.len c4) y0 y1 y2 y3
  rw[hW7]
  have hkeep7:∀ x i v,x≠b→Wc W6 x i v→Wc W7 x i v:=fun x i v hx hc=>hfar7 x i v (fun h=>hx h.1) hc
  have hnew:FAtSp W7 h b o (Rg W5.heap.size W6.heap.size):=⟨q0,q1,B1,B2,fun _=>False,hB1,hB2,fun _ h=>h.elim,⟨_,q2,TSp.keep (fun x i v hx hc=>hkeep7 x i v (by have:=(hB1 x hx).1;omega) hc) hU1h.out⟩,⟨_,q3,FSp.keep (fun x i v hx hc=>hkeep7 x i v (by have:=(hB2 x hx).1.1;omega) hc) hU2h.out⟩,trivial⟩
  obtain⟨gr,hput,hgr⟩:=put_sp hfar7 hnew (fun x hx hx'=>by have:=hx.2;have:=hx'.1;omega) (fun hx=>by have:=hx.1;omega) hsp6.out hR6.out
  have hput:=h_X hput
  obtain⟨r0,r1,C1,C2,C3,hC1,hC2,-,⟨t3,r2,hV1⟩,⟨t4,r3,hV2⟩,-⟩:=hgr
  obtain⟨p5,c5,rfl⟩:=SlSp.slice hV1
  obtain⟨p6,c6,rfl⟩:=SlSp.slice hV2
  simp only[Nat.zero_add] at r1 r2 r3
  obtain⟨u0,v0⟩:=hF36.out 0 (by omega)
  obtain⟨u1,v1⟩:=hF36.out 1 (by omega)
  obtain⟨u2,v2⟩:=hF36.out 2 (by omega)
  obtain⟨u3,v3⟩:=hF36.out 3 (by omega)
  replace v0:=hkeep7 _ _ _ (Ne.symm hbg2) v0
  replace v1:=hkeep7 _ _ _ (Ne.symm hbg2) v1
  replace v2:=hkeep7 _ _ _ (Ne.symm hbg2) v2
  replace v3:=hkeep7 _ _ _ (Ne.symm hbg2) v3
  have hb7h:=h_X (hbel7 _ _ hb6h.out hbgg)
  clear hkeep7 hnew hfar7 hW7 q0 q1 q2 q3 y0 y1 y2 y3 z0 z1 z2 z3 f0 f1 f2 f3 hU1h hU2h hsp6 hR6 hF36 hb6h hB1 hB2 hbel7
  have z0:=v0.1
  have z1:=v1.1
  have z2:=v2.1
  have z3:=v3.1
  have f0:=v0.2
  have f1:=v1.2
  have f2:=v2.2
  have f3:=v3.2
  have rr0:=r0.1
  have rr1:=r1.1
  have rr2:=r2.1
  have rr3:=r3.1
  have hV1h:=h_X hV1
  have hV2h:=h_X hV2
  clear r0 r1 r2 r3 hV1 hV2
  go_wp2_with fail
  obtain⟨W8,hW8,q0,q1,q2,q3,hfar8,hbel8,hs8⟩:=set4o W7 (g+2) 0 (.int .u8 gr.op) (.string gr.n) (.slice p5 gr.ts.len c5) (.slice p6 gr.sub.len c6) v0 (by simpa using v1) (by simpa using v2) (by simpa using v3)
  simp only[Nat.zero_add] at hW8 q1 q2 q3
  rw[hW8]
  have hkeep8:∀ x i v,x≠g+2→Wc W7 x i v→Wc W8 x i v:=fun x i v hx hc=>hfar8 x i v (fun h=>hx h.1) hc
  have hN:∀ x,(Rg (g+3) W4.heap.size x∨Rg W5.heap.size W6.heap.size x)→g+3≤x∧x < W8.heap.size:=fun x hx=>by
   rcases hx with hx | hx
   ·have:=hx.1;have:=hx.2;omega
   ·have:=hx.1;have:=hx.2;omega
  refine bodyPost_ret (v:=.tuple #[fval gr (.slice p5 gr.ts.len c5) (.slice p6 gr.sub.len c6),.int .i64 0]) ?_ rfl ⟨⟨_,_,rfl,by
   exact⟨⟨_,_,C1,C2,rfl,fun x hx=>⟨by have:=(hN x (hC1 x hx)).1;rw[hgh.out];omega,(hN x (hC1 x hx)).2⟩,fun x hx=>⟨⟨by have:=(hN x (hC2 x hx).1).1;rw[hgh.out];omega,(hN x (hC2 x hx).1).2⟩,(hC2 x hx).2⟩,
    TSp.keep (fun x i v hx hc=>hkeep8 x i v (by have:=(hN x (hC1 x hx)).1;omega) hc) hV1h.out,FSp.keep (fun x i v hx hc=>hkeep8 x i v (by have:=(hN x (hC2 x hx).1).1;omega) hc) hV2h.out⟩,rfl⟩⟩,by rw[hgh.out];exact hbel8 _ _ hb7h.out (by omega)⟩
  simp[results,Tryz.results97,go_sem,q0.1,q1.1,q2.1,q3.1]
end Go.Proofs.YtngdieldgnlogaaGreatDoor
namespace Go.Proofs.YtngdieldgnlogaaGreatDoor
open Go Go.RowKit
set_option maxRecDepth 100000
set_option linter.unusedVariables false
theorem set3o (W:World) (g o:Nat) (a0 a1 a2:Value) {x0 x1 x2:Value} (y0:Wc W g o x0) (y1:Wc W g (o+1) x1) (y2:Wc W g (o+2) x2) :
  ∃ W',((W.setCell ⟨g,o,none⟩ a0).setCell ⟨g,o+1,none⟩ a1).setCell ⟨g,o+2,none⟩ a2=W'∧Wc W' g o a0∧Wc W' g (o+1) a1∧Wc W' g (o+2) a2 ∧
   (∀ x i v,¬ (x=g∧o≤i∧i < o+3)→Wc W x i v→Wc W' x i v)∧(∀ S:Nat→Prop,S g→But S W W'):=by
 refine⟨_,rfl,?_,?_,?_,fun x i v hn hc=>?_,fun S hS=>((But.set (p:=⟨g,_,none⟩) hS _).trans (But.set (p:=⟨g,_,none⟩) hS _)).trans (But.set (p:=⟨g,_,none⟩) hS _)⟩
 ·exact wc_off (.inr (by omega)) (wc_off (.inr (by omega)) (wc_on y0.1 y0.2))
 ·exact wc_off (.inr (by omega)) (wc_on (wc_off (v:=a0) (.inr (by omega)) y1).1 (wc_off (.inr (by omega)) y1).2)
 ·exact wc_on (wc_off (v:=a1) (.inr (by omega)) (wc_off (v:=a0) (.inr (by omega)) y2)).1 (wc_off (.inr (by omega)) (wc_off (.inr (by omega)) y2)).2
 ·have hne:∀ j,j < 3→x≠g∨i≠o+j:=fun j hj=>by
   by_cases e:x=g
   ·exact .inr (fun e2=>hn ⟨e,by omega,by omega⟩)
   ·exact .inl e
  exact wc_off (hne 2 (by omega)) (wc_off (hne 1 (by omega)) (wc_off (hne 0 (by omega)) hc))
theorem TSp.opened {W:World} {t:Ts} {s:Value} {S:Nat→Prop} (h:TSp W t s S):∃ p c b o,s=.slice p t.len c∧(t.len=0∨(p=some ⟨b,o,none⟩∧S b))∧TsSp W t b o (fun x=>S x∧x≠b):=by
 obtain⟨p,c,hs,h0 | ⟨b,o,hp,hb,h⟩⟩:=h
 ·cases t with
  | nil=>exact⟨p,c,0,0,hs,.inl rfl,trivial⟩
  | cons=>simp[Ts.len] at h0
 ·exact⟨p,c,b,o,hs,.inr ⟨hp,hb⟩,h⟩
theorem FSp.opened {W:World} {t:Fs} {s:Value} {S:Nat→Prop} (h:FSp W t s S):∃ p c b o,s=.slice p t.len c∧(t.len=0∨(p=some ⟨b,o,none⟩∧S b))∧FsSp W t b o (fun x=>S x∧x≠b):=by
 obtain⟨p,c,hs,h0 | ⟨b,o,hp,hb,h⟩⟩:=h
 ·cases t with
  | nil=>exact⟨p,c,0,0,hs,.inl rfl,trivial⟩
  | cons=>simp[Fs.len] at h0
 ·exact⟨p,c,b,o,hs,.inr ⟨hp,hb⟩,h⟩
def OverT (ts:Ts):Prop:=∀ (sa:Value) (S:Nat→Prop) (w:World),TSp w ts sa S→ts.size≤1000000 →
 Calls Tryz.prog 35 #[sa] w fun e w'=>(∃ r,e=.returned r)∧TSp w' (leafT ts.len) sa S∧But S w w'
set_option maxHeartbeats 4000000 in
theorem overT_step (ts:Ts) (ih:∀ t:Ts,t.size < ts.size→OverT t):OverT ts:=by
 intro sa S w h hs
 obtain⟨p,c,b,o,rfl,hp,ht⟩:=TSp.opened h
 have hth:=h_X ht
 clear h ht
 go_enter Tryz.func35,Tryz.ntmps35
 go_wp2
 go_loopw [2] (fun i wr=>∃ (k:Nat) (r:Ts),i=.int .i64 k∧k+r.len=ts.len∧r.size≤ts.size∧TsSp wr (leafT k) b o (fun _=>False)∧TsSp wr r b (o+k*3) (fun x=>S x∧x≠b)∧But S w wr) (fun i _=>ts.len - (intOf i).toNat)
 case atStart=>exact⟨0,ts,rfl,by omega,Nat.le_refl _,trivial,by simpa using hth.out,But.refl _ _⟩
 case round =>
  obtain⟨k,r,rfl,hk,hrs,hq,hr,hbut⟩:=hrel
  have hl:=ts.len_le
  cases r with
  | nil =>
   simp only[Ts.len] at hk
   have hk':k=ts.len:=by omega
   subst hk'
   go_wp2
   refine bodyPost_end (results_none rfl _ _ _) rfl ?_
   refine⟨⟨_,rfl⟩,⟨p,c,by rw[leafT_len],?_⟩,hbut⟩
   rw[leafT_len]
   rcases hp with hp | ⟨hp,hb⟩
   ·exact .inl hp
   ·exact .inr ⟨b,o,hp,hb,TsSp.mono (fun _ h=>h.elim) hq⟩
  | cons v n t2 r' =>
   simp only[Ts.len] at hk
   simp only[Ts.size] at hrs
   obtain⟨h0,h1,S1,S2,q1,q2,⟨s,h2,hsc⟩,hr'⟩:=hr
   rcases hp with hp | ⟨hp,hb⟩
   ·omega
   subst hp
   have hlt:(k:Int) < (ts.len:Int):=by omega
   have c2:=h2.1
   have hcall:=h_X (ih t2 (by omega) s S1 wr hsc (by omega))
   obtain⟨ps,cs,rfl⟩:=SlSp.slice hsc
   have hqh:=h_X hq
   have hrh:=h_X hr'
   have hbh:=h_X hbut
   have hh0:=h_X h0
   have hh1:=h_X h1
   have hh2:=h_X h2
   have hn1:¬ S1 b:=fun hx=>(q1 b hx).2 rfl
   clear ih hq hr' hbut h0 h1 h2 hsc hth
   go_wp2_with fail
   refine hcall.out.mono ?_
   rintro e w5 ⟨⟨rv,rfl⟩,-,hb5⟩
   have d0:=Wc.but hb5 hn1 hh0.out
   have d1:=Wc.but hb5 hn1 hh1.out
   have d2:=Wc.but hb5 hn1 hh2.out
   have hq5:=h_X (TsSp.keep (W':=w5) (fun _ _ _ hx _=>hx.elim) (fun i v _ _ hc=>Wc.but hb5 hn1 hc) hqh.out)
   have hr5:=h_X (TsSp.keep (W':=w5) (fun x i v hx hc=>Wc.but hb5 (q2 x hx).2 hc) (fun i v _ _ hc=>Wc.but hb5 hn1 hc) hrh.out)
   have hb5h:=h_X (hbh.out.trans (hb5.mono fun x hx=>(q1 x hx).1))
   have z0:=d0.1
   have z1:=d1.1
   have z2:=d2.1
   have f0:=d0.2
   have f1:=d1.2
   have f2:=d2.2
   clear hcall hqh hrh hbh hh0 hh1 hh2 c2 hb5
   go_wp2_with fail
   obtain⟨W6,hW6,e0,e1,e2,hfar,hset⟩:=set3o w5 b (o+k*3) (.bool false) (.string ⟨#[45]⟩) (.slice none 0 0) d0 d1 d2
   refine⟨⟨k+1,r',by go_num,by omega,by omega,?_,?_,?_⟩,?_⟩
   ·rw[hW6,←leafT_app]
    exact TsSp.app (S1:=fun _=>False) (S2:=fun _=>False) (fun _ h=>h) (fun _ h=>h.elim) (TsSp.keep (fun _ _ _ hx _=>hx.elim) (fun i v hi hj hc=>hfar b i v (by rw[leafT_len] at hj;omega) hc) hq5.out)
     (by rw[leafT_len];exact⟨e0,e1,fun _=>False,fun _=>False,fun _ h=>h,fun _ h=>h.elim,⟨_,e2,none,0,rfl,.inl rfl⟩,trivial⟩)
   ·rw[hW6,show o+(k+1)*3=o+k*3+3 by omega]
    exact TsSp.mono (fun x hx=>(q2 x hx).1) (TsSp.keep (fun x i v hx hc=>hfar x i v (fun h=>(q2 x hx).1.2 h.1) hc) (fun i v hi hj hc=>hfar b i v (by omega) hc) hr5.out)
   ·rw[hW6];exact hb5h.out.trans (hset S hb)
   ·simp[intOf];omega
theorem overT_any (ts:Ts):OverT ts:=overT_step ts fun t _=>overT_any t
termination_by ts.size
theorem cell_but_eq {S:Nat→Prop} {w w':World} (h:But S w w') {b o:Nat} (hb:¬ S b) (hl:b < w.heap.size):w'.cell? ⟨b,o,none⟩=w.cell? ⟨b,o,none⟩ :=
 World.cell?_of_block (a:=⟨b,o,none⟩) (h.block b hl hb)
def OverF (ts:Fs):Prop:=∀ (sa:Value) (S:Nat→Prop) (w:World),FSp w ts sa S→ts.size≤1000000 →
 Calls Tryz.prog 36 #[sa] w fun e w'=>(∃ r,e=.returned r)∧FSp w' (leafF ts.len) sa S∧(∀ b o c,sa=.slice (some ⟨b,o,none⟩) ts.len c→FsOv w w' ts b o (fun x=>S x∧x≠b))∧But S w w'
set_option maxHeartbeats 8000000 in
theorem overF_step (ts:Fs) (ih:∀ t:Fs,t.size < ts.size→OverF t):OverF ts:=by
 intro sa S w h hs
 obtain⟨p,c,b,o,rfl,hp,ht⟩:=FSp.opened h
 have hth:=h_X ht
 clear h ht
 go_enter Tryz.func36,Tryz.ntmps36
 go_wp2
 go_loopw [2] (fun i wr=>∃ (k:Nat) (q r:Fs) (Sq Sr:Nat→Prop),i=.int .i64 k∧q.len=k∧q.app r=ts∧k+r.len=ts.len∧r.size≤ts.size∧FsSp wr (leafF k) b o (fun _=>False)∧(∀ x,Sq x→S x∧x≠b)∧(∀ x,Sr x→(S x∧x≠b)∧¬ Sq x) ∧
  FsOv w wr q b o Sq∧FsSp wr r b (o+k*4) Sr∧(∀ i,o+k*4≤i→wr.cell? ⟨b,i,none⟩=w.cell? ⟨b,i,none⟩)∧But S w wr) (fun i _=>ts.len - (intOf i).toNat)
 case atStart=>exact⟨0,.nil,ts,fun _=>False,fun x=>S x∧x≠b,rfl,rfl,rfl,by omega,Nat.le_refl _,trivial,fun _ h=>h.elim,fun x h=>⟨h,fun h=>h⟩,trivial,by simpa using hth.out,fun _ _=>rfl,But.refl _ _⟩
 case round =>
  obtain⟨k,q,r,Sq,Sr,rfl,hqk,happ,hk,hrs,hq,hSq,hSr,hov,hr,hold,hbut⟩:=hrel
  have hl:=ts.len_le
  cases r with
  | nil =>
   simp only[Fs.len] at hk
   have hk':k=ts.len:=by omega
   rw[Fs.app_nil] at happ
   have happh:=h_X happ
   have hqkh:=h_X hqk
   subst hk'
   have holdh:=h_X hold
   clear happ hqk hold hth
   go_wp2
   refine bodyPost_end (results_none rfl _ _ _) rfl ?_
   refine⟨⟨_,rfl⟩,⟨p,c,by rw[leafF_len],?_⟩,fun b' o' c' e=>?_,hbut⟩
   ·rw[leafF_len]
    rcases hp with hp | ⟨hp,hb⟩
    ·exact .inl hp
    ·exact .inr ⟨b,o,hp,hb,FsSp.mono (fun _ h=>h.elim) hq⟩
   ·rcases hp with hp | ⟨hp,hb⟩
    ·cases ts with
     | nil=>trivial
     | cons=>simp[Fs.len] at hp
    ·subst hp
     simp at e
     obtain⟨⟨rfl,rfl⟩,rfl⟩:=e
     rw[←happh.out]
     exact FsOv.mono hSq hov
  | cons op n t2 sub r' =>
   simp only[Fs.len] at hk
   simp only[Fs.size] at hrs
   obtain⟨h0,h1,S1,S2,S3,q1,q2,q3,⟨s,h2,hsc⟩,⟨s',h3,hsc'⟩,hr'⟩:=hr
   rcases hp with hp | ⟨hp,hb⟩
   ·omega
   subst hp
   have hlt:(k:Int) < (ts.len:Int):=by omega
   have c2:=h2.1
   have hcall:=h_X (overT_any t2 s S1 wr hsc (by omega))
   have hcall2:=h_X (fun V hV=>ih sub (by omega) s' S2 V hV (by omega))
   obtain⟨ps,cs,rfl⟩:=SlSp.slice hsc
   obtain⟨pt,ct,rfl⟩:=SlSp.slice hsc'
   have hqh:=h_X hq
   have hovh:=h_X hov
   have hrh:=h_X hr'
   have hbh:=h_X hbut
   have hh0:=h_X h0
   have hh1:=h_X h1
   have hh2:=h_X h2
   have hh3:=h_X h3
   have hsch:=h_X hsc'
   have happh:=h_X happ
   have hqkh:=h_X hqk
   have holdh:=h_X hold
   have hbl:b < wr.heap.size:=h0.lt
   have hn1:¬ S1 b:=fun hx=>(hSr b (q1 b hx)).1.2 rfl
   have hn2:¬ S2 b:=fun hx=>(hSr b (q2 b hx).1).1.2 rfl
   clear ih hq hr' hbut h0 h1 h2 h3 hsc hsc' hth hov happ hqk hold
   go_wp2_with fail
   refine hcall.out.mono ?_
   rintro e w5 ⟨⟨rv,rfl⟩,hT5,hb5⟩
   have d3:=Wc.but hb5 hn1 hh3.out
   have z3:=d3.1
   have hcall3:=h_X (hcall2.out w5 (FSp.keep (fun x i v hx hc=>Wc.but hb5 (q2 x hx).2 hc) hsch.out))
   have hT5h:=h_X hT5
   have hb5h:=h_X hb5
   clear hcall hcall2 c2 hb5 hT5 hsch
   go_wp2_with fail
   refine hcall3.out.mono ?_
   rintro e w6 ⟨⟨rv2,rfl⟩,hF6,-,hb6⟩
   have d0:=Wc.but hb6 hn2 (Wc.but hb5h.out hn1 hh0.out)
   have d1:=Wc.but hb6 hn2 (Wc.but hb5h.out hn1 hh1.out)
   have d2:=Wc.but hb6 hn2 (Wc.but hb5h.out hn1 hh2.out)
   replace d3:=Wc.but hb6 hn2 d3
   have hstep:∀ x i v,¬ S1 x→¬ S2 x→Wc wr x i v→Wc w6 x i v:=fun x i v h1 h2 hc=>Wc.but hb6 h2 (Wc.but hb5h.out h1 hc)
   have hq6:=h_X (FsSp.keep (W':=w6) (fun _ _ _ hx _=>hx.elim) (fun i v _ _ hc=>hstep _ _ _ hn1 hn2 hc) hqh.out)
   have hov6:=h_X (FsOv.keep (W':=w6) (fun x i v hx hc=>hstep _ _ _ (fun h=>(hSr x (q1 x h)).2 hx) (fun h=>(hSr x (q2 x h).1).2 hx) hc) hovh.out)
   have hr6:=h_X (FsSp.keep (W':=w6) (fun x i v hx hc=>hstep _ _ _ (q3 x hx).2.1 (q3 x hx).2.2 hc) (fun i v _ _ hc=>hstep _ _ _ hn1 hn2 hc) hrh.out)
   have hT6:=h_X (TSp.keep (W':=w6) (fun x i v hx hc=>Wc.but hb6 (fun h=>(q2 x h).2 hx) hc) hT5h.out)
   have hF6h:=h_X hF6
   have hold6:Hid (∀ i,o+k*4≤i→w6.cell? ⟨b,i,none⟩=w.cell? ⟨b,i,none⟩):=h_X (fun i hi=>by
    rw[cell_but_eq hb6 hn2 (Nat.lt_of_lt_of_le hbl hb5h.out.size),cell_but_eq hb5h.out hn1 hbl]
    exact holdh.out i hi)
   have hb6h:=h_X ((hbh.out.trans (hb5h.out.mono fun x hx=>(hSr x (q1 x hx)).1.1)).trans (hb6.mono fun x hx=>(hSr x (q2 x hx).1).1.1))
   clear z3
   have z0:=d0.1
   have z1:=d1.1
   have z2:=d2.1
   have z3:=d3.1
   have f0:=d0.2
   have f1:=d1.2
   have f2:=d2.2
   have f3:=d3.2
   clear hcall3 hqh hovh hrh hbh hh0 hh1 hh2 hh3 hb6 hb5h hT5h hF6 holdh hstep
   go_wp2_with fail
   obtain⟨W7,hW7,e0,e1,e2,e3,hfar,hbel,hs7⟩:=set4o w6 b (o+k*4) (.int .u8 99) (.string ⟨#[]⟩) (.slice none 0 0) (.slice none 0 0) d0 d1 d2 d3
   have hset:But S w6 W7:=by
    rw[←hW7]
    exact(((But.set (p:=⟨b,_,none⟩) hb _).trans (But.set (p:=⟨b,_,none⟩) hb _)).trans (But.set (p:=⟨b,_,none⟩) hb _)).trans (But.set (p:=⟨b,_,none⟩) hb _)
   rw[hW7]
   have hkeep:∀ x i v,x≠b→Wc w6 x i v→Wc W7 x i v:=fun x i v hx hc=>hfar x i v (fun h=>hx h.1) hc
   refine⟨⟨k+1,q.app (.cons op n t2 sub .nil),r',fun x=>Sq x∨S1 x∨S2 x,S3,by go_num,by rw[Fs.len_app,hqkh.out];rfl,by rw[Fs.app_assoc];exact happh.out,by omega,by omega,?_,?_,?_,?_,?_,?_,hb6h.out.trans hset⟩,?_⟩
   ·rw[←leafF_app]
    exact FsSp.app (S1:=fun _=>False) (S2:=fun _=>False) (fun _ h=>h) (fun _ h=>h.elim) (FsSp.keep (fun _ _ _ hx _=>hx.elim) (fun i v hi hj hc=>hfar b i v (by rw[leafF_len] at hj;omega) hc) hq6.out)
     (by rw[leafF_len];exact⟨e0,e1,fun _=>False,fun _=>False,fun _=>False,fun _ h=>h,fun _ h=>h.elim,fun _ h=>h.elim,⟨_,e2,none,0,rfl,.inl rfl⟩,⟨_,e3,none,0,rfl,.inl rfl⟩,trivial⟩)
   ·rintro x (hx | hx | hx)
    ·exact hSq x hx
    ·exact(hSr x (q1 x hx)).1
    ·exact(hSr x (q2 x hx).1).1
   ·exact fun x hx=>⟨(hSr x (q3 x hx).1).1,fun h=>by
     rcases h with h | h | h
     ·exact(hSr x (q3 x hx).1).2 h
     ·exact(q3 x hx).2.1 h
     ·exact(q3 x hx).2.2 h⟩
   ·refine FsOv.snoc (Sq:=Sq) (S1:=S1) (S2:=S2) (fun x h=>.inl h) (fun x h=>⟨.inr (.inl h),(hSr x (q1 x h)).2⟩) (fun x h=>⟨.inr (.inr h),(hSr x (q2 x h).1).2,(q2 x h).2⟩) ?_ (TSp.keep (fun x i v hx hc=>hkeep x i v (fun e=>hn1 (e ▸ hx)) hc) hT6.out) ?_ (FSp.keep (fun x i v hx hc=>hkeep x i v (fun e=>hn2 (e ▸ hx)) hc) hF6h.out) (FsOv.keep (fun x i v hx hc=>hkeep x i v (hSq x hx).2 hc) hov6.out)
    ·rw[hqkh.out,←hold6.out _ (by omega)];exact d2.1
    ·rw[hqkh.out,←hold6.out _ (by omega)];exact d3.1
   ·rw[show o+(k+1)*4=o+k*4+4 by omega]
    exact FsSp.keep (fun x i v hx hc=>hkeep x i v (hSr x (q3 x hx).1).1.2 hc) (fun i v hi hj hc=>hfar b i v (by omega) hc) hr6.out
   ·intro i hi
    rw[←hW7,set_off (.inr (by omega)),set_off (.inr (by omega)),set_off (.inr (by omega)),set_off (.inr (by omega))]
    exact hold6.out i (by omega)
   ·simp[intOf];omega
theorem overF_any (ts:Fs):OverF ts:=overF_step ts fun t _=>overF_any t
termination_by ts.size
end Go.Proofs.YtngdieldgnlogaaGreatDoor
