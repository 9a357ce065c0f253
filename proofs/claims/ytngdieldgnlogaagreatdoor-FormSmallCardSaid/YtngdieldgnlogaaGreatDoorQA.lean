/- Lists of formulas as rows: what the program's Parts and the reference's hand back. Symbols of both sides: the law's comparison of two lists. What the law asks of one formula: the region in which the formula's copies are made, and small things. -/
import Derived.Test.YtngdieldgnlogaaGreatDoorQU
import Derived.Test.YtngdieldgnlogaaGreatDoorQP
import Derived.Test.YtngdieldgnlogaaGreatDoorQS
import Derived.Test.YtngdieldgnlogaaGreatDoorQI
import Derived.Test.YtngdieldgnlogaaGreatDoorQV
import Derived.Test.YtngdieldgnlogaaGreatDoorRH
import Derived.Test.YtngdieldgnlogaaGreatDoorQT
import Derived.Test.YtngdieldgnlogaaGreatDoorQO
import Derived.Test.YtngdieldgnlogaaGreatDoorQN
import Derived.Test.YtngdieldgnlogaaGreatDoorSW
import Derived.Test.YtngdieldgnlogaaGreatDoorQF
namespace Go.Proofs.YtngdieldgnlogaaGreatDoor
open Go Go.RowKit
set_option maxRecDepth 100000
set_option linter.unusedVariables false
theorem owns_wc {V:World} {B g n c z:Nat} {e:TypeId} {xs:List Value} (h:V.ownsRow B e z (.slice (some ⟨g,0,none⟩) n c) n xs) {j:Nat} {u:Value} (hu:xs[j]? = some u):Wc V g j u:=by
 refine⟨?_,?_⟩
 ·have:=h.cells (g:=g) rfl j u hu
  by_cases e:j=0
  ·subst e;simpa[Addr.add] using this
  ·simpa[Addr.add,e] using this
 ·obtain⟨-,⟨e,-⟩ | ⟨g',cap,cur,e,-,hb,-⟩⟩:=h
  ·cases e
  ·cases e
   unfold World.frozen?
   simp[hb]
theorem sps_fs {V:World} {g:Nat}:∀ {l:List Value} {r:List FT} {S:Nat→Prop} {o:Nat},Sps V S l r→(∀ j u,(flatV l)[j]? = some u→Wc V g (o+j) u)→FsSp V (toFs r) g o S
 | [],[],_,_,_,_=>trivial
 | _ :: l,f :: r,S,o,⟨S1,S2,q1,q2,⟨sa,ss,T1,T2,hv,u1,u2,h1,h2⟩,h3⟩,hc=>by
  subst hv
  have hf:flatV (fval f sa ss :: l)=[.int .u8 f.op,.string f.n,sa,ss] ++ flatV l:=rfl
  rw[hf] at hc
  refine⟨hc 0 _ rfl,hc 1 _ rfl,T1,T2,S2,fun x hx=>q1 x (u1 x hx),fun x hx=>⟨q1 x (u2 x hx).1,(u2 x hx).2⟩,fun x hx=>⟨(q2 x hx).1,fun h=>(q2 x hx).2 (u1 x h),fun h=>(q2 x hx).2 (u2 x h).1⟩,⟨sa,hc 2 _ rfl,h1⟩,⟨ss,hc 3 _ rfl,h2⟩,sps_fs h3 fun j u hj=>?_⟩
  rw[show o+4+j=o+(j+4) by omega]
  exact hc (j+4) u (by simpa using hj)
theorem Sps.mono {V:World} {S S':Nat→Prop} (hs:∀ x,S x→S' x):∀ {l:List Value} {r:List FT},Sps V S l r→Sps V S' l r
 | [],[],_=>trivial
 | _ :: _,_ :: _,⟨S1,S2,q1,q2,h1,h2⟩=>⟨S1,S2,fun x h=>hs x (q1 x h),fun x h=>⟨hs x (q2 x h).1,(q2 x h).2⟩,h1,h2⟩
def partsL (f:FT):Fs:=if f.size≤1000 then toFs (pickedT f.parts) else .nil
theorem parts_sp {f:FT} {V:World} {lo:Nat} {s:Value} (h:PartsR f lo s V):FSp V (partsL f) s (Rg lo V.heap.size):=by
 obtain⟨h1,rfl⟩ | ⟨hs,l1,hown,hsp⟩:=h
 ·unfold partsL
  rw[if_neg (by omega)]
  exact⟨none,0,rfl,.inl rfl⟩
 unfold partsL
 rw[if_pos hs]
 obtain⟨-,⟨rfl,hz⟩ | ⟨g,cap,cur,rfl,hg,hb,-⟩⟩:=id hown
 ·exact⟨none,0,by rw[toFs_len,hz],.inl (by rw[toFs_len,hz])⟩
 ·have hlt:g < V.heap.size:=(Array.getElem?_eq_some_iff.1 hb).1
  exact⟨some ⟨g,0,none⟩,cap,by rw[toFs_len],.inr ⟨g,0,rfl,⟨hg,hlt⟩,sps_fs (Sps.mono (fun x hx=>⟨hx.1,fun e=>hx.2 (by rw[e];rfl)⟩) hsp) fun j u hu=>by rw[Nat.zero_add];exact owns_wc hown hu⟩⟩
theorem vs_fs {U V:World} (hE:Ext U V) {g:Nat}:∀ {l:List Value} {r:List FT} {o:Nat},VS U l r→(∀ j u,(flatV l)[j]? = some u→V.cell? ⟨g,o+j,none⟩=some u)→FsAt V (toFs r) g o
 | [],[],_,_,_=>trivial
 | _ :: l,f :: r,o,⟨⟨sa,ss,hv,h1,h2⟩,h3⟩,hc=>by
  subst hv
  have hf:flatV (fval f sa ss :: l)=[.int .u8 f.op,.string f.n,sa,ss] ++ flatV l:=rfl
  rw[hf] at hc
  simp only[toFs,FsAt]
  refine⟨hc 0 _ rfl,hc 1 _ rfl,⟨sa,hc 2 _ rfl,h1.imp fun b o hh=>TsAt.kept hE hh⟩,⟨ss,hc 3 _ rfl,h2.imp fun b o hh=>FsAt.kept hE hh⟩,vs_fs hE h3 fun j u hj=>?_⟩
  rw[show o+4+j=o+(j+4) by omega]
  exact hc (j+4) u (by simpa using hj)
theorem partsV_fs {f:FT} {w V:World} {s:Value} (hb:Below w.heap.size w V) (h:PartsV f w s V):FSl V (partsL f) s:=by
 obtain⟨h1,rfl⟩ | ⟨hs,l1,hown,hvs⟩:=h
 ·unfold partsL
  rw[if_neg (by omega)]
  exact⟨none,0,rfl,.inl rfl⟩
 unfold partsL
 rw[if_pos hs]
 obtain⟨-,⟨rfl,hz⟩ | ⟨g,cap,cur,rfl,hg,hbk,-⟩⟩:=id hown
 ·exact⟨none,0,by rw[toFs_len,hz],.inl (by rw[toFs_len,hz])⟩
 ·exact⟨some ⟨g,0,none⟩,cap,by rw[toFs_len],.inr ⟨g,0,rfl,vs_fs (Ext.of_below hb) hvs fun j u hu=>by rw[Nat.zero_add];exact(owns_wc hown hu).1⟩⟩
theorem picked_mem (f:FT):∀ x∈pickedT f.parts,x.size≤f.size:=fun x hx=>by
 have:=(picked_spec f.parts [] List.nodup_nil).2.1 x
 exact mem_parts_le ((this.1 hx).resolve_left (by simp))
theorem picked_size (f:FT):(partsL f).size≤1000000:=by
 unfold partsL
 by_cases hs:f.size≤1000
 rotate_left
 ·rw[if_neg hs];simp[Fs.size]
 rw[if_pos hs]
 have h1:=toFs_size (pickedT f.parts) (picked_mem f)
 have h2:=(picked_spec f.parts [] List.nodup_nil).2.2.2
 have h3:=f.length_all
 have h4:(pickedT f.parts).length≤1000:=by unfold pickedT;simp only[List.length_nil,Nat.zero_add] at h2;omega
 exact Nat.le_trans h1 (Nat.mul_le_mul h4 hs)
end Go.Proofs.YtngdieldgnlogaaGreatDoor
namespace Go.Proofs.YtngdieldgnlogaaGreatDoor
open Go Go.RowKit
set_option maxRecDepth 100000
set_option linter.unusedVariables false
theorem SyAt.cell {W:World}:∀ {l:List Sy} {b o k:Nat} (h:k < l.length),SyAt W l b o→W.cell? ⟨b,o+k*2,none⟩=some (.string l[k].1)∧W.cell? ⟨b,o+k*2+1,none⟩=some (.int .i64 l[k].2)
 | (s,x) :: r,b,o,0,_,⟨h0,h1,_⟩=>⟨h0,h1⟩
 | (s,x) :: r,b,o,k+1,h,⟨_,_,h2⟩=>by
  have:=SyAt.cell (k:=k) (by simpa using h) h2
  rw[show o+2+k*2=o+(k+1)*2 by omega] at this
  simpa using this
theorem f56_0 {W:World} {b o:Nat}:(Instr.fieldAt 56 (.pointer (some ⟨b,o,none⟩)) 0).run Tryz.prog W=.ok (.pointer (some ⟨b,o,none⟩)) W:=by
 simp[Instr.fieldAt,go_sem]
theorem f56_1 {W:World} {b o:Nat}:(Instr.fieldAt 56 (.pointer (some ⟨b,o,none⟩)) 1).run Tryz.prog W=.ok (.pointer (some ⟨b,o+1,none⟩)) W:=by
 simp[Instr.fieldAt,go_sem]
theorem f84_0 {W:World} {b o:Nat}:(Instr.fieldAt 84 (.pointer (some ⟨b,o,none⟩)) 0).run Tryz.prog W=.ok (.pointer (some ⟨b,o,none⟩)) W:=by
 simp[Instr.fieldAt,go_sem]
theorem f84_1 {W:World} {b o:Nat}:(Instr.fieldAt 84 (.pointer (some ⟨b,o,none⟩)) 1).run Tryz.prog W=.ok (.pointer (some ⟨b,o+1,none⟩)) W:=by
 simp[Instr.fieldAt,go_sem]
theorem l9 {W:World} {b o:Nat} {s:ByteArray} (h:W.cell? ⟨b,o,none⟩=some (.string s)):(Instr.loadAt 9 (.pointer (some ⟨b,o,none⟩))).run Tryz.prog W=.ok (.string s) W:=by
 simp[Instr.loadAt,go_sem,h]
theorem l3 {W:World} {b o:Nat} {x:Int} (h:W.cell? ⟨b,o,none⟩=some (.int .i64 x)):(Instr.loadAt 3 (.pointer (some ⟨b,o,none⟩))).run Tryz.prog W=.ok (.int .i64 x) W:=by
 simp[Instr.loadAt,go_sem,h]
theorem i42 {W:World} {b k n c:Nat} (hk:k < n):(Instr.indexAt 42 (.slice (some ⟨b,0,none⟩) n c) (.int .i64 (k:Int))).run Tryz.prog W=.ok (.pointer (some ⟨b,k*2,none⟩)) W:=by
 have h1:(k:Int) < (n:Int):=by omega
 have h0:(0:Int)≤(k:Int):=by omega
 simp[Instr.indexAt,go_sem,h0,hk]
theorem i40 {W:World} {b k n c:Nat} (hk:k < n):(Instr.indexAt 40 (.slice (some ⟨b,0,none⟩) n c) (.int .i64 (k:Int))).run Tryz.prog W=.ok (.pointer (some ⟨b,k*2,none⟩)) W:=by
 have h1:(k:Int) < (n:Int):=by omega
 have h0:(0:Int)≤(k:Int):=by omega
 simp[Instr.indexAt,go_sem,h0,hk]
theorem neq9 {W:World} (a:ByteArray):(binOp .neq 9 (.string a) (.string a)).run Tryz.prog W=.ok (.bool false) W:=by
 go_simp
theorem neq3 {W:World} (a:Int):(binOp .neq 3 (.int .i64 a) (.int .i64 a)).run Tryz.prog W=.ok (.bool false) W:=by
 go_simp
theorem gneq3 (x y:Operand) (a b:Int) (w:World):(eqGuard .neq 3 x y (.int .i64 a) (.int .i64 b)).run Tryz.prog w=.ok () w:=by
 simp[eqGuard]
set_option maxHeartbeats 4000000 in
theorem symbols_any (l:List Sy) (va vb:Value) (w:World) (ha:SySl w l va) (hb:SySl w l vb) (hn:l.length≤1000000) :
  Calls Tryz.prog 28 #[va,vb] w fun e w'=>e=.returned (.bool true)∧Below w.heap.size w w':=by
 obtain⟨p,c,rfl,hp⟩:=ha
 obtain⟨p',c',rfl,hp'⟩:=hb
 have hph:=h_X hp
 have hph':=h_X hp'
 clear hp hp'
 go_enter Tryz.func28,Tryz.ntmps28
 go_wp2_with fail
 go_loopw [5] (fun i wr=>∃ k:Nat,i=.int .i64 (k:Int)∧k≤l.length∧Below w.heap.size w wr) (fun i _=>l.length - (intOf i).toNat)
 case atStart=>exact⟨0,rfl,Nat.zero_le _,Below.refl _ _⟩
 case round =>
  obtain⟨k,rfl,hkl,hbw⟩:=hrel
  have hbwh:=h_X hbw
  by_cases hk:k < l.length
  ·have hki:(k:Int) < (l.length:Int):=by omega
   have hk0:(0:Int)≤(k:Int):=by omega
   have hkw:IntKind.i64.wrap ((k:Int)+1)=(k:Int)+1:=IntWalk.i64_in _ (by omega)
   obtain⟨g,rfl,hat⟩:=hph.out.resolve_left (by omega)
   obtain⟨g',rfl,hat'⟩:=hph'.out.resolve_left (by omega)
   obtain⟨d0,d1⟩:=(SyAt.below hbw hat).cell hk
   obtain⟨e0,e1⟩:=(SyAt.below hbw hat').cell hk
   rw[Nat.zero_add] at d0 d1 e0 e1
   generalize l[k].1=s at *
   generalize l[k].2=x at *
   clear hat hat' hbw
   go_wp2_with fail
   have hok:okK [(0,17,.slice (some ⟨g,0,none⟩) l.length c),(1,18,.int .i64 (k:Int)),(2,19,.pointer (some ⟨g,k*2,none⟩)),(3,20,.pointer (some ⟨g,k*2,none⟩)),(4,21,.string s),(5,22,.slice (some ⟨g',0,none⟩) l.length c'),(6,23,.int .i64 (k:Int)),(7,24,.pointer (some ⟨g',k*2,none⟩)),(8,25,.pointer (some ⟨g',k*2,none⟩)),(9,26,.string s),(10,27,.bool false),(11,28,.bool false),(12,29,.slice (some ⟨g,0,none⟩) l.length c),(13,30,.int .i64 (k:Int)),(14,31,.pointer (some ⟨g,k*2,none⟩)),(15,32,.pointer (some ⟨g,k*2+1,none⟩)),(16,33,.int .i64 x),(17,34,.slice (some ⟨g',0,none⟩) l.length c'),(18,35,.int .i64 (k:Int)),(19,36,.pointer (some ⟨g',k*2,none⟩)),(20,37,.pointer (some ⟨g',k*2+1,none⟩)),(21,38,.int .i64 x),(22,39,.bool false),(23,40,.bool false)] []=true:=by kernel_rfl
   refine wp_region_run (by kernel_rfl) 41 [17,18,19,20,21,22,23,24,25,26,27,28,29,30,31,32,33,34,35,36,37,38,39,40] (JK wr (okL hok) (okP hok)) (by kernel_rfl) rfl (JK.start _ _) ?hst24 ?hend24
   case hst24 =>
    have hst:∀ p∈okP hok,Stb p.2.2:=fun p hp=>(by cases hp)
    refine⟨?_,?_,?_,?_,?_,?_,?_,?_,?_,?_,?_,?_,?_,?_,?_,?_,?_,?_,?_,?_,?_,?_,?_,?_,trivial⟩
    ·rintro l gv W hun xD hcl hJ hg ha hp
     refine' op_val ?h1 ?w1 ?r1 ?K1
     case h1=>rfl
     case w1=>exact rfl
     case r1=>exact(ex_move rfl (eval_tmp ((ha 0 (by kernel_rfl)).trans rfl)))
     case K1=>exact⟨_,hp 17 _ (by kernel_rfl),JK.M hok hst hJ 0 rfl⟩
    ·rintro l gv W hun xD hcl hJ hg ha hp
     refine' op_val ?h2 ?w2 ?r2 ?K2
     case h2=>rfl
     case w2=>exact rfl
     case r2=>exact(ex_move rfl (eval_tmp ((ha 5 (by kernel_rfl)).trans rfl)))
     case K2=>exact⟨_,hp 18 _ (by kernel_rfl),JK.M hok hst hJ 1 rfl⟩
    ·rintro l gv W hun xD hcl hJ hg ha hp
     refine' op_val ?h3 ?w3 ?r3 ?K3
     case h3=>rfl
     case w3=>exact rfl
     case r3=>exact(ex_indexAddr rfl (lE (hg 17 (by kernel_rfl)) hJ.lit 0 rfl (xD 0 (by kernel_rfl))) (lE (hg 18 (by kernel_rfl)) hJ.lit 1 rfl (xD 1 (by kernel_rfl))) (i40 hk))
     case K3=>exact⟨_,hp 19 _ (by kernel_rfl),JK.M hok hst hJ 2 rfl⟩
    ·rintro l gv W hun xD hcl hJ hg ha hp
     refine' op_val ?h4 ?w4 ?r4 ?K4
     case h4=>rfl
     case w4=>exact rfl
     case r4=>exact(ex_field rfl (lE (hg 19 (by kernel_rfl)) hJ.lit 2 rfl (xD 2 (by kernel_rfl))) f56_0)
     case K4=>exact⟨_,hp 20 _ (by kernel_rfl),JK.M hok hst hJ 3 rfl⟩
    ·rintro l gv W hun xD hcl hJ hg ha hp
     refine' op_val ?h5 ?w5 ?r5 ?K5
     case h5=>rfl
     case w5=>exact rfl
     case r5=>exact(ex_load rfl (lE (hg 20 (by kernel_rfl)) hJ.lit 3 rfl (xD 3 (by kernel_rfl))) (l9 (c_B hJ.low d0)))
     case K5=>exact⟨_,hp 21 _ (by kernel_rfl),JK.M hok hst hJ 4 rfl⟩
    ·rintro l gv W hun xD hcl hJ hg ha hp
     refine' op_val ?h6 ?w6 ?r6 ?K6
     case h6=>rfl
     case w6=>exact rfl
     case r6=>exact(ex_move rfl (eval_tmp ((ha 1 (by kernel_rfl)).trans rfl)))
     case K6=>exact⟨_,hp 22 _ (by kernel_rfl),JK.M hok hst hJ 5 rfl⟩
    ·rintro l gv W hun xD hcl hJ hg ha hp
     refine' op_val ?h7 ?w7 ?r7 ?K7
     case h7=>rfl
     case w7=>exact rfl
     case r7=>exact(ex_move rfl (eval_tmp ((ha 5 (by kernel_rfl)).trans rfl)))
     case K7=>exact⟨_,hp 23 _ (by kernel_rfl),JK.M hok hst hJ 6 rfl⟩
    ·rintro l gv W hun xD hcl hJ hg ha hp
     refine' op_val ?h8 ?w8 ?r8 ?K8
     case h8=>rfl
     case w8=>exact rfl
     case r8=>exact(ex_indexAddr rfl (lE (hg 22 (by kernel_rfl)) hJ.lit 5 rfl (xD 5 (by kernel_rfl))) (lE (hg 23 (by kernel_rfl)) hJ.lit 6 rfl (xD 6 (by kernel_rfl))) (i42 hk))
     case K8=>exact⟨_,hp 24 _ (by kernel_rfl),JK.M hok hst hJ 7 rfl⟩
    ·rintro l gv W hun xD hcl hJ hg ha hp
     refine' op_val ?h9 ?w9 ?r9 ?K9
     case h9=>rfl
     case w9=>exact rfl
     case r9=>exact(ex_field rfl (lE (hg 24 (by kernel_rfl)) hJ.lit 7 rfl (xD 7 (by kernel_rfl))) f84_0)
     case K9=>exact⟨_,hp 25 _ (by kernel_rfl),JK.M hok hst hJ 8 rfl⟩
    ·rintro l gv W hun xD hcl hJ hg ha hp
     refine' op_val ?h10 ?w10 ?r10 ?K10
     case h10=>rfl
     case w10=>exact rfl
     case r10=>exact(ex_load rfl (lE (hg 25 (by kernel_rfl)) hJ.lit 8 rfl (xD 8 (by kernel_rfl))) (l9 (c_B hJ.low e0)))
     case K10=>exact⟨_,hp 26 _ (by kernel_rfl),JK.M hok hst hJ 9 rfl⟩
    ·rintro l gv W hun xD hcl hJ hg ha hp
     refine' op_val ?h11 ?w11 ?r11 ?K11
     case h11=>rfl
     case w11=>exact rfl
     case r11=>exact(ex_bin rfl (lE (hg 21 (by kernel_rfl)) hJ.lit 4 rfl (xD 4 (by kernel_rfl))) (lE (hg 26 (by kernel_rfl)) hJ.lit 9 rfl (xD 9 (by kernel_rfl))) (guard_str _ _ _ _ _ W) (neq9 s))
     case K11=>exact⟨_,hp 27 _ (by kernel_rfl),JK.M hok hst hJ 10 rfl⟩
    ·rintro l gv W hun xD hcl hJ hg ha hp
     refine' op_val ?h12 ?w12 ?r12 ?K12
     case h12=>rfl
     case w12=>exact rfl
     case r12=>exact(ex_move rfl (lE (hg 27 (by kernel_rfl)) hJ.lit 10 rfl (xD 10 (by kernel_rfl))))
     case K12=>exact⟨_,hp 28 _ (by kernel_rfl),JK.M hok hst hJ 11 rfl⟩
    ·rintro l gv W hun xD hcl hJ hg ha hp
     have hgd:=gD (hg 28 (by kernel_rfl)) hJ.lit 11 rfl (xD 11 (by kernel_rfl))
     refine' op_val ?h13 ?w13 ?r13 ?K13
     case h13=>rfl
     case w13=>exact(wants_yes false rfl (by kernel_rfl) hgd)
     case r13=>exact(ex_move rfl (eval_tmp ((ha 0 (by kernel_rfl)).trans rfl)))
     case K13=>exact⟨_,hp 29 _ (by kernel_rfl),JK.M hok hst hJ 12 rfl⟩
    ·rintro l gv W hun xD hcl hJ hg ha hp
     have hgd:=gD (hg 28 (by kernel_rfl)) hJ.lit 11 rfl (xD 11 (by kernel_rfl))
     refine' op_val ?h14 ?w14 ?r14 ?K14
     case h14=>rfl
     case w14=>exact(wants_yes false rfl (by kernel_rfl) hgd)
     case r14=>exact(ex_move rfl (eval_tmp ((ha 5 (by kernel_rfl)).trans rfl)))
     case K14=>exact⟨_,hp 30 _ (by kernel_rfl),JK.M hok hst hJ 13 rfl⟩
    ·rintro l gv W hun xD hcl hJ hg ha hp
     have hgd:=gD (hg 28 (by kernel_rfl)) hJ.lit 11 rfl (xD 11 (by kernel_rfl))
     refine' op_val ?h15 ?w15 ?r15 ?K15
     case h15=>rfl
     case w15=>exact(wants_yes false rfl (by kernel_rfl) hgd)
     case r15=>exact(ex_indexAddr rfl (lE (hg 29 (by kernel_rfl)) hJ.lit 12 rfl (xD 12 (by kernel_rfl))) (lE (hg 30 (by kernel_rfl)) hJ.lit 13 rfl (xD 13 (by kernel_rfl))) (i40 hk))
     case K15=>exact⟨_,hp 31 _ (by kernel_rfl),JK.M hok hst hJ 14 rfl⟩
    ·rintro l gv W hun xD hcl hJ hg ha hp
     have hgd:=gD (hg 28 (by kernel_rfl)) hJ.lit 11 rfl (xD 11 (by kernel_rfl))
     refine' op_val ?h16 ?w16 ?r16 ?K16
     case h16=>rfl
     case w16=>exact(wants_yes false rfl (by kernel_rfl) hgd)
     case r16=>exact(ex_field rfl (lE (hg 31 (by kernel_rfl)) hJ.lit 14 rfl (xD 14 (by kernel_rfl))) f56_1)
     case K16=>exact⟨_,hp 32 _ (by kernel_rfl),JK.M hok hst hJ 15 rfl⟩
    ·rintro l gv W hun xD hcl hJ hg ha hp
     have hgd:=gD (hg 28 (by kernel_rfl)) hJ.lit 11 rfl (xD 11 (by kernel_rfl))
     refine' op_val ?h17 ?w17 ?r17 ?K17
     case h17=>rfl
     case w17=>exact(wants_yes false rfl (by kernel_rfl) hgd)
     case r17=>exact(ex_load rfl (lE (hg 32 (by kernel_rfl)) hJ.lit 15 rfl (xD 15 (by kernel_rfl))) (l3 (c_B hJ.low d1)))
     case K17=>exact⟨_,hp 33 _ (by kernel_rfl),JK.M hok hst hJ 16 rfl⟩
    ·rintro l gv W hun xD hcl hJ hg ha hp
     have hgd:=gD (hg 28 (by kernel_rfl)) hJ.lit 11 rfl (xD 11 (by kernel_rfl))
     refine' op_val ?h18 ?w18 ?r18 ?K18
     case h18=>rfl
     case w18=>exact(wants_yes false rfl (by kernel_rfl) hgd)
     case r18=>exact(ex_move rfl (eval_tmp ((ha 1 (by kernel_rfl)).trans rfl)))
     case K18=>exact⟨_,hp 34 _ (by kernel_rfl),JK.M hok hst hJ 17 rfl⟩
    ·rintro l gv W hun xD hcl hJ hg ha hp
     have hgd:=gD (hg 28 (by kernel_rfl)) hJ.lit 11 rfl (xD 11 (by kernel_rfl))
     refine' op_val ?h19 ?w19 ?r19 ?K19
     case h19=>rfl
     case w19=>exact(wants_yes false rfl (by kernel_rfl) hgd)
     case r19=>exact(ex_move rfl (eval_tmp ((ha 5 (by kernel_rfl)).trans rfl)))
     case K19=>exact⟨_,hp 35 _ (by kernel_rfl),JK.M hok hst hJ 18 rfl⟩
    ·rintro l gv W hun xD hcl hJ hg ha hp
     have hgd:=gD (hg 28 (by kernel_rfl)) hJ.lit 11 rfl (xD 11 (by kernel_rfl))
     refine' op_val ?h20 ?w20 ?r20 ?K20
     case h20=>rfl
     case w20=>exact(wants_yes false rfl (by kernel_rfl) hgd)
     case r20=>exact(ex_indexAddr rfl (lE (hg 34 (by kernel_rfl)) hJ.lit 17 rfl (xD 17 (by kernel_rfl))) (lE (hg 35 (by kernel_rfl)) hJ.lit 18 rfl (xD 18 (by kernel_rfl))) (i42 hk))
     case K20=>exact⟨_,hp 36 _ (by kernel_rfl),JK.M hok hst hJ 19 rfl⟩
    ·rintro l gv W hun xD hcl hJ hg ha hp
     have hgd:=gD (hg 28 (by kernel_rfl)) hJ.lit 11 rfl (xD 11 (by kernel_rfl))
     refine' op_val ?h21 ?w21 ?r21 ?K21
     case h21=>rfl
     case w21=>exact(wants_yes false rfl (by kernel_rfl) hgd)
     case r21=>exact(ex_field rfl (lE (hg 36 (by kernel_rfl)) hJ.lit 19 rfl (xD 19 (by kernel_rfl))) f84_1)
     case K21=>exact⟨_,hp 37 _ (by kernel_rfl),JK.M hok hst hJ 20 rfl⟩
    ·rintro l gv W hun xD hcl hJ hg ha hp
     have hgd:=gD (hg 28 (by kernel_rfl)) hJ.lit 11 rfl (xD 11 (by kernel_rfl))
     refine' op_val ?h22 ?w22 ?r22 ?K22
     case h22=>rfl
     case w22=>exact(wants_yes false rfl (by kernel_rfl) hgd)
     case r22=>exact(ex_load rfl (lE (hg 37 (by kernel_rfl)) hJ.lit 20 rfl (xD 20 (by kernel_rfl))) (l3 (c_B hJ.low e1)))
     case K22=>exact⟨_,hp 38 _ (by kernel_rfl),JK.M hok hst hJ 21 rfl⟩
    ·rintro l gv W hun xD hcl hJ hg ha hp
     have hgd:=gD (hg 28 (by kernel_rfl)) hJ.lit 11 rfl (xD 11 (by kernel_rfl))
     refine' op_val ?h23 ?w23 ?r23 ?K23
     case h23=>rfl
     case w23=>exact(wants_yes false rfl (by kernel_rfl) hgd)
     case r23=>exact(ex_bin rfl (lE (hg 33 (by kernel_rfl)) hJ.lit 16 rfl (xD 16 (by kernel_rfl))) (lE (hg 38 (by kernel_rfl)) hJ.lit 21 rfl (xD 21 (by kernel_rfl))) (gneq3 _ _ _ _ W) (neq3 x))
     case K23=>exact⟨_,hp 39 _ (by kernel_rfl),JK.M hok hst hJ 22 rfl⟩
    ·rintro l gv W hun xD hcl hJ hg ha hp
     refine' op_val ?h24 ?w24 ?r24 ?K24
     case h24=>rfl
     case w24=>exact rfl
     case r24=>exact(ex_pickF rfl (lE (hg 28 (by kernel_rfl)) hJ.lit 11 rfl (xD 11 (by kernel_rfl))) (lE (hg 39 (by kernel_rfl)) hJ.lit 22 rfl (xD 22 (by kernel_rfl))))
     case K24=>exact⟨_,hp 40 _ (by kernel_rfl),JK.M hok hst hJ 23 rfl⟩
   case hend24 =>
    rintro ll gv W9 hl hJ
    replace hl:=fun j h=>hl j (of_decide_eq_true h)
    have e17:=lT hJ.lit 0 rfl (hl 0 (by kernel_rfl))
    have e18:=lT hJ.lit 1 rfl (hl 1 (by kernel_rfl))
    have e19:=lT hJ.lit 2 rfl (hl 2 (by kernel_rfl))
    have e20:=lT hJ.lit 3 rfl (hl 3 (by kernel_rfl))
    have e21:=lT hJ.lit 4 rfl (hl 4 (by kernel_rfl))
    have e22:=lT hJ.lit 5 rfl (hl 5 (by kernel_rfl))
    have e23:=lT hJ.lit 6 rfl (hl 6 (by kernel_rfl))
    have e24:=lT hJ.lit 7 rfl (hl 7 (by kernel_rfl))
    have e25:=lT hJ.lit 8 rfl (hl 8 (by kernel_rfl))
    have e26:=lT hJ.lit 9 rfl (hl 9 (by kernel_rfl))
    have e27:=lT hJ.lit 10 rfl (hl 10 (by kernel_rfl))
    have e28:=lT hJ.lit 11 rfl (hl 11 (by kernel_rfl))
    have e29:=lT hJ.lit 12 rfl (hl 12 (by kernel_rfl))
    have e30:=lT hJ.lit 13 rfl (hl 13 (by kernel_rfl))
    have e31:=lT hJ.lit 14 rfl (hl 14 (by kernel_rfl))
    have e32:=lT hJ.lit 15 rfl (hl 15 (by kernel_rfl))
    have e33:=lT hJ.lit 16 rfl (hl 16 (by kernel_rfl))
    have e34:=lT hJ.lit 17 rfl (hl 17 (by kernel_rfl))
    have e35:=lT hJ.lit 18 rfl (hl 18 (by kernel_rfl))
    have e36:=lT hJ.lit 19 rfl (hl 19 (by kernel_rfl))
    have e37:=lT hJ.lit 20 rfl (hl 20 (by kernel_rfl))
    have e38:=lT hJ.lit 21 rfl (hl 21 (by kernel_rfl))
    have e39:=lT hJ.lit 22 rfl (hl 22 (by kernel_rfl))
    have e40:=lT hJ.lit 23 rfl (hl 23 (by kernel_rfl))
    simp only[zipV,List.map_cons,List.map_nil,puts,Act.put,List.setIfInBounds_toArray,List.set_cons_succ,List.set_cons_zero,e17,e18,e19,e20,e21,e22,e23,e24,e25,e26,e27,e28,e29,e30,e31,e32,e33,e34,e35,e36,e37,e38,e39,e40]
    have hlow:=h_X hJ.low
    clear e17 e18 e19 e20 e21 e22 e23 e24 e25 e26 e27 e28 e29 e30 e31 e32 e33 e34 e35 e36 e37 e38 e39 e40 hJ hl
    have hbx:=h_X (bS hbwh.out hlow.out)
    clear hlow d0 d1 e0 e1
    go_wp2
    go_roundw
    case rel=>exact⟨k+1,rfl,hk,hbx.out⟩
    case measure=>simp[intOf];omega
  ·have hki:¬ (k:Int) < (l.length:Int):=by omega
   clear hbw
   go_wp2_with fail
   go_ret
   exact⟨rfl,hbwh.out⟩
end Go.Proofs.YtngdieldgnlogaaGreatDoor
namespace Go.Proofs.YtngdieldgnlogaaGreatDoor
open Go Go.RowKit
set_option maxRecDepth 100000
set_option linter.unusedVariables false
theorem box_of {g:FT} {sa ss:Value} {w W:World} (hb:Below w.heap.size w W) (hv:FVal W g (fval g sa ss)) (t:TypeId) :
  ∃ W',W.alloc (.cells #[.int .u8 g.op,.string g.n,sa,ss] t)=W'∧Below W.heap.size W W'∧FS g sa ss w W.heap.size W':=by
 have k:=FS.start (t:=t) hv
 exact⟨_,rfl,bel_laid _ _,k.1,k.2.1,k.2.2.1,k.2.2.2.1,bS hb (bel_laid _ _),k.2.2.2.2.2⟩
theorem predicates_all (f:FT) (hs:f.size≤1000000) (v:Value) (w:World) (hv:FVal w f v):Calls Tryz.prog 29 #[v] w fun e w'=>(∃ v',e=.returned v'∧SySl w' (uniq (ms (f.parts.flatMap symP))) v')∧Below w.heap.size w w' :=
 predicates_any _ _ inOrder_all ordS_put f trivial hs v w hv
theorem functions_all (f:FT) (hs:f.size≤1000000) (v:Value) (w:World) (hv:FVal w f v):Calls Tryz.prog 31 #[v] w fun e w'=>(∃ v',e=.returned v'∧SySl w' (uniq (ms (f.terms.flatMap symT))) v')∧Below w.heap.size w w' :=
 functions_any _ _ inOrder_all ordS_put f trivial hs v w hv
theorem refPreds_all (f:FT) (hs:f.size≤1000000) (v:Value) (w:World) (hv:FVal w f v):Calls Tryz.prog 30 #[v] w fun e w'=>(∃ v',e=.returned v'∧SySl w' (uniq (ms (f.parts.flatMap symP))) v')∧Below w.heap.size w w':=by
 have h:=refPreds_any insC_any f v w hv hs
 unfold insL at h
 rw[fold_uniq] at h
 exact h
theorem refFunctions_all (f:FT) (hs:f.size≤1000000) (v:Value) (w:World) (hv:FVal w f v):Calls Tryz.prog 32 #[v] w fun e w'=>(∃ v',e=.returned v'∧SySl w' (uniq (ms (f.terms.flatMap symT))) v')∧Below w.heap.size w w':=by
 have h:=refFunctions_any insC_any f v w hv hs
 unfold insL at h
 rw[fold_uniq] at h
 exact h
theorem preds_len (f:FT) (hs:f.size≤1000000):(uniq (ms (f.parts.flatMap symP))).length≤1000000:=by
 rw[←fold_uniq]
 have h1:=insL_len (f.parts.flatMap symP)
 unfold insL at h1
 have h2:=symP_len f.parts
 have h3:=f.length_all
 omega
theorem funcs_len (f:FT) (hs:f.size≤1000000):(uniq (ms (f.terms.flatMap symT))).length≤1000000:=by
 rw[←fold_uniq]
 have h1:=insL_len (f.terms.flatMap symT)
 unfold insL at h1
 have h2:=symT_len f.terms
 have h3:=f.length_all
 omega
theorem refParts_fs (f:FT) (hs:f.size≤1000000) (v:Value) (w:World) (hv:FVal w f v):Calls Tryz.prog 27 #[v] w fun e w'=>(∃ s,e=.returned s∧FSl w' (partsL f) s)∧Below w.heap.size w w' :=
 (refParts_any f v w hv hs).mono fun e w' ⟨⟨s,h1,h2⟩,h3⟩=>⟨⟨s,h1,partsV_fs h3 h2⟩,h3⟩
theorem stb_fs (L:Fs):Stb fun v W=>FSl W L v:=fun v W W' hb h=>FSl.below hb h
theorem stb_sy (l:List Sy):Stb fun v W=>SySl W l v:=fun v W W' hb h=>SySl.below hb h
theorem TsAt.both {W W':World}:∀ {t:Ts} {k b o b' o':Nat},TsAt W t b o→TsAt W' t b' o'→k < t.len→∃ (v:Bool) (n:ByteArray) (ts:Ts) (p p':Option Addr) (c c':Nat),
  (W.cell? ⟨b,o+k*3,none⟩=some (.bool v)∧W.cell? ⟨b,o+k*3+1,none⟩=some (.string n)∧W.cell? ⟨b,o+k*3+2,none⟩=some (.slice p ts.len c)∧TSl W ts (.slice p ts.len c)) ∧
  (W'.cell? ⟨b',o'+k*3,none⟩=some (.bool v)∧W'.cell? ⟨b',o'+k*3+1,none⟩=some (.string n)∧W'.cell? ⟨b',o'+k*3+2,none⟩=some (.slice p' ts.len c')∧TSl W' ts (.slice p' ts.len c'))∧ts.size≤t.size∧n.size+ts.wt≤t.wt
 | .cons v n ts r,0,b,o,b',o',⟨h0,h1,⟨s,h2,hs⟩,_⟩,⟨g0,g1,⟨s',g2,gs⟩,_⟩,_=>by
  obtain⟨p,c,rfl,-⟩:=id hs
  obtain⟨p',c',rfl,-⟩:=id gs
  exact⟨v,n,ts,p,p',c,c',⟨h0,h1,h2,hs⟩,⟨g0,g1,g2,gs⟩,by simp only[Ts.size];omega,by simp only[Ts.wt];omega⟩
 | .cons v n ts r,k+1,b,o,b',o',⟨_,_,_,hr⟩,⟨_,_,_,gr⟩,hk=>by
  obtain⟨v,n,t2,p,p',c,c',⟨h0,h1,h2,h3⟩,⟨g0,g1,g2,g3⟩,h4,h5⟩:=TsAt.both (k:=k) hr gr (by simp only[Ts.len] at hk;omega)
  rw[show o+3+k*3=o+(k+1)*3 by omega] at h0 h1 h2
  rw[show o'+3+k*3=o'+(k+1)*3 by omega] at g0 g1 g2
  exact⟨v,n,t2,p,p',c,c',⟨h0,h1,h2,h3⟩,⟨g0,g1,g2,g3⟩,by simp only[Ts.size];omega,by simp only[Ts.wt];omega⟩
structure JC (w0:World) (f:FT) (vin:Value) (l:Nat→Bool) (g:Nat→Value) (W:World):Prop where
 low:Below w0.heap.size w0 W
 i9:l 0=true→g 9=vin
 i11:l 2=true→g 11=vin
 own:l 1=true→∃ z1 z2,(w0.heap.size≤z1∧z1≤z2)∧z2≤W.heap.size∧FVSp W f (g 10) (Rg z1 z2)∧(l 4=true→∀ b,g 4=.pointer (some ⟨b,0,none⟩)→¬ Rg z1 z2 b) ∧
  (l 3=true→∃ z3 z4,z2≤z3∧z4≤W.heap.size∧FSp W (partsL f) (g 12) (Rg z3 z4)∧(l 4=true→∀ b,g 4=.pointer (some ⟨b,0,none⟩)→¬ Rg z3 z4 b))
 box:l 4=true→∃ b,g 4=.pointer (some ⟨b,0,none⟩)∧w0.heap.size≤b∧b < W.heap.size∧(l 5=false→Fr4' b W) ∧
  (l 5=true→∃ p m q n,g 10=fval f (.slice p f.ts.len m) (.slice q f.sub.len n)∧W.cell? ⟨b,0,none⟩=some (.int .u8 f.op)∧W.cell? ⟨b,1,none⟩=some (.string f.n)∧W.cell? ⟨b,2,none⟩=some (.slice p f.ts.len m)∧W.cell? ⟨b,3,none⟩=some (.slice q f.sub.len n))
 asg:l 6=true→g 5=g 12
section
variable {w0 : World} {f : FT} {vin : Value} {l : Nat → Bool} {g : Nat → Value} {W : World}
theorem JC.start (h:Below w0.heap.size w0 W) (g:Nat→Value):JC w0 f vin (fun _=>false) g W:=⟨h,(fun h=>by cases h),(fun h=>by cases h),(fun h=>by cases h),(fun h=>by cases h),(fun h=>by cases h)⟩
theorem JC.op0 (h:JC w0 f vin l g W):JC w0 f vin (upd l 0 true) (upd g 9 vin) W:=⟨h.low,fun _=>rfl,h.i11,h.own,h.box,h.asg⟩
theorem JC.op2 (h:JC w0 f vin l g W):JC w0 f vin (upd l 2 true) (upd g 11 vin) W:=⟨h.low,h.i9,fun _=>rfl,h.own,h.box,h.asg⟩
theorem JC.op6 (h:JC w0 f vin l g W):JC w0 f vin (upd l 6 true) (upd g 5 (g 12)) W:=⟨h.low,h.i9,h.i11,h.own,h.box,fun _=>rfl⟩
theorem JC.op1 (h:JC w0 f vin l g W) (h3:l 3=false) (h5:l 5=false) {v:Value} {W':World} (hb:Below W.heap.size W W') (hv:FVSp W' f v (Rg W.heap.size W'.heap.size)):JC w0 f vin (upd l 1 true) (upd g 10 v) W':=by
 refine⟨bS h.low hb,h.i9,h.i11,fun _=>⟨_,_,⟨h.low.size,hb.size⟩,Nat.le_refl _,hv,fun h4 b hb' hR=>?_,fun h3'=>?_⟩,fun h4=>?_,h.asg⟩
 ·obtain⟨b',e,-,hlt,-⟩:=h.box h4
  have e2:g 4=.pointer (some ⟨b,0,none⟩):=hb'
  rw[e] at e2
  cases e2
  have:=hR.1
  omega
 ·have:l 3=true:=h3'
  rw[h3] at this
  cases this
 ·obtain⟨b,e,h1,h2,h6,-⟩:=h.box h4
  exact⟨b,e,h1,Nat.lt_of_lt_of_le h2 hb.size,fun hh=>(h6 hh).below hb,fun h5'=>by have h7:l 5=true:=h5';rw[h5] at h7;cases h7⟩
theorem JC.op3 (h:JC w0 f vin l g W) (h1:l 1=true) (h5:l 5=false) (h6:l 6=false) {v:Value} {W':World} (hb:Below W.heap.size W W') (hv:FSp W' (partsL f) v (Rg W.heap.size W'.heap.size)):JC w0 f vin (upd l 3 true) (upd g 12 v) W':=by
 refine⟨bS h.low hb,h.i9,h.i11,fun _=>?_,fun h4=>?_,fun h6'=>?_⟩
 ·obtain⟨z1,z2,a1,a2,a3,a4,-⟩:=h.own h1
  refine⟨z1,z2,a1,Nat.le_trans a2 hb.size,a3.below hb,a4,fun _=>⟨_,_,a2,Nat.le_refl _,hv,fun h4 b hb' hR=>?_⟩⟩
  obtain⟨b',e,-,hlt,-⟩:=h.box h4
  have e2:g 4=.pointer (some ⟨b,0,none⟩):=hb'
  rw[e] at e2
  cases e2
  have:=hR.1
  omega
 ·obtain⟨b,e,h1,h2,h6,-⟩:=h.box h4
  exact⟨b,e,h1,Nat.lt_of_lt_of_le h2 hb.size,fun hh=>(h6 hh).below hb,fun h5'=>by have h7:l 5=true:=h5';rw[h5] at h7;cases h7⟩
 ·have:l 6=true:=h6'
  rw[h6] at this
  cases this
theorem JC.op4 (h:JC w0 f vin l g W) (h5:l 5=false):JC w0 f vin (upd l 4 true) (upd g 4 (.pointer (some ⟨W.heap.size,0,none⟩))) (W.alloc (.cells #[.int .u8 0,.string ⟨#[]⟩,.slice none 0 0,.slice none 0 0] 25)):=by
 have hb:=bel_laid W (.cells #[.int .u8 0,.string ⟨#[]⟩,.slice none 0 0,.slice none 0 0] 25)
 refine⟨bS h.low hb,h.i9,h.i11,fun h1=>?_,fun _=>?_,h.asg⟩
 ·obtain⟨z1,z2,a1,a2,a3,-,a5⟩:=h.own h1
  refine⟨z1,z2,a1,Nat.le_trans a2 hb.size,a3.below hb,fun _ b hb' hR=>?_,fun h3=>?_⟩
  ·have e2:Value.pointer (some ⟨W.heap.size,0,none⟩)=.pointer (some ⟨b,0,none⟩):=hb'
   cases e2
   have:=hR.2
   omega
  ·obtain⟨z3,z4,b1,b2,b3,-⟩:=a5 h3
   refine⟨z3,z4,b1,Nat.le_trans b2 hb.size,FSp.keep (fun _ _ _ _ hc=>hc.below hb) b3,fun _ b hb' hR=>?_⟩
   have e2:Value.pointer (some ⟨W.heap.size,0,none⟩)=.pointer (some ⟨b,0,none⟩):=hb'
   cases e2
   have:=hR.2
   omega
 ·exact⟨_,rfl,h.low.size,by simp,fun _=>Fr4'.new W,fun h5'=>by have h7:l 5=true:=h5';rw[h5] at h7;cases h7⟩
theorem JC.op5 (h:JC w0 f vin l g W) (h1:l 1=true) (h4:l 4=true) (h5:l 5=false):∃ W',(Instr.storeAt 25 (g 4) (g 10)).run Tryz.prog W=.ok () W'∧JC w0 f vin (upd l 5 true) g W':=by
 obtain⟨z1,z2,a1,a2,a3,a4,a5⟩:=h.own h1
 obtain⟨b,e,b1,b2,b3,-⟩:=h.box h4
 obtain⟨p,m,q,n,e10⟩:=a3.at.spelt
 obtain⟨W',hst,m0,m1,m2,m3,hk4,hcell4,hbel4,hs4⟩:=store_box (g:=f) (p:=p) (q:=q) (m:=m) (n:=n) (b3 h5)
 refine⟨W',by rw[e,e10];exact hst,hbel4 _ _ h.low b1,h.i9,h.i11,fun _=>⟨z1,z2,a1,by rw[hs4];exact a2,FVSp.keep (fun x i v hx hc=>hk4 x i v (fun hxb=>a4 h4 b e (hxb ▸ hx)) hc) a3,a4,fun h3=>?_⟩,fun _=>⟨b,e,b1,by rw[hs4];exact b2,(fun h=>by cases h),fun _=>⟨p,m,q,n,e10,m0,m1,m2,m3⟩⟩,h.asg⟩
 obtain⟨z3,z4,c1,c2,c3,c4⟩:=a5 h3
 exact⟨z3,z4,c1,by rw[hs4];exact c2,FSp.keep (fun x i v hx hc=>hk4 x i v (fun hxb=>c4 h4 b e (hxb ▸ hx)) hc) c3,c4⟩
end
theorem neqB (b:Bool) (W:World):(binOp .neq 4 (.bool b) (.bool b)).run Tryz.prog W=.ok (.bool false) W:=by
 cases b<;>simp[go_sem]
theorem neq35 (n:Int) (W:World):(binOp .neq 35 (.int .u32 n) (.int .u32 n)).run Tryz.prog W=.ok (.bool false) W:=by
 simp[go_sem]
theorem g35 (x y:Operand) (a b:Int) (w:World):(eqGuard .neq 35 x y (.int .u32 a) (.int .u32 b)).run Tryz.prog w=.ok () w:=by
 simp[eqGuard]
end Go.Proofs.YtngdieldgnlogaaGreatDoor
