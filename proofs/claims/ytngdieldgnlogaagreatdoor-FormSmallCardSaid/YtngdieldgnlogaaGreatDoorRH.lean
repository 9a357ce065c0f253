/- The reference's insertion. -/
import Derived.Test.YtngdieldgnlogaaGreatDoorQI
import Derived.Test.YtngdieldgnlogaaGreatDoorQV
namespace Go.Proofs.YtngdieldgnlogaaGreatDoor
open Go Go.RowKit
set_option maxRecDepth 100000
set_option linter.unusedVariables false
theorem info84:(Tryz.prog.info? 84).map (fun i=>(i.zero,i.size,i.bytes))=some (some (.agg #[.string ⟨#[]⟩,.int .i64 0]),2,24):=by kernel_rfl
theorem SyAt.cons_at {W:World} {y:Sy} {r:List Sy} {b o:Nat} (h:SyAt W (y :: r) b o):W.cell? ⟨b,o,none⟩=some (.string y.1)∧W.cell? ⟨b,o+1,none⟩=some (.int .i64 y.2)∧SyAt W r b (o+2):=by
 obtain⟨a,x⟩:=y;exact h
theorem fld0 {W:World} {b o:Nat}:(Instr.fieldAt 84 (.pointer (some ⟨b,o,none⟩)) 0).run Tryz.prog W=.ok (.pointer (some ⟨b,o,none⟩)) W:=by
 simp[Instr.fieldAt,go_sem]
theorem fld1 {W:World} {b o:Nat}:(Instr.fieldAt 84 (.pointer (some ⟨b,o,none⟩)) 1).run Tryz.prog W=.ok (.pointer (some ⟨b,o+1,none⟩)) W:=by
 simp[Instr.fieldAt,go_sem]
theorem ld9 {W:World} {b o:Nat} {s:ByteArray} (h:W.cell? ⟨b,o,none⟩=some (.string s)):(Instr.loadAt 9 (.pointer (some ⟨b,o,none⟩))).run Tryz.prog W=.ok (.string s) W:=by
 simp[Instr.loadAt,go_sem,h]
theorem ld3 {W:World} {b o:Nat} {x:Int} (h:W.cell? ⟨b,o,none⟩=some (.int .i64 x)):(Instr.loadAt 3 (.pointer (some ⟨b,o,none⟩))).run Tryz.prog W=.ok (.int .i64 x) W:=by
 simp[Instr.loadAt,go_sem,h]
theorem ix42 {W:World} {b k n c:Nat} (hk:k < n):(Instr.indexAt 42 (.slice (some ⟨b,0,none⟩) n c) (.int .i64 (k:Int))).run Tryz.prog W=.ok (.pointer (some ⟨b,k*2,none⟩)) W:=by
 have h1:(k:Int) < (n:Int):=by omega
 have h0:(0:Int)≤(k:Int):=by omega
 simp[Instr.indexAt,go_sem,h0,hk]
theorem wants_undef {ops:Array Oper} {a:Act} {j d:Nat} {o:Oper} (b:Bool) (hg:o.guard=some (j,b)) (hj:dstAt ops j=some d) (hd:a.tmps[d]? = some undef):Region.wanted o (yielded ops a.tmps)=false:=by
 have:((ops[j]?).bind (·.dst))=some d:=hj
 simp[Region.wanted,hg,yielded,this,hd,undef]
theorem gt_bytes (a b:List UInt8):(!Op.bytesLess a b && !a == b)=Op.bytesLess b a:=by
 rw[bytesLess_eq,bytesLess_eq]
 by_cases e:a=b
 ·subst e;simp[List.lt_irrefl]
 ·by_cases h:a < b
  ·have h2:¬ b < a:=fun h'=>List.lt_irrefl a (List.lt_trans h h')
   simp[h,h2]
  ·by_cases h2:b < a
   ·simp[h,h2,e]
   ·exact(e (List.le_antisymm (List.not_lt.1 h2) (List.not_lt.1 h))).elim
theorem gtr9 {W:World} {a b:ByteArray} {v:Bool} (h:Op.bytesLess b.toList a.toList=v):(binOp .gtr 9 (.string a) (.string b)).run Tryz.prog W=.ok (.bool v) W:=by
 subst h;go_simp;exact gt_bytes _ _
theorem eql9 {W:World} {a b:ByteArray} {v:Bool} (h:(a.toList == b.toList)=v):(binOp .eql 9 (.string a) (.string b)).run Tryz.prog W=.ok (.bool v) W:=by
 subst h;go_simp
theorem gtr3 {W:World} {a b:Int} {v:Bool} (h:decide (b < a)=v):(binOp .gtr 3 (.int .i64 a) (.int .i64 b)).run Tryz.prog W=.ok (.bool v) W:=by
 subst h;go_simp
theorem grd3 (x y:Operand) (a b:Int) (w:World):(eqGuard .gtr 3 x y (.int .i64 a) (.int .i64 b)).run Tryz.prog w=.ok () w:=by
 simp[eqGuard]
theorem SySl.of_owns {W:World} {B:Nat} {e:TypeId} {s:Value} {l:List Sy} (h:W.ownsRow B e 2 s l.length (flat l)):SySl W l s:=by
 obtain⟨h0,⟨rfl,hz⟩ | ⟨g,cap,cur,rfl,h1,h2⟩⟩:=id h
 ·exact⟨none,0,by rw[hz],.inl hz⟩
 ·exact SySl.of_row rfl h
set_option maxHeartbeats 8000000 in
theorem insC_any:InsC:=by
 intro l s x v w hsrt hsl hlen
 obtain⟨p,c,rfl,hp⟩:=hsl
 clear hsrt
 have hb1h:=h_X (bel_laid w (.cells #[.string s,.int .i64 x] 84))
 obtain⟨W1,hW1⟩:∃ W1,w.alloc (.cells #[.string s,.int .i64 x] 84)=W1:=⟨_,rfl⟩
 have hc0:W1.cell? ⟨w.heap.size,0,none⟩=some (.string s):=by rw[←hW1,cell_new];rfl
 have hc1:W1.cell? ⟨w.heap.size,1,none⟩=some (.int .i64 x):=by rw[←hW1,cell_new];rfl
 rw[hW1] at hb1h
 obtain⟨g,hg⟩:∃ g,w.heap.size=g:=⟨_,rfl⟩
 rw[hg] at hc0 hc1
 have hph:=h_X hp
 obtain⟨i0,hi,hz0,hz1,hz2⟩:=info_parts info84
 have hc0h:=h_X hc0
 have hc1h:=h_X hc1
 clear hp
 go_enter Tryz.func79,Tryz.ntmps79
 go_wp2_with fail
 clear hW1 hc0 hc1
 go_loopw [5,6,7] (fun out put i wr=>∃ (k:Nat) (pre r q:List Sy) (pb:Bool),i=.int .i64 (k:Int)∧l=pre ++ r∧pre.length=k∧(s,x)∉pre∧put=.bool pb∧(pb=true→(∃ y∈pre,ltS (s,x) y)∧q=putS (s,x) pre)∧(pb=false→(∀ y∈pre,¬ ltS (s,x) y)∧q=pre)∧wr.ownsRow W1.heap.size 84 2 out q.length (flat q)∧q.length≤k+1∧Below W1.heap.size W1 wr) (fun _ _ i _=>l.length - (intOf i).toNat)
 case atStart=>exact⟨0,[],l,[],false,rfl,rfl,rfl,by simp,rfl,(fun h=>by cases h),(fun _=>⟨(fun y h=>by cases h),rfl⟩),World.ownsRow_nil _ _ _ _,by simp,Below.refl _ _⟩
 case round =>
  obtain⟨k,pre,r,q,pb,rfl,hl,hk,hnot,rfl,hpt,hpf,hown,hq,hbw⟩:=hrel
  cases r with
  | nil =>
   have hln:l.length=k:=by rw[hl];simp[hk]
   have hki:¬ (k:Int) < (l.length:Int):=by omega
   have hpl:pre=l:=by rw[hl];simp
   subst hpl
   have hbwh:=h_X hbw
   have hownh:=h_X hown
   have hb0h:=hb1h
   have c0:=c_B hbw hc0h.out
   have c1:=c_B hbw hc1h.out
   cases pb with
   | true =>
    have hins:=h_X (show SySl wr (insR pre (s,x)) u5 from by unfold insR;rw[if_neg hnot,←(hpt rfl).2];exact SySl.of_owns hownh.out)
    clear hown hpt hpf hnot hl hbw
    go_wp2_with fail
    go_ret
    exact⟨⟨_,rfl,hins.out⟩,by have:=bS hb1h.out hbwh.out;first | exact this | (rw[hg] at this;exact this)⟩
   | false =>
    have hins:=h_X (show insR pre (s,x)=q ++ [(s,x)] from by unfold insR;rw[if_neg hnot,(hpf rfl).2,putS_end _ _ (hpf rfl).1])
    have hO:=hownh
    have hB:=hbwh
    clear hown hpt hpf hnot hl hbw
    have hbl:=bel_laid wr (.cells #[.string s,.int .i64 x] 84)
    have hoh:=h_X (owns_below hbl hO.out)
    have hlt2:∀ g',u5.ownBlock=some g'→W1.heap.size≤g'∧g' < (wr.alloc (.cells #[.string s,.int .i64 x] 84)).heap.size:=hoh.out.lt
    have hb4h:=h_X (bS hB.out hbl)
    have hszv:W1.heap.size≤wr.heap.size:=hB.out.size
    clear hbl hO hB
    go_wp2_with (at_builtin;refine wpList_append_own_at _ rfl _ _ 42 rfl W1.heap.size 84 i0 (.agg #[.string ⟨#[]⟩,.int .i64 0]) 2 24 Tryz.underlying42 hi hz0 hz1 hz2 rfl (by decide) _ _ _ rfl hoh.out ⟨wr.heap.size,0,none⟩ 1 1 [.string s,.int .i64 x] rfl rfl ?c1_1 ?c1_2 ?c1_3 ?c1_4 ?c1_5 ?_)
    (try case c1_1=>intro j u hu;rw[Addr.add_lit,Nat.zero_add,World.cell?_alloc_new];simpa using hu)
    case c1_2=>first | exact⟨rfl,rfl⟩ | (intro u hu;simp at hu;rcases hu with rfl | rfl<;>rfl)
    case c1_3=>unfold maxLen;omega
    case c1_4=>omega
    case c1_5=>first | omega | (rw[World.size_alloc];omega)
    intro vv w9 hown1 hgrow _ hob
    have hB:=h_X (show Below W1.heap.size W1 w9 from hb4h.out.grown hgrow hb4h.out.size (fun g' e=>(hlt2 g' e).1))
    have hO:=h_X (show w9.ownsRow W1.heap.size 84 2 vv (q ++ [(s,x)]).length (flat (q ++ [(s,x)])) by rw[flat_snoc];simp only[List.length_append,List.length_cons,List.length_nil,Nat.zero_add];exact hown1)
    clear hown1 hgrow hob hoh hlt2 hb4h hszv c0 c1
    have hfin:=h_X (show SySl w9 (insR pre (s,x)) vv from by rw[hins.out];exact SySl.of_owns hO.out)
    have hbz:=h_X (bS hb0h.out hB.out)
    clear hO hB hins
    go_wp2_with fail
    go_ret
    exact⟨⟨_,rfl,hfin.out⟩,by have:=hbz.out;first | exact this | (rw[hg] at this;exact this)⟩
  | cons y r =>
   have hkl:k < l.length:=by rw[hl];simp;omega
   have hki:(k:Int) < (l.length:Int):=by omega
   have hk0:(0:Int)≤(k:Int):=by omega
   have hkw:IntKind.i64.wrap ((k:Int)+1)=(k:Int)+1:=IntWalk.i64_in _ (by omega)
   obtain⟨b,rfl,hat⟩:=hph.out.resolve_left (by omega)
   have hcy:=(SyAt.parts (by rw[←hl];exact hat:SyAt w (pre ++ y :: r) b 0)).2.cons_at
   obtain⟨d0,d1,-⟩:=hcy
   rw[hk,Nat.zero_add] at d0 d1
   have z0:=c_B hb1h.out d0
   have z1:=c_B hb1h.out d1
   have z0h:=h_X z0
   have z1h:=h_X z1
   replace d0:=c_B hbw z0
   replace d1:=c_B hbw z1
   have c0:=c_B hbw hc0h.out
   have c1:=c_B hbw hc1h.out
   obtain⟨ys,yx⟩:=y
   by_cases he:(ys,yx)=(s,x)
   ·simp only[Prod.mk.injEq] at he
    obtain⟨rfl,rfl⟩:=he
    have hb1k:=hb1h
    clear hb1h z0h z1h
    go_wp2_with fail
    go_region_held3 (fun V:World=>V.cell? ⟨b,k*2,none⟩=some (.string ys)∧V.cell? ⟨b,k*2+1,none⟩=some (.int .i64 yx)∧V.cell? ⟨g,0,none⟩=some (.string ys)∧V.cell? ⟨g,1,none⟩=some (.int .i64 yx)∧Below wr.heap.size wr V) (first | assumption | exact⟨d0,d1,c0,c1,bel_drew wr⟩) (fail)
    have hmem:(ys,yx)∈l:=by rw[hl];simp
    have hfin:=h_X (show SySl (wr.drew) (insR l (ys,yx)) (.slice (some ⟨b,0,none⟩) (k+(r.length+1)) c) from by have hb1h:=hb1k;unfold insR;rw[if_pos hmem];exact⟨_,c,by rw[hl];simp[hk],.inr ⟨b,rfl,SyAt.below (bS hb1h.out (bS hbw (bel_drew wr))) hat⟩⟩)
    have hbz:=h_X (bS hb1k.out (bS hbw (bel_drew wr)))
    clear hown hpt hpf hl hnot hmem d0 d1 c0 c1 z0 z1 hat
    go_wp2_with fail
    go_ret
    exact⟨⟨_,rfl,hfin.out⟩,hbz.out⟩
   ·have hbwh:=h_X hbw
    have hownh:=h_X hown
    have hpth:=h_X hpt
    have hpfh:=h_X hpf
    have hnoth:=h_X hnot
    have hlh:=h_X hl
    have hath:=h_X hat
    have heh:=h_X he
    clear hown hpt hpf hnot hl hat z0 z1
    by_cases hs:ys.toList=s.toList
    ·have hs1:(ys.toList == s.toList)=true:=beq_iff_eq.2 hs
     have hx1:(yx == x)=false:=beq_eq_false_iff_ne.2 fun e=>he (by rw[e,ba_ext hs])
     have hlt:Op.bytesLess s.toList ys.toList=false:=by rw[hs];exact bytesLess_irrefl _
     clear he hs hbw
     go_wp2_with fail
     go_region_held3 (fun V:World=>V.cell? ⟨b,k*2,none⟩=some (.string ys)∧V.cell? ⟨b,k*2+1,none⟩=some (.int .i64 yx)∧V.cell? ⟨g,0,none⟩=some (.string s)∧V.cell? ⟨g,1,none⟩=some (.int .i64 x)∧Below wr.heap.size wr V) (first | assumption | exact⟨d0,d1,c0,c1,bel_drew wr⟩) (fail)
     clear hx1 d0 d1 c0 c1
     cases pb with
     | true =>
      have hlow6:=h_X (show Below W1.heap.size W1 wr.drew from bS hbwh.out (bel_drew wr))
      have d0:=c_B hlow6.out z0h.out
      have d1:=c_B hlow6.out z1h.out
      have c0:=c_B hlow6.out hc0h.out
      have c1:=c_B hlow6.out hc1h.out
      go_wp2_with fail
      have hok:okK [(0,21,.bool true),(1,22,.bool false),(2,23,.bool false),(3,24,undef),(4,25,undef),(5,26,undef),(6,27,undef),(7,28,undef),(8,29,undef),(9,30,undef),(10,31,undef),(11,32,undef),(12,33,undef),(13,34,undef),(14,35,undef),(15,36,undef),(16,37,undef),(17,38,undef),(18,39,undef),(19,40,undef),(20,41,undef),(21,42,undef),(22,43,undef),(23,44,undef),(24,45,undef),(25,46,undef),(26,47,undef),(27,48,undef),(28,49,undef),(29,50,undef),(30,51,undef),(31,52,.bool false)] []=true:=by kernel_rfl
      refine wp_region_run (by kernel_rfl) 71 [21,22,23,24,25,26,27,28,29,30,31,32,33,34,35,36,37,38,39,40,41,42,43,44,45,46,47,48,49,50,51,52] (JK wr.drew (okL hok) (okP hok)) (by kernel_rfl) rfl (JK.start _ _) ?hst32 ?hend32
      case hst32 =>
       have hst:∀ p∈okP hok,Stb p.2.2:=fun p hp=>(by cases hp)
       refine⟨?_,?_,?_,?_,?_,?_,?_,?_,?_,?_,?_,?_,?_,?_,?_,?_,?_,?_,?_,?_,?_,?_,?_,?_,?_,?_,?_,?_,?_,?_,?_,?_,trivial⟩
       ·rintro l gv W hun xD hcl hJ hg ha hp
        refine' op_val ?h1 ?w1 ?r1 ?K1
        case h1=>rfl
        case w1=>exact rfl
        case r1=>exact(ex_move rfl (eval_tmp ((ha 6 (by kernel_rfl)).trans rfl)))
        case K1=>exact⟨_,hp 21 _ (by kernel_rfl),JK.M hok hst hJ 0 rfl⟩
       ·rintro l gv W hun xD hcl hJ hg ha hp
        refine' op_val ?h2 ?w2 ?r2 ?K2
        case h2=>rfl
        case w2=>exact rfl
        case r2=>exact(ex_not rfl (lE (hg 21 (by kernel_rfl)) hJ.lit 0 rfl (xD 0 (by kernel_rfl))))
        case K2=>exact⟨_,hp 22 _ (by kernel_rfl),JK.M hok hst hJ 1 rfl⟩
       ·rintro l gv W hun xD hcl hJ hg ha hp
        refine' op_val ?h3 ?w3 ?r3 ?K3
        case h3=>rfl
        case w3=>exact rfl
        case r3=>exact(ex_move rfl (lE (hg 22 (by kernel_rfl)) hJ.lit 1 rfl (xD 1 (by kernel_rfl))))
        case K3=>exact⟨_,hp 23 _ (by kernel_rfl),JK.M hok hst hJ 2 rfl⟩
       ·rintro l gv W hun xD hcl hJ hg ha hp
        have hgd:=gD (hg 23 (by kernel_rfl)) hJ.lit 2 rfl (xD 2 (by kernel_rfl))
        refine' op_out ?h4 ?w4 ?K4
        case h4=>rfl
        case w4=>exact(wants_no true rfl (by kernel_rfl) hgd)
        case K4=>exact⟨_,hp 24 _ (by kernel_rfl),JK.M hok hst hJ 3 rfl⟩
       ·rintro l gv W hun xD hcl hJ hg ha hp
        have hgd:=gD (hg 23 (by kernel_rfl)) hJ.lit 2 rfl (xD 2 (by kernel_rfl))
        refine' op_out ?h5 ?w5 ?K5
        case h5=>rfl
        case w5=>exact(wants_no true rfl (by kernel_rfl) hgd)
        case K5=>exact⟨_,hp 25 _ (by kernel_rfl),JK.M hok hst hJ 4 rfl⟩
       ·rintro l gv W hun xD hcl hJ hg ha hp
        have hgd:=gD (hg 23 (by kernel_rfl)) hJ.lit 2 rfl (xD 2 (by kernel_rfl))
        refine' op_out ?h6 ?w6 ?K6
        case h6=>rfl
        case w6=>exact(wants_no true rfl (by kernel_rfl) hgd)
        case K6=>exact⟨_,hp 26 _ (by kernel_rfl),JK.M hok hst hJ 5 rfl⟩
       ·rintro l gv W hun xD hcl hJ hg ha hp
        have hgd:=gD (hg 23 (by kernel_rfl)) hJ.lit 2 rfl (xD 2 (by kernel_rfl))
        refine' op_out ?h7 ?w7 ?K7
        case h7=>rfl
        case w7=>exact(wants_no true rfl (by kernel_rfl) hgd)
        case K7=>exact⟨_,hp 27 _ (by kernel_rfl),JK.M hok hst hJ 6 rfl⟩
       ·rintro l gv W hun xD hcl hJ hg ha hp
        have hgd:=gD (hg 23 (by kernel_rfl)) hJ.lit 2 rfl (xD 2 (by kernel_rfl))
        refine' op_out ?h8 ?w8 ?K8
        case h8=>rfl
        case w8=>exact(wants_no true rfl (by kernel_rfl) hgd)
        case K8=>exact⟨_,hp 28 _ (by kernel_rfl),JK.M hok hst hJ 7 rfl⟩
       ·rintro l gv W hun xD hcl hJ hg ha hp
        have hgd:=gD (hg 23 (by kernel_rfl)) hJ.lit 2 rfl (xD 2 (by kernel_rfl))
        refine' op_out ?h9 ?w9 ?K9
        case h9=>rfl
        case w9=>exact(wants_no true rfl (by kernel_rfl) hgd)
        case K9=>exact⟨_,hp 29 _ (by kernel_rfl),JK.M hok hst hJ 8 rfl⟩
       ·rintro l gv W hun xD hcl hJ hg ha hp
        have hgd:=gD (hg 23 (by kernel_rfl)) hJ.lit 2 rfl (xD 2 (by kernel_rfl))
        refine' op_out ?h10 ?w10 ?K10
        case h10=>rfl
        case w10=>exact(wants_no true rfl (by kernel_rfl) hgd)
        case K10=>exact⟨_,hp 30 _ (by kernel_rfl),JK.M hok hst hJ 9 rfl⟩
       ·rintro l gv W hun xD hcl hJ hg ha hp
        have hgd:=gD (hg 23 (by kernel_rfl)) hJ.lit 2 rfl (xD 2 (by kernel_rfl))
        refine' op_out ?h11 ?w11 ?K11
        case h11=>rfl
        case w11=>exact(wants_no true rfl (by kernel_rfl) hgd)
        case K11=>exact⟨_,hp 31 _ (by kernel_rfl),JK.M hok hst hJ 10 rfl⟩
       ·rintro l gv W hun xD hcl hJ hg ha hp
        have hgd:=gD (hg 23 (by kernel_rfl)) hJ.lit 2 rfl (xD 2 (by kernel_rfl))
        refine' op_out ?h12 ?w12 ?K12
        case h12=>rfl
        case w12=>exact(wants_no true rfl (by kernel_rfl) hgd)
        case K12=>exact⟨_,hp 32 _ (by kernel_rfl),JK.M hok hst hJ 11 rfl⟩
       ·rintro l gv W hun xD hcl hJ hg ha hp
        have hgd:=gD (hg 32 (by kernel_rfl)) hJ.lit 11 rfl (xD 11 (by kernel_rfl))
        refine' op_out ?h13 ?w13 ?K13
        case h13=>rfl
        case w13=>exact(wants_undef false rfl (by kernel_rfl) hgd)
        case K13=>exact⟨_,hp 33 _ (by kernel_rfl),JK.M hok hst hJ 12 rfl⟩
       ·rintro l gv W hun xD hcl hJ hg ha hp
        have hgd:=gD (hg 32 (by kernel_rfl)) hJ.lit 11 rfl (xD 11 (by kernel_rfl))
        refine' op_out ?h14 ?w14 ?K14
        case h14=>rfl
        case w14=>exact(wants_undef false rfl (by kernel_rfl) hgd)
        case K14=>exact⟨_,hp 34 _ (by kernel_rfl),JK.M hok hst hJ 13 rfl⟩
       ·rintro l gv W hun xD hcl hJ hg ha hp
        have hgd:=gD (hg 32 (by kernel_rfl)) hJ.lit 11 rfl (xD 11 (by kernel_rfl))
        refine' op_out ?h15 ?w15 ?K15
        case h15=>rfl
        case w15=>exact(wants_undef false rfl (by kernel_rfl) hgd)
        case K15=>exact⟨_,hp 35 _ (by kernel_rfl),JK.M hok hst hJ 14 rfl⟩
       ·rintro l gv W hun xD hcl hJ hg ha hp
        have hgd:=gD (hg 32 (by kernel_rfl)) hJ.lit 11 rfl (xD 11 (by kernel_rfl))
        refine' op_out ?h16 ?w16 ?K16
        case h16=>rfl
        case w16=>exact(wants_undef false rfl (by kernel_rfl) hgd)
        case K16=>exact⟨_,hp 36 _ (by kernel_rfl),JK.M hok hst hJ 15 rfl⟩
       ·rintro l gv W hun xD hcl hJ hg ha hp
        have hgd:=gD (hg 32 (by kernel_rfl)) hJ.lit 11 rfl (xD 11 (by kernel_rfl))
        refine' op_out ?h17 ?w17 ?K17
        case h17=>rfl
        case w17=>exact(wants_undef false rfl (by kernel_rfl) hgd)
        case K17=>exact⟨_,hp 37 _ (by kernel_rfl),JK.M hok hst hJ 16 rfl⟩
       ·rintro l gv W hun xD hcl hJ hg ha hp
        have hgd:=gD (hg 32 (by kernel_rfl)) hJ.lit 11 rfl (xD 11 (by kernel_rfl))
        refine' op_out ?h18 ?w18 ?K18
        case h18=>rfl
        case w18=>exact(wants_undef false rfl (by kernel_rfl) hgd)
        case K18=>exact⟨_,hp 38 _ (by kernel_rfl),JK.M hok hst hJ 17 rfl⟩
       ·rintro l gv W hun xD hcl hJ hg ha hp
        have hgd:=gD (hg 32 (by kernel_rfl)) hJ.lit 11 rfl (xD 11 (by kernel_rfl))
        refine' op_out ?h19 ?w19 ?K19
        case h19=>rfl
        case w19=>exact(wants_undef false rfl (by kernel_rfl) hgd)
        case K19=>exact⟨_,hp 39 _ (by kernel_rfl),JK.M hok hst hJ 18 rfl⟩
       ·rintro l gv W hun xD hcl hJ hg ha hp
        have hgd:=gD (hg 32 (by kernel_rfl)) hJ.lit 11 rfl (xD 11 (by kernel_rfl))
        refine' op_out ?h20 ?w20 ?K20
        case h20=>rfl
        case w20=>exact(wants_undef false rfl (by kernel_rfl) hgd)
        case K20=>exact⟨_,hp 40 _ (by kernel_rfl),JK.M hok hst hJ 19 rfl⟩
       ·rintro l gv W hun xD hcl hJ hg ha hp
        have hgd:=gD (hg 32 (by kernel_rfl)) hJ.lit 11 rfl (xD 11 (by kernel_rfl))
        refine' op_out ?h21 ?w21 ?K21
        case h21=>rfl
        case w21=>exact(wants_undef false rfl (by kernel_rfl) hgd)
        case K21=>exact⟨_,hp 41 _ (by kernel_rfl),JK.M hok hst hJ 20 rfl⟩
       ·rintro l gv W hun xD hcl hJ hg ha hp
        have hgd:=gD (hg 41 (by kernel_rfl)) hJ.lit 20 rfl (xD 20 (by kernel_rfl))
        refine' op_out ?h22 ?w22 ?K22
        case h22=>rfl
        case w22=>exact(wants_undef true rfl (by kernel_rfl) hgd)
        case K22=>exact⟨_,hp 42 _ (by kernel_rfl),JK.M hok hst hJ 21 rfl⟩
       ·rintro l gv W hun xD hcl hJ hg ha hp
        have hgd:=gD (hg 41 (by kernel_rfl)) hJ.lit 20 rfl (xD 20 (by kernel_rfl))
        refine' op_out ?h23 ?w23 ?K23
        case h23=>rfl
        case w23=>exact(wants_undef true rfl (by kernel_rfl) hgd)
        case K23=>exact⟨_,hp 43 _ (by kernel_rfl),JK.M hok hst hJ 22 rfl⟩
       ·rintro l gv W hun xD hcl hJ hg ha hp
        have hgd:=gD (hg 41 (by kernel_rfl)) hJ.lit 20 rfl (xD 20 (by kernel_rfl))
        refine' op_out ?h24 ?w24 ?K24
        case h24=>rfl
        case w24=>exact(wants_undef true rfl (by kernel_rfl) hgd)
        case K24=>exact⟨_,hp 44 _ (by kernel_rfl),JK.M hok hst hJ 23 rfl⟩
       ·rintro l gv W hun xD hcl hJ hg ha hp
        have hgd:=gD (hg 41 (by kernel_rfl)) hJ.lit 20 rfl (xD 20 (by kernel_rfl))
        refine' op_out ?h25 ?w25 ?K25
        case h25=>rfl
        case w25=>exact(wants_undef true rfl (by kernel_rfl) hgd)
        case K25=>exact⟨_,hp 45 _ (by kernel_rfl),JK.M hok hst hJ 24 rfl⟩
       ·rintro l gv W hun xD hcl hJ hg ha hp
        have hgd:=gD (hg 41 (by kernel_rfl)) hJ.lit 20 rfl (xD 20 (by kernel_rfl))
        refine' op_out ?h26 ?w26 ?K26
        case h26=>rfl
        case w26=>exact(wants_undef true rfl (by kernel_rfl) hgd)
        case K26=>exact⟨_,hp 46 _ (by kernel_rfl),JK.M hok hst hJ 25 rfl⟩
       ·rintro l gv W hun xD hcl hJ hg ha hp
        have hgd:=gD (hg 41 (by kernel_rfl)) hJ.lit 20 rfl (xD 20 (by kernel_rfl))
        refine' op_out ?h27 ?w27 ?K27
        case h27=>rfl
        case w27=>exact(wants_undef true rfl (by kernel_rfl) hgd)
        case K27=>exact⟨_,hp 47 _ (by kernel_rfl),JK.M hok hst hJ 26 rfl⟩
       ·rintro l gv W hun xD hcl hJ hg ha hp
        have hgd:=gD (hg 41 (by kernel_rfl)) hJ.lit 20 rfl (xD 20 (by kernel_rfl))
        refine' op_out ?h28 ?w28 ?K28
        case h28=>rfl
        case w28=>exact(wants_undef true rfl (by kernel_rfl) hgd)
        case K28=>exact⟨_,hp 48 _ (by kernel_rfl),JK.M hok hst hJ 27 rfl⟩
       ·rintro l gv W hun xD hcl hJ hg ha hp
        have hgd:=gD (hg 41 (by kernel_rfl)) hJ.lit 20 rfl (xD 20 (by kernel_rfl))
        refine' op_out ?h29 ?w29 ?K29
        case h29=>rfl
        case w29=>exact(wants_undef true rfl (by kernel_rfl) hgd)
        case K29=>exact⟨_,hp 49 _ (by kernel_rfl),JK.M hok hst hJ 28 rfl⟩
       ·rintro l gv W hun xD hcl hJ hg ha hp
        have hgd:=gD (hg 32 (by kernel_rfl)) hJ.lit 11 rfl (xD 11 (by kernel_rfl))
        refine' op_out ?h30 ?w30 ?K30
        case h30=>rfl
        case w30=>exact(wants_undef false rfl (by kernel_rfl) hgd)
        case K30=>exact⟨_,hp 50 _ (by kernel_rfl),JK.M hok hst hJ 29 rfl⟩
       ·rintro l gv W hun xD hcl hJ hg ha hp
        have hgd:=gD (hg 23 (by kernel_rfl)) hJ.lit 2 rfl (xD 2 (by kernel_rfl))
        refine' op_out ?h31 ?w31 ?K31
        case h31=>rfl
        case w31=>exact(wants_no true rfl (by kernel_rfl) hgd)
        case K31=>exact⟨_,hp 51 _ (by kernel_rfl),JK.M hok hst hJ 30 rfl⟩
       ·rintro l gv W hun xD hcl hJ hg ha hp
        refine' op_val ?h32 ?w32 ?r32 ?K32
        case h32=>rfl
        case w32=>exact rfl
        case r32=>exact(ex_pickF rfl (lE (hg 23 (by kernel_rfl)) hJ.lit 2 rfl (xD 2 (by kernel_rfl))) rfl)
        case K32=>exact⟨_,hp 52 _ (by kernel_rfl),JK.M hok hst hJ 31 rfl⟩
      case hend32 =>
       rintro ll gv W9 hl hJ
       replace hl:=fun j h=>hl j (of_decide_eq_true h)
       have e21:=lT hJ.lit 0 rfl (hl 0 (by kernel_rfl))
       have e22:=lT hJ.lit 1 rfl (hl 1 (by kernel_rfl))
       have e23:=lT hJ.lit 2 rfl (hl 2 (by kernel_rfl))
       have e24:=lT hJ.lit 3 rfl (hl 3 (by kernel_rfl))
       have e25:=lT hJ.lit 4 rfl (hl 4 (by kernel_rfl))
       have e26:=lT hJ.lit 5 rfl (hl 5 (by kernel_rfl))
       have e27:=lT hJ.lit 6 rfl (hl 6 (by kernel_rfl))
       have e28:=lT hJ.lit 7 rfl (hl 7 (by kernel_rfl))
       have e29:=lT hJ.lit 8 rfl (hl 8 (by kernel_rfl))
       have e30:=lT hJ.lit 9 rfl (hl 9 (by kernel_rfl))
       have e31:=lT hJ.lit 10 rfl (hl 10 (by kernel_rfl))
       have e32:=lT hJ.lit 11 rfl (hl 11 (by kernel_rfl))
       have e33:=lT hJ.lit 12 rfl (hl 12 (by kernel_rfl))
       have e34:=lT hJ.lit 13 rfl (hl 13 (by kernel_rfl))
       have e35:=lT hJ.lit 14 rfl (hl 14 (by kernel_rfl))
       have e36:=lT hJ.lit 15 rfl (hl 15 (by kernel_rfl))
       have e37:=lT hJ.lit 16 rfl (hl 16 (by kernel_rfl))
       have e38:=lT hJ.lit 17 rfl (hl 17 (by kernel_rfl))
       have e39:=lT hJ.lit 18 rfl (hl 18 (by kernel_rfl))
       have e40:=lT hJ.lit 19 rfl (hl 19 (by kernel_rfl))
       have e41:=lT hJ.lit 20 rfl (hl 20 (by kernel_rfl))
       have e42:=lT hJ.lit 21 rfl (hl 21 (by kernel_rfl))
       have e43:=lT hJ.lit 22 rfl (hl 22 (by kernel_rfl))
       have e44:=lT hJ.lit 23 rfl (hl 23 (by kernel_rfl))
       have e45:=lT hJ.lit 24 rfl (hl 24 (by kernel_rfl))
       have e46:=lT hJ.lit 25 rfl (hl 25 (by kernel_rfl))
       have e47:=lT hJ.lit 26 rfl (hl 26 (by kernel_rfl))
       have e48:=lT hJ.lit 27 rfl (hl 27 (by kernel_rfl))
       have e49:=lT hJ.lit 28 rfl (hl 28 (by kernel_rfl))
       have e50:=lT hJ.lit 29 rfl (hl 29 (by kernel_rfl))
       have e51:=lT hJ.lit 30 rfl (hl 30 (by kernel_rfl))
       have e52:=lT hJ.lit 31 rfl (hl 31 (by kernel_rfl))
       simp only[zipV,List.map_cons,List.map_nil,puts,Act.put,List.setIfInBounds_toArray,List.set_cons_succ,List.set_cons_zero,e21,e22,e23,e24,e25,e26,e27,e28,e29,e30,e31,e32,e33,e34,e35,e36,e37,e38,e39,e40,e41,e42,e43,e44,e45,e46,e47,e48,e49,e50,e51,e52]
       have hlow:=h_X hJ.low
       clear e21 e22 e23 e24 e25 e26 e27 e28 e29 e30 e31 e32 e33 e34 e35 e36 e37 e38 e39 e40 e41 e42 e43 e44 e45 e46 e47 e48 e49 e50 e51 e52 hJ hl
       obtain⟨w8,hw8⟩:∃ w8,W9=w8:=⟨_,rfl⟩
       rw[hw8] at hlow ⊢
       clear hw8 d0 d1 c0 c1
       have hB:=h_X (show Below W1.heap.size W1 w8 from bS hlow6.out hlow.out)
       have hO:=h_X (show w8.ownsRow W1.heap.size 84 2 u5 q.length (flat q) from owns_below (bS (bel_drew wr) hlow.out) hownh.out)
       have c0:=c_B hB.out hc0h.out
       have c1:=c_B hB.out hc1h.out
       have d0:=c_B hB.out z0h.out
       have d1:=c_B hB.out z1h.out
       clear hlow hlow6 hownh
       have hbl:=bel_laid w8 (.cells #[.string ys,.int .i64 yx] 84)
       have hoh:=h_X (owns_below hbl hO.out)
       have hlt2:∀ g',u5.ownBlock=some g'→W1.heap.size≤g'∧g' < (w8.alloc (.cells #[.string ys,.int .i64 yx] 84)).heap.size:=hoh.out.lt
       have hb4h:=h_X (bS hB.out hbl)
       have hszv:W1.heap.size≤w8.heap.size:=hB.out.size
       clear hbl hO hB
       go_wp2_with (at_builtin;refine wpList_append_own_at _ rfl _ _ 42 rfl W1.heap.size 84 i0 (.agg #[.string ⟨#[]⟩,.int .i64 0]) 2 24 Tryz.underlying42 hi hz0 hz1 hz2 rfl (by decide) _ _ _ rfl hoh.out ⟨w8.heap.size,0,none⟩ 1 1 [.string ys,.int .i64 yx] rfl rfl ?c2_1 ?c2_2 ?c2_3 ?c2_4 ?c2_5 ?_)
       (try case c2_1=>intro j u hu;rw[Addr.add_lit,Nat.zero_add,World.cell?_alloc_new];simpa using hu)
       case c2_2=>first | exact⟨rfl,rfl⟩ | (intro u hu;simp at hu;rcases hu with rfl | rfl<;>rfl)
       case c2_3=>unfold maxLen;omega
       case c2_4=>omega
       case c2_5=>first | omega | (rw[World.size_alloc];omega)
       intro vv w11 hown1 hgrow _ hob
       have hB:=h_X (show Below W1.heap.size W1 w11 from hb4h.out.grown hgrow hb4h.out.size (fun g' e=>(hlt2 g' e).1))
       have hO:=h_X (show w11.ownsRow W1.heap.size 84 2 vv (q ++ [(ys,yx)]).length (flat (q ++ [(ys,yx)])) by rw[flat_snoc];simp only[List.length_append,List.length_cons,List.length_nil,Nat.zero_add];exact hown1)
       clear hown1 hgrow hob hoh hlt2 hb4h hszv
       clear c0 c1 d0 d1
       go_wp2
       go_roundw
       case rel=>exact⟨k+1,pre ++ [(ys,yx)],r,q ++ [(ys,yx)],true,rfl,(by rw[hlh.out];simp),(by simp[hk]),(fun hm=>(List.mem_append.1 hm).elim (fun h=>hnoth.out h) (fun h=>heh.out (List.mem_singleton.1 h).symm)),rfl,(fun _=>⟨(by obtain⟨z,hz,hz2⟩:=(hpth.out (by trivial)).1;exact⟨z,List.mem_append_left _ hz,hz2⟩),(by rw[(hpth.out (by trivial)).2,putS_some _ _ _ (hpth.out (by trivial)).1])⟩),(fun h=>by cases h),hO.out,(by have:=hq;simp;omega),hB.out⟩
       case measure=>simp[intOf];omega
     | false =>
      cases hxx:decide (x < yx) with
      | true =>
       have hLT:ltS (s,x) (ys,yx):=(symCmp_lt _ _).2 (.inr ⟨(beq_iff_eq.1 hs1).symm,of_decide_eq_true hxx⟩)
       have hlow6:=h_X (show Below W1.heap.size W1 wr.drew from bS hbwh.out (bel_drew wr))
       have d0:=c_B hlow6.out z0h.out
       have d1:=c_B hlow6.out z1h.out
       have c0:=c_B hlow6.out hc0h.out
       have c1:=c_B hlow6.out hc1h.out
       go_wp2_with fail
       have hok:okK [(0,21,.bool false),(1,22,.bool true),(2,23,.bool true),(3,24,.slice (some ⟨b,0,none⟩) l.length c),(4,25,.int .i64 (k:Int)),(5,26,.pointer (some ⟨b,k*2,none⟩)),(6,27,.pointer (some ⟨b,k*2,none⟩)),(7,28,.string ys),(8,29,.pointer (some ⟨g,0,none⟩)),(9,30,.string s),(10,31,.bool false),(11,32,.bool false),(12,33,.slice (some ⟨b,0,none⟩) l.length c),(13,34,.int .i64 (k:Int)),(14,35,.pointer (some ⟨b,k*2,none⟩)),(15,36,.pointer (some ⟨b,k*2,none⟩)),(16,37,.string ys),(17,38,.pointer (some ⟨g,0,none⟩)),(18,39,.string s),(19,40,.bool true),(20,41,.bool true),(21,42,.slice (some ⟨b,0,none⟩) l.length c),(22,43,.int .i64 (k:Int)),(23,44,.pointer (some ⟨b,k*2,none⟩)),(24,45,.pointer (some ⟨b,k*2+1,none⟩)),(25,46,.int .i64 yx),(26,47,.pointer (some ⟨g,0+1,none⟩)),(27,48,.int .i64 x),(28,49,.bool true),(29,50,.bool true),(30,51,.bool true),(31,52,.bool true)] []=true:=by kernel_rfl
       refine wp_region_run (by kernel_rfl) 71 [21,22,23,24,25,26,27,28,29,30,31,32,33,34,35,36,37,38,39,40,41,42,43,44,45,46,47,48,49,50,51,52] (JK wr.drew (okL hok) (okP hok)) (by kernel_rfl) rfl (JK.start _ _) ?hst96 ?hend96
       case hst96 =>
        have hst:∀ p∈okP hok,Stb p.2.2:=fun p hp=>(by cases hp)
        refine⟨?_,?_,?_,?_,?_,?_,?_,?_,?_,?_,?_,?_,?_,?_,?_,?_,?_,?_,?_,?_,?_,?_,?_,?_,?_,?_,?_,?_,?_,?_,?_,?_,trivial⟩
        ·rintro l gv W hun xD hcl hJ hg ha hp
         refine' op_val ?h65 ?w65 ?r65 ?K65
         case h65=>rfl
         case w65=>exact rfl
         case r65=>exact(ex_move rfl (eval_tmp ((ha 6 (by kernel_rfl)).trans rfl)))
         case K65=>exact⟨_,hp 21 _ (by kernel_rfl),JK.M hok hst hJ 0 rfl⟩
        ·rintro l gv W hun xD hcl hJ hg ha hp
         refine' op_val ?h66 ?w66 ?r66 ?K66
         case h66=>rfl
         case w66=>exact rfl
         case r66=>exact(ex_not rfl (lE (hg 21 (by kernel_rfl)) hJ.lit 0 rfl (xD 0 (by kernel_rfl))))
         case K66=>exact⟨_,hp 22 _ (by kernel_rfl),JK.M hok hst hJ 1 rfl⟩
        ·rintro l gv W hun xD hcl hJ hg ha hp
         refine' op_val ?h67 ?w67 ?r67 ?K67
         case h67=>rfl
         case w67=>exact rfl
         case r67=>exact(ex_move rfl (lE (hg 22 (by kernel_rfl)) hJ.lit 1 rfl (xD 1 (by kernel_rfl))))
         case K67=>exact⟨_,hp 23 _ (by kernel_rfl),JK.M hok hst hJ 2 rfl⟩
        ·rintro l gv W hun xD hcl hJ hg ha hp
         have hgd:=gD (hg 23 (by kernel_rfl)) hJ.lit 2 rfl (xD 2 (by kernel_rfl))
         refine' op_val ?h68 ?w68 ?r68 ?K68
         case h68=>rfl
         case w68=>exact(wants_yes true rfl (by kernel_rfl) hgd)
         case r68=>exact(ex_move rfl (eval_tmp ((ha 0 (by kernel_rfl)).trans rfl)))
         case K68=>exact⟨_,hp 24 _ (by kernel_rfl),JK.M hok hst hJ 3 rfl⟩
        ·rintro l gv W hun xD hcl hJ hg ha hp
         have hgd:=gD (hg 23 (by kernel_rfl)) hJ.lit 2 rfl (xD 2 (by kernel_rfl))
         refine' op_val ?h69 ?w69 ?r69 ?K69
         case h69=>rfl
         case w69=>exact(wants_yes true rfl (by kernel_rfl) hgd)
         case r69=>exact(ex_move rfl (eval_tmp ((ha 7 (by kernel_rfl)).trans rfl)))
         case K69=>exact⟨_,hp 25 _ (by kernel_rfl),JK.M hok hst hJ 4 rfl⟩
        ·rintro l gv W hun xD hcl hJ hg ha hp
         have hgd:=gD (hg 23 (by kernel_rfl)) hJ.lit 2 rfl (xD 2 (by kernel_rfl))
         refine' op_val ?h70 ?w70 ?r70 ?K70
         case h70=>rfl
         case w70=>exact(wants_yes true rfl (by kernel_rfl) hgd)
         case r70=>exact(ex_indexAddr rfl (lE (hg 24 (by kernel_rfl)) hJ.lit 3 rfl (xD 3 (by kernel_rfl))) (lE (hg 25 (by kernel_rfl)) hJ.lit 4 rfl (xD 4 (by kernel_rfl))) (ix42 hkl))
         case K70=>exact⟨_,hp 26 _ (by kernel_rfl),JK.M hok hst hJ 5 rfl⟩
        ·rintro l gv W hun xD hcl hJ hg ha hp
         have hgd:=gD (hg 23 (by kernel_rfl)) hJ.lit 2 rfl (xD 2 (by kernel_rfl))
         refine' op_val ?h71 ?w71 ?r71 ?K71
         case h71=>rfl
         case w71=>exact(wants_yes true rfl (by kernel_rfl) hgd)
         case r71=>exact(ex_field rfl (lE (hg 26 (by kernel_rfl)) hJ.lit 5 rfl (xD 5 (by kernel_rfl))) fld0)
         case K71=>exact⟨_,hp 27 _ (by kernel_rfl),JK.M hok hst hJ 6 rfl⟩
        ·rintro l gv W hun xD hcl hJ hg ha hp
         have hgd:=gD (hg 23 (by kernel_rfl)) hJ.lit 2 rfl (xD 2 (by kernel_rfl))
         refine' op_val ?h72 ?w72 ?r72 ?K72
         case h72=>rfl
         case w72=>exact(wants_yes true rfl (by kernel_rfl) hgd)
         case r72=>exact(ex_load rfl (lE (hg 27 (by kernel_rfl)) hJ.lit 6 rfl (xD 6 (by kernel_rfl))) (ld9 (c_B hJ.low d0)))
         case K72=>exact⟨_,hp 28 _ (by kernel_rfl),JK.M hok hst hJ 7 rfl⟩
        ·rintro l gv W hun xD hcl hJ hg ha hp
         have hgd:=gD (hg 23 (by kernel_rfl)) hJ.lit 2 rfl (xD 2 (by kernel_rfl))
         refine' op_val ?h73 ?w73 ?r73 ?K73
         case h73=>rfl
         case w73=>exact(wants_yes true rfl (by kernel_rfl) hgd)
         case r73=>exact(ex_field rfl (eval_tmp ((ha 3 (by kernel_rfl)).trans rfl)) fld0)
         case K73=>exact⟨_,hp 29 _ (by kernel_rfl),JK.M hok hst hJ 8 rfl⟩
        ·rintro l gv W hun xD hcl hJ hg ha hp
         have hgd:=gD (hg 23 (by kernel_rfl)) hJ.lit 2 rfl (xD 2 (by kernel_rfl))
         refine' op_val ?h74 ?w74 ?r74 ?K74
         case h74=>rfl
         case w74=>exact(wants_yes true rfl (by kernel_rfl) hgd)
         case r74=>exact(ex_load rfl (lE (hg 29 (by kernel_rfl)) hJ.lit 8 rfl (xD 8 (by kernel_rfl))) (ld9 (c_B hJ.low c0)))
         case K74=>exact⟨_,hp 30 _ (by kernel_rfl),JK.M hok hst hJ 9 rfl⟩
        ·rintro l gv W hun xD hcl hJ hg ha hp
         have hgd:=gD (hg 23 (by kernel_rfl)) hJ.lit 2 rfl (xD 2 (by kernel_rfl))
         refine' op_val ?h75 ?w75 ?r75 ?K75
         case h75=>rfl
         case w75=>exact(wants_yes true rfl (by kernel_rfl) hgd)
         case r75=>exact(ex_bin rfl (lE (hg 28 (by kernel_rfl)) hJ.lit 7 rfl (xD 7 (by kernel_rfl))) (lE (hg 30 (by kernel_rfl)) hJ.lit 9 rfl (xD 9 (by kernel_rfl))) (guard_str _ _ _ _ _ W) (gtr9 hlt))
         case K75=>exact⟨_,hp 31 _ (by kernel_rfl),JK.M hok hst hJ 10 rfl⟩
        ·rintro l gv W hun xD hcl hJ hg ha hp
         have hgd:=gD (hg 23 (by kernel_rfl)) hJ.lit 2 rfl (xD 2 (by kernel_rfl))
         refine' op_val ?h76 ?w76 ?r76 ?K76
         case h76=>rfl
         case w76=>exact(wants_yes true rfl (by kernel_rfl) hgd)
         case r76=>exact(ex_move rfl (lE (hg 31 (by kernel_rfl)) hJ.lit 10 rfl (xD 10 (by kernel_rfl))))
         case K76=>exact⟨_,hp 32 _ (by kernel_rfl),JK.M hok hst hJ 11 rfl⟩
        ·rintro l gv W hun xD hcl hJ hg ha hp
         have hgd:=gD (hg 32 (by kernel_rfl)) hJ.lit 11 rfl (xD 11 (by kernel_rfl))
         refine' op_val ?h77 ?w77 ?r77 ?K77
         case h77=>rfl
         case w77=>exact(wants_yes false rfl (by kernel_rfl) hgd)
         case r77=>exact(ex_move rfl (eval_tmp ((ha 0 (by kernel_rfl)).trans rfl)))
         case K77=>exact⟨_,hp 33 _ (by kernel_rfl),JK.M hok hst hJ 12 rfl⟩
        ·rintro l gv W hun xD hcl hJ hg ha hp
         have hgd:=gD (hg 32 (by kernel_rfl)) hJ.lit 11 rfl (xD 11 (by kernel_rfl))
         refine' op_val ?h78 ?w78 ?r78 ?K78
         case h78=>rfl
         case w78=>exact(wants_yes false rfl (by kernel_rfl) hgd)
         case r78=>exact(ex_move rfl (eval_tmp ((ha 7 (by kernel_rfl)).trans rfl)))
         case K78=>exact⟨_,hp 34 _ (by kernel_rfl),JK.M hok hst hJ 13 rfl⟩
        ·rintro l gv W hun xD hcl hJ hg ha hp
         have hgd:=gD (hg 32 (by kernel_rfl)) hJ.lit 11 rfl (xD 11 (by kernel_rfl))
         refine' op_val ?h79 ?w79 ?r79 ?K79
         case h79=>rfl
         case w79=>exact(wants_yes false rfl (by kernel_rfl) hgd)
         case r79=>exact(ex_indexAddr rfl (lE (hg 33 (by kernel_rfl)) hJ.lit 12 rfl (xD 12 (by kernel_rfl))) (lE (hg 34 (by kernel_rfl)) hJ.lit 13 rfl (xD 13 (by kernel_rfl))) (ix42 hkl))
         case K79=>exact⟨_,hp 35 _ (by kernel_rfl),JK.M hok hst hJ 14 rfl⟩
        ·rintro l gv W hun xD hcl hJ hg ha hp
         have hgd:=gD (hg 32 (by kernel_rfl)) hJ.lit 11 rfl (xD 11 (by kernel_rfl))
         refine' op_val ?h80 ?w80 ?r80 ?K80
         case h80=>rfl
         case w80=>exact(wants_yes false rfl (by kernel_rfl) hgd)
         case r80=>exact(ex_field rfl (lE (hg 35 (by kernel_rfl)) hJ.lit 14 rfl (xD 14 (by kernel_rfl))) fld0)
         case K80=>exact⟨_,hp 36 _ (by kernel_rfl),JK.M hok hst hJ 15 rfl⟩
        ·rintro l gv W hun xD hcl hJ hg ha hp
         have hgd:=gD (hg 32 (by kernel_rfl)) hJ.lit 11 rfl (xD 11 (by kernel_rfl))
         refine' op_val ?h81 ?w81 ?r81 ?K81
         case h81=>rfl
         case w81=>exact(wants_yes false rfl (by kernel_rfl) hgd)
         case r81=>exact(ex_load rfl (lE (hg 36 (by kernel_rfl)) hJ.lit 15 rfl (xD 15 (by kernel_rfl))) (ld9 (c_B hJ.low d0)))
         case K81=>exact⟨_,hp 37 _ (by kernel_rfl),JK.M hok hst hJ 16 rfl⟩
        ·rintro l gv W hun xD hcl hJ hg ha hp
         have hgd:=gD (hg 32 (by kernel_rfl)) hJ.lit 11 rfl (xD 11 (by kernel_rfl))
         refine' op_val ?h82 ?w82 ?r82 ?K82
         case h82=>rfl
         case w82=>exact(wants_yes false rfl (by kernel_rfl) hgd)
         case r82=>exact(ex_field rfl (eval_tmp ((ha 3 (by kernel_rfl)).trans rfl)) fld0)
         case K82=>exact⟨_,hp 38 _ (by kernel_rfl),JK.M hok hst hJ 17 rfl⟩
        ·rintro l gv W hun xD hcl hJ hg ha hp
         have hgd:=gD (hg 32 (by kernel_rfl)) hJ.lit 11 rfl (xD 11 (by kernel_rfl))
         refine' op_val ?h83 ?w83 ?r83 ?K83
         case h83=>rfl
         case w83=>exact(wants_yes false rfl (by kernel_rfl) hgd)
         case r83=>exact(ex_load rfl (lE (hg 38 (by kernel_rfl)) hJ.lit 17 rfl (xD 17 (by kernel_rfl))) (ld9 (c_B hJ.low c0)))
         case K83=>exact⟨_,hp 39 _ (by kernel_rfl),JK.M hok hst hJ 18 rfl⟩
        ·rintro l gv W hun xD hcl hJ hg ha hp
         have hgd:=gD (hg 32 (by kernel_rfl)) hJ.lit 11 rfl (xD 11 (by kernel_rfl))
         refine' op_val ?h84 ?w84 ?r84 ?K84
         case h84=>rfl
         case w84=>exact(wants_yes false rfl (by kernel_rfl) hgd)
         case r84=>exact(ex_bin rfl (lE (hg 37 (by kernel_rfl)) hJ.lit 16 rfl (xD 16 (by kernel_rfl))) (lE (hg 39 (by kernel_rfl)) hJ.lit 18 rfl (xD 18 (by kernel_rfl))) (guard_str _ _ _ _ _ W) (eql9 hs1))
         case K84=>exact⟨_,hp 40 _ (by kernel_rfl),JK.M hok hst hJ 19 rfl⟩
        ·rintro l gv W hun xD hcl hJ hg ha hp
         have hgd:=gD (hg 32 (by kernel_rfl)) hJ.lit 11 rfl (xD 11 (by kernel_rfl))
         refine' op_val ?h85 ?w85 ?r85 ?K85
         case h85=>rfl
         case w85=>exact(wants_yes false rfl (by kernel_rfl) hgd)
         case r85=>exact(ex_move rfl (lE (hg 40 (by kernel_rfl)) hJ.lit 19 rfl (xD 19 (by kernel_rfl))))
         case K85=>exact⟨_,hp 41 _ (by kernel_rfl),JK.M hok hst hJ 20 rfl⟩
        ·rintro l gv W hun xD hcl hJ hg ha hp
         have hgd:=gD (hg 41 (by kernel_rfl)) hJ.lit 20 rfl (xD 20 (by kernel_rfl))
         refine' op_val ?h86 ?w86 ?r86 ?K86
         case h86=>rfl
         case w86=>exact(wants_yes true rfl (by kernel_rfl) hgd)
         case r86=>exact(ex_move rfl (eval_tmp ((ha 0 (by kernel_rfl)).trans rfl)))
         case K86=>exact⟨_,hp 42 _ (by kernel_rfl),JK.M hok hst hJ 21 rfl⟩
        ·rintro l gv W hun xD hcl hJ hg ha hp
         have hgd:=gD (hg 41 (by kernel_rfl)) hJ.lit 20 rfl (xD 20 (by kernel_rfl))
         refine' op_val ?h87 ?w87 ?r87 ?K87
         case h87=>rfl
         case w87=>exact(wants_yes true rfl (by kernel_rfl) hgd)
         case r87=>exact(ex_move rfl (eval_tmp ((ha 7 (by kernel_rfl)).trans rfl)))
         case K87=>exact⟨_,hp 43 _ (by kernel_rfl),JK.M hok hst hJ 22 rfl⟩
        ·rintro l gv W hun xD hcl hJ hg ha hp
         have hgd:=gD (hg 41 (by kernel_rfl)) hJ.lit 20 rfl (xD 20 (by kernel_rfl))
         refine' op_val ?h88 ?w88 ?r88 ?K88
         case h88=>rfl
         case w88=>exact(wants_yes true rfl (by kernel_rfl) hgd)
         case r88=>exact(ex_indexAddr rfl (lE (hg 42 (by kernel_rfl)) hJ.lit 21 rfl (xD 21 (by kernel_rfl))) (lE (hg 43 (by kernel_rfl)) hJ.lit 22 rfl (xD 22 (by kernel_rfl))) (ix42 hkl))
         case K88=>exact⟨_,hp 44 _ (by kernel_rfl),JK.M hok hst hJ 23 rfl⟩
        ·rintro l gv W hun xD hcl hJ hg ha hp
         have hgd:=gD (hg 41 (by kernel_rfl)) hJ.lit 20 rfl (xD 20 (by kernel_rfl))
         refine' op_val ?h89 ?w89 ?r89 ?K89
         case h89=>rfl
         case w89=>exact(wants_yes true rfl (by kernel_rfl) hgd)
         case r89=>exact(ex_field rfl (lE (hg 44 (by kernel_rfl)) hJ.lit 23 rfl (xD 23 (by kernel_rfl))) fld1)
         case K89=>exact⟨_,hp 45 _ (by kernel_rfl),JK.M hok hst hJ 24 rfl⟩
        ·rintro l gv W hun xD hcl hJ hg ha hp
         have hgd:=gD (hg 41 (by kernel_rfl)) hJ.lit 20 rfl (xD 20 (by kernel_rfl))
         refine' op_val ?h90 ?w90 ?r90 ?K90
         case h90=>rfl
         case w90=>exact(wants_yes true rfl (by kernel_rfl) hgd)
         case r90=>exact(ex_load rfl (lE (hg 45 (by kernel_rfl)) hJ.lit 24 rfl (xD 24 (by kernel_rfl))) (ld3 (c_B hJ.low d1)))
         case K90=>exact⟨_,hp 46 _ (by kernel_rfl),JK.M hok hst hJ 25 rfl⟩
        ·rintro l gv W hun xD hcl hJ hg ha hp
         have hgd:=gD (hg 41 (by kernel_rfl)) hJ.lit 20 rfl (xD 20 (by kernel_rfl))
         refine' op_val ?h91 ?w91 ?r91 ?K91
         case h91=>rfl
         case w91=>exact(wants_yes true rfl (by kernel_rfl) hgd)
         case r91=>exact(ex_field rfl (eval_tmp ((ha 3 (by kernel_rfl)).trans rfl)) fld1)
         case K91=>exact⟨_,hp 47 _ (by kernel_rfl),JK.M hok hst hJ 26 rfl⟩
        ·rintro l gv W hun xD hcl hJ hg ha hp
         have hgd:=gD (hg 41 (by kernel_rfl)) hJ.lit 20 rfl (xD 20 (by kernel_rfl))
         refine' op_val ?h92 ?w92 ?r92 ?K92
         case h92=>rfl
         case w92=>exact(wants_yes true rfl (by kernel_rfl) hgd)
         case r92=>exact(ex_load rfl (lE (hg 47 (by kernel_rfl)) hJ.lit 26 rfl (xD 26 (by kernel_rfl))) (ld3 (c_B hJ.low c1)))
         case K92=>exact⟨_,hp 48 _ (by kernel_rfl),JK.M hok hst hJ 27 rfl⟩
        ·rintro l gv W hun xD hcl hJ hg ha hp
         have hgd:=gD (hg 41 (by kernel_rfl)) hJ.lit 20 rfl (xD 20 (by kernel_rfl))
         refine' op_val ?h93 ?w93 ?r93 ?K93
         case h93=>rfl
         case w93=>exact(wants_yes true rfl (by kernel_rfl) hgd)
         case r93=>exact(ex_bin rfl (lE (hg 46 (by kernel_rfl)) hJ.lit 25 rfl (xD 25 (by kernel_rfl))) (lE (hg 48 (by kernel_rfl)) hJ.lit 27 rfl (xD 27 (by kernel_rfl))) (grd3 _ _ _ _ W) (gtr3 hxx))
         case K93=>exact⟨_,hp 49 _ (by kernel_rfl),JK.M hok hst hJ 28 rfl⟩
        ·rintro l gv W hun xD hcl hJ hg ha hp
         have hgd:=gD (hg 32 (by kernel_rfl)) hJ.lit 11 rfl (xD 11 (by kernel_rfl))
         refine' op_val ?h94 ?w94 ?r94 ?K94
         case h94=>rfl
         case w94=>exact(wants_yes false rfl (by kernel_rfl) hgd)
         case r94=>exact(ex_pick rfl (lE (hg 41 (by kernel_rfl)) hJ.lit 20 rfl (xD 20 (by kernel_rfl))) (lE (hg 49 (by kernel_rfl)) hJ.lit 28 rfl (xD 28 (by kernel_rfl))))
         case K94=>exact⟨_,hp 50 _ (by kernel_rfl),JK.M hok hst hJ 29 rfl⟩
        ·rintro l gv W hun xD hcl hJ hg ha hp
         have hgd:=gD (hg 23 (by kernel_rfl)) hJ.lit 2 rfl (xD 2 (by kernel_rfl))
         refine' op_val ?h95 ?w95 ?r95 ?K95
         case h95=>rfl
         case w95=>exact(wants_yes true rfl (by kernel_rfl) hgd)
         case r95=>exact(ex_pickF rfl (lE (hg 32 (by kernel_rfl)) hJ.lit 11 rfl (xD 11 (by kernel_rfl))) (lE (hg 50 (by kernel_rfl)) hJ.lit 29 rfl (xD 29 (by kernel_rfl))))
         case K95=>exact⟨_,hp 51 _ (by kernel_rfl),JK.M hok hst hJ 30 rfl⟩
        ·rintro l gv W hun xD hcl hJ hg ha hp
         refine' op_val ?h96 ?w96 ?r96 ?K96
         case h96=>rfl
         case w96=>exact rfl
         case r96=>exact(ex_pick rfl (lE (hg 23 (by kernel_rfl)) hJ.lit 2 rfl (xD 2 (by kernel_rfl))) (lE (hg 51 (by kernel_rfl)) hJ.lit 30 rfl (xD 30 (by kernel_rfl))))
         case K96=>exact⟨_,hp 52 _ (by kernel_rfl),JK.M hok hst hJ 31 rfl⟩
       case hend96 =>
        rintro ll gv W9 hl hJ
        replace hl:=fun j h=>hl j (of_decide_eq_true h)
        have e21:=lT hJ.lit 0 rfl (hl 0 (by kernel_rfl))
        have e22:=lT hJ.lit 1 rfl (hl 1 (by kernel_rfl))
        have e23:=lT hJ.lit 2 rfl (hl 2 (by kernel_rfl))
        have e24:=lT hJ.lit 3 rfl (hl 3 (by kernel_rfl))
        have e25:=lT hJ.lit 4 rfl (hl 4 (by kernel_rfl))
        have e26:=lT hJ.lit 5 rfl (hl 5 (by kernel_rfl))
        have e27:=lT hJ.lit 6 rfl (hl 6 (by kernel_rfl))
        have e28:=lT hJ.lit 7 rfl (hl 7 (by kernel_rfl))
        have e29:=lT hJ.lit 8 rfl (hl 8 (by kernel_rfl))
        have e30:=lT hJ.lit 9 rfl (hl 9 (by kernel_rfl))
        have e31:=lT hJ.lit 10 rfl (hl 10 (by kernel_rfl))
        have e32:=lT hJ.lit 11 rfl (hl 11 (by kernel_rfl))
        have e33:=lT hJ.lit 12 rfl (hl 12 (by kernel_rfl))
        have e34:=lT hJ.lit 13 rfl (hl 13 (by kernel_rfl))
        have e35:=lT hJ.lit 14 rfl (hl 14 (by kernel_rfl))
        have e36:=lT hJ.lit 15 rfl (hl 15 (by kernel_rfl))
        have e37:=lT hJ.lit 16 rfl (hl 16 (by kernel_rfl))
        have e38:=lT hJ.lit 17 rfl (hl 17 (by kernel_rfl))
        have e39:=lT hJ.lit 18 rfl (hl 18 (by kernel_rfl))
        have e40:=lT hJ.lit 19 rfl (hl 19 (by kernel_rfl))
        have e41:=lT hJ.lit 20 rfl (hl 20 (by kernel_rfl))
        have e42:=lT hJ.lit 21 rfl (hl 21 (by kernel_rfl))
        have e43:=lT hJ.lit 22 rfl (hl 22 (by kernel_rfl))
        have e44:=lT hJ.lit 23 rfl (hl 23 (by kernel_rfl))
        have e45:=lT hJ.lit 24 rfl (hl 24 (by kernel_rfl))
        have e46:=lT hJ.lit 25 rfl (hl 25 (by kernel_rfl))
        have e47:=lT hJ.lit 26 rfl (hl 26 (by kernel_rfl))
        have e48:=lT hJ.lit 27 rfl (hl 27 (by kernel_rfl))
        have e49:=lT hJ.lit 28 rfl (hl 28 (by kernel_rfl))
        have e50:=lT hJ.lit 29 rfl (hl 29 (by kernel_rfl))
        have e51:=lT hJ.lit 30 rfl (hl 30 (by kernel_rfl))
        have e52:=lT hJ.lit 31 rfl (hl 31 (by kernel_rfl))
        simp only[zipV,List.map_cons,List.map_nil,puts,Act.put,List.setIfInBounds_toArray,List.set_cons_succ,List.set_cons_zero,e21,e22,e23,e24,e25,e26,e27,e28,e29,e30,e31,e32,e33,e34,e35,e36,e37,e38,e39,e40,e41,e42,e43,e44,e45,e46,e47,e48,e49,e50,e51,e52]
        have hlow:=h_X hJ.low
        clear e21 e22 e23 e24 e25 e26 e27 e28 e29 e30 e31 e32 e33 e34 e35 e36 e37 e38 e39 e40 e41 e42 e43 e44 e45 e46 e47 e48 e49 e50 e51 e52 hJ hl
        obtain⟨w8,hw8⟩:∃ w8,W9=w8:=⟨_,rfl⟩
        rw[hw8] at hlow ⊢
        clear hw8 d0 d1 c0 c1
        have hB:=h_X (show Below W1.heap.size W1 w8 from bS hlow6.out hlow.out)
        have hO:=h_X (show w8.ownsRow W1.heap.size 84 2 u5 q.length (flat q) from owns_below (bS (bel_drew wr) hlow.out) hownh.out)
        have c0:=c_B hB.out hc0h.out
        have c1:=c_B hB.out hc1h.out
        have d0:=c_B hB.out z0h.out
        have d1:=c_B hB.out z1h.out
        clear hlow hlow6 hownh
        have hbl:=bel_laid w8 (.cells #[.string s,.int .i64 x] 84)
        have hoh:=h_X (owns_below hbl hO.out)
        have hlt2:∀ g',u5.ownBlock=some g'→W1.heap.size≤g'∧g' < (w8.alloc (.cells #[.string s,.int .i64 x] 84)).heap.size:=hoh.out.lt
        have hb4h:=h_X (bS hB.out hbl)
        have hszv:W1.heap.size≤w8.heap.size:=hB.out.size
        clear hbl hO hB
        go_wp2_with (at_builtin;refine wpList_append_own_at _ rfl _ _ 42 rfl W1.heap.size 84 i0 (.agg #[.string ⟨#[]⟩,.int .i64 0]) 2 24 Tryz.underlying42 hi hz0 hz1 hz2 rfl (by decide) _ _ _ rfl hoh.out ⟨w8.heap.size,0,none⟩ 1 1 [.string s,.int .i64 x] rfl rfl ?c3_1 ?c3_2 ?c3_3 ?c3_4 ?c3_5 ?_)
        (try case c3_1=>intro j u hu;rw[Addr.add_lit,Nat.zero_add,World.cell?_alloc_new];simpa using hu)
        case c3_2=>first | exact⟨rfl,rfl⟩ | (intro u hu;simp at hu;rcases hu with rfl | rfl<;>rfl)
        case c3_3=>unfold maxLen;omega
        case c3_4=>omega
        case c3_5=>first | omega | (rw[World.size_alloc];omega)
        intro vv w10 hown1 hgrow _ hob
        have hB:=h_X (show Below W1.heap.size W1 w10 from hb4h.out.grown hgrow hb4h.out.size (fun g' e=>(hlt2 g' e).1))
        have hO:=h_X (show w10.ownsRow W1.heap.size 84 2 vv (q ++ [(s,x)]).length (flat (q ++ [(s,x)])) by rw[flat_snoc];simp only[List.length_append,List.length_cons,List.length_nil,Nat.zero_add];exact hown1)
        clear hown1 hgrow hob hoh hlt2 hb4h hszv
        clear c0 c1 d0 d1
        have c0:=c_B hB.out hc0h.out
        have c1:=c_B hB.out hc1h.out
        have d0:=c_B hB.out z0h.out
        have d1:=c_B hB.out z1h.out
        obtain⟨o2,ho2⟩:∃ o2,vv=o2:=⟨_,rfl⟩
        rw[ho2] at hO ⊢
        clear ho2
        have hq2:(q ++ [(s,x)]).length≤k+1:=by rw[(hpfh.out (by trivial)).2,List.length_append,hk];simp
        have hbl:=bel_laid w10 (.cells #[.string ys,.int .i64 yx] 84)
        have hoh:=h_X (owns_below hbl hO.out)
        have hlt2:∀ g',o2.ownBlock=some g'→W1.heap.size≤g'∧g' < (w10.alloc (.cells #[.string ys,.int .i64 yx] 84)).heap.size:=hoh.out.lt
        have hb4h:=h_X (bS hB.out hbl)
        have hszv:W1.heap.size≤w10.heap.size:=hB.out.size
        clear hbl hO hB
        go_wp2_with (at_builtin;refine wpList_append_own_at _ rfl _ _ 42 rfl W1.heap.size 84 i0 (.agg #[.string ⟨#[]⟩,.int .i64 0]) 2 24 Tryz.underlying42 hi hz0 hz1 hz2 rfl (by decide) _ _ _ rfl hoh.out ⟨w10.heap.size,0,none⟩ 1 1 [.string ys,.int .i64 yx] rfl rfl ?c4_1 ?c4_2 ?c4_3 ?c4_4 ?c4_5 ?_)
        (try case c4_1=>intro j u hu;rw[Addr.add_lit,Nat.zero_add,World.cell?_alloc_new];simpa using hu)
        case c4_2=>first | exact⟨rfl,rfl⟩ | (intro u hu;simp at hu;rcases hu with rfl | rfl<;>rfl)
        case c4_3=>unfold maxLen;omega
        case c4_4=>omega
        case c4_5=>first | omega | (rw[World.size_alloc];omega)
        intro vv w11 hown1 hgrow _ hob
        have hB:=h_X (show Below W1.heap.size W1 w11 from hb4h.out.grown hgrow hb4h.out.size (fun g' e=>(hlt2 g' e).1))
        have hO:=h_X (show w11.ownsRow W1.heap.size 84 2 vv ((q ++ [(s,x)]) ++ [(ys,yx)]).length (flat ((q ++ [(s,x)]) ++ [(ys,yx)])) by rw[flat_snoc];simp only[List.length_append,List.length_cons,List.length_nil,Nat.zero_add];exact hown1)
        clear hown1 hgrow hob hoh hlt2 hb4h hszv
        clear c0 c1 d0 d1
        go_wp2
        go_roundw
        case rel=>exact⟨k+1,pre ++ [(ys,yx)],r,(q ++ [(s,x)]) ++ [(ys,yx)],true,rfl,(by rw[hlh.out];simp),(by simp[hk]),(fun hm=>(List.mem_append.1 hm).elim (fun h=>hnoth.out h) (fun h=>heh.out (List.mem_singleton.1 h).symm)),rfl,(fun _=>⟨⟨(ys,yx),by simp,hLT⟩,(by rw[(hpfh.out (by trivial)).2,putS_low _ _ _ (fun z hz=>by have h8:=(hpfh.out (by trivial)).1 z hz;show ¬ sySym (s,x) z < 0;omega) (by have h8:=hLT;show sySym (s,x) (ys,yx) < 0;omega)];simp)⟩),(fun h=>by cases h),hO.out,(by have:=(hpfh.out (by trivial)).2;rw[this];simp;omega),hB.out⟩
        case measure=>simp[intOf];omega
      | false =>
       have hLT:¬ ltS (s,x) (ys,yx):=fun h=>((symCmp_lt _ _).1 h).elim (fun h=>by have h2:=hlt;rw[bytesLess_eq] at h2;exact of_decide_eq_false h2 h) (fun h=>of_decide_eq_false hxx h.2)
       have hlow6:=h_X (show Below W1.heap.size W1 wr.drew from bS hbwh.out (bel_drew wr))
       have d0:=c_B hlow6.out z0h.out
       have d1:=c_B hlow6.out z1h.out
       have c0:=c_B hlow6.out hc0h.out
       have c1:=c_B hlow6.out hc1h.out
       go_wp2_with fail
       have hok:okK [(0,21,.bool false),(1,22,.bool true),(2,23,.bool true),(3,24,.slice (some ⟨b,0,none⟩) l.length c),(4,25,.int .i64 (k:Int)),(5,26,.pointer (some ⟨b,k*2,none⟩)),(6,27,.pointer (some ⟨b,k*2,none⟩)),(7,28,.string ys),(8,29,.pointer (some ⟨g,0,none⟩)),(9,30,.string s),(10,31,.bool false),(11,32,.bool false),(12,33,.slice (some ⟨b,0,none⟩) l.length c),(13,34,.int .i64 (k:Int)),(14,35,.pointer (some ⟨b,k*2,none⟩)),(15,36,.pointer (some ⟨b,k*2,none⟩)),(16,37,.string ys),(17,38,.pointer (some ⟨g,0,none⟩)),(18,39,.string s),(19,40,.bool true),(20,41,.bool true),(21,42,.slice (some ⟨b,0,none⟩) l.length c),(22,43,.int .i64 (k:Int)),(23,44,.pointer (some ⟨b,k*2,none⟩)),(24,45,.pointer (some ⟨b,k*2+1,none⟩)),(25,46,.int .i64 yx),(26,47,.pointer (some ⟨g,0+1,none⟩)),(27,48,.int .i64 x),(28,49,.bool false),(29,50,.bool false),(30,51,.bool false),(31,52,.bool false)] []=true:=by kernel_rfl
       refine wp_region_run (by kernel_rfl) 71 [21,22,23,24,25,26,27,28,29,30,31,32,33,34,35,36,37,38,39,40,41,42,43,44,45,46,47,48,49,50,51,52] (JK wr.drew (okL hok) (okP hok)) (by kernel_rfl) rfl (JK.start _ _) ?hst128 ?hend128
       case hst128 =>
        have hst:∀ p∈okP hok,Stb p.2.2:=fun p hp=>(by cases hp)
        refine⟨?_,?_,?_,?_,?_,?_,?_,?_,?_,?_,?_,?_,?_,?_,?_,?_,?_,?_,?_,?_,?_,?_,?_,?_,?_,?_,?_,?_,?_,?_,?_,?_,trivial⟩
        ·rintro l gv W hun xD hcl hJ hg ha hp
         refine' op_val ?h97 ?w97 ?r97 ?K97
         case h97=>rfl
         case w97=>exact rfl
         case r97=>exact(ex_move rfl (eval_tmp ((ha 6 (by kernel_rfl)).trans rfl)))
         case K97=>exact⟨_,hp 21 _ (by kernel_rfl),JK.M hok hst hJ 0 rfl⟩
        ·rintro l gv W hun xD hcl hJ hg ha hp
         refine' op_val ?h98 ?w98 ?r98 ?K98
         case h98=>rfl
         case w98=>exact rfl
         case r98=>exact(ex_not rfl (lE (hg 21 (by kernel_rfl)) hJ.lit 0 rfl (xD 0 (by kernel_rfl))))
         case K98=>exact⟨_,hp 22 _ (by kernel_rfl),JK.M hok hst hJ 1 rfl⟩
        ·rintro l gv W hun xD hcl hJ hg ha hp
         refine' op_val ?h99 ?w99 ?r99 ?K99
         case h99=>rfl
         case w99=>exact rfl
         case r99=>exact(ex_move rfl (lE (hg 22 (by kernel_rfl)) hJ.lit 1 rfl (xD 1 (by kernel_rfl))))
         case K99=>exact⟨_,hp 23 _ (by kernel_rfl),JK.M hok hst hJ 2 rfl⟩
        ·rintro l gv W hun xD hcl hJ hg ha hp
         have hgd:=gD (hg 23 (by kernel_rfl)) hJ.lit 2 rfl (xD 2 (by kernel_rfl))
         refine' op_val ?h100 ?w100 ?r100 ?K100
         case h100=>rfl
         case w100=>exact(wants_yes true rfl (by kernel_rfl) hgd)
         case r100=>exact(ex_move rfl (eval_tmp ((ha 0 (by kernel_rfl)).trans rfl)))
         case K100=>exact⟨_,hp 24 _ (by kernel_rfl),JK.M hok hst hJ 3 rfl⟩
        ·rintro l gv W hun xD hcl hJ hg ha hp
         have hgd:=gD (hg 23 (by kernel_rfl)) hJ.lit 2 rfl (xD 2 (by kernel_rfl))
         refine' op_val ?h101 ?w101 ?r101 ?K101
         case h101=>rfl
         case w101=>exact(wants_yes true rfl (by kernel_rfl) hgd)
         case r101=>exact(ex_move rfl (eval_tmp ((ha 7 (by kernel_rfl)).trans rfl)))
         case K101=>exact⟨_,hp 25 _ (by kernel_rfl),JK.M hok hst hJ 4 rfl⟩
        ·rintro l gv W hun xD hcl hJ hg ha hp
         have hgd:=gD (hg 23 (by kernel_rfl)) hJ.lit 2 rfl (xD 2 (by kernel_rfl))
         refine' op_val ?h102 ?w102 ?r102 ?K102
         case h102=>rfl
         case w102=>exact(wants_yes true rfl (by kernel_rfl) hgd)
         case r102=>exact(ex_indexAddr rfl (lE (hg 24 (by kernel_rfl)) hJ.lit 3 rfl (xD 3 (by kernel_rfl))) (lE (hg 25 (by kernel_rfl)) hJ.lit 4 rfl (xD 4 (by kernel_rfl))) (ix42 hkl))
         case K102=>exact⟨_,hp 26 _ (by kernel_rfl),JK.M hok hst hJ 5 rfl⟩
        ·rintro l gv W hun xD hcl hJ hg ha hp
         have hgd:=gD (hg 23 (by kernel_rfl)) hJ.lit 2 rfl (xD 2 (by kernel_rfl))
         refine' op_val ?h103 ?w103 ?r103 ?K103
         case h103=>rfl
         case w103=>exact(wants_yes true rfl (by kernel_rfl) hgd)
         case r103=>exact(ex_field rfl (lE (hg 26 (by kernel_rfl)) hJ.lit 5 rfl (xD 5 (by kernel_rfl))) fld0)
         case K103=>exact⟨_,hp 27 _ (by kernel_rfl),JK.M hok hst hJ 6 rfl⟩
        ·rintro l gv W hun xD hcl hJ hg ha hp
         have hgd:=gD (hg 23 (by kernel_rfl)) hJ.lit 2 rfl (xD 2 (by kernel_rfl))
         refine' op_val ?h104 ?w104 ?r104 ?K104
         case h104=>rfl
         case w104=>exact(wants_yes true rfl (by kernel_rfl) hgd)
         case r104=>exact(ex_load rfl (lE (hg 27 (by kernel_rfl)) hJ.lit 6 rfl (xD 6 (by kernel_rfl))) (ld9 (c_B hJ.low d0)))
         case K104=>exact⟨_,hp 28 _ (by kernel_rfl),JK.M hok hst hJ 7 rfl⟩
        ·rintro l gv W hun xD hcl hJ hg ha hp
         have hgd:=gD (hg 23 (by kernel_rfl)) hJ.lit 2 rfl (xD 2 (by kernel_rfl))
         refine' op_val ?h105 ?w105 ?r105 ?K105
         case h105=>rfl
         case w105=>exact(wants_yes true rfl (by kernel_rfl) hgd)
         case r105=>exact(ex_field rfl (eval_tmp ((ha 3 (by kernel_rfl)).trans rfl)) fld0)
         case K105=>exact⟨_,hp 29 _ (by kernel_rfl),JK.M hok hst hJ 8 rfl⟩
        ·rintro l gv W hun xD hcl hJ hg ha hp
         have hgd:=gD (hg 23 (by kernel_rfl)) hJ.lit 2 rfl (xD 2 (by kernel_rfl))
         refine' op_val ?h106 ?w106 ?r106 ?K106
         case h106=>rfl
         case w106=>exact(wants_yes true rfl (by kernel_rfl) hgd)
         case r106=>exact(ex_load rfl (lE (hg 29 (by kernel_rfl)) hJ.lit 8 rfl (xD 8 (by kernel_rfl))) (ld9 (c_B hJ.low c0)))
         case K106=>exact⟨_,hp 30 _ (by kernel_rfl),JK.M hok hst hJ 9 rfl⟩
        ·rintro l gv W hun xD hcl hJ hg ha hp
         have hgd:=gD (hg 23 (by kernel_rfl)) hJ.lit 2 rfl (xD 2 (by kernel_rfl))
         refine' op_val ?h107 ?w107 ?r107 ?K107
         case h107=>rfl
         case w107=>exact(wants_yes true rfl (by kernel_rfl) hgd)
         case r107=>exact(ex_bin rfl (lE (hg 28 (by kernel_rfl)) hJ.lit 7 rfl (xD 7 (by kernel_rfl))) (lE (hg 30 (by kernel_rfl)) hJ.lit 9 rfl (xD 9 (by kernel_rfl))) (guard_str _ _ _ _ _ W) (gtr9 hlt))
         case K107=>exact⟨_,hp 31 _ (by kernel_rfl),JK.M hok hst hJ 10 rfl⟩
        ·rintro l gv W hun xD hcl hJ hg ha hp
         have hgd:=gD (hg 23 (by kernel_rfl)) hJ.lit 2 rfl (xD 2 (by kernel_rfl))
         refine' op_val ?h108 ?w108 ?r108 ?K108
         case h108=>rfl
         case w108=>exact(wants_yes true rfl (by kernel_rfl) hgd)
         case r108=>exact(ex_move rfl (lE (hg 31 (by kernel_rfl)) hJ.lit 10 rfl (xD 10 (by kernel_rfl))))
         case K108=>exact⟨_,hp 32 _ (by kernel_rfl),JK.M hok hst hJ 11 rfl⟩
        ·rintro l gv W hun xD hcl hJ hg ha hp
         have hgd:=gD (hg 32 (by kernel_rfl)) hJ.lit 11 rfl (xD 11 (by kernel_rfl))
         refine' op_val ?h109 ?w109 ?r109 ?K109
         case h109=>rfl
         case w109=>exact(wants_yes false rfl (by kernel_rfl) hgd)
         case r109=>exact(ex_move rfl (eval_tmp ((ha 0 (by kernel_rfl)).trans rfl)))
         case K109=>exact⟨_,hp 33 _ (by kernel_rfl),JK.M hok hst hJ 12 rfl⟩
        ·rintro l gv W hun xD hcl hJ hg ha hp
         have hgd:=gD (hg 32 (by kernel_rfl)) hJ.lit 11 rfl (xD 11 (by kernel_rfl))
         refine' op_val ?h110 ?w110 ?r110 ?K110
         case h110=>rfl
         case w110=>exact(wants_yes false rfl (by kernel_rfl) hgd)
         case r110=>exact(ex_move rfl (eval_tmp ((ha 7 (by kernel_rfl)).trans rfl)))
         case K110=>exact⟨_,hp 34 _ (by kernel_rfl),JK.M hok hst hJ 13 rfl⟩
        ·rintro l gv W hun xD hcl hJ hg ha hp
         have hgd:=gD (hg 32 (by kernel_rfl)) hJ.lit 11 rfl (xD 11 (by kernel_rfl))
         refine' op_val ?h111 ?w111 ?r111 ?K111
         case h111=>rfl
         case w111=>exact(wants_yes false rfl (by kernel_rfl) hgd)
         case r111=>exact(ex_indexAddr rfl (lE (hg 33 (by kernel_rfl)) hJ.lit 12 rfl (xD 12 (by kernel_rfl))) (lE (hg 34 (by kernel_rfl)) hJ.lit 13 rfl (xD 13 (by kernel_rfl))) (ix42 hkl))
         case K111=>exact⟨_,hp 35 _ (by kernel_rfl),JK.M hok hst hJ 14 rfl⟩
        ·rintro l gv W hun xD hcl hJ hg ha hp
         have hgd:=gD (hg 32 (by kernel_rfl)) hJ.lit 11 rfl (xD 11 (by kernel_rfl))
         refine' op_val ?h112 ?w112 ?r112 ?K112
         case h112=>rfl
         case w112=>exact(wants_yes false rfl (by kernel_rfl) hgd)
         case r112=>exact(ex_field rfl (lE (hg 35 (by kernel_rfl)) hJ.lit 14 rfl (xD 14 (by kernel_rfl))) fld0)
         case K112=>exact⟨_,hp 36 _ (by kernel_rfl),JK.M hok hst hJ 15 rfl⟩
        ·rintro l gv W hun xD hcl hJ hg ha hp
         have hgd:=gD (hg 32 (by kernel_rfl)) hJ.lit 11 rfl (xD 11 (by kernel_rfl))
         refine' op_val ?h113 ?w113 ?r113 ?K113
         case h113=>rfl
         case w113=>exact(wants_yes false rfl (by kernel_rfl) hgd)
         case r113=>exact(ex_load rfl (lE (hg 36 (by kernel_rfl)) hJ.lit 15 rfl (xD 15 (by kernel_rfl))) (ld9 (c_B hJ.low d0)))
         case K113=>exact⟨_,hp 37 _ (by kernel_rfl),JK.M hok hst hJ 16 rfl⟩
        ·rintro l gv W hun xD hcl hJ hg ha hp
         have hgd:=gD (hg 32 (by kernel_rfl)) hJ.lit 11 rfl (xD 11 (by kernel_rfl))
         refine' op_val ?h114 ?w114 ?r114 ?K114
         case h114=>rfl
         case w114=>exact(wants_yes false rfl (by kernel_rfl) hgd)
         case r114=>exact(ex_field rfl (eval_tmp ((ha 3 (by kernel_rfl)).trans rfl)) fld0)
         case K114=>exact⟨_,hp 38 _ (by kernel_rfl),JK.M hok hst hJ 17 rfl⟩
        ·rintro l gv W hun xD hcl hJ hg ha hp
         have hgd:=gD (hg 32 (by kernel_rfl)) hJ.lit 11 rfl (xD 11 (by kernel_rfl))
         refine' op_val ?h115 ?w115 ?r115 ?K115
         case h115=>rfl
         case w115=>exact(wants_yes false rfl (by kernel_rfl) hgd)
         case r115=>exact(ex_load rfl (lE (hg 38 (by kernel_rfl)) hJ.lit 17 rfl (xD 17 (by kernel_rfl))) (ld9 (c_B hJ.low c0)))
         case K115=>exact⟨_,hp 39 _ (by kernel_rfl),JK.M hok hst hJ 18 rfl⟩
        ·rintro l gv W hun xD hcl hJ hg ha hp
         have hgd:=gD (hg 32 (by kernel_rfl)) hJ.lit 11 rfl (xD 11 (by kernel_rfl))
         refine' op_val ?h116 ?w116 ?r116 ?K116
         case h116=>rfl
         case w116=>exact(wants_yes false rfl (by kernel_rfl) hgd)
         case r116=>exact(ex_bin rfl (lE (hg 37 (by kernel_rfl)) hJ.lit 16 rfl (xD 16 (by kernel_rfl))) (lE (hg 39 (by kernel_rfl)) hJ.lit 18 rfl (xD 18 (by kernel_rfl))) (guard_str _ _ _ _ _ W) (eql9 hs1))
         case K116=>exact⟨_,hp 40 _ (by kernel_rfl),JK.M hok hst hJ 19 rfl⟩
        ·rintro l gv W hun xD hcl hJ hg ha hp
         have hgd:=gD (hg 32 (by kernel_rfl)) hJ.lit 11 rfl (xD 11 (by kernel_rfl))
         refine' op_val ?h117 ?w117 ?r117 ?K117
         case h117=>rfl
         case w117=>exact(wants_yes false rfl (by kernel_rfl) hgd)
         case r117=>exact(ex_move rfl (lE (hg 40 (by kernel_rfl)) hJ.lit 19 rfl (xD 19 (by kernel_rfl))))
         case K117=>exact⟨_,hp 41 _ (by kernel_rfl),JK.M hok hst hJ 20 rfl⟩
        ·rintro l gv W hun xD hcl hJ hg ha hp
         have hgd:=gD (hg 41 (by kernel_rfl)) hJ.lit 20 rfl (xD 20 (by kernel_rfl))
         refine' op_val ?h118 ?w118 ?r118 ?K118
         case h118=>rfl
         case w118=>exact(wants_yes true rfl (by kernel_rfl) hgd)
         case r118=>exact(ex_move rfl (eval_tmp ((ha 0 (by kernel_rfl)).trans rfl)))
         case K118=>exact⟨_,hp 42 _ (by kernel_rfl),JK.M hok hst hJ 21 rfl⟩
        ·rintro l gv W hun xD hcl hJ hg ha hp
         have hgd:=gD (hg 41 (by kernel_rfl)) hJ.lit 20 rfl (xD 20 (by kernel_rfl))
         refine' op_val ?h119 ?w119 ?r119 ?K119
         case h119=>rfl
         case w119=>exact(wants_yes true rfl (by kernel_rfl) hgd)
         case r119=>exact(ex_move rfl (eval_tmp ((ha 7 (by kernel_rfl)).trans rfl)))
         case K119=>exact⟨_,hp 43 _ (by kernel_rfl),JK.M hok hst hJ 22 rfl⟩
        ·rintro l gv W hun xD hcl hJ hg ha hp
         have hgd:=gD (hg 41 (by kernel_rfl)) hJ.lit 20 rfl (xD 20 (by kernel_rfl))
         refine' op_val ?h120 ?w120 ?r120 ?K120
         case h120=>rfl
         case w120=>exact(wants_yes true rfl (by kernel_rfl) hgd)
         case r120=>exact(ex_indexAddr rfl (lE (hg 42 (by kernel_rfl)) hJ.lit 21 rfl (xD 21 (by kernel_rfl))) (lE (hg 43 (by kernel_rfl)) hJ.lit 22 rfl (xD 22 (by kernel_rfl))) (ix42 hkl))
         case K120=>exact⟨_,hp 44 _ (by kernel_rfl),JK.M hok hst hJ 23 rfl⟩
        ·rintro l gv W hun xD hcl hJ hg ha hp
         have hgd:=gD (hg 41 (by kernel_rfl)) hJ.lit 20 rfl (xD 20 (by kernel_rfl))
         refine' op_val ?h121 ?w121 ?r121 ?K121
         case h121=>rfl
         case w121=>exact(wants_yes true rfl (by kernel_rfl) hgd)
         case r121=>exact(ex_field rfl (lE (hg 44 (by kernel_rfl)) hJ.lit 23 rfl (xD 23 (by kernel_rfl))) fld1)
         case K121=>exact⟨_,hp 45 _ (by kernel_rfl),JK.M hok hst hJ 24 rfl⟩
        ·rintro l gv W hun xD hcl hJ hg ha hp
         have hgd:=gD (hg 41 (by kernel_rfl)) hJ.lit 20 rfl (xD 20 (by kernel_rfl))
         refine' op_val ?h122 ?w122 ?r122 ?K122
         case h122=>rfl
         case w122=>exact(wants_yes true rfl (by kernel_rfl) hgd)
         case r122=>exact(ex_load rfl (lE (hg 45 (by kernel_rfl)) hJ.lit 24 rfl (xD 24 (by kernel_rfl))) (ld3 (c_B hJ.low d1)))
         case K122=>exact⟨_,hp 46 _ (by kernel_rfl),JK.M hok hst hJ 25 rfl⟩
        ·rintro l gv W hun xD hcl hJ hg ha hp
         have hgd:=gD (hg 41 (by kernel_rfl)) hJ.lit 20 rfl (xD 20 (by kernel_rfl))
         refine' op_val ?h123 ?w123 ?r123 ?K123
         case h123=>rfl
         case w123=>exact(wants_yes true rfl (by kernel_rfl) hgd)
         case r123=>exact(ex_field rfl (eval_tmp ((ha 3 (by kernel_rfl)).trans rfl)) fld1)
         case K123=>exact⟨_,hp 47 _ (by kernel_rfl),JK.M hok hst hJ 26 rfl⟩
        ·rintro l gv W hun xD hcl hJ hg ha hp
         have hgd:=gD (hg 41 (by kernel_rfl)) hJ.lit 20 rfl (xD 20 (by kernel_rfl))
         refine' op_val ?h124 ?w124 ?r124 ?K124
         case h124=>rfl
         case w124=>exact(wants_yes true rfl (by kernel_rfl) hgd)
         case r124=>exact(ex_load rfl (lE (hg 47 (by kernel_rfl)) hJ.lit 26 rfl (xD 26 (by kernel_rfl))) (ld3 (c_B hJ.low c1)))
         case K124=>exact⟨_,hp 48 _ (by kernel_rfl),JK.M hok hst hJ 27 rfl⟩
        ·rintro l gv W hun xD hcl hJ hg ha hp
         have hgd:=gD (hg 41 (by kernel_rfl)) hJ.lit 20 rfl (xD 20 (by kernel_rfl))
         refine' op_val ?h125 ?w125 ?r125 ?K125
         case h125=>rfl
         case w125=>exact(wants_yes true rfl (by kernel_rfl) hgd)
         case r125=>exact(ex_bin rfl (lE (hg 46 (by kernel_rfl)) hJ.lit 25 rfl (xD 25 (by kernel_rfl))) (lE (hg 48 (by kernel_rfl)) hJ.lit 27 rfl (xD 27 (by kernel_rfl))) (grd3 _ _ _ _ W) (gtr3 hxx))
         case K125=>exact⟨_,hp 49 _ (by kernel_rfl),JK.M hok hst hJ 28 rfl⟩
        ·rintro l gv W hun xD hcl hJ hg ha hp
         have hgd:=gD (hg 32 (by kernel_rfl)) hJ.lit 11 rfl (xD 11 (by kernel_rfl))
         refine' op_val ?h126 ?w126 ?r126 ?K126
         case h126=>rfl
         case w126=>exact(wants_yes false rfl (by kernel_rfl) hgd)
         case r126=>exact(ex_pick rfl (lE (hg 41 (by kernel_rfl)) hJ.lit 20 rfl (xD 20 (by kernel_rfl))) (lE (hg 49 (by kernel_rfl)) hJ.lit 28 rfl (xD 28 (by kernel_rfl))))
         case K126=>exact⟨_,hp 50 _ (by kernel_rfl),JK.M hok hst hJ 29 rfl⟩
        ·rintro l gv W hun xD hcl hJ hg ha hp
         have hgd:=gD (hg 23 (by kernel_rfl)) hJ.lit 2 rfl (xD 2 (by kernel_rfl))
         refine' op_val ?h127 ?w127 ?r127 ?K127
         case h127=>rfl
         case w127=>exact(wants_yes true rfl (by kernel_rfl) hgd)
         case r127=>exact(ex_pickF rfl (lE (hg 32 (by kernel_rfl)) hJ.lit 11 rfl (xD 11 (by kernel_rfl))) (lE (hg 50 (by kernel_rfl)) hJ.lit 29 rfl (xD 29 (by kernel_rfl))))
         case K127=>exact⟨_,hp 51 _ (by kernel_rfl),JK.M hok hst hJ 30 rfl⟩
        ·rintro l gv W hun xD hcl hJ hg ha hp
         refine' op_val ?h128 ?w128 ?r128 ?K128
         case h128=>rfl
         case w128=>exact rfl
         case r128=>exact(ex_pick rfl (lE (hg 23 (by kernel_rfl)) hJ.lit 2 rfl (xD 2 (by kernel_rfl))) (lE (hg 51 (by kernel_rfl)) hJ.lit 30 rfl (xD 30 (by kernel_rfl))))
         case K128=>exact⟨_,hp 52 _ (by kernel_rfl),JK.M hok hst hJ 31 rfl⟩
       case hend128 =>
        rintro ll gv W9 hl hJ
        replace hl:=fun j h=>hl j (of_decide_eq_true h)
        have e21:=lT hJ.lit 0 rfl (hl 0 (by kernel_rfl))
        have e22:=lT hJ.lit 1 rfl (hl 1 (by kernel_rfl))
        have e23:=lT hJ.lit 2 rfl (hl 2 (by kernel_rfl))
        have e24:=lT hJ.lit 3 rfl (hl 3 (by kernel_rfl))
        have e25:=lT hJ.lit 4 rfl (hl 4 (by kernel_rfl))
        have e26:=lT hJ.lit 5 rfl (hl 5 (by kernel_rfl))
        have e27:=lT hJ.lit 6 rfl (hl 6 (by kernel_rfl))
        have e28:=lT hJ.lit 7 rfl (hl 7 (by kernel_rfl))
        have e29:=lT hJ.lit 8 rfl (hl 8 (by kernel_rfl))
        have e30:=lT hJ.lit 9 rfl (hl 9 (by kernel_rfl))
        have e31:=lT hJ.lit 10 rfl (hl 10 (by kernel_rfl))
        have e32:=lT hJ.lit 11 rfl (hl 11 (by kernel_rfl))
        have e33:=lT hJ.lit 12 rfl (hl 12 (by kernel_rfl))
        have e34:=lT hJ.lit 13 rfl (hl 13 (by kernel_rfl))
        have e35:=lT hJ.lit 14 rfl (hl 14 (by kernel_rfl))
        have e36:=lT hJ.lit 15 rfl (hl 15 (by kernel_rfl))
        have e37:=lT hJ.lit 16 rfl (hl 16 (by kernel_rfl))
        have e38:=lT hJ.lit 17 rfl (hl 17 (by kernel_rfl))
        have e39:=lT hJ.lit 18 rfl (hl 18 (by kernel_rfl))
        have e40:=lT hJ.lit 19 rfl (hl 19 (by kernel_rfl))
        have e41:=lT hJ.lit 20 rfl (hl 20 (by kernel_rfl))
        have e42:=lT hJ.lit 21 rfl (hl 21 (by kernel_rfl))
        have e43:=lT hJ.lit 22 rfl (hl 22 (by kernel_rfl))
        have e44:=lT hJ.lit 23 rfl (hl 23 (by kernel_rfl))
        have e45:=lT hJ.lit 24 rfl (hl 24 (by kernel_rfl))
        have e46:=lT hJ.lit 25 rfl (hl 25 (by kernel_rfl))
        have e47:=lT hJ.lit 26 rfl (hl 26 (by kernel_rfl))
        have e48:=lT hJ.lit 27 rfl (hl 27 (by kernel_rfl))
        have e49:=lT hJ.lit 28 rfl (hl 28 (by kernel_rfl))
        have e50:=lT hJ.lit 29 rfl (hl 29 (by kernel_rfl))
        have e51:=lT hJ.lit 30 rfl (hl 30 (by kernel_rfl))
        have e52:=lT hJ.lit 31 rfl (hl 31 (by kernel_rfl))
        simp only[zipV,List.map_cons,List.map_nil,puts,Act.put,List.setIfInBounds_toArray,List.set_cons_succ,List.set_cons_zero,e21,e22,e23,e24,e25,e26,e27,e28,e29,e30,e31,e32,e33,e34,e35,e36,e37,e38,e39,e40,e41,e42,e43,e44,e45,e46,e47,e48,e49,e50,e51,e52]
        have hlow:=h_X hJ.low
        clear e21 e22 e23 e24 e25 e26 e27 e28 e29 e30 e31 e32 e33 e34 e35 e36 e37 e38 e39 e40 e41 e42 e43 e44 e45 e46 e47 e48 e49 e50 e51 e52 hJ hl
        obtain⟨w8,hw8⟩:∃ w8,W9=w8:=⟨_,rfl⟩
        rw[hw8] at hlow ⊢
        clear hw8 d0 d1 c0 c1
        have hB:=h_X (show Below W1.heap.size W1 w8 from bS hlow6.out hlow.out)
        have hO:=h_X (show w8.ownsRow W1.heap.size 84 2 u5 q.length (flat q) from owns_below (bS (bel_drew wr) hlow.out) hownh.out)
        have c0:=c_B hB.out hc0h.out
        have c1:=c_B hB.out hc1h.out
        have d0:=c_B hB.out z0h.out
        have d1:=c_B hB.out z1h.out
        clear hlow hlow6 hownh
        have hbl:=bel_laid w8 (.cells #[.string ys,.int .i64 yx] 84)
        have hoh:=h_X (owns_below hbl hO.out)
        have hlt2:∀ g',u5.ownBlock=some g'→W1.heap.size≤g'∧g' < (w8.alloc (.cells #[.string ys,.int .i64 yx] 84)).heap.size:=hoh.out.lt
        have hb4h:=h_X (bS hB.out hbl)
        have hszv:W1.heap.size≤w8.heap.size:=hB.out.size
        clear hbl hO hB
        go_wp2_with (at_builtin;refine wpList_append_own_at _ rfl _ _ 42 rfl W1.heap.size 84 i0 (.agg #[.string ⟨#[]⟩,.int .i64 0]) 2 24 Tryz.underlying42 hi hz0 hz1 hz2 rfl (by decide) _ _ _ rfl hoh.out ⟨w8.heap.size,0,none⟩ 1 1 [.string ys,.int .i64 yx] rfl rfl ?c5_1 ?c5_2 ?c5_3 ?c5_4 ?c5_5 ?_)
        (try case c5_1=>intro j u hu;rw[Addr.add_lit,Nat.zero_add,World.cell?_alloc_new];simpa using hu)
        case c5_2=>first | exact⟨rfl,rfl⟩ | (intro u hu;simp at hu;rcases hu with rfl | rfl<;>rfl)
        case c5_3=>unfold maxLen;omega
        case c5_4=>omega
        case c5_5=>first | omega | (rw[World.size_alloc];omega)
        intro vv w11 hown1 hgrow _ hob
        have hB:=h_X (show Below W1.heap.size W1 w11 from hb4h.out.grown hgrow hb4h.out.size (fun g' e=>(hlt2 g' e).1))
        have hO:=h_X (show w11.ownsRow W1.heap.size 84 2 vv (q ++ [(ys,yx)]).length (flat (q ++ [(ys,yx)])) by rw[flat_snoc];simp only[List.length_append,List.length_cons,List.length_nil,Nat.zero_add];exact hown1)
        clear hown1 hgrow hob hoh hlt2 hb4h hszv
        clear c0 c1 d0 d1
        go_wp2
        go_roundw
        case rel=>exact⟨k+1,pre ++ [(ys,yx)],r,q ++ [(ys,yx)],false,rfl,(by rw[hlh.out];simp),(by simp[hk]),(fun hm=>(List.mem_append.1 hm).elim (fun h=>hnoth.out h) (fun h=>heh.out (List.mem_singleton.1 h).symm)),rfl,(fun h=>by cases h),(fun _=>⟨(fun z hz=>(List.mem_append.1 hz).elim (fun h=>by have h8:=(hpfh.out (by trivial)).1 z h;show ¬ sySym (s,x) z < 0;omega) (fun h=>by rw[List.mem_singleton.1 h];have h8:=hLT;show ¬ sySym (s,x) (ys,yx) < 0;omega)),(by rw[(hpfh.out (by trivial)).2])⟩),hO.out,(by have:=(hpfh.out (by trivial)).2;rw[this];simp;omega),hB.out⟩
        case measure=>simp[intOf];omega
    ·have hs1:(ys.toList == s.toList)=false:=beq_eq_false_iff_ne.2 hs
     clear he hs hbw
     go_wp2_with fail
     go_region_held3 (fun V:World=>V.cell? ⟨b,k*2,none⟩=some (.string ys)∧V.cell? ⟨b,k*2+1,none⟩=some (.int .i64 yx)∧V.cell? ⟨g,0,none⟩=some (.string s)∧V.cell? ⟨g,1,none⟩=some (.int .i64 x)∧Below wr.heap.size wr V) (first | assumption | exact⟨d0,d1,c0,c1,bel_drew wr⟩) (fail)
     clear d0 d1 c0 c1
     cases pb with
     | true =>
      have hlow6:=h_X (show Below W1.heap.size W1 wr.drew from bS hbwh.out (bel_drew wr))
      have d0:=c_B hlow6.out z0h.out
      have d1:=c_B hlow6.out z1h.out
      have c0:=c_B hlow6.out hc0h.out
      have c1:=c_B hlow6.out hc1h.out
      go_wp2_with fail
      have hok:okK [(0,21,.bool true),(1,22,.bool false),(2,23,.bool false),(3,24,undef),(4,25,undef),(5,26,undef),(6,27,undef),(7,28,undef),(8,29,undef),(9,30,undef),(10,31,undef),(11,32,undef),(12,33,undef),(13,34,undef),(14,35,undef),(15,36,undef),(16,37,undef),(17,38,undef),(18,39,undef),(19,40,undef),(20,41,undef),(21,42,undef),(22,43,undef),(23,44,undef),(24,45,undef),(25,46,undef),(26,47,undef),(27,48,undef),(28,49,undef),(29,50,undef),(30,51,undef),(31,52,.bool false)] []=true:=by kernel_rfl
      refine wp_region_run (by kernel_rfl) 71 [21,22,23,24,25,26,27,28,29,30,31,32,33,34,35,36,37,38,39,40,41,42,43,44,45,46,47,48,49,50,51,52] (JK wr.drew (okL hok) (okP hok)) (by kernel_rfl) rfl (JK.start _ _) ?hst64 ?hend64
      case hst64 =>
       have hst:∀ p∈okP hok,Stb p.2.2:=fun p hp=>(by cases hp)
       refine⟨?_,?_,?_,?_,?_,?_,?_,?_,?_,?_,?_,?_,?_,?_,?_,?_,?_,?_,?_,?_,?_,?_,?_,?_,?_,?_,?_,?_,?_,?_,?_,?_,trivial⟩
       ·rintro l gv W hun xD hcl hJ hg ha hp
        refine' op_val ?h33 ?w33 ?r33 ?K33
        case h33=>rfl
        case w33=>exact rfl
        case r33=>exact(ex_move rfl (eval_tmp ((ha 6 (by kernel_rfl)).trans rfl)))
        case K33=>exact⟨_,hp 21 _ (by kernel_rfl),JK.M hok hst hJ 0 rfl⟩
       ·rintro l gv W hun xD hcl hJ hg ha hp
        refine' op_val ?h34 ?w34 ?r34 ?K34
        case h34=>rfl
        case w34=>exact rfl
        case r34=>exact(ex_not rfl (lE (hg 21 (by kernel_rfl)) hJ.lit 0 rfl (xD 0 (by kernel_rfl))))
        case K34=>exact⟨_,hp 22 _ (by kernel_rfl),JK.M hok hst hJ 1 rfl⟩
       ·rintro l gv W hun xD hcl hJ hg ha hp
        refine' op_val ?h35 ?w35 ?r35 ?K35
        case h35=>rfl
        case w35=>exact rfl
        case r35=>exact(ex_move rfl (lE (hg 22 (by kernel_rfl)) hJ.lit 1 rfl (xD 1 (by kernel_rfl))))
        case K35=>exact⟨_,hp 23 _ (by kernel_rfl),JK.M hok hst hJ 2 rfl⟩
       ·rintro l gv W hun xD hcl hJ hg ha hp
        have hgd:=gD (hg 23 (by kernel_rfl)) hJ.lit 2 rfl (xD 2 (by kernel_rfl))
        refine' op_out ?h36 ?w36 ?K36
        case h36=>rfl
        case w36=>exact(wants_no true rfl (by kernel_rfl) hgd)
        case K36=>exact⟨_,hp 24 _ (by kernel_rfl),JK.M hok hst hJ 3 rfl⟩
       ·rintro l gv W hun xD hcl hJ hg ha hp
        have hgd:=gD (hg 23 (by kernel_rfl)) hJ.lit 2 rfl (xD 2 (by kernel_rfl))
        refine' op_out ?h37 ?w37 ?K37
        case h37=>rfl
        case w37=>exact(wants_no true rfl (by kernel_rfl) hgd)
        case K37=>exact⟨_,hp 25 _ (by kernel_rfl),JK.M hok hst hJ 4 rfl⟩
       ·rintro l gv W hun xD hcl hJ hg ha hp
        have hgd:=gD (hg 23 (by kernel_rfl)) hJ.lit 2 rfl (xD 2 (by kernel_rfl))
        refine' op_out ?h38 ?w38 ?K38
        case h38=>rfl
        case w38=>exact(wants_no true rfl (by kernel_rfl) hgd)
        case K38=>exact⟨_,hp 26 _ (by kernel_rfl),JK.M hok hst hJ 5 rfl⟩
       ·rintro l gv W hun xD hcl hJ hg ha hp
        have hgd:=gD (hg 23 (by kernel_rfl)) hJ.lit 2 rfl (xD 2 (by kernel_rfl))
        refine' op_out ?h39 ?w39 ?K39
        case h39=>rfl
        case w39=>exact(wants_no true rfl (by kernel_rfl) hgd)
        case K39=>exact⟨_,hp 27 _ (by kernel_rfl),JK.M hok hst hJ 6 rfl⟩
       ·rintro l gv W hun xD hcl hJ hg ha hp
        have hgd:=gD (hg 23 (by kernel_rfl)) hJ.lit 2 rfl (xD 2 (by kernel_rfl))
        refine' op_out ?h40 ?w40 ?K40
        case h40=>rfl
        case w40=>exact(wants_no true rfl (by kernel_rfl) hgd)
        case K40=>exact⟨_,hp 28 _ (by kernel_rfl),JK.M hok hst hJ 7 rfl⟩
       ·rintro l gv W hun xD hcl hJ hg ha hp
        have hgd:=gD (hg 23 (by kernel_rfl)) hJ.lit 2 rfl (xD 2 (by kernel_rfl))
        refine' op_out ?h41 ?w41 ?K41
        case h41=>rfl
        case w41=>exact(wants_no true rfl (by kernel_rfl) hgd)
        case K41=>exact⟨_,hp 29 _ (by kernel_rfl),JK.M hok hst hJ 8 rfl⟩
       ·rintro l gv W hun xD hcl hJ hg ha hp
        have hgd:=gD (hg 23 (by kernel_rfl)) hJ.lit 2 rfl (xD 2 (by kernel_rfl))
        refine' op_out ?h42 ?w42 ?K42
        case h42=>rfl
        case w42=>exact(wants_no true rfl (by kernel_rfl) hgd)
        case K42=>exact⟨_,hp 30 _ (by kernel_rfl),JK.M hok hst hJ 9 rfl⟩
       ·rintro l gv W hun xD hcl hJ hg ha hp
        have hgd:=gD (hg 23 (by kernel_rfl)) hJ.lit 2 rfl (xD 2 (by kernel_rfl))
        refine' op_out ?h43 ?w43 ?K43
        case h43=>rfl
        case w43=>exact(wants_no true rfl (by kernel_rfl) hgd)
        case K43=>exact⟨_,hp 31 _ (by kernel_rfl),JK.M hok hst hJ 10 rfl⟩
       ·rintro l gv W hun xD hcl hJ hg ha hp
        have hgd:=gD (hg 23 (by kernel_rfl)) hJ.lit 2 rfl (xD 2 (by kernel_rfl))
        refine' op_out ?h44 ?w44 ?K44
        case h44=>rfl
        case w44=>exact(wants_no true rfl (by kernel_rfl) hgd)
        case K44=>exact⟨_,hp 32 _ (by kernel_rfl),JK.M hok hst hJ 11 rfl⟩
       ·rintro l gv W hun xD hcl hJ hg ha hp
        have hgd:=gD (hg 32 (by kernel_rfl)) hJ.lit 11 rfl (xD 11 (by kernel_rfl))
        refine' op_out ?h45 ?w45 ?K45
        case h45=>rfl
        case w45=>exact(wants_undef false rfl (by kernel_rfl) hgd)
        case K45=>exact⟨_,hp 33 _ (by kernel_rfl),JK.M hok hst hJ 12 rfl⟩
       ·rintro l gv W hun xD hcl hJ hg ha hp
        have hgd:=gD (hg 32 (by kernel_rfl)) hJ.lit 11 rfl (xD 11 (by kernel_rfl))
        refine' op_out ?h46 ?w46 ?K46
        case h46=>rfl
        case w46=>exact(wants_undef false rfl (by kernel_rfl) hgd)
        case K46=>exact⟨_,hp 34 _ (by kernel_rfl),JK.M hok hst hJ 13 rfl⟩
       ·rintro l gv W hun xD hcl hJ hg ha hp
        have hgd:=gD (hg 32 (by kernel_rfl)) hJ.lit 11 rfl (xD 11 (by kernel_rfl))
        refine' op_out ?h47 ?w47 ?K47
        case h47=>rfl
        case w47=>exact(wants_undef false rfl (by kernel_rfl) hgd)
        case K47=>exact⟨_,hp 35 _ (by kernel_rfl),JK.M hok hst hJ 14 rfl⟩
       ·rintro l gv W hun xD hcl hJ hg ha hp
        have hgd:=gD (hg 32 (by kernel_rfl)) hJ.lit 11 rfl (xD 11 (by kernel_rfl))
        refine' op_out ?h48 ?w48 ?K48
        case h48=>rfl
        case w48=>exact(wants_undef false rfl (by kernel_rfl) hgd)
        case K48=>exact⟨_,hp 36 _ (by kernel_rfl),JK.M hok hst hJ 15 rfl⟩
       ·rintro l gv W hun xD hcl hJ hg ha hp
        have hgd:=gD (hg 32 (by kernel_rfl)) hJ.lit 11 rfl (xD 11 (by kernel_rfl))
        refine' op_out ?h49 ?w49 ?K49
        case h49=>rfl
        case w49=>exact(wants_undef false rfl (by kernel_rfl) hgd)
        case K49=>exact⟨_,hp 37 _ (by kernel_rfl),JK.M hok hst hJ 16 rfl⟩
       ·rintro l gv W hun xD hcl hJ hg ha hp
        have hgd:=gD (hg 32 (by kernel_rfl)) hJ.lit 11 rfl (xD 11 (by kernel_rfl))
        refine' op_out ?h50 ?w50 ?K50
        case h50=>rfl
        case w50=>exact(wants_undef false rfl (by kernel_rfl) hgd)
        case K50=>exact⟨_,hp 38 _ (by kernel_rfl),JK.M hok hst hJ 17 rfl⟩
       ·rintro l gv W hun xD hcl hJ hg ha hp
        have hgd:=gD (hg 32 (by kernel_rfl)) hJ.lit 11 rfl (xD 11 (by kernel_rfl))
        refine' op_out ?h51 ?w51 ?K51
        case h51=>rfl
        case w51=>exact(wants_undef false rfl (by kernel_rfl) hgd)
        case K51=>exact⟨_,hp 39 _ (by kernel_rfl),JK.M hok hst hJ 18 rfl⟩
       ·rintro l gv W hun xD hcl hJ hg ha hp
        have hgd:=gD (hg 32 (by kernel_rfl)) hJ.lit 11 rfl (xD 11 (by kernel_rfl))
        refine' op_out ?h52 ?w52 ?K52
        case h52=>rfl
        case w52=>exact(wants_undef false rfl (by kernel_rfl) hgd)
        case K52=>exact⟨_,hp 40 _ (by kernel_rfl),JK.M hok hst hJ 19 rfl⟩
       ·rintro l gv W hun xD hcl hJ hg ha hp
        have hgd:=gD (hg 32 (by kernel_rfl)) hJ.lit 11 rfl (xD 11 (by kernel_rfl))
        refine' op_out ?h53 ?w53 ?K53
        case h53=>rfl
        case w53=>exact(wants_undef false rfl (by kernel_rfl) hgd)
        case K53=>exact⟨_,hp 41 _ (by kernel_rfl),JK.M hok hst hJ 20 rfl⟩
       ·rintro l gv W hun xD hcl hJ hg ha hp
        have hgd:=gD (hg 41 (by kernel_rfl)) hJ.lit 20 rfl (xD 20 (by kernel_rfl))
        refine' op_out ?h54 ?w54 ?K54
        case h54=>rfl
        case w54=>exact(wants_undef true rfl (by kernel_rfl) hgd)
        case K54=>exact⟨_,hp 42 _ (by kernel_rfl),JK.M hok hst hJ 21 rfl⟩
       ·rintro l gv W hun xD hcl hJ hg ha hp
        have hgd:=gD (hg 41 (by kernel_rfl)) hJ.lit 20 rfl (xD 20 (by kernel_rfl))
        refine' op_out ?h55 ?w55 ?K55
        case h55=>rfl
        case w55=>exact(wants_undef true rfl (by kernel_rfl) hgd)
        case K55=>exact⟨_,hp 43 _ (by kernel_rfl),JK.M hok hst hJ 22 rfl⟩
       ·rintro l gv W hun xD hcl hJ hg ha hp
        have hgd:=gD (hg 41 (by kernel_rfl)) hJ.lit 20 rfl (xD 20 (by kernel_rfl))
        refine' op_out ?h56 ?w56 ?K56
        case h56=>rfl
        case w56=>exact(wants_undef true rfl (by kernel_rfl) hgd)
        case K56=>exact⟨_,hp 44 _ (by kernel_rfl),JK.M hok hst hJ 23 rfl⟩
       ·rintro l gv W hun xD hcl hJ hg ha hp
        have hgd:=gD (hg 41 (by kernel_rfl)) hJ.lit 20 rfl (xD 20 (by kernel_rfl))
        refine' op_out ?h57 ?w57 ?K57
        case h57=>rfl
        case w57=>exact(wants_undef true rfl (by kernel_rfl) hgd)
        case K57=>exact⟨_,hp 45 _ (by kernel_rfl),JK.M hok hst hJ 24 rfl⟩
       ·rintro l gv W hun xD hcl hJ hg ha hp
        have hgd:=gD (hg 41 (by kernel_rfl)) hJ.lit 20 rfl (xD 20 (by kernel_rfl))
        refine' op_out ?h58 ?w58 ?K58
        case h58=>rfl
        case w58=>exact(wants_undef true rfl (by kernel_rfl) hgd)
        case K58=>exact⟨_,hp 46 _ (by kernel_rfl),JK.M hok hst hJ 25 rfl⟩
       ·rintro l gv W hun xD hcl hJ hg ha hp
        have hgd:=gD (hg 41 (by kernel_rfl)) hJ.lit 20 rfl (xD 20 (by kernel_rfl))
        refine' op_out ?h59 ?w59 ?K59
        case h59=>rfl
        case w59=>exact(wants_undef true rfl (by kernel_rfl) hgd)
        case K59=>exact⟨_,hp 47 _ (by kernel_rfl),JK.M hok hst hJ 26 rfl⟩
       ·rintro l gv W hun xD hcl hJ hg ha hp
        have hgd:=gD (hg 41 (by kernel_rfl)) hJ.lit 20 rfl (xD 20 (by kernel_rfl))
        refine' op_out ?h60 ?w60 ?K60
        case h60=>rfl
        case w60=>exact(wants_undef true rfl (by kernel_rfl) hgd)
        case K60=>exact⟨_,hp 48 _ (by kernel_rfl),JK.M hok hst hJ 27 rfl⟩
       ·rintro l gv W hun xD hcl hJ hg ha hp
        have hgd:=gD (hg 41 (by kernel_rfl)) hJ.lit 20 rfl (xD 20 (by kernel_rfl))
        refine' op_out ?h61 ?w61 ?K61
        case h61=>rfl
        case w61=>exact(wants_undef true rfl (by kernel_rfl) hgd)
        case K61=>exact⟨_,hp 49 _ (by kernel_rfl),JK.M hok hst hJ 28 rfl⟩
       ·rintro l gv W hun xD hcl hJ hg ha hp
        have hgd:=gD (hg 32 (by kernel_rfl)) hJ.lit 11 rfl (xD 11 (by kernel_rfl))
        refine' op_out ?h62 ?w62 ?K62
        case h62=>rfl
        case w62=>exact(wants_undef false rfl (by kernel_rfl) hgd)
        case K62=>exact⟨_,hp 50 _ (by kernel_rfl),JK.M hok hst hJ 29 rfl⟩
       ·rintro l gv W hun xD hcl hJ hg ha hp
        have hgd:=gD (hg 23 (by kernel_rfl)) hJ.lit 2 rfl (xD 2 (by kernel_rfl))
        refine' op_out ?h63 ?w63 ?K63
        case h63=>rfl
        case w63=>exact(wants_no true rfl (by kernel_rfl) hgd)
        case K63=>exact⟨_,hp 51 _ (by kernel_rfl),JK.M hok hst hJ 30 rfl⟩
       ·rintro l gv W hun xD hcl hJ hg ha hp
        refine' op_val ?h64 ?w64 ?r64 ?K64
        case h64=>rfl
        case w64=>exact rfl
        case r64=>exact(ex_pickF rfl (lE (hg 23 (by kernel_rfl)) hJ.lit 2 rfl (xD 2 (by kernel_rfl))) rfl)
        case K64=>exact⟨_,hp 52 _ (by kernel_rfl),JK.M hok hst hJ 31 rfl⟩
      case hend64 =>
       rintro ll gv W9 hl hJ
       replace hl:=fun j h=>hl j (of_decide_eq_true h)
       have e21:=lT hJ.lit 0 rfl (hl 0 (by kernel_rfl))
       have e22:=lT hJ.lit 1 rfl (hl 1 (by kernel_rfl))
       have e23:=lT hJ.lit 2 rfl (hl 2 (by kernel_rfl))
       have e24:=lT hJ.lit 3 rfl (hl 3 (by kernel_rfl))
       have e25:=lT hJ.lit 4 rfl (hl 4 (by kernel_rfl))
       have e26:=lT hJ.lit 5 rfl (hl 5 (by kernel_rfl))
       have e27:=lT hJ.lit 6 rfl (hl 6 (by kernel_rfl))
       have e28:=lT hJ.lit 7 rfl (hl 7 (by kernel_rfl))
       have e29:=lT hJ.lit 8 rfl (hl 8 (by kernel_rfl))
       have e30:=lT hJ.lit 9 rfl (hl 9 (by kernel_rfl))
       have e31:=lT hJ.lit 10 rfl (hl 10 (by kernel_rfl))
       have e32:=lT hJ.lit 11 rfl (hl 11 (by kernel_rfl))
       have e33:=lT hJ.lit 12 rfl (hl 12 (by kernel_rfl))
       have e34:=lT hJ.lit 13 rfl (hl 13 (by kernel_rfl))
       have e35:=lT hJ.lit 14 rfl (hl 14 (by kernel_rfl))
       have e36:=lT hJ.lit 15 rfl (hl 15 (by kernel_rfl))
       have e37:=lT hJ.lit 16 rfl (hl 16 (by kernel_rfl))
       have e38:=lT hJ.lit 17 rfl (hl 17 (by kernel_rfl))
       have e39:=lT hJ.lit 18 rfl (hl 18 (by kernel_rfl))
       have e40:=lT hJ.lit 19 rfl (hl 19 (by kernel_rfl))
       have e41:=lT hJ.lit 20 rfl (hl 20 (by kernel_rfl))
       have e42:=lT hJ.lit 21 rfl (hl 21 (by kernel_rfl))
       have e43:=lT hJ.lit 22 rfl (hl 22 (by kernel_rfl))
       have e44:=lT hJ.lit 23 rfl (hl 23 (by kernel_rfl))
       have e45:=lT hJ.lit 24 rfl (hl 24 (by kernel_rfl))
       have e46:=lT hJ.lit 25 rfl (hl 25 (by kernel_rfl))
       have e47:=lT hJ.lit 26 rfl (hl 26 (by kernel_rfl))
       have e48:=lT hJ.lit 27 rfl (hl 27 (by kernel_rfl))
       have e49:=lT hJ.lit 28 rfl (hl 28 (by kernel_rfl))
       have e50:=lT hJ.lit 29 rfl (hl 29 (by kernel_rfl))
       have e51:=lT hJ.lit 30 rfl (hl 30 (by kernel_rfl))
       have e52:=lT hJ.lit 31 rfl (hl 31 (by kernel_rfl))
       simp only[zipV,List.map_cons,List.map_nil,puts,Act.put,List.setIfInBounds_toArray,List.set_cons_succ,List.set_cons_zero,e21,e22,e23,e24,e25,e26,e27,e28,e29,e30,e31,e32,e33,e34,e35,e36,e37,e38,e39,e40,e41,e42,e43,e44,e45,e46,e47,e48,e49,e50,e51,e52]
       have hlow:=h_X hJ.low
       clear e21 e22 e23 e24 e25 e26 e27 e28 e29 e30 e31 e32 e33 e34 e35 e36 e37 e38 e39 e40 e41 e42 e43 e44 e45 e46 e47 e48 e49 e50 e51 e52 hJ hl
       obtain⟨w8,hw8⟩:∃ w8,W9=w8:=⟨_,rfl⟩
       rw[hw8] at hlow ⊢
       clear hw8 d0 d1 c0 c1
       have hB:=h_X (show Below W1.heap.size W1 w8 from bS hlow6.out hlow.out)
       have hO:=h_X (show w8.ownsRow W1.heap.size 84 2 u5 q.length (flat q) from owns_below (bS (bel_drew wr) hlow.out) hownh.out)
       have c0:=c_B hB.out hc0h.out
       have c1:=c_B hB.out hc1h.out
       have d0:=c_B hB.out z0h.out
       have d1:=c_B hB.out z1h.out
       clear hlow hlow6 hownh
       have hbl:=bel_laid w8 (.cells #[.string ys,.int .i64 yx] 84)
       have hoh:=h_X (owns_below hbl hO.out)
       have hlt2:∀ g',u5.ownBlock=some g'→W1.heap.size≤g'∧g' < (w8.alloc (.cells #[.string ys,.int .i64 yx] 84)).heap.size:=hoh.out.lt
       have hb4h:=h_X (bS hB.out hbl)
       have hszv:W1.heap.size≤w8.heap.size:=hB.out.size
       clear hbl hO hB
       go_wp2_with (at_builtin;refine wpList_append_own_at _ rfl _ _ 42 rfl W1.heap.size 84 i0 (.agg #[.string ⟨#[]⟩,.int .i64 0]) 2 24 Tryz.underlying42 hi hz0 hz1 hz2 rfl (by decide) _ _ _ rfl hoh.out ⟨w8.heap.size,0,none⟩ 1 1 [.string ys,.int .i64 yx] rfl rfl ?c6_1 ?c6_2 ?c6_3 ?c6_4 ?c6_5 ?_)
       (try case c6_1=>intro j u hu;rw[Addr.add_lit,Nat.zero_add,World.cell?_alloc_new];simpa using hu)
       case c6_2=>first | exact⟨rfl,rfl⟩ | (intro u hu;simp at hu;rcases hu with rfl | rfl<;>rfl)
       case c6_3=>unfold maxLen;omega
       case c6_4=>omega
       case c6_5=>first | omega | (rw[World.size_alloc];omega)
       intro vv w11 hown1 hgrow _ hob
       have hB:=h_X (show Below W1.heap.size W1 w11 from hb4h.out.grown hgrow hb4h.out.size (fun g' e=>(hlt2 g' e).1))
       have hO:=h_X (show w11.ownsRow W1.heap.size 84 2 vv (q ++ [(ys,yx)]).length (flat (q ++ [(ys,yx)])) by rw[flat_snoc];simp only[List.length_append,List.length_cons,List.length_nil,Nat.zero_add];exact hown1)
       clear hown1 hgrow hob hoh hlt2 hb4h hszv
       clear c0 c1 d0 d1
       go_wp2
       go_roundw
       case rel=>exact⟨k+1,pre ++ [(ys,yx)],r,q ++ [(ys,yx)],true,rfl,(by rw[hlh.out];simp),(by simp[hk]),(fun hm=>(List.mem_append.1 hm).elim (fun h=>hnoth.out h) (fun h=>heh.out (List.mem_singleton.1 h).symm)),rfl,(fun _=>⟨(by obtain⟨z,hz,hz2⟩:=(hpth.out (by trivial)).1;exact⟨z,List.mem_append_left _ hz,hz2⟩),(by rw[(hpth.out (by trivial)).2,putS_some _ _ _ (hpth.out (by trivial)).1])⟩),(fun h=>by cases h),hO.out,(by have:=hq;simp;omega),hB.out⟩
       case measure=>simp[intOf];omega
     | false =>
      cases hlt:Op.bytesLess s.toList ys.toList with
      | true =>
       have hLT:ltS (s,x) (ys,yx):=(symCmp_lt _ _).2 (.inl (by have:=hlt;rw[bytesLess_eq] at this;exact of_decide_eq_true this))
       have hlow6:=h_X (show Below W1.heap.size W1 wr.drew from bS hbwh.out (bel_drew wr))
       have d0:=c_B hlow6.out z0h.out
       have d1:=c_B hlow6.out z1h.out
       have c0:=c_B hlow6.out hc0h.out
       have c1:=c_B hlow6.out hc1h.out
       go_wp2_with fail
       have hok:okK [(0,21,.bool false),(1,22,.bool true),(2,23,.bool true),(3,24,.slice (some ⟨b,0,none⟩) l.length c),(4,25,.int .i64 (k:Int)),(5,26,.pointer (some ⟨b,k*2,none⟩)),(6,27,.pointer (some ⟨b,k*2,none⟩)),(7,28,.string ys),(8,29,.pointer (some ⟨g,0,none⟩)),(9,30,.string s),(10,31,.bool true),(11,32,.bool true),(12,33,undef),(13,34,undef),(14,35,undef),(15,36,undef),(16,37,undef),(17,38,undef),(18,39,undef),(19,40,undef),(20,41,undef),(21,42,undef),(22,43,undef),(23,44,undef),(24,45,undef),(25,46,undef),(26,47,undef),(27,48,undef),(28,49,undef),(29,50,undef),(30,51,.bool true),(31,52,.bool true)] []=true:=by kernel_rfl
       refine wp_region_run (by kernel_rfl) 71 [21,22,23,24,25,26,27,28,29,30,31,32,33,34,35,36,37,38,39,40,41,42,43,44,45,46,47,48,49,50,51,52] (JK wr.drew (okL hok) (okP hok)) (by kernel_rfl) rfl (JK.start _ _) ?hst160 ?hend160
       case hst160 =>
        have hst:∀ p∈okP hok,Stb p.2.2:=fun p hp=>(by cases hp)
        refine⟨?_,?_,?_,?_,?_,?_,?_,?_,?_,?_,?_,?_,?_,?_,?_,?_,?_,?_,?_,?_,?_,?_,?_,?_,?_,?_,?_,?_,?_,?_,?_,?_,trivial⟩
        ·rintro l gv W hun xD hcl hJ hg ha hp
         refine' op_val ?h129 ?w129 ?r129 ?K129
         case h129=>rfl
         case w129=>exact rfl
         case r129=>exact(ex_move rfl (eval_tmp ((ha 6 (by kernel_rfl)).trans rfl)))
         case K129=>exact⟨_,hp 21 _ (by kernel_rfl),JK.M hok hst hJ 0 rfl⟩
        ·rintro l gv W hun xD hcl hJ hg ha hp
         refine' op_val ?h130 ?w130 ?r130 ?K130
         case h130=>rfl
         case w130=>exact rfl
         case r130=>exact(ex_not rfl (lE (hg 21 (by kernel_rfl)) hJ.lit 0 rfl (xD 0 (by kernel_rfl))))
         case K130=>exact⟨_,hp 22 _ (by kernel_rfl),JK.M hok hst hJ 1 rfl⟩
        ·rintro l gv W hun xD hcl hJ hg ha hp
         refine' op_val ?h131 ?w131 ?r131 ?K131
         case h131=>rfl
         case w131=>exact rfl
         case r131=>exact(ex_move rfl (lE (hg 22 (by kernel_rfl)) hJ.lit 1 rfl (xD 1 (by kernel_rfl))))
         case K131=>exact⟨_,hp 23 _ (by kernel_rfl),JK.M hok hst hJ 2 rfl⟩
        ·rintro l gv W hun xD hcl hJ hg ha hp
         have hgd:=gD (hg 23 (by kernel_rfl)) hJ.lit 2 rfl (xD 2 (by kernel_rfl))
         refine' op_val ?h132 ?w132 ?r132 ?K132
         case h132=>rfl
         case w132=>exact(wants_yes true rfl (by kernel_rfl) hgd)
         case r132=>exact(ex_move rfl (eval_tmp ((ha 0 (by kernel_rfl)).trans rfl)))
         case K132=>exact⟨_,hp 24 _ (by kernel_rfl),JK.M hok hst hJ 3 rfl⟩
        ·rintro l gv W hun xD hcl hJ hg ha hp
         have hgd:=gD (hg 23 (by kernel_rfl)) hJ.lit 2 rfl (xD 2 (by kernel_rfl))
         refine' op_val ?h133 ?w133 ?r133 ?K133
         case h133=>rfl
         case w133=>exact(wants_yes true rfl (by kernel_rfl) hgd)
         case r133=>exact(ex_move rfl (eval_tmp ((ha 7 (by kernel_rfl)).trans rfl)))
         case K133=>exact⟨_,hp 25 _ (by kernel_rfl),JK.M hok hst hJ 4 rfl⟩
        ·rintro l gv W hun xD hcl hJ hg ha hp
         have hgd:=gD (hg 23 (by kernel_rfl)) hJ.lit 2 rfl (xD 2 (by kernel_rfl))
         refine' op_val ?h134 ?w134 ?r134 ?K134
         case h134=>rfl
         case w134=>exact(wants_yes true rfl (by kernel_rfl) hgd)
         case r134=>exact(ex_indexAddr rfl (lE (hg 24 (by kernel_rfl)) hJ.lit 3 rfl (xD 3 (by kernel_rfl))) (lE (hg 25 (by kernel_rfl)) hJ.lit 4 rfl (xD 4 (by kernel_rfl))) (ix42 hkl))
         case K134=>exact⟨_,hp 26 _ (by kernel_rfl),JK.M hok hst hJ 5 rfl⟩
        ·rintro l gv W hun xD hcl hJ hg ha hp
         have hgd:=gD (hg 23 (by kernel_rfl)) hJ.lit 2 rfl (xD 2 (by kernel_rfl))
         refine' op_val ?h135 ?w135 ?r135 ?K135
         case h135=>rfl
         case w135=>exact(wants_yes true rfl (by kernel_rfl) hgd)
         case r135=>exact(ex_field rfl (lE (hg 26 (by kernel_rfl)) hJ.lit 5 rfl (xD 5 (by kernel_rfl))) fld0)
         case K135=>exact⟨_,hp 27 _ (by kernel_rfl),JK.M hok hst hJ 6 rfl⟩
        ·rintro l gv W hun xD hcl hJ hg ha hp
         have hgd:=gD (hg 23 (by kernel_rfl)) hJ.lit 2 rfl (xD 2 (by kernel_rfl))
         refine' op_val ?h136 ?w136 ?r136 ?K136
         case h136=>rfl
         case w136=>exact(wants_yes true rfl (by kernel_rfl) hgd)
         case r136=>exact(ex_load rfl (lE (hg 27 (by kernel_rfl)) hJ.lit 6 rfl (xD 6 (by kernel_rfl))) (ld9 (c_B hJ.low d0)))
         case K136=>exact⟨_,hp 28 _ (by kernel_rfl),JK.M hok hst hJ 7 rfl⟩
        ·rintro l gv W hun xD hcl hJ hg ha hp
         have hgd:=gD (hg 23 (by kernel_rfl)) hJ.lit 2 rfl (xD 2 (by kernel_rfl))
         refine' op_val ?h137 ?w137 ?r137 ?K137
         case h137=>rfl
         case w137=>exact(wants_yes true rfl (by kernel_rfl) hgd)
         case r137=>exact(ex_field rfl (eval_tmp ((ha 3 (by kernel_rfl)).trans rfl)) fld0)
         case K137=>exact⟨_,hp 29 _ (by kernel_rfl),JK.M hok hst hJ 8 rfl⟩
        ·rintro l gv W hun xD hcl hJ hg ha hp
         have hgd:=gD (hg 23 (by kernel_rfl)) hJ.lit 2 rfl (xD 2 (by kernel_rfl))
         refine' op_val ?h138 ?w138 ?r138 ?K138
         case h138=>rfl
         case w138=>exact(wants_yes true rfl (by kernel_rfl) hgd)
         case r138=>exact(ex_load rfl (lE (hg 29 (by kernel_rfl)) hJ.lit 8 rfl (xD 8 (by kernel_rfl))) (ld9 (c_B hJ.low c0)))
         case K138=>exact⟨_,hp 30 _ (by kernel_rfl),JK.M hok hst hJ 9 rfl⟩
        ·rintro l gv W hun xD hcl hJ hg ha hp
         have hgd:=gD (hg 23 (by kernel_rfl)) hJ.lit 2 rfl (xD 2 (by kernel_rfl))
         refine' op_val ?h139 ?w139 ?r139 ?K139
         case h139=>rfl
         case w139=>exact(wants_yes true rfl (by kernel_rfl) hgd)
         case r139=>exact(ex_bin rfl (lE (hg 28 (by kernel_rfl)) hJ.lit 7 rfl (xD 7 (by kernel_rfl))) (lE (hg 30 (by kernel_rfl)) hJ.lit 9 rfl (xD 9 (by kernel_rfl))) (guard_str _ _ _ _ _ W) (gtr9 hlt))
         case K139=>exact⟨_,hp 31 _ (by kernel_rfl),JK.M hok hst hJ 10 rfl⟩
        ·rintro l gv W hun xD hcl hJ hg ha hp
         have hgd:=gD (hg 23 (by kernel_rfl)) hJ.lit 2 rfl (xD 2 (by kernel_rfl))
         refine' op_val ?h140 ?w140 ?r140 ?K140
         case h140=>rfl
         case w140=>exact(wants_yes true rfl (by kernel_rfl) hgd)
         case r140=>exact(ex_move rfl (lE (hg 31 (by kernel_rfl)) hJ.lit 10 rfl (xD 10 (by kernel_rfl))))
         case K140=>exact⟨_,hp 32 _ (by kernel_rfl),JK.M hok hst hJ 11 rfl⟩
        ·rintro l gv W hun xD hcl hJ hg ha hp
         have hgd:=gD (hg 32 (by kernel_rfl)) hJ.lit 11 rfl (xD 11 (by kernel_rfl))
         refine' op_out ?h141 ?w141 ?K141
         case h141=>rfl
         case w141=>exact(wants_no false rfl (by kernel_rfl) hgd)
         case K141=>exact⟨_,hp 33 _ (by kernel_rfl),JK.M hok hst hJ 12 rfl⟩
        ·rintro l gv W hun xD hcl hJ hg ha hp
         have hgd:=gD (hg 32 (by kernel_rfl)) hJ.lit 11 rfl (xD 11 (by kernel_rfl))
         refine' op_out ?h142 ?w142 ?K142
         case h142=>rfl
         case w142=>exact(wants_no false rfl (by kernel_rfl) hgd)
         case K142=>exact⟨_,hp 34 _ (by kernel_rfl),JK.M hok hst hJ 13 rfl⟩
        ·rintro l gv W hun xD hcl hJ hg ha hp
         have hgd:=gD (hg 32 (by kernel_rfl)) hJ.lit 11 rfl (xD 11 (by kernel_rfl))
         refine' op_out ?h143 ?w143 ?K143
         case h143=>rfl
         case w143=>exact(wants_no false rfl (by kernel_rfl) hgd)
         case K143=>exact⟨_,hp 35 _ (by kernel_rfl),JK.M hok hst hJ 14 rfl⟩
        ·rintro l gv W hun xD hcl hJ hg ha hp
         have hgd:=gD (hg 32 (by kernel_rfl)) hJ.lit 11 rfl (xD 11 (by kernel_rfl))
         refine' op_out ?h144 ?w144 ?K144
         case h144=>rfl
         case w144=>exact(wants_no false rfl (by kernel_rfl) hgd)
         case K144=>exact⟨_,hp 36 _ (by kernel_rfl),JK.M hok hst hJ 15 rfl⟩
        ·rintro l gv W hun xD hcl hJ hg ha hp
         have hgd:=gD (hg 32 (by kernel_rfl)) hJ.lit 11 rfl (xD 11 (by kernel_rfl))
         refine' op_out ?h145 ?w145 ?K145
         case h145=>rfl
         case w145=>exact(wants_no false rfl (by kernel_rfl) hgd)
         case K145=>exact⟨_,hp 37 _ (by kernel_rfl),JK.M hok hst hJ 16 rfl⟩
        ·rintro l gv W hun xD hcl hJ hg ha hp
         have hgd:=gD (hg 32 (by kernel_rfl)) hJ.lit 11 rfl (xD 11 (by kernel_rfl))
         refine' op_out ?h146 ?w146 ?K146
         case h146=>rfl
         case w146=>exact(wants_no false rfl (by kernel_rfl) hgd)
         case K146=>exact⟨_,hp 38 _ (by kernel_rfl),JK.M hok hst hJ 17 rfl⟩
        ·rintro l gv W hun xD hcl hJ hg ha hp
         have hgd:=gD (hg 32 (by kernel_rfl)) hJ.lit 11 rfl (xD 11 (by kernel_rfl))
         refine' op_out ?h147 ?w147 ?K147
         case h147=>rfl
         case w147=>exact(wants_no false rfl (by kernel_rfl) hgd)
         case K147=>exact⟨_,hp 39 _ (by kernel_rfl),JK.M hok hst hJ 18 rfl⟩
        ·rintro l gv W hun xD hcl hJ hg ha hp
         have hgd:=gD (hg 32 (by kernel_rfl)) hJ.lit 11 rfl (xD 11 (by kernel_rfl))
         refine' op_out ?h148 ?w148 ?K148
         case h148=>rfl
         case w148=>exact(wants_no false rfl (by kernel_rfl) hgd)
         case K148=>exact⟨_,hp 40 _ (by kernel_rfl),JK.M hok hst hJ 19 rfl⟩
        ·rintro l gv W hun xD hcl hJ hg ha hp
         have hgd:=gD (hg 32 (by kernel_rfl)) hJ.lit 11 rfl (xD 11 (by kernel_rfl))
         refine' op_out ?h149 ?w149 ?K149
         case h149=>rfl
         case w149=>exact(wants_no false rfl (by kernel_rfl) hgd)
         case K149=>exact⟨_,hp 41 _ (by kernel_rfl),JK.M hok hst hJ 20 rfl⟩
        ·rintro l gv W hun xD hcl hJ hg ha hp
         have hgd:=gD (hg 41 (by kernel_rfl)) hJ.lit 20 rfl (xD 20 (by kernel_rfl))
         refine' op_out ?h150 ?w150 ?K150
         case h150=>rfl
         case w150=>exact(wants_undef true rfl (by kernel_rfl) hgd)
         case K150=>exact⟨_,hp 42 _ (by kernel_rfl),JK.M hok hst hJ 21 rfl⟩
        ·rintro l gv W hun xD hcl hJ hg ha hp
         have hgd:=gD (hg 41 (by kernel_rfl)) hJ.lit 20 rfl (xD 20 (by kernel_rfl))
         refine' op_out ?h151 ?w151 ?K151
         case h151=>rfl
         case w151=>exact(wants_undef true rfl (by kernel_rfl) hgd)
         case K151=>exact⟨_,hp 43 _ (by kernel_rfl),JK.M hok hst hJ 22 rfl⟩
        ·rintro l gv W hun xD hcl hJ hg ha hp
         have hgd:=gD (hg 41 (by kernel_rfl)) hJ.lit 20 rfl (xD 20 (by kernel_rfl))
         refine' op_out ?h152 ?w152 ?K152
         case h152=>rfl
         case w152=>exact(wants_undef true rfl (by kernel_rfl) hgd)
         case K152=>exact⟨_,hp 44 _ (by kernel_rfl),JK.M hok hst hJ 23 rfl⟩
        ·rintro l gv W hun xD hcl hJ hg ha hp
         have hgd:=gD (hg 41 (by kernel_rfl)) hJ.lit 20 rfl (xD 20 (by kernel_rfl))
         refine' op_out ?h153 ?w153 ?K153
         case h153=>rfl
         case w153=>exact(wants_undef true rfl (by kernel_rfl) hgd)
         case K153=>exact⟨_,hp 45 _ (by kernel_rfl),JK.M hok hst hJ 24 rfl⟩
        ·rintro l gv W hun xD hcl hJ hg ha hp
         have hgd:=gD (hg 41 (by kernel_rfl)) hJ.lit 20 rfl (xD 20 (by kernel_rfl))
         refine' op_out ?h154 ?w154 ?K154
         case h154=>rfl
         case w154=>exact(wants_undef true rfl (by kernel_rfl) hgd)
         case K154=>exact⟨_,hp 46 _ (by kernel_rfl),JK.M hok hst hJ 25 rfl⟩
        ·rintro l gv W hun xD hcl hJ hg ha hp
         have hgd:=gD (hg 41 (by kernel_rfl)) hJ.lit 20 rfl (xD 20 (by kernel_rfl))
         refine' op_out ?h155 ?w155 ?K155
         case h155=>rfl
         case w155=>exact(wants_undef true rfl (by kernel_rfl) hgd)
         case K155=>exact⟨_,hp 47 _ (by kernel_rfl),JK.M hok hst hJ 26 rfl⟩
        ·rintro l gv W hun xD hcl hJ hg ha hp
         have hgd:=gD (hg 41 (by kernel_rfl)) hJ.lit 20 rfl (xD 20 (by kernel_rfl))
         refine' op_out ?h156 ?w156 ?K156
         case h156=>rfl
         case w156=>exact(wants_undef true rfl (by kernel_rfl) hgd)
         case K156=>exact⟨_,hp 48 _ (by kernel_rfl),JK.M hok hst hJ 27 rfl⟩
        ·rintro l gv W hun xD hcl hJ hg ha hp
         have hgd:=gD (hg 41 (by kernel_rfl)) hJ.lit 20 rfl (xD 20 (by kernel_rfl))
         refine' op_out ?h157 ?w157 ?K157
         case h157=>rfl
         case w157=>exact(wants_undef true rfl (by kernel_rfl) hgd)
         case K157=>exact⟨_,hp 49 _ (by kernel_rfl),JK.M hok hst hJ 28 rfl⟩
        ·rintro l gv W hun xD hcl hJ hg ha hp
         have hgd:=gD (hg 32 (by kernel_rfl)) hJ.lit 11 rfl (xD 11 (by kernel_rfl))
         refine' op_out ?h158 ?w158 ?K158
         case h158=>rfl
         case w158=>exact(wants_no false rfl (by kernel_rfl) hgd)
         case K158=>exact⟨_,hp 50 _ (by kernel_rfl),JK.M hok hst hJ 29 rfl⟩
        ·rintro l gv W hun xD hcl hJ hg ha hp
         have hgd:=gD (hg 23 (by kernel_rfl)) hJ.lit 2 rfl (xD 2 (by kernel_rfl))
         refine' op_val ?h159 ?w159 ?r159 ?K159
         case h159=>rfl
         case w159=>exact(wants_yes true rfl (by kernel_rfl) hgd)
         case r159=>exact(ex_pick rfl (lE (hg 32 (by kernel_rfl)) hJ.lit 11 rfl (xD 11 (by kernel_rfl))) rfl)
         case K159=>exact⟨_,hp 51 _ (by kernel_rfl),JK.M hok hst hJ 30 rfl⟩
        ·rintro l gv W hun xD hcl hJ hg ha hp
         refine' op_val ?h160 ?w160 ?r160 ?K160
         case h160=>rfl
         case w160=>exact rfl
         case r160=>exact(ex_pick rfl (lE (hg 23 (by kernel_rfl)) hJ.lit 2 rfl (xD 2 (by kernel_rfl))) (lE (hg 51 (by kernel_rfl)) hJ.lit 30 rfl (xD 30 (by kernel_rfl))))
         case K160=>exact⟨_,hp 52 _ (by kernel_rfl),JK.M hok hst hJ 31 rfl⟩
       case hend160 =>
        rintro ll gv W9 hl hJ
        replace hl:=fun j h=>hl j (of_decide_eq_true h)
        have e21:=lT hJ.lit 0 rfl (hl 0 (by kernel_rfl))
        have e22:=lT hJ.lit 1 rfl (hl 1 (by kernel_rfl))
        have e23:=lT hJ.lit 2 rfl (hl 2 (by kernel_rfl))
        have e24:=lT hJ.lit 3 rfl (hl 3 (by kernel_rfl))
        have e25:=lT hJ.lit 4 rfl (hl 4 (by kernel_rfl))
        have e26:=lT hJ.lit 5 rfl (hl 5 (by kernel_rfl))
        have e27:=lT hJ.lit 6 rfl (hl 6 (by kernel_rfl))
        have e28:=lT hJ.lit 7 rfl (hl 7 (by kernel_rfl))
        have e29:=lT hJ.lit 8 rfl (hl 8 (by kernel_rfl))
        have e30:=lT hJ.lit 9 rfl (hl 9 (by kernel_rfl))
        have e31:=lT hJ.lit 10 rfl (hl 10 (by kernel_rfl))
        have e32:=lT hJ.lit 11 rfl (hl 11 (by kernel_rfl))
        have e33:=lT hJ.lit 12 rfl (hl 12 (by kernel_rfl))
        have e34:=lT hJ.lit 13 rfl (hl 13 (by kernel_rfl))
        have e35:=lT hJ.lit 14 rfl (hl 14 (by kernel_rfl))
        have e36:=lT hJ.lit 15 rfl (hl 15 (by kernel_rfl))
        have e37:=lT hJ.lit 16 rfl (hl 16 (by kernel_rfl))
        have e38:=lT hJ.lit 17 rfl (hl 17 (by kernel_rfl))
        have e39:=lT hJ.lit 18 rfl (hl 18 (by kernel_rfl))
        have e40:=lT hJ.lit 19 rfl (hl 19 (by kernel_rfl))
        have e41:=lT hJ.lit 20 rfl (hl 20 (by kernel_rfl))
        have e42:=lT hJ.lit 21 rfl (hl 21 (by kernel_rfl))
        have e43:=lT hJ.lit 22 rfl (hl 22 (by kernel_rfl))
        have e44:=lT hJ.lit 23 rfl (hl 23 (by kernel_rfl))
        have e45:=lT hJ.lit 24 rfl (hl 24 (by kernel_rfl))
        have e46:=lT hJ.lit 25 rfl (hl 25 (by kernel_rfl))
        have e47:=lT hJ.lit 26 rfl (hl 26 (by kernel_rfl))
        have e48:=lT hJ.lit 27 rfl (hl 27 (by kernel_rfl))
        have e49:=lT hJ.lit 28 rfl (hl 28 (by kernel_rfl))
        have e50:=lT hJ.lit 29 rfl (hl 29 (by kernel_rfl))
        have e51:=lT hJ.lit 30 rfl (hl 30 (by kernel_rfl))
        have e52:=lT hJ.lit 31 rfl (hl 31 (by kernel_rfl))
        simp only[zipV,List.map_cons,List.map_nil,puts,Act.put,List.setIfInBounds_toArray,List.set_cons_succ,List.set_cons_zero,e21,e22,e23,e24,e25,e26,e27,e28,e29,e30,e31,e32,e33,e34,e35,e36,e37,e38,e39,e40,e41,e42,e43,e44,e45,e46,e47,e48,e49,e50,e51,e52]
        have hlow:=h_X hJ.low
        clear e21 e22 e23 e24 e25 e26 e27 e28 e29 e30 e31 e32 e33 e34 e35 e36 e37 e38 e39 e40 e41 e42 e43 e44 e45 e46 e47 e48 e49 e50 e51 e52 hJ hl
        obtain⟨w8,hw8⟩:∃ w8,W9=w8:=⟨_,rfl⟩
        rw[hw8] at hlow ⊢
        clear hw8 d0 d1 c0 c1
        have hB:=h_X (show Below W1.heap.size W1 w8 from bS hlow6.out hlow.out)
        have hO:=h_X (show w8.ownsRow W1.heap.size 84 2 u5 q.length (flat q) from owns_below (bS (bel_drew wr) hlow.out) hownh.out)
        have c0:=c_B hB.out hc0h.out
        have c1:=c_B hB.out hc1h.out
        have d0:=c_B hB.out z0h.out
        have d1:=c_B hB.out z1h.out
        clear hlow hlow6 hownh
        have hbl:=bel_laid w8 (.cells #[.string s,.int .i64 x] 84)
        have hoh:=h_X (owns_below hbl hO.out)
        have hlt2:∀ g',u5.ownBlock=some g'→W1.heap.size≤g'∧g' < (w8.alloc (.cells #[.string s,.int .i64 x] 84)).heap.size:=hoh.out.lt
        have hb4h:=h_X (bS hB.out hbl)
        have hszv:W1.heap.size≤w8.heap.size:=hB.out.size
        clear hbl hO hB
        go_wp2_with (at_builtin;refine wpList_append_own_at _ rfl _ _ 42 rfl W1.heap.size 84 i0 (.agg #[.string ⟨#[]⟩,.int .i64 0]) 2 24 Tryz.underlying42 hi hz0 hz1 hz2 rfl (by decide) _ _ _ rfl hoh.out ⟨w8.heap.size,0,none⟩ 1 1 [.string s,.int .i64 x] rfl rfl ?c7_1 ?c7_2 ?c7_3 ?c7_4 ?c7_5 ?_)
        (try case c7_1=>intro j u hu;rw[Addr.add_lit,Nat.zero_add,World.cell?_alloc_new];simpa using hu)
        case c7_2=>first | exact⟨rfl,rfl⟩ | (intro u hu;simp at hu;rcases hu with rfl | rfl<;>rfl)
        case c7_3=>unfold maxLen;omega
        case c7_4=>omega
        case c7_5=>first | omega | (rw[World.size_alloc];omega)
        intro vv w10 hown1 hgrow _ hob
        have hB:=h_X (show Below W1.heap.size W1 w10 from hb4h.out.grown hgrow hb4h.out.size (fun g' e=>(hlt2 g' e).1))
        have hO:=h_X (show w10.ownsRow W1.heap.size 84 2 vv (q ++ [(s,x)]).length (flat (q ++ [(s,x)])) by rw[flat_snoc];simp only[List.length_append,List.length_cons,List.length_nil,Nat.zero_add];exact hown1)
        clear hown1 hgrow hob hoh hlt2 hb4h hszv
        clear c0 c1 d0 d1
        have c0:=c_B hB.out hc0h.out
        have c1:=c_B hB.out hc1h.out
        have d0:=c_B hB.out z0h.out
        have d1:=c_B hB.out z1h.out
        obtain⟨o2,ho2⟩:∃ o2,vv=o2:=⟨_,rfl⟩
        rw[ho2] at hO ⊢
        clear ho2
        have hq2:(q ++ [(s,x)]).length≤k+1:=by rw[(hpfh.out (by trivial)).2,List.length_append,hk];simp
        have hbl:=bel_laid w10 (.cells #[.string ys,.int .i64 yx] 84)
        have hoh:=h_X (owns_below hbl hO.out)
        have hlt2:∀ g',o2.ownBlock=some g'→W1.heap.size≤g'∧g' < (w10.alloc (.cells #[.string ys,.int .i64 yx] 84)).heap.size:=hoh.out.lt
        have hb4h:=h_X (bS hB.out hbl)
        have hszv:W1.heap.size≤w10.heap.size:=hB.out.size
        clear hbl hO hB
        go_wp2_with (at_builtin;refine wpList_append_own_at _ rfl _ _ 42 rfl W1.heap.size 84 i0 (.agg #[.string ⟨#[]⟩,.int .i64 0]) 2 24 Tryz.underlying42 hi hz0 hz1 hz2 rfl (by decide) _ _ _ rfl hoh.out ⟨w10.heap.size,0,none⟩ 1 1 [.string ys,.int .i64 yx] rfl rfl ?c8_1 ?c8_2 ?c8_3 ?c8_4 ?c8_5 ?_)
        (try case c8_1=>intro j u hu;rw[Addr.add_lit,Nat.zero_add,World.cell?_alloc_new];simpa using hu)
        case c8_2=>first | exact⟨rfl,rfl⟩ | (intro u hu;simp at hu;rcases hu with rfl | rfl<;>rfl)
        case c8_3=>unfold maxLen;omega
        case c8_4=>omega
        case c8_5=>first | omega | (rw[World.size_alloc];omega)
        intro vv w11 hown1 hgrow _ hob
        have hB:=h_X (show Below W1.heap.size W1 w11 from hb4h.out.grown hgrow hb4h.out.size (fun g' e=>(hlt2 g' e).1))
        have hO:=h_X (show w11.ownsRow W1.heap.size 84 2 vv ((q ++ [(s,x)]) ++ [(ys,yx)]).length (flat ((q ++ [(s,x)]) ++ [(ys,yx)])) by rw[flat_snoc];simp only[List.length_append,List.length_cons,List.length_nil,Nat.zero_add];exact hown1)
        clear hown1 hgrow hob hoh hlt2 hb4h hszv
        clear c0 c1 d0 d1
        go_wp2
        go_roundw
        case rel=>exact⟨k+1,pre ++ [(ys,yx)],r,(q ++ [(s,x)]) ++ [(ys,yx)],true,rfl,(by rw[hlh.out];simp),(by simp[hk]),(fun hm=>(List.mem_append.1 hm).elim (fun h=>hnoth.out h) (fun h=>heh.out (List.mem_singleton.1 h).symm)),rfl,(fun _=>⟨⟨(ys,yx),by simp,hLT⟩,(by rw[(hpfh.out (by trivial)).2,putS_low _ _ _ (fun z hz=>by have h8:=(hpfh.out (by trivial)).1 z hz;show ¬ sySym (s,x) z < 0;omega) (by have h8:=hLT;show sySym (s,x) (ys,yx) < 0;omega)];simp)⟩),(fun h=>by cases h),hO.out,(by have:=(hpfh.out (by trivial)).2;rw[this];simp;omega),hB.out⟩
        case measure=>simp[intOf];omega
      | false =>
       have hLT:¬ ltS (s,x) (ys,yx):=fun h=>((symCmp_lt _ _).1 h).elim (fun h=>by have h2:=hlt;rw[bytesLess_eq] at h2;exact of_decide_eq_false h2 h) (fun h=>beq_eq_false_iff_ne.1 hs1 h.1.symm)
       have hlow6:=h_X (show Below W1.heap.size W1 wr.drew from bS hbwh.out (bel_drew wr))
       have d0:=c_B hlow6.out z0h.out
       have d1:=c_B hlow6.out z1h.out
       have c0:=c_B hlow6.out hc0h.out
       have c1:=c_B hlow6.out hc1h.out
       go_wp2_with fail
       have hok:okK [(0,21,.bool false),(1,22,.bool true),(2,23,.bool true),(3,24,.slice (some ⟨b,0,none⟩) l.length c),(4,25,.int .i64 (k:Int)),(5,26,.pointer (some ⟨b,k*2,none⟩)),(6,27,.pointer (some ⟨b,k*2,none⟩)),(7,28,.string ys),(8,29,.pointer (some ⟨g,0,none⟩)),(9,30,.string s),(10,31,.bool false),(11,32,.bool false),(12,33,.slice (some ⟨b,0,none⟩) l.length c),(13,34,.int .i64 (k:Int)),(14,35,.pointer (some ⟨b,k*2,none⟩)),(15,36,.pointer (some ⟨b,k*2,none⟩)),(16,37,.string ys),(17,38,.pointer (some ⟨g,0,none⟩)),(18,39,.string s),(19,40,.bool false),(20,41,.bool false),(21,42,undef),(22,43,undef),(23,44,undef),(24,45,undef),(25,46,undef),(26,47,undef),(27,48,undef),(28,49,undef),(29,50,.bool false),(30,51,.bool false),(31,52,.bool false)] []=true:=by kernel_rfl
       refine wp_region_run (by kernel_rfl) 71 [21,22,23,24,25,26,27,28,29,30,31,32,33,34,35,36,37,38,39,40,41,42,43,44,45,46,47,48,49,50,51,52] (JK wr.drew (okL hok) (okP hok)) (by kernel_rfl) rfl (JK.start _ _) ?hst192 ?hend192
       case hst192 =>
        have hst:∀ p∈okP hok,Stb p.2.2:=fun p hp=>(by cases hp)
        refine⟨?_,?_,?_,?_,?_,?_,?_,?_,?_,?_,?_,?_,?_,?_,?_,?_,?_,?_,?_,?_,?_,?_,?_,?_,?_,?_,?_,?_,?_,?_,?_,?_,trivial⟩
        ·rintro l gv W hun xD hcl hJ hg ha hp
         refine' op_val ?h161 ?w161 ?r161 ?K161
         case h161=>rfl
         case w161=>exact rfl
         case r161=>exact(ex_move rfl (eval_tmp ((ha 6 (by kernel_rfl)).trans rfl)))
         case K161=>exact⟨_,hp 21 _ (by kernel_rfl),JK.M hok hst hJ 0 rfl⟩
        ·rintro l gv W hun xD hcl hJ hg ha hp
         refine' op_val ?h162 ?w162 ?r162 ?K162
         case h162=>rfl
         case w162=>exact rfl
         case r162=>exact(ex_not rfl (lE (hg 21 (by kernel_rfl)) hJ.lit 0 rfl (xD 0 (by kernel_rfl))))
         case K162=>exact⟨_,hp 22 _ (by kernel_rfl),JK.M hok hst hJ 1 rfl⟩
        ·rintro l gv W hun xD hcl hJ hg ha hp
         refine' op_val ?h163 ?w163 ?r163 ?K163
         case h163=>rfl
         case w163=>exact rfl
         case r163=>exact(ex_move rfl (lE (hg 22 (by kernel_rfl)) hJ.lit 1 rfl (xD 1 (by kernel_rfl))))
         case K163=>exact⟨_,hp 23 _ (by kernel_rfl),JK.M hok hst hJ 2 rfl⟩
        ·rintro l gv W hun xD hcl hJ hg ha hp
         have hgd:=gD (hg 23 (by kernel_rfl)) hJ.lit 2 rfl (xD 2 (by kernel_rfl))
         refine' op_val ?h164 ?w164 ?r164 ?K164
         case h164=>rfl
         case w164=>exact(wants_yes true rfl (by kernel_rfl) hgd)
         case r164=>exact(ex_move rfl (eval_tmp ((ha 0 (by kernel_rfl)).trans rfl)))
         case K164=>exact⟨_,hp 24 _ (by kernel_rfl),JK.M hok hst hJ 3 rfl⟩
        ·rintro l gv W hun xD hcl hJ hg ha hp
         have hgd:=gD (hg 23 (by kernel_rfl)) hJ.lit 2 rfl (xD 2 (by kernel_rfl))
         refine' op_val ?h165 ?w165 ?r165 ?K165
         case h165=>rfl
         case w165=>exact(wants_yes true rfl (by kernel_rfl) hgd)
         case r165=>exact(ex_move rfl (eval_tmp ((ha 7 (by kernel_rfl)).trans rfl)))
         case K165=>exact⟨_,hp 25 _ (by kernel_rfl),JK.M hok hst hJ 4 rfl⟩
        ·rintro l gv W hun xD hcl hJ hg ha hp
         have hgd:=gD (hg 23 (by kernel_rfl)) hJ.lit 2 rfl (xD 2 (by kernel_rfl))
         refine' op_val ?h166 ?w166 ?r166 ?K166
         case h166=>rfl
         case w166=>exact(wants_yes true rfl (by kernel_rfl) hgd)
         case r166=>exact(ex_indexAddr rfl (lE (hg 24 (by kernel_rfl)) hJ.lit 3 rfl (xD 3 (by kernel_rfl))) (lE (hg 25 (by kernel_rfl)) hJ.lit 4 rfl (xD 4 (by kernel_rfl))) (ix42 hkl))
         case K166=>exact⟨_,hp 26 _ (by kernel_rfl),JK.M hok hst hJ 5 rfl⟩
        ·rintro l gv W hun xD hcl hJ hg ha hp
         have hgd:=gD (hg 23 (by kernel_rfl)) hJ.lit 2 rfl (xD 2 (by kernel_rfl))
         refine' op_val ?h167 ?w167 ?r167 ?K167
         case h167=>rfl
         case w167=>exact(wants_yes true rfl (by kernel_rfl) hgd)
         case r167=>exact(ex_field rfl (lE (hg 26 (by kernel_rfl)) hJ.lit 5 rfl (xD 5 (by kernel_rfl))) fld0)
         case K167=>exact⟨_,hp 27 _ (by kernel_rfl),JK.M hok hst hJ 6 rfl⟩
        ·rintro l gv W hun xD hcl hJ hg ha hp
         have hgd:=gD (hg 23 (by kernel_rfl)) hJ.lit 2 rfl (xD 2 (by kernel_rfl))
         refine' op_val ?h168 ?w168 ?r168 ?K168
         case h168=>rfl
         case w168=>exact(wants_yes true rfl (by kernel_rfl) hgd)
         case r168=>exact(ex_load rfl (lE (hg 27 (by kernel_rfl)) hJ.lit 6 rfl (xD 6 (by kernel_rfl))) (ld9 (c_B hJ.low d0)))
         case K168=>exact⟨_,hp 28 _ (by kernel_rfl),JK.M hok hst hJ 7 rfl⟩
        ·rintro l gv W hun xD hcl hJ hg ha hp
         have hgd:=gD (hg 23 (by kernel_rfl)) hJ.lit 2 rfl (xD 2 (by kernel_rfl))
         refine' op_val ?h169 ?w169 ?r169 ?K169
         case h169=>rfl
         case w169=>exact(wants_yes true rfl (by kernel_rfl) hgd)
         case r169=>exact(ex_field rfl (eval_tmp ((ha 3 (by kernel_rfl)).trans rfl)) fld0)
         case K169=>exact⟨_,hp 29 _ (by kernel_rfl),JK.M hok hst hJ 8 rfl⟩
        ·rintro l gv W hun xD hcl hJ hg ha hp
         have hgd:=gD (hg 23 (by kernel_rfl)) hJ.lit 2 rfl (xD 2 (by kernel_rfl))
         refine' op_val ?h170 ?w170 ?r170 ?K170
         case h170=>rfl
         case w170=>exact(wants_yes true rfl (by kernel_rfl) hgd)
         case r170=>exact(ex_load rfl (lE (hg 29 (by kernel_rfl)) hJ.lit 8 rfl (xD 8 (by kernel_rfl))) (ld9 (c_B hJ.low c0)))
         case K170=>exact⟨_,hp 30 _ (by kernel_rfl),JK.M hok hst hJ 9 rfl⟩
        ·rintro l gv W hun xD hcl hJ hg ha hp
         have hgd:=gD (hg 23 (by kernel_rfl)) hJ.lit 2 rfl (xD 2 (by kernel_rfl))
         refine' op_val ?h171 ?w171 ?r171 ?K171
         case h171=>rfl
         case w171=>exact(wants_yes true rfl (by kernel_rfl) hgd)
         case r171=>exact(ex_bin rfl (lE (hg 28 (by kernel_rfl)) hJ.lit 7 rfl (xD 7 (by kernel_rfl))) (lE (hg 30 (by kernel_rfl)) hJ.lit 9 rfl (xD 9 (by kernel_rfl))) (guard_str _ _ _ _ _ W) (gtr9 hlt))
         case K171=>exact⟨_,hp 31 _ (by kernel_rfl),JK.M hok hst hJ 10 rfl⟩
        ·rintro l gv W hun xD hcl hJ hg ha hp
         have hgd:=gD (hg 23 (by kernel_rfl)) hJ.lit 2 rfl (xD 2 (by kernel_rfl))
         refine' op_val ?h172 ?w172 ?r172 ?K172
         case h172=>rfl
         case w172=>exact(wants_yes true rfl (by kernel_rfl) hgd)
         case r172=>exact(ex_move rfl (lE (hg 31 (by kernel_rfl)) hJ.lit 10 rfl (xD 10 (by kernel_rfl))))
         case K172=>exact⟨_,hp 32 _ (by kernel_rfl),JK.M hok hst hJ 11 rfl⟩
        ·rintro l gv W hun xD hcl hJ hg ha hp
         have hgd:=gD (hg 32 (by kernel_rfl)) hJ.lit 11 rfl (xD 11 (by kernel_rfl))
         refine' op_val ?h173 ?w173 ?r173 ?K173
         case h173=>rfl
         case w173=>exact(wants_yes false rfl (by kernel_rfl) hgd)
         case r173=>exact(ex_move rfl (eval_tmp ((ha 0 (by kernel_rfl)).trans rfl)))
         case K173=>exact⟨_,hp 33 _ (by kernel_rfl),JK.M hok hst hJ 12 rfl⟩
        ·rintro l gv W hun xD hcl hJ hg ha hp
         have hgd:=gD (hg 32 (by kernel_rfl)) hJ.lit 11 rfl (xD 11 (by kernel_rfl))
         refine' op_val ?h174 ?w174 ?r174 ?K174
         case h174=>rfl
         case w174=>exact(wants_yes false rfl (by kernel_rfl) hgd)
         case r174=>exact(ex_move rfl (eval_tmp ((ha 7 (by kernel_rfl)).trans rfl)))
         case K174=>exact⟨_,hp 34 _ (by kernel_rfl),JK.M hok hst hJ 13 rfl⟩
        ·rintro l gv W hun xD hcl hJ hg ha hp
         have hgd:=gD (hg 32 (by kernel_rfl)) hJ.lit 11 rfl (xD 11 (by kernel_rfl))
         refine' op_val ?h175 ?w175 ?r175 ?K175
         case h175=>rfl
         case w175=>exact(wants_yes false rfl (by kernel_rfl) hgd)
         case r175=>exact(ex_indexAddr rfl (lE (hg 33 (by kernel_rfl)) hJ.lit 12 rfl (xD 12 (by kernel_rfl))) (lE (hg 34 (by kernel_rfl)) hJ.lit 13 rfl (xD 13 (by kernel_rfl))) (ix42 hkl))
         case K175=>exact⟨_,hp 35 _ (by kernel_rfl),JK.M hok hst hJ 14 rfl⟩
        ·rintro l gv W hun xD hcl hJ hg ha hp
         have hgd:=gD (hg 32 (by kernel_rfl)) hJ.lit 11 rfl (xD 11 (by kernel_rfl))
         refine' op_val ?h176 ?w176 ?r176 ?K176
         case h176=>rfl
         case w176=>exact(wants_yes false rfl (by kernel_rfl) hgd)
         case r176=>exact(ex_field rfl (lE (hg 35 (by kernel_rfl)) hJ.lit 14 rfl (xD 14 (by kernel_rfl))) fld0)
         case K176=>exact⟨_,hp 36 _ (by kernel_rfl),JK.M hok hst hJ 15 rfl⟩
        ·rintro l gv W hun xD hcl hJ hg ha hp
         have hgd:=gD (hg 32 (by kernel_rfl)) hJ.lit 11 rfl (xD 11 (by kernel_rfl))
         refine' op_val ?h177 ?w177 ?r177 ?K177
         case h177=>rfl
         case w177=>exact(wants_yes false rfl (by kernel_rfl) hgd)
         case r177=>exact(ex_load rfl (lE (hg 36 (by kernel_rfl)) hJ.lit 15 rfl (xD 15 (by kernel_rfl))) (ld9 (c_B hJ.low d0)))
         case K177=>exact⟨_,hp 37 _ (by kernel_rfl),JK.M hok hst hJ 16 rfl⟩
        ·rintro l gv W hun xD hcl hJ hg ha hp
         have hgd:=gD (hg 32 (by kernel_rfl)) hJ.lit 11 rfl (xD 11 (by kernel_rfl))
         refine' op_val ?h178 ?w178 ?r178 ?K178
         case h178=>rfl
         case w178=>exact(wants_yes false rfl (by kernel_rfl) hgd)
         case r178=>exact(ex_field rfl (eval_tmp ((ha 3 (by kernel_rfl)).trans rfl)) fld0)
         case K178=>exact⟨_,hp 38 _ (by kernel_rfl),JK.M hok hst hJ 17 rfl⟩
        ·rintro l gv W hun xD hcl hJ hg ha hp
         have hgd:=gD (hg 32 (by kernel_rfl)) hJ.lit 11 rfl (xD 11 (by kernel_rfl))
         refine' op_val ?h179 ?w179 ?r179 ?K179
         case h179=>rfl
         case w179=>exact(wants_yes false rfl (by kernel_rfl) hgd)
         case r179=>exact(ex_load rfl (lE (hg 38 (by kernel_rfl)) hJ.lit 17 rfl (xD 17 (by kernel_rfl))) (ld9 (c_B hJ.low c0)))
         case K179=>exact⟨_,hp 39 _ (by kernel_rfl),JK.M hok hst hJ 18 rfl⟩
        ·rintro l gv W hun xD hcl hJ hg ha hp
         have hgd:=gD (hg 32 (by kernel_rfl)) hJ.lit 11 rfl (xD 11 (by kernel_rfl))
         refine' op_val ?h180 ?w180 ?r180 ?K180
         case h180=>rfl
         case w180=>exact(wants_yes false rfl (by kernel_rfl) hgd)
         case r180=>exact(ex_bin rfl (lE (hg 37 (by kernel_rfl)) hJ.lit 16 rfl (xD 16 (by kernel_rfl))) (lE (hg 39 (by kernel_rfl)) hJ.lit 18 rfl (xD 18 (by kernel_rfl))) (guard_str _ _ _ _ _ W) (eql9 hs1))
         case K180=>exact⟨_,hp 40 _ (by kernel_rfl),JK.M hok hst hJ 19 rfl⟩
        ·rintro l gv W hun xD hcl hJ hg ha hp
         have hgd:=gD (hg 32 (by kernel_rfl)) hJ.lit 11 rfl (xD 11 (by kernel_rfl))
         refine' op_val ?h181 ?w181 ?r181 ?K181
         case h181=>rfl
         case w181=>exact(wants_yes false rfl (by kernel_rfl) hgd)
         case r181=>exact(ex_move rfl (lE (hg 40 (by kernel_rfl)) hJ.lit 19 rfl (xD 19 (by kernel_rfl))))
         case K181=>exact⟨_,hp 41 _ (by kernel_rfl),JK.M hok hst hJ 20 rfl⟩
        ·rintro l gv W hun xD hcl hJ hg ha hp
         have hgd:=gD (hg 41 (by kernel_rfl)) hJ.lit 20 rfl (xD 20 (by kernel_rfl))
         refine' op_out ?h182 ?w182 ?K182
         case h182=>rfl
         case w182=>exact(wants_no true rfl (by kernel_rfl) hgd)
         case K182=>exact⟨_,hp 42 _ (by kernel_rfl),JK.M hok hst hJ 21 rfl⟩
        ·rintro l gv W hun xD hcl hJ hg ha hp
         have hgd:=gD (hg 41 (by kernel_rfl)) hJ.lit 20 rfl (xD 20 (by kernel_rfl))
         refine' op_out ?h183 ?w183 ?K183
         case h183=>rfl
         case w183=>exact(wants_no true rfl (by kernel_rfl) hgd)
         case K183=>exact⟨_,hp 43 _ (by kernel_rfl),JK.M hok hst hJ 22 rfl⟩
        ·rintro l gv W hun xD hcl hJ hg ha hp
         have hgd:=gD (hg 41 (by kernel_rfl)) hJ.lit 20 rfl (xD 20 (by kernel_rfl))
         refine' op_out ?h184 ?w184 ?K184
         case h184=>rfl
         case w184=>exact(wants_no true rfl (by kernel_rfl) hgd)
         case K184=>exact⟨_,hp 44 _ (by kernel_rfl),JK.M hok hst hJ 23 rfl⟩
        ·rintro l gv W hun xD hcl hJ hg ha hp
         have hgd:=gD (hg 41 (by kernel_rfl)) hJ.lit 20 rfl (xD 20 (by kernel_rfl))
         refine' op_out ?h185 ?w185 ?K185
         case h185=>rfl
         case w185=>exact(wants_no true rfl (by kernel_rfl) hgd)
         case K185=>exact⟨_,hp 45 _ (by kernel_rfl),JK.M hok hst hJ 24 rfl⟩
        ·rintro l gv W hun xD hcl hJ hg ha hp
         have hgd:=gD (hg 41 (by kernel_rfl)) hJ.lit 20 rfl (xD 20 (by kernel_rfl))
         refine' op_out ?h186 ?w186 ?K186
         case h186=>rfl
         case w186=>exact(wants_no true rfl (by kernel_rfl) hgd)
         case K186=>exact⟨_,hp 46 _ (by kernel_rfl),JK.M hok hst hJ 25 rfl⟩
        ·rintro l gv W hun xD hcl hJ hg ha hp
         have hgd:=gD (hg 41 (by kernel_rfl)) hJ.lit 20 rfl (xD 20 (by kernel_rfl))
         refine' op_out ?h187 ?w187 ?K187
         case h187=>rfl
         case w187=>exact(wants_no true rfl (by kernel_rfl) hgd)
         case K187=>exact⟨_,hp 47 _ (by kernel_rfl),JK.M hok hst hJ 26 rfl⟩
        ·rintro l gv W hun xD hcl hJ hg ha hp
         have hgd:=gD (hg 41 (by kernel_rfl)) hJ.lit 20 rfl (xD 20 (by kernel_rfl))
         refine' op_out ?h188 ?w188 ?K188
         case h188=>rfl
         case w188=>exact(wants_no true rfl (by kernel_rfl) hgd)
         case K188=>exact⟨_,hp 48 _ (by kernel_rfl),JK.M hok hst hJ 27 rfl⟩
        ·rintro l gv W hun xD hcl hJ hg ha hp
         have hgd:=gD (hg 41 (by kernel_rfl)) hJ.lit 20 rfl (xD 20 (by kernel_rfl))
         refine' op_out ?h189 ?w189 ?K189
         case h189=>rfl
         case w189=>exact(wants_no true rfl (by kernel_rfl) hgd)
         case K189=>exact⟨_,hp 49 _ (by kernel_rfl),JK.M hok hst hJ 28 rfl⟩
        ·rintro l gv W hun xD hcl hJ hg ha hp
         have hgd:=gD (hg 32 (by kernel_rfl)) hJ.lit 11 rfl (xD 11 (by kernel_rfl))
         refine' op_val ?h190 ?w190 ?r190 ?K190
         case h190=>rfl
         case w190=>exact(wants_yes false rfl (by kernel_rfl) hgd)
         case r190=>exact(ex_pickF rfl (lE (hg 41 (by kernel_rfl)) hJ.lit 20 rfl (xD 20 (by kernel_rfl))) rfl)
         case K190=>exact⟨_,hp 50 _ (by kernel_rfl),JK.M hok hst hJ 29 rfl⟩
        ·rintro l gv W hun xD hcl hJ hg ha hp
         have hgd:=gD (hg 23 (by kernel_rfl)) hJ.lit 2 rfl (xD 2 (by kernel_rfl))
         refine' op_val ?h191 ?w191 ?r191 ?K191
         case h191=>rfl
         case w191=>exact(wants_yes true rfl (by kernel_rfl) hgd)
         case r191=>exact(ex_pickF rfl (lE (hg 32 (by kernel_rfl)) hJ.lit 11 rfl (xD 11 (by kernel_rfl))) (lE (hg 50 (by kernel_rfl)) hJ.lit 29 rfl (xD 29 (by kernel_rfl))))
         case K191=>exact⟨_,hp 51 _ (by kernel_rfl),JK.M hok hst hJ 30 rfl⟩
        ·rintro l gv W hun xD hcl hJ hg ha hp
         refine' op_val ?h192 ?w192 ?r192 ?K192
         case h192=>rfl
         case w192=>exact rfl
         case r192=>exact(ex_pick rfl (lE (hg 23 (by kernel_rfl)) hJ.lit 2 rfl (xD 2 (by kernel_rfl))) (lE (hg 51 (by kernel_rfl)) hJ.lit 30 rfl (xD 30 (by kernel_rfl))))
         case K192=>exact⟨_,hp 52 _ (by kernel_rfl),JK.M hok hst hJ 31 rfl⟩
       case hend192 =>
        rintro ll gv W9 hl hJ
        replace hl:=fun j h=>hl j (of_decide_eq_true h)
        have e21:=lT hJ.lit 0 rfl (hl 0 (by kernel_rfl))
        have e22:=lT hJ.lit 1 rfl (hl 1 (by kernel_rfl))
        have e23:=lT hJ.lit 2 rfl (hl 2 (by kernel_rfl))
        have e24:=lT hJ.lit 3 rfl (hl 3 (by kernel_rfl))
        have e25:=lT hJ.lit 4 rfl (hl 4 (by kernel_rfl))
        have e26:=lT hJ.lit 5 rfl (hl 5 (by kernel_rfl))
        have e27:=lT hJ.lit 6 rfl (hl 6 (by kernel_rfl))
        have e28:=lT hJ.lit 7 rfl (hl 7 (by kernel_rfl))
        have e29:=lT hJ.lit 8 rfl (hl 8 (by kernel_rfl))
        have e30:=lT hJ.lit 9 rfl (hl 9 (by kernel_rfl))
        have e31:=lT hJ.lit 10 rfl (hl 10 (by kernel_rfl))
        have e32:=lT hJ.lit 11 rfl (hl 11 (by kernel_rfl))
        have e33:=lT hJ.lit 12 rfl (hl 12 (by kernel_rfl))
        have e34:=lT hJ.lit 13 rfl (hl 13 (by kernel_rfl))
        have e35:=lT hJ.lit 14 rfl (hl 14 (by kernel_rfl))
        have e36:=lT hJ.lit 15 rfl (hl 15 (by kernel_rfl))
        have e37:=lT hJ.lit 16 rfl (hl 16 (by kernel_rfl))
        have e38:=lT hJ.lit 17 rfl (hl 17 (by kernel_rfl))
        have e39:=lT hJ.lit 18 rfl (hl 18 (by kernel_rfl))
        have e40:=lT hJ.lit 19 rfl (hl 19 (by kernel_rfl))
        have e41:=lT hJ.lit 20 rfl (hl 20 (by kernel_rfl))
        have e42:=lT hJ.lit 21 rfl (hl 21 (by kernel_rfl))
        have e43:=lT hJ.lit 22 rfl (hl 22 (by kernel_rfl))
        have e44:=lT hJ.lit 23 rfl (hl 23 (by kernel_rfl))
        have e45:=lT hJ.lit 24 rfl (hl 24 (by kernel_rfl))
        have e46:=lT hJ.lit 25 rfl (hl 25 (by kernel_rfl))
        have e47:=lT hJ.lit 26 rfl (hl 26 (by kernel_rfl))
        have e48:=lT hJ.lit 27 rfl (hl 27 (by kernel_rfl))
        have e49:=lT hJ.lit 28 rfl (hl 28 (by kernel_rfl))
        have e50:=lT hJ.lit 29 rfl (hl 29 (by kernel_rfl))
        have e51:=lT hJ.lit 30 rfl (hl 30 (by kernel_rfl))
        have e52:=lT hJ.lit 31 rfl (hl 31 (by kernel_rfl))
        simp only[zipV,List.map_cons,List.map_nil,puts,Act.put,List.setIfInBounds_toArray,List.set_cons_succ,List.set_cons_zero,e21,e22,e23,e24,e25,e26,e27,e28,e29,e30,e31,e32,e33,e34,e35,e36,e37,e38,e39,e40,e41,e42,e43,e44,e45,e46,e47,e48,e49,e50,e51,e52]
        have hlow:=h_X hJ.low
        clear e21 e22 e23 e24 e25 e26 e27 e28 e29 e30 e31 e32 e33 e34 e35 e36 e37 e38 e39 e40 e41 e42 e43 e44 e45 e46 e47 e48 e49 e50 e51 e52 hJ hl
        obtain⟨w8,hw8⟩:∃ w8,W9=w8:=⟨_,rfl⟩
        rw[hw8] at hlow ⊢
        clear hw8 d0 d1 c0 c1
        have hB:=h_X (show Below W1.heap.size W1 w8 from bS hlow6.out hlow.out)
        have hO:=h_X (show w8.ownsRow W1.heap.size 84 2 u5 q.length (flat q) from owns_below (bS (bel_drew wr) hlow.out) hownh.out)
        have c0:=c_B hB.out hc0h.out
        have c1:=c_B hB.out hc1h.out
        have d0:=c_B hB.out z0h.out
        have d1:=c_B hB.out z1h.out
        clear hlow hlow6 hownh
        have hbl:=bel_laid w8 (.cells #[.string ys,.int .i64 yx] 84)
        have hoh:=h_X (owns_below hbl hO.out)
        have hlt2:∀ g',u5.ownBlock=some g'→W1.heap.size≤g'∧g' < (w8.alloc (.cells #[.string ys,.int .i64 yx] 84)).heap.size:=hoh.out.lt
        have hb4h:=h_X (bS hB.out hbl)
        have hszv:W1.heap.size≤w8.heap.size:=hB.out.size
        clear hbl hO hB
        go_wp2_with (at_builtin;refine wpList_append_own_at _ rfl _ _ 42 rfl W1.heap.size 84 i0 (.agg #[.string ⟨#[]⟩,.int .i64 0]) 2 24 Tryz.underlying42 hi hz0 hz1 hz2 rfl (by decide) _ _ _ rfl hoh.out ⟨w8.heap.size,0,none⟩ 1 1 [.string ys,.int .i64 yx] rfl rfl ?c9_1 ?c9_2 ?c9_3 ?c9_4 ?c9_5 ?_)
        (try case c9_1=>intro j u hu;rw[Addr.add_lit,Nat.zero_add,World.cell?_alloc_new];simpa using hu)
        case c9_2=>first | exact⟨rfl,rfl⟩ | (intro u hu;simp at hu;rcases hu with rfl | rfl<;>rfl)
        case c9_3=>unfold maxLen;omega
        case c9_4=>omega
        case c9_5=>first | omega | (rw[World.size_alloc];omega)
        intro vv w11 hown1 hgrow _ hob
        have hB:=h_X (show Below W1.heap.size W1 w11 from hb4h.out.grown hgrow hb4h.out.size (fun g' e=>(hlt2 g' e).1))
        have hO:=h_X (show w11.ownsRow W1.heap.size 84 2 vv (q ++ [(ys,yx)]).length (flat (q ++ [(ys,yx)])) by rw[flat_snoc];simp only[List.length_append,List.length_cons,List.length_nil,Nat.zero_add];exact hown1)
        clear hown1 hgrow hob hoh hlt2 hb4h hszv
        clear c0 c1 d0 d1
        go_wp2
        go_roundw
        case rel=>exact⟨k+1,pre ++ [(ys,yx)],r,q ++ [(ys,yx)],false,rfl,(by rw[hlh.out];simp),(by simp[hk]),(fun hm=>(List.mem_append.1 hm).elim (fun h=>hnoth.out h) (fun h=>heh.out (List.mem_singleton.1 h).symm)),rfl,(fun h=>by cases h),(fun _=>⟨(fun z hz=>(List.mem_append.1 hz).elim (fun h=>by have h8:=(hpfh.out (by trivial)).1 z h;show ¬ sySym (s,x) z < 0;omega) (fun h=>by rw[List.mem_singleton.1 h];have h8:=hLT;show ¬ sySym (s,x) (ys,yx) < 0;omega)),(by rw[(hpfh.out (by trivial)).2])⟩),hO.out,(by have:=(hpfh.out (by trivial)).2;rw[this];simp;omega),hB.out⟩
        case measure=>simp[intOf];omega
end Go.Proofs.YtngdieldgnlogaaGreatDoor
