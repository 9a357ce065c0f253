/- The law's own equality: SameTerms. The law's own equality: SameForms and Same. -/
import Derived.Test.YtngdieldgnlogaaGreatDoorQD
import Derived.Test.YtngdieldgnlogaaGreatDoorQU
import Derived.Deep.RegionHeld3
namespace Go.Proofs.YtngdieldgnlogaaGreatDoor
open Go Go.RowKit
set_option maxRecDepth 100000
set_option linter.unusedVariables false
def Ts.eqB:Ts→Ts→Bool
 | .nil,.nil=>true
 | .cons v n a r,.cons v' n' a' r'=>(v == v') && (n.toList == n'.toList) && a.eqB a' && r.eqB r'
 | _,_=>false
def Fs.eqB:Fs→Fs→Bool
 | .nil,.nil=>true
 | .cons op n a s r,.cons op' n' a' s' r'=>(op == op') && (n.toList == n'.toList) && a.eqB a' && s.eqB s' && r.eqB r'
 | _,_=>false
def FT.eqB (f g:FT):Bool:=(f.op == g.op) && (f.n.toList == g.n.toList) && f.ts.eqB g.ts && f.sub.eqB g.sub
theorem Ts.eqB_len:∀ {a b:Ts},a.eqB b=true→a.len=b.len
 | .nil,.nil,_=>rfl
 | .cons _ _ _ r,.cons _ _ _ r',h=>by
  simp only[Ts.eqB,Bool.and_eq_true] at h
  simp only[Ts.len,Ts.eqB_len h.2]
theorem Fs.eqB_len:∀ {a b:Fs},a.eqB b=true→a.len=b.len
 | .nil,.nil,_=>rfl
 | .cons _ _ _ _ r,.cons _ _ _ _ r',h=>by
  simp only[Fs.eqB,Bool.and_eq_true] at h
  simp only[Fs.len,Fs.eqB_len h.2]
theorem index24 {W:World} {b o l c k:Nat} (h:(k:Int) < (l:Int)):(Instr.indexAt 22 (.slice (some ⟨b,o,none⟩) l c) (.int .i64 k)).run Tryz.prog W=.ok (.pointer (some ⟨b,o+k*3,none⟩)) W:=by
 have hk:¬ l≤k:=by omega
 by_cases h0:k=0
 ·subst h0;simp[Instr.indexAt,go_sem];omega
 ·simp[Instr.indexAt,go_sem,hk]
theorem field50_0 {W:World} {b o:Nat}:(Instr.fieldAt 46 (.pointer (some ⟨b,o,none⟩)) 0).run Tryz.prog W=.ok (.pointer (some ⟨b,o,none⟩)) W:=by
 simp[Instr.fieldAt,go_sem]
theorem field50_1 {W:World} {b o:Nat}:(Instr.fieldAt 46 (.pointer (some ⟨b,o,none⟩)) 1).run Tryz.prog W=.ok (.pointer (some ⟨b,o+1,none⟩)) W:=by
 simp[Instr.fieldAt,go_sem]
theorem load4 {W:World} {b o:Nat} {v:Bool} (h:W.cell? ⟨b,o,none⟩=some (.bool v)):(Instr.loadAt 4 (.pointer (some ⟨b,o,none⟩))).run Tryz.prog W=.ok (.bool v) W:=by
 simp[Instr.loadAt,go_sem,h]
theorem load9 {W:World} {b o:Nat} {v:ByteArray} (h:W.cell? ⟨b,o,none⟩=some (.string v)):(Instr.loadAt 9 (.pointer (some ⟨b,o,none⟩))).run Tryz.prog W=.ok (.string v) W:=by
 simp[Instr.loadAt,go_sem,h]
theorem guard_bool (k:BinOp) (x y:Operand) (a b:Bool) (w:World):(eqGuard k 4 x y (.bool a) (.bool b)).run Tryz.prog w=.ok () w:=by
 cases k<;>simp[eqGuard]
theorem guard_str (k:BinOp) (x y:Operand) (a b:ByteArray) (w:World):(eqGuard k 9 x y (.string a) (.string b)).run Tryz.prog w=.ok () w:=by
 cases k<;>simp[eqGuard]
theorem neq_bool (a b:Bool) (w:World) {r:Bool} (h:(a != b)=r):(binOp .neq 4 (.bool a) (.bool b)).run Tryz.prog w=.ok (.bool r) w:=by
 subst h
 simp[go_sem]
 cases a<;>cases b<;>rfl
theorem neq_str (a b:ByteArray) (w:World) {r:Bool} (h:(a.toList != b.toList)=r):(binOp .neq 9 (.string a) (.string b)).run Tryz.prog w=.ok (.bool r) w:=by
 subst h
 simp[go_sem,bne]
def K2T (w:World) (a a':Ts) (s s':Value) (r r':Ts) (b o b' o':Nat) (W:World):Prop:=Below w.heap.size w W∧TSl W a s∧TSl W a' s'∧TsAt W r b o∧TsAt W r' b' o'
def S2T (w:World) (a a':Ts) (ps ps':Option Addr) (cs cs':Nat) (v v':Bool) (n n':ByteArray) (r r':Ts) (b o b' o':Nat) (W:World):Prop :=
 W.cell? ⟨b,o,none⟩=some (.bool v)∧W.cell? ⟨b,o+1,none⟩=some (.string n)∧W.cell? ⟨b,o+2,none⟩=some (.slice ps a.len cs) ∧
 W.cell? ⟨b',o',none⟩=some (.bool v')∧W.cell? ⟨b',o'+1,none⟩=some (.string n')∧W.cell? ⟨b',o'+2,none⟩=some (.slice ps' a'.len cs') ∧
 K2T w a a' (.slice ps a.len cs) (.slice ps' a'.len cs') r r' b (o+3) b' (o'+3) W
theorem S2T.next {w:World} {a a':Ts} {ps ps':Option Addr} {cs cs':Nat} {v v':Bool} {n n':ByteArray} {r r':Ts} {b o b' o':Nat} {W W':World} (h:S2T w a a' ps ps' cs cs' v v' n n' r r' b o b' o' W) (hb:Below W.heap.size W W') :
  S2T w a a' ps ps' cs cs' v v' n n' r r' b o b' o' W' :=
 ⟨c_B hb h.1,c_B hb h.2.1,c_B hb h.2.2.1,c_B hb h.2.2.2.1,c_B hb h.2.2.2.2.1,c_B hb h.2.2.2.2.2.1,bS h.2.2.2.2.2.2.1 hb,TSl.below hb h.2.2.2.2.2.2.2.1,TSl.below hb h.2.2.2.2.2.2.2.2.1,TsAt.below hb h.2.2.2.2.2.2.2.2.2.1,TsAt.below hb h.2.2.2.2.2.2.2.2.2.2⟩
def SameT (N:Nat):Prop:=∀ (x y:Ts) (sa sb:Value) (w:World),x.size≤N→TSl w x sa→TSl w y sb→x.size≤1000000→y.size≤1000000 →
 Calls Tryz.prog 75 #[sa,sb] w fun e w'=>e=.returned (.bool (x.eqB y))∧Below w.heap.size w w'
set_option maxHeartbeats 8000000 in
theorem sameT_step (N:Nat) (ih:∀ M,M < N→SameT M):SameT N:=by
 intro xx yy sa sb w hN ha hb hs hs'
 obtain⟨p,c,b,o,rfl,hp,ht⟩:=TSl.opened ha
 obtain⟨p',c',b',o',rfl,hp',ht'⟩:=TSl.opened hb
 have ih':=h_X (fun (t:Ts) (h:t.size < N)=>ih t.size h t)
 clear ih ha hb
 have hlen:=xx.len_le
 have hlen':=yy.len_le
 by_cases hl:xx.len=yy.len
 rotate_left
 ·have hne:xx.eqB yy=false:=by
   cases h:xx.eqB yy with
   | false=>rfl
   | true=>exact absurd (Ts.eqB_len h) hl
  have hne':((xx.len:Int) != (yy.len:Int))=true:=bne_iff_ne.2 (by omega)
  rw[hne]
  clear hne
  go_enter Tryz.func75,Tryz.ntmps75
  go_wp2
  go_ret
  exact⟨rfl,Below.refl _ _⟩
 have hl':((xx.len:Int) != (yy.len:Int))=false:=by rw[hl];simp
 obtain⟨rr,hrr⟩:∃ rr,xx.eqB yy=rr:=⟨_,rfl⟩
 rw[hrr]
 replace hrr:=h_X hrr
 replace hl:=h_X hl
 go_enter Tryz.func75,Tryz.ntmps75
 go_wp2
 go_loopw [5] (fun i wr=>∃ (k:Nat) (x y:Ts),i=.int .i64 k∧k+x.len=xx.len∧k+y.len=yy.len∧x.size≤xx.size∧y.size≤yy.size∧x.eqB y=rr∧TsAt wr x b (o+k*3)∧TsAt wr y b' (o'+k*3)∧Below w.heap.size w wr) (fun i _=>xx.len - (intOf i).toNat)
 case atStart=>exact⟨0,xx,yy,rfl,by omega,by omega,Nat.le_refl _,Nat.le_refl _,hrr.out,by simpa using ht,by simpa using ht',Below.refl _ _⟩
 case round =>
  obtain⟨k,x,y,rfl,hkx,hky,hxs,hys,heq,hax,hay,hbw⟩:=hrel
  clear hl'
  cases x with
  | nil =>
   cases y with
   | cons _ _ _ _=>exfalso;have:=hl.out;simp only[Ts.len] at *;omega
   | nil =>
    simp only[Ts.len] at hkx
    have hk':k=xx.len:=by omega
    subst hk'
    have:rr=true:=by rw[←heq];rfl
    subst this
    clear hrr heq
    go_wp2
    go_ret
    exact⟨rfl,hbw⟩
  | cons v n t x' =>
   cases y with
   | nil=>exfalso;have:=hl.out;simp only[Ts.len] at *;omega
   | cons v2 n2 t2 y' =>
    simp only[Ts.len] at hkx hky
    simp only[Ts.size] at hxs hys
    obtain⟨c0,c1,⟨s,c2,hs2⟩,hax'⟩:=hax
    obtain⟨d0,d1,⟨s',d2,hs2'⟩,hay'⟩:=hay
    have hlt:(k:Int) < (xx.len:Int):=by omega
    have hlt2:(k:Int) < (yy.len:Int):=by omega
    rcases hp with hp | hp
    ·omega
    rcases hp' with hp' | hp'
    ·omega
    subst hp hp'
    obtain⟨ps,cs,rfl,-⟩:=id hs2
    obtain⟨ps',cs',rfl,-⟩:=id hs2'
    have hS:S2T w t t2 ps ps' cs cs' v v2 n n2 x' y' b (o+k*3) b' (o'+k*3) wr.drew:=S2T.next ⟨c0,c1,c2,d0,d1,d2,hbw,hs2,hs2',hax',hay'⟩ (bel_drew wr)
    clear c0 c1 c2 d0 d1 d2 hs2 hs2' hax' hay'
    simp only[Ts.eqB] at heq
    by_cases hv:v=v2
    ·subst hv
     have e1:(v != v)=false:=by simp
     by_cases hn:n.toList=n2.toList
     ·have e2:(n.toList != n2.toList)=false:=by rw[hn];simp
      have e3:(n.toList == n2.toList)=true:=by rw[hn];simp
      have hcall:Hid (∀ W,S2T w t t2 ps ps' cs cs' v v n n2 x' y' b (o+k*3) b' (o'+k*3) W→Calls Tryz.prog 75 #[.slice ps t.len cs,.slice ps' t2.len cs'] W fun e w'=>e=.returned (.bool (t.eqB t2))∧S2T w t t2 ps ps' cs cs' v v n n2 x' y' b (o+k*3) b' (o'+k*3) w') :=
       h_X (fun W hW=>(ih'.out t (by omega) t2 _ _ W (Nat.le_refl _) hW.2.2.2.2.2.2.2.1 hW.2.2.2.2.2.2.2.2.1 (by omega) (by omega)).mono fun e w' ⟨he,hb⟩=>⟨he,hW.next hb⟩)
      have hq:(t.eqB t2 && x'.eqB y')=rr:=by rw[←heq,hn];simp
      obtain⟨q,hqq⟩:∃ q,t.eqB t2=q:=⟨_,rfl⟩
      rw[hqq] at hcall hq
      have hqh:=h_X hq
      clear heq hn hqq hq hbw
      go_wp2
      go_region_held3 (fun W=>W.cell? ⟨b,o+k*3,none⟩=some (.bool v)∧W.cell? ⟨b,o+k*3+1,none⟩=some (.string n)∧W.cell? ⟨b,o+k*3+2,none⟩=some (.slice ps t.len cs) ∧
        W.cell? ⟨b',o'+k*3,none⟩=some (.bool v)∧W.cell? ⟨b',o'+k*3+1,none⟩=some (.string n2)∧W.cell? ⟨b',o'+k*3+2,none⟩=some (.slice ps' t2.len cs') ∧
        K2T w t t2 (.slice ps t.len cs) (.slice ps' t2.len cs') x' y' b (o+k*3+3) b' (o'+k*3+3) W)
       (first | assumption | exact hS)
       ((go_at_call 75;refine(hcall.out _ (by assumption)).mono ?_;rintro e w' ⟨rfl,hS2⟩))
      have hSh:=h_X hS2
      clear hS2 hcall hS e1 e2 e3
      cases q with
      | true =>
       have hqq:=hqh.out
       simp only[Bool.true_and] at hqq
       have hqqh:=h_X hqq
       clear hqq hqh
       go_wp2
       go_roundw
       case rel =>
        refine⟨k+1,x',y',by go_num,by omega,by omega,by omega,by omega,hqqh.out,?_,?_,hSh.out.2.2.2.2.2.2.1⟩
        ·have:=hSh.out.2.2.2.2.2.2.2.2.2.1
         rwa [show o+k*3+3=o+(k+1)*3 by omega] at this
        ·have:=hSh.out.2.2.2.2.2.2.2.2.2.2
         rwa [show o'+k*3+3=o'+(k+1)*3 by omega] at this
       case measure=>simp[intOf];omega
      | false =>
       have hqq:=hqh.out
       simp only[Bool.false_and] at hqq
       subst hqq
       clear hqh hrr
       go_wp2
       go_ret
       exact⟨rfl,hSh.out.2.2.2.2.2.2.1⟩
     ·have e2:(n.toList != n2.toList)=true:=bne_iff_ne.2 hn
      have e3:(n.toList == n2.toList)=false:=beq_eq_false_iff_ne.2 hn
      have hrf:rr=false:=by rw[←heq,e3];simp
      subst hrf
      have hS0:Below w.heap.size w wr∧S2T w t t2 ps ps' cs cs' v v n n2 x' y' b (o+k*3) b' (o'+k*3) wr.drew:=⟨hbw,hS⟩
      clear heq hn hrr hS hbw
      go_wp2
      refine wp_region_puts (by kernel_rfl) 55 [(17,.slice (some ⟨b,o,none⟩) xx.len c),(18,.int .i64 k),(19,.pointer (some ⟨b,o+k*3,none⟩)),(20,.pointer (some ⟨b,o+k*3,none⟩)),(21,.bool v),(22,.slice (some ⟨b',o',none⟩) yy.len c'),(23,.int .i64 k),(24,.pointer (some ⟨b',o'+k*3,none⟩)),(25,.pointer (some ⟨b',o'+k*3,none⟩)),(26,.bool v),(27,.bool false),(28,.bool false),(29,.slice (some ⟨b,o,none⟩) xx.len c),(30,.int .i64 k),(31,.pointer (some ⟨b,o+k*3,none⟩)),(32,.pointer (some ⟨b,o+k*3+1,none⟩)),(33,.string n),(34,.slice (some ⟨b',o',none⟩) yy.len c'),(35,.int .i64 k),(36,.pointer (some ⟨b',o'+k*3,none⟩)),(37,.pointer (some ⟨b',o'+k*3+1,none⟩)),(38,.string n2),(39,.bool true),(40,.bool true),(41,.bool true),(42,undef),(43,undef),(44,undef),(45,undef),(46,undef),(47,undef),(48,undef),(49,undef),(50,undef),(51,undef),(52,undef),(53,undef),(54,.bool true)] (fun W=>Below w.heap.size w W∧S2T w t t2 ps ps' cs cs' v v n n2 x' y' b (o+k*3) b' (o'+k*3) W) (fun W W'=>Below W.heap.size W W') (by kernel_rfl) (by kernel_rfl) rfl ⟨bS hS0.1 (bel_drew wr),hS0.2⟩ ?hst ?hend
      case hst =>
       refine⟨?_,?_,?_,?_,?_,?_,?_,?_,?_,?_,?_,?_,?_,?_,?_,?_,?_,?_,?_,?_,?_,?_,?_,?_,?_,?_,?_,?_,?_,?_,?_,?_,?_,?_,?_,?_,?_,?_,trivial⟩
       ·intro L a W hLs hL hn hd hI hb hl
        obtain⟨u0,h0,e0⟩:=hl 0 (cM (by kernel_rfl))
        replace e0:u0=.slice (some ⟨b,o,none⟩) xx.len c:=e0
        subst e0
        exact op_val rfl rfl (ex_move rfl (eval_tmp h0)) ⟨_,rfl,fun d hd=>by cases hd;rfl,hI,Below.refl _ _⟩
       ·intro L a W hLs hL hn hd hI hb hl
        obtain⟨u5,h5,e5⟩:=hl 5 (cM (by kernel_rfl))
        replace e5:u5=.int .i64 k:=e5
        subst e5
        exact op_val rfl rfl (ex_move rfl (eval_tmp h5)) ⟨_,rfl,fun d hd=>by cases hd;rfl,hI,Below.refl _ _⟩
       ·intro L a W hLs hL hn hd hI hb hl
        obtain⟨u17,h17,e17⟩:=hl 17 (cM (by kernel_rfl))
        replace e17:u17=.slice (some ⟨b,o,none⟩) xx.len c:=e17
        subst e17
        obtain⟨u18,h18,e18⟩:=hl 18 (cM (by kernel_rfl))
        replace e18:u18=.int .i64 k:=e18
        subst e18
        exact op_val rfl rfl (ex_indexAddr rfl (eval_tmp h17) (eval_tmp h18) (index24 hlt)) ⟨_,rfl,fun d hd=>by cases hd;rfl,hI,Below.refl _ _⟩
       ·intro L a W hLs hL hn hd hI hb hl
        obtain⟨u19,h19,e19⟩:=hl 19 (cM (by kernel_rfl))
        replace e19:u19=.pointer (some ⟨b,o+k*3,none⟩):=e19
        subst e19
        exact op_val rfl rfl (ex_field rfl (eval_tmp h19) field50_0) ⟨_,rfl,fun d hd=>by cases hd;rfl,hI,Below.refl _ _⟩
       ·intro L a W hLs hL hn hd hI hb hl
        obtain⟨u20,h20,e20⟩:=hl 20 (cM (by kernel_rfl))
        replace e20:u20=.pointer (some ⟨b,o+k*3,none⟩):=e20
        subst e20
        exact op_val rfl rfl (ex_load rfl (eval_tmp h20) (load4 hI.2.1)) ⟨_,rfl,fun d hd=>by cases hd;rfl,hI,Below.refl _ _⟩
       ·intro L a W hLs hL hn hd hI hb hl
        obtain⟨u1,h1,e1⟩:=hl 1 (cM (by kernel_rfl))
        replace e1:u1=.slice (some ⟨b',o',none⟩) yy.len c':=e1
        subst e1
        exact op_val rfl rfl (ex_move rfl (eval_tmp h1)) ⟨_,rfl,fun d hd=>by cases hd;rfl,hI,Below.refl _ _⟩
       ·intro L a W hLs hL hn hd hI hb hl
        obtain⟨u5,h5,e5⟩:=hl 5 (cM (by kernel_rfl))
        replace e5:u5=.int .i64 k:=e5
        subst e5
        exact op_val rfl rfl (ex_move rfl (eval_tmp h5)) ⟨_,rfl,fun d hd=>by cases hd;rfl,hI,Below.refl _ _⟩
       ·intro L a W hLs hL hn hd hI hb hl
        obtain⟨u22,h22,e22⟩:=hl 22 (cM (by kernel_rfl))
        replace e22:u22=.slice (some ⟨b',o',none⟩) yy.len c':=e22
        subst e22
        obtain⟨u23,h23,e23⟩:=hl 23 (cM (by kernel_rfl))
        replace e23:u23=.int .i64 k:=e23
        subst e23
        exact op_val rfl rfl (ex_indexAddr rfl (eval_tmp h22) (eval_tmp h23) (index24 hlt2)) ⟨_,rfl,fun d hd=>by cases hd;rfl,hI,Below.refl _ _⟩
       ·intro L a W hLs hL hn hd hI hb hl
        obtain⟨u24,h24,e24⟩:=hl 24 (cM (by kernel_rfl))
        replace e24:u24=.pointer (some ⟨b',o'+k*3,none⟩):=e24
        subst e24
        exact op_val rfl rfl (ex_field rfl (eval_tmp h24) field50_0) ⟨_,rfl,fun d hd=>by cases hd;rfl,hI,Below.refl _ _⟩
       ·intro L a W hLs hL hn hd hI hb hl
        obtain⟨u25,h25,e25⟩:=hl 25 (cM (by kernel_rfl))
        replace e25:u25=.pointer (some ⟨b',o'+k*3,none⟩):=e25
        subst e25
        exact op_val rfl rfl (ex_load rfl (eval_tmp h25) (load4 hI.2.2.2.2.1)) ⟨_,rfl,fun d hd=>by cases hd;rfl,hI,Below.refl _ _⟩
       ·intro L a W hLs hL hn hd hI hb hl
        obtain⟨u21,h21,e21⟩:=hl 21 (cM (by kernel_rfl))
        replace e21:u21=.bool v:=e21
        subst e21
        obtain⟨u26,h26,e26⟩:=hl 26 (cM (by kernel_rfl))
        replace e26:u26=.bool v:=e26
        subst e26
        exact op_val rfl rfl (ex_bin rfl (eval_tmp h21) (eval_tmp h26) (guard_bool _ _ _ _ _ _) (neq_bool _ _ W e1)) ⟨_,rfl,fun d hd=>by cases hd;rfl,hI,Below.refl _ _⟩
       ·intro L a W hLs hL hn hd hI hb hl
        obtain⟨u27,h27,e27⟩:=hl 27 (cM (by kernel_rfl))
        replace e27:u27=.bool false:=e27
        subst e27
        exact op_val rfl rfl (ex_move rfl (eval_tmp h27)) ⟨_,rfl,fun d hd=>by cases hd;rfl,hI,Below.refl _ _⟩
       ·intro L a W hLs hL hn hd hI hb hl
        obtain⟨ug,hg,eg⟩:=hl 28 (cM (by kernel_rfl))
        replace eg:ug=.bool false:=eg
        subst eg
        obtain⟨u0,h0,e0⟩:=hl 0 (cM (by kernel_rfl))
        replace e0:u0=.slice (some ⟨b,o,none⟩) xx.len c:=e0
        subst e0
        exact op_val rfl (wants_yes false rfl (by kernel_rfl) hg) (ex_move rfl (eval_tmp h0)) ⟨_,rfl,fun d hd=>by cases hd;rfl,hI,Below.refl _ _⟩
       ·intro L a W hLs hL hn hd hI hb hl
        obtain⟨ug,hg,eg⟩:=hl 28 (cM (by kernel_rfl))
        replace eg:ug=.bool false:=eg
        subst eg
        obtain⟨u5,h5,e5⟩:=hl 5 (cM (by kernel_rfl))
        replace e5:u5=.int .i64 k:=e5
        subst e5
        exact op_val rfl (wants_yes false rfl (by kernel_rfl) hg) (ex_move rfl (eval_tmp h5)) ⟨_,rfl,fun d hd=>by cases hd;rfl,hI,Below.refl _ _⟩
       ·intro L a W hLs hL hn hd hI hb hl
        obtain⟨ug,hg,eg⟩:=hl 28 (cM (by kernel_rfl))
        replace eg:ug=.bool false:=eg
        subst eg
        obtain⟨u29,h29,e29⟩:=hl 29 (cM (by kernel_rfl))
        replace e29:u29=.slice (some ⟨b,o,none⟩) xx.len c:=e29
        subst e29
        obtain⟨u30,h30,e30⟩:=hl 30 (cM (by kernel_rfl))
        replace e30:u30=.int .i64 k:=e30
        subst e30
        exact op_val rfl (wants_yes false rfl (by kernel_rfl) hg) (ex_indexAddr rfl (eval_tmp h29) (eval_tmp h30) (index24 hlt)) ⟨_,rfl,fun d hd=>by cases hd;rfl,hI,Below.refl _ _⟩
       ·intro L a W hLs hL hn hd hI hb hl
        obtain⟨ug,hg,eg⟩:=hl 28 (cM (by kernel_rfl))
        replace eg:ug=.bool false:=eg
        subst eg
        obtain⟨u31,h31,e31⟩:=hl 31 (cM (by kernel_rfl))
        replace e31:u31=.pointer (some ⟨b,o+k*3,none⟩):=e31
        subst e31
        exact op_val rfl (wants_yes false rfl (by kernel_rfl) hg) (ex_field rfl (eval_tmp h31) field50_1) ⟨_,rfl,fun d hd=>by cases hd;rfl,hI,Below.refl _ _⟩
       ·intro L a W hLs hL hn hd hI hb hl
        obtain⟨ug,hg,eg⟩:=hl 28 (cM (by kernel_rfl))
        replace eg:ug=.bool false:=eg
        subst eg
        obtain⟨u32,h32,e32⟩:=hl 32 (cM (by kernel_rfl))
        replace e32:u32=.pointer (some ⟨b,o+k*3+1,none⟩):=e32
        subst e32
        exact op_val rfl (wants_yes false rfl (by kernel_rfl) hg) (ex_load rfl (eval_tmp h32) (load9 hI.2.2.1)) ⟨_,rfl,fun d hd=>by cases hd;rfl,hI,Below.refl _ _⟩
       ·intro L a W hLs hL hn hd hI hb hl
        obtain⟨ug,hg,eg⟩:=hl 28 (cM (by kernel_rfl))
        replace eg:ug=.bool false:=eg
        subst eg
        obtain⟨u1,h1,e1⟩:=hl 1 (cM (by kernel_rfl))
        replace e1:u1=.slice (some ⟨b',o',none⟩) yy.len c':=e1
        subst e1
        exact op_val rfl (wants_yes false rfl (by kernel_rfl) hg) (ex_move rfl (eval_tmp h1)) ⟨_,rfl,fun d hd=>by cases hd;rfl,hI,Below.refl _ _⟩
       ·intro L a W hLs hL hn hd hI hb hl
        obtain⟨ug,hg,eg⟩:=hl 28 (cM (by kernel_rfl))
        replace eg:ug=.bool false:=eg
        subst eg
        obtain⟨u5,h5,e5⟩:=hl 5 (cM (by kernel_rfl))
        replace e5:u5=.int .i64 k:=e5
        subst e5
        exact op_val rfl (wants_yes false rfl (by kernel_rfl) hg) (ex_move rfl (eval_tmp h5)) ⟨_,rfl,fun d hd=>by cases hd;rfl,hI,Below.refl _ _⟩
       ·intro L a W hLs hL hn hd hI hb hl
        obtain⟨ug,hg,eg⟩:=hl 28 (cM (by kernel_rfl))
        replace eg:ug=.bool false:=eg
        subst eg
        obtain⟨u34,h34,e34⟩:=hl 34 (cM (by kernel_rfl))
        replace e34:u34=.slice (some ⟨b',o',none⟩) yy.len c':=e34
        subst e34
        obtain⟨u35,h35,e35⟩:=hl 35 (cM (by kernel_rfl))
        replace e35:u35=.int .i64 k:=e35
        subst e35
        exact op_val rfl (wants_yes false rfl (by kernel_rfl) hg) (ex_indexAddr rfl (eval_tmp h34) (eval_tmp h35) (index24 hlt2)) ⟨_,rfl,fun d hd=>by cases hd;rfl,hI,Below.refl _ _⟩
       ·intro L a W hLs hL hn hd hI hb hl
        obtain⟨ug,hg,eg⟩:=hl 28 (cM (by kernel_rfl))
        replace eg:ug=.bool false:=eg
        subst eg
        obtain⟨u36,h36,e36⟩:=hl 36 (cM (by kernel_rfl))
        replace e36:u36=.pointer (some ⟨b',o'+k*3,none⟩):=e36
        subst e36
        exact op_val rfl (wants_yes false rfl (by kernel_rfl) hg) (ex_field rfl (eval_tmp h36) field50_1) ⟨_,rfl,fun d hd=>by cases hd;rfl,hI,Below.refl _ _⟩
       ·intro L a W hLs hL hn hd hI hb hl
        obtain⟨ug,hg,eg⟩:=hl 28 (cM (by kernel_rfl))
        replace eg:ug=.bool false:=eg
        subst eg
        obtain⟨u37,h37,e37⟩:=hl 37 (cM (by kernel_rfl))
        replace e37:u37=.pointer (some ⟨b',o'+k*3+1,none⟩):=e37
        subst e37
        exact op_val rfl (wants_yes false rfl (by kernel_rfl) hg) (ex_load rfl (eval_tmp h37) (load9 hI.2.2.2.2.2.1)) ⟨_,rfl,fun d hd=>by cases hd;rfl,hI,Below.refl _ _⟩
       ·intro L a W hLs hL hn hd hI hb hl
        obtain⟨ug,hg,eg⟩:=hl 28 (cM (by kernel_rfl))
        replace eg:ug=.bool false:=eg
        subst eg
        obtain⟨u33,h33,e33⟩:=hl 33 (cM (by kernel_rfl))
        replace e33:u33=.string n:=e33
        subst e33
        obtain⟨u38,h38,e38⟩:=hl 38 (cM (by kernel_rfl))
        replace e38:u38=.string n2:=e38
        subst e38
        exact op_val rfl (wants_yes false rfl (by kernel_rfl) hg) (ex_bin rfl (eval_tmp h33) (eval_tmp h38) (guard_str _ _ _ _ _ _) (neq_str _ _ W e2)) ⟨_,rfl,fun d hd=>by cases hd;rfl,hI,Below.refl _ _⟩
       ·intro L a W hLs hL hn hd hI hb hl
        obtain⟨u28,h28,e28⟩:=hl 28 (cM (by kernel_rfl))
        replace e28:u28=.bool false:=e28
        subst e28
        obtain⟨u39,h39,e39⟩:=hl 39 (cM (by kernel_rfl))
        replace e39:u39=.bool true:=e39
        subst e39
        exact op_val rfl rfl (ex_pickF rfl (eval_tmp h28) (eval_tmp h39)) ⟨_,rfl,fun d hd=>by cases hd;rfl,hI,Below.refl _ _⟩
       ·intro L a W hLs hL hn hd hI hb hl
        obtain⟨u40,h40,e40⟩:=hl 40 (cM (by kernel_rfl))
        replace e40:u40=.bool true:=e40
        subst e40
        exact op_val rfl rfl (ex_move rfl (eval_tmp h40)) ⟨_,rfl,fun d hd=>by cases hd;rfl,hI,Below.refl _ _⟩
       ·intro L a W hLs hL hn hd hI hb hl
        obtain⟨ug,hg,eg⟩:=hl 41 (cM (by kernel_rfl))
        replace eg:ug=.bool true:=eg
        subst eg
        exact op_out rfl (wants_no false rfl (by kernel_rfl) hg) ⟨undef,rfl,fun d hd=>by cases hd;rfl,hI,Below.refl _ _⟩
       ·intro L a W hLs hL hn hd hI hb hl
        obtain⟨ug,hg,eg⟩:=hl 41 (cM (by kernel_rfl))
        replace eg:ug=.bool true:=eg
        subst eg
        exact op_out rfl (wants_no false rfl (by kernel_rfl) hg) ⟨undef,rfl,fun d hd=>by cases hd;rfl,hI,Below.refl _ _⟩
       ·intro L a W hLs hL hn hd hI hb hl
        obtain⟨ug,hg,eg⟩:=hl 41 (cM (by kernel_rfl))
        replace eg:ug=.bool true:=eg
        subst eg
        exact op_out rfl (wants_no false rfl (by kernel_rfl) hg) ⟨undef,rfl,fun d hd=>by cases hd;rfl,hI,Below.refl _ _⟩
       ·intro L a W hLs hL hn hd hI hb hl
        obtain⟨ug,hg,eg⟩:=hl 41 (cM (by kernel_rfl))
        replace eg:ug=.bool true:=eg
        subst eg
        exact op_out rfl (wants_no false rfl (by kernel_rfl) hg) ⟨undef,rfl,fun d hd=>by cases hd;rfl,hI,Below.refl _ _⟩
       ·intro L a W hLs hL hn hd hI hb hl
        obtain⟨ug,hg,eg⟩:=hl 41 (cM (by kernel_rfl))
        replace eg:ug=.bool true:=eg
        subst eg
        exact op_out rfl (wants_no false rfl (by kernel_rfl) hg) ⟨undef,rfl,fun d hd=>by cases hd;rfl,hI,Below.refl _ _⟩
       ·intro L a W hLs hL hn hd hI hb hl
        obtain⟨ug,hg,eg⟩:=hl 41 (cM (by kernel_rfl))
        replace eg:ug=.bool true:=eg
        subst eg
        exact op_out rfl (wants_no false rfl (by kernel_rfl) hg) ⟨undef,rfl,fun d hd=>by cases hd;rfl,hI,Below.refl _ _⟩
       ·intro L a W hLs hL hn hd hI hb hl
        obtain⟨ug,hg,eg⟩:=hl 41 (cM (by kernel_rfl))
        replace eg:ug=.bool true:=eg
        subst eg
        exact op_out rfl (wants_no false rfl (by kernel_rfl) hg) ⟨undef,rfl,fun d hd=>by cases hd;rfl,hI,Below.refl _ _⟩
       ·intro L a W hLs hL hn hd hI hb hl
        obtain⟨ug,hg,eg⟩:=hl 41 (cM (by kernel_rfl))
        replace eg:ug=.bool true:=eg
        subst eg
        exact op_out rfl (wants_no false rfl (by kernel_rfl) hg) ⟨undef,rfl,fun d hd=>by cases hd;rfl,hI,Below.refl _ _⟩
       ·intro L a W hLs hL hn hd hI hb hl
        obtain⟨ug,hg,eg⟩:=hl 41 (cM (by kernel_rfl))
        replace eg:ug=.bool true:=eg
        subst eg
        exact op_out rfl (wants_no false rfl (by kernel_rfl) hg) ⟨undef,rfl,fun d hd=>by cases hd;rfl,hI,Below.refl _ _⟩
       ·intro L a W hLs hL hn hd hI hb hl
        obtain⟨ug,hg,eg⟩:=hl 41 (cM (by kernel_rfl))
        replace eg:ug=.bool true:=eg
        subst eg
        exact op_out rfl (wants_no false rfl (by kernel_rfl) hg) ⟨undef,rfl,fun d hd=>by cases hd;rfl,hI,Below.refl _ _⟩
       ·intro L a W hLs hL hn hd hI hb hl
        obtain⟨ug,hg,eg⟩:=hl 41 (cM (by kernel_rfl))
        replace eg:ug=.bool true:=eg
        subst eg
        exact op_out rfl (wants_no false rfl (by kernel_rfl) hg) ⟨undef,rfl,fun d hd=>by cases hd;rfl,hI,Below.refl _ _⟩
       ·intro L a W hLs hL hn hd hI hb hl
        obtain⟨ug,hg,eg⟩:=hl 41 (cM (by kernel_rfl))
        replace eg:ug=.bool true:=eg
        subst eg
        exact op_out rfl (wants_no false rfl (by kernel_rfl) hg) ⟨undef,rfl,fun d hd=>by cases hd;rfl,hI,Below.refl _ _⟩
       ·intro L a W hLs hL hn hd hI hb hl
        obtain⟨u41,h41,e41⟩:=hl 41 (cM (by kernel_rfl))
        replace e41:u41=.bool true:=e41
        subst e41
        obtain⟨u53,h53,e53⟩:=hl 53 (cM (by kernel_rfl))
        replace e53:u53=undef:=e53
        subst e53
        exact op_val rfl rfl (ex_pick rfl (eval_tmp h41) rfl) ⟨_,rfl,fun d hd=>by cases hd;rfl,hI,Below.refl _ _⟩
      case hend =>
       rintro w' ⟨hfin,-⟩
       simp only[puts,Act.put,List.setIfInBounds_toArray,List.set_cons_succ,List.set_cons_zero]
       go_wp2
       go_ret
       exact⟨rfl,hfin⟩
    ·have e1:(v != v2)=true:=bne_iff_ne.2 hv
     have hrf:rr=false:=by rw[←heq,beq_eq_false_iff_ne.2 hv];simp
     subst hrf
     have hS0:Below w.heap.size w wr∧S2T w t t2 ps ps' cs cs' v v2 n n2 x' y' b (o+k*3) b' (o'+k*3) wr.drew:=⟨hbw,hS⟩
     clear heq hv hrr hS hbw
     go_wp2
     refine wp_region_puts (by kernel_rfl) 55 [(17,.slice (some ⟨b,o,none⟩) xx.len c),(18,.int .i64 k),(19,.pointer (some ⟨b,o+k*3,none⟩)),(20,.pointer (some ⟨b,o+k*3,none⟩)),(21,.bool v),(22,.slice (some ⟨b',o',none⟩) yy.len c'),(23,.int .i64 k),(24,.pointer (some ⟨b',o'+k*3,none⟩)),(25,.pointer (some ⟨b',o'+k*3,none⟩)),(26,.bool v2),(27,.bool true),(28,.bool true),(29,undef),(30,undef),(31,undef),(32,undef),(33,undef),(34,undef),(35,undef),(36,undef),(37,undef),(38,undef),(39,undef),(40,.bool true),(41,.bool true),(42,undef),(43,undef),(44,undef),(45,undef),(46,undef),(47,undef),(48,undef),(49,undef),(50,undef),(51,undef),(52,undef),(53,undef),(54,.bool true)] (fun W=>Below w.heap.size w W∧S2T w t t2 ps ps' cs cs' v v2 n n2 x' y' b (o+k*3) b' (o'+k*3) W) (fun W W'=>Below W.heap.size W W') (by kernel_rfl) (by kernel_rfl) rfl ⟨bS hS0.1 (bel_drew wr),hS0.2⟩ ?hst ?hend
     case hst =>
      refine⟨?_,?_,?_,?_,?_,?_,?_,?_,?_,?_,?_,?_,?_,?_,?_,?_,?_,?_,?_,?_,?_,?_,?_,?_,?_,?_,?_,?_,?_,?_,?_,?_,?_,?_,?_,?_,?_,?_,trivial⟩
      ·intro L a W hLs hL hn hd hI hb hl
       obtain⟨u0,h0,e0⟩:=hl 0 (cM (by kernel_rfl))
       replace e0:u0=.slice (some ⟨b,o,none⟩) xx.len c:=e0
       subst e0
       exact op_val rfl rfl (ex_move rfl (eval_tmp h0)) ⟨_,rfl,fun d hd=>by cases hd;rfl,hI,Below.refl _ _⟩
      ·intro L a W hLs hL hn hd hI hb hl
       obtain⟨u5,h5,e5⟩:=hl 5 (cM (by kernel_rfl))
       replace e5:u5=.int .i64 k:=e5
       subst e5
       exact op_val rfl rfl (ex_move rfl (eval_tmp h5)) ⟨_,rfl,fun d hd=>by cases hd;rfl,hI,Below.refl _ _⟩
      ·intro L a W hLs hL hn hd hI hb hl
       obtain⟨u17,h17,e17⟩:=hl 17 (cM (by kernel_rfl))
       replace e17:u17=.slice (some ⟨b,o,none⟩) xx.len c:=e17
       subst e17
       obtain⟨u18,h18,e18⟩:=hl 18 (cM (by kernel_rfl))
       replace e18:u18=.int .i64 k:=e18
       subst e18
       exact op_val rfl rfl (ex_indexAddr rfl (eval_tmp h17) (eval_tmp h18) (index24 hlt)) ⟨_,rfl,fun d hd=>by cases hd;rfl,hI,Below.refl _ _⟩
      ·intro L a W hLs hL hn hd hI hb hl
       obtain⟨u19,h19,e19⟩:=hl 19 (cM (by kernel_rfl))
       replace e19:u19=.pointer (some ⟨b,o+k*3,none⟩):=e19
       subst e19
       exact op_val rfl rfl (ex_field rfl (eval_tmp h19) field50_0) ⟨_,rfl,fun d hd=>by cases hd;rfl,hI,Below.refl _ _⟩
      ·intro L a W hLs hL hn hd hI hb hl
       obtain⟨u20,h20,e20⟩:=hl 20 (cM (by kernel_rfl))
       replace e20:u20=.pointer (some ⟨b,o+k*3,none⟩):=e20
       subst e20
       exact op_val rfl rfl (ex_load rfl (eval_tmp h20) (load4 hI.2.1)) ⟨_,rfl,fun d hd=>by cases hd;rfl,hI,Below.refl _ _⟩
      ·intro L a W hLs hL hn hd hI hb hl
       obtain⟨u1,h1,e1⟩:=hl 1 (cM (by kernel_rfl))
       replace e1:u1=.slice (some ⟨b',o',none⟩) yy.len c':=e1
       subst e1
       exact op_val rfl rfl (ex_move rfl (eval_tmp h1)) ⟨_,rfl,fun d hd=>by cases hd;rfl,hI,Below.refl _ _⟩
      ·intro L a W hLs hL hn hd hI hb hl
       obtain⟨u5,h5,e5⟩:=hl 5 (cM (by kernel_rfl))
       replace e5:u5=.int .i64 k:=e5
       subst e5
       exact op_val rfl rfl (ex_move rfl (eval_tmp h5)) ⟨_,rfl,fun d hd=>by cases hd;rfl,hI,Below.refl _ _⟩
      ·intro L a W hLs hL hn hd hI hb hl
       obtain⟨u22,h22,e22⟩:=hl 22 (cM (by kernel_rfl))
       replace e22:u22=.slice (some ⟨b',o',none⟩) yy.len c':=e22
       subst e22
       obtain⟨u23,h23,e23⟩:=hl 23 (cM (by kernel_rfl))
       replace e23:u23=.int .i64 k:=e23
       subst e23
       exact op_val rfl rfl (ex_indexAddr rfl (eval_tmp h22) (eval_tmp h23) (index24 hlt2)) ⟨_,rfl,fun d hd=>by cases hd;rfl,hI,Below.refl _ _⟩
      ·intro L a W hLs hL hn hd hI hb hl
       obtain⟨u24,h24,e24⟩:=hl 24 (cM (by kernel_rfl))
       replace e24:u24=.pointer (some ⟨b',o'+k*3,none⟩):=e24
       subst e24
       exact op_val rfl rfl (ex_field rfl (eval_tmp h24) field50_0) ⟨_,rfl,fun d hd=>by cases hd;rfl,hI,Below.refl _ _⟩
      ·intro L a W hLs hL hn hd hI hb hl
       obtain⟨u25,h25,e25⟩:=hl 25 (cM (by kernel_rfl))
       replace e25:u25=.pointer (some ⟨b',o'+k*3,none⟩):=e25
       subst e25
       exact op_val rfl rfl (ex_load rfl (eval_tmp h25) (load4 hI.2.2.2.2.1)) ⟨_,rfl,fun d hd=>by cases hd;rfl,hI,Below.refl _ _⟩
      ·intro L a W hLs hL hn hd hI hb hl
       obtain⟨u21,h21,e21⟩:=hl 21 (cM (by kernel_rfl))
       replace e21:u21=.bool v:=e21
       subst e21
       obtain⟨u26,h26,e26⟩:=hl 26 (cM (by kernel_rfl))
       replace e26:u26=.bool v2:=e26
       subst e26
       exact op_val rfl rfl (ex_bin rfl (eval_tmp h21) (eval_tmp h26) (guard_bool _ _ _ _ _ _) (neq_bool _ _ W e1)) ⟨_,rfl,fun d hd=>by cases hd;rfl,hI,Below.refl _ _⟩
      ·intro L a W hLs hL hn hd hI hb hl
       obtain⟨u27,h27,e27⟩:=hl 27 (cM (by kernel_rfl))
       replace e27:u27=.bool true:=e27
       subst e27
       exact op_val rfl rfl (ex_move rfl (eval_tmp h27)) ⟨_,rfl,fun d hd=>by cases hd;rfl,hI,Below.refl _ _⟩
      ·intro L a W hLs hL hn hd hI hb hl
       obtain⟨ug,hg,eg⟩:=hl 28 (cM (by kernel_rfl))
       replace eg:ug=.bool true:=eg
       subst eg
       exact op_out rfl (wants_no false rfl (by kernel_rfl) hg) ⟨undef,rfl,fun d hd=>by cases hd;rfl,hI,Below.refl _ _⟩
      ·intro L a W hLs hL hn hd hI hb hl
       obtain⟨ug,hg,eg⟩:=hl 28 (cM (by kernel_rfl))
       replace eg:ug=.bool true:=eg
       subst eg
       exact op_out rfl (wants_no false rfl (by kernel_rfl) hg) ⟨undef,rfl,fun d hd=>by cases hd;rfl,hI,Below.refl _ _⟩
      ·intro L a W hLs hL hn hd hI hb hl
       obtain⟨ug,hg,eg⟩:=hl 28 (cM (by kernel_rfl))
       replace eg:ug=.bool true:=eg
       subst eg
       exact op_out rfl (wants_no false rfl (by kernel_rfl) hg) ⟨undef,rfl,fun d hd=>by cases hd;rfl,hI,Below.refl _ _⟩
      ·intro L a W hLs hL hn hd hI hb hl
       obtain⟨ug,hg,eg⟩:=hl 28 (cM (by kernel_rfl))
       replace eg:ug=.bool true:=eg
       subst eg
       exact op_out rfl (wants_no false rfl (by kernel_rfl) hg) ⟨undef,rfl,fun d hd=>by cases hd;rfl,hI,Below.refl _ _⟩
      ·intro L a W hLs hL hn hd hI hb hl
       obtain⟨ug,hg,eg⟩:=hl 28 (cM (by kernel_rfl))
       replace eg:ug=.bool true:=eg
       subst eg
       exact op_out rfl (wants_no false rfl (by kernel_rfl) hg) ⟨undef,rfl,fun d hd=>by cases hd;rfl,hI,Below.refl _ _⟩
      ·intro L a W hLs hL hn hd hI hb hl
       obtain⟨ug,hg,eg⟩:=hl 28 (cM (by kernel_rfl))
       replace eg:ug=.bool true:=eg
       subst eg
       exact op_out rfl (wants_no false rfl (by kernel_rfl) hg) ⟨undef,rfl,fun d hd=>by cases hd;rfl,hI,Below.refl _ _⟩
      ·intro L a W hLs hL hn hd hI hb hl
       obtain⟨ug,hg,eg⟩:=hl 28 (cM (by kernel_rfl))
       replace eg:ug=.bool true:=eg
       subst eg
       exact op_out rfl (wants_no false rfl (by kernel_rfl) hg) ⟨undef,rfl,fun d hd=>by cases hd;rfl,hI,Below.refl _ _⟩
      ·intro L a W hLs hL hn hd hI hb hl
       obtain⟨ug,hg,eg⟩:=hl 28 (cM (by kernel_rfl))
       replace eg:ug=.bool true:=eg
       subst eg
       exact op_out rfl (wants_no false rfl (by kernel_rfl) hg) ⟨undef,rfl,fun d hd=>by cases hd;rfl,hI,Below.refl _ _⟩
      ·intro L a W hLs hL hn hd hI hb hl
       obtain⟨ug,hg,eg⟩:=hl 28 (cM (by kernel_rfl))
       replace eg:ug=.bool true:=eg
       subst eg
       exact op_out rfl (wants_no false rfl (by kernel_rfl) hg) ⟨undef,rfl,fun d hd=>by cases hd;rfl,hI,Below.refl _ _⟩
      ·intro L a W hLs hL hn hd hI hb hl
       obtain⟨ug,hg,eg⟩:=hl 28 (cM (by kernel_rfl))
       replace eg:ug=.bool true:=eg
       subst eg
       exact op_out rfl (wants_no false rfl (by kernel_rfl) hg) ⟨undef,rfl,fun d hd=>by cases hd;rfl,hI,Below.refl _ _⟩
      ·intro L a W hLs hL hn hd hI hb hl
       obtain⟨ug,hg,eg⟩:=hl 28 (cM (by kernel_rfl))
       replace eg:ug=.bool true:=eg
       subst eg
       exact op_out rfl (wants_no false rfl (by kernel_rfl) hg) ⟨undef,rfl,fun d hd=>by cases hd;rfl,hI,Below.refl _ _⟩
      ·intro L a W hLs hL hn hd hI hb hl
       obtain⟨u28,h28,e28⟩:=hl 28 (cM (by kernel_rfl))
       replace e28:u28=.bool true:=e28
       subst e28
       obtain⟨u39,h39,e39⟩:=hl 39 (cM (by kernel_rfl))
       replace e39:u39=undef:=e39
       subst e39
       exact op_val rfl rfl (ex_pick rfl (eval_tmp h28) rfl) ⟨_,rfl,fun d hd=>by cases hd;rfl,hI,Below.refl _ _⟩
      ·intro L a W hLs hL hn hd hI hb hl
       obtain⟨u40,h40,e40⟩:=hl 40 (cM (by kernel_rfl))
       replace e40:u40=.bool true:=e40
       subst e40
       exact op_val rfl rfl (ex_move rfl (eval_tmp h40)) ⟨_,rfl,fun d hd=>by cases hd;rfl,hI,Below.refl _ _⟩
      ·intro L a W hLs hL hn hd hI hb hl
       obtain⟨ug,hg,eg⟩:=hl 41 (cM (by kernel_rfl))
       replace eg:ug=.bool true:=eg
       subst eg
       exact op_out rfl (wants_no false rfl (by kernel_rfl) hg) ⟨undef,rfl,fun d hd=>by cases hd;rfl,hI,Below.refl _ _⟩
      ·intro L a W hLs hL hn hd hI hb hl
       obtain⟨ug,hg,eg⟩:=hl 41 (cM (by kernel_rfl))
       replace eg:ug=.bool true:=eg
       subst eg
       exact op_out rfl (wants_no false rfl (by kernel_rfl) hg) ⟨undef,rfl,fun d hd=>by cases hd;rfl,hI,Below.refl _ _⟩
      ·intro L a W hLs hL hn hd hI hb hl
       obtain⟨ug,hg,eg⟩:=hl 41 (cM (by kernel_rfl))
       replace eg:ug=.bool true:=eg
       subst eg
       exact op_out rfl (wants_no false rfl (by kernel_rfl) hg) ⟨undef,rfl,fun d hd=>by cases hd;rfl,hI,Below.refl _ _⟩
      ·intro L a W hLs hL hn hd hI hb hl
       obtain⟨ug,hg,eg⟩:=hl 41 (cM (by kernel_rfl))
       replace eg:ug=.bool true:=eg
       subst eg
       exact op_out rfl (wants_no false rfl (by kernel_rfl) hg) ⟨undef,rfl,fun d hd=>by cases hd;rfl,hI,Below.refl _ _⟩
      ·intro L a W hLs hL hn hd hI hb hl
       obtain⟨ug,hg,eg⟩:=hl 41 (cM (by kernel_rfl))
       replace eg:ug=.bool true:=eg
       subst eg
       exact op_out rfl (wants_no false rfl (by kernel_rfl) hg) ⟨undef,rfl,fun d hd=>by cases hd;rfl,hI,Below.refl _ _⟩
      ·intro L a W hLs hL hn hd hI hb hl
       obtain⟨ug,hg,eg⟩:=hl 41 (cM (by kernel_rfl))
       replace eg:ug=.bool true:=eg
       subst eg
       exact op_out rfl (wants_no false rfl (by kernel_rfl) hg) ⟨undef,rfl,fun d hd=>by cases hd;rfl,hI,Below.refl _ _⟩
      ·intro L a W hLs hL hn hd hI hb hl
       obtain⟨ug,hg,eg⟩:=hl 41 (cM (by kernel_rfl))
       replace eg:ug=.bool true:=eg
       subst eg
       exact op_out rfl (wants_no false rfl (by kernel_rfl) hg) ⟨undef,rfl,fun d hd=>by cases hd;rfl,hI,Below.refl _ _⟩
      ·intro L a W hLs hL hn hd hI hb hl
       obtain⟨ug,hg,eg⟩:=hl 41 (cM (by kernel_rfl))
       replace eg:ug=.bool true:=eg
       subst eg
       exact op_out rfl (wants_no false rfl (by kernel_rfl) hg) ⟨undef,rfl,fun d hd=>by cases hd;rfl,hI,Below.refl _ _⟩
      ·intro L a W hLs hL hn hd hI hb hl
       obtain⟨ug,hg,eg⟩:=hl 41 (cM (by kernel_rfl))
       replace eg:ug=.bool true:=eg
       subst eg
       exact op_out rfl (wants_no false rfl (by kernel_rfl) hg) ⟨undef,rfl,fun d hd=>by cases hd;rfl,hI,Below.refl _ _⟩
      ·intro L a W hLs hL hn hd hI hb hl
       obtain⟨ug,hg,eg⟩:=hl 41 (cM (by kernel_rfl))
       replace eg:ug=.bool true:=eg
       subst eg
       exact op_out rfl (wants_no false rfl (by kernel_rfl) hg) ⟨undef,rfl,fun d hd=>by cases hd;rfl,hI,Below.refl _ _⟩
      ·intro L a W hLs hL hn hd hI hb hl
       obtain⟨ug,hg,eg⟩:=hl 41 (cM (by kernel_rfl))
       replace eg:ug=.bool true:=eg
       subst eg
       exact op_out rfl (wants_no false rfl (by kernel_rfl) hg) ⟨undef,rfl,fun d hd=>by cases hd;rfl,hI,Below.refl _ _⟩
      ·intro L a W hLs hL hn hd hI hb hl
       obtain⟨ug,hg,eg⟩:=hl 41 (cM (by kernel_rfl))
       replace eg:ug=.bool true:=eg
       subst eg
       exact op_out rfl (wants_no false rfl (by kernel_rfl) hg) ⟨undef,rfl,fun d hd=>by cases hd;rfl,hI,Below.refl _ _⟩
      ·intro L a W hLs hL hn hd hI hb hl
       obtain⟨u41,h41,e41⟩:=hl 41 (cM (by kernel_rfl))
       replace e41:u41=.bool true:=e41
       subst e41
       obtain⟨u53,h53,e53⟩:=hl 53 (cM (by kernel_rfl))
       replace e53:u53=undef:=e53
       subst e53
       exact op_val rfl rfl (ex_pick rfl (eval_tmp h41) rfl) ⟨_,rfl,fun d hd=>by cases hd;rfl,hI,Below.refl _ _⟩
     case hend =>
      rintro w' ⟨hfin,-⟩
      simp only[puts,Act.put,List.setIfInBounds_toArray,List.set_cons_succ,List.set_cons_zero]
      go_wp2
      go_ret
      exact⟨rfl,hfin⟩
theorem sameT_any (N:Nat):SameT N:=by
 induction N using Nat.strongRecOn with
 | _ N ih=>exact sameT_step N ih
end Go.Proofs.YtngdieldgnlogaaGreatDoor
namespace Go.Proofs.YtngdieldgnlogaaGreatDoor
open Go Go.RowKit
set_option maxRecDepth 100000
set_option linter.unusedVariables false
def SameF (f:FT):Prop:=∀ (v:Value) (g:FT) (v':Value) (w:World),FVal w f v→FVal w g v'→f.size≤1000000→g.size≤1000000 →
 Calls Tryz.prog 25 #[v,v'] w fun e w'=>e=.returned (.bool (f.eqB g))∧Below w.heap.size w w'
def K2F (w:World) (f g:FT) (v v':Value) (r r':Fs) (b o b' o':Nat) (W:World):Prop:=Below w.heap.size w W∧FVal W f v∧FVal W g v'∧FsAt W r b o∧FsAt W r' b' o'
theorem K2F.next {w:World} {f g:FT} {v v':Value} {r r':Fs} {b o b' o':Nat} {W W':World} (h:K2F w f g v v' r r' b o b' o' W) (hb:Below W.heap.size W W'):K2F w f g v v' r r' b o b' o' W' :=
 ⟨bS h.1 hb,FVal.below hb h.2.1,FVal.below hb h.2.2.1,FsAt.below hb h.2.2.2.1,FsAt.below hb h.2.2.2.2⟩
def S2F (w:World) (op op':Int) (n n':ByteArray) (t t':Ts) (u u':Fs) (ps ps' pu pu':Option Addr) (cs cs' cu cu':Nat) (r r':Fs) (b o b' o':Nat) (W:World):Prop :=
 W.cell? ⟨b,o,none⟩=some (.int .u8 op)∧W.cell? ⟨b,o+1,none⟩=some (.string n)∧W.cell? ⟨b,o+2,none⟩=some (.slice ps t.len cs)∧W.cell? ⟨b,o+3,none⟩=some (.slice pu u.len cu) ∧
 W.cell? ⟨b',o',none⟩=some (.int .u8 op')∧W.cell? ⟨b',o'+1,none⟩=some (.string n')∧W.cell? ⟨b',o'+2,none⟩=some (.slice ps' t'.len cs')∧W.cell? ⟨b',o'+3,none⟩=some (.slice pu' u'.len cu') ∧
 K2F w ⟨op,n,t,u⟩ ⟨op',n',t',u'⟩ (.agg #[.int .u8 op,.string n,.slice ps t.len cs,.slice pu u.len cu]) (.agg #[.int .u8 op',.string n',.slice ps' t'.len cs',.slice pu' u'.len cu']) r r' b (o+4) b' (o'+4) W
theorem S2F.next {w:World} {op op':Int} {n n':ByteArray} {t t':Ts} {u u':Fs} {ps ps' pu pu':Option Addr} {cs cs' cu cu':Nat} {r r':Fs} {b o b' o':Nat} {W W':World} (h:S2F w op op' n n' t t' u u' ps ps' pu pu' cs cs' cu cu' r r' b o b' o' W) (hb:Below W.heap.size W W') :
  S2F w op op' n n' t t' u u' ps ps' pu pu' cs cs' cu cu' r r' b o b' o' W' :=
 ⟨c_B hb h.1,c_B hb h.2.1,c_B hb h.2.2.1,c_B hb h.2.2.2.1,c_B hb h.2.2.2.2.1,c_B hb h.2.2.2.2.2.1,c_B hb h.2.2.2.2.2.2.1,c_B hb h.2.2.2.2.2.2.2.1,h.2.2.2.2.2.2.2.2.next hb⟩
set_option maxHeartbeats 8000000 in
theorem sameL_any (xx:Fs) (ih:∀ t:FT,t.size≤xx.size→SameF t) (yy:Fs) (sa sb:Value) (w:World) (ha:FSl w xx sa) (hb:FSl w yy sb) (hs:xx.size≤1000000) (hs':yy.size≤1000000) :
  Calls Tryz.prog 26 #[sa,sb] w fun e w'=>e=.returned (.bool (xx.eqB yy))∧Below w.heap.size w w':=by
 obtain⟨p,c,b,o,rfl,hp,ht⟩:=FSl.opened ha
 obtain⟨p',c',b',o',rfl,hp',ht'⟩:=FSl.opened hb
 have ih':=h_X ih
 clear ih ha hb
 have hlen:=xx.len_le
 have hlen':=yy.len_le
 by_cases hl:xx.len=yy.len
 rotate_left
 ·have hne:xx.eqB yy=false:=by
   cases h:xx.eqB yy with
   | false=>rfl
   | true=>exact absurd (Fs.eqB_len h) hl
  have hne':((xx.len:Int) != (yy.len:Int))=true:=bne_iff_ne.2 (by omega)
  rw[hne]
  clear hne
  go_enter Tryz.func26,Tryz.ntmps26
  go_wp2
  go_ret
  exact⟨rfl,Below.refl _ _⟩
 have hl':((xx.len:Int) != (yy.len:Int))=false:=by rw[hl];simp
 obtain⟨rr,hrr⟩:∃ rr,xx.eqB yy=rr:=⟨_,rfl⟩
 rw[hrr]
 replace hrr:=h_X hrr
 replace hl:=h_X hl
 go_enter Tryz.func26,Tryz.ntmps26
 go_wp2
 go_loopw [5] (fun i wr=>∃ (k:Nat) (x y:Fs),i=.int .i64 k∧k+x.len=xx.len∧k+y.len=yy.len∧x.size≤xx.size∧y.size≤yy.size∧x.eqB y=rr∧FsAt wr x b (o+k*4)∧FsAt wr y b' (o'+k*4)∧Below w.heap.size w wr) (fun i _=>xx.len - (intOf i).toNat)
 case atStart=>exact⟨0,xx,yy,rfl,by omega,by omega,Nat.le_refl _,Nat.le_refl _,hrr.out,by simpa using ht,by simpa using ht',Below.refl _ _⟩
 case round =>
  obtain⟨k,x,y,rfl,hkx,hky,hxs,hys,heq,hax,hay,hbw⟩:=hrel
  clear hl'
  cases x with
  | nil =>
   cases y with
   | cons _ _ _ _ _=>exfalso;have:=hl.out;simp only[Fs.len] at *;omega
   | nil =>
    simp only[Fs.len] at hkx
    have hk':k=xx.len:=by omega
    subst hk'
    have:rr=true:=by rw[←heq];rfl
    subst this
    clear hrr heq
    go_wp2
    go_ret
    exact⟨rfl,hbw⟩
  | cons op n t u x' =>
   cases y with
   | nil=>exfalso;have:=hl.out;simp only[Fs.len] at *;omega
   | cons op2 n2 t2 u2 y' =>
    simp only[Fs.len] at hkx hky
    simp only[Fs.size] at hxs hys
    obtain⟨c0,c1,⟨s,c2,hs2⟩,⟨q,c3,hs3⟩,hax'⟩:=hax
    obtain⟨d0,d1,⟨s',d2,hs2'⟩,⟨q',d3,hs3'⟩,hay'⟩:=hay
    have hlt:(k:Int) < (xx.len:Int):=by omega
    have hlt2:(k:Int) < (yy.len:Int):=by omega
    rcases hp with hp | hp
    ·omega
    rcases hp' with hp' | hp'
    ·omega
    subst hp hp'
    obtain⟨ps,cs,rfl,-⟩:=id hs2
    obtain⟨ps',cs',rfl,-⟩:=id hs2'
    obtain⟨pu,cu,rfl,-⟩:=id hs3
    obtain⟨pu',cu',rfl,-⟩:=id hs3'
    have hS:S2F w op op2 n n2 t t2 u u2 ps ps' pu pu' cs cs' cu cu' x' y' b (o+k*4) b' (o'+k*4) wr.drew :=
     S2F.next ⟨c0,c1,c2,c3,d0,d1,d2,d3,hbw,⟨_,_,rfl,hs2,hs3⟩,⟨_,_,rfl,hs2',hs3'⟩,hax',hay'⟩ (bel_drew wr)
    clear c0 c1 c2 c3 d0 d1 d2 d3 hs2 hs2' hs3 hs3' hax' hay' hbw
    have heq':(FT.eqB ⟨op,n,t,u⟩ ⟨op2,n2,t2,u2⟩ && x'.eqB y')=rr:=by rw[←heq];rfl
    have hcall:Hid (∀ W,S2F w op op2 n n2 t t2 u u2 ps ps' pu pu' cs cs' cu cu' x' y' b (o+k*4) b' (o'+k*4) W→Calls Tryz.prog 25 #[.agg #[.int .u8 op,.string n,.slice ps t.len cs,.slice pu u.len cu],.agg #[.int .u8 op2,.string n2,.slice ps' t2.len cs',.slice pu' u2.len cu']] W fun e w' =>
      e=.returned (.bool (FT.eqB ⟨op,n,t,u⟩ ⟨op2,n2,t2,u2⟩))∧S2F w op op2 n n2 t t2 u u2 ps ps' pu pu' cs cs' cu cu' x' y' b (o+k*4) b' (o'+k*4) w') :=
     h_X (fun W hW=>(ih'.out ⟨op,n,t,u⟩ (by simp only[FT.size];omega) _ ⟨op2,n2,t2,u2⟩ _ W hW.2.2.2.2.2.2.2.2.2.1 hW.2.2.2.2.2.2.2.2.2.2.1 (by simp only[FT.size];omega) (by simp only[FT.size];omega)).mono fun e w' ⟨he,hb⟩=>⟨he,hW.next hb⟩)
    obtain⟨qq,hqq⟩:∃ qq,FT.eqB ⟨op,n,t,u⟩ ⟨op2,n2,t2,u2⟩=qq:=⟨_,rfl⟩
    rw[hqq] at hcall heq'
    have hqh:=h_X heq'
    clear heq heq' hqq
    go_wp2
    go_region_held3 (fun W=>W.cell? ⟨b,o+k*4,none⟩=some (.int .u8 op)∧W.cell? ⟨b,o+k*4+1,none⟩=some (.string n)∧W.cell? ⟨b,o+k*4+2,none⟩=some (.slice ps t.len cs)∧W.cell? ⟨b,o+k*4+3,none⟩=some (.slice pu u.len cu) ∧
      W.cell? ⟨b',o'+k*4,none⟩=some (.int .u8 op2)∧W.cell? ⟨b',o'+k*4+1,none⟩=some (.string n2)∧W.cell? ⟨b',o'+k*4+2,none⟩=some (.slice ps' t2.len cs')∧W.cell? ⟨b',o'+k*4+3,none⟩=some (.slice pu' u2.len cu') ∧
      K2F w ⟨op,n,t,u⟩ ⟨op2,n2,t2,u2⟩ (.agg #[.int .u8 op,.string n,.slice ps t.len cs,.slice pu u.len cu]) (.agg #[.int .u8 op2,.string n2,.slice ps' t2.len cs',.slice pu' u2.len cu']) x' y' b (o+k*4+4) b' (o'+k*4+4) W)
     (first | assumption | exact hS)
     ((go_at_call 25;refine(hcall.out _ (by assumption)).mono ?_;rintro e w' ⟨rfl,hS2⟩))
    have hSh:=h_X hS2
    clear hS2 hcall hS
    cases qq with
    | true =>
     have hqq:=hqh.out
     simp only[Bool.true_and] at hqq
     have hqqh:=h_X hqq
     clear hqq hqh
     go_wp2
     go_roundw
     case rel =>
      refine⟨k+1,x',y',by go_num,by omega,by omega,by omega,by omega,hqqh.out,?_,?_,hSh.out.2.2.2.2.2.2.2.2.1⟩
      ·have:=hSh.out.2.2.2.2.2.2.2.2.2.2.2.1
       rwa [show o+k*4+4=o+(k+1)*4 by omega] at this
      ·have:=hSh.out.2.2.2.2.2.2.2.2.2.2.2.2
       rwa [show o'+k*4+4=o'+(k+1)*4 by omega] at this
     case measure=>simp[intOf];omega
    | false =>
     have hqq:=hqh.out
     simp only[Bool.false_and] at hqq
     subst hqq
     clear hqh hrr
     go_wp2
     go_ret
     exact⟨rfl,hSh.out.2.2.2.2.2.2.2.2.1⟩
set_option maxHeartbeats 4000000 in
theorem sameF_any (f:FT):SameF f:=by
 intro v g v' w hv hv' hs hs'
 have hL:=h_X (sameL_any f.sub (fun t _=>sameF_any t))
 obtain⟨sa,ss,rfl,ha,hss⟩:=id hv
 obtain⟨sb,st,rfl,hb,hst⟩:=id hv'
 obtain⟨pa,ca,hsa,-⟩:=id ha
 obtain⟨pb,cb,hsb,-⟩:=id hb
 obtain⟨pu,cu,hsu,-⟩:=id hss
 obtain⟨pt,ct,hst',-⟩:=id hst
 subst hsa hsb hsu hst'
 have hb0:=bel_laid w (.cells #[.int .u8 f.op,.string f.n,.slice pa f.ts.len ca,.slice pu f.sub.len cu] 25)
 have hb1:=bel_laid (w.alloc (.cells #[.int .u8 f.op,.string f.n,.slice pa f.ts.len ca,.slice pu f.sub.len cu] 25)) (.cells #[.int .u8 g.op,.string g.n,.slice pb g.ts.len cb,.slice pt g.sub.len ct] 25)
 have hbb:=bS hb0 hb1
 have kA:=TSl.below hb1 (TSl.below hb0 ha)
 have kB:=TSl.below hb1 (TSl.below hb0 hb)
 have kU:=FSl.below hb1 (FSl.below hb0 hss)
 have kT:=FSl.below hb1 (FSl.below hb0 hst)
 have hfs:f.size=f.ts.size+f.sub.size+1:=rfl
 have hgs:g.size=g.ts.size+g.sub.size+1:=rfl
 have HT:=h_X (sameT_any f.ts.size f.ts g.ts _ _ _ (Nat.le_refl _) kA kB (by omega) (by omega))
 have HF:=h_X (fun W (h1:FSl W f.sub (.slice pu f.sub.len cu)) (h2:FSl W g.sub (.slice pt g.sub.len ct))=>hL.out g.sub _ _ W h1 h2 (by omega) (by omega))
 have kUh:=h_X kU
 have kTh:=h_X kT
 clear kA kB kU kT ha hb hss hst hL hfs hgs hv hv' hb0 hb1
 obtain⟨q1,hq1⟩:∃ q,(f.op == g.op)=q:=⟨_,rfl⟩
 obtain⟨q2,hq2⟩:∃ q,(f.n.toList == g.n.toList)=q:=⟨_,rfl⟩
 obtain⟨q3,hq3⟩:∃ q,f.ts.eqB g.ts=q:=⟨_,rfl⟩
 obtain⟨q4,hq4⟩:∃ q,f.sub.eqB g.sub=q:=⟨_,rfl⟩
 have hr:f.eqB g=(q1 && q2 && q3 && q4):=by rw[FT.eqB,hq1,hq2,hq3,hq4]
 rw[hr]
 rw[hq3] at HT
 rw[hq4] at HF
 clear hr hq3 hq4
 cases q1 with
 | false =>
  go_enter Tryz.func25,Tryz.ntmps25
  go_wp2_with fail
  go_ret
  exact⟨rfl,hbb⟩
 | true =>
  cases q2 with
  | false =>
   go_enter Tryz.func25,Tryz.ntmps25
   go_wp2_with fail
   go_ret
   exact⟨rfl,hbb⟩
  | true =>
   cases q3 with
   | false =>
    go_enter Tryz.func25,Tryz.ntmps25
    go_wp2_with fail
    refine HT.out.mono ?_
    rintro e w1 ⟨rfl,hb1⟩
    have hfin:=bS hbb hb1
    clear hbb hb1 HT HF
    go_wp2_with fail
    go_ret
    exact⟨rfl,hfin⟩
   | true =>
    obtain⟨W2,hW2⟩:∃ W2,(w.alloc (.cells #[.int .u8 f.op,.string f.n,.slice pa f.ts.len ca,.slice pu f.sub.len cu] 25)).alloc (.cells #[.int .u8 g.op,.string g.n,.slice pb g.ts.len cb,.slice pt g.sub.len ct] 25)=W2:=⟨_,rfl⟩
    have c3:W2.cell? ⟨w.heap.size,3,none⟩=some (.slice pu f.sub.len cu):=by rw[←hW2];exact c_B (bel_laid _ _) (by rw[cell_new];rfl)
    have d3:W2.cell? ⟨w.heap.size+1,3,none⟩=some (.slice pt g.sub.len ct):=by
     have:=cell_new (w.alloc (.cells #[.int .u8 f.op,.string f.n,.slice pa f.ts.len ca,.slice pu f.sub.len cu] 25)) #[.int .u8 g.op,.string g.n,.slice pb g.ts.len cb,.slice pt g.sub.len ct] 25 3
     rw[World.size_alloc] at this
     rw[←hW2];exact this
    have hcd:=h_X (And.intro c3 d3)
    have hW2h:=h_X hW2
    clear c3 d3 hW2
    go_enter Tryz.func25,Tryz.ntmps25
    go_wp2_with fail
    refine HT.out.mono ?_
    rintro e w1 ⟨rfl,hb1⟩
    rw[hW2h.out] at hb1 hbb kUh kTh
    have e3:=c_B hb1 hcd.out.1
    have f3:=c_B hb1 hcd.out.2
    have hfin:=bS hbb hb1
    have HF1:=h_X (HF.out _ (FSl.below hb1 kUh.out) (FSl.below hb1 kTh.out))
    clear hbb hb1 HT HF hcd kUh kTh hW2h
    go_wp2_with fail
    refine HF1.out.mono ?_
    rintro e w2 ⟨rfl,hb2⟩
    have hfin2:=bS hfin hb2
    clear hfin hb2 HF1 e3 f3
    cases q4 with
    | false =>
     go_wp2_with fail
     go_ret
     exact⟨rfl,hfin2⟩
    | true =>
     go_wp2_with fail
     go_ret
     exact⟨rfl,hfin2⟩
termination_by f.size
decreasing_by rename_i h;simp only[FT.size] at *;omega
end Go.Proofs.YtngdieldgnlogaaGreatDoor
