/- Predicates. The terms of a list of terms, for rounds that move blocks of their own. The terms of a formula, for rounds that move blocks of their own. Functions. -/
import Derived.Test.YtngdieldgnlogaaGreatDoorMS
import Derived.Test.YtngdieldgnlogaaGreatDoorMH
namespace Go.Proofs.YtngdieldgnlogaaGreatDoor
open Go Go.RowKit Go.Shelf
set_option maxRecDepth 100000
set_option linter.unusedVariables false
attribute [local go_sem] Oper.semAt_some
theorem symP_len (l:List FT):(l.flatMap symP).length≤l.length:=by
 induction l with
 | nil=>simp
 | cons f r ih =>
  have:(symP f).length≤1:=by unfold symP;split<;>simp
  rw[List.flatMap_cons,List.length_append,List.length_cons]
  omega
set_option maxHeartbeats 4000000 in
theorem predicates_any (Dl:List Sy→Prop) (R:List Sy→Value→World→Prop) (HO:InOrder Dl R) (HR:∀ l v (V:World) D o o',V.heap[D]? = some o→o.isCells=false→R l v V→R l v (V.putObj D o')) (f:FT) (hDl:Dl (f.parts.flatMap symP)) (hs:f.size≤1000000) (v:Value) (w:World) (hv:FVal w f v) :
  Calls Tryz.prog 29 #[v] w fun e w'=>(∃ v',e=.returned v'∧R (f.parts.flatMap symP) v' w')∧Below w.heap.size w w':=by
 obtain⟨i0,hi,hz0,hz1,hz2⟩:=info_parts info46
 refine(callsIn_wide (n:=9)).1 ?_
 have hvh:=h_X hv
 obtain⟨sa,ss,rfl,ha,hss⟩:=hv
 obtain⟨pa,ca,rfl,-⟩:=id ha
 obtain⟨p,cc,rfl,-⟩:=id hss
 have hall:=f.length_all
 have hpl:f.parts.length≤1000000:=by omega
 clear hall ha hss
 refine callsIn_of_wp_marks Tryz.func29 rfl trivial ?_ rfl
 simp only[Tryz.ntmps29,List.size_toArray,List.length_cons,List.length_nil,Nat.reduceAdd,Nat.reduceSub,Array.replicate_succ,Array.replicate_zero,List.push_toArray,List.append_toArray,List.nil_append,List.cons_append]
 gi_wp2
 have hPA:=parts_any (.agg #[.int .u8 f.op,.string f.n,.slice pa f.ts.len ca,.slice p f.sub.len cc]) ((w.alloc (.cells #[.int .u8 f.op,.string f.n,.slice pa f.ts.len ca,.slice p f.sub.len cc] 25)).alloc (.cells #[.slice none 0 0] 40)) f
  (FVal.below (bS (bel_laid w _) (bel_laid _ _)) hvh.out)
 refine⟨trivial,(callsIn_wide.2 hPA).mono ?_⟩
 clear hPA
 rintro e W2 ⟨rfl,hb2,hlt2,sa2,ss2,he2,hbox⟩
 simp at he2
 obtain⟨rfl,rfl⟩:=he2
 have hWW:Below w.heap.size w W2:=bS (bS (bel_laid w _) (bel_laid _ _)) hb2
 have hc0:LBox (w.heap.size+1) (w.heap.size+2) [] W2:=by
  have k:=cell_new (w.alloc (.cells #[.int .u8 f.op,.string f.n,.slice pa f.ts.len ca,.slice p f.sub.len cc] 25)) #[.slice none 0 0] 40 0
  rw[World.size_alloc] at k
  have fz:=World.frozen?_alloc_mark (w.alloc (.cells #[.int .u8 f.op,.string f.n,.slice pa f.ts.len ca,.slice p f.sub.len cc] 25)) #[.slice none 0 0] 40 0 0 0
  rw[World.size_alloc] at fz
  exact LBox.below ⟨_,k,by simp,World.ownsRow_nil _ _ _ _⟩ hb2
 rw[World.size_alloc,World.size_alloc] at hlt2 hbox ⊢
 clear hb2
 gi_wp2
 refine wpIn_rangeFunc_O (gf:=100) (lb:=#[.pointer (some ⟨w.heap.size+1+1,0,none⟩)]) (w0:=W2) (T:=f.parts) (tr:=FV.t) (Kp:=KS (GB (w.heap.size+1) (w.heap.size+2)) (SB (w.heap.size+1)) (W2.heap.size+2)) (encs:=fun x:FV w=>#[x.1.2]) rfl (enters_of Tryz.func100 (by kernel_rfl) rfl)
  (parts_seqS f hs (w.heap.size+1+1) (W2.heap.size+2) w W2 (lives w (by omega) (by omega)) ⟨_,hc0⟩ _ _ (Ext.of_below hWW) hbox hvh.out _) (fun h h'=>h.trans h') (fun V l' o o' h1 h2 ho hc _=>KS.put (lives w (by omega) (by omega)) o' ho hc h2) (Below.refl _ _) (fun _=>rfl)
  (fun pre V=>LBox (w.heap.size+1) (w.heap.size+2) ((pre.map FV.t).flatMap symP) V∧Below w.heap.size w V)
  (fun cd pre V=>False)
  ?hI ?hIx ⟨hc0,hWW⟩
  (fun x a' V=>∃ (bx:Nat) (sx:Value),TSl w (FV.t x).ts sx∧V.cell? ⟨bx,0,none⟩=some (.int .u8 (FV.t x).op)∧V.cell? ⟨bx,1,none⟩=some (.string (FV.t x).n)∧V.cell? ⟨bx,2,none⟩=some sx∧a' = { tmps:=#[.agg #[.int .u8 f.op,.string f.n,.slice pa f.ts.len ca,.slice p f.sub.len cc],.pointer (some ⟨w.heap.size,0,none⟩),.slice none 0 0,.pointer (some ⟨w.heap.size+1,0,none⟩),.pointer (some ⟨bx,0,none⟩),.agg #[.int .u8 f.op,.string f.n,.slice pa f.ts.len ca,.slice p f.sub.len cc],.func (.func 100) #[] #[.pointer (some ⟨w.heap.size+1+1,0,none⟩)],x.1.2,undef,undef,undef,undef,undef,undef,undef,undef,undef,undef,undef,undef,undef,undef],defers:=[] })
  ?hAx ?assign ?body ?done ?stop
 case hI =>
  rintro pre A B row ⟨h1,h2⟩ hg hr
  exact⟨h1.grown hg (fun r e=>(hr r e).2),h2.grown hg h2.size (fun k e=>by have:=(hr k e).1;omega)⟩
 case hIx =>
  rintro cd pre A B row h
  exact h.elim
 case hAx =>
  rintro x a' _ A B row ⟨bx,sx,h2,h3,h4,h5,h6⟩ hg hr
  have hr':∀ r,row=some r→∃ o:Obj,A.heap[r]? = some o∧o.isCells=false:=fun r e=>(hr r e).2
  exact⟨bx,sx,h2,cell_kept h3 hg hr',cell_kept h4 hg hr',cell_kept h5 hg hr',h6⟩
 case assign =>
  rintro m l' pre ⟨⟨ft,vx⟩,hvx⟩ V Kq hi hK
  obtain⟨sx,tx,hvx',hx1,hx2⟩:=id hvx
  simp only at hvx'
  subst hvx'
  replace hx1:TSl w ft.ts sx:=hx1
  replace hx2:FSl w ft.sub tx:=hx2
  obtain⟨px,cx,hsx,-⟩:=id hx1
  subst hsx
  obtain⟨py,cy,hsy,-⟩:=id hx2
  subst hsy
  have hK':=h_X hK
  clear hK
  gi_wp2
  have hl:=bel_laid V (.cells #[.int .u8 ft.op,.string ft.n,.slice px ft.ts.len cx,.slice py ft.sub.len cy] 25)
  have hks:KS (GB (w.heap.size+1) (w.heap.size+2)) (SB (w.heap.size+1)) (W2.heap.size+2) V (V.alloc (.cells #[.int .u8 ft.op,.string ft.n,.slice px ft.ts.len cx,.slice py ft.sub.len cy] 25)):=KS.of_below (lives w (by omega) (by omega)) hl
  have hks0:KS (GB (w.heap.size+1) (w.heap.size+2)) (SB (w.heap.size+1)) W2.heap.size V (V.alloc (.cells #[.int .u8 ft.op,.string ft.n,.slice px ft.ts.len cx,.slice py ft.sub.len cy] 25)):=KS.of_below (lives w (by omega) (by omega)) hl
  exact hK'.out _ _ (hks0.from (Nat.le_refl _)) hks ⟨hi.1.below hl,bS hi.2 hl⟩ ⟨V.heap.size,_,hx1,by rw[cell_new];rfl,by rw[cell_new];rfl,by rw[cell_new];rfl,rfl⟩
 case body =>
  rintro m l' pre ⟨⟨ft,vx⟩,hvx⟩ a' V hl' ⟨rr,hrr⟩ ⟨hbx,hbel⟩ ⟨bx,sx,hx1,c0,c1,c2,rfl⟩ hpre
  replace hx1:TSl w ft.ts sx:=hx1
  replace c0:V.cell? ⟨bx,0,none⟩=some (.int .u8 ft.op):=c0
  replace c1:V.cell? ⟨bx,1,none⟩=some (.string ft.n):=c1
  obtain⟨px,cx,hsx,-⟩:=id hx1
  subst hsx
  have hlen:=hpre.length_le
  rw[List.length_map,List.length_append] at hlen
  simp only[List.length_singleton] at hlen
  have hpl2:=symP_len (pre.map FV.t)
  rw[List.length_map] at hpl2
  have hsn:((pre ++ [(⟨(ft,vx),hvx⟩:FV w)]).map FV.t).flatMap symP=(pre.map FV.t).flatMap symP ++ symP ft:=by simp[FV.t]
  obtain⟨L,hL⟩:∃ L,(pre.map FV.t).flatMap symP=L:=⟨_,rfl⟩
  rw[hL] at hbx hsn hpl2
  clear hL
  have hsn':=h_X hsn
  clear hsn
  by_cases hq:ft.op=1
  ·have hqq:(ft.op == 1)=true:=beq_iff_eq.2 hq
   have hsy:symP ft=[(ft.n,(ft.ts.len:Int))]:=by rw[symP,if_pos hq]
   have hsy':=h_X hsy
   clear hsy
   obtain⟨s,h1,h2,h3⟩:=hbx
   have hl:=bel_laid V (.cells #[.string ft.n,.int .i64 ft.ts.len] 56)
   have h1':=c_B hl h1
   have h2':=(World.frozen?_of_block (a:=⟨w.heap.size+1,0,none⟩) (hl.block _ (lt_of_cell h1))).trans h2
   have h12:=h_X (And.intro h1' h2')
   clear h1' h2'
   have h3':=h_X h3
   clear h3
   rw[hq] at c0
   gi_wp2_with (gi_at_builtin;go_loud (refine wpListIn_append_own_at _ rfl _ _ 40 rfl (w.heap.size+2) 56 i0 (.agg #[.string ⟨#[]⟩,.int .i64 0]) 2 24 Tryz.underlying40 hi hz0 hz1 hz2 rfl (by decide) _ _ _ rfl (h3'.out.alloc _) ⟨V.heap.size,0,none⟩ 1 1 [.string ft.n,.int .i64 ft.ts.len] rfl rfl ?c1 ?c2 ?c3 ?c4 ?c5 ?_))
   case c1 =>
    intro j u hj
    match j,hj with
    | 0,hj=>simp at hj;subst hj;simp[Addr.add]
    | 1,hj=>simp at hj;subst hj;simp[Addr.add]
   case c2=>intro u hu;simp at hu;rcases hu with rfl | rfl<;>rfl
   case c3=>unfold maxLen;omega
   case c4=>omega
   case c5=>have:=lt_of_cell h1;simp;omega
   intro v' w1 hown' hgrow _ hob
   obtain⟨g9,cap9,hv9⟩:∃ g cap,v'=.slice (some ⟨g,0,none⟩) (L.length+1) cap:=by
    obtain⟨-,⟨-,h0⟩ | ⟨g,cap,cur,hv,-⟩⟩:=id hown'
    ·omega
    ·exact⟨g,cap,hv⟩
   subst hv9
   rw[←World.size_alloc V (.cells #[.string ft.n,.int .i64 ft.ts.len] 56)] at hob
   have h3a:=h3'.out.alloc (.cells #[.string ft.n,.int .i64 ft.ts.len] 56)
   have A:=LBox.app (K:=W2.heap.size+2) (p:=(ft.n,(ft.ts.len:Int))) (by omega) h12.out.1 h12.out.2 h3a hgrow hown' hob
   have A0:=LBox.app (K:=W2.heap.size) (p:=(ft.n,(ft.ts.len:Int))) (by omega) h12.out.1 h12.out.2 h3a hgrow hown' hob
   have hb3:=A.2.2.2.2 w w.heap.size (by omega) (by have:=hbel.size;simp;omega) (bS hbel hl)
   have g1:=A.1
   have g2:=A.2.1
   have hks:KS (GB (w.heap.size+1) (w.heap.size+2)) (SB (w.heap.size+1)) (W2.heap.size+2) V (w1.setCell ⟨w.heap.size+1,0,none⟩ (.slice (some ⟨g9,0,none⟩) (L.length+1) cap9)):=(KS.of_below (lives w (by omega) (by omega)) hl).trans A.2.2.1
   have hks0:KS (GB (w.heap.size+1) (w.heap.size+2)) (SB (w.heap.size+1)) W2.heap.size V (w1.setCell ⟨w.heap.size+1,0,none⟩ (.slice (some ⟨g9,0,none⟩) (L.length+1) cap9)):=(KS.of_below (lives w (by omega) (by omega)) hl).trans A0.2.2.1
   have hnew:=A.2.2.2.1
   clear A A0 hown' hgrow hob h3a
   gi_wp2
   exact⟨hks0.from (Nat.le_refl _),hks,by rw[hsn'.out,hsy'.out];exact hnew,hb3⟩
  ·have hqq:(ft.op == 1)=false:=beq_eq_false_iff_ne.2 hq
   have hsy:symP ft=[]:=by rw[symP,if_neg hq]
   rw[hsy,List.append_nil] at hsn'
   gi_wp2
   exact⟨KeepsFrom.refl _ _,KS.of_below (lives w (by omega) (by omega)) (Below.refl _ _),by rw[hsn'.out];exact hbx,hbel⟩
 case done =>
  rintro D xs V hDD hxs ⟨⟨s,h1,h2,h3⟩,hbel⟩ hd
  rw[hxs] at h3
  have hpl2:=symP_len f.parts
  have hVs:w.heap.size+2≤V.heap.size:=by have:=lt_of_cell h1;omega
  have HC:=h_X (HO _ s (w.heap.size+2) V hDl (by omega) hVs h3)
  have hne:s.ownBlock≠some D:=fun e=>by
   obtain⟨o,ho,hn⟩:=owns_cells h3 e
   rw[hd] at ho
   cases ho
   cases hn
  have hge:∀ k,s.ownBlock=some k→w.heap.size+2≤k:=fun k e=>(h3.lt k e).1
  clear h3
  gi_wp2
  refine⟨trivial,(callsIn_wide.2 HC.out).mono ?_⟩
  clear HC
  rintro e W9 ⟨⟨v',rfl,hR⟩,hg9⟩
  have hd9:W9.heap[D]? = some (.deferred (some [])):=(hg9.block D (Array.getElem?_eq_some_iff.1 hd).1 (Ne.symm hne)).trans hd
  have hb9:Below w.heap.size w W9:=hbel.grown hg9 hbel.size (fun k e=>by have:=hge k e;omega)
  gi_wp2
  refine⟨by simp,.inl ⟨_,_,rfl,run_takeDeferred hd9,_,results_tmp rfl _ _ _,?_⟩⟩
  exact⟨⟨_,rfl,HR _ _ W9 D _ _ hd9 rfl hR⟩,hb9.trans (bel_put _ _ (by omega))⟩
 case stop =>
  rintro D cd pre V hD hpre h
  exact h.elim
end Go.Proofs.YtngdieldgnlogaaGreatDoor
namespace Go.Proofs.YtngdieldgnlogaaGreatDoor
open Go Go.RowKit Go.Shelf
set_option maxRecDepth 100000
attribute [local go_sem] Oper.semAt_some
set_option maxHeartbeats 1000000 in
theorem eachTerm_inS (w0:World) (l B K:Nat) {G:World→Prop} {Sf:World→Nat→Prop} (hL:Lives w0 G Sf) (T:List TT) (J Jx:List (TV w0)→World→Prop) (hJ:OwnFrom B J)
    (hY:∀ m pre (x:TV w0) W,J pre W→(pre ++ [x]).map TV.t <+: T→YieldAt Fence.wide m Tryz.prog l #[x.1.2] W fun e W' =>
      (e=.returned (.bool true)∧J (pre ++ [x]) W'∧KS G Sf K W W')∨(e=.returned (.bool false)∧Jx (pre ++ [x]) W'∧KeepsFrom K W W')) :
    ∀ (k:Nat) (ts:Ts) (sa:Value),ts.size=k→ts.size≤1000000→TSl w0 ts sa→∀ (n:Nat) (pre:List (TV w0)) (W:World),B≤W.heap.size→Ext w0 W→G W→J pre W→pre.map TV.t ++ ts.terms <+: T →
      CallsIn Fence.wide n Tryz.prog 107 #[sa,.func (.yield l) #[] #[]] W fun e W' =>
        (e=.returned (.bool true)∧∃ ys:List (TV w0),ys.map TV.t=ts.terms∧J (pre ++ ys) W'∧KS G Sf K W W') ∨
        (e=.returned (.bool false)∧∃ ys:List (TV w0),ys.map TV.t <+: ts.terms∧Jx (pre ++ ys) W'∧KeepsFrom K W W'):=by
  intro k
  induction k using Nat.strongRecOn with
  | _ k ih =>
    intro ts sa hk hs hv n pre W hB hE hG hj hT
    obtain⟨p,c,b,o,rfl,hp,ht⟩:=TSl.opened hv
    have hih:=h_X ih
    have hYh:=h_X hY
    have hTh:=h_X hT
    have hj3:=h_X hj
    have hlen:=ts.len_le
    clear ih hY hT hj
    refine callsIn_of_wp Tryz.func107 rfl trivial ?_ rfl
    simp only[Tryz.ntmps107,List.size_toArray,List.length_cons,List.length_nil,Nat.reduceAdd,Nat.reduceSub,Array.replicate_succ,Array.replicate_zero,List.push_toArray,List.append_toArray,List.nil_append,List.cons_append]
    gi_wp2
    gi_loopw [9] (fun i wr=>∃ (k:Nat) (r:Ts) (ys:List (TV w0)),i=.int .i64 k∧k+r.len=ts.len∧r.size≤ts.size∧TsAt w0 r b (o+k*3)∧(ys.map TV.t) ++ r.terms=ts.terms∧J (pre ++ ys) wr∧KS G Sf K W wr∧Ext w0 wr) (fun i _=>ts.len - (intOf i).toNat)
    case atStart=>exact⟨0,ts,[],rfl,by omega,Nat.le_refl _,by simpa using ht,rfl,by simpa using hj3.out,KS.of_below hL (Below.refl _ _),hE⟩
    case round =>
      obtain⟨k',r,ys,rfl,hk',hr,hat,hys,hj4,hk4,hE4⟩:=hrel
      cases r with
      | nil =>
        simp only[Ts.len] at hk'
        have hkk:k'=ts.len:=by omega
        subst hkk
        simp only[Ts.terms,List.append_nil] at hys
        gi_wp2
        go_ret
        exact .inl ⟨rfl,ys,hys,hj4,hk4⟩
      | cons v nm t1 r' =>
        simp only[Ts.len] at hk'
        simp only[TsAt] at hat
        obtain⟨c0,c1,⟨s,c2,hs2⟩,hat'⟩:=hat
        have hchild:TVal w0 ⟨v,nm,t1⟩ (.agg #[.bool v,.string nm,s]):=⟨s,rfl,hs2⟩
        have hs3:=h_X hs2
        obtain⟨ps,cs,rfl,-⟩:=hs2
        rcases hp with hp | hp
        · omega
        subst hp
        have hlt:(k':Int) < (ts.len:Int):=by omega
        simp only[Ts.size] at hr
        have hsz:t1.size < k∧t1.size≤1000000:=by omega
        have e0:=hE4 _ _ _ c0
        have e1:=hE4 _ _ _ c1
        have e2:=hE4 _ _ _ c2
        clear c0 c1 c2
        have hT4:(pre ++ ys).map TV.t ++ (⟨v,nm,t1⟩ :: (t1.terms ++ r'.terms)) <+: T:=by
          rw[List.map_append,List.append_assoc]
          refine List.IsPrefix.trans ?_ hTh.out
          rw[List.prefix_append_right_inj,←hys]
          exact List.prefix_refl _
        have hT4':=h_X hT4
        obtain⟨fn,tmps,assign,body,hy,hR⟩:=hYh.out (n - 1) (pre ++ ys) ⟨(⟨v,nm,t1⟩,_),hchild⟩ (wr.alloc (.cells #[.bool v,.string nm,.slice ps t1.len cs] 46)) (hJ.alloc _ hj4) (by
          refine List.IsPrefix.trans ?_ hT4
          rw[List.map_append,List.prefix_append_right_inj]
          exact⟨_,rfl⟩)
        replace hR:=h_X hR
        clear hT4
        have hBr:=hk4.1
        gi_wp2
        refine⟨hdd _,hR.out.mono ?_⟩
        clear hR hy
        rintro e W2 (⟨rfl,hj5,hk5⟩ | ⟨rfl,hx5,hn5⟩)
        · have b2:W2.cell? ⟨wr.heap.size,2,none⟩=some (.slice ps t1.len cs):=(hk5.2.1 _ _ _ (hL.fr _ _ (hk4.2.2.2.1 hG)) (by rw[cell_new];rfl)).1
          have hE5:Ext w0 W2:=(hE4.trans (Ext.of_below (bel_laid wr _))).keepS hL hk5 (hL.gb (bel_laid wr _) (hk4.2.2.2.1 hG))
          have hk6:KS G Sf K W W2:=hk4.trans ((KS.of_below hL (bel_laid wr _)).trans hk5)
          clear hk5 hk4
          have hcall:=h_X (fun m=>hih.out _ hsz.1 t1 _ rfl hsz.2 hs3.out m _ W2 (by have:=hk6.1;omega) hE5 (hk6.2.2.2.1 hG) hj5 (by
            refine List.IsPrefix.trans ?_ hT4'.out
            rw[List.map_append,List.append_assoc,List.prefix_append_right_inj]
            exact⟨r'.terms,by simp[TV.t]⟩))
          gi_wp2
          refine⟨trivial,hdd _,(hcall.out _).mono ?_⟩
          clear hcall
          rintro e W5 (⟨rfl,zs,hzs,hj7,hk7⟩ | ⟨rfl,zs,hzs,hx7,hn7⟩)
          · gi_wp2
            go_roundw
            case rel =>
              refine⟨k'+1,r',ys ++ (⟨(⟨v,nm,t1⟩,_),hchild⟩ :: zs),by go_num,by omega,by omega,?_,?_,?_,hk6.trans hk7,hE5.keepS hL hk7 (hk6.2.2.2.1 hG)⟩
              · rwa [show o+(k'+1)*3=o+k'*3+3 by omega]
              · rw[List.map_append,List.map_cons,hzs,←hys];simp[Ts.terms,TV.t]
              · have e:pre ++ (ys ++ (⟨(⟨v,nm,t1⟩,_),hchild⟩ :: zs))=pre ++ ys ++ [⟨(⟨v,nm,t1⟩,_),hchild⟩] ++ zs:=by simp
                rw[e];exact hj7
            case measure=>simp[intOf];omega
          · gi_wp2
            go_ret
            refine .inr ⟨rfl,ys ++ (⟨(⟨v,nm,t1⟩,_),hchild⟩ :: zs),?_,?_,keeps_trans (hk6.from (Nat.le_refl _)) hn7⟩
            · rw[List.map_append,List.map_cons,←hys,List.prefix_append_right_inj]
              exact(List.prefix_cons_inj _).2 (hzs.trans ⟨r'.terms,rfl⟩)
            · have e:pre ++ (ys ++ (⟨(⟨v,nm,t1⟩,_),hchild⟩ :: zs))=pre ++ ys ++ [⟨(⟨v,nm,t1⟩,_),hchild⟩] ++ zs:=by simp
              rw[e];exact hx7
        · gi_wp2
          refine⟨trivial,?_⟩
          gi_wp2
          go_ret
          refine .inr ⟨rfl,ys ++ [⟨(⟨v,nm,t1⟩,_),hchild⟩],?_,?_,keeps_trans (hk4.from (Nat.le_refl _)) (keeps_trans ((KS.of_below hL (bel_laid wr _)).from (Nat.le_refl _)) hn5)⟩
          · rw[List.map_append,←hys,List.prefix_append_right_inj]
            exact⟨_,rfl⟩
          · rw[←List.append_assoc];exact hx5
end Go.Proofs.YtngdieldgnlogaaGreatDoor
namespace Go.Proofs.YtngdieldgnlogaaGreatDoor
open Go Go.RowKit Go.Shelf
set_option maxRecDepth 100000
attribute [local go_sem] Oper.semAt_some
set_option maxHeartbeats 2000000 in
theorem terms_seqS (f:FT) (hs:f.size≤1000000) (g K:Nat) {G:World→Prop} {Sf:World→Nat→Prop} (w0 w1:World) (hL:Lives w0 G Sf) (hG:G w1) (sa ss:Value) (hE1:Ext w0 w1) (hb:Boxed4 w1 g f.op f.n sa ss) (hv:FVal w0 f (.agg #[.int .u8 f.op,.string f.n,sa,ss])) (n:Nat):SeqO n Tryz.prog 106 #[.pointer (some ⟨g,0,none⟩)] (fun x:TV w0=>#[x.1.2]) (KS G Sf K) TV.t f.terms w1 K:=by
 intro l J Jx W hW hKW hJ hJx hY h0
 obtain⟨sa',ss',he,ha,hss⟩:=id hv
 simp at he
 obtain⟨rfl,rfl⟩:=he
 have hE:Ext w0 W:=hE1.trans (Ext.of_below hW)
 obtain⟨pa,ca,rfl,-⟩:=id ha
 obtain⟨p,c,rfl,-⟩:=id hss
 obtain⟨d0,d1,d2,d3⟩:=Boxed4.below hW hb
 have hgW:=lt_of_cell d0
 have hGW:G W:=hL.gb hW hG
 have hYh:=h_X hY
 have hvh:=h_X hv
 clear hY hv hW
 refine callsIn_of_wp_marks Tryz.func106 rfl trivial ?_ rfl
 simp only[Tryz.ntmps106,List.size_toArray,List.length_cons,List.length_nil,Nat.reduceAdd,Nat.reduceSub,Array.replicate_succ,Array.replicate_zero,List.push_toArray,List.append_toArray,List.nil_append,List.cons_append]
 gi_wp2
 have hPA:=parts_any (.agg #[.int .u8 f.op,.string f.n,.slice pa f.ts.len ca,.slice p f.sub.len c]) (W.alloc (.cells #[.func (.yield l) #[] #[]] 44)) f (FVal.ext (hE.trans (Ext.of_below (bel_laid _ _))) hvh.out)
 refine⟨trivial,hdd _,(callsIn_wide.2 hPA).mono ?_⟩
 clear hPA
 rintro e W2 ⟨rfl,hb2,hlt2,sa2,ss2,he2,hbox⟩
 simp at he2
 obtain⟨rfl,rfl⟩:=he2
 have hWW:Below W.heap.size W W2:=bS (bel_laid W _) hb2
 have hy2:W2.cell? ⟨W.heap.size,0,none⟩=some (.func (.yield l) #[] #[]):=c_B hb2 (by rw[cell_new];rfl)
 rw[World.size_alloc] at hlt2 hbox ⊢
 have hE2:Ext w0 W2:=hE.trans (Ext.of_below hWW)
 have h02:J [] W2:=hJ _ _ _ none h0 (bel_grown hWW) (fun r e=>by cases e)
 have hBW:W.heap.size≤W2.heap.size:=hWW.size
 have hG2:G W2:=hL.gb hWW hGW
 have hS2:Sf W2 W.heap.size:=hL.sb hb2 (by simp) (hL.fr W _ hGW)
 clear hb2
 gi_wp2
 refine wpIn_rangeFunc_O (gf:=100) (lb:=#[.pointer (some ⟨W.heap.size+1,0,none⟩)]) (w0:=W2) (T:=f.parts) (tr:=FV.t) (Kp:=KS G Sf (W2.heap.size+2)) (encs:=fun x:FV w0=>#[x.1.2]) rfl (enters_of Tryz.func100 (by kernel_rfl) rfl)
  (parts_seqS f hs (W.heap.size+1) (W2.heap.size+2) w0 W2 hL hG2 _ _ hE2 hbox hvh.out _) (fun h h'=>h.trans h') (fun V l' o o' h1 h2 ho hc _=>KS.put hL o' ho hc h2) (Below.refl _ _) (fun _=>rfl)
  (fun pre V=>(∃ ys:List (TV w0),ys.map TV.t=((pre.map FV.t).flatMap fun p=>p.ts.terms)∧J ys V)∧Ext w0 V∧V.cell? ⟨W.heap.size,0,none⟩=some (.func (.yield l) #[] #[])∧W2.heap.size≤V.heap.size∧G V∧Sf V W.heap.size)
  (fun cd pre V=>cd=.ret∧∃ ys:List (TV w0),(ys.map TV.t <+: ((pre.map FV.t).flatMap fun p=>p.ts.terms))∧Jx ys V)
  ?hI ?hIx ?h0
  (fun x a' V=>∃ (bx:Nat) (sx:Value),W2.heap.size≤bx∧TSl w0 (FV.t x).ts sx∧V.cell? ⟨bx,2,none⟩=some sx∧a' = { tmps:=#[.func (.yield l) #[] #[],.pointer (some ⟨g,0,none⟩),.pointer (some ⟨W.heap.size,0,none⟩),.pointer (some ⟨bx,0,none⟩),.agg #[.int .u8 f.op,.string f.n,.slice pa f.ts.len ca,.slice p f.sub.len c],.func (.func 100) #[] #[.pointer (some ⟨W.heap.size+1,0,none⟩)],x.1.2,undef,undef,undef,undef,undef],defers:=[] })
  ?hAx ?assign ?body ?done ?stop
 case hI =>
  rintro pre A B row ⟨⟨ys,hys,hj⟩,hE3,hy3,hs3,hg3,hf3⟩ hg hr
  have hr':∀ r,row=some r→∃ o:Obj,A.heap[r]? = some o∧o.isCells=false:=fun r e=>(hr r e).2
  exact⟨⟨ys,hys,(OwnFrom.more hJ hBW) _ _ _ _ hj hg hr⟩,Ext.grown hE3 hg hr',cell_kept hy3 hg hr',Nat.le_trans hs3 hg.size,(hL.gw hg hr').1 hg3,(hL.gw hg hr').2 _ (lt_of_cell hy3) hf3⟩
 case hIx =>
  rintro cd pre A B row ⟨hc,ys,hys,hj⟩ hg hr
  exact⟨hc,ys,hys,(OwnFrom.more hJx hBW) _ _ _ _ hj hg hr⟩
 case h0=>exact⟨⟨[],rfl,h02⟩,hE2,hy2,Nat.le_refl _,hG2,hS2⟩
 case hAx =>
  rintro x a' _ A B row ⟨bx,sx,h1,h2,h3,h4⟩ hg hr
  exact⟨bx,sx,h1,h2,cell_kept h3 hg (fun r e=>(hr r e).2),h4⟩
 case assign =>
  rintro m l' pre ⟨⟨ft,vx⟩,hvx⟩ V Kq hi hK
  obtain⟨sx,tx,hvx',hx1,hx2⟩:=id hvx
  simp only at hvx'
  subst hvx'
  replace hx1:TSl w0 ft.ts sx:=hx1
  replace hx2:FSl w0 ft.sub tx:=hx2
  obtain⟨px,cx,hsx,-⟩:=id hx1
  subst hsx
  obtain⟨py,cy,hsy,-⟩:=id hx2
  subst hsy
  have hK':=h_X hK
  clear hK
  gi_wp2
  obtain⟨⟨ys,hys,hj⟩,hE3,hy3,hs3,hg3,hf3⟩:=hi
  have hl:=bel_laid V (.cells #[.int .u8 ft.op,.string ft.n,.slice px ft.ts.len cx,.slice py ft.sub.len cy] 25)
  refine hK'.out _ _ ((KS.of_below hL (K:=W2.heap.size) hl).from (Nat.le_refl _)) (KS.of_below hL hl) ⟨⟨ys,hys,OwnFrom.alloc hJ _ hj⟩,hE3.trans (Ext.of_below hl),c_B hl hy3,by simp;omega,hL.gb hl hg3,hL.sb hl (lt_of_cell hy3) hf3⟩ ⟨V.heap.size,_,hs3,hx1,by rw[cell_new];rfl,rfl⟩
 case body =>
  rintro m l' pre ⟨⟨ft,vx⟩,hvx⟩ a' V hl' ⟨rr,hrr⟩ ⟨⟨ys,hys,hj⟩,hE3,hy3,hs3,hg3,hf3⟩ ⟨bx,sx,hbx,hx1,hx3,rfl⟩ hpre
  replace hx1:TSl w0 ft.ts sx:=hx1
  obtain⟨px,cx,hsx,-⟩:=id hx1
  subst hsx
  have hft:ft.ts.size≤1000000:=by
   have hm:ft∈f.parts:=hpre.subset (by simp[FV.t])
   have:=mem_parts_size hm
   omega
  have hT:ys.map TV.t ++ ft.ts.terms <+: f.terms:=by
   rw[hys]
   have:=parts_terms_prefix hpre
   refine List.IsPrefix.trans ?_ this
   simp[FV.t]
  have hcall:=h_X (fun m=>eachTerm_inS w0 l W.heap.size K hL f.terms J Jx hJ hYh.out ft.ts.size ft.ts _ rfl hft hx1 m ys V (by omega) hE3 hg3 hj hT)
  gi_wp2
  refine⟨trivial,hdd _,(hcall.out _).mono ?_⟩
  clear hcall
  rintro e V2 (⟨rfl,zs,hzs,hj7,hk7⟩ | ⟨rfl,zs,hzs,hx7,hn7⟩)
  ·gi_wp2
   refine⟨hk7.from (by omega),hk7.more (by omega),⟨ys ++ zs,?_,hj7⟩,hE3.keepS hL hk7 hg3,(hk7.2.1 _ _ _ hf3 hy3).1,Nat.le_trans hs3 hk7.1,hk7.2.2.2.1 hg3,hk7.2.2.1 _ (lt_of_cell hy3) hf3⟩
   rw[List.map_append,hys,hzs]
   simp[FV.t]
  ·gi_wp2
   refine⟨keeps_more hn7 (by omega),rfl,ys ++ zs,?_,hx7⟩
   rw[List.map_append,hys,List.map_append,List.flatMap_append,List.prefix_append_right_inj]
   simpa[FV.t] using hzs
 case done =>
  rintro D xs V hD hxs ⟨⟨ys,hys,hj⟩,-⟩ hd
  gi_wp2
  refine⟨by simp,.inl ⟨_,_,rfl,run_takeDeferred hd,_,results_none rfl _ _ _,?_⟩⟩
  exact⟨⟨_,rfl⟩,.inl ⟨ys,by rw[hys,hxs];rfl,OwnFrom.putObj hJ _ hj (by omega) hd rfl⟩⟩
 case stop =>
  rintro D cd pre V hD hpre ⟨rfl,ys,hys,hj⟩ hd
  gi_wp2
  refine⟨by simp,.inl ⟨_,_,rfl,run_takeDeferred hd,_,results_none rfl _ _ _,?_⟩⟩
  exact⟨⟨_,rfl⟩,.inr ⟨ys,hys.trans (parts_terms_prefix hpre),OwnFrom.putObj hJx _ hj (by omega) hd rfl⟩⟩
end Go.Proofs.YtngdieldgnlogaaGreatDoor
namespace Go.Proofs.YtngdieldgnlogaaGreatDoor
open Go Go.RowKit Go.Shelf
set_option maxRecDepth 100000
set_option linter.unusedVariables false
attribute [local go_sem] Oper.semAt_some
def symT (t:TT):List Sy:=if t.v=false then [(t.n,(t.ts.len:Int))] else []
theorem symT_len (l:List TT):(l.flatMap symT).length≤l.length:=by
 induction l with
 | nil=>simp
 | cons f r ih =>
  have:(symT f).length≤1:=by unfold symT;split<;>simp
  rw[List.flatMap_cons,List.length_append,List.length_cons]
  omega
set_option maxHeartbeats 4000000 in
theorem functions_any (Dl:List Sy→Prop) (R:List Sy→Value→World→Prop) (HO:InOrder Dl R) (HR:∀ l v (V:World) D o o',V.heap[D]? = some o→o.isCells=false→R l v V→R l v (V.putObj D o')) (f:FT) (hDl:Dl (f.terms.flatMap symT)) (hs:f.size≤1000000) (v:Value) (w:World) (hv:FVal w f v) :
  Calls Tryz.prog 31 #[v] w fun e w'=>(∃ v',e=.returned v'∧R (f.terms.flatMap symT) v' w')∧Below w.heap.size w w':=by
 obtain⟨i0,hi,hz0,hz1,hz2⟩:=info_parts info46
 refine(callsIn_wide (n:=9)).1 ?_
 have hvh:=h_X hv
 obtain⟨sa,ss,rfl,ha,hss⟩:=hv
 obtain⟨pa,ca,rfl,-⟩:=id ha
 obtain⟨p,cc,rfl,-⟩:=id hss
 have hall:=f.length_all
 have hpl:f.terms.length≤1000000:=by omega
 clear hall ha hss
 refine callsIn_of_wp_marks Tryz.func31 rfl trivial ?_ rfl
 simp only[Tryz.ntmps31,List.size_toArray,List.length_cons,List.length_nil,Nat.reduceAdd,Nat.reduceSub,Array.replicate_succ,Array.replicate_zero,List.push_toArray,List.append_toArray,List.nil_append,List.cons_append]
 gi_wp2
 have hPA:=terms_any (.agg #[.int .u8 f.op,.string f.n,.slice pa f.ts.len ca,.slice p f.sub.len cc]) ((w.alloc (.cells #[.int .u8 f.op,.string f.n,.slice pa f.ts.len ca,.slice p f.sub.len cc] 25)).alloc (.cells #[.slice none 0 0] 40)) f
  (FVal.below (bS (bel_laid w _) (bel_laid _ _)) hvh.out)
 refine⟨trivial,(callsIn_wide.2 hPA).mono ?_⟩
 clear hPA
 rintro e W2 ⟨rfl,hb2,hlt2,sa2,ss2,he2,hbox⟩
 simp at he2
 obtain⟨rfl,rfl⟩:=he2
 have hWW:Below w.heap.size w W2:=bS (bS (bel_laid w _) (bel_laid _ _)) hb2
 have hc0:LBox (w.heap.size+1) (w.heap.size+2) [] W2:=by
  have k:=cell_new (w.alloc (.cells #[.int .u8 f.op,.string f.n,.slice pa f.ts.len ca,.slice p f.sub.len cc] 25)) #[.slice none 0 0] 40 0
  rw[World.size_alloc] at k
  have fz:=World.frozen?_alloc_mark (w.alloc (.cells #[.int .u8 f.op,.string f.n,.slice pa f.ts.len ca,.slice p f.sub.len cc] 25)) #[.slice none 0 0] 40 0 0 0
  rw[World.size_alloc] at fz
  exact LBox.below ⟨_,k,by simp,World.ownsRow_nil _ _ _ _⟩ hb2
 rw[World.size_alloc,World.size_alloc] at hlt2 hbox ⊢
 clear hb2
 gi_wp2
 refine wpIn_rangeFunc_O (gf:=106) (lb:=#[.pointer (some ⟨w.heap.size+1+1,0,none⟩)]) (w0:=W2) (T:=f.terms) (tr:=TV.t) (Kp:=KS (GB (w.heap.size+1) (w.heap.size+2)) (SB (w.heap.size+1)) (W2.heap.size+2)) (encs:=fun x:TV w=>#[x.1.2]) rfl (enters_of Tryz.func106 (by kernel_rfl) rfl)
  (terms_seqS f hs (w.heap.size+1+1) (W2.heap.size+2) w W2 (lives w (by omega) (by omega)) ⟨_,hc0⟩ _ _ (Ext.of_below hWW) hbox hvh.out _) (fun h h'=>h.trans h') (fun V l' o o' h1 h2 ho hc _=>KS.put (lives w (by omega) (by omega)) o' ho hc h2) (Below.refl _ _) (fun _=>rfl)
  (fun pre V=>LBox (w.heap.size+1) (w.heap.size+2) ((pre.map TV.t).flatMap symT) V∧Below w.heap.size w V)
  (fun cd pre V=>False)
  ?hI ?hIx ⟨hc0,hWW⟩
  (fun x a' V=>∃ (bx:Nat) (sx:Value),TSl w (TV.t x).ts sx∧V.cell? ⟨bx,0,none⟩=some (.bool (TV.t x).v)∧V.cell? ⟨bx,1,none⟩=some (.string (TV.t x).n)∧V.cell? ⟨bx,2,none⟩=some sx∧a' = { tmps:=#[.agg #[.int .u8 f.op,.string f.n,.slice pa f.ts.len ca,.slice p f.sub.len cc],.pointer (some ⟨w.heap.size,0,none⟩),.slice none 0 0,.pointer (some ⟨w.heap.size+1,0,none⟩),.pointer (some ⟨bx,0,none⟩),.agg #[.int .u8 f.op,.string f.n,.slice pa f.ts.len ca,.slice p f.sub.len cc],.func (.func 106) #[] #[.pointer (some ⟨w.heap.size+1+1,0,none⟩)],x.1.2,undef,undef,undef,undef,undef,undef,undef,undef,undef,undef,undef,undef,undef,undef],defers:=[] })
  ?hAx ?assign ?body ?done ?stop
 case hI =>
  rintro pre A B row ⟨h1,h2⟩ hg hr
  exact⟨h1.grown hg (fun r e=>(hr r e).2),h2.grown hg h2.size (fun k e=>by have:=(hr k e).1;omega)⟩
 case hIx =>
  rintro cd pre A B row h
  exact h.elim
 case hAx =>
  rintro x a' _ A B row ⟨bx,sx,h2,h3,h4,h5,h6⟩ hg hr
  have hr':∀ r,row=some r→∃ o:Obj,A.heap[r]? = some o∧o.isCells=false:=fun r e=>(hr r e).2
  exact⟨bx,sx,h2,cell_kept h3 hg hr',cell_kept h4 hg hr',cell_kept h5 hg hr',h6⟩
 case assign =>
  rintro m l' pre ⟨⟨ft,vx⟩,hvx⟩ V Kq hi hK
  obtain⟨sx,hvx',hx1⟩:=id hvx
  simp only at hvx'
  subst hvx'
  replace hx1:TSl w ft.ts sx:=hx1
  obtain⟨px,cx,hsx,-⟩:=id hx1
  subst hsx
  have hK':=h_X hK
  clear hK
  gi_wp2
  have hl:=bel_laid V (.cells #[.bool ft.v,.string ft.n,.slice px ft.ts.len cx] 46)
  have hks:KS (GB (w.heap.size+1) (w.heap.size+2)) (SB (w.heap.size+1)) (W2.heap.size+2) V (V.alloc (.cells #[.bool ft.v,.string ft.n,.slice px ft.ts.len cx] 46)):=KS.of_below (lives w (by omega) (by omega)) hl
  have hks0:KS (GB (w.heap.size+1) (w.heap.size+2)) (SB (w.heap.size+1)) W2.heap.size V (V.alloc (.cells #[.bool ft.v,.string ft.n,.slice px ft.ts.len cx] 46)):=KS.of_below (lives w (by omega) (by omega)) hl
  exact hK'.out _ _ (hks0.from (Nat.le_refl _)) hks ⟨hi.1.below hl,bS hi.2 hl⟩ ⟨V.heap.size,_,hx1,by rw[cell_new];rfl,by rw[cell_new];rfl,by rw[cell_new];rfl,rfl⟩
 case body =>
  rintro m l' pre ⟨⟨ft,vx⟩,hvx⟩ a' V hl' ⟨rr,hrr⟩ ⟨hbx,hbel⟩ ⟨bx,sx,hx1,c0,c1,c2,rfl⟩ hpre
  replace hx1:TSl w ft.ts sx:=hx1
  replace c0:V.cell? ⟨bx,0,none⟩=some (.bool ft.v):=c0
  replace c1:V.cell? ⟨bx,1,none⟩=some (.string ft.n):=c1
  obtain⟨px,cx,hsx,-⟩:=id hx1
  subst hsx
  have hlen:=hpre.length_le
  rw[List.length_map,List.length_append] at hlen
  simp only[List.length_singleton] at hlen
  have hpl2:=symT_len (pre.map TV.t)
  rw[List.length_map] at hpl2
  have hsn:((pre ++ [(⟨(ft,vx),hvx⟩:TV w)]).map TV.t).flatMap symT=(pre.map TV.t).flatMap symT ++ symT ft:=by simp[TV.t]
  obtain⟨L,hL⟩:∃ L,(pre.map TV.t).flatMap symT=L:=⟨_,rfl⟩
  rw[hL] at hbx hsn hpl2
  clear hL
  have hsn':=h_X hsn
  clear hsn
  by_cases hq:ft.v=false
  ·have hqq:True:=trivial
   have hsy:symT ft=[(ft.n,(ft.ts.len:Int))]:=by rw[symT,if_pos hq]
   have hsy':=h_X hsy
   clear hsy
   obtain⟨s,h1,h2,h3⟩:=hbx
   have hl:=bel_laid V (.cells #[.string ft.n,.int .i64 ft.ts.len] 56)
   have h1':=c_B hl h1
   have h2':=(World.frozen?_of_block (a:=⟨w.heap.size+1,0,none⟩) (hl.block _ (lt_of_cell h1))).trans h2
   have h12:=h_X (And.intro h1' h2')
   clear h1' h2'
   have h3':=h_X h3
   clear h3
   rw[hq] at c0
   gi_wp2_with (gi_at_builtin;go_loud (refine wpListIn_append_own_at _ rfl _ _ 40 rfl (w.heap.size+2) 56 i0 (.agg #[.string ⟨#[]⟩,.int .i64 0]) 2 24 Tryz.underlying40 hi hz0 hz1 hz2 rfl (by decide) _ _ _ rfl (h3'.out.alloc _) ⟨V.heap.size,0,none⟩ 1 1 [.string ft.n,.int .i64 ft.ts.len] rfl rfl ?c1 ?c2 ?c3 ?c4 ?c5 ?_))
   case c1 =>
    intro j u hj
    match j,hj with
    | 0,hj=>simp at hj;subst hj;simp[Addr.add]
    | 1,hj=>simp at hj;subst hj;simp[Addr.add]
   case c2=>intro u hu;simp at hu;rcases hu with rfl | rfl<;>rfl
   case c3=>unfold maxLen;omega
   case c4=>omega
   case c5=>have:=lt_of_cell h1;simp;omega
   intro v' w1 hown' hgrow _ hob
   obtain⟨g9,cap9,hv9⟩:∃ g cap,v'=.slice (some ⟨g,0,none⟩) (L.length+1) cap:=by
    obtain⟨-,⟨-,h0⟩ | ⟨g,cap,cur,hv,-⟩⟩:=id hown'
    ·omega
    ·exact⟨g,cap,hv⟩
   subst hv9
   rw[←World.size_alloc V (.cells #[.string ft.n,.int .i64 ft.ts.len] 56)] at hob
   have h3a:=h3'.out.alloc (.cells #[.string ft.n,.int .i64 ft.ts.len] 56)
   have A:=LBox.app (K:=W2.heap.size+2) (p:=(ft.n,(ft.ts.len:Int))) (by omega) h12.out.1 h12.out.2 h3a hgrow hown' hob
   have A0:=LBox.app (K:=W2.heap.size) (p:=(ft.n,(ft.ts.len:Int))) (by omega) h12.out.1 h12.out.2 h3a hgrow hown' hob
   have hb3:=A.2.2.2.2 w w.heap.size (by omega) (by have:=hbel.size;simp;omega) (bS hbel hl)
   have g1:=A.1
   have g2:=A.2.1
   have hks:KS (GB (w.heap.size+1) (w.heap.size+2)) (SB (w.heap.size+1)) (W2.heap.size+2) V (w1.setCell ⟨w.heap.size+1,0,none⟩ (.slice (some ⟨g9,0,none⟩) (L.length+1) cap9)):=(KS.of_below (lives w (by omega) (by omega)) hl).trans A.2.2.1
   have hks0:KS (GB (w.heap.size+1) (w.heap.size+2)) (SB (w.heap.size+1)) W2.heap.size V (w1.setCell ⟨w.heap.size+1,0,none⟩ (.slice (some ⟨g9,0,none⟩) (L.length+1) cap9)):=(KS.of_below (lives w (by omega) (by omega)) hl).trans A0.2.2.1
   have hnew:=A.2.2.2.1
   clear A A0 hown' hgrow hob h3a
   gi_wp2
   exact⟨hks0.from (Nat.le_refl _),hks,by rw[hsn'.out,hsy'.out];exact hnew,hb3⟩
  ·have hqq:ft.v=true:=by cases hh:ft.v<;>simp_all
   have hsy:symT ft=[]:=by rw[symT,if_neg hq]
   rw[hsy,List.append_nil] at hsn'
   rw[hqq] at c0
   gi_wp2
   exact⟨KeepsFrom.refl _ _,KS.of_below (lives w (by omega) (by omega)) (Below.refl _ _),by rw[hsn'.out];exact hbx,hbel⟩
 case done =>
  rintro D xs V hDD hxs ⟨⟨s,h1,h2,h3⟩,hbel⟩ hd
  rw[hxs] at h3
  have hpl2:=symT_len f.terms
  have hVs:w.heap.size+2≤V.heap.size:=by have:=lt_of_cell h1;omega
  have HC:=h_X (HO _ s (w.heap.size+2) V hDl (by omega) hVs h3)
  have hne:s.ownBlock≠some D:=fun e=>by
   obtain⟨o,ho,hn⟩:=owns_cells h3 e
   rw[hd] at ho
   cases ho
   cases hn
  have hge:∀ k,s.ownBlock=some k→w.heap.size+2≤k:=fun k e=>(h3.lt k e).1
  clear h3
  gi_wp2
  refine⟨trivial,(callsIn_wide.2 HC.out).mono ?_⟩
  clear HC
  rintro e W9 ⟨⟨v',rfl,hR⟩,hg9⟩
  have hd9:W9.heap[D]? = some (.deferred (some [])):=(hg9.block D (Array.getElem?_eq_some_iff.1 hd).1 (Ne.symm hne)).trans hd
  have hb9:Below w.heap.size w W9:=hbel.grown hg9 hbel.size (fun k e=>by have:=hge k e;omega)
  gi_wp2
  refine⟨by simp,.inl ⟨_,_,rfl,run_takeDeferred hd9,_,results_tmp rfl _ _ _,?_⟩⟩
  exact⟨⟨_,rfl,HR _ _ W9 D _ _ hd9 rfl hR⟩,hb9.trans (bel_put _ _ (by omega))⟩
 case stop =>
  rintro D cd pre V hD hpre h
  exact h.elim
end Go.Proofs.YtngdieldgnlogaaGreatDoor
