/- Terms, one after the other: eachTerm. The terms in the parts of a formula, as an iterator. How many parts and terms there are: count, few, Nodes. few, Nodes, fits. -/
import Derived.Test.YtngdieldgnlogaaGreatDoorMG
namespace Go.Proofs.YtngdieldgnlogaaGreatDoor
open Go Go.RowKit Go.Shelf
set_option maxRecDepth 100000
attribute [local go_sem] Oper.semAt_some
structure TT where
 v:Bool
 n:ByteArray
 ts:Ts
def TVal (W:World) (t:TT) (x:Value):Prop:=∃ s,x=.agg #[.bool t.v,.string t.n,s]∧TSl W t.ts s
theorem TVal.ext {w W:World} (hb:Ext w W) {t:TT} {v:Value} (h:TVal w t v):TVal W t v:=by
 obtain⟨s,hv,h1⟩:=h
 exact⟨s,hv,h1.imp fun _ _ h=>TsAt.ext hb h⟩
abbrev TV (w:World):={ p:TT × Value // TVal w p.1 p.2 }
def TV.t {w:World} (x:TV w):TT:=x.1.1
def Ts.terms:Ts→List TT
 | .nil=>[]
 | .cons v n ts r=>⟨v,n,ts⟩ :: (ts.terms ++ r.terms)
def FT.terms (f:FT):List TT:=f.parts.flatMap fun p=>p.ts.terms
theorem Ts.length_terms:∀ t:Ts,t.terms.length=t.size
 | .nil=>rfl
 | .cons _ _ ts r=>by simp[Ts.terms,Ts.size,ts.length_terms,r.length_terms]
theorem Fs.length_parts_le:∀ t:Fs,t.parts.length≤t.size
 | .nil=>Nat.le_refl _
 | .cons _ _ ts sub r=>by have:=sub.length_parts_le;have:=r.length_parts_le;simp only[Fs.parts,Fs.size,List.length_cons,List.length_append];omega
theorem Fs.length_all:∀ t:Fs,t.parts.length+(t.parts.flatMap fun p=>p.ts.terms).length=t.size
 | .nil=>rfl
 | .cons _ _ ts sub r=>by
  have h1:=sub.length_all
  have h2:=r.length_all
  simp only[Fs.parts,Fs.size,List.length_cons,List.length_append,List.flatMap_cons,List.flatMap_append,ts.length_terms]
  omega
theorem FT.length_all (f:FT):f.parts.length+f.terms.length=f.size:=by
 have h:=f.sub.length_all
 simp only[FT.parts,FT.terms,FT.size,List.length_cons,List.flatMap_cons,List.length_append,f.ts.length_terms]
 omega
set_option maxHeartbeats 1000000 in
theorem eachTerm_in (w0:World) (l B K:Nat) (L:List Nat) (hL:∀ b∈L,w0.heap.size≤b∧b < B) (T:List TT) (J Jx:List (TV w0)→World→Prop) (hJ:OwnFrom B J)
    (hY:∀ m pre (x:TV w0) W,J pre W→(pre ++ [x]).map TV.t <+: T→YieldAt Fence.wide m Tryz.prog l #[x.1.2] W fun e W' =>
      (e=.returned (.bool true)∧J (pre ++ [x]) W'∧KL L K W W')∨(e=.returned (.bool false)∧Jx (pre ++ [x]) W'∧KeepsFrom K W W')) :
    ∀ (k:Nat) (ts:Ts) (sa:Value),ts.size=k→ts.size≤1000000→TSl w0 ts sa→∀ (n:Nat) (pre:List (TV w0)) (W:World),B≤W.heap.size→Ext w0 W→J pre W→pre.map TV.t ++ ts.terms <+: T →
      CallsIn Fence.wide n Tryz.prog 107 #[sa,.func (.yield l) #[] #[]] W fun e W' =>
        (e=.returned (.bool true)∧∃ ys:List (TV w0),ys.map TV.t=ts.terms∧J (pre ++ ys) W'∧KL L K W W') ∨
        (e=.returned (.bool false)∧∃ ys:List (TV w0),ys.map TV.t <+: ts.terms∧Jx (pre ++ ys) W'∧KeepsFrom K W W'):=by
  intro k
  induction k using Nat.strongRecOn with
  | _ k ih =>
    intro ts sa hk hs hv n pre W hB hE hj hT
    obtain⟨p,c,b,o,rfl,hp,ht⟩:=TSl.opened hv
    have hih:=h_X ih
    have hYh:=h_X hY
    have hTh:=h_X hT
    have hj3:=h_X hj
    have hlen:=ts.len_le
    clear ih hY hT hj
    refine callsIn_of_wp Tryz.func107 rfl trivial ?_ rfl
    simp only[Tryz.ntmps107,List.size_toArray,List.length_cons,List.length_nil,Nat.reduceAdd,Nat.reduceSub,Array.replicate_succ,Array.replicate_zero,List.push_toArray,List.append_toArray,List.nil_append,List.cons_append]
    gi_wp2
    gi_loopw [9] (fun i wr=>∃ (k:Nat) (r:Ts) (ys:List (TV w0)),i=.int .i64 k∧k+r.len=ts.len∧r.size≤ts.size∧TsAt w0 r b (o+k*3)∧(ys.map TV.t) ++ r.terms=ts.terms∧J (pre ++ ys) wr∧KL L K W wr∧Ext w0 wr) (fun i _=>ts.len - (intOf i).toNat)
    case atStart=>exact⟨0,ts,[],rfl,by omega,Nat.le_refl _,by simpa using ht,rfl,by simpa using hj3.out,KL.refl _ _ _,hE⟩
    case round =>
      obtain⟨k',r,ys,rfl,hk',hr,hat,hys,hj4,hk4,hE4⟩:=hrel
      cases r with
      | nil =>
        simp only[Ts.len] at hk'
        have hkk:k'=ts.len:=by omega
        subst hkk
        simp only[Ts.terms,List.append_nil] at hys
        gi_wp2
        go_ret
        exact .inl ⟨rfl,ys,hys,hj4,hk4⟩
      | cons v nm t1 r' =>
        simp only[Ts.len] at hk'
        simp only[TsAt] at hat
        obtain⟨c0,c1,⟨s,c2,hs2⟩,hat'⟩:=hat
        have hchild:TVal w0 ⟨v,nm,t1⟩ (.agg #[.bool v,.string nm,s]):=⟨s,rfl,hs2⟩
        have hs3:=h_X hs2
        obtain⟨ps,cs,rfl,-⟩:=hs2
        rcases hp with hp | hp
        · omega
        subst hp
        have hlt:(k':Int) < (ts.len:Int):=by omega
        simp only[Ts.size] at hr
        have hsz:t1.size < k∧t1.size≤1000000:=by omega
        have e0:=hE4 _ _ _ c0
        have e1:=hE4 _ _ _ c1
        have e2:=hE4 _ _ _ c2
        clear c0 c1 c2
        have hT4:(pre ++ ys).map TV.t ++ (⟨v,nm,t1⟩ :: (t1.terms ++ r'.terms)) <+: T:=by
          rw[List.map_append,List.append_assoc]
          refine List.IsPrefix.trans ?_ hTh.out
          rw[List.prefix_append_right_inj,←hys]
          exact List.prefix_refl _
        have hT4':=h_X hT4
        obtain⟨fn,tmps,assign,body,hy,hR⟩:=hYh.out (n - 1) (pre ++ ys) ⟨(⟨v,nm,t1⟩,_),hchild⟩ (wr.alloc (.cells #[.bool v,.string nm,.slice ps t1.len cs] 46)) (hJ.alloc _ hj4) (by
          refine List.IsPrefix.trans ?_ hT4
          rw[List.map_append,List.prefix_append_right_inj]
          exact⟨_,rfl⟩)
        replace hR:=h_X hR
        clear hT4
        have hBr:=hk4.1
        gi_wp2
        refine⟨hdd _,hR.out.mono ?_⟩
        clear hR hy
        rintro e W2 (⟨rfl,hj5,hk5⟩ | ⟨rfl,hx5,hn5⟩)
        · have b2:W2.cell? ⟨wr.heap.size,2,none⟩=some (.slice ps t1.len cs):=hk5.2.1 _ _ _ (fun hb=>by have:=(hL _ hb).2;omega) (by rw[cell_new];rfl)
          have hE5:Ext w0 W2:=(hE4.trans (Ext.of_below (bel_laid wr _))).keep hk5 (fun b hb=>(hL b hb).1)
          have hk6:KL L K W W2:=hk4.trans ((KL.of_below (bel_laid wr _)).trans hk5)
          clear hk5 hk4
          have hcall:=h_X (fun m=>hih.out _ hsz.1 t1 _ rfl hsz.2 hs3.out m _ W2 (by have:=hk6.1;omega) hE5 hj5 (by
            refine List.IsPrefix.trans ?_ hT4'.out
            rw[List.map_append,List.append_assoc,List.prefix_append_right_inj]
            exact⟨r'.terms,by simp[TV.t]⟩))
          gi_wp2
          refine⟨trivial,hdd _,(hcall.out _).mono ?_⟩
          clear hcall
          rintro e W5 (⟨rfl,zs,hzs,hj7,hk7⟩ | ⟨rfl,zs,hzs,hx7,hn7⟩)
          · gi_wp2
            go_roundw
            case rel =>
              refine⟨k'+1,r',ys ++ (⟨(⟨v,nm,t1⟩,_),hchild⟩ :: zs),by go_num,by omega,by omega,?_,?_,?_,hk6.trans hk7,hE5.keep hk7 (fun b hb=>(hL b hb).1)⟩
              · rwa [show o+(k'+1)*3=o+k'*3+3 by omega]
              · rw[List.map_append,List.map_cons,hzs,←hys];simp[Ts.terms,TV.t]
              · have e:pre ++ (ys ++ (⟨(⟨v,nm,t1⟩,_),hchild⟩ :: zs))=pre ++ ys ++ [⟨(⟨v,nm,t1⟩,_),hchild⟩] ++ zs:=by simp
                rw[e];exact hj7
            case measure=>simp[intOf];omega
          · gi_wp2
            go_ret
            refine .inr ⟨rfl,ys ++ (⟨(⟨v,nm,t1⟩,_),hchild⟩ :: zs),?_,?_,keeps_trans (hk6.from (Nat.le_refl _)) hn7⟩
            · rw[List.map_append,List.map_cons,←hys,List.prefix_append_right_inj]
              exact(List.prefix_cons_inj _).2 (hzs.trans ⟨r'.terms,rfl⟩)
            · have e:pre ++ (ys ++ (⟨(⟨v,nm,t1⟩,_),hchild⟩ :: zs))=pre ++ ys ++ [⟨(⟨v,nm,t1⟩,_),hchild⟩] ++ zs:=by simp
              rw[e];exact hx7
        · gi_wp2
          refine⟨trivial,?_⟩
          gi_wp2
          go_ret
          refine .inr ⟨rfl,ys ++ [⟨(⟨v,nm,t1⟩,_),hchild⟩],?_,?_,keeps_trans (hk4.from (Nat.le_refl _)) (keeps_trans ((KL.of_below (L:=L) (bel_laid wr _)).from (Nat.le_refl _)) hn5)⟩
          · rw[List.map_append,←hys,List.prefix_append_right_inj]
            exact⟨_,rfl⟩
          · rw[←List.append_assoc];exact hx5
end Go.Proofs.YtngdieldgnlogaaGreatDoor
namespace Go.Proofs.YtngdieldgnlogaaGreatDoor
open Go Go.RowKit Go.Shelf
set_option maxRecDepth 100000
attribute [local go_sem] Oper.semAt_some
theorem OwnFrom.more {β:Type} {B B':Nat} {I:β→World→Prop} (h:OwnFrom B I) (hB:B≤B'):OwnFrom B' I :=
 fun s W W' row hs hg hr=>h s W W' row hs hg (fun r e=>⟨Nat.le_trans hB (hr r e).1,(hr r e).2⟩)
theorem Ext.grown {w A B:World} {row:Option Nat} (h:Ext w A) (hg:A.grownBy B row) (hr:∀ r,row=some r→∃ o:Obj,A.heap[r]? = some o∧o.isCells=false):Ext w B :=
 fun b o v hc=>cell_kept (h b o v hc) hg hr
theorem bel_grown {W W':World} (h:Below W.heap.size W W'):W.grownBy W' none:=⟨h.os,h.tape,h.output,h.size,fun k hk _=>h.block k hk⟩
theorem parts_terms_prefix {a b:List FT} (h:a <+: b):(a.flatMap fun p=>p.ts.terms) <+: (b.flatMap fun p=>p.ts.terms):=by
 obtain⟨c,rfl⟩:=h
 exact⟨c.flatMap fun p=>p.ts.terms,by simp⟩
theorem terms_any (v:Value) (w:World) (f:FT) (hv:FVal w f v) :
  Calls Tryz.prog 69 #[v] w fun e w'=>e=.returned (.func (.func 106) #[] #[.pointer (some ⟨w.heap.size,0,none⟩)])∧Below w.heap.size w w'∧w.heap.size < w'.heap.size ∧
   (∃ sa ss,v=.agg #[.int .u8 f.op,.string f.n,sa,ss]∧Boxed4 w' w.heap.size f.op f.n sa ss):=by
 obtain⟨sa,ss,rfl,ha,hss⟩:=hv
 obtain⟨pa,ca,rfl,-⟩:=id ha
 obtain⟨p,c,rfl,-⟩:=id hss
 go_enter Tryz.func69,Tryz.ntmps69
 go_wp2
 go_ret
 exact⟨rfl,bel_laid _ _,by simp,_,_,rfl,Boxed4.laid _ _ _ _ _ _⟩
theorem mem_ts_size (T:Fs):∀ f∈T.parts,f.ts.size≤T.size:=by
 induction T with
 | nil=>intro f h;simp[Fs.parts] at h
 | cons op n ts sub r ih1 ih2 =>
  intro f h
  simp only[Fs.parts,List.mem_cons,List.mem_append] at h
  simp only[Fs.size]
  rcases h with rfl | h | h
  ·simp only[];omega
  ·have:=ih1 f h;omega
  ·have:=ih2 f h;omega
theorem mem_parts_size {f p:FT} (h:p∈f.parts):p.ts.size≤f.size:=by
 simp only[FT.parts,List.mem_cons] at h
 simp only[FT.size]
 rcases h with rfl | h
 ·omega
 ·have:=mem_ts_size f.sub p h;omega
set_option maxHeartbeats 2000000 in
theorem terms_seq (f:FT) (hs:f.size≤1000000) (g K:Nat) (L:List Nat) (w0 w1:World) (sa ss:Value) (hE1:Ext w0 w1) (hb:Boxed4 w1 g f.op f.n sa ss) (hv:FVal w0 f (.agg #[.int .u8 f.op,.string f.n,sa,ss])) (n:Nat)
  (hL:∀ b∈L,w0.heap.size≤b∧b < w1.heap.size):SeqO n Tryz.prog 106 #[.pointer (some ⟨g,0,none⟩)] (fun x:TV w0=>#[x.1.2]) (KL L K) TV.t f.terms w1 K:=by
 intro l J Jx W hW hKW hJ hJx hY h0
 obtain⟨sa',ss',he,ha,hss⟩:=id hv
 simp at he
 obtain⟨rfl,rfl⟩:=he
 have hE:Ext w0 W:=hE1.trans (Ext.of_below hW)
 obtain⟨pa,ca,rfl,-⟩:=id ha
 obtain⟨p,c,rfl,-⟩:=id hss
 obtain⟨d0,d1,d2,d3⟩:=Boxed4.below hW hb
 have hgW:=lt_of_cell d0
 have hL':∀ b∈L,w0.heap.size≤b∧b < W.heap.size:=fun b hb=>⟨(hL b hb).1,by have:=(hL b hb).2;have:=hW.size;omega⟩
 have hYh:=h_X hY
 have hvh:=h_X hv
 have hLh:=h_X hL'
 clear hY hv hL hL' hW
 refine callsIn_of_wp_marks Tryz.func106 rfl trivial ?_ rfl
 simp only[Tryz.ntmps106,List.size_toArray,List.length_cons,List.length_nil,Nat.reduceAdd,Nat.reduceSub,Array.replicate_succ,Array.replicate_zero,List.push_toArray,List.append_toArray,List.nil_append,List.cons_append]
 gi_wp2
 have hPA:=parts_any (.agg #[.int .u8 f.op,.string f.n,.slice pa f.ts.len ca,.slice p f.sub.len c]) (W.alloc (.cells #[.func (.yield l) #[] #[]] 44)) f (FVal.ext (hE.trans (Ext.of_below (bel_laid _ _))) hvh.out)
 refine⟨trivial,hdd _,(callsIn_wide.2 hPA).mono ?_⟩
 clear hPA
 rintro e W2 ⟨rfl,hb2,hlt2,sa2,ss2,he2,hbox⟩
 simp at he2
 obtain⟨rfl,rfl⟩:=he2
 have hWW:Below W.heap.size W W2:=bS (bel_laid W _) hb2
 have hy2:W2.cell? ⟨W.heap.size,0,none⟩=some (.func (.yield l) #[] #[]):=c_B hb2 (by rw[cell_new];rfl)
 rw[World.size_alloc] at hlt2 hbox ⊢
 have hE2:Ext w0 W2:=hE.trans (Ext.of_below hWW)
 have h02:J [] W2:=hJ _ _ _ none h0 (bel_grown hWW) (fun r e=>by cases e)
 have hBW:W.heap.size≤W2.heap.size:=hWW.size
 clear hb2
 gi_wp2
 refine wpIn_rangeFunc_O (gf:=100) (lb:=#[.pointer (some ⟨W.heap.size+1,0,none⟩)]) (w0:=W2) (T:=f.parts) (tr:=FV.t) (Kp:=KL L (W2.heap.size+2)) (encs:=fun x:FV w0=>#[x.1.2]) rfl (enters_of Tryz.func100 (by kernel_rfl) rfl)
  (parts_seq f hs (W.heap.size+1) (W2.heap.size+2) L w0 W2 _ _ hE2 hbox hvh.out _ (fun b hb=>⟨(hLh.out b hb).1,by have:=(hLh.out b hb).2;omega⟩)) (fun h h'=>h.trans h') (fun V l' o o' h1 h2 ho hc _=>KL.put o' ho hc h2) (Below.refl _ _) (fun _=>rfl)
  (fun pre V=>(∃ ys:List (TV w0),ys.map TV.t=((pre.map FV.t).flatMap fun p=>p.ts.terms)∧J ys V)∧Ext w0 V∧V.cell? ⟨W.heap.size,0,none⟩=some (.func (.yield l) #[] #[])∧W2.heap.size≤V.heap.size)
  (fun cd pre V=>cd=.ret∧∃ ys:List (TV w0),(ys.map TV.t <+: ((pre.map FV.t).flatMap fun p=>p.ts.terms))∧Jx ys V)
  ?hI ?hIx ?h0
  (fun x a' V=>∃ (bx:Nat) (sx:Value),W2.heap.size≤bx∧TSl w0 (FV.t x).ts sx∧V.cell? ⟨bx,2,none⟩=some sx∧a' = { tmps:=#[.func (.yield l) #[] #[],.pointer (some ⟨g,0,none⟩),.pointer (some ⟨W.heap.size,0,none⟩),.pointer (some ⟨bx,0,none⟩),.agg #[.int .u8 f.op,.string f.n,.slice pa f.ts.len ca,.slice p f.sub.len c],.func (.func 100) #[] #[.pointer (some ⟨W.heap.size+1,0,none⟩)],x.1.2,undef,undef,undef,undef,undef],defers:=[] })
  ?hAx ?assign ?body ?done ?stop
 case hI =>
  rintro pre A B row ⟨⟨ys,hys,hj⟩,hE3,hy3,hs3⟩ hg hr
  have hr':∀ r,row=some r→∃ o:Obj,A.heap[r]? = some o∧o.isCells=false:=fun r e=>(hr r e).2
  exact⟨⟨ys,hys,(OwnFrom.more hJ hBW) _ _ _ _ hj hg hr⟩,Ext.grown hE3 hg hr',cell_kept hy3 hg hr',Nat.le_trans hs3 hg.size⟩
 case hIx =>
  rintro cd pre A B row ⟨hc,ys,hys,hj⟩ hg hr
  exact⟨hc,ys,hys,(OwnFrom.more hJx hBW) _ _ _ _ hj hg hr⟩
 case h0=>exact⟨⟨[],rfl,h02⟩,hE2,hy2,Nat.le_refl _⟩
 case hAx =>
  rintro x a' _ A B row ⟨bx,sx,h1,h2,h3,h4⟩ hg hr
  exact⟨bx,sx,h1,h2,cell_kept h3 hg (fun r e=>(hr r e).2),h4⟩
 case assign =>
  rintro m l' pre ⟨⟨ft,vx⟩,hvx⟩ V Kq hi hK
  obtain⟨sx,tx,hvx',hx1,hx2⟩:=id hvx
  simp only at hvx'
  subst hvx'
  replace hx1:TSl w0 ft.ts sx:=hx1
  replace hx2:FSl w0 ft.sub tx:=hx2
  obtain⟨px,cx,hsx,-⟩:=id hx1
  subst hsx
  obtain⟨py,cy,hsy,-⟩:=id hx2
  subst hsy
  have hK':=h_X hK
  clear hK
  gi_wp2
  obtain⟨⟨ys,hys,hj⟩,hE3,hy3,hs3⟩:=hi
  have hl:=bel_laid V (.cells #[.int .u8 ft.op,.string ft.n,.slice px ft.ts.len cx,.slice py ft.sub.len cy] 25)
  refine hK'.out _ _ ((KL.of_below (L:=L) (K:=W2.heap.size) hl).from (Nat.le_refl _)) (KL.of_below hl) ⟨⟨ys,hys,OwnFrom.alloc hJ _ hj⟩,hE3.trans (Ext.of_below hl),c_B hl hy3,by simp;omega⟩ ⟨V.heap.size,_,hs3,hx1,by rw[cell_new];rfl,rfl⟩
 case body =>
  rintro m l' pre ⟨⟨ft,vx⟩,hvx⟩ a' V hl' ⟨rr,hrr⟩ ⟨⟨ys,hys,hj⟩,hE3,hy3,hs3⟩ ⟨bx,sx,hbx,hx1,hx3,rfl⟩ hpre
  replace hx1:TSl w0 ft.ts sx:=hx1
  obtain⟨px,cx,hsx,-⟩:=id hx1
  subst hsx
  have hft:ft.ts.size≤1000000:=by
   have hm:ft∈f.parts:=hpre.subset (by simp[FV.t])
   have:=mem_parts_size hm
   omega
  have hT:ys.map TV.t ++ ft.ts.terms <+: f.terms:=by
   rw[hys]
   have:=parts_terms_prefix hpre
   refine List.IsPrefix.trans ?_ this
   simp[FV.t]
  have hcall:=h_X (fun m=>eachTerm_in w0 l W.heap.size K L hLh.out f.terms J Jx hJ hYh.out ft.ts.size ft.ts _ rfl hft hx1 m ys V (by omega) hE3 hj hT)
  gi_wp2
  refine⟨trivial,hdd _,(hcall.out _).mono ?_⟩
  clear hcall
  rintro e V2 (⟨rfl,zs,hzs,hj7,hk7⟩ | ⟨rfl,zs,hzs,hx7,hn7⟩)
  ·gi_wp2
   refine⟨hk7.from (by omega),hk7.more (by omega),⟨ys ++ zs,?_,hj7⟩,hE3.keep hk7 (fun b hb=>(hLh.out b hb).1),hk7.2.1 _ _ _ (fun hb=>by have:=(hLh.out _ hb).2;omega) hy3,Nat.le_trans hs3 hk7.1⟩
   rw[List.map_append,hys,hzs]
   simp[FV.t]
  ·gi_wp2
   refine⟨keeps_more hn7 (by omega),rfl,ys ++ zs,?_,hx7⟩
   rw[List.map_append,hys,List.map_append,List.flatMap_append,List.prefix_append_right_inj]
   simpa[FV.t] using hzs
 case done =>
  rintro D xs V hD hxs ⟨⟨ys,hys,hj⟩,-⟩ hd
  gi_wp2
  refine⟨by simp,.inl ⟨_,_,rfl,run_takeDeferred hd,_,results_none rfl _ _ _,?_⟩⟩
  exact⟨⟨_,rfl⟩,.inl ⟨ys,by rw[hys,hxs];rfl,OwnFrom.putObj hJ _ hj (by omega) hd rfl⟩⟩
 case stop =>
  rintro D cd pre V hD hpre ⟨rfl,ys,hys,hj⟩ hd
  gi_wp2
  refine⟨by simp,.inl ⟨_,_,rfl,run_takeDeferred hd,_,results_none rfl _ _ _,?_⟩⟩
  exact⟨⟨_,rfl⟩,.inr ⟨ys,hys.trans (parts_terms_prefix hpre),OwnFrom.putObj hJx _ hj (by omega) hd rfl⟩⟩
end Go.Proofs.YtngdieldgnlogaaGreatDoor
namespace Go.Proofs.YtngdieldgnlogaaGreatDoor
open Go Go.RowKit Go.Shelf
set_option maxRecDepth 100000
attribute [local go_sem] Oper.semAt_some
theorem KL.set {L:List Nat} {K b:Nat} (V:World) (u:Value) (hb:b∈L):KL L K V (V.setCell ⟨b,0,none⟩ u) :=
 ⟨(KeepsOthers.setCell V ⟨b,0,none⟩ u).size,fun b' o v hn hc=>by
  rw[World.cell?_setCell_far _ _ _ _ (fun e=>hn (by rw[←show b=b' from e];exact hb))]
  exact hc,fun k o _ ho hn=>(KeepsOthers.setCell V ⟨b,0,none⟩ u).same k o ho hn⟩
theorem bel_put {B D:Nat} (V:World) (o:Obj) (h:B≤D):Below B V (V.putObj D o):=⟨rfl,rfl,rfl,by simp[World.putObj],fun k hk=>World.putObj_heap_other (by omega)⟩
set_option maxHeartbeats 2000000 in
theorem countF_any (f:FT) (hs:f.size≤1000000) (g N:Nat) (hN:(N:Int)≤9223372036854775807) (w:World) (sa ss:Value) (hb:Boxed4 w g f.op f.n sa ss) (hv:FVal w f (.agg #[.int .u8 f.op,.string f.n,sa,ss])) :
  Calls Tryz.prog 67 #[.func (.func 100) #[] #[.pointer (some ⟨g,0,none⟩)],.int .i64 N] w fun e w'=>e=.returned (.int .i64 (min f.parts.length N:Nat))∧Below w.heap.size w w':=by
 refine(callsIn_wide (n:=9)).1 ?_
 have hbh:=h_X hb
 have hvh:=h_X hv
 have hgw:=lt_of_cell hb.1
 clear hb hv
 refine callsIn_of_wp_marks Tryz.func67 rfl trivial ?_ rfl
 simp only[Tryz.ntmps67,List.size_toArray,List.length_cons,List.length_nil,Nat.reduceAdd,Nat.reduceSub,Array.replicate_succ,Array.replicate_zero,List.push_toArray,List.append_toArray,List.nil_append,List.cons_append]
 gi_wp2
 obtain⟨W1,hW1⟩:∃ W1,(w.alloc (.cells #[.int .i64 (N:Int)] 3)).alloc (.cells #[.int .i64 0] 3)=W1:=⟨_,rfl⟩
 have hB1:Below w.heap.size w W1:=by rw[←hW1];exact Below.alloc (bel_laid _ _) (by simp) _
 have cm:W1.cell? ⟨w.heap.size,0,none⟩=some (.int .i64 (N:Int)):=by
  rw[←hW1]
  exact c_B (bel_laid _ _) (by rw[cell_new];rfl)
 have cn:W1.cell? ⟨w.heap.size+1,0,none⟩=some (.int .i64 ((0:Nat):Int)):=by
  have:=cell_new (w.alloc (.cells #[.int .i64 (N:Int)] 3)) #[.int .i64 0] 3 0
  rw[World.size_alloc] at this
  rw[←hW1];exact this
 have fn:W1.frozen? ⟨w.heap.size+1,0,none⟩=false:=by
  rw[←hW1]
  have:=World.frozen?_alloc_mark (w.alloc (.cells #[.int .i64 (N:Int)] 3)) #[.int .i64 0] 3 0 0 0
  rw[World.size_alloc] at this
  simp
 have hsz:W1.heap.size=w.heap.size+2:=by rw[←hW1];simp
 rw[hW1]
 clear hW1
 refine wpIn_rangeFunc_O (gf:=100) (lb:=#[.pointer (some ⟨g,0,none⟩)]) (w0:=W1) (T:=f.parts) (tr:=FV.t) (Kp:=KL [w.heap.size+1] (W1.heap.size+2)) (encs:=fun x:FV w=>#[x.1.2]) rfl (enters_of Tryz.func100 (by kernel_rfl) rfl)
  (parts_seq f hs g (W1.heap.size+2) [w.heap.size+1] w W1 sa ss (Ext.of_below hB1) (Boxed4.below hB1 hbh.out) hvh.out _ (fun b hb=>by simp at hb;omega)) (fun h h'=>h.trans h') (fun V l' o o' h1 h2 ho hc _=>KL.put o' ho hc h2) (Below.refl _ _) (fun _=>rfl)
  (fun pre V=>V.cell? ⟨w.heap.size+1,0,none⟩=some (.int .i64 (pre.length:Int))∧V.frozen? ⟨w.heap.size+1,0,none⟩=false∧V.cell? ⟨w.heap.size,0,none⟩=some (.int .i64 (N:Int))∧pre.length≤N∧Below w.heap.size w V)
  (fun cd pre V=>cd=.exit 0∧V.cell? ⟨w.heap.size+1,0,none⟩=some (.int .i64 (N:Int))∧N < pre.length∧Below w.heap.size w V)
  ?hI ?hIx ⟨cn,fn,cm,Nat.zero_le _,hB1⟩
  (fun x a' _=>a' = { tmps:=#[.func (.func 100) #[] #[.pointer (some ⟨g,0,none⟩)],.int .i64 (N:Int),undef,.pointer (some ⟨w.heap.size,0,none⟩),.int .i64 0,.pointer (some ⟨w.heap.size+1,0,none⟩),.func (.func 100) #[] #[.pointer (some ⟨g,0,none⟩)],x.1.2,undef,undef,undef,undef,undef,undef],defers:=[] })
  (fun _ _ _ _ _ _ h _ _=>h) ?assign ?body ?done ?stop
 case hI =>
  rintro pre A B row ⟨h1,h2,h3,h4,h5⟩ hg hr
  have hr':∀ r,row=some r→∃ o:Obj,A.heap[r]? = some o∧o.isCells=false:=fun r e=>(hr r e).2
  exact⟨cell_kept h1 hg hr',(frozen_kept h1 hg hr').trans h2,cell_kept h3 hg hr',h4,h5.grown hg h5.size (fun k e=>by have:=(hr k e).1;omega)⟩
 case hIx =>
  rintro cd pre A B row ⟨hc,h1,h4,h5⟩ hg hr
  exact⟨hc,cell_kept h1 hg (fun r e=>(hr r e).2),h4,h5.grown hg h5.size (fun k e=>by have:=(hr k e).1;omega)⟩
 case assign =>
  rintro m l' pre x V Kq hi hK
  have hK':=h_X hK
  clear hK
  gi_wp2
  exact hK'.out _ _ (KeepsFrom.refl _ _) (KL.refl _ _ _) hi (by simp)
 case body =>
  rintro m l' pre x a' V hl' - ⟨h1,h2,h3,h4,h5⟩ rfl hpre
  by_cases hq:pre.length=N
  ·have hq':(pre.length:Int)=(N:Int):=by omega
   rw[hq'] at h1
   have hee:((N:Int) == (N:Int))=true:=by simp
   gi_wp2
   exact⟨KeepsFrom.refl _ _,rfl,h1,by simp;omega,h5⟩
  ·have hq':((pre.length:Int) == (N:Int))=false:=beq_eq_false_iff_ne.2 (by omega)
   have hlt:(pre.length:Int) < (N:Int):=by omega
   gi_wp2
   refine⟨(KeepsOthers.setCell _ _ _).from _,KL.set _ _ (by simp),?_,by rw[World.frozen?_setCell];exact h2,?_,by simp;omega,h5.setCell (p:=⟨w.heap.size+1,0,none⟩) (by simp) _⟩
   ·rw[List.length_append]
    exact World.cell?_setCell_same _ _ _ h1
   ·rw[World.cell?_setCell_far _ _ _ _ (by simp)]
    exact h3
 case done =>
  rintro D xs V hD hxs ⟨h1,h2,h3,h4,h5⟩ hd
  gi_wp2
  refine⟨by simp,.inl ⟨_,_,rfl,run_takeDeferred hd,_,results_tmp rfl _ _ _,?_⟩⟩
  have hl:f.parts.length=xs.length:=by rw[←hxs];simp
  rw[hl,Nat.min_eq_left h4]
  exact⟨rfl,h5.trans (bel_put _ _ (by omega))⟩
 case stop =>
  rintro D cd pre V hD hpre ⟨rfl,h1,h4,h5⟩ hd
  gi_wp2
  refine⟨by simp,.inl ⟨_,_,rfl,run_takeDeferred hd,_,results_tmp rfl _ _ _,?_⟩⟩
  have hl:=hpre.length_le
  rw[List.length_map] at hl
  rw[Nat.min_eq_right (by omega)]
  exact⟨rfl,h5.trans (bel_put _ _ (by omega))⟩
set_option maxHeartbeats 2000000 in
theorem countT_any (f:FT) (hs:f.size≤1000000) (g N:Nat) (hN:(N:Int)≤9223372036854775807) (w:World) (sa ss:Value) (hb:Boxed4 w g f.op f.n sa ss) (hv:FVal w f (.agg #[.int .u8 f.op,.string f.n,sa,ss])) :
  Calls Tryz.prog 68 #[.func (.func 106) #[] #[.pointer (some ⟨g,0,none⟩)],.int .i64 N] w fun e w'=>e=.returned (.int .i64 (min f.terms.length N:Nat))∧Below w.heap.size w w':=by
 refine(callsIn_wide (n:=9)).1 ?_
 have hbh:=h_X hb
 have hvh:=h_X hv
 have hgw:=lt_of_cell hb.1
 clear hb hv
 refine callsIn_of_wp_marks Tryz.func68 rfl trivial ?_ rfl
 simp only[Tryz.ntmps68,List.size_toArray,List.length_cons,List.length_nil,Nat.reduceAdd,Nat.reduceSub,Array.replicate_succ,Array.replicate_zero,List.push_toArray,List.append_toArray,List.nil_append,List.cons_append]
 gi_wp2
 obtain⟨W1,hW1⟩:∃ W1,(w.alloc (.cells #[.int .i64 (N:Int)] 3)).alloc (.cells #[.int .i64 0] 3)=W1:=⟨_,rfl⟩
 have hB1:Below w.heap.size w W1:=by rw[←hW1];exact Below.alloc (bel_laid _ _) (by simp) _
 have cm:W1.cell? ⟨w.heap.size,0,none⟩=some (.int .i64 (N:Int)):=by
  rw[←hW1]
  exact c_B (bel_laid _ _) (by rw[cell_new];rfl)
 have cn:W1.cell? ⟨w.heap.size+1,0,none⟩=some (.int .i64 ((0:Nat):Int)):=by
  have:=cell_new (w.alloc (.cells #[.int .i64 (N:Int)] 3)) #[.int .i64 0] 3 0
  rw[World.size_alloc] at this
  rw[←hW1];exact this
 have fn:W1.frozen? ⟨w.heap.size+1,0,none⟩=false:=by
  rw[←hW1]
  have:=World.frozen?_alloc_mark (w.alloc (.cells #[.int .i64 (N:Int)] 3)) #[.int .i64 0] 3 0 0 0
  rw[World.size_alloc] at this
  simp
 have hsz:W1.heap.size=w.heap.size+2:=by rw[←hW1];simp
 rw[hW1]
 clear hW1
 refine wpIn_rangeFunc_O (gf:=106) (lb:=#[.pointer (some ⟨g,0,none⟩)]) (w0:=W1) (T:=f.terms) (tr:=TV.t) (Kp:=KL [w.heap.size+1] (W1.heap.size+2)) (encs:=fun x:TV w=>#[x.1.2]) rfl (enters_of Tryz.func106 (by kernel_rfl) rfl)
  (terms_seq f hs g (W1.heap.size+2) [w.heap.size+1] w W1 sa ss (Ext.of_below hB1) (Boxed4.below hB1 hbh.out) hvh.out _ (fun b hb=>by simp at hb;omega)) (fun h h'=>h.trans h') (fun V l' o o' h1 h2 ho hc _=>KL.put o' ho hc h2) (Below.refl _ _) (fun _=>rfl)
  (fun pre V=>V.cell? ⟨w.heap.size+1,0,none⟩=some (.int .i64 (pre.length:Int))∧V.frozen? ⟨w.heap.size+1,0,none⟩=false∧V.cell? ⟨w.heap.size,0,none⟩=some (.int .i64 (N:Int))∧pre.length≤N∧Below w.heap.size w V)
  (fun cd pre V=>cd=.exit 0∧V.cell? ⟨w.heap.size+1,0,none⟩=some (.int .i64 (N:Int))∧N < pre.length∧Below w.heap.size w V)
  ?hI ?hIx ⟨cn,fn,cm,Nat.zero_le _,hB1⟩
  (fun x a' _=>a' = { tmps:=#[.func (.func 106) #[] #[.pointer (some ⟨g,0,none⟩)],.int .i64 (N:Int),undef,.pointer (some ⟨w.heap.size,0,none⟩),.int .i64 0,.pointer (some ⟨w.heap.size+1,0,none⟩),.func (.func 106) #[] #[.pointer (some ⟨g,0,none⟩)],x.1.2,undef,undef,undef,undef,undef,undef],defers:=[] })
  (fun _ _ _ _ _ _ h _ _=>h) ?assign ?body ?done ?stop
 case hI =>
  rintro pre A B row ⟨h1,h2,h3,h4,h5⟩ hg hr
  have hr':∀ r,row=some r→∃ o:Obj,A.heap[r]? = some o∧o.isCells=false:=fun r e=>(hr r e).2
  exact⟨cell_kept h1 hg hr',(frozen_kept h1 hg hr').trans h2,cell_kept h3 hg hr',h4,h5.grown hg h5.size (fun k e=>by have:=(hr k e).1;omega)⟩
 case hIx =>
  rintro cd pre A B row ⟨hc,h1,h4,h5⟩ hg hr
  exact⟨hc,cell_kept h1 hg (fun r e=>(hr r e).2),h4,h5.grown hg h5.size (fun k e=>by have:=(hr k e).1;omega)⟩
 case assign =>
  rintro m l' pre x V Kq hi hK
  have hK':=h_X hK
  clear hK
  gi_wp2
  exact hK'.out _ _ (KeepsFrom.refl _ _) (KL.refl _ _ _) hi (by simp)
 case body =>
  rintro m l' pre x a' V hl' - ⟨h1,h2,h3,h4,h5⟩ rfl hpre
  by_cases hq:pre.length=N
  ·have hq':(pre.length:Int)=(N:Int):=by omega
   rw[hq'] at h1
   have hee:((N:Int) == (N:Int))=true:=by simp
   gi_wp2
   exact⟨KeepsFrom.refl _ _,rfl,h1,by simp;omega,h5⟩
  ·have hq':((pre.length:Int) == (N:Int))=false:=beq_eq_false_iff_ne.2 (by omega)
   have hlt:(pre.length:Int) < (N:Int):=by omega
   gi_wp2
   refine⟨(KeepsOthers.setCell _ _ _).from _,KL.set _ _ (by simp),?_,by rw[World.frozen?_setCell];exact h2,?_,by simp;omega,h5.setCell (p:=⟨w.heap.size+1,0,none⟩) (by simp) _⟩
   ·rw[List.length_append]
    exact World.cell?_setCell_same _ _ _ h1
   ·rw[World.cell?_setCell_far _ _ _ _ (by simp)]
    exact h3
 case done =>
  rintro D xs V hD hxs ⟨h1,h2,h3,h4,h5⟩ hd
  gi_wp2
  refine⟨by simp,.inl ⟨_,_,rfl,run_takeDeferred hd,_,results_tmp rfl _ _ _,?_⟩⟩
  have hl:f.terms.length=xs.length:=by rw[←hxs];simp
  rw[hl,Nat.min_eq_left h4]
  exact⟨rfl,h5.trans (bel_put _ _ (by omega))⟩
 case stop =>
  rintro D cd pre V hD hpre ⟨rfl,h1,h4,h5⟩ hd
  gi_wp2
  refine⟨by simp,.inl ⟨_,_,rfl,run_takeDeferred hd,_,results_tmp rfl _ _ _,?_⟩⟩
  have hl:=hpre.length_le
  rw[List.length_map] at hl
  rw[Nat.min_eq_right (by omega)]
  exact⟨rfl,h5.trans (bel_put _ _ (by omega))⟩
end Go.Proofs.YtngdieldgnlogaaGreatDoor
namespace Go.Proofs.YtngdieldgnlogaaGreatDoor
open Go Go.RowKit
set_option maxRecDepth 100000
set_option linter.unusedVariables false
abbrev fval (f:FT) (sa ss:Value):Value:=.agg #[.int .u8 f.op,.string f.n,sa,ss]
def FS (f:FT) (sa ss:Value) (w:World) (g:Nat) (V:World):Prop :=
 V.cell? ⟨g,0,none⟩=some (.int .u8 f.op)∧V.cell? ⟨g,1,none⟩=some (.string f.n)∧V.cell? ⟨g,2,none⟩=some sa∧V.cell? ⟨g,3,none⟩=some ss∧Kept f sa ss w V
theorem FS.next {f:FT} {sa ss:Value} {w V V':World} {g:Nat} (h:FS f sa ss w g V) (hb:Below V.heap.size V V'):FS f sa ss w g V' :=
 ⟨c_B hb h.1,c_B hb h.2.1,c_B hb h.2.2.1,c_B hb h.2.2.2.1,h.2.2.2.2.next hb⟩
theorem FS.val {f:FT} {sa ss:Value} {w V:World} {g:Nat} (h:FS f sa ss w g V):FVal V f (fval f sa ss):=⟨sa,ss,rfl,h.2.2.2.2.2.1,h.2.2.2.2.2.2⟩
theorem FS.start {f:FT} {sa ss:Value} {w:World} {t:TypeId} (h:FVal w f (fval f sa ss)):FS f sa ss w w.heap.size (w.alloc (.cells #[.int .u8 f.op,.string f.n,sa,ss] t)):=by
 obtain⟨sa',ss',he,h1,h2⟩:=h
 simp at he
 obtain⟨rfl,rfl⟩:=he
 obtain⟨b0,b1,b2,b3⟩:=Boxed4.laid w f.op f.n sa ss t
 exact⟨b0,b1,b2,b3,bel_laid _ _,TSl.below (bel_laid _ _) h1,FSl.below (bel_laid _ _) h2⟩
theorem parts_keep (f:FT) (sa ss:Value) (w:World) (g:Nat) (V:World) (h:FS f sa ss w g V) :
  Calls Tryz.prog 60 #[fval f sa ss] V fun e w'=>e=.returned (.func (.func 100) #[] #[.pointer (some ⟨V.heap.size,0,none⟩)])∧Boxed4 w' V.heap.size f.op f.n sa ss∧FS f sa ss w g w' :=
 (parts_any _ V f h.val).mono fun _ _ ⟨he,hb,_,sa',ss',hv,hbx⟩=>by
  simp at hv
  obtain⟨rfl,rfl⟩:=hv
  exact⟨he,hbx,h.next hb⟩
theorem terms_keep (f:FT) (sa ss:Value) (w:World) (g:Nat) (V:World) (h:FS f sa ss w g V) :
  Calls Tryz.prog 69 #[fval f sa ss] V fun e w'=>e=.returned (.func (.func 106) #[] #[.pointer (some ⟨V.heap.size,0,none⟩)])∧Boxed4 w' V.heap.size f.op f.n sa ss∧FS f sa ss w g w' :=
 (terms_any _ V f h.val).mono fun _ _ ⟨he,hb,_,sa',ss',hv,hbx⟩=>by
  simp at hv
  obtain⟨rfl,rfl⟩:=hv
  exact⟨he,hbx,h.next hb⟩
theorem countF_keep (f:FT) (hs:f.size≤1000000) (N:Nat) (hN:(N:Int)≤9223372036854775807) (sa ss:Value) (w:World) (g g2:Nat) (V:World) (hb:Boxed4 V g2 f.op f.n sa ss) (h:FS f sa ss w g V) :
  Calls Tryz.prog 67 #[.func (.func 100) #[] #[.pointer (some ⟨g2,0,none⟩)],.int .i64 N] V fun e w'=>e=.returned (.int .i64 (min f.parts.length N:Nat))∧FS f sa ss w g w' :=
 (countF_any f hs g2 N hN V sa ss hb h.val).mono fun e w' ⟨he,hb⟩=>⟨he,h.next hb⟩
theorem countT_keep (f:FT) (hs:f.size≤1000000) (N:Nat) (hN:(N:Int)≤9223372036854775807) (sa ss:Value) (w:World) (g g2:Nat) (V:World) (hb:Boxed4 V g2 f.op f.n sa ss) (h:FS f sa ss w g V) :
  Calls Tryz.prog 68 #[.func (.func 106) #[] #[.pointer (some ⟨g2,0,none⟩)],.int .i64 N] V fun e w'=>e=.returned (.int .i64 (min f.terms.length N:Nat))∧FS f sa ss w g w' :=
 (countT_any f hs g2 N hN V sa ss hb h.val).mono fun e w' ⟨he,hb⟩=>⟨he,h.next hb⟩
set_option maxHeartbeats 2000000 in
theorem few_any (f:FT) (hs:f.size≤1000000) (N:Nat) (hN:N≤1000000) (v:Value) (w:World) (hv:FVal w f v) :
  Calls Tryz.prog 59 #[v,.int .i64 N] w fun e w'=>e=.returned (.bool (decide (f.size≤N)))∧Below w.heap.size w w':=by
 obtain⟨sa,ss,rfl,ha,hss⟩:=id hv
 obtain⟨pa,ca,hsa,-⟩:=id ha
 obtain⟨p,c,hsb,-⟩:=id hss
 subst hsa hsb
 have hst:=FS.start (t:=25) hv
 have HP:=h_X (fun V g=>parts_keep f (.slice pa f.ts.len ca) (.slice p f.sub.len c) w g V)
 have HT:=h_X (fun V g=>terms_keep f (.slice pa f.ts.len ca) (.slice p f.sub.len c) w g V)
 have HCF:=h_X (fun V g g2=>countF_keep f hs (N+1) (by omega) (.slice pa f.ts.len ca) (.slice p f.sub.len c) w g g2 V)
 have HCT:=h_X (fun V g g2 (M:Nat) (hM:(M:Int)≤9223372036854775807)=>countT_keep f hs M hM (.slice pa f.ts.len ca) (.slice p f.sub.len c) w g g2 V)
 have hall:=f.length_all
 obtain⟨np,hnp⟩:∃ np,f.parts.length=np:=⟨_,rfl⟩
 obtain⟨nt,hnt⟩:∃ nt,f.terms.length=nt:=⟨_,rfl⟩
 rw[hnp,hnt] at hall
 rw[hnp] at HCF
 simp only[hnt] at HCT
 clear hnp hnt ha hss hv
 have e1:((N+1:Nat):Int)=(N:Int)+1:=by omega
 rw[e1] at HCF
 go_enter Tryz.func59,Tryz.ntmps59
 go_wp2_with fail
 refine(HP.out _ _ hst).mono ?_
 rintro e W2 ⟨rfl,hbx,hS2⟩
 generalize (w.alloc (.cells #[.int .u8 f.op,.string f.n,.slice pa f.ts.len ca,.slice p f.sub.len c] 25)).heap.size=g2 at hbx ⊢
 generalize w.heap.size=g at hS2 ⊢
 go_wp2_with fail
 refine(HCF.out _ g g2 hbx hS2).mono ?_
 rintro e W3 ⟨rfl,hS3⟩
 obtain⟨m,hm⟩:∃ m,min np (N+1)=m:=⟨_,rfl⟩
 rw[hm]
 have hfs:=hS3
 obtain⟨b0,b1,b2,b3,-⟩:=hS3
 by_cases hle:m≤N
 ·have h1:(m:Int)≤(N:Int):=by omega
  go_wp2_with fail
  refine(HT.out _ _ hfs).mono ?_
  rintro e W4 ⟨rfl,hbx4,hS4⟩
  clear hfs hbx b0 b1 b2 b3
  generalize W3.heap.size=g4 at hbx4 ⊢
  obtain⟨q,hq⟩:∃ q,min nt (N+1 - m)=q:=⟨_,rfl⟩
  have h71:=HCT.out W4 g g4 (N+1 - m) (by omega) hbx4 hS4
  rw[hq,show ((N+1 - m:Nat):Int)=(N:Int)+1 - (m:Int) by omega] at h71
  have h71':=h_X h71
  clear h71 hS4 hbx4
  have hqN:(q:Int)≤1000001:=by omega
  go_wp2_with fail
  refine h71'.out.mono ?_
  rintro e W5 ⟨rfl,hS5⟩
  have hfin:decide ((m:Int)+(q:Int)≤(N:Int))=decide (f.size≤N):=by
   by_cases hf:f.size≤N
   ·rw[decide_eq_true hf,decide_eq_true (by omega)]
   ·rw[decide_eq_false hf,decide_eq_false (by omega)]
  have hbel:=hS5.2.2.2.2.1
  clear hS5 h71'
  clear hq
  go_wp2_with fail
  go_ret
  refine⟨?_,hbel⟩
  rw[←hfin]
  rfl
 ·have h1:(N:Int) < (m:Int):=by omega
  have hfin:decide (f.size≤N)=false:=decide_eq_false (by omega)
  go_wp2_with fail
  go_ret
  refine⟨?_,hfs.2.2.2.2.1⟩
  rw[hfin]
  rfl
set_option maxHeartbeats 2000000 in
theorem nodes_any (f:FT) (hs:f.size≤1000000) (v:Value) (w:World) (hv:FVal w f v) :
    Calls Tryz.prog 19 #[v] w fun e w'=>e=.returned (.int .i64 (f.size:Int))∧Below w.heap.size w w':=by
  obtain⟨sa,ss,rfl,ha,hss⟩:=id hv
  obtain⟨pa,ca,hsa,-⟩:=id ha
  obtain⟨p,c,hsb,-⟩:=id hss
  subst hsa hsb
  have hst:=FS.start (t:=25) hv
  have HP:=h_X (fun V g=>parts_keep f (.slice pa f.ts.len ca) (.slice p f.sub.len c) w g V)
  have HT:=h_X (fun V g=>terms_keep f (.slice pa f.ts.len ca) (.slice p f.sub.len c) w g V)
  have HCF:=h_X (fun V g g2=>countF_keep f hs 9223372036854775807 (by decide) (.slice pa f.ts.len ca) (.slice p f.sub.len c) w g g2 V)
  have HCT:=h_X (fun V g g2=>countT_keep f hs 9223372036854775807 (by decide) (.slice pa f.ts.len ca) (.slice p f.sub.len c) w g g2 V)
  have hall:=f.length_all
  rw[Nat.min_eq_left (by omega),show ((9223372036854775807:Nat):Int)=9223372036854775807 from rfl] at HCF HCT
  obtain⟨np,hnp⟩:∃ np,f.parts.length=np:=⟨_,rfl⟩
  obtain⟨nt,hnt⟩:∃ nt,f.terms.length=nt:=⟨_,rfl⟩
  rw[hnp,hnt] at hall
  rw[hnp] at HCF
  rw[hnt] at HCT
  clear hnp hnt ha hss hv
  go_enter Tryz.func19,Tryz.ntmps19
  go_wp2_with fail
  obtain⟨W1,hW1⟩:∃ W1,w.alloc (.cells #[.int .u8 f.op,.string f.n,.slice pa f.ts.len ca,.slice p f.sub.len c] 25)=W1:=⟨_,rfl⟩
  rw[hW1] at hst ⊢
  clear hW1
  have hst2:FS f (.slice pa f.ts.len ca) (.slice p f.sub.len c) w w.heap.size W1.drew:=hst.next (bel_drew W1)
  clear hst
  generalize w.heap.size=g at hst2 ⊢
  go_region_held3 (fun V=>V.cell? ⟨g,0,none⟩=some (.int .u8 f.op)∧V.cell? ⟨g,1,none⟩=some (.string f.n)∧V.cell? ⟨g,2,none⟩=some (.slice pa f.ts.len ca)∧V.cell? ⟨g,3,none⟩=some (.slice p f.sub.len c)∧Kept f (.slice pa f.ts.len ca) (.slice p f.sub.len c) w V) (first | assumption | exact hst2)
    (first
      | (go_at_call 60;with_reducible refine(HP.out _ g (by assumption)).mono ?_;rintro e w' ⟨rfl,hbx,hSS⟩)
      | (go_at_call 67;refine(HCF.out _ g _ hbx hSS).mono ?_;rintro e w' ⟨rfl,hSS⟩)
      | (go_at_call 69;with_reducible refine(HT.out _ g (by assumption)).mono ?_;rintro e w' ⟨rfl,hbx,hSS⟩)
      | (go_at_call 68;refine(HCT.out _ g _ hbx hSS).mono ?_;rintro e w' ⟨rfl,hSS⟩))
  have hw:IntKind.i64.wrap ((np:Int)+(nt:Int))=(f.size:Int):=by
    rw[IntKind.wrap_i64]
    omega
  rw[hw]
  clear hw hall
  have hfin:=hSS.2.2.2.2.1
  clear hSS
  go_wp2
  all_goals go_ret
  all_goals exact⟨rfl,hfin⟩
def FT.fits (f:FT):Bool:=decide (f.size≤400) && decide (f.deep≤40)
set_option maxHeartbeats 1000000 in
theorem fits_any (f:FT) (hs:f.size≤1000000) (v:Value) (w:World) (hv:FVal w f v) :
  Calls Tryz.prog 64 #[v] w fun e w'=>e=.returned (.bool f.fits)∧Below w.heap.size w w':=by
 obtain⟨sa,ss,rfl,ha,hss⟩:=id hv
 obtain⟨pa,ca,hsa,-⟩:=id ha
 obtain⟨p,c,hsb,-⟩:=id hss
 subst hsa hsb
 have hst:=FS.start (t:=25) hv
 have HW:=h_X (few_any f hs 400 (by decide))
 have HD:=h_X (depth_any f)
 clear ha hss hv
 by_cases h1:f.size≤400
 ·have hf1:decide (f.size≤400)=true:=decide_eq_true h1
  rw[hf1] at HW
  obtain⟨bq,hbq⟩:∃ bq,decide (f.deep≤40)=bq:=⟨_,rfl⟩
  have hfe:f.fits=bq:=by rw[←hbq];simp[FT.fits,h1]
  rw[hfe]
  have h4:decide ((f.deep:Int)≤40)=bq:=by rw[←hbq];exact decide_eq_decide.2 (by omega)
  clear hfe hbq
  go_enter Tryz.func64,Tryz.ntmps64
  go_wp2_with fail
  refine(HW.out _ _ hst.val).mono ?_
  rintro e W2 ⟨rfl,hb⟩
  have hS2:=hst.next hb
  clear hst hb
  generalize w.heap.size=g at hS2 ⊢
  have hS:=hS2
  obtain⟨b0,b1,b2,b3,-⟩:=hS2
  go_wp2_with fail
  refine(HD.out _ _ hS.val hs).mono ?_
  rintro e W3 ⟨rfl,hb⟩
  have hS3:=(hS.next hb).2.2.2.2.1
  clear hS hb b0 b1 b2 b3
  go_wp2_with fail
  go_ret
  exact⟨by rw[←h4];rfl,hS3⟩
 ·have hf1:decide (f.size≤400)=false:=decide_eq_false h1
  have hfe:f.fits=false:=by simp[FT.fits,h1]
  rw[hfe]
  rw[hf1] at HW
  clear hfe
  go_enter Tryz.func64,Tryz.ntmps64
  go_wp2_with fail
  refine(HW.out _ _ hst.val).mono ?_
  rintro e W2 ⟨rfl,hb⟩
  have hS2:=(hst.next hb).2.2.2.2.1
  clear hst hb
  go_wp2_with fail
  go_ret
  exact⟨rfl,hS2⟩
end Go.Proofs.YtngdieldgnlogaaGreatDoor
