/- Ops. The reference's Ops. -/
import Derived.Test.YtngdieldgnlogaaGreatDoorMK
import Derived.Test.YtngdieldgnlogaaGreatDoorQN
namespace Go.Proofs.YtngdieldgnlogaaGreatDoor
open Go Go.RowKit Go.Shelf
set_option maxRecDepth 100000
set_option linter.unusedVariables false
attribute [local go_sem] Oper.semAt_some
def bitOf (op:Int):BitVec 32:=BitVec.ofInt 32 (IntKind.u32.wrap (1*2 ^ (min op.toNat 32)))
def maskOf (l:List FT):BitVec 32:=l.foldl (fun m p=>m ||| bitOf p.op) 0#32
def mval (m:BitVec 32):Value:=.int .u32 (m.toNat:Int)
theorem mask_snoc (l:List FT) (p:FT):maskOf (l ++ [p])=maskOf l ||| bitOf p.op:=by simp[maskOf]
theorem wrap_u32 {n:Nat} (h:n < 4294967296):IntKind.u32.wrap (n:Int)=(n:Int):=by
 simp[IntKind.wrap,IntKind.signed,IntKind.bits]
 omega
set_option maxHeartbeats 4000000 in
theorem ops_any (f:FT) (hop:∀ p∈f.parts,0≤p.op) (hs:f.size≤1000000) (v:Value) (w:World) (hv:FVal w f v) :
  Calls Tryz.prog 23 #[v] w fun e w'=>e=.returned (mval (maskOf f.parts))∧Below w.heap.size w w':=by
 refine(callsIn_wide (n:=9)).1 ?_
 have hvh:=h_X hv
 obtain⟨sa,ss,rfl,ha,hss⟩:=hv
 obtain⟨pa,ca,rfl,-⟩:=id ha
 obtain⟨p,cc,rfl,-⟩:=id hss
 clear ha hss
 refine callsIn_of_wp_marks Tryz.func23 rfl trivial ?_ rfl
 simp only[Tryz.ntmps23,List.size_toArray,List.length_cons,List.length_nil,Nat.reduceAdd,Nat.reduceSub,Array.replicate_succ,Array.replicate_zero,List.push_toArray,List.append_toArray,List.nil_append,List.cons_append]
 gi_wp2
 have hPA:=parts_any (.agg #[.int .u8 f.op,.string f.n,.slice pa f.ts.len ca,.slice p f.sub.len cc]) ((w.alloc (.cells #[.int .u8 f.op,.string f.n,.slice pa f.ts.len ca,.slice p f.sub.len cc] 25)).alloc (.cells #[.int .u32 0] 35)) f
  (FVal.below (bS (bel_laid w _) (bel_laid _ _)) hvh.out)
 refine⟨trivial,(callsIn_wide.2 hPA).mono ?_⟩
 clear hPA
 rintro e W2 ⟨rfl,hb2,hlt2,sa2,ss2,he2,hbox⟩
 simp at he2
 obtain⟨rfl,rfl⟩:=he2
 have hWW:Below w.heap.size w W2:=bS (bS (bel_laid w _) (bel_laid _ _)) hb2
 have cn:W2.cell? ⟨w.heap.size+1,0,none⟩=some (mval (maskOf (([]:List (FV w)).map FV.t))):=by
  have k:=cell_new (w.alloc (.cells #[.int .u8 f.op,.string f.n,.slice pa f.ts.len ca,.slice p f.sub.len cc] 25)) #[.int .u32 0] 35 0
  rw[World.size_alloc] at k
  exact c_B hb2 k
 have fn:W2.frozen? ⟨w.heap.size+1,0,none⟩=false:=by
  have fz:=World.frozen?_alloc_mark (w.alloc (.cells #[.int .u8 f.op,.string f.n,.slice pa f.ts.len ca,.slice p f.sub.len cc] 25)) #[.int .u32 0] 35 0 0 0
  rw[World.size_alloc] at fz
  refine(World.frozen?_of_block (a:=⟨w.heap.size+1,0,none⟩) (hb2.block _ (by simp))).trans ?_
  simp
 rw[World.size_alloc,World.size_alloc] at hlt2 hbox ⊢
 clear hb2
 gi_wp2
 refine wpIn_rangeFunc_O (gf:=100) (lb:=#[.pointer (some ⟨w.heap.size+1+1,0,none⟩)]) (w0:=W2) (T:=f.parts) (tr:=FV.t) (Kp:=KL [w.heap.size+1] (W2.heap.size+2)) (encs:=fun x:FV w=>#[x.1.2]) rfl (enters_of Tryz.func100 (by kernel_rfl) rfl)
  (parts_seq f hs (w.heap.size+1+1) (W2.heap.size+2) [w.heap.size+1] w W2 _ _ (Ext.of_below hWW) hbox hvh.out _ (fun b hb=>by simp at hb;omega)) (fun h h'=>h.trans h') (fun V l' o o' h1 h2 ho hc _=>KL.put o' ho hc h2) (Below.refl _ _) (fun _=>rfl)
  (fun pre V=>V.cell? ⟨w.heap.size+1,0,none⟩=some (mval (maskOf (pre.map FV.t)))∧V.frozen? ⟨w.heap.size+1,0,none⟩=false∧Below w.heap.size w V)
  (fun cd pre V=>False)
  ?hI ?hIx ⟨cn,fn,hWW⟩
  (fun x a' V=>∃ bx:Nat,V.cell? ⟨bx,0,none⟩=some (.int .u8 (FV.t x).op)∧a' = { tmps:=#[.agg #[.int .u8 f.op,.string f.n,.slice pa f.ts.len ca,.slice p f.sub.len cc],.pointer (some ⟨w.heap.size,0,none⟩),.int .u32 0,.pointer (some ⟨w.heap.size+1,0,none⟩),.pointer (some ⟨bx,0,none⟩),.agg #[.int .u8 f.op,.string f.n,.slice pa f.ts.len ca,.slice p f.sub.len cc],.func (.func 100) #[] #[.pointer (some ⟨w.heap.size+1+1,0,none⟩)],x.1.2,undef,undef,undef,undef,undef,undef],defers:=[] })
  ?hAx ?assign ?body ?done ?stop
 case hI =>
  rintro pre A B row ⟨h1,h2,h5⟩ hg hr
  have hr':∀ r,row=some r→∃ o:Obj,A.heap[r]? = some o∧o.isCells=false:=fun r e=>(hr r e).2
  exact⟨cell_kept h1 hg hr',(frozen_kept h1 hg hr').trans h2,h5.grown hg h5.size (fun k e=>by have:=(hr k e).1;omega)⟩
 case hIx =>
  rintro cd pre A B row h
  exact h.elim
 case hAx =>
  rintro x a' _ A B row ⟨bx,h3,h6⟩ hg hr
  exact⟨bx,cell_kept h3 hg (fun r e=>(hr r e).2),h6⟩
 case assign =>
  rintro m l' pre ⟨⟨ft,vx⟩,hvx⟩ V Kq hi hK
  obtain⟨sx,tx,hvx',hx1,hx2⟩:=id hvx
  simp only at hvx'
  subst hvx'
  replace hx1:TSl w ft.ts sx:=hx1
  replace hx2:FSl w ft.sub tx:=hx2
  obtain⟨px,cx,hsx,-⟩:=id hx1
  subst hsx
  obtain⟨py,cy,hsy,-⟩:=id hx2
  subst hsy
  have hK':=h_X hK
  clear hK
  gi_wp2
  have hl:=bel_laid V (.cells #[.int .u8 ft.op,.string ft.n,.slice px ft.ts.len cx,.slice py ft.sub.len cy] 25)
  have hks:KL [w.heap.size+1] (W2.heap.size+2) V (V.alloc (.cells #[.int .u8 ft.op,.string ft.n,.slice px ft.ts.len cx,.slice py ft.sub.len cy] 25)):=KL.of_below hl
  refine hK'.out _ _ ?_ hks ⟨c_B hl hi.1,?_,bS hi.2.2 hl⟩ ⟨V.heap.size,by rw[cell_new];rfl,rfl⟩
  ·exact KL.from (L:=[w.heap.size+1]) (K:=W2.heap.size) (KL.of_below hl) (Nat.le_refl _)
  ·exact(World.frozen?_of_block (a:=⟨w.heap.size+1,0,none⟩) (hl.block _ (lt_of_cell hi.1))).trans hi.2.1
 case body =>
  rintro m l' pre ⟨⟨ft,vx⟩,hvx⟩ a' V hl' ⟨rr,hrr⟩ ⟨h1,h2,hbel⟩ ⟨bx,c0,rfl⟩ hpre
  replace c0:V.cell? ⟨bx,0,none⟩=some (.int .u8 ft.op):=c0
  have hmem:ft∈f.parts:=hpre.subset (by simp[FV.t])
  have hsn:maskOf ((pre ++ [(⟨(ft,vx),hvx⟩:FV w)]).map FV.t)=maskOf (pre.map FV.t) ||| bitOf ft.op:=by rw[List.map_append];exact mask_snoc _ _
  obtain⟨M,hM⟩:∃ M,maskOf (pre.map FV.t)=M:=⟨_,rfl⟩
  rw[hM] at h1 hsn
  have hge:¬ ft.op < 0:=by have:=hop ft hmem;omega
  have hsn':=h_X hsn
  obtain⟨mv,hmv⟩:∃ mv:Int,(M.toNat:Int)=mv:=⟨_,rfl⟩
  have h1':V.cell? ⟨w.heap.size+1,0,none⟩=some (.int .u32 mv):=by rw[←hmv];exact h1
  have hval:Hid (Value.int .u32 (bits .or .u32 mv (2 ^ min ft.op.toNat 32%4294967296))=mval (M ||| bitOf ft.op)):=h_X (by
   have e:BitVec.ofInt 32 (M.toNat:Int)=M:=by simp
   have e1:IntKind.u32.wrap (1*2 ^ (min ft.op.toNat 32))=2 ^ min ft.op.toNat 32%4294967296:=by simp[IntKind.wrap,IntKind.signed,IntKind.bits]
   have e2:=wrap_u32 (M ||| bitOf ft.op).isLt
   show Value.int .u32 (IntKind.u32.wrap ((BitVec.ofInt 32 mv ||| BitVec.ofInt 32 (2 ^ min ft.op.toNat 32%4294967296)).toNat:Int))=_
   rw[←hmv,e,←e1]
   show Value.int .u32 (IntKind.u32.wrap ((M ||| bitOf ft.op).toNat:Int))=_
   rw[e2]
   rfl)
  have hk1:=KL.set (L:=[w.heap.size+1]) (K:=W2.heap.size+2) V (b:=w.heap.size+1) (u:=mval (M ||| bitOf ft.op)) (by simp)
  have hk0:=KL.set (L:=[w.heap.size+1]) (K:=W2.heap.size) V (b:=w.heap.size+1) (u:=mval (M ||| bitOf ft.op)) (by simp)
  have hks:=h_X hk1
  have hks0:=h_X hk0
  have h1h:=h_X h1
  clear hsn hM hmv h1 hk1 hk0
  gi_wp2
  rw[hval.out]
  refine⟨hks0.out.from (Nat.le_refl _),hks.out,?_,by rw[World.frozen?_setCell];exact h2,hbel.setCell (p:=⟨w.heap.size+1,0,none⟩) (by simp) _⟩
  rw[hsn'.out]
  exact World.cell?_setCell_same _ _ _ h1h.out
 case done =>
  rintro D xs V hDD hxs ⟨h1,h2,hbel⟩ hd
  rw[hxs] at h1
  have h1':V.cell? ⟨w.heap.size+1,0,none⟩=some (.int .u32 ((maskOf f.parts).toNat:Int)):=h1
  clear h1
  gi_wp2
  refine⟨by simp,.inl ⟨_,_,rfl,run_takeDeferred hd,_,results_tmp rfl _ _ _,?_⟩⟩
  exact⟨rfl,hbel.trans (bel_put _ _ (by omega))⟩
 case stop =>
  rintro D cd pre V hD hpre h
  exact h.elim
end Go.Proofs.YtngdieldgnlogaaGreatDoor
namespace Go.Proofs.YtngdieldgnlogaaGreatDoor
open Go Go.RowKit
set_option maxRecDepth 100000
set_option linter.unusedVariables false
theorem bit_toNat (op:Int):((bitOf op).toNat:Int)=2 ^ (min op.toNat 32)%4294967296:=by
 unfold bitOf
 rw[BitVec.toNat_ofInt]
 simp[IntKind.wrap,IntKind.signed,IntKind.bits]
 omega
theorem mask_go (l:List FT):∀ m:BitVec 32,l.foldl (fun m p=>m ||| bitOf p.op) m=m ||| maskOf l:=by
 induction l with
 | nil=>intro m;simp[maskOf]
 | cons p r ih =>
  intro m
  unfold maskOf
  rw[List.foldl_cons,List.foldl_cons,ih,ih (0#32 ||| bitOf p.op),BitVec.zero_or,BitVec.or_assoc]
theorem mask_cons (p:FT) (l:List FT):maskOf (p :: l)=bitOf p.op ||| maskOf l:=by
 unfold maskOf
 rw[List.foldl_cons,mask_go,BitVec.zero_or]
 rfl
theorem mask_app (l l':List FT):maskOf (l ++ l')=maskOf l ||| maskOf l':=by
 unfold maskOf
 rw[List.foldl_append,mask_go]
 rfl
theorem mask_fs (op:Int) (n:ByteArray) (ts:Ts) (sub r:Fs):maskOf (Fs.cons op n ts sub r).parts=maskOf (FT.mk op n ts sub).parts ||| maskOf r.parts:=by
 rw[←mask_app]
 rfl
theorem or_bits (M x:BitVec 32):Value.int .u32 (bits .or .u32 (M.toNat:Int) (x.toNat:Int))=.int .u32 ((M ||| x).toNat:Int):=by
 have e:BitVec.ofInt 32 (M.toNat:Int)=M:=by simp
 have e1:BitVec.ofInt 32 (x.toNat:Int)=x:=by simp
 have e2:=wrap_u32 (M ||| x).isLt
 show Value.int .u32 (IntKind.u32.wrap ((BitVec.ofInt 32 (M.toNat:Int) ||| BitVec.ofInt 32 (x.toNat:Int)).toNat:Int))=_
 rw[e,e1,e2]
def ROps (N:Nat):Prop:=∀ (f:FT) (v:Value) (w:World),f.size≤N→FVal w f v→f.size≤1000000→(∀ p∈f.parts,0≤p.op)→Calls Tryz.prog 24 #[v] w fun e w'=>e=.returned (.int .u32 ((maskOf f.parts).toNat:Int))∧Below w.heap.size w w'
set_option maxHeartbeats 4000000 in
theorem refOps_any (N:Nat):ROps N:=by
 induction N using Nat.strongRecOn with
 | _ N ih =>
 intro f v w hN hv hs hop
 have hoph:=h_X hop
 have ihh:=h_X ih
 obtain⟨sa,ss,rfl,ha,hss⟩:=id hv
 have hst:=FS.start (t:=25) hv
 obtain⟨pa,ca,rfl,-⟩:=id ha
 obtain⟨p,c,b,o,rfl,hp,ht⟩:=FSl.opened hss
 have e1:f.size=f.ts.size+f.sub.size+1:=rfl
 have hll:=f.sub.len_le
 obtain⟨W1,hW1⟩:∃ W1,w.alloc (.cells #[.int .u8 f.op,.string f.n,.slice pa f.ts.len ca,.slice p f.sub.len c] 25)=W1:=⟨_,rfl⟩
 rw[hW1] at hst
 obtain⟨g,hg⟩:∃ g,w.heap.size=g:=⟨_,rfl⟩
 have hgh:=h_X hg
 rw[hg] at hst
 have k1h:=h_X hst
 have hth:=h_X (FsAt.below hst.2.2.2.2.1 ht)
 clear ih hst hv ha hss ht
 go_enter Tryz.func24,Tryz.ntmps24
 obtain⟨c0,c1,c2,c3,-⟩:=k1h.out
 have h0:0≤f.op:=hop f (by simp[FT.parts])
 have hn0:¬ f.op < 0:=by omega
 have hmk:Hid (maskOf f.parts=bitOf f.op ||| maskOf f.sub.parts):=h_X (mask_cons _ _)
 have hst32:=h_X (bit_toNat f.op)
 clear hop h0
 by_cases h32:f.op < 32
 ·go_wp2_with fail
  clear c0 c1 c2 c3 hW1 hg
  go_loopw [3,4] (fun n i wr=>∃ (k:Nat) (M:BitVec 32) (r:Fs),n=.int .u32 (M.toNat:Int)∧i=.int .i64 (k:Int)∧k+r.len=f.sub.len∧r.size≤f.sub.size∧M ||| maskOf r.parts=maskOf f.parts∧(∀ p∈r.parts,p∈f.parts)∧FsAt wr r b (o+k*4)∧Below W1.heap.size W1 wr) (fun _ i _=>f.sub.len - (intOf i).toNat)
  case atStart=>exact⟨0,bitOf f.op,f.sub,by rw[hst32.out,Nat.min_eq_left (by omega)],rfl,by omega,Nat.le_refl _,hmk.out.symm,fun p hp=>(by simp only[FT.parts,List.mem_cons];exact .inr hp),by simpa using hth.out,Below.refl _ _⟩
  case round =>
   obtain⟨k,M,r,rfl,rfl,hk,hrz,hm,hin,hat,hbw⟩:=hrel
   have hbwh:=h_X hbw
   obtain⟨c0,c1,c2,c3,-⟩:=k1h.out.next hbw
   clear hbw
   cases r with
   | nil =>
    simp only[Fs.len,Nat.add_zero] at hk
    subst hk
    have hme:Hid (M=maskOf f.parts):=h_X (by rw[←hm];simp[Fs.parts,maskOf])
    clear hm hin
    have hfin:=h_X (bS k1h.out.2.2.2.2.1 hbwh.out)
    go_wp2_with fail
    go_ret
    refine⟨?_,hfin.out⟩
    rw[←hme.out]
    rfl
   | cons op nm us sub r =>
    simp only[Fs.len,Fs.size] at hk hrz
    have hkl:(k:Int) < (f.sub.len:Int):=by omega
    have hk0:(0:Int)≤(k:Int):=by omega
    obtain rfl:=hp.resolve_left (by omega)
    obtain⟨d0,d1,⟨s,d2,hus⟩,⟨s',d3,hfs⟩,hr⟩:=hat
    have hrh:=h_X hr
    have ez:(FT.mk op nm us sub).size=us.size+sub.size+1:=rfl
    have hsub:∀ p∈(FT.mk op nm us sub).parts,p∈f.parts:=fun p hp=>hin p (by show p∈(FT.mk op nm us sub).parts ++ r.parts;exact List.mem_append_left _ hp)
    have hin':∀ p∈r.parts,p∈f.parts:=fun p hp=>hin p (by show p∈(FT.mk op nm us sub).parts ++ r.parts;exact List.mem_append_right _ hp)
    have hinh:=h_X hin'
    have HC:=h_X (ihh.out (FT.mk op nm us sub).size (by omega) ⟨op,nm,us,sub⟩ (fval ⟨op,nm,us,sub⟩ s s') wr (Nat.le_refl _) ⟨_,_,rfl,hus,hfs⟩ (by omega) (fun p hp=>hoph.out p (hsub p hp)))
    obtain⟨ps,cs,rfl,-⟩:=id hus
    obtain⟨ps',cs',rfl,-⟩:=id hfs
    have hor:Hid (∀ x:BitVec 32,Value.int .u32 (bits .or .u32 (M.toNat:Int) (x.toNat:Int))=.int .u32 ((M ||| x).toNat:Int)):=h_X fun x=>or_bits M x
    have hmc:Hid (M ||| maskOf (FT.mk op nm us sub).parts ||| maskOf r.parts=maskOf f.parts):=h_X (by rw[←hm,mask_fs,BitVec.or_assoc])
    have hw3:IntKind.i64.wrap ((k:Int)+1)=(k:Int)+1:=IntWalk.i64_in _ (by omega)
    have hkh:=h_X hk
    have hrzh:=h_X hrz
    clear hr hus hfs hm hk hN ez hrz hin hin' hsub
    go_wp2_with fail
    refine HC.out.mono ?_
    rintro e w' ⟨rfl,hb'⟩
    have hbwh:=h_X (bS hbwh.out hb')
    have hrh:=h_X (FsAt.below hb' hrh.out)
    clear HC c0 c1 c2 c3 d0 d1 d2 d3 hb'
    go_wp2_with fail
    rw[hor.out]
    go_roundw
    case rel=>exact⟨k+1,M ||| maskOf (FT.mk op nm us sub).parts,r,rfl,by congr 1,by have:=hkh.out;omega,by have:=hrzh.out;omega,hmc.out,hinh.out,by have:=hrh.out;rwa [show o+(k+1)*4=o+k*4+4 by omega],hbwh.out⟩
    case measure=>have:=hkh.out;simp[intOf];omega
 ·go_wp2_with fail
  clear c0 c1 c2 c3 hW1 hg
  go_loopw [3,4] (fun n i wr=>∃ (k:Nat) (M:BitVec 32) (r:Fs),n=.int .u32 (M.toNat:Int)∧i=.int .i64 (k:Int)∧k+r.len=f.sub.len∧r.size≤f.sub.size∧M ||| maskOf r.parts=maskOf f.parts∧(∀ p∈r.parts,p∈f.parts)∧FsAt wr r b (o+k*4)∧Below W1.heap.size W1 wr) (fun _ i _=>f.sub.len - (intOf i).toNat)
  case atStart=>exact⟨0,bitOf f.op,f.sub,by rw[hst32.out,Nat.min_eq_right (by omega)];rfl,rfl,by omega,Nat.le_refl _,hmk.out.symm,fun p hp=>(by simp only[FT.parts,List.mem_cons];exact .inr hp),by simpa using hth.out,Below.refl _ _⟩
  case round =>
   obtain⟨k,M,r,rfl,rfl,hk,hrz,hm,hin,hat,hbw⟩:=hrel
   have hbwh:=h_X hbw
   obtain⟨c0,c1,c2,c3,-⟩:=k1h.out.next hbw
   clear hbw
   cases r with
   | nil =>
    simp only[Fs.len,Nat.add_zero] at hk
    subst hk
    have hme:Hid (M=maskOf f.parts):=h_X (by rw[←hm];simp[Fs.parts,maskOf])
    clear hm hin
    have hfin:=h_X (bS k1h.out.2.2.2.2.1 hbwh.out)
    go_wp2_with fail
    go_ret
    refine⟨?_,hfin.out⟩
    rw[←hme.out]
    rfl
   | cons op nm us sub r =>
    simp only[Fs.len,Fs.size] at hk hrz
    have hkl:(k:Int) < (f.sub.len:Int):=by omega
    have hk0:(0:Int)≤(k:Int):=by omega
    obtain rfl:=hp.resolve_left (by omega)
    obtain⟨d0,d1,⟨s,d2,hus⟩,⟨s',d3,hfs⟩,hr⟩:=hat
    have hrh:=h_X hr
    have ez:(FT.mk op nm us sub).size=us.size+sub.size+1:=rfl
    have hsub:∀ p∈(FT.mk op nm us sub).parts,p∈f.parts:=fun p hp=>hin p (by show p∈(FT.mk op nm us sub).parts ++ r.parts;exact List.mem_append_left _ hp)
    have hin':∀ p∈r.parts,p∈f.parts:=fun p hp=>hin p (by show p∈(FT.mk op nm us sub).parts ++ r.parts;exact List.mem_append_right _ hp)
    have hinh:=h_X hin'
    have HC:=h_X (ihh.out (FT.mk op nm us sub).size (by omega) ⟨op,nm,us,sub⟩ (fval ⟨op,nm,us,sub⟩ s s') wr (Nat.le_refl _) ⟨_,_,rfl,hus,hfs⟩ (by omega) (fun p hp=>hoph.out p (hsub p hp)))
    obtain⟨ps,cs,rfl,-⟩:=id hus
    obtain⟨ps',cs',rfl,-⟩:=id hfs
    have hor:Hid (∀ x:BitVec 32,Value.int .u32 (bits .or .u32 (M.toNat:Int) (x.toNat:Int))=.int .u32 ((M ||| x).toNat:Int)):=h_X fun x=>or_bits M x
    have hmc:Hid (M ||| maskOf (FT.mk op nm us sub).parts ||| maskOf r.parts=maskOf f.parts):=h_X (by rw[←hm,mask_fs,BitVec.or_assoc])
    have hw3:IntKind.i64.wrap ((k:Int)+1)=(k:Int)+1:=IntWalk.i64_in _ (by omega)
    have hkh:=h_X hk
    have hrzh:=h_X hrz
    clear hr hus hfs hm hk hN ez hrz hin hin' hsub
    go_wp2_with fail
    refine HC.out.mono ?_
    rintro e w' ⟨rfl,hb'⟩
    have hbwh:=h_X (bS hbwh.out hb')
    have hrh:=h_X (FsAt.below hb' hrh.out)
    clear HC c0 c1 c2 c3 d0 d1 d2 d3 hb'
    go_wp2_with fail
    rw[hor.out]
    go_roundw
    case rel=>exact⟨k+1,M ||| maskOf (FT.mk op nm us sub).parts,r,rfl,by congr 1,by have:=hkh.out;omega,by have:=hrzh.out;omega,hmc.out,hinh.out,by have:=hrh.out;rwa [show o+(k+1)*4=o+k*4+4 by omega],hbwh.out⟩
    case measure=>have:=hkh.out;simp[intOf];omega
end Go.Proofs.YtngdieldgnlogaaGreatDoor
