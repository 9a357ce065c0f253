/- For the law's shapes: an append to an empty slice, a slice's first elements, the first terms of a list. -/
import Derived.Test.YtngdieldgnlogaaGreatDoorAI
namespace Go.Proofs.YtngdieldgnlogaaGreatDoor
set_option linter.unusedSimpArgs false
open Go Go.RowKit
set_option maxRecDepth 100000
set_option linter.unusedVariables false
theorem app_empty {W:World} {g m c:Nat} {ad:Addr} {news:List Value} (ty:TypeId) (hl:news.length=m*4) (hn:∀ j u,news[j]? = some u→W.cell? (ad.add j)=some u) (hm:m≤3) :
  ∃ v W',(Builtin.append_ #[23,23] ty #[.slice (some ⟨g,0,none⟩) 0 0,.slice (some ad) m c]).run Tryz.prog W=.ok v W'∧Below W.heap.size W W'∧((m=0∧v=.slice (some ⟨g,0,none⟩) 0 0)∨(0 < m∧∃ cap,v=.slice (some ⟨W.heap.size,0,none⟩) m cap∧∀ j u,news[j]? = some u→W'.cell? ⟨W.heap.size,j,none⟩=some u)):=by
 obtain⟨i0,hi,hz0,hz1,hz2⟩:=info_parts info27
 by_cases h0:m=0
 ·subst h0
  refine⟨_,W,?_,Below.refl _ _,.inl ⟨rfl,rfl⟩⟩
  simp[Builtin.append_,Builtin.lenOf,Builtin.firstCells,loadCells,loadCellsFrom,storeCells,run_underlying Tryz.underlying23,sizeOf,typeInfo,hi,hz1]
 ·have hr:=run_append_grow (P:=Tryz.prog) W 23 ty 25 i0 _ Tryz.underlying23 hi hz0 ⟨g,0,none⟩ 0 0 [] (by simp) (fun j u hu=>by simp at hu) ad m c news (by rw[hz1];exact hl) hn (by omega) (by omega) (growslice_fits (by omega) (by rw[hz2];omega))
  rw[Nat.zero_add] at hr
  refine⟨_,_,hr,(bS (bel_drew W) (bel_laid W.drew _)),.inr ⟨by omega,_,rfl,fun j u hu=>?_⟩⟩
  have hj:=(List.getElem?_eq_some_iff.1 hu).1
  rw[show W.heap.size=W.drew.heap.size from rfl,cell_new]
  simp only[Array.getElem?_append,List.size_toArray,List.nil_append,List.length_nil]
  simp[hj]
  exact(List.getElem?_eq_some_iff.1 hu).2
theorem slice_forms {W:World} {g k n c:Nat} (hk:k≤c):(Instr.sliceAt 23 (.slice (some ⟨g,0,none⟩) n c) none (some (.int .i64 (k:Int))) none).run Tryz.prog W=.ok (.slice (some ⟨g,0,none⟩) k c) W:=by
 simp[Instr.sliceAt,Instr.slice,go_sem,hk]
theorem slice_terms {W:World} {g k n c:Nat} (hk:k≤c):(Instr.sliceAt 22 (.slice (some ⟨g,0,none⟩) n c) none (some (.int .i64 (k:Int))) none).run Tryz.prog W=.ok (.slice (some ⟨g,0,none⟩) k c) W:=by
 simp[Instr.sliceAt,Instr.slice,go_sem,hk]
def Ts.take:Nat→Ts→Ts
 | 0,_=>.nil
 | _+1,.nil=>.nil
 | k+1,.cons v n ts r=>.cons v n ts (r.take k)
theorem Ts.take_len:∀ (k:Nat) (t:Ts),k≤t.len→(t.take k).len=k
 | 0,_,_=>rfl
 | _+1,.nil,h=>by simp[Ts.len] at h
 | k+1,.cons _ _ _ r,h=>by simp only[Ts.take,Ts.len] at h ⊢;rw[Ts.take_len k r (by omega)]
theorem Ts.take_size:∀ (k:Nat) (t:Ts),(t.take k).size≤t.size
 | 0,_=>Nat.zero_le _
 | _+1,.nil=>Nat.le_refl _
 | k+1,.cons _ _ ts r=>by have:=Ts.take_size k r;simp only[Ts.take,Ts.size];omega
theorem Ts.take_wt:∀ (k:Nat) (t:Ts),(t.take k).wt≤t.wt
 | 0,_=>Nat.zero_le _
 | _+1,.nil=>Nat.le_refl _
 | k+1,.cons _ _ ts r=>by have:=Ts.take_wt k r;simp only[Ts.take,Ts.wt];omega
theorem TsAt.take {W:World}:∀ (k:Nat) {t:Ts} {b o:Nat},TsAt W t b o→TsAt W (t.take k) b o
 | 0,_,_,_,_=>trivial
 | _+1,.nil,_,_,h=>h
 | k+1,.cons _ _ _ _,_,_,⟨h0,h1,h2,h3⟩=>⟨h0,h1,h2,TsAt.take k h3⟩
theorem ex_buildSlice0 {P:Program} {a:Act} {w w':World} {o:Oper} {v:Value} {t:TypeId} {n:Nat} (hop:o.op=.buildSlice t n #[]) (hr:(Instr.buildSlice t n #[]).run P w=.ok v w'):(execOp a.eval o).run P w=.ok (.value v) w':=by
 simp[execOp,hop,hr,Result.andThen]
theorem ex_buildSlice3 {P:Program} {a:Act} {w w':World} {o:Oper} {v u0 u1 u2:Value} {t:TypeId} {n:Nat} {x0 x1 x2:Operand} (hop:o.op=.buildSlice t n #[(0,x0),(1,x1),(2,x2)]) (h0:a.eval x0=u0) (h1:a.eval x1=u1) (h2:a.eval x2=u2)
  (hr:(Instr.buildSlice t n #[(0,u0),(1,u1),(2,u2)]).run P w=.ok v w'):(execOp a.eval o).run P w=.ok (.value v) w':=by
 simp[execOp,hop,h0,h1,h2,hr,Result.andThen]
theorem ex_convert {P:Program} {a:Act} {w w':World} {o:Oper} {v u:Value} {s t:TypeId} {x:Operand} (hop:o.op=.convert s t x) (hx:a.eval x=u) (hr:(convert s t u).run P w=.ok v w'):(execOp a.eval o).run P w=.ok (.value v) w':=by
 simp[execOp,hop,hx,hr,Result.andThen]
theorem ex_slice {P:Program} {a:Act} {w w':World} {o:Oper} {v u k:Value} {t:TypeId} {x y:Operand} (hop:o.op=.slice t x none (some y) none) (hx:a.eval x=u) (hy:a.eval y=k) (hr:(Instr.sliceAt t u none (some k) none).run P w=.ok v w'):(execOp a.eval o).run P w=.ok (.value v) w':=by
 simp[execOp,hop,hx,hy,hr,Result.andThen]
theorem ex_build0132 {P:Program} {a:Act} {w w':World} {o:Oper} {v u0 u1 u2 u3:Value} {t:TypeId} {x0 x1 x2 x3:Operand} (hop:o.op=.build t #[(0,x0),(1,x1),(3,x3),(2,x2)]) (h0:a.eval x0=u0) (h1:a.eval x1=u1) (h2:a.eval x2=u2) (h3:a.eval x3=u3)
  (hr:(Instr.build t #[(0,u0),(1,u1),(3,u3),(2,u2)]).run P w=.ok v w'):(execOp a.eval o).run P w=.ok (.value v) w':=by
 simp[execOp,hop,h0,h1,h2,h3,hr,Result.andThen]
theorem run_build0132 {w:World} {k:Int} {n:ByteArray} {p q:Option Addr} {a b c d:Nat}:(Instr.build 25 #[(0,.int .u8 k),(1,.string n),(3,.slice q c d),(2,.slice p a b)]).run Tryz.prog w=.ok (.agg #[.int .u8 k,.string n,.slice p a b,.slice q c d]) w:=by
 simp[Instr.build,go_sem]
theorem lay0F {W:World}:(Instr.buildSlice 23 0 #[]).run Tryz.prog W=.ok (.slice (some ⟨W.heap.size,0,none⟩) 0 0) (W.alloc (.cells #[] 25)):=by
 simp[Instr.buildSlice,go_sem]
theorem build_three (w:World) (c0 c1 c2 c3 d0 d1 d2 d3 e0 e1 e2 e3:Value):(Instr.buildSlice 23 3 #[(0,.agg #[c0,c1,c2,c3]),(1,.agg #[d0,d1,d2,d3]),(2,.agg #[e0,e1,e2,e3])]).run Tryz.prog w=.ok (.slice (some ⟨w.heap.size,0,none⟩) 3 3) (w.alloc (.cells #[c0,c1,c2,c3,d0,d1,d2,d3,e0,e1,e2,e3] 25)):=by
 simp[Instr.buildSlice,go_sem]
theorem rem3 {W:World} (a b:Nat) (hb:b≠0):(binOp .rem 3 (.int .i64 (a:Int)) (.int .i64 (b:Int))).run Tryz.prog W=.ok (.int .i64 ((a%b:Nat):Int)) W:=by
 have h1:(a:Int).tmod (b:Int)=((a%b:Nat):Int):=by rw[Int.tmod_eq_emod_of_nonneg (by omega)];omega
 have h2:(b:Int)≠0:=by omega
 simp[go_sem,h1,hb]
theorem quo3 {W:World} (a b:Nat) (hb:b≠0) (hb2:1 < b) (ha:a≤1000000):(binOp .quo 3 (.int .i64 (a:Int)) (.int .i64 (b:Int))).run Tryz.prog W=.ok (.int .i64 ((a/b:Nat):Int)) W:=by
 have h1:(a:Int).tdiv (b:Int)=((a/b:Nat):Int):=by rw[Int.tdiv_eq_ediv_of_nonneg (by omega)];omega
 have h3:a/b≤1000000:=Nat.le_trans (Nat.div_le_self _ _) ha
 have h5:(a:Int)/(b:Int)=((a/b:Nat):Int):=(Int.natCast_ediv a b).symm
 have h4:IntKind.i64.wrap ((a:Int)/(b:Int))=(a:Int)/(b:Int):=by
  rw[h5]
  generalize a/b=c at h3
  exact IntWalk.i64_in _ (by omega)
 simp[go_sem,h1,hb,h4]
theorem quoN {W:World} (a b:Nat) (hb:0 < b) (ha:a≤1000000):(binOp .quo 3 (.int .i64 (a:Int)) (.int .i64 (b:Int))).run Tryz.prog W=.ok (.int .i64 ((a/b:Nat):Int)) W:=by
 have h1:(a:Int).tdiv (b:Int)=((a/b:Nat):Int):=by rw[Int.tdiv_eq_ediv_of_nonneg (by omega)];exact(Int.natCast_ediv a b).symm
 have h3:a/b≤1000000:=Nat.le_trans (Nat.div_le_self _ _) ha
 have h5:(a:Int)/(b:Int)=((a/b:Nat):Int):=(Int.natCast_ediv a b).symm
 have hb0:b≠0:=by omega
 have h4:IntKind.i64.wrap ((a:Int)/(b:Int))=(a:Int)/(b:Int):=by
  rw[h5]
  generalize a/b=c at h3
  exact IntWalk.i64_in _ (by omega)
 simp[go_sem,h1,hb0,h4]
theorem conv35 {W:World} (a:Nat) (ha:a < 256):(convert 3 5 (.int .i64 (a:Int))).run Tryz.prog W=.ok (.int .u8 (a:Int)) W:=by
 have h1:IntKind.u8.wrap (a:Int)=(a:Int):=by simp[IntKind.wrap,IntKind.signed,IntKind.bits];omega
 simp[go_sem,h1]
theorem grem3 (x y:Operand) (a b:Int) (w:World):(eqGuard .rem 3 x y (.int .i64 a) (.int .i64 b)).run Tryz.prog w=.ok () w:=by
 simp[eqGuard]
theorem gquo3 (x y:Operand) (a b:Int) (w:World):(eqGuard .quo 3 x y (.int .i64 a) (.int .i64 b)).run Tryz.prog w=.ok () w:=by
 simp[eqGuard]
theorem two_terms {b1 b2:Bool} {n1 n2:ByteArray} {t1 t2:Ts} {p1 p2:Option Addr} {c1 c2:Nat} {W:World} (h1:TSl W t1 (.slice p1 t1.len c1)) (h2:TSl W t2 (.slice p2 t2.len c2)) (t:TypeId) :
  TSl (W.alloc (.cells #[.bool b1,.string n1,.slice p1 t1.len c1,.bool b2,.string n2,.slice p2 t2.len c2] t)) (.cons b1 n1 t1 (.cons b2 n2 t2 .nil)) (.slice (some ⟨W.heap.size,0,none⟩) 2 2):=by
 have cN:=fun i=>cell_new W #[.bool b1,.string n1,.slice p1 t1.len c1,.bool b2,.string n2,.slice p2 t2.len c2] t i
 have hb:=bel_laid W (.cells #[.bool b1,.string n1,.slice p1 t1.len c1,.bool b2,.string n2,.slice p2 t2.len c2] t)
 exact⟨_,_,rfl,.inr ⟨_,_,rfl,cN 0,cN 1,⟨_,cN 2,TSl.below hb h1⟩,cN 3,cN 4,⟨_,cN 5,TSl.below hb h2⟩,trivial⟩⟩
theorem five_terms {b1 b2 b3 b4 b5:Bool} {n1 n2 n3 n4 n5:ByteArray} {t1 t2 t3 t4 t5:Ts} {p1 p2 p3 p4 p5:Option Addr} {c1 c2 c3 c4 c5:Nat} {W:World} (h1:TSl W t1 (.slice p1 t1.len c1)) (h2:TSl W t2 (.slice p2 t2.len c2)) (h3:TSl W t3 (.slice p3 t3.len c3)) (h4:TSl W t4 (.slice p4 t4.len c4)) (h5:TSl W t5 (.slice p5 t5.len c5)) (t:TypeId) :
  TsAt (W.alloc (.cells #[.bool b1,.string n1,.slice p1 t1.len c1,.bool b2,.string n2,.slice p2 t2.len c2,.bool b3,.string n3,.slice p3 t3.len c3,.bool b4,.string n4,.slice p4 t4.len c4,.bool b5,.string n5,.slice p5 t5.len c5] t)) (.cons b1 n1 t1 (.cons b2 n2 t2 (.cons b3 n3 t3 (.cons b4 n4 t4 (.cons b5 n5 t5 .nil))))) W.heap.size 0:=by
 have cN:=fun i=>cell_new W #[.bool b1,.string n1,.slice p1 t1.len c1,.bool b2,.string n2,.slice p2 t2.len c2,.bool b3,.string n3,.slice p3 t3.len c3,.bool b4,.string n4,.slice p4 t4.len c4,.bool b5,.string n5,.slice p5 t5.len c5] t i
 have hb:=bel_laid W (.cells #[.bool b1,.string n1,.slice p1 t1.len c1,.bool b2,.string n2,.slice p2 t2.len c2,.bool b3,.string n3,.slice p3 t3.len c3,.bool b4,.string n4,.slice p4 t4.len c4,.bool b5,.string n5,.slice p5 t5.len c5] t)
 exact⟨cN 0,cN 1,⟨_,cN 2,TSl.below hb h1⟩,cN 3,cN 4,⟨_,cN 5,TSl.below hb h2⟩,cN 6,cN 7,⟨_,cN 8,TSl.below hb h3⟩,cN 9,cN 10,⟨_,cN 11,TSl.below hb h4⟩,cN 12,cN 13,⟨_,cN 14,TSl.below hb h5⟩,trivial⟩
def F0:FT:=⟨2,⟨#[]⟩,.nil,.nil⟩
def subsF:Nat→Fs
 | 0=>.nil
 | 1=>.cons 1 ⟨#[81]⟩ .nil .nil .nil
 | 2=>.cons 1 ⟨#[81]⟩ .nil .nil (.cons 2 ⟨#[]⟩ .nil .nil .nil)
 | _=>.cons 1 ⟨#[81]⟩ .nil .nil (.cons 2 ⟨#[]⟩ .nil .nil (.cons 1 ⟨#[81]⟩ .nil .nil .nil))
def PCl:List Value:=[.int .u8 1,.string ⟨#[81]⟩,.slice none 0 0,.slice none 0 0,.int .u8 2,.string ⟨#[]⟩,.slice none 0 0,.slice none 0 0,.int .u8 1,.string ⟨#[81]⟩,.slice none 0 0,.slice none 0 0]
def PC (g:Nat) (W:World):Prop:=∀ j u,PCl[j]? = some u→W.cell? ⟨g,j,none⟩=some u
theorem PC.below {g:Nat} {W W':World} (h:PC g W) (hb:Below W.heap.size W W'):PC g W':=fun j u hu=>c_B hb (h j u hu)
def sblk:Value→Option Nat
 | .slice (some a) (_+1) _=>some a.block
 | _=>none
def sub4:Value→Option Nat
 | .agg a=>(a[3]?).bind sblk
 | _=>none
theorem subsF_len:∀ k,k≤3→(subsF k).len=k
 | 0,_=>rfl
 | 1,_=>rfl
 | 2,_=>rfl
 | 3,_=>rfl
 | _+4,h=>by omega
theorem subs_at {W:World} {g:Nat}:∀ k,k≤3→(∀ j u,(PCl.take (k*4))[j]? = some u→W.cell? ⟨g,j,none⟩=some u)→FsAt W (subsF k) g 0
 | 0,_,_=>trivial
 | 1,_,h=>⟨h 0 _ rfl,h 1 _ rfl,⟨_,h 2 _ rfl,none,0,rfl,.inl rfl⟩,⟨_,h 3 _ rfl,none,0,rfl,.inl rfl⟩,trivial⟩
 | 2,_,h=>⟨h 0 _ rfl,h 1 _ rfl,⟨_,h 2 _ rfl,none,0,rfl,.inl rfl⟩,⟨_,h 3 _ rfl,none,0,rfl,.inl rfl⟩,h 4 _ rfl,h 5 _ rfl,⟨_,h 6 _ rfl,none,0,rfl,.inl rfl⟩,⟨_,h 7 _ rfl,none,0,rfl,.inl rfl⟩,trivial⟩
 | 3,_,h=>⟨h 0 _ rfl,h 1 _ rfl,⟨_,h 2 _ rfl,none,0,rfl,.inl rfl⟩,⟨_,h 3 _ rfl,none,0,rfl,.inl rfl⟩,h 4 _ rfl,h 5 _ rfl,⟨_,h 6 _ rfl,none,0,rfl,.inl rfl⟩,⟨_,h 7 _ rfl,none,0,rfl,.inl rfl⟩,h 8 _ rfl,h 9 _ rfl,⟨_,h 10 _ rfl,none,0,rfl,.inl rfl⟩,⟨_,h 11 _ rfl,none,0,rfl,.inl rfl⟩,trivial⟩
 | _+4,h,_=>by omega
def SbP (z k:Nat) (v:Value) (W:World):Prop:=∃ p c,v=.slice p k c∧(k=0∨∃ g,p=some ⟨g,0,none⟩∧z≤g∧∀ j u,(PCl.take (k*4))[j]? = some u→W.cell? ⟨g,j,none⟩=some u)
theorem SbP.below {z k:Nat} {v:Value} {W W':World} (h:SbP z k v W) (hb:Below W.heap.size W W'):SbP z k v W':=by
 obtain⟨p,c,e,h⟩:=h
 exact⟨p,c,e,h.imp_right fun ⟨g,h1,h2,h3⟩=>⟨g,h1,h2,fun j u hu=>c_B hb (h3 j u hu)⟩⟩
theorem SbP.far {z k b:Nat} {v:Value} {W W':World} (h:SbP z k v W) (hne:sblk v≠some b) (hk:∀ x i u,x≠b→W.cell? ⟨x,i,none⟩=some u→W'.cell? ⟨x,i,none⟩=some u):SbP z k v W':=by
 obtain⟨p,c,rfl,h⟩:=h
 refine⟨p,c,rfl,?_⟩
 rcases h with h | ⟨g,rfl,h2,h3⟩
 ·exact .inl h
 ·by_cases h0:k=0
  ·exact .inl h0
  ·obtain⟨m,rfl⟩:∃ m,k=m+1:=⟨k - 1,by omega⟩
   exact .inr ⟨g,rfl,h2,fun j u hu=>hk _ _ _ (fun e=>hne (by rw[←e];rfl)) (h3 j u hu)⟩
theorem SbP.lt {z k b:Nat} {v:Value} {W:World} (h:SbP z k v W) (hb:sblk v=some b):b < W.heap.size:=by
 obtain⟨p,c,rfl,h⟩:=h
 rcases h with rfl | ⟨g,rfl,h2,h3⟩
 ·cases p<;>cases hb
 ·cases k with
  | zero=>cases hb
  | succ m =>
   cases hb
   exact lt_of_cell (h3 0 (.int .u8 1) (by simp[PCl]))
theorem SbP.at {z k:Nat} {v:Value} {W:World} (hk:k≤3) (h:SbP z k v W):FSl (hideLow W z) (subsF k) v:=by
 obtain⟨p,c,rfl,h⟩:=h
 refine⟨p,c,by rw[subsF_len k hk],?_⟩
 rcases h with h | ⟨g,rfl,h2,h3⟩
 ·exact .inl (by rw[subsF_len k hk];exact h)
 ·exact .inr ⟨g,0,rfl,subs_at k hk fun j u hu=>hideLow_keep h2 (h3 j u hu)⟩
def DBk (l:Nat→Bool) (g:Nat→Value):Prop:=l 30=true→∀ b,g 6=.pointer (some ⟨b,0,none⟩)→(l 24=true→sblk (g 54)≠some b)∧(l 29=true→sub4 (g 59)≠some b)
theorem storeAny {W:World} {g:Nat} {u0 u1 u2 u3:Value} {k:Int} {b:ByteArray} {p q:Option Addr} {n c m d:Nat} (y0:Wc W g 0 u0) (y1:Wc W g 1 u1) (y2:Wc W g 2 u2) (y3:Wc W g 3 u3):(Instr.storeAt 25 (.pointer (some ⟨g,0,none⟩)) (.agg #[.int .u8 k,.string b,.slice p n c,.slice q m d])).run Tryz.prog W =
  .ok () ((((W.setCell ⟨g,0,none⟩ (.int .u8 k)).setCell ⟨g,1,none⟩ (.string b)).setCell ⟨g,2,none⟩ (.slice p n c)).setCell ⟨g,3,none⟩ (.slice q m d)):=by
 have a0:=y0.1
 have a1:=y1.1
 have a2:=y2.1
 have a3:=y3.1
 have b0:=y0.2
 have b1:=y1.2
 have b2:=y2.2
 have b3:=y3.2
 simp[Instr.storeAt,go_sem,a0,a1,a2,a3,b0,b1,b2,b3]
theorem set4_wc {W:World} {g:Nat} {u0 u1 u2 u3 a b c d:Value} (h0:Wc W g 0 u0) (h1:Wc W g 1 u1) (h2:Wc W g 2 u2) (h3:Wc W g 3 u3):Wc ((((W.setCell ⟨g,0,none⟩ a).setCell ⟨g,1,none⟩ b).setCell ⟨g,2,none⟩ c).setCell ⟨g,3,none⟩ d) g 0 a∧Wc ((((W.setCell ⟨g,0,none⟩ a).setCell ⟨g,1,none⟩ b).setCell ⟨g,2,none⟩ c).setCell ⟨g,3,none⟩ d) g 1 b∧Wc ((((W.setCell ⟨g,0,none⟩ a).setCell ⟨g,1,none⟩ b).setCell ⟨g,2,none⟩ c).setCell ⟨g,3,none⟩ d) g 2 c∧Wc ((((W.setCell ⟨g,0,none⟩ a).setCell ⟨g,1,none⟩ b).setCell ⟨g,2,none⟩ c).setCell ⟨g,3,none⟩ d) g 3 d:=by
 refine⟨?_,?_,?_,?_⟩
 ·exact wc_off (.inr (by decide)) (wc_off (.inr (by decide)) (wc_off (.inr (by decide)) (wc_on h0.1 h0.2)))
 ·exact wc_off (.inr (by decide)) (wc_off (.inr (by decide)) (wc_on (wc_off (.inr (by decide)) h1).1 (wc_off (.inr (by decide)) h1).2))
 ·exact wc_off (.inr (by decide)) (wc_on (wc_off (.inr (by decide)) (wc_off (.inr (by decide)) h2)).1 (wc_off (.inr (by decide)) (wc_off (.inr (by decide)) h2)).2)
 ·exact wc_on (wc_off (.inr (by decide)) (wc_off (.inr (by decide)) (wc_off (.inr (by decide)) h3))).1 (wc_off (.inr (by decide)) (wc_off (.inr (by decide)) (wc_off (.inr (by decide)) h3))).2
theorem set4_far {W:World} {g x i:Nat} {u a b c d:Value} (hx:x≠g) (h:W.cell? ⟨x,i,none⟩=some u):((((W.setCell ⟨g,0,none⟩ a).setCell ⟨g,1,none⟩ b).setCell ⟨g,2,none⟩ c).setCell ⟨g,3,none⟩ d).cell? ⟨x,i,none⟩=some u:=by
 rw[set_off (.inl hx),set_off (.inl hx),set_off (.inl hx),set_off (.inl hx)]
 exact h
theorem idx30 {W:World} {b i:Nat} (h:i < 8):(Instr.indexAt 30 (.slice (some ⟨b,0,none⟩) 8 8) (.int .i64 (i:Int))).run Tryz.prog W=.ok (.pointer (some ⟨b,i,none⟩)) W:=by
 have h1:(i:Int) < 8:=by omega
 have h0:(0:Int)≤(i:Int):=by omega
 simp[Instr.indexAt,go_sem,h0,h1]
 intro h9;omega
theorem ld9z {W:World} {b o:Nat} {s:ByteArray} (h:W.cell? ⟨b,o,none⟩=some (.string s)):(Instr.loadAt 9 (.pointer (some ⟨b,o,none⟩))).run Tryz.prog W=.ok (.string s) W:=by
 simp[Instr.loadAt,go_sem,h]
theorem index1F {W:World} {b:Nat}:(Instr.indexAt 23 (.slice (some ⟨b,0,none⟩) 2 2) (.int .i64 1)).run Tryz.prog W=.ok (.pointer (some ⟨b,4,none⟩)) W:=by
 simp[Instr.indexAt,go_sem]
theorem List.getElem?_take_some {α:Type} {l:List α} {n j:Nat} {u:α} (h:(l.take n)[j]? = some u):l[j]? = some u:=by
 rw[List.getElem?_take] at h
 split at h
 ·exact h
 ·cases h
theorem one_any {F:FT} {a b c d:Value} {W:World} (hv:FVal W F (.agg #[a,b,c,d])) (t:TypeId):FSl (W.alloc (.cells #[a,b,c,d] t)) (.cons F.op F.n F.ts F.sub .nil) (.slice (some ⟨W.heap.size,0,none⟩) 1 1):=by
 obtain⟨sa,ss,e,h1,h2⟩:=hv
 simp at e
 obtain⟨rfl,rfl,rfl,rfl⟩:=e
 have cN:=fun i=>cell_new W #[.int .u8 F.op,.string F.n,c,d] t i
 have hb:=bel_laid W (.cells #[.int .u8 F.op,.string F.n,c,d] t)
 exact⟨_,_,rfl,.inr ⟨_,_,rfl,cN 0,cN 1,⟨_,cN 2,TSl.below hb h1⟩,⟨_,cN 3,FSl.below hb h2⟩,trivial⟩⟩
theorem subsF_size:∀ k,(subsF k).size≤3
 | 0=>by decide
 | 1=>by decide
 | 2=>by decide
 | _+3=>by simp[subsF,Fs.size,Ts.size]
theorem subsF_wt:∀ k,(subsF k).wt≤20
 | 0=>by decide
 | 1=>by decide
 | 2=>by decide
 | _+3=>by show Fs.wt (.cons 1 ⟨#[81]⟩ .nil .nil (.cons 2 ⟨#[]⟩ .nil .nil (.cons 1 ⟨#[81]⟩ .nil .nil .nil)))≤20;decide
theorem opn_sh {op:Int} (ho:0≤op) (n:ByteArray) (ts:Ts) (k:Nat):Opn ⟨op,n,ts,subsF k⟩:=fun p hp=>by
 simp only[FT.parts,List.mem_cons] at hp
 rcases hp with rfl | hp
 ·exact ho
 ·match k,hp with
  | 0,hp=>simp[subsF,Fs.parts] at hp
  | 1,hp=>simp[subsF,Fs.parts] at hp;subst hp;show (0:Int)≤1;decide
  | 2,hp =>
   simp[subsF,Fs.parts] at hp
   rcases hp with rfl | rfl
   ·show (0:Int)≤1;decide
   ·show (0:Int)≤2;decide
  | _+3,hp =>
   simp[subsF,Fs.parts] at hp
   rcases hp with rfl | rfl | rfl
   ·show (0:Int)≤1;decide
   ·show (0:Int)≤2;decide
   ·show (0:Int)≤1;decide
theorem SbP.fs {z k:Nat} {v:Value} {W U:World} (hk:k≤3) (h:SbP z k v W) (hU:∀ g i u,z≤g→W.cell? ⟨g,i,none⟩=some u→U.cell? ⟨g,i,none⟩=some u):FSl U (subsF k) v:=by
 obtain⟨p,c,rfl,h⟩:=h
 refine⟨p,c,by rw[subsF_len k hk],?_⟩
 rcases h with h | ⟨g,rfl,h2,h3⟩
 ·exact .inl (by rw[subsF_len k hk];exact h)
 ·exact .inr ⟨g,0,rfl,subs_at k hk fun j u hu=>hU _ _ _ h2 (h3 j u hu)⟩
theorem VS.ext {U U':World} (h:Ext U U'):∀ {l:List Value} {r:List FT},VS U l r→VS U' l r
 | [],[],_=>trivial
 | _ :: _,_ :: _,⟨h1,h2⟩=>⟨FVal.ext h h1,VS.ext h h2⟩
theorem vs_step {xs:List Value} {fs:List FT} {F:FT} {v:Value} {wr VN v99:World} {u vv:Value} (hb:Below wr.heap.size wr VN) (hlt:∀ r,u.ownBlock=some r→r < wr.heap.size) (h1:∀ r,u.ownBlock=some r→VS (punch wr r) xs fs) (h0:u.ownBlock=none→xs=[]∧fs=[])
  (hv:∀ r,(u.ownBlock=some r∨r=VN.heap.size)→FVal (punch v99 r) F v) (hg:VN.grownBy v99 u.ownBlock) (hob:vv.ownBlock=u.ownBlock∨vv.ownBlock=some VN.heap.size):∀ r,vv.ownBlock=some r→VS (punch v99 r) (xs ++ [v]) (fs ++ [F]):=by
 intro r hr
 have hr2:(u.ownBlock=some r)∨r=VN.heap.size:=by
  rcases hob with e | e
  ·exact .inl (e ▸ hr)
  ·rw[e] at hr;cases hr;exact .inr rfl
 refine VS.app ?_ ⟨hv r hr2,trivial⟩
 cases hu:u.ownBlock with
 | none =>
  obtain⟨rfl,rfl⟩:=h0 hu
  trivial
 | some r0 =>
  refine VS.ext (fun b' o y hc=>?_) (h1 r0 hu)
  have hb0:b'≠r0:=fun e=>by subst e;rw[punch_none] at hc;cases hc
  rw[punch_cell hb0] at hc
  have k2:=c_B hb hc
  have k3:=lt_of_cell k2
  have hne:b'≠r:=by
   rcases hr2 with e | e
   ·rw[hu] at e;cases e;exact hb0
   ·omega
  rw[punch_cell hne]
  exact hg.cell k2 (fun e=>by rw[hu] at e;cases e;exact hb0 rfl)
theorem JK.moved {w0:World} {lits:List (Nat × Nat × Value)} {prs:List (Nat × Nat × (Value→World→Prop))} {l:Nat→Bool} {g:Nat→Value} {W W':World} {i:Nat} (h:JK w0 lits prs l g W) (h1:(lits.all fun p=>p.1 != i)=true) (h2:(prs.all fun p=>p.1 != i)=true) (hb:Below w0.heap.size w0 W') (hp:∀ p∈prs,∀ v,p.2.2 v W→p.2.2 v W'):JK w0 lits prs (upd l i true) g W':=by
 refine⟨fun p hm hl=>?_,fun p hm hl=>?_,hb⟩
 ·have:=List.all_eq_true.1 h1 p hm
  rw[upd_ne _ _ (by simpa using this)] at hl
  exact h.lit p hm hl
 ·have:=List.all_eq_true.1 h2 p hm
  rw[upd_ne _ _ (by simpa using this)] at hl
  exact hp p hm _ (h.pr p hm hl)
theorem Fr4'.set4 {x a:Nat} {W:World} {v0 v1 v2 v3:Value} (h:Fr4' x W) (ha:Fr4' a W):Fr4' x ((((W.setCell ⟨a,0,none⟩ v0).setCell ⟨a,1,none⟩ v1).setCell ⟨a,2,none⟩ v2).setCell ⟨a,3,none⟩ v3):=by
 by_cases e:x=a
 ·subst e
  obtain⟨u0,y0⟩:=ha 0 (by omega)
  obtain⟨u1,y1⟩:=ha 1 (by omega)
  obtain⟨u2,y2⟩:=ha 2 (by omega)
  obtain⟨u3,y3⟩:=ha 3 (by omega)
  obtain⟨z0,z1,z2,z3⟩:=set4_wc (a:=v0) (b:=v1) (c:=v2) (d:=v3) y0 y1 y2 y3
  intro j hj
  match j,hj with
  | 0,_=>exact⟨_,z0⟩
  | 1,_=>exact⟨_,z1⟩
  | 2,_=>exact⟨_,z2⟩
  | 3,_=>exact⟨_,z3⟩
 ·exact fun j hj=>(h j hj).imp fun _ hu=>wc_set4 e hu
theorem loadAny {W:World} {g o:Nat} {k:Int} {n:ByteArray} {p q:Option Addr} {x c y d:Nat} (h0:W.cell? ⟨g,o,none⟩=some (.int .u8 k)) (h1:W.cell? ⟨g,o+1,none⟩=some (.string n)) (h2:W.cell? ⟨g,o+2,none⟩=some (.slice p x c)) (h3:W.cell? ⟨g,o+3,none⟩=some (.slice q y d)):(Instr.loadAt 25 (.pointer (some ⟨g,o,none⟩))).run Tryz.prog W=.ok (.agg #[.int .u8 k,.string n,.slice p x c,.slice q y d]) W:=by
 simp[Instr.loadAt,go_sem,h0,h1,h2,h3]
theorem ixF {W:World} {b k n c:Nat} (hk:k < n):(Instr.indexAt 23 (.slice (some ⟨b,0,none⟩) n c) (.int .i64 (k:Int))).run Tryz.prog W=.ok (.pointer (some ⟨b,k*4,none⟩)) W:=by
 have h1:(k:Int) < (n:Int):=by omega
 have h0:(0:Int)≤(k:Int):=by omega
 simp[Instr.indexAt,go_sem,h0,hk]
def Cl4 (g:Nat) (k:Int) (n:ByteArray) (s t:Value) (W:World):Prop:=Wc W g 0 (.int .u8 k)∧Wc W g 1 (.string n)∧Wc W g 2 s∧Wc W g 3 t
theorem Cl4.keep {g:Nat} {k:Int} {n:ByteArray} {s t:Value} {W W':World} (h:Cl4 g k n s t W) (hk:∀ i u,Wc W g i u→Wc W' g i u):Cl4 g k n s t W':=⟨hk _ _ h.1,hk _ _ h.2.1,hk _ _ h.2.2.1,hk _ _ h.2.2.2⟩
theorem ex_bld0 {P:Program} {a:Act} {w w':World} {o:Oper} {v:Value} {t:TypeId} (hop:o.op=.build t #[]) (hr:(Instr.build t #[]).run P w=.ok v w'):(execOp a.eval o).run P w=.ok (.value v) w':=by
 simp[execOp,hop,hr,Result.andThen]
theorem ex_bld1 {P:Program} {a:Act} {w w':World} {o:Oper} {v u0:Value} {t:TypeId} {i:Nat} {x0:Operand} (hop:o.op=.build t #[(i,x0)]) (h0:a.eval x0=u0) (hr:(Instr.build t #[(i,u0)]).run P w=.ok v w'):(execOp a.eval o).run P w=.ok (.value v) w':=by
 simp[execOp,hop,h0,hr,Result.andThen]
theorem ex_bld2 {P:Program} {a:Act} {w w':World} {o:Oper} {v u0 u1:Value} {t:TypeId} {i j:Nat} {x0 x1:Operand} (hop:o.op=.build t #[(i,x0),(j,x1)]) (h0:a.eval x0=u0) (h1:a.eval x1=u1) (hr:(Instr.build t #[(i,u0),(j,u1)]).run P w=.ok v w'):(execOp a.eval o).run P w=.ok (.value v) w':=by
 simp[execOp,hop,h0,h1,hr,Result.andThen]
theorem ex_bld3 {P:Program} {a:Act} {w w':World} {o:Oper} {v u0 u1 u2:Value} {t:TypeId} {i j k:Nat} {x0 x1 x2:Operand} (hop:o.op=.build t #[(i,x0),(j,x1),(k,x2)]) (h0:a.eval x0=u0) (h1:a.eval x1=u1) (h2:a.eval x2=u2) (hr:(Instr.build t #[(i,u0),(j,u1),(k,u2)]).run P w=.ok v w'):(execOp a.eval o).run P w=.ok (.value v) w':=by
 simp[execOp,hop,h0,h1,h2,hr,Result.andThen]
theorem rb0 {w:World}:(Instr.build 46 #[]).run Tryz.prog w=.ok (.agg #[.bool false,.string ⟨#[]⟩,.slice none 0 0]) w:=by
 obtain⟨i0,hi,hz0,-,-⟩:=info_parts info50
 simp[Instr.build,go_sem,hi,hz0]
theorem rbA {w:World} {b:Bool}:(Instr.build 46 #[(0,.bool b)]).run Tryz.prog w=.ok (.agg #[.bool b,.string ⟨#[]⟩,.slice none 0 0]) w:=by
 simp[Instr.build,go_sem]
theorem rbAB {w:World} {b:Bool} {n:ByteArray}:(Instr.build 46 #[(0,.bool b),(1,.string n)]).run Tryz.prog w=.ok (.agg #[.bool b,.string n,.slice none 0 0]) w:=by
 simp[Instr.build,go_sem]
theorem rbB {w:World} {n:ByteArray}:(Instr.build 46 #[(1,.string n)]).run Tryz.prog w=.ok (.agg #[.bool false,.string n,.slice none 0 0]) w:=by
 simp[Instr.build,go_sem]
theorem rbBC {w:World} {n:ByteArray} {p:Option Addr} {k c:Nat}:(Instr.build 46 #[(1,.string n),(2,.slice p k c)]).run Tryz.prog w=.ok (.agg #[.bool false,.string n,.slice p k c]) w:=by
 simp[Instr.build,go_sem]
theorem rbABC {w:World} {b:Bool} {n:ByteArray} {p:Option Addr} {k c:Nat}:(Instr.build 46 #[(0,.bool b),(1,.string n),(2,.slice p k c)]).run Tryz.prog w=.ok (.agg #[.bool b,.string n,.slice p k c]) w:=by
 simp[Instr.build,go_sem]
def OT (t1 t2 t3 t4:Ts):Ts:=(.cons false ⟨#[]⟩ .nil (.cons true ⟨#[]⟩ .nil (.cons true ⟨#[97]⟩ .nil (.cons false ⟨#[120]⟩ .nil (.cons true ⟨#[120]⟩ t1 (.cons false ⟨#[97]⟩ t2 (.cons false ⟨#[102]⟩ t3 (.cons false ⟨#[102]⟩ t4 (.cons false ⟨#[63,116]⟩ .nil (.cons true ⟨#[63,84]⟩ .nil (.cons false ⟨#[97,108,108]⟩ .nil .nil)))))))))))
theorem odd_at {t1 t2 t3 t4:Ts} {p1 p2 p3 p4:Option Addr} {c1 c2 c3 c4:Nat} {W:World} (h1:TSl W t1 (.slice p1 t1.len c1)) (h2:TSl W t2 (.slice p2 t2.len c2)) (h3:TSl W t3 (.slice p3 t3.len c3)) (h4:TSl W t4 (.slice p4 t4.len c4)) (t:TypeId) :
  TsAt (W.alloc (.cells #[.bool false,.string ⟨#[]⟩,.slice none 0 0,.bool true,.string ⟨#[]⟩,.slice none 0 0,.bool true,.string ⟨#[97]⟩,.slice none 0 0,.bool false,.string ⟨#[120]⟩,.slice none 0 0,.bool true,.string ⟨#[120]⟩,.slice p1 t1.len c1,.bool false,.string ⟨#[97]⟩,.slice p2 t2.len c2,.bool false,.string ⟨#[102]⟩,.slice p3 t3.len c3,.bool false,.string ⟨#[102]⟩,.slice p4 t4.len c4,.bool false,.string ⟨#[63,116]⟩,.slice none 0 0,.bool true,.string ⟨#[63,84]⟩,.slice none 0 0,.bool false,.string ⟨#[97,108,108]⟩,.slice none 0 0] t)) (OT t1 t2 t3 t4) W.heap.size 0:=by
 have cN:=fun i=>cell_new W #[.bool false,.string ⟨#[]⟩,.slice none 0 0,.bool true,.string ⟨#[]⟩,.slice none 0 0,.bool true,.string ⟨#[97]⟩,.slice none 0 0,.bool false,.string ⟨#[120]⟩,.slice none 0 0,.bool true,.string ⟨#[120]⟩,.slice p1 t1.len c1,.bool false,.string ⟨#[97]⟩,.slice p2 t2.len c2,.bool false,.string ⟨#[102]⟩,.slice p3 t3.len c3,.bool false,.string ⟨#[102]⟩,.slice p4 t4.len c4,.bool false,.string ⟨#[63,116]⟩,.slice none 0 0,.bool true,.string ⟨#[63,84]⟩,.slice none 0 0,.bool false,.string ⟨#[97,108,108]⟩,.slice none 0 0] t i
 have hb:=bel_laid W (.cells #[.bool false,.string ⟨#[]⟩,.slice none 0 0,.bool true,.string ⟨#[]⟩,.slice none 0 0,.bool true,.string ⟨#[97]⟩,.slice none 0 0,.bool false,.string ⟨#[120]⟩,.slice none 0 0,.bool true,.string ⟨#[120]⟩,.slice p1 t1.len c1,.bool false,.string ⟨#[97]⟩,.slice p2 t2.len c2,.bool false,.string ⟨#[102]⟩,.slice p3 t3.len c3,.bool false,.string ⟨#[102]⟩,.slice p4 t4.len c4,.bool false,.string ⟨#[63,116]⟩,.slice none 0 0,.bool true,.string ⟨#[63,84]⟩,.slice none 0 0,.bool false,.string ⟨#[97,108,108]⟩,.slice none 0 0] t)
 exact⟨cN 0,cN 1,⟨_,cN 2,nil_terms _⟩,cN 3,cN 4,⟨_,cN 5,nil_terms _⟩,cN 6,cN 7,⟨_,cN 8,nil_terms _⟩,cN 9,cN 10,⟨_,cN 11,nil_terms _⟩,cN 12,cN 13,⟨_,cN 14,TSl.below hb h1⟩,cN 15,cN 16,⟨_,cN 17,TSl.below hb h2⟩,cN 18,cN 19,⟨_,cN 20,TSl.below hb h3⟩,cN 21,cN 22,⟨_,cN 23,TSl.below hb h4⟩,cN 24,cN 25,⟨_,cN 26,nil_terms _⟩,cN 27,cN 28,⟨_,cN 29,nil_terms _⟩,cN 30,cN 31,⟨_,cN 32,nil_terms _⟩,trivial⟩
theorem build_odd (w:World) (p1 p2 p3 p4:Option Addr) (k1 k2 k3 k4 c1 c2 c3 c4:Nat):(Instr.buildSlice 22 11 #[(0,.agg #[.bool false,.string ⟨#[]⟩,.slice none 0 0]),(1,.agg #[.bool true,.string ⟨#[]⟩,.slice none 0 0]),(2,.agg #[.bool true,.string ⟨#[97]⟩,.slice none 0 0]),(3,.agg #[.bool false,.string ⟨#[120]⟩,.slice none 0 0]),(4,.agg #[.bool true,.string ⟨#[120]⟩,.slice p1 k1 c1]),(5,.agg #[.bool false,.string ⟨#[97]⟩,.slice p2 k2 c2]),(6,.agg #[.bool false,.string ⟨#[102]⟩,.slice p3 k3 c3]),(7,.agg #[.bool false,.string ⟨#[102]⟩,.slice p4 k4 c4]),(8,.agg #[.bool false,.string ⟨#[63,116]⟩,.slice none 0 0]),(9,.agg #[.bool true,.string ⟨#[63,84]⟩,.slice none 0 0]),(10,.agg #[.bool false,.string ⟨#[97,108,108]⟩,.slice none 0 0])]).run Tryz.prog w=.ok (.slice (some ⟨w.heap.size,0,none⟩) 11 11) (w.alloc (.cells #[.bool false,.string ⟨#[]⟩,.slice none 0 0,.bool true,.string ⟨#[]⟩,.slice none 0 0,.bool true,.string ⟨#[97]⟩,.slice none 0 0,.bool false,.string ⟨#[120]⟩,.slice none 0 0,.bool true,.string ⟨#[120]⟩,.slice p1 k1 c1,.bool false,.string ⟨#[97]⟩,.slice p2 k2 c2,.bool false,.string ⟨#[102]⟩,.slice p3 k3 c3,.bool false,.string ⟨#[102]⟩,.slice p4 k4 c4,.bool false,.string ⟨#[63,116]⟩,.slice none 0 0,.bool true,.string ⟨#[63,84]⟩,.slice none 0 0,.bool false,.string ⟨#[97,108,108]⟩,.slice none 0 0] 46)):=by
 simp[Instr.buildSlice,go_sem]
theorem ex_buildSlice11 {P:Program} {a:Act} {w w':World} {o:Oper} {v u0 u1 u2 u3 u4 u5 u6 u7 u8 u9 ua:Value} {t:TypeId} {n:Nat} {x0 x1 x2 x3 x4 x5 x6 x7 x8 x9 xa:Operand} (hop:o.op=.buildSlice t n #[(0,x0),(1,x1),(2,x2),(3,x3),(4,x4),(5,x5),(6,x6),(7,x7),(8,x8),(9,x9),(10,xa)])
  (h0:a.eval x0=u0) (h1:a.eval x1=u1) (h2:a.eval x2=u2) (h3:a.eval x3=u3) (h4:a.eval x4=u4) (h5:a.eval x5=u5) (h6:a.eval x6=u6) (h7:a.eval x7=u7) (h8:a.eval x8=u8) (h9:a.eval x9=u9) (ha:a.eval xa=ua)
  (hr:(Instr.buildSlice t n #[(0,u0),(1,u1),(2,u2),(3,u3),(4,u4),(5,u5),(6,u6),(7,u7),(8,u8),(9,u9),(10,ua)]).run P w=.ok v w'):(execOp a.eval o).run P w=.ok (.value v) w':=by
 simp[execOp,hop,h0,h1,h2,h3,h4,h5,h6,h7,h8,h9,ha,hr,Result.andThen]
theorem term_x (ch:UInt8) (w:World):Calls Tryz.prog 48 #[.string ⟨#[ch]⟩,.slice none 0 0] w fun e w'=>(∃ v',e=.returned v'∧∃ b:Bool,v'=.agg #[.bool b,.string ⟨#[ch]⟩,.slice none 0 0])∧Below w.heap.size w w' :=
 (term_all ch none 0 0 w).mono fun e w' ⟨⟨b,he⟩,hb⟩=>⟨⟨_,he,b,rfl⟩,hb⟩
theorem rbF {w:World} {k:Int} {n:ByteArray} {p:Option Addr} {a b:Nat}:(Instr.build 25 #[(0,.int .u8 k),(1,.string n),(2,.slice p a b)]).run Tryz.prog w=.ok (.agg #[.int .u8 k,.string n,.slice p a b,.slice none 0 0]) w:=by
 simp[Instr.build,go_sem]
theorem build_t2 (w:World) (c0 c1 c2 d0 d1 d2:Value):(Instr.buildSlice 22 2 #[(0,.agg #[c0,c1,c2]),(1,.agg #[d0,d1,d2])]).run Tryz.prog w=.ok (.slice (some ⟨w.heap.size,0,none⟩) 2 2) (w.alloc (.cells #[c0,c1,c2,d0,d1,d2] 46)):=by
 simp[Instr.buildSlice,go_sem]
theorem opn_leaf {op:Int} (ho:0≤op) (n:ByteArray) (ts:Ts):Opn ⟨op,n,ts,.nil⟩:=opn_sh ho n ts 0
theorem tsl_to {W:World} {ts:Ts} {v v':Value} (h:TSl W ts v) (e:v=v'):TSl W ts v':=e ▸ h
theorem fval_leaf {W:World} {op:Int} {n:ByteArray} {ts:Ts} {s:Value} (h:TSl W ts s):FVal W ⟨op,n,ts,.nil⟩ (.agg #[.int .u8 op,.string n,s,.slice none 0 0]):=⟨_,_,rfl,h,⟨none,0,rfl,.inl rfl⟩⟩
structure SH (gn gp ga:Nat) (AT:Ts) (W:World):Prop where
 names:∀ i,i < 8→∃ s:ByteArray,W.cell? ⟨gn,i,none⟩=some (.string s)∧s.size≤3
 p0:W.cell? ⟨gp,0,none⟩=some (.int .u8 1)
 p1:W.cell? ⟨gp,1,none⟩=some (.string ⟨#[81]⟩)
 p2:W.cell? ⟨gp,2,none⟩=some (.slice none 0 0)
 p3:W.cell? ⟨gp,3,none⟩=some (.slice none 0 0)
 p4:W.cell? ⟨gp,4,none⟩=some (.int .u8 2)
 p5:W.cell? ⟨gp,5,none⟩=some (.string ⟨#[]⟩)
 p6:W.cell? ⟨gp,6,none⟩=some (.slice none 0 0)
 p7:W.cell? ⟨gp,7,none⟩=some (.slice none 0 0)
 args:TsAt W AT ga 0
theorem SH.below {gn gp ga:Nat} {AT:Ts} {W W':World} (h:SH gn gp ga AT W) (hb:Below W.heap.size W W'):SH gn gp ga AT W' :=
 ⟨fun i hi=>(h.names i hi).imp fun _ hs=>⟨c_B hb hs.1,hs.2⟩,c_B hb h.p0,c_B hb h.p1,c_B hb h.p2,c_B hb h.p3,c_B hb h.p4,c_B hb h.p5,c_B hb h.p6,c_B hb h.p7,TsAt.kept (Ext.of_below hb) h.args⟩
end Go.Proofs.YtngdieldgnlogaaGreatDoor
