/- The law's small makers of formulas, atoms and terms; a world in which one block holds nothing. -/
import Derived.Test.YtngdieldgnlogaaGreatDoorAE
namespace Go.Proofs.YtngdieldgnlogaaGreatDoor
set_option linter.unusedSimpArgs false
open Go Go.RowKit
set_option maxRecDepth 100000
set_option linter.unusedVariables false
theorem atom_all (n:ByteArray) (p:Option Addr) (k c:Nat) (w:World):Calls Tryz.prog 39 #[.string n,.slice p k c] w fun e w'=>e=.returned (.agg #[.int .u8 1,.string n,.slice p k c,.slice none 0 0])∧Below w.heap.size w w':=by
 go_enter Tryz.func39,Tryz.ntmps39
 go_wp2
 refine bodyPost_ret (v:=.agg #[.int .u8 1,.string n,.slice p k c,.slice none 0 0]) ?_ rfl ⟨rfl,bel_laid _ _⟩
 simp[results,Tryz.results39,go_sem]
theorem of_all (op:Int) (n:ByteArray) (p:Option Addr) (k c:Nat) (w:World):Calls Tryz.prog 49 #[.int .u8 op,.string n,.slice p k c] w fun e w'=>e=.returned (.agg #[.int .u8 op,.string n,.slice none 0 0,.slice p k c])∧Below w.heap.size w w':=by
 go_enter Tryz.func49,Tryz.ntmps49
 go_wp2
 refine bodyPost_ret (v:=.agg #[.int .u8 op,.string n,.slice none 0 0,.slice p k c]) ?_ rfl ⟨rfl,bel_laid _ _⟩
 simp[results,Tryz.results49,go_sem]
theorem term_all (ch:UInt8) (p:Option Addr) (k c:Nat) (w:World):Calls Tryz.prog 48 #[.string ⟨#[ch]⟩,.slice p k c] w fun e w'=>(∃ v:Bool,e=.returned (.agg #[.bool v,.string ⟨#[ch]⟩,.slice p k c]))∧Below w.heap.size w w':=by
 go_enter Tryz.func48,Tryz.ntmps48
 go_wp2
 refine bodyPost_ret (v:=.agg #[.bool (decide ((117:Int)≤(ch.toNat:Int))),.string ⟨#[ch]⟩,.slice p k c]) ?_ rfl ⟨⟨_,rfl⟩,bel_laid _ _⟩
 simp[results,Tryz.results48,go_sem]
 rfl
def punch (W:World) (g:Nat):World:={ W with heap:=W.heap.setIfInBounds g (.deferred none) }
theorem punch_size (W:World) (g:Nat):(punch W g).heap.size=W.heap.size:=by simp[punch]
theorem punch_block {W:World} {g k:Nat} (h:k≠g):(punch W g).heap[k]? = W.heap[k]?:=by
 unfold punch
 exact Array.getElem?_setIfInBounds_ne (Ne.symm h)
theorem punch_cell {W:World} {g b o:Nat} (h:b≠g):(punch W g).cell? ⟨b,o,none⟩=W.cell? ⟨b,o,none⟩:=World.cell?_of_block (punch_block h)
theorem punch_none {W:World} {g o:Nat}:(punch W g).cell? ⟨g,o,none⟩=none:=by
 unfold World.cell? punch
 by_cases h:g < W.heap.size
 ·simp[h]
 ·simp[h]
theorem punch_ext (W:World) (g:Nat):Ext (punch W g) W:=fun b o v hc=>by
 by_cases h:b=g
 ·subst h;rw[punch_none] at hc;cases hc
 ·rw[punch_cell h] at hc;exact hc
theorem punch_alloc {W:World} {g:Nat} (h:g < W.heap.size) (o:Obj):punch (W.alloc o) g=(punch W g).alloc o:=by
 unfold punch World.alloc
 simp only[World.mk.injEq,and_true,true_and]
 apply Array.ext_getElem?
 intro i
 simp only[Array.getElem?_setIfInBounds,Array.getElem?_push,Array.size_push,Array.size_setIfInBounds]
 by_cases hi:g=i
 ·subst hi
  have h2:g≠W.heap.size:=by omega
  simp[h2,h]
  omega
 ·simp[hi]
theorem punch_below {W W':World} {g:Nat} (hb:Below W.heap.size W W'):Below (punch W g).heap.size (punch W g) (punch W' g):=by
 rw[punch_size]
 refine⟨hb.os,hb.tape,hb.output,by rw[punch_size,punch_size];exact hb.size,fun k hk=>?_⟩
 by_cases h:k=g
 ·subst h
  unfold punch
  have h2:k < W'.heap.size:=Nat.lt_of_lt_of_le hk hb.size
  simp[hk,h2]
 ·rw[punch_block h,punch_block h]
  exact hb.block k hk
theorem punch_set (W:World) (g i:Nat) (v:Value):punch (W.setCell ⟨g,i,none⟩ v) g=punch W g:=by
 unfold punch World.setCell
 simp only[World.mk.injEq,and_true,true_and]
 apply Array.ext_getElem?
 intro j
 simp only[Array.getElem?_setIfInBounds,Array.getElem?_modify,Array.size_modify]
 by_cases hj:g=j
 ·subst hj;simp
 ·simp[hj]
structure BX (F:FT) (v:Value) (g:Nat) (W:World):Prop where
 c0:Wc W g 0 (.int .u8 F.op)
 c1:Wc W g 1 (.string F.n)
 c2:∃ p c,Wc W g 2 (.slice p F.ts.len c)∧∃ q d,Wc W g 3 (.slice q F.sub.len d)∧v=fval F (.slice p F.ts.len c) (.slice q F.sub.len d)
 val:FVal (punch W g) F v
theorem BX.below {F:FT} {v:Value} {g:Nat} {W W':World} (h:BX F v g W) (hb:Below W.heap.size W W'):BX F v g W':=by
 obtain⟨h0,h1,⟨p,c,h2,q,d,h3,hv⟩,h4⟩:=h
 exact⟨h0.below hb,h1.below hb,⟨p,c,h2.below hb,q,d,h3.below hb,hv⟩,FVal.below (punch_below hb) h4⟩
theorem BX.at {F:FT} {v:Value} {g:Nat} {W:World} (h:BX F v g W):FVal W F v:=FVal.ext (punch_ext W g) h.val
theorem fval_of {W:World} {op:Int} {n:ByteArray} {sub:Fs} {s:Value} (h:FSl W sub s):FVal W ⟨op,n,.nil,sub⟩ (.agg #[.int .u8 op,.string n,.slice none 0 0,s]):=⟨_,_,rfl,⟨none,0,rfl,.inl rfl⟩,h⟩
theorem fval_atom {W:World} {n:ByteArray} {ts:Ts} {s:Value} (h:TSl W ts s):FVal W ⟨1,n,ts,.nil⟩ (.agg #[.int .u8 1,.string n,s,.slice none 0 0]):=⟨_,_,rfl,h,⟨none,0,rfl,.inl rfl⟩⟩
theorem ex_buildSlice2 {P:Program} {a:Act} {w w':World} {o:Oper} {v u0 u1:Value} {t:TypeId} {n:Nat} {x0 x1:Operand} (hop:o.op=.buildSlice t n #[(0,x0),(1,x1)]) (h0:a.eval x0=u0) (h1:a.eval x1=u1)
  (hr:(Instr.buildSlice t n #[(0,u0),(1,u1)]).run P w=.ok v w'):(execOp a.eval o).run P w=.ok (.value v) w':=by
 simp[execOp,hop,h0,h1,hr,Result.andThen]
theorem build_two (w:World) (c0 c1 c2 c3 d0 d1 d2 d3:Value):(Instr.buildSlice 23 2 #[(0,.agg #[c0,c1,c2,c3]),(1,.agg #[d0,d1,d2,d3])]).run Tryz.prog w=.ok (.slice (some ⟨w.heap.size,0,none⟩) 2 2) (w.alloc (.cells #[c0,c1,c2,c3,d0,d1,d2,d3] 25)):=by
 simp[Instr.buildSlice,go_sem]
theorem two_list {f h:FT} {p q p' q':Option Addr} {a b a' b':Nat} {W:World} (hv:FVal W f (fval f (.slice p f.ts.len a) (.slice q f.sub.len b))) (hv':FVal W h (fval h (.slice p' h.ts.len a') (.slice q' h.sub.len b'))) (t:TypeId) :
  FSl (W.alloc (.cells #[.int .u8 f.op,.string f.n,.slice p f.ts.len a,.slice q f.sub.len b,.int .u8 h.op,.string h.n,.slice p' h.ts.len a',.slice q' h.sub.len b'] t)) (.cons f.op f.n f.ts f.sub (.cons h.op h.n h.ts h.sub .nil)) (.slice (some ⟨W.heap.size,0,none⟩) 2 2):=by
 have cN:=fun i=>cell_new W #[.int .u8 f.op,.string f.n,.slice p f.ts.len a,.slice q f.sub.len b,.int .u8 h.op,.string h.n,.slice p' h.ts.len a',.slice q' h.sub.len b'] t i
 have b5:=bel_laid W (.cells #[.int .u8 f.op,.string f.n,.slice p f.ts.len a,.slice q f.sub.len b,.int .u8 h.op,.string h.n,.slice p' h.ts.len a',.slice q' h.sub.len b'] t)
 obtain⟨_,_,e,t1,t2⟩:=hv
 obtain⟨_,_,e',t3,t4⟩:=hv'
 simp at e e'
 obtain⟨rfl,rfl⟩:=e
 obtain⟨rfl,rfl⟩:=e'
 exact⟨_,_,rfl,.inr ⟨_,_,rfl,cN 0,cN 1,⟨_,cN 2,TSl.below b5 t1⟩,⟨_,cN 3,FSl.below b5 t2⟩,cN 4,cN 5,⟨_,cN 6,TSl.below b5 t3⟩,⟨_,cN 7,FSl.below b5 t4⟩,trivial⟩⟩
def Opn (F:FT):Prop:=∀ p∈F.parts,0≤p.op
def N1 (op:Int) (n:ByteArray) (F:FT):FT:=⟨op,n,.nil,.cons F.op F.n F.ts F.sub .nil⟩
def N2 (op:Int) (n:ByteArray) (F G:FT):FT:=⟨op,n,.nil,.cons F.op F.n F.ts F.sub (.cons G.op G.n G.ts G.sub .nil)⟩
def A0 (c:UInt8):FT:=⟨1,⟨#[c]⟩,.nil,.nil⟩
theorem N1.open {op:Int} {n:ByteArray} {F:FT} (ho:0≤op) (h:Opn F):Opn (N1 op n F):=fun p hp=>by
 simp only[N1,FT.parts,Fs.parts,List.mem_cons,List.append_nil] at hp
 rcases hp with rfl | rfl | hp
 ·exact ho
 ·exact h _ (List.mem_cons_self ..)
 ·exact h _ (List.mem_cons_of_mem _ hp)
theorem N2.open {op:Int} {n:ByteArray} {F G:FT} (ho:0≤op) (h:Opn F) (h':Opn G):Opn (N2 op n F G):=fun p hp=>by
 simp only[N2,FT.parts,Fs.parts,List.mem_cons,List.mem_append,List.append_nil] at hp
 rcases hp with rfl | rfl | hp | rfl | hp
 ·exact ho
 ·exact h _ (List.mem_cons_self ..)
 ·exact h _ (List.mem_cons_of_mem _ hp)
 ·exact h' _ (List.mem_cons_self ..)
 ·exact h' _ (List.mem_cons_of_mem _ hp)
theorem A0.open (c:UInt8):Opn (A0 c):=fun p hp=>by
 simp only[A0,FT.parts,Fs.parts,List.mem_cons,List.not_mem_nil,or_false] at hp
 subst hp
 show (0:Int)≤1
 decide
theorem N1.size (op:Int) (n:ByteArray) (F:FT):(N1 op n F).size=F.size+1:=by simp only[N1,FT.size,Fs.size,Ts.size];omega
theorem N2.size (op:Int) (n:ByteArray) (F G:FT):(N2 op n F G).size=F.size+G.size+1:=by simp only[N2,FT.size,Fs.size,Ts.size];omega
theorem N1.wt (op:Int) (F:FT):(N1 op ⟨#[]⟩ F).wt=F.wt+1:=by simp only[N1,FT.wt,Fs.wt,Ts.wt,ByteArray.size,Array.size_empty];omega
theorem N2.wt (op:Int) (F G:FT):(N2 op ⟨#[]⟩ F G).wt=F.wt+G.wt+1:=by simp only[N2,FT.wt,Fs.wt,Ts.wt,ByteArray.size,Array.size_empty];omega
theorem bx_new {F:FT} {sa ss:Value} {w:World} (h:FVal w F (fval F sa ss)):BX F (fval F sa ss) w.heap.size (w.alloc (.cells #[.int .u8 F.op,.string F.n,sa,ss] 25)):=by
 have hv:=h
 obtain⟨sa',ss',he,⟨p,c,rfl,h1⟩,⟨q,d,rfl,h2⟩⟩:=h
 simp at he
 obtain⟨rfl,rfl⟩:=he
 have hF:=Free.lit w #[.int .u8 F.op,.string F.n,.slice p F.ts.len c,.slice q F.sub.len d] 25
 have cN:=fun i v (hi:#[Value.int .u8 F.op,.string F.n,.slice p F.ts.len c,.slice q F.sub.len d][i]? = some v)=>(show Wc (w.alloc (.cells #[.int .u8 F.op,.string F.n,.slice p F.ts.len c,.slice q F.sub.len d] 25)) w.heap.size i v from
  ⟨(cell_new w _ 25 i).trans hi,(hF i (Array.getElem?_eq_some_iff.1 hi).1).2⟩)
 exact⟨cN 0 _ rfl,cN 1 _ rfl,⟨p,c,cN 2 _ rfl,q,d,cN 3 _ rfl,rfl⟩,FVal.ext (fun b o u hc=>by
  have hb:=lt_of_cell hc
  rw[punch_cell (by omega)]
  exact c_B (bel_laid w _) hc) hv⟩
theorem BX.set {F G:FT} {v:Value} {g:Nat} {W:World} {p q:Option Addr} {m n:Nat} (h:BX F v g W) (hv:FVal (punch W g) G (fval G (.slice p G.ts.len m) (.slice q G.sub.len n))) :
  BX G (fval G (.slice p G.ts.len m) (.slice q G.sub.len n)) g ((((W.setCell ⟨g,0,none⟩ (.int .u8 G.op)).setCell ⟨g,1,none⟩ (.string G.n)).setCell ⟨g,2,none⟩ (.slice p G.ts.len m)).setCell ⟨g,3,none⟩ (.slice q G.sub.len n)):=by
 obtain⟨h0,h1,⟨p',c',h2,q',d',h3,-⟩,-⟩:=h
 refine⟨?_,?_,⟨p,m,?_,q,n,?_,rfl⟩,by rw[punch_set,punch_set,punch_set,punch_set];exact hv⟩
 ·exact wc_off (.inr (by decide)) (wc_off (.inr (by decide)) (wc_off (.inr (by decide)) (wc_on h0.1 h0.2)))
 ·exact wc_off (.inr (by decide)) (wc_off (.inr (by decide)) (wc_on (wc_off (.inr (by decide)) h1).1 (wc_off (.inr (by decide)) h1).2))
 ·exact wc_off (.inr (by decide)) (wc_on (wc_off (.inr (by decide)) (wc_off (.inr (by decide)) h2)).1 (wc_off (.inr (by decide)) (wc_off (.inr (by decide)) h2)).2)
 ·exact wc_on (wc_off (.inr (by decide)) (wc_off (.inr (by decide)) (wc_off (.inr (by decide)) h3))).1 (wc_off (.inr (by decide)) (wc_off (.inr (by decide)) (wc_off (.inr (by decide)) h3))).2
theorem BX.run {F G:FT} {v:Value} {g:Nat} {W:World} (h:BX F v g W) {p q:Option Addr} {m n:Nat}:(Instr.storeAt 25 (.pointer (some ⟨g,0,none⟩)) (fval G (.slice p G.ts.len m) (.slice q G.sub.len n))).run Tryz.prog W =
  .ok () ((((W.setCell ⟨g,0,none⟩ (.int .u8 G.op)).setCell ⟨g,1,none⟩ (.string G.n)).setCell ⟨g,2,none⟩ (.slice p G.ts.len m)).setCell ⟨g,3,none⟩ (.slice q G.sub.len n)):=by
 obtain⟨h0,h1,⟨p',c',h2,q',d',h3,-⟩,-⟩:=h
 exact storeF h0 h1 h2 h3
theorem below_set4 {B:Nat} {w W:World} {g:Nat} {a b c d:Value} (hb:Below B w W) (hg:B≤g):Below B w ((((W.setCell ⟨g,0,none⟩ a).setCell ⟨g,1,none⟩ b).setCell ⟨g,2,none⟩ c).setCell ⟨g,3,none⟩ d) :=
 (((hb.setCell (p:=⟨g,0,none⟩) hg _).setCell (p:=⟨g,1,none⟩) hg _).setCell (p:=⟨g,2,none⟩) hg _).setCell (p:=⟨g,3,none⟩) hg _
theorem of_form (op:Int) (n:ByteArray) (L:Fs) (s:Value) (g:Nat) (W:World) (h:FSl (punch W g) L s):Calls Tryz.prog 49 #[.int .u8 op,.string n,s] W fun e W'=>(∃ v,e=.returned v∧FVal (punch W' g) ⟨op,n,.nil,L⟩ v)∧Below W.heap.size W W':=by
 obtain⟨p,c,rfl,hp⟩:=id h
 exact(of_all op n p L.len c W).mono fun e W' ⟨he,hb⟩=>⟨⟨_,he,fval_of (FSl.below (punch_below hb) h)⟩,hb⟩
end Go.Proofs.YtngdieldgnlogaaGreatDoor
