/- The law's own copies: CopyTerms. The law's own copies: CopyForms and Copy. -/
import Derived.Test.YtngdieldgnlogaaGreatDoorMV
import Derived.Deep.RegionHeld3
import Derived.Deep.AppendLies
import Derived.Test.YtngdieldgnlogaaGreatDoorQU
import Derived.Test.YtngdieldgnlogaaGreatDoorQE
import Derived.OwnWalk
import Derived.Maps.AppendAt
namespace Go.Proofs.YtngdieldgnlogaaGreatDoor
open Go Go.RowKit
set_option maxRecDepth 100000
set_option linter.unusedVariables false
def TTr (W:World) (lo:Nat) (s:Value) (ts:Ts) (u:Value):Prop:=∃ U,TOwn U lo ts u∧∀ b o y,U.cell? ⟨b,o,none⟩=some y→W.cell? ⟨b,o,none⟩=some y∧s.ownBlock≠some b
def TRow (W:World) (lo:Nat) (s:Value):Ts→List Value→Prop
 | .nil,xs=>xs=[]
 | .cons v n ts r,xs=>∃ u rest,xs=.bool v :: .string n :: u :: rest∧TTr W lo s ts u∧TRow W lo s r rest
theorem TTr.imp {W W':World} {lo:Nat} {s s':Value} (h:∀ b o y,W.cell? ⟨b,o,none⟩=some y→s.ownBlock≠some b→W'.cell? ⟨b,o,none⟩=some y∧s'.ownBlock≠some b) {ts:Ts} {u:Value} (ht:TTr W lo s ts u):TTr W' lo s' ts u:=by
 obtain⟨U,h1,h2⟩:=ht
 exact⟨U,h1,fun b o y hy=>h b o y (h2 b o y hy).1 (h2 b o y hy).2⟩
theorem TRow.imp {W W':World} {lo:Nat} {s s':Value} (h:∀ b o y,W.cell? ⟨b,o,none⟩=some y→s.ownBlock≠some b→W'.cell? ⟨b,o,none⟩=some y∧s'.ownBlock≠some b):∀ {q:Ts} {xs:List Value},TRow W lo s q xs→TRow W' lo s' q xs
 | .nil,_,hx=>hx
 | .cons _ _ _ _,_,⟨u,rest,e,ht,hr⟩=>⟨u,rest,e,ht.imp h,TRow.imp h hr⟩
theorem TRow.snoc {W:World} {lo:Nat} {s:Value} {v:Bool} {n:ByteArray} {ts:Ts} {u:Value} (ht:TTr W lo s ts u):∀ {q:Ts} {xs:List Value},TRow W lo s q xs→TRow W lo s (q.app (.cons v n ts .nil)) (xs ++ [.bool v,.string n,u])
 | .nil,_,rfl=>⟨u,[],rfl,ht,rfl⟩
 | .cons _ _ _ _,_,⟨u',rest,e,ht',hr⟩=>⟨u',_,by rw[e];rfl,ht',TRow.snoc ht hr⟩
theorem TTr.own {W:World} {lo:Nat} {s:Value} {ts:Ts} {u:Value} (h:TTr W lo s ts u):TOwn W lo ts u:=by
 obtain⟨U,h1,h2⟩:=h
 exact TOwn.keep (fun b o y _ hc=>(h2 b o y hc).1) h1
theorem TRow.at {W:World} {lo:Nat} {s:Value} {g:Nat}:∀ {q:Ts} {xs:List Value} (o:Nat),TRow W lo s q xs→(∀ j y,xs[j]? = some y→W.cell? ⟨g,o+j,none⟩=some y)→TsAb W lo q g o
 | .nil,_,_,_,_=>trivial
 | .cons v n ts r,_,o,⟨u,rest,e,ht,hr⟩,hc=>by
  subst e
  refine⟨hc 0 _ rfl,hc 1 _ rfl,⟨u,hc 2 _ rfl,ht.own⟩,TRow.at (o+3) hr fun j y hj=>?_⟩
  rw[show o+3+j=o+(j+3) by omega]
  exact hc (j+3) y (by simpa using hj)
def CRow (W:World) (lo:Nat) (s:Value) (q:Ts):Prop:=∃ xs,W.ownsRow lo 46 3 s q.len xs∧TRow W lo s q xs
theorem CRow.own {W:World} {lo:Nat} {s:Value} {q:Ts} (h:CRow W lo s q):TOwn W lo q s:=by
 obtain⟨xs,h1,h2⟩:=h
 obtain⟨h0,⟨rfl,hz⟩ | ⟨g,cap,cur,rfl,hg,h3,h4⟩⟩:=id h1
 ·exact⟨none,0,by rw[hz],.inl hz⟩
 ·refine⟨_,_,rfl,.inr ⟨g,0,rfl,hg,TRow.at 0 h2 fun j y hj=>?_⟩⟩
  have:=h1.cells (g:=g) rfl j y hj
  rw[Addr.add_mid] at this
  exact this
theorem CRow.below {W W':World} {lo:Nat} {s:Value} {q:Ts} (h:CRow W lo s q) (hb:Below W.heap.size W W'):CRow W' lo s q:=by
 obtain⟨xs,h1,h2⟩:=h
 exact⟨xs,owns_below hb h1,h2.imp fun b o y hc hn=>⟨c_B hb hc,hn⟩⟩
theorem CRow.app {W W':World} {lo:Nat} {s s':Value} {q:Ts} {xs:List Value} {v:Bool} {n:ByteArray} {ts:Ts} {u:Value} (h1:W.ownsRow lo 46 3 s q.len xs) (h2:TRow W lo s q xs) (ht:TTr W lo s ts u) (hg:W.grownBy W' s.ownBlock)
  (ho:W'.ownsRow lo 46 3 s' (q.len+1) (xs ++ [.bool v,.string n,u])) (hob:s.ownBlock=s'.ownBlock∨∃ g,s'.ownBlock=some g∧W.heap.size≤g):CRow W' lo s' (q.app (.cons v n ts .nil)):=by
 have hk:∀ b o y,W.cell? ⟨b,o,none⟩=some y→s.ownBlock≠some b→W'.cell? ⟨b,o,none⟩=some y∧s'.ownBlock≠some b:=by
  intro b o y hc hn
  refine⟨hg.cell hc (fun e=>hn e.symm),?_⟩
  rcases hob with e | ⟨g,e,hge⟩
  ·rw[←e];exact hn
  ·rw[e]
   intro e2
   cases e2
   have:=lt_of_cell hc
   omega
 exact⟨_,by rw[Ts.len_app];exact ho,TRow.snoc (ht.imp hk) (h2.imp hk)⟩
theorem ttr_new {W W':World} {lo:Nat} {s:Value} {ts:Ts} {u:Value} (hlo:lo≤W.heap.size) (hs:∀ g,s.ownBlock=some g→g < W.heap.size) (ho:TOwn W' W.heap.size ts u):TTr W' lo s ts u:=by
 refine⟨hideLow W' W.heap.size,TOwn.less hlo (TOwn.keep (fun b o y hz hc=>hideLow_keep hz hc) ho),fun b o y hy=>?_⟩
 obtain⟨hz,hc⟩:=hideLow_cell hy
 exact⟨hc,fun e=>by have:=hs b e;omega⟩
theorem own_one {W:World} {lo:Nat} {ts:Ts} {s:Value} {v:Bool} {n:ByteArray} (h:TOwn W lo ts s):∀ u∈[Value.bool v,.string n,s],u.oneCell'=true:=by
 obtain⟨p,c,rfl,-⟩:=h
 intro u hu
 simp at hu
 rcases hu with rfl | rfl | rfl<;>rfl
def CopyT (N:Nat):Prop:=∀ (ts:Ts) (sa:Value) (w:World),ts.size≤N→TSl w ts sa→ts.size≤1000000→Calls Tryz.prog 54 #[sa] w fun e w'=>(∃ s',e=.returned s'∧TOwn w' w.heap.size ts s')∧Below w.heap.size w w'
theorem cell_ext {w W:World} (hb:Below w.heap.size w W) {b o:Nat} {v:Value} (h:w.cell? ⟨b,o,none⟩=some v):W.cell? ⟨b,o,none⟩=some v:=c_B hb h
def S1T (w:World) (v:Bool) (n:ByteArray) (ps:Option Addr) (l cs:Nat) (b o:Nat) (W:World):Prop :=
 W.cell? ⟨b,o,none⟩=some (.bool v)∧W.cell? ⟨b,o+1,none⟩=some (.string n)∧W.cell? ⟨b,o+2,none⟩=some (.slice ps l cs)∧Below w.heap.size w W
theorem S1T.next {w:World} {v:Bool} {n:ByteArray} {ps:Option Addr} {l cs b o:Nat} {W W':World} (h:S1T w v n ps l cs b o W) (hb:Below W.heap.size W W'):S1T w v n ps l cs b o W' :=
 ⟨c_B hb h.1,c_B hb h.2.1,c_B hb h.2.2.1,bS h.2.2.2 hb⟩
set_option maxHeartbeats 8000000 in
theorem copyT_step (N:Nat) (ih:∀ M,M < N→CopyT M):CopyT N:=by
  intro ts sa w hN h hs
  obtain⟨p,c,b,o,rfl,hp,ht⟩:=TSl.opened h
  have ih':=h_X (fun (t:Ts) (h:t.size < N)=>ih t.size h t)
  clear ih h
  have hlen:=ts.len_le
  obtain⟨i0,hi,hz0,hz1,hz2⟩:=info_parts info50
  have hnil:CRow w w.heap.size (.slice none 0 0) .nil:=⟨[],World.ownsRow_nil _ _ _ _,rfl⟩
  have hth:=h_X ht
  clear ht
  go_enter Tryz.func54,Tryz.ntmps54
  go_wp2
  go_loopw [3,4] (fun out i wr=>∃ (k:Nat) (q r:Ts),i=.int .i64 k∧q.len=k∧k+r.len=ts.len∧q.app r=ts∧r.size≤ts.size∧CRow wr w.heap.size out q∧TsAt w r b (o+k*3)∧Below w.heap.size w wr) (fun _ i _=>ts.len - (intOf i).toNat)
  case atStart=>exact⟨0,.nil,ts,rfl,rfl,by omega,rfl,Nat.le_refl _,hnil,by simpa using hth.out,Below.refl _ _⟩
  case round =>
    obtain⟨k,q,r,rfl,hqk,hk,happ,hrs,hC,hat,hbw⟩:=hrel
    cases r with
    | nil =>
      simp only[Ts.len] at hk
      have hk':k=ts.len:=by omega
      subst hk'
      rw[Ts.app_nil] at happ
      subst happ
      have hfin:=h_X hC.own
      clear hC hnil hth hqk
      go_wp2
      go_ret
      exact⟨⟨_,rfl,hfin.out⟩,hbw⟩
    | cons v nm as' r' =>
      simp only[Ts.len] at hk
      simp only[Ts.size] at hrs
      obtain⟨c0,c1,⟨s,c2,hs2⟩,hat'⟩:=hat
      rcases hp with hp | hp
      · omega
      subst hp
      have hlt:(k:Int) < (ts.len:Int):=by omega
      obtain⟨ps,cs,rfl,-⟩:=id hs2
      have hbW:=lt_of_cell c0
      have hS:S1T w v nm ps as'.len cs b (o+k*3) wr.drew:=⟨cell_ext hbw c0,cell_ext hbw c1,cell_ext hbw c2,bS hbw (bel_drew wr)⟩
      obtain⟨xs,hown,hrow⟩:=hC
      have hlt2:∀ g,u3.ownBlock=some g→w.heap.size≤g∧g < wr.heap.size:=hown.lt
      have hcall:Hid (∀ W,S1T w v nm ps as'.len cs b (o+k*3) W→Calls Tryz.prog 54 #[.slice ps as'.len cs] W fun e w'=>∃ p' c',e=.returned (.slice p' as'.len c')∧TOwn w' W.heap.size as' (.slice p' as'.len c')∧Below W.heap.size W w'∧S1T w v nm ps as'.len cs b (o+k*3) w') :=
        h_X (fun W hW=>(ih'.out as' (by omega) _ W (Nat.le_refl _) (TSl.below hW.2.2.2 hs2) (by omega)).mono fun e w' ⟨⟨s',he,ho⟩,hb⟩=>by
          obtain⟨p',c',rfl,-⟩:=id ho
          exact⟨p',c',he,ho,hb,hW.next hb⟩)
      have hneb:some b≠u3.ownBlock:=fun e=>by have:=hlt2 b e.symm;omega
      have hqc:q.len+1≤1000000:=by omega
      have hsz0:=hbw.size
      clear c0 c1 c2 hs2 ih' hnil hth
      go_wp2
      go_region_held3 (fun W=>W.cell? ⟨b,o+k*3,none⟩=some (.bool v)∧W.cell? ⟨b,o+k*3+1,none⟩=some (.string nm)∧W.cell? ⟨b,o+k*3+2,none⟩=some (.slice ps as'.len cs)∧Below w.heap.size w W)
        (first | assumption | exact hS | exact hS2.next (bel_laid _ _) | exact⟨hgrow.cell (hS2.next (bel_laid _ _)).1 hneb,hgrow.cell (hS2.next (bel_laid _ _)).2.1 hneb,hgrow.cell (hS2.next (bel_laid _ _)).2.2.1 hneb,(hS2.next (bel_laid _ _)).2.2.2.grown hgrow (by have:=hb2.size;simp at this ⊢;omega) (fun g e=>(hlt2 g e).1)⟩)
        (first
          | (go_at_call 54;refine(hcall.out _ (by assumption)).mono ?_;rintro e w' ⟨p',c',rfl,hO,hb2,hS2⟩)
          | (refine step_append_lies _ (by rfl) _ _ _ (by rfl) w.heap.size 46 i0 _ 3 48 Tryz.underlying22 hi hz0 hz1 hz2 rfl (by omega) u3 q.len xs (by rfl) ((owns_below hb2 (show wr.drew.ownsRow w.heap.size 46 3 u3 q.len xs from hown)).alloc _)
              ⟨w'.heap.size,0,none⟩ 1 1 [.bool v,.string nm,.slice p' as'.len c'] (by rfl) (by rfl) (World.news_of_block (cs:=#[.bool v,.string nm,.slice p' as'.len c']) (t:=46) (fr:=(0,0)) (heap_alloc_new w' _)) (own_one hO)
              (by omega) (by unfold maxLen;omega) (by omega) (by have:=hb2.size;simp at this ⊢;omega) (w'.heap.size+1) (by simp) ?_;intro gg cap w1 hown1 hgrow hat1 hltg))
      have hbl:=bel_laid w' (.cells #[.bool v,.string nm,.slice p' as'.len c'] 46)
      have hb3:Below wr.heap.size wr w':=(bel_drew wr).trans hb2
      have hb4:=bS hb3 hbl
      have hC1:CRow w1 w.heap.size (.slice (some ⟨gg,0,none⟩) (k+1) cap) (q.app (.cons v nm as' .nil)):=by
        rw[hqk] at hown1
        refine CRow.app (owns_below hb4 hown) (hrow.imp fun b o y hc hn=>⟨c_B hb4 hc,hn⟩) ((ttr_new hsz0 (fun g e=>(hlt2 g e).2) hO).imp fun b o y hc hn=>⟨c_B hbl hc,hn⟩) hgrow (by rw[hqk];exact hown1) ?_
        rcases hat1 with e | e
        · exact .inl e
        · exact .inr ⟨gg,rfl,by rw[e];simp⟩
      have hbw1:Below w.heap.size w w1:=(bS hbw hb4).grown hgrow (by have:=hb4.size;omega) (fun g e=>(hlt2 g e).1)
      have hCh:=h_X hC1
      have hah:=h_X hat'
      have hpph:=h_X happ
      clear hC1 hat' happ hown1 hgrow hO hb2 hS2 hcall hat1 hltg hown hrow hlt2 hneb hS hbl hb3 hb4
      go_wp2
      go_roundw
      case rel =>
        refine⟨k+1,q.app (.cons v nm as' .nil),r',by go_num,?_,by omega,?_,by omega,hCh.out,?_,hbw1⟩
        · rw[Ts.len_app,hqk];rfl
        · rw[Ts.app_assoc];exact hpph.out
        · have:=hah.out
          rwa [show o+k*3+3=o+(k+1)*3 by omega] at this
      case measure=>simp[intOf];omega
theorem copyT_any (N:Nat):CopyT N:=by
 induction N using Nat.strongRecOn with
 | _ N ih=>exact copyT_step N ih
end Go.Proofs.YtngdieldgnlogaaGreatDoor
namespace Go.Proofs.YtngdieldgnlogaaGreatDoor
open Go Go.RowKit
set_option maxRecDepth 100000
set_option linter.unusedVariables false
theorem cells4_fo {V:World} {lo:Nat} {f:FT} {v:Value} (h:FVOwn V lo f v):∃ c0 c1 c2 c3,v=.agg #[c0,c1,c2,c3]∧c0.oneCell'=true∧c1.oneCell'=true∧c2.oneCell'=true∧c3.oneCell'=true:=by
 obtain⟨sa,ss,rfl,⟨_,_,rfl,-⟩,⟨_,_,rfl,-⟩⟩:=h
 exact⟨_,_,_,_,rfl,rfl,rfl,rfl,rfl⟩
def FTr (W:World) (lo:Nat) (s:Value) (f:FT) (v:Value):Prop:=∃ U,FVOwn U lo f v∧∀ b o y,U.cell? ⟨b,o,none⟩=some y→W.cell? ⟨b,o,none⟩=some y∧s.ownBlock≠some b
def FRow (W:World) (lo:Nat) (s:Value):Fs→List Value→Prop
 | .nil,xs=>xs=[]
 | .cons op n ts sub r,xs=>∃ v rest,xs=cells4 v ++ rest∧FTr W lo s ⟨op,n,ts,sub⟩ v∧FRow W lo s r rest
theorem FTr.imp {W W':World} {lo:Nat} {s s':Value} (h:∀ b o y,W.cell? ⟨b,o,none⟩=some y→s.ownBlock≠some b→W'.cell? ⟨b,o,none⟩=some y∧s'.ownBlock≠some b) {f:FT} {u:Value} (ht:FTr W lo s f u):FTr W' lo s' f u:=by
 obtain⟨U,h1,h2⟩:=ht
 exact⟨U,h1,fun b o y hy=>h b o y (h2 b o y hy).1 (h2 b o y hy).2⟩
theorem FRow.imp {W W':World} {lo:Nat} {s s':Value} (h:∀ b o y,W.cell? ⟨b,o,none⟩=some y→s.ownBlock≠some b→W'.cell? ⟨b,o,none⟩=some y∧s'.ownBlock≠some b):∀ {q:Fs} {xs:List Value},FRow W lo s q xs→FRow W' lo s' q xs
 | .nil,_,hx=>hx
 | .cons _ _ _ _ _,_,⟨u,rest,e,ht,hr⟩=>⟨u,rest,e,ht.imp h,FRow.imp h hr⟩
theorem FRow.snoc {W:World} {lo:Nat} {s:Value} {op:Int} {n:ByteArray} {ts:Ts} {sub:Fs} {u:Value} (ht:FTr W lo s ⟨op,n,ts,sub⟩ u):∀ {q:Fs} {xs:List Value},FRow W lo s q xs→FRow W lo s (q.app (.cons op n ts sub .nil)) (xs ++ cells4 u)
 | .nil,_,rfl=>⟨u,[],by simp,ht,rfl⟩
 | .cons _ _ _ _ _,_,⟨u',rest,e,ht',hr⟩=>⟨u',_,by rw[e,List.append_assoc],ht',FRow.snoc ht hr⟩
theorem FVOwn.keep {W W':World} {lo:Nat} {f:FT} {v:Value} (hk:∀ b o y,lo≤b→W.cell? ⟨b,o,none⟩=some y→W'.cell? ⟨b,o,none⟩=some y) (h:FVOwn W lo f v):FVOwn W' lo f v:=by
 obtain⟨sa,ss,e,h1,h2⟩:=h
 exact⟨sa,ss,e,TOwn.keep hk h1,FOwn.keep hk h2⟩
theorem FRow.at {W:World} {lo:Nat} {s:Value} {g:Nat}:∀ {q:Fs} {xs:List Value} (o:Nat),FRow W lo s q xs→(∀ j y,xs[j]? = some y→W.cell? ⟨g,o+j,none⟩=some y)→FsAb W lo q g o
 | .nil,_,_,_,_=>trivial
 | .cons op n ts sub r,_,o,⟨u,rest,e,⟨U,hu,hk⟩,hr⟩,hc=>by
  subst e
  obtain⟨sa,ss,rfl,h1,h2⟩:=FVOwn.keep (fun b o y _ h=>(hk b o y h).1) hu
  have hc':∀ j y,([Value.int .u8 op,.string n,sa,ss] ++ rest)[j]? = some y→W.cell? ⟨g,o+j,none⟩=some y:=hc
  refine⟨hc' 0 _ rfl,hc' 1 _ rfl,⟨sa,hc' 2 _ rfl,h1⟩,⟨ss,hc' 3 _ rfl,h2⟩,FRow.at (o+4) hr fun j y hj=>?_⟩
  rw[show o+4+j=o+(j+4) by omega]
  exact hc' (j+4) y (by simpa using hj)
def GRow (W:World) (lo:Nat) (s:Value) (q:Fs):Prop:=∃ xs,W.ownsRow lo 25 4 s q.len xs∧FRow W lo s q xs
theorem GRow.own {W:World} {lo:Nat} {s:Value} {q:Fs} (h:GRow W lo s q):FOwn W lo q s:=by
 obtain⟨xs,h1,h2⟩:=h
 obtain⟨h0,⟨rfl,hz⟩ | ⟨g,cap,cur,rfl,hg,h3,h4⟩⟩:=id h1
 ·exact⟨none,0,by rw[hz],.inl hz⟩
 ·refine⟨_,_,rfl,.inr ⟨g,0,rfl,hg,FRow.at 0 h2 fun j y hj=>?_⟩⟩
  have:=h1.cells (g:=g) rfl j y hj
  rw[Addr.add_mid] at this
  exact this
theorem GRow.app {W W':World} {lo:Nat} {s s':Value} {q:Fs} {xs:List Value} {op:Int} {n:ByteArray} {ts:Ts} {sub:Fs} {u:Value} (h1:W.ownsRow lo 25 4 s q.len xs) (h2:FRow W lo s q xs) (ht:FTr W lo s ⟨op,n,ts,sub⟩ u) (hg:W.grownBy W' s.ownBlock)
  (ho:W'.ownsRow lo 25 4 s' (q.len+1) (xs ++ cells4 u)) (hob:s'.ownBlock=s.ownBlock∨∃ g,s'.ownBlock=some g∧W.heap.size≤g):GRow W' lo s' (q.app (.cons op n ts sub .nil)):=by
 have hk:∀ b o y,W.cell? ⟨b,o,none⟩=some y→s.ownBlock≠some b→W'.cell? ⟨b,o,none⟩=some y∧s'.ownBlock≠some b:=by
  intro b o y hc hn
  refine⟨hg.cell hc (fun e=>hn e.symm),?_⟩
  rcases hob with e | ⟨g,e,hge⟩
  ·rw[e];exact hn
  ·rw[e]
   intro e2
   cases e2
   have:=lt_of_cell hc
   omega
 exact⟨_,by rw[Fs.len_app];exact ho,FRow.snoc (ht.imp hk) (h2.imp hk)⟩
theorem ftr_new {W W':World} {lo:Nat} {s:Value} {f:FT} {u:Value} (hlo:lo≤W.heap.size) (hs:∀ g,s.ownBlock=some g→g < W.heap.size) (ho:FVOwn W' W.heap.size f u):FTr W' lo s f u:=by
 refine⟨hideLow W' W.heap.size,FVOwn.less hlo (FVOwn.keep (fun b o y hz hc=>hideLow_keep hz hc) ho),fun b o y hy=>?_⟩
 obtain⟨hz,hc⟩:=hideLow_cell hy
 exact⟨hc,fun e=>by have:=hs b e;omega⟩
def CopyF (f:FT):Prop:=∀ (v:Value) (w:World),FVal w f v→f.size≤1000000→Calls Tryz.prog 12 #[v] w fun e w'=>(∃ v',e=.returned v'∧FVOwn w' w.heap.size f v')∧Below w.heap.size w w'
set_option maxHeartbeats 8000000 in
theorem copyL_any (xx:Fs) (ih:∀ t:FT,t.size≤xx.size→CopyF t) (sa:Value) (w:World) (h:FSl w xx sa) (hs:xx.size≤1000000):Calls Tryz.prog 55 #[sa] w fun e w'=>(∃ s',e=.returned s'∧FOwn w' w.heap.size xx s')∧Below w.heap.size w w':=by
 obtain⟨p,c,b,o,rfl,hp,ht⟩:=FSl.opened h
 have ih':=h_X ih
 clear ih h
 have hlen:=xx.len_le
 obtain⟨i0,hi,hz0,hz1,hz2⟩:=info_parts info27
 have hnil:GRow w w.heap.size (.slice none 0 0) .nil:=⟨[],World.ownsRow_nil _ _ _ _,rfl⟩
 have hth:=h_X ht
 clear ht
 go_enter Tryz.func55,Tryz.ntmps55
 go_wp2
 go_loopw [3,4] (fun out i wr=>∃ (k:Nat) (q r:Fs),i=.int .i64 k∧q.len=k∧k+r.len=xx.len∧q.app r=xx∧r.size≤xx.size∧GRow wr w.heap.size out q∧FsAt w r b (o+k*4)∧Below w.heap.size w wr) (fun _ i _=>xx.len - (intOf i).toNat)
 case atStart=>exact⟨0,.nil,xx,rfl,rfl,by omega,rfl,Nat.le_refl _,hnil,by simpa using hth.out,Below.refl _ _⟩
 case round =>
  obtain⟨k,q,r,rfl,hqk,hk,happ,hrs,hC,hat,hbw⟩:=hrel
  cases r with
  | nil =>
   simp only[Fs.len] at hk
   have hk':k=xx.len:=by omega
   subst hk'
   rw[Fs.app_nil] at happ
   subst happ
   have hfin:=h_X hC.own
   clear hC hnil hth hqk
   go_wp2
   go_ret
   exact⟨⟨_,rfl,hfin.out⟩,hbw⟩
  | cons op nm t u r' =>
   simp only[Fs.len] at hk
   simp only[Fs.size] at hrs
   obtain⟨c0,c1,⟨s,c2,hs2⟩,⟨s',c3,hs3⟩,hat'⟩:=hat
   rcases hp with hp | hp
   ·omega
   subst hp
   have hlt:(k:Int) < (xx.len:Int):=by omega
   have hv:FVal w ⟨op,nm,t,u⟩ (.agg #[.int .u8 op,.string nm,s,s']):=⟨s,s',rfl,hs2,hs3⟩
   have hcall:=h_X (ih'.out ⟨op,nm,t,u⟩ (by simp only[FT.size];omega) _ wr (FVal.ext (Ext.of_below hbw) hv) (by simp only[FT.size];omega))
   obtain⟨ps,cs,rfl,-⟩:=hs2
   obtain⟨ps',cs',rfl,-⟩:=hs3
   have e0:=c_B hbw c0
   have e1:=c_B hbw c1
   have e2:=c_B hbw c2
   have e3:=c_B hbw c3
   obtain⟨xs,hown,hrow⟩:=hC
   have hlt2:∀ g,u3.ownBlock=some g→w.heap.size≤g∧g < wr.heap.size:=hown.lt
   have hqc:q.len+1≤1000000:=by omega
   have hsz0:=hbw.size
   clear c0 c1 c2 c3 ih' hnil hth hv
   go_wp2_with fail
   refine hcall.out.mono ?_
   rintro e w' ⟨⟨v',rfl,hO⟩,hb2⟩
   clear hcall e0 e1 e2 e3
   obtain⟨sa',ss',he',hoa,hos⟩:=id hO
   obtain⟨pa,ca,hsa,-⟩:=id hoa
   obtain⟨pb,cb,hsb,-⟩:=id hos
   subst hsa hsb
   subst he'
   have hbl:=bel_laid w' (.cells #[.int .u8 op,.string nm,.slice pa t.len ca,.slice pb u.len cb] 25)
   have hb4:=bS hb2 hbl
   have hown':=owns_below hb4 hown
   have hoh:=h_X hown'
   have hlt3:∀ g,u3.ownBlock=some g→g < wr.heap.size:=fun g e=>(hlt2 g e).2
   have hT:=(ftr_new hsz0 hlt3 hO).imp (fun b o y hc hn=>⟨c_B hbl hc,hn⟩)
   have hTh:=h_X hT
   have hbwh:=bS hbw hb4
   have hb4h:=h_X hb4
   clear hT hown' hO hoa hos hb2 hbl hb4
   go_wp2_with (at_builtin;refine wpList_append_own_at _ rfl _ _ 23 rfl w.heap.size 25 i0 (.agg #[.int .u8 0,.string ⟨#[]⟩,.slice none 0 0,.slice none 0 0]) 4 72 Tryz.underlying23 hi hz0 hz1 hz2 rfl (by decide) _ _ _ rfl hoh.out ⟨w'.heap.size,0,none⟩ 1 1 [.int .u8 op,.string nm,.slice pa t.len ca,.slice pb u.len cb] rfl rfl ?c1 ?c2 ?c3 ?c4 ?c5 ?_)
   case c1 =>
    intro j y hj
    match j,hj with
    | 0,hj=>simp at hj;subst hj;simp[Addr.add]
    | 1,hj=>simp at hj;subst hj;simp[Addr.add]
    | 2,hj=>simp at hj;subst hj;simp[Addr.add]
    | 3,hj=>simp at hj;subst hj;simp[Addr.add]
   case c2=>intro y hy;simp at hy;rcases hy with rfl | rfl | rfl | rfl<;>rfl
   case c3=>unfold maxLen;omega
   case c4=>omega
   case c5=>have:=hb4h.out.size;simp at this ⊢;omega
   intro vv w1 hown1 hgrow _ hob
   obtain⟨g9,cap9,hv9⟩:∃ g cap,vv=.slice (some ⟨g,0,none⟩) (k+1) cap:=by
    obtain⟨-,⟨-,h0⟩ | ⟨g,cap,cur,hv,-⟩⟩:=id hown1
    ·omega
    ·exact⟨g,cap,hv⟩
   subst hv9
   have hC1:GRow w1 w.heap.size (.slice (some ⟨g9,0,none⟩) (k+1) cap9) (q.app (.cons op nm t u .nil)) :=
    GRow.app hoh.out (hrow.imp fun b o y hc hn=>⟨c_B hb4h.out hc,hn⟩) hTh.out hgrow (by rw[hqk];exact hown1) (hob.imp id fun e=>⟨_,e,by simp⟩)
   have hbw1:Below w.heap.size w w1:=hbwh.grown hgrow (by have:=hb4h.out.size;omega) (fun g e=>(hlt2 g e).1)
   have hCh:=h_X hC1
   have hah:=h_X hat'
   have hpph:=h_X happ
   clear hC1 hat' happ hown1 hgrow hob hown hrow hlt2 hlt3 hoh hTh hb4h hbwh
   go_wp2
   go_roundw
   case rel =>
    refine⟨k+1,q.app (.cons op nm t u .nil),r',by go_num,?_,by omega,?_,by omega,hCh.out,?_,hbw1⟩
    ·rw[Fs.len_app,hqk];rfl
    ·rw[Fs.app_assoc];exact hpph.out
    ·have:=hah.out
     rwa [show o+k*4+4=o+(k+1)*4 by omega] at this
   case measure=>simp[intOf];omega
section
variable {W : World} {g o : Nat}
theorem field27_0:(Instr.fieldAt 25 (.pointer (some ⟨g,0,none⟩)) 0).run Tryz.prog W=.ok (.pointer (some ⟨g,0,none⟩)) W:=by simp[Instr.fieldAt,go_sem]
theorem field27_1:(Instr.fieldAt 25 (.pointer (some ⟨g,0,none⟩)) 1).run Tryz.prog W=.ok (.pointer (some ⟨g,1,none⟩)) W:=by simp[Instr.fieldAt,go_sem]
theorem field27_2:(Instr.fieldAt 25 (.pointer (some ⟨g,0,none⟩)) 2).run Tryz.prog W=.ok (.pointer (some ⟨g,2,none⟩)) W:=by simp[Instr.fieldAt,go_sem]
theorem field27_3:(Instr.fieldAt 25 (.pointer (some ⟨g,0,none⟩)) 3).run Tryz.prog W=.ok (.pointer (some ⟨g,3,none⟩)) W:=by simp[Instr.fieldAt,go_sem]
theorem load5 {v:Int} (h:W.cell? ⟨g,o,none⟩=some (.int .u8 v)):(Instr.loadAt 5 (.pointer (some ⟨g,o,none⟩))).run Tryz.prog W=.ok (.int .u8 v) W:=by simp[Instr.loadAt,go_sem,h]
theorem load24 {p:Option Addr} {n c:Nat} (h:W.cell? ⟨g,o,none⟩=some (.slice p n c)):(Instr.loadAt 22 (.pointer (some ⟨g,o,none⟩))).run Tryz.prog W=.ok (.slice p n c) W:=by simp[Instr.loadAt,go_sem,h]
theorem load25c {p:Option Addr} {n c:Nat} (h:W.cell? ⟨g,o,none⟩=some (.slice p n c)):(Instr.loadAt 23 (.pointer (some ⟨g,o,none⟩))).run Tryz.prog W=.ok (.slice p n c) W:=by simp[Instr.loadAt,go_sem,h]
theorem build27 (op:Int) (n:ByteArray) (p q:Option Addr) (a b c d:Nat) (W:World):(Instr.build 25 #[(0,.int .u8 op),(1,.string n),(2,.slice p a b),(3,.slice q c d)]).run Tryz.prog W=.ok (.agg #[.int .u8 op,.string n,.slice p a b,.slice q c d]) W:=by simp[Instr.build,go_sem]
end
theorem ex_build4 {P:Program} {a:Act} {w:World} {o:Oper} {v u0 u1 u2 u3:Value} {x0 x1 x2 x3:Operand} {t:TypeId} (hop:o.op=.build t #[(0,x0),(1,x1),(2,x2),(3,x3)]) (h0:a.eval x0=u0) (h1:a.eval x1=u1) (h2:a.eval x2=u2) (h3:a.eval x3=u3)
  (hr:(Instr.build t #[(0,u0),(1,u1),(2,u2),(3,u3)]).run P w=.ok v w):(execOp a.eval o).run P w=.ok (.value v) w:=by
 simp[execOp,hop,h0,h1,h2,h3,hr,Result.andThen]
def VTc (g g1 lo:Nat) (f:FT) (pa pu:Option Addr) (ca cu:Nat) (d:Nat) (u:Value) (W:World):Prop :=
 if d=1 then u=.pointer (some ⟨g,0,none⟩)
 else if d=2 then u=.pointer (some ⟨g1,0,none⟩)
 else if d=3 then u=.pointer (some ⟨g,0,none⟩)
 else if d=4 then u=.int .u8 f.op
 else if d=5 then u=.pointer (some ⟨g,1,none⟩)
 else if d=6 then u=.string f.n
 else if d=7 then u=.pointer (some ⟨g,2,none⟩)
 else if d=8 then u=.slice pa f.ts.len ca
 else if d=9 then TOwn W lo f.ts u
 else if d=10 then u=.pointer (some ⟨g,3,none⟩)
 else if d=11 then u=.slice pu f.sub.len cu
 else if d=12 then FOwn W lo f.sub u
 else FVOwn W lo f u
theorem VTc.below {g g1 lo:Nat} {f:FT} {pa pu:Option Addr} {ca cu d:Nat} {u:Value} {A B:World} (hb:Below A.heap.size A B) (h:VTc g g1 lo f pa pu ca cu d u A):VTc g g1 lo f pa pu ca cu d u B:=by
 unfold VTc at h ⊢
 by_cases k1:d=1
 ·rw[if_pos k1] at h ⊢;exact h
 rw[if_neg k1] at h ⊢
 by_cases k2:d=2
 ·rw[if_pos k2] at h ⊢;exact h
 rw[if_neg k2] at h ⊢
 by_cases k3:d=3
 ·rw[if_pos k3] at h ⊢;exact h
 rw[if_neg k3] at h ⊢
 by_cases k4:d=4
 ·rw[if_pos k4] at h ⊢;exact h
 rw[if_neg k4] at h ⊢
 by_cases k5:d=5
 ·rw[if_pos k5] at h ⊢;exact h
 rw[if_neg k5] at h ⊢
 by_cases k6:d=6
 ·rw[if_pos k6] at h ⊢;exact h
 rw[if_neg k6] at h ⊢
 by_cases k7:d=7
 ·rw[if_pos k7] at h ⊢;exact h
 rw[if_neg k7] at h ⊢
 by_cases k8:d=8
 ·rw[if_pos k8] at h ⊢;exact h
 rw[if_neg k8] at h ⊢
 by_cases k9:d=9
 ·rw[if_pos k9] at h ⊢;exact TOwn.below hb h
 rw[if_neg k9] at h ⊢
 by_cases k10:d=10
 ·rw[if_pos k10] at h ⊢;exact h
 rw[if_neg k10] at h ⊢
 by_cases k11:d=11
 ·rw[if_pos k11] at h ⊢;exact h
 rw[if_neg k11] at h ⊢
 by_cases k12:d=12
 ·rw[if_pos k12] at h ⊢;exact FOwn.below hb h
 rw[if_neg k12] at h ⊢
 exact FVOwn.below hb h
set_option maxHeartbeats 4000000 in
theorem copyF_any (f:FT):CopyF f:=by
 intro v w hv hs
 have hL:=h_X (copyL_any f.sub (fun t _=>copyF_any t))
 obtain⟨sa,ss,rfl,ha,hss⟩:=id hv
 obtain⟨pa,ca,hsa,-⟩:=id ha
 obtain⟨pu,cu,hsb,-⟩:=id hss
 subst hsa hsb
 have hfz:f.size=f.ts.size+f.sub.size+1:=rfl
 have hb0:=bel_laid w (.cells #[.int .u8 f.op,.string f.n,.slice pa f.ts.len ca,.slice pu f.sub.len cu] 25)
 have hb1:=bel_laid (w.alloc (.cells #[.int .u8 f.op,.string f.n,.slice pa f.ts.len ca,.slice pu f.sub.len cu] 25)) (.cells #[.int .u8 0,.string ⟨#[]⟩,.slice none 0 0,.slice none 0 0] 25)
 have hst:=(FS.start (t:=25) hv).next hb1
 have hc2:=cell_new (w.alloc (.cells #[.int .u8 f.op,.string f.n,.slice pa f.ts.len ca,.slice pu f.sub.len cu] 25)) #[.int .u8 0,.string ⟨#[]⟩,.slice none 0 0,.slice none 0 0] 25
 have hf2:=World.frozen?_alloc_mark (w.alloc (.cells #[.int .u8 f.op,.string f.n,.slice pa f.ts.len ca,.slice pu f.sub.len cu] 25)) #[.int .u8 0,.string ⟨#[]⟩,.slice none 0 0,.slice none 0 0] 25 0 0
 have hbb:=bS hb0 hb1
 have hsz:((w.alloc (.cells #[.int .u8 f.op,.string f.n,.slice pa f.ts.len ca,.slice pu f.sub.len cu] 25)).alloc (.cells #[.int .u8 0,.string ⟨#[]⟩,.slice none 0 0,.slice none 0 0] 25)).heap.size=w.heap.size+2:=by simp
 rw[World.size_alloc] at hc2 hf2
 go_enter Tryz.func12,Tryz.ntmps12
 go_wp2_with fail
 rename_i Kx hKx
 have hKxh:=h_X hKx
 clear hKx
 generalize (w.alloc (.cells #[.int .u8 f.op,.string f.n,.slice pa f.ts.len ca,.slice pu f.sub.len cu] 25)).alloc (.cells #[.int .u8 0,.string ⟨#[]⟩,.slice none 0 0,.slice none 0 0] 25)=W2 at hst hc2 hf2 hbb hsz ⊢
 clear hb0 hb1
 obtain⟨lo,hlo⟩:∃ lo,w.heap.size=lo:=⟨_,rfl⟩
 obtain⟨g,hg⟩:∃ g,lo=g:=⟨_,rfl⟩
 have hfs:∀ W,Below W2.heap.size W2 W→FS f (.slice pa f.ts.len ca) (.slice pu f.sub.len cu) w g W:=fun W hb=>by rw[←hg,←hlo];exact hst.next hb
 have HT:=h_X (fun W (hb:Below W2.heap.size W2 W)=>(copyT_any f.ts.size f.ts _ W (Nat.le_refl _) (hfs W hb).2.2.2.2.2.1 (by omega)).mono fun e w' (h:(∃ s',e=.returned s'∧TOwn w' W.heap.size f.ts s')∧Below W.heap.size W w')=>(by
  obtain⟨⟨s',he,ho⟩,hb'⟩:=h
  exact⟨s',he,TOwn.less (by have:=hb.size;omega) ho,hb'⟩:∃ s',e=.returned s'∧TOwn w' (lo+2) f.ts s'∧Below W.heap.size W w'))
 have HF:=h_X (fun W (hb:Below W2.heap.size W2 W)=>(hL.out _ W (hfs W hb).2.2.2.2.2.2 (by omega)).mono fun e w' (h:(∃ s',e=.returned s'∧FOwn w' W.heap.size f.sub s')∧Below W.heap.size W w')=>(by
  obtain⟨⟨s',he,ho⟩,hb'⟩:=h
  exact⟨s',he,FOwn.less (by have:=hb.size;omega) ho,hb'⟩:∃ s',e=.returned s'∧FOwn w' (lo+2) f.sub s'∧Below W.heap.size W w'))
 rw[hlo] at hsz hc2 hf2 ⊢
 rw[hg] at ⊢
 refine wp_region_held_slots (by kernel_rfl) 11 14 [1,2] (VTc g (g+1) (lo+2) f pa pu ca cu) (fun _ _ W=>Below W2.heap.size W2 W) (fun W W'=>Below W.heap.size W W') (by kernel_rfl) (fun d u A B hb h=>VTc.below hb h) rfl (bel_drew W2) ?hb0 ?hst ?hend
 case hb0 =>
  intro d hd
  simp only[List.mem_cons,List.not_mem_nil,or_false] at hd
  rcases hd with rfl | rfl
  all_goals exact⟨_,rfl,rfl⟩
 case hst =>
  refine⟨?_,?_,?_,?_,?_,?_,?_,?_,?_,?_,?_,trivial⟩
  ·intro L a W hLs hL hn hd hI hb hl
   obtain⟨u1,h1,e1⟩:=hb 1 (by simp)
   replace e1:u1=.pointer (some ⟨g,0,none⟩):=e1
   subst e1
   exact op_val rfl rfl (ex_field rfl (eval_tmp h1) field27_0) ⟨_,rfl,fun d hd=>by cases hd;rfl,hI,Below.refl _ _⟩
  ·intro L a W hLs hL hn hd hI hb hl
   obtain⟨u3,h3,e3⟩:=hl 3 (cM (by kernel_rfl))
   replace e3:u3=.pointer (some ⟨g,0,none⟩):=e3
   subst e3
   exact op_val rfl rfl (ex_load rfl (eval_tmp h3) (load5 (hfs W hI).1)) ⟨_,rfl,fun d hd=>by cases hd;rfl,hI,Below.refl _ _⟩
  ·intro L a W hLs hL hn hd hI hb hl
   obtain⟨u1,h1,e1⟩:=hb 1 (by simp)
   replace e1:u1=.pointer (some ⟨g,0,none⟩):=e1
   subst e1
   exact op_val rfl rfl (ex_field rfl (eval_tmp h1) field27_1) ⟨_,rfl,fun d hd=>by cases hd;rfl,hI,Below.refl _ _⟩
  ·intro L a W hLs hL hn hd hI hb hl
   obtain⟨u5,h5,e5⟩:=hl 5 (cM (by kernel_rfl))
   replace e5:u5=.pointer (some ⟨g,1,none⟩):=e5
   subst e5
   exact op_val rfl rfl (ex_load rfl (eval_tmp h5) (load9 (hfs W hI).2.1)) ⟨_,rfl,fun d hd=>by cases hd;rfl,hI,Below.refl _ _⟩
  ·intro L a W hLs hL hn hd hI hb hl
   obtain⟨u1,h1,e1⟩:=hb 1 (by simp)
   replace e1:u1=.pointer (some ⟨g,0,none⟩):=e1
   subst e1
   exact op_val rfl rfl (ex_field rfl (eval_tmp h1) field27_2) ⟨_,rfl,fun d hd=>by cases hd;rfl,hI,Below.refl _ _⟩
  ·intro L a W hLs hL hn hd hI hb hl
   obtain⟨u7,h7,e7⟩:=hl 7 (cM (by kernel_rfl))
   replace e7:u7=.pointer (some ⟨g,2,none⟩):=e7
   subst e7
   exact op_val rfl rfl (ex_load rfl (eval_tmp h7) (load24 (hfs W hI).2.2.1)) ⟨_,rfl,fun d hd=>by cases hd;rfl,hI,Below.refl _ _⟩
  ·intro L a W hLs hL hn hd hI hb hl
   obtain⟨u8,h8,e8⟩:=hl 8 (cM (by kernel_rfl))
   replace e8:u8=.slice pa f.ts.len ca:=e8
   subst e8
   refine op_call rfl rfl (ex_call1 (enters_of Tryz.func54 (by kernel_rfl) rfl) rfl (eval_tmp h8)) ((HT.out W hI).mono ?_)
   rintro e W' ⟨s',rfl,ho,hb'⟩
   exact⟨_,rfl,_,rfl,fun d hd=>by cases hd;exact ho,bS hI hb',hb'⟩
  ·intro L a W hLs hL hn hd hI hb hl
   obtain⟨u1,h1,e1⟩:=hb 1 (by simp)
   replace e1:u1=.pointer (some ⟨g,0,none⟩):=e1
   subst e1
   exact op_val rfl rfl (ex_field rfl (eval_tmp h1) field27_3) ⟨_,rfl,fun d hd=>by cases hd;rfl,hI,Below.refl _ _⟩
  ·intro L a W hLs hL hn hd hI hb hl
   obtain⟨u10,h10,e10⟩:=hl 10 (cM (by kernel_rfl))
   replace e10:u10=.pointer (some ⟨g,3,none⟩):=e10
   subst e10
   exact op_val rfl rfl (ex_load rfl (eval_tmp h10) (load25c (hfs W hI).2.2.2.1)) ⟨_,rfl,fun d hd=>by cases hd;rfl,hI,Below.refl _ _⟩
  ·intro L a W hLs hL hn hd hI hb hl
   obtain⟨u11,h11,e11⟩:=hl 11 (cM (by kernel_rfl))
   replace e11:u11=.slice pu f.sub.len cu:=e11
   subst e11
   refine op_call rfl rfl (ex_call1 (enters_of Tryz.func55 (by kernel_rfl) rfl) rfl (eval_tmp h11)) ((HF.out W hI).mono ?_)
   rintro e W' ⟨s',rfl,ho,hb'⟩
   exact⟨_,rfl,_,rfl,fun d hd=>by cases hd;exact ho,bS hI hb',hb'⟩
  ·intro L a W hLs hL hn hd hI hb hl
   obtain⟨u4,h4,e4⟩:=hl 4 (cM (by kernel_rfl))
   obtain⟨u6,h6,e6⟩:=hl 6 (cM (by kernel_rfl))
   obtain⟨u9,h9,e9⟩:=hl 9 (cM (by kernel_rfl))
   obtain⟨u12,h12,e12⟩:=hl 12 (cM (by kernel_rfl))
   replace e4:u4=.int .u8 f.op:=e4
   replace e6:u6=.string f.n:=e6
   replace e9:TOwn W (lo+2) f.ts u9:=e9
   replace e12:FOwn W (lo+2) f.sub u12:=e12
   subst e4 e6
   obtain⟨q1,d1,hq1,-⟩:=id e9
   obtain⟨q2,d2,hq2,-⟩:=id e12
   subst hq1 hq2
   exact op_val rfl rfl (ex_build4 rfl (eval_tmp h4) (eval_tmp h6) (eval_tmp h9) (eval_tmp h12) (build27 _ _ _ _ _ _ _ _ W)) ⟨_,rfl,fun d hd=>by cases hd;exact⟨_,_,rfl,e9,e12⟩,hI,Below.refl _ _⟩
 case hend =>
  intro a3 W3 hH
  obtain⟨u2,h2,e2⟩:=hH.base 2 (by simp)
  obtain⟨u13,h13,e13⟩:=hH.made 10 13 rfl rfl
  replace e2:u2=.pointer (some ⟨g+1,0,none⟩):=e2
  replace e13:FVOwn W3 (lo+2) f u13:=e13
  subst e2
  have hI3:Below W2.heap.size W2 W3:=hH.inv
  have hd3:=hH.defs
  clear hH HT HF hL hfs
  obtain⟨c0,c1,c2,c3,hu,o0,o1,o2,o3⟩:=cells4_fo e13
  have hthere:W3.there (g+1) 0 4:=fun j hj=>by
   have hm:W3.heap[g+1]? = W2.heap[g+1]?:=hI3.block (g+1) (by omega)
   refine⟨?_,?_⟩
   ·have e:=World.cell?_of_block (a:=⟨g+1,0+j,none⟩) hm
    rw[e,Nat.zero_add]
    have:=hc2 j
    rw[hg] at this
    rw[this]
    match j,hj with
    | 0,_=>rfl
    | 1,_=>rfl
    | 2,_=>rfl
    | 3,_=>rfl
   ·have e:=World.frozen?_of_block (a:=⟨g+1,0+j,none⟩) hm
    rw[e]
    have:=hf2 (0+j)
    rw[hg] at this
    rw[this]
    simp
  have hinf:(Tryz.prog.info? 25).map (·.size)=some 4:=by kernel_rfl
  have hone:(#[c0,c1,c2,c3]:Array Value).all (·.oneCell')=true:=by simp[o0,o1,o2,o3]
  have hst3:=run_storeAt_mid (P:=Tryz.prog) W3 (g+1) 0 25 #[c0,c1,c2,c3] hthere hinf hone
  subst hu
  refine any_one (i:=11) (by kernel_rfl) (op_skip rfl rfl (ex_store rfl (eval_tmp h2) (eval_tmp h13) hst3) ?_)
  refine any_none (by kernel_rfl) ?_
  show Kx a3 (W3.setCells (g+1) 0 [c0,c1,c2,c3])
  refine hKxh.out _ _ ?_
  have hin:=World.cell?_setCells_in (g+1) [c0,c1,c2,c3] 0 W3 (fun j hj=>(hthere j hj).1)
  have k0:=hin 0 (by simp)
  have k1:=hin 1 (by simp)
  have k2:=hin 2 (by simp)
  have k3:=hin 3 (by simp)
  simp at k0 k1 k2 k3
  have hown:FVOwn (W3.setCells (g+1) 0 [c0,c1,c2,c3]) (lo+2) f (.agg #[c0,c1,c2,c3]):=FVOwn.keep (fun b o y hb hc=>by
   rw[World.cell?_setCells_out (g+1) _ _ _ _ (fun e=>by simp at e;omega)]
   exact hc) e13
  have hbf:Below lo w (W3.setCells (g+1) 0 [c0,c1,c2,c3]):=below_setCells (by omega) _ _ _ (by rw[←hlo];exact bS hbb hI3)
  generalize W3.setCells (g+1) 0 [c0,c1,c2,c3]=W4 at k0 k1 k2 k3 hown hbf ⊢
  clear hKxh hst3 hin hthere
  go_wp2_with fail
  refine bodyPost_ret (v:=.agg #[c0,c1,c2,c3]) ?_ (hd3.trans rfl) ⟨⟨_,rfl,FVOwn.less (by omega) hown⟩,hg ▸ hbf⟩
  simp[results,Tryz.results12,go_sem,h2,k0,k1,k2,k3]
termination_by f.size
decreasing_by rename_i h;simp only[FT.size] at *;omega
end Go.Proofs.YtngdieldgnlogaaGreatDoor
