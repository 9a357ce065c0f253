/- The reference: what stands at a place, and what is put there. -/
import Derived.Test.YtngdieldgnlogaaGreatDoorZA
import Derived.Test.YtngdieldgnlogaaGreatDoorMV
import Derived.Deep.RegionHeld3
import Derived.Deep.Cut
import Derived.StillTailTactics
import Derived.Deep.AppendLies
namespace Go.Proofs.YtngdieldgnlogaaGreatDoor
set_option linter.unusedSimpArgs false
open Go Go.RowKit
set_option maxRecDepth 100000
set_option linter.unusedVariables false
def RAt (W:World) (r:Option FT) (v:Value) (e:Int):Prop:=match r with
 | none=>v=fval ⟨0,⟨#[]⟩,.nil,.nil⟩ (.slice none 0 0) (.slice none 0 0)∧e=6
 | some g=>FVal W g v∧e=0
theorem two_boxes {f:FT} {sa ss:Value} {w:World} (hv:FVal w f (fval f sa ss)) (t:TypeId):∃ W2,(w.alloc (.cells #[.int .u8 f.op,.string f.n,sa,ss] t)).alloc (.cells #[.int .u8 0,.string ⟨#[]⟩,.slice none 0 0,.slice none 0 0] t)=W2 ∧
  FS f sa ss w w.heap.size W2∧(∀ j,j < 4→∃ u,Wc W2 (w.heap.size+1) j u)∧W2.heap.size=w.heap.size+2:=by
 refine⟨_,rfl,(FS.start (t:=t) hv).next (bel_laid _ _),fun j hj=>?_,by simp⟩
 have hF:=Free.lit (w.alloc (.cells #[.int .u8 f.op,.string f.n,sa,ss] t)) #[.int .u8 0,.string ⟨#[]⟩,.slice none 0 0,.slice none 0 0] t
 rw[World.size_alloc] at hF
 exact hF.wc (by simpa using hj)
theorem bel_drewR {B:Nat} {a w:World} (h:Below B a w) (n:Nat):Below B a (w.drewN n):=h.trans ⟨rfl,rfl,rfl,Nat.le_refl _,fun _ _=>rfl⟩
theorem RAt.spelt {W:World} {r:Option FT} {v:Value} {e:Int} (h:RAt W r v e):∃ op nm q1 n1 c1 q2 n2 c2,v=.agg #[.int .u8 op,.string nm,.slice q1 n1 c1,.slice q2 n2 c2]:=by
 cases r with
 | none=>exact⟨_,_,_,_,_,_,_,_,h.1⟩
 | some g =>
  obtain⟨⟨sa,ss,rfl,⟨p,c,rfl,-⟩,⟨p',c',rfl,-⟩⟩,-⟩:=h
  exact⟨_,_,_,_,_,_,_,_,rfl⟩
def Fr4 (g:Nat) (W:World):Prop:=∀ j,j < 4→∃ u,Wc W g j u
theorem keep4 {W:World} {G x i:Nat} {v a0 a1 a2 a3:Value} (h:W.cell? ⟨x,i,none⟩=some v) (hx:x≠G):((((W.setCell ⟨G,0,none⟩ a0).setCell ⟨G,1,none⟩ a1).setCell ⟨G,2,none⟩ a2).setCell ⟨G,3,none⟩ a3).cell? ⟨x,i,none⟩=some v:=by
 rw[set_off (.inl hx),set_off (.inl hx),set_off (.inl hx),set_off (.inl hx)];exact h
theorem below4 {B:Nat} {w W:World} {G:Nat} {a0 a1 a2 a3:Value} (h:Below B w W) (hB:B≤G):Below B w ((((W.setCell ⟨G,0,none⟩ a0).setCell ⟨G,1,none⟩ a1).setCell ⟨G,2,none⟩ a2).setCell ⟨G,3,none⟩ a3) :=
 (((h.setCell (p:=⟨G,_,none⟩) hB _).setCell (p:=⟨G,_,none⟩) hB _).setCell (p:=⟨G,_,none⟩) hB _).setCell (p:=⟨G,_,none⟩) hB _
theorem Fr4.set4 {W:World} {G:Nat} {a0 a1 a2 a3:Value} (h:Fr4 G W):Fr4 G ((((W.setCell ⟨G,0,none⟩ a0).setCell ⟨G,1,none⟩ a1).setCell ⟨G,2,none⟩ a2).setCell ⟨G,3,none⟩ a3):=by
 obtain⟨u0,y0⟩:=h 0 (by omega)
 obtain⟨u1,y1⟩:=h 1 (by omega)
 obtain⟨u2,y2⟩:=h 2 (by omega)
 obtain⟨u3,y3⟩:=h 3 (by omega)
 obtain⟨W',hW,q0,q1,q2,q3,-⟩:=set4o W G 0 a0 a1 a2 a3 y0 y1 y2 y3
 simp only[Nat.zero_add] at hW q1 q2 q3
 rw[hW]
 intro j hj
 match j,hj with
 | 0,_=>exact⟨_,q0⟩
 | 1,_=>exact⟨_,q1⟩
 | 2,_=>exact⟨_,q2⟩
 | 3,_=>exact⟨_,q3⟩
def RefAt (l:List Int):Prop:=∀ (f:FT) (v:Value) (p:Option Addr) (c:Nat) (w0 w:World),FVal w0 f v→Below w0.heap.size w0 w→LSl w0 l (.slice p l.length c)→l.length≤c→c≤maxLen→f.size≤1000000 →
 Calls Tryz.prog 98 #[v,.slice p l.length c] w fun e w'=>(∃ v' er,e=.returned (.tuple #[v',.int .i64 er])∧RAt w0 (f.part l) v' er)∧Below w.heap.size w w'
set_option maxHeartbeats 4000000 in
theorem refAt_nil:RefAt []:=by
  intro f v p c w0 w hv0 hb0 hl hc hcm hs
  have hv:=FVal.below hb0 hv0
  have hvv:=h_X hv0
  have hb0h:=h_X hb0
  obtain⟨sa,ss,rfl,ha,hss⟩:=id hv
  obtain⟨pa,ca,rfl,-⟩:=id ha
  obtain⟨pu,cu,rfl,-⟩:=id hss
  obtain⟨W2,hW2,⟨b0,b1,b2,b3,hb,hT,hU⟩,hy,hs2⟩:=two_boxes hv 25
  obtain⟨u0,y0⟩:=hy 0 (by omega)
  obtain⟨u1,y1⟩:=hy 1 (by omega)
  obtain⟨u2,y2⟩:=hy 2 (by omega)
  obtain⟨u3,y3⟩:=hy 3 (by omega)
  have z0:=y0.1
  have z1:=y1.1
  have z2:=y2.1
  have z3:=y3.1
  have f0:=y0.2
  have f1:=y1.2
  have f2:=y2.2
  have f3:=y3.2
  have hTh:=h_X hT
  have hUh:=h_X hU
  have hbh:=h_X hb
  have h0:(((([]:List Int).length:Nat):Int) == 0)=true:=rfl
  clear hT hU hb ha hss hy hv hv0 hb0 hl
  go_enter Tryz.func98,Tryz.ntmps98
  go_wp2_with fail
  obtain⟨W7,hW7,q0,q1,q2,q3,hfar7,hbel7,hs7⟩:=set4o W2 (w.heap.size+1) 0 (.int .u8 f.op) (.string f.n) (.slice pa f.ts.len ca) (.slice pu f.sub.len cu) y0 (by simpa using y1) (by simpa using y2) (by simpa using y3)
  simp only[Nat.zero_add] at hW7 q1 q2 q3
  rw[hW7]
  have hb7:=hbel7 _ _ hbh.out (by omega)
  refine bodyPost_ret (v:=.tuple #[fval f (.slice pa f.ts.len ca) (.slice pu f.sub.len cu),.int .i64 0]) ?_ rfl ⟨⟨_,_,rfl,hvv.out,rfl⟩,hb7⟩
  simp[results,Tryz.results98,go_sem,q0.1,q1.1,q2.1,q3.1]
set_option maxHeartbeats 4000000 in
theorem refAt_cons (i:Int) (l:List Int) (ih:RefAt l):RefAt (i :: l):=by
    intro f v p c w0 w hv0 hb0 hl hc hcm hs
    have hv:=FVal.below hb0 hv0
    have hvv:=h_X hv0
    have hb0h:=h_X hb0
    obtain⟨sa,ss,rfl,ha,hss⟩:=id hv0
    obtain⟨pa,ca,rfl,-⟩:=id ha
    obtain⟨pu,cu,bu,ou,rfl,hpu,hfu⟩:=FSl.opened hss
    obtain⟨W2,hW2,⟨b0,b1,b2,b3,hb,hT,hU⟩,hy,hs2⟩:=two_boxes hv 25
    obtain⟨pl,cl,hse,hl0 | ⟨bl,ol,hpl,hx,hat⟩⟩:=hl
    · simp at hl0
    obtain⟨rfl,-,rfl⟩:p=pl∧True∧c=cl:=by simp at hse;exact⟨hse.1,trivial,hse.2⟩
    subst hpl
    have x0:=c_B (bS hb0 hb) hx
    have hx0h:=h_X hx
    have hat0h:=h_X hat
    obtain⟨n,hn⟩:∃ n,l.length=n:=⟨_,rfl⟩
    have hlen:(i :: l).length=n+1:=by simp[hn]
    rw[hlen] at hc ⊢
    have h0:(((n+1:Nat):Int) == 0)=false:=beq_eq_false_iff_ne.2 (by omega)
    have hbh:=h_X hb
    have hnh:=h_X hn
    have hyh:=h_X hy
    have hUh:=h_X hU
    clear hse hn hlen hat hx hv hv0 hb0 ha hss hT hU hb hy
    go_enter Tryz.func98,Tryz.ntmps98
    have tail_none:f.part (i :: l)=none→i < 0∨(f.sub.len:Int)≤i→True:=fun _ _=>trivial
    by_cases h1:i < 0
    · have hp:=h_X (show f.part (i :: l)=none by rw[FT.part,if_neg (by omega)])
      obtain⟨u0,y0⟩:=hyh.out 0 (by omega)
      obtain⟨u1,y1⟩:=hyh.out 1 (by omega)
      obtain⟨u2,y2⟩:=hyh.out 2 (by omega)
      obtain⟨u3,y3⟩:=hyh.out 3 (by omega)
      have z0:=y0.1
      have z1:=y1.1
      have z2:=y2.1
      have z3:=y3.1
      have f0:=y0.2
      have f1:=y1.2
      have f2:=y2.2
      have f3:=y3.2
      go_wp2_with fail
      go_quiet (fail)
      go_wp2_with fail
      obtain⟨W7,hW7,q0,q1,q2,q3,-,hbel7,-⟩:=set4o (W2.drewN nq) (w.heap.size+1) 0 (.int .u8 0) (.string ⟨#[]⟩) (.slice none 0 0) (.slice none 0 0) y0 y1 y2 y3
      simp only[Nat.zero_add] at hW7 q1 q2 q3
      rw[hW7]
      refine bodyPost_ret (v:=.tuple #[fval ⟨0,⟨#[]⟩,.nil,.nil⟩ (.slice none 0 0) (.slice none 0 0),.int .i64 6]) ?_ rfl ⟨⟨_,_,rfl,by rw[hp.out];exact⟨rfl,rfl⟩⟩,hbel7 _ _ (bel_drewR hbh.out nq) (by omega)⟩
      simp[results,Tryz.results98,go_sem,q0.1,q1.1,q2.1,q3.1]
    by_cases h2:(f.sub.len:Int)≤i
    · have hp:=h_X (show f.part (i :: l)=none by rw[FT.part,if_neg (by omega)])
      obtain⟨u0,y0⟩:=hyh.out 0 (by omega)
      obtain⟨u1,y1⟩:=hyh.out 1 (by omega)
      obtain⟨u2,y2⟩:=hyh.out 2 (by omega)
      obtain⟨u3,y3⟩:=hyh.out 3 (by omega)
      have z0:=y0.1
      have z1:=y1.1
      have z2:=y2.1
      have z3:=y3.1
      have f0:=y0.2
      have f1:=y1.2
      have f2:=y2.2
      have f3:=y3.2
      go_wp2_with fail
      go_quiet (fail)
      go_wp2_with fail
      obtain⟨W7,hW7,q0,q1,q2,q3,-,hbel7,-⟩:=set4o (W2.drewN nq) (w.heap.size+1) 0 (.int .u8 0) (.string ⟨#[]⟩) (.slice none 0 0) (.slice none 0 0) y0 y1 y2 y3
      simp only[Nat.zero_add] at hW7 q1 q2 q3
      rw[hW7]
      refine bodyPost_ret (v:=.tuple #[fval ⟨0,⟨#[]⟩,.nil,.nil⟩ (.slice none 0 0) (.slice none 0 0),.int .i64 6]) ?_ rfl ⟨⟨_,_,rfl,by rw[hp.out];exact⟨rfl,rfl⟩⟩,hbel7 _ _ (bel_drewR hbh.out nq) (by omega)⟩
      simp[results,Tryz.results98,go_sem,q0.1,q1.1,q2.1,q3.1]
    obtain⟨k,hk⟩:∃ k:Nat,i=(k:Int):=⟨i.toNat,by omega⟩
    have hkl:k < f.sub.len:=by omega
    have hp:=h_X (show f.part (i :: l)=(f.sub.get k).part l by rw[FT.part,if_pos (by omega),hk];rfl)
    subst hk
    obtain rfl:pu=some ⟨bu,ou,none⟩:=hpu.resolve_left (by omega)
    go_wp2_with fail
    go_quiet (fail)
    go_wp2_with fail
    obtain⟨V,hV⟩:∃ V,W2.drewN nq=V:=⟨_,rfl⟩
    have hfa:=hfu.get (k:=k) hkl
    obtain⟨fk,hfk⟩:∃ fk,f.sub.get k=fk:=⟨_,rfl⟩
    have hsk:fk.size≤1000000:=by rw[←hfk];have:=Fs.get_size f.sub k hkl;have h3:f.size=f.ts.size+f.sub.size+1:=rfl;omega
    rw[hfk] at hp hfa
    clear hfk hfu
    have hbV:Below w.heap.size w V:=by rw[←hV];exact bel_drewR hbh.out nq
    have hbV0:=bS hb0h.out hbV
    have hle0:w0.heap.size≤w.heap.size:=hb0h.out.size
    obtain⟨e0,e1,⟨s2,e2,e2s⟩,⟨s3,e3,e3s⟩⟩:=hfa
    have hfkvh:=h_X (show FVal w0 fk (fval fk s2 s3) from ⟨_,_,rfl,e2s,e3s⟩)
    have he0h:=h_X e0
    obtain⟨p2,c2,rfl,-⟩:=e2s
    obtain⟨p3,c3,rfl,-⟩:=e3s
    replace e0:=c_B hbV0 e0
    replace e1:=c_B hbV0 e1
    replace e2:=c_B hbV0 e2
    replace e3:=c_B hbV0 e3
    have g3:V.cell? ⟨w.heap.size,3,none⟩=some (.slice (some ⟨bu,ou,none⟩) f.sub.len cu):=by rw[←hV];exact b3
    have gx:V.cell? ⟨bl,ol,none⟩=some (.int .i64 k):=by rw[←hV];exact x0
    have hsV:V.heap.size=w.heap.size+2:=by rw[←hV];exact hs2
    have hyV:Hid (∀ j,j < 4→∃ u,Wc V (w.heap.size+1) j u):=by rw[←hV];exact hyh
    have hc':n≤c - 1:=by omega
    obtain⟨qo,hqo,hqa⟩:∃ qo,(if c=1 then some (⟨bl,ol,none⟩:Addr) else some ⟨bl,ol+1,none⟩)=some ⟨bl,qo,none⟩∧(n=0∨qo=ol+1):=by
      by_cases e:c=1
      · exact⟨ol,by rw[if_pos e],.inl (by omega)⟩
      · exact⟨ol+1,by rw[if_neg e],.inr rfl⟩
    have hl1:(1:Int)≤(n:Int)+1:=by omega
    have hl2:(n:Int)+1≤(c:Int):=by omega
    have hih:Hid (∀ W,(W.cell? ⟨w.heap.size,3,none⟩=some (.slice (some ⟨bu,ou,none⟩) f.sub.len cu)∧W.cell? ⟨bl,ol,none⟩=some (.int .i64 k)∧W.cell? ⟨bu,ou+k*4,none⟩=some (.int .u8 fk.op)∧W.cell? ⟨bu,ou+k*4+1,none⟩=some (.string fk.n)∧W.cell? ⟨bu,ou+k*4+2,none⟩=some (.slice p2 fk.ts.len c2)∧W.cell? ⟨bu,ou+k*4+3,none⟩=some (.slice p3 fk.sub.len c3)∧Below w.heap.size w W∧Fr4 (w.heap.size+1) W)→Calls Tryz.prog 98 #[fval fk (.slice p2 fk.ts.len c2) (.slice p3 fk.sub.len c3),.slice (some ⟨bl,qo,none⟩) n (c - 1)] W fun e w'=>(∃ op nm q1 n1 c1 q2 n2 c2 er,e=.returned (.tuple #[.agg #[.int .u8 op,.string nm,.slice q1 n1 c1,.slice q2 n2 c2],.int .i64 er])∧RAt w0 (fk.part l) (.agg #[.int .u8 op,.string nm,.slice q1 n1 c1,.slice q2 n2 c2]) er) ∧
      (∃ u0 u1 u2 u3,Wc w' (w.heap.size+1) 0 u0∧Wc w' (w.heap.size+1) 1 u1∧Wc w' (w.heap.size+1) 2 u2∧Wc w' (w.heap.size+1) 3 u3)∧(w'.cell? ⟨w.heap.size,3,none⟩=some (.slice (some ⟨bu,ou,none⟩) f.sub.len cu)∧w'.cell? ⟨bl,ol,none⟩=some (.int .i64 k)∧w'.cell? ⟨bu,ou+k*4,none⟩=some (.int .u8 fk.op)∧w'.cell? ⟨bu,ou+k*4+1,none⟩=some (.string fk.n)∧w'.cell? ⟨bu,ou+k*4+2,none⟩=some (.slice p2 fk.ts.len c2)∧w'.cell? ⟨bu,ou+k*4+3,none⟩=some (.slice p3 fk.sub.len c3)∧Below w.heap.size w w'∧Fr4 (w.heap.size+1) w')) :=
      h_X (fun W hWW=>by
        have hW:=hWW.2.2.2.2.2.2.1
        obtain⟨u0,y0⟩:=hWW.2.2.2.2.2.2.2 0 (by omega)
        obtain⟨u1,y1⟩:=hWW.2.2.2.2.2.2.2 1 (by omega)
        obtain⟨u2,y2⟩:=hWW.2.2.2.2.2.2.2 2 (by omega)
        obtain⟨u3,y3⟩:=hWW.2.2.2.2.2.2.2 3 (by omega)
        have h1:LSl w0 l (.slice (some ⟨bl,qo,none⟩) l.length (c - 1)):=⟨_,_,rfl,by
          rcases hqa with h0 | h0
          · exact .inl (by rw[hnh.out];exact h0)
          · exact .inr ⟨_,_,rfl,by rw[h0];exact hat0h.out⟩⟩
        have h2:=ih fk _ (some ⟨bl,qo,none⟩) (c - 1) w0 W hfkvh.out (bS hb0h.out hW) h1 (by rw[hnh.out];omega) (by omega) hsk
        rw[hnh.out] at h2
        refine h2.mono ?_
        rintro e w' ⟨⟨v',er,he,hr⟩,hb⟩
        obtain⟨op,nm,q1,n1,c1,q2,n2,c2,rfl⟩:=RAt.spelt hr
        exact⟨⟨_,_,_,_,_,_,_,_,_,he,hr⟩,⟨_,_,_,_,y0.below hb,y1.below hb,y2.below hb,y3.below hb⟩,c_B hb hWW.1,c_B hb hWW.2.1,c_B hb hWW.2.2.1,c_B hb hWW.2.2.2.1,c_B hb hWW.2.2.2.2.1,c_B hb hWW.2.2.2.2.2.1,bS hW hb,fun j hj=>(hWW.2.2.2.2.2.2.2 j hj).imp fun _ h=>h.below hb⟩)
    clear hqa
    clear ih hfkvh hyh hbh hnh hat0h hb0h hbV0 b0 b1 b2 b3 x0 hs2
    have hcells:V.drew.cell? ⟨w.heap.size,3,none⟩=some (.slice (some ⟨bu,ou,none⟩) f.sub.len cu)∧V.drew.cell? ⟨bl,ol,none⟩=some (.int .i64 k)∧V.drew.cell? ⟨bu,ou+k*4,none⟩=some (.int .u8 fk.op)∧V.drew.cell? ⟨bu,ou+k*4+1,none⟩=some (.string fk.n)∧V.drew.cell? ⟨bu,ou+k*4+2,none⟩=some (.slice p2 fk.ts.len c2)∧V.drew.cell? ⟨bu,ou+k*4+3,none⟩=some (.slice p3 fk.sub.len c3)∧Below w.heap.size w V.drew∧Fr4 (w.heap.size+1) V.drew:=⟨g3,gx,e0,e1,e2,e3,hbV.drew,hyV.out⟩
    have hxl:bl≠w.heap.size+1∧bu≠w.heap.size+1:=by have:=lt_of_cell hx0h.out;have:=lt_of_cell he0h.out;omega
    obtain⟨hxl1,hxl2⟩:=hxl
    rw[hV]
    clear hV hyV hbV hx0h he0h
    go_region_held3 (fun W=>W.cell? ⟨w.heap.size,3,none⟩=some (.slice (some ⟨bu,ou,none⟩) f.sub.len cu)∧W.cell? ⟨bl,ol,none⟩=some (.int .i64 k)∧W.cell? ⟨bu,ou+k*4,none⟩=some (.int .u8 fk.op)∧W.cell? ⟨bu,ou+k*4+1,none⟩=some (.string fk.n)∧W.cell? ⟨bu,ou+k*4+2,none⟩=some (.slice p2 fk.ts.len c2)∧W.cell? ⟨bu,ou+k*4+3,none⟩=some (.slice p3 fk.sub.len c3)∧Below w.heap.size w W∧Fr4 (w.heap.size+1) W)
      (first
        | (with_reducible assumption)
        | (with_reducible exact hcells)
        | (exact⟨keep4 hSS.1 (by omega),keep4 hSS.2.1 hxl1,keep4 hSS.2.2.1 hxl2,keep4 hSS.2.2.2.1 hxl2,keep4 hSS.2.2.2.2.1 hxl2,keep4 hSS.2.2.2.2.2.1 hxl2,below4 hSS.2.2.2.2.2.2.1 (by omega),Fr4.set4 hSS.2.2.2.2.2.2.2⟩))
      (first
        | (go_at_call 98;(with_reducible refine(hih.out _ (by assumption)).mono ?_);rintro e w' ⟨⟨op,nm,q1,n1,c1,q2,n2,c2,er,rfl,hres⟩,⟨u0,u1,u2,u3,⟨z0,f0⟩,⟨z1,f1⟩,⟨z2,f2⟩,⟨z3,f3⟩⟩,hSS⟩))
    obtain⟨W7,hW7,r0,r1,r2,r3,-,hbel7,-⟩:=set4o w' (w.heap.size+1) 0 (.int .u8 op) (.string nm) (.slice q1 n1 c1) (.slice q2 n2 c2) ⟨z0,f0⟩ ⟨z1,f1⟩ ⟨z2,f2⟩ ⟨z3,f3⟩
    simp only[Nat.zero_add] at hW7 r1 r2 r3
    have hres7:=h_X hres
    have hb7:=h_X (hbel7 _ _ hSS.2.2.2.2.2.2.1 (by omega))
    rw[hW7]
    clear hW7 hbel7 hres z0 z1 z2 z3 f0 f1 f2 f3 hih hcells
    go_wp2_with fail
    refine bodyPost_ret (v:=.tuple #[.agg #[.int .u8 op,.string nm,.slice q1 n1 c1,.slice q2 n2 c2],.int .i64 er]) ?_ rfl ⟨⟨_,_,rfl,by rw[hp.out];exact hres7.out⟩,hb7.out⟩
    simp[results,Tryz.results98,go_sem,r0.1,r1.1,r2.1,r3.1]
theorem refAt_any:∀ l:List Int,RefAt l
 | []=>refAt_nil
 | i :: l=>refAt_cons i l (refAt_any l)
end Go.Proofs.YtngdieldgnlogaaGreatDoor
namespace Go.Proofs.YtngdieldgnlogaaGreatDoor
open Go Go.RowKit
set_option maxRecDepth 100000
set_option linter.unusedVariables false
theorem FsAt.row {W:World}:∀ {t:Fs} {b o:Nat},FsAt W t b o→∃ news:List Value,news.length=t.len*4∧(∀ j u,news[j]? = some u→W.cell? ⟨b,o+j,none⟩=some u)∧(∀ u∈news,u.oneCell'=true)
 | .nil,b,o,_=>⟨[],rfl,fun j u h=>(by simp at h),fun u h=>(by simp at h)⟩
 | .cons op n ts sub r,b,o,⟨h0,h1,⟨s,h2,⟨p,c,e2,_⟩⟩,⟨s',h3,⟨p',c',e3,_⟩⟩,hr⟩=>by
  subst e2 e3
  obtain⟨news,l1,l2,l3⟩:=FsAt.row hr
  refine⟨.int .u8 op :: .string n :: .slice p ts.len c :: .slice p' sub.len c' :: news,(by simp[Fs.len,l1];omega),fun j u hj=>?_,fun u hu=>?_⟩
  ·match j,hj with
   | 0,hj=>simp at hj;subst hj;exact h0
   | 1,hj=>simp at hj;subst hj;exact h1
   | 2,hj=>simp at hj;subst hj;exact h2
   | 3,hj=>simp at hj;subst hj;exact h3
   | j+4,hj =>
    have:=l2 j u (by simpa using hj)
    rwa [show o+4+j=o+(j+4) by omega] at this
  ·simp at hu
   rcases hu with rfl | rfl | rfl | rfl | hu
   ·rfl
   ·rfl
   ·rfl
   ·rfl
   ·exact l3 u hu
theorem FsAt.moveSet {W W':World} {g:FT} (hb:Below W.heap.size W W'):∀ {t:Fs} {k b o b' o':Nat},k < t.len→FsAt W t b o→(∀ j v,j < t.len*4→¬ (k*4≤j∧j < k*4+4)→W.cell? ⟨b,o+j,none⟩=some v→W'.cell? ⟨b',o'+j,none⟩=some v)→FAt W' g b' (o'+k*4)→FsAt W' (t.set k g) b' o'
 | .nil,_,_,_,_,_,h,_,_,_=>by simp[Fs.len] at h
 | .cons op n ts sub r,0,b,o,b',o',_,⟨h0,h1,h2,h3,hr⟩,hc,⟨g0,g1,g2,g3⟩=>by
  simp only[Nat.zero_mul,Nat.add_zero] at g0 g1 g2 g3
  refine⟨g0,g1,g2,g3,?_⟩
  have hall:∀ {t:Fs} {o o':Nat},FsAt W t b o→(∀ j v,j < t.len*4→W.cell? ⟨b,o+j,none⟩=some v→W'.cell? ⟨b',o'+j,none⟩=some v)→FsAt W' t b' o':=by
   intro t
   induction t with
   | nil=>intros;trivial
   | cons op n ts sub r ih1 ih2 =>
    intro o o' ⟨e0,e1,⟨s,e2,es⟩,⟨s',e3,es'⟩,er⟩ hj
    simp only[Fs.len] at hj
    exact⟨hj 0 _ (by omega) e0,hj 1 _ (by omega) e1,⟨s,hj 2 _ (by omega) e2,TSl.below hb es⟩,⟨s',hj 3 _ (by omega) e3,FSl.below hb es'⟩,ih2 er fun j v h hc=>by
     have:=hj (j+4) v (by omega) (by rwa [show o+(j+4)=o+4+j by omega])
     rwa [show o'+(j+4)=o'+4+j by omega] at this⟩
  simp only[Fs.len] at hc
  exact hall hr fun j v h hv=>by
   have:=hc (j+4) v (by omega) (by omega) (by rwa [show o+(j+4)=o+4+j by omega])
   rwa [show o'+(j+4)=o'+4+j by omega] at this
 | .cons op n ts sub r,k+1,b,o,b',o',hk,⟨h0,h1,⟨s,h2,hs⟩,⟨s',h3,hs'⟩,hr⟩,hc,hg=>by
  simp only[Fs.len] at hc hk
  refine⟨hc 0 _ (by omega) (by omega) h0,hc 1 _ (by omega) (by omega) h1,⟨s,hc 2 _ (by omega) (by omega) h2,TSl.below hb hs⟩,⟨s',hc 3 _ (by omega) (by omega) h3,FSl.below hb hs'⟩,FsAt.moveSet hb (k:=k) (by omega) hr (fun j v h hn hv=>?_) (by rwa [show o'+4+k*4=o'+(k+1)*4 by omega])⟩
  have:=hc (j+4) v (by omega) (by omega) (by rwa [show o+(j+4)=o+4+j by omega])
  rwa [show o'+(j+4)=o'+4+j by omega] at this
theorem three_boxes {f h:FT} {sa ss sb sc:Value} {w:World} (hv:FVal w f (fval f sa ss)) (hv':FVal w h (fval h sb sc)) (t:TypeId) :
  ∃ W3,((w.alloc (.cells #[.int .u8 f.op,.string f.n,sa,ss] t)).alloc (.cells #[.int .u8 h.op,.string h.n,sb,sc] t)).alloc (.cells #[.int .u8 0,.string ⟨#[]⟩,.slice none 0 0,.slice none 0 0] t)=W3 ∧
   FS f sa ss w w.heap.size W3∧FS h sb sc w (w.heap.size+1) W3∧Fr4 w.heap.size W3∧Fr4 (w.heap.size+2) W3∧W3.heap.size=w.heap.size+3:=by
 have e1:=bel_laid w (.cells #[.int .u8 f.op,.string f.n,sa,ss] t)
 have k2:=FS.start (t:=t) (FVal.below e1 hv')
 have hF1:=Free.lit w #[.int .u8 f.op,.string f.n,sa,ss] t
 rw[World.size_alloc] at k2
 generalize hW1:w.alloc (.cells #[.int .u8 f.op,.string f.n,sa,ss] t)=W1 at e1 k2 hF1
 have hs1:W1.heap.size=w.heap.size+1:=by rw[←hW1];simp
 have e2:=bel_laid W1 (.cells #[.int .u8 h.op,.string h.n,sb,sc] t)
 generalize hW2:W1.alloc (.cells #[.int .u8 h.op,.string h.n,sb,sc] t)=W2 at e2 k2
 have hs2:W2.heap.size=w.heap.size+2:=by rw[←hW2,World.size_alloc,hs1]
 have e3:=bel_laid W2 (.cells #[.int .u8 0,.string ⟨#[]⟩,.slice none 0 0,.slice none 0 0] t)
 have hF3:=Free.lit W2 #[.int .u8 0,.string ⟨#[]⟩,.slice none 0 0,.slice none 0 0] t
 rw[hs2] at hF3
 have hs3:(W2.alloc (.cells #[.int .u8 0,.string ⟨#[]⟩,.slice none 0 0,.slice none 0 0] t)).heap.size=w.heap.size+3:=by rw[World.size_alloc,hs2]
 generalize W2.alloc (.cells #[.int .u8 0,.string ⟨#[]⟩,.slice none 0 0,.slice none 0 0] t)=W3 at e3 hF3 hs3
 have k1:FS f sa ss w w.heap.size W1:=by rw[←hW1];exact FS.start hv
 have k2':=k2.next e3
 exact⟨W3,rfl,k1.next (bS e2 e3),⟨k2'.1,k2'.2.1,k2'.2.2.1,k2'.2.2.2.1,bS e1 (bS e2 e3),k2'.2.2.2.2.2⟩,fun j hj=>(hF1.below (bS e2 e3)).wc (by simpa using hj),fun j hj=>hF3.wc (by simpa using hj),hs3⟩
def hideR (V:World) (a z:Nat):World:={ V with heap:=V.heap.mapIdx fun i o=>if a≤i∧i < z then .deferred none else o }
theorem hideR_cell {V:World} {a z b o:Nat} {u:Value} (h:(hideR V a z).cell? ⟨b,o,none⟩=some u):(b < a∨z≤b)∧V.cell? ⟨b,o,none⟩=some u:=by
 unfold World.cell? hideR at h
 simp only[Array.getElem?_mapIdx] at h
 cases hb:V.heap[b]? with
 | none=>simp[hb] at h
 | some ob =>
  by_cases hz:a≤b∧b < z
  ·simp[hb,hz] at h
  ·refine⟨by omega,?_⟩
   unfold World.cell?
   simp only[hb,Option.map_some,if_neg hz] at h ⊢
   exact h
theorem hideR_keep {V:World} {a z b o:Nat} {u:Value} (hz:b < a∨z≤b) (h:V.cell? ⟨b,o,none⟩=some u):(hideR V a z).cell? ⟨b,o,none⟩=some u:=by
 unfold World.cell? at h ⊢
 unfold hideR
 simp only[Array.getElem?_mapIdx]
 cases hb:V.heap[b]? with
 | none=>simp[hb] at h
 | some ob =>
  have:¬ (a≤b∧b < z):=by omega
  simp only[hb,Option.map_some,if_neg this] at h ⊢
  exact h
theorem hideR_below {V w0:World} {a z:Nat} (h:Below a w0 V):Below a w0 (hideR V a z):=⟨h.os,h.tape,h.output,by simpa[hideR] using h.size,fun k hk=>by
 simp only[hideR,Array.getElem?_mapIdx]
 rw[←h.block k hk]
 cases V.heap[k]? with
 | none=>rfl
 | some o=>simp;omega⟩
def RAw (w0 w w':World) (r:Option FT) (v:Value) (e:Int):Prop:=∃ U,RAt U r v e∧∀ b o y,U.cell? ⟨b,o,none⟩=some y→w'.cell? ⟨b,o,none⟩=some y∧(b < w0.heap.size∨w.heap.size≤b)
def RefW (l:List Int):Prop:=∀ (f h:FT) (v vp:Value) (p:Option Addr) (c:Nat) (w0 w:World),FVal w0 f v→FVal w0 h vp→Below w0.heap.size w0 w→LSl w0 l (.slice p l.length c)→l.length≤c→c≤maxLen→f.size≤1000000 →
 Calls Tryz.prog 99 #[v,.slice p l.length c,vp] w fun e w'=>(∃ v' er,e=.returned (.tuple #[v',.int .i64 er])∧RAw w0 w w' (f.put l h) v' er)∧Below w.heap.size w w'
set_option maxHeartbeats 4000000 in
theorem refW_nil:RefW []:=by
  intro f h v vp p c w0 w hv0 hvp0 hb0 hl hc hcm hs
  have hv:=FVal.below hb0 hv0
  have hvp:=FVal.below hb0 hvp0
  have hvv:=h_X hvp0
  have hb0h:=h_X hb0
  obtain⟨sa,ss,rfl,ha,hss⟩:=id hv
  obtain⟨pa,ca,rfl,-⟩:=id ha
  obtain⟨pu,cu,rfl,-⟩:=id hss
  obtain⟨sa',ss',rfl,ha',hss'⟩:=id hvp
  obtain⟨pb,cb,rfl,-⟩:=id ha'
  obtain⟨pv,cv,rfl,-⟩:=id hss'
  obtain⟨W2,hW2,⟨-,-,-,-,hb,-⟩,⟨b0,b1,b2,b3,-⟩,-,hy,hs2⟩:=three_boxes hv hvp 25
  obtain⟨u0,y0⟩:=hy 0 (by omega)
  obtain⟨u1,y1⟩:=hy 1 (by omega)
  obtain⟨u2,y2⟩:=hy 2 (by omega)
  obtain⟨u3,y3⟩:=hy 3 (by omega)
  have z0:=y0.1
  have z1:=y1.1
  have z2:=y2.1
  have z3:=y3.1
  have f0:=y0.2
  have f1:=y1.2
  have f2:=y2.2
  have f3:=y3.2
  have hbh:=h_X hb
  have h0:(((([]:List Int).length:Nat):Int) == 0)=true:=rfl
  clear hb ha hss ha' hss' hy hv hvp hv0 hvp0 hb0 hl
  go_enter Tryz.func99,Tryz.ntmps99
  go_wp2_with fail
  obtain⟨W7,hW7,q0,q1,q2,q3,hfar7,hbel7,hs7⟩:=set4o W2 (w.heap.size+2) 0 (.int .u8 h.op) (.string h.n) (.slice pb h.ts.len cb) (.slice pv h.sub.len cv) y0 (by simpa using y1) (by simpa using y2) (by simpa using y3)
  simp only[Nat.zero_add] at hW7 q1 q2 q3
  rw[hW7]
  have hb7:=hbel7 _ _ hbh.out (by omega)
  refine bodyPost_ret (v:=.tuple #[fval h (.slice pb h.ts.len cb) (.slice pv h.sub.len cv),.int .i64 0]) ?_ rfl ⟨⟨_,_,rfl,w0,⟨hvv.out,rfl⟩,fun b o y hc=>⟨c_B (bS hb0h.out hb7) hc,.inl (lt_of_cell hc)⟩⟩,hb7⟩
  simp[results,Tryz.results99,go_sem,q0.1,q1.1,q2.1,q3.1]
set_option maxHeartbeats 8000000 in
theorem refW_cons (i:Int) (l:List Int) (ih:RefW l):RefW (i :: l):=by
    intro f h v vp p c w0 w hv0 hvp0 hb0 hl hc hcm hs
    have hv:=FVal.below hb0 hv0
    have hvp:=FVal.below hb0 hvp0
    have hvv:=h_X hv0
    have hvpp:=h_X hvp0
    have hb0h:=h_X hb0
    obtain⟨sa,ss,rfl,ha,hss⟩:=id hv0
    obtain⟨pa,ca,rfl,-⟩:=id ha
    obtain⟨pu,cu,bu,ou,rfl,hpu,hfu⟩:=FSl.opened hss
    obtain⟨sa',ss',rfl,ha',hss'⟩:=id hvp0
    obtain⟨pb,cb,rfl,-⟩:=id ha'
    obtain⟨pv,cv,rfl,-⟩:=id hss'
    obtain⟨W2,hW2,⟨b0,b1,b2,b3,hb,-⟩,⟨d0,d1,d2,d3,-⟩,hyf,hy,hs2⟩:=three_boxes hv hvp 25
    obtain⟨pl,cl,hse,hl0 | ⟨bl,ol,hpl,hx,hat⟩⟩:=hl
    · simp at hl0
    obtain⟨rfl,-,rfl⟩:p=pl∧True∧c=cl:=by simp at hse;exact⟨hse.1,trivial,hse.2⟩
    subst hpl
    have x0:=c_B (bS hb0 hb) hx
    have hx0h:=h_X hx
    have hble:=h_X (show bl < w0.heap.size from lt_of_cell hx)
    have hat0h:=h_X hat
    obtain⟨n,hn⟩:∃ n,l.length=n:=⟨_,rfl⟩
    have hlen:(i :: l).length=n+1:=by simp[hn]
    rw[hlen] at hc ⊢
    have h0:(((n+1:Nat):Int) == 0)=false:=beq_eq_false_iff_ne.2 (by omega)
    have hbh:=h_X hb
    have hnh:=h_X hn
    have hyh:=h_X hy
    have hyfh:=h_X hyf
    clear hse hn hlen hat hx hv hvp hv0 hvp0 hb0 ha hss ha' hss' hb hy hyf
    go_enter Tryz.func99,Tryz.ntmps99
    by_cases h1:i < 0
    · have hp:=h_X (show f.put (i :: l) h=none by rw[FT.put,if_neg (by omega)])
      obtain⟨u0,y0⟩:=hyh.out 0 (by omega)
      obtain⟨u1,y1⟩:=hyh.out 1 (by omega)
      obtain⟨u2,y2⟩:=hyh.out 2 (by omega)
      obtain⟨u3,y3⟩:=hyh.out 3 (by omega)
      have z0:=y0.1
      have z1:=y1.1
      have z2:=y2.1
      have z3:=y3.1
      have f0:=y0.2
      have f1:=y1.2
      have f2:=y2.2
      have f3:=y3.2
      go_wp2_with fail
      go_quiet (fail)
      go_wp2_with fail
      obtain⟨W7,hW7,q0,q1,q2,q3,-,hbel7,-⟩:=set4o (W2.drewN nq) (w.heap.size+2) 0 (.int .u8 0) (.string ⟨#[]⟩) (.slice none 0 0) (.slice none 0 0) y0 y1 y2 y3
      simp only[Nat.zero_add] at hW7 q1 q2 q3
      rw[hW7]
      refine bodyPost_ret (v:=.tuple #[fval ⟨0,⟨#[]⟩,.nil,.nil⟩ (.slice none 0 0) (.slice none 0 0),.int .i64 6]) ?_ rfl ⟨⟨_,_,rfl,by rw[hp.out];exact⟨w0,⟨rfl,rfl⟩,fun b o y hc=>⟨c_B (bS hb0h.out (hbel7 _ _ (bel_drewR hbh.out nq) (by omega))) hc,.inl (lt_of_cell hc)⟩⟩⟩,hbel7 _ _ (bel_drewR hbh.out nq) (by omega)⟩
      simp[results,Tryz.results99,go_sem,q0.1,q1.1,q2.1,q3.1]
    by_cases h2:(f.sub.len:Int)≤i
    · have hp:=h_X (show f.put (i :: l) h=none by rw[FT.put,if_neg (by omega)])
      obtain⟨u0,y0⟩:=hyh.out 0 (by omega)
      obtain⟨u1,y1⟩:=hyh.out 1 (by omega)
      obtain⟨u2,y2⟩:=hyh.out 2 (by omega)
      obtain⟨u3,y3⟩:=hyh.out 3 (by omega)
      have z0:=y0.1
      have z1:=y1.1
      have z2:=y2.1
      have z3:=y3.1
      have f0:=y0.2
      have f1:=y1.2
      have f2:=y2.2
      have f3:=y3.2
      go_wp2_with fail
      go_quiet (fail)
      go_wp2_with fail
      obtain⟨W7,hW7,q0,q1,q2,q3,-,hbel7,-⟩:=set4o (W2.drewN nq) (w.heap.size+2) 0 (.int .u8 0) (.string ⟨#[]⟩) (.slice none 0 0) (.slice none 0 0) y0 y1 y2 y3
      simp only[Nat.zero_add] at hW7 q1 q2 q3
      rw[hW7]
      refine bodyPost_ret (v:=.tuple #[fval ⟨0,⟨#[]⟩,.nil,.nil⟩ (.slice none 0 0) (.slice none 0 0),.int .i64 6]) ?_ rfl ⟨⟨_,_,rfl,by rw[hp.out];exact⟨w0,⟨rfl,rfl⟩,fun b o y hc=>⟨c_B (bS hb0h.out (hbel7 _ _ (bel_drewR hbh.out nq) (by omega))) hc,.inl (lt_of_cell hc)⟩⟩⟩,hbel7 _ _ (bel_drewR hbh.out nq) (by omega)⟩
      simp[results,Tryz.results99,go_sem,q0.1,q1.1,q2.1,q3.1]
    obtain⟨k,hk⟩:∃ k:Nat,i=(k:Int):=⟨i.toNat,by omega⟩
    have hkl:k < f.sub.len:=by omega
    obtain rfl:pu=some ⟨bu,ou,none⟩:=hpu.resolve_left (by omega)
    have hp:=h_X (show f.put (i :: l) h=((f.sub.get k).put l h).map (fun g=>⟨f.op,f.n,f.ts,f.sub.set k g⟩) by rw[FT.put,if_pos (by omega),hk];rfl)
    subst hk
    go_wp2_with fail
    go_quiet (fail)
    go_wp2_with fail
    obtain⟨V,hV⟩:∃ V,W2.drewN nq=V:=⟨_,rfl⟩
    have hfa:=hfu.get (k:=k) hkl
    obtain⟨fk,hfk⟩:∃ fk,f.sub.get k=fk:=⟨_,rfl⟩
    have hsk:fk.size≤1000000:=by rw[←hfk];have:=Fs.get_size f.sub k hkl;have h3:f.size=f.ts.size+f.sub.size+1:=rfl;omega
    rw[hfk] at hp hfa
    have hfuh:=h_X hfu
    clear hfk hfu
    have hbV:Below w.heap.size w V:=by rw[←hV];exact bel_drewR hbh.out nq
    have hbV0:=bS hb0h.out hbV
    have hle0:w0.heap.size≤w.heap.size:=hb0h.out.size
    obtain⟨e0,e1,⟨s2,e2,e2s⟩,⟨s3,e3,e3s⟩⟩:=hfa
    have hfkvh:=h_X (show FVal w0 fk (fval fk s2 s3) from ⟨_,_,rfl,e2s,e3s⟩)
    have he0h:=h_X e0
    obtain⟨p2,c2,rfl,-⟩:=e2s
    obtain⟨p3,c3,rfl,-⟩:=e3s
    replace e0:=c_B hbV0 e0
    replace e1:=c_B hbV0 e1
    replace e2:=c_B hbV0 e2
    replace e3:=c_B hbV0 e3
    have g3:V.cell? ⟨w.heap.size,3,none⟩=some (.slice (some ⟨bu,ou,none⟩) f.sub.len cu):=by rw[←hV];exact b3
    have gx:V.cell? ⟨bl,ol,none⟩=some (.int .i64 k):=by rw[←hV];exact x0
    have d0':V.cell? ⟨w.heap.size+1,0,none⟩=some (.int .u8 h.op):=by rw[←hV];exact d0
    have d1':V.cell? ⟨w.heap.size+1,1,none⟩=some (.string h.n):=by rw[←hV];exact d1
    have d2':V.cell? ⟨w.heap.size+1,2,none⟩=some (.slice pb h.ts.len cb):=by rw[←hV];exact d2
    have d3':V.cell? ⟨w.heap.size+1,3,none⟩=some (.slice pv h.sub.len cv):=by rw[←hV];exact d3
    have hbc:Hid (V.cell? ⟨w.heap.size,0,none⟩=some (.int .u8 f.op)∧V.cell? ⟨w.heap.size,1,none⟩=some (.string f.n)∧V.cell? ⟨w.heap.size,2,none⟩=some (.slice pa f.ts.len ca)):=h_X (by rw[←hV];exact⟨b0,b1,b2⟩)
    have hsV:V.heap.size=w.heap.size+3:=by rw[←hV];exact hs2
    have hyV:Hid (Fr4 (w.heap.size+2) V):=by rw[←hV];exact hyh
    have hyfV:Hid (Fr4 w.heap.size V):=by rw[←hV];exact hyfh
    obtain⟨qo,hqo,hqa⟩:∃ qo,(if c=1 then some (⟨bl,ol,none⟩:Addr) else some ⟨bl,ol+1,none⟩)=some ⟨bl,qo,none⟩∧(n=0∨qo=ol+1):=by
      by_cases e:c=1
      · exact⟨ol,by rw[if_pos e],.inl (by omega)⟩
      · exact⟨ol+1,by rw[if_neg e],.inr rfl⟩
    have hl1:(1:Int)≤(n:Int)+1:=by omega
    have hl2:(n:Int)+1≤(c:Int):=by omega
    have hih:Hid (∀ W,Below V.heap.size V W→Calls Tryz.prog 99 #[fval fk (.slice p2 fk.ts.len c2) (.slice p3 fk.sub.len c3),.slice (some ⟨bl,qo,none⟩) n (c - 1),fval h (.slice pb h.ts.len cb) (.slice pv h.sub.len cv)] W fun e w' =>
        (∃ op nm q1 n1 r1 q2 n2 r2 er,e=.returned (.tuple #[.agg #[.int .u8 op,.string nm,.slice q1 n1 r1,.slice q2 n2 r2],.int .i64 er])∧RAw w0 W w' (fk.put l h) (.agg #[.int .u8 op,.string nm,.slice q1 n1 r1,.slice q2 n2 r2]) er)∧Below W.heap.size W w') :=
      h_X (fun W hW=>by
        have h1:LSl w0 l (.slice (some ⟨bl,qo,none⟩) l.length (c - 1)):=⟨_,_,rfl,by
          rcases hqa with h0 | h0
          · exact .inl (by rw[hnh.out];exact h0)
          · exact .inr ⟨_,_,rfl,by rw[h0];exact hat0h.out⟩⟩
        have h2:=ih fk h _ _ (some ⟨bl,qo,none⟩) (c - 1) w0 W hfkvh.out hvpp.out (bS hbV0 hW) h1 (by rw[hnh.out];omega) (by omega) hsk
        rw[hnh.out] at h2
        refine h2.mono ?_
        rintro e w' ⟨⟨v',er,he,hr⟩,hb⟩
        obtain⟨op,nm,q1,n1,r1,q2,n2,r2,rfl⟩:=RAt.spelt hr.choose_spec.1
        exact⟨⟨_,_,_,_,_,_,_,_,_,he,hr⟩,hb⟩)
    have hSh:Hid (∀ W,Below V.heap.size V W→(W.cell? ⟨w.heap.size,3,none⟩=some (.slice (some ⟨bu,ou,none⟩) f.sub.len cu)∧W.cell? ⟨bl,ol,none⟩=some (.int .i64 k)∧W.cell? ⟨bu,ou+k*4,none⟩=some (.int .u8 fk.op)∧W.cell? ⟨bu,ou+k*4+1,none⟩=some (.string fk.n)∧W.cell? ⟨bu,ou+k*4+2,none⟩=some (.slice p2 fk.ts.len c2)∧W.cell? ⟨bu,ou+k*4+3,none⟩=some (.slice p3 fk.sub.len c3)∧W.cell? ⟨w.heap.size+1,0,none⟩=some (.int .u8 h.op)∧W.cell? ⟨w.heap.size+1,1,none⟩=some (.string h.n)∧W.cell? ⟨w.heap.size+1,2,none⟩=some (.slice pb h.ts.len cb)∧W.cell? ⟨w.heap.size+1,3,none⟩=some (.slice pv h.sub.len cv)∧Below V.heap.size V W)):=h_X (fun W hb=>⟨c_B hb g3,c_B hb gx,c_B hb e0,c_B hb e1,c_B hb e2,c_B hb e3,c_B hb d0',c_B hb d1',c_B hb d2',c_B hb d3',hb⟩)
    have hihB:Hid (∀ W,(W.cell? ⟨w.heap.size,3,none⟩=some (.slice (some ⟨bu,ou,none⟩) f.sub.len cu)∧W.cell? ⟨bl,ol,none⟩=some (.int .i64 k)∧W.cell? ⟨bu,ou+k*4,none⟩=some (.int .u8 fk.op)∧W.cell? ⟨bu,ou+k*4+1,none⟩=some (.string fk.n)∧W.cell? ⟨bu,ou+k*4+2,none⟩=some (.slice p2 fk.ts.len c2)∧W.cell? ⟨bu,ou+k*4+3,none⟩=some (.slice p3 fk.sub.len c3)∧W.cell? ⟨w.heap.size+1,0,none⟩=some (.int .u8 h.op)∧W.cell? ⟨w.heap.size+1,1,none⟩=some (.string h.n)∧W.cell? ⟨w.heap.size+1,2,none⟩=some (.slice pb h.ts.len cb)∧W.cell? ⟨w.heap.size+1,3,none⟩=some (.slice pv h.sub.len cv)∧Below V.heap.size V W)→Calls Tryz.prog 99 #[fval fk (.slice p2 fk.ts.len c2) (.slice p3 fk.sub.len c3),.slice (some ⟨bl,qo,none⟩) n (c - 1),fval h (.slice pb h.ts.len cb) (.slice pv h.sub.len cv)] W fun e w' =>
        (∃ op nm q1 n1 r1 q2 n2 r2 er,e=.returned (.tuple #[.agg #[.int .u8 op,.string nm,.slice q1 n1 r1,.slice q2 n2 r2],.int .i64 er])∧RAw w0 W w' (fk.put l h) (.agg #[.int .u8 op,.string nm,.slice q1 n1 r1,.slice q2 n2 r2]) er)∧(w'.cell? ⟨w.heap.size,3,none⟩=some (.slice (some ⟨bu,ou,none⟩) f.sub.len cu)∧w'.cell? ⟨bl,ol,none⟩=some (.int .i64 k)∧w'.cell? ⟨bu,ou+k*4,none⟩=some (.int .u8 fk.op)∧w'.cell? ⟨bu,ou+k*4+1,none⟩=some (.string fk.n)∧w'.cell? ⟨bu,ou+k*4+2,none⟩=some (.slice p2 fk.ts.len c2)∧w'.cell? ⟨bu,ou+k*4+3,none⟩=some (.slice p3 fk.sub.len c3)∧w'.cell? ⟨w.heap.size+1,0,none⟩=some (.int .u8 h.op)∧w'.cell? ⟨w.heap.size+1,1,none⟩=some (.string h.n)∧w'.cell? ⟨w.heap.size+1,2,none⟩=some (.slice pb h.ts.len cb)∧w'.cell? ⟨w.heap.size+1,3,none⟩=some (.slice pv h.sub.len cv)∧Below V.heap.size V w')) :=
      h_X (fun W hW=>(hih.out W hW.2.2.2.2.2.2.2.2.2.2).mono fun e w' ⟨h1,h2⟩=>⟨h1,hSh.out w' (bS hW.2.2.2.2.2.2.2.2.2.2 h2)⟩)
    have hihA:Hid (∀ W,(W.cell? ⟨w.heap.size,3,none⟩=some (.slice (some ⟨bu,ou,none⟩) f.sub.len cu)∧W.cell? ⟨bl,ol,none⟩=some (.int .i64 k)∧W.cell? ⟨bu,ou+k*4,none⟩=some (.int .u8 fk.op)∧W.cell? ⟨bu,ou+k*4+1,none⟩=some (.string fk.n)∧W.cell? ⟨bu,ou+k*4+2,none⟩=some (.slice p2 fk.ts.len c2)∧W.cell? ⟨bu,ou+k*4+3,none⟩=some (.slice p3 fk.sub.len c3)∧W.cell? ⟨w.heap.size+1,0,none⟩=some (.int .u8 h.op)∧W.cell? ⟨w.heap.size+1,1,none⟩=some (.string h.n)∧W.cell? ⟨w.heap.size+1,2,none⟩=some (.slice pb h.ts.len cb)∧W.cell? ⟨w.heap.size+1,3,none⟩=some (.slice pv h.sub.len cv)∧Below V.heap.size V W)→Fr4 V.heap.size W→Calls Tryz.prog 99 #[fval fk (.slice p2 fk.ts.len c2) (.slice p3 fk.sub.len c3),.slice (some ⟨bl,qo,none⟩) n (c - 1),fval h (.slice pb h.ts.len cb) (.slice pv h.sub.len cv)] W fun e w' =>
        (∃ op nm q1 n1 r1 q2 n2 r2 er,e=.returned (.tuple #[.agg #[.int .u8 op,.string nm,.slice q1 n1 r1,.slice q2 n2 r2],.int .i64 er])∧RAw w0 W w' (fk.put l h) (.agg #[.int .u8 op,.string nm,.slice q1 n1 r1,.slice q2 n2 r2]) er) ∧
        (∃ u0 u1 u2 u3,Wc w' V.heap.size 0 u0∧Wc w' V.heap.size 1 u1∧Wc w' V.heap.size 2 u2∧Wc w' V.heap.size 3 u3)∧(w'.cell? ⟨w.heap.size,3,none⟩=some (.slice (some ⟨bu,ou,none⟩) f.sub.len cu)∧w'.cell? ⟨bl,ol,none⟩=some (.int .i64 k)∧w'.cell? ⟨bu,ou+k*4,none⟩=some (.int .u8 fk.op)∧w'.cell? ⟨bu,ou+k*4+1,none⟩=some (.string fk.n)∧w'.cell? ⟨bu,ou+k*4+2,none⟩=some (.slice p2 fk.ts.len c2)∧w'.cell? ⟨bu,ou+k*4+3,none⟩=some (.slice p3 fk.sub.len c3)∧w'.cell? ⟨w.heap.size+1,0,none⟩=some (.int .u8 h.op)∧w'.cell? ⟨w.heap.size+1,1,none⟩=some (.string h.n)∧w'.cell? ⟨w.heap.size+1,2,none⟩=some (.slice pb h.ts.len cb)∧w'.cell? ⟨w.heap.size+1,3,none⟩=some (.slice pv h.sub.len cv)∧Below V.heap.size V w')) :=
      h_X (fun W hW hF=>(hih.out W hW.2.2.2.2.2.2.2.2.2.2).mono fun e w' ⟨h1,h2⟩=>by
        obtain⟨u0,y0⟩:=hF 0 (by omega)
        obtain⟨u1,y1⟩:=hF 1 (by omega)
        obtain⟨u2,y2⟩:=hF 2 (by omega)
        obtain⟨u3,y3⟩:=hF 3 (by omega)
        exact⟨h1,⟨_,_,_,_,y0.below h2,y1.below h2,y2.below h2,y3.below h2⟩,hSh.out w' (bS hW.2.2.2.2.2.2.2.2.2.2 h2)⟩)
    have hFr:Fr4 V.heap.size (V.alloc (.cells #[.int .u8 0,.string ⟨#[]⟩,.slice none 0 0,.slice none 0 0] 25)).drew:=fun j hj=>(Free.lit V #[.int .u8 0,.string ⟨#[]⟩,.slice none 0 0,.slice none 0 0] 25).wc (by simpa using hj)
    have hcells:=hSh.out V.drew (bel_drew V)
    have hcellsA:=hSh.out (V.alloc (.cells #[.int .u8 0,.string ⟨#[]⟩,.slice none 0 0,.slice none 0 0] 25)).drew (bS (bel_laid V _) (bel_drew _))
    have hsVh:=h_X hsV
    clear hsV
    clear hqa ih hfkvh hyh hyfh hnh hat0h hbV0 b0 b1 b2 b3 x0 hs2 d0 d1 d2 d3 hih hx0h he0h
    rw[hV]
    clear hV
    go_region_held3 (fun W=>W.cell? ⟨w.heap.size,3,none⟩=some (.slice (some ⟨bu,ou,none⟩) f.sub.len cu)∧W.cell? ⟨bl,ol,none⟩=some (.int .i64 k)∧W.cell? ⟨bu,ou+k*4,none⟩=some (.int .u8 fk.op)∧W.cell? ⟨bu,ou+k*4+1,none⟩=some (.string fk.n)∧W.cell? ⟨bu,ou+k*4+2,none⟩=some (.slice p2 fk.ts.len c2)∧W.cell? ⟨bu,ou+k*4+3,none⟩=some (.slice p3 fk.sub.len c3)∧W.cell? ⟨w.heap.size+1,0,none⟩=some (.int .u8 h.op)∧W.cell? ⟨w.heap.size+1,1,none⟩=some (.string h.n)∧W.cell? ⟨w.heap.size+1,2,none⟩=some (.slice pb h.ts.len cb)∧W.cell? ⟨w.heap.size+1,3,none⟩=some (.slice pv h.sub.len cv)∧Below V.heap.size V W)
      (first
        | (with_reducible assumption)
        | (with_reducible exact hcells)
        | (with_reducible exact hcellsA)
        | (exact hSh.out _ (bS hSS.2.2.2.2.2.2.2.2.2.2 (bel_laid _ _)))
        | (exact hSh.out _ (below4 hSS.2.2.2.2.2.2.2.2.2.2 (Nat.le_refl _))))
      (first
        | (go_at_call 99;(with_reducible refine(hihA.out _ (by assumption) (by exact hFr)).mono ?_);rintro e w' ⟨⟨op,nm,q1,n1,r1,q2,n2,r2,er,rfl,hres⟩,⟨u0,u1,u2,u3,⟨z0,f0⟩,⟨z1,f1⟩,⟨z2,f2⟩,⟨z3,f3⟩⟩,hSS⟩)
        | (go_at_call 99;(with_reducible refine(hihB.out _ (by assumption)).mono ?_);rintro e w' ⟨⟨op,nm,q1,n1,r1,q2,n2,r2,er,rfl,hres⟩,hSS⟩))
    all_goals
      first
        | (obtain⟨U,hU,y0,y1,y2,y3,hfarU,hbelU,hsU⟩:=set4o w' V.heap.size 0 (.int .u8 op) (.string nm) (.slice q1 n1 r1) (.slice q2 n2 r2) ⟨z0,f0⟩ ⟨z1,f1⟩ ⟨z2,f2⟩ ⟨z3,f3⟩
           simp only[Nat.zero_add] at hU y1 y2 y3
           rw[hU]
           have hbU:Hid (Below V.heap.size V U):=h_X (hbelU _ _ hSS.2.2.2.2.2.2.2.2.2.2 (Nat.le_refl _))
           have hU0:Hid (∃ U0,RAt U0 (fk.put l h) (.agg #[.int .u8 op,.string nm,.slice q1 n1 r1,.slice q2 n2 r2]) er∧∀ b o y,U0.cell? ⟨b,o,none⟩=some y→U.cell? ⟨b,o,none⟩=some y∧(b < w0.heap.size∨V.heap.size≤b)):=h_X (by
             obtain⟨U0,hr0,hc0⟩:=hres
             refine⟨U0,hr0,fun b o y hc=>?_⟩
             obtain⟨h1,h2⟩:=hc0 b o y hc
             have h3:b < w0.heap.size∨V.heap.size+1≤b:=by
               rcases h2 with h2 | h2
               · exact .inl h2
               · right;have h4:(V.alloc (.cells #[.int .u8 0,.string ⟨#[]⟩,.slice none 0 0,.slice none 0 0] 25)).drew.heap.size=V.heap.size+1:=World.size_alloc _ _;omega
             have h5:=hsVh.out
             refine⟨?_,by omega⟩
             rw[←hU,set_off (.inl (by omega)),set_off (.inl (by omega)),set_off (.inl (by omega)),set_off (.inl (by omega))]
             exact h1)
           obtain⟨A,hA⟩:∃ A,V.heap.size=A:=⟨_,rfl⟩
           rw[hA] at y0 y1 y2 y3 ⊢
           have hAu:Hid (A < U.heap.size∧V.heap.size≤A):=h_X ⟨y0.lt,by omega⟩
           clear hU hfarU hbelU hsU z0 z1 z2 z3 f0 f1 f2 f3)
        | (have hnb:=bel_laid w' (.cells #[.int .u8 op,.string nm,.slice q1 n1 r1,.slice q2 n2 r2] 25)
           have hnF:=Free.lit w' #[.int .u8 op,.string nm,.slice q1 n1 r1,.slice q2 n2 r2] 25
           have hnc:=cell_new w' #[.int .u8 op,.string nm,.slice q1 n1 r1,.slice q2 n2 r2] 25
           obtain⟨U,hU⟩:∃ U,w'.alloc (.cells #[.int .u8 op,.string nm,.slice q1 n1 r1,.slice q2 n2 r2] 25)=U:=⟨_,rfl⟩
           rw[hU] at hnb hnF hnc ⊢
           have y0:Wc U w'.heap.size 0 (.int .u8 op):=⟨hnc 0,(hnF 0 (by simp)).2⟩
           have y1:Wc U w'.heap.size 1 (.string nm):=⟨hnc 1,(hnF 1 (by simp)).2⟩
           have y2:Wc U w'.heap.size 2 (.slice q1 n1 r1):=⟨hnc 2,(hnF 2 (by simp)).2⟩
           have y3:Wc U w'.heap.size 3 (.slice q2 n2 r2):=⟨hnc 3,(hnF 3 (by simp)).2⟩
           have hbw':=hSS.2.2.2.2.2.2.2.2.2.2
           have hbU:Hid (Below V.heap.size V U):=h_X (bS hbw' hnb)
           have hU0:Hid (∃ U0,RAt U0 (fk.put l h) (.agg #[.int .u8 op,.string nm,.slice q1 n1 r1,.slice q2 n2 r2]) er∧∀ b o y,U0.cell? ⟨b,o,none⟩=some y→U.cell? ⟨b,o,none⟩=some y∧(b < w0.heap.size∨V.heap.size≤b)):=h_X (by
             obtain⟨U0,hr0,hc0⟩:=hres
             refine⟨U0,hr0,fun b o y hc=>?_⟩
             obtain⟨h1,h2⟩:=hc0 b o y hc
             exact⟨c_B hnb h1,h2⟩)
           have hvw:=hbw'.size
           obtain⟨A,hA⟩:∃ A,w'.heap.size=A:=⟨_,rfl⟩
           rw[hA] at y0 y1 y2 y3 ⊢
           have hAu:Hid (A < U.heap.size∧V.heap.size≤A):=h_X ⟨y0.lt,by omega⟩
           clear hU hnb hnF hnc hbw' hvw)
    all_goals
      (clear hres hSS hihA hihB hFr hcells hcellsA hqo hl1 hl2 e0 e1 e2 e3 hSh hA
       cases hq:fk.put l h with
       | none =>
         obtain⟨U0,hr0,hc0⟩:=hU0.out
         rw[hq] at hr0
         obtain⟨-,rfl⟩:=hr0
         have hp2:f.put (((k:Nat):Int) :: l) h=none:=by rw[hp.out,hq];rfl
         have hp2h:=h_X hp2
         have hbUw:=h_X (show Below w.heap.size w U from hbV.trans (hbU.out.mono (by rw[hsVh.out];omega)))
         obtain⟨v0,x0⟩:=hyV.out 0 (by omega)
         obtain⟨v1,x1⟩:=hyV.out 1 (by omega)
         obtain⟨v2,x2⟩:=hyV.out 2 (by omega)
         obtain⟨v3,x3⟩:=hyV.out 3 (by omega)
         replace x0:=x0.below hbU.out
         replace x1:=x1.below hbU.out
         replace x2:=x2.below hbU.out
         replace x3:=x3.below hbU.out
         have z0:=x0.1
         have z1:=x1.1
         have z2:=x2.1
         have z3:=x3.1
         have f0:=x0.2
         have f1:=x1.2
         have f2:=x2.2
         have f3:=x3.2
         clear hc0 hp hp2 hq hU0 y0 y1 y2 y3
         go_wp2_with fail
         obtain⟨W7,hW7,s0,s1,s2,s3,-,hbel7,-⟩:=set4o U (w.heap.size+2) 0 (.int .u8 0) (.string ⟨#[]⟩) (.slice none 0 0) (.slice none 0 0) x0 x1 x2 x3
         simp only[Nat.zero_add] at hW7 s1 s2 s3
         rw[hW7]
         have hb7:=hbel7 _ _ hbUw.out (by omega)
         refine bodyPost_ret (v:=.tuple #[fval ⟨0,⟨#[]⟩,.nil,.nil⟩ (.slice none 0 0) (.slice none 0 0),.int .i64 6]) ?_ rfl ⟨⟨_,_,rfl,by rw[hp2h.out];exact⟨w0,⟨rfl,rfl⟩,fun b o y hc=>⟨c_B (bS hb0h.out hb7) hc,.inl (lt_of_cell hc)⟩⟩⟩,hb7⟩
         simp[results,Tryz.results99,go_sem,s0.1,s1.1,s2.1,s3.1]
       | some gk =>
         obtain⟨U0,hr0,hc0⟩:=hU0.out
         rw[hq] at hr0
         obtain⟨⟨sa9,ss9,he9,hT9,hF9⟩,rfl⟩:=hr0
         simp at he9
         obtain⟨rfl,rfl,rfl,rfl⟩:=he9
         have hp2h:=h_X (show f.put (((k:Nat):Int) :: l) h=some ⟨f.op,f.n,f.ts,f.sub.set k gk⟩ by rw[hp.out,hq];rfl)
         have hbUw:=h_X (show Below w.heap.size w U from hbV.trans (hbU.out.mono (by rw[hsVh.out];omega)))
         have gx3:=c_B hbU.out g3
         have gx0:=h_X (c_B hbU.out gx)
         have hT9h:=h_X hT9
         have hF9h:=h_X hF9
         have hc0h:=h_X hc0
         have y0h:=h_X y0
         have y1h:=h_X y1
         have y2h:=h_X y2
         have y3h:=h_X y3
         obtain⟨u9,x3⟩:=hyfV.out 3 (by omega)
         have x3h:=h_X (x3.below hbU.out)
         clear hc0 hp hq hU0 y0 y1 y2 y3 hT9 hF9 g3 gx d0' d1' d2' d3' x3
         obtain⟨U2,hU2⟩:∃ U2,U.alloc (.cells #[] 25)=U2:=⟨_,rfl⟩
         have hb2:Below U.heap.size U U2:=by rw[←hU2];exact bel_laid _ _
         have hs2U:U2.heap.size=U.heap.size+1:=by rw[←hU2];exact World.size_alloc _ _
         replace gx3:=c_B hb2 gx3
         obtain⟨i0,hi,hz0,hz1,hz2⟩:=info_parts info27
         obtain⟨news,hnl,hnc,hn1⟩:=FsAt.row hfuh.out
         have hnewsh:Hid (∀ j u,news[j]? = some u→U2.cell? (Addr.add ⟨bu,ou,none⟩ j)=some u):=h_X (fun j u hj=>by
           have h1:=c_B (bS hb0h.out (bS hbUw.out hb2)) (hnc j u hj)
           have hadd:Addr.add ⟨bu,ou,none⟩ j=⟨bu,ou+j,none⟩:=by
             by_cases h0:j=0
             · subst h0;rfl
             · simp[Addr.add,h0]
           rw[hadd];exact h1)
         have hown0:Hid (U2.ownsRow U.heap.size 25 4 (.slice (some ⟨U.heap.size,0,none⟩) 0 0) 0 []):=h_X ⟨rfl,.inr ⟨U.heap.size,0,#[],rfl,Nat.le_refl _,by rw[←hU2];exact heap_alloc_new U _,Nat.le_refl _,Nat.zero_le _,rfl,rfl⟩⟩
         have hlen1:f.sub.len≤1000000:=by have:=f.sub.len_le;have:f.size=f.ts.size+f.sub.size+1:=rfl;omega
         have hn1h:=h_X hn1
         have hnlh:=h_X hnl
         have hnch:=h_X hnc
         have hb2h:=h_X hb2
         clear hnc hn1 hnl hb2
         go_wp2_with (at_builtin;refine wpList_append_lies _ rfl _ _ 23 rfl U.heap.size 25 i0 (.agg #[.int .u8 0,.string ⟨#[]⟩,.slice none 0 0,.slice none 0 0]) 4 72 Tryz.underlying23 hi hz0 hz1 hz2 rfl (by decide) _ 0 [] rfl hown0.out ⟨bu,ou,none⟩ f.sub.len cu news rfl hnlh.out hnewsh.out hn1h.out ?c1 ?c2 ?c3 ?c4 U2.heap.size rfl ?_)
         case c1=>omega
         case c2=>unfold maxLen;omega
         case c3=>omega
         case c4=>omega
         intro G cap w1 hown1 hgrow hatG hltG
         have hbG:Below U.heap.size U w1:=hb2h.out.trans ((Below.refl _ U2).grown hgrow (by omega) (fun r e=>by simp[Value.ownBlock] at e;omega))
         have hGge:U.heap.size≤G:=by
           rcases hatG with e | e
           · simp[Value.ownBlock] at e;omega
           · omega
         try simp only[Nat.zero_add,List.nil_append] at hown1
         have x3w:=x3h.out.below hbG
         have z3:=x3w.1
         have f3:=x3w.2
         have hownh:=h_X hown1
         clear hgrow hatG hown0 hnewsh hn1h hown1 gx3 hi hz0 hz1 hz2 hU2 hb2h
         go_upto_region 9 with fail
         obtain⟨w2,hw2⟩:∃ w2,w1.setCell ⟨w.heap.size,3,none⟩ (.slice (some ⟨G,0,none⟩) f.sub.len cap)=w2:=⟨_,rfl⟩
         rw[hw2]
         have hgV:w.heap.size < V.heap.size:=by have:=hsVh.out;omega
         have hVU:=hbU.out.size
         have hAlt:=hAu.out
         have hkeep2:∀ x i' v,x≠w.heap.size→Wc w1 x i' v→Wc w2 x i' v:=fun x i' v hx hc=>by rw[←hw2];exact wc_off (.inl hx) hc
         have hcell2:∀ x i' v,x≠w.heap.size→w1.cell? ⟨x,i',none⟩=some v→w2.cell? ⟨x,i',none⟩=some v:=fun x i' v hx hc=>by rw[←hw2,set_off (.inl hx)];exact hc
         have m3:w2.cell? ⟨w.heap.size,3,none⟩=some (.slice (some ⟨G,0,none⟩) f.sub.len cap):=by rw[←hw2];exact set_on z3
         have hblne:bl≠w.heap.size:=by intro e;have:=hble.out;omega
         have mx:w2.cell? ⟨bl,ol,none⟩=some (.int .i64 k):=hcell2 _ _ _ hblne (c_B hbG gx0.out)
         have a0:=(hkeep2 _ _ _ (by omega) (y0h.out.below hbG)).1
         have a1:=(hkeep2 _ _ _ (by omega) (y1h.out.below hbG)).1
         have a2:=(hkeep2 _ _ _ (by omega) (y2h.out.below hbG)).1
         have a3:=(hkeep2 _ _ _ (by omega) (y3h.out.below hbG)).1
         have hGc:Hid (∀ j,j < f.sub.len*4→w2.cell? ⟨G,j,none⟩=news[j]?∧w2.frozen? ⟨G,j,none⟩=false):=h_X (fun j hj=>by
           refine⟨?_,?_⟩
           · rw[←hw2,set_off (.inl (by omega))];exact hownh.out.cellAt j hj
           · rw[←hw2,World.frozen?_setCell];exact hownh.out.frozenAt j)
         have hb2w:Hid (Below w.heap.size w w2):=h_X (by rw[←hw2];exact(hbUw.out.trans (hbG.mono (by omega))).setCell (p:=⟨w.heap.size,3,none⟩) (Nat.le_refl _) _)
         have hbGh:=h_X hbG
         have hcell2h:=h_X hcell2
         have hkeep2h:=h_X hkeep2
         have hoff:Hid (∀ j v,j≠3→w1.cell? ⟨w.heap.size,j,none⟩=some v→w2.cell? ⟨w.heap.size,j,none⟩=some v):=h_X (fun j v hj hc=>by rw[←hw2,set_off (.inr hj)];exact hc)
         clear hw2 z3 f3 x3w hbG hcell2 hkeep2
         go_still_tail 7,(by kernel_rfl)
         change wpList _ _ _ _ _ w2.drew
         obtain⟨w3,hw3⟩:∃ w3,w2.drew=w3:=⟨_,rfl⟩
         rw[hw3]
         replace m3:w3.cell? ⟨w.heap.size,3,none⟩=some (.slice (some ⟨G,0,none⟩) f.sub.len cap):=by rw[←hw3];exact m3
         replace mx:w3.cell? ⟨bl,ol,none⟩=some (.int .i64 k):=by rw[←hw3];exact mx
         replace a0:w3.cell? ⟨A,0,none⟩=some (.int .u8 gk.op):=by rw[←hw3];exact a0
         replace a1:w3.cell? ⟨A,1,none⟩=some (.string gk.n):=by rw[←hw3];exact a1
         replace a2:w3.cell? ⟨A,2,none⟩=some (.slice q1 n1 r1):=by rw[←hw3];exact a2
         replace a3:w3.cell? ⟨A,3,none⟩=some (.slice q2 n2 r2):=by rw[←hw3];exact a3
         have hGc3:Hid (∀ j,j < f.sub.len*4→w3.cell? ⟨G,j,none⟩=news[j]?∧w3.frozen? ⟨G,j,none⟩=false):=by rw[←hw3];exact hGc
         have hb3w:Hid (Below w.heap.size w w3):=h_X (by rw[←hw3];exact hb2w.out.drew)
         have hcell3:Hid (∀ x i' v,x≠w.heap.size→U.cell? ⟨x,i',none⟩=some v→w3.cell? ⟨x,i',none⟩=some v):=h_X (fun x i' v hx hc=>by
           rw[←hw3];exact hcell2h.out x i' v hx (c_B hbGh.out hc))
         have hbc3:Hid (w3.cell? ⟨w.heap.size,0,none⟩=some (.int .u8 f.op)∧w3.cell? ⟨w.heap.size,1,none⟩=some (.string f.n)∧w3.cell? ⟨w.heap.size,2,none⟩=some (.slice pa f.ts.len ca)):=h_X (by
           obtain⟨e0,e1,e2⟩:=hbc.out
           rw[←hw3]
           exact⟨hoff.out 0 _ (by omega) (c_B hbGh.out (c_B hbU.out e0)),hoff.out 1 _ (by omega) (c_B hbGh.out (c_B hbU.out e1)),hoff.out 2 _ (by omega) (c_B hbGh.out (c_B hbU.out e2))⟩)
         have hy3:Hid (∀ j,j < 4→∃ u,Wc w3 (w.heap.size+2) j u):=h_X (fun j hj=>by
           obtain⟨u,hu⟩:=hyV.out j hj
           refine⟨u,?_⟩
           rw[←hw3]
           exact hkeep2h.out _ _ _ (by omega) ((hu.below hbU.out).below hbGh.out))
         have hw4t:∀ j,j < 4→∃ u,Wc w3 G (k*4+j) u:=fun j hj=>by
           obtain⟨h5,h6⟩:=hGc3.out (k*4+j) (by omega)
           exact⟨_,h5.trans (List.getElem?_eq_getElem (by rw[hnlh.out];omega)),h6⟩
         obtain⟨t0,v0⟩:=hw4t 0 (by omega)
         obtain⟨t1,v1⟩:=hw4t 1 (by omega)
         obtain⟨t2,v2⟩:=hw4t 2 (by omega)
         obtain⟨t3,v3⟩:=hw4t 3 (by omega)
         rw[Nat.add_zero] at v0
         have z0:=v0.1
         have z1:=v1.1
         have z2:=v2.1
         have z3:=v3.1
         have f0:=v0.2
         have f1:=v1.2
         have f2:=v2.2
         have f3:=v3.2
         have hltk:(k:Int) < (f.sub.len:Int):=by omega
         have hGne:G≠w.heap.size∧G≠w.heap.size+2:=by have:=hsVh.out;omega
         obtain⟨hGn1,hGn2⟩:=hGne
         clear hw3 hGc hb2w hcell2h hw4t hoff hkeep2h
         go_upto_region 10 with fail
         obtain⟨w4,hw4,s0,s1,s2,s3,hfar4,hbel4,hs4⟩:=set4o w3 G (k*4) (.int .u8 gk.op) (.string gk.n) (.slice q1 n1 r1) (.slice q2 n2 r2) v0 v1 v2 v3
         rw[hw4]
         have hc4:∀ x i' v,¬ (x=G∧k*4≤i'∧i' < k*4+4)→w3.cell? ⟨x,i',none⟩=some v→w4.cell? ⟨x,i',none⟩=some v:=fun x i' v hn hc=>by
           rw[←hw4,set_off (by omega),set_off (by omega),set_off (by omega),set_off (by omega)];exact hc
         obtain⟨u0,x0⟩:=hy3.out 0 (by omega)
         obtain⟨u1,x1⟩:=hy3.out 1 (by omega)
         obtain⟨u2,x2⟩:=hy3.out 2 (by omega)
         obtain⟨u3,x3⟩:=hy3.out 3 (by omega)
         replace x0:=hfar4 _ _ _ (by omega) x0
         replace x1:=hfar4 _ _ _ (by omega) x1
         replace x2:=hfar4 _ _ _ (by omega) x2
         replace x3:=hfar4 _ _ _ (by omega) x3
         have g0:=hc4 _ _ _ (by omega) hbc3.out.1
         have g1:=hc4 _ _ _ (by omega) hbc3.out.2.1
         have g2:=hc4 _ _ _ (by omega) hbc3.out.2.2
         have g3:=hc4 _ _ _ (by omega) m3
         have hc4h:=h_X hc4
         have hb4w:=h_X (hbel4 _ _ hb3w.out (by omega))
         have s0h:=h_X s0
         have s1h:=h_X s1
         have s2h:=h_X s2
         have s3h:=h_X s3
         clear z0 z1 z2 z3 f0 f1 f2 f3 v0 v1 v2 v3 a0 a1 a2 a3 m3 mx hw4 hfar4 hbel4 hs4 hc4 s0 s1 s2 s3 hbc3 hy3
         have z0:=x0.1
         have z1:=x1.1
         have z2:=x2.1
         have z3:=x3.1
         have f0:=x0.2
         have f1:=x1.2
         have f2:=x2.2
         have f3:=x3.2
         go_wp2_with fail
         obtain⟨W5,hW5,r0',r1',r2',r3',hfar5,hbel5,hs5⟩:=set4o w4 (w.heap.size+2) 0 (.int .u8 f.op) (.string f.n) (.slice pa f.ts.len ca) (.slice (some ⟨G,0,none⟩) f.sub.len cap) x0 x1 x2 x3
         simp only[Nat.zero_add] at hW5 r1' r2' r3'
         rw[hW5]
         have hb5:=hbel5 _ _ hb4w.out (by omega)
         have hc5:∀ x i' v,x≠w.heap.size+2→w4.cell? ⟨x,i',none⟩=some v→W5.cell? ⟨x,i',none⟩=some v:=fun x i' v hx hc=>by
           rw[←hW5,set_off (.inl hx),set_off (.inl hx),set_off (.inl hx),set_off (.inl hx)];exact hc
         have hb50:Below w0.heap.size w0 W5:=bS hb0h.out hb5
         have hbF:Below w0.heap.size w0 (hideR W5 w0.heap.size w.heap.size):=hideR_below hb50
         have hext:Ext U0 (hideR W5 w0.heap.size w.heap.size):=fun b o y hc=>by
           obtain⟨h1,h2⟩:=hc0h.out b o y hc
           have h3:=lt_of_cell h1
           have h4:=hsVh.out
           refine hideR_keep (by omega) (hc5 _ _ _ (by omega) (hc4h.out _ _ _ (by omega) (hcell3.out _ _ _ (by omega) h1)))
         have hset:FsAt (hideR W5 w0.heap.size w.heap.size) (f.sub.set k gk) G 0:=by
           refine FsAt.moveSet hbF hkl hfuh.out (fun j v hj hn hc=>hideR_keep (.inr (by omega)) (hc5 _ _ _ hGn2 (hc4h.out _ _ _ (by omega) ?_))) ?_
           · have h5:=(hGc3.out j hj).1
             have hjn:j < news.length:=by rw[hnlh.out];exact hj
             have h6:news[j]? = some news[j]:=List.getElem?_eq_getElem hjn
             have h7:=(hnch.out j _ h6).symm.trans hc
             rw[Nat.zero_add,h5,h6];exact h7
           · rw[Nat.zero_add]
             exact⟨hideR_keep (.inr (by omega)) (hc5 _ _ _ hGn2 s0h.out.1),hideR_keep (.inr (by omega)) (hc5 _ _ _ hGn2 s1h.out.1),⟨_,hideR_keep (.inr (by omega)) (hc5 _ _ _ hGn2 s2h.out.1),hT9h.out.imp fun _ _ h=>TsAt.ext hext h⟩,⟨_,hideR_keep (.inr (by omega)) (hc5 _ _ _ hGn2 s3h.out.1),hF9h.out.imp fun _ _ h=>FsAt.ext hext h⟩⟩
         obtain⟨sa8,ss8,he8,hT8,-⟩:=hvv.out
         simp at he8
         obtain⟨rfl,-⟩:=he8
         refine bodyPost_ret (v:=.tuple #[.agg #[.int .u8 f.op,.string f.n,.slice pa f.ts.len ca,.slice (some ⟨G,0,none⟩) f.sub.len cap],.int .i64 0]) ?_ rfl ⟨⟨_,_,rfl,by
           rw[hp2h.out]
           exact⟨hideR W5 w0.heap.size w.heap.size,⟨⟨_,_,rfl,TSl.below hbF hT8,some ⟨G,0,none⟩,cap,by rw[Fs.len_set],.inr ⟨G,0,rfl,hset⟩⟩,rfl⟩,fun b o y hc=>⟨(hideR_cell hc).2,(hideR_cell hc).1⟩⟩⟩,hb5⟩
         simp[results,Tryz.results99,go_sem,r0'.1,r1'.1,r2'.1,r3'.1])
theorem refW_any:∀ l:List Int,RefW l
 | []=>refW_nil
 | i :: l=>refW_cons i l (refW_any l)
end Go.Proofs.YtngdieldgnlogaaGreatDoor
