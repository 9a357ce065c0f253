/- The order of formulas is total. -/
import Derived.Test.YtngdieldgnlogaaGreatDoorMP
import Derived.Test.YtngdieldgnlogaaGreatDoorQE
import Derived.Sort.Walk0
namespace Go.Proofs.YtngdieldgnlogaaGreatDoor
open Go
set_option maxRecDepth 100000
def Tr3 (x y z:Int):Prop:=x≤0→y≤0→z≤0∧(z=0↔x=0∧y=0)
def lex (x y:Int):Int:=if x=0 then y else x
theorem Tr3.lex {x1 y1 z1 x2 y2 z2:Int} (h1:Tr3 x1 y1 z1) (h2:x1=0→y1=0→Tr3 x2 y2 z2):Tr3 (lex x1 x2) (lex y1 y2) (lex z1 z2):=by
 unfold Tr3 YtngdieldgnlogaaGreatDoor.lex at *
 intro hx hy
 by_cases a:x1=0
 ·by_cases b:y1=0
  ·have h2':=h2 a b
   have h1':=h1 (by omega) (by omega)
   have c:z1=0:=h1'.2.2 ⟨a,b⟩
   simp only[a,b,c,if_true] at hx hy ⊢
   exact h2' hx hy
  ·simp only[if_neg b] at hy ⊢
   have h1':=h1 (by omega) hy
   have c:¬ z1=0:=fun c=>b (h1'.2.1 c).2
   simp only[if_neg c]
   exact⟨h1'.1,⟨fun e=>absurd e c,fun e=>absurd e.2 b⟩⟩
 ·simp only[if_neg a] at hx ⊢
  have hy1:y1≤0:=by
   by_cases b:y1=0
   ·omega
   ·simpa only[if_neg b] using hy
  have h1':=h1 hx hy1
  have c:¬ z1=0:=fun c=>a (h1'.2.1 c).1
  simp only[if_neg c]
  exact⟨h1'.1,⟨fun e=>absurd e c,fun e=>absurd e.1 a⟩⟩
theorem lex_zero {x y:Int}:lex x y=0↔x=0∧y=0:=by
 unfold lex
 by_cases a:x=0
 ·simp[a]
 ·simp[a]
theorem cmpI_eq (x y:Int):cmpI x y=0↔x=y:=by
 unfold cmpI
 by_cases a:x < y
 ·simp[a];omega
 ·by_cases b:y < x
  ·simp[a,b];omega
  ·simp[a,b];omega
theorem cmpS_eq (x y:ByteArray):cmpS x y=0↔x.toList=y.toList:=by
 have:=cmpS_zero x y
 rw[←beq_iff_eq (a:=cmpS x y),this,beq_iff_eq]
def cmpB (v v':Bool):Int:=if v=v' then 0 else if v then -1 else 1
theorem cmpB_eq (x y:Bool):cmpB x y=0↔x=y:=by cases x<;>cases y<;>simp[cmpB]
theorem Ts.cmp_lex (a b:Ts):a.cmp b=lex (cmpI a.len b.len) (a.cmpE b):=rfl
theorem cmpTerm_lex (v:Bool) (n:ByteArray) (ts:Ts) (v':Bool) (n':ByteArray) (ts':Ts):cmpTerm v n ts v' n' ts'=lex (cmpB v v') (lex (cmpS n n') (ts.cmp ts')):=by
 unfold cmpTerm lex cmpB
 by_cases h:v=v'
 ·simp only[h,if_true]
 ·rw[if_neg h,if_neg h]
  cases v<;>simp
theorem Ts.cmpE_lex (v:Bool) (n:ByteArray) (ts r:Ts) (v':Bool) (n':ByteArray) (ts' r':Ts):(Ts.cons v n ts r).cmpE (.cons v' n' ts' r')=lex (lex (cmpB v v') (lex (cmpS n n') (ts.cmp ts'))) (r.cmpE r'):=by
 rw[←cmpTerm_lex];exact cmpE_cons v n ts r v' n' ts' r'
theorem Ts.cmpE_eq (a:Ts):∀ b:Ts,a.len=b.len→(a.cmpE b=0↔a.eqB b=true):=by
 induction a with
 | nil=>intro b h;cases b with
  | nil=>simp[Ts.cmpE,Ts.eqB]
  | cons _ _ _ _=>simp[Ts.len] at h
 | cons v n ts r iht ihr =>
  intro b h
  cases b with
  | nil=>simp[Ts.len] at h
  | cons v' n' ts' r' =>
   simp only[Ts.len] at h
   rw[Ts.cmpE_lex,Ts.cmp_lex]
   simp only[lex_zero,cmpB_eq,cmpS_eq,Ts.eqB,Bool.and_eq_true,beq_iff_eq]
   constructor
   ·rintro⟨⟨h1,h2,h3,h4⟩,h5⟩
    exact⟨⟨⟨h1,h2⟩,(iht ts' (by have:=(cmpI_eq ..).1 h3;omega)).1 h4⟩,(ihr r' (by omega)).1 h5⟩
   ·rintro⟨⟨⟨h1,h2⟩,h4⟩,h5⟩
    have e:=Ts.eqB_len h4
    exact⟨⟨h1,h2,(cmpI_eq ..).2 (by omega),(iht ts' e).2 h4⟩,(ihr r' (by omega)).2 h5⟩
theorem Ts.cmp_eq (a b:Ts):a.cmp b=0↔a.eqB b=true:=by
 rw[Ts.cmp_lex,lex_zero]
 constructor
 ·rintro⟨h1,h2⟩
  exact(Ts.cmpE_eq a b (by have:=(cmpI_eq ..).1 h1;omega)).1 h2
 ·intro h
  have e:=Ts.eqB_len h
  exact⟨(cmpI_eq ..).2 (by omega),(Ts.cmpE_eq a b e).2 h⟩
theorem cmpForm_lex (f g:FT):cmpForm f g=lex (cmpI f.op g.op) (lex (cmpS f.n g.n) (lex (f.ts.cmp g.ts) (lex (cmpI f.sub.len g.sub.len) (f.sub.cmpE g.sub)))):=rfl
theorem Fs.cmpE_lex (op:Int) (n:ByteArray) (ts:Ts) (sub r:Fs) (op':Int) (n':ByteArray) (ts':Ts) (sub' r':Fs):(Fs.cons op n ts sub r).cmpE (.cons op' n' ts' sub' r')=lex (lex (cmpI op op') (lex (cmpS n n') (lex (ts.cmp ts') (lex (cmpI sub.len sub'.len) (sub.cmpE sub'))))) (r.cmpE r'):=by
 rw[cmpE_consF,cmpForm_lex];rfl
theorem Fs.cmpE_eq (a:Fs):∀ b:Fs,a.len=b.len→(a.cmpE b=0↔a.eqB b=true):=by
 induction a with
 | nil=>intro b h;cases b with
  | nil=>simp[Fs.cmpE,Fs.eqB]
  | cons _ _ _ _ _=>simp[Fs.len] at h
 | cons op n ts sub r ihs ihr =>
  intro b h
  cases b with
  | nil=>simp[Fs.len] at h
  | cons op' n' ts' sub' r' =>
   simp only[Fs.len] at h
   rw[Fs.cmpE_lex]
   simp only[lex_zero,cmpS_eq,Ts.cmp_eq,Fs.eqB,Bool.and_eq_true,beq_iff_eq]
   constructor
   ·rintro⟨⟨h1,h2,h3,h4,h5⟩,h6⟩
    exact⟨⟨⟨⟨(cmpI_eq ..).1 h1,h2⟩,h3⟩,(ihs sub' (by have:=(cmpI_eq ..).1 h4;omega)).1 h5⟩,(ihr r' (by omega)).1 h6⟩
   ·rintro⟨⟨⟨⟨h1,h2⟩,h3⟩,h5⟩,h6⟩
    have e:=Fs.eqB_len h5
    exact⟨⟨(cmpI_eq ..).2 h1,h2,h3,(cmpI_eq ..).2 (by omega),(ihs sub' e).2 h5⟩,(ihr r' (by omega)).2 h6⟩
theorem cmpForm_eq (f g:FT):cmpForm f g=0↔f.eqB g=true:=by
 rw[cmpForm_lex]
 simp only[lex_zero,cmpS_eq,Ts.cmp_eq,FT.eqB,Bool.and_eq_true,beq_iff_eq]
 constructor
 ·rintro⟨h1,h2,h3,h4,h5⟩
  exact⟨⟨⟨(cmpI_eq ..).1 h1,h2⟩,h3⟩,(Fs.cmpE_eq _ _ (by have:=(cmpI_eq ..).1 h4;omega)).1 h5⟩
 ·rintro⟨⟨⟨h1,h2⟩,h3⟩,h5⟩
  have e:=Fs.eqB_len h5
  exact⟨(cmpI_eq ..).2 h1,h2,h3,(cmpI_eq ..).2 (by omega),(Fs.cmpE_eq _ _ e).2 h5⟩
end Go.Proofs.YtngdieldgnlogaaGreatDoor
