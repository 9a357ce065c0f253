/- The reference's comparison of terms. -/
import Derived.Test.YtpcjpdfigkcojaaDoorMP
import Derived.Test.YtpcjpdfigkcojaaDoorD7
import Derived.Deep.RegionHeld3
namespace Go.Proofs.YtpcjpdfigkcojaaDoor
open Go Go.RowKit
set_option maxRecDepth 100000
set_option linter.unusedVariables false
theorem refStr_any (x y : ByteArray) (w : World) : Calls Tryd.prog 79 #[.string x, .string y] w fun e w' => e = .returned (.int .i64 (cmpS x y)) ∧ w = w' := by
  cases h1 : Op.bytesLess x.toList y.toList with
  | true =>
    have hd : cmpS x y = -1 := by simp [cmpS, h1]
    rw [hd]
    clear hd
    go_enter Tryd.func79, Tryd.ntmps79
    go_wp2
    go_ret
    exact ⟨rfl, rfl⟩
  | false =>
    cases h2 : (x.toList == y.toList) with
    | true =>
      have hd : cmpS x y = 0 := by simp only [cmpS, h1, h2]; rfl
      rw [hd]
      clear hd
      go_enter Tryd.func79, Tryd.ntmps79
      go_wp2
      go_ret
      exact ⟨rfl, rfl⟩
    | false =>
      have hd : cmpS x y = 1 := by simp only [cmpS, h1, h2]; rfl
      rw [hd]
      clear hd
      go_enter Tryd.func79, Tryd.ntmps79
      go_wp2
      go_ret
      exact ⟨rfl, rfl⟩
def RefTerm (ts : Ts) : Prop := ∀ (v : Bool) (n : ByteArray) (sa : Value) (v' : Bool) (n' : ByteArray) (ts' : Ts) (sb : Value) (w : World), TSl w ts sa → TSl w ts' sb → ts.size ≤ 1000000 → ts'.size ≤ 1000000 →
  Calls Tryd.prog 81 #[.agg #[.bool v, .string n, sa], .agg #[.bool v', .string n', sb]] w fun e w' => e = .returned (.int .i64 (cmpTerm v n ts v' n' ts')) ∧ Below w.heap.size w w'
set_option maxHeartbeats 2000000 in
theorem refLT_any (a : Ts) (ih : ∀ t : Ts, t.size < a.size → RefTerm t) (b : Ts) (sa sb : Value) (w : World) (ha : TSl w a sa) (hb : TSl w b sb) (hs : a.size ≤ 1000000) (hs' : b.size ≤ 1000000) :
    Calls Tryd.prog 80 #[sa, sb] w fun e w' => e = .returned (.int .i64 (a.cmp b)) ∧ Below w.heap.size w w' := by
  obtain ⟨p, c, ba, oa, rfl, hpa, hta⟩ := TSl.opened ha
  obtain ⟨p', c', bb, ob, rfl, hpb, htb⟩ := TSl.opened hb
  by_cases hl : a.len = b.len
  rotate_left
  · rcases Nat.lt_or_gt_of_ne hl with h1 | h1
    · have hq : cmpI a.len b.len = -1 := by unfold cmpI; rw [if_pos (by omega)]
      have hr : a.cmp b = -1 := by rw [Ts.cmp, hq]; rfl
      have g1 : (a.len : Int) < (b.len : Int) := by omega
      rw [hr]
      clear hr hq hl
      go_enter Tryd.func80, Tryd.ntmps80
      go_wp2_with fail
      go_ret
      exact ⟨rfl, Below.refl _ _⟩
    · have hq : cmpI a.len b.len = 1 := by unfold cmpI; rw [if_neg (by omega), if_pos (by omega)]
      have hr : a.cmp b = 1 := by rw [Ts.cmp, hq]; rfl
      have g1 : (b.len : Int) < (a.len : Int) := by omega
      have g2 : ¬ (a.len : Int) < (b.len : Int) := by omega
      have g3 : decide (a.len < b.len) = false := decide_eq_false (by omega)
      rw [hr]
      clear hr hq hl
      go_enter Tryd.func80, Tryd.ntmps80
      go_wp2_with fail
      go_ret
      exact ⟨rfl, Below.refl _ _⟩
  have hz : cmpI a.len b.len = 0 := by rw [hl]; simp [cmpI]
  have hr : a.cmp b = a.cmpE b := by rw [Ts.cmp, if_pos hz]
  have g2 : ¬ (a.len : Int) < (b.len : Int) := by omega
  have g3 : ¬ (b.len : Int) < (a.len : Int) := by omega
  have g4 : decide (a.len < b.len) = false := decide_eq_false (by omega)
  have g5 : decide (b.len < a.len) = false := decide_eq_false (by omega)
  rw [hr]
  clear hr hz
  obtain ⟨rr, hrr⟩ : ∃ rr, a.cmpE b = rr := ⟨_, rfl⟩
  rw [hrr]
  replace hrr := Lib.hid hrr
  replace hl := Lib.hid hl
  have hlen := a.len_le
  go_enter Tryd.func80, Tryd.ntmps80
  go_wp2_with fail
  clear g2 g3 g4 g5
  go_loopw [5] (fun i wr => ∃ (k : Nat) (x y : Ts), i = .int .i64 k ∧ k + x.len = a.len ∧ k + y.len = b.len ∧ x.size ≤ a.size ∧ y.size ≤ b.size ∧ TsAt w x ba (oa + k * 3) ∧ TsAt w y bb (ob + k * 3) ∧ x.cmpE y = rr ∧ Below w.heap.size w wr) (fun i _ => a.len - (intOf i).toNat)
  case atStart => exact ⟨0, a, b, rfl, by omega, by omega, Nat.le_refl _, Nat.le_refl _, by simpa using hta, by simpa using htb, hrr.out, Below.refl _ _⟩
  case round =>
    obtain ⟨k, x, y, rfl, hkx, hky, hxs, hys, hax, hay, hsm, hbw⟩ := hrel
    replace hsm := Lib.hid hsm
    replace hkx := Lib.hid hkx
    replace hky := Lib.hid hky
    cases x with
    | nil =>
      have hk' : k = a.len := by have := hkx.out; simp only [Ts.len] at this; omega
      have : rr = 0 := by rw [← hsm.out]; rfl
      subst this
      subst hk'
      clear hkx hky
      go_wp2_with fail
      go_ret
      exact ⟨rfl, hbw⟩
    | cons v n t x' =>
      cases y with
      | nil => exfalso; have := hky.out; have := hkx.out; have := hl.out; simp only [Ts.len] at *; omega
      | cons v2 n2 t2 y' =>
        obtain ⟨c0, c1, ⟨s, c2, hs2⟩, hax'⟩ := hax
        obtain ⟨d0, d1, ⟨s', d2, hs2'⟩, hay'⟩ := hay
        have hlt : (k : Int) < (a.len : Int) := by have := hkx.out; simp only [Ts.len] at this; omega
        have hlt2 : (k : Int) < (b.len : Int) := by have := hky.out; simp only [Ts.len] at this; omega
        rcases hpa with hpa | hpa
        · omega
        subst hpa
        rcases hpb with hpb | hpb
        · omega
        subst hpb
        simp only [Ts.size] at hxs hys
        have htz : t.size < a.size ∧ t.size ≤ 1000000 ∧ t2.size ≤ 1000000 := by omega
        have hK : KTT t t2 s s' w wr := ⟨hbw, TSl.below hbw hs2, TSl.below hbw hs2'⟩
        obtain ⟨ps, cs, rfl, -⟩ := hs2
        obtain ⟨ps', cs', rfl, -⟩ := hs2'
        replace c0 := cell_below hbw c0
        replace c1 := cell_below hbw c1
        replace c2 := cell_below hbw c2
        replace d0 := cell_below hbw d0
        replace d1 := cell_below hbw d1
        replace d2 := cell_below hbw d2
        have hdef := hsm.out
        rw [cmpE_cons] at hdef
        have ih' := ih t htz.1
        obtain ⟨q, hq⟩ : ∃ q, cmpTerm v n t v2 n2 t2 = q := ⟨_, rfl⟩
        have HC := Lib.hid (fun V (hV : V.cell? ⟨ba, oa + k * 3, none⟩ = some (.bool v) ∧ V.cell? ⟨ba, oa + k * 3 + 1, none⟩ = some (.string n) ∧ V.cell? ⟨ba, oa + k * 3 + 2, none⟩ = some (.slice ps t.len cs) ∧ V.cell? ⟨bb, ob + k * 3, none⟩ = some (.bool v2) ∧ V.cell? ⟨bb, ob + k * 3 + 1, none⟩ = some (.string n2) ∧ V.cell? ⟨bb, ob + k * 3 + 2, none⟩ = some (.slice ps' t2.len cs') ∧ KTT t t2 (.slice ps t.len cs) (.slice ps' t2.len cs') w V) =>
          (ih' v n _ v2 n2 t2 _ V hV.2.2.2.2.2.2.2.1 hV.2.2.2.2.2.2.2.2 htz.2.1 htz.2.2).mono (fun e w' (he : e = .returned (.int .i64 (cmpTerm v n t v2 n2 t2)) ∧ Below V.heap.size V w') =>
            show e = .returned (.int .i64 q) ∧ (w'.cell? ⟨ba, oa + k * 3, none⟩ = some (.bool v) ∧ w'.cell? ⟨ba, oa + k * 3 + 1, none⟩ = some (.string n) ∧ w'.cell? ⟨ba, oa + k * 3 + 2, none⟩ = some (.slice ps t.len cs) ∧ w'.cell? ⟨bb, ob + k * 3, none⟩ = some (.bool v2) ∧ w'.cell? ⟨bb, ob + k * 3 + 1, none⟩ = some (.string n2) ∧ w'.cell? ⟨bb, ob + k * 3 + 2, none⟩ = some (.slice ps' t2.len cs') ∧ KTT t t2 (.slice ps t.len cs) (.slice ps' t2.len cs') w w') from
            ⟨by rw [he.1, hq], cell_below he.2 hV.1, cell_below he.2 hV.2.1, cell_below he.2 hV.2.2.1, cell_below he.2 hV.2.2.2.1, cell_below he.2 hV.2.2.2.2.1, cell_below he.2 hV.2.2.2.2.2.1, hV.2.2.2.2.2.2.next he.2⟩))
        rw [hq] at hdef
        replace hdef := Lib.hid hdef
        have hKd : KTT t t2 (.slice ps t.len cs) (.slice ps' t2.len cs') w wr.drew := hK.next (bel_drew wr)
        clear ih ih' hsm hK hq ha hb
        go_wp2_with fail
        go_region_held3 (fun V => V.cell? ⟨ba, oa + k * 3, none⟩ = some (.bool v) ∧ V.cell? ⟨ba, oa + k * 3 + 1, none⟩ = some (.string n) ∧ V.cell? ⟨ba, oa + k * 3 + 2, none⟩ = some (.slice ps t.len cs) ∧ V.cell? ⟨bb, ob + k * 3, none⟩ = some (.bool v2) ∧ V.cell? ⟨bb, ob + k * 3 + 1, none⟩ = some (.string n2) ∧ V.cell? ⟨bb, ob + k * 3 + 2, none⟩ = some (.slice ps' t2.len cs') ∧ KTT t t2 (.slice ps t.len cs) (.slice ps' t2.len cs') w V) (first | assumption | exact ⟨c0, c1, c2, d0, d1, d2, hKd⟩)
          (first
            | (go_at_call 81; refine (HC.out _ (by assumption)).mono ?_; rintro e w' ⟨rfl, hSS⟩))
        have hbl := hSS.2.2.2.2.2.2.1
        clear hSS
        by_cases hq0 : q = 0
        · subst hq0
          have hd2 := Lib.hid (show x'.cmpE y' = rr by rw [← hdef.out, if_pos rfl])
          clear hdef c0 c1 c2 d0 d1 d2 hKd HC
          go_wp2_with fail
          go_roundw
          case rel =>
            refine ⟨k + 1, x', y', by go_num, by have := hkx.out; simp only [Ts.len] at this; omega, by have := hky.out; simp only [Ts.len] at this; omega, by omega, by omega, ?_, ?_, hd2.out, hbl⟩
            · rwa [show oa + (k + 1) * 3 = oa + k * 3 + 3 by omega]
            · rwa [show ob + (k + 1) * 3 = ob + k * 3 + 3 by omega]
          case measure => simp [intOf]; omega
        · have hq1 : (q != 0) = true := bne_iff_ne.2 hq0
          have : rr = q := by rw [← hdef.out, if_neg hq0]
          subst this
          clear hdef c0 c1 c2 d0 d1 d2 hKd HC hrr hq0
          go_wp2_with fail
          go_ret
          exact ⟨rfl, hbl⟩
set_option maxHeartbeats 2000000 in
theorem refTerm_any (ts : Ts) : RefTerm ts := by
  intro v n sa v' n' ts' sb w ha hb hs hs'
  have hC := Lib.hid (refLT_any ts (fun t _ => refTerm_any t) ts')
  have hS := Lib.hid (refStr_any n n')
  obtain ⟨p, c, hse, -⟩ := id ha
  subst hse
  obtain ⟨p', c', hse, -⟩ := id hb
  subst hse
  have hbl := bel_step (bel_laid w (.cells #[.bool v, .string n, .slice p ts.len c] 50)) (bel_laid (w.alloc (.cells #[.bool v, .string n, .slice p ts.len c] 50)) (.cells #[.bool v', .string n', .slice p' ts'.len c'] 50))
  have ha2 := Lib.hid (TSl.below hbl ha)
  have hb2 := Lib.hid (TSl.below hbl hb)
  clear ha hb
  by_cases hv : v = v'
  rotate_left
  · have hv1 : (v != v') = true := bne_iff_ne.2 hv
    have hd : cmpTerm v n ts v' n' ts' = if v then -1 else 1 := by rw [cmpTerm, if_neg hv]
    rw [hd]
    cases v with
    | true =>
      simp only [if_true]
      obtain rfl : v' = false := by cases v' <;> simp_all
      clear hd hv hv1
      go_enter Tryd.func81, Tryd.ntmps81
      go_wp2_with fail
      go_ret
      exact ⟨rfl, hbl⟩
    | false =>
      simp only [Bool.false_eq_true, if_false]
      obtain rfl : v' = true := by cases v' <;> simp_all
      clear hd hv hv1
      go_enter Tryd.func81, Tryd.ntmps81
      go_wp2_with fail
      go_ret
      exact ⟨rfl, hbl⟩
  subst hv
  have hv1 : (v != v) = false := by simp
  by_cases hz : cmpS n n' = 0
  rotate_left
  · have hz1 : (n.toList == n'.toList) = false := beq_eq_false_iff_ne.2 (fun e => hz ((cmpS_eq n n').2 e))
    have hd : cmpTerm v n ts v n' ts' = cmpS n n' := by rw [cmpTerm, if_pos rfl, if_neg hz]
    rw [hd]
    clear hd hz
    generalize cmpS n n' = q at hS hz1 ⊢
    go_enter Tryd.func81, Tryd.ntmps81
    go_wp2_with (go_at_call 79; refine (hS.out _).mono ?_; rintro e w1 ⟨rfl, rfl⟩)
    go_ret
    exact ⟨rfl, hbl⟩
  have hd : cmpTerm v n ts v n' ts' = ts.cmp ts' := by rw [cmpTerm, if_pos rfl, if_pos hz]
  rw [hd]
  have hz1 : (n.toList == n'.toList) = true := beq_iff_eq.2 ((cmpS_eq n n').1 hz)
  clear hd hz hS
  generalize ts.cmp ts' = q at hC ⊢
  go_enter Tryd.func81, Tryd.ntmps81
  go_wp2_with (first
    | (go_at_call 80; refine (hC.out _ _ _ ha2.out hb2.out hs hs').mono ?_; rintro e w2 ⟨rfl, hb3⟩))
  go_ret
  exact ⟨rfl, bel_step hbl hb3⟩
termination_by ts.size
end Go.Proofs.YtpcjpdfigkcojaaDoor
