/- within: whether all symbols of a list stand in another one, in order. -/
import Derived.Test.YtngdieldgnlogaaDoorIO
namespace Go.Proofs.YtngdieldgnlogaaDoor
open Go Go.RowKit
set_option maxRecDepth 100000
set_option linter.unusedVariables false
def sameSy (x y : Sy) : Bool := x.1.toList == y.1.toList && x.2 == y.2
def withinB : List Sy → List Sy → Bool
  | [], _ => true
  | _ :: _, [] => false
  | x :: a, y :: r => if sameSy y x then withinB a (y :: r) else withinB (x :: a) r
termination_by a b => a.length + b.length
theorem neq46 (s t : ByteArray) (x y : Int) (w : World) : (binOp .neq 60 (.agg #[.string s, .int .i64 x]) (.agg #[.string t, .int .i64 y])).run Tryd.prog w = .ok (.bool (!sameSy (s, x) (t, y))) w := by
  go_simp
  unfold sameSy
  by_cases h1 : s.toList = t.toList
  · by_cases h2 : x = y <;> simp [h1, h2]
  · simp [h1]
set_option maxHeartbeats 4000000 in
theorem within_any (a b : List Sy) (va vb : Value) (w : World) (ha : SySl w a va) (hb : SySl w b vb) (hna : a.length ≤ 1000000) (hnb : b.length ≤ 1000000) :
    Calls Tryd.prog 19 #[va, vb] w fun e w' => e = .returned (.bool (withinB a b)) ∧ Below w.heap.size w w' := by
  obtain ⟨pa, ca, rfl, ha⟩ := ha
  obtain ⟨pb, cb, rfl, hb⟩ := hb
  have hah := Lib.hid ha
  have hbh := Lib.hid hb
  clear ha hb
  go_enter Tryd.func19, Tryd.ntmps19
  go_wp2
  go_loopw [5, 6] (fun s5 s6 wr => ∃ (a1 a2 b1 b2 : List Sy), s5 = .int .i64 (b1.length : Int) ∧ s6 = .int .i64 (a1.length : Int) ∧ a = a1 ++ a2 ∧ b = b1 ++ b2 ∧ withinB a b = withinB a2 b2 ∧ Below w.heap.size w wr) (fun _ s6 _ => a.length - (intOf s6).toNat)
  case atStart => exact ⟨[], a, [], b, rfl, rfl, rfl, rfl, rfl, Below.refl _ _⟩
  case round =>
    obtain ⟨a1, a2, b1, b2, rfl, rfl, hea, heb, hw, hbw⟩ := hrel
    have hbwh := Lib.hid hbw
    have hwh := Lib.hid hw
    have hal := congrArg List.length hea
    rw [List.length_append] at hal
    have heah := Lib.hid hea
    have hebh := Lib.hid heb
    obtain ⟨I, hI⟩ : ∃ I, a1.length = I := ⟨_, rfl⟩
    have hIh := Lib.hid hI
    rw [hI] at hal ⊢
    clear hbw hw hea heb hI
    cases a2 with
    | nil =>
      have hIa : I = a.length := by simpa using hal.symm
      have hfin : Hid (withinB a b = true) := Lib.hid (by rw [hwh.out, withinB])
      rw [hIa]
      clear hal hIa
      go_wp2
      go_ret
      rw [hfin.out]
      exact ⟨rfl, hbwh.out⟩
    | cons x a3 =>
      obtain ⟨xs, xn⟩ := x
      have hlt : (I : Int) < (a.length : Int) := by simp only [List.length_cons] at hal; omega
      have hI0 : (0 : Int) ≤ (I : Int) := by omega
      obtain ⟨ga, hpa, hsa⟩ := hah.out.resolve_left (by omega)
      subst hpa
      have hsah := Lib.hid hsa
      have hca := (by
        have h9 := hsa
        rw [heah.out] at h9
        have := (SyAt.parts h9).2
        rw [hIh.out, Nat.zero_add] at this
        exact Lib.hid this : Hid (SyAt w ((xs, xn) :: a3) ga (I * 2)))
      clear hsa hal
      go_wp2
      go_loopw [5] (fun s5 wv => ∃ (c1 c2 : List Sy), s5 = .int .i64 (c1.length : Int) ∧ b = c1 ++ c2 ∧ withinB ((xs, xn) :: a3) c2 = withinB a b ∧ Below w.heap.size w wv) (fun s5 _ => b.length - (intOf s5).toNat)
      case atStart => exact ⟨b1, b2, rfl, hebh.out, hwh.out.symm, hbwh.out⟩
      case round =>
        obtain ⟨c1, c2, rfl, hec, hwc, hbc⟩ := hrel
        have hbch := Lib.hid hbc
        have hwch := Lib.hid hwc
        have hbl := congrArg List.length hec
        rw [List.length_append] at hbl
        have hech := Lib.hid hec
        obtain ⟨J, hJ⟩ : ∃ J, c1.length = J := ⟨_, rfl⟩
        have hJh := Lib.hid hJ
        rw [hJ] at hbl ⊢
        clear hbc hwc hec hJ
        have hdr : ∀ n, Hid (Below w.heap.size w (wr.drewN n)) := fun n => Lib.hid (bel_step hbch.out (bel_drewN' wr n))
        cases c2 with
        | nil =>
          have hJb : J = b.length := by simpa using hbl.symm
          have hfin : Hid (withinB a b = false) := Lib.hid (by rw [← hwch.out, withinB])
          rw [hJb]
          clear hbl hJb hlt hI0
          go_wp2
          go_quiet (fail)
          go_wp2
          go_ret
          rw [hfin.out]
          exact ⟨rfl, (hdr _).out⟩
        | cons y c3 =>
          obtain ⟨ys, yn⟩ := y
          have hJlt : (J : Int) < (b.length : Int) := by simp only [List.length_cons] at hbl; omega
          have hJ0 : (0 : Int) ≤ (J : Int) := by omega
          have hjn : Hid (J + 1 + c3.length = b.length) := Lib.hid (by simp only [List.length_cons] at hbl; omega)
          obtain ⟨gb, hpb, hsb⟩ := hbh.out.resolve_left (by omega)
          subst hpb
          have hcb := (SyAt.parts (hech.out ▸ hsb : SyAt w (c1 ++ (ys, yn) :: c3) gb 0)).2
          rw [hJh.out, Nat.zero_add] at hcb
          have d0 := cell_below hbch.out hcb.1
          have d1 := cell_below hbch.out hcb.2.1
          have c0 := cell_below hbch.out hca.out.1
          have c1' := cell_below hbch.out hca.out.2.1
          have hjw : IntKind.i64.wrap ((J : Int) + 1) = (J : Int) + 1 := IntWalk.i64_in _ (by omega)
          have hne : ¬ (J : Int) = (b.length : Int) := by omega
          clear hsb hcb hbl
          cases hq : sameSy (ys, yn) (xs, xn) with
          | true =>
            have hq' : Hid (sameSy (ys, yn) (xs, xn) = true) := Lib.hid hq
            have e1 : ys.toList = xs.toList := by simp [sameSy] at hq; exact hq.1
            have e2 : yn = xn := by simp [sameSy] at hq; exact hq.2
            clear hq
            subst e2
            go_wp2
            go_quiet (fail)
            go_wp2
            refine ⟨⟨a1 ++ [(xs, yn)], a3, c1, (ys, yn) :: c3, by rw [hJh.out], by rw [List.length_append, hIh.out]; simp, by rw [heah.out]; simp, hech.out, ?_, (hdr _).out⟩, by simp [intOf]; omega⟩
            rw [← hwch.out, withinB, if_pos hq'.out]
          | false =>
            have hq' : Hid (sameSy (ys, yn) (xs, xn) = false) := Lib.hid hq
            have hst : Hid (withinB ((xs, xn) :: a3) c3 = withinB a b) := Lib.hid (by rw [← hwch.out, withinB, hq, if_neg (by decide)])
            by_cases e1 : ys.toList = xs.toList
            · have e2 : ¬ yn = xn := fun e => by simp [sameSy, e1, e] at hq
              clear hq
              go_wp2
              go_quiet (fail)
              go_wp2
              go_roundw
              case rel => exact ⟨c1 ++ [(ys, yn)], c3, by rw [List.length_append, hJh.out]; simp, by rw [hech.out]; simp, hst.out, (hdr _).out⟩
              case measure => have := hjn.out; simp [intOf]; omega
            · clear hq
              go_wp2
              go_quiet (fail)
              go_wp2
              go_roundw
              case rel => exact ⟨c1 ++ [(ys, yn)], c3, by rw [List.length_append, hJh.out]; simp, by rw [hech.out]; simp, hst.out, (hdr _).out⟩
              case measure => have := hjn.out; simp [intOf]; omega
end Go.Proofs.YtngdieldgnlogaaDoor
