/- The walk of FormWrong. -/
import Derived.Test.YtngdieldgnlogaaDoorFR
import Derived.Test.YtngdieldgnlogaaDoorFY
import Derived.Test.YtngdieldgnlogaaDoorUS
import Derived.Test.YtngdieldgnlogaaDoorMY
import Derived.Test.YtngdieldgnlogaaDoorSW
namespace Go.Proofs.YtngdieldgnlogaaDoor
open Go Go.RowKit
set_option maxRecDepth 100000
set_option linter.unusedVariables false
theorem one_list {f : FT} {p q : Option Addr} {a b : Nat} {W : World} (hv : FVal W f (fval f (.slice p f.ts.len a) (.slice q f.sub.len b))) (t : TypeId) :
    FSl (W.alloc (.cells #[.int .u8 f.op, .string f.n, .slice p f.ts.len a, .slice q f.sub.len b] t)) (.cons f.op f.n f.ts f.sub .nil) (.slice (some ⟨W.heap.size, 0, none⟩) 1 1) := by
  have cN := fun i => cell_new W #[.int .u8 f.op, .string f.n, .slice p f.ts.len a, .slice q f.sub.len b] t i
  have b5 := bel_laid W (.cells #[.int .u8 f.op, .string f.n, .slice p f.ts.len a, .slice q f.sub.len b] t)
  obtain ⟨_, _, e, t1, t2⟩ := hv
  simp at e
  obtain ⟨rfl, rfl⟩ := e
  exact ⟨_, _, rfl, .inr ⟨_, _, rfl, cN 0, cN 1, ⟨_, cN 2, TSl.below b5 t1⟩, ⟨_, cN 3, FSl.below b5 t2⟩, trivial⟩⟩
def ints (l : List Int) : List Value := l.map fun i => .int .i64 i
theorem row_list {W : World} {z : Nat} {s : Value} {l : List Int} (h : W.ownsRow z 3 1 s l.length (ints l)) : LSl W l s := by
  obtain ⟨h0, ⟨rfl, hz⟩ | ⟨g, cap, cur, rfl, hg, h3, h4⟩⟩ := id h
  · exact ⟨none, 0, by rw [hz], .inl hz⟩
  · refine ⟨_, _, rfl, .inr ⟨g, 0, rfl, ?_⟩⟩
    have hall : ∀ (r : List Int) (k : Nat), (∀ j (hj : j < r.length), W.cell? ⟨g, k + j, none⟩ = some (.int .i64 r[j])) → LsAt W r g k := by
      intro r
      induction r with
      | nil => intro k _; trivial
      | cons x r ih =>
        intro k hj
        refine ⟨by have h9 := hj 0 (by simp); rw [Nat.add_zero] at h9; exact h9, ih (k + 1) fun j hj' => ?_⟩
        have := hj (j + 1) (by simpa using hj')
        rw [show k + 1 + j = k + (j + 1) by omega]
        simpa using this
    refine hall l 0 fun j hj => ?_
    rw [Nat.zero_add, h.cellAt j (by omega)]
    simp [ints, hj]
set_option maxHeartbeats 100000000 in
theorem formWrong_walk (f : FT) (mm kk : Int) (va : Value) (w : World) (hrw : Rws w) (hva : FVal w f va) (hm0 : 0 ≤ mm ∧ mm ≤ 65535) (hk0 : 0 ≤ kk ∧ kk ≤ 255) (hwt : f.wt ≤ 1500000) :
    Calls Tryd.prog 6 #[va, .int .u16 mm, .int .u8 kk] w fun e w' => e = .returned (.bool true) ∧ Below w.heap.size w w' := by
  have HA := Lib.hid (fun V hr => awake_any V hr)
  have hrwh := Lib.hid hrw
  clear hrw
  obtain ⟨sa, ua, rfl, ha, hua⟩ := id hva
  obtain ⟨pa, ca, rfl, -⟩ := id ha
  obtain ⟨qa, da, rfl, -⟩ := id hua
  clear ha hua
  have hst := FS.start (t := 25) hva
  have k1h := Lib.hid hst
  obtain ⟨W1, hW1⟩ : ∃ W1, w.alloc (.cells #[.int .u8 f.op, .string f.n, .slice pa f.ts.len ca, .slice qa f.sub.len da] 25) = W1 := ⟨_, rfl⟩
  rw [hW1] at k1h
  obtain ⟨g, hg⟩ : ∃ g, w.heap.size = g := ⟨_, rfl⟩
  have hgh := Lib.hid hg
  rw [hg] at k1h
  obtain ⟨mn, rfl⟩ : ∃ n : Nat, mm = n := ⟨mm.toNat, by omega⟩
  have hmn : mn ≤ 65535 := by omega
  clear hst hva hm0
  go_enter Tryd.func6, Tryd.ntmps6
  go_wp2_with fail
  refine (HA.out W1 (hrwh.out.of k1h.out.2.2.2.2.1)).mono ?_
  rintro e w3 ⟨rfl, hb3⟩
  have k1h := Lib.hid (k1h.out.next hb3)
  clear hb3 HA hg hW1
  obtain ⟨c10, c11, c12, c13, -⟩ := k1h.out
  go_wp2_with fail
  refine (small_any _ _ _ (one_list k1h.out.val 25) (by simp only [FT.wt] at hwt; simp only [Fs.wt]; omega)).mono ?_
  rintro e w4 ⟨rfl, hb4⟩
  have k1h := Lib.hid (k1h.out.next (bel_step (bel_laid w3 _) hb4))
  clear hb4 c10 c11 c12 c13
  cases hsm : Fs.small (.cons f.op f.n f.ts f.sub .nil)
  · go_wp2_with fail
    go_ret
    exact ⟨rfl, k1h.out.2.2.2.2.1⟩
  have hsz := Fs.small_size hsm
  simp only [Fs.size] at hsz
  have hfz : f.size = f.ts.size + f.sub.size + 1 := rfl
  have s1 : f.size ≤ 1000 := by omega
  clear hsm hsz hfz hwt
  have HR := Lib.hid (right_any f (by omega) _ w4 (hrwh.out.of k1h.out.2.2.2.2.1) k1h.out.val)
  obtain ⟨c10, c11, c12, c13, -⟩ := k1h.out
  cases hright : (f.fits && f.right false) with
  | false =>
    rw [hright] at HR
    clear hright
    go_wp2_with fail
    refine HR.out.mono ?_
    rintro e w5 ⟨rfl, hb5⟩
    have hfin := Lib.hid (bel_step k1h.out.2.2.2.2.1 hb5)
    clear HR hb5 c10 c11 c12 c13
    go_wp2_with fail
    go_ret
    exact ⟨rfl, hfin.out⟩
  | true =>
  rw [hright] at HR
  rw [Bool.and_eq_true] at hright
  obtain ⟨hfits, hfr⟩ := hright
  have hfitsh := Lib.hid hfits
  have hfrh := Lib.hid hfr
  clear hfits hfr
  go_wp2_with fail
  refine HR.out.mono ?_
  rintro e w5 ⟨rfl, hb5⟩
  have k1h := Lib.hid (k1h.out.next hb5)
  clear HR hb5 c10 c11 c12 c13
  obtain ⟨c10, c11, c12, c13, -⟩ := k1h.out
  have hbx := bel_laid w5 (.cells #[.int .u8 f.op, .string f.n, .slice pa f.ts.len ca, .slice qa f.sub.len da] 25)
  have hnc := cell_new w5 #[.int .u8 f.op, .string f.n, .slice pa f.ts.len ca, .slice qa f.sub.len da] 25
  have hnF := Free.lit w5 #[.int .u8 f.op, .string f.n, .slice pa f.ts.len ca, .slice qa f.sub.len da] 25
  obtain ⟨w6, hw6⟩ : ∃ w6, w5.alloc (.cells #[.int .u8 f.op, .string f.n, .slice pa f.ts.len ca, .slice qa f.sub.len da] 25) = w6 := ⟨_, rfl⟩
  rw [hw6] at hbx hnc hnF
  have hs6 : w6.heap.size = w5.heap.size + 1 := by rw [← hw6]; exact World.size_alloc _ _
  obtain ⟨b8, hb8⟩ : ∃ b8, w5.heap.size = b8 := ⟨_, rfl⟩
  have hb8h := Lib.hid hb8
  rw [hb8] at hnc hnF hs6
  have z0 := Lib.hid (show Wc w6 b8 0 (.int .u8 f.op) from ⟨hnc 0, (hnF 0 (by simp)).2⟩)
  have z1 := Lib.hid (show Wc w6 b8 1 (.string f.n) from ⟨hnc 1, (hnF 1 (by simp)).2⟩)
  have z2 := Lib.hid (show Wc w6 b8 2 (.slice pa f.ts.len ca) from ⟨hnc 2, (hnF 2 (by simp)).2⟩)
  have z3 := Lib.hid (show Wc w6 b8 3 (.slice qa f.sub.len da) from ⟨hnc 3, (hnF 3 (by simp)).2⟩)
  have hw : IntKind.i64.wrap (mn : Int) = (mn : Int) := IntWalk.i64_in _ (by omega)
  have hbxh := Lib.hid hbx
  have hs6h := Lib.hid hs6
  clear hnc hnF hbx hs6
  go_wp2_with fail
  go_loopw [7, 9, 10] (fun s7 s9 s10 wr => ∃ (l : List Int) (o : FT) (n : Nat) (p q : Option Addr) (a b : Nat), s9 = .int .i64 n ∧ l.length + n ≤ 65535 ∧ f.part l = some o ∧ wr.ownsRow (b8 + 1) 3 1 s7 l.length (ints l) ∧ FVal w5 o (fval o (.slice p o.ts.len a) (.slice q o.sub.len b)) ∧
    Wc wr b8 0 (.int .u8 o.op) ∧ Wc wr b8 1 (.string o.n) ∧ Wc wr b8 2 (.slice p o.ts.len a) ∧ Wc wr b8 3 (.slice q o.sub.len b) ∧ Below w5.heap.size w5 wr) (fun _ s9 _ _ => (intOf s9).toNat)
  case atStart => exact ⟨[], f, mn, pa, qa, ca, da, rfl, by simpa using hmn, rfl, World.ownsRow_nil _ _ _ _, k1h.out.val, z0.out, z1.out, z2.out, z3.out, hbxh.out⟩
  case round =>
    obtain ⟨l, o, n, p, q, a, b, rfl, hln, hpt, hown, hvo, y0, y1, y2, y3, hbw⟩ := hrel
    have x0 := y0.1
    have x1 := y1.1
    have x2 := y2.1
    have x3 := y3.1
    have hpth := Lib.hid hpt
    have hownh := Lib.hid hown
    have hvoh := Lib.hid hvo
    have y0h := Lib.hid y0
    have y1h := Lib.hid y1
    have y2h := Lib.hid y2
    have y3h := Lib.hid y3
    have hbwh := Lib.hid hbw
    clear hpt hown hvo y0 y1 y2 y3 hbw c10 c11 c12 c13 hw6 hb8 z0 z1 z2 z3
    by_cases hl0 : o.sub.len = 0
    · have g1 : ¬ (0 : Int) < (o.sub.len : Int) := by omega
      clear hl0
      have HC := Lib.hid (copyFs_any o _ wr (FVal.below hbwh.out hvoh.out) (by have := Fs.part_size l f o hpth.out; omega))
      go_wp2_with fail
      refine HC.out.mono ?_
      rintro e w7 ⟨⟨v', rfl, hvr⟩, hb7⟩
      obtain ⟨p9, n9, p8, n8, za, zb, xs9, rfl, hza, hzb, hzs, hown9, hlt9, hrow9, hG9⟩ := hvr
      have hT7 := Lib.hid (show TSl w7 o.ts (.slice p9 o.ts.len n9) from CRow.own (W := w7) (lo := za) ⟨_, hown9, hrow9.impLo fun b o' y hb hc hn => ⟨(hideR_cell hc).2, hn⟩⟩ |>.at)
      have hF7 := Lib.hid hG9.own.at
      have hownH := Lib.hid hown9
      have hltH := Lib.hid hlt9
      have hrowH := Lib.hid hrow9
      have hGH := Lib.hid hG9
      have hb78 := bel_laid w7 (.cells #[.int .u8 o.op, .string o.n, .slice p9 o.ts.len n9, .slice p8 o.sub.len n8] 25)
      have hnc := cell_new w7 #[.int .u8 o.op, .string o.n, .slice p9 o.ts.len n9, .slice p8 o.sub.len n8] 25
      have hnF := Free.lit w7 #[.int .u8 o.op, .string o.n, .slice p9 o.ts.len n9, .slice p8 o.sub.len n8] 25
      obtain ⟨w8, hw8⟩ : ∃ w8, w7.alloc (.cells #[.int .u8 o.op, .string o.n, .slice p9 o.ts.len n9, .slice p8 o.sub.len n8] 25) = w8 := ⟨_, rfl⟩
      rw [hw8] at hb78 hnc hnF
      obtain ⟨b11, hb11⟩ : ∃ b11, w7.heap.size = b11 := ⟨_, rfl⟩
      rw [hb11] at hnc hnF
      have Y0 : Wc w8 b11 0 (.int .u8 o.op) := ⟨hnc 0, (hnF 0 (by simp)).2⟩
      have Y1 : Wc w8 b11 1 (.string o.n) := ⟨hnc 1, (hnF 1 (by simp)).2⟩
      have Y2 : Wc w8 b11 2 (.slice p9 o.ts.len n9) := ⟨hnc 2, (hnF 2 (by simp)).2⟩
      have Y3 : Wc w8 b11 3 (.slice p8 o.sub.len n8) := ⟨hnc 3, (hnF 3 (by simp)).2⟩
      have hX8 := Lib.hid (bel_step hb7 hb78)
      have h78 := Lib.hid hb78
      have hb11w : w7.heap.size ≤ b11 := by omega
      have hb11r : wr.heap.size ≤ b11 := by have := hb7.size; omega
      clear HC hb7 hb78 hnc hnF hown9 hlt9 hrow9 hG9 x0 x1 x2 x3
      go_upto_region 13 with fail
      clear hw8 hb11
      rcases show kk % 8 = 0 ∨ kk % 8 = 1 ∨ kk % 8 = 2 ∨ kk % 8 = 3 ∨ kk % 8 = 4 ∨ kk % 8 = 5 ∨ kk % 8 = 6 ∨ kk % 8 = 7 by omega with hr | hr | hr | hr | hr | hr | hr | hr
      · have zz := Y0.1
        have ff := Y0.2
        have yy0 := Y0.1
        have yy1 := Y1.1
        go_upto_region 29 with fail
        obtain ⟨w9, hw9⟩ : ∃ w9, w8.setCell ⟨b11, 0, none⟩ (.int .u8 0) = w9 := ⟨_, rfl⟩
        rw [hw9]
        have hX9 : Below wr.heap.size wr w9 := by rw [← hw9]; exact hX8.out.setCell (p := ⟨b11, _, none⟩) hb11r _
        have h79 : Below w7.heap.size w7 w9 := by rw [← hw9]; exact h78.out.setCell (p := ⟨b11, _, none⟩) hb11w _
        have hbad : Hid (FVal w9 (o.bad 0) (.agg #[.int .u8 0, .string o.n, .slice p9 o.ts.len n9, .slice p8 o.sub.len n8])) := Lib.hid ⟨_, _, rfl, TSl.below h79 hT7.out, FSl.below h79 hF7.out⟩
        have e0 : w9.cell? ⟨b11, 0, none⟩ = some (.int .u8 0) := by rw [← hw9]; exact set_on zz
        have e1 : w9.cell? ⟨b11, 1, none⟩ = some (.string o.n) := by rw [← hw9]; exact (by rw [set_off (.inr (by omega))]; exact yy1)
        have e2 : w9.cell? ⟨b11, 2, none⟩ = some (.slice p9 o.ts.len n9) := by rw [← hw9, set_off (.inr (by omega))]; exact Y2.1
        have e3 : w9.cell? ⟨b11, 3, none⟩ = some (.slice p8 o.sub.len n8) := by rw [← hw9, set_off (.inr (by omega))]; exact Y3.1
        clear zz ff yy0 yy1 Y0 Y1 Y2 Y3 hw9 h79
        obtain ⟨h, hput, shz, hrf, hrt, hbz⟩ := FT.bad_put hpth.out hfrh.out s1 0
        have hputh := Lib.hid hput
        have hrth := Lib.hid hrt
        have hbw9 := bel_step hbwh.out hX9
        have hk9 := Lib.hid (k1h.out.next hbw9)
        have HCW := Lib.hid (with_some f (o.bad 0) h l hputh.out _ _ _ w9 hk9.out.val hbad.out (LSl.below hX9 (row_list hownh.out)) (by omega) (by omega) hbz)
        obtain ⟨c10, c11, c12, c13, -⟩ := hk9.out
        clear hput hrt hbw9 hX9
        go_wp2_with fail
        refine HCW.out.mono ?_
        rintro e wa ⟨⟨q1, m1, q2, m2, rfl, hvh⟩, hba⟩
        obtain ⟨wb, hwb, hbb, kh⟩ := box_of (w := w) (bel_step hk9.out.2.2.2.2.1 hba) hvh 25
        have khh := Lib.hid kh
        have hRh := Lib.hid (right_any h shz _ wb (hrwh.out.of kh.2.2.2.2.1) kh.val)
        rw [hrf] at hRh
        clear HCW hba hbb kh hvh c10 c11 c12 c13 e0 e1 e2 e3 hrf
        obtain ⟨c10, c11, c12, c13, -⟩ := khh.out
        go_wp2_with fail
        refine hRh.out.mono ?_
        rintro e wc ⟨rfl, hbc⟩
        have khh := Lib.hid (khh.out.next hbc)
        have hSh := Lib.hid (schema_any h shz _ wc (hrwh.out.of khh.out.2.2.2.2.1) khh.out.val)
        clear hRh hbc c10 c11 c12 c13 hwb
        obtain ⟨c10, c11, c12, c13, -⟩ := khh.out
        obtain ⟨sb, hsb⟩ : ∃ sb, (h.fits && h.right true) = sb := ⟨_, rfl⟩
        rw [hsb] at hSh
        clear hsb
        go_wp2_with fail
        refine hSh.out.mono ?_
        rintro e wd ⟨rfl, hbd⟩
        have hfin := Lib.hid (bel_step khh.out.2.2.2.2.1 hbd)
        clear hSh hbd c10 c11 c12 c13
        cases sb
        · go_wp2_with fail
          go_ret
          exact ⟨rfl, hfin.out⟩
        · go_wp2_with fail
          go_ret
          exact ⟨rfl, hfin.out⟩
      · have zz := Y0.1
        have ff := Y0.2
        have yy0 := Y0.1
        have yy1 := Y1.1
        go_upto_region 29 with fail
        obtain ⟨w9, hw9⟩ : ∃ w9, w8.setCell ⟨b11, 0, none⟩ (.int .u8 17) = w9 := ⟨_, rfl⟩
        rw [hw9]
        have hX9 : Below wr.heap.size wr w9 := by rw [← hw9]; exact hX8.out.setCell (p := ⟨b11, _, none⟩) hb11r _
        have h79 : Below w7.heap.size w7 w9 := by rw [← hw9]; exact h78.out.setCell (p := ⟨b11, _, none⟩) hb11w _
        have hbad : Hid (FVal w9 (o.bad 1) (.agg #[.int .u8 17, .string o.n, .slice p9 o.ts.len n9, .slice p8 o.sub.len n8])) := Lib.hid ⟨_, _, rfl, TSl.below h79 hT7.out, FSl.below h79 hF7.out⟩
        have e0 : w9.cell? ⟨b11, 0, none⟩ = some (.int .u8 17) := by rw [← hw9]; exact set_on zz
        have e1 : w9.cell? ⟨b11, 1, none⟩ = some (.string o.n) := by rw [← hw9]; exact (by rw [set_off (.inr (by omega))]; exact yy1)
        have e2 : w9.cell? ⟨b11, 2, none⟩ = some (.slice p9 o.ts.len n9) := by rw [← hw9, set_off (.inr (by omega))]; exact Y2.1
        have e3 : w9.cell? ⟨b11, 3, none⟩ = some (.slice p8 o.sub.len n8) := by rw [← hw9, set_off (.inr (by omega))]; exact Y3.1
        clear zz ff yy0 yy1 Y0 Y1 Y2 Y3 hw9 h79
        obtain ⟨h, hput, shz, hrf, hrt, hbz⟩ := FT.bad_put hpth.out hfrh.out s1 1
        have hputh := Lib.hid hput
        have hrth := Lib.hid hrt
        have hbw9 := bel_step hbwh.out hX9
        have hk9 := Lib.hid (k1h.out.next hbw9)
        have HCW := Lib.hid (with_some f (o.bad 1) h l hputh.out _ _ _ w9 hk9.out.val hbad.out (LSl.below hX9 (row_list hownh.out)) (by omega) (by omega) hbz)
        obtain ⟨c10, c11, c12, c13, -⟩ := hk9.out
        clear hput hrt hbw9 hX9
        go_wp2_with fail
        refine HCW.out.mono ?_
        rintro e wa ⟨⟨q1, m1, q2, m2, rfl, hvh⟩, hba⟩
        obtain ⟨wb, hwb, hbb, kh⟩ := box_of (w := w) (bel_step hk9.out.2.2.2.2.1 hba) hvh 25
        have khh := Lib.hid kh
        have hRh := Lib.hid (right_any h shz _ wb (hrwh.out.of kh.2.2.2.2.1) kh.val)
        rw [hrf] at hRh
        clear HCW hba hbb kh hvh c10 c11 c12 c13 e0 e1 e2 e3 hrf
        obtain ⟨c10, c11, c12, c13, -⟩ := khh.out
        go_wp2_with fail
        refine hRh.out.mono ?_
        rintro e wc ⟨rfl, hbc⟩
        have khh := Lib.hid (khh.out.next hbc)
        have hSh := Lib.hid (schema_any h shz _ wc (hrwh.out.of khh.out.2.2.2.2.1) khh.out.val)
        clear hRh hbc c10 c11 c12 c13 hwb
        obtain ⟨c10, c11, c12, c13, -⟩ := khh.out
        obtain ⟨sb, hsb⟩ : ∃ sb, (h.fits && h.right true) = sb := ⟨_, rfl⟩
        rw [hsb] at hSh
        clear hsb
        go_wp2_with fail
        refine hSh.out.mono ?_
        rintro e wd ⟨rfl, hbd⟩
        have hfin := Lib.hid (bel_step khh.out.2.2.2.2.1 hbd)
        clear hSh hbd c10 c11 c12 c13
        cases sb
        · go_wp2_with fail
          go_ret
          exact ⟨rfl, hfin.out⟩
        · go_wp2_with fail
          go_ret
          exact ⟨rfl, hfin.out⟩
      · have hns : ¬ (9223372036854775807 < o.n.size + 1) := by have := FT.name_size (FT.part_right hpth.out hfrh.out); omega
        have zz := Y1.1
        have ff := Y1.2
        have yy0 := Y0.1
        have yy1 := Y1.1
        go_upto_region 29 with fail
        obtain ⟨w9, hw9⟩ : ∃ w9, w8.setCell ⟨b11, 1, none⟩ (.string (o.n ++ us)) = w9 := ⟨_, rfl⟩
        rw [hw9]
        have hX9 : Below wr.heap.size wr w9 := by rw [← hw9]; exact hX8.out.setCell (p := ⟨b11, _, none⟩) hb11r _
        have h79 : Below w7.heap.size w7 w9 := by rw [← hw9]; exact h78.out.setCell (p := ⟨b11, _, none⟩) hb11w _
        have hbad : Hid (FVal w9 (o.bad 2) (.agg #[.int .u8 o.op, .string (o.n ++ us), .slice p9 o.ts.len n9, .slice p8 o.sub.len n8])) := Lib.hid ⟨_, _, rfl, TSl.below h79 hT7.out, FSl.below h79 hF7.out⟩
        have e0 : w9.cell? ⟨b11, 0, none⟩ = some (.int .u8 o.op) := by rw [← hw9]; exact (by rw [set_off (.inr (by omega))]; exact yy0)
        have e1 : w9.cell? ⟨b11, 1, none⟩ = some (.string (o.n ++ us)) := by rw [← hw9]; exact set_on zz
        have e2 : w9.cell? ⟨b11, 2, none⟩ = some (.slice p9 o.ts.len n9) := by rw [← hw9, set_off (.inr (by omega))]; exact Y2.1
        have e3 : w9.cell? ⟨b11, 3, none⟩ = some (.slice p8 o.sub.len n8) := by rw [← hw9, set_off (.inr (by omega))]; exact Y3.1
        clear zz ff yy0 yy1 Y0 Y1 Y2 Y3 hw9 h79
        obtain ⟨h, hput, shz, hrf, hrt, hbz⟩ := FT.bad_put hpth.out hfrh.out s1 2
        have hputh := Lib.hid hput
        have hrth := Lib.hid hrt
        have hbw9 := bel_step hbwh.out hX9
        have hk9 := Lib.hid (k1h.out.next hbw9)
        have HCW := Lib.hid (with_some f (o.bad 2) h l hputh.out _ _ _ w9 hk9.out.val hbad.out (LSl.below hX9 (row_list hownh.out)) (by omega) (by omega) hbz)
        obtain ⟨c10, c11, c12, c13, -⟩ := hk9.out
        clear hput hrt hbw9 hX9
        go_wp2_with fail
        refine HCW.out.mono ?_
        rintro e wa ⟨⟨q1, m1, q2, m2, rfl, hvh⟩, hba⟩
        obtain ⟨wb, hwb, hbb, kh⟩ := box_of (w := w) (bel_step hk9.out.2.2.2.2.1 hba) hvh 25
        have khh := Lib.hid kh
        have hRh := Lib.hid (right_any h shz _ wb (hrwh.out.of kh.2.2.2.2.1) kh.val)
        rw [hrf] at hRh
        clear HCW hba hbb kh hvh c10 c11 c12 c13 e0 e1 e2 e3 hrf
        obtain ⟨c10, c11, c12, c13, -⟩ := khh.out
        go_wp2_with fail
        refine hRh.out.mono ?_
        rintro e wc ⟨rfl, hbc⟩
        have khh := Lib.hid (khh.out.next hbc)
        have hSh := Lib.hid (schema_any h shz _ wc (hrwh.out.of khh.out.2.2.2.2.1) khh.out.val)
        clear hRh hbc c10 c11 c12 c13 hwb
        obtain ⟨c10, c11, c12, c13, -⟩ := khh.out
        obtain ⟨sb, hsb⟩ : ∃ sb, (h.fits && h.right true) = sb := ⟨_, rfl⟩
        rw [hsb] at hSh
        clear hsb
        go_wp2_with fail
        refine hSh.out.mono ?_
        rintro e wd ⟨rfl, hbd⟩
        have hfin := Lib.hid (bel_step khh.out.2.2.2.2.1 hbd)
        clear hSh hbd c10 c11 c12 c13
        cases sb
        · go_wp2_with fail
          go_ret
          exact ⟨rfl, hfin.out⟩
        · go_wp2_with fail
          go_ret
          exact ⟨rfl, hfin.out⟩
      · have hb8w : b11 < w8.heap.size := lt_of_cell Y0.1
        have hlen := o.sub.len_le
        have hosz : o.sub.size ≤ 1000 := by have := Fs.part_size l f o hpth.out; have : o.size = o.ts.size + o.sub.size + 1 := rfl; omega
        obtain ⟨i0, hi, hz0, hz1, hz2⟩ := info_parts info27
        obtain ⟨xs8, hown8, hrow8⟩ := hGH.out
        have hown8h := Lib.hid hown8
        have hrow8h := Lib.hid hrow8
        have hlt8 := hown8.lt
        have hnb8 : Hid (some b11 ≠ (Value.slice p8 o.sub.len n8).ownBlock) := Lib.hid fun e => by have := (hlt8 b11 e.symm).2; omega
        clear hown8 hrow8
        go_upto_region 22 with fail
        refine wp_region_run (by kernel_rfl) 129 [73, 74, 75, 76, 77, 78] (JA w8 [(0, 73, .pointer (some ⟨b11, 3, none⟩)), (1, 74, .slice p8 o.sub.len n8), (2, 75, .agg #[.int .u8 1, .string ⟨#[80]⟩, .slice none 0 0, .slice none 0 0]), (5, 78, .pointer (some ⟨b11, 3, none⟩))] 3 76 4 77 6 [.int .u8 1, .string ⟨#[80]⟩, .slice none 0 0, .slice none 0 0] zb 25 4 o.sub.len 1 (.slice p8 o.sub.len n8) xs8 (fun u W => W.setCell ⟨b11, 3, none⟩ u)) (by kernel_rfl) rfl (JA.start _ _) ?hst ?hend
        case hst =>
          have hok : okA [(0, 73, .pointer (some ⟨b11, 3, none⟩)), (1, 74, .slice p8 o.sub.len n8), (2, 75, .agg #[.int .u8 1, .string ⟨#[80]⟩, .slice none 0 0, .slice none 0 0]), (5, 78, .pointer (some ⟨b11, 3, none⟩))] 3 76 4 77 6 = true := by kernel_rfl
          refine ⟨?_, ?_, ?_, ?_, ?_, ?_, ?_, trivial⟩
          · intro l g W hun hdep hcl hJ hg ha hp
            exact op_val rfl rfl (ex_field rfl (eval_tmp ((ha 11 (by kernel_rfl)).trans rfl)) field25_3) ⟨_, hp 73 _ (by kernel_rfl), JA.made hok hJ (.head _) (.inl rfl)⟩
          · intro l g W hun hdep hcl hJ hg ha hp
            have hA : l 4 = false := off_of (fun h => hcl 4 1 h (by kernel_rfl)) hun
            exact op_val rfl rfl (ex_load rfl ((eval_tmp (hg 73 (by kernel_rfl))).trans (hJ.lit _ (.head _) (hdep 0 (by kernel_rfl)))) (loadFs (cell_below (hJ.low hA) Y3.1))) ⟨_, hp 74 _ (by kernel_rfl), JA.made hok hJ (.tail _ (.head _)) (.inl rfl)⟩
          · intro l g W hun hdep hcl hJ hg ha hp
            have hA : l 4 = false := off_of (fun h => hcl 4 2 h (by kernel_rfl)) hun
            refine op_call rfl rfl (ex_call2 (enters_of Tryd.func24 (by kernel_rfl) rfl) rfl rfl rfl) ((atom_any ⟨#[80]⟩ W).mono ?_)
            rintro e W' ⟨rfl, hb⟩
            exact ⟨_, rfl, _, hp 75 _ (by kernel_rfl), JA.made hok hJ (.tail _ (.tail _ (.head _))) (.inr ⟨hA, hb⟩)⟩
          · intro l g W hun hdep hcl hJ hg ha hp
            have hA : l 4 = false := off_of (fun h => hcl 4 3 h (by kernel_rfl)) hun
            exact op_val rfl rfl (ex_buildSlice rfl ((eval_tmp (hg 75 (by kernel_rfl))).trans (hJ.lit _ (.tail _ (.tail _ (.head _))) (hdep 2 (by kernel_rfl)))) layF) ⟨_, hp 76 _ (by kernel_rfl), JA.lay hok hJ hA rfl⟩
          · intro l g W hun hdep hcl hJ hg ha hp
            have hS : l 6 = false := off_of (fun h => hcl 6 4 h (by kernel_rfl)) hun
            obtain ⟨bn, e76, hc⟩ := hJ.laid (hdep 3 (by kernel_rfl)) hun
            have hlow := hJ.low hun
            refine wpOp_step rfl (fun K' hK => ?_)
            refine step_append_lies _ rfl (.tmp 74) (.tmp 76) _ rfl zb 25 i0 _ 4 72 Tryd.underlying23 hi hz0 hz1 hz2 rfl (by omega) (.slice p8 o.sub.len n8) o.sub.len xs8 ((eval_tmp (hg 74 (by kernel_rfl))).trans (hJ.lit _ (.tail _ (.head _)) (hdep 1 (by kernel_rfl)))) (owns_below (bel_step h78.out hlow) hown8h.out)
              ⟨bn, 0, none⟩ 1 1 [.int .u8 1, .string ⟨#[80]⟩, .slice none 0 0, .slice none 0 0] ((eval_tmp (hg 76 (by kernel_rfl))).trans e76) rfl hc (by intro y hy; simp at hy; rcases hy with rfl | rfl | rfl | rfl <;> rfl) (by omega) (by unfold maxLen; omega) (by omega) (by have := hlow.size; have := h78.out.size; omega) W.heap.size rfl ?_
            intro gg cap wq hown1 hgrow hat hlt
            exact hK _ _ ⟨_, hp 77 _ (by kernel_rfl), JA.grow hok hJ hun hS hown1 hgrow hat⟩
          · intro l g W hun hdep hcl hJ hg ha hp
            exact op_val rfl rfl (ex_field rfl (eval_tmp ((ha 11 (by kernel_rfl)).trans rfl)) field25_3) ⟨_, hp 78 _ (by kernel_rfl), JA.made hok hJ (.tail _ (.tail _ (.tail _ (.head _)))) (.inl rfl)⟩
          · intro l g W hun hdep hcl hJ hg ha hp
            have hA := hdep 4 (by kernel_rfl)
            obtain ⟨gg, cap, wa, hlow, hgrow, e77⟩ := hJ.grown hA hun
            exact op_skip rfl rfl (ex_store rfl ((eval_tmp (hg 78 (by kernel_rfl))).trans (hJ.lit _ (.tail _ (.tail _ (.tail _ (.head _)))) (hdep 5 (by kernel_rfl)))) (eval_tmp (hg 77 (by kernel_rfl))) (storeFs (hJ.wc hun (show Wc w8 b11 3 _ from Y3) hnb8.out) ⟨_, _, _, e77⟩)) ⟨g, put_none _ _, JA.store hok hJ hA hun⟩
        case hend =>
          intro ll gv W9 hl hJ
          obtain ⟨gg, cap, wa, wq, hbA, hown1, hgrow, hat, e77, rfl⟩ := hJ.end (hl 4 (of_decide_eq_true (by kernel_rfl))) (hl 6 (of_decide_eq_true (by kernel_rfl)))
          have e73 := hJ.lit _ (.head _) (hl 0 (of_decide_eq_true (by kernel_rfl)))
          have e74 := hJ.lit _ (.tail _ (.head _)) (hl 1 (of_decide_eq_true (by kernel_rfl)))
          have e75 := hJ.lit _ (.tail _ (.tail _ (.head _))) (hl 2 (of_decide_eq_true (by kernel_rfl)))
          have e78 := hJ.lit _ (.tail _ (.tail _ (.tail _ (.head _)))) (hl 5 (of_decide_eq_true (by kernel_rfl)))
          simp only at e73 e74 e75 e78
          skip
          simp only [zipV, List.map_cons, List.map_nil, puts, Act.put, List.setIfInBounds_toArray, List.set_cons_succ, List.set_cons_zero, e73, e74, e75, e77, e78]
          obtain ⟨u76, hu76⟩ : ∃ u, gv 76 = u := ⟨_, rfl⟩
          rw [hu76]
          clear e73 e74 e75 e77 e78 hJ hl hu76
          have hbsz := hbA.size
          obtain ⟨hTq, hFq, hnb⟩ := app_forms (k := 3) (u := .slice (some ⟨gg, 0, none⟩) (o.sub.len + 1) cap) (r := .cons 1 ⟨#[80]⟩ .nil .nil .nil) (W7 := w7) (b := b11) (bel_step h78.out hbA) hb11w hzs (by omega) hownH.out hrowH.out hltH.out hown8h.out hrow8h.out hown1 hgrow hat (fun W s => atom_row W zb s)
          have V0 := wq1 trivial hgrow hnb8.out (Y0.below hbA)
          have V1 := wq1 trivial hgrow hnb8.out (Y1.below hbA)
          have V2 := wq1 trivial hgrow hnb8.out (Y2.below hbA)
          have V3 := wq1 trivial hgrow hnb8.out (Y3.below hbA)
          have hXq := Lib.hid ((bel_step hX8.out hbA).grown hgrow (by have := hX8.out.size; omega) (fun g e => by have := (hlt8 g e).1; omega))
          have hTqh := Lib.hid hTq
          have hFqh := Lib.hid hFq
          have vv := V3.1
          obtain ⟨w9, hw9⟩ : ∃ w9, wq.setCell ⟨b11, 3, none⟩ (.slice (some ⟨gg, 0, none⟩) (o.sub.len + 1) cap) = w9 := ⟨_, rfl⟩
          have hX9 : Below wr.heap.size wr w9 := by rw [← hw9]; exact hXq.out.setCell (p := ⟨b11, _, none⟩) hb11r _
          have hbad : Hid (FVal w9 (o.bad 3) (.agg #[.int .u8 o.op, .string o.n, .slice p9 o.ts.len n9, .slice (some ⟨gg, 0, none⟩) (o.sub.len + 1) cap])) := Lib.hid ⟨_, _, rfl, by rw [← hw9]; exact hTqh.out, by rw [← hw9]; exact hFqh.out⟩
          have e0 : w9.cell? ⟨b11, 0, none⟩ = some (.int .u8 o.op) := by rw [← hw9, set_off (.inr (by omega))]; exact V0.1
          have e1 : w9.cell? ⟨b11, 1, none⟩ = some (.string o.n) := by rw [← hw9, set_off (.inr (by omega))]; exact V1.1
          have e2 : w9.cell? ⟨b11, 2, none⟩ = some (.slice p9 o.ts.len n9) := by rw [← hw9, set_off (.inr (by omega))]; exact V2.1
          have e3 : w9.cell? ⟨b11, 3, none⟩ = some (.slice (some ⟨gg, 0, none⟩) (o.sub.len + 1) cap) := by rw [← hw9]; exact set_on vv
          rw [hw9]
          clear vv V0 V1 V2 V3 Y0 Y1 Y2 Y3 hw9 hTqh hFqh hXq hnb hi hz0 hz1 hz2 hgrow hown1 hat hbA hTq hFq hbsz
          go_upto_region 29 with fail
          obtain ⟨h, hput, shz, hrf, hrt, hbz⟩ := FT.bad_put hpth.out hfrh.out s1 3
          have hputh := Lib.hid hput
          have hrth := Lib.hid hrt
          have hbw9 := bel_step hbwh.out hX9
          have hk9 := Lib.hid (k1h.out.next hbw9)
          have HCW := Lib.hid (with_some f (o.bad 3) h l hputh.out _ _ _ w9 hk9.out.val hbad.out (LSl.below hX9 (row_list hownh.out)) (by omega) (by omega) hbz)
          obtain ⟨c10, c11, c12, c13, -⟩ := hk9.out
          clear hput hrt hbw9 hX9
          go_wp2_with fail
          refine HCW.out.mono ?_
          rintro e wa ⟨⟨q1, m1, q2, m2, rfl, hvh⟩, hba⟩
          obtain ⟨wb, hwb, hbb, kh⟩ := box_of (w := w) (bel_step hk9.out.2.2.2.2.1 hba) hvh 25
          have khh := Lib.hid kh
          have hRh := Lib.hid (right_any h shz _ wb (hrwh.out.of kh.2.2.2.2.1) kh.val)
          rw [hrf] at hRh
          clear HCW hba hbb kh hvh c10 c11 c12 c13 e0 e1 e2 e3 hrf
          obtain ⟨c10, c11, c12, c13, -⟩ := khh.out
          go_wp2_with fail
          refine hRh.out.mono ?_
          rintro e wc ⟨rfl, hbc⟩
          have khh := Lib.hid (khh.out.next hbc)
          have hSh := Lib.hid (schema_any h shz _ wc (hrwh.out.of khh.out.2.2.2.2.1) khh.out.val)
          clear hRh hbc c10 c11 c12 c13 hwb
          obtain ⟨c10, c11, c12, c13, -⟩ := khh.out
          obtain ⟨sb, hsb⟩ : ∃ sb, (h.fits && h.right true) = sb := ⟨_, rfl⟩
          rw [hsb] at hSh
          clear hsb
          go_wp2_with fail
          refine hSh.out.mono ?_
          rintro e wd ⟨rfl, hbd⟩
          have hfin := Lib.hid (bel_step khh.out.2.2.2.2.1 hbd)
          clear hSh hbd c10 c11 c12 c13
          cases sb
          · go_wp2_with fail
            go_ret
            exact ⟨rfl, hfin.out⟩
          · go_wp2_with fail
            go_ret
            exact ⟨rfl, hfin.out⟩
      · have zz := Y2.1
        have hb8w : b11 < w8.heap.size := lt_of_cell Y0.1
        have h1314 := bel_laid w8 (.cells #[.bool false, .string ⟨#[]⟩, .slice none 0 0] 49)
        have hownA := Lib.hid (owns_below (bel_step h78.out h1314) hownH.out)
        have hXA := Lib.hid (bel_step hX8.out h1314)
        have hsA : (w8.alloc (.cells #[.bool false, .string ⟨#[]⟩, .slice none 0 0] 49)).heap.size = w8.heap.size + 1 := World.size_alloc _ _
        have hsAh := Lib.hid hsA
        have hlen := o.ts.len_le
        have hosz : o.ts.size ≤ 1000 := by have := Fs.part_size l f o hpth.out; have : o.size = o.ts.size + o.sub.size + 1 := rfl; omega
        obtain ⟨i0, hi, hz0, hz1, hz2⟩ := info_parts info50
        clear h1314 hsA
        go_upto_region 24 with fail
        go_wp2_with (at_builtin; go_must (refine wpList_append_lies _ rfl _ _ 22 rfl za 49 i0 _ 3 48 Tryd.underlying22 hi hz0 hz1 hz2 rfl (by decide) _ _ _ rfl hownA.out ⟨w8.heap.size, 0, none⟩ 1 1 [.bool false, .string ⟨#[]⟩, .slice none 0 0] rfl rfl (World.news_of_block (cs := #[.bool false, .string ⟨#[]⟩, .slice none 0 0]) (t := 49) (fr := (0, 0)) (heap_alloc_new w8 _)) ?c2 (by omega) ?c4 ?c5 ?c6 _ rfl ?_))
        case c2 => intro y hy; simp at hy; rcases hy with rfl | rfl | rfl <;> rfl
        case c4 => unfold maxLen; omega
        case c5 => omega
        case c6 => rw [hsAh.out]; have := h78.out.size; omega
        intro gg cap wq hown1 hgrow hat hltg
        rw [← hsAh.out] at hat
        have hgrowh := Lib.hid hgrow
        obtain ⟨hTq, hFq, hnb⟩ := app_terms (k := 2) (u := .slice (some ⟨gg, 0, none⟩) (o.ts.len + 1) cap) (r := .cons false ⟨#[]⟩ .nil .nil) (W7 := w7) (b := b11) (bel_step h78.out (bel_laid w8 _)) hb11w hzs (by rw [hsAh.out]; omega) hrowH.out hltH.out hGH.out hown1 hgrow hat (fun W s => none_row W za s)
        have hkeep : ∀ j v, Wc w8 b11 j v → Wc wq b11 j v := fun j v h => ⟨hgrowh.out.cell (cell_below (bel_laid w8 _) h.1) (fun e => hnb e.symm), (hgrowh.out.frozen_far _ (by rw [hsAh.out]; exact Nat.lt_succ_of_lt hb8w) (fun e => hnb e.symm)).trans (h.below (bel_laid w8 _)).2⟩
        have V0 := hkeep _ _ Y0
        have V1 := hkeep _ _ Y1
        have V2 := hkeep _ _ Y2
        have V3 := hkeep _ _ Y3
        have hXq := Lib.hid (hXA.out.grown hgrow (by have := hX8.out.size; rw [hsAh.out]; omega) (fun g e => Nat.le_trans hza (hownH.out.lt g e).1))
        have hTqh := Lib.hid hTq
        have hFqh := Lib.hid hFq
        have vv := V2.1
        have ff := V2.2
        clear hgrow hgrowh hown1 hat hTq hFq hkeep hXA zz
        go_upto_region 29 with fail
        obtain ⟨w9, hw9⟩ : ∃ w9, wq.setCell ⟨b11, 2, none⟩ (.slice (some ⟨gg, 0, none⟩) (o.ts.len + 1) cap) = w9 := ⟨_, rfl⟩
        have hX9 : Below wr.heap.size wr w9 := by rw [← hw9]; exact hXq.out.setCell (p := ⟨b11, _, none⟩) hb11r _
        have hbad : Hid (FVal w9 (o.bad 4) (.agg #[.int .u8 o.op, .string o.n, .slice (some ⟨gg, 0, none⟩) (o.ts.len + 1) cap, .slice p8 o.sub.len n8])) := Lib.hid ⟨_, _, rfl, by rw [← hw9]; exact hTqh.out, by rw [← hw9]; exact hFqh.out⟩
        have e0 : w9.cell? ⟨b11, 0, none⟩ = some (.int .u8 o.op) := by rw [← hw9, set_off (.inr (by omega))]; exact V0.1
        have e1 : w9.cell? ⟨b11, 1, none⟩ = some (.string o.n) := by rw [← hw9, set_off (.inr (by omega))]; exact V1.1
        have e2 : w9.cell? ⟨b11, 2, none⟩ = some (.slice (some ⟨gg, 0, none⟩) (o.ts.len + 1) cap) := by rw [← hw9]; exact set_on vv
        have e3 : w9.cell? ⟨b11, 3, none⟩ = some (.slice p8 o.sub.len n8) := by rw [← hw9, set_off (.inr (by omega))]; exact V3.1
        rw [hw9]
        clear vv ff V0 V1 V2 V3 Y0 Y1 Y2 Y3 hw9 hTqh hFqh hXq hnb hi hz0 hz1 hz2 hltg
        obtain ⟨h, hput, shz, hrf, hrt, hbz⟩ := FT.bad_put hpth.out hfrh.out s1 4
        have hputh := Lib.hid hput
        have hrth := Lib.hid hrt
        have hbw9 := bel_step hbwh.out hX9
        have hk9 := Lib.hid (k1h.out.next hbw9)
        have HCW := Lib.hid (with_some f (o.bad 4) h l hputh.out _ _ _ w9 hk9.out.val hbad.out (LSl.below hX9 (row_list hownh.out)) (by omega) (by omega) hbz)
        obtain ⟨c10, c11, c12, c13, -⟩ := hk9.out
        clear hput hrt hbw9 hX9
        go_wp2_with fail
        refine HCW.out.mono ?_
        rintro e wa ⟨⟨q1, m1, q2, m2, rfl, hvh⟩, hba⟩
        obtain ⟨wb, hwb, hbb, kh⟩ := box_of (w := w) (bel_step hk9.out.2.2.2.2.1 hba) hvh 25
        have khh := Lib.hid kh
        have hRh := Lib.hid (right_any h shz _ wb (hrwh.out.of kh.2.2.2.2.1) kh.val)
        rw [hrf] at hRh
        clear HCW hba hbb kh hvh c10 c11 c12 c13 e0 e1 e2 e3 hrf
        obtain ⟨c10, c11, c12, c13, -⟩ := khh.out
        go_wp2_with fail
        refine hRh.out.mono ?_
        rintro e wc ⟨rfl, hbc⟩
        have khh := Lib.hid (khh.out.next hbc)
        have hSh := Lib.hid (schema_any h shz _ wc (hrwh.out.of khh.out.2.2.2.2.1) khh.out.val)
        clear hRh hbc c10 c11 c12 c13 hwb
        obtain ⟨c10, c11, c12, c13, -⟩ := khh.out
        obtain ⟨sb, hsb⟩ : ∃ sb, (h.fits && h.right true) = sb := ⟨_, rfl⟩
        rw [hsb] at hSh
        clear hsb
        go_wp2_with fail
        refine hSh.out.mono ?_
        rintro e wd ⟨rfl, hbd⟩
        have hfin := Lib.hid (bel_step khh.out.2.2.2.2.1 hbd)
        clear hSh hbd c10 c11 c12 c13
        cases sb
        · go_wp2_with fail
          go_ret
          exact ⟨rfl, hfin.out⟩
        · go_wp2_with fail
          go_ret
          exact ⟨rfl, hfin.out⟩
      · have zz0 := Y0.1
        have zz1 := Y1.1
        have zz2 := Y2.1
        have zz3 := Y3.1
        have ff0 := Y0.2
        have ff1 := Y1.2
        have ff2 := Y2.2
        have ff3 := Y3.2
        go_upto_region 29 with fail
        obtain ⟨w9, hw9, q0, q1, q2, q3, -, hbel9, -⟩ := set4o w8 b11 0 (.int .u8 15) (.string ⟨#[63, 65]⟩) (.slice none 0 0) (.slice none 0 0) Y0 (by simpa using Y1) (by simpa using Y2) (by simpa using Y3)
        simp only [Nat.zero_add] at hw9 q1 q2 q3
        rw [hw9]
        have hX9 := hbel9 _ _ hX8.out hb11r
        have hbad : Hid (FVal w9 (o.bad 5) (.agg #[.int .u8 15, .string ⟨#[63, 65]⟩, .slice none 0 0, .slice none 0 0])) := Lib.hid ⟨_, _, rfl, ⟨none, 0, rfl, .inl rfl⟩, ⟨none, 0, rfl, .inl rfl⟩⟩
        have e0 := q0.1
        have e1 := q1.1
        have e2 := q2.1
        have e3 := q3.1
        clear zz0 zz1 zz2 zz3 ff0 ff1 ff2 ff3 Y0 Y1 Y2 Y3 hw9 q0 q1 q2 q3 hbel9
        obtain ⟨h, hput, shz, hrf, hrt, hbz⟩ := FT.bad_put hpth.out hfrh.out s1 5
        have hputh := Lib.hid hput
        have hrth := Lib.hid hrt
        have hbw9 := bel_step hbwh.out hX9
        have hk9 := Lib.hid (k1h.out.next hbw9)
        have HCW := Lib.hid (with_some f (o.bad 5) h l hputh.out _ _ _ w9 hk9.out.val hbad.out (LSl.below hX9 (row_list hownh.out)) (by omega) (by omega) hbz)
        obtain ⟨c10, c11, c12, c13, -⟩ := hk9.out
        clear hput hrt hbw9 hX9
        go_wp2_with fail
        refine HCW.out.mono ?_
        rintro e wa ⟨⟨q1, m1, q2, m2, rfl, hvh⟩, hba⟩
        obtain ⟨wb, hwb, hbb, kh⟩ := box_of (w := w) (bel_step hk9.out.2.2.2.2.1 hba) hvh 25
        have khh := Lib.hid kh
        have hRh := Lib.hid (right_any h shz _ wb (hrwh.out.of kh.2.2.2.2.1) kh.val)
        rw [hrf] at hRh
        clear HCW hba hbb kh hvh c10 c11 c12 c13 e0 e1 e2 e3 hrf
        obtain ⟨c10, c11, c12, c13, -⟩ := khh.out
        go_wp2_with fail
        refine hRh.out.mono ?_
        rintro e wc ⟨rfl, hbc⟩
        have khh := Lib.hid (khh.out.next hbc)
        have hSh := Lib.hid (schema_any h shz _ wc (hrwh.out.of khh.out.2.2.2.2.1) khh.out.val)
        clear hRh hbc c10 c11 c12 c13 hwb
        obtain ⟨c10, c11, c12, c13, -⟩ := khh.out
        rw [hrth.out (by trivial) hfitsh.out] at hSh
        go_wp2_with fail
        refine hSh.out.mono ?_
        rintro e wd ⟨rfl, hbd⟩
        have hfin := Lib.hid (bel_step khh.out.2.2.2.2.1 hbd)
        clear hSh hbd c10 c11 c12 c13
        go_wp2_with fail
        go_ret
        exact ⟨rfl, hfin.out⟩
      · have hb8w : b11 < w8.heap.size := lt_of_cell Y0.1
        have hlen := o.ts.len_le
        have hosz : o.ts.size ≤ 1000 := by have := Fs.part_size l f o hpth.out; have : o.size = o.ts.size + o.sub.size + 1 := rfl; omega
        obtain ⟨i0, hi, hz0, hi1, hi2⟩ := info_parts info50
        have hlt8 := hownH.out.lt
        have hone : ∀ u ∈ (a5.toList : List Value), u.oneCell' = true := by decide
        have hnb8 : Hid (some b11 ≠ (Value.slice p9 o.ts.len n9).ownBlock) := Lib.hid fun e => by have := (hlt8 b11 e.symm).2; omega
        go_upto_region 28 with fail
        refine wp_region_run (by kernel_rfl) 129 [92, 93, 94, 95, 96, 97, 98, 99, 100, 101] (JA w8 [(0, 92, .pointer (some ⟨b11, 2, none⟩)), (1, 93, .slice p9 o.ts.len n9), (2, 94, aV), (3, 95, aV), (4, 96, aV), (5, 97, aV), (6, 98, aV), (9, 101, .pointer (some ⟨b11, 2, none⟩))] 7 99 8 100 10 a5.toList za 49 3 o.ts.len 5 (.slice p9 o.ts.len n9) xs9 (fun u W => W.setCell ⟨b11, 2, none⟩ u)) (by kernel_rfl) rfl (JA.start _ _) ?hst ?hend
        case hst =>
          have hok : okA [(0, 92, .pointer (some ⟨b11, 2, none⟩)), (1, 93, .slice p9 o.ts.len n9), (2, 94, aV), (3, 95, aV), (4, 96, aV), (5, 97, aV), (6, 98, aV), (9, 101, .pointer (some ⟨b11, 2, none⟩))] 7 99 8 100 10 = true := by kernel_rfl
          refine ⟨?_, ?_, ?_, ?_, ?_, ?_, ?_, ?_, ?_, ?_, ?_, trivial⟩
          · intro l g W hun hdep hcl hJ hg ha hp
            exact op_val rfl rfl (ex_field rfl (eval_tmp ((ha 11 (by kernel_rfl)).trans rfl)) field25_2) ⟨_, hp 92 _ (by kernel_rfl), JA.made hok hJ (.head _) (.inl rfl)⟩
          · intro l g W hun hdep hcl hJ hg ha hp
            have hA : l 8 = false := off_of (fun h => hcl 8 1 h (by kernel_rfl)) hun
            exact op_val rfl rfl (ex_load rfl ((eval_tmp (hg 92 (by kernel_rfl))).trans (hJ.lit _ (.head _) (hdep 0 (by kernel_rfl)))) (loadTs (cell_below (hJ.low hA) Y2.1))) ⟨_, hp 93 _ (by kernel_rfl), JA.made hok hJ (.tail _ (.head _)) (.inl rfl)⟩
          · intro l g W hun hdep hcl hJ hg ha hp
            have hA : l 8 = false := off_of (fun h => hcl 7 2 (hcl 8 7 h (by kernel_rfl)) (by kernel_rfl)) hun
            refine op_call rfl rfl (ex_call2 (enters_of Tryd.func25 (by kernel_rfl) rfl) rfl rfl rfl) ((term_any W).mono ?_)
            rintro e W' ⟨rfl, hb⟩
            exact ⟨_, rfl, _, hp 94 _ (by kernel_rfl), JA.made hok hJ (.tail _ (.tail _ (.head _))) (.inr ⟨hA, hb⟩)⟩
          · intro l g W hun hdep hcl hJ hg ha hp
            have hA : l 8 = false := off_of (fun h => hcl 7 3 (hcl 8 7 h (by kernel_rfl)) (by kernel_rfl)) hun
            refine op_call rfl rfl (ex_call2 (enters_of Tryd.func25 (by kernel_rfl) rfl) rfl rfl rfl) ((term_any W).mono ?_)
            rintro e W' ⟨rfl, hb⟩
            exact ⟨_, rfl, _, hp 95 _ (by kernel_rfl), JA.made hok hJ (.tail _ (.tail _ (.tail _ (.head _)))) (.inr ⟨hA, hb⟩)⟩
          · intro l g W hun hdep hcl hJ hg ha hp
            have hA : l 8 = false := off_of (fun h => hcl 7 4 (hcl 8 7 h (by kernel_rfl)) (by kernel_rfl)) hun
            refine op_call rfl rfl (ex_call2 (enters_of Tryd.func25 (by kernel_rfl) rfl) rfl rfl rfl) ((term_any W).mono ?_)
            rintro e W' ⟨rfl, hb⟩
            exact ⟨_, rfl, _, hp 96 _ (by kernel_rfl), JA.made hok hJ (.tail _ (.tail _ (.tail _ (.tail _ (.head _))))) (.inr ⟨hA, hb⟩)⟩
          · intro l g W hun hdep hcl hJ hg ha hp
            have hA : l 8 = false := off_of (fun h => hcl 7 5 (hcl 8 7 h (by kernel_rfl)) (by kernel_rfl)) hun
            refine op_call rfl rfl (ex_call2 (enters_of Tryd.func25 (by kernel_rfl) rfl) rfl rfl rfl) ((term_any W).mono ?_)
            rintro e W' ⟨rfl, hb⟩
            exact ⟨_, rfl, _, hp 97 _ (by kernel_rfl), JA.made hok hJ (.tail _ (.tail _ (.tail _ (.tail _ (.tail _ (.head _)))))) (.inr ⟨hA, hb⟩)⟩
          · intro l g W hun hdep hcl hJ hg ha hp
            have hA : l 8 = false := off_of (fun h => hcl 7 6 (hcl 8 7 h (by kernel_rfl)) (by kernel_rfl)) hun
            refine op_call rfl rfl (ex_call2 (enters_of Tryd.func25 (by kernel_rfl) rfl) rfl rfl rfl) ((term_any W).mono ?_)
            rintro e W' ⟨rfl, hb⟩
            exact ⟨_, rfl, _, hp 98 _ (by kernel_rfl), JA.made hok hJ (.tail _ (.tail _ (.tail _ (.tail _ (.tail _ (.tail _ (.head _))))))) (.inr ⟨hA, hb⟩)⟩
          · intro l g W hun hdep hcl hJ hg ha hp
            have hA : l 8 = false := off_of (fun h => hcl 8 7 h (by kernel_rfl)) hun
            exact op_val rfl rfl (ex_buildSlice5 rfl ((eval_tmp (hg 94 (by kernel_rfl))).trans (hJ.lit _ (.tail _ (.tail _ (.head _))) (hdep 2 (by kernel_rfl)))) ((eval_tmp (hg 95 (by kernel_rfl))).trans (hJ.lit _ (.tail _ (.tail _ (.tail _ (.head _)))) (hdep 3 (by kernel_rfl)))) ((eval_tmp (hg 96 (by kernel_rfl))).trans (hJ.lit _ (.tail _ (.tail _ (.tail _ (.tail _ (.head _))))) (hdep 4 (by kernel_rfl)))) ((eval_tmp (hg 97 (by kernel_rfl))).trans (hJ.lit _ (.tail _ (.tail _ (.tail _ (.tail _ (.tail _ (.head _)))))) (hdep 5 (by kernel_rfl)))) ((eval_tmp (hg 98 (by kernel_rfl))).trans (hJ.lit _ (.tail _ (.tail _ (.tail _ (.tail _ (.tail _ (.tail _ (.head _))))))) (hdep 6 (by kernel_rfl)))) lay5) ⟨_, hp 99 _ (by kernel_rfl), JA.lay hok hJ hA rfl⟩
          · intro l g W hun hdep hcl hJ hg ha hp
            have hS : l 10 = false := off_of (fun h => hcl 10 8 h (by kernel_rfl)) hun
            obtain ⟨bn, e99, hc⟩ := hJ.laid (hdep 7 (by kernel_rfl)) hun
            have hlow := hJ.low hun
            refine wpOp_step rfl (fun K' hK => ?_)
            refine step_append_lies _ rfl (.tmp 93) (.tmp 99) _ rfl za 49 i0 _ 3 48 Tryd.underlying22 hi hz0 hi1 hi2 rfl (by omega) (.slice p9 o.ts.len n9) o.ts.len xs9 ((eval_tmp (hg 93 (by kernel_rfl))).trans (hJ.lit _ (.tail _ (.head _)) (hdep 1 (by kernel_rfl)))) (owns_below (bel_step h78.out hlow) hownH.out)
              ⟨bn, 0, none⟩ 5 5 a5.toList ((eval_tmp (hg 99 (by kernel_rfl))).trans e99) rfl hc hone (by omega) (by unfold maxLen; omega) (by omega) (by have := hlow.size; have := h78.out.size; omega) W.heap.size rfl ?_
            intro gg cap wq hown1 hgrow hat hlt
            exact hK _ _ ⟨_, hp 100 _ (by kernel_rfl), JA.grow hok hJ hun hS hown1 hgrow hat⟩
          · intro l g W hun hdep hcl hJ hg ha hp
            exact op_val rfl rfl (ex_field rfl (eval_tmp ((ha 11 (by kernel_rfl)).trans rfl)) field25_2) ⟨_, hp 101 _ (by kernel_rfl), JA.made hok hJ (.tail _ (.tail _ (.tail _ (.tail _ (.tail _ (.tail _ (.tail _ (.head _)))))))) (.inl rfl)⟩
          · intro l g W hun hdep hcl hJ hg ha hp
            have hA := hdep 8 (by kernel_rfl)
            obtain ⟨gg, cap, wa, hlow, hgrow, e100⟩ := hJ.grown hA hun
            exact op_skip rfl rfl (ex_store rfl ((eval_tmp (hg 101 (by kernel_rfl))).trans (hJ.lit _ (.tail _ (.tail _ (.tail _ (.tail _ (.tail _ (.tail _ (.tail _ (.head _)))))))) (hdep 9 (by kernel_rfl)))) (eval_tmp (hg 100 (by kernel_rfl))) (storeTs (hJ.wc hun (show Wc w8 b11 2 _ from Y2) hnb8.out) ⟨_, _, _, e100⟩)) ⟨g, put_none _ _, JA.store hok hJ hA hun⟩
        case hend =>
          intro ll gv W9 hl hJ
          obtain ⟨gg, cap, wa, wq, hbA, hown1, hgrow, hat, e100, rfl⟩ := hJ.end (hl 8 (of_decide_eq_true (by kernel_rfl))) (hl 10 (of_decide_eq_true (by kernel_rfl)))
          have e92 := hJ.lit _ (.head _) (hl 0 (of_decide_eq_true (by kernel_rfl)))
          have e93 := hJ.lit _ (.tail _ (.head _)) (hl 1 (of_decide_eq_true (by kernel_rfl)))
          have e94 := hJ.lit _ (.tail _ (.tail _ (.head _))) (hl 2 (of_decide_eq_true (by kernel_rfl)))
          have e95 := hJ.lit _ (.tail _ (.tail _ (.tail _ (.head _)))) (hl 3 (of_decide_eq_true (by kernel_rfl)))
          have e96 := hJ.lit _ (.tail _ (.tail _ (.tail _ (.tail _ (.head _))))) (hl 4 (of_decide_eq_true (by kernel_rfl)))
          have e97 := hJ.lit _ (.tail _ (.tail _ (.tail _ (.tail _ (.tail _ (.head _)))))) (hl 5 (of_decide_eq_true (by kernel_rfl)))
          have e98 := hJ.lit _ (.tail _ (.tail _ (.tail _ (.tail _ (.tail _ (.tail _ (.head _))))))) (hl 6 (of_decide_eq_true (by kernel_rfl)))
          have e101 := hJ.lit _ (.tail _ (.tail _ (.tail _ (.tail _ (.tail _ (.tail _ (.tail _ (.head _)))))))) (hl 9 (of_decide_eq_true (by kernel_rfl)))
          simp only at e92 e93 e94 e95 e96 e97 e98 e101
          simp only [zipV, List.map_cons, List.map_nil, puts, Act.put, List.setIfInBounds_toArray, List.set_cons_succ, List.set_cons_zero, e92, e93, e94, e95, e96, e97, e98, e101, e100]
          obtain ⟨u99, hu99⟩ : ∃ u, gv 99 = u := ⟨_, rfl⟩
          rw [hu99]
          clear e92 e93 e94 e95 e96 e97 e98 e101 e100 hJ hl hu99
          have hbsz := hbA.size
          obtain ⟨hTq, hFq, hnb⟩ := app_terms (k := 2) (u := .slice (some ⟨gg, 0, none⟩) (o.ts.len + 5) cap) (r := fiveA) (W7 := w7) (b := b11) (bel_step h78.out hbA) hb11w hzs (by omega) hrowH.out hltH.out hGH.out hown1 hgrow hat (fun W s => five_row W za s)
          have V0 := wq1 trivial hgrow hnb8.out (Y0.below hbA)
          have V1 := wq1 trivial hgrow hnb8.out (Y1.below hbA)
          have V2 := wq1 trivial hgrow hnb8.out (Y2.below hbA)
          have V3 := wq1 trivial hgrow hnb8.out (Y3.below hbA)
          have hXq := Lib.hid ((bel_step hX8.out hbA).grown hgrow (by have := hX8.out.size; omega) (fun g e => by have := (hlt8 g e).1; omega))
          have hTqh := Lib.hid hTq
          have hFqh := Lib.hid hFq
          have vv := V2.1
          obtain ⟨w9, hw9⟩ : ∃ w9, wq.setCell ⟨b11, 2, none⟩ (.slice (some ⟨gg, 0, none⟩) (o.ts.len + 5) cap) = w9 := ⟨_, rfl⟩
          have hX9 : Below wr.heap.size wr w9 := by rw [← hw9]; exact hXq.out.setCell (p := ⟨b11, _, none⟩) hb11r _
          have hbad : Hid (FVal w9 (o.bad 6) (.agg #[.int .u8 o.op, .string o.n, .slice (some ⟨gg, 0, none⟩) (o.ts.len + 5) cap, .slice p8 o.sub.len n8])) := Lib.hid ⟨_, _, rfl, by rw [← hw9]; exact hTqh.out, by rw [← hw9]; exact hFqh.out⟩
          have e0 : w9.cell? ⟨b11, 0, none⟩ = some (.int .u8 o.op) := by rw [← hw9, set_off (.inr (by omega))]; exact V0.1
          have e1 : w9.cell? ⟨b11, 1, none⟩ = some (.string o.n) := by rw [← hw9, set_off (.inr (by omega))]; exact V1.1
          have e2 : w9.cell? ⟨b11, 2, none⟩ = some (.slice (some ⟨gg, 0, none⟩) (o.ts.len + 5) cap) := by rw [← hw9]; exact set_on vv
          have e3 : w9.cell? ⟨b11, 3, none⟩ = some (.slice p8 o.sub.len n8) := by rw [← hw9, set_off (.inr (by omega))]; exact V3.1
          rw [hw9]
          clear vv V0 V1 V2 V3 Y0 Y1 Y2 Y3 hw9 hTqh hFqh hXq hnb hi hz0 hi1 hi2 hgrow hown1 hat hbA hTq hFq hone hbsz
          go_upto_region 29 with fail
          obtain ⟨h, hput, shz, hrf, hrt, hbz⟩ := FT.bad_put hpth.out hfrh.out s1 6
          have hputh := Lib.hid hput
          have hrth := Lib.hid hrt
          have hbw9 := bel_step hbwh.out hX9
          have hk9 := Lib.hid (k1h.out.next hbw9)
          have HCW := Lib.hid (with_some f (o.bad 6) h l hputh.out _ _ _ w9 hk9.out.val hbad.out (LSl.below hX9 (row_list hownh.out)) (by omega) (by omega) hbz)
          obtain ⟨c10, c11, c12, c13, -⟩ := hk9.out
          clear hput hrt hbw9 hX9
          go_wp2_with fail
          refine HCW.out.mono ?_
          rintro e wa ⟨⟨q1, m1, q2, m2, rfl, hvh⟩, hba⟩
          obtain ⟨wb, hwb, hbb, kh⟩ := box_of (w := w) (bel_step hk9.out.2.2.2.2.1 hba) hvh 25
          have khh := Lib.hid kh
          have hRh := Lib.hid (right_any h shz _ wb (hrwh.out.of kh.2.2.2.2.1) kh.val)
          rw [hrf] at hRh
          clear HCW hba hbb kh hvh c10 c11 c12 c13 e0 e1 e2 e3 hrf
          obtain ⟨c10, c11, c12, c13, -⟩ := khh.out
          go_wp2_with fail
          refine hRh.out.mono ?_
          rintro e wc ⟨rfl, hbc⟩
          have khh := Lib.hid (khh.out.next hbc)
          have hSh := Lib.hid (schema_any h shz _ wc (hrwh.out.of khh.out.2.2.2.2.1) khh.out.val)
          clear hRh hbc c10 c11 c12 c13 hwb
          obtain ⟨c10, c11, c12, c13, -⟩ := khh.out
          obtain ⟨sb, hsb⟩ : ∃ sb, (h.fits && h.right true) = sb := ⟨_, rfl⟩
          rw [hsb] at hSh
          clear hsb
          go_wp2_with fail
          refine hSh.out.mono ?_
          rintro e wd ⟨rfl, hbd⟩
          have hfin := Lib.hid (bel_step khh.out.2.2.2.2.1 hbd)
          clear hSh hbd c10 c11 c12 c13
          cases sb
          · go_wp2_with fail
            go_ret
            exact ⟨rfl, hfin.out⟩
          · go_wp2_with fail
            go_ret
            exact ⟨rfl, hfin.out⟩
      · have zz := Y1.1
        have ff := Y1.2
        have yy0 := Y0.1
        have yy1 := Y1.1
        go_upto_region 29 with fail
        obtain ⟨w9, hw9⟩ : ∃ w9, w8.setCell ⟨b11, 1, none⟩ (.string untilS) = w9 := ⟨_, rfl⟩
        rw [hw9]
        have hX9 : Below wr.heap.size wr w9 := by rw [← hw9]; exact hX8.out.setCell (p := ⟨b11, _, none⟩) hb11r _
        have h79 : Below w7.heap.size w7 w9 := by rw [← hw9]; exact h78.out.setCell (p := ⟨b11, _, none⟩) hb11w _
        have hbad : Hid (FVal w9 (o.bad 7) (.agg #[.int .u8 o.op, .string untilS, .slice p9 o.ts.len n9, .slice p8 o.sub.len n8])) := Lib.hid ⟨_, _, rfl, TSl.below h79 hT7.out, FSl.below h79 hF7.out⟩
        have e0 : w9.cell? ⟨b11, 0, none⟩ = some (.int .u8 o.op) := by rw [← hw9]; exact (by rw [set_off (.inr (by omega))]; exact yy0)
        have e1 : w9.cell? ⟨b11, 1, none⟩ = some (.string untilS) := by rw [← hw9]; exact set_on zz
        have e2 : w9.cell? ⟨b11, 2, none⟩ = some (.slice p9 o.ts.len n9) := by rw [← hw9, set_off (.inr (by omega))]; exact Y2.1
        have e3 : w9.cell? ⟨b11, 3, none⟩ = some (.slice p8 o.sub.len n8) := by rw [← hw9, set_off (.inr (by omega))]; exact Y3.1
        clear zz ff yy0 yy1 Y0 Y1 Y2 Y3 hw9 h79
        obtain ⟨h, hput, shz, hrf, hrt, hbz⟩ := FT.bad_put hpth.out hfrh.out s1 7
        have hputh := Lib.hid hput
        have hrth := Lib.hid hrt
        have hbw9 := bel_step hbwh.out hX9
        have hk9 := Lib.hid (k1h.out.next hbw9)
        have HCW := Lib.hid (with_some f (o.bad 7) h l hputh.out _ _ _ w9 hk9.out.val hbad.out (LSl.below hX9 (row_list hownh.out)) (by omega) (by omega) hbz)
        obtain ⟨c10, c11, c12, c13, -⟩ := hk9.out
        clear hput hrt hbw9 hX9
        go_wp2_with fail
        refine HCW.out.mono ?_
        rintro e wa ⟨⟨q1, m1, q2, m2, rfl, hvh⟩, hba⟩
        obtain ⟨wb, hwb, hbb, kh⟩ := box_of (w := w) (bel_step hk9.out.2.2.2.2.1 hba) hvh 25
        have khh := Lib.hid kh
        have hRh := Lib.hid (right_any h shz _ wb (hrwh.out.of kh.2.2.2.2.1) kh.val)
        rw [hrf] at hRh
        clear HCW hba hbb kh hvh c10 c11 c12 c13 e0 e1 e2 e3 hrf
        obtain ⟨c10, c11, c12, c13, -⟩ := khh.out
        go_wp2_with fail
        refine hRh.out.mono ?_
        rintro e wc ⟨rfl, hbc⟩
        have khh := Lib.hid (khh.out.next hbc)
        have hSh := Lib.hid (schema_any h shz _ wc (hrwh.out.of khh.out.2.2.2.2.1) khh.out.val)
        clear hRh hbc c10 c11 c12 c13 hwb
        obtain ⟨c10, c11, c12, c13, -⟩ := khh.out
        obtain ⟨sb, hsb⟩ : ∃ sb, (h.fits && h.right true) = sb := ⟨_, rfl⟩
        rw [hsb] at hSh
        clear hsb
        go_wp2_with fail
        refine hSh.out.mono ?_
        rintro e wd ⟨rfl, hbd⟩
        have hfin := Lib.hid (bel_step khh.out.2.2.2.2.1 hbd)
        clear hSh hbd c10 c11 c12 c13
        cases sb
        · go_wp2_with fail
          go_ret
          exact ⟨rfl, hfin.out⟩
        · go_wp2_with fail
          go_ret
          exact ⟨rfl, hfin.out⟩
    · have g1 : (0 : Int) < (o.sub.len : Int) := by omega
      clear hl0
      by_cases hn5 : n % 5 = 0
      · have g2 : ¬ (0 : Int) < (n : Int) % 5 := by omega
        clear hn5
        have HC := Lib.hid (copyFs_any o _ wr (FVal.below hbwh.out hvoh.out) (by have := Fs.part_size l f o hpth.out; omega))
        go_wp2_with fail
        refine HC.out.mono ?_
        rintro e w7 ⟨⟨v', rfl, hvr⟩, hb7⟩
        obtain ⟨p9, n9, p8, n8, za, zb, xs9, rfl, hza, hzb, hzs, hown9, hlt9, hrow9, hG9⟩ := hvr
        have hT7 := Lib.hid (show TSl w7 o.ts (.slice p9 o.ts.len n9) from CRow.own (W := w7) (lo := za) ⟨_, hown9, hrow9.impLo fun b o' y hb hc hn => ⟨(hideR_cell hc).2, hn⟩⟩ |>.at)
        have hF7 := Lib.hid hG9.own.at
        have hownH := Lib.hid hown9
        have hltH := Lib.hid hlt9
        have hrowH := Lib.hid hrow9
        have hGH := Lib.hid hG9
        have hb78 := bel_laid w7 (.cells #[.int .u8 o.op, .string o.n, .slice p9 o.ts.len n9, .slice p8 o.sub.len n8] 25)
        have hnc := cell_new w7 #[.int .u8 o.op, .string o.n, .slice p9 o.ts.len n9, .slice p8 o.sub.len n8] 25
        have hnF := Free.lit w7 #[.int .u8 o.op, .string o.n, .slice p9 o.ts.len n9, .slice p8 o.sub.len n8] 25
        obtain ⟨w8, hw8⟩ : ∃ w8, w7.alloc (.cells #[.int .u8 o.op, .string o.n, .slice p9 o.ts.len n9, .slice p8 o.sub.len n8] 25) = w8 := ⟨_, rfl⟩
        rw [hw8] at hb78 hnc hnF
        obtain ⟨b11, hb11⟩ : ∃ b11, w7.heap.size = b11 := ⟨_, rfl⟩
        rw [hb11] at hnc hnF
        have Y0 : Wc w8 b11 0 (.int .u8 o.op) := ⟨hnc 0, (hnF 0 (by simp)).2⟩
        have Y1 : Wc w8 b11 1 (.string o.n) := ⟨hnc 1, (hnF 1 (by simp)).2⟩
        have Y2 : Wc w8 b11 2 (.slice p9 o.ts.len n9) := ⟨hnc 2, (hnF 2 (by simp)).2⟩
        have Y3 : Wc w8 b11 3 (.slice p8 o.sub.len n8) := ⟨hnc 3, (hnF 3 (by simp)).2⟩
        have hX8 := Lib.hid (bel_step hb7 hb78)
        have h78 := Lib.hid hb78
        have hb11w : w7.heap.size ≤ b11 := by omega
        have hb11r : wr.heap.size ≤ b11 := by have := hb7.size; omega
        clear HC hb7 hb78 hnc hnF hown9 hlt9 hrow9 hG9 x0 x1 x2 x3
        go_upto_region 13 with fail
        clear hw8 hb11
        rcases show kk % 8 = 0 ∨ kk % 8 = 1 ∨ kk % 8 = 2 ∨ kk % 8 = 3 ∨ kk % 8 = 4 ∨ kk % 8 = 5 ∨ kk % 8 = 6 ∨ kk % 8 = 7 by omega with hr | hr | hr | hr | hr | hr | hr | hr
        · have zz := Y0.1
          have ff := Y0.2
          have yy0 := Y0.1
          have yy1 := Y1.1
          go_upto_region 29 with fail
          obtain ⟨w9, hw9⟩ : ∃ w9, w8.setCell ⟨b11, 0, none⟩ (.int .u8 0) = w9 := ⟨_, rfl⟩
          rw [hw9]
          have hX9 : Below wr.heap.size wr w9 := by rw [← hw9]; exact hX8.out.setCell (p := ⟨b11, _, none⟩) hb11r _
          have h79 : Below w7.heap.size w7 w9 := by rw [← hw9]; exact h78.out.setCell (p := ⟨b11, _, none⟩) hb11w _
          have hbad : Hid (FVal w9 (o.bad 0) (.agg #[.int .u8 0, .string o.n, .slice p9 o.ts.len n9, .slice p8 o.sub.len n8])) := Lib.hid ⟨_, _, rfl, TSl.below h79 hT7.out, FSl.below h79 hF7.out⟩
          have e0 : w9.cell? ⟨b11, 0, none⟩ = some (.int .u8 0) := by rw [← hw9]; exact set_on zz
          have e1 : w9.cell? ⟨b11, 1, none⟩ = some (.string o.n) := by rw [← hw9]; exact (by rw [set_off (.inr (by omega))]; exact yy1)
          have e2 : w9.cell? ⟨b11, 2, none⟩ = some (.slice p9 o.ts.len n9) := by rw [← hw9, set_off (.inr (by omega))]; exact Y2.1
          have e3 : w9.cell? ⟨b11, 3, none⟩ = some (.slice p8 o.sub.len n8) := by rw [← hw9, set_off (.inr (by omega))]; exact Y3.1
          clear zz ff yy0 yy1 Y0 Y1 Y2 Y3 hw9 h79
          obtain ⟨h, hput, shz, hrf, hrt, hbz⟩ := FT.bad_put hpth.out hfrh.out s1 0
          have hputh := Lib.hid hput
          have hrth := Lib.hid hrt
          have hbw9 := bel_step hbwh.out hX9
          have hk9 := Lib.hid (k1h.out.next hbw9)
          have HCW := Lib.hid (with_some f (o.bad 0) h l hputh.out _ _ _ w9 hk9.out.val hbad.out (LSl.below hX9 (row_list hownh.out)) (by omega) (by omega) hbz)
          obtain ⟨c10, c11, c12, c13, -⟩ := hk9.out
          clear hput hrt hbw9 hX9
          go_wp2_with fail
          refine HCW.out.mono ?_
          rintro e wa ⟨⟨q1, m1, q2, m2, rfl, hvh⟩, hba⟩
          obtain ⟨wb, hwb, hbb, kh⟩ := box_of (w := w) (bel_step hk9.out.2.2.2.2.1 hba) hvh 25
          have khh := Lib.hid kh
          have hRh := Lib.hid (right_any h shz _ wb (hrwh.out.of kh.2.2.2.2.1) kh.val)
          rw [hrf] at hRh
          clear HCW hba hbb kh hvh c10 c11 c12 c13 e0 e1 e2 e3 hrf
          obtain ⟨c10, c11, c12, c13, -⟩ := khh.out
          go_wp2_with fail
          refine hRh.out.mono ?_
          rintro e wc ⟨rfl, hbc⟩
          have khh := Lib.hid (khh.out.next hbc)
          have hSh := Lib.hid (schema_any h shz _ wc (hrwh.out.of khh.out.2.2.2.2.1) khh.out.val)
          clear hRh hbc c10 c11 c12 c13 hwb
          obtain ⟨c10, c11, c12, c13, -⟩ := khh.out
          obtain ⟨sb, hsb⟩ : ∃ sb, (h.fits && h.right true) = sb := ⟨_, rfl⟩
          rw [hsb] at hSh
          clear hsb
          go_wp2_with fail
          refine hSh.out.mono ?_
          rintro e wd ⟨rfl, hbd⟩
          have hfin := Lib.hid (bel_step khh.out.2.2.2.2.1 hbd)
          clear hSh hbd c10 c11 c12 c13
          cases sb
          · go_wp2_with fail
            go_ret
            exact ⟨rfl, hfin.out⟩
          · go_wp2_with fail
            go_ret
            exact ⟨rfl, hfin.out⟩
        · have zz := Y0.1
          have ff := Y0.2
          have yy0 := Y0.1
          have yy1 := Y1.1
          go_upto_region 29 with fail
          obtain ⟨w9, hw9⟩ : ∃ w9, w8.setCell ⟨b11, 0, none⟩ (.int .u8 17) = w9 := ⟨_, rfl⟩
          rw [hw9]
          have hX9 : Below wr.heap.size wr w9 := by rw [← hw9]; exact hX8.out.setCell (p := ⟨b11, _, none⟩) hb11r _
          have h79 : Below w7.heap.size w7 w9 := by rw [← hw9]; exact h78.out.setCell (p := ⟨b11, _, none⟩) hb11w _
          have hbad : Hid (FVal w9 (o.bad 1) (.agg #[.int .u8 17, .string o.n, .slice p9 o.ts.len n9, .slice p8 o.sub.len n8])) := Lib.hid ⟨_, _, rfl, TSl.below h79 hT7.out, FSl.below h79 hF7.out⟩
          have e0 : w9.cell? ⟨b11, 0, none⟩ = some (.int .u8 17) := by rw [← hw9]; exact set_on zz
          have e1 : w9.cell? ⟨b11, 1, none⟩ = some (.string o.n) := by rw [← hw9]; exact (by rw [set_off (.inr (by omega))]; exact yy1)
          have e2 : w9.cell? ⟨b11, 2, none⟩ = some (.slice p9 o.ts.len n9) := by rw [← hw9, set_off (.inr (by omega))]; exact Y2.1
          have e3 : w9.cell? ⟨b11, 3, none⟩ = some (.slice p8 o.sub.len n8) := by rw [← hw9, set_off (.inr (by omega))]; exact Y3.1
          clear zz ff yy0 yy1 Y0 Y1 Y2 Y3 hw9 h79
          obtain ⟨h, hput, shz, hrf, hrt, hbz⟩ := FT.bad_put hpth.out hfrh.out s1 1
          have hputh := Lib.hid hput
          have hrth := Lib.hid hrt
          have hbw9 := bel_step hbwh.out hX9
          have hk9 := Lib.hid (k1h.out.next hbw9)
          have HCW := Lib.hid (with_some f (o.bad 1) h l hputh.out _ _ _ w9 hk9.out.val hbad.out (LSl.below hX9 (row_list hownh.out)) (by omega) (by omega) hbz)
          obtain ⟨c10, c11, c12, c13, -⟩ := hk9.out
          clear hput hrt hbw9 hX9
          go_wp2_with fail
          refine HCW.out.mono ?_
          rintro e wa ⟨⟨q1, m1, q2, m2, rfl, hvh⟩, hba⟩
          obtain ⟨wb, hwb, hbb, kh⟩ := box_of (w := w) (bel_step hk9.out.2.2.2.2.1 hba) hvh 25
          have khh := Lib.hid kh
          have hRh := Lib.hid (right_any h shz _ wb (hrwh.out.of kh.2.2.2.2.1) kh.val)
          rw [hrf] at hRh
          clear HCW hba hbb kh hvh c10 c11 c12 c13 e0 e1 e2 e3 hrf
          obtain ⟨c10, c11, c12, c13, -⟩ := khh.out
          go_wp2_with fail
          refine hRh.out.mono ?_
          rintro e wc ⟨rfl, hbc⟩
          have khh := Lib.hid (khh.out.next hbc)
          have hSh := Lib.hid (schema_any h shz _ wc (hrwh.out.of khh.out.2.2.2.2.1) khh.out.val)
          clear hRh hbc c10 c11 c12 c13 hwb
          obtain ⟨c10, c11, c12, c13, -⟩ := khh.out
          obtain ⟨sb, hsb⟩ : ∃ sb, (h.fits && h.right true) = sb := ⟨_, rfl⟩
          rw [hsb] at hSh
          clear hsb
          go_wp2_with fail
          refine hSh.out.mono ?_
          rintro e wd ⟨rfl, hbd⟩
          have hfin := Lib.hid (bel_step khh.out.2.2.2.2.1 hbd)
          clear hSh hbd c10 c11 c12 c13
          cases sb
          · go_wp2_with fail
            go_ret
            exact ⟨rfl, hfin.out⟩
          · go_wp2_with fail
            go_ret
            exact ⟨rfl, hfin.out⟩
        · have hns : ¬ (9223372036854775807 < o.n.size + 1) := by have := FT.name_size (FT.part_right hpth.out hfrh.out); omega
          have zz := Y1.1
          have ff := Y1.2
          have yy0 := Y0.1
          have yy1 := Y1.1
          go_upto_region 29 with fail
          obtain ⟨w9, hw9⟩ : ∃ w9, w8.setCell ⟨b11, 1, none⟩ (.string (o.n ++ us)) = w9 := ⟨_, rfl⟩
          rw [hw9]
          have hX9 : Below wr.heap.size wr w9 := by rw [← hw9]; exact hX8.out.setCell (p := ⟨b11, _, none⟩) hb11r _
          have h79 : Below w7.heap.size w7 w9 := by rw [← hw9]; exact h78.out.setCell (p := ⟨b11, _, none⟩) hb11w _
          have hbad : Hid (FVal w9 (o.bad 2) (.agg #[.int .u8 o.op, .string (o.n ++ us), .slice p9 o.ts.len n9, .slice p8 o.sub.len n8])) := Lib.hid ⟨_, _, rfl, TSl.below h79 hT7.out, FSl.below h79 hF7.out⟩
          have e0 : w9.cell? ⟨b11, 0, none⟩ = some (.int .u8 o.op) := by rw [← hw9]; exact (by rw [set_off (.inr (by omega))]; exact yy0)
          have e1 : w9.cell? ⟨b11, 1, none⟩ = some (.string (o.n ++ us)) := by rw [← hw9]; exact set_on zz
          have e2 : w9.cell? ⟨b11, 2, none⟩ = some (.slice p9 o.ts.len n9) := by rw [← hw9, set_off (.inr (by omega))]; exact Y2.1
          have e3 : w9.cell? ⟨b11, 3, none⟩ = some (.slice p8 o.sub.len n8) := by rw [← hw9, set_off (.inr (by omega))]; exact Y3.1
          clear zz ff yy0 yy1 Y0 Y1 Y2 Y3 hw9 h79
          obtain ⟨h, hput, shz, hrf, hrt, hbz⟩ := FT.bad_put hpth.out hfrh.out s1 2
          have hputh := Lib.hid hput
          have hrth := Lib.hid hrt
          have hbw9 := bel_step hbwh.out hX9
          have hk9 := Lib.hid (k1h.out.next hbw9)
          have HCW := Lib.hid (with_some f (o.bad 2) h l hputh.out _ _ _ w9 hk9.out.val hbad.out (LSl.below hX9 (row_list hownh.out)) (by omega) (by omega) hbz)
          obtain ⟨c10, c11, c12, c13, -⟩ := hk9.out
          clear hput hrt hbw9 hX9
          go_wp2_with fail
          refine HCW.out.mono ?_
          rintro e wa ⟨⟨q1, m1, q2, m2, rfl, hvh⟩, hba⟩
          obtain ⟨wb, hwb, hbb, kh⟩ := box_of (w := w) (bel_step hk9.out.2.2.2.2.1 hba) hvh 25
          have khh := Lib.hid kh
          have hRh := Lib.hid (right_any h shz _ wb (hrwh.out.of kh.2.2.2.2.1) kh.val)
          rw [hrf] at hRh
          clear HCW hba hbb kh hvh c10 c11 c12 c13 e0 e1 e2 e3 hrf
          obtain ⟨c10, c11, c12, c13, -⟩ := khh.out
          go_wp2_with fail
          refine hRh.out.mono ?_
          rintro e wc ⟨rfl, hbc⟩
          have khh := Lib.hid (khh.out.next hbc)
          have hSh := Lib.hid (schema_any h shz _ wc (hrwh.out.of khh.out.2.2.2.2.1) khh.out.val)
          clear hRh hbc c10 c11 c12 c13 hwb
          obtain ⟨c10, c11, c12, c13, -⟩ := khh.out
          obtain ⟨sb, hsb⟩ : ∃ sb, (h.fits && h.right true) = sb := ⟨_, rfl⟩
          rw [hsb] at hSh
          clear hsb
          go_wp2_with fail
          refine hSh.out.mono ?_
          rintro e wd ⟨rfl, hbd⟩
          have hfin := Lib.hid (bel_step khh.out.2.2.2.2.1 hbd)
          clear hSh hbd c10 c11 c12 c13
          cases sb
          · go_wp2_with fail
            go_ret
            exact ⟨rfl, hfin.out⟩
          · go_wp2_with fail
            go_ret
            exact ⟨rfl, hfin.out⟩
        · have hb8w : b11 < w8.heap.size := lt_of_cell Y0.1
          have hlen := o.sub.len_le
          have hosz : o.sub.size ≤ 1000 := by have := Fs.part_size l f o hpth.out; have : o.size = o.ts.size + o.sub.size + 1 := rfl; omega
          obtain ⟨i0, hi, hz0, hz1, hz2⟩ := info_parts info27
          obtain ⟨xs8, hown8, hrow8⟩ := hGH.out
          have hown8h := Lib.hid hown8
          have hrow8h := Lib.hid hrow8
          have hlt8 := hown8.lt
          have hnb8 : Hid (some b11 ≠ (Value.slice p8 o.sub.len n8).ownBlock) := Lib.hid fun e => by have := (hlt8 b11 e.symm).2; omega
          clear hown8 hrow8
          go_upto_region 22 with fail
          refine wp_region_run (by kernel_rfl) 129 [73, 74, 75, 76, 77, 78] (JA w8 [(0, 73, .pointer (some ⟨b11, 3, none⟩)), (1, 74, .slice p8 o.sub.len n8), (2, 75, .agg #[.int .u8 1, .string ⟨#[80]⟩, .slice none 0 0, .slice none 0 0]), (5, 78, .pointer (some ⟨b11, 3, none⟩))] 3 76 4 77 6 [.int .u8 1, .string ⟨#[80]⟩, .slice none 0 0, .slice none 0 0] zb 25 4 o.sub.len 1 (.slice p8 o.sub.len n8) xs8 (fun u W => W.setCell ⟨b11, 3, none⟩ u)) (by kernel_rfl) rfl (JA.start _ _) ?hst ?hend
          case hst =>
            have hok : okA [(0, 73, .pointer (some ⟨b11, 3, none⟩)), (1, 74, .slice p8 o.sub.len n8), (2, 75, .agg #[.int .u8 1, .string ⟨#[80]⟩, .slice none 0 0, .slice none 0 0]), (5, 78, .pointer (some ⟨b11, 3, none⟩))] 3 76 4 77 6 = true := by kernel_rfl
            refine ⟨?_, ?_, ?_, ?_, ?_, ?_, ?_, trivial⟩
            · intro l g W hun hdep hcl hJ hg ha hp
              exact op_val rfl rfl (ex_field rfl (eval_tmp ((ha 11 (by kernel_rfl)).trans rfl)) field25_3) ⟨_, hp 73 _ (by kernel_rfl), JA.made hok hJ (.head _) (.inl rfl)⟩
            · intro l g W hun hdep hcl hJ hg ha hp
              have hA : l 4 = false := off_of (fun h => hcl 4 1 h (by kernel_rfl)) hun
              exact op_val rfl rfl (ex_load rfl ((eval_tmp (hg 73 (by kernel_rfl))).trans (hJ.lit _ (.head _) (hdep 0 (by kernel_rfl)))) (loadFs (cell_below (hJ.low hA) Y3.1))) ⟨_, hp 74 _ (by kernel_rfl), JA.made hok hJ (.tail _ (.head _)) (.inl rfl)⟩
            · intro l g W hun hdep hcl hJ hg ha hp
              have hA : l 4 = false := off_of (fun h => hcl 4 2 h (by kernel_rfl)) hun
              refine op_call rfl rfl (ex_call2 (enters_of Tryd.func24 (by kernel_rfl) rfl) rfl rfl rfl) ((atom_any ⟨#[80]⟩ W).mono ?_)
              rintro e W' ⟨rfl, hb⟩
              exact ⟨_, rfl, _, hp 75 _ (by kernel_rfl), JA.made hok hJ (.tail _ (.tail _ (.head _))) (.inr ⟨hA, hb⟩)⟩
            · intro l g W hun hdep hcl hJ hg ha hp
              have hA : l 4 = false := off_of (fun h => hcl 4 3 h (by kernel_rfl)) hun
              exact op_val rfl rfl (ex_buildSlice rfl ((eval_tmp (hg 75 (by kernel_rfl))).trans (hJ.lit _ (.tail _ (.tail _ (.head _))) (hdep 2 (by kernel_rfl)))) layF) ⟨_, hp 76 _ (by kernel_rfl), JA.lay hok hJ hA rfl⟩
            · intro l g W hun hdep hcl hJ hg ha hp
              have hS : l 6 = false := off_of (fun h => hcl 6 4 h (by kernel_rfl)) hun
              obtain ⟨bn, e76, hc⟩ := hJ.laid (hdep 3 (by kernel_rfl)) hun
              have hlow := hJ.low hun
              refine wpOp_step rfl (fun K' hK => ?_)
              refine step_append_lies _ rfl (.tmp 74) (.tmp 76) _ rfl zb 25 i0 _ 4 72 Tryd.underlying23 hi hz0 hz1 hz2 rfl (by omega) (.slice p8 o.sub.len n8) o.sub.len xs8 ((eval_tmp (hg 74 (by kernel_rfl))).trans (hJ.lit _ (.tail _ (.head _)) (hdep 1 (by kernel_rfl)))) (owns_below (bel_step h78.out hlow) hown8h.out)
                ⟨bn, 0, none⟩ 1 1 [.int .u8 1, .string ⟨#[80]⟩, .slice none 0 0, .slice none 0 0] ((eval_tmp (hg 76 (by kernel_rfl))).trans e76) rfl hc (by intro y hy; simp at hy; rcases hy with rfl | rfl | rfl | rfl <;> rfl) (by omega) (by unfold maxLen; omega) (by omega) (by have := hlow.size; have := h78.out.size; omega) W.heap.size rfl ?_
              intro gg cap wq hown1 hgrow hat hlt
              exact hK _ _ ⟨_, hp 77 _ (by kernel_rfl), JA.grow hok hJ hun hS hown1 hgrow hat⟩
            · intro l g W hun hdep hcl hJ hg ha hp
              exact op_val rfl rfl (ex_field rfl (eval_tmp ((ha 11 (by kernel_rfl)).trans rfl)) field25_3) ⟨_, hp 78 _ (by kernel_rfl), JA.made hok hJ (.tail _ (.tail _ (.tail _ (.head _)))) (.inl rfl)⟩
            · intro l g W hun hdep hcl hJ hg ha hp
              have hA := hdep 4 (by kernel_rfl)
              obtain ⟨gg, cap, wa, hlow, hgrow, e77⟩ := hJ.grown hA hun
              exact op_skip rfl rfl (ex_store rfl ((eval_tmp (hg 78 (by kernel_rfl))).trans (hJ.lit _ (.tail _ (.tail _ (.tail _ (.head _)))) (hdep 5 (by kernel_rfl)))) (eval_tmp (hg 77 (by kernel_rfl))) (storeFs (hJ.wc hun (show Wc w8 b11 3 _ from Y3) hnb8.out) ⟨_, _, _, e77⟩)) ⟨g, put_none _ _, JA.store hok hJ hA hun⟩
          case hend =>
            intro ll gv W9 hl hJ
            obtain ⟨gg, cap, wa, wq, hbA, hown1, hgrow, hat, e77, rfl⟩ := hJ.end (hl 4 (of_decide_eq_true (by kernel_rfl))) (hl 6 (of_decide_eq_true (by kernel_rfl)))
            have e73 := hJ.lit _ (.head _) (hl 0 (of_decide_eq_true (by kernel_rfl)))
            have e74 := hJ.lit _ (.tail _ (.head _)) (hl 1 (of_decide_eq_true (by kernel_rfl)))
            have e75 := hJ.lit _ (.tail _ (.tail _ (.head _))) (hl 2 (of_decide_eq_true (by kernel_rfl)))
            have e78 := hJ.lit _ (.tail _ (.tail _ (.tail _ (.head _)))) (hl 5 (of_decide_eq_true (by kernel_rfl)))
            simp only at e73 e74 e75 e78
            skip
            simp only [zipV, List.map_cons, List.map_nil, puts, Act.put, List.setIfInBounds_toArray, List.set_cons_succ, List.set_cons_zero, e73, e74, e75, e77, e78]
            obtain ⟨u76, hu76⟩ : ∃ u, gv 76 = u := ⟨_, rfl⟩
            rw [hu76]
            clear e73 e74 e75 e77 e78 hJ hl hu76
            have hbsz := hbA.size
            obtain ⟨hTq, hFq, hnb⟩ := app_forms (k := 3) (u := .slice (some ⟨gg, 0, none⟩) (o.sub.len + 1) cap) (r := .cons 1 ⟨#[80]⟩ .nil .nil .nil) (W7 := w7) (b := b11) (bel_step h78.out hbA) hb11w hzs (by omega) hownH.out hrowH.out hltH.out hown8h.out hrow8h.out hown1 hgrow hat (fun W s => atom_row W zb s)
            have V0 := wq1 trivial hgrow hnb8.out (Y0.below hbA)
            have V1 := wq1 trivial hgrow hnb8.out (Y1.below hbA)
            have V2 := wq1 trivial hgrow hnb8.out (Y2.below hbA)
            have V3 := wq1 trivial hgrow hnb8.out (Y3.below hbA)
            have hXq := Lib.hid ((bel_step hX8.out hbA).grown hgrow (by have := hX8.out.size; omega) (fun g e => by have := (hlt8 g e).1; omega))
            have hTqh := Lib.hid hTq
            have hFqh := Lib.hid hFq
            have vv := V3.1
            obtain ⟨w9, hw9⟩ : ∃ w9, wq.setCell ⟨b11, 3, none⟩ (.slice (some ⟨gg, 0, none⟩) (o.sub.len + 1) cap) = w9 := ⟨_, rfl⟩
            have hX9 : Below wr.heap.size wr w9 := by rw [← hw9]; exact hXq.out.setCell (p := ⟨b11, _, none⟩) hb11r _
            have hbad : Hid (FVal w9 (o.bad 3) (.agg #[.int .u8 o.op, .string o.n, .slice p9 o.ts.len n9, .slice (some ⟨gg, 0, none⟩) (o.sub.len + 1) cap])) := Lib.hid ⟨_, _, rfl, by rw [← hw9]; exact hTqh.out, by rw [← hw9]; exact hFqh.out⟩
            have e0 : w9.cell? ⟨b11, 0, none⟩ = some (.int .u8 o.op) := by rw [← hw9, set_off (.inr (by omega))]; exact V0.1
            have e1 : w9.cell? ⟨b11, 1, none⟩ = some (.string o.n) := by rw [← hw9, set_off (.inr (by omega))]; exact V1.1
            have e2 : w9.cell? ⟨b11, 2, none⟩ = some (.slice p9 o.ts.len n9) := by rw [← hw9, set_off (.inr (by omega))]; exact V2.1
            have e3 : w9.cell? ⟨b11, 3, none⟩ = some (.slice (some ⟨gg, 0, none⟩) (o.sub.len + 1) cap) := by rw [← hw9]; exact set_on vv
            rw [hw9]
            clear vv V0 V1 V2 V3 Y0 Y1 Y2 Y3 hw9 hTqh hFqh hXq hnb hi hz0 hz1 hz2 hgrow hown1 hat hbA hTq hFq hbsz
            go_upto_region 29 with fail
            obtain ⟨h, hput, shz, hrf, hrt, hbz⟩ := FT.bad_put hpth.out hfrh.out s1 3
            have hputh := Lib.hid hput
            have hrth := Lib.hid hrt
            have hbw9 := bel_step hbwh.out hX9
            have hk9 := Lib.hid (k1h.out.next hbw9)
            have HCW := Lib.hid (with_some f (o.bad 3) h l hputh.out _ _ _ w9 hk9.out.val hbad.out (LSl.below hX9 (row_list hownh.out)) (by omega) (by omega) hbz)
            obtain ⟨c10, c11, c12, c13, -⟩ := hk9.out
            clear hput hrt hbw9 hX9
            go_wp2_with fail
            refine HCW.out.mono ?_
            rintro e wa ⟨⟨q1, m1, q2, m2, rfl, hvh⟩, hba⟩
            obtain ⟨wb, hwb, hbb, kh⟩ := box_of (w := w) (bel_step hk9.out.2.2.2.2.1 hba) hvh 25
            have khh := Lib.hid kh
            have hRh := Lib.hid (right_any h shz _ wb (hrwh.out.of kh.2.2.2.2.1) kh.val)
            rw [hrf] at hRh
            clear HCW hba hbb kh hvh c10 c11 c12 c13 e0 e1 e2 e3 hrf
            obtain ⟨c10, c11, c12, c13, -⟩ := khh.out
            go_wp2_with fail
            refine hRh.out.mono ?_
            rintro e wc ⟨rfl, hbc⟩
            have khh := Lib.hid (khh.out.next hbc)
            have hSh := Lib.hid (schema_any h shz _ wc (hrwh.out.of khh.out.2.2.2.2.1) khh.out.val)
            clear hRh hbc c10 c11 c12 c13 hwb
            obtain ⟨c10, c11, c12, c13, -⟩ := khh.out
            obtain ⟨sb, hsb⟩ : ∃ sb, (h.fits && h.right true) = sb := ⟨_, rfl⟩
            rw [hsb] at hSh
            clear hsb
            go_wp2_with fail
            refine hSh.out.mono ?_
            rintro e wd ⟨rfl, hbd⟩
            have hfin := Lib.hid (bel_step khh.out.2.2.2.2.1 hbd)
            clear hSh hbd c10 c11 c12 c13
            cases sb
            · go_wp2_with fail
              go_ret
              exact ⟨rfl, hfin.out⟩
            · go_wp2_with fail
              go_ret
              exact ⟨rfl, hfin.out⟩
        · have zz := Y2.1
          have hb8w : b11 < w8.heap.size := lt_of_cell Y0.1
          have h1314 := bel_laid w8 (.cells #[.bool false, .string ⟨#[]⟩, .slice none 0 0] 49)
          have hownA := Lib.hid (owns_below (bel_step h78.out h1314) hownH.out)
          have hXA := Lib.hid (bel_step hX8.out h1314)
          have hsA : (w8.alloc (.cells #[.bool false, .string ⟨#[]⟩, .slice none 0 0] 49)).heap.size = w8.heap.size + 1 := World.size_alloc _ _
          have hsAh := Lib.hid hsA
          have hlen := o.ts.len_le
          have hosz : o.ts.size ≤ 1000 := by have := Fs.part_size l f o hpth.out; have : o.size = o.ts.size + o.sub.size + 1 := rfl; omega
          obtain ⟨i0, hi, hz0, hz1, hz2⟩ := info_parts info50
          clear h1314 hsA
          go_upto_region 24 with fail
          go_wp2_with (at_builtin; go_must (refine wpList_append_lies _ rfl _ _ 22 rfl za 49 i0 _ 3 48 Tryd.underlying22 hi hz0 hz1 hz2 rfl (by decide) _ _ _ rfl hownA.out ⟨w8.heap.size, 0, none⟩ 1 1 [.bool false, .string ⟨#[]⟩, .slice none 0 0] rfl rfl (World.news_of_block (cs := #[.bool false, .string ⟨#[]⟩, .slice none 0 0]) (t := 49) (fr := (0, 0)) (heap_alloc_new w8 _)) ?c2 (by omega) ?c4 ?c5 ?c6 _ rfl ?_))
          case c2 => intro y hy; simp at hy; rcases hy with rfl | rfl | rfl <;> rfl
          case c4 => unfold maxLen; omega
          case c5 => omega
          case c6 => rw [hsAh.out]; have := h78.out.size; omega
          intro gg cap wq hown1 hgrow hat hltg
          rw [← hsAh.out] at hat
          have hgrowh := Lib.hid hgrow
          obtain ⟨hTq, hFq, hnb⟩ := app_terms (k := 2) (u := .slice (some ⟨gg, 0, none⟩) (o.ts.len + 1) cap) (r := .cons false ⟨#[]⟩ .nil .nil) (W7 := w7) (b := b11) (bel_step h78.out (bel_laid w8 _)) hb11w hzs (by rw [hsAh.out]; omega) hrowH.out hltH.out hGH.out hown1 hgrow hat (fun W s => none_row W za s)
          have hkeep : ∀ j v, Wc w8 b11 j v → Wc wq b11 j v := fun j v h => ⟨hgrowh.out.cell (cell_below (bel_laid w8 _) h.1) (fun e => hnb e.symm), (hgrowh.out.frozen_far _ (by rw [hsAh.out]; exact Nat.lt_succ_of_lt hb8w) (fun e => hnb e.symm)).trans (h.below (bel_laid w8 _)).2⟩
          have V0 := hkeep _ _ Y0
          have V1 := hkeep _ _ Y1
          have V2 := hkeep _ _ Y2
          have V3 := hkeep _ _ Y3
          have hXq := Lib.hid (hXA.out.grown hgrow (by have := hX8.out.size; rw [hsAh.out]; omega) (fun g e => Nat.le_trans hza (hownH.out.lt g e).1))
          have hTqh := Lib.hid hTq
          have hFqh := Lib.hid hFq
          have vv := V2.1
          have ff := V2.2
          clear hgrow hgrowh hown1 hat hTq hFq hkeep hXA zz
          go_upto_region 29 with fail
          obtain ⟨w9, hw9⟩ : ∃ w9, wq.setCell ⟨b11, 2, none⟩ (.slice (some ⟨gg, 0, none⟩) (o.ts.len + 1) cap) = w9 := ⟨_, rfl⟩
          have hX9 : Below wr.heap.size wr w9 := by rw [← hw9]; exact hXq.out.setCell (p := ⟨b11, _, none⟩) hb11r _
          have hbad : Hid (FVal w9 (o.bad 4) (.agg #[.int .u8 o.op, .string o.n, .slice (some ⟨gg, 0, none⟩) (o.ts.len + 1) cap, .slice p8 o.sub.len n8])) := Lib.hid ⟨_, _, rfl, by rw [← hw9]; exact hTqh.out, by rw [← hw9]; exact hFqh.out⟩
          have e0 : w9.cell? ⟨b11, 0, none⟩ = some (.int .u8 o.op) := by rw [← hw9, set_off (.inr (by omega))]; exact V0.1
          have e1 : w9.cell? ⟨b11, 1, none⟩ = some (.string o.n) := by rw [← hw9, set_off (.inr (by omega))]; exact V1.1
          have e2 : w9.cell? ⟨b11, 2, none⟩ = some (.slice (some ⟨gg, 0, none⟩) (o.ts.len + 1) cap) := by rw [← hw9]; exact set_on vv
          have e3 : w9.cell? ⟨b11, 3, none⟩ = some (.slice p8 o.sub.len n8) := by rw [← hw9, set_off (.inr (by omega))]; exact V3.1
          rw [hw9]
          clear vv ff V0 V1 V2 V3 Y0 Y1 Y2 Y3 hw9 hTqh hFqh hXq hnb hi hz0 hz1 hz2 hltg
          obtain ⟨h, hput, shz, hrf, hrt, hbz⟩ := FT.bad_put hpth.out hfrh.out s1 4
          have hputh := Lib.hid hput
          have hrth := Lib.hid hrt
          have hbw9 := bel_step hbwh.out hX9
          have hk9 := Lib.hid (k1h.out.next hbw9)
          have HCW := Lib.hid (with_some f (o.bad 4) h l hputh.out _ _ _ w9 hk9.out.val hbad.out (LSl.below hX9 (row_list hownh.out)) (by omega) (by omega) hbz)
          obtain ⟨c10, c11, c12, c13, -⟩ := hk9.out
          clear hput hrt hbw9 hX9
          go_wp2_with fail
          refine HCW.out.mono ?_
          rintro e wa ⟨⟨q1, m1, q2, m2, rfl, hvh⟩, hba⟩
          obtain ⟨wb, hwb, hbb, kh⟩ := box_of (w := w) (bel_step hk9.out.2.2.2.2.1 hba) hvh 25
          have khh := Lib.hid kh
          have hRh := Lib.hid (right_any h shz _ wb (hrwh.out.of kh.2.2.2.2.1) kh.val)
          rw [hrf] at hRh
          clear HCW hba hbb kh hvh c10 c11 c12 c13 e0 e1 e2 e3 hrf
          obtain ⟨c10, c11, c12, c13, -⟩ := khh.out
          go_wp2_with fail
          refine hRh.out.mono ?_
          rintro e wc ⟨rfl, hbc⟩
          have khh := Lib.hid (khh.out.next hbc)
          have hSh := Lib.hid (schema_any h shz _ wc (hrwh.out.of khh.out.2.2.2.2.1) khh.out.val)
          clear hRh hbc c10 c11 c12 c13 hwb
          obtain ⟨c10, c11, c12, c13, -⟩ := khh.out
          obtain ⟨sb, hsb⟩ : ∃ sb, (h.fits && h.right true) = sb := ⟨_, rfl⟩
          rw [hsb] at hSh
          clear hsb
          go_wp2_with fail
          refine hSh.out.mono ?_
          rintro e wd ⟨rfl, hbd⟩
          have hfin := Lib.hid (bel_step khh.out.2.2.2.2.1 hbd)
          clear hSh hbd c10 c11 c12 c13
          cases sb
          · go_wp2_with fail
            go_ret
            exact ⟨rfl, hfin.out⟩
          · go_wp2_with fail
            go_ret
            exact ⟨rfl, hfin.out⟩
        · have zz0 := Y0.1
          have zz1 := Y1.1
          have zz2 := Y2.1
          have zz3 := Y3.1
          have ff0 := Y0.2
          have ff1 := Y1.2
          have ff2 := Y2.2
          have ff3 := Y3.2
          go_upto_region 29 with fail
          obtain ⟨w9, hw9, q0, q1, q2, q3, -, hbel9, -⟩ := set4o w8 b11 0 (.int .u8 15) (.string ⟨#[63, 65]⟩) (.slice none 0 0) (.slice none 0 0) Y0 (by simpa using Y1) (by simpa using Y2) (by simpa using Y3)
          simp only [Nat.zero_add] at hw9 q1 q2 q3
          rw [hw9]
          have hX9 := hbel9 _ _ hX8.out hb11r
          have hbad : Hid (FVal w9 (o.bad 5) (.agg #[.int .u8 15, .string ⟨#[63, 65]⟩, .slice none 0 0, .slice none 0 0])) := Lib.hid ⟨_, _, rfl, ⟨none, 0, rfl, .inl rfl⟩, ⟨none, 0, rfl, .inl rfl⟩⟩
          have e0 := q0.1
          have e1 := q1.1
          have e2 := q2.1
          have e3 := q3.1
          clear zz0 zz1 zz2 zz3 ff0 ff1 ff2 ff3 Y0 Y1 Y2 Y3 hw9 q0 q1 q2 q3 hbel9
          obtain ⟨h, hput, shz, hrf, hrt, hbz⟩ := FT.bad_put hpth.out hfrh.out s1 5
          have hputh := Lib.hid hput
          have hrth := Lib.hid hrt
          have hbw9 := bel_step hbwh.out hX9
          have hk9 := Lib.hid (k1h.out.next hbw9)
          have HCW := Lib.hid (with_some f (o.bad 5) h l hputh.out _ _ _ w9 hk9.out.val hbad.out (LSl.below hX9 (row_list hownh.out)) (by omega) (by omega) hbz)
          obtain ⟨c10, c11, c12, c13, -⟩ := hk9.out
          clear hput hrt hbw9 hX9
          go_wp2_with fail
          refine HCW.out.mono ?_
          rintro e wa ⟨⟨q1, m1, q2, m2, rfl, hvh⟩, hba⟩
          obtain ⟨wb, hwb, hbb, kh⟩ := box_of (w := w) (bel_step hk9.out.2.2.2.2.1 hba) hvh 25
          have khh := Lib.hid kh
          have hRh := Lib.hid (right_any h shz _ wb (hrwh.out.of kh.2.2.2.2.1) kh.val)
          rw [hrf] at hRh
          clear HCW hba hbb kh hvh c10 c11 c12 c13 e0 e1 e2 e3 hrf
          obtain ⟨c10, c11, c12, c13, -⟩ := khh.out
          go_wp2_with fail
          refine hRh.out.mono ?_
          rintro e wc ⟨rfl, hbc⟩
          have khh := Lib.hid (khh.out.next hbc)
          have hSh := Lib.hid (schema_any h shz _ wc (hrwh.out.of khh.out.2.2.2.2.1) khh.out.val)
          clear hRh hbc c10 c11 c12 c13 hwb
          obtain ⟨c10, c11, c12, c13, -⟩ := khh.out
          rw [hrth.out (by trivial) hfitsh.out] at hSh
          go_wp2_with fail
          refine hSh.out.mono ?_
          rintro e wd ⟨rfl, hbd⟩
          have hfin := Lib.hid (bel_step khh.out.2.2.2.2.1 hbd)
          clear hSh hbd c10 c11 c12 c13
          go_wp2_with fail
          go_ret
          exact ⟨rfl, hfin.out⟩
        · have hb8w : b11 < w8.heap.size := lt_of_cell Y0.1
          have hlen := o.ts.len_le
          have hosz : o.ts.size ≤ 1000 := by have := Fs.part_size l f o hpth.out; have : o.size = o.ts.size + o.sub.size + 1 := rfl; omega
          obtain ⟨i0, hi, hz0, hi1, hi2⟩ := info_parts info50
          have hlt8 := hownH.out.lt
          have hone : ∀ u ∈ (a5.toList : List Value), u.oneCell' = true := by decide
          have hnb8 : Hid (some b11 ≠ (Value.slice p9 o.ts.len n9).ownBlock) := Lib.hid fun e => by have := (hlt8 b11 e.symm).2; omega
          go_upto_region 28 with fail
          refine wp_region_run (by kernel_rfl) 129 [92, 93, 94, 95, 96, 97, 98, 99, 100, 101] (JA w8 [(0, 92, .pointer (some ⟨b11, 2, none⟩)), (1, 93, .slice p9 o.ts.len n9), (2, 94, aV), (3, 95, aV), (4, 96, aV), (5, 97, aV), (6, 98, aV), (9, 101, .pointer (some ⟨b11, 2, none⟩))] 7 99 8 100 10 a5.toList za 49 3 o.ts.len 5 (.slice p9 o.ts.len n9) xs9 (fun u W => W.setCell ⟨b11, 2, none⟩ u)) (by kernel_rfl) rfl (JA.start _ _) ?hst ?hend
          case hst =>
            have hok : okA [(0, 92, .pointer (some ⟨b11, 2, none⟩)), (1, 93, .slice p9 o.ts.len n9), (2, 94, aV), (3, 95, aV), (4, 96, aV), (5, 97, aV), (6, 98, aV), (9, 101, .pointer (some ⟨b11, 2, none⟩))] 7 99 8 100 10 = true := by kernel_rfl
            refine ⟨?_, ?_, ?_, ?_, ?_, ?_, ?_, ?_, ?_, ?_, ?_, trivial⟩
            · intro l g W hun hdep hcl hJ hg ha hp
              exact op_val rfl rfl (ex_field rfl (eval_tmp ((ha 11 (by kernel_rfl)).trans rfl)) field25_2) ⟨_, hp 92 _ (by kernel_rfl), JA.made hok hJ (.head _) (.inl rfl)⟩
            · intro l g W hun hdep hcl hJ hg ha hp
              have hA : l 8 = false := off_of (fun h => hcl 8 1 h (by kernel_rfl)) hun
              exact op_val rfl rfl (ex_load rfl ((eval_tmp (hg 92 (by kernel_rfl))).trans (hJ.lit _ (.head _) (hdep 0 (by kernel_rfl)))) (loadTs (cell_below (hJ.low hA) Y2.1))) ⟨_, hp 93 _ (by kernel_rfl), JA.made hok hJ (.tail _ (.head _)) (.inl rfl)⟩
            · intro l g W hun hdep hcl hJ hg ha hp
              have hA : l 8 = false := off_of (fun h => hcl 7 2 (hcl 8 7 h (by kernel_rfl)) (by kernel_rfl)) hun
              refine op_call rfl rfl (ex_call2 (enters_of Tryd.func25 (by kernel_rfl) rfl) rfl rfl rfl) ((term_any W).mono ?_)
              rintro e W' ⟨rfl, hb⟩
              exact ⟨_, rfl, _, hp 94 _ (by kernel_rfl), JA.made hok hJ (.tail _ (.tail _ (.head _))) (.inr ⟨hA, hb⟩)⟩
            · intro l g W hun hdep hcl hJ hg ha hp
              have hA : l 8 = false := off_of (fun h => hcl 7 3 (hcl 8 7 h (by kernel_rfl)) (by kernel_rfl)) hun
              refine op_call rfl rfl (ex_call2 (enters_of Tryd.func25 (by kernel_rfl) rfl) rfl rfl rfl) ((term_any W).mono ?_)
              rintro e W' ⟨rfl, hb⟩
              exact ⟨_, rfl, _, hp 95 _ (by kernel_rfl), JA.made hok hJ (.tail _ (.tail _ (.tail _ (.head _)))) (.inr ⟨hA, hb⟩)⟩
            · intro l g W hun hdep hcl hJ hg ha hp
              have hA : l 8 = false := off_of (fun h => hcl 7 4 (hcl 8 7 h (by kernel_rfl)) (by kernel_rfl)) hun
              refine op_call rfl rfl (ex_call2 (enters_of Tryd.func25 (by kernel_rfl) rfl) rfl rfl rfl) ((term_any W).mono ?_)
              rintro e W' ⟨rfl, hb⟩
              exact ⟨_, rfl, _, hp 96 _ (by kernel_rfl), JA.made hok hJ (.tail _ (.tail _ (.tail _ (.tail _ (.head _))))) (.inr ⟨hA, hb⟩)⟩
            · intro l g W hun hdep hcl hJ hg ha hp
              have hA : l 8 = false := off_of (fun h => hcl 7 5 (hcl 8 7 h (by kernel_rfl)) (by kernel_rfl)) hun
              refine op_call rfl rfl (ex_call2 (enters_of Tryd.func25 (by kernel_rfl) rfl) rfl rfl rfl) ((term_any W).mono ?_)
              rintro e W' ⟨rfl, hb⟩
              exact ⟨_, rfl, _, hp 97 _ (by kernel_rfl), JA.made hok hJ (.tail _ (.tail _ (.tail _ (.tail _ (.tail _ (.head _)))))) (.inr ⟨hA, hb⟩)⟩
            · intro l g W hun hdep hcl hJ hg ha hp
              have hA : l 8 = false := off_of (fun h => hcl 7 6 (hcl 8 7 h (by kernel_rfl)) (by kernel_rfl)) hun
              refine op_call rfl rfl (ex_call2 (enters_of Tryd.func25 (by kernel_rfl) rfl) rfl rfl rfl) ((term_any W).mono ?_)
              rintro e W' ⟨rfl, hb⟩
              exact ⟨_, rfl, _, hp 98 _ (by kernel_rfl), JA.made hok hJ (.tail _ (.tail _ (.tail _ (.tail _ (.tail _ (.tail _ (.head _))))))) (.inr ⟨hA, hb⟩)⟩
            · intro l g W hun hdep hcl hJ hg ha hp
              have hA : l 8 = false := off_of (fun h => hcl 8 7 h (by kernel_rfl)) hun
              exact op_val rfl rfl (ex_buildSlice5 rfl ((eval_tmp (hg 94 (by kernel_rfl))).trans (hJ.lit _ (.tail _ (.tail _ (.head _))) (hdep 2 (by kernel_rfl)))) ((eval_tmp (hg 95 (by kernel_rfl))).trans (hJ.lit _ (.tail _ (.tail _ (.tail _ (.head _)))) (hdep 3 (by kernel_rfl)))) ((eval_tmp (hg 96 (by kernel_rfl))).trans (hJ.lit _ (.tail _ (.tail _ (.tail _ (.tail _ (.head _))))) (hdep 4 (by kernel_rfl)))) ((eval_tmp (hg 97 (by kernel_rfl))).trans (hJ.lit _ (.tail _ (.tail _ (.tail _ (.tail _ (.tail _ (.head _)))))) (hdep 5 (by kernel_rfl)))) ((eval_tmp (hg 98 (by kernel_rfl))).trans (hJ.lit _ (.tail _ (.tail _ (.tail _ (.tail _ (.tail _ (.tail _ (.head _))))))) (hdep 6 (by kernel_rfl)))) lay5) ⟨_, hp 99 _ (by kernel_rfl), JA.lay hok hJ hA rfl⟩
            · intro l g W hun hdep hcl hJ hg ha hp
              have hS : l 10 = false := off_of (fun h => hcl 10 8 h (by kernel_rfl)) hun
              obtain ⟨bn, e99, hc⟩ := hJ.laid (hdep 7 (by kernel_rfl)) hun
              have hlow := hJ.low hun
              refine wpOp_step rfl (fun K' hK => ?_)
              refine step_append_lies _ rfl (.tmp 93) (.tmp 99) _ rfl za 49 i0 _ 3 48 Tryd.underlying22 hi hz0 hi1 hi2 rfl (by omega) (.slice p9 o.ts.len n9) o.ts.len xs9 ((eval_tmp (hg 93 (by kernel_rfl))).trans (hJ.lit _ (.tail _ (.head _)) (hdep 1 (by kernel_rfl)))) (owns_below (bel_step h78.out hlow) hownH.out)
                ⟨bn, 0, none⟩ 5 5 a5.toList ((eval_tmp (hg 99 (by kernel_rfl))).trans e99) rfl hc hone (by omega) (by unfold maxLen; omega) (by omega) (by have := hlow.size; have := h78.out.size; omega) W.heap.size rfl ?_
              intro gg cap wq hown1 hgrow hat hlt
              exact hK _ _ ⟨_, hp 100 _ (by kernel_rfl), JA.grow hok hJ hun hS hown1 hgrow hat⟩
            · intro l g W hun hdep hcl hJ hg ha hp
              exact op_val rfl rfl (ex_field rfl (eval_tmp ((ha 11 (by kernel_rfl)).trans rfl)) field25_2) ⟨_, hp 101 _ (by kernel_rfl), JA.made hok hJ (.tail _ (.tail _ (.tail _ (.tail _ (.tail _ (.tail _ (.tail _ (.head _)))))))) (.inl rfl)⟩
            · intro l g W hun hdep hcl hJ hg ha hp
              have hA := hdep 8 (by kernel_rfl)
              obtain ⟨gg, cap, wa, hlow, hgrow, e100⟩ := hJ.grown hA hun
              exact op_skip rfl rfl (ex_store rfl ((eval_tmp (hg 101 (by kernel_rfl))).trans (hJ.lit _ (.tail _ (.tail _ (.tail _ (.tail _ (.tail _ (.tail _ (.tail _ (.head _)))))))) (hdep 9 (by kernel_rfl)))) (eval_tmp (hg 100 (by kernel_rfl))) (storeTs (hJ.wc hun (show Wc w8 b11 2 _ from Y2) hnb8.out) ⟨_, _, _, e100⟩)) ⟨g, put_none _ _, JA.store hok hJ hA hun⟩
          case hend =>
            intro ll gv W9 hl hJ
            obtain ⟨gg, cap, wa, wq, hbA, hown1, hgrow, hat, e100, rfl⟩ := hJ.end (hl 8 (of_decide_eq_true (by kernel_rfl))) (hl 10 (of_decide_eq_true (by kernel_rfl)))
            have e92 := hJ.lit _ (.head _) (hl 0 (of_decide_eq_true (by kernel_rfl)))
            have e93 := hJ.lit _ (.tail _ (.head _)) (hl 1 (of_decide_eq_true (by kernel_rfl)))
            have e94 := hJ.lit _ (.tail _ (.tail _ (.head _))) (hl 2 (of_decide_eq_true (by kernel_rfl)))
            have e95 := hJ.lit _ (.tail _ (.tail _ (.tail _ (.head _)))) (hl 3 (of_decide_eq_true (by kernel_rfl)))
            have e96 := hJ.lit _ (.tail _ (.tail _ (.tail _ (.tail _ (.head _))))) (hl 4 (of_decide_eq_true (by kernel_rfl)))
            have e97 := hJ.lit _ (.tail _ (.tail _ (.tail _ (.tail _ (.tail _ (.head _)))))) (hl 5 (of_decide_eq_true (by kernel_rfl)))
            have e98 := hJ.lit _ (.tail _ (.tail _ (.tail _ (.tail _ (.tail _ (.tail _ (.head _))))))) (hl 6 (of_decide_eq_true (by kernel_rfl)))
            have e101 := hJ.lit _ (.tail _ (.tail _ (.tail _ (.tail _ (.tail _ (.tail _ (.tail _ (.head _)))))))) (hl 9 (of_decide_eq_true (by kernel_rfl)))
            simp only at e92 e93 e94 e95 e96 e97 e98 e101
            simp only [zipV, List.map_cons, List.map_nil, puts, Act.put, List.setIfInBounds_toArray, List.set_cons_succ, List.set_cons_zero, e92, e93, e94, e95, e96, e97, e98, e101, e100]
            obtain ⟨u99, hu99⟩ : ∃ u, gv 99 = u := ⟨_, rfl⟩
            rw [hu99]
            clear e92 e93 e94 e95 e96 e97 e98 e101 e100 hJ hl hu99
            have hbsz := hbA.size
            obtain ⟨hTq, hFq, hnb⟩ := app_terms (k := 2) (u := .slice (some ⟨gg, 0, none⟩) (o.ts.len + 5) cap) (r := fiveA) (W7 := w7) (b := b11) (bel_step h78.out hbA) hb11w hzs (by omega) hrowH.out hltH.out hGH.out hown1 hgrow hat (fun W s => five_row W za s)
            have V0 := wq1 trivial hgrow hnb8.out (Y0.below hbA)
            have V1 := wq1 trivial hgrow hnb8.out (Y1.below hbA)
            have V2 := wq1 trivial hgrow hnb8.out (Y2.below hbA)
            have V3 := wq1 trivial hgrow hnb8.out (Y3.below hbA)
            have hXq := Lib.hid ((bel_step hX8.out hbA).grown hgrow (by have := hX8.out.size; omega) (fun g e => by have := (hlt8 g e).1; omega))
            have hTqh := Lib.hid hTq
            have hFqh := Lib.hid hFq
            have vv := V2.1
            obtain ⟨w9, hw9⟩ : ∃ w9, wq.setCell ⟨b11, 2, none⟩ (.slice (some ⟨gg, 0, none⟩) (o.ts.len + 5) cap) = w9 := ⟨_, rfl⟩
            have hX9 : Below wr.heap.size wr w9 := by rw [← hw9]; exact hXq.out.setCell (p := ⟨b11, _, none⟩) hb11r _
            have hbad : Hid (FVal w9 (o.bad 6) (.agg #[.int .u8 o.op, .string o.n, .slice (some ⟨gg, 0, none⟩) (o.ts.len + 5) cap, .slice p8 o.sub.len n8])) := Lib.hid ⟨_, _, rfl, by rw [← hw9]; exact hTqh.out, by rw [← hw9]; exact hFqh.out⟩
            have e0 : w9.cell? ⟨b11, 0, none⟩ = some (.int .u8 o.op) := by rw [← hw9, set_off (.inr (by omega))]; exact V0.1
            have e1 : w9.cell? ⟨b11, 1, none⟩ = some (.string o.n) := by rw [← hw9, set_off (.inr (by omega))]; exact V1.1
            have e2 : w9.cell? ⟨b11, 2, none⟩ = some (.slice (some ⟨gg, 0, none⟩) (o.ts.len + 5) cap) := by rw [← hw9]; exact set_on vv
            have e3 : w9.cell? ⟨b11, 3, none⟩ = some (.slice p8 o.sub.len n8) := by rw [← hw9, set_off (.inr (by omega))]; exact V3.1
            rw [hw9]
            clear vv V0 V1 V2 V3 Y0 Y1 Y2 Y3 hw9 hTqh hFqh hXq hnb hi hz0 hi1 hi2 hgrow hown1 hat hbA hTq hFq hone hbsz
            go_upto_region 29 with fail
            obtain ⟨h, hput, shz, hrf, hrt, hbz⟩ := FT.bad_put hpth.out hfrh.out s1 6
            have hputh := Lib.hid hput
            have hrth := Lib.hid hrt
            have hbw9 := bel_step hbwh.out hX9
            have hk9 := Lib.hid (k1h.out.next hbw9)
            have HCW := Lib.hid (with_some f (o.bad 6) h l hputh.out _ _ _ w9 hk9.out.val hbad.out (LSl.below hX9 (row_list hownh.out)) (by omega) (by omega) hbz)
            obtain ⟨c10, c11, c12, c13, -⟩ := hk9.out
            clear hput hrt hbw9 hX9
            go_wp2_with fail
            refine HCW.out.mono ?_
            rintro e wa ⟨⟨q1, m1, q2, m2, rfl, hvh⟩, hba⟩
            obtain ⟨wb, hwb, hbb, kh⟩ := box_of (w := w) (bel_step hk9.out.2.2.2.2.1 hba) hvh 25
            have khh := Lib.hid kh
            have hRh := Lib.hid (right_any h shz _ wb (hrwh.out.of kh.2.2.2.2.1) kh.val)
            rw [hrf] at hRh
            clear HCW hba hbb kh hvh c10 c11 c12 c13 e0 e1 e2 e3 hrf
            obtain ⟨c10, c11, c12, c13, -⟩ := khh.out
            go_wp2_with fail
            refine hRh.out.mono ?_
            rintro e wc ⟨rfl, hbc⟩
            have khh := Lib.hid (khh.out.next hbc)
            have hSh := Lib.hid (schema_any h shz _ wc (hrwh.out.of khh.out.2.2.2.2.1) khh.out.val)
            clear hRh hbc c10 c11 c12 c13 hwb
            obtain ⟨c10, c11, c12, c13, -⟩ := khh.out
            obtain ⟨sb, hsb⟩ : ∃ sb, (h.fits && h.right true) = sb := ⟨_, rfl⟩
            rw [hsb] at hSh
            clear hsb
            go_wp2_with fail
            refine hSh.out.mono ?_
            rintro e wd ⟨rfl, hbd⟩
            have hfin := Lib.hid (bel_step khh.out.2.2.2.2.1 hbd)
            clear hSh hbd c10 c11 c12 c13
            cases sb
            · go_wp2_with fail
              go_ret
              exact ⟨rfl, hfin.out⟩
            · go_wp2_with fail
              go_ret
              exact ⟨rfl, hfin.out⟩
        · have zz := Y1.1
          have ff := Y1.2
          have yy0 := Y0.1
          have yy1 := Y1.1
          go_upto_region 29 with fail
          obtain ⟨w9, hw9⟩ : ∃ w9, w8.setCell ⟨b11, 1, none⟩ (.string untilS) = w9 := ⟨_, rfl⟩
          rw [hw9]
          have hX9 : Below wr.heap.size wr w9 := by rw [← hw9]; exact hX8.out.setCell (p := ⟨b11, _, none⟩) hb11r _
          have h79 : Below w7.heap.size w7 w9 := by rw [← hw9]; exact h78.out.setCell (p := ⟨b11, _, none⟩) hb11w _
          have hbad : Hid (FVal w9 (o.bad 7) (.agg #[.int .u8 o.op, .string untilS, .slice p9 o.ts.len n9, .slice p8 o.sub.len n8])) := Lib.hid ⟨_, _, rfl, TSl.below h79 hT7.out, FSl.below h79 hF7.out⟩
          have e0 : w9.cell? ⟨b11, 0, none⟩ = some (.int .u8 o.op) := by rw [← hw9]; exact (by rw [set_off (.inr (by omega))]; exact yy0)
          have e1 : w9.cell? ⟨b11, 1, none⟩ = some (.string untilS) := by rw [← hw9]; exact set_on zz
          have e2 : w9.cell? ⟨b11, 2, none⟩ = some (.slice p9 o.ts.len n9) := by rw [← hw9, set_off (.inr (by omega))]; exact Y2.1
          have e3 : w9.cell? ⟨b11, 3, none⟩ = some (.slice p8 o.sub.len n8) := by rw [← hw9, set_off (.inr (by omega))]; exact Y3.1
          clear zz ff yy0 yy1 Y0 Y1 Y2 Y3 hw9 h79
          obtain ⟨h, hput, shz, hrf, hrt, hbz⟩ := FT.bad_put hpth.out hfrh.out s1 7
          have hputh := Lib.hid hput
          have hrth := Lib.hid hrt
          have hbw9 := bel_step hbwh.out hX9
          have hk9 := Lib.hid (k1h.out.next hbw9)
          have HCW := Lib.hid (with_some f (o.bad 7) h l hputh.out _ _ _ w9 hk9.out.val hbad.out (LSl.below hX9 (row_list hownh.out)) (by omega) (by omega) hbz)
          obtain ⟨c10, c11, c12, c13, -⟩ := hk9.out
          clear hput hrt hbw9 hX9
          go_wp2_with fail
          refine HCW.out.mono ?_
          rintro e wa ⟨⟨q1, m1, q2, m2, rfl, hvh⟩, hba⟩
          obtain ⟨wb, hwb, hbb, kh⟩ := box_of (w := w) (bel_step hk9.out.2.2.2.2.1 hba) hvh 25
          have khh := Lib.hid kh
          have hRh := Lib.hid (right_any h shz _ wb (hrwh.out.of kh.2.2.2.2.1) kh.val)
          rw [hrf] at hRh
          clear HCW hba hbb kh hvh c10 c11 c12 c13 e0 e1 e2 e3 hrf
          obtain ⟨c10, c11, c12, c13, -⟩ := khh.out
          go_wp2_with fail
          refine hRh.out.mono ?_
          rintro e wc ⟨rfl, hbc⟩
          have khh := Lib.hid (khh.out.next hbc)
          have hSh := Lib.hid (schema_any h shz _ wc (hrwh.out.of khh.out.2.2.2.2.1) khh.out.val)
          clear hRh hbc c10 c11 c12 c13 hwb
          obtain ⟨c10, c11, c12, c13, -⟩ := khh.out
          obtain ⟨sb, hsb⟩ : ∃ sb, (h.fits && h.right true) = sb := ⟨_, rfl⟩
          rw [hsb] at hSh
          clear hsb
          go_wp2_with fail
          refine hSh.out.mono ?_
          rintro e wd ⟨rfl, hbd⟩
          have hfin := Lib.hid (bel_step khh.out.2.2.2.2.1 hbd)
          clear hSh hbd c10 c11 c12 c13
          cases sb
          · go_wp2_with fail
            go_ret
            exact ⟨rfl, hfin.out⟩
          · go_wp2_with fail
            go_ret
            exact ⟨rfl, hfin.out⟩
      · have g2 : (0 : Int) < (n : Int) % 5 := by omega
        have hol : 0 < o.sub.len := by omega
        obtain ⟨k, hk⟩ : ∃ k : Nat, (n : Int) % 5 % (o.sub.len : Int) = (k : Int) := ⟨((n : Int) % 5 % (o.sub.len : Int)).toNat, by have := Int.emod_nonneg ((n : Int) % 5) (show (o.sub.len : Int) ≠ 0 by omega); omega⟩
        have hkl : k < o.sub.len := by have := Int.emod_lt_of_pos ((n : Int) % 5) (show (0 : Int) < (o.sub.len : Int) by omega); omega
        have hkh := Lib.hid hk
        have hnh := Lib.hid (show 0 < n from by omega)
        clear hn5 hk
        go_upto_region 11 with fail
        rw [hkh.out]
        obtain ⟨_, _, hea, -, hss⟩ := hvoh.out
        simp at hea
        obtain ⟨rfl, rfl⟩ := hea
        obtain ⟨pq, cq, bu, ou, heq, hpu, hfu⟩ := FSl.opened hss
        simp at heq
        obtain ⟨rfl, rfl⟩ := heq
        obtain rfl := hpu.resolve_left (by omega)
        have hfa := hfu.get (k := k) hkl
        have hpk := Lib.hid (FT.part_snoc hpth.out hkl)
        obtain ⟨fk, hfk⟩ : ∃ fk, o.sub.get k = fk := ⟨_, rfl⟩
        rw [hfk] at hpk hfa
        clear hfk hfu hss hpu
        obtain ⟨e0, e1, ⟨s2, e2, e2s⟩, ⟨s3, e3, e3s⟩⟩ := hfa
        have hfkvh := Lib.hid (show FVal w5 fk (fval fk s2 s3) from ⟨_, _, rfl, e2s, e3s⟩)
        obtain ⟨p2, c2, rfl, -⟩ := e2s
        obtain ⟨p3, c3, rfl, -⟩ := e3s
        have hlu := lt_of_cell e0
        have g0 := cell_below hbwh.out e0
        have g1' := cell_below hbwh.out e1
        have g2' := cell_below hbwh.out e2
        have g3 := cell_below hbwh.out e3
        have g0h := Lib.hid g0
        have g1h := Lib.hid g1'
        have g2h := Lib.hid g2'
        have g3h := Lib.hid g3
        have hne : bu ≠ b8 := by have := hb8h.out; omega
        have hlt7 := hownh.out.lt
        have hn8 : Hid (some b8 ≠ u7.ownBlock) := Lib.hid fun e => by have := (hlt7 b8 e.symm).1; omega
        have hnu : Hid (some bu ≠ u7.ownBlock) := Lib.hid fun e => by have := (hlt7 bu e.symm).1; have := hb8h.out; omega
        clear e0 e1 e2 e3
        obtain ⟨i0, hi, hz0, hi1, hi2⟩ := info_parts infoI
        have hbz := hbwh.out.size
        have hb8w : b8 < wr.heap.size := lt_of_cell y0h.out.1
        clear g0 g1' g2' g3 x0 x1 x2 x3
        refine wp_region_run (by kernel_rfl) 129 [45, 46, 47, 48, 49, 50, 51, 52, 53, 7] (fun lb g W => JA wr [(0, 45, u7), (1, 46, .int .i64 (k : Int)), (4, 49, .pointer (some ⟨b8, 3, none⟩)), (5, 50, .slice (some ⟨bu, ou, none⟩) o.sub.len b), (6, 51, .int .i64 (k : Int)), (7, 52, .pointer (some ⟨bu, ou + k * 4, none⟩)), (8, 53, fval fk (.slice p2 fk.ts.len c2) (.slice p3 fk.sub.len c3))] 2 47 3 48 10 [.int .i64 (k : Int)] (b8 + 1) 3 1 l.length 1 u7 (ints l) (fun _ W => (((W.setCell ⟨b8, 0, none⟩ (.int .u8 fk.op)).setCell ⟨b8, 1, none⟩ (.string fk.n)).setCell ⟨b8, 2, none⟩ (.slice p2 fk.ts.len c2)).setCell ⟨b8, 3, none⟩ (.slice p3 fk.sub.len c3)) lb g W ∧ (lb 9 = false → g 7 = u7) ∧ (lb 9 = true → g 7 = g 48)) (by kernel_rfl) rfl ⟨JA.start _ _, fun _ => rfl, fun h => by cases h⟩ ?hst ?hend
        case hst =>
          have hok : okA [(0, 45, u7), (1, 46, .int .i64 (k : Int)), (4, 49, .pointer (some ⟨b8, 3, none⟩)), (5, 50, .slice (some ⟨bu, ou, none⟩) o.sub.len b), (6, 51, .int .i64 (k : Int)), (7, 52, .pointer (some ⟨bu, ou + k * 4, none⟩)), (8, 53, fval fk (.slice p2 fk.ts.len c2) (.slice p3 fk.sub.len c3))] 2 47 3 48 10 = true := by kernel_rfl
          refine ⟨?_, ?_, ?_, ?_, ?_, ?_, ?_, ?_, ?_, ?_, ?_, trivial⟩
          · rintro lb g W hun hdep hcl ⟨hJ, h7, h7'⟩ hg ha hp
            have h9 : lb 9 = false := off_of (fun h => hcl 9 0 h (by kernel_rfl)) hun
            exact op_val rfl rfl (ex_move rfl ((eval_tmp (hg 7 (by kernel_rfl))).trans (h7 h9))) ⟨_, hp 45 _ (by kernel_rfl), JA.made hok hJ (.head _) (.inl rfl), h7, h7'⟩
          · rintro lb g W hun hdep hcl ⟨hJ, h7, h7'⟩ hg ha hp
            exact op_val rfl rfl (ex_move rfl (eval_tmp ((ha 10 (by kernel_rfl)).trans rfl))) ⟨_, hp 46 _ (by kernel_rfl), JA.made hok hJ (.tail _ (.head _)) (.inl rfl), h7, h7'⟩
          · rintro lb g W hun hdep hcl ⟨hJ, h7, h7'⟩ hg ha hp
            have hA : lb 3 = false := off_of (fun h => hcl 3 2 h (by kernel_rfl)) hun
            exact op_val rfl rfl (ex_buildSlice rfl ((eval_tmp (hg 46 (by kernel_rfl))).trans (hJ.lit _ (.tail _ (.head _)) (hdep 1 (by kernel_rfl)))) layI) ⟨_, hp 47 _ (by kernel_rfl), JA.lay hok hJ hA rfl, h7, h7'⟩
          · rintro lb g W hun hdep hcl ⟨hJ, h7, h7'⟩ hg ha hp
            have hS : lb 10 = false := off_of (fun h => hcl 10 3 h (by kernel_rfl)) hun
            have h9 : lb 9 = false := off_of (fun h => hcl 9 3 h (by kernel_rfl)) hun
            obtain ⟨bn, e47, hc⟩ := hJ.laid (hdep 2 (by kernel_rfl)) hun
            have hlow := hJ.low hun
            refine wpOp_step rfl (fun K' hK => ?_)
            refine step_append_lies _ rfl (.tmp 45) (.tmp 47) _ rfl (b8 + 1) 3 i0 _ 1 8 Tryd.underlying26 hi hz0 hi1 hi2 rfl (by omega) u7 l.length (ints l) ((eval_tmp (hg 45 (by kernel_rfl))).trans (hJ.lit _ (.head _) (hdep 0 (by kernel_rfl)))) (owns_below hlow hownh.out)
              ⟨bn, 0, none⟩ 1 1 [.int .i64 (k : Int)] ((eval_tmp (hg 47 (by kernel_rfl))).trans e47) rfl hc (by intro y hy; simp at hy; subst hy; rfl) (by omega) (by unfold maxLen; omega) (by omega) (by have := hlow.size; omega) W.heap.size rfl ?_
            intro gg cap wq hown1 hgrow hat hlt
            exact hK _ _ ⟨_, hp 48 _ (by kernel_rfl), JA.grow hok hJ hun hS hown1 hgrow hat, h7, fun h => by rw [show upd lb 3 true 9 = lb 9 from rfl, h9] at h; cases h⟩
          · rintro lb g W hun hdep hcl ⟨hJ, h7, h7'⟩ hg ha hp
            exact op_val rfl rfl (ex_field rfl (eval_tmp ((ha 8 (by kernel_rfl)).trans rfl)) field25_3) ⟨_, hp 49 _ (by kernel_rfl), JA.made hok hJ (.tail _ (.tail _ (.head _))) (.inl rfl), h7, h7'⟩
          · rintro lb g W hun hdep hcl ⟨hJ, h7, h7'⟩ hg ha hp
            have hS : lb 10 = false := off_of (fun h => hcl 10 5 h (by kernel_rfl)) hun
            exact op_val rfl rfl (ex_load rfl ((eval_tmp (hg 49 (by kernel_rfl))).trans (hJ.lit _ (.tail _ (.tail _ (.head _))) (hdep 4 (by kernel_rfl)))) (loadFs (hJ.cell hS y3h.out.1 hn8.out))) ⟨_, hp 50 _ (by kernel_rfl), JA.made hok hJ (.tail _ (.tail _ (.tail _ (.head _)))) (.inl rfl), h7, h7'⟩
          · rintro lb g W hun hdep hcl ⟨hJ, h7, h7'⟩ hg ha hp
            exact op_val rfl rfl (ex_move rfl (eval_tmp ((ha 10 (by kernel_rfl)).trans rfl))) ⟨_, hp 51 _ (by kernel_rfl), JA.made hok hJ (.tail _ (.tail _ (.tail _ (.tail _ (.head _))))) (.inl rfl), h7, h7'⟩
          · rintro lb g W hun hdep hcl ⟨hJ, h7, h7'⟩ hg ha hp
            exact op_val rfl rfl (ex_indexAddr rfl ((eval_tmp (hg 50 (by kernel_rfl))).trans (hJ.lit _ (.tail _ (.tail _ (.tail _ (.head _)))) (hdep 5 (by kernel_rfl)))) ((eval_tmp (hg 51 (by kernel_rfl))).trans (hJ.lit _ (.tail _ (.tail _ (.tail _ (.tail _ (.head _))))) (hdep 6 (by kernel_rfl)))) (indexFs hkl)) ⟨_, hp 52 _ (by kernel_rfl), JA.made hok hJ (.tail _ (.tail _ (.tail _ (.tail _ (.tail _ (.head _)))))) (.inl rfl), h7, h7'⟩
          · rintro lb g W hun hdep hcl ⟨hJ, h7, h7'⟩ hg ha hp
            have hS : lb 10 = false := off_of (fun h => hcl 10 8 h (by kernel_rfl)) hun
            exact op_val rfl rfl (ex_load rfl ((eval_tmp (hg 52 (by kernel_rfl))).trans (hJ.lit _ (.tail _ (.tail _ (.tail _ (.tail _ (.tail _ (.head _)))))) (hdep 7 (by kernel_rfl)))) (loadFo (hJ.cell hS g0h.out hnu.out) (hJ.cell hS g1h.out hnu.out) (hJ.cell hS g2h.out hnu.out) (hJ.cell hS g3h.out hnu.out))) ⟨_, hp 53 _ (by kernel_rfl), JA.made hok hJ (.tail _ (.tail _ (.tail _ (.tail _ (.tail _ (.tail _ (.head _))))))) (.inl rfl), h7, h7'⟩
          · rintro lb g W hun hdep hcl ⟨hJ, h7, h7'⟩ hg ha hp
            have hS : lb 10 = false := off_of (fun h => hcl 10 9 h (by kernel_rfl)) hun
            exact op_val rfl rfl (ex_assign rfl (eval_tmp (hg 48 (by kernel_rfl)))) ⟨_, hp 7 _ (by kernel_rfl), JA.side hJ (by decide) (by decide) (by decide) (by decide) (by decide) (by kernel_rfl), fun h => (by cases h), fun _ => rfl⟩
          · rintro lb g W hun hdep hcl ⟨hJ, h7, h7'⟩ hg ha hp
            have hA := hdep 3 (by kernel_rfl)
            obtain ⟨gg, cap, wa, hlow, hgrow, -⟩ := hJ.grown hA hun
            have s0 := hJ.wc hun y0h.out hn8.out
            have s1 := hJ.wc hun y1h.out hn8.out
            have s2 := hJ.wc hun y2h.out hn8.out
            have s3 := hJ.wc hun y3h.out hn8.out
            have hst : (Instr.storeAt 25 (.pointer (some ⟨b8, 0, none⟩)) (fval fk (.slice p2 fk.ts.len c2) (.slice p3 fk.sub.len c3))).run Tryd.prog W = _ := storeF s0 s1 s2 s3
            have he : g 53 = fval fk (.slice p2 fk.ts.len c2) (.slice p3 fk.sub.len c3) := hJ.lit _ (.tail _ (.tail _ (.tail _ (.tail _ (.tail _ (.tail _ (.head _))))))) (hdep 8 (by kernel_rfl))
            refine op_skip rfl rfl (ex_store rfl (eval_tmp ((ha 8 (by kernel_rfl)).trans rfl)) ((eval_tmp (hg 53 (by kernel_rfl))).trans he) hst) ?_
            refine ⟨g, put_none _ _, ?_, ?_, ?_⟩
            · have h8 := JA.store hok hJ hA hun
              exact h8
            · exact h7
            · exact h7'
        case hend =>
          rintro ll gv W9 hl ⟨hJ, -, h7'⟩
          obtain ⟨gg, cap, wa, wq, hbA, hown1, hgrow, hat, e48, rfl⟩ := hJ.end (hl 3 (of_decide_eq_true (by kernel_rfl))) (hl 10 (of_decide_eq_true (by kernel_rfl)))
          have e7 := h7' (hl 9 (of_decide_eq_true (by kernel_rfl)))
          rw [e48] at e7
          have e45 := hJ.lit _ (.head _) (hl 0 (of_decide_eq_true (by kernel_rfl)))
          have e46 := hJ.lit _ (.tail _ (.head _)) (hl 1 (of_decide_eq_true (by kernel_rfl)))
          have e49 := hJ.lit _ (.tail _ (.tail _ (.head _))) (hl 4 (of_decide_eq_true (by kernel_rfl)))
          have e50 := hJ.lit _ (.tail _ (.tail _ (.tail _ (.head _)))) (hl 5 (of_decide_eq_true (by kernel_rfl)))
          have e51 := hJ.lit _ (.tail _ (.tail _ (.tail _ (.tail _ (.head _))))) (hl 6 (of_decide_eq_true (by kernel_rfl)))
          have e52 := hJ.lit _ (.tail _ (.tail _ (.tail _ (.tail _ (.tail _ (.head _)))))) (hl 7 (of_decide_eq_true (by kernel_rfl)))
          have e53 := hJ.lit _ (.tail _ (.tail _ (.tail _ (.tail _ (.tail _ (.tail _ (.head _))))))) (hl 8 (of_decide_eq_true (by kernel_rfl)))
          simp only at e45 e46 e49 e50 e51 e52 e53
          simp only [zipV, List.map_cons, List.map_nil, puts, Act.put, List.setIfInBounds_toArray, List.set_cons_succ, List.set_cons_zero, e45, e46, e49, e50, e51, e52, e53, e48, e7]
          obtain ⟨u47, hu47⟩ : ∃ u, gv 47 = u := ⟨_, rfl⟩
          rw [hu47]
          clear e45 e46 e49 e50 e51 e52 e53 e48 e7 hJ hl hu47 h7'
          obtain ⟨w9, hw9, q0, q1, q2, q3, -, hbel9, -⟩ := set4o wq b8 0 (.int .u8 fk.op) (.string fk.n) (.slice p2 fk.ts.len c2) (.slice p3 fk.sub.len c3) (wq1 trivial hgrow hn8.out (Wc.below hbA y0h.out)) (wq1 trivial hgrow hn8.out (Wc.below hbA y1h.out)) (wq1 trivial hgrow hn8.out (Wc.below hbA y2h.out)) (wq1 trivial hgrow hn8.out (Wc.below hbA y3h.out))
          simp only [Nat.zero_add] at hw9 q1 q2 q3
          have hbq : Below w5.heap.size w5 wq := (bel_step hbwh.out hbA).grown hgrow (by have := hbA.size; omega) (fun g e => by have := (hlt7 g e).1; have := hb8h.out; omega)
          have hb9 := Lib.hid (hbel9 _ _ hbq (by have := hb8h.out; omega))
          have hgb : gg ≠ b8 := by have := (hown1.lt gg rfl).1; omega
          have hown9 : (wq.setCells b8 0 [.int .u8 fk.op, .string fk.n, .slice p2 fk.ts.len c2, .slice p3 fk.sub.len c3]).ownsRow (b8 + 1) 3 1 (.slice (some ⟨gg, 0, none⟩) (l.length + 1) cap) (l.length + 1) (ints l ++ [.int .i64 (k : Int)]) :=
            hown1.kept (grown_setCells b8 _ 0 wq) (.inr (by simp [Value.ownBlock]; exact hgb))
          rw [show wq.setCells b8 0 [.int .u8 fk.op, .string fk.n, .slice p2 fk.ts.len c2, .slice p3 fk.sub.len c3] = w9 from hw9] at hown9
          have hownh9 := Lib.hid hown9
          have q0h := Lib.hid q0
          have q1h := Lib.hid q1
          have q2h := Lib.hid q2
          have q3h := Lib.hid q3
          rw [hw9]
          clear hw9 q0 q1 q2 q3 hbel9 hbq hown9 hown1 hgrow hat hi hz0 hi1 hi2 hne hlt7 hbA
          go_wp2_with fail
          go_roundw
          case rel =>
            refine ⟨l ++ [(k : Int)], fk, n / 5, p2, p3, c2, c3, ?_, ?_, hpk.out, ?_, hfkvh.out, q0h.out, q1h.out, q2h.out, q3h.out, hb9.out⟩
            · first | rfl | (simp) | go_num
            · have := hnh.out; simp; omega
            · have h9 := hownh9.out
              rw [show ints (l ++ [(k : Int)]) = ints l ++ [.int .i64 (k : Int)] by simp [ints], List.length_append]
              exact h9
          case measure => have := hnh.out; simp [intOf]; omega
end Go.Proofs.YtngdieldgnlogaaDoor
