/- The law's own overwriting: OverTerms and Over. -/
import Derived.Test.YtngdieldgnlogaaDoorOV
import Derived.Test.YtngdieldgnlogaaDoorWT
namespace Go.Proofs.YtngdieldgnlogaaDoor
open Go Go.RowKit
set_option maxRecDepth 100000
set_option linter.unusedVariables false
theorem set3o (W : World) (g o : Nat) (a0 a1 a2 : Value) {x0 x1 x2 : Value} (y0 : Wc W g o x0) (y1 : Wc W g (o + 1) x1) (y2 : Wc W g (o + 2) x2) :
    ∃ W', ((W.setCell ⟨g, o, none⟩ a0).setCell ⟨g, o + 1, none⟩ a1).setCell ⟨g, o + 2, none⟩ a2 = W' ∧ Wc W' g o a0 ∧ Wc W' g (o + 1) a1 ∧ Wc W' g (o + 2) a2 ∧
      (∀ x i v, ¬ (x = g ∧ o ≤ i ∧ i < o + 3) → Wc W x i v → Wc W' x i v) ∧ (∀ S : Nat → Prop, S g → But S W W') := by
  refine ⟨_, rfl, ?_, ?_, ?_, fun x i v hn hc => ?_, fun S hS => ((But.set (p := ⟨g, _, none⟩) hS _).trans (But.set (p := ⟨g, _, none⟩) hS _)).trans (But.set (p := ⟨g, _, none⟩) hS _)⟩
  · exact wc_off (.inr (by omega)) (wc_off (.inr (by omega)) (wc_on y0.1 y0.2))
  · exact wc_off (.inr (by omega)) (wc_on (wc_off (v := a0) (.inr (by omega)) y1).1 (wc_off (.inr (by omega)) y1).2)
  · exact wc_on (wc_off (v := a1) (.inr (by omega)) (wc_off (v := a0) (.inr (by omega)) y2)).1 (wc_off (.inr (by omega)) (wc_off (.inr (by omega)) y2)).2
  · have hne : ∀ j, j < 3 → x ≠ g ∨ i ≠ o + j := fun j hj => by
      by_cases e : x = g
      · exact .inr (fun e2 => hn ⟨e, by omega, by omega⟩)
      · exact .inl e
    exact wc_off (hne 2 (by omega)) (wc_off (hne 1 (by omega)) (wc_off (hne 0 (by omega)) hc))
theorem TSp.opened {W : World} {t : Ts} {s : Value} {S : Nat → Prop} (h : TSp W t s S) : ∃ p c b o, s = .slice p t.len c ∧ (t.len = 0 ∨ (p = some ⟨b, o, none⟩ ∧ S b)) ∧ TsSp W t b o (fun x => S x ∧ x ≠ b) := by
  obtain ⟨p, c, hs, h0 | ⟨b, o, hp, hb, h⟩⟩ := h
  · cases t with
    | nil => exact ⟨p, c, 0, 0, hs, .inl rfl, trivial⟩
    | cons => simp [Ts.len] at h0
  · exact ⟨p, c, b, o, hs, .inr ⟨hp, hb⟩, h⟩
theorem FSp.opened {W : World} {t : Fs} {s : Value} {S : Nat → Prop} (h : FSp W t s S) : ∃ p c b o, s = .slice p t.len c ∧ (t.len = 0 ∨ (p = some ⟨b, o, none⟩ ∧ S b)) ∧ FsSp W t b o (fun x => S x ∧ x ≠ b) := by
  obtain ⟨p, c, hs, h0 | ⟨b, o, hp, hb, h⟩⟩ := h
  · cases t with
    | nil => exact ⟨p, c, 0, 0, hs, .inl rfl, trivial⟩
    | cons => simp [Fs.len] at h0
  · exact ⟨p, c, b, o, hs, .inr ⟨hp, hb⟩, h⟩
def OverT (ts : Ts) : Prop := ∀ (sa : Value) (S : Nat → Prop) (w : World), TSp w ts sa S → ts.size ≤ 1000000 →
  Calls Tryd.prog 30 #[sa] w fun e w' => (∃ r, e = .returned r) ∧ TSp w' (leafT ts.len) sa S ∧ But S w w'
set_option maxHeartbeats 4000000 in
theorem overT_step (ts : Ts) (ih : ∀ t : Ts, t.size < ts.size → OverT t) : OverT ts := by
  intro sa S w h hs
  obtain ⟨p, c, b, o, rfl, hp, ht⟩ := TSp.opened h
  have hth := Lib.hid ht
  clear h ht
  go_enter Tryd.func30, Tryd.ntmps30
  go_wp2
  go_loopw [2] (fun i wr => ∃ (k : Nat) (r : Ts), i = .int .i64 k ∧ k + r.len = ts.len ∧ r.size ≤ ts.size ∧ TsSp wr (leafT k) b o (fun _ => False) ∧ TsSp wr r b (o + k * 3) (fun x => S x ∧ x ≠ b) ∧ But S w wr) (fun i _ => ts.len - (intOf i).toNat)
  case atStart => exact ⟨0, ts, rfl, by omega, Nat.le_refl _, trivial, by simpa using hth.out, But.refl _ _⟩
  case round =>
    obtain ⟨k, r, rfl, hk, hrs, hq, hr, hbut⟩ := hrel
    have hl := ts.len_le
    cases r with
    | nil =>
      simp only [Ts.len] at hk
      have hk' : k = ts.len := by omega
      subst hk'
      go_wp2
      refine bodyPost_end (results_none rfl _ _ _) rfl ?_
      refine ⟨⟨_, rfl⟩, ⟨p, c, by rw [leafT_len], ?_⟩, hbut⟩
      rw [leafT_len]
      rcases hp with hp | ⟨hp, hb⟩
      · exact .inl hp
      · exact .inr ⟨b, o, hp, hb, TsSp.mono (fun _ h => h.elim) hq⟩
    | cons v n t2 r' =>
      simp only [Ts.len] at hk
      simp only [Ts.size] at hrs
      obtain ⟨h0, h1, S1, S2, q1, q2, ⟨s, h2, hsc⟩, hr'⟩ := hr
      rcases hp with hp | ⟨hp, hb⟩
      · omega
      subst hp
      have hlt : (k : Int) < (ts.len : Int) := by omega
      have c2 := h2.1
      have hcall := Lib.hid (ih t2 (by omega) s S1 wr hsc (by omega))
      obtain ⟨ps, cs, rfl⟩ := SlSp.slice hsc
      have hqh := Lib.hid hq
      have hrh := Lib.hid hr'
      have hbh := Lib.hid hbut
      have hh0 := Lib.hid h0
      have hh1 := Lib.hid h1
      have hh2 := Lib.hid h2
      have hn1 : ¬ S1 b := fun hx => (q1 b hx).2 rfl
      clear ih hq hr' hbut h0 h1 h2 hsc hth
      go_wp2_with fail
      refine hcall.out.mono ?_
      rintro e w5 ⟨⟨rv, rfl⟩, -, hb5⟩
      have d0 := Wc.but hb5 hn1 hh0.out
      have d1 := Wc.but hb5 hn1 hh1.out
      have d2 := Wc.but hb5 hn1 hh2.out
      have hq5 := Lib.hid (TsSp.keep (W' := w5) (fun _ _ _ hx _ => hx.elim) (fun i v _ _ hc => Wc.but hb5 hn1 hc) hqh.out)
      have hr5 := Lib.hid (TsSp.keep (W' := w5) (fun x i v hx hc => Wc.but hb5 (q2 x hx).2 hc) (fun i v _ _ hc => Wc.but hb5 hn1 hc) hrh.out)
      have hb5h := Lib.hid (hbh.out.trans (hb5.mono fun x hx => (q1 x hx).1))
      have z0 := d0.1
      have z1 := d1.1
      have z2 := d2.1
      have f0 := d0.2
      have f1 := d1.2
      have f2 := d2.2
      clear hcall hqh hrh hbh hh0 hh1 hh2 c2 hb5
      go_wp2_with fail
      obtain ⟨W6, hW6, e0, e1, e2, hfar, hset⟩ := set3o w5 b (o + k * 3) (.bool false) (.string ⟨#[45]⟩) (.slice none 0 0) d0 d1 d2
      refine ⟨⟨k + 1, r', by go_num, by omega, by omega, ?_, ?_, ?_⟩, ?_⟩
      · rw [hW6, ← leafT_app]
        exact TsSp.app (S1 := fun _ => False) (S2 := fun _ => False) (fun _ h => h) (fun _ h => h.elim) (TsSp.keep (fun _ _ _ hx _ => hx.elim) (fun i v hi hj hc => hfar b i v (by rw [leafT_len] at hj; omega) hc) hq5.out)
          (by rw [leafT_len]; exact ⟨e0, e1, fun _ => False, fun _ => False, fun _ h => h, fun _ h => h.elim, ⟨_, e2, none, 0, rfl, .inl rfl⟩, trivial⟩)
      · rw [hW6, show o + (k + 1) * 3 = o + k * 3 + 3 by omega]
        exact TsSp.mono (fun x hx => (q2 x hx).1) (TsSp.keep (fun x i v hx hc => hfar x i v (fun h => (q2 x hx).1.2 h.1) hc) (fun i v hi hj hc => hfar b i v (by omega) hc) hr5.out)
      · rw [hW6]; exact hb5h.out.trans (hset S hb)
      · simp [intOf]; omega
theorem overT_any (ts : Ts) : OverT ts := overT_step ts fun t _ => overT_any t
termination_by ts.size
theorem cell_but_eq {S : Nat → Prop} {w w' : World} (h : But S w w') {b o : Nat} (hb : ¬ S b) (hl : b < w.heap.size) : w'.cell? ⟨b, o, none⟩ = w.cell? ⟨b, o, none⟩ :=
  World.cell?_of_block (a := ⟨b, o, none⟩) (h.block b hl hb)
def OverF (ts : Fs) : Prop := ∀ (sa : Value) (S : Nat → Prop) (w : World), FSp w ts sa S → ts.size ≤ 1000000 →
  Calls Tryd.prog 29 #[sa] w fun e w' => (∃ r, e = .returned r) ∧ FSp w' (leafF ts.len) sa S ∧ (∀ b o c, sa = .slice (some ⟨b, o, none⟩) ts.len c → FsOv w w' ts b o (fun x => S x ∧ x ≠ b)) ∧ But S w w'
set_option maxHeartbeats 8000000 in
theorem overF_step (ts : Fs) (ih : ∀ t : Fs, t.size < ts.size → OverF t) : OverF ts := by
  intro sa S w h hs
  obtain ⟨p, c, b, o, rfl, hp, ht⟩ := FSp.opened h
  have hth := Lib.hid ht
  clear h ht
  go_enter Tryd.func29, Tryd.ntmps29
  go_wp2
  go_loopw [2] (fun i wr => ∃ (k : Nat) (q r : Fs) (Sq Sr : Nat → Prop), i = .int .i64 k ∧ q.len = k ∧ q.app r = ts ∧ k + r.len = ts.len ∧ r.size ≤ ts.size ∧ FsSp wr (leafF k) b o (fun _ => False) ∧ (∀ x, Sq x → S x ∧ x ≠ b) ∧ (∀ x, Sr x → (S x ∧ x ≠ b) ∧ ¬ Sq x) ∧
    FsOv w wr q b o Sq ∧ FsSp wr r b (o + k * 4) Sr ∧ (∀ i, o + k * 4 ≤ i → wr.cell? ⟨b, i, none⟩ = w.cell? ⟨b, i, none⟩) ∧ But S w wr) (fun i _ => ts.len - (intOf i).toNat)
  case atStart => exact ⟨0, .nil, ts, fun _ => False, fun x => S x ∧ x ≠ b, rfl, rfl, rfl, by omega, Nat.le_refl _, trivial, fun _ h => h.elim, fun x h => ⟨h, fun h => h⟩, trivial, by simpa using hth.out, fun _ _ => rfl, But.refl _ _⟩
  case round =>
    obtain ⟨k, q, r, Sq, Sr, rfl, hqk, happ, hk, hrs, hq, hSq, hSr, hov, hr, hold, hbut⟩ := hrel
    have hl := ts.len_le
    cases r with
    | nil =>
      simp only [Fs.len] at hk
      have hk' : k = ts.len := by omega
      rw [Fs.app_nil] at happ
      have happh := Lib.hid happ
      have hqkh := Lib.hid hqk
      subst hk'
      have holdh := Lib.hid hold
      clear happ hqk hold hth
      go_wp2
      refine bodyPost_end (results_none rfl _ _ _) rfl ?_
      refine ⟨⟨_, rfl⟩, ⟨p, c, by rw [leafF_len], ?_⟩, fun b' o' c' e => ?_, hbut⟩
      · rw [leafF_len]
        rcases hp with hp | ⟨hp, hb⟩
        · exact .inl hp
        · exact .inr ⟨b, o, hp, hb, FsSp.mono (fun _ h => h.elim) hq⟩
      · rcases hp with hp | ⟨hp, hb⟩
        · cases ts with
          | nil => trivial
          | cons => simp [Fs.len] at hp
        · subst hp
          simp at e
          obtain ⟨⟨rfl, rfl⟩, rfl⟩ := e
          rw [← happh.out]
          exact FsOv.mono hSq hov
    | cons op n t2 sub r' =>
      simp only [Fs.len] at hk
      simp only [Fs.size] at hrs
      obtain ⟨h0, h1, S1, S2, S3, q1, q2, q3, ⟨s, h2, hsc⟩, ⟨s', h3, hsc'⟩, hr'⟩ := hr
      rcases hp with hp | ⟨hp, hb⟩
      · omega
      subst hp
      have hlt : (k : Int) < (ts.len : Int) := by omega
      have c2 := h2.1
      have hcall := Lib.hid (overT_any t2 s S1 wr hsc (by omega))
      have hcall2 := Lib.hid (fun V hV => ih sub (by omega) s' S2 V hV (by omega))
      obtain ⟨ps, cs, rfl⟩ := SlSp.slice hsc
      obtain ⟨pt, ct, rfl⟩ := SlSp.slice hsc'
      have hqh := Lib.hid hq
      have hovh := Lib.hid hov
      have hrh := Lib.hid hr'
      have hbh := Lib.hid hbut
      have hh0 := Lib.hid h0
      have hh1 := Lib.hid h1
      have hh2 := Lib.hid h2
      have hh3 := Lib.hid h3
      have hsch := Lib.hid hsc'
      have happh := Lib.hid happ
      have hqkh := Lib.hid hqk
      have holdh := Lib.hid hold
      have hbl : b < wr.heap.size := h0.lt
      have hn1 : ¬ S1 b := fun hx => (hSr b (q1 b hx)).1.2 rfl
      have hn2 : ¬ S2 b := fun hx => (hSr b (q2 b hx).1).1.2 rfl
      clear ih hq hr' hbut h0 h1 h2 h3 hsc hsc' hth hov happ hqk hold
      go_wp2_with fail
      refine hcall.out.mono ?_
      rintro e w5 ⟨⟨rv, rfl⟩, hT5, hb5⟩
      have d3 := Wc.but hb5 hn1 hh3.out
      have z3 := d3.1
      have hcall3 := Lib.hid (hcall2.out w5 (FSp.keep (fun x i v hx hc => Wc.but hb5 (q2 x hx).2 hc) hsch.out))
      have hT5h := Lib.hid hT5
      have hb5h := Lib.hid hb5
      clear hcall hcall2 c2 hb5 hT5 hsch
      go_wp2_with fail
      refine hcall3.out.mono ?_
      rintro e w6 ⟨⟨rv2, rfl⟩, hF6, -, hb6⟩
      have d0 := Wc.but hb6 hn2 (Wc.but hb5h.out hn1 hh0.out)
      have d1 := Wc.but hb6 hn2 (Wc.but hb5h.out hn1 hh1.out)
      have d2 := Wc.but hb6 hn2 (Wc.but hb5h.out hn1 hh2.out)
      replace d3 := Wc.but hb6 hn2 d3
      have hstep : ∀ x i v, ¬ S1 x → ¬ S2 x → Wc wr x i v → Wc w6 x i v := fun x i v h1 h2 hc => Wc.but hb6 h2 (Wc.but hb5h.out h1 hc)
      have hq6 := Lib.hid (FsSp.keep (W' := w6) (fun _ _ _ hx _ => hx.elim) (fun i v _ _ hc => hstep _ _ _ hn1 hn2 hc) hqh.out)
      have hov6 := Lib.hid (FsOv.keep (W' := w6) (fun x i v hx hc => hstep _ _ _ (fun h => (hSr x (q1 x h)).2 hx) (fun h => (hSr x (q2 x h).1).2 hx) hc) hovh.out)
      have hr6 := Lib.hid (FsSp.keep (W' := w6) (fun x i v hx hc => hstep _ _ _ (q3 x hx).2.1 (q3 x hx).2.2 hc) (fun i v _ _ hc => hstep _ _ _ hn1 hn2 hc) hrh.out)
      have hT6 := Lib.hid (TSp.keep (W' := w6) (fun x i v hx hc => Wc.but hb6 (fun h => (q2 x h).2 hx) hc) hT5h.out)
      have hF6h := Lib.hid hF6
      have hold6 : Hid (∀ i, o + k * 4 ≤ i → w6.cell? ⟨b, i, none⟩ = w.cell? ⟨b, i, none⟩) := Lib.hid (fun i hi => by
        rw [cell_but_eq hb6 hn2 (Nat.lt_of_lt_of_le hbl hb5h.out.size), cell_but_eq hb5h.out hn1 hbl]
        exact holdh.out i hi)
      have hb6h := Lib.hid ((hbh.out.trans (hb5h.out.mono fun x hx => (hSr x (q1 x hx)).1.1)).trans (hb6.mono fun x hx => (hSr x (q2 x hx).1).1.1))
      clear z3
      have z0 := d0.1
      have z1 := d1.1
      have z2 := d2.1
      have z3 := d3.1
      have f0 := d0.2
      have f1 := d1.2
      have f2 := d2.2
      have f3 := d3.2
      clear hcall3 hqh hovh hrh hbh hh0 hh1 hh2 hh3 hb6 hb5h hT5h hF6 holdh hstep
      go_wp2_with fail
      obtain ⟨W7, hW7, e0, e1, e2, e3, hfar, hbel, hs7⟩ := set4o w6 b (o + k * 4) (.int .u8 99) (.string ⟨#[]⟩) (.slice none 0 0) (.slice none 0 0) d0 d1 d2 d3
      have hset : But S w6 W7 := by
        rw [← hW7]
        exact (((But.set (p := ⟨b, _, none⟩) hb _).trans (But.set (p := ⟨b, _, none⟩) hb _)).trans (But.set (p := ⟨b, _, none⟩) hb _)).trans (But.set (p := ⟨b, _, none⟩) hb _)
      rw [hW7]
      have hkeep : ∀ x i v, x ≠ b → Wc w6 x i v → Wc W7 x i v := fun x i v hx hc => hfar x i v (fun h => hx h.1) hc
      refine ⟨⟨k + 1, q.app (.cons op n t2 sub .nil), r', fun x => Sq x ∨ S1 x ∨ S2 x, S3, by go_num, by rw [Fs.len_app, hqkh.out]; rfl, by rw [Fs.app_assoc]; exact happh.out, by omega, by omega, ?_, ?_, ?_, ?_, ?_, ?_, hb6h.out.trans hset⟩, ?_⟩
      · rw [← leafF_app]
        exact FsSp.app (S1 := fun _ => False) (S2 := fun _ => False) (fun _ h => h) (fun _ h => h.elim) (FsSp.keep (fun _ _ _ hx _ => hx.elim) (fun i v hi hj hc => hfar b i v (by rw [leafF_len] at hj; omega) hc) hq6.out)
          (by rw [leafF_len]; exact ⟨e0, e1, fun _ => False, fun _ => False, fun _ => False, fun _ h => h, fun _ h => h.elim, fun _ h => h.elim, ⟨_, e2, none, 0, rfl, .inl rfl⟩, ⟨_, e3, none, 0, rfl, .inl rfl⟩, trivial⟩)
      · rintro x (hx | hx | hx)
        · exact hSq x hx
        · exact (hSr x (q1 x hx)).1
        · exact (hSr x (q2 x hx).1).1
      · exact fun x hx => ⟨(hSr x (q3 x hx).1).1, fun h => by
          rcases h with h | h | h
          · exact (hSr x (q3 x hx).1).2 h
          · exact (q3 x hx).2.1 h
          · exact (q3 x hx).2.2 h⟩
      · refine FsOv.snoc (Sq := Sq) (S1 := S1) (S2 := S2) (fun x h => .inl h) (fun x h => ⟨.inr (.inl h), (hSr x (q1 x h)).2⟩) (fun x h => ⟨.inr (.inr h), (hSr x (q2 x h).1).2, (q2 x h).2⟩) ?_ (TSp.keep (fun x i v hx hc => hkeep x i v (fun e => hn1 (e ▸ hx)) hc) hT6.out) ?_ (FSp.keep (fun x i v hx hc => hkeep x i v (fun e => hn2 (e ▸ hx)) hc) hF6h.out) (FsOv.keep (fun x i v hx hc => hkeep x i v (hSq x hx).2 hc) hov6.out)
        · rw [hqkh.out, ← hold6.out _ (by omega)]; exact d2.1
        · rw [hqkh.out, ← hold6.out _ (by omega)]; exact d3.1
      · rw [show o + (k + 1) * 4 = o + k * 4 + 4 by omega]
        exact FsSp.keep (fun x i v hx hc => hkeep x i v (hSr x (q3 x hx).1).1.2 hc) (fun i v hi hj hc => hfar b i v (by omega) hc) hr6.out
      · intro i hi
        rw [← hW7, set_off (.inr (by omega)), set_off (.inr (by omega)), set_off (.inr (by omega)), set_off (.inr (by omega))]
        exact hold6.out i (by omega)
      · simp [intOf]; omega
theorem overF_any (ts : Fs) : OverF ts := overF_step ts fun t _ => overF_any t
termination_by ts.size
end Go.Proofs.YtngdieldgnlogaaDoor
