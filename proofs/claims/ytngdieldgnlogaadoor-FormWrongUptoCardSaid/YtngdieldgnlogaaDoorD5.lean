/- The law's own copies: CopyTerms. -/
import Derived.Test.YtngdieldgnlogaaDoorMV
import Derived.Deep.RegionHeld3
import Derived.Deep.AppendLies
namespace Go.Proofs.YtngdieldgnlogaaDoor
open Go Go.RowKit
set_option maxRecDepth 100000
set_option linter.unusedVariables false
/-- A tree that lies in blocks of one's own, none of them that of a row. -/
def TTr (W : World) (lo : Nat) (s : Value) (ts : Ts) (u : Value) : Prop := ∃ U, TOwn U lo ts u ∧ ∀ b o y, U.cell? ⟨b, o, none⟩ = some y → W.cell? ⟨b, o, none⟩ = some y ∧ s.ownBlock ≠ some b
/-- The cells of a row of copies. -/
def TRow (W : World) (lo : Nat) (s : Value) : Ts → List Value → Prop
  | .nil, xs => xs = []
  | .cons v n ts r, xs => ∃ u rest, xs = .bool v :: .string n :: u :: rest ∧ TTr W lo s ts u ∧ TRow W lo s r rest
theorem TTr.imp {W W' : World} {lo : Nat} {s s' : Value} (h : ∀ b o y, W.cell? ⟨b, o, none⟩ = some y → s.ownBlock ≠ some b → W'.cell? ⟨b, o, none⟩ = some y ∧ s'.ownBlock ≠ some b) {ts : Ts} {u : Value} (ht : TTr W lo s ts u) : TTr W' lo s' ts u := by
  obtain ⟨U, h1, h2⟩ := ht
  exact ⟨U, h1, fun b o y hy => h b o y (h2 b o y hy).1 (h2 b o y hy).2⟩
theorem TRow.imp {W W' : World} {lo : Nat} {s s' : Value} (h : ∀ b o y, W.cell? ⟨b, o, none⟩ = some y → s.ownBlock ≠ some b → W'.cell? ⟨b, o, none⟩ = some y ∧ s'.ownBlock ≠ some b) : ∀ {q : Ts} {xs : List Value}, TRow W lo s q xs → TRow W' lo s' q xs
  | .nil, _, hx => hx
  | .cons _ _ _ _, _, ⟨u, rest, e, ht, hr⟩ => ⟨u, rest, e, ht.imp h, TRow.imp h hr⟩
theorem TRow.snoc {W : World} {lo : Nat} {s : Value} {v : Bool} {n : ByteArray} {ts : Ts} {u : Value} (ht : TTr W lo s ts u) : ∀ {q : Ts} {xs : List Value}, TRow W lo s q xs → TRow W lo s (q.app (.cons v n ts .nil)) (xs ++ [.bool v, .string n, u])
  | .nil, _, rfl => ⟨u, [], rfl, ht, rfl⟩
  | .cons _ _ _ _, _, ⟨u', rest, e, ht', hr⟩ => ⟨u', _, by rw [e]; rfl, ht', TRow.snoc ht hr⟩
theorem TTr.own {W : World} {lo : Nat} {s : Value} {ts : Ts} {u : Value} (h : TTr W lo s ts u) : TOwn W lo ts u := by
  obtain ⟨U, h1, h2⟩ := h
  exact TOwn.keep (fun b o y _ hc => (h2 b o y hc).1) h1
theorem TRow.at {W : World} {lo : Nat} {s : Value} {g : Nat} : ∀ {q : Ts} {xs : List Value} (o : Nat), TRow W lo s q xs → (∀ j y, xs[j]? = some y → W.cell? ⟨g, o + j, none⟩ = some y) → TsAb W lo q g o
  | .nil, _, _, _, _ => trivial
  | .cons v n ts r, _, o, ⟨u, rest, e, ht, hr⟩, hc => by
    subst e
    refine ⟨hc 0 _ rfl, hc 1 _ rfl, ⟨u, hc 2 _ rfl, ht.own⟩, TRow.at (o + 3) hr fun j y hj => ?_⟩
    rw [show o + 3 + j = o + (j + 3) by omega]
    exact hc (j + 3) y (by simpa using hj)
/-- A row of copies. -/
def CRow (W : World) (lo : Nat) (s : Value) (q : Ts) : Prop := ∃ xs, W.ownsRow lo 49 3 s q.len xs ∧ TRow W lo s q xs
theorem CRow.own {W : World} {lo : Nat} {s : Value} {q : Ts} (h : CRow W lo s q) : TOwn W lo q s := by
  obtain ⟨xs, h1, h2⟩ := h
  obtain ⟨h0, ⟨rfl, hz⟩ | ⟨g, cap, cur, rfl, hg, h3, h4⟩⟩ := id h1
  · exact ⟨none, 0, by rw [hz], .inl hz⟩
  · refine ⟨_, _, rfl, .inr ⟨g, 0, rfl, hg, TRow.at 0 h2 fun j y hj => ?_⟩⟩
    have := h1.cells (g := g) rfl j y hj
    rw [Addr.add_mid] at this
    exact this
theorem CRow.below {W W' : World} {lo : Nat} {s : Value} {q : Ts} (h : CRow W lo s q) (hb : Below W.heap.size W W') : CRow W' lo s q := by
  obtain ⟨xs, h1, h2⟩ := h
  exact ⟨xs, owns_below hb h1, h2.imp fun b o y hc hn => ⟨cell_below hb hc, hn⟩⟩
/-- One more. -/
theorem CRow.app {W W' : World} {lo : Nat} {s s' : Value} {q : Ts} {xs : List Value} {v : Bool} {n : ByteArray} {ts : Ts} {u : Value} (h1 : W.ownsRow lo 49 3 s q.len xs) (h2 : TRow W lo s q xs) (ht : TTr W lo s ts u) (hg : W.grownBy W' s.ownBlock)
    (ho : W'.ownsRow lo 49 3 s' (q.len + 1) (xs ++ [.bool v, .string n, u])) (hob : s.ownBlock = s'.ownBlock ∨ ∃ g, s'.ownBlock = some g ∧ W.heap.size ≤ g) : CRow W' lo s' (q.app (.cons v n ts .nil)) := by
  have hk : ∀ b o y, W.cell? ⟨b, o, none⟩ = some y → s.ownBlock ≠ some b → W'.cell? ⟨b, o, none⟩ = some y ∧ s'.ownBlock ≠ some b := by
    intro b o y hc hn
    refine ⟨hg.cell hc (fun e => hn e.symm), ?_⟩
    rcases hob with e | ⟨g, e, hge⟩
    · rw [← e]; exact hn
    · rw [e]
      intro e2
      cases e2
      have := lt_of_cell hc
      omega
  exact ⟨_, by rw [Ts.len_app]; exact ho, TRow.snoc (ht.imp hk) (h2.imp hk)⟩
/-- A copy that has just been made. -/
theorem ttr_new {W W' : World} {lo : Nat} {s : Value} {ts : Ts} {u : Value} (hlo : lo ≤ W.heap.size) (hs : ∀ g, s.ownBlock = some g → g < W.heap.size) (ho : TOwn W' W.heap.size ts u) : TTr W' lo s ts u := by
  refine ⟨hideLow W' W.heap.size, TOwn.less hlo (TOwn.keep (fun b o y hz hc => hideLow_keep hz hc) ho), fun b o y hy => ?_⟩
  obtain ⟨hz, hc⟩ := hideLow_cell hy
  exact ⟨hc, fun e => by have := hs b e; omega⟩
theorem own_one {W : World} {lo : Nat} {ts : Ts} {s : Value} {v : Bool} {n : ByteArray} (h : TOwn W lo ts s) : ∀ u ∈ [Value.bool v, .string n, s], u.oneCell' = true := by
  obtain ⟨p, c, rfl, -⟩ := h
  intro u hu
  simp at hu
  rcases hu with rfl | rfl | rfl <;> rfl
def CopyT (N : Nat) : Prop := ∀ (ts : Ts) (sa : Value) (w : World), ts.size ≤ N → TSl w ts sa → ts.size ≤ 1000000 → Calls Tryd.prog 53 #[sa] w fun e w' => (∃ s', e = .returned s' ∧ TOwn w' w.heap.size ts s') ∧ Below w.heap.size w w'
theorem cell_ext {w W : World} (hb : Below w.heap.size w W) {b o : Nat} {v : Value} (h : w.cell? ⟨b, o, none⟩ = some v) : W.cell? ⟨b, o, none⟩ = some v := cell_below hb h
/-- The cells of an element. -/
def S1T (w : World) (v : Bool) (n : ByteArray) (ps : Option Addr) (l cs : Nat) (b o : Nat) (W : World) : Prop :=
  W.cell? ⟨b, o, none⟩ = some (.bool v) ∧ W.cell? ⟨b, o + 1, none⟩ = some (.string n) ∧ W.cell? ⟨b, o + 2, none⟩ = some (.slice ps l cs) ∧ Below w.heap.size w W
theorem S1T.next {w : World} {v : Bool} {n : ByteArray} {ps : Option Addr} {l cs b o : Nat} {W W' : World} (h : S1T w v n ps l cs b o W) (hb : Below W.heap.size W W') : S1T w v n ps l cs b o W' :=
  ⟨cell_below hb h.1, cell_below hb h.2.1, cell_below hb h.2.2.1, bel_step h.2.2.2 hb⟩
set_option maxHeartbeats 8000000 in
theorem copyT_step (N : Nat) (ih : ∀ M, M < N → CopyT M) : CopyT N := by
  intro ts sa w hN h hs
  obtain ⟨p, c, b, o, rfl, hp, ht⟩ := TSl.opened h
  have ih' := Lib.hid (fun (t : Ts) (h : t.size < N) => ih t.size h t)
  clear ih h
  have hlen := ts.len_le
  obtain ⟨i0, hi, hz0, hz1, hz2⟩ := info_parts info50
  have hnil : CRow w w.heap.size (.slice none 0 0) .nil := ⟨[], World.ownsRow_nil _ _ _ _, rfl⟩
  have hth := Lib.hid ht
  clear ht
  go_enter Tryd.func53, Tryd.ntmps53
  go_wp2
  go_loopw [3, 4] (fun out i wr => ∃ (k : Nat) (q r : Ts), i = .int .i64 k ∧ q.len = k ∧ k + r.len = ts.len ∧ q.app r = ts ∧ r.size ≤ ts.size ∧ CRow wr w.heap.size out q ∧ TsAt w r b (o + k * 3) ∧ Below w.heap.size w wr) (fun _ i _ => ts.len - (intOf i).toNat)
  case atStart => exact ⟨0, .nil, ts, rfl, rfl, by omega, rfl, Nat.le_refl _, hnil, by simpa using hth.out, Below.refl _ _⟩
  case round =>
    obtain ⟨k, q, r, rfl, hqk, hk, happ, hrs, hC, hat, hbw⟩ := hrel
    cases r with
    | nil =>
      simp only [Ts.len] at hk
      have hk' : k = ts.len := by omega
      subst hk'
      rw [Ts.app_nil] at happ
      subst happ
      have hfin := Lib.hid hC.own
      clear hC hnil hth hqk
      go_wp2
      go_ret
      exact ⟨⟨_, rfl, hfin.out⟩, hbw⟩
    | cons v nm as' r' =>
      simp only [Ts.len] at hk
      simp only [Ts.size] at hrs
      obtain ⟨c0, c1, ⟨s, c2, hs2⟩, hat'⟩ := hat
      rcases hp with hp | hp
      · omega
      subst hp
      have hlt : (k : Int) < (ts.len : Int) := by omega
      obtain ⟨ps, cs, rfl, -⟩ := id hs2
      have hbW := lt_of_cell c0
      have hS : S1T w v nm ps as'.len cs b (o + k * 3) wr.drew := ⟨cell_ext hbw c0, cell_ext hbw c1, cell_ext hbw c2, bel_step hbw (bel_drew wr)⟩
      obtain ⟨xs, hown, hrow⟩ := hC
      have hlt2 : ∀ g, u3.ownBlock = some g → w.heap.size ≤ g ∧ g < wr.heap.size := hown.lt
      have hcall : Hid (∀ W, S1T w v nm ps as'.len cs b (o + k * 3) W → Calls Tryd.prog 53 #[.slice ps as'.len cs] W fun e w' => ∃ p' c', e = .returned (.slice p' as'.len c') ∧ TOwn w' W.heap.size as' (.slice p' as'.len c') ∧ Below W.heap.size W w' ∧ S1T w v nm ps as'.len cs b (o + k * 3) w') :=
        Lib.hid (fun W hW => (ih'.out as' (by omega) _ W (Nat.le_refl _) (TSl.below hW.2.2.2 hs2) (by omega)).mono fun e w' ⟨⟨s', he, ho⟩, hb⟩ => by
          obtain ⟨p', c', rfl, -⟩ := id ho
          exact ⟨p', c', he, ho, hb, hW.next hb⟩)
      have hneb : some b ≠ u3.ownBlock := fun e => by have := hlt2 b e.symm; omega
      have hqc : q.len + 1 ≤ 1000000 := by omega
      have hsz0 := hbw.size
      clear c0 c1 c2 hs2 ih' hnil hth
      go_wp2
      go_region_held3 (fun W => W.cell? ⟨b, o + k * 3, none⟩ = some (.bool v) ∧ W.cell? ⟨b, o + k * 3 + 1, none⟩ = some (.string nm) ∧ W.cell? ⟨b, o + k * 3 + 2, none⟩ = some (.slice ps as'.len cs) ∧ Below w.heap.size w W)
        (first | assumption | exact hS | exact hS2.next (bel_laid _ _) | exact ⟨hgrow.cell (hS2.next (bel_laid _ _)).1 hneb, hgrow.cell (hS2.next (bel_laid _ _)).2.1 hneb, hgrow.cell (hS2.next (bel_laid _ _)).2.2.1 hneb, (hS2.next (bel_laid _ _)).2.2.2.grown hgrow (by have := hb2.size; simp at this ⊢; omega) (fun g e => (hlt2 g e).1)⟩)
        (first
          | (go_at_call 53; refine (hcall.out _ (by assumption)).mono ?_; rintro e w' ⟨p', c', rfl, hO, hb2, hS2⟩)
          | (refine step_append_lies _ (by rfl) _ _ _ (by rfl) w.heap.size 49 i0 _ 3 48 Tryd.underlying22 hi hz0 hz1 hz2 rfl (by omega) u3 q.len xs (by rfl) ((owns_below hb2 (show wr.drew.ownsRow w.heap.size 49 3 u3 q.len xs from hown)).alloc _)
              ⟨w'.heap.size, 0, none⟩ 1 1 [.bool v, .string nm, .slice p' as'.len c'] (by rfl) (by rfl) (World.news_of_block (cs := #[.bool v, .string nm, .slice p' as'.len c']) (t := 49) (fr := (0, 0)) (heap_alloc_new w' _)) (own_one hO)
              (by omega) (by unfold maxLen; omega) (by omega) (by have := hb2.size; simp at this ⊢; omega) (w'.heap.size + 1) (by simp) ?_; intro gg cap w1 hown1 hgrow hat1 hltg))
      have hbl := bel_laid w' (.cells #[.bool v, .string nm, .slice p' as'.len c'] 49)
      have hb3 : Below wr.heap.size wr w' := (bel_drew wr).trans hb2
      have hb4 := bel_step hb3 hbl
      have hC1 : CRow w1 w.heap.size (.slice (some ⟨gg, 0, none⟩) (k + 1) cap) (q.app (.cons v nm as' .nil)) := by
        rw [hqk] at hown1
        refine CRow.app (owns_below hb4 hown) (hrow.imp fun b o y hc hn => ⟨cell_below hb4 hc, hn⟩) ((ttr_new hsz0 (fun g e => (hlt2 g e).2) hO).imp fun b o y hc hn => ⟨cell_below hbl hc, hn⟩) hgrow (by rw [hqk]; exact hown1) ?_
        rcases hat1 with e | e
        · exact .inl e
        · exact .inr ⟨gg, rfl, by rw [e]; simp⟩
      have hbw1 : Below w.heap.size w w1 := (bel_step hbw hb4).grown hgrow (by have := hb4.size; omega) (fun g e => (hlt2 g e).1)
      have hCh := Lib.hid hC1
      have hah := Lib.hid hat'
      have hpph := Lib.hid happ
      clear hC1 hat' happ hown1 hgrow hO hb2 hS2 hcall hat1 hltg hown hrow hlt2 hneb hS hbl hb3 hb4
      go_wp2
      go_roundw
      case rel =>
        refine ⟨k + 1, q.app (.cons v nm as' .nil), r', by go_num, ?_, by omega, ?_, by omega, hCh.out, ?_, hbw1⟩
        · rw [Ts.len_app, hqk]; rfl
        · rw [Ts.app_assoc]; exact hpph.out
        · have := hah.out
          rwa [show o + k * 3 + 3 = o + (k + 1) * 3 by omega] at this
      case measure => simp [intOf]; omega
theorem copyT_any (N : Nat) : CopyT N := by
  induction N using Nat.strongRecOn with
  | _ N ih => exact copyT_step N ih
end Go.Proofs.YtngdieldgnlogaaDoor
