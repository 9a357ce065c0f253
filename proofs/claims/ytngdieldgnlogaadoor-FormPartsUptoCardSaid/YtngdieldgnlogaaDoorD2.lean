/- The law's measure: Size and Small. -/
import Derived.Test.YtngdieldgnlogaaDoorD1
namespace Go.Proofs.YtngdieldgnlogaaDoor
open Go Go.RowKit
set_option maxRecDepth 100000
set_option linter.unusedVariables false
def SizeF (N : Nat) : Prop := ∀ (f : FT) (left : Int) (v : Value) (w : World), f.size ≤ N → FVal w f v → f.wt ≤ 2000000 → 0 ≤ left → left ≤ 1000000 →
  Calls Tryd.prog 26 #[v, .int .i64 left] w fun e w' => e = .returned (.int .i64 (f.szl left)) ∧ Below w.heap.size w w'
set_option maxHeartbeats 4000000 in
theorem sizeF_step (N : Nat) (ih : ∀ M, M < N → SizeF M) : SizeF N := by
  intro f left v w hN hv hw hl0 hl1
  have ih' := Lib.hid (fun (t : FT) (h : t.size < N) => ih t.size h t)
  clear ih
  obtain ⟨sa, ss, rfl, ha, hss⟩ := id hv
  obtain ⟨pa, ca, hsa, -⟩ := id ha
  obtain ⟨p, c, hsb, -⟩ := id hss
  subst hsa hsb
  have hst := FS.start (t := 25) hv
  have hlen := f.sub.len_le
  have hfw : f.wt = f.n.size + f.ts.wt + f.sub.wt + 1 := rfl
  have hfs : f.size = f.ts.size + f.sub.size + 1 := rfl
  have hge := f.ts.szl_ge left 0
  have hsw := f.sub.size_wt
  obtain ⟨rr, hrr⟩ : ∃ rr, f.szl left = rr := ⟨_, rfl⟩
  rw [hrr]
  replace hrr := Lib.hid hrr
  have HT : Hid (∀ W, FS f (.slice pa f.ts.len ca) (.slice p f.sub.len c) w w.heap.size W → Calls Tryd.prog 55 #[.slice pa f.ts.len ca, .int .i64 left] W fun e w' => e = .returned (.int .i64 (f.ts.szl left 0)) ∧ FS f (.slice pa f.ts.len ca) (.slice p f.sub.len c) w w.heap.size w') :=
    Lib.hid (fun W hW => (sizeT_any f.ts.size f.ts left _ W (Nat.le_refl _) hW.2.2.2.2.2.1 (by omega) hl0 hl1).mono fun e w' ⟨he, hb⟩ => ⟨he, hW.next hb⟩)
  obtain ⟨q, hq⟩ : ∃ q, f.ts.szl left 0 = q := ⟨_, rfl⟩
  have hrq : f.sub.szl left (1 + (f.n.size : Int) / 40 + q) = rr := by rw [← hrr.out, FT.szl, hq]
  rw [hq] at HT hge
  have hrqh := Lib.hid hrq
  have hfwh := Lib.hid hfw
  have hfsh := Lib.hid hfs
  have e0 : IntKind.i64.wrap ((f.n.size : Int) / 40) = (f.n.size : Int) / 40 := IntWalk.i64_in _ (by omega)
  have e1 : IntKind.i64.wrap (1 + (f.n.size : Int) / 40) = 1 + (f.n.size : Int) / 40 := IntWalk.i64_in _ (by omega)
  have e3 : IntKind.i64.wrap (1 + (f.n.size : Int) / 40 + q) = 1 + (f.n.size : Int) / 40 + q := IntWalk.i64_in _ (by omega)
  have hq0 : 0 ≤ 1 + (f.n.size : Int) / 40 + q ∧ 1 + (f.n.size : Int) / 40 + q + f.sub.wt ≤ 2000000 := by omega
  clear hq hrq hfw hfs ha hss hv
  have hstd : FS f (.slice pa f.ts.len ca) (.slice p f.sub.len c) w w.heap.size (w.alloc (.cells #[.int .u8 f.op, .string f.n, .slice pa f.ts.len ca, .slice p f.sub.len c] 25)).drew := hst.next (bel_drew _)
  clear hst
  go_enter Tryd.func26, Tryd.ntmps26
  go_wp2_with fail
  generalize hg : w.heap.size = g at hstd HT ⊢
  generalize w.alloc (.cells #[.int .u8 f.op, .string f.n, .slice pa f.ts.len ca, .slice p f.sub.len c] 25) = W1 at hstd ⊢
  go_region_held3 (fun V => V.cell? ⟨g, 0, none⟩ = some (.int .u8 f.op) ∧ V.cell? ⟨g, 1, none⟩ = some (.string f.n) ∧ V.cell? ⟨g, 2, none⟩ = some (.slice pa f.ts.len ca) ∧ V.cell? ⟨g, 3, none⟩ = some (.slice p f.sub.len c) ∧ Kept f (.slice pa f.ts.len ca) (.slice p f.sub.len c) w V)
    (first | assumption | exact hstd)
    ((go_at_call 55; refine (HT.out _ (by assumption)).mono ?_; rintro e w' ⟨rfl, hS2⟩))
  have hS2v := hS2.2.2.2.2.2.2
  obtain ⟨p2, c2, b, o, he2, hp, ht⟩ := FSl.opened hS2v
  simp only [Value.slice.injEq] at he2
  obtain ⟨rfl, -, rfl⟩ := he2
  have hSh := Lib.hid hS2
  have hth := Lib.hid ht
  clear hS2 hS2v ht e0 e1 e3 hge HT hstd
  obtain ⟨n0, hn0⟩ : ∃ n0, 1 + (f.n.size : Int) / 40 + q = n0 := ⟨_, rfl⟩
  rw [hn0] at hrqh hq0 ⊢
  clear hn0
  go_wp2
  go_loopw [5, 6] (fun n i wr => ∃ (k : Nat) (m : Int) (r : Fs), n = .int .i64 m ∧ i = .int .i64 k ∧ k + r.len = f.sub.len ∧ 0 ≤ m ∧ m + r.wt ≤ 2000000 ∧ r.size ≤ f.sub.size ∧ r.szl left m = rr ∧ FsAt wr r b (o + k * 4) ∧ FS f (.slice pa f.ts.len ca) (.slice p f.sub.len c) w g wr) (fun _ i _ => f.sub.len - (intOf i).toNat)
  case atStart => exact ⟨0, n0, f.sub, rfl, rfl, by omega, hq0.1, hq0.2, Nat.le_refl _, hrqh.out, by simpa using hth.out, hSh.out⟩
  case round =>
    obtain ⟨k, m, r, rfl, rfl, hk, hm0, hmw, hrs, hsz, hat, hfs⟩ := hrel
    obtain ⟨-, -, -, b3, -⟩ := id hfs
    have hfsR := Lib.hid hfs
    clear hfs
    cases r with
    | nil =>
      simp only [Fs.len] at hk
      have hk' : k = f.sub.len := by omega
      subst hk'
      have em : m = rr := by simpa [Fs.szl] using hsz
      subst em
      clear hsz hrr hrqh
      go_wp2
      go_ret
      exact ⟨rfl, hg ▸ hfsR.out.2.2.2.2.1⟩
    | cons op nm ts sub r' =>
      simp only [Fs.len] at hk
      simp only [Fs.wt] at hmw
      simp only [Fs.size] at hrs
      have hlt : (k : Int) < (f.sub.len : Int) := by omega
      by_cases hml : m ≤ left
      · have hsz' : r'.szl left (m + FT.szl ⟨op, nm, ts, sub⟩ (left - m)) = rr := by rw [← hsz, Fs.szl, if_pos hml]; rfl
        have hg1 := ts.szl_ge (left - m) 0
        have hg2 := sub.szl_ge (left - m) (1 + (nm.size : Int) / 40 + ts.szl (left - m) 0)
        have hgf : 0 ≤ FT.szl ⟨op, nm, ts, sub⟩ (left - m) ∧ FT.szl ⟨op, nm, ts, sub⟩ (left - m) ≤ nm.size + ts.wt + sub.wt + 1 := by
          unfold FT.szl
          simp only []
          omega
        clear hsz hg1 hg2
        obtain ⟨c0, c1, ⟨s, c2, hs2⟩, ⟨s', c3, hs3⟩, hat'⟩ := hat
        have hchild : FVal wr ⟨op, nm, ts, sub⟩ (.agg #[.int .u8 op, .string nm, s, s']) := ⟨s, s', rfl, hs2, hs3⟩
        have hsz1 : (⟨op, nm, ts, sub⟩ : FT).size < N := by have := hfsh.out; simp only [FT.size]; omega
        have hwt1 : (⟨op, nm, ts, sub⟩ : FT).wt ≤ 2000000 := by simp only [FT.wt]; omega
        have hcall := Lib.hid (ih'.out ⟨op, nm, ts, sub⟩ hsz1 (left - m) _ wr (Nat.le_refl _) hchild hwt1 (by omega) (by omega))
        obtain ⟨ps, cs, rfl, -⟩ := hs2
        obtain ⟨ps', cs', rfl, -⟩ := hs3
        rcases hp with hp | hp
        · omega
        subst hp
        obtain ⟨q3, hq3⟩ : ∃ q3, FT.szl ⟨op, nm, ts, sub⟩ (left - m) = q3 := ⟨_, rfl⟩
        rw [hq3] at hsz' hgf hcall
        have hszh := Lib.hid hsz'
        have hath := Lib.hid hat'
        clear hq3 hsz' hat' hchild hwt1 hsz1
        go_wp2_with (go_at_call 26; refine hcall.out.mono ?_; rintro e w' ⟨rfl, hb2⟩)
        have hat2 := Lib.hid (FsAt.below hb2 hath.out)
        have hfs2 := Lib.hid (hfsR.out.next hb2)
        clear hb2 hath hfsR
        go_roundw
        case rel =>
          refine ⟨k + 1, m + q3, r', rfl, by go_num, by omega, by omega, by omega, by omega, hszh.out, ?_, hfs2.out⟩
          have := hat2.out
          rwa [show o + k * 4 + 4 = o + (k + 1) * 4 by omega] at this
        case measure => simp [intOf]; omega
      · have hml' : left < m := by omega
        have em : m = rr := by rw [← hsz, Fs.szl, if_neg hml]
        subst em
        clear hsz hrr hrqh
        go_wp2
        go_ret
        exact ⟨rfl, hg ▸ hfsR.out.2.2.2.2.1⟩
theorem sizeF_any (N : Nat) : SizeF N := by
  induction N using Nat.strongRecOn with
  | _ N ih => exact sizeF_step N ih
/-- Small: at most 500 nodes together. -/
def Fs.small (l : Fs) : Bool := decide (l.szl 500 0 ≤ 500)
theorem Fs.small_size {l : Fs} (h : l.small = true) : l.size ≤ 500 := by
  have h1 := of_decide_eq_true h
  have := l.szl_size 500 0 (by omega) h1
  omega
set_option maxHeartbeats 4000000 in
theorem small_any (l : Fs) (sa : Value) (w : World) (h : FSl w l sa) (hw : l.wt ≤ 2000000) : Calls Tryd.prog 7 #[sa] w fun e w' => e = .returned (.bool l.small) ∧ Below w.heap.size w w' := by
  obtain ⟨p, c, b, o, rfl, hp, ht⟩ := FSl.opened h
  have hlen := l.len_le
  have hsw := l.size_wt
  have HS := Lib.hid (fun (t : FT) => sizeF_any t.size t)
  obtain ⟨rr, hrr⟩ : ∃ rr, l.szl 500 0 = rr := ⟨_, rfl⟩
  have hsm : l.small = decide (rr ≤ 500) := by rw [← hrr]; rfl
  rw [hsm]
  replace hrr := Lib.hid hrr
  clear hsm h
  go_enter Tryd.func7, Tryd.ntmps7
  go_wp2
  go_loopw [3, 4] (fun n i wr => ∃ (k : Nat) (m : Int) (r : Fs), n = .int .i64 m ∧ i = .int .i64 k ∧ k + r.len = l.len ∧ 0 ≤ m ∧ m + r.wt ≤ 2000000 ∧ r.size ≤ l.size ∧ r.szl 500 m = rr ∧ FsAt wr r b (o + k * 4) ∧ Below w.heap.size w wr) (fun _ i _ => l.len - (intOf i).toNat)
  case atStart => exact ⟨0, 0, l, rfl, rfl, by omega, by omega, by omega, Nat.le_refl _, hrr.out, by simpa using ht, Below.refl _ _⟩
  case round =>
    obtain ⟨k, m, r, rfl, rfl, hk, hm0, hmw, hrs, hsz, hat, hbw⟩ := hrel
    cases r with
    | nil =>
      simp only [Fs.len] at hk
      have hk' : k = l.len := by omega
      subst hk'
      have em : m = rr := by simpa [Fs.szl] using hsz
      subst em
      clear hsz hrr
      go_wp2
      all_goals
        go_ret
        exact ⟨rfl, hbw⟩
    | cons op nm ts sub r' =>
      simp only [Fs.len] at hk
      simp only [Fs.wt] at hmw
      simp only [Fs.size] at hrs
      have hlt : (k : Int) < (l.len : Int) := by omega
      by_cases hml : m ≤ 500
      · have hsz' : r'.szl 500 (m + FT.szl ⟨op, nm, ts, sub⟩ (500 - m)) = rr := by rw [← hsz, Fs.szl, if_pos hml]; rfl
        have hg1 := ts.szl_ge (500 - m) 0
        have hg2 := sub.szl_ge (500 - m) (1 + (nm.size : Int) / 40 + ts.szl (500 - m) 0)
        have hgf : 0 ≤ FT.szl ⟨op, nm, ts, sub⟩ (500 - m) ∧ FT.szl ⟨op, nm, ts, sub⟩ (500 - m) ≤ nm.size + ts.wt + sub.wt + 1 := by
          unfold FT.szl
          simp only []
          omega
        clear hsz hg1 hg2
        obtain ⟨c0, c1, ⟨s, c2, hs2⟩, ⟨s', c3, hs3⟩, hat'⟩ := hat
        have hchild : FVal wr ⟨op, nm, ts, sub⟩ (.agg #[.int .u8 op, .string nm, s, s']) := ⟨s, s', rfl, hs2, hs3⟩
        have hwt1 : (⟨op, nm, ts, sub⟩ : FT).wt ≤ 2000000 := by simp only [FT.wt]; omega
        have hcall := Lib.hid (HS.out ⟨op, nm, ts, sub⟩ (500 - m) _ wr (Nat.le_refl _) hchild hwt1 (by omega) (by omega))
        obtain ⟨ps, cs, rfl, -⟩ := hs2
        obtain ⟨ps', cs', rfl, -⟩ := hs3
        rcases hp with hp | hp
        · omega
        subst hp
        obtain ⟨q3, hq3⟩ : ∃ q3, FT.szl ⟨op, nm, ts, sub⟩ (500 - m) = q3 := ⟨_, rfl⟩
        rw [hq3] at hsz' hgf hcall
        have hszh := Lib.hid hsz'
        have hath := Lib.hid hat'
        clear hq3 hsz' hat' hchild hwt1
        go_wp2_with (go_at_call 26; refine hcall.out.mono ?_; rintro e w' ⟨rfl, hb2⟩)
        have hat2 := Lib.hid (FsAt.below hb2 hath.out)
        have hbw2 := bel_step hbw hb2
        clear hb2 hath
        go_roundw
        case rel =>
          refine ⟨k + 1, m + q3, r', rfl, by go_num, by omega, by omega, by omega, by omega, hszh.out, ?_, hbw2⟩
          have := hat2.out
          rwa [show o + k * 4 + 4 = o + (k + 1) * 4 by omega] at this
        case measure => simp [intOf]; omega
      · have hml' : 500 < m := by omega
        have em : m = rr := by rw [← hsz, Fs.szl, if_neg hml]
        subst em
        clear hsz hrr
        go_wp2
        all_goals
          go_ret
          exact ⟨by rw [decide_eq_false (by omega)]; rfl, hbw⟩
end Go.Proofs.YtngdieldgnlogaaDoor
