/- The law's measure: size. The law's measure: Size and Small. -/
import Derived.Test.YtngdieldgnlogaaGreatDoorMV
import Derived.Deep.RegionHeld3
namespace Go.Proofs.YtngdieldgnlogaaGreatDoor
open Go Go.RowKit
set_option maxRecDepth 100000
set_option linter.unusedVariables false
/-- What a reading holds: nodes and letters. -/
def Ts.wt : Ts → Nat
  | .nil => 0
  | .cons _ n ts r => n.size + ts.wt + r.wt + 1
def Fs.wt : Fs → Nat
  | .nil => 0
  | .cons _ n ts sub r => n.size + ts.wt + sub.wt + r.wt + 1
def FT.wt (f : FT) : Nat := f.n.size + f.ts.wt + f.sub.wt + 1
/-- What the law's size and Size return. -/
def Ts.szl : Ts → Int → Int → Int
  | .nil, _, n => n
  | .cons _ nm ts r, left, n => if n ≤ left then r.szl left (n + (1 + (nm.size : Int) / 40 + ts.szl (left - n) 0)) else n
def Fs.szl : Fs → Int → Int → Int
  | .nil, _, n => n
  | .cons _ nm ts sub r, left, n => if n ≤ left then r.szl left (n + sub.szl (left - n) (1 + (nm.size : Int) / 40 + ts.szl (left - n) 0)) else n
def FT.szl (f : FT) (left : Int) : Int := f.sub.szl left (1 + (f.n.size : Int) / 40 + f.ts.szl left 0)
theorem Ts.szl_ge : ∀ (t : Ts) (left n : Int), n ≤ t.szl left n ∧ t.szl left n ≤ n + t.wt
  | .nil, _, n => by simp [Ts.szl, Ts.wt]
  | .cons _ nm ts r, left, n => by
    have h1 := ts.szl_ge (left - n) 0
    have h2 := r.szl_ge left (n + (1 + (nm.size : Int) / 40 + ts.szl (left - n) 0))
    simp only [Ts.szl, Ts.wt]
    split <;> omega
theorem Fs.szl_ge : ∀ (t : Fs) (left n : Int), n ≤ t.szl left n ∧ t.szl left n ≤ n + t.wt
  | .nil, _, n => by simp [Fs.szl, Fs.wt]
  | .cons _ nm ts sub r, left, n => by
    have h0 := ts.szl_ge (left - n) 0
    have h1 := sub.szl_ge (left - n) (1 + (nm.size : Int) / 40 + ts.szl (left - n) 0)
    have h2 := r.szl_ge left (n + sub.szl (left - n) (1 + (nm.size : Int) / 40 + ts.szl (left - n) 0))
    simp only [Fs.szl, Fs.wt]
    split <;> omega
theorem Ts.szl_size : ∀ (t : Ts) (left n : Int), 0 ≤ n → t.szl left n ≤ left → (t.size : Int) + n ≤ t.szl left n
  | .nil, _, n, _, _ => by simp [Ts.szl, Ts.size]
  | .cons _ nm ts r, left, n, h0, h => by
    have g1 := ts.szl_ge (left - n) 0
    simp only [Ts.szl] at h ⊢
    split at h
    · rename_i hn
      rw [if_pos hn]
      have g2 := r.szl_ge left (n + (1 + (nm.size : Int) / 40 + ts.szl (left - n) 0))
      have h1 := ts.szl_size (left - n) 0 (by omega) (by omega)
      have h2 := r.szl_size left _ (by omega) h
      simp only [Ts.size]
      omega
    · omega
theorem Fs.szl_size : ∀ (t : Fs) (left n : Int), 0 ≤ n → t.szl left n ≤ left → (t.size : Int) + n ≤ t.szl left n
  | .nil, _, n, _, _ => by simp [Fs.szl, Fs.size]
  | .cons _ nm ts sub r, left, n, h0, h => by
    have g0 := ts.szl_ge (left - n) 0
    have g1 := sub.szl_ge (left - n) (1 + (nm.size : Int) / 40 + ts.szl (left - n) 0)
    simp only [Fs.szl] at h ⊢
    split at h
    · rename_i hn
      rw [if_pos hn]
      have g2 := r.szl_ge left (n + sub.szl (left - n) (1 + (nm.size : Int) / 40 + ts.szl (left - n) 0))
      have h0' := ts.szl_size (left - n) 0 (by omega) (by omega)
      have h1 := sub.szl_size (left - n) _ (by omega) (by omega : sub.szl (left - n) (1 + (nm.size : Int) / 40 + ts.szl (left - n) 0) ≤ left - n)
      have h2 := r.szl_size left _ (by omega) h
      simp only [Fs.size]
      omega
    · omega
theorem Ts.size_wt : ∀ t : Ts, t.size ≤ t.wt
  | .nil => Nat.le_refl _
  | .cons _ _ ts r => by have := ts.size_wt; have := r.size_wt; simp only [Ts.size, Ts.wt]; omega
theorem Fs.size_wt : ∀ t : Fs, t.size ≤ t.wt
  | .nil => Nat.le_refl _
  | .cons _ _ ts sub r => by have := ts.size_wt; have := sub.size_wt; have := r.size_wt; simp only [Fs.size, Fs.wt]; omega
/-- What stays while the elements are read. -/
def SzK (w : World) (a : Ts) (s : Value) (r : Ts) (b o : Nat) (W : World) : Prop := Below w.heap.size w W ∧ TSl W a s ∧ TsAt W r b o
/-- The cells, and that. -/
def SzS (w : World) (a : Ts) (ps : Option Addr) (cs : Nat) (nm : ByteArray) (r : Ts) (b o : Nat) (W : World) : Prop :=
  W.cell? ⟨b, o + 1, none⟩ = some (.string nm) ∧ W.cell? ⟨b, o + 2, none⟩ = some (.slice ps a.len cs) ∧ SzK w a (.slice ps a.len cs) r b (o + 3) W
theorem SzS.next {w : World} {a : Ts} {ps : Option Addr} {cs : Nat} {nm : ByteArray} {r : Ts} {b o : Nat} {W W' : World} (h : SzS w a ps cs nm r b o W) (hb : Below W.heap.size W W') : SzS w a ps cs nm r b o W' :=
  ⟨cell_below hb h.1, cell_below hb h.2.1, bel_step h.2.2.1 hb, TSl.below hb h.2.2.2.1, TsAt.below hb h.2.2.2.2⟩
def SizeT (N : Nat) : Prop := ∀ (ts : Ts) (left : Int) (sa : Value) (w : World), ts.size ≤ N → TSl w ts sa → ts.wt ≤ 2000000 → 0 ≤ left → left ≤ 1000000 →
  Calls Tryz.prog 53 #[sa, .int .i64 left] w fun e w' => e = .returned (.int .i64 (ts.szl left 0)) ∧ Below w.heap.size w w'
theorem sizeT_nil (left : Int) (sa : Value) (w : World) (h : TSl w .nil sa) (hl0 : 0 ≤ left) : Calls Tryz.prog 53 #[sa, .int .i64 left] w fun e w' => e = .returned (.int .i64 (Ts.szl .nil left 0)) ∧ Below w.heap.size w w' := by
  obtain ⟨p, c, rfl, -⟩ := h
  go_enter Tryz.func53, Tryz.ntmps53
  go_wp2
  go_loopw [5, 6] (fun n i wr => n = .int .i64 0 ∧ i = .int .i64 0 ∧ wr = w) (fun _ _ _ => 0)
  case atStart => exact ⟨rfl, rfl, rfl⟩
  case round =>
    obtain ⟨rfl, rfl, rfl⟩ := hrel
    simp only [Ts.len]
    go_wp2
    go_ret
    exact ⟨rfl, Below.refl _ _⟩
set_option maxHeartbeats 4000000 in
theorem sizeT_step (N : Nat) (ih : SizeT N) : SizeT (N + 1) := by
  intro ts left sa w hN h hw hl0 hl1
  obtain ⟨p, c, b, o, rfl, hp, ht⟩ := TSl.opened h
  have ih' := Lib.hid ih
  clear ih h
  have hlen := ts.len_le
  have hszw := ts.size_wt
  obtain ⟨rr, hrr⟩ : ∃ rr, ts.szl left 0 = rr := ⟨_, rfl⟩
  rw [hrr]
  replace hrr := Lib.hid hrr
  go_enter Tryz.func53, Tryz.ntmps53
  go_wp2
  go_loopw [5, 6] (fun n i wr => ∃ (k : Nat) (m : Int) (r : Ts), n = .int .i64 m ∧ i = .int .i64 k ∧ k + r.len = ts.len ∧ 0 ≤ m ∧ m + r.wt ≤ 2000000 ∧ r.size ≤ ts.size ∧ r.szl left m = rr ∧ TsAt wr r b (o + k * 3) ∧ Below w.heap.size w wr) (fun _ i _ => ts.len - (intOf i).toNat)
  case atStart => exact ⟨0, 0, ts, rfl, rfl, by omega, by omega, by omega, Nat.le_refl _, hrr.out, by simpa using ht, Below.refl _ _⟩
  case round =>
    obtain ⟨k, m, r, rfl, rfl, hk, hm0, hmw, hrs, hsz, hat, hbw⟩ := hrel
    cases r with
    | nil =>
      simp only [Ts.len] at hk
      have hk' : k = ts.len := by omega
      subst hk'
      have em : m = rr := by simpa [Ts.szl] using hsz
      subst em
      clear hsz hrr
      go_wp2
      go_ret
      exact ⟨rfl, hbw⟩
    | cons v nm as' r' =>
      simp only [Ts.len] at hk
      simp only [Ts.wt] at hmw
      simp only [Ts.size] at hrs
      obtain ⟨c0, c1, ⟨s, c2, hs2⟩, hat'⟩ := hat
      rcases hp with hp | hp
      · omega
      subst hp
      have hlt : (k : Int) < (ts.len : Int) := by omega
      by_cases hml : m ≤ left
      · have hsz' : r'.szl left (m + (1 + (nm.size : Int) / 40 + as'.szl (left - m) 0)) = rr := by rw [← hsz, Ts.szl, if_pos hml]
        clear hsz
        have hge := as'.szl_ge (left - m) 0
        obtain ⟨ps, cs, rfl, -⟩ := id hs2
        have hcall : Hid (∀ W, SzS w as' ps cs nm r' b (o + k * 3) W → Calls Tryz.prog 53 #[.slice ps as'.len cs, .int .i64 (left - m)] W fun e w' => e = .returned (.int .i64 (as'.szl (left - m) 0)) ∧ SzS w as' ps cs nm r' b (o + k * 3) w') :=
          Lib.hid (fun W hW => (ih'.out as' (left - m) _ W (by omega) hW.2.2.2.1 (by omega) (by omega) (by omega)).mono fun e w' ⟨he, hb⟩ => ⟨he, hW.next hb⟩)
        have hS : SzS w as' ps cs nm r' b (o + k * 3) wr.drew := SzS.next ⟨c1, c2, hbw, hs2, hat'⟩ (bel_drew wr)
        clear hs2
        obtain ⟨q, hq⟩ : ∃ q, as'.szl (left - m) 0 = q := ⟨_, rfl⟩
        rw [hq] at hcall hge hsz'
        have hszh := Lib.hid hsz'
        clear hq hsz' hat'
        have e0 : IntKind.i64.wrap ((nm.size : Int) / 40) = (nm.size : Int) / 40 := IntWalk.i64_in _ (by omega)
        have e1 : IntKind.i64.wrap (1 + (nm.size : Int) / 40) = 1 + (nm.size : Int) / 40 := IntWalk.i64_in _ (by omega)
        have e2 : IntKind.i64.wrap (left - m) = left - m := IntWalk.i64_in _ (by omega)
        have e3 : IntKind.i64.wrap (1 + (nm.size : Int) / 40 + q) = 1 + (nm.size : Int) / 40 + q := IntWalk.i64_in _ (by omega)
        have e4 : IntKind.i64.wrap (m + (1 + (nm.size : Int) / 40 + q)) = m + (1 + (nm.size : Int) / 40 + q) := IntWalk.i64_in _ (by omega)
        obtain ⟨q2, hq2⟩ : ∃ q2, m + (1 + (nm.size : Int) / 40 + q) = q2 := ⟨_, rfl⟩
        rw [hq2] at e4 hszh
        have hq2h := Lib.hid hq2
        clear hq2 c0 c1 c2
        go_wp2
        go_region_held3 (fun W => W.cell? ⟨b, o + k * 3 + 1, none⟩ = some (.string nm) ∧ W.cell? ⟨b, o + k * 3 + 2, none⟩ = some (.slice ps as'.len cs) ∧ SzK w as' (.slice ps as'.len cs) r' b (o + k * 3 + 3) W)
          (first | assumption | exact hS)
          ((go_at_call 53; refine (hcall.out _ (by assumption)).mono ?_; rintro e w' ⟨rfl, hS2⟩))
        rw [hq2h.out, e4]
        clear e0 e1 e2 e3 e4
        have hq2i := hq2h.out
        have hSh := Lib.hid hS2
        clear hS2 hS hcall hq2h
        have hq3 : 0 ≤ q2 ∧ q2 + r'.wt ≤ 2000000 := by omega
        clear hq2i hge
        go_wp2
        go_roundw
        case rel =>
          refine ⟨k + 1, q2, r', rfl, by go_num, by omega, hq3.1, hq3.2, by omega, hszh.out, ?_, hSh.out.2.2.1⟩
          have := hSh.out.2.2.2.2
          rwa [show o + k * 3 + 3 = o + (k + 1) * 3 by omega] at this
        case measure => simp [intOf]; omega
      · have hml' : left < m := by omega
        have em : m = rr := by rw [← hsz, Ts.szl, if_neg hml]
        subst em
        clear hsz hrr
        go_wp2
        go_ret
        exact ⟨rfl, hbw⟩
theorem sizeT_any : ∀ N, SizeT N
  | 0 => by
    intro ts left sa w hN h hw hl0 hl1
    exact sizeT_step 0 (fun ts left sa w hN h hw hl0 hl1 => by
      cases ts with
      | nil => exact sizeT_nil left sa w h hl0
      | cons _ _ _ _ => simp [Ts.size] at hN) ts left sa w (by omega) h hw hl0 hl1
  | N + 1 => sizeT_step N (sizeT_any N)
end Go.Proofs.YtngdieldgnlogaaGreatDoor
namespace Go.Proofs.YtngdieldgnlogaaGreatDoor
open Go Go.RowKit
set_option maxRecDepth 100000
set_option linter.unusedVariables false
def SizeF (N : Nat) : Prop := ∀ (f : FT) (left : Int) (v : Value) (w : World), f.size ≤ N → FVal w f v → f.wt ≤ 2000000 → 0 ≤ left → left ≤ 1000000 →
  Calls Tryz.prog 11 #[v, .int .i64 left] w fun e w' => e = .returned (.int .i64 (f.szl left)) ∧ Below w.heap.size w w'
set_option maxHeartbeats 4000000 in
theorem sizeF_step (N : Nat) (ih : ∀ M, M < N → SizeF M) : SizeF N := by
  intro f left v w hN hv hw hl0 hl1
  have ih' := Lib.hid (fun (t : FT) (h : t.size < N) => ih t.size h t)
  clear ih
  obtain ⟨sa, ss, rfl, ha, hss⟩ := id hv
  obtain ⟨pa, ca, hsa, -⟩ := id ha
  obtain ⟨p, c, hsb, -⟩ := id hss
  subst hsa hsb
  have hst := FS.start (t := 25) hv
  have hlen := f.sub.len_le
  have hfw : f.wt = f.n.size + f.ts.wt + f.sub.wt + 1 := rfl
  have hfs : f.size = f.ts.size + f.sub.size + 1 := rfl
  have hge := f.ts.szl_ge left 0
  have hsw := f.sub.size_wt
  obtain ⟨rr, hrr⟩ : ∃ rr, f.szl left = rr := ⟨_, rfl⟩
  rw [hrr]
  replace hrr := Lib.hid hrr
  have HT : Hid (∀ W, FS f (.slice pa f.ts.len ca) (.slice p f.sub.len c) w w.heap.size W → Calls Tryz.prog 53 #[.slice pa f.ts.len ca, .int .i64 left] W fun e w' => e = .returned (.int .i64 (f.ts.szl left 0)) ∧ FS f (.slice pa f.ts.len ca) (.slice p f.sub.len c) w w.heap.size w') :=
    Lib.hid (fun W hW => (sizeT_any f.ts.size f.ts left _ W (Nat.le_refl _) hW.2.2.2.2.2.1 (by omega) hl0 hl1).mono fun e w' ⟨he, hb⟩ => ⟨he, hW.next hb⟩)
  obtain ⟨q, hq⟩ : ∃ q, f.ts.szl left 0 = q := ⟨_, rfl⟩
  have hrq : f.sub.szl left (1 + (f.n.size : Int) / 40 + q) = rr := by rw [← hrr.out, FT.szl, hq]
  rw [hq] at HT hge
  have hrqh := Lib.hid hrq
  have hfwh := Lib.hid hfw
  have hfsh := Lib.hid hfs
  have e0 : IntKind.i64.wrap ((f.n.size : Int) / 40) = (f.n.size : Int) / 40 := IntWalk.i64_in _ (by omega)
  have e1 : IntKind.i64.wrap (1 + (f.n.size : Int) / 40) = 1 + (f.n.size : Int) / 40 := IntWalk.i64_in _ (by omega)
  have e3 : IntKind.i64.wrap (1 + (f.n.size : Int) / 40 + q) = 1 + (f.n.size : Int) / 40 + q := IntWalk.i64_in _ (by omega)
  have hq0 : 0 ≤ 1 + (f.n.size : Int) / 40 + q ∧ 1 + (f.n.size : Int) / 40 + q + f.sub.wt ≤ 2000000 := by omega
  clear hq hrq hfw hfs ha hss hv
  have hstd : FS f (.slice pa f.ts.len ca) (.slice p f.sub.len c) w w.heap.size (w.alloc (.cells #[.int .u8 f.op, .string f.n, .slice pa f.ts.len ca, .slice p f.sub.len c] 25)).drew := hst.next (bel_drew _)
  clear hst
  go_enter Tryz.func11, Tryz.ntmps11
  go_wp2_with fail
  generalize hg : w.heap.size = g at hstd HT ⊢
  generalize w.alloc (.cells #[.int .u8 f.op, .string f.n, .slice pa f.ts.len ca, .slice p f.sub.len c] 25) = W1 at hstd ⊢
  go_region_held3 (fun V => V.cell? ⟨g, 0, none⟩ = some (.int .u8 f.op) ∧ V.cell? ⟨g, 1, none⟩ = some (.string f.n) ∧ V.cell? ⟨g, 2, none⟩ = some (.slice pa f.ts.len ca) ∧ V.cell? ⟨g, 3, none⟩ = some (.slice p f.sub.len c) ∧ Kept f (.slice pa f.ts.len ca) (.slice p f.sub.len c) w V)
    (first | assumption | exact hstd)
    ((go_at_call 53; refine (HT.out _ (by assumption)).mono ?_; rintro e w' ⟨rfl, hS2⟩))
  have hS2v := hS2.2.2.2.2.2.2
  obtain ⟨p2, c2, b, o, he2, hp, ht⟩ := FSl.opened hS2v
  simp only [Value.slice.injEq] at he2
  obtain ⟨rfl, -, rfl⟩ := he2
  have hSh := Lib.hid hS2
  have hth := Lib.hid ht
  clear hS2 hS2v ht e0 e1 e3 hge HT hstd
  obtain ⟨n0, hn0⟩ : ∃ n0, 1 + (f.n.size : Int) / 40 + q = n0 := ⟨_, rfl⟩
  rw [hn0] at hrqh hq0 ⊢
  clear hn0
  go_wp2
  go_loopw [5, 6] (fun n i wr => ∃ (k : Nat) (m : Int) (r : Fs), n = .int .i64 m ∧ i = .int .i64 k ∧ k + r.len = f.sub.len ∧ 0 ≤ m ∧ m + r.wt ≤ 2000000 ∧ r.size ≤ f.sub.size ∧ r.szl left m = rr ∧ FsAt wr r b (o + k * 4) ∧ FS f (.slice pa f.ts.len ca) (.slice p f.sub.len c) w g wr) (fun _ i _ => f.sub.len - (intOf i).toNat)
  case atStart => exact ⟨0, n0, f.sub, rfl, rfl, by omega, hq0.1, hq0.2, Nat.le_refl _, hrqh.out, by simpa using hth.out, hSh.out⟩
  case round =>
    obtain ⟨k, m, r, rfl, rfl, hk, hm0, hmw, hrs, hsz, hat, hfs⟩ := hrel
    obtain ⟨-, -, -, b3, -⟩ := id hfs
    have hfsR := Lib.hid hfs
    clear hfs
    cases r with
    | nil =>
      simp only [Fs.len] at hk
      have hk' : k = f.sub.len := by omega
      subst hk'
      have em : m = rr := by simpa [Fs.szl] using hsz
      subst em
      clear hsz hrr hrqh
      go_wp2
      go_ret
      exact ⟨rfl, hg ▸ hfsR.out.2.2.2.2.1⟩
    | cons op nm ts sub r' =>
      simp only [Fs.len] at hk
      simp only [Fs.wt] at hmw
      simp only [Fs.size] at hrs
      have hlt : (k : Int) < (f.sub.len : Int) := by omega
      by_cases hml : m ≤ left
      · have hsz' : r'.szl left (m + FT.szl ⟨op, nm, ts, sub⟩ (left - m)) = rr := by rw [← hsz, Fs.szl, if_pos hml]; rfl
        have hg1 := ts.szl_ge (left - m) 0
        have hg2 := sub.szl_ge (left - m) (1 + (nm.size : Int) / 40 + ts.szl (left - m) 0)
        have hgf : 0 ≤ FT.szl ⟨op, nm, ts, sub⟩ (left - m) ∧ FT.szl ⟨op, nm, ts, sub⟩ (left - m) ≤ nm.size + ts.wt + sub.wt + 1 := by
          unfold FT.szl
          simp only []
          omega
        clear hsz hg1 hg2
        obtain ⟨c0, c1, ⟨s, c2, hs2⟩, ⟨s', c3, hs3⟩, hat'⟩ := hat
        have hchild : FVal wr ⟨op, nm, ts, sub⟩ (.agg #[.int .u8 op, .string nm, s, s']) := ⟨s, s', rfl, hs2, hs3⟩
        have hsz1 : (⟨op, nm, ts, sub⟩ : FT).size < N := by have := hfsh.out; simp only [FT.size]; omega
        have hwt1 : (⟨op, nm, ts, sub⟩ : FT).wt ≤ 2000000 := by simp only [FT.wt]; omega
        have hcall := Lib.hid (ih'.out ⟨op, nm, ts, sub⟩ hsz1 (left - m) _ wr (Nat.le_refl _) hchild hwt1 (by omega) (by omega))
        obtain ⟨ps, cs, rfl, -⟩ := hs2
        obtain ⟨ps', cs', rfl, -⟩ := hs3
        rcases hp with hp | hp
        · omega
        subst hp
        obtain ⟨q3, hq3⟩ : ∃ q3, FT.szl ⟨op, nm, ts, sub⟩ (left - m) = q3 := ⟨_, rfl⟩
        rw [hq3] at hsz' hgf hcall
        have hszh := Lib.hid hsz'
        have hath := Lib.hid hat'
        clear hq3 hsz' hat' hchild hwt1 hsz1
        go_wp2_with (go_at_call 11; refine hcall.out.mono ?_; rintro e w' ⟨rfl, hb2⟩)
        have hat2 := Lib.hid (FsAt.below hb2 hath.out)
        have hfs2 := Lib.hid (hfsR.out.next hb2)
        clear hb2 hath hfsR
        go_roundw
        case rel =>
          refine ⟨k + 1, m + q3, r', rfl, by go_num, by omega, by omega, by omega, by omega, hszh.out, ?_, hfs2.out⟩
          have := hat2.out
          rwa [show o + k * 4 + 4 = o + (k + 1) * 4 by omega] at this
        case measure => simp [intOf]; omega
      · have hml' : left < m := by omega
        have em : m = rr := by rw [← hsz, Fs.szl, if_neg hml]
        subst em
        clear hsz hrr hrqh
        go_wp2
        go_ret
        exact ⟨rfl, hg ▸ hfsR.out.2.2.2.2.1⟩
theorem sizeF_any (N : Nat) : SizeF N := by
  induction N using Nat.strongRecOn with
  | _ N ih => exact sizeF_step N ih
/-- Small: at most 500 nodes together. -/
def Fs.small (l : Fs) : Bool := decide (l.szl 500 0 ≤ 500)
theorem Fs.small_size {l : Fs} (h : l.small = true) : l.size ≤ 500 := by
  have h1 := of_decide_eq_true h
  have := l.szl_size 500 0 (by omega) h1
  omega
set_option maxHeartbeats 4000000 in
theorem small_any (l : Fs) (sa : Value) (w : World) (h : FSl w l sa) (hw : l.wt ≤ 2000000) : Calls Tryz.prog 5 #[sa] w fun e w' => e = .returned (.bool l.small) ∧ Below w.heap.size w w' := by
  obtain ⟨p, c, b, o, rfl, hp, ht⟩ := FSl.opened h
  have hlen := l.len_le
  have hsw := l.size_wt
  have HS := Lib.hid (fun (t : FT) => sizeF_any t.size t)
  obtain ⟨rr, hrr⟩ : ∃ rr, l.szl 500 0 = rr := ⟨_, rfl⟩
  have hsm : l.small = decide (rr ≤ 500) := by rw [← hrr]; rfl
  rw [hsm]
  replace hrr := Lib.hid hrr
  clear hsm h
  go_enter Tryz.func5, Tryz.ntmps5
  go_wp2
  go_loopw [3, 4] (fun n i wr => ∃ (k : Nat) (m : Int) (r : Fs), n = .int .i64 m ∧ i = .int .i64 k ∧ k + r.len = l.len ∧ 0 ≤ m ∧ m + r.wt ≤ 2000000 ∧ r.size ≤ l.size ∧ r.szl 500 m = rr ∧ FsAt wr r b (o + k * 4) ∧ Below w.heap.size w wr) (fun _ i _ => l.len - (intOf i).toNat)
  case atStart => exact ⟨0, 0, l, rfl, rfl, by omega, by omega, by omega, Nat.le_refl _, hrr.out, by simpa using ht, Below.refl _ _⟩
  case round =>
    obtain ⟨k, m, r, rfl, rfl, hk, hm0, hmw, hrs, hsz, hat, hbw⟩ := hrel
    cases r with
    | nil =>
      simp only [Fs.len] at hk
      have hk' : k = l.len := by omega
      subst hk'
      have em : m = rr := by simpa [Fs.szl] using hsz
      subst em
      clear hsz hrr
      go_wp2
      all_goals
        go_ret
        exact ⟨rfl, hbw⟩
    | cons op nm ts sub r' =>
      simp only [Fs.len] at hk
      simp only [Fs.wt] at hmw
      simp only [Fs.size] at hrs
      have hlt : (k : Int) < (l.len : Int) := by omega
      by_cases hml : m ≤ 500
      · have hsz' : r'.szl 500 (m + FT.szl ⟨op, nm, ts, sub⟩ (500 - m)) = rr := by rw [← hsz, Fs.szl, if_pos hml]; rfl
        have hg1 := ts.szl_ge (500 - m) 0
        have hg2 := sub.szl_ge (500 - m) (1 + (nm.size : Int) / 40 + ts.szl (500 - m) 0)
        have hgf : 0 ≤ FT.szl ⟨op, nm, ts, sub⟩ (500 - m) ∧ FT.szl ⟨op, nm, ts, sub⟩ (500 - m) ≤ nm.size + ts.wt + sub.wt + 1 := by
          unfold FT.szl
          simp only []
          omega
        clear hsz hg1 hg2
        obtain ⟨c0, c1, ⟨s, c2, hs2⟩, ⟨s', c3, hs3⟩, hat'⟩ := hat
        have hchild : FVal wr ⟨op, nm, ts, sub⟩ (.agg #[.int .u8 op, .string nm, s, s']) := ⟨s, s', rfl, hs2, hs3⟩
        have hwt1 : (⟨op, nm, ts, sub⟩ : FT).wt ≤ 2000000 := by simp only [FT.wt]; omega
        have hcall := Lib.hid (HS.out ⟨op, nm, ts, sub⟩ (500 - m) _ wr (Nat.le_refl _) hchild hwt1 (by omega) (by omega))
        obtain ⟨ps, cs, rfl, -⟩ := hs2
        obtain ⟨ps', cs', rfl, -⟩ := hs3
        rcases hp with hp | hp
        · omega
        subst hp
        obtain ⟨q3, hq3⟩ : ∃ q3, FT.szl ⟨op, nm, ts, sub⟩ (500 - m) = q3 := ⟨_, rfl⟩
        rw [hq3] at hsz' hgf hcall
        have hszh := Lib.hid hsz'
        have hath := Lib.hid hat'
        clear hq3 hsz' hat' hchild hwt1
        go_wp2_with (go_at_call 11; refine hcall.out.mono ?_; rintro e w' ⟨rfl, hb2⟩)
        have hat2 := Lib.hid (FsAt.below hb2 hath.out)
        have hbw2 := bel_step hbw hb2
        clear hb2 hath
        go_roundw
        case rel =>
          refine ⟨k + 1, m + q3, r', rfl, by go_num, by omega, by omega, by omega, by omega, hszh.out, ?_, hbw2⟩
          have := hat2.out
          rwa [show o + k * 4 + 4 = o + (k + 1) * 4 by omega] at this
        case measure => simp [intOf]; omega
      · have hml' : 500 < m := by omega
        have em : m = rr := by rw [← hsz, Fs.szl, if_neg hml]
        subst em
        clear hsz hrr
        go_wp2
        all_goals
          go_ret
          exact ⟨by rw [decide_eq_false (by omega)]; rfl, hbw⟩
end Go.Proofs.YtngdieldgnlogaaGreatDoor
