/- The law's measure: size. -/
import Derived.Test.YtngdieldgnlogaaDoorMV
import Derived.Deep.RegionHeld3
namespace Go.Proofs.YtngdieldgnlogaaDoor
open Go Go.RowKit
set_option maxRecDepth 100000
set_option linter.unusedVariables false
/-- What a reading holds: nodes and letters. -/
def Ts.wt : Ts → Nat
  | .nil => 0
  | .cons _ n ts r => n.size + ts.wt + r.wt + 1
def Fs.wt : Fs → Nat
  | .nil => 0
  | .cons _ n ts sub r => n.size + ts.wt + sub.wt + r.wt + 1
def FT.wt (f : FT) : Nat := f.n.size + f.ts.wt + f.sub.wt + 1
/-- What the law's size and Size return. -/
def Ts.szl : Ts → Int → Int → Int
  | .nil, _, n => n
  | .cons _ nm ts r, left, n => if n ≤ left then r.szl left (n + (1 + (nm.size : Int) / 40 + ts.szl (left - n) 0)) else n
def Fs.szl : Fs → Int → Int → Int
  | .nil, _, n => n
  | .cons _ nm ts sub r, left, n => if n ≤ left then r.szl left (n + sub.szl (left - n) (1 + (nm.size : Int) / 40 + ts.szl (left - n) 0)) else n
def FT.szl (f : FT) (left : Int) : Int := f.sub.szl left (1 + (f.n.size : Int) / 40 + f.ts.szl left 0)
theorem Ts.szl_ge : ∀ (t : Ts) (left n : Int), n ≤ t.szl left n ∧ t.szl left n ≤ n + t.wt
  | .nil, _, n => by simp [Ts.szl, Ts.wt]
  | .cons _ nm ts r, left, n => by
    have h1 := ts.szl_ge (left - n) 0
    have h2 := r.szl_ge left (n + (1 + (nm.size : Int) / 40 + ts.szl (left - n) 0))
    simp only [Ts.szl, Ts.wt]
    split <;> omega
theorem Fs.szl_ge : ∀ (t : Fs) (left n : Int), n ≤ t.szl left n ∧ t.szl left n ≤ n + t.wt
  | .nil, _, n => by simp [Fs.szl, Fs.wt]
  | .cons _ nm ts sub r, left, n => by
    have h0 := ts.szl_ge (left - n) 0
    have h1 := sub.szl_ge (left - n) (1 + (nm.size : Int) / 40 + ts.szl (left - n) 0)
    have h2 := r.szl_ge left (n + sub.szl (left - n) (1 + (nm.size : Int) / 40 + ts.szl (left - n) 0))
    simp only [Fs.szl, Fs.wt]
    split <;> omega
theorem Ts.szl_size : ∀ (t : Ts) (left n : Int), 0 ≤ n → t.szl left n ≤ left → (t.size : Int) + n ≤ t.szl left n
  | .nil, _, n, _, _ => by simp [Ts.szl, Ts.size]
  | .cons _ nm ts r, left, n, h0, h => by
    have g1 := ts.szl_ge (left - n) 0
    simp only [Ts.szl] at h ⊢
    split at h
    · rename_i hn
      rw [if_pos hn]
      have g2 := r.szl_ge left (n + (1 + (nm.size : Int) / 40 + ts.szl (left - n) 0))
      have h1 := ts.szl_size (left - n) 0 (by omega) (by omega)
      have h2 := r.szl_size left _ (by omega) h
      simp only [Ts.size]
      omega
    · omega
theorem Fs.szl_size : ∀ (t : Fs) (left n : Int), 0 ≤ n → t.szl left n ≤ left → (t.size : Int) + n ≤ t.szl left n
  | .nil, _, n, _, _ => by simp [Fs.szl, Fs.size]
  | .cons _ nm ts sub r, left, n, h0, h => by
    have g0 := ts.szl_ge (left - n) 0
    have g1 := sub.szl_ge (left - n) (1 + (nm.size : Int) / 40 + ts.szl (left - n) 0)
    simp only [Fs.szl] at h ⊢
    split at h
    · rename_i hn
      rw [if_pos hn]
      have g2 := r.szl_ge left (n + sub.szl (left - n) (1 + (nm.size : Int) / 40 + ts.szl (left - n) 0))
      have h0' := ts.szl_size (left - n) 0 (by omega) (by omega)
      have h1 := sub.szl_size (left - n) _ (by omega) (by omega : sub.szl (left - n) (1 + (nm.size : Int) / 40 + ts.szl (left - n) 0) ≤ left - n)
      have h2 := r.szl_size left _ (by omega) h
      simp only [Fs.size]
      omega
    · omega
theorem Ts.size_wt : ∀ t : Ts, t.size ≤ t.wt
  | .nil => Nat.le_refl _
  | .cons _ _ ts r => by have := ts.size_wt; have := r.size_wt; simp only [Ts.size, Ts.wt]; omega
theorem Fs.size_wt : ∀ t : Fs, t.size ≤ t.wt
  | .nil => Nat.le_refl _
  | .cons _ _ ts sub r => by have := ts.size_wt; have := sub.size_wt; have := r.size_wt; simp only [Fs.size, Fs.wt]; omega
/-- What stays while the elements are read. -/
def SzK (w : World) (a : Ts) (s : Value) (r : Ts) (b o : Nat) (W : World) : Prop := Below w.heap.size w W ∧ TSl W a s ∧ TsAt W r b o
/-- The cells, and that. -/
def SzS (w : World) (a : Ts) (ps : Option Addr) (cs : Nat) (nm : ByteArray) (r : Ts) (b o : Nat) (W : World) : Prop :=
  W.cell? ⟨b, o + 1, none⟩ = some (.string nm) ∧ W.cell? ⟨b, o + 2, none⟩ = some (.slice ps a.len cs) ∧ SzK w a (.slice ps a.len cs) r b (o + 3) W
theorem SzS.next {w : World} {a : Ts} {ps : Option Addr} {cs : Nat} {nm : ByteArray} {r : Ts} {b o : Nat} {W W' : World} (h : SzS w a ps cs nm r b o W) (hb : Below W.heap.size W W') : SzS w a ps cs nm r b o W' :=
  ⟨cell_below hb h.1, cell_below hb h.2.1, bel_step h.2.2.1 hb, TSl.below hb h.2.2.2.1, TsAt.below hb h.2.2.2.2⟩
def SizeT (N : Nat) : Prop := ∀ (ts : Ts) (left : Int) (sa : Value) (w : World), ts.size ≤ N → TSl w ts sa → ts.wt ≤ 2000000 → 0 ≤ left → left ≤ 1000000 →
  Calls Tryd.prog 55 #[sa, .int .i64 left] w fun e w' => e = .returned (.int .i64 (ts.szl left 0)) ∧ Below w.heap.size w w'
theorem sizeT_nil (left : Int) (sa : Value) (w : World) (h : TSl w .nil sa) (hl0 : 0 ≤ left) : Calls Tryd.prog 55 #[sa, .int .i64 left] w fun e w' => e = .returned (.int .i64 (Ts.szl .nil left 0)) ∧ Below w.heap.size w w' := by
  obtain ⟨p, c, rfl, -⟩ := h
  go_enter Tryd.func55, Tryd.ntmps55
  go_wp2
  go_loopw [5, 6] (fun n i wr => n = .int .i64 0 ∧ i = .int .i64 0 ∧ wr = w) (fun _ _ _ => 0)
  case atStart => exact ⟨rfl, rfl, rfl⟩
  case round =>
    obtain ⟨rfl, rfl, rfl⟩ := hrel
    simp only [Ts.len]
    go_wp2
    go_ret
    exact ⟨rfl, Below.refl _ _⟩
set_option maxHeartbeats 4000000 in
theorem sizeT_step (N : Nat) (ih : SizeT N) : SizeT (N + 1) := by
  intro ts left sa w hN h hw hl0 hl1
  obtain ⟨p, c, b, o, rfl, hp, ht⟩ := TSl.opened h
  have ih' := Lib.hid ih
  clear ih h
  have hlen := ts.len_le
  have hszw := ts.size_wt
  obtain ⟨rr, hrr⟩ : ∃ rr, ts.szl left 0 = rr := ⟨_, rfl⟩
  rw [hrr]
  replace hrr := Lib.hid hrr
  go_enter Tryd.func55, Tryd.ntmps55
  go_wp2
  go_loopw [5, 6] (fun n i wr => ∃ (k : Nat) (m : Int) (r : Ts), n = .int .i64 m ∧ i = .int .i64 k ∧ k + r.len = ts.len ∧ 0 ≤ m ∧ m + r.wt ≤ 2000000 ∧ r.size ≤ ts.size ∧ r.szl left m = rr ∧ TsAt wr r b (o + k * 3) ∧ Below w.heap.size w wr) (fun _ i _ => ts.len - (intOf i).toNat)
  case atStart => exact ⟨0, 0, ts, rfl, rfl, by omega, by omega, by omega, Nat.le_refl _, hrr.out, by simpa using ht, Below.refl _ _⟩
  case round =>
    obtain ⟨k, m, r, rfl, rfl, hk, hm0, hmw, hrs, hsz, hat, hbw⟩ := hrel
    cases r with
    | nil =>
      simp only [Ts.len] at hk
      have hk' : k = ts.len := by omega
      subst hk'
      have em : m = rr := by simpa [Ts.szl] using hsz
      subst em
      clear hsz hrr
      go_wp2
      go_ret
      exact ⟨rfl, hbw⟩
    | cons v nm as' r' =>
      simp only [Ts.len] at hk
      simp only [Ts.wt] at hmw
      simp only [Ts.size] at hrs
      obtain ⟨c0, c1, ⟨s, c2, hs2⟩, hat'⟩ := hat
      rcases hp with hp | hp
      · omega
      subst hp
      have hlt : (k : Int) < (ts.len : Int) := by omega
      by_cases hml : m ≤ left
      · have hsz' : r'.szl left (m + (1 + (nm.size : Int) / 40 + as'.szl (left - m) 0)) = rr := by rw [← hsz, Ts.szl, if_pos hml]
        clear hsz
        have hge := as'.szl_ge (left - m) 0
        obtain ⟨ps, cs, rfl, -⟩ := id hs2
        have hcall : Hid (∀ W, SzS w as' ps cs nm r' b (o + k * 3) W → Calls Tryd.prog 55 #[.slice ps as'.len cs, .int .i64 (left - m)] W fun e w' => e = .returned (.int .i64 (as'.szl (left - m) 0)) ∧ SzS w as' ps cs nm r' b (o + k * 3) w') :=
          Lib.hid (fun W hW => (ih'.out as' (left - m) _ W (by omega) hW.2.2.2.1 (by omega) (by omega) (by omega)).mono fun e w' ⟨he, hb⟩ => ⟨he, hW.next hb⟩)
        have hS : SzS w as' ps cs nm r' b (o + k * 3) wr.drew := SzS.next ⟨c1, c2, hbw, hs2, hat'⟩ (bel_drew wr)
        clear hs2
        obtain ⟨q, hq⟩ : ∃ q, as'.szl (left - m) 0 = q := ⟨_, rfl⟩
        rw [hq] at hcall hge hsz'
        have hszh := Lib.hid hsz'
        clear hq hsz' hat'
        have e0 : IntKind.i64.wrap ((nm.size : Int) / 40) = (nm.size : Int) / 40 := IntWalk.i64_in _ (by omega)
        have e1 : IntKind.i64.wrap (1 + (nm.size : Int) / 40) = 1 + (nm.size : Int) / 40 := IntWalk.i64_in _ (by omega)
        have e2 : IntKind.i64.wrap (left - m) = left - m := IntWalk.i64_in _ (by omega)
        have e3 : IntKind.i64.wrap (1 + (nm.size : Int) / 40 + q) = 1 + (nm.size : Int) / 40 + q := IntWalk.i64_in _ (by omega)
        have e4 : IntKind.i64.wrap (m + (1 + (nm.size : Int) / 40 + q)) = m + (1 + (nm.size : Int) / 40 + q) := IntWalk.i64_in _ (by omega)
        obtain ⟨q2, hq2⟩ : ∃ q2, m + (1 + (nm.size : Int) / 40 + q) = q2 := ⟨_, rfl⟩
        rw [hq2] at e4 hszh
        have hq2h := Lib.hid hq2
        clear hq2 c0 c1 c2
        go_wp2
        go_region_held3 (fun W => W.cell? ⟨b, o + k * 3 + 1, none⟩ = some (.string nm) ∧ W.cell? ⟨b, o + k * 3 + 2, none⟩ = some (.slice ps as'.len cs) ∧ SzK w as' (.slice ps as'.len cs) r' b (o + k * 3 + 3) W)
          (first | assumption | exact hS)
          ((go_at_call 55; refine (hcall.out _ (by assumption)).mono ?_; rintro e w' ⟨rfl, hS2⟩))
        rw [hq2h.out, e4]
        clear e0 e1 e2 e3 e4
        have hq2i := hq2h.out
        have hSh := Lib.hid hS2
        clear hS2 hS hcall hq2h
        have hq3 : 0 ≤ q2 ∧ q2 + r'.wt ≤ 2000000 := by omega
        clear hq2i hge
        go_wp2
        go_roundw
        case rel =>
          refine ⟨k + 1, q2, r', rfl, by go_num, by omega, hq3.1, hq3.2, by omega, hszh.out, ?_, hSh.out.2.2.1⟩
          have := hSh.out.2.2.2.2
          rwa [show o + k * 3 + 3 = o + (k + 1) * 3 by omega] at this
        case measure => simp [intOf]; omega
      · have hml' : left < m := by omega
        have em : m = rr := by rw [← hsz, Ts.szl, if_neg hml]
        subst em
        clear hsz hrr
        go_wp2
        go_ret
        exact ⟨rfl, hbw⟩
theorem sizeT_any : ∀ N, SizeT N
  | 0 => by
    intro ts left sa w hN h hw hl0 hl1
    exact sizeT_step 0 (fun ts left sa w hN h hw hl0 hl1 => by
      cases ts with
      | nil => exact sizeT_nil left sa w h hl0
      | cons _ _ _ _ => simp [Ts.size] at hN) ts left sa w (by omega) h hw hl0 hl1
  | N + 1 => sizeT_step N (sizeT_any N)
end Go.Proofs.YtngdieldgnlogaaDoor
