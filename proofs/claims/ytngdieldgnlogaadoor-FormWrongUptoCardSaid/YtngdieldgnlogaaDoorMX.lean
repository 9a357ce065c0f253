/- The eight faults (mathematics alone). -/
import Derived.Test.YtngdieldgnlogaaDoorMW
namespace Go.Proofs.YtngdieldgnlogaaDoor
open Go Go.RowKit
set_option maxRecDepth 100000
set_option linter.unusedVariables false
abbrev us : ByteArray := ⟨#[95]⟩
abbrev untilS : ByteArray := ⟨#[117, 110, 116, 105, 108]⟩
abbrev metaA : FT := ⟨15, ⟨#[63, 65]⟩, .nil, .nil⟩
theorem us_size (s : ByteArray) : (s ++ us).size = s.size + 1 := by simp [ByteArray.size_append]; rfl
theorem us_last (s : ByteArray) : byteI (s ++ us) s.size = 95 := by
  have h : s.size < (s ++ us).size := by rw [us_size]; omega
  unfold byteI
  rw [dif_pos h]
  have : (s ++ us)[s.size] = 95 := by
    rw [ByteArray.getElem_append_right (Nat.le_refl _)]
    simp
    rfl
  rw [this]; rfl
theorem allFrom_at (rest : Int → Bool) (s : ByteArray) : ∀ (k i j : Nat), allFrom rest s k i = true → i ≤ j → j < i + k → rest (byteI s j) = true
  | 0, i, j, _, h1, h2 => by omega
  | k + 1, i, j, h, h1, h2 => by
    simp only [allFrom, Bool.and_eq_true] at h
    by_cases e : i = j
    · subst e; exact h.1
    · exact allFrom_at rest s k (i + 1) j h.2 (by omega) (by omega)
theorem spelled_us (lo hi : Int) (rest : Int → Bool) (s : ByteArray) (hr : rest 95 = false) (hb : hi < 95 ∨ 95 < lo) : spelled lo hi rest (s ++ us) = false := by
  cases h : spelled lo hi rest (s ++ us) with
  | false => rfl
  | true =>
    simp only [spelled, Bool.and_eq_true, decide_eq_true_eq] at h
    obtain ⟨⟨⟨⟨⟨-, -⟩, h1⟩, h2⟩, -⟩, h3⟩ := h
    rw [us_size] at h3
    rcases Nat.eq_zero_or_pos s.size with e | e
    · have := us_last s
      rw [e] at this
      rw [this] at h1 h2
      omega
    · have := allFrom_at rest (s ++ us) _ 1 s.size h3 e (by omega)
      rw [us_last, hr] at this
      cases this
theorem name_us (K : Nat) (hK : K ≤ 2) (s : ByteArray) : nameOk K (s ++ us) = false := by
  rcases show K = 0 ∨ K = 1 ∨ K = 2 by omega with rfl | rfl | rfl
  · show (s ++ us).toList.isEmpty = false
    rw [empty_toList, us_size]
    simp
  · exact spelled_us 65 90 letterI s rfl (.inl (by omega))
  · exact spelled_us 117 122 digitI s rfl (.inr (by omega))
theorem name_until (K : Nat) (hK : K ≤ 2) : nameOk K untilS = false := by
  rcases show K = 0 ∨ K = 1 ∨ K = 2 by omega with rfl | rfl | rfl
  all_goals kernel_rfl
theorem rowK_low (op : Nat) (h : op ≤ 14) : rowK op ≤ 2 := by
  rcases show op = 0 ∨ op = 1 ∨ op = 2 ∨ op = 3 ∨ op = 4 ∨ op = 5 ∨ op = 6 ∨ op = 7 ∨ op = 8 ∨ op = 9 ∨ op = 10 ∨ op = 11 ∨ op = 12 ∨ op = 13 ∨ op = 14 by omega with rfl | rfl | rfl | rfl | rfl | rfl | rfl | rfl | rfl | rfl | rfl | rfl | rfl | rfl | rfl
  all_goals decide
theorem rowA_low (op : Nat) : rowA op ≤ 4 := by
  by_cases h : op ≤ 16
  · rcases show op = 0 ∨ op = 1 ∨ op = 2 ∨ op = 3 ∨ op = 4 ∨ op = 5 ∨ op = 6 ∨ op = 7 ∨ op = 8 ∨ op = 9 ∨ op = 10 ∨ op = 11 ∨ op = 12 ∨ op = 13 ∨ op = 14 ∨ op = 15 ∨ op = 16 by omega with rfl | rfl | rfl | rfl | rfl | rfl | rfl | rfl | rfl | rfl | rfl | rfl | rfl | rfl | rfl | rfl | rfl
    all_goals decide
  · unfold rowA
    rw [List.getD_eq_getElem?_getD, List.getElem?_eq_none (by simp; omega)]; simp
abbrev aT (r : Ts) : Ts := .cons false ⟨#[97]⟩ .nil r
/-- A formula with a fault. -/
def FT.bad (o : FT) : Nat → FT
  | 0 => ⟨0, o.n, o.ts, o.sub⟩
  | 1 => ⟨17, o.n, o.ts, o.sub⟩
  | 2 => ⟨o.op, o.n ++ us, o.ts, o.sub⟩
  | 3 => ⟨o.op, o.n, o.ts, o.sub.app (.cons 1 ⟨#[80]⟩ .nil .nil .nil)⟩
  | 4 => ⟨o.op, o.n, o.ts.app (.cons false ⟨#[]⟩ .nil .nil), o.sub⟩
  | 5 => metaA
  | 6 => ⟨o.op, o.n, o.ts.app (aT (aT (aT (aT (aT .nil))))), o.sub⟩
  | _ => ⟨o.op, untilS, o.ts, o.sub⟩
theorem formOk_parts {op : Int} {n : ByteArray} {ts : Ts} {k : Nat} (h : formOk false op n ts k = true) : 1 ≤ op ∧ op ≤ 14 ∧ nameOk (rowK op.toNat) n = true ∧ ts.len ≤ rowA op.toNat ∧ k = rowS op.toNat ∧ ts.right false = true := by
  simp only [formOk, lastOp, Bool.and_eq_true, decide_eq_true_eq] at h
  obtain ⟨⟨⟨⟨⟨⟨h1, h2⟩, h3⟩, h4⟩, h5⟩, h6⟩, h7⟩ := h
  exact ⟨h1, by simpa using h2, h3, h4, h5, h7⟩
theorem FT.bad_right (o : FT) (ho : o.right false = true) (k : Nat) : (o.bad k).right false = false := by
  cases hb : (o.bad k).right false with
  | false => rfl
  | true =>
    exfalso
    simp only [FT.right, Bool.and_eq_true] at ho hb
    obtain ⟨a1, a2, a3, a4, a5, a6⟩ := formOk_parts ho.1
    obtain ⟨b1, b2, b3, b4, b5, b6⟩ := formOk_parts hb.1
    match k with
    | 0 => exact absurd b1 (by show ¬ (1 : Int) ≤ 0; omega)
    | 1 => exact absurd b2 (by show ¬ (17 : Int) ≤ 14; omega)
    | 2 =>
      have : nameOk (rowK o.op.toNat) (o.n ++ us) = false := name_us _ (rowK_low _ (by omega)) _
      rw [show nameOk (rowK o.op.toNat) (o.n ++ us) = true from b3] at this
      cases this
    | 3 =>
      have h1 : (o.sub.app (.cons 1 ⟨#[80]⟩ .nil .nil .nil)).len = rowS o.op.toNat := b5
      rw [Fs.len_app] at h1
      simp only [Fs.len] at h1
      omega
    | 4 =>
      have h1 : (o.ts.app (.cons false ⟨#[]⟩ .nil .nil)).right false = true := b6
      rw [Ts.right_app] at h1
      simp only [Bool.and_eq_true] at h1
      exact absurd h1.2 (by decide)
    | 5 => exact absurd b2 (by show ¬ (15 : Int) ≤ 14; omega)
    | 6 =>
      have h1 : (o.ts.app (aT (aT (aT (aT (aT .nil)))))).len ≤ rowA o.op.toNat := b4
      rw [Ts.len_app] at h1
      simp only [Ts.len] at h1
      have := rowA_low o.op.toNat
      omega
    | k + 7 =>
      have : nameOk (rowK o.op.toNat) untilS = false := name_until _ (rowK_low _ (by omega))
      rw [show nameOk (rowK o.op.toNat) untilS = true from b3] at this
      cases this
theorem meta_right : metaA.right true = true := by kernel_rfl
end Go.Proofs.YtngdieldgnlogaaDoor
