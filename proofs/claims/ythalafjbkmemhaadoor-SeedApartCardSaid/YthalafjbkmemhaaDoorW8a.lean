/- SeedApart: a name with one byte turned. -/
import Derived.Test.YthalafjbkmemhaaDoorM3
import Derived.Test.YthalafjbkmemhaaDoorW3
import Derived.Laws.BitsAllLaws
import Derived.Laws.IdiomStrings
namespace Go.Proofs.YthalafjbkmemhaaDoor
open Go Go.RowKit
set_option maxRecDepth 100000
theorem subTo_inj : ∀ (l : List UInt8) {k k' : Int}, U k → U k' → subTo k l = subTo k' l → k = k'
  | [], _, _, _, _, h => h
  | _ :: l, _, _, hk, hk', h => xor_cancel' (U_wrap _) hk hk' (mix_inj (U_xor hk (U_wrap _)) (U_xor hk' (U_wrap _)) (subTo_inj l (U_mix _) (U_mix _) h))
theorem U_len (l : List UInt8) (h : l.length ≤ 32) : U (l.length : Int) := ⟨by omega, by omega⟩
theorem subI_inj {k k' : Int} (l : List UInt8) (hl : l.length ≤ 32) (hk : U k) (hk' : U k') (h : subI k l = subI k' l) : k = k' :=
  xor_cancel' (U_len l hl) hk hk' (mix_inj (U_xor hk (U_len l hl)) (U_xor hk' (U_len l hl)) (subTo_inj l (U_mix _) (U_mix _) h))
theorem U_subTo {k : Int} (hk : U k) (l : List UInt8) : U (subTo k l) := subTo_range k l hk.1 hk.2
theorem sub_names {k : Int} (a b : List UInt8) (c d : UInt8) (h : subI k (a ++ c :: b) = subI k (a ++ d :: b)) : c = d := by
  unfold subI at h
  have e : (a ++ d :: b).length = (a ++ c :: b).length := by simp
  rw [e] at h
  have hs := U_mix (bits .xor .u64 k ((a ++ c :: b).length : Int))
  generalize mixI (bits .xor .u64 k ((a ++ c :: b).length : Int)) = s at h hs
  have ap : ∀ x, subTo s (a ++ x :: b) = subTo (mixI (bits .xor .u64 (subTo s a) (IntKind.u64.wrap (x.toNat : Int)))) b := fun x => by simp [subTo]
  rw [ap, ap] at h
  have h2 := xor_cancel (U_subTo hs a) (U_wrap _) (U_wrap _) (mix_inj (U_xor (U_subTo hs a) (U_wrap _)) (U_xor (U_subTo hs a) (U_wrap _)) (subTo_inj b (U_mix _) (U_mix _) h))
  have c1 := c.toNat_lt
  have d1 := d.toNat_lt
  rw [IntKind.wrap_u64, IntKind.wrap_u64] at h2
  exact UInt8.toNat_inj.1 (by omega)
theorem bounds_u8a {n : Int} (h : (Lit.int .u8 n).wf = true) : 0 ≤ n ∧ n ≤ 255 := by
  simp [Lit.wf, IntKind.min, IntKind.max, IntKind.signed, IntKind.bits] at h
  omega
/-- The name with its byte number k turned by b. -/
theorem other_name (x : Int) (s : ByteArray) (k : Nat) (hk : k < s.size) (b : Int) (b0 : 0 ≤ b) (b1 : b ≤ 255) :
    ∃ (l : List UInt8) (cb : Int), l.length = s.size ∧ (∃ h : k < s.data.size, (s.data[k].toNat : Int) = cb) ∧
      (∀ j (hj : j < l.length) (hj2 : j < s.data.size), (l[j].toNat : Int) = if j = k then bits .xor .u8 cb b else (s.data[j].toNat : Int)) ∧ (subI x s.data.toList == subI x l) = (b == 0) := by
  have hk2 : k < s.data.size := hk
  obtain ⟨B, rfl⟩ : ∃ B : Nat, b = B := ⟨b.toNat, by omega⟩
  have hc := (s.data[k]).toNat_lt
  have hx : bits .xor .u8 ((s.data[k]).toNat : Int) (B : Int) = (((s.data[k]).toNat ^^^ B : Nat) : Int) := u8_xor_nat _ _ (by omega) (by omega)
  have hlt : (s.data[k]).toNat ^^^ B < 256 := Nat.xor_lt_two_pow (n := 8) (by omega) (by omega)
  refine ⟨s.data.toList.set k (UInt8.ofNat ((s.data[k]).toNat ^^^ B)), _, by simp, ⟨hk2, rfl⟩, ?_, ?_⟩
  · intro j hj hj2
    rw [hx, List.getElem_set]
    by_cases e : j = k
    · subst e
      rw [if_pos rfl, if_pos rfl, UInt8.toNat_ofNat', Nat.mod_eq_of_lt hlt]
    · rw [if_neg (Ne.symm e), if_neg e]
      simp
  · have hsp : s.data.toList = s.data.toList.take k ++ s.data[k] :: s.data.toList.drop (k + 1) := by
      conv => lhs; rw [← List.take_append_drop k s.data.toList, List.drop_eq_getElem_cons (by simpa using hk2)]
      simp
    have hst : s.data.toList.set k (UInt8.ofNat ((s.data[k]).toNat ^^^ B)) = s.data.toList.take k ++ UInt8.ofNat ((s.data[k]).toNat ^^^ B) :: s.data.toList.drop (k + 1) := by
      rw [List.set_eq_take_append_cons_drop, if_pos (by simpa using hk2)]
    rw [hst]
    conv => lhs; lhs; rw [hsp]
    by_cases e : B = 0
    · subst e
      simp
    · have h0 : ((B : Int) == 0) = false := beq_eq_false_iff_ne.2 (by omega)
      rw [h0, beq_eq_false_iff_ne]
      intro hh
      have hcd := sub_names _ _ _ _ hh
      have h1 : (s.data[k]).toNat = (s.data[k]).toNat ^^^ B := by
        have := congrArg UInt8.toNat hcd
        rw [UInt8.toNat_ofNat'] at this
        omega
      have h2 := congrArg ((s.data[k]).toNat ^^^ ·) h1
      simp only [← Nat.xor_assoc, Nat.xor_self, Nat.zero_xor] at h2
      exact e h2.symm
theorem bytes_world (W : World) (s : ByteArray) (cap : Nat) : ∃ W', W.drew.alloc (.cells (bytesRow s cap) 5 ((bytesRow s cap).size, (bytesRow s cap).size + 1)) = W' ∧ Below W.heap.size W W' ∧
    ∀ j (hj : j < s.data.size), W'.cell? ⟨W.heap.size, j, none⟩ = some (.int .u8 (s.data[j].toNat : Int)) ∧ W'.frozen? ⟨W.heap.size, j, none⟩ = false := by
  refine ⟨_, rfl, ?_, fun j hj => ⟨?_, ?_⟩⟩
  · have h1 : Below W.heap.size W W.drew := ⟨rfl, rfl, rfl, Nat.le_refl _, fun _ _ => rfl⟩
    exact h1.trans (Below.alloc (Below.refl _ W.drew) (Nat.le_refl _) _)
  · have := World.cell?_alloc_mark W.drew (bytesRow s cap) 5 ((bytesRow s cap).size, (bytesRow s cap).size + 1) j
    rw [bytesRow_at s cap j hj] at this
    exact this
  · have := World.frozen?_alloc_mark W.drew (bytesRow s cap) 5 (bytesRow s cap).size ((bytesRow s cap).size + 1) j
    have hsz : s.data.size ≤ (bytesRow s cap).size := by simp [bytesRow]
    rw [decide_eq_false (by omega)] at this
    simpa using this
theorem back_any (W : World) (g cap n : Nat) (l : List UInt8) (hn : l.length = n) (hc : ∀ j (hj : j < l.length), W.cell? ⟨g, j, none⟩ = some (.int .u8 (l[j].toNat : Int))) :
    (convert 42 9 (.slice (some ⟨g, 0, none⟩) n cap)).run Tryd.prog W = .ok (.string ⟨l.toArray⟩) W := by
  subst hn
  refine run_convert_bytes_back W 42 9 5 ⟨g, 0, none⟩ cap l Tryd.underlying42 Tryd.underlying5 Tryd.underlying9 (fun j hj => ?_)
  have := hc j hj
  have e : (Addr.add ⟨g, 0, none⟩ j) = ⟨g, j, none⟩ := by
    by_cases h : j = 0
    · subst h; rfl
    · simp [Addr.add, h]
  rw [e]
  exact this
end Go.Proofs.YthalafjbkmemhaaDoor
