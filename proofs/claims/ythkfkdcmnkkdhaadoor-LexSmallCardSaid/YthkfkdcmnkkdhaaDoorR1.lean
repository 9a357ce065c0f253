/- The reference's signs. -/
import Derived.Test.YthkfkdcmnkkdhaaDoorF6
namespace Go.Proofs.YthkfkdcmnkkdhaaDoor
open Go Go.RowKit
set_option maxRecDepth 100000
set_option linter.unusedVariables false
theorem pre_size (t l : List UInt8) (h : t.isPrefixOf l = true) : t.length ≤ l.length := (List.isPrefixOf_iff_prefix.1 h).length_le
/-- Whether a text begins with another one. -/
def preB (s t : ByteArray) : Bool := t.data.toList.isPrefixOf s.data.toList
/-- A beginning of a text, as a string's part tells it. -/
theorem pre_eq (s t : ByteArray) (h : t.size ≤ s.size) : ((s.extract 0 t.size).toList == t.toList) = preB s t := by
  unfold preB
  rw [Bool.eq_iff_iff, List.isPrefixOf_iff_prefix, beq_iff_eq, ByteArray.toList_eq, ByteArray.toList_eq, ByteArray.data_extract, Array.toList_extract, List.extract_eq_take_drop, List.drop_zero, List.prefix_iff_eq_take]
  have : t.data.toList.length = t.size := by simp
  rw [this, Nat.sub_zero]
  exact eq_comm
theorem refStarts_any (s t : ByteArray) (w : World) : Calls Tryd.prog 45 #[.string s, .string t] w fun e w' => e = .returned (.bool (preB s t)) ∧ w' = w := by
  go_enter Tryd.func45, Tryd.ntmps45
  by_cases h : t.size ≤ s.size
  · have h1 : (t.size : Int) ≤ (s.size : Int) := by omega
    have h2 := pre_eq s t h
    have h3 : ((t.size : Int)).toNat = t.size := by omega
    go_wp2_with fail
    go_ret
    exact ⟨rfl, rfl⟩
  · have h1 : ¬ (t.size : Int) ≤ (s.size : Int) := by omega
    have h2 : preB s t = false := by
      cases hh : preB s t with
      | false => rfl
      | true => have := pre_size _ _ hh; simp at this; exact absurd this h
    rw [h2]
    go_wp2_with fail
    go_ret
    exact ⟨rfl, rfl⟩
/-- The lone signs. -/
def oneC (c : UInt8) : Bool := c == 40 || c == 41 || c == 44 || c == 126 || c == 38 || c == 124 || c == 47 || c == 91 || c == 93
def sgV (l : List UInt8) : Int := match Lx.sgn l with
  | none => 0
  | some t => t.length
theorem pre_one (a c : UInt8) (r : List UInt8) : List.isPrefixOf [a] (c :: r) = (a == c) := by simp [List.isPrefixOf]
theorem sgV_eq (c : UInt8) (r : List UInt8) : sgV (c :: r) = if List.isPrefixOf [60, 45, 62] (c :: r) then (3 : Int) else if List.isPrefixOf [45, 62] (c :: r) || List.isPrefixOf [60, 62] (c :: r) || List.isPrefixOf [91, 93] (c :: r) then (2 : Int) else if oneC c then (1 : Int) else (0 : Int) := by
  unfold sgV Lx.sgn Lx.sgs
  simp only [List.find?_cons, List.find?_nil, pre_one]
  cases List.isPrefixOf [60, 45, 62] (c :: r)
  · cases List.isPrefixOf [45, 62] (c :: r)
    · cases List.isPrefixOf [91, 93] (c :: r)
      · cases List.isPrefixOf [60, 62] (c :: r)
        · simp only [Bool.false_or, oneC]
          by_cases h1 : c = 40
          · subst h1; rfl
          by_cases h2 : c = 41
          · subst h2; rfl
          by_cases h3 : c = 44
          · subst h3; rfl
          by_cases h4 : c = 126
          · subst h4; rfl
          by_cases h5 : c = 38
          · subst h5; rfl
          by_cases h6 : c = 124
          · subst h6; rfl
          by_cases h7 : c = 47
          · subst h7; rfl
          by_cases h8 : c = 91
          · subst h8; rfl
          by_cases h9 : c = 93
          · subst h9; rfl
          have g : ∀ a : UInt8, c ≠ a → (a == c) = false := fun a h => by simpa using fun e : a = c => h e.symm
          have g' : ∀ a : UInt8, c ≠ a → (c == a) = false := fun a h => by simpa using h
          simp only [g _ h1, g _ h2, g _ h3, g _ h4, g _ h5, g _ h6, g _ h7, g _ h8, g _ h9, g' _ h1, g' _ h2, g' _ h3, g' _ h4, g' _ h5, g' _ h6, g' _ h7, g' _ h8, g' _ h9]
          rfl
        · rfl
      · cases List.isPrefixOf [60, 62] (c :: r) <;> rfl
    · cases List.isPrefixOf [60, 62] (c :: r) <;> cases List.isPrefixOf [91, 93] (c :: r) <;> rfl
  · rfl
theorem sgV_of (s : ByteArray) (h0 : 0 < s.size) : sgV s.data.toList = if preB s ⟨#[60, 45, 62]⟩ then (3 : Int) else if preB s ⟨#[45, 62]⟩ || preB s ⟨#[60, 62]⟩ || preB s ⟨#[91, 93]⟩ then (2 : Int) else if oneC s[0] then (1 : Int) else (0 : Int) := by
  cases hq : s.data.toList with
  | nil => have : s.data.toList.length = s.size := by simp
           rw [hq] at this; simp at this; omega
  | cons c r =>
    have hc : s[0] = c := by
      have h1 : s.data.toList[0]? = some c := by rw [hq]; rfl
      have h2 : s.data[0]? = some c := by simpa using h1
      have h3 := (Array.getElem?_eq_some_iff.1 h2).2
      exact h3
    rw [sgV_eq, hc]
    unfold preB
    rw [hq]
theorem oneC_cases {c : UInt8} (h : oneC c = true) : c = 40 ∨ c = 41 ∨ c = 44 ∨ c = 126 ∨ c = 38 ∨ c = 124 ∨ c = 47 ∨ c = 91 ∨ c = 93 := by
  simp only [oneC, Bool.or_eq_true, beq_iff_eq] at h
  simpa only [or_assoc] using h
theorem oneC_not {c : UInt8} (h : oneC c = false) : ¬ (c.toNat : Int) = 40 ∧ ¬ (c.toNat : Int) = 41 ∧ ¬ (c.toNat : Int) = 44 ∧ ¬ (c.toNat : Int) = 126 ∧ ¬ (c.toNat : Int) = 38 ∧ ¬ (c.toNat : Int) = 124 ∧ ¬ (c.toNat : Int) = 47 ∧ ¬ (c.toNat : Int) = 91 ∧ ¬ (c.toNat : Int) = 93 := by
  have g : ∀ n : Nat, n < 256 → (c == UInt8.ofNat n) = false → ¬ (c.toNat : Int) = n := fun n hn hf e => by
    have := byte_eq c n hn
    rw [hf] at this
    simp [e] at this
  simp only [oneC, Bool.or_eq_false_iff] at h
  obtain ⟨⟨⟨⟨⟨⟨⟨⟨h1, h2⟩, h3⟩, h4⟩, h5⟩, h6⟩, h7⟩, h8⟩, h9⟩ := h
  exact ⟨g 40 (by omega) h1, g 41 (by omega) h2, g 44 (by omega) h3, g 126 (by omega) h4, g 38 (by omega) h5, g 124 (by omega) h6, g 47 (by omega) h7, g 91 (by omega) h8, g 93 (by omega) h9⟩
set_option maxHeartbeats 2000000 in
theorem refSign_any (s : ByteArray) (h0 : 0 < s.size) (w : World) : Calls Tryd.prog 31 #[.string s] w fun e w' => e = .returned (.int .i64 (sgV s.data.toList)) ∧ w' = w := by
  rw [sgV_of s h0]
  have h0' : (0 : Int) < (s.size : Int) := by omega
  have H1 := Lib.hid (refStarts_any s ⟨#[60, 45, 62]⟩ w)
  have H2 := Lib.hid (refStarts_any s ⟨#[45, 62]⟩ w)
  have H3 := Lib.hid (refStarts_any s ⟨#[60, 62]⟩ w)
  have H4 := Lib.hid (refStarts_any s ⟨#[91, 93]⟩ w)
  generalize preB s ⟨#[60, 45, 62]⟩ = b1 at H1 ⊢
  generalize preB s ⟨#[45, 62]⟩ = b2 at H2 ⊢
  generalize preB s ⟨#[60, 62]⟩ = b3 at H3 ⊢
  generalize preB s ⟨#[91, 93]⟩ = b4 at H4 ⊢
  generalize ho : oneC s[0] = b5
  have hoh := Lib.hid ho
  clear ho
  go_enter Tryd.func31, Tryd.ntmps31
  cases b1 with
  | true =>
    go_wp2_with fail
    refine H1.out.mono ?_
    rintro e w1 ⟨rfl, rfl⟩
    go_wp2_with fail
    go_ret
    exact ⟨rfl, rfl⟩
  | false =>
    go_wp2_with fail
    refine H1.out.mono ?_
    rintro e w1 ⟨rfl, rfl⟩
    clear H1
    go_wp2_with fail
    refine H2.out.mono ?_
    rintro e w1 ⟨rfl, rfl⟩
    clear H2
    cases b2 with
    | true =>
      go_wp2_with fail
      go_ret
      exact ⟨rfl, rfl⟩
    | false =>
      go_wp2_with fail
      refine H3.out.mono ?_
      rintro e w1 ⟨rfl, rfl⟩
      clear H3
      cases b3 with
      | true =>
        go_wp2_with fail
        go_ret
        exact ⟨rfl, rfl⟩
      | false =>
        go_wp2_with fail
        refine H4.out.mono ?_
        rintro e w1 ⟨rfl, rfl⟩
        clear H4
        cases b4 with
        | true =>
          go_wp2_with fail
          go_ret
          exact ⟨rfl, rfl⟩
        | false =>
          cases b5 with
          | true =>
            rcases oneC_cases hoh.out with h | h | h | h | h | h | h | h | h
            · have hv : (s[0].toNat : Int) = 40 := by rw [h]; rfl
              have e40 : ((s[0].toNat : Int) == 40) = true := by rw [hv]; rfl
              clear hv h
              go_wp2_with fail
              go_ret
              exact ⟨rfl, rfl⟩
            · have hv : (s[0].toNat : Int) = 41 := by rw [h]; rfl
              have e40 : ((s[0].toNat : Int) == 40) = false := by rw [hv]; rfl
              have e41 : ((s[0].toNat : Int) == 41) = true := by rw [hv]; rfl
              clear hv h
              go_wp2_with fail
              go_ret
              exact ⟨rfl, rfl⟩
            · have hv : (s[0].toNat : Int) = 44 := by rw [h]; rfl
              have e40 : ((s[0].toNat : Int) == 40) = false := by rw [hv]; rfl
              have e41 : ((s[0].toNat : Int) == 41) = false := by rw [hv]; rfl
              have e44 : ((s[0].toNat : Int) == 44) = true := by rw [hv]; rfl
              clear hv h
              go_wp2_with fail
              go_ret
              exact ⟨rfl, rfl⟩
            · have hv : (s[0].toNat : Int) = 126 := by rw [h]; rfl
              have e40 : ((s[0].toNat : Int) == 40) = false := by rw [hv]; rfl
              have e41 : ((s[0].toNat : Int) == 41) = false := by rw [hv]; rfl
              have e44 : ((s[0].toNat : Int) == 44) = false := by rw [hv]; rfl
              have e126 : ((s[0].toNat : Int) == 126) = true := by rw [hv]; rfl
              clear hv h
              go_wp2_with fail
              go_ret
              exact ⟨rfl, rfl⟩
            · have hv : (s[0].toNat : Int) = 38 := by rw [h]; rfl
              have e40 : ((s[0].toNat : Int) == 40) = false := by rw [hv]; rfl
              have e41 : ((s[0].toNat : Int) == 41) = false := by rw [hv]; rfl
              have e44 : ((s[0].toNat : Int) == 44) = false := by rw [hv]; rfl
              have e126 : ((s[0].toNat : Int) == 126) = false := by rw [hv]; rfl
              have e38 : ((s[0].toNat : Int) == 38) = true := by rw [hv]; rfl
              clear hv h
              go_wp2_with fail
              go_ret
              exact ⟨rfl, rfl⟩
            · have hv : (s[0].toNat : Int) = 124 := by rw [h]; rfl
              have e40 : ((s[0].toNat : Int) == 40) = false := by rw [hv]; rfl
              have e41 : ((s[0].toNat : Int) == 41) = false := by rw [hv]; rfl
              have e44 : ((s[0].toNat : Int) == 44) = false := by rw [hv]; rfl
              have e126 : ((s[0].toNat : Int) == 126) = false := by rw [hv]; rfl
              have e38 : ((s[0].toNat : Int) == 38) = false := by rw [hv]; rfl
              have e124 : ((s[0].toNat : Int) == 124) = true := by rw [hv]; rfl
              clear hv h
              go_wp2_with fail
              go_ret
              exact ⟨rfl, rfl⟩
            · have hv : (s[0].toNat : Int) = 47 := by rw [h]; rfl
              have e40 : ((s[0].toNat : Int) == 40) = false := by rw [hv]; rfl
              have e41 : ((s[0].toNat : Int) == 41) = false := by rw [hv]; rfl
              have e44 : ((s[0].toNat : Int) == 44) = false := by rw [hv]; rfl
              have e126 : ((s[0].toNat : Int) == 126) = false := by rw [hv]; rfl
              have e38 : ((s[0].toNat : Int) == 38) = false := by rw [hv]; rfl
              have e124 : ((s[0].toNat : Int) == 124) = false := by rw [hv]; rfl
              have e47 : ((s[0].toNat : Int) == 47) = true := by rw [hv]; rfl
              clear hv h
              go_wp2_with fail
              go_ret
              exact ⟨rfl, rfl⟩
            · have hv : (s[0].toNat : Int) = 91 := by rw [h]; rfl
              have e40 : ((s[0].toNat : Int) == 40) = false := by rw [hv]; rfl
              have e41 : ((s[0].toNat : Int) == 41) = false := by rw [hv]; rfl
              have e44 : ((s[0].toNat : Int) == 44) = false := by rw [hv]; rfl
              have e126 : ((s[0].toNat : Int) == 126) = false := by rw [hv]; rfl
              have e38 : ((s[0].toNat : Int) == 38) = false := by rw [hv]; rfl
              have e124 : ((s[0].toNat : Int) == 124) = false := by rw [hv]; rfl
              have e47 : ((s[0].toNat : Int) == 47) = false := by rw [hv]; rfl
              have e91 : ((s[0].toNat : Int) == 91) = true := by rw [hv]; rfl
              clear hv h
              go_wp2_with fail
              go_ret
              exact ⟨rfl, rfl⟩
            · have hv : (s[0].toNat : Int) = 93 := by rw [h]; rfl
              have e40 : ((s[0].toNat : Int) == 40) = false := by rw [hv]; rfl
              have e41 : ((s[0].toNat : Int) == 41) = false := by rw [hv]; rfl
              have e44 : ((s[0].toNat : Int) == 44) = false := by rw [hv]; rfl
              have e126 : ((s[0].toNat : Int) == 126) = false := by rw [hv]; rfl
              have e38 : ((s[0].toNat : Int) == 38) = false := by rw [hv]; rfl
              have e124 : ((s[0].toNat : Int) == 124) = false := by rw [hv]; rfl
              have e47 : ((s[0].toNat : Int) == 47) = false := by rw [hv]; rfl
              have e91 : ((s[0].toNat : Int) == 91) = false := by rw [hv]; rfl
              have e93 : ((s[0].toNat : Int) == 93) = true := by rw [hv]; rfl
              clear hv h
              go_wp2_with fail
              go_ret
              exact ⟨rfl, rfl⟩
          | false =>
            obtain ⟨n1, n2, n3, n4, n5, n6, n7, n8, n9⟩ := oneC_not hoh.out
            have e40 : ((s[0].toNat : Int) == 40) = false := by simpa using n1
            have e41 : ((s[0].toNat : Int) == 41) = false := by simpa using n2
            have e44 : ((s[0].toNat : Int) == 44) = false := by simpa using n3
            have e126 : ((s[0].toNat : Int) == 126) = false := by simpa using n4
            have e38 : ((s[0].toNat : Int) == 38) = false := by simpa using n5
            have e124 : ((s[0].toNat : Int) == 124) = false := by simpa using n6
            have e47 : ((s[0].toNat : Int) == 47) = false := by simpa using n7
            have e91 : ((s[0].toNat : Int) == 91) = false := by simpa using n8
            have e93 : ((s[0].toNat : Int) == 93) = false := by simpa using n9
            clear n1 n2 n3 n4 n5 n6 n7 n8 n9
            go_wp2_with fail
            go_ret
            exact ⟨rfl, rfl⟩
end Go.Proofs.YthkfkdcmnkkdhaaDoor
