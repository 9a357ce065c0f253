/- The law's wake-up: the examples of the chapter. -/
import Derived.Test.YthkfkdcmnkkdhaaDoorI2
import Derived.Test.YthkfkdcmnkkdhaaDoorJ1
namespace Go.Proofs.YthkfkdcmnkkdhaaDoor
open Go Go.RowKit
set_option maxRecDepth 100000
set_option linter.unusedVariables false
def awkL : List Lx.Tok := [⟨3, [97, 108, 108], 0⟩, ⟨1, [120], 4⟩, ⟨4, [40], 6⟩, ⟨1, [80], 7⟩, ⟨4, [40], 8⟩, ⟨1, [120], 9⟩, ⟨4, [41], 10⟩, ⟨4, [45, 62], 11⟩, ⟨4, [126], 13⟩, ⟨1, [81], 14⟩, ⟨4, [41], 15⟩, ⟨5, [], 16⟩]
def awkM : List Lx.Tok := [⟨2, [63, 65], 0⟩, ⟨4, [91], 2⟩, ⟨2, [63, 116], 3⟩, ⟨4, [47], 5⟩, ⟨1, [120], 6⟩, ⟨4, [93], 7⟩, ⟨5, [], 8⟩]
theorem awk1 : Lx.lex rkL mkL (⟨#[97, 108, 108, 32, 120, 32, 40, 80, 40, 120, 41, 45, 62, 126, 81, 41]⟩ : ByteArray).data.toList 0 = .ok awkL := by kernel_rfl
theorem awk2 : Lx.lex rkL mkL (⟨#[80, 32, 38, 32, 120, 121]⟩ : ByteArray).data.toList 0 = .bad 4 41 := by kernel_rfl
theorem awk3 : Lx.lex rkL mkL (⟨#[80, 32, 45, 32, 81]⟩ : ByteArray).data.toList 0 = .bad 2 40 := by kernel_rfl
theorem awk4 : Lx.lex rkL mkL (⟨#[63, 65, 91, 63, 116, 47, 120, 93]⟩ : ByteArray).data.toList 0 = .ok awkM := by kernel_rfl
theorem awk5 : Lx.joinT (texts awkM) = [63, 65, 32, 91, 32, 63, 116, 32, 47, 32, 120, 32, 93] := by kernel_rfl
/-- Lex at a text whose tokens are known. -/
theorem lex_ok (x : ByteArray) (l : List Lx.Tok) (hx : Lx.lex rkL mkL x.data.toList 0 = .ok l) (hm : x.size ≤ 16384) (w : World) (hs : Sgs w) :
    Calls Tryd.prog 16 #[.string x] w fun e w' => ∃ v, e = .returned (.tuple #[v, .int .i64 0, .int .i64 0]) ∧ TokSl w' l v ∧ Below w.heap.size w w' := by
  refine (lex_small x hm w hs).mono ?_
  rintro e w' ⟨v, a, er, he, ho, hb⟩
  rw [hx] at ho
  obtain ⟨h1, rfl, rfl⟩ := ho
  exact ⟨v, he, h1, hb⟩
theorem lex_bad (x : ByteArray) (p : Nat) (er : Int) (hx : Lx.lex rkL mkL x.data.toList 0 = .bad p er) (hm : x.size ≤ 16384) (w : World) (hs : Sgs w) :
    Calls Tryd.prog 16 #[.string x] w fun e w' => e = .returned (.tuple #[.slice none 0 0, .int .i64 p, .int .i64 er]) ∧ Below w.heap.size w w' := by
  refine (lex_small x hm w hs).mono ?_
  rintro e w' ⟨v, a, er', he, ho, hb⟩
  rw [hx] at ho
  obtain ⟨rfl, rfl, rfl⟩ := ho
  exact ⟨he, hb⟩
theorem awk_cells (w1 : World) (i : Nat) (t : Lx.Tok) (h : awkL[i]? = some t) :
    (#[.string ⟨#[97, 108, 108]⟩, .string ⟨#[120]⟩, .string ⟨#[40]⟩, .string ⟨#[80]⟩, .string ⟨#[40]⟩, .string ⟨#[120]⟩, .string ⟨#[41]⟩, .string ⟨#[45, 62]⟩, .string ⟨#[126]⟩, .string ⟨#[81]⟩, .string ⟨#[41]⟩, .string ⟨#[]⟩] : Array Value)[i]? = some (.string ⟨t.t.toArray⟩) ∧
    (#[.int .i64 0, .int .i64 4, .int .i64 6, .int .i64 7, .int .i64 8, .int .i64 9, .int .i64 10, .int .i64 11, .int .i64 13, .int .i64 14, .int .i64 15, .int .i64 16] : Array Value)[i]? = some (.int .i64 t.at') := by
  have e1 : (#[.string ⟨#[97, 108, 108]⟩, .string ⟨#[120]⟩, .string ⟨#[40]⟩, .string ⟨#[80]⟩, .string ⟨#[40]⟩, .string ⟨#[120]⟩, .string ⟨#[41]⟩, .string ⟨#[45, 62]⟩, .string ⟨#[126]⟩, .string ⟨#[81]⟩, .string ⟨#[41]⟩, .string ⟨#[]⟩] : Array Value) = (awkL.map fun t => Value.string ⟨t.t.toArray⟩).toArray := rfl
  have e2 : (#[.int .i64 0, .int .i64 4, .int .i64 6, .int .i64 7, .int .i64 8, .int .i64 9, .int .i64 10, .int .i64 11, .int .i64 13, .int .i64 14, .int .i64 15, .int .i64 16] : Array Value) = (awkL.map fun t => Value.int .i64 t.at').toArray := rfl
  rw [e1, e2]
  simp [h]
set_option maxHeartbeats 4000000 in
theorem awake_any (w : World) (hs : Sgs w) : Calls Tryd.prog 12 #[] w fun e w' => e = .returned (.bool true) ∧ Below w.heap.size w w' := by
  have H1 := Lib.hid (fun W h => lex_ok _ awkL awk1 (by decide) W h)
  have H2 := Lib.hid (fun W h => lex_bad _ 4 41 awk2 (by decide) W h)
  have H3 := Lib.hid (fun W h => lex_bad _ 2 40 awk3 (by decide) W h)
  have H4 := Lib.hid (fun W h => lex_ok _ awkM awk4 (by decide) W h)
  have hsh := Lib.hid hs
  clear hs
  go_enter Tryd.func12, Tryd.ntmps12
  go_wp2_with fail
  refine (H1.out w hsh.out).mono ?_
  clear H1
  rintro e w1 ⟨v, rfl, htk, hb1⟩
  obtain ⟨p, c, b, o, rfl, hp, hat⟩ := htk.opened
  rcases hp with hp | rfl
  · cases hp
  have hath := Lib.hid hat
  have hb1h := Lib.hid hb1
  have hlen : awkL.length = 12 := rfl
  rw [hlen]
  clear hat hb1 htk hlen
  go_wp2_with fail
  have hW : ∃ W2, (w1.alloc (.cells #[.string ⟨#[97, 108, 108]⟩, .string ⟨#[120]⟩, .string ⟨#[40]⟩, .string ⟨#[80]⟩, .string ⟨#[40]⟩, .string ⟨#[120]⟩, .string ⟨#[41]⟩, .string ⟨#[45, 62]⟩, .string ⟨#[126]⟩, .string ⟨#[81]⟩, .string ⟨#[41]⟩, .string ⟨#[]⟩] 9)).alloc
      (.cells #[.int .i64 0, .int .i64 4, .int .i64 6, .int .i64 7, .int .i64 8, .int .i64 9, .int .i64 10, .int .i64 11, .int .i64 13, .int .i64 14, .int .i64 15, .int .i64 16] 3) = W2 ∧ Below w1.heap.size w1 W2 ∧
      ∀ i t, awkL[i]? = some t → W2.cell? ⟨w1.heap.size, i, none⟩ = some (.string ⟨t.t.toArray⟩) ∧ W2.cell? ⟨w1.heap.size + 1, i, none⟩ = some (.int .i64 t.at') := by
    refine ⟨_, rfl, bel_step (bel_laid w1 _) (bel_laid _ _), fun i t h => ?_⟩
    obtain ⟨e1, e2⟩ := awk_cells w1 i t h
    refine ⟨cell_below (bel_laid _ _) ((cell_new w1 _ _ i).trans e1), ?_⟩
    have := (cell_new (w1.alloc (.cells #[.string ⟨#[97, 108, 108]⟩, .string ⟨#[120]⟩, .string ⟨#[40]⟩, .string ⟨#[80]⟩, .string ⟨#[40]⟩, .string ⟨#[120]⟩, .string ⟨#[41]⟩, .string ⟨#[45, 62]⟩, .string ⟨#[126]⟩, .string ⟨#[81]⟩, .string ⟨#[41]⟩, .string ⟨#[]⟩] 9))
      #[.int .i64 0, .int .i64 4, .int .i64 6, .int .i64 7, .int .i64 8, .int .i64 9, .int .i64 10, .int .i64 11, .int .i64 13, .int .i64 14, .int .i64 15, .int .i64 16] 3 i).trans e2
    rwa [World.size_alloc] at this
  obtain ⟨W2, hW2, hbW, hcW⟩ := hW
  rw [hW2]
  have hcWh := Lib.hid hcW
  have hbWh := Lib.hid hbW
  clear hW2 hcW hbW
  go_loopw [6] (fun i wr => ∃ k : Nat, k ≤ 12 ∧ i = .int .i64 k ∧ Below W2.heap.size W2 wr) (fun i _ => 12 - (intOf i).toNat)
  case atStart => exact ⟨0, by omega, rfl, Below.refl _ _⟩
  case round =>
    obtain ⟨k, hk, rfl, hb⟩ := hrel
    by_cases hlt : k < 12
    · have hlt' : (k : Int) < 12 := by omega
      obtain ⟨t, ht⟩ : ∃ t, awkL[k]? = some t := ⟨_, List.getElem?_eq_getElem (show k < awkL.length from hlt)⟩
      obtain ⟨a0, a1, a2⟩ := hath.out k t ht
      obtain ⟨b0, b1⟩ := hcWh.out k t ht
      have d1 := cell_below hb (cell_below hbWh.out a1)
      have d2 := cell_below hb (cell_below hbWh.out a2)
      have f1 := cell_below hb b0
      have f2 := cell_below hb b1
      have hbh := Lib.hid hb
      have q2 : (t.at' != t.at') = false := by simp
      clear a0 a1 a2 b0 b1 hb ht
      go_wp2_with fail
      go_quiet (fail)
      go_wp2_with fail
      exact ⟨⟨k + 1, by omega, by go_num, bel_step hbh.out (bel_drewN _ _)⟩, by simp [intOf]; omega⟩
    · obtain rfl : k = 12 := by omega
      have hbb := bel_step (bel_step hb1h.out hbWh.out) hb
      have hs2 := hsh.out.of hbb
      have hbbh := Lib.hid hbb
      clear hb hath hcWh hbWh hb1h hlt hk hsh hbb
      go_wp2_with fail
      refine (H2.out wr hs2).mono ?_
      rintro e w4 ⟨rfl, hb4⟩
      have hs4 := hs2.of hb4
      have hb4h := Lib.hid (bel_step hbbh.out hb4)
      clear hb4 hbbh hs2 H2
      go_wp2_with fail
      refine (H3.out w4 hs4).mono ?_
      rintro e w5 ⟨rfl, hb5⟩
      have hs5 := hs4.of hb5
      have hb5h := Lib.hid (bel_step hb4h.out hb5)
      clear hb5 hb4h hs4 H3
      go_wp2_with fail
      refine (H4.out w5 hs5).mono ?_
      rintro e w6 ⟨v6, rfl, htk6, hb6⟩
      have hj := lexJoin_any awkM v6 w6 htk6 (by decide) (by decide)
      rw [awk5] at hj
      obtain ⟨p6, c6, b6, o6, rfl, hp6, hat6⟩ := htk6.opened
      rcases hp6 with hp6 | rfl
      · cases hp6
      have m1 := (hat6 1 ⟨4, [91], 2⟩ rfl).2.1
      have hlen : awkM.length = 7 := rfl
      rw [hlen] at hj ⊢
      have hjh := Lib.hid hj
      have hb6h := Lib.hid (bel_step hb5h.out hb6)
      have hwd := Lib.hid (fun W => lexWord_any ⟨#[117, 110, 116, 105, 108]⟩ W)
      rw [show isWordB (⟨#[117, 110, 116, 105, 108]⟩ : ByteArray).toList = true by kernel_rfl] at hwd
      have q1 : (([63, 65, 32, 91, 32, 63, 116, 32, 47, 32, 120, 32, 93] : List UInt8) == [63, 65, 32, 91, 32, 63, 116, 32, 47, 32, 120, 32, 93]) = true := by decide
      clear hat6 htk6 hj hb6 hb5h hs5 H4 hlen
      go_wp2_with (first
        | (go_at_call 13; refine hjh.out.mono ?_; rintro e w7 ⟨rfl, hb7⟩)
        | (go_at_call 19; refine (hwd.out _).mono ?_; rintro e w8 ⟨rfl, rfl⟩))
      go_ret
      exact ⟨rfl, bel_step hb6h.out hb7⟩
end Go.Proofs.YthkfkdcmnkkdhaaDoor
