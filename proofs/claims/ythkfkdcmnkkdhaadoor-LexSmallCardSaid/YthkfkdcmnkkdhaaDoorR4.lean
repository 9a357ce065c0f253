/- The reference's Lex. -/
import Derived.Test.YthkfkdcmnkkdhaaDoorR3
import Derived.Test.YthkfkdcmnkkdhaaDoorB4
import Derived.Test.YthkfkdcmnkkdhaaDoorI2
namespace Go.Proofs.YthkfkdcmnkkdhaaDoor
open Go Go.RowKit
set_option maxRecDepth 100000
set_option linter.unusedVariables false
theorem refLex_long (x : ByteArray) (hm : 16384 < x.size) (w : World) :
    Calls Tryd.prog 18 #[.string x] w fun e w' => e = .returned (.tuple #[.slice none 0 0, .int .i64 0, .int .i64 3]) ∧ Below w.heap.size w w' := by
  have hm1 : (16384 : Int) < (x.size : Int) := by omega
  go_enter Tryd.func18, Tryd.ntmps18
  go_wp2_with fail
  refine bodyPost_ret (v := .tuple #[.slice none 0 0, .int .i64 0, .int .i64 3]) (by simp [results, Tryd.results18, go_sem]) rfl ⟨rfl, Below.refl _ _⟩
theorem bla_e {c : Int} (h : blaC c = true) : c = 32 ∨ c = 9 ∨ c = 10 ∨ c = 13 := by
  simp only [blaC, Bool.or_eq_true, beq_iff_eq] at h
  omega
theorem bla_n {c : Int} (h : blaC c = false) : (c == 32) = false ∧ (c == 9) = false ∧ (c == 10) = false ∧ (c == 13) = false := by
  simp only [blaC, Bool.or_eq_false_iff] at h
  exact ⟨h.1.1.1, h.1.1.2, h.1.2, h.2⟩
theorem app_app (L M : List Lx.Tok) (o : Lx.Out) : Lx.Out.app L (Lx.Out.app M o) = Lx.Out.app (L ++ M) o := by
  cases o <;> simp [Lx.Out.app]
theorem cons_app (t : Lx.Tok) (o : Lx.Out) : o.cons t = Lx.Out.app [t] o := by cases o <;> rfl
theorem part_of (x : ByteArray) (q n : Nat) : x.extract q (q + n) = ⟨((x.data.toList.drop q).take n).toArray⟩ := by
  apply ByteArray.ext
  rw [ByteArray.data_extract]
  apply Array.ext'
  rw [Array.toList_extract]
  simp [List.extract_eq_take_drop]
set_option maxHeartbeats 4000000 in
theorem refLex_any (x : ByteArray) (hm : x.size ≤ 16384) (w : World) :
    Calls Tryd.prog 18 #[.string x] w fun e w' => ∃ v a er, e = .returned (.tuple #[v, .int .i64 a, .int .i64 er]) ∧ LexOut (Lx.lex rkL mkL x.data.toList 0) w' v a er ∧ Below w.heap.size w w' := by
  obtain ⟨i0, hi, hz0, hz1, hz2⟩ := info_parts info28
  have hm1 : ¬ (16384 : Int) < (x.size : Int) := by omega
  have hxl : x.data.toList.length = x.size := by simp
  obtain ⟨O, hO⟩ : ∃ O, Lx.lex rkL mkL x.data.toList 0 = O := ⟨_, rfl⟩
  rw [hO]
  have hT := Lib.hid (fun (y : ByteArray) (hy : y.size ≤ 1000000) c r h W => refTok_any y hy c r h W)
  go_enter Tryd.func18, Tryd.ntmps18
  go_wp2_with fail
  go_loopw [5, 6] (fun v i wr => ∃ (k cv : Nat) (pv : Option Addr) (L : List Lx.Tok), k ≤ x.size ∧ v = .slice pv L.length cv ∧ i = .int .i64 k ∧ wr.ownsRow w.heap.size 28 3 v L.length (flat L) ∧ Below w.heap.size w wr ∧ L.length ≤ k ∧ O = (Lx.lex rkL mkL (x.data.toList.drop k) k).app L) (fun _ i _ => x.size - (intOf i).toNat)
  case atStart => exact ⟨0, 0, none, [], Nat.zero_le _, rfl, rfl, World.ownsRow_nil _ _ _ _, Below.refl _ _, Nat.le_refl _, by rw [← hO, List.drop_zero]; cases Lx.lex rkL mkL x.data.toList 0 <;> rfl⟩
  case round =>
    obtain ⟨k, cv, pv, L, hk, rfl, rfl, hown, hb, hLk, hlx⟩ := hrel
    have hownh := Lib.hid hown
    have hbh := Lib.hid hb
    clear hown hb hO
    by_cases hlt : k < x.size
    · have hlt' : (k : Int) < (x.size : Int) := by omega
      have hd := drop_cons x k hlt
      rw [hd] at hlx
      cases hbl : blaC (x[k].toNat : Int) with
      | true =>
        rw [Lx.lex_blank _ _ _ _ _ (by rw [← blaC_of]; exact hbl)] at hlx
        have hlxh := Lib.hid hlx
        clear hlx hd hT hxl
        rcases bla_e hbl with h | h | h | h
        · have e1 : ((x[k].toNat : Int) == 32) = true := by rw [h]; rfl
          clear h hbl
          go_wp2_with fail
          go_roundw
          case rel => exact ⟨k + 1, cv, pv, L, by omega, rfl, by go_num, hownh.out, hbh.out, by omega, hlxh.out⟩
          case measure => simp [intOf]; omega
        · have e1 : ((x[k].toNat : Int) == 32) = false := by rw [h]; rfl
          have e2 : ((x[k].toNat : Int) == 9) = true := by rw [h]; rfl
          clear h hbl
          go_wp2_with fail
          go_roundw
          case rel => exact ⟨k + 1, cv, pv, L, by omega, rfl, by go_num, hownh.out, hbh.out, by omega, hlxh.out⟩
          case measure => simp [intOf]; omega
        · have e1 : ((x[k].toNat : Int) == 32) = false := by rw [h]; rfl
          have e2 : ((x[k].toNat : Int) == 9) = false := by rw [h]; rfl
          have e3 : ((x[k].toNat : Int) == 10) = true := by rw [h]; rfl
          clear h hbl
          go_wp2_with fail
          go_roundw
          case rel => exact ⟨k + 1, cv, pv, L, by omega, rfl, by go_num, hownh.out, hbh.out, by omega, hlxh.out⟩
          case measure => simp [intOf]; omega
        · have e1 : ((x[k].toNat : Int) == 32) = false := by rw [h]; rfl
          have e2 : ((x[k].toNat : Int) == 9) = false := by rw [h]; rfl
          have e3 : ((x[k].toNat : Int) == 10) = false := by rw [h]; rfl
          have e4 : ((x[k].toNat : Int) == 13) = true := by rw [h]; rfl
          clear h hbl
          go_wp2_with fail
          go_roundw
          case rel => exact ⟨k + 1, cv, pv, L, by omega, rfl, by go_num, hownh.out, hbh.out, by omega, hlxh.out⟩
          case measure => simp [intOf]; omega
      | false =>
        have hbl' : Lx.blank x[k] = false := by rw [← blaC_of]; exact hbl
        obtain ⟨e1, e2, e3, e4⟩ := bla_n hbl
        obtain ⟨y, hy0, hy, hysz, hyq, hyl⟩ := rest_of x k hlt
        rw [hd] at hyl
        have hTy := Lib.hid (hT.out y (by omega) x[k] _ hyl wr)
        cases htk : Lx.tk rkL mkL x[k] (x.data.toList.drop (k + 1)) with
        | err e =>
          rw [Lx.lex_err _ _ _ _ _ hbl' htk] at hlx
          rw [htk] at hTy
          have hlxh := Lib.hid hlx
          rcases Lx.tk_err rkL mkL htk with rfl | rfl
          · clear hlx htk hyl hyq hysz hy0 hd hT hbl hbl' hxl
            go_wp2_with fail
            refine hTy.out.mono ?_
            rintro e w2 ⟨rfl, rfl⟩
            clear hTy
            unfold tkOut tok3
            go_wp2_with fail
            refine bodyPost_ret (v := .tuple #[.slice none 0 0, .int .i64 k, .int .i64 40]) (by simp [results, Tryd.results18, go_sem]) rfl ⟨_, _, _, rfl, by rw [hlxh.out]; exact ⟨rfl, rfl, rfl⟩, hbh.out⟩
          · clear hlx htk hyl hyq hysz hy0 hd hT hbl hbl' hxl
            go_wp2_with fail
            refine hTy.out.mono ?_
            rintro e w2 ⟨rfl, rfl⟩
            clear hTy
            unfold tkOut tok3
            go_wp2_with fail
            refine bodyPost_ret (v := .tuple #[.slice none 0 0, .int .i64 k, .int .i64 41]) (by simp [results, Tryd.results18, go_sem]) rfl ⟨_, _, _, rfl, by rw [hlxh.out]; exact ⟨rfl, rfl, rfl⟩, hbh.out⟩
        | tok kk m =>
          rw [Lx.lex_tok _ _ _ _ _ hbl' htk] at hlx
          rw [htk] at hTy
          have hml := Lx.tk_le rkL mkL _ _ _ _ htk
          rw [List.length_drop, hxl] at hml
          rw [cons_app, app_app, List.drop_drop] at hlx
          have hlxh := Lib.hid hlx
          have hpt := part_of x k (m + 1)
          rw [hd, List.take_succ_cons] at hpt
          generalize (x[k] :: (x.data.toList.drop (k + 1)).take m) = T at hpt hlxh
          have hw1 : IntKind.i64.wrap ((k : Int) + ((m + 1 : Nat) : Int)) = ((k + (m + 1) : Nat) : Int) := by rw [IntWalk.i64_in _ (by omega)]; omega
          have hw2 : ((k + (m + 1) : Nat) : Int) ≤ (x.size : Int) := by omega
          have hw3 : (k : Int) ≤ ((k + (m + 1) : Nat) : Int) := by omega
          obtain ⟨q, hq⟩ : ∃ q, k + (m + 1) = q := ⟨_, rfl⟩
          rw [hq] at hw1 hw2 hw3 hpt
          obtain ⟨m1, hm1'⟩ : ∃ m1, m + 1 = m1 := ⟨_, rfl⟩
          have hqk : k + 1 + m = q := by omega
          rw [hqk] at hlxh
          unfold tkOut tok3 at hTy
          simp only [hm1'] at hTy
          rw [hm1'] at hw1
          have hsn := Lib.hid (flat_snoc L ⟨kk, T, k⟩)
          have hqt : ((q : Int)).toNat = q := by omega
          have hkq : k < q := by omega
          have hqx : q ≤ x.size := by omega
          clear hlx htk hyl hyq hysz hy0 hd hT hbl hbl' hxl hml hq
          generalize hfl : flat L = FL at hownh hsn
          go_wp2_with fail
          refine hTy.out.mono ?_
          rintro e w2 ⟨rfl, hww⟩
          replace hww := hww.symm
          subst hww
          clear hTy
          go_wp2_with (at_builtin; refine wpList_append_own _ rfl _ _ 25 rfl w.heap.size 28 i0 (.agg #[.int .u8 0, .string ⟨#[]⟩, .int .i64 0]) 3 32 Tryd.underlying25 hi hz0 hz1 hz2 rfl (by decide) _ _ _ rfl (hownh.out.alloc _) ⟨wr.heap.size, 0, none⟩ 1 1 [.int .u8 kk, .string ⟨T.toArray⟩, .int .i64 k] rfl rfl ?c1 ?c2 ?c3 ?c4 ?c5 ?_)
          case c1 =>
            intro j u hj
            match j, hj with
            | 0, hj => simp at hj; subst hj; simp [Addr.add]
            | 1, hj => simp at hj; subst hj; simp [Addr.add]
            | 2, hj => simp at hj; subst hj; simp [Addr.add]
          case c2 => intro u hu; simp at hu; rcases hu with rfl | rfl | rfl <;> rfl
          case c3 => unfold maxLen; omega
          case c4 => omega
          case c5 => have := hbh.out.size; simp; omega
          intro v' w1 hown' hgrow _
          obtain ⟨pv', cv', rfl⟩ : ∃ pv cv, v' = .slice pv (L.length + 1) cv := by
            obtain ⟨-, ⟨rfl, h0⟩ | ⟨g, cap, cur, rfl, -⟩⟩ := id hown'
            · omega
            · exact ⟨_, _, rfl⟩
          have hb1 : Below w.heap.size w w1 := (bel_step hbh.out (bel_laid wr _)).grown hgrow (by have := hbh.out.size; simp; omega) (fun g hg => (hownh.out.lt g hg).1)
          go_wp2_with fail
          go_roundw
          case rel => exact ⟨q, cv', pv', L ++ [⟨kk, T, k⟩], by omega, by simp, by go_num, by rw [hsn.out]; simpa [tokC] using hown', hb1, by simp; omega, hlxh.out⟩
          case measure => simp [intOf]; omega
    · obtain rfl : k = x.size := by omega
      rw [List.drop_of_length_le (by omega), Lx.lex_nil] at hlx
      have hsn := Lib.hid (flat_snoc L ⟨5, [], (x.size : Int)⟩)
      have hlxh := Lib.hid hlx
      clear hlx hT
      generalize hfl : flat L = FL at hownh hsn
      go_wp2_with (at_builtin; refine wpList_append_own _ rfl _ _ 25 rfl w.heap.size 28 i0 (.agg #[.int .u8 0, .string ⟨#[]⟩, .int .i64 0]) 3 32 Tryd.underlying25 hi hz0 hz1 hz2 rfl (by decide) _ _ _ rfl (hownh.out.alloc _) ⟨wr.heap.size, 0, none⟩ 1 1 [.int .u8 5, .string ⟨#[]⟩, .int .i64 x.size] rfl rfl ?c1 ?c2 ?c3 ?c4 ?c5 ?_)
      case c1 =>
        intro j u hj
        match j, hj with
        | 0, hj => simp at hj; subst hj; simp [Addr.add]
        | 1, hj => simp at hj; subst hj; simp [Addr.add]
        | 2, hj => simp at hj; subst hj; simp [Addr.add]
      case c2 => intro u hu; simp at hu; rcases hu with rfl | rfl | rfl <;> rfl
      case c3 => unfold maxLen; omega
      case c4 => omega
      case c5 => have := hbh.out.size; simp; omega
      intro v' w1 hown' hgrow _
      obtain ⟨pv', cv', rfl⟩ : ∃ pv cv, v' = .slice pv (L.length + 1) cv := by
        obtain ⟨-, ⟨rfl, h0⟩ | ⟨g, cap, cur, rfl, -⟩⟩ := id hown'
        · omega
        · exact ⟨_, _, rfl⟩
      have hb1 : Below w.heap.size w w1 := (bel_step hbh.out (bel_laid wr _)).grown hgrow (by have := hbh.out.size; simp; omega) (fun g hg => (hownh.out.lt g hg).1)
      go_wp2_with fail
      refine bodyPost_ret (v := .tuple #[.slice pv' (L.length + 1) cv', .int .i64 0, .int .i64 0]) (by simp [results, Tryd.results18, go_sem]) rfl ⟨_, _, _, rfl, ?_, hb1⟩
      rw [hlxh.out]
      refine ⟨row_tokens28 (B := w.heap.size) (l := L ++ [⟨5, [], (x.size : Int)⟩]) ?_, rfl, rfl⟩
      rw [hsn.out]
      simpa [tokC] using hown'
end Go.Proofs.YthkfkdcmnkkdhaaDoor
