/- Lex: the tokens of a text, or the place of an error. -/
import Derived.Test.YthkfkdcmnkkdhaaDoorI1
namespace Go.Proofs.YthkfkdcmnkkdhaaDoor
open Go Go.RowKit Go.Shelf
set_option maxRecDepth 100000
set_option linter.unusedVariables false
attribute [local go_sem] Oper.semAt_some
theorem tokens_any (x : ByteArray) (w : World) : Calls Tryd.prog 22 #[.string x] w fun e w' =>
    e = .returned (.func (.func 27) #[] #[.pointer (some ⟨w.heap.size, 0, none⟩)]) ∧ Below w.heap.size w w' ∧ w'.cell? ⟨w.heap.size, 0, none⟩ = some (.string x) := by
  go_enter Tryd.func22, Tryd.ntmps22
  go_wp2
  go_ret
  exact ⟨rfl, bel_laid _ _, cell_new _ _ _ _⟩
/-- What Lex hands back. -/
def LexOut : Lx.Out → World → Value → Int → Int → Prop
  | .ok l, V, v, a, er => TokSl V l v ∧ a = 0 ∧ er = 0
  | .bad p e, _, v, a, er => v = .slice none 0 0 ∧ a = (p : Int) ∧ er = e
/-- The blocks of the results, as they were laid. -/
def Res0 (A : Nat) (V : World) : Prop := V.heap[A]? = some (.cells #[.slice none 0 0] 24 (0, 0)) ∧ V.heap[A + 1]? = some (.cells #[.int .i64 0] 3 (0, 0)) ∧ V.heap[A + 1 + 1]? = some (.cells #[.int .i64 0] 35 (0, 0))
theorem Res0.imp {A : Nat} {V W : World} (h : Res0 A V) (hk : ∀ j o, A ≤ j → j ≤ A + 2 → V.heap[j]? = some o → o.isCells = true → W.heap[j]? = V.heap[j]?) : Res0 A W :=
  ⟨(hk A _ (by omega) (by omega) h.1 rfl).trans h.1, (hk (A + 1) _ (by omega) (by omega) h.2.1 rfl).trans h.2.1, (hk (A + 1 + 1) _ (by omega) (by omega) h.2.2 rfl).trans h.2.2⟩
theorem yl_len (rk mk : List UInt8 → Int) : ∀ (n : Nat) (r : List UInt8) (p : Nat), (Lx.yl rk mk n r p).length ≤ n
  | 0, _, _ => Nat.le_refl _
  | n + 1, r, p => by
    rw [Lx.yl_step]
    split
    · simp
    · have := yl_len rk mk n (Lx.nx rk mk r p).2.2.1 (Lx.nx rk mk r p).2.2.2
      simp only [List.length_cons]
      omega
theorem LBox.but {c B b : Nat} {l : List Lx.Tok} {A V : World} (h : LBox c B l A) (hs : SB c A b) (hb : But b A V) : LBox c B l V := by
  obtain ⟨s, h1, h2, h3⟩ := h
  obtain ⟨s', k1, k2, k3⟩ := hs
  rw [h1] at k1
  cases k1
  have hcb := hb.2.2.2.2 c (lt_of_cell h1) (Ne.symm k2)
  refine ⟨s, hb.cell (Ne.symm k2) h1, ?_, owns_of_block h3 fun g o hg ho _ => ?_⟩
  · rw [World.frozen?_of_block hcb]; exact h2
  · rw [hb.2.2.2.2 g (Array.getElem?_eq_some_iff.1 ho).1 (fun e => k3 (e ▸ hg))]; exact ho
theorem bel_but {n b : Nat} {w A V : World} (h : Below n w A) (hb : But b A V) (hn : n ≤ b) (hs : n ≤ w.heap.size) : Below n w V :=
  ⟨hb.1.symm.trans h.os, hb.2.1.symm.trans h.tape, hb.2.2.1.symm.trans h.output, Nat.le_trans h.size hb.2.2.2.1, fun k hk => (hb.2.2.2.2 k (by have := h.size; omega) (by omega)).trans (h.block k hk)⟩
/-- The values that a round hands on, and none is an error. -/
def NoErr (l : List (Lx.Tok × Int)) : Prop := ∀ y ∈ l, y.2 = 0
theorem res_allocs (w : World) : Res0 w.heap.size ((((w.alloc (.cells #[.slice none 0 0] 24)).alloc (.cells #[.int .i64 0] 3)).alloc (.cells #[.int .i64 0] 35)).alloc (.cells #[.slice none 0 0] 24)) ∧
    LBox (w.heap.size + 1 + 1 + 1) (w.heap.size + 1 + 1 + 1 + 1) [] ((((w.alloc (.cells #[.slice none 0 0] 24)).alloc (.cells #[.int .i64 0] 3)).alloc (.cells #[.int .i64 0] 35)).alloc (.cells #[.slice none 0 0] 24)) := by
  obtain ⟨w1, h1⟩ : ∃ w1, w.alloc (.cells #[.slice none 0 0] 24) = w1 := ⟨_, rfl⟩
  obtain ⟨w2, h2⟩ : ∃ w2, w1.alloc (.cells #[.int .i64 0] 3) = w2 := ⟨_, rfl⟩
  obtain ⟨w3, h3⟩ : ∃ w3, w2.alloc (.cells #[.int .i64 0] 35) = w3 := ⟨_, rfl⟩
  have s1 : w1.heap.size = w.heap.size + 1 := by rw [← h1]; simp
  have s2 : w2.heap.size = w.heap.size + 1 + 1 := by rw [← h2]; simp [s1]
  have s3 : w3.heap.size = w.heap.size + 1 + 1 + 1 := by rw [← h3]; simp [s2]
  have a1 : w1.heap[w.heap.size]? = some (.cells #[.slice none 0 0] 24 (0, 0)) := by rw [← h1]; exact heap_alloc_new w _
  have a2 : w2.heap[w.heap.size + 1]? = some (.cells #[.int .i64 0] 3 (0, 0)) := by rw [← h2, ← s1]; exact heap_alloc_new w1 _
  have a3 : w3.heap[w.heap.size + 1 + 1]? = some (.cells #[.int .i64 0] 35 (0, 0)) := by rw [← h3, ← s2]; exact heap_alloc_new w2 _
  have b2 : Below w1.heap.size w1 w2 := by rw [← h2]; exact bel_laid _ _
  have b3 : Below w2.heap.size w2 w3 := by rw [← h3]; exact bel_laid _ _
  have b4 := bel_laid w3 (.cells #[.slice none 0 0] 24)
  rw [h1, h2, h3]
  refine ⟨⟨?_, ?_, ?_⟩, ?_⟩
  · exact (b4.block _ (by omega)).trans ((b3.block _ (by omega)).trans ((b2.block _ (by omega)).trans a1))
  · exact (b4.block _ (by omega)).trans ((b3.block _ (by omega)).trans a2)
  · exact (b4.block _ (by omega)).trans a3
  · have k := cell_new w3 #[.slice none 0 0] 24 0
    have fz := World.frozen?_alloc_mark w3 #[.slice none 0 0] 24 0 0 0
    rw [s3] at k fz
    exact ⟨_, k, by simpa using fz, World.ownsRow_nil _ _ _ _⟩
/-- The world behind an error's stores. -/
theorem stop_world {N : Nat} {w V : World} {tka er : Int} (hbel : Below w.heap.size w V) (hN : N ≤ V.heap.size)
    (q0 : V.cell? ⟨w.heap.size, 0, none⟩ = some (.slice none 0 0)) (q1 : V.cell? ⟨w.heap.size + 1, 0, none⟩ = some (.int .i64 0)) (q2 : V.cell? ⟨w.heap.size + 1 + 1, 0, none⟩ = some (.int .i64 0)) :
    ∃ U, (((V.setCell ⟨w.heap.size, 0, none⟩ (.slice none 0 0)).setCell ⟨w.heap.size + 1, 0, none⟩ (.int .i64 tka)).setCell ⟨w.heap.size + 1 + 1, 0, none⟩ (.int .i64 er)).drew = U ∧ KeepsFrom N V U ∧ Below w.heap.size w U ∧
      U.cell? ⟨w.heap.size, 0, none⟩ = some (.slice none 0 0) ∧ U.cell? ⟨w.heap.size + 1, 0, none⟩ = some (.int .i64 tka) ∧ U.cell? ⟨w.heap.size + 1 + 1, 0, none⟩ = some (.int .i64 er) ∧ N ≤ U.heap.size := by
  have hd := bel_drew (((V.setCell ⟨w.heap.size, 0, none⟩ (.slice none 0 0)).setCell ⟨w.heap.size + 1, 0, none⟩ (.int .i64 tka)).setCell ⟨w.heap.size + 1 + 1, 0, none⟩ (.int .i64 er))
  have a1 := KeepsOthers.setCell V ⟨w.heap.size, 0, none⟩ (.slice none 0 0)
  have a2 := KeepsOthers.setCell (V.setCell ⟨w.heap.size, 0, none⟩ (.slice none 0 0)) ⟨w.heap.size + 1, 0, none⟩ (.int .i64 tka)
  have a3 := KeepsOthers.setCell ((V.setCell ⟨w.heap.size, 0, none⟩ (.slice none 0 0)).setCell ⟨w.heap.size + 1, 0, none⟩ (.int .i64 tka)) ⟨w.heap.size + 1 + 1, 0, none⟩ (.int .i64 er)
  have k1 : KeepsFrom N V (V.setCell ⟨w.heap.size, 0, none⟩ (.slice none 0 0)) := ⟨a1.size, fun k o _ ho hn => a1.same k o ho hn⟩
  have k2 := keeps_trans k1 ⟨a2.size, fun k o _ ho hn => a2.same k o ho hn⟩
  have k3 := keeps_trans k2 ⟨a3.size, fun k o _ ho hn => a3.same k o ho hn⟩
  have k4 := keeps_trans k3 ⟨hd.size, fun k o _ ho _ => (hd.block k (Array.getElem?_eq_some_iff.1 ho).1).trans ho⟩
  refine ⟨_, rfl, k4, bel_step (((hbel.setCell (Nat.le_refl _) _).setCell (by simp) _).setCell (by simp; omega) _) hd, ?_, ?_, ?_, Nat.le_trans hN k4.size⟩
  · refine cell_below hd ?_
    rw [World.cell?_setCell_far _ _ _ _ (by show w.heap.size + 1 + 1 ≠ w.heap.size; omega), World.cell?_setCell_far _ _ _ _ (by show w.heap.size + 1 ≠ w.heap.size; omega)]
    exact World.cell?_setCell_same _ _ _ q0
  · refine cell_below hd ?_
    rw [World.cell?_setCell_far _ _ _ _ (by show w.heap.size + 1 + 1 ≠ w.heap.size + 1; omega)]
    refine World.cell?_setCell_same _ _ _ (u := .int .i64 0) ?_
    rw [World.cell?_setCell_far _ _ _ _ (by show w.heap.size ≠ w.heap.size + 1; omega)]
    exact q1
  · refine cell_below hd ?_
    refine World.cell?_setCell_same _ _ _ (u := .int .i64 0) ?_
    rw [World.cell?_setCell_far _ _ _ _ (by show w.heap.size + 1 ≠ w.heap.size + 1 + 1; omega), World.cell?_setCell_far _ _ _ _ (by show w.heap.size ≠ w.heap.size + 1 + 1; omega)]
    exact q2
/-- The world behind the last stores. -/
theorem end_world {w V : World} {s : Value} {L : List Lx.Tok} {D : Nat} (hbel : Below w.heap.size w V) (hDD : w.heap.size + 1 + 1 + 1 ≤ D) (hd : V.heap[D]? = some (.deferred (some [])))
    (q0 : V.cell? ⟨w.heap.size, 0, none⟩ = some (.slice none 0 0)) (q1 : V.cell? ⟨w.heap.size + 1, 0, none⟩ = some (.int .i64 0)) (q2 : V.cell? ⟨w.heap.size + 1 + 1, 0, none⟩ = some (.int .i64 0))
    (h3 : V.ownsRow (w.heap.size + 1 + 1 + 1 + 1) 27 3 s L.length (flat L)) :
    ∃ U, ((V.setCell ⟨w.heap.size, 0, none⟩ s).setCell ⟨w.heap.size + 1, 0, none⟩ (.int .i64 0)).setCell ⟨w.heap.size + 1 + 1, 0, none⟩ (.int .i64 0) = U ∧ U.heap[D]? = some (.deferred (some [])) ∧
      (U.putObj D (.deferred none)).cell? ⟨w.heap.size, 0, none⟩ = some s ∧ (U.putObj D (.deferred none)).cell? ⟨w.heap.size + 1, 0, none⟩ = some (.int .i64 0) ∧ (U.putObj D (.deferred none)).cell? ⟨w.heap.size + 1 + 1, 0, none⟩ = some (.int .i64 0) ∧
      Below w.heap.size w (U.putObj D (.deferred none)) ∧ TokSl (U.putObj D (.deferred none)) L s := by
  refine ⟨_, rfl, ?_, ?_, ?_, ?_, ?_, ?_⟩
  · rw [heap_setCell_other _ _ _ _ (by show D ≠ w.heap.size + 1 + 1; omega), heap_setCell_other _ _ _ _ (by show D ≠ w.heap.size + 1; omega), heap_setCell_other _ _ _ _ (by show D ≠ w.heap.size; omega)]
    exact hd
  · refine (World.cell?_of_block (World.putObj_heap_other (by show w.heap.size ≠ D; omega))).trans ?_
    rw [World.cell?_setCell_far _ _ _ _ (by show w.heap.size + 1 + 1 ≠ w.heap.size; omega), World.cell?_setCell_far _ _ _ _ (by show w.heap.size + 1 ≠ w.heap.size; omega)]
    exact World.cell?_setCell_same _ _ _ q0
  · refine (World.cell?_of_block (World.putObj_heap_other (by show w.heap.size + 1 ≠ D; omega))).trans ?_
    rw [World.cell?_setCell_far _ _ _ _ (by show w.heap.size + 1 + 1 ≠ w.heap.size + 1; omega)]
    refine World.cell?_setCell_same _ _ _ (u := .int .i64 0) ?_
    rw [World.cell?_setCell_far _ _ _ _ (by show w.heap.size ≠ w.heap.size + 1; omega)]
    exact q1
  · refine (World.cell?_of_block (World.putObj_heap_other (by show w.heap.size + 1 + 1 ≠ D; omega))).trans ?_
    refine World.cell?_setCell_same _ _ _ (u := .int .i64 0) ?_
    rw [World.cell?_setCell_far _ _ _ _ (by show w.heap.size + 1 ≠ w.heap.size + 1 + 1; omega), World.cell?_setCell_far _ _ _ _ (by show w.heap.size ≠ w.heap.size + 1 + 1; omega)]
    exact q2
  · exact (((hbel.setCell (Nat.le_refl _) _).setCell (by simp) _).setCell (by simp; omega) _).trans (bel_put _ _ (by omega))
  · refine row_tokens (owns_of_block h3 fun g o hg ho hc => ?_)
    have hge := (h3.lt g hg).1
    have hgD : g ≠ D := by
      rintro rfl
      rw [hd] at ho
      cases ho
      cases hc
    rw [World.putObj_heap_other hgD, heap_setCell_other _ _ _ _ (by show g ≠ w.heap.size + 1 + 1; omega), heap_setCell_other _ _ _ _ (by show g ≠ w.heap.size + 1; omega), heap_setCell_other _ _ _ _ (by show g ≠ w.heap.size; omega)]
    exact ho
theorem ok_of_noErr {x : List UInt8} {xs : List (Lx.Tok × Int)} (h : xs = Lx.ys rkL mkL x 0) (hn : NoErr xs) : Lx.lex rkL mkL x 0 = .ok (xs.map (·.1)) := by
  have hs := Lx.yl_spec rkL mkL kinds (x.length + 1) x 0 (by omega)
  change Lx.ylOf _ (Lx.ys rkL mkL x 0) at hs
  rw [← h] at hs
  cases hq : Lx.lex rkL mkL x 0 with
  | ok l =>
    rw [hq] at hs
    simp only [Lx.ylOf] at hs
    rw [hs, List.map_map]
    simp [Function.comp_def]
  | bad a e =>
    rw [hq] at hs
    obtain ⟨h0, l0, h1⟩ := hs
    exact absurd (hn (⟨0, [], (a : Int)⟩, e) (by rw [h1]; simp)) h0
theorem bad_of_err {x : List UInt8} {pr : List (Lx.Tok × Int)} {y : Lx.Tok × Int} (h : pr ++ [y] <+: Lx.ys rkL mkL x 0) (hy : y.2 ≠ 0) (hn : NoErr pr) : ∃ a e, Lx.lex rkL mkL x 0 = .bad a e ∧ y.1.at' = (a : Int) ∧ y.2 = e := by
  have hs := Lx.yl_spec rkL mkL kinds (x.length + 1) x 0 (by omega)
  change Lx.ylOf _ (Lx.ys rkL mkL x 0) at hs
  obtain ⟨z, hz⟩ := h
  rw [← hz] at hs
  cases hq : Lx.lex rkL mkL x 0 with
  | ok l =>
    rw [hq] at hs
    simp only [Lx.ylOf] at hs
    have : y ∈ l.map fun t => ((t, 0) : Lx.Tok × Int) := by rw [← hs]; simp
    obtain ⟨t, -, ht⟩ := List.mem_map.1 this
    rw [← ht] at hy
    exact absurd rfl hy
  | bad a e =>
    rw [hq] at hs
    obtain ⟨h0, l0, h1⟩ := hs
    refine ⟨a, e, rfl, ?_⟩
    rcases List.eq_nil_or_concat z with rfl | ⟨z', u, rfl⟩
    · rw [List.append_nil] at h1
      have h2 := (List.append_inj' h1 rfl).2
      simp at h2
      rw [h2]
      exact ⟨rfl, rfl⟩
    · rw [List.concat_eq_append, ← List.append_assoc] at h1
      have h2 := (List.append_inj' h1 rfl).1
      have : y ∈ l0.map fun t => ((t, 0) : Lx.Tok × Int) := by rw [← h2]; simp
      obtain ⟨t, -, ht⟩ := List.mem_map.1 this
      rw [← ht] at hy
      exact absurd rfl hy
set_option maxHeartbeats 4000000 in
theorem lex_small (x : ByteArray) (hm : x.size ≤ 16384) (w : World) (hsg : Sgs w) :
    Calls Tryd.prog 16 #[.string x] w fun e w' => ∃ v a er, e = .returned (.tuple #[v, .int .i64 a, .int .i64 er]) ∧ LexOut (Lx.lex rkL mkL x.data.toList 0) w' v a er ∧ Below w.heap.size w w' := by
  obtain ⟨i0, hi, hz0, hz1, hz2⟩ := info_parts info27
  refine (callsIn_wide (n := 9)).1 ?_
  have hsgh := Lib.hid hsg
  have hz := hsg.pos
  clear hsg
  have hm1 : ¬ (16384 : Int) < (x.size : Int) := by omega
  refine callsIn_of_wp_marks Tryd.func16 rfl trivial ?_ rfl
  simp only [Tryd.ntmps16, List.size_toArray, List.length_cons, List.length_nil, Nat.reduceAdd, Nat.reduceSub, Array.replicate_succ, Array.replicate_zero, List.push_toArray, List.append_toArray, List.nil_append, List.cons_append]
  gi_wp2
  obtain ⟨hres1, hbox1⟩ := res_allocs w
  have hbl1 : Below w.heap.size w ((((w.alloc (.cells #[.slice none 0 0] 24)).alloc (.cells #[.int .i64 0] 3)).alloc (.cells #[.int .i64 0] 35)).alloc (.cells #[.slice none 0 0] 24)) :=
    bel_step (bel_step (bel_step (bel_laid w _) (bel_laid _ _)) (bel_laid _ _)) (bel_laid _ _)
  have hs1 : ((((w.alloc (.cells #[.slice none 0 0] 24)).alloc (.cells #[.int .i64 0] 3)).alloc (.cells #[.int .i64 0] 35)).alloc (.cells #[.slice none 0 0] 24)).heap.size = w.heap.size + 1 + 1 + 1 + 1 := by simp
  generalize (((w.alloc (.cells #[.slice none 0 0] 24)).alloc (.cells #[.int .i64 0] 3)).alloc (.cells #[.int .i64 0] 35)).alloc (.cells #[.slice none 0 0] 24) = W1 at hres1 hbox1 hbl1 hs1 ⊢
  refine ⟨trivial, (callsIn_wide.2 (tokens_any x W1)).mono ?_⟩
  rintro e W2 ⟨rfl, hb2, htx⟩
  have hWW : Below w.heap.size w W2 := bel_step hbl1 hb2
  have hres : Res0 w.heap.size W2 := hres1.imp fun j o _ _ ho _ => hb2.block j (Array.getElem?_eq_some_iff.1 ho).1
  have hbox : LBox (w.heap.size + 1 + 1 + 1) (w.heap.size + 1 + 1 + 1 + 1) [] W2 := hbox1.below hb2
  have hs2 : w.heap.size + 1 + 1 + 1 + 1 < W2.heap.size := by have := lt_of_cell htx; omega
  have hLv : Lives w (GB (w.heap.size + 1 + 1 + 1) (w.heap.size + 1 + 1 + 1 + 1)) (SB (w.heap.size + 1 + 1 + 1)) := lives w (by omega) (by omega)
  rw [hs1] at htx ⊢
  have hsg2 := hsgh.out.of hWW
  clear hb2 hbl1 hres1 hbox1 hs1 hsgh
  gi_wp2
  refine wpIn_rangeFunc_P (S := SB (w.heap.size + 1 + 1 + 1)) (gf := 27) (lb := #[.pointer (some ⟨w.heap.size + 1 + 1 + 1 + 1, 0, none⟩)]) (w0 := W2) (T := Lx.ys rkL mkL x.data.toList 0) (tr := id) (Kp := KB (w.heap.size + 1 + 1 + 1) (w.heap.size + 1 + 1 + 1 + 1) (W2.heap.size + 2)) (encs := encs) rfl (enters_of Tryd.func27 (by kernel_rfl) rfl)
    (tokens_seq x (by omega) _ _ _ (W2.heap.size + 2) w W2 hLv hz ⟨_, hbox⟩ htx hsg2 _) (fun h h' => h.trans h') (fun V l' o o' h1 h2 ho hc _ => KB.put hLv o' ho hc h2) (Below.refl _ _) (fun _ => rfl)
    (fun pre V => LBox (w.heap.size + 1 + 1 + 1) (w.heap.size + 1 + 1 + 1 + 1) (pre.map (·.1)) V ∧ Below w.heap.size w V ∧ Res0 w.heap.size V ∧ NoErr pre ∧ W2.heap.size ≤ V.heap.size)
    (fun cd pre V => cd = .ret ∧ ∃ pr y, pre = pr ++ [y] ∧ y.2 ≠ 0 ∧ NoErr pr ∧ Below w.heap.size w V ∧ V.cell? ⟨w.heap.size, 0, none⟩ = some (.slice none 0 0) ∧ V.cell? ⟨w.heap.size + 1, 0, none⟩ = some (.int .i64 y.1.at') ∧ V.cell? ⟨w.heap.size + 1 + 1, 0, none⟩ = some (.int .i64 y.2) ∧ W2.heap.size ≤ V.heap.size)
    ?hI ?hIx ?hIc ?hIxc ⟨hbox, hWW, hres, (fun y hy => by simp at hy), Nat.le_refl _⟩
    (fun y a' V => ∃ bx : Nat, W2.heap.size ≤ bx ∧ V.heap[bx]? = some (.cells #[.int .u8 y.1.k, .string ⟨y.1.t.toArray⟩, .int .i64 y.1.at'] 27 (0, 0)) ∧ a' = { tmps := #[.string x, undef, .pointer (some ⟨w.heap.size, 0, none⟩), .pointer (some ⟨w.heap.size + 1, 0, none⟩), .pointer (some ⟨w.heap.size + 1 + 1, 0, none⟩), .pointer (some ⟨w.heap.size + 1 + 1 + 1, 0, none⟩), .pointer (some ⟨bx, 0, none⟩), .int .i64 y.2, .string x, .int .i64 x.size, .bool false, .string x, .func (.func 27) #[] #[.pointer (some ⟨w.heap.size + 1 + 1 + 1 + 1, 0, none⟩)], tokV y.1, .int .i64 y.2, undef, undef, undef, undef, undef, undef, undef, undef, undef, undef], defers := [] })
    ?hAx ?assign ?body ?done ?stop
  case hI =>
    rintro pre A B row ⟨h1, h2, h3, h4, h5⟩ hg hr
    exact ⟨h1.grown hg (fun r e => (hr r e).2), h2.grown hg h2.size (fun k e => by have := (hr k e).1; omega), h3.imp (fun j o h6 h7 ho _ => hg.block j (Array.getElem?_eq_some_iff.1 ho).1 (fun e => by have := (hr j e.symm).1; omega)), h4, Nat.le_trans h5 hg.size⟩
  case hIx =>
    rintro cd pre A B row ⟨hcd, pr, y, h1, h2, h3, h4, h5, h6, h7, h8⟩ hg hr
    have hr' : ∀ r, row = some r → ∃ o : Obj, A.heap[r]? = some o ∧ o.isCells = false := fun r e => (hr r e).2
    exact ⟨hcd, pr, y, h1, h2, h3, h4.grown hg h4.size (fun k e => by have := (hr k e).1; omega), cell_kept h5 hg hr', cell_kept h6 hg hr', cell_kept h7 hg hr', Nat.le_trans h8 hg.size⟩
  case hIc =>
    rintro pre A B b ⟨h1, h2, h3, h4, h5⟩ hN hS hb
    refine ⟨?_, bel_but h2 hb (by omega) (Nat.le_refl _), h3.imp (fun j o h6 h7 ho _ => hb.2.2.2.2 j (Array.getElem?_eq_some_iff.1 ho).1 (by omega)), h4, Nat.le_trans h5 hb.2.2.2.1⟩
    exact h1.but hS hb
  case hIxc =>
    rintro cd pre A B b ⟨hcd, pr, y, h1, h2, h3, h4, h5, h6, h7, h8⟩ hN hS hb
    exact ⟨hcd, pr, y, h1, h2, h3, bel_but h4 hb (by omega) (Nat.le_refl _), hb.cell (by omega) h5, hb.cell (by omega) h6, hb.cell (by omega) h7, Nat.le_trans h8 hb.2.2.2.1⟩
  case hAx =>
    rintro y a' _ A B row ⟨bx, h2, h3, h4⟩ hg hr
    exact ⟨bx, h2, (hg.block bx (Array.getElem?_eq_some_iff.1 h3).1 (fun e => by
      obtain ⟨o, ho, hn⟩ := (hr bx e.symm).2
      rw [h3] at ho
      cases ho
      cases hn)).trans h3, h4⟩
  case assign =>
    rintro m l' pre ⟨⟨tkk, tkt, tka⟩, er⟩ V Kq ⟨h1, h2, h3, h4, h5⟩ hK
    have hK' := Lib.hid hK
    clear hK
    simp only [encs, tokV]
    gi_wp2
    have hl := bel_laid V (.cells #[.int .u8 tkk, .string ⟨tkt.toArray⟩, .int .i64 tka] 27)
    exact hK'.out _ _ ((KB.of_below (K := W2.heap.size) hLv hl).1.from (Nat.le_refl _)) (KB.of_below hLv hl) ⟨h1.below hl, bel_step h2 hl, h3.imp (fun j o _ _ ho _ => hl.block j (Array.getElem?_eq_some_iff.1 ho).1), h4, Nat.le_trans h5 hl.size⟩ ⟨V.heap.size, h5, heap_alloc_new V _, rfl⟩
  case body =>
    rintro m l' pre ⟨⟨tkk, tkt, tka⟩, er⟩ a' V hl' ⟨rr, hrr⟩ ⟨hbx, hbel, hres', hno, hsz⟩ ⟨bx, hbx2, hblk, rfl⟩ hpre
    replace hblk : V.heap[bx]? = some (.cells #[.int .u8 tkk, .string ⟨tkt.toArray⟩, .int .i64 tka] 27 (0, 0)) := hblk
    have c0 := (cell_of_row V bx 0 _ 27 (0, 0) hblk).trans (rfl : _ = some (Value.int .u8 tkk))
    have c1 := (cell_of_row V bx 1 _ 27 (0, 0) hblk).trans (rfl : _ = some (Value.string ⟨tkt.toArray⟩))
    have c2 := (cell_of_row V bx 2 _ 27 (0, 0) hblk).trans (rfl : _ = some (Value.int .i64 tka))
    have hlen := hpre.length_le
    rw [List.length_map, List.length_append] at hlen
    simp only [List.length_singleton] at hlen
    have hyl := yl_len rkL mkL (x.data.toList.length + 1) x.data.toList 0
    have hxl : x.data.toList.length = x.size := by simp
    replace hyl : (Lx.ys rkL mkL x.data.toList 0).length ≤ x.size + 1 := by rw [← hxl]; exact hyl
    by_cases he : er = 0
    · subst he
      have heb : ((0 : Int) != 0) = false := rfl
      have hn2 : NoErr (pre ++ [((⟨tkk, tkt, tka⟩ : Lx.Tok), (0 : Int))]) := by
        intro y hy
        rcases List.mem_append.1 hy with hy | hy
        · exact hno y hy
        · simp at hy; subst hy; rfl
      have hml : (pre.map (·.1)).length = pre.length := List.length_map _
      have hsn : (pre ++ [((⟨tkk, tkt, tka⟩ : Lx.Tok), (0 : Int))]).map (·.1) = pre.map (·.1) ++ [⟨tkk, tkt, tka⟩] := by simp
      have hlb : (pre.map (·.1)).length ≤ x.size := by omega
      clear hml
      generalize pre.map (·.1) = L at hbx hlb hsn ⊢
      have hsnh := Lib.hid hsn
      clear hsn
      obtain ⟨s, h1, h2, h3⟩ := hbx
      have hl := bel_laid V (.cells #[.int .u8 tkk, .string ⟨tkt.toArray⟩, .int .i64 tka] 27)
      have h1' := cell_below hl h1
      have h2' := (World.frozen?_of_block (a := ⟨w.heap.size + 1 + 1 + 1, 0, none⟩) (hl.block _ (lt_of_cell h1))).trans h2
      have h12 := Lib.hid (And.intro h1' h2')
      clear h1' h2'
      have h3' := Lib.hid h3
      clear h3
      gi_wp2_with (gi_at_builtin; go_loud (refine wpListIn_append_own_at _ rfl _ _ 24 rfl (w.heap.size + 1 + 1 + 1 + 1) 27 i0 (.agg #[.int .u8 0, .string ⟨#[]⟩, .int .i64 0]) 3 32 Tryd.underlying24 hi hz0 hz1 hz2 rfl (by decide) _ _ _ rfl (h3'.out.alloc _) ⟨V.heap.size, 0, none⟩ 1 1 [.int .u8 tkk, .string ⟨tkt.toArray⟩, .int .i64 tka] rfl rfl ?c1 ?c2 ?c3 ?c4 ?c5 ?_))
      case c1 =>
        intro j u hj
        match j, hj with
        | 0, hj => simp at hj; subst hj; simp [Addr.add]
        | 1, hj => simp at hj; subst hj; simp [Addr.add]
        | 2, hj => simp at hj; subst hj; simp [Addr.add]
      case c2 => intro u hu; simp at hu; rcases hu with rfl | rfl | rfl <;> rfl
      case c3 => unfold maxLen; omega
      case c4 => omega
      case c5 => have := lt_of_cell h1; simp; omega
      intro v' w1 hown' hgrow _ hob
      obtain ⟨g9, cap9, hv9⟩ : ∃ g cap, v' = .slice (some ⟨g, 0, none⟩) (L.length + 1) cap := by
        obtain ⟨-, ⟨-, h0⟩ | ⟨g, cap, cur, hv, -⟩⟩ := id hown'
        · omega
        · exact ⟨g, cap, hv⟩
      subst hv9
      rw [← World.size_alloc V (.cells #[.int .u8 tkk, .string ⟨tkt.toArray⟩, .int .i64 tka] 27)] at hob
      have h3a := h3'.out.alloc (.cells #[.int .u8 tkk, .string ⟨tkt.toArray⟩, .int .i64 tka] 27)
      have A := LBox.app (K := W2.heap.size + 2) (p := ⟨tkk, tkt, tka⟩) (by omega) h12.out.1 h12.out.2 h3a hgrow hown' hob
      have A0 := LBox.app (K := W2.heap.size) (p := ⟨tkk, tkt, tka⟩) (by omega) h12.out.1 h12.out.2 h3a hgrow hown' hob
      have hb3 := A.2.2.2.2 w w.heap.size (by omega) (by have := hbel.size; simp; omega) (bel_step hbel hl)
      have g1 := A.1
      have g2 := A.2.1
      have hblks : ∀ b, b < (V.alloc (.cells #[.int .u8 tkk, .string ⟨tkt.toArray⟩, .int .i64 tka] 27)).heap.size → SB (w.heap.size + 1 + 1 + 1) (V.alloc (.cells #[.int .u8 tkk, .string ⟨tkt.toArray⟩, .int .i64 tka] 27)) b →
          (w1.setCell ⟨w.heap.size + 1 + 1 + 1, 0, none⟩ (.slice (some ⟨g9, 0, none⟩) (L.length + 1) cap9)).heap[b]? = (V.alloc (.cells #[.int .u8 tkk, .string ⟨tkt.toArray⟩, .int .i64 tka] 27)).heap[b]? := by
        rintro b hb ⟨s2, k1, k2, k3⟩
        rw [h12.out.1] at k1
        cases k1
        exact (heap_setCell_other w1 ⟨w.heap.size + 1 + 1 + 1, 0, none⟩ b _ k2).trans (hgrow.block b hb (fun e => k3 e.symm))
      have hkb : ∀ K, KS (GB (w.heap.size + 1 + 1 + 1) (w.heap.size + 1 + 1 + 1 + 1)) (SB (w.heap.size + 1 + 1 + 1)) K (V.alloc (.cells #[.int .u8 tkk, .string ⟨tkt.toArray⟩, .int .i64 tka] 27)) (w1.setCell ⟨w.heap.size + 1 + 1 + 1, 0, none⟩ (.slice (some ⟨g9, 0, none⟩) (L.length + 1) cap9)) →
          KB (w.heap.size + 1 + 1 + 1) (w.heap.size + 1 + 1 + 1 + 1) K V (w1.setCell ⟨w.heap.size + 1 + 1 + 1, 0, none⟩ (.slice (some ⟨g9, 0, none⟩) (L.length + 1) cap9)) :=
        fun K hk => (KB.of_below hLv hl).trans ⟨hk, fun b hb hs _ => hblks b hb hs⟩
      have hks := hkb _ A.2.2.1
      have hks0 := hkb _ A0.2.2.1
      have hnew := A.2.2.2.1
      have hres2 : Res0 w.heap.size (w1.setCell ⟨w.heap.size + 1 + 1 + 1, 0, none⟩ (.slice (some ⟨g9, 0, none⟩) (L.length + 1) cap9)) := by
        refine hres'.imp fun j o h6 h7 ho hoc => hks.2 j (Array.getElem?_eq_some_iff.1 ho).1 ⟨s, h1, by omega, fun e => ?_⟩ ⟨o, ho, hoc⟩
        have := (h3'.out.lt j e).1
        omega
      have hsz2 : W2.heap.size ≤ (w1.setCell ⟨w.heap.size + 1 + 1 + 1, 0, none⟩ (.slice (some ⟨g9, 0, none⟩) (L.length + 1) cap9)).heap.size := Nat.le_trans hsz hks.1.1
      clear A A0 hown' hgrow hob h3a hblks hkb
      gi_wp2
      exact ⟨hks0.1.from (Nat.le_refl _), hks, by rw [hsnh.out]; exact hnew, hb3, hres2, hn2, hsz2⟩
    · have heb : (er != 0) = true := by simpa using he
      obtain ⟨r1, r2, r3⟩ := hres'
      have q0 := (cell_of_row V w.heap.size 0 _ 24 (0, 0) r1).trans (rfl : _ = some (Value.slice none 0 0))
      have q1 := (cell_of_row V (w.heap.size + 1) 0 _ 3 (0, 0) r2).trans (rfl : _ = some (Value.int .i64 0))
      have q2 := (cell_of_row V (w.heap.size + 1 + 1) 0 _ 35 (0, 0) r3).trans (rfl : _ = some (Value.int .i64 0))
      have f0 := frozen_of_row V w.heap.size 0 _ 24 r1
      have f1 := frozen_of_row V (w.heap.size + 1) 0 _ 3 r2
      have f2 := frozen_of_row V (w.heap.size + 1 + 1) 0 _ 35 r3
      have n1 : ¬ w.heap.size = bx := by omega
      have n2 : ¬ w.heap.size + 1 = bx := by omega
      have n3 : ¬ w.heap.size + 1 + 1 = bx := by omega
      have hboxh := Lib.hid hbx
      have hbelh := Lib.hid hbel
      have hnoh := Lib.hid hno
      obtain ⟨U, hU, hU1, hU2, hU3, hU4, hU5, hU6⟩ := stop_world (tka := tka) (er := er) hbel hsz q0 q1 q2
      have hUh := Lib.hid (And.intro hU (And.intro hU1 (And.intro hU2 (And.intro hU3 (And.intro hU4 (And.intro hU5 hU6))))))
      clear hU hU1 hU2 hU3 hU4 hU5 hU6
      clear hbx hbel hno r1 r2 r3 hblk hpre hyl hlen
      gi_wp2
      gi_region
      all_goals gi_wp2
      all_goals
        obtain ⟨hU, hU1, hU2, hU3, hU4, hU5, hU6⟩ := hUh.out
        rw [hU]
        exact ⟨hU1, rfl, pre, (⟨tkk, tkt, tka⟩, er), rfl, he, hnoh.out, hU2, hU3, hU4, hU5, hU6⟩
  case done =>
    rintro D xs V hDD hxs ⟨⟨s, h1, h2, h3⟩, hbel, ⟨r1, r2, r3⟩, hno, hsz⟩ hd
    rw [List.map_id] at hxs
    have q0 := (cell_of_row V w.heap.size 0 _ 24 (0, 0) r1).trans (rfl : _ = some (Value.slice none 0 0))
    have q1 := (cell_of_row V (w.heap.size + 1) 0 _ 3 (0, 0) r2).trans (rfl : _ = some (Value.int .i64 0))
    have q2 := (cell_of_row V (w.heap.size + 1 + 1) 0 _ 35 (0, 0) r3).trans (rfl : _ = some (Value.int .i64 0))
    have f0 := frozen_of_row V w.heap.size 0 _ 24 r1
    have f1 := frozen_of_row V (w.heap.size + 1) 0 _ 3 r2
    have f2 := frozen_of_row V (w.heap.size + 1 + 1) 0 _ 35 r3
    have hok := ok_of_noErr hxs hno
    obtain ⟨ps, cps, hsl⟩ : ∃ p c, s = .slice p (xs.map (·.1)).length c := by
      obtain ⟨-, ⟨hv, h0⟩ | ⟨g, cap, cur, hv, -⟩⟩ := id h3
      · exact ⟨none, 0, by rw [h0]; exact hv⟩
      · exact ⟨_, _, hv⟩
    generalize xs.map (·.1) = L at h3 hok hsl
    subst hsl
    obtain ⟨U, hU, hU0, hU1, hU2, hU3, hU4, hU5⟩ := end_world hbel (by omega) hd q0 q1 q2 h3
    have hUh := Lib.hid (And.intro hU (And.intro hU0 (And.intro hU1 (And.intro hU2 (And.intro hU3 (And.intro hU4 hU5))))))
    have hokh := Lib.hid hok
    clear hU hU0 hU1 hU2 hU3 hU4 hU5 r1 r2 r3 h3 hd hbel hno hxs hok hi hz0 hz1 hz2
    gi_wp2
    obtain ⟨hU, hU0, hU1, hU2, hU3, hU4, hU5⟩ := hUh.out
    rw [hU]
    refine ⟨by simp, .inl ⟨_, _, rfl, run_takeDeferred hU0, .tuple #[.slice ps L.length cps, .int .i64 0, .int .i64 0], ?_, ?_⟩⟩
    · simp [results, Tryd.results16, go_sem, hU1, hU2, hU3]
    · exact ⟨_, _, _, rfl, by rw [hokh.out]; exact ⟨hU5, rfl, rfl⟩, hU4⟩
  case stop =>
    rintro D cd pre V hD hpre ⟨hcd, pr, y, h1, h2, h3, h4, h5, h6, h7, h8⟩ hd
    subst hcd
    rw [List.map_id, h1] at hpre
    obtain ⟨a, e, hb, e1, e2⟩ := bad_of_err hpre h2 h3
    have hp0 : (V.putObj D (.deferred none)).cell? ⟨w.heap.size, 0, none⟩ = some (.slice none 0 0) := (World.cell?_of_block (World.putObj_heap_other (by show w.heap.size ≠ D; omega))).trans h5
    have hp1 : (V.putObj D (.deferred none)).cell? ⟨w.heap.size + 1, 0, none⟩ = some (.int .i64 y.1.at') := (World.cell?_of_block (World.putObj_heap_other (by show w.heap.size + 1 ≠ D; omega))).trans h6
    have hp2 : (V.putObj D (.deferred none)).cell? ⟨w.heap.size + 1 + 1, 0, none⟩ = some (.int .i64 y.2) := (World.cell?_of_block (World.putObj_heap_other (by show w.heap.size + 1 + 1 ≠ D; omega))).trans h7
    gi_wp2
    refine ⟨by simp, .inl ⟨_, _, rfl, run_takeDeferred hd, .tuple #[.slice none 0 0, .int .i64 y.1.at', .int .i64 y.2], ?_, ?_⟩⟩
    · simp [results, Tryd.results16, go_sem, hp0, hp1, hp2]
    · exact ⟨_, _, _, rfl, by rw [hb]; exact ⟨rfl, e1, e2⟩, h4.trans (bel_put _ _ (by omega))⟩
theorem lex_long (x : ByteArray) (hm : 16384 < x.size) (w : World) :
    Calls Tryd.prog 16 #[.string x] w fun e w' => e = .returned (.tuple #[.slice none 0 0, .int .i64 0, .int .i64 3]) ∧ Below w.heap.size w w' := by
  have hm1 : (16384 : Int) < (x.size : Int) := by omega
  go_enter Tryd.func16, Tryd.ntmps16
  go_wp2
  refine bodyPost_ret (v := .tuple #[.slice none 0 0, .int .i64 0, .int .i64 3]) (by simp [results, Tryd.results16, go_sem]) rfl ⟨rfl, ?_⟩
  exact bel_step (bel_step (bel_laid w _) (bel_laid _ _)) (bel_laid _ _)
end Go.Proofs.YthkfkdcmnkkdhaaDoor
