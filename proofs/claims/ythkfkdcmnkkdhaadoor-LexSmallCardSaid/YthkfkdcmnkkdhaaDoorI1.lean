/- The tokens as an iterator: what comes is what the mathematics tells. -/
import Derived.Test.YthkfkdcmnkkdhaaDoorI0
namespace Go.Proofs.YthkfkdcmnkkdhaaDoor
open Go Go.RowKit Go.Shelf
set_option maxRecDepth 100000
set_option linter.unusedVariables false
attribute [local go_sem] Oper.semAt_some
def encs (x : Lx.Tok × Int) : Array Value := #[tokV x.1, .int .i64 x.2]
/-- The table, and that no round touches its boxes. -/
def TabS (c : Nat) (w : World) (sb : Nat) (cs : Array Value) : Prop := ∃ g1 g2, g1 ≠ sb ∧ g2 ≠ sb ∧ SB c w g1 ∧ SB c w g2 ∧ (∀ j, j < 256 → cs[j]? = some (startV g1 g2 j)) ∧ w.cell? ⟨g1, 0, none⟩ = some (.func (.func 40) #[] #[]) ∧ w.cell? ⟨g2, 0, none⟩ = some (.func (.func 41) #[] #[])
theorem TabS.x {c : Nat} {w : World} {sb : Nat} {cs : Array Value} (h : TabS c w sb cs) : TabX w sb cs := by
  obtain ⟨g1, g2, h1, h2, -, -, h3, h4, h5⟩ := h
  exact ⟨g1, g2, h1, h2, h3, h4, h5⟩
/-- What holds between the rounds. -/
structure It (c B sb : Nat) (x : ByteArray) (cs : Array Value) (N q : Nat) (V : World) : Prop where
  scan : Scan V sb x cs q
  tab : TabS c V sb cs
  sg : Sgs V
  g : GB c B V
  ssb : SB c V sb
  size : N ≤ V.heap.size
theorem SB.but {c sb b : Nat} {A V : World} (hc : sb ≠ c) (h : SB c A b) (hb : But sb A V) : SB c V b := by
  obtain ⟨s, h1, h2, h3⟩ := h
  exact ⟨s, hb.cell (Ne.symm hc) h1, h2, h3⟩
theorem GB.but {c B sb : Nat} {A V : World} (hs : SB c A sb) (h : GB c B A) (hb : But sb A V) : GB c B V := by
  obtain ⟨l, s, h1, h2, h3⟩ := h
  obtain ⟨s', k1, k2, k3⟩ := hs
  rw [h1] at k1
  cases k1
  have hcb := hb.2.2.2.2 c (lt_of_cell h1) (Ne.symm k2)
  refine ⟨l, s, hb.cell (Ne.symm k2) h1, ?_, owns_of_block h3 fun g o hg ho _ => ?_⟩
  · rw [World.frozen?_of_block hcb]; exact h2
  · rw [hb.2.2.2.2 g (Array.getElem?_eq_some_iff.1 ho).1 (fun e => k3 (e ▸ hg))]; exact ho
theorem It.moved {c B sb N q q' : Nat} {x : ByteArray} {cs : Array Value} {A V : World} (h : It c B sb x cs N q A) (hb : But sb A V) (hs : Scan V sb x cs q') (hsb : sb ≠ 0) : It c B sb x cs N q' V where
  scan := hs
  tab := by
    obtain ⟨g1, g2, h1, h2, s1, s2, h3, h4, h5⟩ := h.tab
    have hc : sb ≠ c := by obtain ⟨s, _, k, _⟩ := h.ssb; exact k
    exact ⟨g1, g2, h1, h2, s1.but hc hb, s2.but hc hb, h3, hb.cell h1 h4, hb.cell h2 h5⟩
  sg := h.sg.but hb hsb
  g := h.g.but h.ssb hb
  ssb := h.ssb.but (by obtain ⟨s, _, k, _⟩ := h.ssb; exact k) hb
  size := Nat.le_trans h.size hb.2.2.2.1
theorem It.below {w0 : World} {c B sb N q : Nat} {x : ByteArray} {cs : Array Value} {A V : World} (hL : Lives w0 (GB c B) (SB c)) (h : It c B sb x cs N q A) (hb : Below A.heap.size A V) : It c B sb x cs N q V where
  scan := h.scan.below hb
  tab := by
    obtain ⟨g1, g2, h1, h2, s1, s2, h3, h4, h5⟩ := h.tab
    exact ⟨g1, g2, h1, h2, hL.sb hb (lt_of_cell h4) s1, hL.sb hb (lt_of_cell h5) s2, h3, cell_below hb h4, cell_below hb h5⟩
  sg := h.sg.of hb
  g := hL.gb hb h.g
  ssb := hL.sb hb h.scan.lt h.ssb
  size := Nat.le_trans h.size hb.size
theorem It.kept {w0 : World} {c B sb N q K : Nat} {x : ByteArray} {cs : Array Value} {A V : World} (hL : Lives w0 (GB c B) (SB c)) (hz : 0 < w0.heap.size) (h : It c B sb x cs N q A) (hk : KB c B K A V) : It c B sb x cs N q V where
  scan := (hk.2 sb h.scan.lt h.ssb ⟨_, h.scan, rfl⟩).trans h.scan
  tab := by
    obtain ⟨g1, g2, h1, h2, s1, s2, h3, h4, h5⟩ := h.tab
    exact ⟨g1, g2, h1, h2, hk.1.2.2.1 g1 (lt_of_cell h4) s1, hk.1.2.2.1 g2 (lt_of_cell h5) s2, h3, hk.1.2.1 _ _ _ s1 h4, hk.1.2.1 _ _ _ s2 h5⟩
  sg := by
    have hp := h.sg.pos
    obtain ⟨t, fr, h0⟩ := h.sg
    exact ⟨t, fr, (hk.2 0 hp (hL.s0 h.g hz) ⟨_, h0, rfl⟩).trans h0⟩
  g := hk.1.2.2.2.1 h.g
  ssb := hk.1.2.2.1 sb h.scan.lt h.ssb
  size := Nat.le_trans h.size hk.1.1
/-- The values of the slots behind the head of the region. -/
def VTi (x : ByteArray) (l g c N : Nat) (d : Nat) (v : Value) (V : World) : Prop :=
  if d = 7 then v = .string x
  else if d = 8 then ∃ cs : Array Value, v = .agg cs ∧ cs.size = 256 ∧ TabV N V cs
  else if d = 9 then ∃ cs : Array Value, v = .agg (scanC 0 x cs) ∧ cs.size = 256 ∧ TabV N V cs
  else if d = 3 then ∃ b, v = .pointer (some ⟨b, 0, none⟩) ∧ N ≤ b ∧ V.heap[b]? = some (.cells Tryd.zeroCells67 67 (0, 0)) ∧ SB c V b
  else if d = 0 then v = .func (.yield l) #[] #[]
  else if d = 1 then v = .pointer (some ⟨g, 0, none⟩)
  else v = undef
theorem TabV.below {N : Nat} {cs : Array Value} {A V : World} (h : TabV N A cs) (hb : Below A.heap.size A V) : TabV N V cs := by
  obtain ⟨g1, g2, h1, h2, h3, h4, h5, h6⟩ := h
  exact ⟨g1, g2, h1, h2, h3, h4, cell_below hb h5, cell_below hb h6⟩
theorem VTi.below {w0 : World} {x : ByteArray} {l g c B N : Nat} (hL : Lives w0 (GB c B) (SB c)) {d : Nat} {v : Value} {A V : World} (h : VTi x l g c N d v A) (hb : Below A.heap.size A V) : VTi x l g c N d v V := by
  unfold VTi at h ⊢
  split at h
  · rw [if_pos ‹_›]; exact h
  · rw [if_neg ‹_›]
    split at h
    · rw [if_pos ‹_›]; obtain ⟨cs, h1, h2, h3⟩ := h; exact ⟨cs, h1, h2, h3.below hb⟩
    · rw [if_neg ‹_›]
      split at h
      · rw [if_pos ‹_›]; obtain ⟨cs, h1, h2, h3⟩ := h; exact ⟨cs, h1, h2, h3.below hb⟩
      · rw [if_neg ‹_›]
        split at h
        · rw [if_pos ‹_›]; obtain ⟨b, h1, h2, h3, h4⟩ := h; exact ⟨b, h1, h2, (hb.block b (Array.getElem?_eq_some_iff.1 h3).1).trans h3, hL.sb hb (Array.getElem?_eq_some_iff.1 h3).1 h4⟩
        · rw [if_neg ‹_›]; exact h
theorem tmps_of {a : Act} {n : Nat} {f : Nat → Value} (hs : a.tmps.size = n) (h : ∀ d, d < n → a.tmps[d]? = some (f d)) : a.tmps = ((List.range n).map f).toArray := by
  apply Array.ext_getElem?
  intro d
  by_cases hd : d < n
  · rw [h d hd]
    simp [hd]
  · rw [Array.getElem?_eq_none (by omega), Array.getElem?_eq_none (by simp; omega)]
def boolN : Value → Nat
  | .bool true => 1
  | _ => 0
def posOf (sb : Nat) (V : World) : Nat := (intOf ((V.cell? ⟨sb, 0, none⟩).getD undef)).toNat
theorem load9 {V : World} {g : Nat} {x : ByteArray} (h : V.cell? ⟨g, 0, none⟩ = some (.string x)) : (Instr.loadAt 9 (.pointer (some ⟨g, 0, none⟩))).run Tryd.prog V = .ok (.string x) V := by
  simp [Instr.loadAt, Instr.sureAddr, go_sem, h]
theorem alloc67 (V : World) : (Instr.alloc 67 true (.tuple #[])).run Tryd.prog V = .ok (.pointer (some ⟨V.heap.size, 0, none⟩)) (V.alloc (.cells Tryd.zeroCells67 67)) := by
  simp [Instr.alloc, go_sem]
set_option maxHeartbeats 2000000 in
theorem tokens_seq (x : ByteArray) (hm : x.size ≤ 1000000) (g c B K : Nat) (w0 w1 : World) (hL : Lives w0 (GB c B) (SB c)) (hz : 0 < w0.heap.size) (hG : GB c B w1) (hbox : w1.cell? ⟨g, 0, none⟩ = some (.string x)) (hsg : Sgs w1) (n : Nat) :
    SeqP (SB c) n Tryd.prog 27 #[.pointer (some ⟨g, 0, none⟩)] encs (KB c B K) id (Lx.ys rkL mkL x.data.toList 0) w1 K := by
  intro l J Jx W hW hKW hJ hJx hJc hJxc hY h0
  have hGW := hL.gb hW hG
  have hbW := cell_below hW hbox
  have hsW := hsg.of hW
  have hYh := Lib.hid hY
  have hJh := Lib.hid hJ
  have hJch := Lib.hid hJc
  clear hG hbox hsg hY hJ hJx hJc hJxc hW
  refine callsIn_of_wp Tryd.func27 rfl trivial ?_ rfl
  simp only [Tryd.ntmps27, List.size_toArray, List.length_cons, List.length_nil, Nat.reduceAdd, Nat.reduceSub, Array.replicate_succ, Array.replicate_zero, List.push_toArray, List.append_toArray, List.nil_append, List.cons_append]
  gi_wp2
  rename_i Kx hKx
  have hKxh := Lib.hid hKx
  clear hKx
  refine wpIn_region_held_slots (by kernel_rfl) 4 28 [0, 1, 2, 4, 5, 6, 10, 11, 12, 13, 14, 15, 16, 17, 18, 19, 20, 21, 22, 23, 24, 25, 26, 27] (VTi x l g c W.heap.size) (fun _ _ V => Below W.heap.size W V) (fun A V => Below A.heap.size A V) (by kernel_rfl)
    (fun d v A V hb h => VTi.below hL h hb) rfl (bel_drew W) ?hb0 ?hst ?hend
  case hb0 =>
    intro d hd
    simp only [List.mem_cons, List.not_mem_nil, or_false] at hd
    rcases hd with rfl | rfl | rfl | rfl | rfl | rfl | rfl | rfl | rfl | rfl | rfl | rfl | rfl | rfl | rfl | rfl | rfl | rfl | rfl | rfl | rfl | rfl | rfl | rfl
    all_goals exact ⟨_, rfl, rfl⟩
  case hst =>
    refine ⟨?_, ?_, ?_, ?_, trivial⟩
    · intro L a V hLs hLi hn hd hI hb hl
      obtain ⟨u1, h1, e1⟩ := hb 1 (by simp)
      replace e1 : u1 = .pointer (some ⟨g, 0, none⟩) := e1
      subst e1
      exact opIn_val (fun _ => trivial) (by intro c h; cases h) rfl rfl (ex_load rfl (eval_tmp h1) (load9 (cell_below hI hbW))) ⟨_, rfl, fun d hd => by cases hd; rfl, hI, Below.refl _ _⟩
    · intro L a V hLs hLi hn hd hI hb hl
      refine opIn_call (fun _ => trivial) rfl (by intro c h; cases h) rfl rfl (ex_call0 (enters_of Tryd.func28 (by kernel_rfl) rfl) rfl) ((callsIn_wide.2 (starts_any V)).mono ?_)
      rintro e V' ⟨cs, rfl, ⟨g1, g2, k1, k2, k3, k4⟩, hbV⟩
      exact ⟨_, rfl, _, rfl, fun d hd => by cases hd; exact ⟨cs, rfl, k3, g1, g2, Nat.le_trans hI.size k1, Nat.le_trans hI.size k2, k3, k4⟩, bel_step hI hbV, hbV⟩
    · intro L a V hLs hLi hn hd hI hb hl
      obtain ⟨u7, h7, e7⟩ := hl 7 (List.contains_iff_mem.1 (by kernel_rfl))
      replace e7 : u7 = .string x := e7
      subst e7
      obtain ⟨u8, h8, cs, e8, hcz, htab⟩ := hl 8 (List.contains_iff_mem.1 (by kernel_rfl))
      subst e8
      exact opIn_val (fun _ => trivial) (by intro c h; cases h) rfl rfl (ex_build12 rfl (eval_tmp h7) (eval_tmp h8) (run_build V 67 _ _ (built67 x cs hcz))) ⟨_, rfl, fun d hd => by cases hd; exact ⟨cs, rfl, hcz, htab⟩, hI, Below.refl _ _⟩
    · intro L a V hLs hLi hn hd hI hb hl
      exact opIn_val (fun _ => trivial) (by intro c h; cases h) rfl rfl (ex_alloc rfl (alloc67 V)) ⟨_, rfl, fun d hd => by cases hd; exact ⟨V.heap.size, rfl, hI.size, heap_alloc_new V _, hL.fr V _ (hL.gb hI hGW)⟩, bel_step hI (bel_laid V _), bel_laid V _⟩
  case hend =>
  intro a' V hH
  obtain ⟨u0, h0', e0⟩ := hH.base 0 (by simp)
  obtain ⟨u3, h3, b, e3, hWb, hblk, hsb⟩ := hH.made 3 3 rfl rfl
  obtain ⟨u7, h7, e7⟩ := hH.made 0 7 rfl rfl
  obtain ⟨u8, h8, cs8, e8, hcz8, htab8⟩ := hH.made 1 8 rfl rfl
  obtain ⟨u9, h9, cs, e9, hcz, htab⟩ := hH.made 2 9 rfl rfl
  replace e7 : u7 = .string x := e7
  subst e3 e7 e8 e9
  have hbV : Below W.heap.size W V := hH.inv
  have hone : (scanC 0 x cs).all (·.oneCell') = true := by
    obtain ⟨g1, g2, -, -, -, hct, -⟩ := htab
    rw [← Array.all_toList, List.all_eq_true]
    intro v hv
    rw [scanC, Array.toList_append, List.mem_append] at hv
    rcases hv with hv | hv
    · simp at hv
      rcases hv with rfl | rfl <;> rfl
    · obtain ⟨j, hj, rfl⟩ := List.getElem_of_mem hv
      rw [Array.length_toList] at hj
      have h1 := hct j (by omega)
      rw [Array.getElem?_eq_getElem hj] at h1
      rw [Array.getElem_toList, Option.some.inj h1, startV]
      split
      · rfl
      · split <;> rfl
  have hsz : (scanC 0 x cs).size = 258 := by simp [scanC, hcz]
  have hrun := run_storeVar_row (P := Tryd.prog) V b 67 67 Tryd.zeroCells67 (scanC 0 x cs) hblk (by rw [hsz]; kernel_rfl) (by rw [hsz]; kernel_rfl) hone
  have htm : a'.tmps = #[.func (.yield l) #[] #[], .pointer (some ⟨g, 0, none⟩), undef, .pointer (some ⟨b, 0, none⟩), undef, undef, undef, .string x, .agg cs8, .agg (scanC 0 x cs), undef, undef, undef, undef, undef, undef, undef, undef, undef, undef, undef, undef, undef, undef, undef, undef, undef, undef] := by
    refine (tmps_of (f := fun d => if d = 7 then .string x else if d = 8 then .agg cs8 else if d = 9 then .agg (scanC 0 x cs) else if d = 3 then .pointer (some ⟨b, 0, none⟩) else if d = 0 then .func (.yield l) #[] #[] else if d = 1 then .pointer (some ⟨g, 0, none⟩) else undef) hH.size ?_).trans rfl
    intro d hd
    by_cases d7 : d = 7
    · subst d7; exact h7
    · by_cases d8 : d = 8
      · subst d8; exact h8
      · by_cases d9 : d = 9
        · subst d9; exact h9
        · by_cases d3 : d = 3
          · subst d3; exact h3
          · obtain ⟨v, hv, ev⟩ := hH.base d (by simp; omega)
            unfold VTi at ev
            rw [if_neg d7, if_neg d8, if_neg d9, if_neg d3] at ev
            rw [hv, if_neg d7, if_neg d8, if_neg d9, if_neg d3]
            by_cases d0 : d = 0
            · rw [if_pos d0] at ev ⊢; rw [ev]
            · rw [if_neg d0] at ev ⊢
              by_cases d1 : d = 1
              · rw [if_pos d1] at ev ⊢; rw [ev]
              · rw [if_neg d1] at ev ⊢; rw [ev]
  have hde : a'.defers = [] := hH.defs
  refine anyIn_one (i := 4) (by kernel_rfl) (opIn_skip (fun _ => trivial) (by intro c h; cases h) rfl rfl (ex_store rfl (eval_tmp h3) (eval_tmp h9) (by simpa [Instr.storeAt, Instr.sureAddr] using hrun)) ?_)
  refine anyIn_none (by kernel_rfl) ?_
  refine hKxh.out _ _ ?_
  clear hKxh
  have hap : (a'.put none undef) = { tmps := #[.func (.yield l) #[] #[], .pointer (some ⟨g, 0, none⟩), undef, .pointer (some ⟨b, 0, none⟩), undef, undef, undef, .string x, .agg cs8, .agg (scanC 0 x cs), undef, undef, undef, undef, undef, undef, undef, undef, undef, undef, undef, undef, undef, undef, undef, undef, undef, undef], defers := [] } := by
    cases a'
    simp only at htm hde
    subst htm hde
    rfl
  have hblt := (Array.getElem?_eq_some_iff.1 hblk).1
  have hb0 : b ≠ 0 := by have := hsW.pos; omega
  have hscan : Scan (V.setRow b (scanC 0 x cs)) b x cs 0 := setRow_heap _ _ _ _ _ _ hblk
  have hbS : Below W.heap.size W (V.setRow b (scanC 0 x cs)) := below_setRow hbV hWb _
  have hsafe : ∀ j, W.heap.size ≤ j → j < V.heap.size → SB c (V.setRow b (scanC 0 x cs)) j := by
    intro j hj1 hj2
    obtain ⟨ls, s, k1, k2, k3⟩ := hGW
    exact ⟨s, cell_below hbS k1, by have := lt_of_cell k1; omega, fun e => by
      obtain ⟨o, ho, -⟩ := owns_cells k3 e
      have := (Array.getElem?_eq_some_iff.1 ho).1
      omega⟩
  have hit : It c B b x cs W.heap.size 0 (V.setRow b (scanC 0 x cs)) := by
    obtain ⟨g1, g2, k1, k2, k3, k4, k5, k6⟩ := htab
    have hn : ∀ j fv, V.cell? ⟨j, 0, none⟩ = some (.func fv #[] #[]) → j ≠ b := by
      rintro j fv hc rfl
      rw [cell_of_row V j 0 _ 67 (0, 0) hblk] at hc
      have : Tryd.zeroCells67[0]? = some (.int .i64 0) := by kernel_rfl
      rw [this] at hc
      cases hc
    have n1 := hn g1 _ k5
    have n2 := hn g2 _ k6
    exact ⟨hscan, ⟨g1, g2, n1, n2, hsafe g1 k1 (lt_of_cell k5), hsafe g2 k2 (lt_of_cell k6), k4, by rw [cell_setRow_other _ _ _ _ n1]; exact k5, by rw [cell_setRow_other _ _ _ _ n2]; exact k6⟩,
      hsW.of hbS, hL.gb hbS hGW, hsafe b hWb hblt, hbS.size⟩
  have hj : J [] (V.setRow b (scanC 0 x cs)) := hJh.out [] W _ none h0 (bel_grown hbS) (fun r e => by cases e)
  generalize V.setRow b (scanC 0 x cs) = V1 at hit hj ⊢
  show Code.wpIn _ _ _ _ _ (a'.put none undef) V1
  rw [hap]
  clear hap hH hrun hscan hbS hsafe htm hde h0' h3 h7 h8 h9 htab8 hcz8 htab hone hsz hblk hsb hbV hblt h0 hbW hGW hsW
  have hith := Lib.hid hit
  have hjh := Lib.hid hj
  clear hit hj
  have hcb : b ≠ c := by obtain ⟨s, _, k, _⟩ := hith.out.ssb; exact k
  gi_wp2
  gi_loopw [4] (fun i wr => (i = .bool true ∧ ∃ (q : Nat) (pre : List (Lx.Tok × Int)), q ≤ x.size ∧ It c B b x cs W.heap.size q wr ∧ J pre wr ∧ pre ++ Lx.ys rkL mkL (x.data.toList.drop q) q = Lx.ys rkL mkL x.data.toList 0) ∨
      (i = .bool false ∧ (J (Lx.ys rkL mkL x.data.toList 0) wr ∨ ∃ pre, pre <+: Lx.ys rkL mkL x.data.toList 0 ∧ Jx pre wr))) (fun i wr => boolN i * (x.size + 1 - posOf b wr))
  case atStart => exact .inl ⟨rfl, 0, [], Nat.zero_le _, hith.out, hjh.out, by simp⟩
  case round =>
    rcases hrel with ⟨rfl, q, pre, hq, hit, hj, hpre⟩ | ⟨rfl, hfin⟩
    · obtain ⟨tk, er, q2, hnx, hq12, hq2, hcall⟩ := next_any x hm b q cs wr hit.scan hq hit.tab.x hit.sg hb0
      have hst := Lx.ys_step rkL mkL kinds (x.data.toList.drop q) q
      have hon := Lx.nx_on rkL mkL kinds (x.data.toList.drop q) q
      rw [hnx] at hst hon
      simp only at hst hon
      have hcallh := Lib.hid hcall
      have hith2 := Lib.hid hit
      have hjh2 := Lib.hid hj
      have hpreh := Lib.hid hpre
      have hsth := Lib.hid hst
      have honh := Lib.hid hon
      have hpos : posOf b wr = q := by unfold posOf; rw [hit.scan.c0]; simp [intOf]
      have hposh := Lib.hid hpos
      clear hcall hit hj hpre hst hon hnx hpos
      obtain ⟨tkk, tkt, tka⟩ := tk
      simp only [tokV] at hcallh
      gi_wp2
      refine ⟨trivial, hdd _, (callsIn_wide.2 hcallh.out).mono ?_⟩
      clear hcallh
      rintro e w2 ⟨rfl, hbut, hsc2⟩
      have hit2 := hith2.out.moved hbut hsc2 hb0
      have hj2 := hJch.out pre wr w2 b hjh2.out hWb hith2.out.ssb hbut
      have hbl := bel_laid w2 (.cells #[.int .u8 tkk, .string ⟨tkt.toArray⟩, .int .i64 tka] 27)
      have hit3 := hit2.below hL hbl
      have hj3 := hJh.out.alloc (.cells #[.int .u8 tkk, .string ⟨tkt.toArray⟩, .int .i64 tka] 27) hj2
      have hpx : List.map id (pre ++ [((⟨tkk, tkt, tka⟩ : Lx.Tok), er)]) <+: Lx.ys rkL mkL x.data.toList 0 := by
        rw [List.map_id, ← hpreh.out, hsth.out, List.prefix_append_right_inj]
        split
        · exact List.prefix_refl _
        · exact ⟨_, rfl⟩
      have hsf := hL.fr w2 (.cells #[.int .u8 tkk, .string ⟨tkt.toArray⟩, .int .i64 tka] 27) hit2.g
      have hcl := cell_new w2 #[.int .u8 tkk, .string ⟨tkt.toArray⟩, .int .i64 tka] 27 0
      obtain ⟨fn, tmps, assign, body, hy, hR⟩ := hYh.out (n - 1) pre (⟨tkk, tkt, tka⟩, er) _ hj3 hpx
      have hRh := Lib.hid hR
      have hit3h := Lib.hid hit3
      have hsfh := Lib.hid hsf
      have hclh := Lib.hid hcl
      clear hR hit3 hsf hcl hbl hj3 hj2 hit2 hbut hsc2 hjh2 hith2
      simp only [encs, tokV] at hy
      gi_wp2
      refine ⟨hdd _, hRh.out.mono ?_⟩
      clear hRh hy
      rintro e W2 (⟨rfl, hj4, hk4⟩ | ⟨rfl, hx4, -⟩)
      · have hit4 := hit3h.out.kept hL hz hk4
        have hc4 : W2.cell? ⟨w2.heap.size, 0, none⟩ = some (.int .u8 tkk) := hk4.1.2.1 _ _ _ hsfh.out (hclh.out.trans rfl)
        have hj4h := Lib.hid hj4
        have hit4h := Lib.hid hit4
        clear hj4 hit4 hk4 hit3h hsfh hclh
        by_cases h0 : er = 0
        · subst h0
          by_cases h5 : tkk = 5
          · subst h5
            gi_wp2
            refine ⟨.inr ⟨rfl, .inl ?_⟩, ?_⟩
            · have e := hpreh.out
              rw [hsth.out, if_pos (.inr trivial)] at e
              rw [← e]; exact hj4h.out
            · rw [hposh.out]; simp [boolN]; omega
          · have h5b : (tkk != 5) = true := by simpa using h5
            have h5c : (tkk == 5) = false := by simpa using h5
            have hst2 := hsth.out
            rw [if_neg (by simp; exact h5)] at hst2
            have hlt := honh.out rfl h5
            have hst2h := Lib.hid hst2
            have hqq : q < q2 := by
              rw [List.length_drop, List.length_drop] at hlt
              omega
            clear hst2 hlt
            gi_wp2
            refine ⟨.inl ⟨rfl, q2, pre ++ [(⟨tkk, tkt, tka⟩, 0)], hq2, hit4h.out, hj4h.out, ?_⟩, ?_⟩
            · rw [← hpreh.out, hst2h.out]; simp
            · have : posOf b W2 = q2 := by unfold posOf; rw [hit4h.out.scan.c0]; simp [intOf]
              rw [hposh.out, this]; simp [boolN]; omega
        · have h0b : (er == 0) = false := by simpa using h0
          gi_wp2
          refine ⟨.inr ⟨rfl, .inl ?_⟩, ?_⟩
          · have e := hpreh.out
            rw [hsth.out, if_pos (.inl h0)] at e
            rw [← e]; exact hj4h.out
          · rw [hposh.out]; simp [boolN]; omega
      · have hx4h := Lib.hid hx4
        have hpxh := Lib.hid hpx
        clear hx4 hpx hit3h hsfh hclh
        gi_wp2
        exact ⟨.inr ⟨rfl, .inr ⟨_, by simpa using hpxh.out, hx4h.out⟩⟩, by rw [hposh.out]; simp [boolN]; omega⟩
    · have hfh := Lib.hid hfin
      clear hfin
      gi_wp2
      go_end0
      refine ⟨⟨_, rfl⟩, ?_⟩
      rcases hfh.out with h | ⟨pre, h1, h2⟩
      · exact .inl ⟨_, by simp, h⟩
      · exact .inr ⟨pre, by simpa using h1, h2⟩
end Go.Proofs.YthkfkdcmnkkdhaaDoor
