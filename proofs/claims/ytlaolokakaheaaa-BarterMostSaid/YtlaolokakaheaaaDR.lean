/-
  What is asked of a stretch's worths, with the questions that the walk draws counted: lowest, worths, isAhead of package barter, and cmp.Compare. The land must lie in memory as told.
-/
import Derived.Test.YtlaolokakaheaaaAW
import Derived.Test.YtlaolokakaheaaaQX
namespace Go.Proofs.Ytlaolokakaheaaa
open Go.RowKit

set_option maxHeartbeats 1000000 in
theorem lowest_d (x y : Nat) (w : World) (hx : 1 ≤ x) (hx2 : x ≤ 100000000) (hy2 : y ≤ 100000000) :
    Calls Try.prog 56 #[.int .i64 (x : Int), .int .i64 (y : Int)] w fun e w' => e = .returned (.tuple #[.int .i64 ((x / Nat.gcd x y : Nat) : Int), .int .i64 ((y / Nat.gcd x y : Nat) : Int)]) ∧ Ext w w' ∧ Dw w w' := by
  go_enter Try.func56, Try.ntmps56
  go_wp2
  go_loopw [6, 7] (fun s r wr => ∃ p q : Nat, s = .int .i64 (p : Int) ∧ r = .int .i64 (q : Int) ∧ 1 ≤ p ∧ p ≤ 100000000 ∧ q ≤ 100000000 ∧ Hid (Nat.gcd p q = Nat.gcd x y) ∧ Hid (Ext w wr) ∧ Hid (Dw w wr)) (fun _ r _ => (intOf r).toNat)
  case atStart => exact ⟨x, y, rfl, rfl, hx, hx2, hy2, rfl, Ext.refl _, Dw.refl _⟩
  case round =>
    obtain ⟨wo, rfl⟩ : ∃ wo : World, wo = wr := ⟨_, rfl⟩
    obtain ⟨p, q, rfl, rfl, hp, hp2, hq2, HG, HX, HD⟩ := hrel
    by_cases hq : 0 < q
    · have dq : decide ((0 : Int) < (q : Int)) = true := decide_eq_true (by omega)
      have hm : Int.tmod (p : Int) (q : Int) = ((p % q : Nat) : Int) := rfl
      have hl : p % q < q := Nat.mod_lt _ hq
      have HG2 : Hid (Nat.gcd q (p % q) = Nat.gcd x y) := by show _ = _; rw [← HG.out, Nat.gcd_comm p q, Nat.gcd_rec q p, Nat.gcd_comm]
      generalize p % q = r at *
      go_wp2
      go_quiet (fail)
      go_wp2
      go_roundw
      case rel => exact ⟨q, r, rfl, rfl, by omega, by omega, by omega, HG2, HX.out.drewN _, HD.out.drewN _⟩
      case measure => simp [intOf]; omega
    · have dq : decide ((0 : Int) < (q : Int)) = false := decide_eq_false (by omega)
      have hq0 : q = 0 := by omega
      subst hq0
      have hg : x.gcd y = p := by rw [← HG.out, Nat.gcd_zero_right]
      have h1 : Int.tdiv (x : Int) (p : Int) = ((x / p : Nat) : Int) := rfl
      have h2 : Int.tdiv (y : Int) (p : Int) = ((y / p : Nat) : Int) := rfl
      have l1 : x / p ≤ 100000000 := Nat.le_trans (Nat.div_le_self _ _) hx2
      have l2 : y / p ≤ 100000000 := Nat.le_trans (Nat.div_le_self _ _) hy2
      have HP1 : Hid (x / x.gcd y = x / p) := by show _ = _; rw [hg]
      have HP2 : Hid (y / x.gcd y = y / p) := by show _ = _; rw [hg]
      clear HG hg
      generalize x / p = xp at *
      generalize y / p = yp at *
      go_wp2_with fail
      go_quiet (fail)
      go_wp2
      refine bodyPost_ret (results_tmp2 rfl _ _ _) rfl ?_
      refine ⟨?_, HX.out.drewN _, HD.out.drewN _⟩
      rw [HP1.out, HP2.out]
      rfl

theorem worths_d (x : Ld) (i : Nat) (w : World) (h : StL w x.s) (hi : i < x.s.l.length) (h1 : 1 ≤ (at' x.s.l i).n) (h2 : (at' x.s.l i).n ≤ 1000) (h3 : (at' x.s.l i).s ≤ 1000) :
    Calls Try.prog 61 #[x.val, .int .i64 (i : Int)] w fun e w' => e = .returned (.agg #[.int .i64 (lowN (at' x.s.l i) : Int), .int .i64 (lowS (at' x.s.l i) : Int)]) ∧ Ext w w' ∧ Dw w w' := by
  obtain ⟨q1, q2⟩ := h.le
  obtain ⟨b, off, ha, c0, c1, c2, c3⟩ := h.cells hi
  have HL : Hid (∀ W : World, Calls Try.prog 56 #[.int .i64 ((at' x.s.l i).n : Int), .int .i64 ((at' x.s.l i).s : Int)] W fun e w' => e = .returned (.tuple #[.int .i64 (lowN (at' x.s.l i) : Int), .int .i64 (lowS (at' x.s.l i) : Int)]) ∧ Ext W w' ∧ Dw W w') := fun W => lowest_d (at' x.s.l i).n (at' x.s.l i).s W h1 (by omega) (by omega)
  have i1 : (0 : Int) ≤ i := by omega
  have i2 : (i : Int) < (x.s.l.length : Int) := by omega
  clear h
  obtain ⟨⟨a, c, l⟩, ⟨va, vc, vl⟩⟩ := x
  dsimp only at *
  subst ha
  have l3 := lt_of_cell c3
  dsimp only at l3
  generalize lowN (at' l i) = ln at *
  generalize lowS (at' l i) = ls at *
  go_enter Try.func61, Try.ntmps61
  go_wp2_with (go_at_call 56; refine (HL.out _).mono ?_; rintro e w1 ⟨rfl, hx1, hd1⟩; have HD1 := Lib.hid hd1; clear hd1; have hb := blk_mid hx1; obtain ⟨d0, d1, f0, f1⟩ := blk_cells hb; have HB1 := Lib.hid hb; have HX1 := Lib.hid hx1; clear hx1 hb)
  have hb := heap_setCell_same (i := 1) (heap_setCell_same (i := 0) HB1.out (.int .i64 (ln : Int))) (.int .i64 (ls : Int))
  refine bodyPost_ret (results_cell_row rfl _ _ (w.heap.size + 1) 68 _ (0, 0) _ rfl hb Try.underlying68 rfl (by kernel_rfl)) rfl ?_
  exact ⟨rfl, (((((((Ext.refl w).alloc _).alloc _).alloc _).trans HX1.out)).setCell (by simp only []; omega) _).setCell (by simp only []; omega) _, HD1.out⟩
/-- Two pairs lie in blocks of one's own. -/
structure TwoPd (w : World) (A B : Nat) (p q r s : Nat) (V : World) : Prop where
  x : Ext w V
  d : Dw w V
  a : V.heap[A]? = some (.cells #[.int .i64 (p : Int), .int .i64 (q : Int)] 68 (0, 0))
  b : V.heap[B]? = some (.cells #[.int .i64 (r : Int), .int .i64 (s : Int)] 68 (0, 0))

set_option maxRecDepth 100000 in
set_option maxHeartbeats 2000000 in
theorem isAhead_d (x : Ld) (i j : Nat) (w : World) (h : StL w x.s) (hi : i < x.s.l.length) (hj : j < x.s.l.length) (h1 : Wr (at' x.s.l i)) (h2 : Wr (at' x.s.l j)) :
    Calls Try.prog 62 #[x.val, .int .i64 (i : Int), .int .i64 (j : Int)] w fun e w' => e = .returned (.bool (aheadF (at' x.s.l i) (at' x.s.l j))) ∧ Ext w w' ∧ Dw w w' := by
  have HI := Lib.hid (fun (V : World) (k : Ext w V) => worths_d x i V (h.ext k) hi h1.n1 h1.n2 h1.s2)
  have HJ := Lib.hid (fun (V : World) (k : Ext w V) => worths_d x j V (h.ext k) hj h2.n1 h2.n2 h2.s2)
  have l1 : lowN (at' x.s.l i) ≤ 1000 := Nat.le_trans (Nat.div_le_self _ _) h1.n2
  have l2 : lowS (at' x.s.l i) ≤ 1000 := Nat.le_trans (Nat.div_le_self _ _) h1.s2
  have l3 : lowN (at' x.s.l j) ≤ 1000 := Nat.le_trans (Nat.div_le_self _ _) h2.n2
  have l4 : lowS (at' x.s.l j) ≤ 1000 := Nat.le_trans (Nat.div_le_self _ _) h2.s2
  have HF : Hid (aheadF (at' x.s.l i) (at' x.s.l j) = decide (lowS (at' x.s.l i) * lowN (at' x.s.l j) < lowN (at' x.s.l i) * lowS (at' x.s.l j))) := rfl
  clear h hi hj h1 h2
  obtain ⟨⟨a, c, l⟩, ⟨va, vc, vl⟩⟩ := x
  dsimp only at *
  generalize aheadF (at' l i) (at' l j) = z at *
  generalize lowN (at' l i) = p at *
  generalize lowS (at' l i) = q at *
  generalize lowN (at' l j) = r at *
  generalize lowS (at' l j) = s at *
  have HX0 : Hid (Ext w (w.alloc (.cells #[.slice a l.length c, .slice va vl.length vc] 26))) := (Ext.refl w).alloc _
  have HL0 : Hid (∀ V, Ext (w.alloc (.cells #[.slice a l.length c, .slice va vl.length vc] 26)) V → V.cell? ⟨w.heap.size, 0, none⟩ = some (.slice a l.length c) ∧ V.cell? ⟨w.heap.size, 1, none⟩ = some (.slice va vl.length vc)) := fun V k => ⟨cell_at (k.block (alloc_new rfl)) 0, cell_at (k.block (alloc_new rfl)) 1⟩
  have HD0 : Hid (Dw w (w.alloc (.cells #[.slice a l.length c, .slice va vl.length vc] 26))) := Dw.refl _
  go_enter Try.func62, Try.ntmps62
  go_upto_region 1 with (fail)
  generalize w.alloc (.cells #[.slice a l.length c, .slice va vl.length vc] 26) = W1 at *
  go_cut [7, 8] (fun s7 s8 wx => ∃ A B, s7 = .pointer (some ⟨A, 0, none⟩) ∧ s8 = .pointer (some ⟨B, 0, none⟩) ∧ Hid (TwoPd w A B p q r s wx))
  case first =>
    rename_i J' K'' hJ hM
    have H0 : Hid (Mm W1 [] [] W1.drew) := Mm.start.ext (Ext.refl W1).drew
    have D0 : Hid (Dw W1 W1.drew) := Nat.le_succ _
    refine wp_region_noPanic ?_
    refine wp_region_last [] (fun v => v.cell? ⟨w.heap.size, 0, none⟩ = some (.slice a l.length c) ∧ v.cell? ⟨w.heap.size, 1, none⟩ = some (.slice va vl.length vc)) (by kernel_rfl) (HL0.out _ H0.out.to_ext) (fun hHeld => ?_)
    generalize W1.drew = V0 at *
    refine wpAnyF_take [2, 5, 8, 9] (i := 0) (v := ?_) rfl (by kernel_rfl) (by kernel_rfl) (by kernel_rfl) (by kernel_rfl) (fun _ _ _ h => h) (Or.inl ⟨by rfl, ?_⟩) (by assumption) ?_
    rotate_left
    · intro wS hSw
      (try dsimp only at hSw)
      go_simp
      try with_reducible rfl
    try simp only [Act.put, List.setIfInBounds_toArray]
    refine wpAnyF_take [2, 5, 8, 9] (i := 1) (v := ?_) rfl (by kernel_rfl) (by kernel_rfl) (by kernel_rfl) (by kernel_rfl) (fun _ _ _ h => h) (Or.inl ⟨by rfl, ?_⟩) (by assumption) ?_
    rotate_left
    · intro wS hSw
      (try dsimp only at hSw)
      go_simp
      try with_reducible rfl
    try simp only [Act.put]
    refine wpAnyF_take [5, 8, 9] (i := 3) (v := ?_) rfl (by kernel_rfl) (by kernel_rfl) (by kernel_rfl) (by kernel_rfl) (fun _ _ _ h => h) (Or.inl ⟨by rfl, ?_⟩) (by assumption) ?_
    rotate_left
    · intro wS hSw
      (try dsimp only at hSw)
      go_simp
      try with_reducible rfl
    try simp only [Act.put]
    refine wpAnyF_take [5, 8, 9] (i := 4) (v := ?_) rfl (by kernel_rfl) (by kernel_rfl) (by kernel_rfl) (by kernel_rfl) (fun _ _ _ h => h) (Or.inl ⟨by rfl, ?_⟩) (by assumption) ?_
    rotate_left
    · intro wS hSw
      (try dsimp only at hSw)
      go_simp
      try with_reducible rfl
    try simp only [Act.put]
    refine wpAnyF_ready (rs := [2, 6, 7]) (by kernel_rfl) rfl (AllReadyF.cons rfl (fun K hK => ?_) (AllReadyF.cons rfl (fun K hK => ?_) (AllReadyF.cons rfl (fun K hK => ?_) AllReadyF.nil)))
    · -- 2
      go_simp
      go_at_call 61
      refine (HI.out _ (HX0.out.trans H0.out.to_ext)).mono ?_
      rintro e V1 ⟨rfl, hx, hd⟩
      have H2 := Lib.hid (H0.out.ext hx)
      have D2 : Hid (Dw W1 V1) := Dw.trans D0.out hd
      clear H0 hx D0 hd
      refine hK.out _ _ (HL0.out _ H2.out.to_ext) (fun hHeld => ?_)
      clear hK K
      try simp only [Act.put, List.setIfInBounds_toArray, List.set_cons_zero, List.set_cons_succ]
      refine wpAnyF_ready (rs := [5, 6, 7]) (by kernel_rfl) rfl (AllReadyF.cons rfl (fun K hK => ?_) (AllReadyF.cons rfl (fun K hK => ?_) (AllReadyF.cons rfl (fun K hK => ?_) AllReadyF.nil)))
      · -- 5
        go_simp
        go_at_call 61
        refine (HJ.out _ (HX0.out.trans H2.out.to_ext)).mono ?_
        rintro e V3 ⟨rfl, hx, hd⟩
        have H4 := Lib.hid (H2.out.ext hx)
        have D4 : Hid (Dw W1 V3) := Dw.trans D2.out hd
        clear H2 hx D2 hd
        refine hK.out _ _ (HL0.out _ H4.out.to_ext) (fun hHeld => ?_)
        clear hK K
        try simp only [Act.put, List.setIfInBounds_toArray, List.set_cons_zero, List.set_cons_succ]
        refine wpAnyF_ready (rs := [6, 7]) (by kernel_rfl) rfl (AllReadyF.cons rfl (fun K hK => ?_) (AllReadyF.cons rfl (fun K hK => ?_) AllReadyF.nil))
        · -- 6
          go_simp
          have H6 := Lib.hid (H4.out.new (.cells #[.int .i64 0, .int .i64 0] 68))
          have D6 : Hid (Dw W1 (V3.alloc (.cells #[.int .i64 0, .int .i64 0] 68))) := D4.out
          clear H4 D4
          generalize hz : V3.heap.size = A at *
          clear hz
          generalize hw : V3.alloc _ = V5 at *
          clear hw
          refine hK.out _ _ (HL0.out _ H6.out.to_ext) (fun hHeld => ?_)
          clear hK K
          try simp only [Act.put, List.setIfInBounds_toArray, List.set_cons_zero, List.set_cons_succ]
          refine wpAnyF_ready (rs := [7]) (by kernel_rfl) rfl (AllReadyF.cons rfl (fun K hK => ?_) AllReadyF.nil)
          go_simp
          have H8 := Lib.hid (H6.out.new (.cells #[.int .i64 0, .int .i64 0] 68))
          have D8 : Hid (Dw W1 (V5.alloc (.cells #[.int .i64 0, .int .i64 0] 68))) := D6.out
          clear H6 D6
          generalize hz : V5.heap.size = B at *
          clear hz
          generalize hw : V5.alloc _ = V7 at *
          clear hw
          refine hK.out _ _ (HL0.out _ H8.out.to_ext) (fun hHeld => ?_)
          clear hK K
          try simp only [Act.put, List.setIfInBounds_toArray, List.set_cons_zero, List.set_cons_succ]
          refine wpAnyF_ready (rs := [8]) (by kernel_rfl) rfl (AllReadyF.cons rfl (fun K hK => ?_) AllReadyF.nil)
          have y0 := H8.out.cell 0 (j := 0) rfl rfl
          have y1 := H8.out.cell 0 (j := 1) rfl rfl
          have z0 := H8.out.frozen 0 (j := 0) rfl
          have z1 := H8.out.frozen 0 (j := 1) rfl
          go_simp
          have H10 := Lib.hid ((H8.out.cellPut (j := 0) 0 rfl (.int .i64 (p : Int))).cellPut (j := 1) 0 rfl (.int .i64 (q : Int)))
          have D10 : Hid (Dw W1 ((V7.setCell ⟨A, 0, none⟩ (.int .i64 (p : Int))).setCell ⟨A, 1, none⟩ (.int .i64 (q : Int)))) := D8.out
          clear H8 y0 y1 z0 z1 D8
          generalize (V7.setCell ⟨A, 0, none⟩ (.int .i64 (p : Int))).setCell ⟨A, 1, none⟩ (.int .i64 (q : Int)) = V9 at *
          refine hK.out _ _ (HL0.out _ H10.out.to_ext) (fun hHeld => ?_)
          clear hK K
          try simp only [Act.put, List.setIfInBounds_toArray, List.set_cons_zero, List.set_cons_succ]
          refine wpAnyF_ready (rs := [9]) (by kernel_rfl) rfl (AllReadyF.cons rfl (fun K hK => ?_) AllReadyF.nil)
          have y0 := H10.out.cell 1 (j := 0) rfl rfl
          have y1 := H10.out.cell 1 (j := 1) rfl rfl
          have z0 := H10.out.frozen 1 (j := 0) rfl
          have z1 := H10.out.frozen 1 (j := 1) rfl
          go_simp
          have H12 := Lib.hid ((H10.out.cellPut (j := 0) 1 rfl (.int .i64 (r : Int))).cellPut (j := 1) 1 rfl (.int .i64 (s : Int)))
          have D12 : Hid (Dw W1 ((V9.setCell ⟨B, 0, none⟩ (.int .i64 (r : Int))).setCell ⟨B, 1, none⟩ (.int .i64 (s : Int)))) := D10.out
          clear H10 y0 y1 z0 z1 D10
          generalize (V9.setCell ⟨B, 0, none⟩ (.int .i64 (r : Int))).setCell ⟨B, 1, none⟩ (.int .i64 (s : Int)) = V11 at *
          refine hK.out _ _ (HL0.out _ H12.out.to_ext) (fun hHeld => ?_)
          clear hK K
          try simp only [Act.put, List.setIfInBounds_toArray, List.set_cons_zero, List.set_cons_succ]
          refine wpAnyF_done (by kernel_rfl) ?_
          refine hM _ _ (Met.intro (hJ _ _ ?_))
          (repeat apply Exists.intro)
          refine ⟨?rel, rfl⟩
          case rel => exact ⟨A, B, rfl, rfl, HX0.out.trans H12.out.to_ext, Dw.trans HD0.out D12.out, H12.out.heap 0 rfl, H12.out.heap 1 rfl⟩
        · -- 7
          go_simp
          have H6 := Lib.hid (H4.out.new (.cells #[.int .i64 0, .int .i64 0] 68))
          have D6 : Hid (Dw W1 (V3.alloc (.cells #[.int .i64 0, .int .i64 0] 68))) := D4.out
          clear H4 D4
          generalize hz : V3.heap.size = B at *
          clear hz
          generalize hw : V3.alloc _ = V5 at *
          clear hw
          refine hK.out _ _ (HL0.out _ H6.out.to_ext) (fun hHeld => ?_)
          clear hK K
          try simp only [Act.put, List.setIfInBounds_toArray, List.set_cons_zero, List.set_cons_succ]
          refine wpAnyF_ready (rs := [6]) (by kernel_rfl) rfl (AllReadyF.cons rfl (fun K hK => ?_) AllReadyF.nil)
          go_simp
          have H8 := Lib.hid (H6.out.new (.cells #[.int .i64 0, .int .i64 0] 68))
          have D8 : Hid (Dw W1 (V5.alloc (.cells #[.int .i64 0, .int .i64 0] 68))) := D6.out
          clear H6 D6
          generalize hz : V5.heap.size = A at *
          clear hz
          generalize hw : V5.alloc _ = V7 at *
          clear hw
          refine hK.out _ _ (HL0.out _ H8.out.to_ext) (fun hHeld => ?_)
          clear hK K
          try simp only [Act.put, List.setIfInBounds_toArray, List.set_cons_zero, List.set_cons_succ]
          refine wpAnyF_ready (rs := [8]) (by kernel_rfl) rfl (AllReadyF.cons rfl (fun K hK => ?_) AllReadyF.nil)
          have y0 := H8.out.cell 1 (j := 0) rfl rfl
          have y1 := H8.out.cell 1 (j := 1) rfl rfl
          have z0 := H8.out.frozen 1 (j := 0) rfl
          have z1 := H8.out.frozen 1 (j := 1) rfl
          go_simp
          have H10 := Lib.hid ((H8.out.cellPut (j := 0) 1 rfl (.int .i64 (p : Int))).cellPut (j := 1) 1 rfl (.int .i64 (q : Int)))
          have D10 : Hid (Dw W1 ((V7.setCell ⟨A, 0, none⟩ (.int .i64 (p : Int))).setCell ⟨A, 1, none⟩ (.int .i64 (q : Int)))) := D8.out
          clear H8 y0 y1 z0 z1 D8
          generalize (V7.setCell ⟨A, 0, none⟩ (.int .i64 (p : Int))).setCell ⟨A, 1, none⟩ (.int .i64 (q : Int)) = V9 at *
          refine hK.out _ _ (HL0.out _ H10.out.to_ext) (fun hHeld => ?_)
          clear hK K
          try simp only [Act.put, List.setIfInBounds_toArray, List.set_cons_zero, List.set_cons_succ]
          refine wpAnyF_ready (rs := [9]) (by kernel_rfl) rfl (AllReadyF.cons rfl (fun K hK => ?_) AllReadyF.nil)
          have y0 := H10.out.cell 0 (j := 0) rfl rfl
          have y1 := H10.out.cell 0 (j := 1) rfl rfl
          have z0 := H10.out.frozen 0 (j := 0) rfl
          have z1 := H10.out.frozen 0 (j := 1) rfl
          go_simp
          have H12 := Lib.hid ((H10.out.cellPut (j := 0) 0 rfl (.int .i64 (r : Int))).cellPut (j := 1) 0 rfl (.int .i64 (s : Int)))
          have D12 : Hid (Dw W1 ((V9.setCell ⟨B, 0, none⟩ (.int .i64 (r : Int))).setCell ⟨B, 1, none⟩ (.int .i64 (s : Int)))) := D10.out
          clear H10 y0 y1 z0 z1 D10
          generalize (V9.setCell ⟨B, 0, none⟩ (.int .i64 (r : Int))).setCell ⟨B, 1, none⟩ (.int .i64 (s : Int)) = V11 at *
          refine hK.out _ _ (HL0.out _ H12.out.to_ext) (fun hHeld => ?_)
          clear hK K
          try simp only [Act.put, List.setIfInBounds_toArray, List.set_cons_zero, List.set_cons_succ]
          refine wpAnyF_done (by kernel_rfl) ?_
          refine hM _ _ (Met.intro (hJ _ _ ?_))
          (repeat apply Exists.intro)
          refine ⟨?rel, rfl⟩
          case rel => exact ⟨A, B, rfl, rfl, HX0.out.trans H12.out.to_ext, Dw.trans HD0.out D12.out, H12.out.heap 1 rfl, H12.out.heap 0 rfl⟩
      · -- 6
        go_simp
        have H4 := Lib.hid (H2.out.new (.cells #[.int .i64 0, .int .i64 0] 68))
        have D4 : Hid (Dw W1 (V1.alloc (.cells #[.int .i64 0, .int .i64 0] 68))) := D2.out
        clear H2 D2
        generalize hz : V1.heap.size = A at *
        clear hz
        generalize hw : V1.alloc _ = V3 at *
        clear hw
        refine hK.out _ _ (HL0.out _ H4.out.to_ext) (fun hHeld => ?_)
        clear hK K
        try simp only [Act.put, List.setIfInBounds_toArray, List.set_cons_zero, List.set_cons_succ]
        refine wpAnyF_ready (rs := [5, 7]) (by kernel_rfl) rfl (AllReadyF.cons rfl (fun K hK => ?_) (AllReadyF.cons rfl (fun K hK => ?_) AllReadyF.nil))
        · -- 5
          go_simp
          go_at_call 61
          refine (HJ.out _ (HX0.out.trans H4.out.to_ext)).mono ?_
          rintro e V5 ⟨rfl, hx, hd⟩
          have H6 := Lib.hid (H4.out.ext hx)
          have D6 : Hid (Dw W1 V5) := Dw.trans D4.out hd
          clear H4 hx D4 hd
          refine hK.out _ _ (HL0.out _ H6.out.to_ext) (fun hHeld => ?_)
          clear hK K
          try simp only [Act.put, List.setIfInBounds_toArray, List.set_cons_zero, List.set_cons_succ]
          refine wpAnyF_ready (rs := [7]) (by kernel_rfl) rfl (AllReadyF.cons rfl (fun K hK => ?_) AllReadyF.nil)
          go_simp
          have H8 := Lib.hid (H6.out.new (.cells #[.int .i64 0, .int .i64 0] 68))
          have D8 : Hid (Dw W1 (V5.alloc (.cells #[.int .i64 0, .int .i64 0] 68))) := D6.out
          clear H6 D6
          generalize hz : V5.heap.size = B at *
          clear hz
          generalize hw : V5.alloc _ = V7 at *
          clear hw
          refine hK.out _ _ (HL0.out _ H8.out.to_ext) (fun hHeld => ?_)
          clear hK K
          try simp only [Act.put, List.setIfInBounds_toArray, List.set_cons_zero, List.set_cons_succ]
          refine wpAnyF_ready (rs := [8]) (by kernel_rfl) rfl (AllReadyF.cons rfl (fun K hK => ?_) AllReadyF.nil)
          have y0 := H8.out.cell 0 (j := 0) rfl rfl
          have y1 := H8.out.cell 0 (j := 1) rfl rfl
          have z0 := H8.out.frozen 0 (j := 0) rfl
          have z1 := H8.out.frozen 0 (j := 1) rfl
          go_simp
          have H10 := Lib.hid ((H8.out.cellPut (j := 0) 0 rfl (.int .i64 (p : Int))).cellPut (j := 1) 0 rfl (.int .i64 (q : Int)))
          have D10 : Hid (Dw W1 ((V7.setCell ⟨A, 0, none⟩ (.int .i64 (p : Int))).setCell ⟨A, 1, none⟩ (.int .i64 (q : Int)))) := D8.out
          clear H8 y0 y1 z0 z1 D8
          generalize (V7.setCell ⟨A, 0, none⟩ (.int .i64 (p : Int))).setCell ⟨A, 1, none⟩ (.int .i64 (q : Int)) = V9 at *
          refine hK.out _ _ (HL0.out _ H10.out.to_ext) (fun hHeld => ?_)
          clear hK K
          try simp only [Act.put, List.setIfInBounds_toArray, List.set_cons_zero, List.set_cons_succ]
          refine wpAnyF_ready (rs := [9]) (by kernel_rfl) rfl (AllReadyF.cons rfl (fun K hK => ?_) AllReadyF.nil)
          have y0 := H10.out.cell 1 (j := 0) rfl rfl
          have y1 := H10.out.cell 1 (j := 1) rfl rfl
          have z0 := H10.out.frozen 1 (j := 0) rfl
          have z1 := H10.out.frozen 1 (j := 1) rfl
          go_simp
          have H12 := Lib.hid ((H10.out.cellPut (j := 0) 1 rfl (.int .i64 (r : Int))).cellPut (j := 1) 1 rfl (.int .i64 (s : Int)))
          have D12 : Hid (Dw W1 ((V9.setCell ⟨B, 0, none⟩ (.int .i64 (r : Int))).setCell ⟨B, 1, none⟩ (.int .i64 (s : Int)))) := D10.out
          clear H10 y0 y1 z0 z1 D10
          generalize (V9.setCell ⟨B, 0, none⟩ (.int .i64 (r : Int))).setCell ⟨B, 1, none⟩ (.int .i64 (s : Int)) = V11 at *
          refine hK.out _ _ (HL0.out _ H12.out.to_ext) (fun hHeld => ?_)
          clear hK K
          try simp only [Act.put, List.setIfInBounds_toArray, List.set_cons_zero, List.set_cons_succ]
          refine wpAnyF_done (by kernel_rfl) ?_
          refine hM _ _ (Met.intro (hJ _ _ ?_))
          (repeat apply Exists.intro)
          refine ⟨?rel, rfl⟩
          case rel => exact ⟨A, B, rfl, rfl, HX0.out.trans H12.out.to_ext, Dw.trans HD0.out D12.out, H12.out.heap 0 rfl, H12.out.heap 1 rfl⟩
        · -- 7
          go_simp
          have H6 := Lib.hid (H4.out.new (.cells #[.int .i64 0, .int .i64 0] 68))
          have D6 : Hid (Dw W1 (V3.alloc (.cells #[.int .i64 0, .int .i64 0] 68))) := D4.out
          clear H4 D4
          generalize hz : V3.heap.size = B at *
          clear hz
          generalize hw : V3.alloc _ = V5 at *
          clear hw
          refine hK.out _ _ (HL0.out _ H6.out.to_ext) (fun hHeld => ?_)
          clear hK K
          try simp only [Act.put, List.setIfInBounds_toArray, List.set_cons_zero, List.set_cons_succ]
          refine wpAnyF_ready (rs := [5]) (by kernel_rfl) rfl (AllReadyF.cons rfl (fun K hK => ?_) AllReadyF.nil)
          go_simp
          go_at_call 61
          refine (HJ.out _ (HX0.out.trans H6.out.to_ext)).mono ?_
          rintro e V7 ⟨rfl, hx, hd⟩
          have H8 := Lib.hid (H6.out.ext hx)
          have D8 : Hid (Dw W1 V7) := Dw.trans D6.out hd
          clear H6 hx D6 hd
          refine hK.out _ _ (HL0.out _ H8.out.to_ext) (fun hHeld => ?_)
          clear hK K
          try simp only [Act.put, List.setIfInBounds_toArray, List.set_cons_zero, List.set_cons_succ]
          refine wpAnyF_ready (rs := [8]) (by kernel_rfl) rfl (AllReadyF.cons rfl (fun K hK => ?_) AllReadyF.nil)
          have y0 := H8.out.cell 0 (j := 0) rfl rfl
          have y1 := H8.out.cell 0 (j := 1) rfl rfl
          have z0 := H8.out.frozen 0 (j := 0) rfl
          have z1 := H8.out.frozen 0 (j := 1) rfl
          go_simp
          have H10 := Lib.hid ((H8.out.cellPut (j := 0) 0 rfl (.int .i64 (p : Int))).cellPut (j := 1) 0 rfl (.int .i64 (q : Int)))
          have D10 : Hid (Dw W1 ((V7.setCell ⟨A, 0, none⟩ (.int .i64 (p : Int))).setCell ⟨A, 1, none⟩ (.int .i64 (q : Int)))) := D8.out
          clear H8 y0 y1 z0 z1 D8
          generalize (V7.setCell ⟨A, 0, none⟩ (.int .i64 (p : Int))).setCell ⟨A, 1, none⟩ (.int .i64 (q : Int)) = V9 at *
          refine hK.out _ _ (HL0.out _ H10.out.to_ext) (fun hHeld => ?_)
          clear hK K
          try simp only [Act.put, List.setIfInBounds_toArray, List.set_cons_zero, List.set_cons_succ]
          refine wpAnyF_ready (rs := [9]) (by kernel_rfl) rfl (AllReadyF.cons rfl (fun K hK => ?_) AllReadyF.nil)
          have y0 := H10.out.cell 1 (j := 0) rfl rfl
          have y1 := H10.out.cell 1 (j := 1) rfl rfl
          have z0 := H10.out.frozen 1 (j := 0) rfl
          have z1 := H10.out.frozen 1 (j := 1) rfl
          go_simp
          have H12 := Lib.hid ((H10.out.cellPut (j := 0) 1 rfl (.int .i64 (r : Int))).cellPut (j := 1) 1 rfl (.int .i64 (s : Int)))
          have D12 : Hid (Dw W1 ((V9.setCell ⟨B, 0, none⟩ (.int .i64 (r : Int))).setCell ⟨B, 1, none⟩ (.int .i64 (s : Int)))) := D10.out
          clear H10 y0 y1 z0 z1 D10
          generalize (V9.setCell ⟨B, 0, none⟩ (.int .i64 (r : Int))).setCell ⟨B, 1, none⟩ (.int .i64 (s : Int)) = V11 at *
          refine hK.out _ _ (HL0.out _ H12.out.to_ext) (fun hHeld => ?_)
          clear hK K
          try simp only [Act.put, List.setIfInBounds_toArray, List.set_cons_zero, List.set_cons_succ]
          refine wpAnyF_done (by kernel_rfl) ?_
          refine hM _ _ (Met.intro (hJ _ _ ?_))
          (repeat apply Exists.intro)
          refine ⟨?rel, rfl⟩
          case rel => exact ⟨A, B, rfl, rfl, HX0.out.trans H12.out.to_ext, Dw.trans HD0.out D12.out, H12.out.heap 0 rfl, H12.out.heap 1 rfl⟩
      · -- 7
        go_simp
        have H4 := Lib.hid (H2.out.new (.cells #[.int .i64 0, .int .i64 0] 68))
        have D4 : Hid (Dw W1 (V1.alloc (.cells #[.int .i64 0, .int .i64 0] 68))) := D2.out
        clear H2 D2
        generalize hz : V1.heap.size = B at *
        clear hz
        generalize hw : V1.alloc _ = V3 at *
        clear hw
        refine hK.out _ _ (HL0.out _ H4.out.to_ext) (fun hHeld => ?_)
        clear hK K
        try simp only [Act.put, List.setIfInBounds_toArray, List.set_cons_zero, List.set_cons_succ]
        refine wpAnyF_ready (rs := [5, 6]) (by kernel_rfl) rfl (AllReadyF.cons rfl (fun K hK => ?_) (AllReadyF.cons rfl (fun K hK => ?_) AllReadyF.nil))
        · -- 5
          go_simp
          go_at_call 61
          refine (HJ.out _ (HX0.out.trans H4.out.to_ext)).mono ?_
          rintro e V5 ⟨rfl, hx, hd⟩
          have H6 := Lib.hid (H4.out.ext hx)
          have D6 : Hid (Dw W1 V5) := Dw.trans D4.out hd
          clear H4 hx D4 hd
          refine hK.out _ _ (HL0.out _ H6.out.to_ext) (fun hHeld => ?_)
          clear hK K
          try simp only [Act.put, List.setIfInBounds_toArray, List.set_cons_zero, List.set_cons_succ]
          refine wpAnyF_ready (rs := [6]) (by kernel_rfl) rfl (AllReadyF.cons rfl (fun K hK => ?_) AllReadyF.nil)
          go_simp
          have H8 := Lib.hid (H6.out.new (.cells #[.int .i64 0, .int .i64 0] 68))
          have D8 : Hid (Dw W1 (V5.alloc (.cells #[.int .i64 0, .int .i64 0] 68))) := D6.out
          clear H6 D6
          generalize hz : V5.heap.size = A at *
          clear hz
          generalize hw : V5.alloc _ = V7 at *
          clear hw
          refine hK.out _ _ (HL0.out _ H8.out.to_ext) (fun hHeld => ?_)
          clear hK K
          try simp only [Act.put, List.setIfInBounds_toArray, List.set_cons_zero, List.set_cons_succ]
          refine wpAnyF_ready (rs := [8]) (by kernel_rfl) rfl (AllReadyF.cons rfl (fun K hK => ?_) AllReadyF.nil)
          have y0 := H8.out.cell 1 (j := 0) rfl rfl
          have y1 := H8.out.cell 1 (j := 1) rfl rfl
          have z0 := H8.out.frozen 1 (j := 0) rfl
          have z1 := H8.out.frozen 1 (j := 1) rfl
          go_simp
          have H10 := Lib.hid ((H8.out.cellPut (j := 0) 1 rfl (.int .i64 (p : Int))).cellPut (j := 1) 1 rfl (.int .i64 (q : Int)))
          have D10 : Hid (Dw W1 ((V7.setCell ⟨A, 0, none⟩ (.int .i64 (p : Int))).setCell ⟨A, 1, none⟩ (.int .i64 (q : Int)))) := D8.out
          clear H8 y0 y1 z0 z1 D8
          generalize (V7.setCell ⟨A, 0, none⟩ (.int .i64 (p : Int))).setCell ⟨A, 1, none⟩ (.int .i64 (q : Int)) = V9 at *
          refine hK.out _ _ (HL0.out _ H10.out.to_ext) (fun hHeld => ?_)
          clear hK K
          try simp only [Act.put, List.setIfInBounds_toArray, List.set_cons_zero, List.set_cons_succ]
          refine wpAnyF_ready (rs := [9]) (by kernel_rfl) rfl (AllReadyF.cons rfl (fun K hK => ?_) AllReadyF.nil)
          have y0 := H10.out.cell 0 (j := 0) rfl rfl
          have y1 := H10.out.cell 0 (j := 1) rfl rfl
          have z0 := H10.out.frozen 0 (j := 0) rfl
          have z1 := H10.out.frozen 0 (j := 1) rfl
          go_simp
          have H12 := Lib.hid ((H10.out.cellPut (j := 0) 0 rfl (.int .i64 (r : Int))).cellPut (j := 1) 0 rfl (.int .i64 (s : Int)))
          have D12 : Hid (Dw W1 ((V9.setCell ⟨B, 0, none⟩ (.int .i64 (r : Int))).setCell ⟨B, 1, none⟩ (.int .i64 (s : Int)))) := D10.out
          clear H10 y0 y1 z0 z1 D10
          generalize (V9.setCell ⟨B, 0, none⟩ (.int .i64 (r : Int))).setCell ⟨B, 1, none⟩ (.int .i64 (s : Int)) = V11 at *
          refine hK.out _ _ (HL0.out _ H12.out.to_ext) (fun hHeld => ?_)
          clear hK K
          try simp only [Act.put, List.setIfInBounds_toArray, List.set_cons_zero, List.set_cons_succ]
          refine wpAnyF_done (by kernel_rfl) ?_
          refine hM _ _ (Met.intro (hJ _ _ ?_))
          (repeat apply Exists.intro)
          refine ⟨?rel, rfl⟩
          case rel => exact ⟨A, B, rfl, rfl, HX0.out.trans H12.out.to_ext, Dw.trans HD0.out D12.out, H12.out.heap 1 rfl, H12.out.heap 0 rfl⟩
        · -- 6
          go_simp
          have H6 := Lib.hid (H4.out.new (.cells #[.int .i64 0, .int .i64 0] 68))
          have D6 : Hid (Dw W1 (V3.alloc (.cells #[.int .i64 0, .int .i64 0] 68))) := D4.out
          clear H4 D4
          generalize hz : V3.heap.size = A at *
          clear hz
          generalize hw : V3.alloc _ = V5 at *
          clear hw
          refine hK.out _ _ (HL0.out _ H6.out.to_ext) (fun hHeld => ?_)
          clear hK K
          try simp only [Act.put, List.setIfInBounds_toArray, List.set_cons_zero, List.set_cons_succ]
          refine wpAnyF_ready (rs := [5]) (by kernel_rfl) rfl (AllReadyF.cons rfl (fun K hK => ?_) AllReadyF.nil)
          go_simp
          go_at_call 61
          refine (HJ.out _ (HX0.out.trans H6.out.to_ext)).mono ?_
          rintro e V7 ⟨rfl, hx, hd⟩
          have H8 := Lib.hid (H6.out.ext hx)
          have D8 : Hid (Dw W1 V7) := Dw.trans D6.out hd
          clear H6 hx D6 hd
          refine hK.out _ _ (HL0.out _ H8.out.to_ext) (fun hHeld => ?_)
          clear hK K
          try simp only [Act.put, List.setIfInBounds_toArray, List.set_cons_zero, List.set_cons_succ]
          refine wpAnyF_ready (rs := [8]) (by kernel_rfl) rfl (AllReadyF.cons rfl (fun K hK => ?_) AllReadyF.nil)
          have y0 := H8.out.cell 1 (j := 0) rfl rfl
          have y1 := H8.out.cell 1 (j := 1) rfl rfl
          have z0 := H8.out.frozen 1 (j := 0) rfl
          have z1 := H8.out.frozen 1 (j := 1) rfl
          go_simp
          have H10 := Lib.hid ((H8.out.cellPut (j := 0) 1 rfl (.int .i64 (p : Int))).cellPut (j := 1) 1 rfl (.int .i64 (q : Int)))
          have D10 : Hid (Dw W1 ((V7.setCell ⟨A, 0, none⟩ (.int .i64 (p : Int))).setCell ⟨A, 1, none⟩ (.int .i64 (q : Int)))) := D8.out
          clear H8 y0 y1 z0 z1 D8
          generalize (V7.setCell ⟨A, 0, none⟩ (.int .i64 (p : Int))).setCell ⟨A, 1, none⟩ (.int .i64 (q : Int)) = V9 at *
          refine hK.out _ _ (HL0.out _ H10.out.to_ext) (fun hHeld => ?_)
          clear hK K
          try simp only [Act.put, List.setIfInBounds_toArray, List.set_cons_zero, List.set_cons_succ]
          refine wpAnyF_ready (rs := [9]) (by kernel_rfl) rfl (AllReadyF.cons rfl (fun K hK => ?_) AllReadyF.nil)
          have y0 := H10.out.cell 0 (j := 0) rfl rfl
          have y1 := H10.out.cell 0 (j := 1) rfl rfl
          have z0 := H10.out.frozen 0 (j := 0) rfl
          have z1 := H10.out.frozen 0 (j := 1) rfl
          go_simp
          have H12 := Lib.hid ((H10.out.cellPut (j := 0) 0 rfl (.int .i64 (r : Int))).cellPut (j := 1) 0 rfl (.int .i64 (s : Int)))
          have D12 : Hid (Dw W1 ((V9.setCell ⟨B, 0, none⟩ (.int .i64 (r : Int))).setCell ⟨B, 1, none⟩ (.int .i64 (s : Int)))) := D10.out
          clear H10 y0 y1 z0 z1 D10
          generalize (V9.setCell ⟨B, 0, none⟩ (.int .i64 (r : Int))).setCell ⟨B, 1, none⟩ (.int .i64 (s : Int)) = V11 at *
          refine hK.out _ _ (HL0.out _ H12.out.to_ext) (fun hHeld => ?_)
          clear hK K
          try simp only [Act.put, List.setIfInBounds_toArray, List.set_cons_zero, List.set_cons_succ]
          refine wpAnyF_done (by kernel_rfl) ?_
          refine hM _ _ (Met.intro (hJ _ _ ?_))
          (repeat apply Exists.intro)
          refine ⟨?rel, rfl⟩
          case rel => exact ⟨A, B, rfl, rfl, HX0.out.trans H12.out.to_ext, Dw.trans HD0.out D12.out, H12.out.heap 1 rfl, H12.out.heap 0 rfl⟩
    · -- 6
      go_simp
      have H2 := Lib.hid (H0.out.new (.cells #[.int .i64 0, .int .i64 0] 68))
      have D2 : Hid (Dw W1 (V0.alloc (.cells #[.int .i64 0, .int .i64 0] 68))) := D0.out
      clear H0 D0
      generalize hz : V0.heap.size = A at *
      clear hz
      generalize hw : V0.alloc _ = V1 at *
      clear hw
      refine hK.out _ _ (HL0.out _ H2.out.to_ext) (fun hHeld => ?_)
      clear hK K
      try simp only [Act.put, List.setIfInBounds_toArray, List.set_cons_zero, List.set_cons_succ]
      refine wpAnyF_ready (rs := [2, 7]) (by kernel_rfl) rfl (AllReadyF.cons rfl (fun K hK => ?_) (AllReadyF.cons rfl (fun K hK => ?_) AllReadyF.nil))
      · -- 2
        go_simp
        go_at_call 61
        refine (HI.out _ (HX0.out.trans H2.out.to_ext)).mono ?_
        rintro e V3 ⟨rfl, hx, hd⟩
        have H4 := Lib.hid (H2.out.ext hx)
        have D4 : Hid (Dw W1 V3) := Dw.trans D2.out hd
        clear H2 hx D2 hd
        refine hK.out _ _ (HL0.out _ H4.out.to_ext) (fun hHeld => ?_)
        clear hK K
        try simp only [Act.put, List.setIfInBounds_toArray, List.set_cons_zero, List.set_cons_succ]
        refine wpAnyF_ready (rs := [5, 7]) (by kernel_rfl) rfl (AllReadyF.cons rfl (fun K hK => ?_) (AllReadyF.cons rfl (fun K hK => ?_) AllReadyF.nil))
        · -- 5
          go_simp
          go_at_call 61
          refine (HJ.out _ (HX0.out.trans H4.out.to_ext)).mono ?_
          rintro e V5 ⟨rfl, hx, hd⟩
          have H6 := Lib.hid (H4.out.ext hx)
          have D6 : Hid (Dw W1 V5) := Dw.trans D4.out hd
          clear H4 hx D4 hd
          refine hK.out _ _ (HL0.out _ H6.out.to_ext) (fun hHeld => ?_)
          clear hK K
          try simp only [Act.put, List.setIfInBounds_toArray, List.set_cons_zero, List.set_cons_succ]
          refine wpAnyF_ready (rs := [7]) (by kernel_rfl) rfl (AllReadyF.cons rfl (fun K hK => ?_) AllReadyF.nil)
          go_simp
          have H8 := Lib.hid (H6.out.new (.cells #[.int .i64 0, .int .i64 0] 68))
          have D8 : Hid (Dw W1 (V5.alloc (.cells #[.int .i64 0, .int .i64 0] 68))) := D6.out
          clear H6 D6
          generalize hz : V5.heap.size = B at *
          clear hz
          generalize hw : V5.alloc _ = V7 at *
          clear hw
          refine hK.out _ _ (HL0.out _ H8.out.to_ext) (fun hHeld => ?_)
          clear hK K
          try simp only [Act.put, List.setIfInBounds_toArray, List.set_cons_zero, List.set_cons_succ]
          refine wpAnyF_ready (rs := [8]) (by kernel_rfl) rfl (AllReadyF.cons rfl (fun K hK => ?_) AllReadyF.nil)
          have y0 := H8.out.cell 0 (j := 0) rfl rfl
          have y1 := H8.out.cell 0 (j := 1) rfl rfl
          have z0 := H8.out.frozen 0 (j := 0) rfl
          have z1 := H8.out.frozen 0 (j := 1) rfl
          go_simp
          have H10 := Lib.hid ((H8.out.cellPut (j := 0) 0 rfl (.int .i64 (p : Int))).cellPut (j := 1) 0 rfl (.int .i64 (q : Int)))
          have D10 : Hid (Dw W1 ((V7.setCell ⟨A, 0, none⟩ (.int .i64 (p : Int))).setCell ⟨A, 1, none⟩ (.int .i64 (q : Int)))) := D8.out
          clear H8 y0 y1 z0 z1 D8
          generalize (V7.setCell ⟨A, 0, none⟩ (.int .i64 (p : Int))).setCell ⟨A, 1, none⟩ (.int .i64 (q : Int)) = V9 at *
          refine hK.out _ _ (HL0.out _ H10.out.to_ext) (fun hHeld => ?_)
          clear hK K
          try simp only [Act.put, List.setIfInBounds_toArray, List.set_cons_zero, List.set_cons_succ]
          refine wpAnyF_ready (rs := [9]) (by kernel_rfl) rfl (AllReadyF.cons rfl (fun K hK => ?_) AllReadyF.nil)
          have y0 := H10.out.cell 1 (j := 0) rfl rfl
          have y1 := H10.out.cell 1 (j := 1) rfl rfl
          have z0 := H10.out.frozen 1 (j := 0) rfl
          have z1 := H10.out.frozen 1 (j := 1) rfl
          go_simp
          have H12 := Lib.hid ((H10.out.cellPut (j := 0) 1 rfl (.int .i64 (r : Int))).cellPut (j := 1) 1 rfl (.int .i64 (s : Int)))
          have D12 : Hid (Dw W1 ((V9.setCell ⟨B, 0, none⟩ (.int .i64 (r : Int))).setCell ⟨B, 1, none⟩ (.int .i64 (s : Int)))) := D10.out
          clear H10 y0 y1 z0 z1 D10
          generalize (V9.setCell ⟨B, 0, none⟩ (.int .i64 (r : Int))).setCell ⟨B, 1, none⟩ (.int .i64 (s : Int)) = V11 at *
          refine hK.out _ _ (HL0.out _ H12.out.to_ext) (fun hHeld => ?_)
          clear hK K
          try simp only [Act.put, List.setIfInBounds_toArray, List.set_cons_zero, List.set_cons_succ]
          refine wpAnyF_done (by kernel_rfl) ?_
          refine hM _ _ (Met.intro (hJ _ _ ?_))
          (repeat apply Exists.intro)
          refine ⟨?rel, rfl⟩
          case rel => exact ⟨A, B, rfl, rfl, HX0.out.trans H12.out.to_ext, Dw.trans HD0.out D12.out, H12.out.heap 0 rfl, H12.out.heap 1 rfl⟩
        · -- 7
          go_simp
          have H6 := Lib.hid (H4.out.new (.cells #[.int .i64 0, .int .i64 0] 68))
          have D6 : Hid (Dw W1 (V3.alloc (.cells #[.int .i64 0, .int .i64 0] 68))) := D4.out
          clear H4 D4
          generalize hz : V3.heap.size = B at *
          clear hz
          generalize hw : V3.alloc _ = V5 at *
          clear hw
          refine hK.out _ _ (HL0.out _ H6.out.to_ext) (fun hHeld => ?_)
          clear hK K
          try simp only [Act.put, List.setIfInBounds_toArray, List.set_cons_zero, List.set_cons_succ]
          refine wpAnyF_ready (rs := [5]) (by kernel_rfl) rfl (AllReadyF.cons rfl (fun K hK => ?_) AllReadyF.nil)
          go_simp
          go_at_call 61
          refine (HJ.out _ (HX0.out.trans H6.out.to_ext)).mono ?_
          rintro e V7 ⟨rfl, hx, hd⟩
          have H8 := Lib.hid (H6.out.ext hx)
          have D8 : Hid (Dw W1 V7) := Dw.trans D6.out hd
          clear H6 hx D6 hd
          refine hK.out _ _ (HL0.out _ H8.out.to_ext) (fun hHeld => ?_)
          clear hK K
          try simp only [Act.put, List.setIfInBounds_toArray, List.set_cons_zero, List.set_cons_succ]
          refine wpAnyF_ready (rs := [8]) (by kernel_rfl) rfl (AllReadyF.cons rfl (fun K hK => ?_) AllReadyF.nil)
          have y0 := H8.out.cell 0 (j := 0) rfl rfl
          have y1 := H8.out.cell 0 (j := 1) rfl rfl
          have z0 := H8.out.frozen 0 (j := 0) rfl
          have z1 := H8.out.frozen 0 (j := 1) rfl
          go_simp
          have H10 := Lib.hid ((H8.out.cellPut (j := 0) 0 rfl (.int .i64 (p : Int))).cellPut (j := 1) 0 rfl (.int .i64 (q : Int)))
          have D10 : Hid (Dw W1 ((V7.setCell ⟨A, 0, none⟩ (.int .i64 (p : Int))).setCell ⟨A, 1, none⟩ (.int .i64 (q : Int)))) := D8.out
          clear H8 y0 y1 z0 z1 D8
          generalize (V7.setCell ⟨A, 0, none⟩ (.int .i64 (p : Int))).setCell ⟨A, 1, none⟩ (.int .i64 (q : Int)) = V9 at *
          refine hK.out _ _ (HL0.out _ H10.out.to_ext) (fun hHeld => ?_)
          clear hK K
          try simp only [Act.put, List.setIfInBounds_toArray, List.set_cons_zero, List.set_cons_succ]
          refine wpAnyF_ready (rs := [9]) (by kernel_rfl) rfl (AllReadyF.cons rfl (fun K hK => ?_) AllReadyF.nil)
          have y0 := H10.out.cell 1 (j := 0) rfl rfl
          have y1 := H10.out.cell 1 (j := 1) rfl rfl
          have z0 := H10.out.frozen 1 (j := 0) rfl
          have z1 := H10.out.frozen 1 (j := 1) rfl
          go_simp
          have H12 := Lib.hid ((H10.out.cellPut (j := 0) 1 rfl (.int .i64 (r : Int))).cellPut (j := 1) 1 rfl (.int .i64 (s : Int)))
          have D12 : Hid (Dw W1 ((V9.setCell ⟨B, 0, none⟩ (.int .i64 (r : Int))).setCell ⟨B, 1, none⟩ (.int .i64 (s : Int)))) := D10.out
          clear H10 y0 y1 z0 z1 D10
          generalize (V9.setCell ⟨B, 0, none⟩ (.int .i64 (r : Int))).setCell ⟨B, 1, none⟩ (.int .i64 (s : Int)) = V11 at *
          refine hK.out _ _ (HL0.out _ H12.out.to_ext) (fun hHeld => ?_)
          clear hK K
          try simp only [Act.put, List.setIfInBounds_toArray, List.set_cons_zero, List.set_cons_succ]
          refine wpAnyF_done (by kernel_rfl) ?_
          refine hM _ _ (Met.intro (hJ _ _ ?_))
          (repeat apply Exists.intro)
          refine ⟨?rel, rfl⟩
          case rel => exact ⟨A, B, rfl, rfl, HX0.out.trans H12.out.to_ext, Dw.trans HD0.out D12.out, H12.out.heap 0 rfl, H12.out.heap 1 rfl⟩
      · -- 7
        go_simp
        have H4 := Lib.hid (H2.out.new (.cells #[.int .i64 0, .int .i64 0] 68))
        have D4 : Hid (Dw W1 (V1.alloc (.cells #[.int .i64 0, .int .i64 0] 68))) := D2.out
        clear H2 D2
        generalize hz : V1.heap.size = B at *
        clear hz
        generalize hw : V1.alloc _ = V3 at *
        clear hw
        refine hK.out _ _ (HL0.out _ H4.out.to_ext) (fun hHeld => ?_)
        clear hK K
        try simp only [Act.put, List.setIfInBounds_toArray, List.set_cons_zero, List.set_cons_succ]
        refine wpAnyF_ready (rs := [2]) (by kernel_rfl) rfl (AllReadyF.cons rfl (fun K hK => ?_) AllReadyF.nil)
        go_simp
        go_at_call 61
        refine (HI.out _ (HX0.out.trans H4.out.to_ext)).mono ?_
        rintro e V5 ⟨rfl, hx, hd⟩
        have H6 := Lib.hid (H4.out.ext hx)
        have D6 : Hid (Dw W1 V5) := Dw.trans D4.out hd
        clear H4 hx D4 hd
        refine hK.out _ _ (HL0.out _ H6.out.to_ext) (fun hHeld => ?_)
        clear hK K
        try simp only [Act.put, List.setIfInBounds_toArray, List.set_cons_zero, List.set_cons_succ]
        refine wpAnyF_ready (rs := [5]) (by kernel_rfl) rfl (AllReadyF.cons rfl (fun K hK => ?_) AllReadyF.nil)
        go_simp
        go_at_call 61
        refine (HJ.out _ (HX0.out.trans H6.out.to_ext)).mono ?_
        rintro e V7 ⟨rfl, hx, hd⟩
        have H8 := Lib.hid (H6.out.ext hx)
        have D8 : Hid (Dw W1 V7) := Dw.trans D6.out hd
        clear H6 hx D6 hd
        refine hK.out _ _ (HL0.out _ H8.out.to_ext) (fun hHeld => ?_)
        clear hK K
        try simp only [Act.put, List.setIfInBounds_toArray, List.set_cons_zero, List.set_cons_succ]
        refine wpAnyF_ready (rs := [8]) (by kernel_rfl) rfl (AllReadyF.cons rfl (fun K hK => ?_) AllReadyF.nil)
        have y0 := H8.out.cell 0 (j := 0) rfl rfl
        have y1 := H8.out.cell 0 (j := 1) rfl rfl
        have z0 := H8.out.frozen 0 (j := 0) rfl
        have z1 := H8.out.frozen 0 (j := 1) rfl
        go_simp
        have H10 := Lib.hid ((H8.out.cellPut (j := 0) 0 rfl (.int .i64 (p : Int))).cellPut (j := 1) 0 rfl (.int .i64 (q : Int)))
        have D10 : Hid (Dw W1 ((V7.setCell ⟨A, 0, none⟩ (.int .i64 (p : Int))).setCell ⟨A, 1, none⟩ (.int .i64 (q : Int)))) := D8.out
        clear H8 y0 y1 z0 z1 D8
        generalize (V7.setCell ⟨A, 0, none⟩ (.int .i64 (p : Int))).setCell ⟨A, 1, none⟩ (.int .i64 (q : Int)) = V9 at *
        refine hK.out _ _ (HL0.out _ H10.out.to_ext) (fun hHeld => ?_)
        clear hK K
        try simp only [Act.put, List.setIfInBounds_toArray, List.set_cons_zero, List.set_cons_succ]
        refine wpAnyF_ready (rs := [9]) (by kernel_rfl) rfl (AllReadyF.cons rfl (fun K hK => ?_) AllReadyF.nil)
        have y0 := H10.out.cell 1 (j := 0) rfl rfl
        have y1 := H10.out.cell 1 (j := 1) rfl rfl
        have z0 := H10.out.frozen 1 (j := 0) rfl
        have z1 := H10.out.frozen 1 (j := 1) rfl
        go_simp
        have H12 := Lib.hid ((H10.out.cellPut (j := 0) 1 rfl (.int .i64 (r : Int))).cellPut (j := 1) 1 rfl (.int .i64 (s : Int)))
        have D12 : Hid (Dw W1 ((V9.setCell ⟨B, 0, none⟩ (.int .i64 (r : Int))).setCell ⟨B, 1, none⟩ (.int .i64 (s : Int)))) := D10.out
        clear H10 y0 y1 z0 z1 D10
        generalize (V9.setCell ⟨B, 0, none⟩ (.int .i64 (r : Int))).setCell ⟨B, 1, none⟩ (.int .i64 (s : Int)) = V11 at *
        refine hK.out _ _ (HL0.out _ H12.out.to_ext) (fun hHeld => ?_)
        clear hK K
        try simp only [Act.put, List.setIfInBounds_toArray, List.set_cons_zero, List.set_cons_succ]
        refine wpAnyF_done (by kernel_rfl) ?_
        refine hM _ _ (Met.intro (hJ _ _ ?_))
        (repeat apply Exists.intro)
        refine ⟨?rel, rfl⟩
        case rel => exact ⟨A, B, rfl, rfl, HX0.out.trans H12.out.to_ext, Dw.trans HD0.out D12.out, H12.out.heap 0 rfl, H12.out.heap 1 rfl⟩
    · -- 7
      go_simp
      have H2 := Lib.hid (H0.out.new (.cells #[.int .i64 0, .int .i64 0] 68))
      have D2 : Hid (Dw W1 (V0.alloc (.cells #[.int .i64 0, .int .i64 0] 68))) := D0.out
      clear H0 D0
      generalize hz : V0.heap.size = B at *
      clear hz
      generalize hw : V0.alloc _ = V1 at *
      clear hw
      refine hK.out _ _ (HL0.out _ H2.out.to_ext) (fun hHeld => ?_)
      clear hK K
      try simp only [Act.put, List.setIfInBounds_toArray, List.set_cons_zero, List.set_cons_succ]
      refine wpAnyF_ready (rs := [2, 6]) (by kernel_rfl) rfl (AllReadyF.cons rfl (fun K hK => ?_) (AllReadyF.cons rfl (fun K hK => ?_) AllReadyF.nil))
      · -- 2
        go_simp
        go_at_call 61
        refine (HI.out _ (HX0.out.trans H2.out.to_ext)).mono ?_
        rintro e V3 ⟨rfl, hx, hd⟩
        have H4 := Lib.hid (H2.out.ext hx)
        have D4 : Hid (Dw W1 V3) := Dw.trans D2.out hd
        clear H2 hx D2 hd
        refine hK.out _ _ (HL0.out _ H4.out.to_ext) (fun hHeld => ?_)
        clear hK K
        try simp only [Act.put, List.setIfInBounds_toArray, List.set_cons_zero, List.set_cons_succ]
        refine wpAnyF_ready (rs := [5, 6]) (by kernel_rfl) rfl (AllReadyF.cons rfl (fun K hK => ?_) (AllReadyF.cons rfl (fun K hK => ?_) AllReadyF.nil))
        · -- 5
          go_simp
          go_at_call 61
          refine (HJ.out _ (HX0.out.trans H4.out.to_ext)).mono ?_
          rintro e V5 ⟨rfl, hx, hd⟩
          have H6 := Lib.hid (H4.out.ext hx)
          have D6 : Hid (Dw W1 V5) := Dw.trans D4.out hd
          clear H4 hx D4 hd
          refine hK.out _ _ (HL0.out _ H6.out.to_ext) (fun hHeld => ?_)
          clear hK K
          try simp only [Act.put, List.setIfInBounds_toArray, List.set_cons_zero, List.set_cons_succ]
          refine wpAnyF_ready (rs := [6]) (by kernel_rfl) rfl (AllReadyF.cons rfl (fun K hK => ?_) AllReadyF.nil)
          go_simp
          have H8 := Lib.hid (H6.out.new (.cells #[.int .i64 0, .int .i64 0] 68))
          have D8 : Hid (Dw W1 (V5.alloc (.cells #[.int .i64 0, .int .i64 0] 68))) := D6.out
          clear H6 D6
          generalize hz : V5.heap.size = A at *
          clear hz
          generalize hw : V5.alloc _ = V7 at *
          clear hw
          refine hK.out _ _ (HL0.out _ H8.out.to_ext) (fun hHeld => ?_)
          clear hK K
          try simp only [Act.put, List.setIfInBounds_toArray, List.set_cons_zero, List.set_cons_succ]
          refine wpAnyF_ready (rs := [8]) (by kernel_rfl) rfl (AllReadyF.cons rfl (fun K hK => ?_) AllReadyF.nil)
          have y0 := H8.out.cell 1 (j := 0) rfl rfl
          have y1 := H8.out.cell 1 (j := 1) rfl rfl
          have z0 := H8.out.frozen 1 (j := 0) rfl
          have z1 := H8.out.frozen 1 (j := 1) rfl
          go_simp
          have H10 := Lib.hid ((H8.out.cellPut (j := 0) 1 rfl (.int .i64 (p : Int))).cellPut (j := 1) 1 rfl (.int .i64 (q : Int)))
          have D10 : Hid (Dw W1 ((V7.setCell ⟨A, 0, none⟩ (.int .i64 (p : Int))).setCell ⟨A, 1, none⟩ (.int .i64 (q : Int)))) := D8.out
          clear H8 y0 y1 z0 z1 D8
          generalize (V7.setCell ⟨A, 0, none⟩ (.int .i64 (p : Int))).setCell ⟨A, 1, none⟩ (.int .i64 (q : Int)) = V9 at *
          refine hK.out _ _ (HL0.out _ H10.out.to_ext) (fun hHeld => ?_)
          clear hK K
          try simp only [Act.put, List.setIfInBounds_toArray, List.set_cons_zero, List.set_cons_succ]
          refine wpAnyF_ready (rs := [9]) (by kernel_rfl) rfl (AllReadyF.cons rfl (fun K hK => ?_) AllReadyF.nil)
          have y0 := H10.out.cell 0 (j := 0) rfl rfl
          have y1 := H10.out.cell 0 (j := 1) rfl rfl
          have z0 := H10.out.frozen 0 (j := 0) rfl
          have z1 := H10.out.frozen 0 (j := 1) rfl
          go_simp
          have H12 := Lib.hid ((H10.out.cellPut (j := 0) 0 rfl (.int .i64 (r : Int))).cellPut (j := 1) 0 rfl (.int .i64 (s : Int)))
          have D12 : Hid (Dw W1 ((V9.setCell ⟨B, 0, none⟩ (.int .i64 (r : Int))).setCell ⟨B, 1, none⟩ (.int .i64 (s : Int)))) := D10.out
          clear H10 y0 y1 z0 z1 D10
          generalize (V9.setCell ⟨B, 0, none⟩ (.int .i64 (r : Int))).setCell ⟨B, 1, none⟩ (.int .i64 (s : Int)) = V11 at *
          refine hK.out _ _ (HL0.out _ H12.out.to_ext) (fun hHeld => ?_)
          clear hK K
          try simp only [Act.put, List.setIfInBounds_toArray, List.set_cons_zero, List.set_cons_succ]
          refine wpAnyF_done (by kernel_rfl) ?_
          refine hM _ _ (Met.intro (hJ _ _ ?_))
          (repeat apply Exists.intro)
          refine ⟨?rel, rfl⟩
          case rel => exact ⟨A, B, rfl, rfl, HX0.out.trans H12.out.to_ext, Dw.trans HD0.out D12.out, H12.out.heap 1 rfl, H12.out.heap 0 rfl⟩
        · -- 6
          go_simp
          have H6 := Lib.hid (H4.out.new (.cells #[.int .i64 0, .int .i64 0] 68))
          have D6 : Hid (Dw W1 (V3.alloc (.cells #[.int .i64 0, .int .i64 0] 68))) := D4.out
          clear H4 D4
          generalize hz : V3.heap.size = A at *
          clear hz
          generalize hw : V3.alloc _ = V5 at *
          clear hw
          refine hK.out _ _ (HL0.out _ H6.out.to_ext) (fun hHeld => ?_)
          clear hK K
          try simp only [Act.put, List.setIfInBounds_toArray, List.set_cons_zero, List.set_cons_succ]
          refine wpAnyF_ready (rs := [5]) (by kernel_rfl) rfl (AllReadyF.cons rfl (fun K hK => ?_) AllReadyF.nil)
          go_simp
          go_at_call 61
          refine (HJ.out _ (HX0.out.trans H6.out.to_ext)).mono ?_
          rintro e V7 ⟨rfl, hx, hd⟩
          have H8 := Lib.hid (H6.out.ext hx)
          have D8 : Hid (Dw W1 V7) := Dw.trans D6.out hd
          clear H6 hx D6 hd
          refine hK.out _ _ (HL0.out _ H8.out.to_ext) (fun hHeld => ?_)
          clear hK K
          try simp only [Act.put, List.setIfInBounds_toArray, List.set_cons_zero, List.set_cons_succ]
          refine wpAnyF_ready (rs := [8]) (by kernel_rfl) rfl (AllReadyF.cons rfl (fun K hK => ?_) AllReadyF.nil)
          have y0 := H8.out.cell 1 (j := 0) rfl rfl
          have y1 := H8.out.cell 1 (j := 1) rfl rfl
          have z0 := H8.out.frozen 1 (j := 0) rfl
          have z1 := H8.out.frozen 1 (j := 1) rfl
          go_simp
          have H10 := Lib.hid ((H8.out.cellPut (j := 0) 1 rfl (.int .i64 (p : Int))).cellPut (j := 1) 1 rfl (.int .i64 (q : Int)))
          have D10 : Hid (Dw W1 ((V7.setCell ⟨A, 0, none⟩ (.int .i64 (p : Int))).setCell ⟨A, 1, none⟩ (.int .i64 (q : Int)))) := D8.out
          clear H8 y0 y1 z0 z1 D8
          generalize (V7.setCell ⟨A, 0, none⟩ (.int .i64 (p : Int))).setCell ⟨A, 1, none⟩ (.int .i64 (q : Int)) = V9 at *
          refine hK.out _ _ (HL0.out _ H10.out.to_ext) (fun hHeld => ?_)
          clear hK K
          try simp only [Act.put, List.setIfInBounds_toArray, List.set_cons_zero, List.set_cons_succ]
          refine wpAnyF_ready (rs := [9]) (by kernel_rfl) rfl (AllReadyF.cons rfl (fun K hK => ?_) AllReadyF.nil)
          have y0 := H10.out.cell 0 (j := 0) rfl rfl
          have y1 := H10.out.cell 0 (j := 1) rfl rfl
          have z0 := H10.out.frozen 0 (j := 0) rfl
          have z1 := H10.out.frozen 0 (j := 1) rfl
          go_simp
          have H12 := Lib.hid ((H10.out.cellPut (j := 0) 0 rfl (.int .i64 (r : Int))).cellPut (j := 1) 0 rfl (.int .i64 (s : Int)))
          have D12 : Hid (Dw W1 ((V9.setCell ⟨B, 0, none⟩ (.int .i64 (r : Int))).setCell ⟨B, 1, none⟩ (.int .i64 (s : Int)))) := D10.out
          clear H10 y0 y1 z0 z1 D10
          generalize (V9.setCell ⟨B, 0, none⟩ (.int .i64 (r : Int))).setCell ⟨B, 1, none⟩ (.int .i64 (s : Int)) = V11 at *
          refine hK.out _ _ (HL0.out _ H12.out.to_ext) (fun hHeld => ?_)
          clear hK K
          try simp only [Act.put, List.setIfInBounds_toArray, List.set_cons_zero, List.set_cons_succ]
          refine wpAnyF_done (by kernel_rfl) ?_
          refine hM _ _ (Met.intro (hJ _ _ ?_))
          (repeat apply Exists.intro)
          refine ⟨?rel, rfl⟩
          case rel => exact ⟨A, B, rfl, rfl, HX0.out.trans H12.out.to_ext, Dw.trans HD0.out D12.out, H12.out.heap 1 rfl, H12.out.heap 0 rfl⟩
      · -- 6
        go_simp
        have H4 := Lib.hid (H2.out.new (.cells #[.int .i64 0, .int .i64 0] 68))
        have D4 : Hid (Dw W1 (V1.alloc (.cells #[.int .i64 0, .int .i64 0] 68))) := D2.out
        clear H2 D2
        generalize hz : V1.heap.size = A at *
        clear hz
        generalize hw : V1.alloc _ = V3 at *
        clear hw
        refine hK.out _ _ (HL0.out _ H4.out.to_ext) (fun hHeld => ?_)
        clear hK K
        try simp only [Act.put, List.setIfInBounds_toArray, List.set_cons_zero, List.set_cons_succ]
        refine wpAnyF_ready (rs := [2]) (by kernel_rfl) rfl (AllReadyF.cons rfl (fun K hK => ?_) AllReadyF.nil)
        go_simp
        go_at_call 61
        refine (HI.out _ (HX0.out.trans H4.out.to_ext)).mono ?_
        rintro e V5 ⟨rfl, hx, hd⟩
        have H6 := Lib.hid (H4.out.ext hx)
        have D6 : Hid (Dw W1 V5) := Dw.trans D4.out hd
        clear H4 hx D4 hd
        refine hK.out _ _ (HL0.out _ H6.out.to_ext) (fun hHeld => ?_)
        clear hK K
        try simp only [Act.put, List.setIfInBounds_toArray, List.set_cons_zero, List.set_cons_succ]
        refine wpAnyF_ready (rs := [5]) (by kernel_rfl) rfl (AllReadyF.cons rfl (fun K hK => ?_) AllReadyF.nil)
        go_simp
        go_at_call 61
        refine (HJ.out _ (HX0.out.trans H6.out.to_ext)).mono ?_
        rintro e V7 ⟨rfl, hx, hd⟩
        have H8 := Lib.hid (H6.out.ext hx)
        have D8 : Hid (Dw W1 V7) := Dw.trans D6.out hd
        clear H6 hx D6 hd
        refine hK.out _ _ (HL0.out _ H8.out.to_ext) (fun hHeld => ?_)
        clear hK K
        try simp only [Act.put, List.setIfInBounds_toArray, List.set_cons_zero, List.set_cons_succ]
        refine wpAnyF_ready (rs := [8]) (by kernel_rfl) rfl (AllReadyF.cons rfl (fun K hK => ?_) AllReadyF.nil)
        have y0 := H8.out.cell 1 (j := 0) rfl rfl
        have y1 := H8.out.cell 1 (j := 1) rfl rfl
        have z0 := H8.out.frozen 1 (j := 0) rfl
        have z1 := H8.out.frozen 1 (j := 1) rfl
        go_simp
        have H10 := Lib.hid ((H8.out.cellPut (j := 0) 1 rfl (.int .i64 (p : Int))).cellPut (j := 1) 1 rfl (.int .i64 (q : Int)))
        have D10 : Hid (Dw W1 ((V7.setCell ⟨A, 0, none⟩ (.int .i64 (p : Int))).setCell ⟨A, 1, none⟩ (.int .i64 (q : Int)))) := D8.out
        clear H8 y0 y1 z0 z1 D8
        generalize (V7.setCell ⟨A, 0, none⟩ (.int .i64 (p : Int))).setCell ⟨A, 1, none⟩ (.int .i64 (q : Int)) = V9 at *
        refine hK.out _ _ (HL0.out _ H10.out.to_ext) (fun hHeld => ?_)
        clear hK K
        try simp only [Act.put, List.setIfInBounds_toArray, List.set_cons_zero, List.set_cons_succ]
        refine wpAnyF_ready (rs := [9]) (by kernel_rfl) rfl (AllReadyF.cons rfl (fun K hK => ?_) AllReadyF.nil)
        have y0 := H10.out.cell 0 (j := 0) rfl rfl
        have y1 := H10.out.cell 0 (j := 1) rfl rfl
        have z0 := H10.out.frozen 0 (j := 0) rfl
        have z1 := H10.out.frozen 0 (j := 1) rfl
        go_simp
        have H12 := Lib.hid ((H10.out.cellPut (j := 0) 0 rfl (.int .i64 (r : Int))).cellPut (j := 1) 0 rfl (.int .i64 (s : Int)))
        have D12 : Hid (Dw W1 ((V9.setCell ⟨B, 0, none⟩ (.int .i64 (r : Int))).setCell ⟨B, 1, none⟩ (.int .i64 (s : Int)))) := D10.out
        clear H10 y0 y1 z0 z1 D10
        generalize (V9.setCell ⟨B, 0, none⟩ (.int .i64 (r : Int))).setCell ⟨B, 1, none⟩ (.int .i64 (s : Int)) = V11 at *
        refine hK.out _ _ (HL0.out _ H12.out.to_ext) (fun hHeld => ?_)
        clear hK K
        try simp only [Act.put, List.setIfInBounds_toArray, List.set_cons_zero, List.set_cons_succ]
        refine wpAnyF_done (by kernel_rfl) ?_
        refine hM _ _ (Met.intro (hJ _ _ ?_))
        (repeat apply Exists.intro)
        refine ⟨?rel, rfl⟩
        case rel => exact ⟨A, B, rfl, rfl, HX0.out.trans H12.out.to_ext, Dw.trans HD0.out D12.out, H12.out.heap 1 rfl, H12.out.heap 0 rfl⟩
  case rest =>
    obtain ⟨A, B, rfl, rfl, HT⟩ := hcut
    obtain ⟨d0, d1, -, -⟩ := blk_cells HT.out.a
    obtain ⟨e0, e1, -, -⟩ := blk_cells HT.out.b
    have m1 : (p : Int) * (s : Int) = ((p * s : Nat) : Int) := (Int.natCast_mul _ _).symm
    have m2 : (q : Int) * (r : Int) = ((q * r : Nat) : Int) := (Int.natCast_mul _ _).symm
    have n1 : p * s ≤ 1000000 := Nat.mul_le_mul l1 l4
    have n2 : q * r ≤ 1000000 := Nat.mul_le_mul l2 l3
    generalize p * s = ps at *
    generalize q * r = qr at *
    go_wp2
    go_ret
    exact ⟨ret_bool (by rw [HF.out]), HT.out.x, HT.out.d⟩

theorem isNaN75 (x : Int) (w : World) : Calls Try.prog 75 #[.int .i64 x] w fun e w' => e = .returned (.bool false) ∧ w = w' := by
  go_enter Try.func75, Try.ntmps75
  go_wp2
  go_ret
  simp
/-- How two numbers stand. -/
def cmpI (x y : Int) : Int := if x < y then -1 else if y < x then 1 else 0
theorem cmpI_lt {x y : Int} (h : x < y) : cmpI x y = -1 := if_pos h
theorem cmpI_gt {x y : Int} (h : y < x) : cmpI x y = 1 := by unfold cmpI; rw [if_neg (by omega), if_pos h]
theorem cmpI_self (x : Int) : cmpI x x = 0 := by unfold cmpI; rw [if_neg (by omega), if_neg (by omega)]
theorem cmp_any (x y : Int) (w : World) : Calls Try.prog 69 #[.int .i64 x, .int .i64 y] w fun e w' => e = .returned (.int .i64 (cmpI x y)) ∧ w = w' := by
  rcases Int.lt_trichotomy x y with h | h | h
  · rw [cmpI_lt h]
    go_enter Try.func69, Try.ntmps69
    go_wp2_with (go_at_call 75; refine (isNaN75 _ _).mono ?_; rintro e w' ⟨rfl, rfl⟩)
    go_ret
    simp
  · subst h
    rw [cmpI_self]
    have hd : ¬ (x < x) := by omega
    go_enter Try.func69, Try.ntmps69
    go_wp2_with (go_at_call 75; refine (isNaN75 _ _).mono ?_; rintro e w' ⟨rfl, rfl⟩)
    go_ret
    simp
  · rw [cmpI_gt h]
    have hd : ¬ (x < y) := by omega
    go_enter Try.func69, Try.ntmps69
    go_wp2_with (go_at_call 75; refine (isNaN75 _ _).mono ?_; rintro e w' ⟨rfl, rfl⟩)
    go_ret
    simp
end Go.Proofs.Ytlaolokakaheaaa
