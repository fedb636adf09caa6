/-
  Which stretch comes ahead of another one (package barter).
-/
import Derived.Test.YtlaolokakaheaaaLW
import Derived.Test.YtlaolokakaheaaaMX
import Derived.Test.YtlaolokakaheaaaRL
import Derived.Deep.RegionHeld3
import Derived.Deep.DeepCutAuto
namespace Go.Proofs.Ytlaolokakaheaaa
open Go.RowKit

/-- Worths that are right. -/
structure Wr (x : St) : Prop where
  n1 : 1 ≤ x.n
  n2 : x.n ≤ 1000
  s1 : 1 ≤ x.s
  s2 : x.s ≤ 1000
/-- Two pairs lie in blocks of one's own. -/
structure TwoP (w : World) (A B : Nat) (p q r s : Nat) (V : World) : Prop where
  x : Ext w V
  a : V.heap[A]? = some (.cells #[.int .i64 (p : Int), .int .i64 (q : Int)] 68 (0, 0))
  b : V.heap[B]? = some (.cells #[.int .i64 (r : Int), .int .i64 (s : Int)] 68 (0, 0))

set_option maxRecDepth 100000 in
set_option maxHeartbeats 2000000 in
theorem isAhead_any (x : Ld) (i j : Nat) (w : World) (h : StL w x.s) (hi : i < x.s.l.length) (hj : j < x.s.l.length) (h1 : Wr (at' x.s.l i)) (h2 : Wr (at' x.s.l j)) :
    Calls Try.prog 62 #[x.val, .int .i64 (i : Int), .int .i64 (j : Int)] w fun e w' => e = .returned (.bool (aheadF (at' x.s.l i) (at' x.s.l j))) ∧ Ext w w' := by
  have HI := Lib.hid (fun (V : World) (k : Ext w V) => worths_any x i V (h.ext k) hi h1.n1 h1.n2 h1.s2)
  have HJ := Lib.hid (fun (V : World) (k : Ext w V) => worths_any x j V (h.ext k) hj h2.n1 h2.n2 h2.s2)
  have l1 : lowN (at' x.s.l i) ≤ 1000 := Nat.le_trans (Nat.div_le_self _ _) h1.n2
  have l2 : lowS (at' x.s.l i) ≤ 1000 := Nat.le_trans (Nat.div_le_self _ _) h1.s2
  have l3 : lowN (at' x.s.l j) ≤ 1000 := Nat.le_trans (Nat.div_le_self _ _) h2.n2
  have l4 : lowS (at' x.s.l j) ≤ 1000 := Nat.le_trans (Nat.div_le_self _ _) h2.s2
  have HF : Hid (aheadF (at' x.s.l i) (at' x.s.l j) = decide (lowS (at' x.s.l i) * lowN (at' x.s.l j) < lowN (at' x.s.l i) * lowS (at' x.s.l j))) := rfl
  clear h hi hj h1 h2
  obtain ⟨⟨a, c, l⟩, ⟨va, vc, vl⟩⟩ := x
  dsimp only at *
  generalize aheadF (at' l i) (at' l j) = z at *
  generalize lowN (at' l i) = p at *
  generalize lowS (at' l i) = q at *
  generalize lowN (at' l j) = r at *
  generalize lowS (at' l j) = s at *
  have HX0 : Hid (Ext w (w.alloc (.cells #[.slice a l.length c, .slice va vl.length vc] 26))) := (Ext.refl w).alloc _
  have HL0 : Hid (∀ V, Ext (w.alloc (.cells #[.slice a l.length c, .slice va vl.length vc] 26)) V → V.cell? ⟨w.heap.size, 0, none⟩ = some (.slice a l.length c) ∧ V.cell? ⟨w.heap.size, 1, none⟩ = some (.slice va vl.length vc)) := fun V k => ⟨cell_at (k.block (alloc_new rfl)) 0, cell_at (k.block (alloc_new rfl)) 1⟩
  go_enter Try.func62, Try.ntmps62
  go_upto_region 1 with (fail)
  generalize w.alloc (.cells #[.slice a l.length c, .slice va vl.length vc] 26) = W1 at *
  go_cut [7, 8] (fun s7 s8 wx => ∃ A B, s7 = .pointer (some ⟨A, 0, none⟩) ∧ s8 = .pointer (some ⟨B, 0, none⟩) ∧ Hid (TwoP w A B p q r s wx))
  case first =>
    rename_i J' K'' hJ hM
    have H0 : Hid (Mm W1 [] [] W1.drew) := Mm.start.ext (Ext.refl W1).drew
    refine wp_region_noPanic ?_
    refine wp_region_last [] (fun v => v.cell? ⟨w.heap.size, 0, none⟩ = some (.slice a l.length c) ∧ v.cell? ⟨w.heap.size, 1, none⟩ = some (.slice va vl.length vc)) (by kernel_rfl) (HL0.out _ H0.out.to_ext) (fun hHeld => ?_)
    generalize W1.drew = V0 at *
    refine wpAnyF_take [2, 5, 8, 9] (i := 0) (v := ?_) rfl (by kernel_rfl) (by kernel_rfl) (by kernel_rfl) (by kernel_rfl) (fun _ _ _ h => h) (Or.inl ⟨by rfl, ?_⟩) (by assumption) ?_
    rotate_left
    · intro wS hSw
      (try dsimp only at hSw)
      go_simp
      try with_reducible rfl
    try simp only [Act.put, List.setIfInBounds_toArray]
    refine wpAnyF_take [2, 5, 8, 9] (i := 1) (v := ?_) rfl (by kernel_rfl) (by kernel_rfl) (by kernel_rfl) (by kernel_rfl) (fun _ _ _ h => h) (Or.inl ⟨by rfl, ?_⟩) (by assumption) ?_
    rotate_left
    · intro wS hSw
      (try dsimp only at hSw)
      go_simp
      try with_reducible rfl
    try simp only [Act.put]
    refine wpAnyF_take [5, 8, 9] (i := 3) (v := ?_) rfl (by kernel_rfl) (by kernel_rfl) (by kernel_rfl) (by kernel_rfl) (fun _ _ _ h => h) (Or.inl ⟨by rfl, ?_⟩) (by assumption) ?_
    rotate_left
    · intro wS hSw
      (try dsimp only at hSw)
      go_simp
      try with_reducible rfl
    try simp only [Act.put]
    refine wpAnyF_take [5, 8, 9] (i := 4) (v := ?_) rfl (by kernel_rfl) (by kernel_rfl) (by kernel_rfl) (by kernel_rfl) (fun _ _ _ h => h) (Or.inl ⟨by rfl, ?_⟩) (by assumption) ?_
    rotate_left
    · intro wS hSw
      (try dsimp only at hSw)
      go_simp
      try with_reducible rfl
    try simp only [Act.put]
    refine wpAnyF_ready (rs := [2, 6, 7]) (by kernel_rfl) rfl (AllReadyF.cons rfl (fun K hK => ?_) (AllReadyF.cons rfl (fun K hK => ?_) (AllReadyF.cons rfl (fun K hK => ?_) AllReadyF.nil)))
    · -- 2
      go_simp
      go_at_call 61
      refine (HI.out _ (HX0.out.trans H0.out.to_ext)).mono ?_
      rintro e V1 ⟨rfl, hx⟩
      have H2 := Lib.hid (H0.out.ext hx)
      clear H0 hx
      refine hK.out _ _ (HL0.out _ H2.out.to_ext) (fun hHeld => ?_)
      clear hK K
      try simp only [Act.put, List.setIfInBounds_toArray, List.set_cons_zero, List.set_cons_succ]
      refine wpAnyF_ready (rs := [5, 6, 7]) (by kernel_rfl) rfl (AllReadyF.cons rfl (fun K hK => ?_) (AllReadyF.cons rfl (fun K hK => ?_) (AllReadyF.cons rfl (fun K hK => ?_) AllReadyF.nil)))
      · -- 5
        go_simp
        go_at_call 61
        refine (HJ.out _ (HX0.out.trans H2.out.to_ext)).mono ?_
        rintro e V3 ⟨rfl, hx⟩
        have H4 := Lib.hid (H2.out.ext hx)
        clear H2 hx
        refine hK.out _ _ (HL0.out _ H4.out.to_ext) (fun hHeld => ?_)
        clear hK K
        try simp only [Act.put, List.setIfInBounds_toArray, List.set_cons_zero, List.set_cons_succ]
        refine wpAnyF_ready (rs := [6, 7]) (by kernel_rfl) rfl (AllReadyF.cons rfl (fun K hK => ?_) (AllReadyF.cons rfl (fun K hK => ?_) AllReadyF.nil))
        · -- 6
          go_simp
          have H6 := Lib.hid (H4.out.new (.cells #[.int .i64 0, .int .i64 0] 68))
          clear H4
          generalize hz : V3.heap.size = A at *
          clear hz
          generalize hw : V3.alloc _ = V5 at *
          clear hw
          refine hK.out _ _ (HL0.out _ H6.out.to_ext) (fun hHeld => ?_)
          clear hK K
          try simp only [Act.put, List.setIfInBounds_toArray, List.set_cons_zero, List.set_cons_succ]
          refine wpAnyF_ready (rs := [7]) (by kernel_rfl) rfl (AllReadyF.cons rfl (fun K hK => ?_) AllReadyF.nil)
          go_simp
          have H8 := Lib.hid (H6.out.new (.cells #[.int .i64 0, .int .i64 0] 68))
          clear H6
          generalize hz : V5.heap.size = B at *
          clear hz
          generalize hw : V5.alloc _ = V7 at *
          clear hw
          refine hK.out _ _ (HL0.out _ H8.out.to_ext) (fun hHeld => ?_)
          clear hK K
          try simp only [Act.put, List.setIfInBounds_toArray, List.set_cons_zero, List.set_cons_succ]
          refine wpAnyF_ready (rs := [8]) (by kernel_rfl) rfl (AllReadyF.cons rfl (fun K hK => ?_) AllReadyF.nil)
          have y0 := H8.out.cell 0 (j := 0) rfl rfl
          have y1 := H8.out.cell 0 (j := 1) rfl rfl
          have z0 := H8.out.frozen 0 (j := 0) rfl
          have z1 := H8.out.frozen 0 (j := 1) rfl
          go_simp
          have H10 := Lib.hid ((H8.out.cellPut (j := 0) 0 rfl (.int .i64 (p : Int))).cellPut (j := 1) 0 rfl (.int .i64 (q : Int)))
          clear H8 y0 y1 z0 z1
          generalize (V7.setCell ⟨A, 0, none⟩ (.int .i64 (p : Int))).setCell ⟨A, 1, none⟩ (.int .i64 (q : Int)) = V9 at *
          refine hK.out _ _ (HL0.out _ H10.out.to_ext) (fun hHeld => ?_)
          clear hK K
          try simp only [Act.put, List.setIfInBounds_toArray, List.set_cons_zero, List.set_cons_succ]
          refine wpAnyF_ready (rs := [9]) (by kernel_rfl) rfl (AllReadyF.cons rfl (fun K hK => ?_) AllReadyF.nil)
          have y0 := H10.out.cell 1 (j := 0) rfl rfl
          have y1 := H10.out.cell 1 (j := 1) rfl rfl
          have z0 := H10.out.frozen 1 (j := 0) rfl
          have z1 := H10.out.frozen 1 (j := 1) rfl
          go_simp
          have H12 := Lib.hid ((H10.out.cellPut (j := 0) 1 rfl (.int .i64 (r : Int))).cellPut (j := 1) 1 rfl (.int .i64 (s : Int)))
          clear H10 y0 y1 z0 z1
          generalize (V9.setCell ⟨B, 0, none⟩ (.int .i64 (r : Int))).setCell ⟨B, 1, none⟩ (.int .i64 (s : Int)) = V11 at *
          refine hK.out _ _ (HL0.out _ H12.out.to_ext) (fun hHeld => ?_)
          clear hK K
          try simp only [Act.put, List.setIfInBounds_toArray, List.set_cons_zero, List.set_cons_succ]
          refine wpAnyF_done (by kernel_rfl) ?_
          refine hM _ _ (Met.intro (hJ _ _ ?_))
          (repeat apply Exists.intro)
          refine ⟨?rel, rfl⟩
          case rel => exact ⟨A, B, rfl, rfl, HX0.out.trans H12.out.to_ext, H12.out.heap 0 rfl, H12.out.heap 1 rfl⟩
        · -- 7
          go_simp
          have H6 := Lib.hid (H4.out.new (.cells #[.int .i64 0, .int .i64 0] 68))
          clear H4
          generalize hz : V3.heap.size = B at *
          clear hz
          generalize hw : V3.alloc _ = V5 at *
          clear hw
          refine hK.out _ _ (HL0.out _ H6.out.to_ext) (fun hHeld => ?_)
          clear hK K
          try simp only [Act.put, List.setIfInBounds_toArray, List.set_cons_zero, List.set_cons_succ]
          refine wpAnyF_ready (rs := [6]) (by kernel_rfl) rfl (AllReadyF.cons rfl (fun K hK => ?_) AllReadyF.nil)
          go_simp
          have H8 := Lib.hid (H6.out.new (.cells #[.int .i64 0, .int .i64 0] 68))
          clear H6
          generalize hz : V5.heap.size = A at *
          clear hz
          generalize hw : V5.alloc _ = V7 at *
          clear hw
          refine hK.out _ _ (HL0.out _ H8.out.to_ext) (fun hHeld => ?_)
          clear hK K
          try simp only [Act.put, List.setIfInBounds_toArray, List.set_cons_zero, List.set_cons_succ]
          refine wpAnyF_ready (rs := [8]) (by kernel_rfl) rfl (AllReadyF.cons rfl (fun K hK => ?_) AllReadyF.nil)
          have y0 := H8.out.cell 1 (j := 0) rfl rfl
          have y1 := H8.out.cell 1 (j := 1) rfl rfl
          have z0 := H8.out.frozen 1 (j := 0) rfl
          have z1 := H8.out.frozen 1 (j := 1) rfl
          go_simp
          have H10 := Lib.hid ((H8.out.cellPut (j := 0) 1 rfl (.int .i64 (p : Int))).cellPut (j := 1) 1 rfl (.int .i64 (q : Int)))
          clear H8 y0 y1 z0 z1
          generalize (V7.setCell ⟨A, 0, none⟩ (.int .i64 (p : Int))).setCell ⟨A, 1, none⟩ (.int .i64 (q : Int)) = V9 at *
          refine hK.out _ _ (HL0.out _ H10.out.to_ext) (fun hHeld => ?_)
          clear hK K
          try simp only [Act.put, List.setIfInBounds_toArray, List.set_cons_zero, List.set_cons_succ]
          refine wpAnyF_ready (rs := [9]) (by kernel_rfl) rfl (AllReadyF.cons rfl (fun K hK => ?_) AllReadyF.nil)
          have y0 := H10.out.cell 0 (j := 0) rfl rfl
          have y1 := H10.out.cell 0 (j := 1) rfl rfl
          have z0 := H10.out.frozen 0 (j := 0) rfl
          have z1 := H10.out.frozen 0 (j := 1) rfl
          go_simp
          have H12 := Lib.hid ((H10.out.cellPut (j := 0) 0 rfl (.int .i64 (r : Int))).cellPut (j := 1) 0 rfl (.int .i64 (s : Int)))
          clear H10 y0 y1 z0 z1
          generalize (V9.setCell ⟨B, 0, none⟩ (.int .i64 (r : Int))).setCell ⟨B, 1, none⟩ (.int .i64 (s : Int)) = V11 at *
          refine hK.out _ _ (HL0.out _ H12.out.to_ext) (fun hHeld => ?_)
          clear hK K
          try simp only [Act.put, List.setIfInBounds_toArray, List.set_cons_zero, List.set_cons_succ]
          refine wpAnyF_done (by kernel_rfl) ?_
          refine hM _ _ (Met.intro (hJ _ _ ?_))
          (repeat apply Exists.intro)
          refine ⟨?rel, rfl⟩
          case rel => exact ⟨A, B, rfl, rfl, HX0.out.trans H12.out.to_ext, H12.out.heap 1 rfl, H12.out.heap 0 rfl⟩
      · -- 6
        go_simp
        have H4 := Lib.hid (H2.out.new (.cells #[.int .i64 0, .int .i64 0] 68))
        clear H2
        generalize hz : V1.heap.size = A at *
        clear hz
        generalize hw : V1.alloc _ = V3 at *
        clear hw
        refine hK.out _ _ (HL0.out _ H4.out.to_ext) (fun hHeld => ?_)
        clear hK K
        try simp only [Act.put, List.setIfInBounds_toArray, List.set_cons_zero, List.set_cons_succ]
        refine wpAnyF_ready (rs := [5, 7]) (by kernel_rfl) rfl (AllReadyF.cons rfl (fun K hK => ?_) (AllReadyF.cons rfl (fun K hK => ?_) AllReadyF.nil))
        · -- 5
          go_simp
          go_at_call 61
          refine (HJ.out _ (HX0.out.trans H4.out.to_ext)).mono ?_
          rintro e V5 ⟨rfl, hx⟩
          have H6 := Lib.hid (H4.out.ext hx)
          clear H4 hx
          refine hK.out _ _ (HL0.out _ H6.out.to_ext) (fun hHeld => ?_)
          clear hK K
          try simp only [Act.put, List.setIfInBounds_toArray, List.set_cons_zero, List.set_cons_succ]
          refine wpAnyF_ready (rs := [7]) (by kernel_rfl) rfl (AllReadyF.cons rfl (fun K hK => ?_) AllReadyF.nil)
          go_simp
          have H8 := Lib.hid (H6.out.new (.cells #[.int .i64 0, .int .i64 0] 68))
          clear H6
          generalize hz : V5.heap.size = B at *
          clear hz
          generalize hw : V5.alloc _ = V7 at *
          clear hw
          refine hK.out _ _ (HL0.out _ H8.out.to_ext) (fun hHeld => ?_)
          clear hK K
          try simp only [Act.put, List.setIfInBounds_toArray, List.set_cons_zero, List.set_cons_succ]
          refine wpAnyF_ready (rs := [8]) (by kernel_rfl) rfl (AllReadyF.cons rfl (fun K hK => ?_) AllReadyF.nil)
          have y0 := H8.out.cell 0 (j := 0) rfl rfl
          have y1 := H8.out.cell 0 (j := 1) rfl rfl
          have z0 := H8.out.frozen 0 (j := 0) rfl
          have z1 := H8.out.frozen 0 (j := 1) rfl
          go_simp
          have H10 := Lib.hid ((H8.out.cellPut (j := 0) 0 rfl (.int .i64 (p : Int))).cellPut (j := 1) 0 rfl (.int .i64 (q : Int)))
          clear H8 y0 y1 z0 z1
          generalize (V7.setCell ⟨A, 0, none⟩ (.int .i64 (p : Int))).setCell ⟨A, 1, none⟩ (.int .i64 (q : Int)) = V9 at *
          refine hK.out _ _ (HL0.out _ H10.out.to_ext) (fun hHeld => ?_)
          clear hK K
          try simp only [Act.put, List.setIfInBounds_toArray, List.set_cons_zero, List.set_cons_succ]
          refine wpAnyF_ready (rs := [9]) (by kernel_rfl) rfl (AllReadyF.cons rfl (fun K hK => ?_) AllReadyF.nil)
          have y0 := H10.out.cell 1 (j := 0) rfl rfl
          have y1 := H10.out.cell 1 (j := 1) rfl rfl
          have z0 := H10.out.frozen 1 (j := 0) rfl
          have z1 := H10.out.frozen 1 (j := 1) rfl
          go_simp
          have H12 := Lib.hid ((H10.out.cellPut (j := 0) 1 rfl (.int .i64 (r : Int))).cellPut (j := 1) 1 rfl (.int .i64 (s : Int)))
          clear H10 y0 y1 z0 z1
          generalize (V9.setCell ⟨B, 0, none⟩ (.int .i64 (r : Int))).setCell ⟨B, 1, none⟩ (.int .i64 (s : Int)) = V11 at *
          refine hK.out _ _ (HL0.out _ H12.out.to_ext) (fun hHeld => ?_)
          clear hK K
          try simp only [Act.put, List.setIfInBounds_toArray, List.set_cons_zero, List.set_cons_succ]
          refine wpAnyF_done (by kernel_rfl) ?_
          refine hM _ _ (Met.intro (hJ _ _ ?_))
          (repeat apply Exists.intro)
          refine ⟨?rel, rfl⟩
          case rel => exact ⟨A, B, rfl, rfl, HX0.out.trans H12.out.to_ext, H12.out.heap 0 rfl, H12.out.heap 1 rfl⟩
        · -- 7
          go_simp
          have H6 := Lib.hid (H4.out.new (.cells #[.int .i64 0, .int .i64 0] 68))
          clear H4
          generalize hz : V3.heap.size = B at *
          clear hz
          generalize hw : V3.alloc _ = V5 at *
          clear hw
          refine hK.out _ _ (HL0.out _ H6.out.to_ext) (fun hHeld => ?_)
          clear hK K
          try simp only [Act.put, List.setIfInBounds_toArray, List.set_cons_zero, List.set_cons_succ]
          refine wpAnyF_ready (rs := [5]) (by kernel_rfl) rfl (AllReadyF.cons rfl (fun K hK => ?_) AllReadyF.nil)
          go_simp
          go_at_call 61
          refine (HJ.out _ (HX0.out.trans H6.out.to_ext)).mono ?_
          rintro e V7 ⟨rfl, hx⟩
          have H8 := Lib.hid (H6.out.ext hx)
          clear H6 hx
          refine hK.out _ _ (HL0.out _ H8.out.to_ext) (fun hHeld => ?_)
          clear hK K
          try simp only [Act.put, List.setIfInBounds_toArray, List.set_cons_zero, List.set_cons_succ]
          refine wpAnyF_ready (rs := [8]) (by kernel_rfl) rfl (AllReadyF.cons rfl (fun K hK => ?_) AllReadyF.nil)
          have y0 := H8.out.cell 0 (j := 0) rfl rfl
          have y1 := H8.out.cell 0 (j := 1) rfl rfl
          have z0 := H8.out.frozen 0 (j := 0) rfl
          have z1 := H8.out.frozen 0 (j := 1) rfl
          go_simp
          have H10 := Lib.hid ((H8.out.cellPut (j := 0) 0 rfl (.int .i64 (p : Int))).cellPut (j := 1) 0 rfl (.int .i64 (q : Int)))
          clear H8 y0 y1 z0 z1
          generalize (V7.setCell ⟨A, 0, none⟩ (.int .i64 (p : Int))).setCell ⟨A, 1, none⟩ (.int .i64 (q : Int)) = V9 at *
          refine hK.out _ _ (HL0.out _ H10.out.to_ext) (fun hHeld => ?_)
          clear hK K
          try simp only [Act.put, List.setIfInBounds_toArray, List.set_cons_zero, List.set_cons_succ]
          refine wpAnyF_ready (rs := [9]) (by kernel_rfl) rfl (AllReadyF.cons rfl (fun K hK => ?_) AllReadyF.nil)
          have y0 := H10.out.cell 1 (j := 0) rfl rfl
          have y1 := H10.out.cell 1 (j := 1) rfl rfl
          have z0 := H10.out.frozen 1 (j := 0) rfl
          have z1 := H10.out.frozen 1 (j := 1) rfl
          go_simp
          have H12 := Lib.hid ((H10.out.cellPut (j := 0) 1 rfl (.int .i64 (r : Int))).cellPut (j := 1) 1 rfl (.int .i64 (s : Int)))
          clear H10 y0 y1 z0 z1
          generalize (V9.setCell ⟨B, 0, none⟩ (.int .i64 (r : Int))).setCell ⟨B, 1, none⟩ (.int .i64 (s : Int)) = V11 at *
          refine hK.out _ _ (HL0.out _ H12.out.to_ext) (fun hHeld => ?_)
          clear hK K
          try simp only [Act.put, List.setIfInBounds_toArray, List.set_cons_zero, List.set_cons_succ]
          refine wpAnyF_done (by kernel_rfl) ?_
          refine hM _ _ (Met.intro (hJ _ _ ?_))
          (repeat apply Exists.intro)
          refine ⟨?rel, rfl⟩
          case rel => exact ⟨A, B, rfl, rfl, HX0.out.trans H12.out.to_ext, H12.out.heap 0 rfl, H12.out.heap 1 rfl⟩
      · -- 7
        go_simp
        have H4 := Lib.hid (H2.out.new (.cells #[.int .i64 0, .int .i64 0] 68))
        clear H2
        generalize hz : V1.heap.size = B at *
        clear hz
        generalize hw : V1.alloc _ = V3 at *
        clear hw
        refine hK.out _ _ (HL0.out _ H4.out.to_ext) (fun hHeld => ?_)
        clear hK K
        try simp only [Act.put, List.setIfInBounds_toArray, List.set_cons_zero, List.set_cons_succ]
        refine wpAnyF_ready (rs := [5, 6]) (by kernel_rfl) rfl (AllReadyF.cons rfl (fun K hK => ?_) (AllReadyF.cons rfl (fun K hK => ?_) AllReadyF.nil))
        · -- 5
          go_simp
          go_at_call 61
          refine (HJ.out _ (HX0.out.trans H4.out.to_ext)).mono ?_
          rintro e V5 ⟨rfl, hx⟩
          have H6 := Lib.hid (H4.out.ext hx)
          clear H4 hx
          refine hK.out _ _ (HL0.out _ H6.out.to_ext) (fun hHeld => ?_)
          clear hK K
          try simp only [Act.put, List.setIfInBounds_toArray, List.set_cons_zero, List.set_cons_succ]
          refine wpAnyF_ready (rs := [6]) (by kernel_rfl) rfl (AllReadyF.cons rfl (fun K hK => ?_) AllReadyF.nil)
          go_simp
          have H8 := Lib.hid (H6.out.new (.cells #[.int .i64 0, .int .i64 0] 68))
          clear H6
          generalize hz : V5.heap.size = A at *
          clear hz
          generalize hw : V5.alloc _ = V7 at *
          clear hw
          refine hK.out _ _ (HL0.out _ H8.out.to_ext) (fun hHeld => ?_)
          clear hK K
          try simp only [Act.put, List.setIfInBounds_toArray, List.set_cons_zero, List.set_cons_succ]
          refine wpAnyF_ready (rs := [8]) (by kernel_rfl) rfl (AllReadyF.cons rfl (fun K hK => ?_) AllReadyF.nil)
          have y0 := H8.out.cell 1 (j := 0) rfl rfl
          have y1 := H8.out.cell 1 (j := 1) rfl rfl
          have z0 := H8.out.frozen 1 (j := 0) rfl
          have z1 := H8.out.frozen 1 (j := 1) rfl
          go_simp
          have H10 := Lib.hid ((H8.out.cellPut (j := 0) 1 rfl (.int .i64 (p : Int))).cellPut (j := 1) 1 rfl (.int .i64 (q : Int)))
          clear H8 y0 y1 z0 z1
          generalize (V7.setCell ⟨A, 0, none⟩ (.int .i64 (p : Int))).setCell ⟨A, 1, none⟩ (.int .i64 (q : Int)) = V9 at *
          refine hK.out _ _ (HL0.out _ H10.out.to_ext) (fun hHeld => ?_)
          clear hK K
          try simp only [Act.put, List.setIfInBounds_toArray, List.set_cons_zero, List.set_cons_succ]
          refine wpAnyF_ready (rs := [9]) (by kernel_rfl) rfl (AllReadyF.cons rfl (fun K hK => ?_) AllReadyF.nil)
          have y0 := H10.out.cell 0 (j := 0) rfl rfl
          have y1 := H10.out.cell 0 (j := 1) rfl rfl
          have z0 := H10.out.frozen 0 (j := 0) rfl
          have z1 := H10.out.frozen 0 (j := 1) rfl
          go_simp
          have H12 := Lib.hid ((H10.out.cellPut (j := 0) 0 rfl (.int .i64 (r : Int))).cellPut (j := 1) 0 rfl (.int .i64 (s : Int)))
          clear H10 y0 y1 z0 z1
          generalize (V9.setCell ⟨B, 0, none⟩ (.int .i64 (r : Int))).setCell ⟨B, 1, none⟩ (.int .i64 (s : Int)) = V11 at *
          refine hK.out _ _ (HL0.out _ H12.out.to_ext) (fun hHeld => ?_)
          clear hK K
          try simp only [Act.put, List.setIfInBounds_toArray, List.set_cons_zero, List.set_cons_succ]
          refine wpAnyF_done (by kernel_rfl) ?_
          refine hM _ _ (Met.intro (hJ _ _ ?_))
          (repeat apply Exists.intro)
          refine ⟨?rel, rfl⟩
          case rel => exact ⟨A, B, rfl, rfl, HX0.out.trans H12.out.to_ext, H12.out.heap 1 rfl, H12.out.heap 0 rfl⟩
        · -- 6
          go_simp
          have H6 := Lib.hid (H4.out.new (.cells #[.int .i64 0, .int .i64 0] 68))
          clear H4
          generalize hz : V3.heap.size = A at *
          clear hz
          generalize hw : V3.alloc _ = V5 at *
          clear hw
          refine hK.out _ _ (HL0.out _ H6.out.to_ext) (fun hHeld => ?_)
          clear hK K
          try simp only [Act.put, List.setIfInBounds_toArray, List.set_cons_zero, List.set_cons_succ]
          refine wpAnyF_ready (rs := [5]) (by kernel_rfl) rfl (AllReadyF.cons rfl (fun K hK => ?_) AllReadyF.nil)
          go_simp
          go_at_call 61
          refine (HJ.out _ (HX0.out.trans H6.out.to_ext)).mono ?_
          rintro e V7 ⟨rfl, hx⟩
          have H8 := Lib.hid (H6.out.ext hx)
          clear H6 hx
          refine hK.out _ _ (HL0.out _ H8.out.to_ext) (fun hHeld => ?_)
          clear hK K
          try simp only [Act.put, List.setIfInBounds_toArray, List.set_cons_zero, List.set_cons_succ]
          refine wpAnyF_ready (rs := [8]) (by kernel_rfl) rfl (AllReadyF.cons rfl (fun K hK => ?_) AllReadyF.nil)
          have y0 := H8.out.cell 1 (j := 0) rfl rfl
          have y1 := H8.out.cell 1 (j := 1) rfl rfl
          have z0 := H8.out.frozen 1 (j := 0) rfl
          have z1 := H8.out.frozen 1 (j := 1) rfl
          go_simp
          have H10 := Lib.hid ((H8.out.cellPut (j := 0) 1 rfl (.int .i64 (p : Int))).cellPut (j := 1) 1 rfl (.int .i64 (q : Int)))
          clear H8 y0 y1 z0 z1
          generalize (V7.setCell ⟨A, 0, none⟩ (.int .i64 (p : Int))).setCell ⟨A, 1, none⟩ (.int .i64 (q : Int)) = V9 at *
          refine hK.out _ _ (HL0.out _ H10.out.to_ext) (fun hHeld => ?_)
          clear hK K
          try simp only [Act.put, List.setIfInBounds_toArray, List.set_cons_zero, List.set_cons_succ]
          refine wpAnyF_ready (rs := [9]) (by kernel_rfl) rfl (AllReadyF.cons rfl (fun K hK => ?_) AllReadyF.nil)
          have y0 := H10.out.cell 0 (j := 0) rfl rfl
          have y1 := H10.out.cell 0 (j := 1) rfl rfl
          have z0 := H10.out.frozen 0 (j := 0) rfl
          have z1 := H10.out.frozen 0 (j := 1) rfl
          go_simp
          have H12 := Lib.hid ((H10.out.cellPut (j := 0) 0 rfl (.int .i64 (r : Int))).cellPut (j := 1) 0 rfl (.int .i64 (s : Int)))
          clear H10 y0 y1 z0 z1
          generalize (V9.setCell ⟨B, 0, none⟩ (.int .i64 (r : Int))).setCell ⟨B, 1, none⟩ (.int .i64 (s : Int)) = V11 at *
          refine hK.out _ _ (HL0.out _ H12.out.to_ext) (fun hHeld => ?_)
          clear hK K
          try simp only [Act.put, List.setIfInBounds_toArray, List.set_cons_zero, List.set_cons_succ]
          refine wpAnyF_done (by kernel_rfl) ?_
          refine hM _ _ (Met.intro (hJ _ _ ?_))
          (repeat apply Exists.intro)
          refine ⟨?rel, rfl⟩
          case rel => exact ⟨A, B, rfl, rfl, HX0.out.trans H12.out.to_ext, H12.out.heap 1 rfl, H12.out.heap 0 rfl⟩
    · -- 6
      go_simp
      have H2 := Lib.hid (H0.out.new (.cells #[.int .i64 0, .int .i64 0] 68))
      clear H0
      generalize hz : V0.heap.size = A at *
      clear hz
      generalize hw : V0.alloc _ = V1 at *
      clear hw
      refine hK.out _ _ (HL0.out _ H2.out.to_ext) (fun hHeld => ?_)
      clear hK K
      try simp only [Act.put, List.setIfInBounds_toArray, List.set_cons_zero, List.set_cons_succ]
      refine wpAnyF_ready (rs := [2, 7]) (by kernel_rfl) rfl (AllReadyF.cons rfl (fun K hK => ?_) (AllReadyF.cons rfl (fun K hK => ?_) AllReadyF.nil))
      · -- 2
        go_simp
        go_at_call 61
        refine (HI.out _ (HX0.out.trans H2.out.to_ext)).mono ?_
        rintro e V3 ⟨rfl, hx⟩
        have H4 := Lib.hid (H2.out.ext hx)
        clear H2 hx
        refine hK.out _ _ (HL0.out _ H4.out.to_ext) (fun hHeld => ?_)
        clear hK K
        try simp only [Act.put, List.setIfInBounds_toArray, List.set_cons_zero, List.set_cons_succ]
        refine wpAnyF_ready (rs := [5, 7]) (by kernel_rfl) rfl (AllReadyF.cons rfl (fun K hK => ?_) (AllReadyF.cons rfl (fun K hK => ?_) AllReadyF.nil))
        · -- 5
          go_simp
          go_at_call 61
          refine (HJ.out _ (HX0.out.trans H4.out.to_ext)).mono ?_
          rintro e V5 ⟨rfl, hx⟩
          have H6 := Lib.hid (H4.out.ext hx)
          clear H4 hx
          refine hK.out _ _ (HL0.out _ H6.out.to_ext) (fun hHeld => ?_)
          clear hK K
          try simp only [Act.put, List.setIfInBounds_toArray, List.set_cons_zero, List.set_cons_succ]
          refine wpAnyF_ready (rs := [7]) (by kernel_rfl) rfl (AllReadyF.cons rfl (fun K hK => ?_) AllReadyF.nil)
          go_simp
          have H8 := Lib.hid (H6.out.new (.cells #[.int .i64 0, .int .i64 0] 68))
          clear H6
          generalize hz : V5.heap.size = B at *
          clear hz
          generalize hw : V5.alloc _ = V7 at *
          clear hw
          refine hK.out _ _ (HL0.out _ H8.out.to_ext) (fun hHeld => ?_)
          clear hK K
          try simp only [Act.put, List.setIfInBounds_toArray, List.set_cons_zero, List.set_cons_succ]
          refine wpAnyF_ready (rs := [8]) (by kernel_rfl) rfl (AllReadyF.cons rfl (fun K hK => ?_) AllReadyF.nil)
          have y0 := H8.out.cell 0 (j := 0) rfl rfl
          have y1 := H8.out.cell 0 (j := 1) rfl rfl
          have z0 := H8.out.frozen 0 (j := 0) rfl
          have z1 := H8.out.frozen 0 (j := 1) rfl
          go_simp
          have H10 := Lib.hid ((H8.out.cellPut (j := 0) 0 rfl (.int .i64 (p : Int))).cellPut (j := 1) 0 rfl (.int .i64 (q : Int)))
          clear H8 y0 y1 z0 z1
          generalize (V7.setCell ⟨A, 0, none⟩ (.int .i64 (p : Int))).setCell ⟨A, 1, none⟩ (.int .i64 (q : Int)) = V9 at *
          refine hK.out _ _ (HL0.out _ H10.out.to_ext) (fun hHeld => ?_)
          clear hK K
          try simp only [Act.put, List.setIfInBounds_toArray, List.set_cons_zero, List.set_cons_succ]
          refine wpAnyF_ready (rs := [9]) (by kernel_rfl) rfl (AllReadyF.cons rfl (fun K hK => ?_) AllReadyF.nil)
          have y0 := H10.out.cell 1 (j := 0) rfl rfl
          have y1 := H10.out.cell 1 (j := 1) rfl rfl
          have z0 := H10.out.frozen 1 (j := 0) rfl
          have z1 := H10.out.frozen 1 (j := 1) rfl
          go_simp
          have H12 := Lib.hid ((H10.out.cellPut (j := 0) 1 rfl (.int .i64 (r : Int))).cellPut (j := 1) 1 rfl (.int .i64 (s : Int)))
          clear H10 y0 y1 z0 z1
          generalize (V9.setCell ⟨B, 0, none⟩ (.int .i64 (r : Int))).setCell ⟨B, 1, none⟩ (.int .i64 (s : Int)) = V11 at *
          refine hK.out _ _ (HL0.out _ H12.out.to_ext) (fun hHeld => ?_)
          clear hK K
          try simp only [Act.put, List.setIfInBounds_toArray, List.set_cons_zero, List.set_cons_succ]
          refine wpAnyF_done (by kernel_rfl) ?_
          refine hM _ _ (Met.intro (hJ _ _ ?_))
          (repeat apply Exists.intro)
          refine ⟨?rel, rfl⟩
          case rel => exact ⟨A, B, rfl, rfl, HX0.out.trans H12.out.to_ext, H12.out.heap 0 rfl, H12.out.heap 1 rfl⟩
        · -- 7
          go_simp
          have H6 := Lib.hid (H4.out.new (.cells #[.int .i64 0, .int .i64 0] 68))
          clear H4
          generalize hz : V3.heap.size = B at *
          clear hz
          generalize hw : V3.alloc _ = V5 at *
          clear hw
          refine hK.out _ _ (HL0.out _ H6.out.to_ext) (fun hHeld => ?_)
          clear hK K
          try simp only [Act.put, List.setIfInBounds_toArray, List.set_cons_zero, List.set_cons_succ]
          refine wpAnyF_ready (rs := [5]) (by kernel_rfl) rfl (AllReadyF.cons rfl (fun K hK => ?_) AllReadyF.nil)
          go_simp
          go_at_call 61
          refine (HJ.out _ (HX0.out.trans H6.out.to_ext)).mono ?_
          rintro e V7 ⟨rfl, hx⟩
          have H8 := Lib.hid (H6.out.ext hx)
          clear H6 hx
          refine hK.out _ _ (HL0.out _ H8.out.to_ext) (fun hHeld => ?_)
          clear hK K
          try simp only [Act.put, List.setIfInBounds_toArray, List.set_cons_zero, List.set_cons_succ]
          refine wpAnyF_ready (rs := [8]) (by kernel_rfl) rfl (AllReadyF.cons rfl (fun K hK => ?_) AllReadyF.nil)
          have y0 := H8.out.cell 0 (j := 0) rfl rfl
          have y1 := H8.out.cell 0 (j := 1) rfl rfl
          have z0 := H8.out.frozen 0 (j := 0) rfl
          have z1 := H8.out.frozen 0 (j := 1) rfl
          go_simp
          have H10 := Lib.hid ((H8.out.cellPut (j := 0) 0 rfl (.int .i64 (p : Int))).cellPut (j := 1) 0 rfl (.int .i64 (q : Int)))
          clear H8 y0 y1 z0 z1
          generalize (V7.setCell ⟨A, 0, none⟩ (.int .i64 (p : Int))).setCell ⟨A, 1, none⟩ (.int .i64 (q : Int)) = V9 at *
          refine hK.out _ _ (HL0.out _ H10.out.to_ext) (fun hHeld => ?_)
          clear hK K
          try simp only [Act.put, List.setIfInBounds_toArray, List.set_cons_zero, List.set_cons_succ]
          refine wpAnyF_ready (rs := [9]) (by kernel_rfl) rfl (AllReadyF.cons rfl (fun K hK => ?_) AllReadyF.nil)
          have y0 := H10.out.cell 1 (j := 0) rfl rfl
          have y1 := H10.out.cell 1 (j := 1) rfl rfl
          have z0 := H10.out.frozen 1 (j := 0) rfl
          have z1 := H10.out.frozen 1 (j := 1) rfl
          go_simp
          have H12 := Lib.hid ((H10.out.cellPut (j := 0) 1 rfl (.int .i64 (r : Int))).cellPut (j := 1) 1 rfl (.int .i64 (s : Int)))
          clear H10 y0 y1 z0 z1
          generalize (V9.setCell ⟨B, 0, none⟩ (.int .i64 (r : Int))).setCell ⟨B, 1, none⟩ (.int .i64 (s : Int)) = V11 at *
          refine hK.out _ _ (HL0.out _ H12.out.to_ext) (fun hHeld => ?_)
          clear hK K
          try simp only [Act.put, List.setIfInBounds_toArray, List.set_cons_zero, List.set_cons_succ]
          refine wpAnyF_done (by kernel_rfl) ?_
          refine hM _ _ (Met.intro (hJ _ _ ?_))
          (repeat apply Exists.intro)
          refine ⟨?rel, rfl⟩
          case rel => exact ⟨A, B, rfl, rfl, HX0.out.trans H12.out.to_ext, H12.out.heap 0 rfl, H12.out.heap 1 rfl⟩
      · -- 7
        go_simp
        have H4 := Lib.hid (H2.out.new (.cells #[.int .i64 0, .int .i64 0] 68))
        clear H2
        generalize hz : V1.heap.size = B at *
        clear hz
        generalize hw : V1.alloc _ = V3 at *
        clear hw
        refine hK.out _ _ (HL0.out _ H4.out.to_ext) (fun hHeld => ?_)
        clear hK K
        try simp only [Act.put, List.setIfInBounds_toArray, List.set_cons_zero, List.set_cons_succ]
        refine wpAnyF_ready (rs := [2]) (by kernel_rfl) rfl (AllReadyF.cons rfl (fun K hK => ?_) AllReadyF.nil)
        go_simp
        go_at_call 61
        refine (HI.out _ (HX0.out.trans H4.out.to_ext)).mono ?_
        rintro e V5 ⟨rfl, hx⟩
        have H6 := Lib.hid (H4.out.ext hx)
        clear H4 hx
        refine hK.out _ _ (HL0.out _ H6.out.to_ext) (fun hHeld => ?_)
        clear hK K
        try simp only [Act.put, List.setIfInBounds_toArray, List.set_cons_zero, List.set_cons_succ]
        refine wpAnyF_ready (rs := [5]) (by kernel_rfl) rfl (AllReadyF.cons rfl (fun K hK => ?_) AllReadyF.nil)
        go_simp
        go_at_call 61
        refine (HJ.out _ (HX0.out.trans H6.out.to_ext)).mono ?_
        rintro e V7 ⟨rfl, hx⟩
        have H8 := Lib.hid (H6.out.ext hx)
        clear H6 hx
        refine hK.out _ _ (HL0.out _ H8.out.to_ext) (fun hHeld => ?_)
        clear hK K
        try simp only [Act.put, List.setIfInBounds_toArray, List.set_cons_zero, List.set_cons_succ]
        refine wpAnyF_ready (rs := [8]) (by kernel_rfl) rfl (AllReadyF.cons rfl (fun K hK => ?_) AllReadyF.nil)
        have y0 := H8.out.cell 0 (j := 0) rfl rfl
        have y1 := H8.out.cell 0 (j := 1) rfl rfl
        have z0 := H8.out.frozen 0 (j := 0) rfl
        have z1 := H8.out.frozen 0 (j := 1) rfl
        go_simp
        have H10 := Lib.hid ((H8.out.cellPut (j := 0) 0 rfl (.int .i64 (p : Int))).cellPut (j := 1) 0 rfl (.int .i64 (q : Int)))
        clear H8 y0 y1 z0 z1
        generalize (V7.setCell ⟨A, 0, none⟩ (.int .i64 (p : Int))).setCell ⟨A, 1, none⟩ (.int .i64 (q : Int)) = V9 at *
        refine hK.out _ _ (HL0.out _ H10.out.to_ext) (fun hHeld => ?_)
        clear hK K
        try simp only [Act.put, List.setIfInBounds_toArray, List.set_cons_zero, List.set_cons_succ]
        refine wpAnyF_ready (rs := [9]) (by kernel_rfl) rfl (AllReadyF.cons rfl (fun K hK => ?_) AllReadyF.nil)
        have y0 := H10.out.cell 1 (j := 0) rfl rfl
        have y1 := H10.out.cell 1 (j := 1) rfl rfl
        have z0 := H10.out.frozen 1 (j := 0) rfl
        have z1 := H10.out.frozen 1 (j := 1) rfl
        go_simp
        have H12 := Lib.hid ((H10.out.cellPut (j := 0) 1 rfl (.int .i64 (r : Int))).cellPut (j := 1) 1 rfl (.int .i64 (s : Int)))
        clear H10 y0 y1 z0 z1
        generalize (V9.setCell ⟨B, 0, none⟩ (.int .i64 (r : Int))).setCell ⟨B, 1, none⟩ (.int .i64 (s : Int)) = V11 at *
        refine hK.out _ _ (HL0.out _ H12.out.to_ext) (fun hHeld => ?_)
        clear hK K
        try simp only [Act.put, List.setIfInBounds_toArray, List.set_cons_zero, List.set_cons_succ]
        refine wpAnyF_done (by kernel_rfl) ?_
        refine hM _ _ (Met.intro (hJ _ _ ?_))
        (repeat apply Exists.intro)
        refine ⟨?rel, rfl⟩
        case rel => exact ⟨A, B, rfl, rfl, HX0.out.trans H12.out.to_ext, H12.out.heap 0 rfl, H12.out.heap 1 rfl⟩
    · -- 7
      go_simp
      have H2 := Lib.hid (H0.out.new (.cells #[.int .i64 0, .int .i64 0] 68))
      clear H0
      generalize hz : V0.heap.size = B at *
      clear hz
      generalize hw : V0.alloc _ = V1 at *
      clear hw
      refine hK.out _ _ (HL0.out _ H2.out.to_ext) (fun hHeld => ?_)
      clear hK K
      try simp only [Act.put, List.setIfInBounds_toArray, List.set_cons_zero, List.set_cons_succ]
      refine wpAnyF_ready (rs := [2, 6]) (by kernel_rfl) rfl (AllReadyF.cons rfl (fun K hK => ?_) (AllReadyF.cons rfl (fun K hK => ?_) AllReadyF.nil))
      · -- 2
        go_simp
        go_at_call 61
        refine (HI.out _ (HX0.out.trans H2.out.to_ext)).mono ?_
        rintro e V3 ⟨rfl, hx⟩
        have H4 := Lib.hid (H2.out.ext hx)
        clear H2 hx
        refine hK.out _ _ (HL0.out _ H4.out.to_ext) (fun hHeld => ?_)
        clear hK K
        try simp only [Act.put, List.setIfInBounds_toArray, List.set_cons_zero, List.set_cons_succ]
        refine wpAnyF_ready (rs := [5, 6]) (by kernel_rfl) rfl (AllReadyF.cons rfl (fun K hK => ?_) (AllReadyF.cons rfl (fun K hK => ?_) AllReadyF.nil))
        · -- 5
          go_simp
          go_at_call 61
          refine (HJ.out _ (HX0.out.trans H4.out.to_ext)).mono ?_
          rintro e V5 ⟨rfl, hx⟩
          have H6 := Lib.hid (H4.out.ext hx)
          clear H4 hx
          refine hK.out _ _ (HL0.out _ H6.out.to_ext) (fun hHeld => ?_)
          clear hK K
          try simp only [Act.put, List.setIfInBounds_toArray, List.set_cons_zero, List.set_cons_succ]
          refine wpAnyF_ready (rs := [6]) (by kernel_rfl) rfl (AllReadyF.cons rfl (fun K hK => ?_) AllReadyF.nil)
          go_simp
          have H8 := Lib.hid (H6.out.new (.cells #[.int .i64 0, .int .i64 0] 68))
          clear H6
          generalize hz : V5.heap.size = A at *
          clear hz
          generalize hw : V5.alloc _ = V7 at *
          clear hw
          refine hK.out _ _ (HL0.out _ H8.out.to_ext) (fun hHeld => ?_)
          clear hK K
          try simp only [Act.put, List.setIfInBounds_toArray, List.set_cons_zero, List.set_cons_succ]
          refine wpAnyF_ready (rs := [8]) (by kernel_rfl) rfl (AllReadyF.cons rfl (fun K hK => ?_) AllReadyF.nil)
          have y0 := H8.out.cell 1 (j := 0) rfl rfl
          have y1 := H8.out.cell 1 (j := 1) rfl rfl
          have z0 := H8.out.frozen 1 (j := 0) rfl
          have z1 := H8.out.frozen 1 (j := 1) rfl
          go_simp
          have H10 := Lib.hid ((H8.out.cellPut (j := 0) 1 rfl (.int .i64 (p : Int))).cellPut (j := 1) 1 rfl (.int .i64 (q : Int)))
          clear H8 y0 y1 z0 z1
          generalize (V7.setCell ⟨A, 0, none⟩ (.int .i64 (p : Int))).setCell ⟨A, 1, none⟩ (.int .i64 (q : Int)) = V9 at *
          refine hK.out _ _ (HL0.out _ H10.out.to_ext) (fun hHeld => ?_)
          clear hK K
          try simp only [Act.put, List.setIfInBounds_toArray, List.set_cons_zero, List.set_cons_succ]
          refine wpAnyF_ready (rs := [9]) (by kernel_rfl) rfl (AllReadyF.cons rfl (fun K hK => ?_) AllReadyF.nil)
          have y0 := H10.out.cell 0 (j := 0) rfl rfl
          have y1 := H10.out.cell 0 (j := 1) rfl rfl
          have z0 := H10.out.frozen 0 (j := 0) rfl
          have z1 := H10.out.frozen 0 (j := 1) rfl
          go_simp
          have H12 := Lib.hid ((H10.out.cellPut (j := 0) 0 rfl (.int .i64 (r : Int))).cellPut (j := 1) 0 rfl (.int .i64 (s : Int)))
          clear H10 y0 y1 z0 z1
          generalize (V9.setCell ⟨B, 0, none⟩ (.int .i64 (r : Int))).setCell ⟨B, 1, none⟩ (.int .i64 (s : Int)) = V11 at *
          refine hK.out _ _ (HL0.out _ H12.out.to_ext) (fun hHeld => ?_)
          clear hK K
          try simp only [Act.put, List.setIfInBounds_toArray, List.set_cons_zero, List.set_cons_succ]
          refine wpAnyF_done (by kernel_rfl) ?_
          refine hM _ _ (Met.intro (hJ _ _ ?_))
          (repeat apply Exists.intro)
          refine ⟨?rel, rfl⟩
          case rel => exact ⟨A, B, rfl, rfl, HX0.out.trans H12.out.to_ext, H12.out.heap 1 rfl, H12.out.heap 0 rfl⟩
        · -- 6
          go_simp
          have H6 := Lib.hid (H4.out.new (.cells #[.int .i64 0, .int .i64 0] 68))
          clear H4
          generalize hz : V3.heap.size = A at *
          clear hz
          generalize hw : V3.alloc _ = V5 at *
          clear hw
          refine hK.out _ _ (HL0.out _ H6.out.to_ext) (fun hHeld => ?_)
          clear hK K
          try simp only [Act.put, List.setIfInBounds_toArray, List.set_cons_zero, List.set_cons_succ]
          refine wpAnyF_ready (rs := [5]) (by kernel_rfl) rfl (AllReadyF.cons rfl (fun K hK => ?_) AllReadyF.nil)
          go_simp
          go_at_call 61
          refine (HJ.out _ (HX0.out.trans H6.out.to_ext)).mono ?_
          rintro e V7 ⟨rfl, hx⟩
          have H8 := Lib.hid (H6.out.ext hx)
          clear H6 hx
          refine hK.out _ _ (HL0.out _ H8.out.to_ext) (fun hHeld => ?_)
          clear hK K
          try simp only [Act.put, List.setIfInBounds_toArray, List.set_cons_zero, List.set_cons_succ]
          refine wpAnyF_ready (rs := [8]) (by kernel_rfl) rfl (AllReadyF.cons rfl (fun K hK => ?_) AllReadyF.nil)
          have y0 := H8.out.cell 1 (j := 0) rfl rfl
          have y1 := H8.out.cell 1 (j := 1) rfl rfl
          have z0 := H8.out.frozen 1 (j := 0) rfl
          have z1 := H8.out.frozen 1 (j := 1) rfl
          go_simp
          have H10 := Lib.hid ((H8.out.cellPut (j := 0) 1 rfl (.int .i64 (p : Int))).cellPut (j := 1) 1 rfl (.int .i64 (q : Int)))
          clear H8 y0 y1 z0 z1
          generalize (V7.setCell ⟨A, 0, none⟩ (.int .i64 (p : Int))).setCell ⟨A, 1, none⟩ (.int .i64 (q : Int)) = V9 at *
          refine hK.out _ _ (HL0.out _ H10.out.to_ext) (fun hHeld => ?_)
          clear hK K
          try simp only [Act.put, List.setIfInBounds_toArray, List.set_cons_zero, List.set_cons_succ]
          refine wpAnyF_ready (rs := [9]) (by kernel_rfl) rfl (AllReadyF.cons rfl (fun K hK => ?_) AllReadyF.nil)
          have y0 := H10.out.cell 0 (j := 0) rfl rfl
          have y1 := H10.out.cell 0 (j := 1) rfl rfl
          have z0 := H10.out.frozen 0 (j := 0) rfl
          have z1 := H10.out.frozen 0 (j := 1) rfl
          go_simp
          have H12 := Lib.hid ((H10.out.cellPut (j := 0) 0 rfl (.int .i64 (r : Int))).cellPut (j := 1) 0 rfl (.int .i64 (s : Int)))
          clear H10 y0 y1 z0 z1
          generalize (V9.setCell ⟨B, 0, none⟩ (.int .i64 (r : Int))).setCell ⟨B, 1, none⟩ (.int .i64 (s : Int)) = V11 at *
          refine hK.out _ _ (HL0.out _ H12.out.to_ext) (fun hHeld => ?_)
          clear hK K
          try simp only [Act.put, List.setIfInBounds_toArray, List.set_cons_zero, List.set_cons_succ]
          refine wpAnyF_done (by kernel_rfl) ?_
          refine hM _ _ (Met.intro (hJ _ _ ?_))
          (repeat apply Exists.intro)
          refine ⟨?rel, rfl⟩
          case rel => exact ⟨A, B, rfl, rfl, HX0.out.trans H12.out.to_ext, H12.out.heap 1 rfl, H12.out.heap 0 rfl⟩
      · -- 6
        go_simp
        have H4 := Lib.hid (H2.out.new (.cells #[.int .i64 0, .int .i64 0] 68))
        clear H2
        generalize hz : V1.heap.size = A at *
        clear hz
        generalize hw : V1.alloc _ = V3 at *
        clear hw
        refine hK.out _ _ (HL0.out _ H4.out.to_ext) (fun hHeld => ?_)
        clear hK K
        try simp only [Act.put, List.setIfInBounds_toArray, List.set_cons_zero, List.set_cons_succ]
        refine wpAnyF_ready (rs := [2]) (by kernel_rfl) rfl (AllReadyF.cons rfl (fun K hK => ?_) AllReadyF.nil)
        go_simp
        go_at_call 61
        refine (HI.out _ (HX0.out.trans H4.out.to_ext)).mono ?_
        rintro e V5 ⟨rfl, hx⟩
        have H6 := Lib.hid (H4.out.ext hx)
        clear H4 hx
        refine hK.out _ _ (HL0.out _ H6.out.to_ext) (fun hHeld => ?_)
        clear hK K
        try simp only [Act.put, List.setIfInBounds_toArray, List.set_cons_zero, List.set_cons_succ]
        refine wpAnyF_ready (rs := [5]) (by kernel_rfl) rfl (AllReadyF.cons rfl (fun K hK => ?_) AllReadyF.nil)
        go_simp
        go_at_call 61
        refine (HJ.out _ (HX0.out.trans H6.out.to_ext)).mono ?_
        rintro e V7 ⟨rfl, hx⟩
        have H8 := Lib.hid (H6.out.ext hx)
        clear H6 hx
        refine hK.out _ _ (HL0.out _ H8.out.to_ext) (fun hHeld => ?_)
        clear hK K
        try simp only [Act.put, List.setIfInBounds_toArray, List.set_cons_zero, List.set_cons_succ]
        refine wpAnyF_ready (rs := [8]) (by kernel_rfl) rfl (AllReadyF.cons rfl (fun K hK => ?_) AllReadyF.nil)
        have y0 := H8.out.cell 1 (j := 0) rfl rfl
        have y1 := H8.out.cell 1 (j := 1) rfl rfl
        have z0 := H8.out.frozen 1 (j := 0) rfl
        have z1 := H8.out.frozen 1 (j := 1) rfl
        go_simp
        have H10 := Lib.hid ((H8.out.cellPut (j := 0) 1 rfl (.int .i64 (p : Int))).cellPut (j := 1) 1 rfl (.int .i64 (q : Int)))
        clear H8 y0 y1 z0 z1
        generalize (V7.setCell ⟨A, 0, none⟩ (.int .i64 (p : Int))).setCell ⟨A, 1, none⟩ (.int .i64 (q : Int)) = V9 at *
        refine hK.out _ _ (HL0.out _ H10.out.to_ext) (fun hHeld => ?_)
        clear hK K
        try simp only [Act.put, List.setIfInBounds_toArray, List.set_cons_zero, List.set_cons_succ]
        refine wpAnyF_ready (rs := [9]) (by kernel_rfl) rfl (AllReadyF.cons rfl (fun K hK => ?_) AllReadyF.nil)
        have y0 := H10.out.cell 0 (j := 0) rfl rfl
        have y1 := H10.out.cell 0 (j := 1) rfl rfl
        have z0 := H10.out.frozen 0 (j := 0) rfl
        have z1 := H10.out.frozen 0 (j := 1) rfl
        go_simp
        have H12 := Lib.hid ((H10.out.cellPut (j := 0) 0 rfl (.int .i64 (r : Int))).cellPut (j := 1) 0 rfl (.int .i64 (s : Int)))
        clear H10 y0 y1 z0 z1
        generalize (V9.setCell ⟨B, 0, none⟩ (.int .i64 (r : Int))).setCell ⟨B, 1, none⟩ (.int .i64 (s : Int)) = V11 at *
        refine hK.out _ _ (HL0.out _ H12.out.to_ext) (fun hHeld => ?_)
        clear hK K
        try simp only [Act.put, List.setIfInBounds_toArray, List.set_cons_zero, List.set_cons_succ]
        refine wpAnyF_done (by kernel_rfl) ?_
        refine hM _ _ (Met.intro (hJ _ _ ?_))
        (repeat apply Exists.intro)
        refine ⟨?rel, rfl⟩
        case rel => exact ⟨A, B, rfl, rfl, HX0.out.trans H12.out.to_ext, H12.out.heap 1 rfl, H12.out.heap 0 rfl⟩
  case rest =>
    obtain ⟨A, B, rfl, rfl, HT⟩ := hcut
    obtain ⟨d0, d1, -, -⟩ := blk_cells HT.out.a
    obtain ⟨e0, e1, -, -⟩ := blk_cells HT.out.b
    have m1 : (p : Int) * (s : Int) = ((p * s : Nat) : Int) := (Int.natCast_mul _ _).symm
    have m2 : (q : Int) * (r : Int) = ((q * r : Nat) : Int) := (Int.natCast_mul _ _).symm
    have n1 : p * s ≤ 1000000 := Nat.mul_le_mul l1 l4
    have n2 : q * r ≤ 1000000 := Nat.mul_le_mul l2 l3
    generalize p * s = ps at *
    generalize q * r = qr at *
    go_wp2
    go_ret
    exact ⟨ret_bool (by rw [HF.out]), HT.out.x⟩
end Go.Proofs.Ytlaolokakaheaaa
