/-
  The drawn region of Stoned that appends a gap and its truth, whichever order is drawn: what it leaves. The rows must lie in memory of their own.
  The drawn region of Stoned that appends a gap of the finds, whichever order is drawn: what it leaves.
  The drawn region of Stoned that appends a stone and its number, whichever order is drawn: what it leaves.
-/
import Derived.Test.YtfognlealnhodaaY0
import Derived.RegionTactic
import Derived.Deep.CutBlock
namespace Go.Proofs.Ytfognlealnhodaa
open Go.RowKit

noncomputable def reg32_6 : Code := ((Try.f32.body.bind (regA 6)).getD .skip)
def frD6 (D most R1 R2 p x cnt i m tc : Nat) (ta : Option Addr) (X : Nat → Value) : Array Value := #[.pointer (some ⟨D, 0, none⟩), .int .i64 (most : Int), X 2, X 3, .pointer (some ⟨R1, 0, none⟩), .pointer (some ⟨R2, 0, none⟩), X 6, .pointer (some ⟨p, 0, none⟩), .slice ta m tc, .int .i64 (x : Int), X 10, X 11, X 12, X 13, X 14, X 15, X 16, X 17, X 18, X 19, .int .i64 (cnt : Int), .int .i64 (i : Int), X 22, X 23, X 24, X 25, X 26, X 27, X 28, X 29, X 30, X 31, X 32, X 33, X 34, X 35, X 36, X 37, X 38, X 39, X 40, X 41, X 42, X 43, X 44, X 45, X 46, X 47, X 48, X 49, X 50, X 51, X 52, X 53, X 54, X 55, X 56, X 57, X 58, X 59, X 60, X 61, X 62, X 63, X 64, X 65, X 66, X 67, X 68, X 69, X 70, X 71, X 72, X 73, X 74, X 75, X 76, X 77, X 78, X 79, X 80, X 81, X 82, X 83, X 84, X 85, X 86, X 87, X 88, X 89, X 90, X 91, X 92, X 93, X 94, X 95, X 96, X 97, X 98, X 99, X 100, X 101, X 102, X 103, X 104, X 105, X 106, X 107, X 108, X 109, X 110, X 111, X 112, X 113, X 114, X 115, X 116, X 117]

set_option maxRecDepth 1000000 in
set_option maxHeartbeats 16000000 in
theorem stoned_r6 (t : Array Value) (w0 V : World) (D n c k most R1 R2 p x cnt i m tc gc : Nat) (a ta ga : Option Addr) (gl : List (Nat × Nat)) (tl : List Nat) (Q : Exit → Act → World → Prop) (ht : t = frD6 D most R1 R2 p x cnt i m tc ta (fun j => t.getD j undef))
    (HH : Hid (Held w0 D a n c k [⟨28, 2, .slice ga m gc, m, flat 2 spC gl⟩, ⟨3, 1, .slice ta m tc, m, nums tl⟩] [(R1, .cells #[.slice none 0 0] 64), (R2, .cells #[.slice none 0 0, .slice none 0 0] 66), (p, .cells #[.slice ga m gc] 64)] V)) (HM : Hid (m ≤ 100 ∧ k ≤ 1000 ∧ x ≤ 60 ∧ 5 ≤ x))
    (HQ : Hid (∀ (t : Array Value) (W : World) (k' d1 d2 g1 c1 g2 c2 : Nat), t = frD6 D most R1 R2 p x cnt i (m + 1) c2 (some ⟨g2, 0, none⟩) (fun j => t.getD j undef) → d1 ≤ 4 → d2 ≤ 4 → k' ≤ k + 2 → Hid (Held w0 D a n c k' [⟨28, 2, .slice (some ⟨g1, 0, none⟩) (m + 1) c1, m + 1, flat 2 spC (gl ++ [(max 1 (x - d1), x + d2)])⟩, ⟨3, 1, .slice (some ⟨g2, 0, none⟩) (m + 1) c2, m + 1, nums (tl ++ [x])⟩] [(R1, .cells #[.slice none 0 0] 64), (R2, .cells #[.slice none 0 0, .slice none 0 0] 66), (p, .cells #[.slice (some ⟨g1, 0, none⟩) (m + 1) c1] 64)] W) → Q .normal ⟨t, []⟩ W)) :
    Code.wp Try.prog reg32_6 Q ⟨t, []⟩ V := by
  obtain ⟨i3, hi3, hz3, hs3, hb3⟩ := info_parts info3
  obtain ⟨i28, hi28, hz⟩ := Option.map_eq_some_iff.1 info28c
  simp only [Prod.mk.injEq] at hz
  obtain ⟨hz28, hs28, hb28⟩ := hz
  rw [ht]
  generalize (fun j => t.getD j undef) = X at *
  clear ht t
  conv => arg 2; whnf
  conv => arg 4; dsimp only [frD6]
  have HKk : Hid (k ≤ k + 0 ∧ k ≤ 1000) := by have := HM.out; show _ ∧ _; omega
  have H0 := Lib.hid (HH.out.ext (Ext.refl V).drew)
  refine wp_region_noPanic ?_
  refine wp_region_last [19, 20] (fun u => u.cell? ⟨p, 0, none⟩ = some (.slice ga m gc)) (by kernel_rfl) (H0.out.cell 2 rfl rfl) (fun hHeld => ?_)
  generalize V.drew = V0 at *
  clear HH
  refine wpAnyF_take [1, 13, 17, 18, 19, 20] (i := 0) (v := ?_) rfl (by kernel_rfl) (by kernel_rfl) (by kernel_rfl) (by kernel_rfl) (fun _ _ _ h => h) (Or.inl ⟨by rfl, ?_⟩) (by assumption) ?_
  rotate_left
  · intro wS hSw
    (try dsimp only at hSw)
    go_simp
    try with_reducible rfl
  try simp only [Act.put, List.setIfInBounds_toArray]
  refine wpAnyF_take [13, 17, 18, 19, 20] (i := 1) (v := ?_) rfl (by kernel_rfl) (by kernel_rfl) (by kernel_rfl) (by kernel_rfl) (fun _ _ _ h => h) (Or.inl ⟨by rfl, ?_⟩) (by assumption) ?_
  rotate_left
  · intro wS hSw
    (try dsimp only at hSw)
    go_simp
    try with_reducible rfl
  try simp only [Act.put]
  refine wpAnyF_take [5, 6, 11, 12, 13, 17, 18, 19, 20] (i := 2) (v := ?_) rfl (by kernel_rfl) (by kernel_rfl) (by kernel_rfl) (by kernel_rfl) (fun _ _ _ h => h) (Or.inl ⟨by rfl, ?_⟩) (by assumption) ?_
  rotate_left
  · intro wS hSw
    (try dsimp only at hSw)
    go_simp
    try with_reducible rfl
  try simp only [Act.put]
  refine wpAnyF_take [4, 5, 6, 9, 10, 11, 12, 13, 17, 18, 19, 20] (i := 3) (v := ?_) rfl (by kernel_rfl) (by kernel_rfl) (by kernel_rfl) (by kernel_rfl) (fun _ _ _ h => h) (Or.inl ⟨by rfl, ?_⟩) (by assumption) ?_
  rotate_left
  · intro wS hSw
    (try dsimp only at hSw)
    go_simp
    try with_reducible rfl
  try simp only [Act.put]
  refine wpAnyF_take [10, 11, 12, 13, 17, 18, 19, 20] (i := 7) (v := ?_) rfl (by kernel_rfl) (by kernel_rfl) (by kernel_rfl) (by kernel_rfl) (fun _ _ _ h => h) (Or.inl ⟨by rfl, ?_⟩) (by assumption) ?_
  rotate_left
  · intro wS hSw
    (try dsimp only at hSw)
    go_simp
    try with_reducible rfl
  try simp only [Act.put]
  refine wpAnyF_take [9, 10, 11, 12, 13, 17, 18, 19, 20] (i := 8) (v := ?_) rfl (by kernel_rfl) (by kernel_rfl) (by kernel_rfl) (by kernel_rfl) (fun _ _ _ h => h) (Or.inl ⟨by rfl, ?_⟩) (by assumption) ?_
  rotate_left
  · intro wS hSw
    (try dsimp only at hSw)
    go_simp
    try with_reducible rfl
  try simp only [Act.put]
  refine wpAnyF_take [17, 19, 20] (i := 14) (v := ?_) rfl (by kernel_rfl) (by kernel_rfl) (by kernel_rfl) (by kernel_rfl) (fun _ _ _ h => h) (Or.inl ⟨by rfl, ?_⟩) (by assumption) ?_
  rotate_left
  · intro wS hSw
    (try dsimp only at hSw)
    go_simp
    try with_reducible rfl
  try simp only [Act.put]
  refine wpAnyF_take [16, 17, 19, 20] (i := 15) (v := ?_) rfl (by kernel_rfl) (by kernel_rfl) (by kernel_rfl) (by kernel_rfl) (fun _ _ _ h => h) (Or.inl ⟨by rfl, ?_⟩) (by assumption) ?_
  rotate_left
  · intro wS hSw
    (try dsimp only at hSw)
    go_simp
    try with_reducible rfl
  try simp only [Act.put]
  refine wpAnyF_ready (rs := [4, 16]) (by kernel_rfl) rfl (AllReadyF.cons rfl (fun K hK => ?_) (AllReadyF.cons rfl (fun K hK => ?_) AllReadyF.nil))
  · -- 4
    go_simp
    go_at_call 18
    refine (draw_any D a n c k 5 _ H0.out.deck (by have := HKk.out; have := HM.out; omega) (by omega)).mono ?_
    rintro e V1 ⟨d1, k3, hd1, hk1, rfl, hD1, hg1⟩
    have H2 := Lib.hid (H0.out.dealt hD1 hg1)
    have HKk3 : Hid (k3 ≤ k + 1) := by have := HKk.out; show _ ≤ _; omega
    have Hd1 : Hid (d1 < 5) := by show _ < _; omega
    clear hD1 hg1 hk1 hd1 H0 HKk
    obtain ⟨lo, hlo⟩ : ∃ lo, max 1 (x - d1) = lo := ⟨_, rfl⟩
    have hwA : IntKind.i64.wrap ((x : Int) - (d1 : Int)) = (x : Int) - (d1 : Int) := by have := HM.out; have := Hd1.out; exact IntWalk.i64_in _ (by omega)
    have hmA : (if (1 : Int) < (x : Int) - (d1 : Int) then (x : Int) - (d1 : Int) else 1) = (lo : Int) := by split <;> omega
    have HLo := Lib.hid hlo
    clear hlo
    refine hK.out _ _ (H2.out.cell 2 rfl rfl) (fun hHeld => ?_)
    clear hK K
    try simp only [Act.put, List.setIfInBounds_toArray, List.set_cons_zero, List.set_cons_succ]
    refine wpAnyF_take [6, 11, 12, 13, 17, 18, 19, 20] (i := 5) (v := ?_) rfl (by kernel_rfl) (by kernel_rfl) (by kernel_rfl) (by kernel_rfl) (fun _ _ _ h => h) (Or.inl ⟨by rfl, ?_⟩) (by assumption) ?_
    rotate_left
    · intro wS hSw
      (try dsimp only at hSw)
      go_simp
      try with_reducible rfl
    try simp only [Act.put, List.setIfInBounds_toArray]
    refine wpAnyF_take [11, 12, 13, 17, 18, 19, 20] (i := 6) (v := ?_) rfl (by kernel_rfl) (by kernel_rfl) (by kernel_rfl) (by kernel_rfl) (fun _ _ _ h => h) (Or.inl ⟨by rfl, ?_⟩) (by assumption) ?_
    rotate_left
    · intro wS hSw
      (try dsimp only at hSw)
      go_simp
      try with_reducible rfl
    try simp only [Act.put]
    refine wpAnyF_ready (rs := [9, 16]) (by kernel_rfl) rfl (AllReadyF.cons rfl (fun K hK => ?_) (AllReadyF.cons rfl (fun K hK => ?_) AllReadyF.nil))
    · -- 9
      go_simp
      go_at_call 18
      refine (draw_any D a n c k3 5 _ H2.out.deck (by have := HKk3.out; have := HM.out; omega) (by omega)).mono ?_
      rintro e V4 ⟨d2, k6, hd2, hk1, rfl, hD1, hg1⟩
      have H5 := Lib.hid (H2.out.dealt hD1 hg1)
      have HKk6 : Hid (k6 ≤ k + 2) := by have := HKk3.out; show _ ≤ _; omega
      have Hd2 : Hid (d2 < 5) := by show _ < _; omega
      clear hD1 hg1 hk1 hd2 H2 HKk3
      obtain ⟨hi, hhi⟩ : ∃ hi, x + d2 = hi := ⟨_, rfl⟩
      have hwB : IntKind.i64.wrap ((x : Int) + (d2 : Int)) = (hi : Int) := by have := HM.out; have := Hd2.out; rw [IntWalk.i64_in _ (by omega)]; omega
      have HHi := Lib.hid hhi
      clear hhi
      refine hK.out _ _ (H5.out.cell 2 rfl rfl) (fun hHeld => ?_)
      clear hK K
      try simp only [Act.put, List.setIfInBounds_toArray, List.set_cons_zero, List.set_cons_succ]
      refine wpAnyF_take [11, 12, 13, 17, 18, 19, 20] (i := 10) (v := ?_) rfl (by kernel_rfl) (by kernel_rfl) (by kernel_rfl) (by kernel_rfl) (fun _ _ _ h => h) (Or.inl ⟨by rfl, ?_⟩) (by assumption) ?_
      rotate_left
      · intro wS hSw
        (try dsimp only at hSw)
        go_simp
        try with_reducible rfl
      try simp only [Act.put, List.setIfInBounds_toArray]
      refine wpAnyF_ready (rs := [11, 16]) (by kernel_rfl) rfl (AllReadyF.cons rfl (fun K hK => ?_) (AllReadyF.cons rfl (fun K hK => ?_) AllReadyF.nil))
      · -- 11
        go_simp
        go_at_call 24
        refine (span_any _ _ _).mono ?_
        rintro e w' ⟨rfl, rfl⟩
        have H8 := Lib.hid (H5.out.ext ((Ext.refl _).alloc (.cells #[.int .i64 (lo : Int), .int .i64 (hi : Int)] 28)))
        clear H5
        generalize V4.alloc (.cells #[.int .i64 (lo : Int), .int .i64 (hi : Int)] 28) = V7 at *
        refine hK.out _ _ (H8.out.cell 2 rfl rfl) (fun hHeld => ?_)
        clear hK K
        try simp only [Act.put, List.setIfInBounds_toArray, List.set_cons_zero, List.set_cons_succ]
        refine wpAnyF_ready (rs := [12, 16]) (by kernel_rfl) rfl (AllReadyF.cons rfl (fun K hK => ?_) (AllReadyF.cons rfl (fun K hK => ?_) AllReadyF.nil))
        · -- 12
          go_simp
          have H10 := Lib.hid (H8.out.new (.cells #[.int .i64 (lo : Int), .int .i64 (hi : Int)] 28))
          clear H8
          generalize hz : V7.heap.size = bG at *
          clear hz
          generalize hw : V7.alloc _ = V9 at *
          clear hw
          refine hK.out _ _ (H10.out.cell 2 rfl rfl) (fun hHeld => ?_)
          clear hK K
          try simp only [Act.put, List.setIfInBounds_toArray, List.set_cons_zero, List.set_cons_succ]
          refine wpAnyF_ready (rs := [13, 16]) (by kernel_rfl) rfl (AllReadyF.cons rfl (fun K hK => ?_) (AllReadyF.cons rfl (fun K hK => ?_) AllReadyF.nil))
          · -- 13
            refine step_append_lies _ rfl (.tmp 26) (.tmp 37) 26 rfl w0.heap.size 28 i28 (.agg #[.int .i64 0, .int .i64 0]) 2 16 Try.underlying26 hi28 hz28 hs28 hb28 rfl (by decide) (.slice ga m gc) m (flat 2 spC gl) ?_ (H10.out.row 0 _ rfl) ⟨bG, 0, none⟩ 1 1 (flat 2 spC [(lo, hi)]) ?_ rfl (World.news_of_block (H10.out.heap 3 rfl)) (spans_one _) (by decide) (by have := HM.out; unfold maxLen; omega) (by have := HM.out; omega) H10.out.keep.size _ rfl ?_
            · rfl
            · rfl
            intro g1 c1 V11 hown2 hgrow hwh hgl
            rw [← flat_append] at hown2
            have H12 := Lib.hid (H10.out.grown (i := 0) rfl hown2 hgrow hwh)
            clear hown2 hgrow hwh hgl H10
            refine hK.out _ _ (H12.out.cell 2 rfl rfl) (fun hHeld => ?_)
            clear hK K
            try simp only [Act.put, List.setIfInBounds_toArray]
            refine wpAnyF_take [19, 20] (i := 18) (v := ?_) rfl (by kernel_rfl) (by kernel_rfl) (by kernel_rfl) (by kernel_rfl) (fun _ _ _ h => h) (Or.inl ⟨by rfl, ?_⟩) (by assumption) ?_
            rotate_left
            · intro wS hSw
              (try dsimp only at hSw)
              go_simp
              try with_reducible rfl
            try simp only [Act.put]
            refine wpAnyF_ready (rs := [16]) (by kernel_rfl) rfl (AllReadyF.cons rfl (fun K hK => ?_) AllReadyF.nil)
            go_simp
            have H14 := Lib.hid (H12.out.new (.cells #[.int .i64 (x : Int)] 3))
            clear H12
            generalize hz : V11.heap.size = bT at *
            clear hz
            generalize hw : V11.alloc _ = V13 at *
            clear hw
            refine hK.out _ _ (H14.out.cell 2 rfl rfl) (fun hHeld => ?_)
            clear hK K
            try simp only [Act.put, List.setIfInBounds_toArray, List.set_cons_zero, List.set_cons_succ]
            refine wpAnyF_ready (rs := [17]) (by kernel_rfl) rfl (AllReadyF.cons rfl (fun K hK => ?_) AllReadyF.nil)
            refine step_append_lies _ rfl (.tmp 39) (.tmp 41) 25 rfl w0.heap.size 3 i3 (.int .i64 0) 1 8 Try.underlying25 hi3 hz3 hs3 hb3 rfl (by decide) (.slice ta m tc) m (nums tl) ?_ (H14.out.row 1 _ rfl) ⟨bT, 0, none⟩ 1 1 (nums [x]) ?_ rfl (World.news_of_block (H14.out.heap 4 rfl)) (nums_one _) (by decide) (by have := HM.out; unfold maxLen; omega) (by have := HM.out; omega) H14.out.keep.size _ rfl ?_
            · rfl
            · rfl
            intro g2 c2 V15 hown2 hgrow hwh hgl
            rw [← nums_append] at hown2
            have H16 := Lib.hid (H14.out.grown (i := 1) rfl hown2 hgrow hwh)
            clear hown2 hgrow hwh hgl H14
            refine hK.out _ _ (H16.out.cell 2 rfl rfl) (fun hHeld => ?_)
            clear hK K
            try simp only [Act.put, List.setIfInBounds_toArray]
            refine wpAnyF_ready (rs := [19]) (by kernel_rfl) rfl (AllReadyF.last rfl rfl (fun K hK => ?_) AllReadyF.nil)
            have y0 := H16.out.cell 2 (j := 0) rfl rfl
            have f0 := H16.out.frozen 2 (j := 0) rfl
            go_simp
            have H18 := Lib.hid (H16.out.cellPut (j := 0) 2 rfl (.slice (some ⟨g1, 0, none⟩) (m + 1) c1))
            clear H16 y0 f0
            generalize V15.setCell ⟨p, 0, none⟩ (.slice (some ⟨g1, 0, none⟩) (m + 1) c1) = V17 at *
            refine hK.out _ _ ?_
            clear hK K
            try simp only [Act.put, List.setIfInBounds_toArray, List.set_cons_zero, List.set_cons_succ]
            refine wpAnyF_ready (rs := [20]) (by kernel_rfl) rfl (AllReadyF.last rfl rfl (fun K hK => ?_) AllReadyF.nil)
            go_simp
            refine hK.out _ _ ?_
            clear hK K
            try simp only [Act.put, List.setIfInBounds_toArray, List.set_cons_zero, List.set_cons_succ]
            refine wpAnyF_done (by kernel_rfl) ?_
            have hh := H18.out.drop (blks := [(R1, .cells #[.slice none 0 0] 64), (R2, .cells #[.slice none 0 0, .slice none 0 0] 66), (p, .cells #[.slice (some ⟨g1, 0, none⟩) (m + 1) c1] 64)]) [_, _]
            rw [← HLo.out, ← HHi.out] at hh
            exact HQ.out _ _ _ d1 d2 g1 c1 g2 c2 rfl (by have := Hd1.out; omega) (by have := Hd2.out; omega) (by have := HKk6.out; omega) hh
          · -- 16
            go_simp
            have H12 := Lib.hid (H10.out.new (.cells #[.int .i64 (x : Int)] 3))
            clear H10
            generalize hz : V9.heap.size = bT at *
            clear hz
            generalize hw : V9.alloc _ = V11 at *
            clear hw
            refine hK.out _ _ (H12.out.cell 2 rfl rfl) (fun hHeld => ?_)
            clear hK K
            try simp only [Act.put, List.setIfInBounds_toArray, List.set_cons_zero, List.set_cons_succ]
            refine wpAnyF_ready (rs := [13]) (by kernel_rfl) rfl (AllReadyF.cons rfl (fun K hK => ?_) AllReadyF.nil)
            refine step_append_lies _ rfl (.tmp 26) (.tmp 37) 26 rfl w0.heap.size 28 i28 (.agg #[.int .i64 0, .int .i64 0]) 2 16 Try.underlying26 hi28 hz28 hs28 hb28 rfl (by decide) (.slice ga m gc) m (flat 2 spC gl) ?_ (H12.out.row 0 _ rfl) ⟨bG, 0, none⟩ 1 1 (flat 2 spC [(lo, hi)]) ?_ rfl (World.news_of_block (H12.out.heap 3 rfl)) (spans_one _) (by decide) (by have := HM.out; unfold maxLen; omega) (by have := HM.out; omega) H12.out.keep.size _ rfl ?_
            · rfl
            · rfl
            intro g1 c1 V13 hown2 hgrow hwh hgl
            rw [← flat_append] at hown2
            have H14 := Lib.hid (H12.out.grown (i := 0) rfl hown2 hgrow hwh)
            clear hown2 hgrow hwh hgl H12
            refine hK.out _ _ (H14.out.cell 2 rfl rfl) (fun hHeld => ?_)
            clear hK K
            try simp only [Act.put, List.setIfInBounds_toArray]
            refine wpAnyF_take [19, 20] (i := 18) (v := ?_) rfl (by kernel_rfl) (by kernel_rfl) (by kernel_rfl) (by kernel_rfl) (fun _ _ _ h => h) (Or.inl ⟨by rfl, ?_⟩) (by assumption) ?_
            rotate_left
            · intro wS hSw
              (try dsimp only at hSw)
              go_simp
              try with_reducible rfl
            try simp only [Act.put]
            refine wpAnyF_ready (rs := [17]) (by kernel_rfl) rfl (AllReadyF.cons rfl (fun K hK => ?_) AllReadyF.nil)
            refine step_append_lies _ rfl (.tmp 39) (.tmp 41) 25 rfl w0.heap.size 3 i3 (.int .i64 0) 1 8 Try.underlying25 hi3 hz3 hs3 hb3 rfl (by decide) (.slice ta m tc) m (nums tl) ?_ (H14.out.row 1 _ rfl) ⟨bT, 0, none⟩ 1 1 (nums [x]) ?_ rfl (World.news_of_block (H14.out.heap 4 rfl)) (nums_one _) (by decide) (by have := HM.out; unfold maxLen; omega) (by have := HM.out; omega) H14.out.keep.size _ rfl ?_
            · rfl
            · rfl
            intro g2 c2 V15 hown2 hgrow hwh hgl
            rw [← nums_append] at hown2
            have H16 := Lib.hid (H14.out.grown (i := 1) rfl hown2 hgrow hwh)
            clear hown2 hgrow hwh hgl H14
            refine hK.out _ _ (H16.out.cell 2 rfl rfl) (fun hHeld => ?_)
            clear hK K
            try simp only [Act.put]
            refine wpAnyF_ready (rs := [19]) (by kernel_rfl) rfl (AllReadyF.last rfl rfl (fun K hK => ?_) AllReadyF.nil)
            have y0 := H16.out.cell 2 (j := 0) rfl rfl
            have f0 := H16.out.frozen 2 (j := 0) rfl
            go_simp
            have H18 := Lib.hid (H16.out.cellPut (j := 0) 2 rfl (.slice (some ⟨g1, 0, none⟩) (m + 1) c1))
            clear H16 y0 f0
            generalize V15.setCell ⟨p, 0, none⟩ (.slice (some ⟨g1, 0, none⟩) (m + 1) c1) = V17 at *
            refine hK.out _ _ ?_
            clear hK K
            try simp only [Act.put, List.setIfInBounds_toArray, List.set_cons_zero, List.set_cons_succ]
            refine wpAnyF_ready (rs := [20]) (by kernel_rfl) rfl (AllReadyF.last rfl rfl (fun K hK => ?_) AllReadyF.nil)
            go_simp
            refine hK.out _ _ ?_
            clear hK K
            try simp only [Act.put, List.setIfInBounds_toArray, List.set_cons_zero, List.set_cons_succ]
            refine wpAnyF_done (by kernel_rfl) ?_
            have hh := H18.out.drop (blks := [(R1, .cells #[.slice none 0 0] 64), (R2, .cells #[.slice none 0 0, .slice none 0 0] 66), (p, .cells #[.slice (some ⟨g1, 0, none⟩) (m + 1) c1] 64)]) [_, _]
            rw [← HLo.out, ← HHi.out] at hh
            exact HQ.out _ _ _ d1 d2 g1 c1 g2 c2 rfl (by have := Hd1.out; omega) (by have := Hd2.out; omega) (by have := HKk6.out; omega) hh
        · -- 16
          go_simp
          have H10 := Lib.hid (H8.out.new (.cells #[.int .i64 (x : Int)] 3))
          clear H8
          generalize hz : V7.heap.size = bT at *
          clear hz
          generalize hw : V7.alloc _ = V9 at *
          clear hw
          refine hK.out _ _ (H10.out.cell 2 rfl rfl) (fun hHeld => ?_)
          clear hK K
          try simp only [Act.put, List.setIfInBounds_toArray, List.set_cons_zero, List.set_cons_succ]
          refine wpAnyF_ready (rs := [12]) (by kernel_rfl) rfl (AllReadyF.cons rfl (fun K hK => ?_) AllReadyF.nil)
          go_simp
          have H12 := Lib.hid (H10.out.new (.cells #[.int .i64 (lo : Int), .int .i64 (hi : Int)] 28))
          clear H10
          generalize hz : V9.heap.size = bG at *
          clear hz
          generalize hw : V9.alloc _ = V11 at *
          clear hw
          refine hK.out _ _ (H12.out.cell 2 rfl rfl) (fun hHeld => ?_)
          clear hK K
          try simp only [Act.put, List.setIfInBounds_toArray, List.set_cons_zero, List.set_cons_succ]
          refine wpAnyF_ready (rs := [13]) (by kernel_rfl) rfl (AllReadyF.cons rfl (fun K hK => ?_) AllReadyF.nil)
          refine step_append_lies _ rfl (.tmp 26) (.tmp 37) 26 rfl w0.heap.size 28 i28 (.agg #[.int .i64 0, .int .i64 0]) 2 16 Try.underlying26 hi28 hz28 hs28 hb28 rfl (by decide) (.slice ga m gc) m (flat 2 spC gl) ?_ (H12.out.row 0 _ rfl) ⟨bG, 0, none⟩ 1 1 (flat 2 spC [(lo, hi)]) ?_ rfl (World.news_of_block (H12.out.heap 4 rfl)) (spans_one _) (by decide) (by have := HM.out; unfold maxLen; omega) (by have := HM.out; omega) H12.out.keep.size _ rfl ?_
          · rfl
          · rfl
          intro g1 c1 V13 hown2 hgrow hwh hgl
          rw [← flat_append] at hown2
          have H14 := Lib.hid (H12.out.grown (i := 0) rfl hown2 hgrow hwh)
          clear hown2 hgrow hwh hgl H12
          refine hK.out _ _ (H14.out.cell 2 rfl rfl) (fun hHeld => ?_)
          clear hK K
          try simp only [Act.put, List.setIfInBounds_toArray]
          refine wpAnyF_take [19, 20] (i := 18) (v := ?_) rfl (by kernel_rfl) (by kernel_rfl) (by kernel_rfl) (by kernel_rfl) (fun _ _ _ h => h) (Or.inl ⟨by rfl, ?_⟩) (by assumption) ?_
          rotate_left
          · intro wS hSw
            (try dsimp only at hSw)
            go_simp
            try with_reducible rfl
          try simp only [Act.put]
          refine wpAnyF_ready (rs := [17]) (by kernel_rfl) rfl (AllReadyF.cons rfl (fun K hK => ?_) AllReadyF.nil)
          refine step_append_lies _ rfl (.tmp 39) (.tmp 41) 25 rfl w0.heap.size 3 i3 (.int .i64 0) 1 8 Try.underlying25 hi3 hz3 hs3 hb3 rfl (by decide) (.slice ta m tc) m (nums tl) ?_ (H14.out.row 1 _ rfl) ⟨bT, 0, none⟩ 1 1 (nums [x]) ?_ rfl (World.news_of_block (H14.out.heap 3 rfl)) (nums_one _) (by decide) (by have := HM.out; unfold maxLen; omega) (by have := HM.out; omega) H14.out.keep.size _ rfl ?_
          · rfl
          · rfl
          intro g2 c2 V15 hown2 hgrow hwh hgl
          rw [← nums_append] at hown2
          have H16 := Lib.hid (H14.out.grown (i := 1) rfl hown2 hgrow hwh)
          clear hown2 hgrow hwh hgl H14
          refine hK.out _ _ (H16.out.cell 2 rfl rfl) (fun hHeld => ?_)
          clear hK K
          try simp only [Act.put]
          refine wpAnyF_ready (rs := [19]) (by kernel_rfl) rfl (AllReadyF.last rfl rfl (fun K hK => ?_) AllReadyF.nil)
          have y0 := H16.out.cell 2 (j := 0) rfl rfl
          have f0 := H16.out.frozen 2 (j := 0) rfl
          go_simp
          have H18 := Lib.hid (H16.out.cellPut (j := 0) 2 rfl (.slice (some ⟨g1, 0, none⟩) (m + 1) c1))
          clear H16 y0 f0
          generalize V15.setCell ⟨p, 0, none⟩ (.slice (some ⟨g1, 0, none⟩) (m + 1) c1) = V17 at *
          refine hK.out _ _ ?_
          clear hK K
          try simp only [Act.put, List.setIfInBounds_toArray, List.set_cons_zero, List.set_cons_succ]
          refine wpAnyF_ready (rs := [20]) (by kernel_rfl) rfl (AllReadyF.last rfl rfl (fun K hK => ?_) AllReadyF.nil)
          go_simp
          refine hK.out _ _ ?_
          clear hK K
          try simp only [Act.put, List.setIfInBounds_toArray, List.set_cons_zero, List.set_cons_succ]
          refine wpAnyF_done (by kernel_rfl) ?_
          have hh := H18.out.drop (blks := [(R1, .cells #[.slice none 0 0] 64), (R2, .cells #[.slice none 0 0, .slice none 0 0] 66), (p, .cells #[.slice (some ⟨g1, 0, none⟩) (m + 1) c1] 64)]) [_, _]
          rw [← HLo.out, ← HHi.out] at hh
          exact HQ.out _ _ _ d1 d2 g1 c1 g2 c2 rfl (by have := Hd1.out; omega) (by have := Hd2.out; omega) (by have := HKk6.out; omega) hh
      · -- 16
        go_simp
        have H8 := Lib.hid (H5.out.new (.cells #[.int .i64 (x : Int)] 3))
        clear H5
        generalize hz : V4.heap.size = bT at *
        clear hz
        generalize hw : V4.alloc _ = V7 at *
        clear hw
        refine hK.out _ _ (H8.out.cell 2 rfl rfl) (fun hHeld => ?_)
        clear hK K
        try simp only [Act.put, List.setIfInBounds_toArray, List.set_cons_zero, List.set_cons_succ]
        refine wpAnyF_ready (rs := [11]) (by kernel_rfl) rfl (AllReadyF.cons rfl (fun K hK => ?_) AllReadyF.nil)
        go_simp
        go_at_call 24
        refine (span_any _ _ _).mono ?_
        rintro e w' ⟨rfl, rfl⟩
        have H10 := Lib.hid (H8.out.ext ((Ext.refl _).alloc (.cells #[.int .i64 (lo : Int), .int .i64 (hi : Int)] 28)))
        clear H8
        generalize V7.alloc (.cells #[.int .i64 (lo : Int), .int .i64 (hi : Int)] 28) = V9 at *
        refine hK.out _ _ (H10.out.cell 2 rfl rfl) (fun hHeld => ?_)
        clear hK K
        try simp only [Act.put, List.setIfInBounds_toArray, List.set_cons_zero, List.set_cons_succ]
        refine wpAnyF_ready (rs := [12]) (by kernel_rfl) rfl (AllReadyF.cons rfl (fun K hK => ?_) AllReadyF.nil)
        go_simp
        have H12 := Lib.hid (H10.out.new (.cells #[.int .i64 (lo : Int), .int .i64 (hi : Int)] 28))
        clear H10
        generalize hz : V9.heap.size = bG at *
        clear hz
        generalize hw : V9.alloc _ = V11 at *
        clear hw
        refine hK.out _ _ (H12.out.cell 2 rfl rfl) (fun hHeld => ?_)
        clear hK K
        try simp only [Act.put, List.setIfInBounds_toArray, List.set_cons_zero, List.set_cons_succ]
        refine wpAnyF_ready (rs := [13]) (by kernel_rfl) rfl (AllReadyF.cons rfl (fun K hK => ?_) AllReadyF.nil)
        refine step_append_lies _ rfl (.tmp 26) (.tmp 37) 26 rfl w0.heap.size 28 i28 (.agg #[.int .i64 0, .int .i64 0]) 2 16 Try.underlying26 hi28 hz28 hs28 hb28 rfl (by decide) (.slice ga m gc) m (flat 2 spC gl) ?_ (H12.out.row 0 _ rfl) ⟨bG, 0, none⟩ 1 1 (flat 2 spC [(lo, hi)]) ?_ rfl (World.news_of_block (H12.out.heap 4 rfl)) (spans_one _) (by decide) (by have := HM.out; unfold maxLen; omega) (by have := HM.out; omega) H12.out.keep.size _ rfl ?_
        · rfl
        · rfl
        intro g1 c1 V13 hown2 hgrow hwh hgl
        rw [← flat_append] at hown2
        have H14 := Lib.hid (H12.out.grown (i := 0) rfl hown2 hgrow hwh)
        clear hown2 hgrow hwh hgl H12
        refine hK.out _ _ (H14.out.cell 2 rfl rfl) (fun hHeld => ?_)
        clear hK K
        try simp only [Act.put, List.setIfInBounds_toArray]
        refine wpAnyF_take [19, 20] (i := 18) (v := ?_) rfl (by kernel_rfl) (by kernel_rfl) (by kernel_rfl) (by kernel_rfl) (fun _ _ _ h => h) (Or.inl ⟨by rfl, ?_⟩) (by assumption) ?_
        rotate_left
        · intro wS hSw
          (try dsimp only at hSw)
          go_simp
          try with_reducible rfl
        try simp only [Act.put]
        refine wpAnyF_ready (rs := [17]) (by kernel_rfl) rfl (AllReadyF.cons rfl (fun K hK => ?_) AllReadyF.nil)
        refine step_append_lies _ rfl (.tmp 39) (.tmp 41) 25 rfl w0.heap.size 3 i3 (.int .i64 0) 1 8 Try.underlying25 hi3 hz3 hs3 hb3 rfl (by decide) (.slice ta m tc) m (nums tl) ?_ (H14.out.row 1 _ rfl) ⟨bT, 0, none⟩ 1 1 (nums [x]) ?_ rfl (World.news_of_block (H14.out.heap 3 rfl)) (nums_one _) (by decide) (by have := HM.out; unfold maxLen; omega) (by have := HM.out; omega) H14.out.keep.size _ rfl ?_
        · rfl
        · rfl
        intro g2 c2 V15 hown2 hgrow hwh hgl
        rw [← nums_append] at hown2
        have H16 := Lib.hid (H14.out.grown (i := 1) rfl hown2 hgrow hwh)
        clear hown2 hgrow hwh hgl H14
        refine hK.out _ _ (H16.out.cell 2 rfl rfl) (fun hHeld => ?_)
        clear hK K
        try simp only [Act.put]
        refine wpAnyF_ready (rs := [19]) (by kernel_rfl) rfl (AllReadyF.last rfl rfl (fun K hK => ?_) AllReadyF.nil)
        have y0 := H16.out.cell 2 (j := 0) rfl rfl
        have f0 := H16.out.frozen 2 (j := 0) rfl
        go_simp
        have H18 := Lib.hid (H16.out.cellPut (j := 0) 2 rfl (.slice (some ⟨g1, 0, none⟩) (m + 1) c1))
        clear H16 y0 f0
        generalize V15.setCell ⟨p, 0, none⟩ (.slice (some ⟨g1, 0, none⟩) (m + 1) c1) = V17 at *
        refine hK.out _ _ ?_
        clear hK K
        try simp only [Act.put, List.setIfInBounds_toArray, List.set_cons_zero, List.set_cons_succ]
        refine wpAnyF_ready (rs := [20]) (by kernel_rfl) rfl (AllReadyF.last rfl rfl (fun K hK => ?_) AllReadyF.nil)
        go_simp
        refine hK.out _ _ ?_
        clear hK K
        try simp only [Act.put, List.setIfInBounds_toArray, List.set_cons_zero, List.set_cons_succ]
        refine wpAnyF_done (by kernel_rfl) ?_
        have hh := H18.out.drop (blks := [(R1, .cells #[.slice none 0 0] 64), (R2, .cells #[.slice none 0 0, .slice none 0 0] 66), (p, .cells #[.slice (some ⟨g1, 0, none⟩) (m + 1) c1] 64)]) [_, _]
        rw [← HLo.out, ← HHi.out] at hh
        exact HQ.out _ _ _ d1 d2 g1 c1 g2 c2 rfl (by have := Hd1.out; omega) (by have := Hd2.out; omega) (by have := HKk6.out; omega) hh
    · -- 16
      go_simp
      have H5 := Lib.hid (H2.out.new (.cells #[.int .i64 (x : Int)] 3))
      clear H2
      generalize hz : V1.heap.size = bT at *
      clear hz
      generalize hw : V1.alloc _ = V4 at *
      clear hw
      refine hK.out _ _ (H5.out.cell 2 rfl rfl) (fun hHeld => ?_)
      clear hK K
      try simp only [Act.put, List.setIfInBounds_toArray, List.set_cons_zero, List.set_cons_succ]
      refine wpAnyF_ready (rs := [9]) (by kernel_rfl) rfl (AllReadyF.cons rfl (fun K hK => ?_) AllReadyF.nil)
      go_simp
      go_at_call 18
      refine (draw_any D a n c k3 5 _ H5.out.deck (by have := HKk3.out; have := HM.out; omega) (by omega)).mono ?_
      rintro e V6 ⟨d2, k8, hd2, hk1, rfl, hD1, hg1⟩
      have H7 := Lib.hid (H5.out.dealt hD1 hg1)
      have HKk8 : Hid (k8 ≤ k + 2) := by have := HKk3.out; show _ ≤ _; omega
      have Hd2 : Hid (d2 < 5) := by show _ < _; omega
      clear hD1 hg1 hk1 hd2 H5 HKk3
      obtain ⟨hi, hhi⟩ : ∃ hi, x + d2 = hi := ⟨_, rfl⟩
      have hwB : IntKind.i64.wrap ((x : Int) + (d2 : Int)) = (hi : Int) := by have := HM.out; have := Hd2.out; rw [IntWalk.i64_in _ (by omega)]; omega
      have HHi := Lib.hid hhi
      clear hhi
      refine hK.out _ _ (H7.out.cell 2 rfl rfl) (fun hHeld => ?_)
      clear hK K
      try simp only [Act.put, List.setIfInBounds_toArray, List.set_cons_zero, List.set_cons_succ]
      refine wpAnyF_take [11, 12, 13, 17, 18, 19, 20] (i := 10) (v := ?_) rfl (by kernel_rfl) (by kernel_rfl) (by kernel_rfl) (by kernel_rfl) (fun _ _ _ h => h) (Or.inl ⟨by rfl, ?_⟩) (by assumption) ?_
      rotate_left
      · intro wS hSw
        (try dsimp only at hSw)
        go_simp
        try with_reducible rfl
      try simp only [Act.put, List.setIfInBounds_toArray]
      refine wpAnyF_ready (rs := [11]) (by kernel_rfl) rfl (AllReadyF.cons rfl (fun K hK => ?_) AllReadyF.nil)
      go_simp
      go_at_call 24
      refine (span_any _ _ _).mono ?_
      rintro e w' ⟨rfl, rfl⟩
      have H10 := Lib.hid (H7.out.ext ((Ext.refl _).alloc (.cells #[.int .i64 (lo : Int), .int .i64 (hi : Int)] 28)))
      clear H7
      generalize V6.alloc (.cells #[.int .i64 (lo : Int), .int .i64 (hi : Int)] 28) = V9 at *
      refine hK.out _ _ (H10.out.cell 2 rfl rfl) (fun hHeld => ?_)
      clear hK K
      try simp only [Act.put, List.setIfInBounds_toArray, List.set_cons_zero, List.set_cons_succ]
      refine wpAnyF_ready (rs := [12]) (by kernel_rfl) rfl (AllReadyF.cons rfl (fun K hK => ?_) AllReadyF.nil)
      go_simp
      have H12 := Lib.hid (H10.out.new (.cells #[.int .i64 (lo : Int), .int .i64 (hi : Int)] 28))
      clear H10
      generalize hz : V9.heap.size = bG at *
      clear hz
      generalize hw : V9.alloc _ = V11 at *
      clear hw
      refine hK.out _ _ (H12.out.cell 2 rfl rfl) (fun hHeld => ?_)
      clear hK K
      try simp only [Act.put, List.setIfInBounds_toArray, List.set_cons_zero, List.set_cons_succ]
      refine wpAnyF_ready (rs := [13]) (by kernel_rfl) rfl (AllReadyF.cons rfl (fun K hK => ?_) AllReadyF.nil)
      refine step_append_lies _ rfl (.tmp 26) (.tmp 37) 26 rfl w0.heap.size 28 i28 (.agg #[.int .i64 0, .int .i64 0]) 2 16 Try.underlying26 hi28 hz28 hs28 hb28 rfl (by decide) (.slice ga m gc) m (flat 2 spC gl) ?_ (H12.out.row 0 _ rfl) ⟨bG, 0, none⟩ 1 1 (flat 2 spC [(lo, hi)]) ?_ rfl (World.news_of_block (H12.out.heap 4 rfl)) (spans_one _) (by decide) (by have := HM.out; unfold maxLen; omega) (by have := HM.out; omega) H12.out.keep.size _ rfl ?_
      · rfl
      · rfl
      intro g1 c1 V13 hown2 hgrow hwh hgl
      rw [← flat_append] at hown2
      have H14 := Lib.hid (H12.out.grown (i := 0) rfl hown2 hgrow hwh)
      clear hown2 hgrow hwh hgl H12
      refine hK.out _ _ (H14.out.cell 2 rfl rfl) (fun hHeld => ?_)
      clear hK K
      try simp only [Act.put, List.setIfInBounds_toArray]
      refine wpAnyF_take [19, 20] (i := 18) (v := ?_) rfl (by kernel_rfl) (by kernel_rfl) (by kernel_rfl) (by kernel_rfl) (fun _ _ _ h => h) (Or.inl ⟨by rfl, ?_⟩) (by assumption) ?_
      rotate_left
      · intro wS hSw
        (try dsimp only at hSw)
        go_simp
        try with_reducible rfl
      try simp only [Act.put]
      refine wpAnyF_ready (rs := [17]) (by kernel_rfl) rfl (AllReadyF.cons rfl (fun K hK => ?_) AllReadyF.nil)
      refine step_append_lies _ rfl (.tmp 39) (.tmp 41) 25 rfl w0.heap.size 3 i3 (.int .i64 0) 1 8 Try.underlying25 hi3 hz3 hs3 hb3 rfl (by decide) (.slice ta m tc) m (nums tl) ?_ (H14.out.row 1 _ rfl) ⟨bT, 0, none⟩ 1 1 (nums [x]) ?_ rfl (World.news_of_block (H14.out.heap 3 rfl)) (nums_one _) (by decide) (by have := HM.out; unfold maxLen; omega) (by have := HM.out; omega) H14.out.keep.size _ rfl ?_
      · rfl
      · rfl
      intro g2 c2 V15 hown2 hgrow hwh hgl
      rw [← nums_append] at hown2
      have H16 := Lib.hid (H14.out.grown (i := 1) rfl hown2 hgrow hwh)
      clear hown2 hgrow hwh hgl H14
      refine hK.out _ _ (H16.out.cell 2 rfl rfl) (fun hHeld => ?_)
      clear hK K
      try simp only [Act.put]
      refine wpAnyF_ready (rs := [19]) (by kernel_rfl) rfl (AllReadyF.last rfl rfl (fun K hK => ?_) AllReadyF.nil)
      have y0 := H16.out.cell 2 (j := 0) rfl rfl
      have f0 := H16.out.frozen 2 (j := 0) rfl
      go_simp
      have H18 := Lib.hid (H16.out.cellPut (j := 0) 2 rfl (.slice (some ⟨g1, 0, none⟩) (m + 1) c1))
      clear H16 y0 f0
      generalize V15.setCell ⟨p, 0, none⟩ (.slice (some ⟨g1, 0, none⟩) (m + 1) c1) = V17 at *
      refine hK.out _ _ ?_
      clear hK K
      try simp only [Act.put, List.setIfInBounds_toArray, List.set_cons_zero, List.set_cons_succ]
      refine wpAnyF_ready (rs := [20]) (by kernel_rfl) rfl (AllReadyF.last rfl rfl (fun K hK => ?_) AllReadyF.nil)
      go_simp
      refine hK.out _ _ ?_
      clear hK K
      try simp only [Act.put, List.setIfInBounds_toArray, List.set_cons_zero, List.set_cons_succ]
      refine wpAnyF_done (by kernel_rfl) ?_
      have hh := H18.out.drop (blks := [(R1, .cells #[.slice none 0 0] 64), (R2, .cells #[.slice none 0 0, .slice none 0 0] 66), (p, .cells #[.slice (some ⟨g1, 0, none⟩) (m + 1) c1] 64)]) [_, _]
      rw [← HLo.out, ← HHi.out] at hh
      exact HQ.out _ _ _ d1 d2 g1 c1 g2 c2 rfl (by have := Hd1.out; omega) (by have := Hd2.out; omega) (by have := HKk8.out; omega) hh
  · -- 16
    go_simp
    have H2 := Lib.hid (H0.out.new (.cells #[.int .i64 (x : Int)] 3))
    clear H0
    generalize hz : V0.heap.size = bT at *
    clear hz
    generalize hw : V0.alloc _ = V1 at *
    clear hw
    refine hK.out _ _ (H2.out.cell 2 rfl rfl) (fun hHeld => ?_)
    clear hK K
    try simp only [Act.put, List.setIfInBounds_toArray, List.set_cons_zero, List.set_cons_succ]
    refine wpAnyF_ready (rs := [4]) (by kernel_rfl) rfl (AllReadyF.cons rfl (fun K hK => ?_) AllReadyF.nil)
    go_simp
    go_at_call 18
    refine (draw_any D a n c k 5 _ H2.out.deck (by have := HKk.out; have := HM.out; omega) (by omega)).mono ?_
    rintro e V3 ⟨d1, k5, hd1, hk1, rfl, hD1, hg1⟩
    have H4 := Lib.hid (H2.out.dealt hD1 hg1)
    have HKk5 : Hid (k5 ≤ k + 1) := by have := HKk.out; show _ ≤ _; omega
    have Hd1 : Hid (d1 < 5) := by show _ < _; omega
    clear hD1 hg1 hk1 hd1 H2 HKk
    obtain ⟨lo, hlo⟩ : ∃ lo, max 1 (x - d1) = lo := ⟨_, rfl⟩
    have hwA : IntKind.i64.wrap ((x : Int) - (d1 : Int)) = (x : Int) - (d1 : Int) := by have := HM.out; have := Hd1.out; exact IntWalk.i64_in _ (by omega)
    have hmA : (if (1 : Int) < (x : Int) - (d1 : Int) then (x : Int) - (d1 : Int) else 1) = (lo : Int) := by split <;> omega
    have HLo := Lib.hid hlo
    clear hlo
    refine hK.out _ _ (H4.out.cell 2 rfl rfl) (fun hHeld => ?_)
    clear hK K
    try simp only [Act.put, List.setIfInBounds_toArray, List.set_cons_zero, List.set_cons_succ]
    refine wpAnyF_take [6, 11, 12, 13, 17, 18, 19, 20] (i := 5) (v := ?_) rfl (by kernel_rfl) (by kernel_rfl) (by kernel_rfl) (by kernel_rfl) (fun _ _ _ h => h) (Or.inl ⟨by rfl, ?_⟩) (by assumption) ?_
    rotate_left
    · intro wS hSw
      (try dsimp only at hSw)
      go_simp
      try with_reducible rfl
    try simp only [Act.put, List.setIfInBounds_toArray]
    refine wpAnyF_take [11, 12, 13, 17, 18, 19, 20] (i := 6) (v := ?_) rfl (by kernel_rfl) (by kernel_rfl) (by kernel_rfl) (by kernel_rfl) (fun _ _ _ h => h) (Or.inl ⟨by rfl, ?_⟩) (by assumption) ?_
    rotate_left
    · intro wS hSw
      (try dsimp only at hSw)
      go_simp
      try with_reducible rfl
    try simp only [Act.put]
    refine wpAnyF_ready (rs := [9]) (by kernel_rfl) rfl (AllReadyF.cons rfl (fun K hK => ?_) AllReadyF.nil)
    go_simp
    go_at_call 18
    refine (draw_any D a n c k5 5 _ H4.out.deck (by have := HKk5.out; have := HM.out; omega) (by omega)).mono ?_
    rintro e V6 ⟨d2, k8, hd2, hk1, rfl, hD1, hg1⟩
    have H7 := Lib.hid (H4.out.dealt hD1 hg1)
    have HKk8 : Hid (k8 ≤ k + 2) := by have := HKk5.out; show _ ≤ _; omega
    have Hd2 : Hid (d2 < 5) := by show _ < _; omega
    clear hD1 hg1 hk1 hd2 H4 HKk5
    obtain ⟨hi, hhi⟩ : ∃ hi, x + d2 = hi := ⟨_, rfl⟩
    have hwB : IntKind.i64.wrap ((x : Int) + (d2 : Int)) = (hi : Int) := by have := HM.out; have := Hd2.out; rw [IntWalk.i64_in _ (by omega)]; omega
    have HHi := Lib.hid hhi
    clear hhi
    refine hK.out _ _ (H7.out.cell 2 rfl rfl) (fun hHeld => ?_)
    clear hK K
    try simp only [Act.put, List.setIfInBounds_toArray, List.set_cons_zero, List.set_cons_succ]
    refine wpAnyF_take [11, 12, 13, 17, 18, 19, 20] (i := 10) (v := ?_) rfl (by kernel_rfl) (by kernel_rfl) (by kernel_rfl) (by kernel_rfl) (fun _ _ _ h => h) (Or.inl ⟨by rfl, ?_⟩) (by assumption) ?_
    rotate_left
    · intro wS hSw
      (try dsimp only at hSw)
      go_simp
      try with_reducible rfl
    try simp only [Act.put, List.setIfInBounds_toArray]
    refine wpAnyF_ready (rs := [11]) (by kernel_rfl) rfl (AllReadyF.cons rfl (fun K hK => ?_) AllReadyF.nil)
    go_simp
    go_at_call 24
    refine (span_any _ _ _).mono ?_
    rintro e w' ⟨rfl, rfl⟩
    have H10 := Lib.hid (H7.out.ext ((Ext.refl _).alloc (.cells #[.int .i64 (lo : Int), .int .i64 (hi : Int)] 28)))
    clear H7
    generalize V6.alloc (.cells #[.int .i64 (lo : Int), .int .i64 (hi : Int)] 28) = V9 at *
    refine hK.out _ _ (H10.out.cell 2 rfl rfl) (fun hHeld => ?_)
    clear hK K
    try simp only [Act.put, List.setIfInBounds_toArray, List.set_cons_zero, List.set_cons_succ]
    refine wpAnyF_ready (rs := [12]) (by kernel_rfl) rfl (AllReadyF.cons rfl (fun K hK => ?_) AllReadyF.nil)
    go_simp
    have H12 := Lib.hid (H10.out.new (.cells #[.int .i64 (lo : Int), .int .i64 (hi : Int)] 28))
    clear H10
    generalize hz : V9.heap.size = bG at *
    clear hz
    generalize hw : V9.alloc _ = V11 at *
    clear hw
    refine hK.out _ _ (H12.out.cell 2 rfl rfl) (fun hHeld => ?_)
    clear hK K
    try simp only [Act.put, List.setIfInBounds_toArray, List.set_cons_zero, List.set_cons_succ]
    refine wpAnyF_ready (rs := [13]) (by kernel_rfl) rfl (AllReadyF.cons rfl (fun K hK => ?_) AllReadyF.nil)
    refine step_append_lies _ rfl (.tmp 26) (.tmp 37) 26 rfl w0.heap.size 28 i28 (.agg #[.int .i64 0, .int .i64 0]) 2 16 Try.underlying26 hi28 hz28 hs28 hb28 rfl (by decide) (.slice ga m gc) m (flat 2 spC gl) ?_ (H12.out.row 0 _ rfl) ⟨bG, 0, none⟩ 1 1 (flat 2 spC [(lo, hi)]) ?_ rfl (World.news_of_block (H12.out.heap 4 rfl)) (spans_one _) (by decide) (by have := HM.out; unfold maxLen; omega) (by have := HM.out; omega) H12.out.keep.size _ rfl ?_
    · rfl
    · rfl
    intro g1 c1 V13 hown2 hgrow hwh hgl
    rw [← flat_append] at hown2
    have H14 := Lib.hid (H12.out.grown (i := 0) rfl hown2 hgrow hwh)
    clear hown2 hgrow hwh hgl H12
    refine hK.out _ _ (H14.out.cell 2 rfl rfl) (fun hHeld => ?_)
    clear hK K
    try simp only [Act.put, List.setIfInBounds_toArray]
    refine wpAnyF_take [19, 20] (i := 18) (v := ?_) rfl (by kernel_rfl) (by kernel_rfl) (by kernel_rfl) (by kernel_rfl) (fun _ _ _ h => h) (Or.inl ⟨by rfl, ?_⟩) (by assumption) ?_
    rotate_left
    · intro wS hSw
      (try dsimp only at hSw)
      go_simp
      try with_reducible rfl
    try simp only [Act.put]
    refine wpAnyF_ready (rs := [17]) (by kernel_rfl) rfl (AllReadyF.cons rfl (fun K hK => ?_) AllReadyF.nil)
    refine step_append_lies _ rfl (.tmp 39) (.tmp 41) 25 rfl w0.heap.size 3 i3 (.int .i64 0) 1 8 Try.underlying25 hi3 hz3 hs3 hb3 rfl (by decide) (.slice ta m tc) m (nums tl) ?_ (H14.out.row 1 _ rfl) ⟨bT, 0, none⟩ 1 1 (nums [x]) ?_ rfl (World.news_of_block (H14.out.heap 3 rfl)) (nums_one _) (by decide) (by have := HM.out; unfold maxLen; omega) (by have := HM.out; omega) H14.out.keep.size _ rfl ?_
    · rfl
    · rfl
    intro g2 c2 V15 hown2 hgrow hwh hgl
    rw [← nums_append] at hown2
    have H16 := Lib.hid (H14.out.grown (i := 1) rfl hown2 hgrow hwh)
    clear hown2 hgrow hwh hgl H14
    refine hK.out _ _ (H16.out.cell 2 rfl rfl) (fun hHeld => ?_)
    clear hK K
    try simp only [Act.put]
    refine wpAnyF_ready (rs := [19]) (by kernel_rfl) rfl (AllReadyF.last rfl rfl (fun K hK => ?_) AllReadyF.nil)
    have y0 := H16.out.cell 2 (j := 0) rfl rfl
    have f0 := H16.out.frozen 2 (j := 0) rfl
    go_simp
    have H18 := Lib.hid (H16.out.cellPut (j := 0) 2 rfl (.slice (some ⟨g1, 0, none⟩) (m + 1) c1))
    clear H16 y0 f0
    generalize V15.setCell ⟨p, 0, none⟩ (.slice (some ⟨g1, 0, none⟩) (m + 1) c1) = V17 at *
    refine hK.out _ _ ?_
    clear hK K
    try simp only [Act.put, List.setIfInBounds_toArray, List.set_cons_zero, List.set_cons_succ]
    refine wpAnyF_ready (rs := [20]) (by kernel_rfl) rfl (AllReadyF.last rfl rfl (fun K hK => ?_) AllReadyF.nil)
    go_simp
    refine hK.out _ _ ?_
    clear hK K
    try simp only [Act.put, List.setIfInBounds_toArray, List.set_cons_zero, List.set_cons_succ]
    refine wpAnyF_done (by kernel_rfl) ?_
    have hh := H18.out.drop (blks := [(R1, .cells #[.slice none 0 0] 64), (R2, .cells #[.slice none 0 0, .slice none 0 0] 66), (p, .cells #[.slice (some ⟨g1, 0, none⟩) (m + 1) c1] 64)]) [_, _]
    rw [← HLo.out, ← HHi.out] at hh
    exact HQ.out _ _ _ d1 d2 g1 c1 g2 c2 rfl (by have := Hd1.out; omega) (by have := Hd2.out; omega) (by have := HKk8.out; omega) hh
end Go.Proofs.Ytfognlealnhodaa

namespace Go.Proofs.Ytfognlealnhodaa
open Go.RowKit

noncomputable def reg32_22 : Code := ((Try.f32.body.bind (regA 22)).getD .skip)
def frD22 (D most R1 R2 p pf cnt k0 m tc n0 rc L : Nat) (ta ra : Option Addr) (X : Nat → Value) : Array Value := #[.pointer (some ⟨D, 0, none⟩), .int .i64 (most : Int), X 2, X 3, .pointer (some ⟨R1, 0, none⟩), .pointer (some ⟨R2, 0, none⟩), X 6, .pointer (some ⟨p, 0, none⟩), .slice ta m tc, X 9, .pointer (some ⟨pf, 0, none⟩), .slice ra n0 rc, .int .i64 (k0 : Int), .int .i64 (n0 : Int), .int .i64 (L : Int), X 15, X 16, X 17, X 18, X 19, X 20, X 21, X 22, X 23, X 24, X 25, X 26, X 27, X 28, X 29, X 30, X 31, X 32, X 33, X 34, X 35, X 36, X 37, X 38, X 39, X 40, X 41, X 42, X 43, X 44, X 45, X 46, .int .i64 (cnt : Int), .int .i64 (k0 : Int), X 49, X 50, X 51, X 52, X 53, X 54, X 55, X 56, X 57, X 58, X 59, X 60, X 61, X 62, X 63, X 64, X 65, X 66, X 67, X 68, X 69, X 70, X 71, X 72, X 73, X 74, X 75, X 76, X 77, X 78, X 79, X 80, X 81, X 82, X 83, X 84, X 85, X 86, X 87, X 88, X 89, X 90, X 91, X 92, X 93, X 94, X 95, X 96, X 97, X 98, X 99, X 100, X 101, X 102, X 103, X 104, X 105, X 106, X 107, X 108, X 109, X 110, X 111, X 112, X 113, X 114, X 115, X 116, X 117]

set_option maxRecDepth 1000000 in
set_option maxHeartbeats 16000000 in
theorem stoned_r22 (t : Array Value) (w0 V : World) (D n c k most R1 R2 p pf cnt k0 m tc gc fn fc n0 nc rc : Nat) (a ta ga fa na ra : Option Addr) (gl fl : List (Nat × Nat)) (tl rl : List Nat) (nl : List Int) (L : Nat) (Q : Exit → Act → World → Prop) (ht : t = frD22 D most R1 R2 p pf cnt k0 m tc n0 rc L ta ra (fun j => t.getD j undef))
    (HH : Hid (Held w0 D a n c k [⟨28, 2, .slice ga m gc, m, flat 2 spC gl⟩, ⟨3, 1, .slice ta m tc, m, nums tl⟩, ⟨28, 2, .slice fa fn fc, fn, flat 2 spC fl⟩, ⟨3, 1, .slice na n0 nc, n0, intsV nl⟩, ⟨3, 1, .slice ra n0 rc, n0, nums rl⟩] [(R1, .cells #[.slice none 0 0] 64), (R2, .cells #[.slice none 0 0, .slice none 0 0] 66), (p, .cells #[.slice ga m gc] 64), (pf, .cells #[.slice fa fn fc, .slice na n0 nc] 66)] V)) (HM : Hid (fn ≤ 100 ∧ k ≤ 1000 ∧ L ≤ 1000))
    (HQ : Hid (∀ (t : Array Value) (W : World) (k' d1 d2 g1 c1 : Nat), t = frD22 D most R1 R2 p pf cnt k0 m tc n0 rc L ta ra (fun j => t.getD j undef) → d1 ≤ 3 → d2 ≤ 3 → k' ≤ k + 2 → Hid (Held w0 D a n c k' [⟨28, 2, .slice ga m gc, m, flat 2 spC gl⟩, ⟨3, 1, .slice ta m tc, m, nums tl⟩, ⟨28, 2, .slice (some ⟨g1, 0, none⟩) (fn + 1) c1, fn + 1, flat 2 spC (fl ++ [(max 1 (L - d1), L + d2)])⟩, ⟨3, 1, .slice na n0 nc, n0, intsV nl⟩, ⟨3, 1, .slice ra n0 rc, n0, nums rl⟩] [(R1, .cells #[.slice none 0 0] 64), (R2, .cells #[.slice none 0 0, .slice none 0 0] 66), (p, .cells #[.slice ga m gc] 64), (pf, .cells #[.slice (some ⟨g1, 0, none⟩) (fn + 1) c1, .slice na n0 nc] 66)] W) → Q .normal ⟨t, []⟩ W)) :
    Code.wp Try.prog reg32_22 Q ⟨t, []⟩ V := by
  obtain ⟨i3, hi3, hz3, hs3, hb3⟩ := info_parts info3
  obtain ⟨i28, hi28, hz⟩ := Option.map_eq_some_iff.1 info28c
  simp only [Prod.mk.injEq] at hz
  obtain ⟨hz28, hs28, hb28⟩ := hz
  rw [ht]
  generalize (fun j => t.getD j undef) = X at *
  clear ht t
  conv => arg 2; whnf
  conv => arg 4; dsimp only [frD22]
  have HKk : Hid (k ≤ k + 0 ∧ k ≤ 1000) := by have := HM.out; show _ ∧ _; omega
  have H0 := Lib.hid (HH.out.ext (Ext.refl V).drew)
  refine wp_region_noPanic ?_
  refine wp_region_last [15] (fun u => u.cell? ⟨pf, 0, none⟩ = some (.slice fa fn fc)) (by kernel_rfl) (H0.out.cell 3 rfl rfl) (fun hHeld => ?_)
  generalize V.drew = V0 at *
  clear HH
  refine wpAnyF_take [1, 13, 14, 15] (i := 0) (v := ?_) rfl (by kernel_rfl) (by kernel_rfl) (by kernel_rfl) (by kernel_rfl) (fun _ _ _ h => h) (Or.inl ⟨by rfl, ?_⟩) (by assumption) ?_
  rotate_left
  · intro wS hSw
    (try dsimp only at hSw)
    go_simp
    try with_reducible rfl
  try simp only [Act.put, List.setIfInBounds_toArray]
  refine wpAnyF_take [13, 14, 15] (i := 1) (v := ?_) rfl (by kernel_rfl) (by kernel_rfl) (by kernel_rfl) (by kernel_rfl) (fun _ _ _ h => h) (Or.inl ⟨by rfl, ?_⟩) (by assumption) ?_
  rotate_left
  · intro wS hSw
    (try dsimp only at hSw)
    go_simp
    try with_reducible rfl
  try simp only [Act.put]
  refine wpAnyF_take [5, 6, 11, 12, 13, 14, 15] (i := 2) (v := ?_) rfl (by kernel_rfl) (by kernel_rfl) (by kernel_rfl) (by kernel_rfl) (fun _ _ _ h => h) (Or.inl ⟨by rfl, ?_⟩) (by assumption) ?_
  rotate_left
  · intro wS hSw
    (try dsimp only at hSw)
    go_simp
    try with_reducible rfl
  try simp only [Act.put]
  refine wpAnyF_take [4, 5, 6, 9, 10, 11, 12, 13, 14, 15] (i := 3) (v := ?_) rfl (by kernel_rfl) (by kernel_rfl) (by kernel_rfl) (by kernel_rfl) (fun _ _ _ h => h) (Or.inl ⟨by rfl, ?_⟩) (by assumption) ?_
  rotate_left
  · intro wS hSw
    (try dsimp only at hSw)
    go_simp
    try with_reducible rfl
  try simp only [Act.put]
  refine wpAnyF_take [10, 11, 12, 13, 14, 15] (i := 7) (v := ?_) rfl (by kernel_rfl) (by kernel_rfl) (by kernel_rfl) (by kernel_rfl) (fun _ _ _ h => h) (Or.inl ⟨by rfl, ?_⟩) (by assumption) ?_
  rotate_left
  · intro wS hSw
    (try dsimp only at hSw)
    go_simp
    try with_reducible rfl
  try simp only [Act.put]
  refine wpAnyF_take [9, 10, 11, 12, 13, 14, 15] (i := 8) (v := ?_) rfl (by kernel_rfl) (by kernel_rfl) (by kernel_rfl) (by kernel_rfl) (fun _ _ _ h => h) (Or.inl ⟨by rfl, ?_⟩) (by assumption) ?_
  rotate_left
  · intro wS hSw
    (try dsimp only at hSw)
    go_simp
    try with_reducible rfl
  try simp only [Act.put]
  refine wpAnyF_ready (rs := [4]) (by kernel_rfl) rfl (AllReadyF.cons rfl (fun K hK => ?_) AllReadyF.nil)
  go_simp
  go_at_call 18
  refine (draw_any D a n c k 4 _ H0.out.deck (by have := HKk.out; have := HM.out; omega) (by omega)).mono ?_
  rintro e V1 ⟨d1, k3, hd1, hk1, rfl, hD1, hg1⟩
  have H2 := Lib.hid (H0.out.dealt hD1 hg1)
  have HKk3 : Hid (k3 ≤ k + 1) := by have := HKk.out; show _ ≤ _; omega
  have Hd1 : Hid (d1 < 4) := by show _ < _; omega
  clear hD1 hg1 hk1 hd1 H0 HKk
  obtain ⟨lo, hlo⟩ : ∃ lo, max 1 (L - d1) = lo := ⟨_, rfl⟩
  have hwA : IntKind.i64.wrap ((L : Int) - (d1 : Int)) = (L : Int) - (d1 : Int) := by have := HM.out; have := Hd1.out; exact IntWalk.i64_in _ (by omega)
  have hmA : (if (1 : Int) < (L : Int) - (d1 : Int) then (L : Int) - (d1 : Int) else 1) = (lo : Int) := by split <;> omega
  have HLo := Lib.hid hlo
  clear hlo
  refine hK.out _ _ (H2.out.cell 3 rfl rfl) (fun hHeld => ?_)
  clear hK K
  try simp only [Act.put, List.setIfInBounds_toArray, List.set_cons_zero, List.set_cons_succ]
  refine wpAnyF_take [6, 11, 12, 13, 14, 15] (i := 5) (v := ?_) rfl (by kernel_rfl) (by kernel_rfl) (by kernel_rfl) (by kernel_rfl) (fun _ _ _ h => h) (Or.inl ⟨by rfl, ?_⟩) (by assumption) ?_
  rotate_left
  · intro wS hSw
    (try dsimp only at hSw)
    go_simp
    try with_reducible rfl
  try simp only [Act.put, List.setIfInBounds_toArray]
  refine wpAnyF_take [11, 12, 13, 14, 15] (i := 6) (v := ?_) rfl (by kernel_rfl) (by kernel_rfl) (by kernel_rfl) (by kernel_rfl) (fun _ _ _ h => h) (Or.inl ⟨by rfl, ?_⟩) (by assumption) ?_
  rotate_left
  · intro wS hSw
    (try dsimp only at hSw)
    go_simp
    try with_reducible rfl
  try simp only [Act.put]
  refine wpAnyF_ready (rs := [9]) (by kernel_rfl) rfl (AllReadyF.cons rfl (fun K hK => ?_) AllReadyF.nil)
  go_simp
  go_at_call 18
  refine (draw_any D a n c k3 4 _ H2.out.deck (by have := HKk3.out; have := HM.out; omega) (by omega)).mono ?_
  rintro e V4 ⟨d2, k6, hd2, hk1, rfl, hD1, hg1⟩
  have H5 := Lib.hid (H2.out.dealt hD1 hg1)
  have HKk6 : Hid (k6 ≤ k + 2) := by have := HKk3.out; show _ ≤ _; omega
  have Hd2 : Hid (d2 < 4) := by show _ < _; omega
  clear hD1 hg1 hk1 hd2 H2 HKk3
  obtain ⟨hi, hhi⟩ : ∃ hi, L + d2 = hi := ⟨_, rfl⟩
  have hwB : IntKind.i64.wrap ((L : Int) + (d2 : Int)) = (hi : Int) := by have := HM.out; have := Hd2.out; rw [IntWalk.i64_in _ (by omega)]; omega
  have HHi := Lib.hid hhi
  clear hhi
  refine hK.out _ _ (H5.out.cell 3 rfl rfl) (fun hHeld => ?_)
  clear hK K
  try simp only [Act.put, List.setIfInBounds_toArray, List.set_cons_zero, List.set_cons_succ]
  refine wpAnyF_take [11, 12, 13, 14, 15] (i := 10) (v := ?_) rfl (by kernel_rfl) (by kernel_rfl) (by kernel_rfl) (by kernel_rfl) (fun _ _ _ h => h) (Or.inl ⟨by rfl, ?_⟩) (by assumption) ?_
  rotate_left
  · intro wS hSw
    (try dsimp only at hSw)
    go_simp
    try with_reducible rfl
  try simp only [Act.put, List.setIfInBounds_toArray]
  refine wpAnyF_ready (rs := [11]) (by kernel_rfl) rfl (AllReadyF.cons rfl (fun K hK => ?_) AllReadyF.nil)
  go_simp
  go_at_call 24
  refine (span_any _ _ _).mono ?_
  rintro e w' ⟨rfl, rfl⟩
  have H8 := Lib.hid (H5.out.ext ((Ext.refl _).alloc (.cells #[.int .i64 (lo : Int), .int .i64 (hi : Int)] 28)))
  clear H5
  generalize V4.alloc (.cells #[.int .i64 (lo : Int), .int .i64 (hi : Int)] 28) = V7 at *
  refine hK.out _ _ (H8.out.cell 3 rfl rfl) (fun hHeld => ?_)
  clear hK K
  try simp only [Act.put, List.setIfInBounds_toArray, List.set_cons_zero, List.set_cons_succ]
  refine wpAnyF_ready (rs := [12]) (by kernel_rfl) rfl (AllReadyF.cons rfl (fun K hK => ?_) AllReadyF.nil)
  go_simp
  have H10 := Lib.hid (H8.out.new (.cells #[.int .i64 (lo : Int), .int .i64 (hi : Int)] 28))
  clear H8
  generalize hz : V7.heap.size = bG at *
  clear hz
  generalize hw : V7.alloc _ = V9 at *
  clear hw
  refine hK.out _ _ (H10.out.cell 3 rfl rfl) (fun hHeld => ?_)
  clear hK K
  try simp only [Act.put, List.setIfInBounds_toArray, List.set_cons_zero, List.set_cons_succ]
  refine wpAnyF_ready (rs := [13]) (by kernel_rfl) rfl (AllReadyF.cons rfl (fun K hK => ?_) AllReadyF.nil)
  refine step_append_lies _ rfl (.tmp 87) (.tmp 98) 26 rfl w0.heap.size 28 i28 (.agg #[.int .i64 0, .int .i64 0]) 2 16 Try.underlying26 hi28 hz28 hs28 hb28 rfl (by decide) (.slice fa fn fc) fn (flat 2 spC fl) ?_ (H10.out.row 2 _ rfl) ⟨bG, 0, none⟩ 1 1 (flat 2 spC [(lo, hi)]) ?_ rfl (World.news_of_block (H10.out.heap 4 rfl)) (spans_one _) (by decide) (by have := HM.out; unfold maxLen; omega) (by have := HM.out; omega) H10.out.keep.size _ rfl ?_
  · rfl
  · rfl
  intro g1 c1 V11 hown2 hgrow hwh hgl
  rw [← flat_append] at hown2
  have H12 := Lib.hid (H10.out.grown (i := 2) rfl hown2 hgrow hwh)
  clear hown2 hgrow hwh hgl H10
  refine hK.out _ _ (H12.out.cell 3 rfl rfl) (fun hHeld => ?_)
  clear hK K
  try simp only [Act.put, List.setIfInBounds_toArray]
  refine wpAnyF_take [15] (i := 14) (v := ?_) rfl (by kernel_rfl) (by kernel_rfl) (by kernel_rfl) (by kernel_rfl) (fun _ _ _ h => h) (Or.inl ⟨by rfl, ?_⟩) (by assumption) ?_
  rotate_left
  · intro wS hSw
    (try dsimp only at hSw)
    go_simp
    try with_reducible rfl
  try simp only [Act.put]
  refine wpAnyF_ready (rs := [15]) (by kernel_rfl) rfl (AllReadyF.last rfl rfl (fun K hK => ?_) AllReadyF.nil)
  have y0 := H12.out.cell 3 (j := 0) rfl rfl
  have f0 := H12.out.frozen 3 (j := 0) rfl
  go_simp
  have H14 := Lib.hid (H12.out.cellPut (j := 0) 3 rfl (.slice (some ⟨g1, 0, none⟩) (fn + 1) c1))
  clear H12 y0 f0
  generalize V11.setCell ⟨pf, 0, none⟩ (.slice (some ⟨g1, 0, none⟩) (fn + 1) c1) = V13 at *
  refine hK.out _ _ ?_
  clear hK K
  try simp only [Act.put, List.setIfInBounds_toArray, List.set_cons_zero, List.set_cons_succ]
  refine wpAnyF_done (by kernel_rfl) ?_
  have hh := H14.out.drop (blks := [(R1, .cells #[.slice none 0 0] 64), (R2, .cells #[.slice none 0 0, .slice none 0 0] 66), (p, .cells #[.slice ga m gc] 64), (pf, .cells #[.slice (some ⟨g1, 0, none⟩) (fn + 1) c1, .slice na n0 nc] 66)]) [_]
  rw [← HLo.out, ← HHi.out] at hh
  exact HQ.out _ _ _ d1 d2 g1 c1 rfl (by have := Hd1.out; omega) (by have := Hd2.out; omega) (by have := HKk6.out; omega) hh
end Go.Proofs.Ytfognlealnhodaa

namespace Go.Proofs.Ytfognlealnhodaa
open Go.RowKit

noncomputable def reg32_26 : Code := ((Try.f32.body.bind (regA 26)).getD .skip)
def frD26 (D most R1 R2 p pf cnt k0 m tc n0 rc : Nat) (ta ra : Option Addr) (x : Int) (X : Nat → Value) : Array Value := #[.pointer (some ⟨D, 0, none⟩), .int .i64 (most : Int), X 2, X 3, .pointer (some ⟨R1, 0, none⟩), .pointer (some ⟨R2, 0, none⟩), X 6, .pointer (some ⟨p, 0, none⟩), .slice ta m tc, X 9, .pointer (some ⟨pf, 0, none⟩), .slice ra n0 rc, .int .i64 (k0 : Int), X 13, X 14, X 15, X 16, .int .i64 x, X 18, X 19, X 20, X 21, X 22, X 23, X 24, X 25, X 26, X 27, X 28, X 29, X 30, X 31, X 32, X 33, X 34, X 35, X 36, X 37, X 38, X 39, X 40, X 41, X 42, X 43, X 44, X 45, X 46, .int .i64 (cnt : Int), .int .i64 (k0 : Int), X 49, X 50, X 51, X 52, X 53, X 54, X 55, X 56, X 57, X 58, X 59, X 60, X 61, X 62, X 63, X 64, X 65, X 66, X 67, X 68, X 69, X 70, X 71, X 72, X 73, X 74, X 75, X 76, X 77, X 78, X 79, X 80, X 81, X 82, X 83, X 84, X 85, X 86, X 87, X 88, X 89, X 90, X 91, X 92, X 93, X 94, X 95, X 96, X 97, X 98, X 99, X 100, X 101, X 102, X 103, X 104, X 105, X 106, X 107, X 108, X 109, X 110, X 111, X 112, X 113, X 114, X 115, X 116, X 117]

set_option maxRecDepth 1000000 in
set_option maxHeartbeats 16000000 in
theorem stoned_r26 (t : Array Value) (w0 V : World) (D n c k most R1 R2 p pf cnt k0 m tc gc fn fc n0 nc rc : Nat) (a ta ga fa na ra : Option Addr) (gl fl : List (Nat × Nat)) (tl rl : List Nat) (nl : List Int) (x : Int) (Q : Exit → Act → World → Prop) (ht : t = frD26 D most R1 R2 p pf cnt k0 m tc n0 rc ta ra x (fun j => t.getD j undef))
    (HH : Hid (Held w0 D a n c k [⟨28, 2, .slice ga m gc, m, flat 2 spC gl⟩, ⟨3, 1, .slice ta m tc, m, nums tl⟩, ⟨28, 2, .slice fa fn fc, fn, flat 2 spC fl⟩, ⟨3, 1, .slice na n0 nc, n0, intsV nl⟩, ⟨3, 1, .slice ra n0 rc, n0, nums rl⟩] [(R1, .cells #[.slice none 0 0] 64), (R2, .cells #[.slice none 0 0, .slice none 0 0] 66), (p, .cells #[.slice ga m gc] 64), (pf, .cells #[.slice fa fn fc, .slice na n0 nc] 66)] V)) (HM : Hid (n0 ≤ 100 ∧ k ≤ 1000))
    (HQ : Hid (∀ (t : Array Value) (W : World) (g1 c1 g2 c2 : Nat), t = frD26 D most R1 R2 p pf cnt k0 m tc (n0 + 1) c1 ta (some ⟨g1, 0, none⟩) x (fun j => t.getD j undef) → Hid (Held w0 D a n c k [⟨28, 2, .slice ga m gc, m, flat 2 spC gl⟩, ⟨3, 1, .slice ta m tc, m, nums tl⟩, ⟨28, 2, .slice fa fn fc, fn, flat 2 spC fl⟩, ⟨3, 1, .slice (some ⟨g2, 0, none⟩) (n0 + 1) c2, n0 + 1, intsV (nl ++ [x])⟩, ⟨3, 1, .slice (some ⟨g1, 0, none⟩) (n0 + 1) c1, n0 + 1, nums (rl ++ [k0])⟩] [(R1, .cells #[.slice none 0 0] 64), (R2, .cells #[.slice none 0 0, .slice none 0 0] 66), (p, .cells #[.slice ga m gc] 64), (pf, .cells #[.slice fa fn fc, .slice (some ⟨g2, 0, none⟩) (n0 + 1) c2] 66)] W) → Q .normal ⟨t, []⟩ W)) :
    Code.wp Try.prog reg32_26 Q ⟨t, []⟩ V := by
  obtain ⟨i3, hi3, hz3, hs3, hb3⟩ := info_parts info3
  obtain ⟨i28, hi28, hz⟩ := Option.map_eq_some_iff.1 info28c
  simp only [Prod.mk.injEq] at hz
  obtain ⟨hz28, hs28, hb28⟩ := hz
  rw [ht]
  generalize (fun j => t.getD j undef) = X at *
  clear ht t
  conv => arg 2; whnf
  conv => arg 4; dsimp only [frD26]
  have HKk : Hid (k ≤ k + 0 ∧ k ≤ 1000) := by have := HM.out; show _ ∧ _; omega
  have H0 := Lib.hid (HH.out.ext (Ext.refl V).drew)
  refine wp_region_noPanic ?_
  refine wp_region_last [11] (fun u => u.cell? ⟨pf, 1, none⟩ = some (.slice na n0 nc)) (by kernel_rfl) (H0.out.cell 3 rfl rfl) (fun hHeld => ?_)
  generalize V.drew = V0 at *
  clear HH
  refine wpAnyF_take [3, 8, 9, 10, 11] (i := 0) (v := ?_) rfl (by kernel_rfl) (by kernel_rfl) (by kernel_rfl) (by kernel_rfl) (fun _ _ _ h => h) (Or.inl ⟨by rfl, ?_⟩) (by assumption) ?_
  rotate_left
  · intro wS hSw
    (try dsimp only at hSw)
    go_simp
    try with_reducible rfl
  try simp only [Act.put, List.setIfInBounds_toArray]
  refine wpAnyF_take [2, 3, 8, 9, 10, 11] (i := 1) (v := ?_) rfl (by kernel_rfl) (by kernel_rfl) (by kernel_rfl) (by kernel_rfl) (fun _ _ _ h => h) (Or.inl ⟨by rfl, ?_⟩) (by assumption) ?_
  rotate_left
  · intro wS hSw
    (try dsimp only at hSw)
    go_simp
    try with_reducible rfl
  try simp only [Act.put]
  refine wpAnyF_take [5, 8, 9, 10, 11] (i := 4) (v := ?_) rfl (by kernel_rfl) (by kernel_rfl) (by kernel_rfl) (by kernel_rfl) (fun _ _ _ h => h) (Or.inl ⟨by rfl, ?_⟩) (by assumption) ?_
  rotate_left
  · intro wS hSw
    (try dsimp only at hSw)
    go_simp
    try with_reducible rfl
  try simp only [Act.put]
  refine wpAnyF_take [8, 9, 10, 11] (i := 5) (v := ?_) rfl (by kernel_rfl) (by kernel_rfl) (by kernel_rfl) (by kernel_rfl) (fun _ _ _ h => h) (Or.inl ⟨by rfl, ?_⟩) (by assumption) ?_
  rotate_left
  · intro wS hSw
    (try dsimp only at hSw)
    go_simp
    try with_reducible rfl
  try simp only [Act.put]
  refine wpAnyF_take [7, 8, 9, 10, 11] (i := 6) (v := ?_) rfl (by kernel_rfl) (by kernel_rfl) (by kernel_rfl) (by kernel_rfl) (fun _ _ _ h => h) (Or.inl ⟨by rfl, ?_⟩) (by assumption) ?_
  rotate_left
  · intro wS hSw
    (try dsimp only at hSw)
    go_simp
    try with_reducible rfl
  try simp only [Act.put]
  refine wpAnyF_ready (rs := [2, 7]) (by kernel_rfl) rfl (AllReadyF.cons rfl (fun K hK => ?_) (AllReadyF.cons rfl (fun K hK => ?_) AllReadyF.nil))
  · -- 2
    go_simp
    have H2 := Lib.hid (H0.out.new (.cells #[.int .i64 (k0 : Int)] 3))
    clear H0
    generalize hz : V0.heap.size = bR at *
    clear hz
    generalize hw : V0.alloc _ = V1 at *
    clear hw
    refine hK.out _ _ (H2.out.cell 3 rfl rfl) (fun hHeld => ?_)
    clear hK K
    try simp only [Act.put, List.setIfInBounds_toArray, List.set_cons_zero, List.set_cons_succ]
    refine wpAnyF_ready (rs := [3, 7]) (by kernel_rfl) rfl (AllReadyF.cons rfl (fun K hK => ?_) (AllReadyF.cons rfl (fun K hK => ?_) AllReadyF.nil))
    · -- 3
      refine step_append_lies _ rfl (.tmp 104) (.tmp 106) 25 rfl w0.heap.size 3 i3 (.int .i64 0) 1 8 Try.underlying25 hi3 hz3 hs3 hb3 rfl (by decide) (.slice ra n0 rc) n0 (nums rl) ?_ (H2.out.row 4 _ rfl) ⟨bR, 0, none⟩ 1 1 (nums [k0]) ?_ rfl (World.news_of_block (H2.out.heap 4 rfl)) (nums_one _) (by decide) (by have := HM.out; unfold maxLen; omega) (by have := HM.out; omega) H2.out.keep.size _ rfl ?_
      · rfl
      · rfl
      intro g1 c1 V3 hown2 hgrow hwh hgl
      rw [← nums_append] at hown2
      have H4 := Lib.hid (H2.out.grown (i := 4) rfl hown2 hgrow hwh)
      clear hown2 hgrow hwh hgl H2
      refine hK.out _ _ (H4.out.cell 3 rfl rfl) (fun hHeld => ?_)
      clear hK K
      try simp only [Act.put, List.setIfInBounds_toArray]
      refine wpAnyF_ready (rs := [7]) (by kernel_rfl) rfl (AllReadyF.cons rfl (fun K hK => ?_) AllReadyF.nil)
      go_simp
      have H6 := Lib.hid (H4.out.new (.cells #[.int .i64 x] 3))
      clear H4
      generalize hz : V3.heap.size = bN at *
      clear hz
      generalize hw : V3.alloc _ = V5 at *
      clear hw
      refine hK.out _ _ (H6.out.cell 3 rfl rfl) (fun hHeld => ?_)
      clear hK K
      try simp only [Act.put, List.setIfInBounds_toArray, List.set_cons_zero, List.set_cons_succ]
      refine wpAnyF_ready (rs := [8]) (by kernel_rfl) rfl (AllReadyF.cons rfl (fun K hK => ?_) AllReadyF.nil)
      refine step_append_lies _ rfl (.tmp 109) (.tmp 111) 25 rfl w0.heap.size 3 i3 (.int .i64 0) 1 8 Try.underlying25 hi3 hz3 hs3 hb3 rfl (by decide) (.slice na n0 nc) n0 (intsV nl) ?_ (H6.out.row 3 _ rfl) ⟨bN, 0, none⟩ 1 1 (intsV [x]) ?_ rfl (World.news_of_block (H6.out.heap 5 rfl)) (intsV_one _) (by decide) (by have := HM.out; unfold maxLen; omega) (by have := HM.out; omega) H6.out.keep.size _ rfl ?_
      · rfl
      · rfl
      intro g2 c2 V7 hown2 hgrow hwh hgl
      rw [← intsV_append] at hown2
      have H8 := Lib.hid (H6.out.grown (i := 3) rfl hown2 hgrow hwh)
      clear hown2 hgrow hwh hgl H6
      refine hK.out _ _ (H8.out.cell 3 rfl rfl) (fun hHeld => ?_)
      clear hK K
      try simp only [Act.put, List.setIfInBounds_toArray]
      refine wpAnyF_ready (rs := [9]) (by kernel_rfl) rfl (AllReadyF.cons rfl (fun K hK => ?_) AllReadyF.nil)
      go_simp
      refine hK.out _ _ (H8.out.cell 3 rfl rfl) (fun hHeld => ?_)
      clear hK K
      try simp only [Act.put, List.setIfInBounds_toArray, List.set_cons_zero, List.set_cons_succ]
      refine wpAnyF_take [11] (i := 10) (v := ?_) rfl (by kernel_rfl) (by kernel_rfl) (by kernel_rfl) (by kernel_rfl) (fun _ _ _ h => h) (Or.inl ⟨by rfl, ?_⟩) (by assumption) ?_
      rotate_left
      · intro wS hSw
        (try dsimp only at hSw)
        go_simp
        try with_reducible rfl
      try simp only [Act.put, List.setIfInBounds_toArray]
      refine wpAnyF_ready (rs := [11]) (by kernel_rfl) rfl (AllReadyF.last rfl rfl (fun K hK => ?_) AllReadyF.nil)
      have y0 := H8.out.cell 3 (j := 1) rfl rfl
      have f0 := H8.out.frozen 3 (j := 1) rfl
      go_simp
      have H10 := Lib.hid (H8.out.cellPut (j := 1) 3 rfl (.slice (some ⟨g2, 0, none⟩) (n0 + 1) c2))
      clear H8 y0 f0
      generalize V7.setCell ⟨pf, 1, none⟩ (.slice (some ⟨g2, 0, none⟩) (n0 + 1) c2) = V9 at *
      refine hK.out _ _ ?_
      clear hK K
      try simp only [Act.put, List.setIfInBounds_toArray, List.set_cons_zero, List.set_cons_succ]
      refine wpAnyF_done (by kernel_rfl) ?_
      exact HQ.out _ _ g1 c1 g2 c2 rfl (H10.out.drop (blks := [(R1, .cells #[.slice none 0 0] 64), (R2, .cells #[.slice none 0 0, .slice none 0 0] 66), (p, .cells #[.slice ga m gc] 64), (pf, .cells #[.slice fa fn fc, .slice (some ⟨g2, 0, none⟩) (n0 + 1) c2] 66)]) [_, _])
    · -- 7
      go_simp
      have H4 := Lib.hid (H2.out.new (.cells #[.int .i64 x] 3))
      clear H2
      generalize hz : V1.heap.size = bN at *
      clear hz
      generalize hw : V1.alloc _ = V3 at *
      clear hw
      refine hK.out _ _ (H4.out.cell 3 rfl rfl) (fun hHeld => ?_)
      clear hK K
      try simp only [Act.put, List.setIfInBounds_toArray, List.set_cons_zero, List.set_cons_succ]
      refine wpAnyF_ready (rs := [3]) (by kernel_rfl) rfl (AllReadyF.cons rfl (fun K hK => ?_) AllReadyF.nil)
      refine step_append_lies _ rfl (.tmp 104) (.tmp 106) 25 rfl w0.heap.size 3 i3 (.int .i64 0) 1 8 Try.underlying25 hi3 hz3 hs3 hb3 rfl (by decide) (.slice ra n0 rc) n0 (nums rl) ?_ (H4.out.row 4 _ rfl) ⟨bR, 0, none⟩ 1 1 (nums [k0]) ?_ rfl (World.news_of_block (H4.out.heap 4 rfl)) (nums_one _) (by decide) (by have := HM.out; unfold maxLen; omega) (by have := HM.out; omega) H4.out.keep.size _ rfl ?_
      · rfl
      · rfl
      intro g1 c1 V5 hown2 hgrow hwh hgl
      rw [← nums_append] at hown2
      have H6 := Lib.hid (H4.out.grown (i := 4) rfl hown2 hgrow hwh)
      clear hown2 hgrow hwh hgl H4
      refine hK.out _ _ (H6.out.cell 3 rfl rfl) (fun hHeld => ?_)
      clear hK K
      try simp only [Act.put, List.setIfInBounds_toArray]
      refine wpAnyF_ready (rs := [8]) (by kernel_rfl) rfl (AllReadyF.cons rfl (fun K hK => ?_) AllReadyF.nil)
      refine step_append_lies _ rfl (.tmp 109) (.tmp 111) 25 rfl w0.heap.size 3 i3 (.int .i64 0) 1 8 Try.underlying25 hi3 hz3 hs3 hb3 rfl (by decide) (.slice na n0 nc) n0 (intsV nl) ?_ (H6.out.row 3 _ rfl) ⟨bN, 0, none⟩ 1 1 (intsV [x]) ?_ rfl (World.news_of_block (H6.out.heap 5 rfl)) (intsV_one _) (by decide) (by have := HM.out; unfold maxLen; omega) (by have := HM.out; omega) H6.out.keep.size _ rfl ?_
      · rfl
      · rfl
      intro g2 c2 V7 hown2 hgrow hwh hgl
      rw [← intsV_append] at hown2
      have H8 := Lib.hid (H6.out.grown (i := 3) rfl hown2 hgrow hwh)
      clear hown2 hgrow hwh hgl H6
      refine hK.out _ _ (H8.out.cell 3 rfl rfl) (fun hHeld => ?_)
      clear hK K
      try simp only [Act.put]
      refine wpAnyF_ready (rs := [9]) (by kernel_rfl) rfl (AllReadyF.cons rfl (fun K hK => ?_) AllReadyF.nil)
      go_simp
      refine hK.out _ _ (H8.out.cell 3 rfl rfl) (fun hHeld => ?_)
      clear hK K
      try simp only [Act.put, List.setIfInBounds_toArray, List.set_cons_zero, List.set_cons_succ]
      refine wpAnyF_take [11] (i := 10) (v := ?_) rfl (by kernel_rfl) (by kernel_rfl) (by kernel_rfl) (by kernel_rfl) (fun _ _ _ h => h) (Or.inl ⟨by rfl, ?_⟩) (by assumption) ?_
      rotate_left
      · intro wS hSw
        (try dsimp only at hSw)
        go_simp
        try with_reducible rfl
      try simp only [Act.put, List.setIfInBounds_toArray]
      refine wpAnyF_ready (rs := [11]) (by kernel_rfl) rfl (AllReadyF.last rfl rfl (fun K hK => ?_) AllReadyF.nil)
      have y0 := H8.out.cell 3 (j := 1) rfl rfl
      have f0 := H8.out.frozen 3 (j := 1) rfl
      go_simp
      have H10 := Lib.hid (H8.out.cellPut (j := 1) 3 rfl (.slice (some ⟨g2, 0, none⟩) (n0 + 1) c2))
      clear H8 y0 f0
      generalize V7.setCell ⟨pf, 1, none⟩ (.slice (some ⟨g2, 0, none⟩) (n0 + 1) c2) = V9 at *
      refine hK.out _ _ ?_
      clear hK K
      try simp only [Act.put, List.setIfInBounds_toArray, List.set_cons_zero, List.set_cons_succ]
      refine wpAnyF_done (by kernel_rfl) ?_
      exact HQ.out _ _ g1 c1 g2 c2 rfl (H10.out.drop (blks := [(R1, .cells #[.slice none 0 0] 64), (R2, .cells #[.slice none 0 0, .slice none 0 0] 66), (p, .cells #[.slice ga m gc] 64), (pf, .cells #[.slice fa fn fc, .slice (some ⟨g2, 0, none⟩) (n0 + 1) c2] 66)]) [_, _])
  · -- 7
    go_simp
    have H2 := Lib.hid (H0.out.new (.cells #[.int .i64 x] 3))
    clear H0
    generalize hz : V0.heap.size = bN at *
    clear hz
    generalize hw : V0.alloc _ = V1 at *
    clear hw
    refine hK.out _ _ (H2.out.cell 3 rfl rfl) (fun hHeld => ?_)
    clear hK K
    try simp only [Act.put, List.setIfInBounds_toArray, List.set_cons_zero, List.set_cons_succ]
    refine wpAnyF_ready (rs := [2]) (by kernel_rfl) rfl (AllReadyF.cons rfl (fun K hK => ?_) AllReadyF.nil)
    go_simp
    have H4 := Lib.hid (H2.out.new (.cells #[.int .i64 (k0 : Int)] 3))
    clear H2
    generalize hz : V1.heap.size = bR at *
    clear hz
    generalize hw : V1.alloc _ = V3 at *
    clear hw
    refine hK.out _ _ (H4.out.cell 3 rfl rfl) (fun hHeld => ?_)
    clear hK K
    try simp only [Act.put, List.setIfInBounds_toArray, List.set_cons_zero, List.set_cons_succ]
    refine wpAnyF_ready (rs := [3]) (by kernel_rfl) rfl (AllReadyF.cons rfl (fun K hK => ?_) AllReadyF.nil)
    refine step_append_lies _ rfl (.tmp 104) (.tmp 106) 25 rfl w0.heap.size 3 i3 (.int .i64 0) 1 8 Try.underlying25 hi3 hz3 hs3 hb3 rfl (by decide) (.slice ra n0 rc) n0 (nums rl) ?_ (H4.out.row 4 _ rfl) ⟨bR, 0, none⟩ 1 1 (nums [k0]) ?_ rfl (World.news_of_block (H4.out.heap 5 rfl)) (nums_one _) (by decide) (by have := HM.out; unfold maxLen; omega) (by have := HM.out; omega) H4.out.keep.size _ rfl ?_
    · rfl
    · rfl
    intro g1 c1 V5 hown2 hgrow hwh hgl
    rw [← nums_append] at hown2
    have H6 := Lib.hid (H4.out.grown (i := 4) rfl hown2 hgrow hwh)
    clear hown2 hgrow hwh hgl H4
    refine hK.out _ _ (H6.out.cell 3 rfl rfl) (fun hHeld => ?_)
    clear hK K
    try simp only [Act.put, List.setIfInBounds_toArray]
    refine wpAnyF_ready (rs := [8]) (by kernel_rfl) rfl (AllReadyF.cons rfl (fun K hK => ?_) AllReadyF.nil)
    refine step_append_lies _ rfl (.tmp 109) (.tmp 111) 25 rfl w0.heap.size 3 i3 (.int .i64 0) 1 8 Try.underlying25 hi3 hz3 hs3 hb3 rfl (by decide) (.slice na n0 nc) n0 (intsV nl) ?_ (H6.out.row 3 _ rfl) ⟨bN, 0, none⟩ 1 1 (intsV [x]) ?_ rfl (World.news_of_block (H6.out.heap 4 rfl)) (intsV_one _) (by decide) (by have := HM.out; unfold maxLen; omega) (by have := HM.out; omega) H6.out.keep.size _ rfl ?_
    · rfl
    · rfl
    intro g2 c2 V7 hown2 hgrow hwh hgl
    rw [← intsV_append] at hown2
    have H8 := Lib.hid (H6.out.grown (i := 3) rfl hown2 hgrow hwh)
    clear hown2 hgrow hwh hgl H6
    refine hK.out _ _ (H8.out.cell 3 rfl rfl) (fun hHeld => ?_)
    clear hK K
    try simp only [Act.put]
    refine wpAnyF_ready (rs := [9]) (by kernel_rfl) rfl (AllReadyF.cons rfl (fun K hK => ?_) AllReadyF.nil)
    go_simp
    refine hK.out _ _ (H8.out.cell 3 rfl rfl) (fun hHeld => ?_)
    clear hK K
    try simp only [Act.put, List.setIfInBounds_toArray, List.set_cons_zero, List.set_cons_succ]
    refine wpAnyF_take [11] (i := 10) (v := ?_) rfl (by kernel_rfl) (by kernel_rfl) (by kernel_rfl) (by kernel_rfl) (fun _ _ _ h => h) (Or.inl ⟨by rfl, ?_⟩) (by assumption) ?_
    rotate_left
    · intro wS hSw
      (try dsimp only at hSw)
      go_simp
      try with_reducible rfl
    try simp only [Act.put, List.setIfInBounds_toArray]
    refine wpAnyF_ready (rs := [11]) (by kernel_rfl) rfl (AllReadyF.last rfl rfl (fun K hK => ?_) AllReadyF.nil)
    have y0 := H8.out.cell 3 (j := 1) rfl rfl
    have f0 := H8.out.frozen 3 (j := 1) rfl
    go_simp
    have H10 := Lib.hid (H8.out.cellPut (j := 1) 3 rfl (.slice (some ⟨g2, 0, none⟩) (n0 + 1) c2))
    clear H8 y0 f0
    generalize V7.setCell ⟨pf, 1, none⟩ (.slice (some ⟨g2, 0, none⟩) (n0 + 1) c2) = V9 at *
    refine hK.out _ _ ?_
    clear hK K
    try simp only [Act.put, List.setIfInBounds_toArray, List.set_cons_zero, List.set_cons_succ]
    refine wpAnyF_done (by kernel_rfl) ?_
    exact HQ.out _ _ g1 c1 g2 c2 rfl (H10.out.drop (blks := [(R1, .cells #[.slice none 0 0] 64), (R2, .cells #[.slice none 0 0, .slice none 0 0] 66), (p, .cells #[.slice ga m gc] 64), (pf, .cells #[.slice fa fn fc, .slice (some ⟨g2, 0, none⟩) (n0 + 1) c2] 66)]) [_, _])
end Go.Proofs.Ytfognlealnhodaa
