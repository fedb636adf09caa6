/-
  The drawn region of Made that appends a village, whichever order is drawn: what it leaves. The row must lie in memory of its own.
-/
import Derived.Test.YtlaolokakaheaaaSP
import Derived.Test.YtlaolokakaheaaaRL
import Derived.Test.YtlaolokakaheaaaLN
import Derived.RegionTactic
import Derived.Deep.CutBlock
import Derived.Deep.AppendLies
namespace Go.Proofs.Ytlaolokakaheaaa
open Go.RowKit

/-- A region by its number. -/
def regA (n : Nat) : Code → Option Code
  | .region k o d => if k = n then some (.region k o d) else none
  | .seq a b => match regA n a with | some c => some c | none => regA n b
  | .cond _ a b => match regA n a with | some c => some c | none => regA n b
  | .block _ c => regA n c
  | .loop c => regA n c
  | .scope c => regA n c
  | _ => none
noncomputable def reg8_4 : Code := ((Try.f8.body.bind (regA 4)).getD .skip)
def frD4 (D most R p cnt i : Nat) (X : Nat → Value) : Array Value := #[.pointer (some ⟨D, 0, none⟩), .int .i64 (most : Int), X 2, X 3, .pointer (some ⟨R, 0, none⟩), .pointer (some ⟨p, 0, none⟩), X 6, X 7, X 8, .int .i64 (cnt : Int), .int .i64 (i : Int), X 11, X 12, X 13, X 14, X 15, X 16, X 17, X 18, X 19, X 20, X 21, X 22, X 23, X 24, X 25, X 26, X 27, X 28, X 29, X 30, X 31, X 32, X 33, X 34, X 35, X 36, X 37, X 38, X 39, X 40, X 41, X 42, X 43, X 44, X 45, X 46, X 47, X 48, X 49, X 50, X 51, X 52, X 53, X 54]

set_option maxRecDepth 1000000 in
set_option maxHeartbeats 4000000 in
theorem made_r4 (t : Array Value) (w0 V : World) (D n c k most R p cnt m vc : Nat) (a va : Option Addr) (vl : List Nat) (Q : Exit → Act → World → Prop) (ht : t = frD4 D most R p cnt m (fun j => t.getD j undef))
    (HH : Hid (Held w0 D a n c k [⟨3, 1, .slice va m vc, m, nums vl⟩, ⟨41, 4, .slice none 0 0, 0, flat 4 stC []⟩] [(R, .cells #[.slice none 0 0, .slice none 0 0] 26), (p, .cells #[.slice none 0 0, .slice va m vc] 26)] V)) (HM : Hid (m ≤ 100 ∧ k ≤ 1000))
    (HQ : Hid (∀ (t : Array Value) (W : World) (k' d1 g1 c1 : Nat), t = frD4 D most R p cnt m (fun j => t.getD j undef) → d1 < 2 → k' ≤ k + 1 → Hid (Held w0 D a n c k' [⟨3, 1, .slice (some ⟨g1, 0, none⟩) (m + 1) c1, m + 1, nums (vl ++ [d1])⟩, ⟨41, 4, .slice none 0 0, 0, flat 4 stC []⟩] [(R, .cells #[.slice none 0 0, .slice none 0 0] 26), (p, .cells #[.slice none 0 0, .slice (some ⟨g1, 0, none⟩) (m + 1) c1] 26)] W) → Q .normal ⟨t, []⟩ W)) :
    Code.wp Try.prog reg8_4 Q ⟨t, []⟩ V := by
  obtain ⟨i3, hi3, hz3, hs3, hb3⟩ := info_parts info3
  rw [ht]
  generalize (fun j => t.getD j undef) = X at *
  clear ht t
  conv => arg 2; whnf
  conv => arg 4; dsimp only [frD4]
  have HKk : Hid (k ≤ k + 0 ∧ k ≤ 1000) := by have := HM.out; show _ ∧ _; omega
  have H0 := Lib.hid (HH.out.ext (Ext.refl V).drew)
  refine wp_region_noPanic ?_
  refine wp_region_last [7] (fun u => u.cell? ⟨p, 1, none⟩ = some (.slice va m vc)) (by kernel_rfl) (H0.out.cell 1 (j := 1) rfl rfl) (fun hHeld => ?_)
  generalize V.drew = V0 at *
  clear HH
  refine wpAnyF_take [1, 5, 6, 7] (i := 0) (v := ?_) rfl (by kernel_rfl) (by kernel_rfl) (by kernel_rfl) (by kernel_rfl) (fun _ _ _ h => h) (Or.inl ⟨by rfl, ?_⟩) (by assumption) ?_
  rotate_left
  · intro wS hSw
    (try dsimp only at hSw)
    go_simp
    try with_reducible rfl
  try simp only [Act.put, List.setIfInBounds_toArray]
  refine wpAnyF_take [5, 6, 7] (i := 1) (v := ?_) rfl (by kernel_rfl) (by kernel_rfl) (by kernel_rfl) (by kernel_rfl) (fun _ _ _ h => h) (Or.inl ⟨by rfl, ?_⟩) (by assumption) ?_
  rotate_left
  · intro wS hSw
    (try dsimp only at hSw)
    go_simp
    try with_reducible rfl
  try simp only [Act.put]
  refine wpAnyF_take [3, 4, 5, 6, 7] (i := 2) (v := ?_) rfl (by kernel_rfl) (by kernel_rfl) (by kernel_rfl) (by kernel_rfl) (fun _ _ _ h => h) (Or.inl ⟨by rfl, ?_⟩) (by assumption) ?_
  rotate_left
  · intro wS hSw
    (try dsimp only at hSw)
    go_simp
    try with_reducible rfl
  try simp only [Act.put]
  refine wpAnyF_ready (rs := [3]) (by kernel_rfl) rfl (AllReadyF.cons rfl (fun K hK => ?_) AllReadyF.nil)
  go_simp
  go_at_call 22
  refine (draw_any D a n c k 2 _ H0.out.deck (by have := HKk.out; have := HM.out; omega) (by omega)).mono ?_
  rintro e V1 ⟨d1, k3, hd1, hk1, rfl, hD1, hg1⟩
  have H2 := Lib.hid (H0.out.dealt hD1 hg1)
  have HKk3 : Hid (k3 ≤ k + 1) := by have := HKk.out; show _ ≤ _; omega
  have Hd1 : Hid (d1 < 2) := by show _ < _; omega
  clear hD1 hg1 hk1 hd1 H0 HKk
  refine hK.out _ _ (H2.out.cell 1 (j := 1) rfl rfl) (fun hHeld => ?_)
  clear hK K
  try simp only [Act.put, List.setIfInBounds_toArray, List.set_cons_zero, List.set_cons_succ]
  refine wpAnyF_ready (rs := [4]) (by kernel_rfl) rfl (AllReadyF.cons rfl (fun K hK => ?_) AllReadyF.nil)
  go_simp
  have H5 := Lib.hid (H2.out.new (.cells #[.int .i64 (d1 : Int)] 3))
  clear H2
  generalize hz : V1.heap.size = bT at *
  clear hz
  generalize hw : V1.alloc _ = V4 at *
  clear hw
  refine hK.out _ _ (H5.out.cell 1 (j := 1) rfl rfl) (fun hHeld => ?_)
  clear hK K
  try simp only [Act.put, List.setIfInBounds_toArray, List.set_cons_zero, List.set_cons_succ]
  refine wpAnyF_ready (rs := [5]) (by kernel_rfl) rfl (AllReadyF.cons rfl (fun K hK => ?_) AllReadyF.nil)
  refine step_append_lies _ rfl (.tmp 13) (.tmp 16) 24 rfl w0.heap.size 3 i3 (.int .i64 0) 1 8 Try.underlying24 hi3 hz3 hs3 hb3 rfl (by decide) (.slice va m vc) m (nums vl) ?_ (H5.out.row 0 _ rfl) ⟨bT, 0, none⟩ 1 1 (nums [d1]) ?_ rfl (World.news_of_block (H5.out.heap 2 rfl)) (nums_one _) (by decide) (by have := HM.out; unfold maxLen; omega) (by have := HM.out; omega) H5.out.keep.size _ rfl ?_
  · rfl
  · rfl
  intro g1 c1 V6 hown2 hgrow hwh hgl
  rw [← nums_append] at hown2
  have H7 := Lib.hid (H5.out.grown (i := 0) rfl hown2 hgrow hwh)
  clear hown2 hgrow hwh hgl H5
  refine hK.out _ _ (H7.out.cell 1 (j := 1) rfl rfl) (fun hHeld => ?_)
  clear hK K
  try simp only [Act.put, List.setIfInBounds_toArray]
  refine wpAnyF_take [7] (i := 6) (v := ?_) rfl (by kernel_rfl) (by kernel_rfl) (by kernel_rfl) (by kernel_rfl) (fun _ _ _ h => h) (Or.inl ⟨by rfl, ?_⟩) (by assumption) ?_
  rotate_left
  · intro wS hSw
    (try dsimp only at hSw)
    go_simp
    try with_reducible rfl
  try simp only [Act.put]
  refine wpAnyF_ready (rs := [7]) (by kernel_rfl) rfl (AllReadyF.last rfl rfl (fun K hK => ?_) AllReadyF.nil)
  have y0 := H7.out.cell 1 (j := 1) rfl rfl
  have f0 := H7.out.frozen 1 (j := 1) rfl
  go_simp
  have H9 := Lib.hid (H7.out.cellPut (j := 1) 1 rfl (.slice (some ⟨g1, 0, none⟩) (m + 1) c1))
  clear H7 y0 f0
  generalize V6.setCell ⟨p, 1, none⟩ (.slice (some ⟨g1, 0, none⟩) (m + 1) c1) = V8 at *
  refine hK.out _ _ ?_
  clear hK K
  try simp only [Act.put, List.setIfInBounds_toArray, List.set_cons_zero, List.set_cons_succ]
  refine wpAnyF_done (by kernel_rfl) ?_
  have hh := H9.out.drop (blks := [(R, .cells #[.slice none 0 0, .slice none 0 0] 26), (p, .cells #[.slice none 0 0, .slice (some ⟨g1, 0, none⟩) (m + 1) c1] 26)]) [_]
  exact HQ.out _ _ _ d1 g1 c1 rfl Hd1.out (by have := HKk3.out; omega) (Lib.hid hh)
end Go.Proofs.Ytlaolokakaheaaa
