/-
  PillarRead's drawn regions that copy the finds: what they leave, whichever order is drawn. The finds must lie in memory as told.
  Stoned, of the statements on pillars, makes a roll, finds of some of its pillars, and which these are, of a deck: true and right ones, in new memory; the deck alone is turned.
-/
import Derived.Test.YtfognlealnhodaaZ1
import Derived.Test.YtfognlealnhodaaZ3
import Derived.Test.YtfognlealnhodaaZ4
import Derived.Test.YtfognlealnhodaaZ2
import Derived.Test.YtfognlealnhodaaWO
namespace Go.Proofs.Ytfognlealnhodaa
open Go.RowKit

noncomputable def reg8_19 : Code := ((Try.f8.body.bind (regA 19)).getD .skip)
noncomputable def reg8_28 : Code := ((Try.f8.body.bind (regA 28)).getD .skip)
def frG19 (D2 rB fB rn k S ll lc q x : Nat) (la : Option Addr) (X : Nat → Value) : Array Value := #[X 0, X 1, X 2, X 3, X 4, X 5, X 6, X 7, .pointer (some ⟨D2, 0, none⟩), .pointer (some ⟨rB, 0, none⟩), .pointer (some ⟨fB, 0, none⟩), X 11, .int .i64 (rn : Int), X 13, X 14, X 15, X 16, X 17, X 18, X 19, .int .i64 (k : Int), .int .i64 (S : Int), X 22, .int .i64 (x : Int), X 24, X 25, X 26, X 27, X 28, X 29, X 30, X 31, X 32, X 33, X 34, X 35, X 36, X 37, X 38, X 39, X 40, X 41, X 42, X 43, X 44, X 45, X 46, X 47, X 48, X 49, X 50, X 51, X 52, X 53, X 54, X 55, X 56, X 57, X 58, X 59, X 60, X 61, X 62, X 63, X 64, X 65, X 66, X 67, X 68, X 69, X 70, X 71, X 72, X 73, X 74, X 75, X 76, X 77, X 78, X 79, X 80, X 81, X 82, X 83, X 84, X 85, X 86, X 87, X 88, X 89, X 90, X 91, X 92, X 93, X 94, X 95, X 96, X 97, X 98, X 99, X 100, X 101, X 102, .slice la ll lc, .int .i64 (ll : Int), .int .i64 (q : Int), X 106, X 107, X 108, X 109, X 110, X 111, X 112, X 113, X 114, X 115, X 116, X 117, X 118, X 119, X 120, X 121, X 122, X 123, X 124, X 125, X 126, X 127, X 128, X 129, X 130, X 131, X 132, X 133, X 134, X 135, X 136, X 137, X 138, X 139, X 140, X 141, X 142, X 143, X 144, X 145, X 146, X 147, X 148, X 149, X 150, X 151, X 152, X 153, X 154, X 155, X 156, X 157, X 158, X 159, X 160, X 161, X 162, X 163, X 164, X 165, X 166, X 167, X 168, X 169, X 170, X 171, X 172, X 173, X 174, X 175, X 176, X 177, X 178, X 179, X 180, X 181, X 182, X 183, X 184, X 185, X 186, X 187]
def frG20 (D2 rB fB rn k S ll lc q x ob : Nat) (la : Option Addr) (X : Nat → Value) : Array Value := #[X 0, X 1, X 2, X 3, X 4, X 5, X 6, X 7, .pointer (some ⟨D2, 0, none⟩), .pointer (some ⟨rB, 0, none⟩), .pointer (some ⟨fB, 0, none⟩), X 11, .int .i64 (rn : Int), X 13, X 14, X 15, X 16, X 17, X 18, X 19, .int .i64 (k : Int), .int .i64 (S : Int), X 22, .int .i64 (x : Int), .pointer (some ⟨ob, 0, none⟩), X 25, X 26, X 27, X 28, X 29, X 30, X 31, X 32, X 33, X 34, X 35, X 36, X 37, X 38, X 39, X 40, X 41, X 42, X 43, X 44, X 45, X 46, X 47, X 48, X 49, X 50, X 51, X 52, X 53, X 54, X 55, X 56, X 57, X 58, X 59, X 60, X 61, X 62, X 63, X 64, X 65, X 66, X 67, X 68, X 69, X 70, X 71, X 72, X 73, X 74, X 75, X 76, X 77, X 78, X 79, X 80, X 81, X 82, X 83, X 84, X 85, X 86, X 87, X 88, X 89, X 90, X 91, X 92, X 93, X 94, X 95, X 96, X 97, X 98, X 99, X 100, X 101, X 102, .slice la ll lc, .int .i64 (ll : Int), .int .i64 (q : Int), X 106, X 107, X 108, X 109, X 110, X 111, X 112, X 113, X 114, X 115, X 116, X 117, X 118, X 119, X 120, X 121, X 122, X 123, X 124, X 125, X 126, X 127, X 128, X 129, X 130, X 131, X 132, X 133, X 134, X 135, X 136, X 137, X 138, X 139, X 140, X 141, X 142, X 143, X 144, X 145, X 146, X 147, X 148, X 149, X 150, X 151, X 152, X 153, X 154, X 155, X 156, X 157, X 158, X 159, X 160, X 161, X 162, X 163, X 164, X 165, X 166, X 167, X 168, X 169, X 170, X 171, X 172, X 173, X 174, X 175, X 176, X 177, X 178, X 179, X 180, X 181, X 182, X 183, X 184, X 185, X 186, X 187]
def frG28 (D2 rB fB rn : Nat) (X : Nat → Value) : Array Value := #[X 0, X 1, X 2, X 3, X 4, X 5, X 6, X 7, .pointer (some ⟨D2, 0, none⟩), .pointer (some ⟨rB, 0, none⟩), .pointer (some ⟨fB, 0, none⟩), X 11, .int .i64 (rn : Int), X 13, X 14, X 15, X 16, X 17, X 18, X 19, X 20, X 21, X 22, X 23, X 24, X 25, X 26, X 27, X 28, X 29, X 30, X 31, X 32, X 33, X 34, X 35, X 36, X 37, X 38, X 39, X 40, X 41, X 42, X 43, X 44, X 45, X 46, X 47, X 48, X 49, X 50, X 51, X 52, X 53, X 54, X 55, X 56, X 57, X 58, X 59, X 60, X 61, X 62, X 63, X 64, X 65, X 66, X 67, X 68, X 69, X 70, X 71, X 72, X 73, X 74, X 75, X 76, X 77, X 78, X 79, X 80, X 81, X 82, X 83, X 84, X 85, X 86, X 87, X 88, X 89, X 90, X 91, X 92, X 93, X 94, X 95, X 96, X 97, X 98, X 99, X 100, X 101, X 102, X 103, X 104, X 105, X 106, X 107, X 108, X 109, X 110, X 111, X 112, X 113, X 114, X 115, X 116, X 117, X 118, X 119, X 120, X 121, X 122, X 123, X 124, X 125, X 126, X 127, X 128, X 129, X 130, X 131, X 132, X 133, X 134, X 135, X 136, X 137, X 138, X 139, X 140, X 141, X 142, X 143, X 144, X 145, X 146, X 147, X 148, X 149, X 150, X 151, X 152, X 153, X 154, X 155, X 156, X 157, X 158, X 159, X 160, X 161, X 162, X 163, X 164, X 165, X 166, X 167, X 168, X 169, X 170, X 171, X 172, X 173, X 174, X 175, X 176, X 177, X 178, X 179, X 180, X 181, X 182, X 183, X 184, X 185, X 186, X 187]

set_option maxRecDepth 1000000 in
set_option maxHeartbeats 16000000 in
theorem read_r19 (X : Nat → Value) (D2 rB fB rn k S ll lc q x fn fc n0 nc : Nat) (la fa na : Option Addr) (nl : List Int) (V : World) (Q : Exit → Act → World → Prop) (HF : Hid (∀ u, Ext V u → u.cell? ⟨fB, 0, none⟩ = some (.slice fa fn fc) ∧ u.cell? ⟨fB, 1, none⟩ = some (.slice na n0 nc))) (HN : Hid (∀ u, Ext V u → Calls Try.prog 29 #[.slice na n0 nc] u fun e w' => ∃ a' c', e = .returned (.slice a' n0 c') ∧ w'.ownsRow u.heap.size 3 1 (.slice a' n0 c') n0 (intsV nl) ∧ Ext u w'))
    (HQ : Hid (∀ (t : Array Value) (a2 : Option Addr) (c2 ob : Nat) (W : World), t = frG20 D2 rB fB rn k S ll lc q x ob la (fun j => t.getD j undef) → Hid (Mm V [⟨3, 1, .slice a2 n0 c2, n0, intsV nl⟩] [(ob, .cells #[.slice fa fn fc, .slice a2 n0 c2] 66)] W) → Q .normal ⟨t, []⟩ W)) :
    Code.wp Try.prog reg8_19 Q ⟨frG19 D2 rB fB rn k S ll lc q x la X, []⟩ V := by
  conv => arg 2; whnf
  conv => arg 4; dsimp only [frG19]
  have H0 : Hid (Mm V [] [] V.drew) := Mm.start.ext (Ext.refl V).drew
  refine wp_region_noPanic ?_
  refine wp_region_last [] (fun u => u.cell? ⟨fB, 0, none⟩ = some (.slice fa fn fc) ∧ u.cell? ⟨fB, 1, none⟩ = some (.slice na n0 nc)) (by kernel_rfl) (HF.out _ H0.out.to_ext) (fun hHeld => ?_)
  generalize V.drew = V0 at *
  refine wpAnyF_take [1, 5, 7] (i := 0) (v := ?_) rfl (by kernel_rfl) (by kernel_rfl) (by kernel_rfl) (by kernel_rfl) (fun _ _ _ h => h) (Or.inl ⟨by rfl, ?_⟩) (by assumption) ?_
  rotate_left
  · intro wS hSw
    (try dsimp only at hSw)
    go_simp
    try with_reducible rfl
  try simp only [Act.put, List.setIfInBounds_toArray]
  refine wpAnyF_take [5, 7] (i := 1) (v := ?_) rfl (by kernel_rfl) (by kernel_rfl) (by kernel_rfl) (by kernel_rfl) (fun _ _ _ h => h) (Or.inl ⟨by rfl, ?_⟩) (by assumption) ?_
  rotate_left
  · intro wS hSw
    (try dsimp only at hSw)
    go_simp
    try with_reducible rfl
  try simp only [Act.put]
  refine wpAnyF_take [3, 4, 5, 7] (i := 2) (v := ?_) rfl (by kernel_rfl) (by kernel_rfl) (by kernel_rfl) (by kernel_rfl) (fun _ _ _ h => h) (Or.inl ⟨by rfl, ?_⟩) (by assumption) ?_
  rotate_left
  · intro wS hSw
    (try dsimp only at hSw)
    go_simp
    try with_reducible rfl
  try simp only [Act.put]
  refine wpAnyF_take [4, 5, 7] (i := 3) (v := ?_) rfl (by kernel_rfl) (by kernel_rfl) (by kernel_rfl) (by kernel_rfl) (fun _ _ _ h => h) (Or.inl ⟨by rfl, ?_⟩) (by assumption) ?_
  rotate_left
  · intro wS hSw
    (try dsimp only at hSw)
    go_simp
    try with_reducible rfl
  try simp only [Act.put]
  refine wpAnyF_ready (rs := [4, 6]) (by kernel_rfl) rfl (AllReadyF.cons rfl (fun K hK => ?_) (AllReadyF.cons rfl (fun K hK => ?_) AllReadyF.nil))
  · -- 4
    go_simp
    go_at_call 29
    refine (HN.out _ H0.out.to_ext).mono ?_
    rintro e V1 ⟨a2, c2, rfl, ho, hx⟩
    have H2 := Lib.hid (H0.out.addRow hx ho)
    clear H0 ho hx
    refine hK.out _ _ (HF.out _ H2.out.to_ext) (fun hHeld => ?_)
    clear hK K
    try simp only [Act.put, List.setIfInBounds_toArray, List.set_cons_zero, List.set_cons_succ]
    refine wpAnyF_take [7] (i := 5) (v := ?_) rfl (by kernel_rfl) (by kernel_rfl) (by kernel_rfl) (by kernel_rfl) (fun _ _ _ h => h) (Or.inl ⟨by rfl, ?_⟩) (by assumption) ?_
    rotate_left
    · intro wS hSw
      (try dsimp only at hSw)
      go_simp
      try with_reducible rfl
    try simp only [Act.put, List.setIfInBounds_toArray]
    refine wpAnyF_ready (rs := [6]) (by kernel_rfl) rfl (AllReadyF.cons rfl (fun K hK => ?_) AllReadyF.nil)
    go_simp
    have H4 := Lib.hid (H2.out.new (.cells #[.slice none 0 0, .slice none 0 0] 66))
    clear H2
    generalize hz : V1.heap.size = ob at *
    clear hz
    generalize hw : V1.alloc _ = V3 at *
    clear hw
    refine hK.out _ _ (HF.out _ H4.out.to_ext) (fun hHeld => ?_)
    clear hK K
    try simp only [Act.put, List.setIfInBounds_toArray, List.set_cons_zero, List.set_cons_succ]
    refine wpAnyF_ready (rs := [7]) (by kernel_rfl) rfl (AllReadyF.cons rfl (fun K hK => ?_) AllReadyF.nil)
    have y0 := H4.out.cell 0 (j := 0) rfl rfl
    have y1 := H4.out.cell 0 (j := 1) rfl rfl
    have z0 := H4.out.frozen 0 (j := 0) rfl
    have z1 := H4.out.frozen 0 (j := 1) rfl
    go_simp
    have H6 := Lib.hid ((H4.out.cellPut (j := 0) 0 rfl (.slice fa fn fc)).cellPut (j := 1) 0 rfl (.slice a2 n0 c2))
    clear H4 y0 y1 z0 z1
    generalize (V3.setCell ⟨ob, 0, none⟩ (.slice fa fn fc)).setCell ⟨ob, 1, none⟩ (.slice a2 n0 c2) = V5 at *
    refine hK.out _ _ (HF.out _ H6.out.to_ext) (fun hHeld => ?_)
    clear hK K
    try simp only [Act.put, List.setIfInBounds_toArray, List.set_cons_zero, List.set_cons_succ]
    refine wpAnyF_done (by kernel_rfl) ?_
    exact HQ.out _ a2 c2 ob _ rfl H6
  · -- 6
    go_simp
    have H2 := Lib.hid (H0.out.new (.cells #[.slice none 0 0, .slice none 0 0] 66))
    clear H0
    generalize hz : V0.heap.size = ob at *
    clear hz
    generalize hw : V0.alloc _ = V1 at *
    clear hw
    refine hK.out _ _ (HF.out _ H2.out.to_ext) (fun hHeld => ?_)
    clear hK K
    try simp only [Act.put, List.setIfInBounds_toArray, List.set_cons_zero, List.set_cons_succ]
    refine wpAnyF_ready (rs := [4]) (by kernel_rfl) rfl (AllReadyF.cons rfl (fun K hK => ?_) AllReadyF.nil)
    go_simp
    go_at_call 29
    refine (HN.out _ H2.out.to_ext).mono ?_
    rintro e V3 ⟨a2, c2, rfl, ho, hx⟩
    have H4 := Lib.hid (H2.out.addRow hx ho)
    clear H2 ho hx
    refine hK.out _ _ (HF.out _ H4.out.to_ext) (fun hHeld => ?_)
    clear hK K
    try simp only [Act.put, List.setIfInBounds_toArray, List.set_cons_zero, List.set_cons_succ]
    refine wpAnyF_take [7] (i := 5) (v := ?_) rfl (by kernel_rfl) (by kernel_rfl) (by kernel_rfl) (by kernel_rfl) (fun _ _ _ h => h) (Or.inl ⟨by rfl, ?_⟩) (by assumption) ?_
    rotate_left
    · intro wS hSw
      (try dsimp only at hSw)
      go_simp
      try with_reducible rfl
    try simp only [Act.put, List.setIfInBounds_toArray]
    refine wpAnyF_ready (rs := [7]) (by kernel_rfl) rfl (AllReadyF.cons rfl (fun K hK => ?_) AllReadyF.nil)
    have y0 := H4.out.cell 0 (j := 0) rfl rfl
    have y1 := H4.out.cell 0 (j := 1) rfl rfl
    have z0 := H4.out.frozen 0 (j := 0) rfl
    have z1 := H4.out.frozen 0 (j := 1) rfl
    go_simp
    have H6 := Lib.hid ((H4.out.cellPut (j := 0) 0 rfl (.slice fa fn fc)).cellPut (j := 1) 0 rfl (.slice a2 n0 c2))
    clear H4 y0 y1 z0 z1
    generalize (V3.setCell ⟨ob, 0, none⟩ (.slice fa fn fc)).setCell ⟨ob, 1, none⟩ (.slice a2 n0 c2) = V5 at *
    refine hK.out _ _ (HF.out _ H6.out.to_ext) (fun hHeld => ?_)
    clear hK K
    try simp only [Act.put, List.setIfInBounds_toArray, List.set_cons_zero, List.set_cons_succ]
    refine wpAnyF_done (by kernel_rfl) ?_
    exact HQ.out _ a2 c2 ob _ rfl H6

set_option maxRecDepth 1000000 in
set_option maxHeartbeats 16000000 in
theorem read_r28 (X : Nat → Value) (D2 rB fB rn fn fc n0 nc : Nat) (fa na : Option Addr) (gl : List (Nat × Nat)) (nl : List Int) (V : World) (Q : Exit → Act → World → Prop) (HF : Hid (∀ u, Ext V u → u.cell? ⟨fB, 0, none⟩ = some (.slice fa fn fc) ∧ u.cell? ⟨fB, 1, none⟩ = some (.slice na n0 nc))) (HG : Hid (∀ u, Ext V u → Calls Try.prog 36 #[.slice fa fn fc] u fun e w' => ∃ a' c', e = .returned (.slice a' fn c') ∧ w'.ownsRow u.heap.size 28 2 (.slice a' fn c') fn (flat 2 spC gl) ∧ Ext u w')) (HN : Hid (∀ u, Ext V u → Calls Try.prog 29 #[.slice na n0 nc] u fun e w' => ∃ a' c', e = .returned (.slice a' n0 c') ∧ w'.ownsRow u.heap.size 3 1 (.slice a' n0 c') n0 (intsV nl) ∧ Ext u w'))
    (HQ : Hid (∀ (t : Array Value) (a1 a2 : Option Addr) (c1 c2 xB : Nat) (W : World), t = frY29 D2 rB fB xB rn (fun j => t.getD j undef) → Hid (Mm V [⟨28, 2, .slice a1 fn c1, fn, flat 2 spC gl⟩, ⟨3, 1, .slice a2 n0 c2, n0, intsV nl⟩] [(xB, .cells #[.slice a1 fn c1, .slice a2 n0 c2] 66)] W) → Q .normal ⟨t, []⟩ W)) :
    Code.wp Try.prog reg8_28 Q ⟨frG28 D2 rB fB rn X, []⟩ V := by
  conv => arg 2; whnf
  conv => arg 4; dsimp only [frG28]
  have H0 : Hid (Mm V [] [] V.drew) := Mm.start.ext (Ext.refl V).drew
  refine wp_region_noPanic ?_
  refine wp_region_last [] (fun u => u.cell? ⟨fB, 0, none⟩ = some (.slice fa fn fc) ∧ u.cell? ⟨fB, 1, none⟩ = some (.slice na n0 nc)) (by kernel_rfl) (HF.out _ H0.out.to_ext) (fun hHeld => ?_)
  generalize V.drew = V0 at *
  refine wpAnyF_take [1, 2, 5, 6, 8] (i := 0) (v := ?_) rfl (by kernel_rfl) (by kernel_rfl) (by kernel_rfl) (by kernel_rfl) (fun _ _ _ h => h) (Or.inl ⟨by rfl, ?_⟩) (by assumption) ?_
  rotate_left
  · intro wS hSw
    (try dsimp only at hSw)
    go_simp
    try with_reducible rfl
  try simp only [Act.put, List.setIfInBounds_toArray]
  refine wpAnyF_take [2, 5, 6, 8] (i := 1) (v := ?_) rfl (by kernel_rfl) (by kernel_rfl) (by kernel_rfl) (by kernel_rfl) (fun _ _ _ h => h) (Or.inl ⟨by rfl, ?_⟩) (by assumption) ?_
  rotate_left
  · intro wS hSw
    (try dsimp only at hSw)
    go_simp
    try with_reducible rfl
  try simp only [Act.put]
  refine wpAnyF_take [4, 5, 6, 8] (i := 3) (v := ?_) rfl (by kernel_rfl) (by kernel_rfl) (by kernel_rfl) (by kernel_rfl) (fun _ _ _ h => h) (Or.inl ⟨by rfl, ?_⟩) (by assumption) ?_
  rotate_left
  · intro wS hSw
    (try dsimp only at hSw)
    go_simp
    try with_reducible rfl
  try simp only [Act.put]
  refine wpAnyF_take [5, 6, 8] (i := 4) (v := ?_) rfl (by kernel_rfl) (by kernel_rfl) (by kernel_rfl) (by kernel_rfl) (fun _ _ _ h => h) (Or.inl ⟨by rfl, ?_⟩) (by assumption) ?_
  rotate_left
  · intro wS hSw
    (try dsimp only at hSw)
    go_simp
    try with_reducible rfl
  try simp only [Act.put]
  refine wpAnyF_ready (rs := [2, 7]) (by kernel_rfl) rfl (AllReadyF.cons rfl (fun K hK => ?_) (AllReadyF.cons rfl (fun K hK => ?_) AllReadyF.nil))
  · -- 2
    go_simp
    go_at_call 36
    refine (HG.out _ H0.out.to_ext).mono ?_
    rintro e V1 ⟨a1, c1, rfl, ho, hx⟩
    have H2 := Lib.hid (H0.out.addRow hx ho)
    clear H0 ho hx
    refine hK.out _ _ (HF.out _ H2.out.to_ext) (fun hHeld => ?_)
    clear hK K
    try simp only [Act.put, List.setIfInBounds_toArray, List.set_cons_zero, List.set_cons_succ]
    refine wpAnyF_ready (rs := [5, 7]) (by kernel_rfl) rfl (AllReadyF.cons rfl (fun K hK => ?_) (AllReadyF.cons rfl (fun K hK => ?_) AllReadyF.nil))
    · -- 5
      go_simp
      go_at_call 29
      refine (HN.out _ H2.out.to_ext).mono ?_
      rintro e V3 ⟨a2, c2, rfl, ho, hx⟩
      have H4 := Lib.hid (H2.out.addRow hx ho)
      clear H2 ho hx
      refine hK.out _ _ (HF.out _ H4.out.to_ext) (fun hHeld => ?_)
      clear hK K
      try simp only [Act.put, List.setIfInBounds_toArray, List.set_cons_zero, List.set_cons_succ]
      refine wpAnyF_take [8] (i := 6) (v := ?_) rfl (by kernel_rfl) (by kernel_rfl) (by kernel_rfl) (by kernel_rfl) (fun _ _ _ h => h) (Or.inl ⟨by rfl, ?_⟩) (by assumption) ?_
      rotate_left
      · intro wS hSw
        (try dsimp only at hSw)
        go_simp
        try with_reducible rfl
      try simp only [Act.put, List.setIfInBounds_toArray]
      refine wpAnyF_ready (rs := [7]) (by kernel_rfl) rfl (AllReadyF.cons rfl (fun K hK => ?_) AllReadyF.nil)
      go_simp
      have H6 := Lib.hid (H4.out.new (.cells #[.slice none 0 0, .slice none 0 0] 66))
      clear H4
      generalize hz : V3.heap.size = xB at *
      clear hz
      generalize hw : V3.alloc _ = V5 at *
      clear hw
      refine hK.out _ _ (HF.out _ H6.out.to_ext) (fun hHeld => ?_)
      clear hK K
      try simp only [Act.put, List.setIfInBounds_toArray, List.set_cons_zero, List.set_cons_succ]
      refine wpAnyF_ready (rs := [8]) (by kernel_rfl) rfl (AllReadyF.cons rfl (fun K hK => ?_) AllReadyF.nil)
      have y0 := H6.out.cell 0 (j := 0) rfl rfl
      have y1 := H6.out.cell 0 (j := 1) rfl rfl
      have z0 := H6.out.frozen 0 (j := 0) rfl
      have z1 := H6.out.frozen 0 (j := 1) rfl
      go_simp
      have H8 := Lib.hid ((H6.out.cellPut (j := 0) 0 rfl (.slice a1 fn c1)).cellPut (j := 1) 0 rfl (.slice a2 n0 c2))
      clear H6 y0 y1 z0 z1
      generalize (V5.setCell ⟨xB, 0, none⟩ (.slice a1 fn c1)).setCell ⟨xB, 1, none⟩ (.slice a2 n0 c2) = V7 at *
      refine hK.out _ _ (HF.out _ H8.out.to_ext) (fun hHeld => ?_)
      clear hK K
      try simp only [Act.put, List.setIfInBounds_toArray, List.set_cons_zero, List.set_cons_succ]
      refine wpAnyF_done (by kernel_rfl) ?_
      exact HQ.out _ a1 a2 c1 c2 xB _ rfl H8
    · -- 7
      go_simp
      have H4 := Lib.hid (H2.out.new (.cells #[.slice none 0 0, .slice none 0 0] 66))
      clear H2
      generalize hz : V1.heap.size = xB at *
      clear hz
      generalize hw : V1.alloc _ = V3 at *
      clear hw
      refine hK.out _ _ (HF.out _ H4.out.to_ext) (fun hHeld => ?_)
      clear hK K
      try simp only [Act.put, List.setIfInBounds_toArray, List.set_cons_zero, List.set_cons_succ]
      refine wpAnyF_ready (rs := [5]) (by kernel_rfl) rfl (AllReadyF.cons rfl (fun K hK => ?_) AllReadyF.nil)
      go_simp
      go_at_call 29
      refine (HN.out _ H4.out.to_ext).mono ?_
      rintro e V5 ⟨a2, c2, rfl, ho, hx⟩
      have H6 := Lib.hid (H4.out.addRow hx ho)
      clear H4 ho hx
      refine hK.out _ _ (HF.out _ H6.out.to_ext) (fun hHeld => ?_)
      clear hK K
      try simp only [Act.put, List.setIfInBounds_toArray, List.set_cons_zero, List.set_cons_succ]
      refine wpAnyF_take [8] (i := 6) (v := ?_) rfl (by kernel_rfl) (by kernel_rfl) (by kernel_rfl) (by kernel_rfl) (fun _ _ _ h => h) (Or.inl ⟨by rfl, ?_⟩) (by assumption) ?_
      rotate_left
      · intro wS hSw
        (try dsimp only at hSw)
        go_simp
        try with_reducible rfl
      try simp only [Act.put, List.setIfInBounds_toArray]
      refine wpAnyF_ready (rs := [8]) (by kernel_rfl) rfl (AllReadyF.cons rfl (fun K hK => ?_) AllReadyF.nil)
      have y0 := H6.out.cell 0 (j := 0) rfl rfl
      have y1 := H6.out.cell 0 (j := 1) rfl rfl
      have z0 := H6.out.frozen 0 (j := 0) rfl
      have z1 := H6.out.frozen 0 (j := 1) rfl
      go_simp
      have H8 := Lib.hid ((H6.out.cellPut (j := 0) 0 rfl (.slice a1 fn c1)).cellPut (j := 1) 0 rfl (.slice a2 n0 c2))
      clear H6 y0 y1 z0 z1
      generalize (V5.setCell ⟨xB, 0, none⟩ (.slice a1 fn c1)).setCell ⟨xB, 1, none⟩ (.slice a2 n0 c2) = V7 at *
      refine hK.out _ _ (HF.out _ H8.out.to_ext) (fun hHeld => ?_)
      clear hK K
      try simp only [Act.put, List.setIfInBounds_toArray, List.set_cons_zero, List.set_cons_succ]
      refine wpAnyF_done (by kernel_rfl) ?_
      exact HQ.out _ a1 a2 c1 c2 xB _ rfl H8
  · -- 7
    go_simp
    have H2 := Lib.hid (H0.out.new (.cells #[.slice none 0 0, .slice none 0 0] 66))
    clear H0
    generalize hz : V0.heap.size = xB at *
    clear hz
    generalize hw : V0.alloc _ = V1 at *
    clear hw
    refine hK.out _ _ (HF.out _ H2.out.to_ext) (fun hHeld => ?_)
    clear hK K
    try simp only [Act.put, List.setIfInBounds_toArray, List.set_cons_zero, List.set_cons_succ]
    refine wpAnyF_ready (rs := [2]) (by kernel_rfl) rfl (AllReadyF.cons rfl (fun K hK => ?_) AllReadyF.nil)
    go_simp
    go_at_call 36
    refine (HG.out _ H2.out.to_ext).mono ?_
    rintro e V3 ⟨a1, c1, rfl, ho, hx⟩
    have H4 := Lib.hid (H2.out.addRow hx ho)
    clear H2 ho hx
    refine hK.out _ _ (HF.out _ H4.out.to_ext) (fun hHeld => ?_)
    clear hK K
    try simp only [Act.put, List.setIfInBounds_toArray, List.set_cons_zero, List.set_cons_succ]
    refine wpAnyF_ready (rs := [5]) (by kernel_rfl) rfl (AllReadyF.cons rfl (fun K hK => ?_) AllReadyF.nil)
    go_simp
    go_at_call 29
    refine (HN.out _ H4.out.to_ext).mono ?_
    rintro e V5 ⟨a2, c2, rfl, ho, hx⟩
    have H6 := Lib.hid (H4.out.addRow hx ho)
    clear H4 ho hx
    refine hK.out _ _ (HF.out _ H6.out.to_ext) (fun hHeld => ?_)
    clear hK K
    try simp only [Act.put, List.setIfInBounds_toArray, List.set_cons_zero, List.set_cons_succ]
    refine wpAnyF_take [8] (i := 6) (v := ?_) rfl (by kernel_rfl) (by kernel_rfl) (by kernel_rfl) (by kernel_rfl) (fun _ _ _ h => h) (Or.inl ⟨by rfl, ?_⟩) (by assumption) ?_
    rotate_left
    · intro wS hSw
      (try dsimp only at hSw)
      go_simp
      try with_reducible rfl
    try simp only [Act.put, List.setIfInBounds_toArray]
    refine wpAnyF_ready (rs := [8]) (by kernel_rfl) rfl (AllReadyF.cons rfl (fun K hK => ?_) AllReadyF.nil)
    have y0 := H6.out.cell 0 (j := 0) rfl rfl
    have y1 := H6.out.cell 0 (j := 1) rfl rfl
    have z0 := H6.out.frozen 0 (j := 0) rfl
    have z1 := H6.out.frozen 0 (j := 1) rfl
    go_simp
    have H8 := Lib.hid ((H6.out.cellPut (j := 0) 0 rfl (.slice a1 fn c1)).cellPut (j := 1) 0 rfl (.slice a2 n0 c2))
    clear H6 y0 y1 z0 z1
    generalize (V5.setCell ⟨xB, 0, none⟩ (.slice a1 fn c1)).setCell ⟨xB, 1, none⟩ (.slice a2 n0 c2) = V7 at *
    refine hK.out _ _ (HF.out _ H8.out.to_ext) (fun hHeld => ?_)
    clear hK K
    try simp only [Act.put, List.setIfInBounds_toArray, List.set_cons_zero, List.set_cons_succ]
    refine wpAnyF_done (by kernel_rfl) ?_
    exact HQ.out _ a1 a2 c1 c2 xB _ rfl H8
end Go.Proofs.Ytfognlealnhodaa

namespace Go.Proofs.Ytfognlealnhodaa
open Go.RowKit

def frA (D most R1 R2 p cnt i tc : Nat) (ta : Option Addr) (X : Nat → Value) : Array Value := #[.pointer (some ⟨D, 0, none⟩), .int .i64 (most : Int), X 2, X 3, .pointer (some ⟨R1, 0, none⟩), .pointer (some ⟨R2, 0, none⟩), X 6, .pointer (some ⟨p, 0, none⟩), .slice ta i tc, X 9, X 10, X 11, X 12, X 13, X 14, X 15, X 16, X 17, X 18, X 19, .int .i64 (cnt : Int), .int .i64 (i : Int), X 22, X 23, X 24, X 25, X 26, X 27, X 28, X 29, X 30, X 31, X 32, X 33, X 34, X 35, X 36, X 37, X 38, X 39, X 40, X 41, X 42, X 43, X 44, X 45, X 46, X 47, X 48, X 49, X 50, X 51, X 52, X 53, X 54, X 55, X 56, X 57, X 58, X 59, X 60, X 61, X 62, X 63, X 64, X 65, X 66, X 67, X 68, X 69, X 70, X 71, X 72, X 73, X 74, X 75, X 76, X 77, X 78, X 79, X 80, X 81, X 82, X 83, X 84, X 85, X 86, X 87, X 88, X 89, X 90, X 91, X 92, X 93, X 94, X 95, X 96, X 97, X 98, X 99, X 100, X 101, X 102, X 103, X 104, X 105, X 106, X 107, X 108, X 109, X 110, X 111, X 112, X 113, X 114, X 115, X 116, X 117]
def frB (D most R1 R2 p pf cnt k0 m tc n0 rc : Nat) (ta ra : Option Addr) (X : Nat → Value) : Array Value := #[.pointer (some ⟨D, 0, none⟩), .int .i64 (most : Int), X 2, X 3, .pointer (some ⟨R1, 0, none⟩), .pointer (some ⟨R2, 0, none⟩), X 6, .pointer (some ⟨p, 0, none⟩), .slice ta m tc, X 9, .pointer (some ⟨pf, 0, none⟩), .slice ra n0 rc, X 12, X 13, X 14, X 15, X 16, X 17, X 18, X 19, X 20, X 21, X 22, X 23, X 24, X 25, X 26, X 27, X 28, X 29, X 30, X 31, X 32, X 33, X 34, X 35, X 36, X 37, X 38, X 39, X 40, X 41, X 42, X 43, X 44, X 45, X 46, .int .i64 (cnt : Int), .int .i64 (k0 : Int), X 49, X 50, X 51, X 52, X 53, X 54, X 55, X 56, X 57, X 58, X 59, X 60, X 61, X 62, X 63, X 64, X 65, X 66, X 67, X 68, X 69, X 70, X 71, X 72, X 73, X 74, X 75, X 76, X 77, X 78, X 79, X 80, X 81, X 82, X 83, X 84, X 85, X 86, X 87, X 88, X 89, X 90, X 91, X 92, X 93, X 94, X 95, X 96, X 97, X 98, X 99, X 100, X 101, X 102, X 103, X 104, X 105, X 106, X 107, X 108, X 109, X 110, X 111, X 112, X 113, X 114, X 115, X 116, X 117]
def frC (D most R1 R2 p pf cnt k0 m tc n0 rc S tb r ln lc q : Nat) (ta ra : Option Addr) (X : Nat → Value) : Array Value := #[.pointer (some ⟨D, 0, none⟩), .int .i64 (most : Int), X 2, X 3, .pointer (some ⟨R1, 0, none⟩), .pointer (some ⟨R2, 0, none⟩), X 6, .pointer (some ⟨p, 0, none⟩), .slice ta m tc, X 9, .pointer (some ⟨pf, 0, none⟩), .slice ra n0 rc, .int .i64 (k0 : Int), .int .i64 (n0 : Int), .int .i64 (S : Int), X 15, X 16, X 17, X 18, X 19, X 20, X 21, X 22, X 23, X 24, X 25, X 26, X 27, X 28, X 29, X 30, X 31, X 32, X 33, X 34, X 35, X 36, X 37, X 38, X 39, X 40, X 41, X 42, X 43, X 44, X 45, X 46, .int .i64 (cnt : Int), .int .i64 (k0 : Int), X 49, X 50, X 51, X 52, X 53, X 54, X 55, X 56, X 57, X 58, X 59, X 60, X 61, X 62, X 63, X 64, X 65, X 66, X 67, X 68, X 69, X 70, X 71, X 72, X 73, X 74, X 75, .slice (some ⟨tb, r, none⟩) ln lc, .int .i64 (ln : Int), .int .i64 (q : Int), X 79, X 80, X 81, X 82, X 83, X 84, X 85, X 86, X 87, X 88, X 89, X 90, X 91, X 92, X 93, X 94, X 95, X 96, X 97, X 98, X 99, X 100, X 101, X 102, X 103, X 104, X 105, X 106, X 107, X 108, X 109, X 110, X 111, X 112, X 113, X 114, X 115, X 116, X 117]
def InvA (w : World) (D : Nat) (a : Option Addr) (n c k most R1 R2 p cnt : Nat) (ac : Act) (wr : World) : Prop :=
  ∃ (X : Nat → Value) (i k' gc tc : Nat) (ga ta : Option Addr) (gl : List (Nat × Nat)) (tl : List Nat), ac = { tmps := frA D most R1 R2 p cnt i tc ta X, defers := [] } ∧ i ≤ cnt ∧ k' ≤ k + 1 + 3 * i ∧ Hid (gl.length = i) ∧ Hid (RollM gl tl) ∧ Hid (Held w D a n c k' [⟨28, 2, .slice ga i gc, i, flat 2 spC gl⟩, ⟨3, 1, .slice ta i tc, i, nums tl⟩] [(R1, .cells #[.slice none 0 0] 64), (R2, .cells #[.slice none 0 0, .slice none 0 0] 66), (p, .cells #[.slice ga i gc] 64)] wr)
theorem InvA.of {w : World} {D : Nat} {a : Option Addr} {n c k most R1 R2 p cnt : Nat} {t : Array Value} {wr : World} (i k' gc tc : Nat) (ga ta : Option Addr) (gl : List (Nat × Nat)) (tl : List Nat) (ht : t = frA D most R1 R2 p cnt i tc ta (fun j => t.getD j undef)) (h1 : i ≤ cnt) (h2 : k' ≤ k + 1 + 3 * i) (h3 : gl.length = i) (h4 : RollM gl tl) (h5 : Held w D a n c k' [⟨28, 2, .slice ga i gc, i, flat 2 spC gl⟩, ⟨3, 1, .slice ta i tc, i, nums tl⟩] [(R1, .cells #[.slice none 0 0] 64), (R2, .cells #[.slice none 0 0, .slice none 0 0] 66), (p, .cells #[.slice ga i gc] 64)] wr) : InvA w D a n c k most R1 R2 p cnt { tmps := t, defers := [] } wr := ⟨_, i, k', gc, tc, ga, ta, gl, tl, by rw [← ht], h1, h2, h3, h4, h5⟩
/-- What is told of the second loop. -/
structure InB (gl fl : List (Nat × Nat)) (tl rl : List Nat) (nl : List Int) (m1 j fn n0 : Nat) : Prop where
  real : RealM gl tl j fl nl rl
  fn' : fl.length = fn
  nn : nl.length = n0
  rn : rl.length = n0
  le : n0 ≤ j
  ne : j = m1 → n0 ≠ 0
  gb : ∀ x ∈ fl, x.2 ≤ 1000
def InvB (w : World) (D : Nat) (a : Option Addr) (n c k most R1 R2 p pf m m1 tc gc : Nat) (ga ta : Option Addr) (gl : List (Nat × Nat)) (tl : List Nat) (ac : Act) (wr : World) : Prop :=
  ∃ (X : Nat → Value) (k0 k' fn fc n0 nc rc : Nat) (fa na ra : Option Addr) (fl : List (Nat × Nat)) (rl : List Nat) (nl : List Int), ac = { tmps := frB D most R1 R2 p pf m1 k0 m tc n0 rc ta ra X, defers := [] } ∧ k0 ≤ m1 ∧ k' ≤ k + 4 * k0 ∧ Hid (InB gl fl tl rl nl m1 k0 fn n0) ∧ Hid (Held w D a n c k' [⟨28, 2, .slice ga m gc, m, flat 2 spC gl⟩, ⟨3, 1, .slice ta m tc, m, nums tl⟩, ⟨28, 2, .slice fa fn fc, fn, flat 2 spC fl⟩, ⟨3, 1, .slice na n0 nc, n0, intsV nl⟩, ⟨3, 1, .slice ra n0 rc, n0, nums rl⟩] [(R1, .cells #[.slice none 0 0] 64), (R2, .cells #[.slice none 0 0, .slice none 0 0] 66), (p, .cells #[.slice ga m gc] 64), (pf, .cells #[.slice fa fn fc, .slice na n0 nc] 66)] wr)
theorem InvB.of {w : World} {D : Nat} {a : Option Addr} {n c k most R1 R2 p pf m m1 tc gc : Nat} {ga ta : Option Addr} {gl : List (Nat × Nat)} {tl : List Nat} {t : Array Value} {wr : World} (k0 k' fn fc n0 nc rc : Nat) (fa na ra : Option Addr) (fl : List (Nat × Nat)) (rl : List Nat) (nl : List Int) (ht : t = frB D most R1 R2 p pf m1 k0 m tc n0 rc ta ra (fun j => t.getD j undef)) (h1 : k0 ≤ m1) (h2 : k' ≤ k + 4 * k0) (h3 : InB gl fl tl rl nl m1 k0 fn n0) (h4 : Held w D a n c k' [⟨28, 2, .slice ga m gc, m, flat 2 spC gl⟩, ⟨3, 1, .slice ta m tc, m, nums tl⟩, ⟨28, 2, .slice fa fn fc, fn, flat 2 spC fl⟩, ⟨3, 1, .slice na n0 nc, n0, intsV nl⟩, ⟨3, 1, .slice ra n0 rc, n0, nums rl⟩] [(R1, .cells #[.slice none 0 0] 64), (R2, .cells #[.slice none 0 0, .slice none 0 0] 66), (p, .cells #[.slice ga m gc] 64), (pf, .cells #[.slice fa fn fc, .slice na n0 nc] 66)] wr) : InvB w D a n c k most R1 R2 p pf m m1 tc gc ga ta gl tl { tmps := t, defers := [] } wr :=
  ⟨_, k0, k', fn, fc, n0, nc, rc, fa, na, ra, fl, rl, nl, by rw [← ht], h1, h2, h3, h4⟩
def InvC (w7 : World) (D most R1 R2 p pf m1 j i tc n0 rc tb rb r ln lc : Nat) (tl : List Nat) (ac : Act) (wr : World) : Prop :=
  ∃ (X : Nat → Value) (q S : Nat), ac = { tmps := frC D most R1 R2 p pf m1 j i tc n0 rc S tb r ln lc q (some ⟨tb, 0, none⟩) (some ⟨rb, 0, none⟩) X, defers := [] } ∧ q ≤ ln ∧ Hid (sumN (fun m => tl[r + m]?.getD 0) q = S) ∧ w7 = wr
theorem InvC.of {w7 : World} {D most R1 R2 p pf m1 j i tc n0 rc tb rb r ln lc : Nat} {tl : List Nat} {t : Array Value} (q S : Nat) (ht : t = frC D most R1 R2 p pf m1 j i tc n0 rc S tb r ln lc q (some ⟨tb, 0, none⟩) (some ⟨rb, 0, none⟩) (fun j => t.getD j undef)) (h1 : q ≤ ln) (h2 : sumN (fun m => tl[r + m]?.getD 0) q = S) : InvC w7 D most R1 R2 p pf m1 j i tc n0 rc tb rb r ln lc tl { tmps := t, defers := [] } w7 := ⟨_, q, S, by rw [← ht], h1, h2, rfl⟩

set_option maxRecDepth 1000000 in
set_option maxHeartbeats 16000000 in
theorem stoned_any (D : Nat) (a : Option Addr) (n c k most : Nat) (w : World) (hd : IsDeck w D a n c k) (hk : k ≤ 500) (hm : 1 ≤ most) (hm2 : most ≤ 9) :
    Calls Try.prog 32 #[.pointer (some ⟨D, 0, none⟩), .int .i64 (most : Int)] w fun e w' => ∃ (ga fa na ra ta : Option Addr) (gc fc nc rc m fn n0 k' : Nat) (gl fl : List (Nat × Nat)) (tl rl : List Nat) (nl : List Int) (tc : Nat), e = .returned (.tuple #[.agg #[.slice ga m gc], .agg #[.slice fa fn fc, .slice na n0 nc], .slice ra n0 rc]) ∧ RollM gl tl ∧ InB gl fl tl rl nl (m + 1) (m + 1) fn n0 ∧ gl.length = m ∧ 1 ≤ m ∧ m ≤ most ∧ k' ≤ k + 5 + 7 * most ∧ Held w D a n c k' [⟨28, 2, .slice ga m gc, m, flat 2 spC gl⟩, ⟨3, 1, .slice ta m tc, m, nums tl⟩, ⟨28, 2, .slice fa fn fc, fn, flat 2 spC fl⟩, ⟨3, 1, .slice na n0 nc, n0, intsV nl⟩, ⟨3, 1, .slice ra n0 rc, n0, nums rl⟩] [] w' := by
  have HD0 := Lib.hid (Held.start hd)
  clear hd
  have H1 : Hid (Held w D a n c k [⟨28, 2, .slice none 0 0, 0, flat 2 spC []⟩, ⟨3, 1, .slice none 0 0, 0, nums []⟩] [(w.heap.size, .cells #[.slice none 0 0] 64), (w.heap.size + 1, .cells #[.slice none 0 0, .slice none 0 0] 66), (w.heap.size + 2, .cells #[.slice none 0 0] 64)] (((w.alloc (.cells #[.slice none 0 0] 64)).alloc (.cells #[.slice none 0 0, .slice none 0 0] 66)).alloc (.cells #[.slice none 0 0] 64))) := by
    have h := ((((HD0.out.nilRow 28 2).nilRow 3 1).new (.cells #[.slice none 0 0] 64)).new (.cells #[.slice none 0 0, .slice none 0 0] 66)).new (.cells #[.slice none 0 0] 64)
    simp only [World.size_alloc] at h
    exact h
  clear HD0
  have HMo : Hid (1 ≤ most ∧ most ≤ 9 ∧ k ≤ 500) := ⟨hm, hm2, hk⟩
  clear hm hm2 hk
  go_enter Try.func32, Try.ntmps32
  go_wp2_with fail
  generalize ((w.alloc (.cells #[.slice none 0 0] 64)).alloc (.cells #[.slice none 0 0, .slice none 0 0] 66)).alloc (.cells #[.slice none 0 0] 64) = w1 at *
  generalize w.heap.size + 2 = p at *
  generalize w.heap.size + 1 = R2 at *
  generalize w.heap.size = R1 at *
  refine (dbetween_any D a n c k 1 (most : Int) _ H1.out.deck (by have := HMo.out; omega) (by omega) (by have := HMo.out; omega) (by have := HMo.out; omega)).mono ?_
  rintro e w2 ⟨cI, k1, hc1, hc2, hk1, rfl, hD1, hg1⟩
  obtain ⟨cnt, rfl⟩ : ∃ cnt : Nat, cI = (cnt : Int) := ⟨cI.toNat, by omega⟩
  have H2 := Lib.hid (H1.out.dealt hD1 hg1)
  have HCn : Hid (1 ≤ cnt ∧ cnt ≤ most ∧ k1 ≤ k + 1) := by have := HMo.out; show _ ∧ _ ∧ _; omega
  clear hD1 hg1 hc1 hc2 hk1 H1
  go_wp2_with fail
  refine wp_loop (InvA w D a n c k most R1 R2 p cnt) (fun a _ => cnt - (intOf (a.tmps.getD 21 undef)).toNat) (InvA.of 0 k1 0 0 none none [] [] rfl (Nat.zero_le _) (by have := HCn.out; omega) rfl RollM.nil H2.out) ?_
  clear H2
  rintro ac wr ⟨X, i, k', gc, tc, ga, ta, gl, tl, rfl, hi, hk', HGl, HRo, HH⟩
  have HKa : Hid (k' ≤ k + 1 + 3 * i ∧ i ≤ cnt) := ⟨hk', hi⟩
  clear hk' hi
  conv => arg 4; dsimp only [frA]
  by_cases hlt : i < cnt
  · have di : decide ((i : Int) < (cnt : Int)) = true := decide_eq_true (by omega)
    have hwi : IntKind.i64.wrap ((i : Int) + 1) = ((i + 1 : Nat) : Int) := by have := HCn.out; have := HMo.out; rw [IntWalk.i64_in _ (by omega)]; omega
    go_wp2_with fail
    refine (dbetween_any D a n c k' 5 60 _ HH.out.deck (by have := HKa.out; have := HMo.out; have := HCn.out; omega) (by omega) (by omega) (by omega)).mono ?_
    rintro e w3 ⟨rI, k3, hr1, hr2, hk3, rfl, hD3, hg3⟩
    obtain ⟨x, rfl⟩ : ∃ x : Nat, rI = (x : Int) := ⟨rI.toNat, by omega⟩
    have H3 := Lib.hid (HH.out.dealt hD3 hg3)
    have HX : Hid (5 ≤ x ∧ x ≤ 60 ∧ k3 ≤ k' + 1) := by show _ ∧ _ ∧ _; omega
    clear hr1 hr2 hk3 hD3 hg3 HH
    go_upto_region 6 with (fail)
    refine stoned_r6 _ w w3 D n c k3 most R1 R2 p x cnt i i tc gc a ta ga gl tl _ rfl H3 (by have := HX.out; have := HKa.out; have := HCn.out; have := HMo.out; show _ ∧ _ ∧ _ ∧ _; omega) (Lib.hid ?_)
    intro t W k4 d1 d2 g1 c1 g2 c2 ht hd1 hd2 hk4 H4
    obtain ⟨X2, hX2⟩ : ∃ X2, t = frD6 D most R1 R2 p x cnt i (i + 1) c2 (some ⟨g2, 0, none⟩) X2 := ⟨_, ht⟩
    clear ht
    subst hX2
    have HRn := Lib.hid (HRo.out.more HX.out.1 HX.out.2.1 (a := d1) hd2)
    have HK4 : Hid (k4 ≤ k + 1 + 3 * (i + 1)) := by have := HX.out; have := HKa.out; show _ ≤ _; omega
    clear hd1 hd2 hk4 H3
    dsimp only [frD6]
    go_wp2_with fail
    refine ⟨InvA.of (i + 1) k4 c1 c2 (some ⟨g1, 0, none⟩) (some ⟨g2, 0, none⟩) (gl ++ [(max 1 (x - d1), x + d2)]) (tl ++ [x]) ?_ (by omega) HK4.out (by rw [List.length_append, HGl.out]; rfl) HRn.out H4.out, ?_⟩
    · simp [frA]
    · simp [intOf, frA]; omega
  · have di : decide ((i : Int) < (cnt : Int)) = false := decide_eq_false (by omega)
    obtain rfl : i = cnt := by have := HKa.out; omega
    clear hlt
    have HMi : Hid (1 ≤ i ∧ i ≤ 9 ∧ i ≤ most) := by have := HCn.out; have := HMo.out; show _ ∧ _ ∧ _; omega
    obtain ⟨tb, rfl, -, htc⟩ := own_place (HH.out.row 1 _ rfl) (show 0 < i from HMi.out.1)
    obtain ⟨m1, hm1⟩ : ∃ m1, i + 1 = m1 := ⟨_, rfl⟩
    have hwm : IntKind.i64.wrap ((i : Int) + 1) = (m1 : Int) := by have := HMi.out; rw [IntWalk.i64_in _ (by omega)]; omega
    have HM1 := Lib.hid hm1
    clear hm1
    have H5 : Hid (Held w D a n c k' [⟨28, 2, .slice ga i gc, i, flat 2 spC gl⟩, ⟨3, 1, .slice (some ⟨tb, 0, none⟩) i tc, i, nums tl⟩, ⟨28, 2, .slice none 0 0, 0, flat 2 spC []⟩, ⟨3, 1, .slice none 0 0, 0, intsV []⟩, ⟨3, 1, .slice none 0 0, 0, nums []⟩] [(R1, .cells #[.slice none 0 0] 64), (R2, .cells #[.slice none 0 0, .slice none 0 0] 66), (p, .cells #[.slice ga i gc] 64), (wr.heap.size, .cells #[.slice none 0 0, .slice none 0 0] 66)] (wr.alloc (.cells #[.slice none 0 0, .slice none 0 0] 66))) := (((HH.out.nilRow 28 2).nilRow 3 1).nilRow 3 1).new _
    clear HH
    go_wp2_with fail
    clear hwm
    generalize wr.alloc (.cells #[.slice none 0 0, .slice none 0 0] 66) = w5 at *
    generalize wr.heap.size = pf at *
    refine wp_loop (InvB w D a n c k' most R1 R2 p pf i m1 tc gc ga (some ⟨tb, 0, none⟩) gl tl) (fun a _ => m1 - (intOf (a.tmps.getD 48 undef)).toNat) (InvB.of 0 k' 0 0 0 0 0 none none none [] [] [] rfl (Nat.zero_le _) (by omega) ⟨RealM.nil, rfl, rfl, rfl, Nat.le_refl _, fun h => by have := HM1.out; omega, fun x hx => by simp at hx⟩ H5.out) ?_
    clear H5
    rintro ac w6 ⟨X, j, k6, fn, fc, n0, nc, rc, fa, na, ra, fl, rl, nl, rfl, hj, hk6, HI, HJ⟩
    have HKb : Hid (k6 ≤ k' + 4 * j ∧ k' ≤ 600 ∧ j ≤ 10 ∧ j ≤ m1) := by have := HKa.out; have := HMo.out; have := HCn.out; have := HM1.out; show _ ∧ _ ∧ _ ∧ _; omega
    clear hj hk6
    conv => arg 4; dsimp only [frB]
    by_cases hlt : j < m1
    · have dj : decide ((j : Int) < (m1 : Int)) = true := decide_eq_true (by omega)
      have hwj : IntKind.i64.wrap ((j : Int) + 1) = ((j + 1 : Nat) : Int) := by have := HKb.out; rw [IntWalk.i64_in _ (by omega)]; omega
      go_wp2_with fail
      refine (draw_any D a n c k6 3 _ HJ.out.deck (by have := HKb.out; omega) (by omega)).mono ?_
      rintro e w7 ⟨dd, k7, hdd, hk7, rfl, hD7, hg7⟩
      have H7 := Lib.hid (HJ.out.dealt hD7 hg7)
      have HKk7 : Hid (k7 ≤ k' + 4 * j + 1 ∧ k7 ≤ 900) := by have := HKb.out; show _ ∧ _; omega
      clear hD7 hg7 hk7 HJ hdd
      have hji : decide ((j : Int) < (i : Int)) = decide (j < i) := by by_cases e : j < i <;> simp [e]
      rcases Nat.eq_zero_or_pos dd with rfl | hd0
      · by_cases hjl : j < i
        · have dji : decide ((j : Int) < (i : Int)) = true := decide_eq_true (by omega)
          have hji2 : (j : Int) < (i : Int) := by omega
          go_wp2_with fail
          refine ⟨InvB.of (j + 1) k7 fn fc n0 nc rc fa na ra fl rl nl ?_ (by omega) (by have := HKk7.out; omega) ⟨HI.out.real.skip, HI.out.fn', HI.out.nn, HI.out.rn, by have := HI.out.le; omega, fun e => by have := HM1.out; omega, HI.out.gb⟩ H7.out, ?_⟩
          · simp [frB]
          · simp [intOf, frB]; omega
        · have dji : decide ((j : Int) < (i : Int)) = false := decide_eq_false (by omega)
          rcases Nat.eq_zero_or_pos n0 with hn0 | hn0
          · obtain rfl : n0 = 0 := hn0
            have HRe : Hid (∀ x : Int, x = -1 ∨ x = (j : Int) → RealM gl tl (j + 1) fl (nl ++ [x]) (rl ++ [j])) := fun x hx => HI.out.real.first (List.length_eq_zero_iff.1 HI.out.rn) hx
            have HN0 : Hid (0 ≤ 100) := Nat.zero_le _
            have HGbn : Hid (∀ x ∈ fl, x.2 ≤ 1000) := HI.out.gb
            go_wp2_with fail
            refine (coin_any D a n c k7 4 _ H7.out.deck (by have := HKk7.out; omega) (by omega)).mono ?_
            rintro e w9 ⟨bb, k9, hk9, rfl, hD9, hg9⟩
            have H9 := Lib.hid (H7.out.dealt hD9 hg9)
            have HK9 : Hid (k9 ≤ k' + 4 * (j + 1) ∧ k9 ≤ 1000) := by have := HKk7.out; show _ ∧ _; omega
            clear hD9 hg9 hk9 H7
            cases bb
            · go_upto_region 26 with (fail)
              refine stoned_r26 _ w w9 D n c k9 most R1 R2 p pf m1 j i tc gc fn fc 0 nc rc a (some ⟨tb, 0, none⟩) ga fa na ra gl fl tl rl nl (-1) _ rfl H9 (by have := HK9.out; have := HN0.out; show _ ∧ _; omega) (Lib.hid ?_)
              intro t W g3 c3 g4 c4 ht H10
              obtain ⟨X2, hX2⟩ : ∃ X2, t = frD26 D most R1 R2 p pf m1 j i tc (0 + 1) c3 (some ⟨tb, 0, none⟩) (some ⟨g3, 0, none⟩) (-1) X2 := ⟨_, ht⟩
              clear ht
              subst hX2
              have HI2 := Lib.hid (HRe.out (-1) (.inl rfl))
              clear H9
              dsimp only [frD26]
              go_wp2_with fail
              refine ⟨InvB.of (j + 1) k9 fn fc (0 + 1) c4 c3 fa (some ⟨g4, 0, none⟩) (some ⟨g3, 0, none⟩) (fl) (rl ++ [j]) (nl ++ [(-1)]) ?_ (by omega) (by have := HK9.out; omega) ⟨HI2.out, HI.out.fn', by rw [List.length_append, HI.out.nn]; rfl, by rw [List.length_append, HI.out.rn]; rfl, by have := HI.out.le; omega, fun _ => by omega, HGbn.out⟩ H10.out, ?_⟩
              · simp [frB]
              · simp [intOf, frB]; omega
            · go_upto_region 26 with (fail)
              refine stoned_r26 _ w w9 D n c k9 most R1 R2 p pf m1 j i tc gc fn fc 0 nc rc a (some ⟨tb, 0, none⟩) ga fa na ra gl fl tl rl nl (j : Int) _ rfl H9 (by have := HK9.out; have := HN0.out; show _ ∧ _; omega) (Lib.hid ?_)
              intro t W g3 c3 g4 c4 ht H10
              obtain ⟨X2, hX2⟩ : ∃ X2, t = frD26 D most R1 R2 p pf m1 j i tc (0 + 1) c3 (some ⟨tb, 0, none⟩) (some ⟨g3, 0, none⟩) (j : Int) X2 := ⟨_, ht⟩
              clear ht
              subst hX2
              have HI2 := Lib.hid (HRe.out (j : Int) (.inr rfl))
              clear H9
              dsimp only [frD26]
              go_wp2_with fail
              refine ⟨InvB.of (j + 1) k9 fn fc (0 + 1) c4 c3 fa (some ⟨g4, 0, none⟩) (some ⟨g3, 0, none⟩) (fl) (rl ++ [j]) (nl ++ [(j : Int)]) ?_ (by omega) (by have := HK9.out; omega) ⟨HI2.out, HI.out.fn', by rw [List.length_append, HI.out.nn]; rfl, by rw [List.length_append, HI.out.rn]; rfl, by have := HI.out.le; omega, fun _ => by omega, HGbn.out⟩ H10.out, ?_⟩
              · simp [frB]
              · simp [intOf, frB]; omega
          · have dn0 : decide ((0 : Int) < (n0 : Int)) = true := decide_eq_true (by omega)
            have dn1 : decide (0 < n0) = true := decide_eq_true hn0
            go_wp2_with fail
            refine ⟨InvB.of (j + 1) k7 fn fc n0 nc rc fa na ra fl rl nl ?_ (by omega) (by have := HKk7.out; omega) ⟨HI.out.real.skip, HI.out.fn', HI.out.nn, HI.out.rn, by have := HI.out.le; omega, fun _ => by omega, HI.out.gb⟩ H7.out, ?_⟩
            · simp [frB]
            · simp [intOf, frB]; omega
      · have dz : ((dd : Int) == 0) = false := by rw [beq_eq_false_iff_ne]; omega
        have dz2 : decide ((dd : Int) = 0) = false := decide_eq_false (by omega)
        have dz3 : ¬ dd = 0 := by omega
        rcases Nat.eq_zero_or_pos n0 with hn0 | hn0
        · obtain rfl : n0 = 0 := hn0
          have HRe : Hid (∀ x : Int, x = -1 ∨ x = (j : Int) → RealM gl tl (j + 1) fl (nl ++ [x]) (rl ++ [j])) := fun x hx => HI.out.real.first (List.length_eq_zero_iff.1 HI.out.rn) hx
          have HN0 : Hid (0 ≤ 100) := Nat.zero_le _
          have HGbn : Hid (∀ x ∈ fl, x.2 ≤ 1000) := HI.out.gb
          go_wp2_with fail
          refine (coin_any D a n c k7 4 _ H7.out.deck (by have := HKk7.out; omega) (by omega)).mono ?_
          rintro e w9 ⟨bb, k9, hk9, rfl, hD9, hg9⟩
          have H9 := Lib.hid (H7.out.dealt hD9 hg9)
          have HK9 : Hid (k9 ≤ k' + 4 * (j + 1) ∧ k9 ≤ 1000) := by have := HKk7.out; show _ ∧ _; omega
          clear hD9 hg9 hk9 H7
          cases bb
          · go_upto_region 26 with (fail)
            refine stoned_r26 _ w w9 D n c k9 most R1 R2 p pf m1 j i tc gc fn fc 0 nc rc a (some ⟨tb, 0, none⟩) ga fa na ra gl fl tl rl nl (-1) _ rfl H9 (by have := HK9.out; have := HN0.out; show _ ∧ _; omega) (Lib.hid ?_)
            intro t W g3 c3 g4 c4 ht H10
            obtain ⟨X2, hX2⟩ : ∃ X2, t = frD26 D most R1 R2 p pf m1 j i tc (0 + 1) c3 (some ⟨tb, 0, none⟩) (some ⟨g3, 0, none⟩) (-1) X2 := ⟨_, ht⟩
            clear ht
            subst hX2
            have HI2 := Lib.hid (HRe.out (-1) (.inl rfl))
            clear H9
            dsimp only [frD26]
            go_wp2_with fail
            refine ⟨InvB.of (j + 1) k9 fn fc (0 + 1) c4 c3 fa (some ⟨g4, 0, none⟩) (some ⟨g3, 0, none⟩) (fl) (rl ++ [j]) (nl ++ [(-1)]) ?_ (by omega) (by have := HK9.out; omega) ⟨HI2.out, HI.out.fn', by rw [List.length_append, HI.out.nn]; rfl, by rw [List.length_append, HI.out.rn]; rfl, by have := HI.out.le; omega, fun _ => by omega, HGbn.out⟩ H10.out, ?_⟩
            · simp [frB]
            · simp [intOf, frB]; omega
          · go_upto_region 26 with (fail)
            refine stoned_r26 _ w w9 D n c k9 most R1 R2 p pf m1 j i tc gc fn fc 0 nc rc a (some ⟨tb, 0, none⟩) ga fa na ra gl fl tl rl nl (j : Int) _ rfl H9 (by have := HK9.out; have := HN0.out; show _ ∧ _; omega) (Lib.hid ?_)
            intro t W g3 c3 g4 c4 ht H10
            obtain ⟨X2, hX2⟩ : ∃ X2, t = frD26 D most R1 R2 p pf m1 j i tc (0 + 1) c3 (some ⟨tb, 0, none⟩) (some ⟨g3, 0, none⟩) (j : Int) X2 := ⟨_, ht⟩
            clear ht
            subst hX2
            have HI2 := Lib.hid (HRe.out (j : Int) (.inr rfl))
            clear H9
            dsimp only [frD26]
            go_wp2_with fail
            refine ⟨InvB.of (j + 1) k9 fn fc (0 + 1) c4 c3 fa (some ⟨g4, 0, none⟩) (some ⟨g3, 0, none⟩) (fl) (rl ++ [j]) (nl ++ [(j : Int)]) ?_ (by omega) (by have := HK9.out; omega) ⟨HI2.out, HI.out.fn', by rw [List.length_append, HI.out.nn]; rfl, by rw [List.length_append, HI.out.rn]; rfl, by have := HI.out.le; omega, fun _ => by omega, HGbn.out⟩ H10.out, ?_⟩
            · simp [frB]
            · simp [intOf, frB]; omega
        · obtain ⟨n1, hn1⟩ : ∃ n1, n0 = n1 + 1 := ⟨n0 - 1, by omega⟩
          have HN0 : Hid (n0 ≤ 10 ∧ n0 = n1 + 1) := by have := HI.out.le; have := HKb.out; show _ ∧ _; omega
          have hwn : IntKind.i64.wrap ((n0 : Int) - 1) = (n1 : Int) := by have := HN0.out; rw [IntWalk.i64_in _ (by omega)]; omega
          have dn0 : decide ((0 : Int) < (n0 : Int)) = true := decide_eq_true (by omega)
          have dn1 : decide (0 < n0) = true := decide_eq_true hn0
          obtain ⟨rb, rfl, -, hrc⟩ := own_place (H7.out.row 4 _ rfl) hn0
          obtain ⟨r, hr⟩ : ∃ r, rl[n1]?.getD 0 = r := ⟨_, rfl⟩
          have hcr := H7.out.num 4 rfl HI.out.rn (by have := HN0.out; omega) (show n1 < n0 by omega)
          rw [hr] at hcr
          have hrj := HI.out.real.lt n1 (by have := HI.out.rn; omega)
          rw [hr] at hrj
          have HTl : Hid (tl.length = i) := HRo.out.tl.trans HGl.out
          have hcap := H7.out.cap 1 rfl HTl.out (by have := HMi.out; omega)
          have HRj : Hid (r < j ∧ j ≤ i ∧ i ≤ tc) := by have := HM1.out; show _ ∧ _ ∧ _; omega
          have HRr := Lib.hid hr
          have i0 : (0 : Int) ≤ (r : Int) := by omega
          have i1 : (r : Int) ≤ (j : Int) := by omega
          have i2 : (j : Int) ≤ (tc : Int) := by have := HRj.out; omega
          have i3 : (0 : Int) ≤ (n1 : Int) := by omega
          have i4 : (n1 : Int) < (n0 : Int) := by omega
          have i5 : (0 : Int) ≤ (j : Int) := by omega
          have i6 : (if tc = r then (⟨tb, 0, none⟩ : Addr) else ⟨tb, r, none⟩) = ⟨tb, r, none⟩ := by have := HRj.out; rw [if_neg (by omega)]
          have i7 : ¬ tc = r := by have := HRj.out; omega
          clear hn1 hr hcap hrc
          go_wp2_with fail
          clear i1 i2 i3 i4 i5 i6 i7 hwn hcr
          obtain ⟨ln, hln⟩ : ∃ ln, j - r = ln := ⟨_, rfl⟩
          obtain ⟨lc, hlc⟩ : ∃ lc, tc - r = lc := ⟨_, rfl⟩
          rw [hln, hlc]
          have HLn : Hid (r + ln = j ∧ r + lc = tc) := by have := HRj.out; show _ ∧ _; omega
          have HLj := Lib.hid hln
          clear hln hlc
          refine wp_loop (InvC w7 D most R1 R2 p pf m1 j i tc n0 rc tb rb r ln lc tl) (fun a _ => ln - (intOf (a.tmps.getD 78 undef)).toNat) (InvC.of 0 0 rfl (Nat.zero_le _) rfl) ?_
          rintro ac wq ⟨X3, q, S, rfl, hq, HS, rfl⟩
          conv => arg 4; dsimp only [frC]
          have hS6 : S ≤ q * 60 := by
            rw [← HS.out]
            exact sumN_le q fun m hm => (HRo.out.ti (r + m) (by rw [HGl.out]; have := HRj.out; have := HLn.out; omega)).2.2.2.2.1
          by_cases hlq : q < ln
          · have dq : decide ((q : Int) < (ln : Int)) = true := decide_eq_true (by omega)
            have hwq : IntKind.i64.wrap ((q : Int) + 1) = ((q + 1 : Nat) : Int) := by have := HLn.out; have := HKb.out; rw [IntWalk.i64_in _ (by omega)]; omega
            have hcq := H7.out.num 1 rfl HTl.out (by have := HMi.out; omega) (show r + q < i by have := HRj.out; have := HLn.out; omega)
            have ht6 := (HRo.out.ti (r + q) (by rw [HGl.out]; have := HRj.out; have := HLn.out; omega)).2.2.2.2.1
            have hsum : sumN (fun m => tl[r + m]?.getD 0) (q + 1) = S + tl[r + q]?.getD 0 := by rw [← HS.out]; rfl
            obtain ⟨x, hx⟩ : ∃ x, tl[r + q]?.getD 0 = x := ⟨_, rfl⟩
            rw [hx] at hcq ht6 hsum
            obtain ⟨S2, hS2⟩ : ∃ S2, S + x = S2 := ⟨_, rfl⟩
            rw [hS2] at hsum
            have hws : IntKind.i64.wrap ((S : Int) + (x : Int)) = (S2 : Int) := by have := HLn.out; have := HKb.out; rw [IntWalk.i64_in _ (by omega)]; omega
            have j0 : (0 : Int) ≤ (q : Int) := by omega
            have j1 : (q : Int) < (ln : Int) := by omega
            have HSm := Lib.hid hsum
            clear hx hS2 hsum hS6 ht6 HS
            go_wp2_with fail
            refine ⟨InvC.of (q + 1) S2 ?_ (by omega) HSm.out, ?_⟩
            · simp [frC]
            · simp [intOf, frC]; omega
          · have dq : decide ((q : Int) < (ln : Int)) = false := decide_eq_false (by omega)
            obtain rfl : q = ln := by omega
            have hL : longF tl (rl[n1]?.getD 0) j = S := by rw [HRr.out, ← HS.out]; unfold longF; rw [HLj.out]
            have HLL := Lib.hid hL
            have HS6 := Lib.hid hS6
            clear hL hS6 HS
            go_upto_region 22 with (fail)
            refine stoned_r22 _ w w7 D n c k7 most R1 R2 p pf m1 j i tc gc fn fc n0 nc rc a (some ⟨tb, 0, none⟩) ga fa na (some ⟨rb, 0, none⟩) gl fl tl rl nl S _ rfl H7 (by have := HI.out.fn'; have := HI.out.real.gl; have := HI.out.rn; have := HN0.out; have := HKk7.out; have := HS6.out; have := HLn.out; have := HKb.out; show _ ∧ _ ∧ _; omega) (Lib.hid ?_)
            intro t W k8 d1 d2 g1 c1 ht hd1 hd2 hk8 H8
            obtain ⟨X2, hX2⟩ : ∃ X2, t = frD22 D most R1 R2 p pf m1 j i tc n0 rc S (some ⟨tb, 0, none⟩) (some ⟨rb, 0, none⟩) X2 := ⟨_, ht⟩
            clear ht
            subst hX2
            have HKk8 : Hid (k8 ≤ k' + 4 * j + 3 ∧ k8 ≤ 990) := by have := HKk7.out; show _ ∧ _; omega
            have HRe : Hid (∀ x : Int, x = -1 ∨ x = (j : Int) → RealM gl tl (j + 1) (fl ++ [(max 1 (S - d1), S + d2)]) (nl ++ [x]) (rl ++ [j])) := fun x hx => HI.out.real.more HRo.out (by rw [HGl.out]; exact HRj.out.2.1) (by rw [HGl.out]; have := HMi.out; omega) (n := n1) (by have := HI.out.rn; have := HN0.out; omega) HLL.out (by omega) hx
            have HGbn : Hid (∀ x ∈ fl ++ [(max 1 (S - d1), S + d2)], x.2 ≤ 1000) := fun x hx => by
              rcases List.mem_append.1 hx with hx | hx
              · exact HI.out.gb x hx
              · simp only [List.mem_singleton] at hx
                subst hx
                have := HS6.out
                have := HLn.out
                have := HKb.out
                dsimp only
                omega
            clear hd1 hd2 hk8 H7
            dsimp only [frD22]
            go_wp2_with fail
            refine (coin_any D a n c k8 4 _ H8.out.deck (by have := HKk8.out; omega) (by omega)).mono ?_
            rintro e w9 ⟨bb, k9, hk9, rfl, hD9, hg9⟩
            have H9 := Lib.hid (H8.out.dealt hD9 hg9)
            have HK9 : Hid (k9 ≤ k' + 4 * (j + 1) ∧ k9 ≤ 1000) := by have := HKk8.out; show _ ∧ _; omega
            clear hD9 hg9 hk9 H8
            cases bb
            · go_upto_region 26 with (fail)
              refine stoned_r26 _ w w9 D n c k9 most R1 R2 p pf m1 j i tc gc (fn + 1) c1 n0 nc rc a (some ⟨tb, 0, none⟩) ga (some ⟨g1, 0, none⟩) na (some ⟨rb, 0, none⟩) gl (fl ++ [(max 1 (S - d1), S + d2)]) tl rl nl (-1) _ rfl H9 (by have := HK9.out; have := HN0.out; show _ ∧ _; omega) (Lib.hid ?_)
              intro t W g3 c3 g4 c4 ht H10
              obtain ⟨X2, hX2⟩ : ∃ X2, t = frD26 D most R1 R2 p pf m1 j i tc (n0 + 1) c3 (some ⟨tb, 0, none⟩) (some ⟨g3, 0, none⟩) (-1) X2 := ⟨_, ht⟩
              clear ht
              subst hX2
              have HI2 := Lib.hid (HRe.out (-1) (.inl rfl))
              clear H9
              dsimp only [frD26]
              go_wp2_with fail
              refine ⟨InvB.of (j + 1) k9 (fn + 1) c1 (n0 + 1) c4 c3 (some ⟨g1, 0, none⟩) (some ⟨g4, 0, none⟩) (some ⟨g3, 0, none⟩) ((fl ++ [(max 1 (S - d1), S + d2)])) (rl ++ [j]) (nl ++ [(-1)]) ?_ (by omega) (by have := HK9.out; omega) ⟨HI2.out, (by rw [List.length_append, HI.out.fn']; rfl), by rw [List.length_append, HI.out.nn]; rfl, by rw [List.length_append, HI.out.rn]; rfl, by have := HI.out.le; omega, fun _ => by omega, HGbn.out⟩ H10.out, ?_⟩
              · simp [frB]
              · simp [intOf, frB]; omega
            · go_upto_region 26 with (fail)
              refine stoned_r26 _ w w9 D n c k9 most R1 R2 p pf m1 j i tc gc (fn + 1) c1 n0 nc rc a (some ⟨tb, 0, none⟩) ga (some ⟨g1, 0, none⟩) na (some ⟨rb, 0, none⟩) gl (fl ++ [(max 1 (S - d1), S + d2)]) tl rl nl (j : Int) _ rfl H9 (by have := HK9.out; have := HN0.out; show _ ∧ _; omega) (Lib.hid ?_)
              intro t W g3 c3 g4 c4 ht H10
              obtain ⟨X2, hX2⟩ : ∃ X2, t = frD26 D most R1 R2 p pf m1 j i tc (n0 + 1) c3 (some ⟨tb, 0, none⟩) (some ⟨g3, 0, none⟩) (j : Int) X2 := ⟨_, ht⟩
              clear ht
              subst hX2
              have HI2 := Lib.hid (HRe.out (j : Int) (.inr rfl))
              clear H9
              dsimp only [frD26]
              go_wp2_with fail
              refine ⟨InvB.of (j + 1) k9 (fn + 1) c1 (n0 + 1) c4 c3 (some ⟨g1, 0, none⟩) (some ⟨g4, 0, none⟩) (some ⟨g3, 0, none⟩) ((fl ++ [(max 1 (S - d1), S + d2)])) (rl ++ [j]) (nl ++ [(j : Int)]) ?_ (by omega) (by have := HK9.out; omega) ⟨HI2.out, (by rw [List.length_append, HI.out.fn']; rfl), by rw [List.length_append, HI.out.nn]; rfl, by rw [List.length_append, HI.out.rn]; rfl, by have := HI.out.le; omega, fun _ => by omega, HGbn.out⟩ H10.out, ?_⟩
              · simp [frB]
              · simp [intOf, frB]; omega
    · have dj : decide ((j : Int) < (m1 : Int)) = false := decide_eq_false (by omega)
      obtain rfl : j = m1 := by have := HKb.out; omega
      have p0 := HJ.out.cell 2 (j := 0) rfl rfl
      have p1 := HJ.out.cell 3 (j := 0) rfl rfl
      have p2 := HJ.out.cell 3 (j := 1) rfl rfl
      have r0 := HJ.out.cell 0 (j := 0) rfl rfl
      have r1 := HJ.out.cell 1 (j := 0) rfl rfl
      have r2 := HJ.out.cell 1 (j := 1) rfl rfl
      have z0 := HJ.out.frozen 0 (j := 0) rfl
      have z1 := HJ.out.frozen 1 (j := 0) rfl
      have z2 := HJ.out.frozen 1 (j := 1) rfl
      have n1 : p ≠ R1 := HJ.out.dis 2 0 _ _ (by decide) rfl rfl
      have n2 : pf ≠ R1 := HJ.out.dis 3 0 _ _ (by decide) rfl rfl
      have n3 : p ≠ R2 := HJ.out.dis 2 1 _ _ (by decide) rfl rfl
      have n4 : pf ≠ R2 := HJ.out.dis 3 1 _ _ (by decide) rfl rfl
      have n5 : R1 ≠ R2 := HJ.out.dis 0 1 _ _ (by decide) rfl rfl
      go_upto_region 28 with (fail)
      go_region
      have HF : Hid (Held w D a n c k6 [⟨28, 2, .slice ga i gc, i, flat 2 spC gl⟩, ⟨3, 1, .slice (some ⟨tb, 0, none⟩) i tc, i, nums tl⟩, ⟨28, 2, .slice fa fn fc, fn, flat 2 spC fl⟩, ⟨3, 1, .slice na n0 nc, n0, intsV nl⟩, ⟨3, 1, .slice ra n0 rc, n0, nums rl⟩] [(R1, .cells #[.slice ga i gc] 64), (R2, .cells #[.slice fa fn fc, .slice na n0 nc] 66), (p, .cells #[.slice ga i gc] 64), (pf, .cells #[.slice fa fn fc, .slice na n0 nc] 66)] (((w6.setCell ⟨R1, 0, none⟩ (.slice ga i gc)).setCell ⟨R2, 0, none⟩ (.slice fa fn fc)).setCell ⟨R2, 1, none⟩ (.slice na n0 nc)).drew) :=
        (((HJ.out.cellPut (j := 0) 0 rfl (.slice ga i gc)).cellPut (j := 0) 1 rfl (.slice fa fn fc)).cellPut (j := 1) 1 rfl (.slice na n0 nc)).ext (Ext.refl _).drew
      clear p0 p1 p2 r0 r1 r2 z0 z1 z2 HJ
      generalize (((w6.setCell ⟨R1, 0, none⟩ (.slice ga i gc)).setCell ⟨R2, 0, none⟩ (.slice fa fn fc)).setCell ⟨R2, 1, none⟩ (.slice na n0 nc)).drew = WF at *
      go_wp2_with fail
      have m0 := HF.out.cell 0 (j := 0) rfl rfl
      have m1 := HF.out.cell 1 (j := 0) rfl rfl
      have m2 := HF.out.cell 1 (j := 1) rfl rfl
      simp only [bodyPost]
      refine ⟨trivial, _, ?_, ga, fa, na, ra, some ⟨tb, 0, none⟩, gc, fc, nc, rc, i, fn, n0, k6, gl, fl, tl, rl, nl, tc, rfl, HRo.out, by rw [HM1.out]; exact HI.out, HGl.out, HMi.out.1, HMi.out.2.2, ?_, HF.out.drop (blks := []) _⟩
      · simp [results, Try.f32, go_sem, m0, m1, m2]
      · have := HKb.out; have := HKa.out; have := HM1.out; have := HMi.out; omega
end Go.Proofs.Ytfognlealnhodaa
