/-
  awake of the statements on package barter answers true: the chapter's examples are as the program says.
-/
import Derived.Test.YtlaolokakaheaaaAX
namespace Go.Proofs.Ytlaolokakaheaaa
open Go.RowKit

set_option maxRecDepth 100000 in
set_option maxHeartbeats 400000 in
theorem awake_ok (w : World) : Calls Try.prog 18 #[] w fun e w' => e = .returned (.bool true) ∧ Ext w w' := by
  go_enter Try.func18, Try.ntmps18
  have HX : Hid (Ext w w) := Ext.refl w
  go_wp2_with fail
  refine (three_any _).mono ?_
  rintro e V1 ⟨g1, rfl, ht1, hg1, hx0⟩
  have hx : Ext w V1 := ((Ext.refl w)).trans hx0
  have HX_ := Lib.hid (HX.out.trans hx)
  clear HX
  have HX := HX_
  clear HX_
  have HT1 := Lib.hid (ht1)
  clear hx hx0
  clear ht1 hg1
  go_wp2_with fail
  refine (c38 (three_in HT1.out)).mono ?_
  rintro e V2 ⟨oa, oc, rfl, ho, hx0⟩
  have hx : Ext V1 V2 := ((Ext.refl V1)).trans hx0
  have HX_ := Lib.hid (HX.out.trans hx)
  clear HX
  have HX := HX_
  clear HX_
  have HT1_ := Lib.hid (hx.block HT1.out)
  clear HT1
  have HT1 := HT1_
  clear HT1_
  have HO := Lib.hid (ho)
  clear hx hx0
  clear ho
  clear HT1
  go_wp2_with fail
  refine (three_any _).mono ?_
  rintro e V3 ⟨g2, rfl, ht2, hg2, hx0⟩
  have hx : Ext V2 V3 := ((Ext.refl V2)).trans hx0
  have HX_ := Lib.hid (HX.out.trans hx)
  clear HX
  have HX := HX_
  clear HX_
  have HO_ := Lib.hid (HO.out.ext hx)
  clear HO
  have HO := HO_
  clear HO_
  have HT2 := Lib.hid (ht2)
  clear hx hx0
  clear ht2 hg2
  go_wp2_with fail
  refine (c19 (three_in (((Ext.refl V3).alloc _).block HT2.out)) (three_is (p := 1) (q := 0) (r := 0) (alloc_new rfl))).mono ?_
  rintro e V4 ⟨rfl, hx0⟩
  have hx : Ext V3 V4 := ((Ext.refl V3).alloc _).trans hx0
  have HX_ := Lib.hid (HX.out.trans hx)
  clear HX
  have HX := HX_
  clear HX_
  have HO_ := Lib.hid (HO.out.ext hx)
  clear HO
  have HO := HO_
  clear HO_
  have HT2_ := Lib.hid (hx.block HT2.out)
  clear HT2
  have HT2 := HT2_
  clear HT2_
  clear hx hx0
  clear HT2
  go_wp2_with fail
  refine (three_any _).mono ?_
  rintro e V5 ⟨g3, rfl, ht3, hg3, hx0⟩
  have hx : Ext V4 V5 := ((Ext.refl V4)).trans hx0
  have HX_ := Lib.hid (HX.out.trans hx)
  clear HX
  have HX := HX_
  clear HX_
  have HO_ := Lib.hid (HO.out.ext hx)
  clear HO
  have HO := HO_
  clear HO_
  have HT3 := Lib.hid (ht3)
  clear hx hx0
  clear ht3 hg3
  go_wp2_with fail
  refine (c11 (three_in (((Ext.refl V5).alloc _).block HT3.out)) (three_is (p := 0) (q := 1) (r := 0) (alloc_new rfl))).mono ?_
  rintro e V6 ⟨rfl, hx0⟩
  have hx : Ext V5 V6 := ((Ext.refl V5).alloc _).trans hx0
  have HX_ := Lib.hid (HX.out.trans hx)
  clear HX
  have HX := HX_
  clear HX_
  have HO_ := Lib.hid (HO.out.ext hx)
  clear HO
  have HO := HO_
  clear HO_
  have HT3_ := Lib.hid (hx.block HT3.out)
  clear HT3
  have HT3 := HT3_
  clear HT3_
  clear hx hx0
  clear HT3
  go_wp2_with fail
  refine (three_any _).mono ?_
  rintro e V7 ⟨g4, rfl, ht4, hg4, hx0⟩
  have hx : Ext V6 V7 := ((Ext.refl V6)).trans hx0
  have HX_ := Lib.hid (HX.out.trans hx)
  clear HX
  have HX := HX_
  clear HX_
  have HO_ := Lib.hid (HO.out.ext hx)
  clear HO
  have HO := HO_
  clear HO_
  have HT4 := Lib.hid (ht4)
  clear hx hx0
  clear ht4 hg4
  go_wp2_with fail
  refine (c15 (three_in (((Ext.refl V7).alloc _).block HT4.out)) (three_is (p := 0) (q := 1) (r := 0) (alloc_new rfl))).mono ?_
  rintro e V8 ⟨rfl, hx0⟩
  have hx : Ext V7 V8 := ((Ext.refl V7).alloc _).trans hx0
  have HX_ := Lib.hid (HX.out.trans hx)
  clear HX
  have HX := HX_
  clear HX_
  have HO_ := Lib.hid (HO.out.ext hx)
  clear HO
  have HO := HO_
  clear HO_
  have HT4_ := Lib.hid (hx.block HT4.out)
  clear HT4
  have HT4 := HT4_
  clear HT4_
  clear hx hx0
  clear HT4
  go_wp2_with fail
  refine (three_any _).mono ?_
  rintro e V9 ⟨g5, rfl, ht5, hg5, hx0⟩
  have hx : Ext V8 V9 := ((Ext.refl V8)).trans hx0
  have HX_ := Lib.hid (HX.out.trans hx)
  clear HX
  have HX := HX_
  clear HX_
  have HO_ := Lib.hid (HO.out.ext hx)
  clear HO
  have HO := HO_
  clear HO_
  have HT5 := Lib.hid (ht5)
  clear hx hx0
  clear ht5 hg5
  go_wp2_with fail
  refine (c10 (three_in HT5.out)).mono ?_
  rintro e V10 ⟨h5, c5, rfl, hq, hx0⟩
  have hx : Ext V9 V10 := ((Ext.refl V9)).trans hx0
  have HX_ := Lib.hid (HX.out.trans hx)
  clear HX
  have HX := HX_
  clear HX_
  have HO_ := Lib.hid (HO.out.ext hx)
  clear HO
  have HO := HO_
  clear HO_
  have HT5_ := Lib.hid (hx.block HT5.out)
  clear HT5
  have HT5 := HT5_
  clear HT5_
  have HP5 := Lib.hid (hq)
  clear hx hx0
  clear hq
  clear HT5
  go_wp2_with fail
  refine (c24 (l := [1, 2, 0]) (HO.out.ext (((Ext.refl V10).alloc (.cells #[.int .i64 3, .slice (some ⟨h5, 0, none⟩) 3 c5] 31)).alloc _)) (three_is (v := V10.heap.size + 1) (p := 1) (q := 2) (r := 0) (alloc_new (by simp only [World.size_alloc])))).mono ?_
  rintro e V11 ⟨rfl, hx0⟩
  have hx : Ext V10 V11 := (((Ext.refl V10).alloc (.cells #[.int .i64 3, .slice (some ⟨h5, 0, none⟩) 3 c5] 31)).alloc _).trans hx0
  have HX_ := Lib.hid (HX.out.trans hx)
  clear HX
  have HX := HX_
  clear HX_
  have HO_ := Lib.hid (HO.out.ext hx)
  clear HO
  have HO := HO_
  clear HO_
  have HP5_ := Lib.hid (HP5.out.ext hx)
  clear HP5
  have HP5 := HP5_
  clear HP5_
  have HB5 := Lib.hid ((hx0.block (((Ext.refl _).alloc _).block (alloc_new rfl))))
  clear hx hx0
  clear HO
  have b0 := cell_at HB5.out 0
  have b1 := cell_at HB5.out 1
  dsimp at b0 b1
  go_wp2_with fail
  refine (is_any 3 3 _ _ _ _ [0, 2, 0] [0, 2, 0] _ (HP5.out.ext ((Ext.refl V11).alloc _)) (three_is (p := 0) (q := 2) (r := 0) (alloc_new rfl)) rfl rfl).mono ?_
  rintro e V12 ⟨rfl, hx0⟩
  have hx : Ext V11 V12 := ((Ext.refl V11).alloc _).trans hx0
  have HX_ := Lib.hid (HX.out.trans hx)
  clear HX
  have HX := HX_
  clear HX_
  have HP5_ := Lib.hid (HP5.out.ext hx)
  clear HP5
  have HP5 := HP5_
  clear HP5_
  have HB5_ := Lib.hid (hx.block HB5.out)
  clear HB5
  have HB5 := HB5_
  clear HB5_
  clear hx hx0
  clear b0 b1
  clear HP5
  clear HB5
  go_wp2_with fail
  refine (three_any _).mono ?_
  rintro e V13 ⟨g6, rfl, ht6, hg6, hx0⟩
  have hx : Ext V12 V13 := ((Ext.refl V12)).trans hx0
  have HX_ := Lib.hid (HX.out.trans hx)
  clear HX
  have HX := HX_
  clear HX_
  have HT6 := Lib.hid (ht6)
  clear hx hx0
  clear ht6 hg6
  go_wp2_with fail
  refine (c21a (three_in HT6.out)).mono ?_
  rintro e V14 ⟨h6, c6, rfl, hq, hx0⟩
  have hx : Ext V13 V14 := ((Ext.refl V13)).trans hx0
  have HX_ := Lib.hid (HX.out.trans hx)
  clear HX
  have HX := HX_
  clear HX_
  have HT6_ := Lib.hid (hx.block HT6.out)
  clear HT6
  have HT6 := HT6_
  clear HT6_
  have HP6 := Lib.hid (hq)
  clear hx hx0
  clear hq
  clear HT6
  go_wp2_with fail
  refine (three_any _).mono ?_
  rintro e V15 ⟨g7, rfl, ht7, hg7, hx0⟩
  have hx : Ext V14 V15 := ((Ext.refl V14).alloc (.cells #[.int .i64 1, .slice (some ⟨h6, 0, none⟩) 3 c6] 31)).trans hx0
  have HX_ := Lib.hid (HX.out.trans hx)
  clear HX
  have HX := HX_
  clear HX_
  have HP6_ := Lib.hid (HP6.out.ext hx)
  clear HP6
  have HP6 := HP6_
  clear HP6_
  have HT7 := Lib.hid (ht7)
  have HB6 := Lib.hid (hx0.block (alloc_new rfl))
  clear hx hx0
  clear ht7 hg7
  go_wp2_with fail
  refine (c21b (three_in HT7.out)).mono ?_
  rintro e V16 ⟨h7, c7, rfl, hq, hx0⟩
  have hx : Ext V15 V16 := ((Ext.refl V15)).trans hx0
  have HX_ := Lib.hid (HX.out.trans hx)
  clear HX
  have HX := HX_
  clear HX_
  have HP6_ := Lib.hid (HP6.out.ext hx)
  clear HP6
  have HP6 := HP6_
  clear HP6_
  have HT7_ := Lib.hid (hx.block HT7.out)
  clear HT7
  have HT7 := HT7_
  clear HT7_
  have HB6_ := Lib.hid (hx.block HB6.out)
  clear HB6
  have HB6 := HB6_
  clear HB6_
  have HP7 := Lib.hid (hq)
  clear hx hx0
  clear hq
  clear HT7
  go_wp2_with fail
  refine (three_any _).mono ?_
  rintro e V17 ⟨g8, rfl, ht8, hg8, hx0⟩
  have hx : Ext V16 V17 := ((Ext.refl V16).alloc (.cells #[.int .i64 2, .slice (some ⟨h7, 0, none⟩) 3 c7] 31)).trans hx0
  have HX_ := Lib.hid (HX.out.trans hx)
  clear HX
  have HX := HX_
  clear HX_
  have HP6_ := Lib.hid (HP6.out.ext hx)
  clear HP6
  have HP6 := HP6_
  clear HP6_
  have HB6_ := Lib.hid (hx.block HB6.out)
  clear HB6
  have HB6 := HB6_
  clear HB6_
  have HP7_ := Lib.hid (HP7.out.ext hx)
  clear HP7
  have HP7 := HP7_
  clear HP7_
  have HT8 := Lib.hid (ht8)
  have HB7 := Lib.hid (hx0.block (alloc_new rfl))
  clear hx hx0
  clear ht8 hg8
  go_wp2_with fail
  refine (c21c (three_in HT8.out)).mono ?_
  rintro e V18 ⟨rfl, hx0⟩
  have hx : Ext V17 V18 := ((Ext.refl V17)).trans hx0
  have HX_ := Lib.hid (HX.out.trans hx)
  clear HX
  have HX := HX_
  clear HX_
  have HP6_ := Lib.hid (HP6.out.ext hx)
  clear HP6
  have HP6 := HP6_
  clear HP6_
  have HB6_ := Lib.hid (hx.block HB6.out)
  clear HB6
  have HB6 := HB6_
  clear HB6_
  have HP7_ := Lib.hid (HP7.out.ext hx)
  clear HP7
  have HP7 := HP7_
  clear HP7_
  have HT8_ := Lib.hid (hx.block HT8.out)
  clear HT8
  have HT8 := HT8_
  clear HT8_
  have HB7_ := Lib.hid (hx.block HB7.out)
  clear HB7
  have HB7 := HB7_
  clear HB7_
  clear hx hx0
  clear HT8
  go_wp2_with fail
  refine (three_any _).mono ?_
  rintro e V19 ⟨g9, rfl, ht9, hg9, hx9⟩
  have HT9 := Lib.hid ht9
  have HG9 := Lib.hid hg9
  have HX9 := Lib.hid hx9
  clear ht9 hg9 hx9
  go_upto_region 12 with (fail)
  have HLb : Hid ((V19.alloc (.cells #[.slice (some ⟨g9, 0, none⟩) 3 3, .slice none 0 0] 26)).heap[V19.heap.size]? = some (.cells #[.slice (some ⟨g9, 0, none⟩) 3 3, .slice none 0 0] 26 (0, 0))) := alloc_new rfl
  have HT20 : Hid ((V19.alloc (.cells #[.slice (some ⟨g9, 0, none⟩) 3 3, .slice none 0 0] 26)).heap[g9]? = some (.cells (threeC (-1)) 41 (0, 0))) := ((Ext.refl V19).alloc _).block HT9.out
  have HX20 : Hid (Ext V18 (V19.alloc (.cells #[.slice (some ⟨g9, 0, none⟩) 3 3, .slice none 0 0] 26))) := HX9.out.alloc _
  have HNe : Hid (g9 ≠ V19.heap.size ∧ V18.heap.size ≤ V19.heap.size) := ⟨by have := (Array.getElem?_eq_some_iff.1 HT9.out).1; omega, HX9.out.size⟩
  clear HT9 HX9
  generalize V19.alloc (.cells #[.slice (some ⟨g9, 0, none⟩) 3 3, .slice none 0 0] 26) = V20 at *
  generalize V19.heap.size = LB at *
  have HB2 : Hid ((V20.alloc (.cells #[.int .i64 0] 3)).heap[LB]? = _) := ((Ext.refl V20).alloc _).block HLb.out
  have HT2 : Hid ((V20.alloc (.cells #[.int .i64 0] 3)).heap[g9]? = _) := ((Ext.refl V20).alloc _).block HT20.out
  have HV2 : Hid ((V20.alloc (.cells #[.int .i64 0] 3)).heap[V20.heap.size]? = some (.cells #[.int .i64 0] 3 (0, 0))) := alloc_new rfl
  have HX21 : Hid (Ext V18 (V20.alloc (.cells #[.int .i64 0] 3))) := HX20.out.alloc _
  have HV9 : Hid (V20.heap.size ≠ LB ∧ V20.heap.size ≠ g9) := by have h1 := (Array.getElem?_eq_some_iff.1 HLb.out).1; have h2 := (Array.getElem?_eq_some_iff.1 HT20.out).1; exact ⟨by omega, by omega⟩
  have q0 := cell_at HLb.out 0
  have q1 := cell_at HB2.out 1
  have q2 : (V20.alloc (.cells #[.int .i64 0] 3)).frozen? ⟨LB, 1, none⟩ = false := by simp [World.frozen?, HB2.out]
  have HT3 : Hid (((V20.alloc (.cells #[.int .i64 0] 3)).setCell ⟨LB, 1, none⟩ (.slice (some ⟨V20.heap.size, 0, none⟩) 1 1)).heap[g9]? = _) := heap_set_other _ _ _ _ HT2.out HNe.out.1
  have HV3 : Hid (((V20.alloc (.cells #[.int .i64 0] 3)).setCell ⟨LB, 1, none⟩ (.slice (some ⟨V20.heap.size, 0, none⟩) 1 1)).heap[V20.heap.size]? = _) := heap_set_other _ _ _ _ HV2.out HV9.out.1
  have HB3 : Hid (((V20.alloc (.cells #[.int .i64 0] 3)).setCell ⟨LB, 1, none⟩ (.slice (some ⟨V20.heap.size, 0, none⟩) 1 1)).heap[LB]? = _) := heap_setCell_same HB2.out _
  have q3 := cell_at HT3.out 3
  have q4 : ((V20.alloc (.cells #[.int .i64 0] 3)).setCell ⟨LB, 1, none⟩ (.slice (some ⟨V20.heap.size, 0, none⟩) 1 1)).frozen? ⟨g9, 3, none⟩ = false := by simp [World.frozen?, HT3.out]
  have HT4 : Hid ((((V20.alloc (.cells #[.int .i64 0] 3)).setCell ⟨LB, 1, none⟩ (.slice (some ⟨V20.heap.size, 0, none⟩) 1 1)).setCell ⟨g9, 3, none⟩ (.int .i64 0)).heap[g9]? = some (.cells (threeC 0) 41 (0, 0))) := heap_setCell_same HT3.out _
  have HV4 : Hid ((((V20.alloc (.cells #[.int .i64 0] 3)).setCell ⟨LB, 1, none⟩ (.slice (some ⟨V20.heap.size, 0, none⟩) 1 1)).setCell ⟨g9, 3, none⟩ (.int .i64 0)).heap[V20.heap.size]? = some (.cells #[.int .i64 0] 3 (0, 0))) := heap_set_other _ _ _ _ HV3.out HV9.out.2
  have HB4 : Hid ((((V20.alloc (.cells #[.int .i64 0] 3)).setCell ⟨LB, 1, none⟩ (.slice (some ⟨V20.heap.size, 0, none⟩) 1 1)).setCell ⟨g9, 3, none⟩ (.int .i64 0)).heap[LB]? = some (.cells #[.slice (some ⟨g9, 0, none⟩) 3 3, .slice (some ⟨V20.heap.size, 0, none⟩) 1 1] 26 (0, 0))) := heap_set_other _ _ _ _ HB3.out (fun e => HNe.out.1 e.symm)
  have HX4 : Hid (Ext V18 (((V20.alloc (.cells #[.int .i64 0] 3)).setCell ⟨LB, 1, none⟩ (.slice (some ⟨V20.heap.size, 0, none⟩) 1 1)).setCell ⟨g9, 3, none⟩ (.int .i64 0))) := (HX21.out.setCell (show V18.heap.size ≤ LB from HNe.out.2) _).setCell (show V18.heap.size ≤ g9 from HG9.out) _
  dsimp [threeC] at q0 q1 q3
  go_upto_region 13 with (fail)
  clear q0 q1 q2 q3 q4 HLb HT20 HX20 HB2 HT2 HV2 HX21 HT3 HV3 HB3
  generalize ((V20.alloc (.cells #[.int .i64 0] 3)).setCell ⟨LB, 1, none⟩ (.slice (some ⟨V20.heap.size, 0, none⟩) 1 1)).setCell ⟨g9, 3, none⟩ (.int .i64 0) = V21 at *
  generalize V20.heap.size = VB at *
  have HXz := Lib.hid (HX.out.trans HX4.out)
  have HP6z := Lib.hid (HP6.out.ext HX4.out)
  have HB6z := Lib.hid (HX4.out.block HB6.out)
  have HP7z := Lib.hid (HP7.out.ext HX4.out)
  have HB7z := Lib.hid (HX4.out.block HB7.out)
  clear HX HP6 HB6 HP7 HB7
  have q0 := cell_at HB4.out 0
  have q1 := cell_at HB4.out 1
  dsimp at q0 q1
  go_wp2_with fail
  refine (c10w (threeW_in HT4.out HV4.out)).mono ?_
  rintro e V22 ⟨h9, c9, rfl, hq9, hx9⟩
  have HX22 := Lib.hid (HXz.out.trans (hx9.alloc (.cells #[.int .i64 1, .slice (some ⟨h9, 0, none⟩) 3 c9] 31)))
  have HP6 := Lib.hid (HP6z.out.ext (hx9.alloc (.cells #[.int .i64 1, .slice (some ⟨h9, 0, none⟩) 3 c9] 31)))
  have HB6 := Lib.hid ((hx9.alloc (.cells #[.int .i64 1, .slice (some ⟨h9, 0, none⟩) 3 c9] 31)).block HB6z.out)
  have HP7 := Lib.hid (HP7z.out.ext (hx9.alloc (.cells #[.int .i64 1, .slice (some ⟨h9, 0, none⟩) 3 c9] 31)))
  have HB7 := Lib.hid ((hx9.alloc (.cells #[.int .i64 1, .slice (some ⟨h9, 0, none⟩) 3 c9] 31)).block HB7z.out)
  have HP9 := Lib.hid (hq9.ext ((Ext.refl V22).alloc (.cells #[.int .i64 1, .slice (some ⟨h9, 0, none⟩) 3 c9] 31)))
  have HB9 : Hid ((V22.alloc (.cells #[.int .i64 1, .slice (some ⟨h9, 0, none⟩) 3 c9] 31)).heap[V22.heap.size]? = some (.cells #[.int .i64 1, .slice (some ⟨h9, 0, none⟩) 3 c9] 31 (0, 0))) := alloc_new rfl
  clear HXz HP6z HB6z HP7z HB7z hq9 hx9 q0 q1
  go_upto_region 14 with (fail)
  generalize V22.alloc (.cells #[.int .i64 1, .slice (some ⟨h9, 0, none⟩) 3 c9] 31) = V23 at *
  generalize V22.heap.size = X9 at *
  generalize V14.heap.size = X6 at *
  generalize V16.heap.size = X7 at *
  have q0 := cell_at HB6.out 0
  have q1 := cell_at HB6.out 1
  dsimp at q0 q1
  go_wp2_with fail
  refine (is_any 1 1 _ _ _ _ [0, 1, 0] [0, 1, 0] _ (HP6.out.ext ((Ext.refl V23).alloc _)) (three_is (p := 0) (q := 1) (r := 0) (alloc_new rfl)) rfl rfl).mono ?_
  rintro e V24 ⟨rfl, hx⟩
  have HX24 := Lib.hid (HX22.out.trans (((Ext.refl V23).alloc _).trans hx))
  have HB7b := Lib.hid ((((Ext.refl V23).alloc _).trans hx).block HB7.out)
  have HP7b := Lib.hid (HP7.out.ext (((Ext.refl V23).alloc _).trans hx))
  have HB9b := Lib.hid ((((Ext.refl V23).alloc _).trans hx).block HB9.out)
  have HP9b := Lib.hid (HP9.out.ext (((Ext.refl V23).alloc _).trans hx))
  clear hx HX22 HB7 HP7 HB9 HP9 HB6 HP6 q0 q1
  have q0 := cell_at HB7b.out 0
  have q1 := cell_at HB7b.out 1
  dsimp at q0 q1
  go_wp2_with fail
  refine (is_any 2 2 _ _ _ _ [0, 2, 1] [0, 2, 1] _ (HP7b.out.ext ((Ext.refl V24).alloc _)) (three_is (p := 0) (q := 2) (r := 1) (alloc_new rfl)) rfl rfl).mono ?_
  rintro e V25 ⟨rfl, hx⟩
  have HX25 := Lib.hid (HX24.out.trans (((Ext.refl V24).alloc _).trans hx))
  have HB9 := Lib.hid ((((Ext.refl V24).alloc _).trans hx).block HB9b.out)
  have HP9 := Lib.hid (HP9b.out.ext (((Ext.refl V24).alloc _).trans hx))
  clear hx HX24 HB7b HP7b HB9b HP9b q0 q1
  have q0 := cell_at HB9.out 0
  have q1 := cell_at HB9.out 1
  dsimp at q0 q1
  go_wp2_with fail
  refine (is_any 1 1 _ _ _ _ [1, 0, 0] [1, 0, 0] _ (HP9.out.ext ((Ext.refl V25).alloc _)) (three_is (p := 1) (q := 0) (r := 0) (alloc_new rfl)) rfl rfl).mono ?_
  rintro e V26 ⟨rfl, hx⟩
  have HX26 := Lib.hid (HX25.out.trans (((Ext.refl V25).alloc _).trans hx))
  clear hx HX25 HB9 HP9 q0 q1
  go_wp2_with fail
  go_ret
  exact ⟨rfl, HX26.out⟩
end Go.Proofs.Ytlaolokakaheaaa
