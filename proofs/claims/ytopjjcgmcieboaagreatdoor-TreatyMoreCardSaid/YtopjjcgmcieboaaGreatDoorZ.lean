/-
  slices.Repeat at a list of one number, as package treaty calls it, returns a new row of so many of them, and turns nothing that was there. The list must read as told.
-/
import Derived.Test.YtopjjcgmcieboaaGreatDoorL
import Derived.Laws.CopyOwn
import Derived.IntWalk
import Derived.Deep.OwnRows
import Derived.Deep.MidRow
import Derived.Deep.RegionLaw
import Derived.Deep.DeepMust
namespace Go.Proofs.YtopjjcgmcieboaaGreatDoor
open Go.RowKit
theorem mul64_any (P : Nat) (w : World) (h1 : P ≤ 12) :
    Calls Tryz.prog 131 #[.int .u64 1, .int .u64 (P : Int)] w fun e w' => e = .returned (.tuple #[.int .u64 0, .int .u64 (P : Int)]) ∧ w = w' := by
  rcases (by omega : P = 0 ∨ P = 1 ∨ P = 2 ∨ P = 3 ∨ P = 4 ∨ P = 5 ∨ P = 6 ∨ P = 7 ∨ P = 8 ∨ P = 9 ∨ P = 10 ∨ P = 11 ∨ P = 12) with rfl | rfl | rfl | rfl | rfl | rfl | rfl | rfl | rfl | rfl | rfl | rfl | rfl
  all_goals
    go_enter Tryz.func131, Tryz.ntmps131
    go_wp2
    go_ret2
    exact ⟨by kernel_rfl, rfl⟩
theorem mul_any (P : Nat) (w : World) (h1 : P ≤ 12) :
    Calls Tryz.prog 121 #[.int .u64 1, .int .u64 (P : Int)] w fun e w' => e = .returned (.tuple #[.int .u64 0, .int .u64 (P : Int)]) ∧ w = w' := by
  have HC := Lib.hid (mul64_any P w h1)
  go_enter Tryz.func121, Tryz.ntmps121
  go_wp2_with (go_at_call 131; refine HC.out.mono ?_; rintro e w' ⟨rfl, rfl⟩)
  go_ret2
  exact ⟨rfl, rfl⟩

theorem made0 (P : Nat) : madeCells #[.int .i64 0] P = (nums (List.replicate P 0)).toArray := by
  apply Array.ext_getElem?
  intro i
  by_cases hi : i < P
  · simp [madeCells, nums, hi, Nat.mod_one]
  · simp [madeCells, nums, hi]

/-- A row of P numbers, the first m of which are x. -/
def fl (P m x : Nat) : List Nat := List.replicate m x ++ List.replicate (P - m) 0
theorem fl_length (P m x : Nat) (h : m ≤ P) : (fl P m x).length = P := by simp [fl]; omega
theorem fl_splice (P m k x : Nat) : splice (nums (fl P m x)) m (nums (List.replicate k x)) = nums (fl P (m + k) x) := by
  unfold splice fl
  simp only [nums_append, nums_length, List.length_replicate]
  have e1 : (nums (List.replicate m x) ++ nums (List.replicate (P - m) 0)).take m = nums (List.replicate m x) := by
    rw [List.take_append_of_le_length (by simp [nums_length]), List.take_of_length_le (by simp [nums_length])]
  have e2 : (nums (List.replicate m x) ++ nums (List.replicate (P - m) 0)).drop (m + k) = nums (List.replicate (P - (m + k)) 0) := by
    rw [List.drop_append, List.drop_eq_nil_of_le (by simp [nums_length]), show m + k - (nums (List.replicate m x)).length = k by rw [nums_length, List.length_replicate]; omega]
    have : ∀ (l : List Nat) (j : Nat), (nums l).drop j = nums (l.drop j) := fun l j => by simp [nums, List.map_drop]
    rw [this, List.drop_replicate, List.nil_append, show P - m - k = P - (m + k) by omega]
  rw [e1, e2, ← List.append_assoc, ← nums_append, List.replicate_append_replicate]

set_option maxRecDepth 100000 in
set_option maxHeartbeats 1000000 in
theorem rep_any (P : Nat) (b : Nat) (w : World) (h1 : 1 ≤ P) (h12 : P ≤ 12) (hc : w.cell? ⟨b, 0, none⟩ = some (.int .i64 11)) :
    Calls Tryz.prog 93 #[.slice (some ⟨b, 0, none⟩) 1 1, .int .i64 (P : Int)] w fun e w' => e = .returned (.slice (some ⟨w.heap.size, 0, none⟩) P P) ∧ Row w' w.heap.size (List.replicate P 11) P ∧ Ext w w' := by
  have hb := lt_of_cell hc
  dsimp only at hb
  have hwr : IntKind.u64.wrap (P : Int) = (P : Int) := IntWalk.u64_in _ (by omega)
  have hwi : IntKind.i64.wrap (P : Int) = (P : Int) := IntWalk.i64_in _ (by omega)
  have d1 : decide ((P : Int) < 0) = false := decide_eq_false (by omega)
  have d2 : ¬ (P : Int) < 0 := by omega
  have d3 : decide ((9223372036854775807 : Int) < (P : Int)) = false := decide_eq_false (by omega)
  have HC := Lib.hid (mul_any P w h12)
  have hmk := run_make_row' (P := Tryz.prog) 25 3 (.int .i64 0) 8 Tryz.underlying25 info3 rfl .i64 .i64 P (by omega) (by omega)
  rw [made0] at hmk
  have e0 : (nums (List.replicate P 0)) = nums (fl P 0 11) := by simp [fl]
  rw [e0] at hmk
  have hL0 : (nums (fl P 0 11)).length = P := by rw [nums_length, fl_length _ _ _ (Nat.zero_le _)]
  have HL0 := Lib.hid hL0; clear hL0 e0
  have hN : (nums [11]).length = Nat.min 1 P := (Nat.min_eq_left h1).symm
  have HN := Lib.hid hN; clear hN
  have hs0 : ∀ (o : Obj) j v, (nums [11])[j]? = some v → (w.alloc o).cell? ((⟨b, 0, none⟩ : Addr).add j) = some v := by
    intro o j v hv
    cases j with
    | zero =>
      have e : v = .int .i64 11 := by simpa [nums] using hv.symm
      rw [Addr.add_mid, e]; exact ((Ext.refl w).alloc o).cell hc
    | succ j => simp [nums] at hv
  have HS0 := Lib.hid hs0; clear hs0
  have HF := Lib.hid (fl_splice P 0 1 11)
  have HP := Lib.hid h1
  go_enter Tryz.func93, Tryz.ntmps93
  go_wp2_with fail
  refine HC.out.mono ?_; rintro e w' ⟨rfl, rfl⟩
  go_wp2_with ((with_reducible show wpList _ _ _ _ _ _); (refine wpList_copy_splice rfl (.tmp 31) (.tmp 32) 25 25 rfl 3 Tryz.underlying25 (by kernel_rfl) (some ⟨w.heap.size, 0, none⟩) (some ⟨b, 0, none⟩) P P 1 1 rfl rfl w.heap.size 0 (nums (fl P 0 11)) 3 (World.alloc_heap_new w _) (nums [11]) HN.out (fun _ => ⟨rfl, _, rfl, HS0.out _⟩) (by rw [HL0.out]; exact HP.out) (nums_one [11]) w.heap.size w ((Ext.refl w).alloc _) (Nat.le_refl _) ?_); intro w2 hg2 hb2)
  have HX2 : Hid (Ext w w2) := Ext.of hb2
  clear hb2
  have HG2 : Hid (w2.heap[w.heap.size]? = some (.cells (nums (fl P 1 11)).toArray 3 (0, 0))) := by have := hg2.out; rw [show nums [11] = nums (List.replicate 1 11) from rfl, HF.out] at this; exact this
  clear hg2
  go_loopw [8] (fun v wr => ∃ m : Nat, 1 ≤ m ∧ m ≤ P ∧ v = .int .i64 m ∧ Hid (wr.heap[w.heap.size]? = some (.cells (nums (fl P m 11)).toArray 3 (0, 0))) ∧ Hid (Ext w wr)) (fun v _ => P - (intOf v).toNat)
  case atStart => exact ⟨1, Nat.le_refl _, HP.out, rfl, HG2, HX2⟩
  case round =>
    clear HG2 HX2
    obtain ⟨wo, rfl⟩ : ∃ wo : World, wo = wr := ⟨_, rfl⟩
    obtain ⟨m, hm1, hm2, rfl, HG, HX⟩ := hrel
    by_cases hlt : m < P
    · have dm : decide ((m : Int) < (P : Int)) = true := by simpa using hlt
      have m0 : (0 : Int) ≤ m := by omega
      have m1 : (m : Int) ≤ P := by omega
      have m2 : ¬ (m : Int) = P := by omega
      have m3 : ¬ m = P := by omega
      have m4 : ¬ P = m := by omega
      have HNN : Hid ((nums (List.replicate (min m (P - m)) 11)).length = Nat.min m (P - m)) := by show _ = _; rw [nums_length, List.length_replicate]
      have HFF : Hid (m + (nums (List.replicate (min m (P - m)) 11)).length ≤ (nums (fl P m 11)).length) := by show _ ≤ _; rw [nums_length, nums_length, List.length_replicate, fl_length _ _ _ hm2]; omega
      have HSS : Hid (∀ j v, (nums (List.replicate (min m (P - m)) 11))[j]? = some v → wo.drew.cell? ((⟨w.heap.size, 0, none⟩ : Addr).add j) = some v) := by
        show ∀ j v, _
        intro j v hv
        have hj : j < min m (P - m) := by
          have := (List.getElem?_eq_some_iff.1 hv).1
          rwa [nums_length, List.length_replicate] at this
        rw [nums_get _ _ (by simpa using hj), List.getElem_replicate] at hv
        have hg : wo.drew.heap[w.heap.size]? = some (.cells (nums (fl P m 11)).toArray 3 (0, 0)) := HG.out
        rw [Addr.add_mid, cell_at hg]
        have hjm : j < m := by omega
        have : (fl P m 11)[j]? = some 11 := by
          unfold fl; rw [List.getElem?_append_left (by simpa using hjm)]; simp [hjm]
        simp only [Nat.zero_add, List.getElem?_toArray]
        rw [← hv]
        simp [nums, this]
      have H24 : Hid ((Tryz.prog.info? 3).map (·.size) = some 1) := by show _ = _; kernel_rfl
      have HSp : Hid (splice (nums (fl P m 11)) m (nums (List.replicate (min m (P - m)) 11)) = nums (fl P (m + (nums (List.replicate (min m (P - m)) 11)).length) 11)) := by
        show _ = _; rw [fl_splice _ _ _ _, nums_length, List.length_replicate]
      have HOne := Lib.hid (nums_one (List.replicate (min m (P - m)) 11))
      have hcl : ((nums (List.replicate (min m (P - m)) 11)).length : Int) ≤ 12 := by rw [nums_length, List.length_replicate]; omega
      have hcp : 0 < (nums (List.replicate (min m (P - m)) 11)).length := by rw [nums_length, List.length_replicate]; omega
      have hcm : m + (nums (List.replicate (min m (P - m)) 11)).length ≤ P := by rw [nums_length, List.length_replicate]; omega
      generalize nums (List.replicate (min m (P - m)) 11) = cs at *
      have HCP := Lib.hid hcp; clear hcp
      have HCM := Lib.hid hcm; clear hcm
      go_wp2_with fail
      clear hmk
      go_region_law ((with_reducible show ite (Region.wanted ⟨some 45, _, _, _, _, _⟩ _ = true) _ _); refine step_copy_splice rfl (.tmp 41) (.tmp 44) 25 25 rfl 3 Tryz.underlying25 H24.out (some ⟨w.heap.size, m, none⟩) (some ⟨w.heap.size, 0, none⟩) (P - m) (P - m) m P ?_ ?_ w.heap.size m (nums (fl P m 11)) 3 HG.out cs HNN.out (fun _ => ⟨rfl, _, rfl, HSS.out⟩) HFF.out HOne.out w.heap.size w HX.out.drew (Nat.le_refl _) ?_; (simp [Act.put, Act.eval]); (simp [Act.put, Act.eval]); intro w4 hg4 hb4)
      have HX4 : Hid (Ext w w4) := Ext.of hb4
      clear hb4
      rw [HSp.out] at hg4
      have hwm : IntKind.i64.wrap ((m : Int) + (cs.length : Int)) = ((m + cs.length : Nat) : Int) := by rw [IntWalk.i64_in _ (by omega)]; omega
      simp [Act.put, hwm]
      go_wp2
      go_roundw
      case rel => exact ⟨m + cs.length, by omega, HCM.out, by go_num, hg4, HX4⟩
      case measure => have := HCP.out; have := HCM.out; simp only [intOf]; omega
    · have hme : m = P := by omega
      subst hme
      go_wp2
      go_ret
      refine ⟨rfl, ⟨_, HG.out, by simp [fl, nums], by simp, fun i hi => ?_⟩, HX.out⟩
      simp only [List.length_replicate] at hi
      simp [fl, nums, hi]
end Go.Proofs.YtopjjcgmcieboaaGreatDoor
