/-
  inDark and inLight of package pillar put a profile to work, in either way; tall returns the least Tall with which two places see each other; Check answers OK for a profile that is right. The profile must lie in memory as told and be right.
-/
import Derived.Test.YtfognlealnhodaaE
namespace Go.Proofs.Ytfognlealnhodaa
open Go.RowKit

theorem zeroTab : (Try.zeroCells115.toList.drop 7).take 1600 = List.replicate 1600 (.bool false) := by kernel_rfl
theorem zeroWC (d : Bool) (v : PV) (g1 g2 : Nat) (h1 : g1 = endN !d) (h2 : g2 = endN d) :
    WC (((((((Try.zeroCells115.setIfInBounds 0 (.slice v.at'.a v.at'.l.length v.at'.c)).setIfInBounds 1 (.slice v.gr.a v.gr.l.length v.gr.c)).setIfInBounds 2 (.int .i64 (v.T : Int))).setIfInBounds 3 (.int .i64 (v.lo : Int))).setIfInBounds 4 (.int .i64 (v.hi : Int))).setIfInBounds 5 (.func (.func g1) #[] #[])).setIfInBounds 6 (.func (.func g2) #[] #[])) d v (fun _ _ => false) := by
  have hsz : Try.zeroCells115.size = 1607 := Try.zeroCells115_size
  have hz := zeroTab
  subst h1 h2
  refine ⟨by simp [hsz], ?_, ?_, ?_, ?_, ?_, ?_, ?_, fun f t hf ht => ?_⟩
  · simp [hsz]
  · simp [hsz]
  · simp [hsz]
  · simp [hsz]
  · simp [hsz]
  · simp [hsz]
  · simp [hsz]
  · have h1 : ((Try.zeroCells115.toList.drop 7).take 1600)[f * 40 + t]? = some (.bool false) := by
      rw [hz, List.getElem?_replicate, if_pos (by omega)]
    rw [List.getElem?_take, if_pos (by omega), List.getElem?_drop] at h1
    repeat rw [Array.getElem?_setIfInBounds, if_neg (by omega)]
    rw [← Array.getElem?_toList, ← h1]
    congr 1
    omega


set_option maxRecDepth 100000 in
set_option maxHeartbeats 4000000 in
theorem inDark_any (v : PV) (w : World) (hp : IsP w v) (hk : OkP v.p) :
    Calls Try.prog 40 #[v.v] w fun e w' => ∃ B, e = .returned (.pointer (some ⟨B, 0, none⟩)) ∧ Wk w' B true v (allF true v.p) ∧ w.heap.size ≤ B ∧ Ext w w' := by
  have HP := Lib.hid hp; clear hp
  have HK := Lib.hid hk; clear hk
  have cb := World.alloc_heap_new w (.cells #[.slice v.at'.a v.at'.l.length v.at'.c, .slice v.gr.a v.gr.l.length v.gr.c, .int .i64 (v.T : Int), .int .i64 (v.lo : Int), .int .i64 (v.hi : Int)] 30)
  have c0 := (cell_at cb 0).trans rfl
  have c1 := (cell_at cb 1).trans rfl
  have c2 := (cell_at cb 2).trans rfl
  have c3 := (cell_at cb 3).trans rfl
  have c4 := (cell_at cb 4).trans rfl
  clear cb
  go_enter Try.func40, Try.ntmps40
  go_wp2_with fail
  refine (look_any _ true v _ (zeroWC true v 73 74 rfl rfl) (HP.out.ext ((Ext.refl w).alloc _)) HK.out).mono ?_
  rintro e w1 ⟨rfl, hW, hX⟩
  clear c0 c1 c2 c3 c4
  rw [World.size_alloc] at hW
  have HW := Lib.hid hW; clear hW
  have HX := Lib.hid hX; clear hX
  go_wp2
  go_ret
  exact ⟨_, rfl, HW.out, by omega, (Ext.refl w).alloc _ |>.trans HX.out⟩

set_option maxRecDepth 100000 in
set_option maxHeartbeats 4000000 in
theorem inLight_any (v : PV) (w : World) (hp : IsP w v) (hk : OkP v.p) :
    Calls Try.prog 57 #[v.v] w fun e w' => ∃ B, e = .returned (.pointer (some ⟨B, 0, none⟩)) ∧ Wk w' B false v (allF false v.p) ∧ w.heap.size ≤ B ∧ Ext w w' := by
  have HP := Lib.hid hp; clear hp
  have HK := Lib.hid hk; clear hk
  have cb := World.alloc_heap_new w (.cells #[.slice v.at'.a v.at'.l.length v.at'.c, .slice v.gr.a v.gr.l.length v.gr.c, .int .i64 (v.T : Int), .int .i64 (v.lo : Int), .int .i64 (v.hi : Int)] 30)
  have c0 := (cell_at cb 0).trans rfl
  have c1 := (cell_at cb 1).trans rfl
  have c2 := (cell_at cb 2).trans rfl
  have c3 := (cell_at cb 3).trans rfl
  have c4 := (cell_at cb 4).trans rfl
  clear cb
  go_enter Try.func57, Try.ntmps57
  go_wp2_with fail
  refine (look_any _ false v _ (zeroWC false v 74 73 rfl rfl) (HP.out.ext ((Ext.refl w).alloc _)) HK.out).mono ?_
  rintro e w1 ⟨rfl, hW, hX⟩
  clear c0 c1 c2 c3 c4
  rw [World.size_alloc] at hW
  have HW := Lib.hid hW; clear hW
  have HX := Lib.hid hX; clear hX
  go_wp2
  go_ret
  exact ⟨_, rfl, HW.out, by omega, (Ext.refl w).alloc _ |>.trans HX.out⟩

set_option maxHeartbeats 1000000 in
theorem tall_any (B : Nat) (v : PV) (S : Nat → Nat → Bool) (i j : Nat) (w : World) (hw : Wk w B true v S) (hk : OkP v.p) (hi : i < v.at'.l.length) (hj : j < v.at'.l.length) (hne : i ≠ j) :
    Calls Try.prog 58 #[.pointer (some ⟨B, 0, none⟩), .int .i64 (i : Int), .int .i64 (j : Int)] w fun e w' => e = .returned (.int .i64 (tallF true v.p i j : Int)) ∧ Ext w w' := by
  have HW := Lib.hid hw.wh; clear hw
  have HK := Lib.hid hk
  have hn2 := hk.n2
  dsimp only at hn2
  clear hk
  by_cases h : i < j
  · have h3 : (i : Int) < (j : Int) := by omega
    have h4 : ¬ (j : Int) < (i : Int) := by omega
    have hm : tallF true v.p i j = tallTo true v.p i j (j - (i + 1)) := by unfold tallF; rw [Nat.min_eq_left (by omega), Nat.max_eq_right (by omega)]
    rw [hm]
    clear hm
    go_enter Try.func58, Try.ntmps58
    go_wp2_with fail
    go_loopw [7, 8] (fun t s wr => ∃ k : Nat, s = .int .i64 (k : Int) ∧ i < k ∧ k ≤ j ∧ t = .int .i64 (tallTo true v.p i j (k - (i + 1)) : Int) ∧ Hid (Ext w wr)) (fun _ s _ => j - (intOf s).toNat)
    case atStart => exact ⟨i + 1, rfl, by omega, by omega, by rw [show i + 1 - (i + 1) = 0 by omega]; rfl, Ext.refl _⟩
    case round =>
      obtain ⟨wy, rfl⟩ : ∃ wy : World, wy = wr := ⟨_, rfl⟩
      obtain ⟨k, rfl, hik, hkj, rfl, HX⟩ := hrel
      by_cases hlk : k < j
      · have dk : (k : Int) < (j : Int) := by omega
        have HT : Hid (tallTo true v.p i j (k + 1 - (i + 1)) = max (tallTo true v.p i j (k - (i + 1))) (needF true v.p i k j)) := by
          show _ = _
          rw [show k + 1 - (i + 1) = (k - (i + 1)) + 1 by omega]
          simp only [tallTo]
          rw [show i + 1 + (k - (i + 1)) = k by omega]
        have HN := Lib.hid (need_any B true v i k j wy (HW.out.ext HX.out) HK.out hik hlk hj)
        generalize tallTo true v.p i j (k - (i + 1)) = x at *
        generalize needF true v.p i k j = y at *
        go_wp2_with fail
        refine HN.out.mono ?_
        rintro e w2 ⟨rfl, hx2⟩
        have HX2 : Hid (Ext w w2) := HX.out.trans hx2
        clear hx2 HN
        by_cases hxy : x < y
        · have q1 : (x : Int) < (y : Int) := by omega
          rw [Nat.max_eq_right (by omega)] at HT
          go_wp2
          go_roundw
          case rel => exact ⟨k + 1, by go_num, by omega, by omega, by rw [HT.out], HX2⟩
          case measure => simp [intOf]; omega
        · have q1 : ¬ (x : Int) < (y : Int) := by omega
          rw [Nat.max_eq_left (by omega)] at HT
          go_wp2
          go_roundw
          case rel => exact ⟨k + 1, by go_num, by omega, by omega, by rw [HT.out], HX2⟩
          case measure => simp [intOf]; omega
      · have hke : k = j := by omega
        subst hke
        have dk2 : decide ((k : Int) < (k : Int)) = false := decide_eq_false (by omega)
        go_wp2
        go_ret
        exact ⟨rfl, HX.out⟩
  · have h3 : (j : Int) < (i : Int) := by omega
    have h4 : ¬ (i : Int) < (j : Int) := by omega
    have hm : tallF true v.p i j = tallTo true v.p j i (i - (j + 1)) := by unfold tallF; rw [Nat.min_eq_right (by omega), Nat.max_eq_left (by omega)]
    rw [hm]
    clear hm
    go_enter Try.func58, Try.ntmps58
    go_wp2_with fail
    go_loopw [7, 8] (fun t s wr => ∃ k : Nat, s = .int .i64 (k : Int) ∧ j < k ∧ k ≤ i ∧ t = .int .i64 (tallTo true v.p j i (k - (j + 1)) : Int) ∧ Hid (Ext w wr)) (fun _ s _ => i - (intOf s).toNat)
    case atStart => exact ⟨j + 1, rfl, by omega, by omega, by rw [show j + 1 - (j + 1) = 0 by omega]; rfl, Ext.refl _⟩
    case round =>
      obtain ⟨wy, rfl⟩ : ∃ wy : World, wy = wr := ⟨_, rfl⟩
      obtain ⟨k, rfl, hik, hkj, rfl, HX⟩ := hrel
      by_cases hlk : k < i
      · have dk : (k : Int) < (i : Int) := by omega
        have HT : Hid (tallTo true v.p j i (k + 1 - (j + 1)) = max (tallTo true v.p j i (k - (j + 1))) (needF true v.p j k i)) := by
          show _ = _
          rw [show k + 1 - (j + 1) = (k - (j + 1)) + 1 by omega]
          simp only [tallTo]
          rw [show j + 1 + (k - (j + 1)) = k by omega]
        have HN := Lib.hid (need_any B true v j k i wy (HW.out.ext HX.out) HK.out hik hlk hi)
        generalize tallTo true v.p j i (k - (j + 1)) = x at *
        generalize needF true v.p j k i = y at *
        go_wp2_with fail
        refine HN.out.mono ?_
        rintro e w2 ⟨rfl, hx2⟩
        have HX2 : Hid (Ext w w2) := HX.out.trans hx2
        clear hx2 HN
        by_cases hxy : x < y
        · have q1 : (x : Int) < (y : Int) := by omega
          rw [Nat.max_eq_right (by omega)] at HT
          go_wp2
          go_roundw
          case rel => exact ⟨k + 1, by go_num, by omega, by omega, by rw [HT.out], HX2⟩
          case measure => simp [intOf]; omega
        · have q1 : ¬ (x : Int) < (y : Int) := by omega
          rw [Nat.max_eq_left (by omega)] at HT
          go_wp2
          go_roundw
          case rel => exact ⟨k + 1, by go_num, by omega, by omega, by rw [HT.out], HX2⟩
          case measure => simp [intOf]; omega
      · have hke : k = i := by omega
        subst hke
        have dk2 : decide ((k : Int) < (k : Int)) = false := decide_eq_false (by omega)
        go_wp2
        go_ret
        exact ⟨rfl, HX.out⟩
end Go.Proofs.Ytfognlealnhodaa
