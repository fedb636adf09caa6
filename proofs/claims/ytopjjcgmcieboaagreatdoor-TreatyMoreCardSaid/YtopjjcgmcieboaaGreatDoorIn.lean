/-
  Equal and EqualAll of the statements' kit tell whether two lists, or two lists of lists, are equal, and turn nothing that was there. The lists must read as told.
-/
import Derived.Test.YtopjjcgmcieboaaGreatDoorL
import Derived.Test.YtopjjcgmcieboaaGreatDoorQ
namespace Go.Proofs.YtopjjcgmcieboaaGreatDoor
open Go.RowKit

/-- Some draws. -/
def Dr (w w' : World) : Prop := ∃ n, w' = w.drewN n
theorem Dr.refl (w : World) : Dr w w := ⟨0, rfl⟩
theorem drewN_add (w : World) (n m : Nat) : (w.drewN n).drewN m = w.drewN (n + m) := by
  unfold World.drewN; simp [Nat.add_assoc]
theorem Dr.more {w w' : World} (h : Dr w w') (m : Nat) : Dr w (w'.drewN m) := by
  obtain ⟨n, rfl⟩ := h; exact ⟨n + m, drewN_add _ _ _⟩
theorem Dr.trans {a b c : World} (h : Dr a b) (k : Dr b c) : Dr a c := by
  obtain ⟨m, rfl⟩ := k; exact h.more m
theorem Dr.ext {w w' : World} (h : Dr w w') : Ext w w' := by obtain ⟨n, rfl⟩ := h; exact (Ext.refl w).drewN n
theorem Dr.cell {w w' : World} (h : Dr w w') {a : Addr} {v : Value} (hc : w.cell? a = some v) : w'.cell? a = some v := h.ext.cell hc

set_option maxRecDepth 100000 in
set_option maxHeartbeats 1000000 in
theorem equal_any (a b : SL Nat) (w : World) (ha : IsSl 1 num w a) (hb : IsSl 1 num w b) :
    Calls Tryz.prog 16 #[.slice a.a a.l.length a.c, .slice b.a b.l.length b.c] w fun e w' => e = .returned (.bool (decide (a.l = b.l))) ∧ Dr w w' := by
  obtain ⟨a1, a2, a3⟩ := ha
  obtain ⟨b1, b2, b3⟩ := hb
  have HA3 := Lib.hid a3; clear a3 a1
  have HB3 := Lib.hid b3; clear b3 b1
  have n1 : (0 : Int) ≤ (a.l.length : Int) := by omega
  have n2 : (a.l.length : Int) ≤ 1000000 := by omega
  go_enter Tryz.func16, Tryz.ntmps16
  go_wp2_with fail
  go_loopw [8] (fun i wr => ∃ k : Nat, k ≤ a.l.length ∧ i = .int .i64 (k : Int) ∧ k ≤ b.l.length ∧ Hid (a.l.take k = b.l.take k) ∧ Hid (Dr w wr)) (fun i _ => a.l.length - (intOf i).toNat)
  case atStart => exact ⟨0, Nat.zero_le _, rfl, Nat.zero_le _, rfl, Dr.refl w⟩
  case round =>
    obtain ⟨wo, rfl⟩ : ∃ wo : World, wo = wr := ⟨_, rfl⟩
    obtain ⟨k, hk, rfl, hkb, HT, HD⟩ := hrel
    by_cases hlt : k < a.l.length
    · have dk : decide ((k : Int) < (a.l.length : Int)) = true := decide_eq_true (by omega)
      obtain ⟨ba, oa, haa, hac⟩ := HA3.out.resolve_left (by omega)
      have ca : wo.cell? ⟨ba, oa + k, none⟩ = some (.int .i64 (a.l[k] : Int)) := by have := HD.out.cell (hac k hlt 0 (by omega)); simpa [num] using this
      have k0 : (0 : Int) ≤ k := by omega
      have k1 : (k : Int) < (a.l.length : Int) := by omega
      rw [haa]
      by_cases hltb : k < b.l.length
      · obtain ⟨bb, ob, hbb, hbc⟩ := HB3.out.resolve_left (by omega)
        have cb : wo.cell? ⟨bb, ob + k, none⟩ = some (.int .i64 (b.l[k] : Int)) := by have := HD.out.cell (hbc k hltb 0 (by omega)); simpa [num] using this
        have k2 : (k : Int) < (b.l.length : Int) := by omega
        have d2 : decide ((b.l.length : Int) ≤ (k : Int)) = false := decide_eq_false (by omega)
        have HTs : Hid (a.l[k] = b.l[k] → a.l.take (k + 1) = b.l.take (k + 1)) := fun h => by
          rw [List.take_succ_eq_append_getElem hlt, List.take_succ_eq_append_getElem hltb, HT.out, h]
        have HTn : Hid (a.l[k] ≠ b.l[k] → decide (a.l = b.l) = false) := fun h => by
          rw [decide_eq_false_iff_not]; intro e; apply h; simp [e]
        generalize a.l[k] = x at *
        generalize b.l[k] = y at *
        rw [hbb]
        have HAa := Lib.hid haa; clear haa
        have HBb := Lib.hid hbb; clear hbb hac hbc
        by_cases hxy : x = y
        · have hq : ((x : Int) != (y : Int)) = false := by rw [bne_eq_false_iff_eq]; omega
          have HTt : Hid (a.l.take (k + 1) = b.l.take (k + 1)) := HTs.out hxy
          clear HTs HTn hxy
          go_wp2_with fail
          go_quiet (fail)
          go_wp2
          go_roundw
          case rel => exact ⟨k + 1, by omega, by go_num, by omega, HTt, HD.out.more _⟩
          case measure => simp [intOf]; omega
        · have hq : ((x : Int) != (y : Int)) = true := by rw [bne_iff_ne]; omega
          have HTf : Hid (decide (a.l = b.l) = false) := HTn.out hxy
          clear HTs HTn hxy
          go_wp2_with fail
          go_quiet (fail)
          go_wp2
          go_ret
          exact ⟨by rw [HTf.out]; rfl, HD.out.more _⟩
      · have d2 : decide ((b.l.length : Int) ≤ (k : Int)) = true := decide_eq_true (by omega)
        have d3 : (b.l.length : Int) ≤ (k : Int) := by omega
        have HTf : Hid (decide (a.l = b.l) = false) := by
          show _ = _; rw [decide_eq_false_iff_not]; intro e; have := congrArg List.length e; omega
        generalize a.l[k] = x at *
        clear hac
        have HAa := Lib.hid haa; clear haa
        go_wp2_with fail
        go_quiet (fail)
        go_wp2
        go_ret
        exact ⟨by rw [HTf.out]; rfl, HD.out.more _⟩
    · have hke : k = a.l.length := by omega
      have HKe := Lib.hid hke
      have HTf : Hid (decide (a.l = b.l) = ((a.l.length : Int) == (b.l.length : Int))) := by
        show _ = _
        by_cases e : a.l.length = b.l.length
        · have h1 := HT.out
          rw [hke, List.take_of_length_le (Nat.le_refl _), e, List.take_of_length_le (Nat.le_refl _)] at h1
          rw [decide_eq_true h1]; symm; rw [beq_iff_eq]; omega
        · rw [decide_eq_false (fun h => e (by rw [h]))]; symm; rw [beq_eq_false_iff_ne]; omega
      have dk : decide ((k : Int) < (a.l.length : Int)) = false := decide_eq_false (by omega)
      clear hke
      go_wp2
      go_ret
      exact ⟨by rw [HTf.out]; rfl, HD.out⟩

theorem equal_quiet (x y : SL Nat) (w : World) (hx : IsSl 1 num w x) (hy : IsSl 1 num w y) (n : Nat) :
    Calls Tryz.prog 16 #[.slice x.a x.l.length x.c, .slice y.a y.l.length y.c] (w.drewN n) fun e w'' => e = .returned (.bool (decide (x.l = y.l))) ∧ ∃ m, w'' = w.drewN m :=
  (equal_any x y _ (hx.ext ((Ext.refl w).drewN n)) (hy.ext ((Ext.refl w).drewN n))).mono fun _ _ ⟨h1, h2⟩ => ⟨h1, by obtain ⟨m, h2⟩ := h2; exact ⟨n + m, by rw [h2, drewN_add]⟩⟩

set_option maxRecDepth 100000 in
set_option maxHeartbeats 1000000 in
theorem equalAll_any (a b : SL (SL Nat)) (w : World) (ha : IsSl 1 slC w a) (hb : IsSl 1 slC w b) (hra : ∀ r ∈ a.l, IsSl 1 num w r) (hrb : ∀ r ∈ b.l, IsSl 1 num w r) :
    Calls Tryz.prog 39 #[.slice a.a a.l.length a.c, .slice b.a b.l.length b.c] w fun e w' => e = .returned (.bool (decide (a.l.map (fun r => r.l) = b.l.map (fun r => r.l)))) ∧ Dr w w' := by
  obtain ⟨a1, a2, a3⟩ := ha
  obtain ⟨b1, b2, b3⟩ := hb
  have HA3 := Lib.hid a3; clear a3 a1
  have HB3 := Lib.hid b3; clear b3 b1
  have HRA := Lib.hid hra; clear hra
  have HRB := Lib.hid hrb; clear hrb
  have n1 : (0 : Int) ≤ (a.l.length : Int) := by omega
  have n2 : (a.l.length : Int) ≤ 1000000 := by omega
  go_enter Tryz.func39, Tryz.ntmps39
  go_wp2_with fail
  go_loopw [8] (fun i wr => ∃ k : Nat, k ≤ a.l.length ∧ i = .int .i64 (k : Int) ∧ k ≤ b.l.length ∧ Hid ((a.l.take k).map (fun r => r.l) = (b.l.take k).map (fun r => r.l)) ∧ Hid (Dr w wr)) (fun i _ => a.l.length - (intOf i).toNat)
  case atStart => exact ⟨0, Nat.zero_le _, rfl, Nat.zero_le _, rfl, Dr.refl w⟩
  case round =>
    obtain ⟨wo, rfl⟩ : ∃ wo : World, wo = wr := ⟨_, rfl⟩
    obtain ⟨k, hk, rfl, hkb, HT, HD⟩ := hrel
    by_cases hlt : k < a.l.length
    · have dk : decide ((k : Int) < (a.l.length : Int)) = true := decide_eq_true (by omega)
      obtain ⟨ba, oa, haa, hac⟩ := HA3.out.resolve_left (by omega)
      have ca : wo.cell? ⟨ba, oa + k, none⟩ = some (.slice a.l[k].a a.l[k].l.length a.l[k].c) := by have := HD.out.cell (hac k hlt 0 (by omega)); simpa [slC] using this
      have HX : Hid (IsSl 1 num wo a.l[k]) := (HRA.out _ (List.getElem_mem hlt)).ext HD.out.ext
      have k0 : (0 : Int) ≤ k := by omega
      have k1 : (k : Int) < (a.l.length : Int) := by omega
      rw [haa]
      by_cases hltb : k < b.l.length
      · obtain ⟨bb, ob, hbb, hbc⟩ := HB3.out.resolve_left (by omega)
        have cb : wo.cell? ⟨bb, ob + k, none⟩ = some (.slice b.l[k].a b.l[k].l.length b.l[k].c) := by have := HD.out.cell (hbc k hltb 0 (by omega)); simpa [slC] using this
        have HY : Hid (IsSl 1 num wo b.l[k]) := (HRB.out _ (List.getElem_mem hltb)).ext HD.out.ext
        have k2 : (k : Int) < (b.l.length : Int) := by omega
        have d2 : decide ((b.l.length : Int) ≤ (k : Int)) = false := decide_eq_false (by omega)
        have HTs : Hid (a.l[k].l = b.l[k].l → (a.l.take (k + 1)).map (fun r => r.l) = (b.l.take (k + 1)).map (fun r => r.l)) := fun h => by
          rw [List.take_succ_eq_append_getElem hlt, List.take_succ_eq_append_getElem hltb, List.map_append, List.map_append, HT.out]
          simp [h]
        have HTn : Hid (a.l[k].l ≠ b.l[k].l → decide (a.l.map (fun r => r.l) = b.l.map (fun r => r.l)) = false) := fun h => by
          rw [decide_eq_false_iff_not]; intro e; apply h
          have := congrArg (fun l => l[k]?) e
          simp only [List.getElem?_map, List.getElem?_eq_getElem hlt, List.getElem?_eq_getElem hltb, Option.map_some, Option.some.injEq] at this
          exact this
        generalize a.l[k] = x at *
        generalize b.l[k] = y at *
        rw [hbb]
        have HAa := Lib.hid haa; clear haa
        have HBb := Lib.hid hbb; clear hbb hac hbc
        have HC : Hid (∀ n, Calls Tryz.prog 16 #[.slice x.a x.l.length x.c, .slice y.a y.l.length y.c] (wo.drewN n) fun e w'' => e = .returned (.bool (decide (x.l = y.l))) ∧ ∃ m, w'' = wo.drewN m) := fun n => equal_quiet x y wo HX.out HY.out n
        by_cases hxy : x.l = y.l
        · rw [decide_eq_true hxy] at HC
          have HTt : Hid ((a.l.take (k + 1)).map (fun r => r.l) = (b.l.take (k + 1)).map (fun r => r.l)) := HTs.out hxy
          clear HTs HTn hxy
          go_wp2_with fail
          go_quiet ((go_at_call 16; exact HC.out _))
          go_wp2
          go_roundw
          case rel => exact ⟨k + 1, by omega, by go_num, by omega, HTt, HD.out.more _⟩
          case measure => simp [intOf]; omega
        · rw [decide_eq_false hxy] at HC
          have HTf : Hid (decide (a.l.map (fun r => r.l) = b.l.map (fun r => r.l)) = false) := HTn.out hxy
          clear HTs HTn hxy
          go_wp2_with fail
          go_quiet ((go_at_call 16; exact HC.out _))
          go_wp2
          go_ret
          exact ⟨by rw [HTf.out]; rfl, HD.out.more _⟩
      · have d2 : decide ((b.l.length : Int) ≤ (k : Int)) = true := decide_eq_true (by omega)
        have d3 : (b.l.length : Int) ≤ (k : Int) := by omega
        have HTf : Hid (decide (a.l.map (fun r => r.l) = b.l.map (fun r => r.l)) = false) := by
          show _ = _; rw [decide_eq_false_iff_not]; intro e; have := congrArg List.length e; simp only [List.length_map] at this; omega
        generalize a.l[k] = x at *
        clear hac
        have HAa := Lib.hid haa; clear haa
        go_wp2_with fail
        go_quiet (fail)
        go_wp2
        go_ret
        exact ⟨by rw [HTf.out]; rfl, HD.out.more _⟩
    · have hke : k = a.l.length := by omega
      have HTf : Hid (decide (a.l.map (fun r => r.l) = b.l.map (fun r => r.l)) = ((a.l.length : Int) == (b.l.length : Int))) := by
        show _ = _
        by_cases e : a.l.length = b.l.length
        · have h1 := HT.out
          rw [hke, List.take_of_length_le (Nat.le_refl _), e, List.take_of_length_le (Nat.le_refl _)] at h1
          rw [decide_eq_true h1]; symm; rw [beq_iff_eq]; omega
        · rw [decide_eq_false (fun h => e (by simpa using congrArg List.length h))]; symm; rw [beq_eq_false_iff_ne]; omega
      have dk : decide ((k : Int) < (a.l.length : Int)) = false := decide_eq_false (by omega)
      clear hke
      go_wp2
      go_ret
      exact ⟨by rw [HTf.out]; rfl, HD.out⟩
end Go.Proofs.YtopjjcgmcieboaaGreatDoor
