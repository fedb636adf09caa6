/-
  yielding of package treaty returns the legs that a line breaks which breaks the fewest, in new memory, and turns nothing that was there. The treaty at work must lie in memory as told and be valid.
-/
import Derived.Test.YtopjjcgmcieboaaGreatDoorVa
import Derived.Test.YtopjjcgmcieboaaGreatDoorFb
namespace Go.Proofs.YtopjjcgmcieboaaGreatDoor
open Go.RowKit

/-- The first place with the least floor behind the last leg. -/
def firstF (L : Nat → Nat → Nat → Bool) (P : Nat) (st : List Nat) (N : Nat) : Nat := ((List.range P).find? fun g => flr L P st N g == leastF L P st N).getD 0
theorem firstF_of (L : Nat → Nat → Nat → Bool) (P : Nat) (st : List Nat) (N i : Nat) (hi : i < P) (h1 : flr L P st N i = leastF L P st N) (h2 : ∀ j, j < i → flr L P st N j ≠ leastF L P st N) : firstF L P st N = i := by
  unfold firstF
  have : (List.range P).find? (fun g => flr L P st N g == leastF L P st N) = some i := by
    rw [List.find?_eq_some_iff_getElem]
    refine ⟨by simpa using h1, i, by simpa using hi, by simp, fun j hj => ?_⟩
    simpa using h2 j hj
  rw [this]; rfl
/-- The legs that yield. -/
def yieldL (L : Nat → Nat → Nat → Bool) (P : Nat) (st : List Nat) (N : Nat) : List Nat := yl L P st N (firstF L P st N)

theorem enters_119 : Enters Tryz.prog 119 := fun args w => Proofs.enters_of Tryz.func119 (by kernel_rfl) rfl args w

set_option maxRecDepth 100000 in
set_option maxHeartbeats 1000000 in
theorem yielding_any (p : Nat) (t : TV) (L : Nat → Nat → Nat → Bool) (w : World) (hw : IsWork w p t L) (ht : IsSl 1 num w t.starts) (hk : OkT t) :
    Calls Tryz.prog 85 #[.pointer (some ⟨p, 0, none⟩)] w fun e w' => ∃ (a' : Option Addr) (c' : Nat), e = .returned (.slice a' (yieldL L t.P t.starts.l t.legs.l.length).length c') ∧ IsSl 1 num w' ⟨a', c', yieldL L t.P t.starts.l t.legs.l.length⟩ ∧ Ext w w' := by
  have HW := Lib.hid hw
  obtain ⟨cs, q1, q2, q3, q4, q5, q6, q7, q8⟩ := hw
  have hc0 := (cell_at q1 0).trans q2
  have hc4 := (cell_at q1 4).trans q6
  clear q1 q2 q3 q4 q5 q6 q7 q8
  have hpw := lt_of_cell hc0
  dsimp only at hpw
  have HST := Lib.hid ht; clear ht
  have HK := Lib.hid hk
  have hN := hk.legs
  have hP1 := hk.p1
  have hP2 := hk.p2
  have hsm := flr_small L t.P t.starts.l (t.starts.l[0]'hk.starts1) (List.getElem_mem hk.starts1) (hk.start.1 _ (List.getElem_mem hk.starts1))
  have HSm := Lib.hid hsm; clear hsm hk
  have HC4 := Lib.hid hc4; clear hc4 hc0
  generalize hNN : t.legs.l.length = N at *
  have HNN := Lib.hid hNN
  obtain ⟨i0, hi, hz0, hz1, hz2⟩ := info_parts info3
  go_enter Tryz.func85, Tryz.ntmps85
  go_wp2_with fail
  have hfl := floors_any p t L w HW.out HST.out HK.out
  rw [hNN] at hfl
  clear hNN
  refine hfl.mono ?_
  rintro e w1 ⟨B, rows, rfl, hT, hrl, hx1⟩
  have HRl := Lib.hid hrl
  have hrn := rows_len hrl
  have HT := Lib.hid hT; clear hT hfl
  have HX1 := Lib.hid hx1; clear hx1
  have hrk := rows_get hrl N (by omega)
  have h0 : w1.cell? ⟨B, N, none⟩ = some (.slice (some ⟨rows[N].b, 0, none⟩) t.P rows[N].c) := by
    have := HT.out.hd.cell N (by omega); rw [this]; simp [RW.v, hrk]
  have c4 := HX1.out.cell HC4.out
  have hrow := (HT.out.row rows[N] (List.getElem_mem _)).1
  have HSl : Hid (IsSl 1 num w1 ⟨some ⟨rows[N].b, 0, none⟩, rows[N].c, (List.range t.P).map (flr L t.P t.starts.l N)⟩) := by
    rw [hrk] at hrow
    refine ⟨hrow.le, by simp; omega, .inr ⟨rows[N].b, 0, rfl, fun i hi j hj => ?_⟩⟩
    obtain rfl : j = 0 := by omega
    have := hrow.cell i hi
    simpa [num] using this
  have HLen : Hid (rows.length = N + 1) := hrn
  generalize hrN : rows[N] = rN at *
  clear hrow hrk hrl hrN
  have n0 : (0 : Int) ≤ N := by omega
  have n1 : (N : Int) < (N : Int) + 1 := by omega
  go_wp2_with fail
  refine (min_any _ t.P _ ((List.range t.P).map (flr L t.P t.starts.l N)) w1 (by simp) (by simp; omega) HSl.out).mono ?_
  rintro e w' ⟨⟨m, rfl, hm⟩, rfl⟩
  have hmm := Lib.hid (leastF_of L t.P t.starts.l N m hP1 hm)
  have HMm := Lib.hid hm; clear hm
  go_wp2_with fail
  refine (index_any _ t.P _ ((List.range t.P).map (flr L t.P t.starts.l N)) m w1 (by simp) HSl.out).mono ?_
  rintro e w' ⟨⟨r, rfl, hr⟩, rfl⟩
  obtain ⟨g, hgP, rfl, hg1, hg2⟩ : ∃ g : Nat, g < t.P ∧ r = g ∧ flr L t.P t.starts.l N g = m ∧ ∀ j, j < g → flr L t.P t.starts.l N j ≠ m := by
    rcases hr with ⟨_, h2⟩ | ⟨i, hi, rfl, h3, h4⟩
    · exact absurd HMm.out.1 h2
    · simp only [List.length_map, List.length_range] at hi
      exact ⟨i, hi, rfl, by simpa using h3, fun j hj => by have := h4 j hj; simpa using this⟩
  have hm10 : m ≤ 10 := by
    obtain ⟨g', hg', h'⟩ := HSm.out N
    have := HMm.out.2 (flr L t.P t.starts.l N g') (List.mem_map.2 ⟨g', by simpa using hg', rfl⟩)
    omega
  have hY : Hid (yl L t.P t.starts.l N g = yieldL L t.P t.starts.l N) := by
    show _ = _; unfold yieldL; rw [firstF_of L t.P t.starts.l N g hgP (hg1.trans hmm.out) (fun j hj => by rw [← hmm.out]; exact hg2 j hj)]
  have hg10 : Hid (flr L t.P t.starts.l N g ≤ 10) := by show _ ≤ _; omega
  clear HMm hr hmm hg1 hg2 hm10 h0
  go_wp2_with fail
  clear c4
  clear n0 n1 HSl
  obtain ⟨Y, hYY⟩ : ∃ Y, yieldL L t.P t.starts.l N = Y := ⟨_, rfl⟩
  rw [hYY] at hY
  have HYY := Lib.hid hYY; clear hYY
  go_loopw [6, 7, 8] (fun pl lg lv wr => ∃ (r g : Nat) (a' : Option Addr) (c' : Nat) (acc : List Nat), r ≤ N ∧ pl = .int .i64 (g : Int) ∧ lg = .slice a' acc.length c' ∧ lv = .int .i64 ((r : Int) - 1) ∧ g < t.P ∧ Hid (flr L t.P t.starts.l r g ≤ 10) ∧ acc.length + r ≤ N ∧ Hid (yl L t.P t.starts.l r g ++ acc.reverse = Y) ∧
    Hid (wr.ownsRow w1.heap.size 3 1 (.slice a' acc.length c') acc.length (nums acc)) ∧ Hid (Ext w1 wr)) (fun _ _ lv _ => (intOf lv + 1).toNat)
  case atStart => exact ⟨N, g, none, 0, [], Nat.le_refl _, rfl, rfl, by simp, hgP, hg10, by simp, by simpa [Hid] using hY, World.ownsRow_nil _ _ _ _, Ext.refl _⟩
  case round =>
    clear hY hg10 hgP
    obtain ⟨wo, rfl⟩ : ∃ wo : World, wo = wr := ⟨_, rfl⟩
    obtain ⟨r, g, a', c', acc, hrN, rfl, rfl, rfl, hgP, hg10, hacc, hY, HO, HX⟩ := hrel
    cases r with
    | zero =>
      have hce : acc.length ≤ 1000 := by omega
      go_wp2_with fail
      refine (rev_own w1.heap.size a' c' acc wo HO.out hce).mono ?_
      rintro e w3 ⟨rfl, ho3, hb3⟩
      have HO3 := Lib.hid ho3; clear ho3
      have HX3 : Hid (Ext w w3) := HX1.out.trans (Ext.of (Below.trans HX.out hb3))
      clear hb3
      have hrl : acc.reverse.length = acc.length := List.length_reverse
      have HRL := Lib.hid hrl; clear hrl
      go_wp2
      go_ret
      have hYe : acc.reverse = Y := by have := hY.out; simpa [yl] using this
      rw [HYY.out, ← hYe]
      refine ⟨a', c', by rw [HRL.out]; rfl, ?_, HX3.out⟩
      have := own_sl (l := acc.reverse) (by rw [HRL.out]; exact HO3.out) (by rw [HRL.out]; omega)
      exact this
    | succ q =>
      have eq1 : (((q + 1 : Nat) : Int) - 1) = (q : Int) := by omega
      rw [eq1]
      clear eq1
      obtain ⟨k1, k2, k3⟩ := fromOf_ok L t.P t.starts.l q g hg10.out
      have hys := yl_succ L t.P t.starts.l q g
      have hq10 : q < 10 := by omega
      have dq : decide ((0 : Int) ≤ (q : Int)) = true := decide_eq_true (by omega)
      have hrk := rows_get HRl.out q (by have := HLen.out; omega)
      have hrk1 := rows_get HRl.out (q + 1) (by have := HLen.out; omega)
      have HRk : Hid (rows[q]'(by have := HLen.out; omega) ∈ rows ∧ rows[q + 1]'(by have := HLen.out; omega) ∈ rows) := ⟨List.getElem_mem _, List.getElem_mem _⟩
      have b0 : w1.cell? ⟨B, q, none⟩ = some (.slice (some ⟨(rows[q]'(by have := HLen.out; omega)).b, 0, none⟩) t.P (rows[q]'(by have := HLen.out; omega)).c) := by
        have := HT.out.hd.cell q (by have := HLen.out; omega); rw [this]; simp [RW.v, hrk]
      have b1 : w1.cell? ⟨B, q + 1, none⟩ = some (.slice (some ⟨(rows[q + 1]'(by have := HLen.out; omega)).b, 0, none⟩) t.P (rows[q + 1]'(by have := HLen.out; omega)).c) := by
        have := HT.out.hd.cell (q + 1) (by have := HLen.out; omega); rw [this]; simp [RW.v, hrk1]
      generalize rows[q]'(by have := HLen.out; omega) = r0 at *
      generalize rows[q + 1]'(by have := HLen.out; omega) = r1 at *
      have HB : Hid (w1.cell? ⟨B, q, none⟩ = some (.slice (some ⟨r0.b, 0, none⟩) t.P r0.c) ∧ w1.cell? ⟨B, q + 1, none⟩ = some (.slice (some ⟨r1.b, 0, none⟩) t.P r1.c)) := ⟨b0, b1⟩
      have HE0 : Hid (∀ f, f < t.P → w1.cell? ⟨r0.b, f, none⟩ = some (.int .i64 (flr L t.P t.starts.l q f : Int))) := fun f hf => by
        have h := (HT.out.row r0 HRk.out.1).1.cell f (by rw [hrk]; simpa using hf)
        rw [h]; simp [hrk]
      have HE1 : Hid (w1.cell? ⟨r1.b, g, none⟩ = some (.int .i64 (flr L t.P t.starts.l (q + 1) g : Int))) := by
        have h := (HT.out.row r1 HRk.out.2).1.cell g (by rw [hrk1]; simpa using hgP)
        show _ = _
        rw [h]; simp [hrk1]
      clear b0 b1 hrk hrk1
      generalize hF : fromOf L t.P t.starts.l q g = F at *
      have HF := Lib.hid hF; clear hF
      have HYs := Lib.hid hys; clear hys
      have HK2 := Lib.hid k2; clear k2
      have HK3 := Lib.hid k3; clear k3
      go_wp2_with fail
      go_loopw [9] (fun fr wr => ∃ f : Nat, f ≤ F ∧ fr = .int .i64 (f : Int) ∧ Hid (Ext wo wr)) (fun fr _ => F - (intOf fr).toNat)
      case atStart => exact ⟨0, Nat.zero_le _, rfl, Ext.refl _⟩
      case round =>
        obtain ⟨wx, rfl⟩ : ∃ wx : World, wx = wr := ⟨_, rfl⟩
        obtain ⟨f, hf, rfl, HX2⟩ := hrel
        have EY : Hid (Ext w1 wx) := HX.out.trans HX2.out
        have b0 := EY.out.cell HB.out.1
        have b1 := EY.out.cell HB.out.2
        have e0 := EY.out.cell (HE0.out f (by omega))
        have e1 := EY.out.cell HE1.out
        have HPc := fun n => price_any p t L q f g (wx.drewN n) (HW.out.ext ((HX1.out.trans EY.out).drewN n)) (by omega) (by omega) (by omega)
        have HPC := Lib.hid HPc; clear HPc
        have y1 := flr_le L t.P t.starts.l q f
        have y2 := flr_le L t.P t.starts.l (q + 1) g
        have hcost : cost (L q f g) ≤ 1 := by unfold cost; split <;> omega
        have j1 : (0 : Int) ≤ (q : Int) + 1 := by omega
        have j2 : (q : Int) + 1 < (N : Int) + 1 := by omega
        have j3 : (0 : Int) ≤ g := by omega
        have j4 : (g : Int) < (t.P : Int) := by omega
        have j5 : (0 : Int) ≤ (q : Int) := by omega
        have j6 : (q : Int) < (N : Int) + 1 := by omega
        have j7 : (0 : Int) ≤ f := by omega
        have j8 : (f : Int) < (t.P : Int) := by omega
        by_cases hlt : f < F
        · have hne := HK3.out f hlt
          generalize flr L t.P t.starts.l q f = v1 at *
          generalize flr L t.P t.starts.l (q + 1) g = v2 at *
          generalize cost (L q f g) = v3 at *
          have hd : ((v1 : Int) + (v3 : Int) != (v2 : Int)) = true := by rw [bne_iff_ne]; omega
          go_wp2_with fail
          go_quiet ((go_at_call 94; exact quiet_same (HPC.out _)))
          go_wp2
          go_roundw
          case rel => exact ⟨f + 1, by omega, by go_num, HX2.out.drewN _⟩
          case measure => simp [intOf]; omega
        · have hfe : f = F := by omega
          subst hfe
          have heq := HK2.out
          have hyl : cost (L q f g) = if L q f g then 0 else 1 := rfl
          have HYL := Lib.hid hyl; clear hyl
          have hf10 : flr L t.P t.starts.l q f ≤ 10 := by have := hg10.out; omega
          have HF10 := Lib.hid hf10; clear hf10
          generalize hv1 : flr L t.P t.starts.l q f = v1 at *
          have HV1 := Lib.hid hv1; clear hv1
          generalize flr L t.P t.starts.l (q + 1) g = v2 at *
          generalize cost (L q f g) = v3 at *
          have hd : ((v1 : Int) + (v3 : Int) != (v2 : Int)) = false := by rw [bne_eq_false_iff_eq]; omega
          clear heq
          go_wp2_with fail
          go_quiet ((go_at_call 94; exact quiet_same (HPC.out _)))
          go_wp2_with fail
          have EQ : Hid (Ext wo (wx.drewN nq)) := HX2.out.drewN _
          have EZ : Hid (Ext w1 (wx.drewN nq)) := EY.out.drewN _
          generalize wx.drewN nq = wz at *
          clear b0 b1 e0 e1 HX2 HPC
          have HO2 := Lib.hid (own_ext HO.out EQ.out)
          have HCL := Lib.hid (canLead_any p t L q f g wz (HW.out.ext (HX1.out.trans EZ.out)) hq10 (by omega) (by omega))
          cases hb : L q f g
          · have hv3 : v3 = 1 := by have := HYL.out; rw [hb] at this; simpa using this
            subst hv3
            have HYf : Hid (yl L t.P t.starts.l q f ++ (acc ++ [q]).reverse = Y) := by
              show _ = _
              have h1 := hY.out
              rw [HYs.out, hb] at h1
              rw [← h1]; simp
            rw [hb] at HCL
            clear hb
            refine HCL.out.mono ?_
            rintro e w' ⟨rfl, rfl⟩
            have hnw := new_cells wz (nums [q]) 3
            have HN := Lib.hid hnw; clear hnw
            have hb6 : w1.heap.size ≤ wz.heap.size + 1 := by have := EZ.out.size; omega
            have hm6 : acc.length + 1 ≤ maxLen := by unfold maxLen; omega
            go_wp2_with (at_builtin; go_must (refine wpList_append_own _ rfl _ _ 25 rfl w1.heap.size 3 i0 (.int .i64 0) 1 8 Tryz.underlying25 hi hz0 hz1 hz2 rfl (by decide) _ acc.length (nums acc) rfl (own_ext HO2.out ((Ext.refl wz).alloc _)) ⟨wz.heap.size, 0, none⟩ 1 1 (nums [q]) rfl rfl HN.out (nums_one [q]) hm6 (by omega) (by simp; omega) ?_); intro v' w3 hown hgrow _)
            obtain ⟨a3, c3, rfl⟩ := own_form hown
            have hx3 : Ext w1 w3 := ext_grown_of (EZ.out.alloc _) hgrow (fun i hi => own_lt HO2.out i hi)
            have HX3 := Lib.hid hx3; clear hx3 hgrow
            rw [← nums_append, show acc.length + 1 = (acc ++ [q]).length by simp] at hown
            have HO3 := Lib.hid hown; clear hown
            have hlen3 : (acc ++ [q]).length = acc.length + 1 := by simp
            generalize acc ++ [q] = acc3 at *
            rw [← hlen3]
            have HLe := Lib.hid hlen3; clear hlen3
            go_wp2
            go_roundw
            case rel => exact ⟨q, f, a3, c3, acc3, by omega, rfl, rfl, rfl, by omega, (by show _ ≤ _; rw [HV1.out]; exact HF10.out), by rw [HLe.out]; omega, HYf, HO3, HX3⟩
            case measure => simp [intOf]
          · have hv3 : v3 = 0 := by have := HYL.out; rw [hb] at this; simpa using this
            subst hv3
            have HYf : Hid (yl L t.P t.starts.l q f ++ acc.reverse = Y) := by
              show _ = _
              have h1 := hY.out
              rw [HYs.out, hb] at h1
              rw [← h1]; simp
            rw [hb] at HCL
            clear hb
            refine HCL.out.mono ?_
            rintro e w' ⟨rfl, rfl⟩
            go_wp2
            go_roundw
            case rel => exact ⟨q, f, a', c', acc, by omega, rfl, rfl, rfl, by omega, (by show _ ≤ _; rw [HV1.out]; exact HF10.out), by omega, HYf, HO2, EZ⟩
            case measure => simp [intOf]
end Go.Proofs.YtopjjcgmcieboaaGreatDoor
