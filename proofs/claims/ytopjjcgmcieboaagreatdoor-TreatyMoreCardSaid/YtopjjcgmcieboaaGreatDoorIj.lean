/-
  Breaks of package treaty returns the legs that a line does not keep, in new memory, and turns nothing that was there. The treaty, the reading and the line must lie in memory as told and be valid, and the line must begin at a start.
-/
import Derived.Test.YtopjjcgmcieboaaGreatDoorIi
import Derived.Test.YtopjjcgmcieboaaGreatDoorFb
namespace Go.Proofs.YtopjjcgmcieboaaGreatDoor
open Go.RowKit

/-- The legs, of the first so many, that a line does not keep. -/
def brkTo (L : Nat → Nat → Nat → Bool) (line : List Nat) (n : Nat) : List Nat := (List.range n).filter fun k => !L k ((line[k]?).getD 0) ((line[k + 1]?).getD 0)
theorem brkTo_succ (L : Nat → Nat → Nat → Bool) (line : List Nat) (n : Nat) : brkTo L line (n + 1) = if L n ((line[n]?).getD 0) ((line[n + 1]?).getD 0) then brkTo L line n else brkTo L line n ++ [n] := by
  unfold brkTo
  rw [List.range_succ, List.filter_append]
  cases h : L n ((line[n]?).getD 0) ((line[n + 1]?).getD 0) <;> simp [h]
theorem brkTo_le (L : Nat → Nat → Nat → Bool) (line : List Nat) (n : Nat) : (brkTo L line n).length ≤ n := by
  unfold brkTo; have := List.length_filter_le (fun k => !L k ((line[k]?).getD 0) ((line[k + 1]?).getD 0)) (List.range n); simpa using this

set_option maxRecDepth 100000 in
set_option maxHeartbeats 2000000 in
theorem Breaks_ok (t : TV) (r ln : SL Nat) (w : World) (ht : IsT w t) (hk : OkT t) (hr : IsSl 1 num w r) (hR : RdOk t r.l) (hl : IsSl 1 num w ln) (hll : ln.l.length = t.legs.l.length + 1) (hlt : ∀ x ∈ ln.l, x < t.P) (hs0 : (ln.l[0]?).getD 0 ∈ t.starts.l) :
    Calls Tryz.prog 13 #[t.v, .slice r.a r.l.length r.c, .slice ln.a ln.l.length ln.c] w fun e w' => ∃ (a : Option Addr) (c : Nat), e = .returned (.tuple #[.slice a (brkTo (leadsOf t r.l) ln.l t.legs.l.length).length c, .int .i64 0]) ∧ IsSl 1 num w' ⟨a, c, brkTo (leadsOf t r.l) ln.l t.legs.l.length⟩ ∧ Ext w w' := by
  have HT := Lib.hid ht; clear ht
  have HK := Lib.hid hk; clear hk
  have HR := Lib.hid hr; clear hr
  have HRd := Lib.hid hR; clear hR
  obtain ⟨la, lc, ll⟩ := ln
  dsimp only at hll hlt hs0
  obtain ⟨bl, ol, hla, hlc⟩ := hl.2.2.resolve_left (by show ¬ ll.length = 0; omega)
  dsimp only at hla hlc
  subst hla
  have HL := Lib.hid hl
  have HLl := Lib.hid hll
  have HLt' := Lib.hid hlt; clear hlt
  have hN10 := HK.out.legs
  have hS0 : ∃ x, ll[0]? = some x ∧ x ∈ t.starts.l ∧ x < 12 := by
    have h0 : 0 < ll.length := by omega
    refine ⟨ll[0], by simp [h0], by simpa [h0] using hs0, ?_⟩
    have := HLt'.out _ (List.getElem_mem h0); have := HK.out.p2; omega
  obtain ⟨x0, hx0, hx0s, hx12⟩ := hS0
  have hcl : ∀ k, k ≤ t.legs.l.length → w.cell? ⟨bl, ol + k, none⟩ = some (.int .i64 ((ll[k]?).getD 0 : Nat)) := fun k hk => by
    have h1 : k < ll.length := by omega
    have := hlc k h1 0 (by omega)
    rw [List.getElem?_eq_getElem h1]; simpa [num] using this
  have HCl := Lib.hid hcl; clear hcl hlc hs0 hl
  have HX0 : Hid (ll[0]? = some x0 ∧ x0 ∈ t.starts.l ∧ x0 < 12) := ⟨hx0, hx0s, hx12⟩
  clear hx0 hx0s hx12 hll
  obtain ⟨i0, hi, hz0, hz1, hz2⟩ := info_parts info3
  go_enter Tryz.func13, Tryz.ntmps13
  go_wp2_with fail
  refine (checkReading_ok t r _ (HT.out.ext ((Ext.refl w).alloc _)) HK.out (HR.out.ext ((Ext.refl w).alloc _)) HRd.out).mono ?_
  rintro e w1 ⟨rfl, hx1⟩
  have HTB1 : Hid (TBox w1 w.heap.size t) := hx1.block (World.alloc_heap_new w _)
  have HX1 : Hid (Ext w w1) := ((Ext.refl w).alloc _).trans hx1
  clear hx1
  have c0 := cell_at HTB1.out 0
  have c1 := cell_at HTB1.out 1
  have c2 := cell_at HTB1.out 2
  have c3 := cell_at HTB1.out 3
  have c4 := cell_at HTB1.out 4
  simp only [List.getElem?_toArray, List.getElem?_cons_succ, List.getElem?_cons_zero] at c0 c1 c2 c3 c4
  go_wp2_with fail
  clear c0 c1 c2 c3 c4
  refine (checkLine_ok t ⟨some ⟨bl, ol, none⟩, lc, ll⟩ w1 HK.out.p2 HK.out.legs (HL.out.ext HX1.out) HLl.out HLt'.out).mono ?_
  rintro e w2 ⟨rfl, hx2⟩
  have HX2 : Hid (Ext w w2) := HX1.out.trans hx2
  have HTB2 : Hid (TBox w2 w.heap.size t) := hx2.block HTB1.out
  clear hx2 HX1 HTB1
  have c3 := cell_at HTB2.out 3
  simp only [List.getElem?_toArray, List.getElem?_cons_succ, List.getElem?_cons_zero] at c3
  have cx : w2.cell? ⟨bl, ol, none⟩ = some (.int .i64 (x0 : Int)) := by
    have := HX2.out.cell (HCl.out 0 (Nat.zero_le _))
    rw [HX0.out.1] at this; simpa using this
  have hll1 : (0 : Int) < (ll.length : Int) := by have := HLl.out; omega
  have HCt := Lib.hid (fun n => contains_any t.starts.a _ t.starts.c t.starts.l x0 (w2.drewN n) rfl ((HT.out.ext HX2.out).starts.ext ((Ext.refl w2).drewN n)))
  have HCc : Hid (t.starts.l.contains x0 = true) := by show _ = _; simpa using HX0.out.2.1
  rw [HCc.out] at HCt
  go_wp2_with fail
  go_quiet ((go_at_call 44; exact quiet_same (HCt.out _)))
  have hdw : Ext w2 (w2.drewN nq) := (Ext.refl w2).drewN nq
  have HX3 : Hid (Ext w (w2.drewN nq)) := HX2.out.trans hdw
  have HTB3 : Hid (TBox (w2.drewN nq) w.heap.size t) := hdw.block HTB2.out
  clear hdw HX2 HTB2 HCt HCc c3 cx
  generalize w2.drewN nq = w3 at *
  have c0 := cell_at HTB3.out 0
  have c1 := cell_at HTB3.out 1
  have c2 := cell_at HTB3.out 2
  have c3 := cell_at HTB3.out 3
  have c4 := cell_at HTB3.out 4
  simp only [List.getElem?_toArray, List.getElem?_cons_succ, List.getElem?_cons_zero] at c0 c1 c2 c3 c4
  go_wp2_with fail
  clear c0 c1 c2 c3 c4
  refine (read_any t r w3 (HT.out.ext HX3.out) HK.out (HR.out.ext HX3.out) HRd.out).mono ?_
  rintro e w4 ⟨p, rfl, hw4, hx4⟩
  have HW4 := Lib.hid hw4
  have HX4 : Hid (Ext w w4) := HX3.out.trans hx4
  have HTB4 : Hid (TBox w4 w.heap.size t) := hx4.block HTB3.out
  clear hw4 hx4 HX3 HTB3
  have c4 := cell_at HTB4.out 4
  simp only [List.getElem?_toArray, List.getElem?_cons_succ, List.getElem?_cons_zero] at c4
  go_wp2_with fail
  clear c4
  go_loopw [11, 39] (fun lg i wr => ∃ (k : Nat) (a' : Option Addr) (c' : Nat), k ≤ t.legs.l.length ∧ lg = .slice a' (brkTo (leadsOf t r.l) ll k).length c' ∧ i = .int .i64 (k : Int) ∧ Hid (wr.ownsRow w4.heap.size 3 1 (.slice a' (brkTo (leadsOf t r.l) ll k).length c') (brkTo (leadsOf t r.l) ll k).length (nums (brkTo (leadsOf t r.l) ll k))) ∧ Hid (Ext w4 wr)) (fun _ i _ => t.legs.l.length - (intOf i).toNat)
  case atStart => exact ⟨0, none, 0, Nat.zero_le _, rfl, rfl, World.ownsRow_nil _ _ _ _, Ext.refl _⟩
  case round =>
    obtain ⟨wo, rfl⟩ : ∃ wo : World, wo = wr := ⟨_, rfl⟩
    obtain ⟨k, a', c', hk, rfl, rfl, HO, HX⟩ := hrel
    by_cases hlt : k < t.legs.l.length
    · have dk : decide ((k : Int) < (t.legs.l.length : Int)) = true := decide_eq_true (by omega)
      have EX := HX4.out.trans HX.out
      have a0 := EX.cell (HCl.out k (by omega))
      have a1 := EX.cell (HCl.out (k + 1) (by omega))
      have hl0 : (ll[k]?).getD 0 < 12 := by
        have h1 : k < ll.length := by have := HLl.out; omega
        rw [List.getElem?_eq_getElem h1]; have := HLt'.out _ (List.getElem_mem h1); have := HK.out.p2; simp only [Option.getD_some]; omega
      have hl1 : (ll[k + 1]?).getD 0 < 12 := by
        have h1 : k + 1 < ll.length := by have := HLl.out; omega
        rw [List.getElem?_eq_getElem h1]; have := HLt'.out _ (List.getElem_mem h1); have := HK.out.p2; simp only [Option.getD_some]; omega
      have HC := Lib.hid (fun n => canLead_any p t (leadsOf t r.l) k ((ll[k]?).getD 0) ((ll[k + 1]?).getD 0) (wo.drewN n) ((HW4.out.ext HX.out).ext ((Ext.refl wo).drewN n)) (by omega) hl0 hl1)
      have hll2 : (k : Int) + 1 < (ll.length : Int) := by have := HLl.out; omega
      have k0 : (0 : Int) ≤ k := by omega
      have k1 : (k : Int) < (ll.length : Int) := by omega
      have k2 : (k : Int) < 10 := by omega
      have k3 : (0 : Int) ≤ (k : Int) + 1 := by omega
      have hwr : IntKind.i64.wrap ((k : Int) + 1) = (k : Int) + 1 := IntWalk.i64_in _ (by omega)
      have htn : ((k : Int) + 1).toNat = k + 1 := by omega
      have HBs := Lib.hid (brkTo_succ (leadsOf t r.l) ll k)
      have hble := brkTo_le (leadsOf t r.l) ll k
      generalize (ll[k]?).getD 0 = f at *
      generalize (ll[k + 1]?).getD 0 = g at *
      have f0 : (0 : Int) ≤ f := by omega
      rcases hC : leadsOf t r.l k f g with _ | _
      · rw [hC] at HC HBs
        have HBt : Hid (brkTo (leadsOf t r.l) ll (k + 1) = brkTo (leadsOf t r.l) ll k ++ [k]) := by have := HBs.out; show _ = _; simpa using this
        clear hC HBs
        go_wp2_with fail
        go_quiet ((go_at_call 45; exact quiet_same (HC.out _)))
        have EZ : Hid (Ext w4 (wo.drewN nq)) := HX.out.drewN nq
        have HO2 : Hid ((wo.drewN nq).ownsRow w4.heap.size 3 1 (.slice a' (brkTo (leadsOf t r.l) ll k).length c') (brkTo (leadsOf t r.l) ll k).length (nums (brkTo (leadsOf t r.l) ll k))) := own_ext HO.out ((Ext.refl wo).drewN nq)
        clear HO HX HC a0 a1 EX
        generalize wo.drewN nq = wz at *
        generalize brkTo (leadsOf t r.l) ll k = acc at *
        have hnw := new_cells wz (nums [k]) 3
        have HN := Lib.hid hnw; clear hnw
        have hb6 : w4.heap.size ≤ wz.heap.size + 1 := by have := EZ.out.size; omega
        have hm6 : acc.length + 1 ≤ maxLen := by unfold maxLen; omega
        go_wp2_with (at_builtin; go_must (refine wpList_append_own _ rfl _ _ 25 rfl w4.heap.size 3 i0 (.int .i64 0) 1 8 Tryz.underlying25 hi hz0 hz1 hz2 rfl (by decide) _ acc.length (nums acc) rfl (own_ext HO2.out ((Ext.refl wz).alloc _)) ⟨wz.heap.size, 0, none⟩ 1 1 (nums [k]) rfl rfl HN.out (nums_one [k]) hm6 (by omega) (by simp; omega) ?_); intro v' w5 hown hgrow _)
        obtain ⟨a3, c3, rfl⟩ := own_form hown
        have hx3 : Ext w4 w5 := ext_grown_of (EZ.out.alloc _) hgrow (fun i hi => own_lt HO2.out i hi)
        have HX3 := Lib.hid hx3; clear hx3 hgrow
        rw [← nums_append, show acc.length + 1 = (acc ++ [k]).length by simp] at hown
        have HO3 := Lib.hid hown; clear hown
        have hlen3 : (acc ++ [k]).length = acc.length + 1 := by simp
        rw [← hlen3]
        have HLe := Lib.hid hlen3; clear hlen3
        go_wp2
        go_roundw
        case rel => exact ⟨k + 1, a3, c3, by omega, by rw [HBt.out, HLe.out], by go_num, by rw [HBt.out]; exact HO3, HX3⟩
        case measure => simp [intOf]; omega
      · rw [hC] at HC HBs
        have HBt : Hid (brkTo (leadsOf t r.l) ll (k + 1) = brkTo (leadsOf t r.l) ll k) := by have := HBs.out; show _ = _; simpa using this
        clear hC HBs
        go_wp2_with fail
        go_quiet ((go_at_call 45; exact quiet_same (HC.out _)))
        go_wp2
        go_roundw
        case rel => exact ⟨k + 1, a', c', by omega, by rw [HBt.out], by go_num, by rw [HBt.out]; exact own_ext HO.out ((Ext.refl wo).drewN nq), HX.out.drewN nq⟩
        case measure => simp [intOf]; omega
    · have hke : k = t.legs.l.length := by omega
      subst hke
      have hble := brkTo_le (leadsOf t r.l) ll t.legs.l.length
      go_wp2
      go_ret2
      exact ⟨a', c', rfl, own_sl HO.out (by omega), HX4.out.trans HX.out⟩
end Go.Proofs.YtopjjcgmcieboaaGreatDoor
