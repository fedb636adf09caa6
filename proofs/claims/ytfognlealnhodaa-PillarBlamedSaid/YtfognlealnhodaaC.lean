/-
  A profile in memory, and at work; need of package pillar returns the least Tall with which a place does not hide two others from each other, and turns nothing that was there. The profile must lie in memory as told and be right.
-/
import Derived.Test.YtfognlealnhodaaB
namespace Go.Proofs.Ytfognlealnhodaa
open Go.RowKit

/-- A profile as it lies in memory. -/
structure PV where
  at' : SL Nat
  gr : SL (Nat × Nat)
  T : Nat
  lo : Nat
  hi : Nat
abbrev PV.p (v : PV) : Prof := ⟨v.at'.l, v.gr.l, v.T, v.lo, v.hi⟩
/-- The profile as a value. -/
abbrev PV.v (v : PV) : Value := .agg #[.slice v.at'.a v.at'.l.length v.at'.c, .slice v.gr.a v.gr.l.length v.gr.c, .int .i64 (v.T : Int), .int .i64 (v.lo : Int), .int .i64 (v.hi : Int)]
structure IsP (w : World) (v : PV) : Prop where
  at' : IsSl 1 num w v.at'
  gr : IsSl 2 spC w v.gr
theorem IsP.ext {w w' : World} {v : PV} (h : IsP w v) (k : Ext w w') : IsP w' v := ⟨h.at'.ext k, h.gr.ext k⟩

/-- The number of a function that takes an end. -/
abbrev endN (hi : Bool) : Nat := if hi then 74 else 73

theorem lowest_any (x y : Int) (w : World) : Calls Try.prog 73 #[.agg #[.int .i64 x, .int .i64 y]] w fun e w' => e = .returned (.int .i64 x) ∧ Ext w w' := by
  go_enter Try.func73, Try.ntmps73
  go_wp2
  go_ret
  exact ⟨rfl, (Ext.refl w).alloc _⟩
theorem highest_any (x y : Int) (w : World) : Calls Try.prog 74 #[.agg #[.int .i64 x, .int .i64 y]] w fun e w' => e = .returned (.int .i64 y) ∧ Ext w w' := by
  go_enter Try.func74, Try.ntmps74
  go_wp2
  go_ret
  exact ⟨rfl, (Ext.refl w).alloc _⟩

/-- A profile at work, but for its sights: its seven first cells. -/
structure WH (w : World) (B : Nat) (d : Bool) (v : PV) : Prop where
  is : IsP w v
  c0 : w.cell? ⟨B, 0, none⟩ = some (.slice v.at'.a v.at'.l.length v.at'.c)
  c1 : w.cell? ⟨B, 1, none⟩ = some (.slice v.gr.a v.gr.l.length v.gr.c)
  c2 : w.cell? ⟨B, 2, none⟩ = some (.int .i64 (v.T : Int))
  c3 : w.cell? ⟨B, 3, none⟩ = some (.int .i64 (v.lo : Int))
  c4 : w.cell? ⟨B, 4, none⟩ = some (.int .i64 (v.hi : Int))
  c5 : w.cell? ⟨B, 5, none⟩ = some (.func (.func (endN !d)) #[] #[])
  c6 : w.cell? ⟨B, 6, none⟩ = some (.func (.func (endN d)) #[] #[])
theorem WH.ext {w w' : World} {B : Nat} {d : Bool} {v : PV} (h : WH w B d v) (k : Ext w w') : WH w' B d v :=
  ⟨h.is.ext k, k.cell h.c0, k.cell h.c1, k.cell h.c2, k.cell h.c3, k.cell h.c4, k.cell h.c5, k.cell h.c6⟩

/-- The cells of one place. -/
theorem IsP.place {w : World} {v : PV} (h : IsP w v) (hk : OkP v.p) : ∃ ba oa bg og, v.at'.a = some ⟨ba, oa, none⟩ ∧ v.gr.a = some ⟨bg, og, none⟩ ∧
    (∀ i, i < v.at'.l.length → w.cell? ⟨ba, oa + i, none⟩ = some (.int .i64 (v.p.a i : Int))) ∧
    (∀ i, i < v.at'.l.length → w.cell? ⟨bg, og + i * 2, none⟩ = some (.int .i64 ((v.p.g i).1 : Int)) ∧ w.cell? ⟨bg, og + i * 2 + 1, none⟩ = some (.int .i64 ((v.p.g i).2 : Int))) := by
  have hn := hk.n1
  have hgl := hk.gl
  dsimp only at hn hgl
  obtain ⟨ba, oa, ha, hac⟩ := h.at'.2.2.resolve_left (by omega)
  obtain ⟨bg, og, hg, hgc⟩ := h.gr.2.2.resolve_left (by omega)
  refine ⟨ba, oa, bg, og, ha, hg, fun i hi => ?_, fun i hi => ⟨?_, ?_⟩⟩
  · have := hac i hi 0 (by omega)
    rw [Prof.a_eq (p := v.p) hi]
    simpa [num] using this
  · have := hgc i (by omega) 0 (by omega)
    rw [Prof.g_eq (p := v.p) (by show i < v.gr.l.length; omega)]
    simpa [spC] using this
  · have := hgc i (by omega) 1 (by omega)
    rw [Prof.g_eq (p := v.p) (by show i < v.gr.l.length; omega)]
    simpa [spC] using this

set_option maxRecDepth 100000 in
set_option maxHeartbeats 2000000 in
theorem need_dark (B : Nat) (v : PV) (i k j : Nat) (w : World) (hw : WH w B true v) (hk : OkP v.p) (hik : i < k) (hkj : k < j) (hj : j < v.at'.l.length) :
    Calls Try.prog 78 #[.pointer (some ⟨B, 0, none⟩), .int .i64 (i : Int), .int .i64 (k : Int), .int .i64 (j : Int)] w fun e w' => e = .returned (.int .i64 (needF true v.p i k j : Int)) ∧ Ext w w' := by
  obtain ⟨ba, oa, bg, og, ha, hg, hca, hcg⟩ := hw.is.place hk
  obtain ⟨_, c0, c1, c2, c3, c4, c5, c6⟩ := hw
  have ai := hca i (by omega)
  have ak := hca k (by omega)
  have aj := hca j hj
  obtain ⟨gi0, gi1⟩ := hcg i (by omega)
  obtain ⟨gk0, gk1⟩ := hcg k (by omega)
  obtain ⟨gj0, gj1⟩ := hcg j hj
  have b1 := hk.a_lt hik (by show k < v.at'.l.length; omega)
  have b2 := hk.a_lt hkj hj
  have b3 := hk.a_le j
  obtain ⟨b4, b4'⟩ := hk.g_le i
  obtain ⟨b5, b5'⟩ := hk.g_le k
  obtain ⟨b6, b6'⟩ := hk.g_le j
  obtain ⟨b7, b7'⟩ := hk.bb
  have b8 := hk.n2
  have b9 := hk.gl
  dsimp only at b7 b7' b8 b9
  unfold needF endOf
  simp only [Bool.not_true, if_true, Bool.false_eq_true, if_false]
  replace c5 : w.cell? ⟨B, 5, none⟩ = some (.func (.func 73) #[] #[]) := c5
  replace c6 : w.cell? ⟨B, 6, none⟩ = some (.func (.func 74) #[] #[]) := c6
  generalize v.p.a i = xi at *
  generalize v.p.a k = xk at *
  generalize v.p.a j = xj at *
  generalize v.p.g i = zi at *
  generalize v.p.g k = zk at *
  generalize v.p.g j = zj at *
  obtain ⟨zi1, zi2⟩ := zi
  obtain ⟨zk1, zk2⟩ := zk
  obtain ⟨zj1, zj2⟩ := zj
  dsimp only at *
  rw [ha] at c0
  rw [hg] at c1
  clear hca hcg ha hg hk
  obtain ⟨bb, hbb⟩ : ∃ bb : Nat, xk - xi = bb := ⟨_, rfl⟩
  obtain ⟨ff, hff⟩ : ∃ ff : Nat, xj - xk = ff := ⟨_, rfl⟩
  rw [hbb, hff]
  have q1 : (xk : Int) - (xi : Int) = (bb : Int) := by omega
  have q2 : (xj : Int) - (xk : Int) = (ff : Int) := by omega
  have q3 : (0 : Int) < (bb : Int) := by omega
  have q4 : (0 : Int) < (ff : Int) := by omega
  have q5 : (bb : Int) + (ff : Int) ≤ 20000 := by omega
  have NB := nb_of (r := zk2) (e := v.hi) (x := zi1) (y := zj1) (b := bb) (f := ff) (by omega) (by omega) (by omega) (by omega) (by omega) (by omega) (by omega)
  obtain ⟨n1, n2, n3, n4, n5⟩ := NB
  have m1 : ((v.hi : Int) * (bb : Int)) ≤ 20000000 := by omega
  have m2 : ((v.hi : Int) * (bb : Int) * (ff : Int)) ≤ 400000000000 := by have := Int.ofNat_le.2 n2; simp only [Int.natCast_mul] at this; exact this
  have m3 : ((zk2 : Int) * 10000000 + (v.hi : Int) * (bb : Int) * (ff : Int)) * ((bb : Int) + (ff : Int)) ≤ 300000000000000000 := by have := Int.ofNat_le.2 n3; simp only [Int.natCast_mul, Int.natCast_add] at this; exact this
  have m4 : ((zi1 : Int) * (ff : Int)) ≤ 20000000000 := by omega
  have m5 : ((zj1 : Int) * (bb : Int)) ≤ 20000000000 := by omega
  have p1 : 0 ≤ ((v.hi : Int) * (bb : Int)) := Int.mul_nonneg (by omega) (by omega)
  have p2 : 0 ≤ ((v.hi : Int) * (bb : Int) * (ff : Int)) := Int.mul_nonneg p1 (by omega)
  have p3 : 0 ≤ ((zk2 : Int) * 10000000 + (v.hi : Int) * (bb : Int) * (ff : Int)) * ((bb : Int) + (ff : Int)) := Int.mul_nonneg (by omega) (by omega)
  have p4 : 0 ≤ ((zi1 : Int) * (ff : Int)) := Int.mul_nonneg (by omega) (by omega)
  have p5 : 0 ≤ ((zj1 : Int) * (bb : Int)) := Int.mul_nonneg (by omega) (by omega)
  have b5i : (zk2 : Int) ≤ 1000000 := by omega
  have HG : Hid ((gnd zk2 v.hi bb ff : Nat) = ((zk2 : Int) * 10000000 + (v.hi : Int) * (bb : Int) * (ff : Int)) * ((bb : Int) + (ff : Int))) := by show _ = _; unfold gnd; simp only [Int.natCast_mul, Int.natCast_add]; rfl
  have HL : Hid ((lin zi1 zj1 bb ff : Nat) = (((zi1 : Int) * (ff : Int)) + ((zj1 : Int) * (bb : Int))) * 10000000) := by show _ = _; unfold lin; simp only [Int.natCast_mul, Int.natCast_add]; rfl
  have W1 : Hid (IntKind.i64.wrap (IntKind.i64.wrap (IntKind.i64.wrap ((zk2 : Int) * 10000000) + IntKind.i64.wrap (IntKind.i64.wrap ((v.hi : Int) * (bb : Int)) * (ff : Int))) * ((bb : Int) + (ff : Int))) = (gnd zk2 v.hi bb ff : Int)) := by
    show _ = _
    rw [HG.out, IntWalk.i64_in ((zk2 : Int) * 10000000) (by omega), IntWalk.i64_in ((v.hi : Int) * (bb : Int)) (by omega), IntWalk.i64_in ((v.hi : Int) * (bb : Int) * (ff : Int)) (by omega), IntWalk.i64_in ((zk2 : Int) * 10000000 + (v.hi : Int) * (bb : Int) * (ff : Int)) (by omega), IntWalk.i64_in _ (by omega)]
  have W2 : Hid (IntKind.i64.wrap (IntKind.i64.wrap (IntKind.i64.wrap ((zi1 : Int) * (ff : Int)) + IntKind.i64.wrap ((zj1 : Int) * (bb : Int))) * 10000000) = (lin zi1 zj1 bb ff : Int)) := by
    show _ = _
    rw [HL.out, IntWalk.i64_in ((zi1 : Int) * (ff : Int)) (by omega), IntWalk.i64_in ((zj1 : Int) * (bb : Int)) (by omega), IntWalk.i64_in ((zi1 : Int) * (ff : Int) + (zj1 : Int) * (bb : Int)) (by omega), IntWalk.i64_in _ (by omega)]
  clear n1 n2 n3 n4 n5
  have KS : Hid (∀ w', Ext w w' → w'.cell? ⟨B, 0, none⟩ = some (.slice (some ⟨ba, oa, none⟩) v.at'.l.length v.at'.c) ∧ w'.cell? ⟨B, 1, none⟩ = some (.slice (some ⟨bg, og, none⟩) v.gr.l.length v.gr.c) ∧ w'.cell? ⟨B, 3, none⟩ = some (.int .i64 (v.lo : Int)) ∧ w'.cell? ⟨B, 4, none⟩ = some (.int .i64 (v.hi : Int)) ∧
      w'.cell? ⟨B, 5, none⟩ = some (.func (.func 73) #[] #[]) ∧ w'.cell? ⟨B, 6, none⟩ = some (.func (.func 74) #[] #[]) ∧ w'.cell? ⟨bg, og + i * 2, none⟩ = some (.int .i64 (zi1 : Int)) ∧ w'.cell? ⟨bg, og + i * 2 + 1, none⟩ = some (.int .i64 (zi2 : Int)) ∧ w'.cell? ⟨bg, og + k * 2, none⟩ = some (.int .i64 (zk1 : Int)) ∧ w'.cell? ⟨bg, og + k * 2 + 1, none⟩ = some (.int .i64 (zk2 : Int)) ∧ w'.cell? ⟨bg, og + j * 2, none⟩ = some (.int .i64 (zj1 : Int)) ∧ w'.cell? ⟨bg, og + j * 2 + 1, none⟩ = some (.int .i64 (zj2 : Int))) := fun w' h =>
    ⟨h.cell c0, h.cell c1, h.cell c3, h.cell c4, h.cell c5, h.cell c6, h.cell gi0, h.cell gi1, h.cell gk0, h.cell gk1, h.cell gj0, h.cell gj1⟩
  have x1 : (0 : Int) ≤ (i : Int) := by omega
  have x2 : (i : Int) < (v.at'.l.length : Int) := by omega
  have x3 : (0 : Int) ≤ (k : Int) := by omega
  have x4 : (k : Int) < (v.at'.l.length : Int) := by omega
  have x5 : (0 : Int) ≤ (j : Int) := by omega
  have x6 : (j : Int) < (v.at'.l.length : Int) := by omega
  have x7 : v.gr.l.length = v.at'.l.length := b9
  go_enter Try.func78, Try.ntmps78
  go_wp2_with fail
  go_quiet (fail)
  clear q1 q2 hbb hff ai ak aj c0 c1 c2 c3 c4 c5 c6 gi0 gi1 gk0 gk1 gj0 gj1 b1 b2 b3
  have HE1 : Hid (Ext w (w.drewN nq)) := (Ext.refl w).drewN nq
  generalize w.drewN nq = w1 at *
  go_wp2_with fail
  obtain ⟨-, c1, c3, c4, -, c6, -, -, gk0, gk1, -, -⟩ := KS.out _ HE1.out
  go_region_held3 (fun w' => w'.cell? ⟨B, 1, none⟩ = some (.slice (some ⟨bg, og, none⟩) v.gr.l.length v.gr.c) ∧ w'.cell? ⟨B, 3, none⟩ = some (.int .i64 (v.lo : Int)) ∧ w'.cell? ⟨B, 4, none⟩ = some (.int .i64 (v.hi : Int)) ∧
      w'.cell? ⟨B, 6, none⟩ = some (.func (.func 74) #[] #[]) ∧ w'.cell? ⟨bg, og + k * 2, none⟩ = some (.int .i64 (zk1 : Int)) ∧ w'.cell? ⟨bg, og + k * 2 + 1, none⟩ = some (.int .i64 (zk2 : Int))) ((refine ⟨(KS.out _ ?_).2.1, (KS.out _ ?_).2.2.1, (KS.out _ ?_).2.2.2.1, (KS.out _ ?_).2.2.2.2.2.1, (KS.out _ ?_).2.2.2.2.2.2.2.2.1, (KS.out _ ?_).2.2.2.2.2.2.2.2.2.1⟩ <;> (repeat (first | exact HE1.out | refine Ext.trans ?_ (by assumption) | refine Ext.drew ?_ | refine Ext.alloc ?_ _))))
    (first
      | (go_at_call 74; refine (highest_any _ _ _).mono ?_; rintro e w' ⟨rfl, hx'⟩))
  rename_i wa hxa hHeld
  clear c1 c3 c4 c6 gk0 gk1 hHeld m1 m2 p1 p2 b5i
  have HE2 : Hid (Ext w w') := (HE1.out.drew.trans hxa).trans hx'
  clear hxa hx' HE1
  rw [← HG.out] at m3 p3
  go_wp2_with fail
  rw [W1.out]
  obtain ⟨-, c1, -, -, c5, -, gi0, gi1, -, -, gj0, gj1⟩ := KS.out _ HE2.out
  go_region_held3 (fun w' => w'.cell? ⟨B, 1, none⟩ = some (.slice (some ⟨bg, og, none⟩) v.gr.l.length v.gr.c) ∧
      w'.cell? ⟨B, 5, none⟩ = some (.func (.func 73) #[] #[]) ∧ w'.cell? ⟨bg, og + i * 2, none⟩ = some (.int .i64 (zi1 : Int)) ∧ w'.cell? ⟨bg, og + i * 2 + 1, none⟩ = some (.int .i64 (zi2 : Int)) ∧ w'.cell? ⟨bg, og + j * 2, none⟩ = some (.int .i64 (zj1 : Int)) ∧ w'.cell? ⟨bg, og + j * 2 + 1, none⟩ = some (.int .i64 (zj2 : Int))) ((refine ⟨(KS.out _ ?_).2.1, (KS.out _ ?_).2.2.2.2.1, (KS.out _ ?_).2.2.2.2.2.2.1, (KS.out _ ?_).2.2.2.2.2.2.2.1, (KS.out _ ?_).2.2.2.2.2.2.2.2.2.2.1, (KS.out _ ?_).2.2.2.2.2.2.2.2.2.2.2⟩ <;> (repeat (first | exact HE2.out | refine Ext.trans ?_ (by assumption) | refine Ext.drew ?_ | refine Ext.alloc ?_ _))))
    (first
      | (go_at_call 73; refine (lowest_any _ _ _).mono ?_; rintro e we ⟨rfl, hx'⟩))
  rename_i wc hxc hHeld
  clear c1 c5 gi0 gi1 gj0 gj1 hHeld
  have HE3 : Hid (Ext w we) := (HE2.out.drew.trans hxc).trans hx'
  clear hxc hx' HE2 KS
  have mL : (0 : Int) ≤ (lin zi1 zj1 bb ff : Int) ∧ (lin zi1 zj1 bb ff : Int) ≤ 400000000000000000 := by rw [HL.out]; omega
  obtain ⟨mL1, mL2⟩ := mL
  simp only [W2.out]
  clear W1 W2 x1 x2 x3 x4 x5 x6 x7 b4 b4' b5 b5' b6 b6' b7 b7' b8 b9 hik hkj hj m4 m5 p4 p5
  by_cases hlt : gnd zk2 v.hi bb ff < lin zi1 zj1 bb ff
  · have dl : decide ((gnd zk2 v.hi bb ff : Int) < (lin zi1 zj1 bb ff : Int)) = true := decide_eq_true (by omega)
    have hno : needOf zk2 v.hi zi1 zj1 bb ff = 0 := by unfold needOf; rw [if_pos hlt]
    have HNo := Lib.hid hno; clear hno
    go_wp2
    go_ret
    exact ⟨by rw [HNo.out]; rfl, HE3.out⟩
  · have dl : decide ((gnd zk2 v.hi bb ff : Int) < (lin zi1 zj1 bb ff : Int)) = false := decide_eq_false (by omega)
    have hno : (needOf zk2 v.hi zi1 zj1 bb ff : Int) = ((gnd zk2 v.hi bb ff : Int) - (lin zi1 zj1 bb ff : Int)) / (((bb : Int) + (ff : Int)) * 10000000) + 1 := by
      unfold needOf; rw [if_neg hlt, Int.natCast_add, Int.natCast_ediv, Int.ofNat_sub (by omega)]; simp only [Int.natCast_mul, Int.natCast_add]; rfl
    have HNo := Lib.hid hno; clear hno
    have hq1 : (1 : Int) ≤ ((bb : Int) + (ff : Int)) * 10000000 := by omega
    have hq0 : (0 : Int) ≤ (gnd zk2 v.hi bb ff : Int) - (lin zi1 zj1 bb ff : Int) := by omega
    have hq2 : ((gnd zk2 v.hi bb ff : Int) - (lin zi1 zj1 bb ff : Int)) / (((bb : Int) + (ff : Int)) * 10000000) ≤ 300000000000000000 := by
      have := Int.ediv_le_self (((bb : Int) + (ff : Int)) * 10000000) hq0; omega
    have hq3 : 0 ≤ ((gnd zk2 v.hi bb ff : Int) - (lin zi1 zj1 bb ff : Int)) / (((bb : Int) + (ff : Int)) * 10000000) := Int.ediv_nonneg hq0 (by omega)
    go_wp2
    go_ret
    refine ⟨?_, HE3.out⟩
    rw [HNo.out]
    rfl

set_option maxRecDepth 100000 in
set_option maxHeartbeats 2000000 in
theorem need_light (B : Nat) (v : PV) (i k j : Nat) (w : World) (hw : WH w B false v) (hk : OkP v.p) (hik : i < k) (hkj : k < j) (hj : j < v.at'.l.length) :
    Calls Try.prog 78 #[.pointer (some ⟨B, 0, none⟩), .int .i64 (i : Int), .int .i64 (k : Int), .int .i64 (j : Int)] w fun e w' => e = .returned (.int .i64 (needF false v.p i k j : Int)) ∧ Ext w w' := by
  obtain ⟨ba, oa, bg, og, ha, hg, hca, hcg⟩ := hw.is.place hk
  obtain ⟨_, c0, c1, c2, c3, c4, c5, c6⟩ := hw
  have ai := hca i (by omega)
  have ak := hca k (by omega)
  have aj := hca j hj
  obtain ⟨gi0, gi1⟩ := hcg i (by omega)
  obtain ⟨gk0, gk1⟩ := hcg k (by omega)
  obtain ⟨gj0, gj1⟩ := hcg j hj
  have b1 := hk.a_lt hik (by show k < v.at'.l.length; omega)
  have b2 := hk.a_lt hkj hj
  have b3 := hk.a_le j
  obtain ⟨b4, b4'⟩ := hk.g_le i
  obtain ⟨b5, b5'⟩ := hk.g_le k
  obtain ⟨b6, b6'⟩ := hk.g_le j
  obtain ⟨b7, b7'⟩ := hk.bb
  have b8 := hk.n2
  have b9 := hk.gl
  dsimp only at b7 b7' b8 b9
  unfold needF endOf
  simp only [Bool.not_false, if_true, Bool.false_eq_true, if_false]
  replace c5 : w.cell? ⟨B, 5, none⟩ = some (.func (.func 74) #[] #[]) := c5
  replace c6 : w.cell? ⟨B, 6, none⟩ = some (.func (.func 73) #[] #[]) := c6
  generalize v.p.a i = xi at *
  generalize v.p.a k = xk at *
  generalize v.p.a j = xj at *
  generalize v.p.g i = zi at *
  generalize v.p.g k = zk at *
  generalize v.p.g j = zj at *
  obtain ⟨zi1, zi2⟩ := zi
  obtain ⟨zk1, zk2⟩ := zk
  obtain ⟨zj1, zj2⟩ := zj
  dsimp only at *
  rw [ha] at c0
  rw [hg] at c1
  clear hca hcg ha hg hk
  obtain ⟨bb, hbb⟩ : ∃ bb : Nat, xk - xi = bb := ⟨_, rfl⟩
  obtain ⟨ff, hff⟩ : ∃ ff : Nat, xj - xk = ff := ⟨_, rfl⟩
  rw [hbb, hff]
  have q1 : (xk : Int) - (xi : Int) = (bb : Int) := by omega
  have q2 : (xj : Int) - (xk : Int) = (ff : Int) := by omega
  have q3 : (0 : Int) < (bb : Int) := by omega
  have q4 : (0 : Int) < (ff : Int) := by omega
  have q5 : (bb : Int) + (ff : Int) ≤ 20000 := by omega
  have NB := nb_of (r := zk1) (e := v.lo) (x := zi2) (y := zj2) (b := bb) (f := ff) (by omega) (by omega) (by omega) (by omega) (by omega) (by omega) (by omega)
  obtain ⟨n1, n2, n3, n4, n5⟩ := NB
  have m1 : ((v.lo : Int) * (bb : Int)) ≤ 20000000 := by omega
  have m2 : ((v.lo : Int) * (bb : Int) * (ff : Int)) ≤ 400000000000 := by have := Int.ofNat_le.2 n2; simp only [Int.natCast_mul] at this; exact this
  have m3 : ((zk1 : Int) * 10000000 + (v.lo : Int) * (bb : Int) * (ff : Int)) * ((bb : Int) + (ff : Int)) ≤ 300000000000000000 := by have := Int.ofNat_le.2 n3; simp only [Int.natCast_mul, Int.natCast_add] at this; exact this
  have m4 : ((zi2 : Int) * (ff : Int)) ≤ 20000000000 := by omega
  have m5 : ((zj2 : Int) * (bb : Int)) ≤ 20000000000 := by omega
  have p1 : 0 ≤ ((v.lo : Int) * (bb : Int)) := Int.mul_nonneg (by omega) (by omega)
  have p2 : 0 ≤ ((v.lo : Int) * (bb : Int) * (ff : Int)) := Int.mul_nonneg p1 (by omega)
  have p3 : 0 ≤ ((zk1 : Int) * 10000000 + (v.lo : Int) * (bb : Int) * (ff : Int)) * ((bb : Int) + (ff : Int)) := Int.mul_nonneg (by omega) (by omega)
  have p4 : 0 ≤ ((zi2 : Int) * (ff : Int)) := Int.mul_nonneg (by omega) (by omega)
  have p5 : 0 ≤ ((zj2 : Int) * (bb : Int)) := Int.mul_nonneg (by omega) (by omega)
  have b5i : (zk1 : Int) ≤ 1000000 := by omega
  have HG : Hid ((gnd zk1 v.lo bb ff : Nat) = ((zk1 : Int) * 10000000 + (v.lo : Int) * (bb : Int) * (ff : Int)) * ((bb : Int) + (ff : Int))) := by show _ = _; unfold gnd; simp only [Int.natCast_mul, Int.natCast_add]; rfl
  have HL : Hid ((lin zi2 zj2 bb ff : Nat) = (((zi2 : Int) * (ff : Int)) + ((zj2 : Int) * (bb : Int))) * 10000000) := by show _ = _; unfold lin; simp only [Int.natCast_mul, Int.natCast_add]; rfl
  have W1 : Hid (IntKind.i64.wrap (IntKind.i64.wrap (IntKind.i64.wrap ((zk1 : Int) * 10000000) + IntKind.i64.wrap (IntKind.i64.wrap ((v.lo : Int) * (bb : Int)) * (ff : Int))) * ((bb : Int) + (ff : Int))) = (gnd zk1 v.lo bb ff : Int)) := by
    show _ = _
    rw [HG.out, IntWalk.i64_in ((zk1 : Int) * 10000000) (by omega), IntWalk.i64_in ((v.lo : Int) * (bb : Int)) (by omega), IntWalk.i64_in ((v.lo : Int) * (bb : Int) * (ff : Int)) (by omega), IntWalk.i64_in ((zk1 : Int) * 10000000 + (v.lo : Int) * (bb : Int) * (ff : Int)) (by omega), IntWalk.i64_in _ (by omega)]
  have W2 : Hid (IntKind.i64.wrap (IntKind.i64.wrap (IntKind.i64.wrap ((zi2 : Int) * (ff : Int)) + IntKind.i64.wrap ((zj2 : Int) * (bb : Int))) * 10000000) = (lin zi2 zj2 bb ff : Int)) := by
    show _ = _
    rw [HL.out, IntWalk.i64_in ((zi2 : Int) * (ff : Int)) (by omega), IntWalk.i64_in ((zj2 : Int) * (bb : Int)) (by omega), IntWalk.i64_in ((zi2 : Int) * (ff : Int) + (zj2 : Int) * (bb : Int)) (by omega), IntWalk.i64_in _ (by omega)]
  clear n1 n2 n3 n4 n5
  have KS : Hid (∀ w', Ext w w' → w'.cell? ⟨B, 0, none⟩ = some (.slice (some ⟨ba, oa, none⟩) v.at'.l.length v.at'.c) ∧ w'.cell? ⟨B, 1, none⟩ = some (.slice (some ⟨bg, og, none⟩) v.gr.l.length v.gr.c) ∧ w'.cell? ⟨B, 3, none⟩ = some (.int .i64 (v.lo : Int)) ∧ w'.cell? ⟨B, 4, none⟩ = some (.int .i64 (v.hi : Int)) ∧
      w'.cell? ⟨B, 5, none⟩ = some (.func (.func 74) #[] #[]) ∧ w'.cell? ⟨B, 6, none⟩ = some (.func (.func 73) #[] #[]) ∧ w'.cell? ⟨bg, og + i * 2, none⟩ = some (.int .i64 (zi1 : Int)) ∧ w'.cell? ⟨bg, og + i * 2 + 1, none⟩ = some (.int .i64 (zi2 : Int)) ∧ w'.cell? ⟨bg, og + k * 2, none⟩ = some (.int .i64 (zk1 : Int)) ∧ w'.cell? ⟨bg, og + k * 2 + 1, none⟩ = some (.int .i64 (zk2 : Int)) ∧ w'.cell? ⟨bg, og + j * 2, none⟩ = some (.int .i64 (zj1 : Int)) ∧ w'.cell? ⟨bg, og + j * 2 + 1, none⟩ = some (.int .i64 (zj2 : Int))) := fun w' h =>
    ⟨h.cell c0, h.cell c1, h.cell c3, h.cell c4, h.cell c5, h.cell c6, h.cell gi0, h.cell gi1, h.cell gk0, h.cell gk1, h.cell gj0, h.cell gj1⟩
  have x1 : (0 : Int) ≤ (i : Int) := by omega
  have x2 : (i : Int) < (v.at'.l.length : Int) := by omega
  have x3 : (0 : Int) ≤ (k : Int) := by omega
  have x4 : (k : Int) < (v.at'.l.length : Int) := by omega
  have x5 : (0 : Int) ≤ (j : Int) := by omega
  have x6 : (j : Int) < (v.at'.l.length : Int) := by omega
  have x7 : v.gr.l.length = v.at'.l.length := b9
  go_enter Try.func78, Try.ntmps78
  go_wp2_with fail
  go_quiet (fail)
  clear q1 q2 hbb hff ai ak aj c0 c1 c2 c3 c4 c5 c6 gi0 gi1 gk0 gk1 gj0 gj1 b1 b2 b3
  have HE1 : Hid (Ext w (w.drewN nq)) := (Ext.refl w).drewN nq
  generalize w.drewN nq = w1 at *
  go_wp2_with fail
  obtain ⟨-, c1, c3, c4, -, c6, -, -, gk0, gk1, -, -⟩ := KS.out _ HE1.out
  go_region_held3 (fun w' => w'.cell? ⟨B, 1, none⟩ = some (.slice (some ⟨bg, og, none⟩) v.gr.l.length v.gr.c) ∧ w'.cell? ⟨B, 3, none⟩ = some (.int .i64 (v.lo : Int)) ∧ w'.cell? ⟨B, 4, none⟩ = some (.int .i64 (v.hi : Int)) ∧
      w'.cell? ⟨B, 6, none⟩ = some (.func (.func 73) #[] #[]) ∧ w'.cell? ⟨bg, og + k * 2, none⟩ = some (.int .i64 (zk1 : Int)) ∧ w'.cell? ⟨bg, og + k * 2 + 1, none⟩ = some (.int .i64 (zk2 : Int))) ((refine ⟨(KS.out _ ?_).2.1, (KS.out _ ?_).2.2.1, (KS.out _ ?_).2.2.2.1, (KS.out _ ?_).2.2.2.2.2.1, (KS.out _ ?_).2.2.2.2.2.2.2.2.1, (KS.out _ ?_).2.2.2.2.2.2.2.2.2.1⟩ <;> (repeat (first | exact HE1.out | refine Ext.trans ?_ (by assumption) | refine Ext.drew ?_ | refine Ext.alloc ?_ _))))
    (first
      | (go_at_call 73; refine (lowest_any _ _ _).mono ?_; rintro e w' ⟨rfl, hx'⟩))
  rename_i wa hxa hHeld
  clear c1 c3 c4 c6 gk0 gk1 hHeld m1 m2 p1 p2 b5i
  have HE2 : Hid (Ext w w') := (HE1.out.drew.trans hxa).trans hx'
  clear hxa hx' HE1
  rw [← HG.out] at m3 p3
  go_wp2_with fail
  rw [W1.out]
  obtain ⟨-, c1, -, -, c5, -, gi0, gi1, -, -, gj0, gj1⟩ := KS.out _ HE2.out
  go_region_held3 (fun w' => w'.cell? ⟨B, 1, none⟩ = some (.slice (some ⟨bg, og, none⟩) v.gr.l.length v.gr.c) ∧
      w'.cell? ⟨B, 5, none⟩ = some (.func (.func 74) #[] #[]) ∧ w'.cell? ⟨bg, og + i * 2, none⟩ = some (.int .i64 (zi1 : Int)) ∧ w'.cell? ⟨bg, og + i * 2 + 1, none⟩ = some (.int .i64 (zi2 : Int)) ∧ w'.cell? ⟨bg, og + j * 2, none⟩ = some (.int .i64 (zj1 : Int)) ∧ w'.cell? ⟨bg, og + j * 2 + 1, none⟩ = some (.int .i64 (zj2 : Int))) ((refine ⟨(KS.out _ ?_).2.1, (KS.out _ ?_).2.2.2.2.1, (KS.out _ ?_).2.2.2.2.2.2.1, (KS.out _ ?_).2.2.2.2.2.2.2.1, (KS.out _ ?_).2.2.2.2.2.2.2.2.2.2.1, (KS.out _ ?_).2.2.2.2.2.2.2.2.2.2.2⟩ <;> (repeat (first | exact HE2.out | refine Ext.trans ?_ (by assumption) | refine Ext.drew ?_ | refine Ext.alloc ?_ _))))
    (first
      | (go_at_call 74; refine (highest_any _ _ _).mono ?_; rintro e we ⟨rfl, hx'⟩))
  rename_i wc hxc hHeld
  clear c1 c5 gi0 gi1 gj0 gj1 hHeld
  have HE3 : Hid (Ext w we) := (HE2.out.drew.trans hxc).trans hx'
  clear hxc hx' HE2 KS
  have mL : (0 : Int) ≤ (lin zi2 zj2 bb ff : Int) ∧ (lin zi2 zj2 bb ff : Int) ≤ 400000000000000000 := by rw [HL.out]; omega
  obtain ⟨mL1, mL2⟩ := mL
  simp only [W2.out]
  clear W1 W2 x1 x2 x3 x4 x5 x6 x7 b4 b4' b5 b5' b6 b6' b7 b7' b8 b9 hik hkj hj m4 m5 p4 p5
  by_cases hlt : gnd zk1 v.lo bb ff < lin zi2 zj2 bb ff
  · have dl : decide ((gnd zk1 v.lo bb ff : Int) < (lin zi2 zj2 bb ff : Int)) = true := decide_eq_true (by omega)
    have hno : needOf zk1 v.lo zi2 zj2 bb ff = 0 := by unfold needOf; rw [if_pos hlt]
    have HNo := Lib.hid hno; clear hno
    go_wp2
    go_ret
    exact ⟨by rw [HNo.out]; rfl, HE3.out⟩
  · have dl : decide ((gnd zk1 v.lo bb ff : Int) < (lin zi2 zj2 bb ff : Int)) = false := decide_eq_false (by omega)
    have hno : (needOf zk1 v.lo zi2 zj2 bb ff : Int) = ((gnd zk1 v.lo bb ff : Int) - (lin zi2 zj2 bb ff : Int)) / (((bb : Int) + (ff : Int)) * 10000000) + 1 := by
      unfold needOf; rw [if_neg hlt, Int.natCast_add, Int.natCast_ediv, Int.ofNat_sub (by omega)]; simp only [Int.natCast_mul, Int.natCast_add]; rfl
    have HNo := Lib.hid hno; clear hno
    have hq1 : (1 : Int) ≤ ((bb : Int) + (ff : Int)) * 10000000 := by omega
    have hq0 : (0 : Int) ≤ (gnd zk1 v.lo bb ff : Int) - (lin zi2 zj2 bb ff : Int) := by omega
    have hq2 : ((gnd zk1 v.lo bb ff : Int) - (lin zi2 zj2 bb ff : Int)) / (((bb : Int) + (ff : Int)) * 10000000) ≤ 300000000000000000 := by
      have := Int.ediv_le_self (((bb : Int) + (ff : Int)) * 10000000) hq0; omega
    have hq3 : 0 ≤ ((gnd zk1 v.lo bb ff : Int) - (lin zi2 zj2 bb ff : Int)) / (((bb : Int) + (ff : Int)) * 10000000) := Int.ediv_nonneg hq0 (by omega)
    go_wp2
    go_ret
    refine ⟨?_, HE3.out⟩
    rw [HNo.out]
    rfl


/-- need, at work in either way. -/
theorem need_any (B : Nat) (d : Bool) (v : PV) (i k j : Nat) (w : World) (hw : WH w B d v) (hk : OkP v.p) (hik : i < k) (hkj : k < j) (hj : j < v.at'.l.length) :
    Calls Try.prog 78 #[.pointer (some ⟨B, 0, none⟩), .int .i64 (i : Int), .int .i64 (k : Int), .int .i64 (j : Int)] w fun e w' => e = .returned (.int .i64 (needF d v.p i k j : Int)) ∧ Ext w w' := by
  cases d
  · exact need_light B v i k j w hw hk hik hkj hj
  · exact need_dark B v i k j w hw hk hik hkj hj
end Go.Proofs.Ytfognlealnhodaa
