/-
  Sees and Tall of package pillar return whether two places can see each other, and surely do, and the least Tall with which they surely do; where both are the same they return ErrArg. The profile must lie in memory as told and be right.
-/
import Derived.Test.YtfognlealnhodaaF
import Derived.Test.YtfognlealnhodaaH
namespace Go.Proofs.Ytfognlealnhodaa
open Go.RowKit

theorem allF_see (d : Bool) (p : Prof) (i j : Nat) (hi : i < p.A.length) (hj : j < p.A.length) (hne : i ≠ j) : allF d p (min i j) (max i j) = seeF d p i j := by
  unfold allF seeF
  rw [decide_eq_true (show min i j < max i j by omega), decide_eq_true (show max i j < p.A.length by omega)]
  rfl

set_option maxRecDepth 100000 in
set_option maxHeartbeats 4000000 in
theorem sees_ok (v : PV) (i j : Nat) (w : World) (hp : IsP w v) (hk : OkP v.p) (hi : i < v.at'.l.length) (hj : j < v.at'.l.length) (hne : i ≠ j) :
    Calls Try.prog 21 #[v.v, .int .i64 (i : Int), .int .i64 (j : Int)] w fun e w' => e = .returned (.tuple #[.bool (seeF false v.p i j), .bool (seeF true v.p i j), .int .i64 0]) ∧ Ext w w' := by
  have HF := Lib.hid (five_new w v)
  have HX := Lib.hid ((Ext.refl w).alloc (.cells #[.slice v.at'.a v.at'.l.length v.at'.c, .slice v.gr.a v.gr.l.length v.gr.c, .int .i64 (v.T : Int), .int .i64 (v.lo : Int), .int .i64 (v.hi : Int)] 30))
  have HP := Lib.hid hp
  have HK := Lib.hid hk
  have HC := Lib.hid (fun w1 (h : Ext w w1) => checkPair_any v i j w1 (hp.ext h) hk hi hj)
  have hn2 := hk.n2
  dsimp only at hn2
  have hs1 := allF_see false v.p i j hi hj hne
  have hs2 := allF_see true v.p i j hi hj hne
  rw [← hs1, ← hs2]
  clear hs1 hs2 hp hk
  obtain ⟨c0, c1, c2, c3, c4⟩ := HF.out
  go_enter Try.func21, Try.ntmps21
  go_wp2_with fail
  clear c0 c1 c2 c3 c4
  refine (HC.out _ HX.out).mono ?_
  rintro e w1 ⟨rfl, hx1⟩
  rw [if_neg hne]
  have HX1 : Hid (Ext w w1) := HX.out.trans hx1
  have HF1 := Lib.hid (HF.out.ext hx1)
  clear hx1 HX HF HC
  go_wp2_with fail
  have HR := Lib.hid (Ext.refl w1)
  obtain ⟨c0, c1, c2, c3, c4⟩ := HF1.out
  have hi4 : i < 40 := by omega
  have hj4 : j < 40 := by omega
  go_region_held3 (fun w' => w'.cell? ⟨w.heap.size, 0, none⟩ = some (.slice v.at'.a v.at'.l.length v.at'.c) ∧ w'.cell? ⟨w.heap.size, 1, none⟩ = some (.slice v.gr.a v.gr.l.length v.gr.c) ∧ w'.cell? ⟨w.heap.size, 2, none⟩ = some (.int .i64 (v.T : Int)) ∧ w'.cell? ⟨w.heap.size, 3, none⟩ = some (.int .i64 (v.lo : Int)) ∧ w'.cell? ⟨w.heap.size, 4, none⟩ = some (.int .i64 (v.hi : Int))) ((refine HF1.out.ext ?_; (repeat (first | exact HR.out | refine Ext.trans ?_ (by assumption) | refine Ext.alloc ?_ _ | refine Ext.drew ?_))))
    (first
      | (go_at_call 57; refine (inLight_any v _ (HP.out.ext (HX1.out.trans ?_)) HK.out).mono ?_; (repeat (first | exact HR.out | refine Ext.trans ?_ (by assumption) | refine Ext.alloc ?_ _ | refine Ext.drew ?_)); rintro e wa ⟨B, rfl, hW, hle, hxa⟩)
      | (go_at_call 40; refine (inDark_any v _ (HP.out.ext (HX1.out.trans ?_)) HK.out).mono ?_; (repeat (first | exact HR.out | refine Ext.trans ?_ (by assumption) | refine Ext.alloc ?_ _ | refine Ext.drew ?_)); rintro e wa ⟨B, rfl, hW, hle, hxa⟩)
      | (go_at_call 51; refine (see_any _ _ v _ i j _ (by assumption) hi4 hj4 hne).mono ?_; rintro e wa ⟨rfl, rfl⟩))
  have hr2 : Ext w1 wa := by
    (repeat (first | exact HR.out | refine Ext.trans ?_ (by assumption) | refine Ext.alloc ?_ _ | refine Ext.drew ?_))
  have HX2 : Hid (Ext w wa) := HX1.out.trans hr2
  clear hr2
  go_wp2
  go_ret3
  exact ⟨rfl, HX2.out⟩

set_option maxHeartbeats 1000000 in
theorem sees_same (v : PV) (i : Nat) (w : World) (hp : IsP w v) (hk : OkP v.p) (hi : i < v.at'.l.length) :
    Calls Try.prog 21 #[v.v, .int .i64 (i : Int), .int .i64 (i : Int)] w fun e w' => e = .returned (.tuple #[.bool false, .bool false, .int .i64 2]) ∧ Ext w w' := by
  have HF := Lib.hid (five_new w v)
  have HX := Lib.hid ((Ext.refl w).alloc (.cells #[.slice v.at'.a v.at'.l.length v.at'.c, .slice v.gr.a v.gr.l.length v.gr.c, .int .i64 (v.T : Int), .int .i64 (v.lo : Int), .int .i64 (v.hi : Int)] 30))
  have HC := Lib.hid (fun w1 (h : Ext w w1) => checkPair_any v i i w1 (hp.ext h) hk hi hi)
  clear hp hk hi
  obtain ⟨c0, c1, c2, c3, c4⟩ := HF.out
  go_enter Try.func21, Try.ntmps21
  go_wp2_with fail
  clear c0 c1 c2 c3 c4
  refine (HC.out _ HX.out).mono ?_
  rintro e w1 ⟨rfl, hx1⟩
  simp only [if_true]
  have HX1 : Hid (Ext w w1) := HX.out.trans hx1
  clear hx1 HX HF HC
  go_wp2
  go_ret3
  exact ⟨rfl, HX1.out⟩

set_option maxHeartbeats 1000000 in
theorem tall_ok (v : PV) (i j : Nat) (w : World) (hp : IsP w v) (hk : OkP v.p) (hi : i < v.at'.l.length) (hj : j < v.at'.l.length) (hne : i ≠ j) (hT : tallF true v.p i j ≤ 2000) :
    Calls Try.prog 22 #[v.v, .int .i64 (i : Int), .int .i64 (j : Int)] w fun e w' => e = .returned (.tuple #[.int .i64 (tallF true v.p i j : Int), .int .i64 0]) ∧ Ext w w' := by
  have HF := Lib.hid (five_new w v)
  have HX := Lib.hid ((Ext.refl w).alloc (.cells #[.slice v.at'.a v.at'.l.length v.at'.c, .slice v.gr.a v.gr.l.length v.gr.c, .int .i64 (v.T : Int), .int .i64 (v.lo : Int), .int .i64 (v.hi : Int)] 30))
  have HP := Lib.hid hp
  have HK := Lib.hid hk
  have HC := Lib.hid (fun w1 (h : Ext w w1) => checkPair_any v i j w1 (hp.ext h) hk hi hj)
  have HT := Lib.hid (fun (B : Nat) (w1 : World) (h : Wk w1 B true v (allF true v.p)) => tall_any B v _ i j w1 h hk hi hj hne)
  generalize tallF true v.p i j = t at *
  clear hp hk hi hj
  obtain ⟨c0, c1, c2, c3, c4⟩ := HF.out
  go_enter Try.func22, Try.ntmps22
  go_wp2_with fail
  clear c0 c1 c2 c3 c4
  refine (HC.out _ HX.out).mono ?_
  rintro e w1 ⟨rfl, hx1⟩
  rw [if_neg hne]
  have HX1 : Hid (Ext w w1) := HX.out.trans hx1
  have HF1 := Lib.hid (HF.out.ext hx1)
  clear hx1 HX HF HC
  obtain ⟨c0, c1, c2, c3, c4⟩ := HF1.out
  go_wp2_with fail
  clear c0 c1 c2 c3 c4
  refine (inDark_any v _ (HP.out.ext HX1.out) HK.out).mono ?_
  rintro e w2 ⟨B, rfl, hW, hle, hx2⟩
  have HX2 : Hid (Ext w w2) := HX1.out.trans hx2
  have HW := Lib.hid hW
  clear hx2 hW hle
  go_wp2_with fail
  refine (HT.out _ _ HW.out).mono ?_
  rintro e w3 ⟨rfl, hx3⟩
  have HX3 : Hid (Ext w w3) := HX2.out.trans hx3
  clear hx3
  have d1 : decide ((2000 : Int) < (t : Int)) = false := decide_eq_false (by omega)
  go_wp2
  go_ret2
  exact ⟨rfl, HX3.out⟩
end Go.Proofs.Ytfognlealnhodaa
