/-
  Fewest and Proves of package pillar return the fewest pillars and how many pillars levels prove to be needed. The profile must lie in memory as told and be right.
-/
import Derived.Test.YtfognlealnhodaaV
namespace Go.Proofs.Ytfognlealnhodaa
open Go.RowKit

set_option maxRecDepth 100000 in
set_option maxHeartbeats 2000000 in
theorem fewest_ok (v : PV) (w : World) (hp : IsP w v) (hk : OkP v.p) (L : List Nat) (hL : fewF (needsF (allF true v.p) v.at'.l.length (v.at'.l.length - 1) (-1)) (allF true v.p) v.at'.l.length 0 = L) :
    Calls Try.prog 12 #[v.v] w fun e w' => ∃ a c, e = .returned (.tuple #[.slice a L.length c, .int .i64 0]) ∧ w'.ownsRow w.heap.size 3 1 (.slice a L.length c) L.length (nums L) ∧ Ext w w' := by
  have HF := Lib.hid (five_new w v)
  have HX := Lib.hid ((Ext.refl w).alloc (.cells #[.slice v.at'.a v.at'.l.length v.at'.c, .slice v.gr.a v.gr.l.length v.gr.c, .int .i64 (v.T : Int), .int .i64 (v.lo : Int), .int .i64 (v.hi : Int)] 30))
  have HP := Lib.hid hp
  have HK := Lib.hid hk
  have HC := Lib.hid (fun w1 (h : Ext w w1) => check_ok v w1 (hp.ext h) hk)
  have hn1 := hk.n1
  have hn2 := hk.n2
  dsimp only at hn1 hn2
  have HH : Hid (∀ (B : Nat) (w1 : World), Wk w1 B true v (allF true v.p) → Ext w w1 → Calls Try.prog 41 #[.pointer (some ⟨B, 0, none⟩), .int .i64 0, .int .i64 ((v.at'.l.length : Int) - 1), .int .i64 (-1)] w1 fun e w' => ∃ a c, e = .returned (.slice a L.length c) ∧ w'.ownsRow w.heap.size 3 1 (.slice a L.length c) L.length (nums L) ∧ Ext w1 w') := by
    intro B w1 h hx
    have q := fewest_any B true v (allF true v.p) 0 (v.at'.l.length - 1) (-1) w1 h (by omega) (by omega) (by omega) (by omega)
    rw [hL, show ((v.at'.l.length - 1 : Nat) : Int) = (v.at'.l.length : Int) - 1 by omega] at q
    refine Calls.mono q ?_
    rintro e w' ⟨a, c, rfl, ho, hx2⟩
    exact ⟨a, c, rfl, own_mono ho hx.size, hx2⟩
  have hwl : IntKind.i64.wrap ((v.at'.l.length : Int) - 1) = (v.at'.l.length : Int) - 1 := IntWalk.i64_in _ (by omega)
  clear hn1 hn2 hL hp hk
  obtain ⟨c0, c1, c2, c3, c4⟩ := HF.out
  go_enter Try.func12, Try.ntmps12
  go_wp2_with fail
  clear c0 c1 c2 c3 c4
  refine (HC.out _ HX.out).mono ?_
  rintro e w1 ⟨rfl, hx1⟩
  have HX1 : Hid (Ext w w1) := HX.out.trans hx1
  have HF1 := Lib.hid (HF.out.ext hx1)
  clear hx1 HX HF HC
  obtain ⟨c0, c1, c2, c3, c4⟩ := HF1.out
  go_wp2_with fail
  have HR := Lib.hid (Ext.refl w1)
  go_region_held3 (fun w' => w'.cell? ⟨w.heap.size, 0, none⟩ = some (.slice v.at'.a v.at'.l.length v.at'.c) ∧ w'.cell? ⟨w.heap.size, 1, none⟩ = some (.slice v.gr.a v.gr.l.length v.gr.c) ∧ w'.cell? ⟨w.heap.size, 2, none⟩ = some (.int .i64 (v.T : Int)) ∧ w'.cell? ⟨w.heap.size, 3, none⟩ = some (.int .i64 (v.lo : Int)) ∧ w'.cell? ⟨w.heap.size, 4, none⟩ = some (.int .i64 (v.hi : Int))) ((refine HF1.out.ext ?_; (repeat (first | exact HR.out | refine Ext.trans ?_ (by assumption) | refine Ext.alloc ?_ _ | refine Ext.drew ?_))))
    (first
      | (go_at_call 40; refine (inDark_any v _ (HP.out.ext (HX1.out.trans ?_)) HK.out).mono ?_; (repeat (first | exact HR.out | refine Ext.trans ?_ (by assumption) | refine Ext.alloc ?_ _ | refine Ext.drew ?_)); rintro e wa ⟨B, rfl, hW, hle, hxa⟩)
      | (go_at_call 41; refine (HH.out _ _ (Wk.ext (by assumption) ?_) (HX1.out.trans ?_)).mono ?_; (repeat (first | exact HR.out | exact Ext.refl _ | refine Ext.trans ?_ (by assumption) | refine Ext.alloc ?_ _ | refine Ext.drew ?_)); (repeat (first | exact HR.out | refine Ext.trans ?_ (by assumption) | refine Ext.alloc ?_ _ | refine Ext.drew ?_)); rintro e wb ⟨a, c, rfl, ho, hxb⟩))
  have hr2 : Ext w1 wb := by
    (repeat (first | exact HR.out | refine Ext.trans ?_ (by assumption) | refine Ext.alloc ?_ _ | refine Ext.drew ?_))
  have HX2 : Hid (Ext w wb) := HX1.out.trans hr2
  have HO := Lib.hid ho
  clear hr2 ho
  go_wp2
  go_ret2
  exact ⟨a, c, rfl, HO.out, HX2.out⟩

theorem enters_46 : Enters Try.prog 46 := fun args w => Proofs.enters_of Try.func46 (by kernel_rfl) rfl args w
theorem isLevel_asks (w : World) : Asks Try.prog 46 #[] (fun x : Nat => #[.int .i64 (x : Int)]) (fun _ => True) (fun x => decide (x ≤ 40)) w := by
  intro x _ w' _
  show Calls Try.prog 46 #[.int .i64 (x : Int)] w' _
  have h : (decide ((0 : Int) ≤ (x : Int)) && decide ((x : Int) ≤ 40)) = decide (x ≤ 40) := by
    by_cases hx : x ≤ 40
    · rw [decide_eq_true hx, decide_eq_true (show (0 : Int) ≤ x by omega), decide_eq_true (show (x : Int) ≤ 40 by omega)]; rfl
    · rw [decide_eq_false hx, decide_eq_false (show ¬ (x : Int) ≤ 40 by omega), Bool.and_false]
  go_enter Try.func46, Try.ntmps46
  go_wp2_with (go_at_call 59; refine (between_any _ _ _ _).mono ?_; rintro e w' ⟨rfl, rfl⟩; rw [h])
  go_ret
  exact ⟨rfl, Ext.refl _⟩

set_option maxRecDepth 100000 in
set_option maxHeartbeats 2000000 in
theorem proves_ok (v : PV) (s : SL Nat) (w : World) (hp : IsP w v) (hk : OkP v.p) (hs : IsSl 1 num w s) (hl : s.l.length = v.at'.l.length) (hb : ∀ x ∈ s.l, x ≤ 40) (r : Bool) (hr : areTo (allF true v.p) s.l s.l.length s.l.length = r) (z : Int) (hz : ((s.l[s.l.length - 1]?.getD 0 : Nat) : Int) - ((s.l[0]?.getD 0 : Nat) : Int) + 1 = z) :
    Calls Try.prog 15 #[v.v, .slice s.a s.l.length s.c] w fun e w' => e = .returned (.tuple #[.int .i64 (if r then z else 0), .int .i64 (if r then 0 else 9)]) ∧ Ext w w' := by
  have HF := Lib.hid (five_new w v)
  have HX := Lib.hid ((Ext.refl w).alloc (.cells #[.slice v.at'.a v.at'.l.length v.at'.c, .slice v.gr.a v.gr.l.length v.gr.c, .int .i64 (v.T : Int), .int .i64 (v.lo : Int), .int .i64 (v.hi : Int)] 30))
  have HP := Lib.hid hp
  have HK := Lib.hid hk
  have HC := Lib.hid (fun w1 (h : Ext w w1) => check_ok v w1 (hp.ext h) hk)
  have hn1 := hk.n1
  have hn2 := hk.n2
  dsimp only at hn1 hn2
  have HH : Hid (∀ (B : Nat) (w1 : World), Wk w1 B true v (allF true v.p) → Ext w w1 → Calls Try.prog 47 #[.pointer (some ⟨B, 0, none⟩), .slice s.a v.at'.l.length s.c] w1 fun e w' => e = .returned (.bool r) ∧ Ext w1 w') := by
    intro B w1 h hx
    have q := areLevels_any B true v (allF true v.p) s w1 h (by omega) (hs.ext hx) hl (by omega) (fun x hx => by have := hb x hx; omega)
    rw [hr] at q
    rwa [hl] at q
  have HA : Hid (∀ w1, Ext w w1 → Calls Try.prog 45 #[.slice s.a v.at'.l.length s.c, .func (.func 46) #[] #[]] w1 fun e w' => e = .returned (.bool true) ∧ Ext w1 w') := fun w1 hx => by
    have q := every_int 46 #[] (fun _ => True) (fun x => decide (x ≤ 40)) s.a v.at'.l.length s.c s.l w1 enters_46 hl (hs.ext hx) (fun _ _ => trivial) (isLevel_asks w1)
    rwa [show (s.l.all fun x => decide (x ≤ 40)) = true by rw [List.all_eq_true]; intro x hx; exact decide_eq_true (hb x hx)] at q
  obtain ⟨b, off, hsa, hc⟩ := hs.2.2.resolve_left (by omega)
  have HCf : Hid (∀ w', Ext w w' → w'.cell? ⟨b, off, none⟩ = some (.int .i64 ((s.l[0]?.getD 0 : Nat) : Int))) := fun w' h => by
    have := h.cell (hc 0 (by omega) 0 (by omega)); rw [List.getElem?_eq_getElem (show 0 < s.l.length by omega)]; simpa [num] using this
  obtain ⟨m, hm⟩ : ∃ m, s.l.length = m + 1 := ⟨s.l.length - 1, by omega⟩
  have HCl : Hid (∀ w', Ext w w' → w'.cell? ⟨b, off + m, none⟩ = some (.int .i64 ((s.l[s.l.length - 1]?.getD 0 : Nat) : Int))) := fun w' h => by
    have := h.cell (hc m (by omega) 0 (by omega)); rw [List.getElem?_eq_getElem (show s.l.length - 1 < s.l.length by omega)]; simpa [num, hm] using this
  have hx0 : s.l[0]?.getD 0 ≤ 40 := by
    rw [List.getElem?_eq_getElem (show 0 < s.l.length by omega)]; exact hb _ (List.getElem_mem _)
  have hy0 : s.l[s.l.length - 1]?.getD 0 ≤ 40 := by
    rw [List.getElem?_eq_getElem (show s.l.length - 1 < s.l.length by omega)]; exact hb _ (List.getElem_mem _)
  clear hc hr hb
  generalize s.l[0]?.getD 0 = x at *
  generalize s.l[s.l.length - 1]?.getD 0 = y at *
  rw [hsa, hl] 
  rw [hsa] at HH HA
  have hm1 : ((v.at'.l.length : Nat) : Int) - 1 = (m : Int) := by omega
  have hm0 : (0 : Int) ≤ (m : Int) := by omega
  have hm2 : (m : Int) < (v.at'.l.length : Int) := by omega
  have hn3 : v.at'.l.length ≤ 1000000 := by omega
  clear hn1 hn2 hp hk hs hl hm hsa
  obtain ⟨c0, c1, c2, c3, c4⟩ := HF.out
  go_enter Try.func15, Try.ntmps15
  go_wp2_with fail
  clear c0 c1 c2 c3 c4
  refine (HC.out _ HX.out).mono ?_
  rintro e w1 ⟨rfl, hx1⟩
  have HX1 : Hid (Ext w w1) := HX.out.trans hx1
  have HF1 := Lib.hid (HF.out.ext hx1)
  clear hx1 HX HF HC
  obtain ⟨c0, c1, c2, c3, c4⟩ := HF1.out
  go_wp2_with fail
  refine (HA.out _ HX1.out).mono ?_
  rintro e w2 ⟨rfl, hx2⟩
  have HX2 : Hid (Ext w w2) := HX1.out.trans hx2
  have HF2 := Lib.hid (HF1.out.ext hx2)
  clear hx2 c0 c1 c2 c3 c4
  obtain ⟨c0, c1, c2, c3, c4⟩ := HF2.out
  go_wp2_with fail
  clear c0 c1 c2 c3 c4
  refine (inDark_any v _ (HP.out.ext HX2.out) HK.out).mono ?_
  rintro e w3 ⟨B, rfl, hW, hle, hx3⟩
  have HX3 : Hid (Ext w w3) := HX2.out.trans hx3
  have HW := Lib.hid hW
  clear hx3 hW hle
  go_wp2_with fail
  refine (HH.out _ _ HW.out HX3.out).mono ?_
  rintro e w4 ⟨rfl, hx4⟩
  have HX4 : Hid (Ext w w4) := HX3.out.trans hx4
  clear hx4
  cases r
  · go_wp2
    go_ret2
    exact ⟨rfl, HX4.out⟩
  · have cf := HCf.out w4 HX4.out
    have cl := HCl.out w4 HX4.out
    go_wp2_with fail
    go_quiet (fail)
    go_wp2
    go_ret2
    refine ⟨?_, HX4.out.drewN _⟩
    simp
end Go.Proofs.Ytfognlealnhodaa
