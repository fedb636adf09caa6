/-
  Check of package pillar answers OK for a profile that is right, and turns nothing that was there; so do checkPair and checkPillars, where places are places. The profile must lie in memory as told.
-/
import Derived.Test.YtfognlealnhodaaC
namespace Go.Proofs.Ytfognlealnhodaa
open Go.RowKit

/-- The five cells of a profile's copy. -/
def Five (w : World) (b : Nat) (v : PV) : Prop := w.cell? ⟨b, 0, none⟩ = some (.slice v.at'.a v.at'.l.length v.at'.c) ∧ w.cell? ⟨b, 1, none⟩ = some (.slice v.gr.a v.gr.l.length v.gr.c) ∧ w.cell? ⟨b, 2, none⟩ = some (.int .i64 (v.T : Int)) ∧ w.cell? ⟨b, 3, none⟩ = some (.int .i64 (v.lo : Int)) ∧ w.cell? ⟨b, 4, none⟩ = some (.int .i64 (v.hi : Int))
theorem Five.ext {w w' : World} {b : Nat} {v : PV} (h : Five w b v) (k : Ext w w') : Five w' b v := ⟨k.cell h.1, k.cell h.2.1, k.cell h.2.2.1, k.cell h.2.2.2.1, k.cell h.2.2.2.2⟩
theorem five_new (w : World) (v : PV) : Five (w.alloc (.cells #[.slice v.at'.a v.at'.l.length v.at'.c, .slice v.gr.a v.gr.l.length v.gr.c, .int .i64 (v.T : Int), .int .i64 (v.lo : Int), .int .i64 (v.hi : Int)] 30)) w.heap.size v := by
  have cb := World.alloc_heap_new w (.cells #[.slice v.at'.a v.at'.l.length v.at'.c, .slice v.gr.a v.gr.l.length v.gr.c, .int .i64 (v.T : Int), .int .i64 (v.lo : Int), .int .i64 (v.hi : Int)] 30)
  exact ⟨(cell_at cb 0).trans rfl, (cell_at cb 1).trans rfl, (cell_at cb 2).trans rfl, (cell_at cb 3).trans rfl, (cell_at cb 4).trans rfl⟩

theorem within_bds (l m : Int) (w : World) :
    Calls Try.prog 67 #[.int .i64 l, .int .i64 m] w fun e w' => e = .returned (.func (.func 85) #[] #[.pointer (some ⟨w.heap.size, 0, none⟩), .pointer (some ⟨w.heap.size + 1, 0, none⟩)]) ∧ Bds w' w.heap.size (w.heap.size + 1) l m ∧ Ext w w' := by
  refine (within_any l m w).mono ?_
  rintro e w' ⟨rfl, rfl⟩
  exact ⟨rfl, bds_new w l m, ((Ext.refl w).alloc _).alloc _⟩
theorem spanWithin_bds (l m : Int) (w : World) :
    Calls Try.prog 69 #[.int .i64 l, .int .i64 m] w fun e w' => e = .returned (.func (.func 86) #[] #[.pointer (some ⟨w.heap.size, 0, none⟩), .pointer (some ⟨w.heap.size + 1, 0, none⟩)]) ∧ Bds w' w.heap.size (w.heap.size + 1) l m ∧ Ext w w' := by
  refine (spanWithin_any l m w).mono ?_
  rintro e w' ⟨rfl, rfl⟩
  exact ⟨rfl, bds_new w l m, ((Ext.refl w).alloc _).alloc _⟩

theorem isLess_asks (w : World) : Asks2 Try.prog 71 #[] (fun _ _ => True) (fun x y => decide (x < y)) w := by
  intro x y _ w' _
  refine (isLess_any x y w').mono ?_
  rintro e w'' ⟨rfl, rfl⟩
  exact ⟨by rw [show decide ((x : Int) < (y : Int)) = decide (x < y) by simp], rfl⟩

theorem next_inc {p : Prof} (h : OkP p) : nextB (fun x y => decide (x < y)) p.A (p.A.length - 1) = true := by
  rw [nextB_true]
  intro k hk
  have := h.a_lt (show k < k + 1 by omega) (by omega)
  simpa [Prof.a] using this

set_option maxRecDepth 100000 in
set_option maxHeartbeats 4000000 in
theorem check_ok (v : PV) (w : World) (hp : IsP w v) (hk : OkP v.p) :
    Calls Try.prog 39 #[v.v] w fun e w' => e = .returned (.int .i64 0) ∧ Ext w w' := by
  have HP := Lib.hid hp; clear hp
  have HF := Lib.hid (five_new w v)
  have HX := Lib.hid ((Ext.refl w).alloc (.cells #[.slice v.at'.a v.at'.l.length v.at'.c, .slice v.gr.a v.gr.l.length v.gr.c, .int .i64 (v.T : Int), .int .i64 (v.lo : Int), .int .i64 (v.hi : Int)] 30))
  obtain ⟨c0, c1, c2, c3, c4⟩ := HF.out
  have hn1 := hk.n1
  have hn2 := hk.n2
  have hgl := hk.gl
  have htb := hk.tb
  obtain ⟨hb1, hb2⟩ := hk.bb
  dsimp only at hn1 hn2 hgl htb hb1 hb2
  have HAll : Hid (v.at'.l.all (fun n : Nat => decide ((0 : Int) ≤ (n : Int)) && decide ((n : Int) ≤ 20000)) = true) := by
    show _ = _; rw [List.all_eq_true]; intro x hx; have := hk.ab x hx; simp; omega
  have HAllG : Hid (v.gr.l.all (fun x : Nat × Nat => decide ((0 : Int) ≤ (x.1 : Int)) && (decide ((x.1 : Int) ≤ (x.2 : Int)) && decide ((x.2 : Int) ≤ 1000000))) = true) := by
    show _ = _; rw [List.all_eq_true]; intro x hx; have := hk.gb x hx; simp; omega
  have HNx := Lib.hid (next_inc hk)
  clear hk
  have d1 : (decide ((2 : Int) ≤ (v.at'.l.length : Int)) && decide ((v.at'.l.length : Int) ≤ 40)) = true := by simp; omega
  have d2 : ((v.gr.l.length : Int) != (v.at'.l.length : Int)) = false := by rw [bne_eq_false_iff_eq]; omega
  clear hgl
  go_enter Try.func39, Try.ntmps39
  go_wp2_with (go_at_call 59; refine (between_any _ _ _ _).mono ?_; rintro e w' ⟨rfl, rfl⟩; rw [d1])
  have KS : Hid (∀ w', Ext w w' → w'.cell? ⟨w.heap.size, 0, none⟩ = w'.cell? ⟨w.heap.size, 0, none⟩) := fun _ _ => rfl
  clear KS
  obtain ⟨w1, hw1⟩ : ∃ w1, w.alloc (.cells #[.slice v.at'.a v.at'.l.length v.at'.c, .slice v.gr.a v.gr.l.length v.gr.c, .int .i64 (v.T : Int), .int .i64 (v.lo : Int), .int .i64 (v.hi : Int)] 30) = w1 := ⟨_, rfl⟩
  rw [hw1] at HF HX c0 c1 c2 c3 c4 ⊢
  clear hw1
  have HR := Lib.hid (Ext.refl w1)
  have b1 : (decide ((0 : Int) ≤ (v.lo : Int)) && (decide ((v.lo : Int) ≤ (v.hi : Int)) && decide ((v.hi : Int) ≤ 1000))) = true := by simp; omega
  have b2 : (decide ((0 : Int) ≤ (v.T : Int)) && decide ((v.T : Int) ≤ 2000)) = true := by simp; omega
  have HB1 := Lib.hid b1; clear b1
  have HB2 := Lib.hid b2; clear b2
  go_region_held3 (fun w' => w'.cell? ⟨w.heap.size, 0, none⟩ = some (.slice v.at'.a v.at'.l.length v.at'.c) ∧ w'.cell? ⟨w.heap.size, 1, none⟩ = some (.slice v.gr.a v.gr.l.length v.gr.c) ∧ w'.cell? ⟨w.heap.size, 2, none⟩ = some (.int .i64 (v.T : Int)) ∧ w'.cell? ⟨w.heap.size, 3, none⟩ = some (.int .i64 (v.lo : Int)) ∧ w'.cell? ⟨w.heap.size, 4, none⟩ = some (.int .i64 (v.hi : Int))) ((refine HF.out.ext ?_; (repeat (first | exact HR.out | refine Ext.trans ?_ (by assumption) | refine Ext.alloc ?_ _ | refine Ext.drew ?_))))
    (first
      | (go_at_call 67; refine (within_bds _ _ _).mono ?_; rintro e wa ⟨rfl, hB, hxa⟩)
      | (go_at_call 69; refine (spanWithin_bds _ _ _).mono ?_; rintro e wa ⟨rfl, hB, hxa⟩)
      | (go_at_call 45; refine (every_int 85 _ (fun _ => True) _ _ _ _ v.at'.l _ enters_85 rfl (HP.out.at'.ext (HX.out.trans ?_)) (fun _ _ => trivial) (within_asks 0 20000 _ _ _ (by assumption))).mono ?_; (repeat (first | exact HR.out | refine Ext.trans ?_ (by assumption) | refine Ext.alloc ?_ _ | refine Ext.drew ?_)); rintro e wa ⟨rfl, hxa⟩; rw [HAll.out])
      | (go_at_call 68; refine (every_span 86 _ (fun _ => True) _ _ _ _ v.gr.l _ enters_86 rfl (HP.out.gr.ext (HX.out.trans ?_)) (fun _ _ => trivial) (spanWithin_asks 0 1000000 _ _ _ (by assumption))).mono ?_; (repeat (first | exact HR.out | refine Ext.trans ?_ (by assumption) | refine Ext.alloc ?_ _ | refine Ext.drew ?_)); rintro e wa ⟨rfl, hxa⟩; rw [HAllG.out])
      | (go_at_call 59; refine (between_any _ _ _ _).mono ?_; rintro e wa ⟨rfl, rfl⟩; rw [HB2.out])
      | (go_at_call 86; refine (spanWithin1_any _ _ 0 1000 _ _ _ (by assumption)).mono ?_; rintro e wa ⟨rfl, hxa⟩; rw [HB1.out]))
  rename_i hHeld
  have hr2 : Ext w1 wa := by
    (repeat (first | exact HR.out | refine Ext.trans ?_ (by assumption) | refine Ext.alloc ?_ _ | refine Ext.drew ?_))
  clear hHeld
  clear c0 c1 c2 c3 c4
  have HX2 : Hid (Ext w wa) := HX.out.trans hr2
  have c0 := (HF.out.ext hr2).1
  clear hr2
  have HNc : Hid (∀ w2, Ext w w2 → Calls Try.prog 70 #[.slice v.at'.a v.at'.l.length v.at'.c, .func (.func 71) #[] #[]] w2 fun e w' => e = .returned (.bool true) ∧ Ext w2 w') := by
    intro w2 h2
    refine (everyNext_any 71 #[] (fun _ _ => True) (fun x y => decide (x < y)) v.at' w2 enters_71 (HP.out.at'.ext h2) (fun _ _ => trivial) (isLess_asks w2)).mono ?_
    rintro e w' ⟨rfl, h⟩
    exact ⟨by rw [HNx.out], h⟩
  go_wp2_with fail
  refine (HNc.out _ HX2.out).mono ?_
  rintro e w2 ⟨rfl, hx2⟩
  have HX3 : Hid (Ext w w2) := HX2.out.trans hx2
  clear hx2
  go_wp2
  go_ret
  exact ⟨rfl, HX3.out⟩

set_option maxRecDepth 100000 in
set_option maxHeartbeats 1000000 in
theorem places_any (v : PV) (i j : Nat) (w : World) (hk : OkP v.p) (hi : i < v.at'.l.length) (hj : j < v.at'.l.length) :
    Calls Try.prog 48 #[v.v, .int .i64 (i : Int), .int .i64 (j : Int)] w fun e w' => e = .returned (.bool (decide (i ≠ j))) ∧ Ext w w' := by
  have hn2 := hk.n2
  dsimp only at hn2
  clear hk
  have HF := Lib.hid (five_new w v)
  obtain ⟨c0, c1, c2, c3, c4⟩ := HF.out
  have HX := Lib.hid ((Ext.refl w).alloc (.cells #[.slice v.at'.a v.at'.l.length v.at'.c, .slice v.gr.a v.gr.l.length v.gr.c, .int .i64 (v.T : Int), .int .i64 (v.lo : Int), .int .i64 (v.hi : Int)] 30))
  go_enter Try.func48, Try.ntmps48
  go_wp2_with fail
  refine (within_bds _ _ _).mono ?_
  rintro e w1 ⟨rfl, hB, hx1⟩
  simp only [World.size_alloc] at hB
  have HX1 : Hid (Ext w w1) := HX.out.trans hx1
  clear hx1 HX HF c0 c1 c2 c3 c4
  have d1 : (decide ((0 : Int) ≤ (i : Int)) && decide ((i : Int) ≤ (v.at'.l.length : Int) - 1)) = true := by simp; omega
  have d2 : (decide ((0 : Int) ≤ (j : Int)) && decide ((j : Int) ≤ (v.at'.l.length : Int) - 1)) = true := by simp; omega
  have hA := Lib.hid (fun n => within1_any n _ _ _ _ w1 hB)
  clear hB
  have d3 : ((i : Int) != (j : Int)) = decide (i ≠ j) := by
    by_cases h : i = j
    · subst h; simp
    · rw [decide_eq_true h, bne_iff_ne]; omega
  have HD3 := Lib.hid d3; clear d3
  go_wp2_with (go_at_call 85; refine (hA.out _).mono ?_; rintro e w' ⟨rfl, rfl⟩; first | rw [d1] | rw [d2])
  go_ret
  exact ⟨by rw [HD3.out]; rfl, HX1.out⟩

set_option maxHeartbeats 1000000 in
theorem checkPair_any (v : PV) (i j : Nat) (w : World) (hp : IsP w v) (hk : OkP v.p) (hi : i < v.at'.l.length) (hj : j < v.at'.l.length) :
    Calls Try.prog 56 #[v.v, .int .i64 (i : Int), .int .i64 (j : Int)] w fun e w' => e = .returned (.int .i64 (if i = j then 2 else 0)) ∧ Ext w w' := by
  have HF := Lib.hid (five_new w v)
  have HX := Lib.hid ((Ext.refl w).alloc (.cells #[.slice v.at'.a v.at'.l.length v.at'.c, .slice v.gr.a v.gr.l.length v.gr.c, .int .i64 (v.T : Int), .int .i64 (v.lo : Int), .int .i64 (v.hi : Int)] 30))
  have HC := Lib.hid (fun w1 (h : Ext w w1) => check_ok v w1 (hp.ext h) hk)
  have HPl := Lib.hid (fun w1 => places_any v i j w1 hk hi hj)
  clear hp hk hi hj
  obtain ⟨r, hr⟩ : ∃ r : Int, (if i = j then 2 else 0) = r := ⟨_, rfl⟩
  rw [hr]
  have HR := Lib.hid hr; clear hr
  obtain ⟨c0, c1, c2, c3, c4⟩ := HF.out
  go_enter Try.func56, Try.ntmps56
  go_wp2_with fail
  clear c0 c1 c2 c3 c4
  refine (HC.out _ HX.out).mono ?_
  rintro e w1 ⟨rfl, hx1⟩
  have HX1 : Hid (Ext w w1) := HX.out.trans hx1
  have HF1 := Lib.hid (HF.out.ext hx1)
  clear hx1 HX HF
  obtain ⟨c0, c1, c2, c3, c4⟩ := HF1.out
  go_wp2_with fail
  clear c0 c1 c2 c3 c4
  refine (HPl.out _).mono ?_
  rintro e w2 ⟨rfl, hx2⟩
  have HX2 : Hid (Ext w w2) := HX1.out.trans hx2
  clear hx2
  by_cases h : i = j
  · have d : decide (i ≠ j) = false := by simp [h]
    rw [d]
    have HI := Lib.hid h
    clear d h
    go_wp2
    go_ret
    exact ⟨by rw [← HR.out, if_pos HI.out]; rfl, HX2.out⟩
  · have d : decide (i ≠ j) = true := by simp [h]
    rw [d]
    have HI := Lib.hid h
    clear d h
    go_wp2
    go_ret
    exact ⟨by rw [← HR.out, if_neg HI.out]; rfl, HX2.out⟩

set_option maxHeartbeats 1000000 in
theorem checkPillars_ok (v : PV) (s : SL Nat) (w : World) (hp : IsP w v) (hk : OkP v.p) (hs : IsSl 1 num w s) (hl : ∀ x ∈ s.l, x < v.at'.l.length) :
    Calls Try.prog 42 #[v.v, .slice s.a s.l.length s.c] w fun e w' => e = .returned (.int .i64 0) ∧ Ext w w' := by
  have HF := Lib.hid (five_new w v)
  have HX := Lib.hid ((Ext.refl w).alloc (.cells #[.slice v.at'.a v.at'.l.length v.at'.c, .slice v.gr.a v.gr.l.length v.gr.c, .int .i64 (v.T : Int), .int .i64 (v.lo : Int), .int .i64 (v.hi : Int)] 30))
  have HC := Lib.hid (fun w1 (h : Ext w w1) => check_ok v w1 (hp.ext h) hk)
  have hn2 := hk.n2
  dsimp only at hn2
  have HS := Lib.hid hs; clear hs
  have HAll : Hid (s.l.all (fun n : Nat => decide ((0 : Int) ≤ (n : Int)) && decide ((n : Int) ≤ (v.at'.l.length : Int) - 1)) = true) := by
    show _ = _; rw [List.all_eq_true]; intro x hx; have := hl x hx; simp; omega
  clear hp hk hl
  obtain ⟨c0, c1, c2, c3, c4⟩ := HF.out
  go_enter Try.func42, Try.ntmps42
  go_wp2_with fail
  clear c0 c1 c2 c3 c4
  refine (HC.out _ HX.out).mono ?_
  rintro e w1 ⟨rfl, hx1⟩
  have HX1 : Hid (Ext w w1) := HX.out.trans hx1
  have HF1 := Lib.hid (HF.out.ext hx1)
  clear hx1 HX HF
  obtain ⟨c0, c1, c2, c3, c4⟩ := HF1.out
  go_wp2_with fail
  clear c0 c1 c2 c3 c4
  refine (within_bds _ _ _).mono ?_
  rintro e w2 ⟨rfl, hB, hx2⟩
  have HX2 : Hid (Ext w w2) := HX1.out.trans hx2
  have HB := Lib.hid hB
  clear hB hx2
  go_wp2_with fail
  refine (every_int 85 _ (fun _ => True) _ _ _ _ s.l _ enters_85 rfl (HS.out.ext HX2.out) (fun _ _ => trivial) (within_asks 0 ((v.at'.l.length : Int) - 1) _ _ _ HB.out)).mono ?_
  rintro e w3 ⟨rfl, hx3⟩
  rw [HAll.out]
  have HX3 : Hid (Ext w w3) := HX2.out.trans hx3
  clear hx3
  go_wp2
  go_ret
  exact ⟨rfl, HX3.out⟩
end Go.Proofs.Ytfognlealnhodaa
