/-
  Check of package barter answers OK for a land that is right, and checkExchange for an exchange that is valid. They must lie in memory as told.
-/
import Derived.Test.YtlaolokakaheaaaNW
import Derived.Deep.QuietTactic
import Derived.BigQuiet
import Derived.Deep.RegionHeld3
import Derived.Deep.DeepCutAuto
namespace Go.Proofs.Ytlaolokakaheaaa
open Go.RowKit

theorem between_yes (n a b : Int) (h1 : a ≤ n) (h2 : n ≤ b) (w : World) : Calls Try.prog 34 #[.int .i64 n, .int .i64 a, .int .i64 b] w fun e w' => e = .returned (.bool true) ∧ w = w' := by
  refine (between_any n a b w).mono ?_
  rintro e w' ⟨rfl, rfl⟩
  exact ⟨by rw [decide_eq_true h1, decide_eq_true h2]; rfl, rfl⟩
theorem within1_yes (n l m : Int) (b1 b2 : Nat) (w : World) (h : Bds w b1 b2 l m) (h1 : l ≤ n) (h2 : n ≤ m) :
    Calls Try.prog 64 #[.int .i64 n, .pointer (some ⟨b1, 0, none⟩), .pointer (some ⟨b2, 0, none⟩)] w fun e w' => e = .returned (.bool true) ∧ w = w' := by
  refine (within1_any n l m b1 b2 w h).mono ?_
  rintro e w' ⟨rfl, rfl⟩
  exact ⟨by rw [decide_eq_true h1, decide_eq_true h2]; rfl, rfl⟩

set_option maxRecDepth 100000 in
set_option maxHeartbeats 2000000 in
theorem checkStretch_ok (x : Ld) (st : St) (w : World) (hv : IsSl 1 num w x.v) (ho : st.o ≤ 1) (hn : 1 ≤ st.n ∧ st.n ≤ 1000) (hs : 1 ≤ st.s ∧ st.s ≤ 1000) (hw : st.w = -1 ∨ ∃ k : Nat, st.w = (k : Int) ∧ k < x.v.l.length ∧ x.v.l[k]?.getD 0 = st.o) :
    Calls Try.prog 47 #[x.val, .agg #[.int .i64 (st.o : Int), .int .i64 (st.n : Int), .int .i64 (st.s : Int), .int .i64 st.w]] w fun e w' => e = .returned (.int .i64 0) ∧ Ext w w' := by
  have HO := Lib.hid (fun V => between_yes (st.o : Int) 0 1 (by omega) (by omega) V)
  have HW := Lib.hid hw
  have HV := Lib.hid hv
  have hn1 : (1 : Int) ≤ st.n := by omega
  have hn2 : (st.n : Int) ≤ 1000 := by omega
  have hs1 : (1 : Int) ≤ st.s := by omega
  have hs2 : (st.s : Int) ≤ 1000 := by omega
  clear hv hw
  obtain ⟨⟨sa, sc, L⟩, ⟨va, vc, vl⟩⟩ := x
  obtain ⟨o, n, s, wl⟩ := st
  dsimp only at *
  have HX0 : Hid (Ext w ((w.alloc (.cells #[.slice sa L.length sc, .slice va vl.length vc] 26)).alloc (.cells #[.int .i64 (o : Int), .int .i64 (n : Int), .int .i64 (s : Int), .int .i64 wl] 41))) := ((Ext.refl w).alloc _).alloc _
  have HL0 : Hid (((w.alloc (.cells #[.slice sa L.length sc, .slice va vl.length vc] 26)).alloc (.cells #[.int .i64 (o : Int), .int .i64 (n : Int), .int .i64 (s : Int), .int .i64 wl] 41)).heap[w.heap.size]? = some (.cells #[.slice sa L.length sc, .slice va vl.length vc] 26 (0, 0))) := by
    refine (alloc_old ?_).trans (alloc_new ?_) <;> simp only [World.size_alloc] <;> omega
  have HS0 : Hid (((w.alloc (.cells #[.slice sa L.length sc, .slice va vl.length vc] 26)).alloc (.cells #[.int .i64 (o : Int), .int .i64 (n : Int), .int .i64 (s : Int), .int .i64 wl] 41)).heap[w.heap.size + 1]? = some (.cells #[.int .i64 (o : Int), .int .i64 (n : Int), .int .i64 (s : Int), .int .i64 wl] 41 (0, 0))) := alloc_new (by simp only [World.size_alloc])
  have HN := Lib.hid (fun V b1 b2 (h : Bds V b1 b2 1 1000) => within1_yes (n : Int) 1 1000 b1 b2 V h hn1 hn2)
  have HSx := Lib.hid (fun V b1 b2 (h : Bds V b1 b2 1 1000) => within1_yes (s : Int) 1 1000 b1 b2 V h hs1 hs2)
  go_enter Try.func47, Try.ntmps47
  go_wp2_with fail
  generalize (w.alloc (.cells #[.slice sa L.length sc, .slice va vl.length vc] 26)).alloc (.cells #[.int .i64 (o : Int), .int .i64 (n : Int), .int .i64 (s : Int), .int .i64 wl] 41) = V0 at *
  refine (within_any 1 1000 _).mono ?_
  rintro e w1 ⟨rfl, rfl⟩
  have HB := Lib.hid (bds_new V0 1 1000)
  have HX1 : Hid (Ext V0 ((V0.alloc (.cells #[.int .i64 1] 3)).alloc (.cells #[.int .i64 1000] 3))) := ((Ext.refl V0).alloc _).alloc _
  generalize (V0.alloc (.cells #[.int .i64 1] 3)).alloc (.cells #[.int .i64 1000] 3) = V1 at *
  generalize V0.heap.size = B at *
  have HX2 : Hid (Ext w V1) := HX0.out.trans HX1.out
  have HL2 := Lib.hid (HX1.out.block HL0.out)
  have HS2 := Lib.hid (HX1.out.block HS0.out)
  clear HX0 HL0 HS0 HX1
  obtain ⟨l0, l1⟩ := (⟨cell_at HL2.out 0, cell_at HL2.out 1⟩ : _ ∧ _)
  have q0 := cell_at HS2.out 0
  have q1 := cell_at HS2.out 1
  have q2 := cell_at HS2.out 2
  have q3 := cell_at HS2.out 3
  dsimp at l0 l1 q0 q1 q2 q3
  rcases HW.out with hw | ⟨k, hw, hk, hv⟩
  · subst hw
    go_wp2_with (first
      | (go_at_call 34; refine (HO.out _).mono ?_; rintro e w' ⟨rfl, rfl⟩)
      | (go_at_call_of 64 (Value.int IntKind.i64 (n : Int)); refine (HN.out _ _ _ HB.out).mono ?_; rintro e w' ⟨rfl, rfl⟩)
      | (go_at_call_of 64 (Value.int IntKind.i64 (s : Int)); refine (HSx.out _ _ _ HB.out).mono ?_; rintro e w' ⟨rfl, rfl⟩))
    go_ret
    exact ⟨rfl, HX2.out⟩
  · subst hw
    obtain ⟨vb, vo, hva, hvc⟩ := (HV.out.ext HX2.out).2.2.resolve_left (by dsimp only; omega)
    have cv := hvc k hk 0 (by omega)
    have ev : (vl[k] : Nat) = o := by have := hv; rw [List.getElem?_eq_getElem hk] at this; exact this
    dsimp only at hva cv
    rw [ev] at cv
    simp only [num, Nat.mul_one, Nat.add_zero] at cv
    subst hva
    have k0 : ((k : Int) == -1) = false := by simp
    have k1 : (0 : Int) ≤ k := by omega
    have k2 : (k : Int) < (vl.length : Int) := by omega
    have HK := Lib.hid (fun V => between_yes (k : Int) 0 ((vl.length : Int) - 1) (by omega) (by omega) V)
    have hvl : vl.length ≤ 1000000 := HV.out.2.1
    go_upto_region 8 with (first
      | (go_at_call_of 34 (Value.int IntKind.i64 (o : Int)); refine (HO.out _).mono ?_; rintro e w' ⟨rfl, rfl⟩)
      | (go_at_call_of 34 (Value.int IntKind.i64 (k : Int)); refine (HK.out _).mono ?_; rintro e w' ⟨rfl, rfl⟩)
      | (go_at_call_of 64 (Value.int IntKind.i64 (n : Int)); refine (HN.out _ _ _ HB.out).mono ?_; rintro e w' ⟨rfl, rfl⟩)
      | (go_at_call_of 64 (Value.int IntKind.i64 (s : Int)); refine (HSx.out _ _ _ HB.out).mono ?_; rintro e w' ⟨rfl, rfl⟩))
    go_quiet (fail)
    go_wp2
    go_ret
    exact ⟨rfl, HX2.out.drewN _⟩

theorem within_ans (l m : Int) (w : World) :
    Calls Try.prog 46 #[.int .i64 l, .int .i64 m] w fun e w' => ∃ b1 b2, e = .returned (.func (.func 64) #[] #[.pointer (some ⟨b1, 0, none⟩), .pointer (some ⟨b2, 0, none⟩)]) ∧ Ext w w' ∧ Bds w' b1 b2 l m := by
  refine (within_any l m w).mono ?_
  rintro e w' ⟨rfl, rfl⟩
  exact ⟨_, _, rfl, ((Ext.refl w).alloc _).alloc _, bds_new w l m⟩

set_option maxRecDepth 100000 in
set_option maxHeartbeats 2000000 in
theorem check_ok (x : Ld) (w : World) (h : StL w x.s) (hv : IsSl 1 num w x.v) (ok : OkL x.s.l x.v.l) :
    Calls Try.prog 26 #[x.val] w fun e w' => e = .returned (.int .i64 0) ∧ Ext w w' := by
  obtain ⟨h1, h2⟩ := h.le
  have HS := Lib.hid h; clear h
  have HV := Lib.hid hv; clear hv
  have HC := Lib.hid (fun (V : World) (k : Ext w V) (i : Nat) (hi : i < x.s.l.length) => checkStretch_ok x (at' x.s.l i) V (HV.out.ext k) (ok.ob _ (at_mem hi)) (ok.nb _ (at_mem hi)) (ok.sb _ (at_mem hi)) (ok.wb _ (at_mem hi)))
  have HE := Lib.hid (fun (V : World) (k : Ext w V) (b1 b2 : Nat) (hb : Bds V b1 b2 0 1) => every_int 64 #[.pointer (some ⟨b1, 0, none⟩), .pointer (some ⟨b2, 0, none⟩)] (fun _ => True) (fun n : Nat => decide ((0 : Int) ≤ (n : Int)) && decide ((n : Int) ≤ 1)) x.v.a x.v.l.length x.v.c x.v.l V enters_64 rfl (HV.out.ext k) (fun _ _ => trivial) (within_asks 0 1 b1 b2 V hb))
  have hall : (x.v.l.all fun n : Nat => decide ((0 : Int) ≤ (n : Int)) && decide ((n : Int) ≤ 1)) = true := by
    rw [List.all_eq_true]
    intro n hn
    have := ok.vb n hn
    rw [decide_eq_true (by omega), decide_eq_true (by omega)]; rfl
  rw [hall] at HE
  clear hall
  have HA := Lib.hid (fun V => between_yes (x.s.l.length : Int) 1 16 (by have := ok.l1; omega) (by have := ok.l2; omega) V)
  have hv2 := ok.v2
  clear ok
  obtain ⟨⟨a, c, l⟩, ⟨va, vc, vl⟩⟩ := x
  dsimp only at *
  have dv : decide ((8 : Int) < (vl.length : Int)) = false := decide_eq_false (by omega)
  have HL0 : Hid ((w.alloc (.cells #[.slice a l.length c, .slice va vl.length vc] 26)).heap[w.heap.size]? = some (.cells #[.slice a l.length c, .slice va vl.length vc] 26 (0, 0))) := alloc_new rfl
  have HX0 : Hid (Ext w (w.alloc (.cells #[.slice a l.length c, .slice va vl.length vc] 26))) := (Ext.refl w).alloc _
  go_enter Try.func26, Try.ntmps26
  go_upto_region 3 with (go_at_call 34; refine (HA.out _).mono ?_; rintro e w' ⟨rfl, rfl⟩)
  generalize w.alloc (.cells #[.slice a l.length c, .slice va vl.length vc] 26) = V0 at *
  have HCs : Hid (∀ V, Ext V0 V → V.cell? ⟨w.heap.size, 1, none⟩ = some (.slice va vl.length vc)) := fun V k => cell_at (k.block HL0.out) 1
  go_region_held3 (fun v => v.cell? ⟨w.heap.size, 1, none⟩ = some (.slice va vl.length vc))
    ((refine HCs.out _ ?_ <;> (repeat (first | exact Ext.refl _ | refine Ext.trans ?_ (by assumption) | refine Ext.drew ?_ | refine Ext.alloc ?_ _))))
    (first
      | (go_at_call 46; refine (within_ans 0 1 _).mono ?_; rintro e w3 ⟨b1, b2, rfl, hx3, hb⟩)
      | (go_at_call 45; refine (HE.out _ (HX0.out.trans ((Ext.refl V0).drew.trans hx3)) b1 b2 hb).mono ?_; rintro e w4 ⟨rfl, hx4⟩))
  have HX4 : Hid (Ext V0 w4) := ((Ext.refl V0).drew.trans hx3).trans hx4
  have HL4 := Lib.hid (HX4.out.block HL0.out)
  have HX5 : Hid (Ext w w4) := HX0.out.trans HX4.out
  clear hx3 hx4 hb HCs HL0 HX0 HX4 HE HA
  obtain ⟨l0, l1, -, -⟩ := (⟨cell_at HL4.out 0, cell_at HL4.out 1, trivial, trivial⟩ : _ ∧ _ ∧ True ∧ True)
  dsimp at l0 l1
  go_wp2
  clear l0 l1
  go_loopw [25] (fun s wr => ∃ k : Nat, k ≤ l.length ∧ s = .int .i64 (k : Int) ∧ Hid (Ext w wr) ∧ Hid (wr.heap[w.heap.size]? = some (.cells #[.slice a l.length c, .slice va vl.length vc] 26 (0, 0)))) (fun s _ => l.length - (intOf s).toNat)
  case atStart => exact ⟨0, Nat.zero_le _, rfl, HX5, HL4⟩
  case round =>
    clear HX5 HL4
    obtain ⟨wo, rfl⟩ : ∃ wo : World, wo = wr := ⟨_, rfl⟩
    obtain ⟨k, hk, rfl, HX, HL⟩ := hrel
    by_cases hlt : k < l.length
    · have dk : decide ((k : Int) < (l.length : Int)) = true := decide_eq_true (by omega)
      obtain ⟨b, off, ha, c0, c1, c2, c3⟩ := (HS.out.ext HX.out).cells hlt
      dsimp only at ha c0 c1 c2 c3
      subst ha
      have k1 : (0 : Int) ≤ k := by omega
      have k2 : (k : Int) < (l.length : Int) := by omega
      have HA : Hid (Ext wo (wo.alloc (.cells #[.int .i64 ((at' l k).o : Int), .int .i64 ((at' l k).n : Int), .int .i64 ((at' l k).s : Int), .int .i64 (at' l k).w] 41))) := (Ext.refl wo).alloc _
      have l0 := cell_at (HA.out.block HL.out) 0
      have l1 := cell_at (HA.out.block HL.out) 1
      dsimp at l0 l1
      go_wp2_with (go_at_call 47; refine (HC.out _ (HX.out.trans HA.out) k hlt).mono ?_; rintro e w6 ⟨rfl, hx6⟩; have HX6 := Lib.hid (HA.out.trans hx6); clear hx6)
      go_roundw
      case rel => exact ⟨k + 1, by omega, by go_num, HX.out.trans HX6.out, HX6.out.block HL.out⟩
      case measure => simp [intOf]; omega
    · have dk : decide ((k : Int) < (l.length : Int)) = false := decide_eq_false (by omega)
      go_wp2
      go_ret
      exact ⟨rfl, HX.out⟩
end Go.Proofs.Ytlaolokakaheaaa
