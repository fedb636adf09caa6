/-
  Real of package pillar returns whether two places see each other in a truth. The profile must lie in memory as told and be right, and the heights and the bend must be a truth of it.
-/
import Derived.Test.YtfognlealnhodaaZ
namespace Go.Proofs.Ytfognlealnhodaa
open Go.RowKit

/-- The profile of which one truth is left. -/
def realP (p : Prof) (h : List Nat) (bend : Nat) : Prof := ⟨p.A, h.map fun x => (x, x), p.T, bend, bend⟩
abbrev realV (v : PV) (b : Nat) (h : List Nat) (bend : Nat) : PV := ⟨v.at', ⟨some ⟨b, 0, none⟩, h.length, h.map fun x => (x, x)⟩, v.T, bend, bend⟩

theorem truthTo_true {h : List Nat} {g : List (Nat × Nat)} {m : Nat} : truthTo h g m = true ↔ ∀ k, k < m → inB (h[k]?.getD 0) (g[k]?.getD (0, 0)) = true := by
  induction m with
  | zero => simp [truthTo]
  | succ m ih =>
    simp only [truthTo, Bool.and_eq_true, ih]
    constructor
    · rintro ⟨h1, h2⟩ k hk
      rcases Nat.lt_succ_iff_lt_or_eq.1 hk with h | rfl
      · exact h1 k h
      · exact h2
    · intro h; exact ⟨fun k hk => h k (by omega), h m (by omega)⟩
theorem realP_ok {p : Prof} {h : List Nat} {bend : Nat} (hk : OkP p) (hl : h.length = p.G.length) (ht : truthTo h p.G h.length = true) (hb : inB bend (p.lo, p.hi) = true) : OkP (realP p h bend) := by
  refine ⟨hk.n1, hk.n2, by show (h.map _).length = _; rw [List.length_map, hl]; exact hk.gl, hk.ab, ?_, hk.tb, ?_, hk.inc⟩
  · intro s hs
    obtain ⟨x, hx, rfl⟩ := List.mem_map.1 hs
    obtain ⟨k, hk1, rfl⟩ := List.getElem_of_mem hx
    have q := truthTo_true.1 ht k hk1
    rw [List.getElem?_eq_getElem hk1, List.getElem?_eq_getElem (show k < p.G.length by omega)] at q
    have g := hk.gb _ (List.getElem_mem (show k < p.G.length by omega))
    simp only [inB, Option.getD_some, Bool.and_eq_true, decide_eq_true_eq] at q
    exact ⟨Nat.le_refl _, Nat.le_trans q.2 g.2⟩
  · simp only [inB, Bool.and_eq_true, decide_eq_true_eq] at hb
    exact ⟨Nat.le_refl _, Nat.le_trans hb.2 hk.bb.2⟩
theorem SRow.sl {w : World} {b : Nat} {l : List Nat} (h : SRow w b l l.length) (hl : l.length ≤ 1000000) : IsSl 2 spC w ⟨some ⟨b, 0, none⟩, l.length, l.map fun x => (x, x)⟩ := by
  obtain ⟨cs, h1, h2, h3⟩ := h
  refine ⟨by simp, by simpa using hl, .inr ⟨b, 0, rfl, fun i hi j hj => ?_⟩⟩
  have hi' : i < l.length := by simpa using hi
  rw [cell_at h1, Nat.zero_add]
  have q := h3 i hi'
  rcases (show j = 0 ∨ j = 1 by omega) with rfl | rfl
  · rw [Nat.add_zero, q.1]; simp [spC]
  · rw [q.2]; simp [spC]

set_option maxRecDepth 100000 in
set_option maxHeartbeats 2000000 in
theorem real_ok (v : PV) (s : SL Nat) (bend i j : Nat) (w : World) (hp : IsP w v) (hk : OkP v.p) (hs : IsSl 1 num w s) (hl : s.l.length = v.at'.l.length) (hi : i < v.at'.l.length) (hj : j < v.at'.l.length) (hne : i ≠ j)
    (ht : truthTo s.l v.gr.l s.l.length = true) (hb : inB bend (v.lo, v.hi) = true) :
    Calls Try.prog 17 #[v.v, .slice s.a s.l.length s.c, .int .i64 (bend : Int), .int .i64 (i : Int), .int .i64 (j : Int)] w fun e w' => e = .returned (.tuple #[.bool (seeF true (realP v.p s.l bend) i j), .int .i64 0]) ∧ Ext w w' := by
  have HF := Lib.hid (five_new w v)
  have HX := Lib.hid ((Ext.refl w).alloc (.cells #[.slice v.at'.a v.at'.l.length v.at'.c, .slice v.gr.a v.gr.l.length v.gr.c, .int .i64 (v.T : Int), .int .i64 (v.lo : Int), .int .i64 (v.hi : Int)] 30))
  have HP := Lib.hid hp
  have HC := Lib.hid (fun w1 (h : Ext w w1) => check_ok v w1 (hp.ext h) hk)
  have hgl := hk.gl
  have hn2 := hk.n2
  dsimp only at hgl hn2
  have HPl : Hid (∀ w1, Calls Try.prog 48 #[v.v, .int .i64 (i : Int), .int .i64 (j : Int)] w1 fun e w' => e = .returned (.bool true) ∧ Ext w1 w') := fun w1 => by
    have q := places_any v i j w1 hk hi hj
    rwa [decide_eq_true hne] at q
  have HT : Hid (∀ w1, Ext w w1 → Calls Try.prog 49 #[v.v, .slice s.a v.at'.l.length s.c, .int .i64 (bend : Int)] w1 fun e w' => e = .returned (.bool true) ∧ Ext w1 w') := fun w1 hx => by
    have q := isTruth_any v s bend w1 (hp.ext hx) (hs.ext hx) (by rw [hl, hgl])
    rw [ht, hb] at q
    rwa [hl] at q
  have HKn : Hid (∀ w1, Ext w w1 → Calls Try.prog 50 #[v.v, .slice s.a v.at'.l.length s.c, .int .i64 (bend : Int)] w1 fun e w' => ∃ b, e = .returned (realV v b s.l bend).v ∧ IsP w' (realV v b s.l bend) ∧ Ext w1 w') := fun w1 hx => by
    have q := known_any v s bend w1 (hs.ext hx) (by omega)
    rw [hl] at q
    refine Calls.mono q ?_
    rintro e w' ⟨b, rfl, hr, hx2⟩
    rw [← hl] at hr
    refine ⟨b, ?_, ⟨(hp.ext (hx.trans hx2)).at', hr.sl (by omega)⟩, hx2⟩
    simp only [PV.v, List.length_map, hl]
  have HOk : Hid (∀ b, OkP (realV v b s.l bend).p) := fun b => realP_ok hk (by rw [hl]; exact hgl.symm) ht hb
  have HSee : Hid (∀ (B b : Nat) (w1 : World), Wk w1 B true (realV v b s.l bend) (allF true (realV v b s.l bend).p) → Calls Try.prog 51 #[.pointer (some ⟨B, 0, none⟩), .int .i64 (i : Int), .int .i64 (j : Int)] w1 fun e w' => e = .returned (.bool (seeF true (realP v.p s.l bend) i j)) ∧ w1 = w') := fun B b w1 h => by
    have q := see_any B true (realV v b s.l bend) _ i j w1 h (by omega) (by omega) hne
    rwa [allF_see true _ i j hi hj hne] at q
  generalize seeF true (realP v.p s.l bend) i j = r at *
  rw [hl]
  clear hp hk hs hl hi hj hne ht hb hgl hn2
  obtain ⟨c0, c1, c2, c3, c4⟩ := HF.out
  go_enter Try.func17, Try.ntmps17
  go_wp2_with fail
  clear c0 c1 c2 c3 c4
  refine (HC.out _ HX.out).mono ?_
  rintro e w1 ⟨rfl, hx1⟩
  have HX1 : Hid (Ext w w1) := HX.out.trans hx1
  have HF1 := Lib.hid (HF.out.ext hx1)
  clear hx1 HX HF HC
  obtain ⟨c0, c1, c2, c3, c4⟩ := HF1.out
  go_wp2_with fail
  refine (HPl.out _).mono ?_
  rintro e w2 ⟨rfl, hx2⟩
  have HX2 : Hid (Ext w w2) := HX1.out.trans hx2
  have HF2 := Lib.hid (HF1.out.ext hx2)
  clear hx2 c0 c1 c2 c3 c4
  obtain ⟨c0, c1, c2, c3, c4⟩ := HF2.out
  go_wp2_with fail
  clear c0 c1 c2 c3 c4
  refine (HT.out _ HX2.out).mono ?_
  rintro e w3 ⟨rfl, hx3⟩
  have HX3 : Hid (Ext w w3) := HX2.out.trans hx3
  have HF3 := Lib.hid (HF2.out.ext hx3)
  clear hx3
  obtain ⟨c0, c1, c2, c3, c4⟩ := HF3.out
  go_wp2_with fail
  clear c0 c1 c2 c3 c4
  refine (HKn.out _ HX3.out).mono ?_
  rintro e w4 ⟨b, rfl, hq, hx4⟩
  have HX4 : Hid (Ext w w4) := HX3.out.trans hx4
  have HQ := Lib.hid hq
  clear hx4 hq
  go_wp2_with fail
  refine (inDark_any (realV v b s.l bend) _ HQ.out (HOk.out b)).mono ?_
  rintro e w5 ⟨B, rfl, hW, hle, hx5⟩
  have HX5 : Hid (Ext w w5) := HX4.out.trans hx5
  have HW := Lib.hid hW
  clear hx5 hW hle
  go_wp2_with fail
  refine (HSee.out B b _ HW.out).mono ?_
  rintro e w6 ⟨rfl, rfl⟩
  go_wp2
  go_ret2
  exact ⟨rfl, HX5.out⟩
end Go.Proofs.Ytfognlealnhodaa
