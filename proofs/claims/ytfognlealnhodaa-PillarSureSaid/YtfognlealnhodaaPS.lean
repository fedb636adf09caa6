/-
  PillarSure answers true for any bytes, any two numbers: what surely is seen is seen in each truth, and what can be seen is seen in some.
-/
import Derived.Test.YtfognlealnhodaaPT
import Derived.Test.YtfognlealnhodaaAK
import Derived.Test.YtfognlealnhodaaS
import Derived.Test.YtfognlealnhodaaR
import Derived.Test.YtfognlealnhodaaN
import Derived.Deep.QuietTactic
namespace Go.Proofs.Ytfognlealnhodaa
open Go.RowKit

/-- What Fold makes of a number. -/
def foldN (x : Int) (m : Nat) : Nat := ((x.tmod (m : Int) + (m : Int)).tmod (m : Int)).toNat
theorem foldN_spec (x : Int) (m : Nat) (hm : 1 ≤ m) : foldN x m < m ∧ (x.tmod (m : Int) + (m : Int)).tmod (m : Int) = (foldN x m : Int) := by
  have q := Int.tmod_lt_of_pos x (show (0 : Int) < m by omega)
  have q2 := Int.lt_tmod_of_pos x (show (0 : Int) < m by omega)
  have h0 := Int.tmod_nonneg (a := x.tmod (m : Int) + (m : Int)) (m : Int) (by omega)
  have h1 := Int.tmod_lt_of_pos (x.tmod (m : Int) + (m : Int)) (show (0 : Int) < m by omega)
  unfold foldN
  omega
theorem fold_q (x : Int) (m : Nat) (w : World) (hm : 1 ≤ m) (hm2 : m ≤ 1000000) : Calls Try.prog 20 #[.int .i64 x, .int .i64 (m : Int)] w fun e w' => e = .returned (.int .i64 (foldN x m : Int)) ∧ w = w' := by
  have d1 : decide ((m : Int) ≤ 0) = false := decide_eq_false (by omega)
  have h0 : ((m : Int) == 0) = false := by rw [beq_eq_false_iff_ne]; omega
  obtain ⟨hr1, hr2⟩ := foldN_spec x m hm
  have q := Int.tmod_lt_of_pos x (show (0 : Int) < m by omega)
  have q2 := Int.lt_tmod_of_pos x (show (0 : Int) < m by omega)
  generalize foldN x m = r at *
  obtain ⟨t, ht⟩ : ∃ t, x.tmod (m : Int) = t := ⟨_, rfl⟩
  rw [ht] at hr2 q q2
  have w1 : IntKind.i64.wrap t = t := IntWalk.i64_in _ (by omega)
  have w2 : IntKind.i64.wrap (t + (m : Int)) = t + (m : Int) := IntWalk.i64_in _ (by omega)
  have w3 : IntKind.i64.wrap (r : Int) = (r : Int) := IntWalk.i64_in _ (by omega)
  have hne : (m : Int) ≠ 0 := by omega
  have hn0 : m ≠ 0 := by omega
  go_enter Try.func20, Try.ntmps20
  go_wp2
  go_ret
  exact ⟨rfl, rfl⟩

set_option maxRecDepth 1000000 in
set_option maxHeartbeats 16000000 in
theorem sure_any (a0 a1 : Option Addr) (n0 c0 n1 c1 : Nat) (xa xb : Int) (w : World) (h0 : IsBytes w a0 n0 c0) (h1 : IsBytes w a1 n1 c1) :
    Calls Try.prog 4 #[.slice a0 n0 c0, .slice a1 n1 c1, .int .i64 xa, .int .i64 xb] w fun e w' => e = .returned (.bool true) ∧ Ext w w' := by
  have H1 := Lib.hid h1
  have H0 := Lib.hid h0
  clear h0 h1
  go_enter Try.func4, Try.ntmps4
  go_wp2_with fail
  refine (of_any a0 n0 c0 w H0.out).mono ?_
  rintro e w1 ⟨rfl, hd1, hx1⟩
  have HDa := Lib.hid hd1
  have HX1 := Lib.hid hx1
  clear hd1 hx1
  go_wp2_with fail
  refine (of_any a1 n1 c1 w1 (H1.out.ext HX1.out)).mono ?_
  rintro e w2 ⟨rfl, hd2, hx2⟩
  have HD1 := Lib.hid (HDa.out.ext hx2)
  have HD2 := Lib.hid hd2
  have HX2 : Hid (Ext w w2) := HX1.out.trans hx2
  have hw1 : w.heap.size < w1.heap.size := HDa.out.lt
  have hb1 : ∀ b off, a1 = some ⟨b, off, none⟩ → 0 < n1 → b < w.heap.size := fun b off ha hn => by
    obtain ⟨_, _, h3⟩ := H1.out
    obtain ⟨b', off', ha', hc⟩ := h3.resolve_left (by omega)
    rw [ha] at ha'
    cases ha'
    obtain ⟨x, _, hx⟩ := hc 0 hn
    exact lt_of_cell hx
  have HB1 := Lib.hid hb1
  clear hd2 hx2 HDa hb1
  obtain ⟨D2, hD2⟩ : ∃ D2, w1.heap.size = D2 := ⟨_, rfl⟩
  rw [hD2] at HD2 hw1
  go_wp2_with fail
  clear hD2
  refine (made_any w.heap.size a0 n0 c0 0 10 w2 HD1.out (by omega) (by omega) (by omega)).mono ?_
  rintro e w3 ⟨v, T, k3, rfl, hok, hm10, hgl, hhi, hgb, htl, htr, hoA, hoG, hoT, -, -, hk3⟩
  have h2w : D2 < w2.heap.size := HD2.out.lt
  have HD3 : Hid (IsDeck w3 D2 a1 n1 c1 0) := HD2.out.keepD hk3 (show D2 ≠ w.heap.size by omega) (fun b off ha hn => by have := HB1.out b off ha hn; omega)
  have HX3 : Hid (Ext w w3) := ext_keep HX2.out hk3 (fun i hi => by omega)
  have HOk := Lib.hid hok
  have hM : v.at'.l.length ≤ 10 ∧ 2 ≤ v.at'.l.length := ⟨hm10, hok.n1⟩
  have HPp : Hid (IsP w3 v) := ⟨own_sl hoA (show v.at'.l.length ≤ 1000000 by omega), own_slG hoG (show v.gr.l.length ≤ 1000000 by omega)⟩
  have HAp : Hid (∀ g off, (v.at'.a = some ⟨g, off, none⟩ → w2.heap.size ≤ g) ∧ (v.gr.a = some ⟨g, off, none⟩ → w2.heap.size ≤ g)) := fun g off => ⟨fun e => (own_type hoA (k := g) (by rw [show v.at'.v = .slice v.at'.a v.at'.l.length v.at'.c from rfl, e]; rfl)).1, fun e => (own_type hoG (k := g) (by rw [show v.gr.v = .slice v.gr.a v.gr.l.length v.gr.c from rfl, e]; rfl)).1⟩
  have HTr : Hid (T.l.length = v.gr.l.length ∧ truthTo T.l v.gr.l T.l.length = true) := ⟨by rw [htl, hgl], by rw [htl]; exact htr⟩
  have HGb : Hid (v.gr.l.length = v.at'.l.length ∧ v.hi ≤ 1000 ∧ ∀ s ∈ v.gr.l, s.1 ≤ s.2 ∧ s.2 ≤ 1000) := ⟨hgl, hhi, fun s hs => by have := hgb s hs; omega⟩
  clear hoA hoG hoT hk3 hok hm10 hgl hhi hgb htl htr HD1 HD2 HX2 HX1
  have HF := Lib.hid (five_new w3 v)
  have HX4 : Hid (Ext w3 (w3.alloc (.cells #[.slice v.at'.a v.at'.l.length v.at'.c, .slice v.gr.a v.gr.l.length v.gr.c, .int .i64 (v.T : Int), .int .i64 (v.lo : Int), .int .i64 (v.hi : Int)] 30))) := (Ext.refl w3).alloc _
  have HDl : Hid (D2 < w3.heap.size) := HD3.out.lt
  obtain ⟨t0, t1, t2, t3, t4⟩ := HF.out
  go_wp2_with fail
  generalize w3.alloc (.cells #[.slice v.at'.a v.at'.l.length v.at'.c, .slice v.gr.a v.gr.l.length v.gr.c, .int .i64 (v.T : Int), .int .i64 (v.lo : Int), .int .i64 (v.hi : Int)] 30) = w4 at *
  generalize w3.heap.size = pb at *
  obtain ⟨M, hMe⟩ : ∃ M, v.at'.l.length = M := ⟨_, rfl⟩
  have HMe := Lib.hid hMe
  rw [hMe] at t0 hM
  have HFo : Hid (∀ z n, Calls Try.prog 20 #[.int .i64 z, .int .i64 (M : Int)] (w4.drewN n) fun e w'' => e = .returned (.int .i64 (foldN z M : Int)) ∧ ∃ m, w'' = w4.drewN m) := fun z n => quiet_same ((fold_q z M (w4.drewN n) (by omega) (by omega)))
  clear hMe
  go_quiet ((go_at_call 20; exact HFo.out _ _))
  have HX5 : Hid (Ext w3 (w4.drewN nq)) := HX4.out.drewN nq
  have HF5 := Lib.hid (HF.out.ext ((Ext.refl w4).drewN nq))
  have hij := (foldN_spec xa M (by omega)).1
  have hij2 := (foldN_spec xb M (by omega)).1
  generalize foldN xa M = i at *
  generalize foldN xb M = j at *
  clear HFo t0 t1 t2 t3 t4 HF HX4
  generalize w4.drewN nq = w5 at *
  obtain ⟨t0, t1, t2, t3, t4⟩ := HF5.out
  have HPv : Hid (∀ w', Ext w3 w' → IsP w' v) := fun w' h => HPp.out.ext h
  by_cases hne : i = j
  · subst hne
    go_wp2_with fail
    refine (sees_same v i w5 (HPv.out _ HX5.out) HOk.out (by rw [HMe.out]; exact hij)).mono ?_
    rintro e w6 ⟨rfl, hx6⟩
    have HX6 : Hid (Ext w w6) := (HX3.out.trans HX5.out).trans hx6
    clear hx6
    go_wp2_with (go_at_call 19; refine (awake_ok _).mono ?_; rintro e w7 ⟨rfl, hx7⟩; have HX7 : Hid (Ext w w7) := HX6.out.trans hx7; clear hx7)
    go_ret
    exact ⟨rfl, HX7.out⟩
  · go_wp2_with fail
    refine (sees_ok v i j w5 (HPv.out _ HX5.out) HOk.out (by rw [HMe.out]; exact hij) (by rw [HMe.out]; exact hij2) hne).mono ?_
    rintro e w6 ⟨rfl, hx6⟩
    have HX6 : Hid (Ext w3 w6) := HX5.out.trans hx6
    obtain ⟨t0, t1, t2, t3, t4⟩ := HF5.out.ext hx6
    have HF6 := Lib.hid (HF5.out.ext hx6)
    have hb0 : ((i : Int) == (j : Int)) = false := by rw [beq_eq_false_iff_ne]; omega
    clear hx6
    have HCn : Hid (seeF true v.p i j = true → seeF false v.p i j = true) := fun h => by
      have htr := HTr.out
      have hlo : inB v.lo (v.lo, v.hi) = true := by have := HOk.out.bb; simp only [inB, Bool.and_eq_true, decide_eq_true_eq]; dsimp only at this ⊢; omega
      have q := see_truth HOk.out (h := T.l) (bend := v.lo) htr.1 htr.2 hlo (i := i) (j := j) (by show i < v.at'.l.length; rw [HMe.out]; exact hij) (by show j < v.at'.l.length; rw [HMe.out]; exact hij2) true
      exact q.2 (q.1 h)
    have HAd : Hid (max i j = min i j + 1 → seeF true v.p i j = true) := fun h => seeF_next h
    obtain ⟨cB, hcB⟩ : ∃ b, seeF false v.p i j = b := ⟨_, rfl⟩
    obtain ⟨sB, hsB⟩ : ∃ b, seeF true v.p i j = b := ⟨_, rfl⟩
    have hse := sees_ok v j i w6 (HPv.out _ HX6.out) HOk.out (by rw [HMe.out]; exact hij2) (by rw [HMe.out]; exact hij) (fun e => hne e.symm)
    rw [seeF_comm false v.p j i, seeF_comm true v.p j i, hcB, hsB] at hse
    have HSe := Lib.hid hse
    have HCn2 : Hid (sB = true → cB = true) := fun h => by rw [← hcB]; exact HCn.out (by rw [hsB]; exact h)
    have HAd2 : Hid (max i j = min i j + 1 → sB = true) := fun h => by rw [← hsB]; exact HAd.out h
    rw [hcB, hsB]
    have HcB := Lib.hid hcB
    have HsB := Lib.hid hsB
    clear hcB hsB hse HCn HAd
    go_wp2_with fail
    refine HSe.out.mono ?_
    rintro e w7 ⟨rfl, hx7⟩
    have HX7 : Hid (Ext w3 w7) := HX6.out.trans hx7
    obtain ⟨t0, t1, t2, t3, t4⟩ := HF6.out.ext hx7
    have HF7 := Lib.hid (HF6.out.ext hx7)
    rw [HMe.out] at t0
    clear hx7 HSe HF6 HF5 HX6 HX5
    have hw1 : IntKind.i64.wrap ((i : Int) - (j : Int)) = (i : Int) - (j : Int) := IntWalk.i64_in _ (by omega)
    have hw2 : IntKind.i64.wrap ((j : Int) - (i : Int)) = (j : Int) - (i : Int) := IntWalk.i64_in _ (by omega)
    obtain ⟨z, hz⟩ : ∃ z : Int, (if (i : Int) - (j : Int) < (j : Int) - (i : Int) then (j : Int) - (i : Int) else (i : Int) - (j : Int)) = z := ⟨_, rfl⟩
    have hcase : (sB = true ∧ cB = true ∧ (z == 1) = true) ∨ (sB = true ∧ cB = true ∧ (z == 1) = false) ∨ (sB = false ∧ (z == 1) = false) := by
      cases hs : sB
      · right; right
        refine ⟨rfl, ?_⟩
        rw [beq_eq_false_iff_ne]
        intro hz1
        have := HAd2.out (by rw [hz1] at hz; split at hz <;> omega)
        rw [hs] at this; cases this
      · have hc := HCn2.out hs
        cases hb : (z == 1)
        · exact .inr (.inl ⟨rfl, hc, rfl⟩)
        · exact .inl ⟨rfl, hc, rfl⟩
    have hmk := run_make_row' (P := Try.prog) 25 3 (.int .i64 0) 8 Try.underlying25 info3 rfl .i64 .i64 M (by omega) (by omega)
    rw [made0] at hmk
    clear HCn2 HAd2
    have HSW : Hid (SW w7 D2 pb a1 n1 c1 v) := by
      have hgb := HGb.out
      have hdl := HDl.out
      refine ⟨HPv.out _ HX7.out, HOk.out, HF7.out, HD3.out.ext HX7.out, ⟨hgb.1, by rw [HMe.out]; exact hM.1⟩, hgb.2.1, hgb.2.2, by omega, fun g off => ⟨fun e => ?_, fun e => ?_⟩⟩
      · have := (HAp.out g off).1 e; omega
      · have := (HAp.out g off).2 e; omega
    have HXW : Hid (Ext w w7) := HX3.out.trans HX7.out
    have s0 : (w7.alloc (.cells (nums (List.replicate M 0)).toArray 3)).cell? ⟨pb, 0, none⟩ = some (.slice v.at'.a M v.at'.c) := ((Ext.refl w7).alloc _).cell t0
    obtain ⟨hr1, hr2⟩ := rows_new w7 M
    have HR1 := Lib.hid hr1
    have HR2 := Lib.hid hr2
    clear hr1 hr2
    have hD2w : w.heap.size ≤ D2 := by omega
    rcases hcase with ⟨rfl, rfl, hz1⟩ | ⟨rfl, rfl, hz1⟩ | ⟨rfl, hz1⟩
    all_goals
      go_wp2_with fail
      go_region
    all_goals
      repeat (first
      | exact sure_tail' _ D2 pb i j w7.heap.size (w7.heap.size + 1) M _ _ v a1 n1 c1 w w7 _ rfl HSW HMe hD2w HXW (by exact ext_drew (((Ext.refl w7).alloc (.cells (nums (List.replicate M 0)).toArray 3)).alloc (.cells (nums (List.replicate M 0)).toArray 3))) (by exact ⟨HR1.out, Nat.le_refl _⟩) (by exact ⟨HR2.out, Nat.le_succ _⟩) (by omega) hij hij2 hne HsB HcB
      | exact sure_tail' _ D2 pb i j (w7.heap.size + 1) w7.heap.size M _ _ v a1 n1 c1 w w7 _ rfl HSW HMe hD2w HXW (by exact ext_drew (((Ext.refl w7).alloc (.cells (nums (List.replicate M 0)).toArray 3)).alloc (.cells (nums (List.replicate M 0)).toArray 3))) (by exact ⟨HR2.out, Nat.le_succ _⟩) (by exact ⟨HR1.out, Nat.le_refl _⟩) (by omega) hij hij2 hne HsB HcB
      | go_step)
end Go.Proofs.Ytfognlealnhodaa
