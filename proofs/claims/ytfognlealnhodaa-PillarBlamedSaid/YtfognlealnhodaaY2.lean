/-
  awake, of the statements on pillars, answers true: the examples of the chapter; nothing that was there is turned.
-/
import Derived.Test.YtfognlealnhodaaWO
import Derived.Test.YtfognlealnhodaaY
import Derived.Test.YtfognlealnhodaaW
import Derived.Test.YtfognlealnhodaaD
namespace Go.Proofs.Ytfognlealnhodaa
open Go.RowKit

theorem lessG_len (gl : List (Nat × Nat)) (n st : Nat) (hn2 : 2 ≤ n) (hg : gl.length + 1 = n) (hS : st = 0 ∨ st + 1 = n ∨ st + 2 = n) : (lessG gl n st).length + 2 = n := by
  unfold lessG
  by_cases h0 : st = 0
  · rw [if_pos h0, List.length_drop]; omega
  · rw [if_neg h0]
    by_cases h1 : st = n - 1
    · rw [if_pos h1, List.length_take]; omega
    · rw [if_neg h1]
      simp only [List.length_append, List.length_take, List.length_drop, List.length_cons, List.length_nil]
      omega

set_option maxRecDepth 100000 in
set_option maxHeartbeats 4000000 in
theorem wrong_any (B : Nat) (s : List (Nat × Nat)) (f f0 : FV) (wy0 : Nat → Nat → Nat) (w : World) (hw : BkB w B f0 (s.length + 1) (apart s) wy0) (hf : IsF w f) (hO : FIn (fun k => k ≠ B) f) (hk : OkSt s f.gp.l f.nm.l) (hn2 : 2 ≤ f.nm.l.length) (hn3 : f.nm.l.length ≤ 3) :
    Calls Try.prog 66 #[.pointer (some ⟨B, 0, none⟩), f.v] w fun e w' => ∃ a c l, e = .returned (.slice a l.length c) ∧ l = wrongF s f.gp.l f.nm.l ∧ w'.ownsRow w.heap.size 3 1 (.slice a l.length c) l.length (nums l) ∧ Keep (fun k => k ≠ B) w w' := by
  obtain ⟨i0, hi, hz0, hz1, hz2⟩ := info_parts info3
  obtain ⟨V, hV⟩ : ∃ V, w.alloc (.cells #[.slice f.gp.a f.gp.l.length f.gp.c, .slice f.nm.a f.nm.l.length f.nm.c] 66) = V := ⟨_, rfl⟩
  have HX : Hid (Ext w V) := by show Ext w V; rw [← hV]; exact (Ext.refl w).alloc _
  have Hb : Hid (V.heap[w.heap.size]? = some (.cells #[.slice f.gp.a f.gp.l.length f.gp.c, .slice f.nm.a f.nm.l.length f.nm.c] 66 (0, 0))) := by show _ = _; rw [← hV]; exact alloc_new rfl
  have HVz : Hid (V.heap.size = w.heap.size + 1) := by show _ = _; rw [← hV, World.size_alloc]
  have HB0 : Hid (∃ f0 wy0, BkB V B f0 (s.length + 1) (apart s) wy0) := ⟨f0, wy0, hw.ext HX.out⟩
  have HF := Lib.hid hf
  have HK := Lib.hid hk
  have HOf := Lib.hid hO
  clear hO
  have hBl := hw.lt
  obtain ⟨n, hnn⟩ : ∃ n, f.nm.l.length = n := ⟨_, rfl⟩
  have HN := Lib.hid hnn
  rw [hnn] at hn2 hn3
  have c1 : V.cell? ⟨w.heap.size, 1, none⟩ = some (.slice f.nm.a n f.nm.c) := by rw [← hnn]; exact (cell_at Hb.out 1).trans rfl
  clear hw hf hk hnn
  go_enter Try.func66, Try.ntmps66
  go_wp2_with fail
  clear hV c1
  go_loopw [5, 10] (fun u i wr => ∃ (k : Nat) (a : Option Addr) (c : Nat) (l : List Nat), k ≤ n ∧ i = .int .i64 (k : Int) ∧ u = .slice a l.length c ∧ l.length ≤ k ∧ Hid (l = (List.range k).filter fun st => decide (0 < readsF s (lessG f.gp.l n st) (f.nm.l.eraseIdx st))) ∧ Hid (wr.ownsRow (w.heap.size + 1) 3 1 (.slice a l.length c) l.length (nums l)) ∧ Hid (∃ f0 wy0, BkB wr B f0 (s.length + 1) (apart s) wy0) ∧ Hid (Keep (fun k => k ≠ B) V wr)) (fun _ i _ => n - (intOf i).toNat)
  case atStart => exact ⟨0, none, 0, [], Nat.zero_le _, rfl, rfl, Nat.le_refl _, rfl, World.ownsRow_nil _ _ _ _, HB0, Keep.refl _ _⟩
  case round =>
    clear HB0
    obtain ⟨wo, rfl⟩ : ∃ wo : World, wo = wr := ⟨_, rfl⟩
    obtain ⟨k, a, c, l, hk, rfl, rfl, hl, HL, HO, HB, HKp⟩ := hrel
    by_cases hlt : k < n
    · have dk : decide ((k : Int) < (n : Int)) = true := decide_eq_true (by omega)
      have hne : w.heap.size ≠ B := by omega
      have q0 : wo.cell? ⟨w.heap.size, 0, none⟩ = some (.slice f.gp.a f.gp.l.length f.gp.c) := (cell_at (HKp.out.heap Hb.out hne) 0).trans rfl
      have q1 : wo.cell? ⟨w.heap.size, 1, none⟩ = some (.slice f.nm.a f.nm.l.length f.nm.c) := (cell_at (HKp.out.heap Hb.out hne) 1).trans rfl
      have HFo : Hid (IsF wo f) := (HF.out.ext HX.out).keep HKp.out HOf.out
      have hS : k = 0 ∨ k + 1 = n ∨ k + 2 = n := by omega
      have HWo := Lib.hid (without_any f k wo HFo.out (by rw [HN.out]; exact hn2) (by rw [HN.out]; omega) (by rw [HN.out]; have := HK.out.gl; have := HN.out; omega) (by rw [HN.out]; exact hlt) (fun x hx => by have := HK.out.gb x hx; omega) (by rw [HN.out]; exact hS))
      go_wp2_with fail
      refine HWo.out.mono ?_
      rintro e w2 ⟨f', rfl, hg', hn', hf', hfi, hx2⟩
      rw [HN.out] at hg'
      have HF' := Lib.hid hf'
      have HX2 := Lib.hid hx2
      have hln : f'.nm.l.length + 1 = n := by rw [hn', List.length_eraseIdx, if_pos (by rw [HN.out]; exact hlt), HN.out]; omega
      have hlg : f'.gp.l.length + 2 = n := by rw [hg']; exact lessG_len f.gp.l n k hn2 (by have := HK.out.gl; rw [HN.out] at this; omega) hS
      have hBo : B < wo.heap.size := Nat.lt_of_lt_of_le hBl (Nat.le_trans HX.out.size HKp.out.size)
      have HRd : Hid (readF f'.gp.l f'.nm.l (apart s) (s.length + 1) = readsF s (lessG f.gp.l n k) (f.nm.l.eraseIdx k)) := by show _ = _; rw [hg', hn']; rfl
      obtain ⟨f1, wy1, hb1⟩ := HB.out
      have HRe := Lib.hid (read_any B (s.length + 1) f1 f' (apart s) wy1 w2 (hb1.ext hx2) hf' (hfi.mono (fun x h => by have : wo.heap.size ≤ x := h; omega)) (by omega) (by omega) (by have := HK.out.r2; omega))
      rw [HRd.out] at HRe
      have HR1 := Lib.hid (range_filter_succ (fun st => decide (0 < readsF s (lessG f.gp.l n st) (f.nm.l.eraseIdx st))) k)
      clear hg' hn' hf' hfi hx2 hb1 HWo HRd HB
      obtain ⟨rd, hrq⟩ : ∃ rd, readsF s (lessG f.gp.l n k) (f.nm.l.eraseIdx k) = rd := ⟨_, rfl⟩
      rw [hrq] at HRe
      have HRq := Lib.hid hrq
      clear hrq
      clear hln hlg hS
      by_cases hrd : 0 < rd
      · have dr : decide ((0 : Int) < (rd : Int)) = true := decide_eq_true (by omega)
        have HL2 : Hid (l ++ [k] = (List.range (k + 1)).filter fun st => decide (0 < readsF s (lessG f.gp.l n st) (f.nm.l.eraseIdx st))) := by show _ = _; rw [HR1.out, HL.out, HRq.out, decide_eq_true hrd]; simp
        go_upto_region 6 with (go_at_call 64; refine HRe.out.mono ?_; rintro e w3 ⟨rfl, hb3, hk3⟩)
        have HB3 : Hid (∃ f0 wy0, BkB w3 B f0 (s.length + 1) (apart s) wy0) := ⟨_, _, hb3⟩
        have HK3 : Hid (Keep (fun k => k ≠ B) V w3) := (HKp.out.ext HX2.out).trans hk3
        have HO3 : Hid (w3.ownsRow (w.heap.size + 1) 3 1 (.slice a l.length c) l.length (nums l)) := own_keep (own_ext HO.out HX2.out) hk3 (fun i hi => by omega)
        have HNw := Lib.hid (new_cells w3 (nums [k]) 3)
        have hsz := HK3.out.size
        have hxs := HX.out.size
        have hVs : w.heap.size + 1 ≤ V.heap.size := (Array.getElem?_eq_some_iff.1 Hb.out).1
        have hmx : l.length + 1 ≤ maxLen := by unfold maxLen; omega
        have hmb : (l.length + 1) * 8 ≤ 140737488355328 := by omega
        have hb6 : w.heap.size + 1 ≤ (w3.alloc (.cells (nums [k]).toArray 3)).heap.size := by rw [World.size_alloc]; omega
        clear hb3 hk3 q0 q1
        go_wp2_with (at_builtin; go_must (refine wpList_append_own _ rfl _ _ 25 rfl (w.heap.size + 1) 3 i0 (.int .i64 0) 1 8 Try.underlying25 hi hz0 hz1 hz2 rfl (by decide) _ l.length (nums l) rfl (own_ext HO3.out ((Ext.refl w3).alloc _)) ⟨w3.heap.size, 0, none⟩ 1 1 (nums [k]) rfl rfl HNw.out (nums_one [k]) hmx hmb hb6 ?_); intro v' w5 hown hgrow _)
        obtain ⟨a5, c5, rfl⟩ := own_form hown
        rw [← nums_append, show l.length + 1 = (l ++ [k]).length by simp] at hown
        have HO5 := Lib.hid hown
        have HK5 : Hid (Keep (fun k => k ≠ B) V w5) := (HK3.out.alloc _).grown hgrow (fun k' e h => by have := own_lt HO3.out k' e; have := HVz.out; omega)
        have HB5 : Hid (∃ f0 wy0, BkB w5 B f0 (s.length + 1) (apart s) wy0) := by
          obtain ⟨f9, wy9, h9⟩ := HB3.out
          exact ⟨f9, wy9, (h9.ext ((Ext.refl w3).alloc _)).keep (D := fun k => k < w.heap.size + 1) ((Keep.refl _ _).grown hgrow (fun k' e _ h => by have := own_lt HO3.out k' e; have h2 : k' < w.heap.size + 1 := h; omega)) (show B < w.heap.size + 1 by omega)⟩
        clear hown hgrow
        go_roundw
        case rel => exact ⟨k + 1, a5, c5, l ++ [k], by omega, by go_num, by simp, by simp; omega, HL2, HO5, HB5, HK5⟩
        case measure => simp [intOf]; omega
      · have dr : decide ((0 : Int) < (rd : Int)) = false := decide_eq_false (by omega)
        have HL2 : Hid (l = (List.range (k + 1)).filter fun st => decide (0 < readsF s (lessG f.gp.l n st) (f.nm.l.eraseIdx st))) := by show _ = _; rw [HR1.out, ← HL.out, HRq.out, decide_eq_false hrd]; simp
        go_wp2_with (go_at_call 64; refine HRe.out.mono ?_; rintro e w3 ⟨rfl, hb3, hk3⟩)
        go_roundw
        case rel => exact ⟨k + 1, a, c, l, by omega, by go_num, rfl, by omega, HL2, own_keep (own_ext HO.out HX2.out) hk3 (fun i hi => by omega), ⟨_, _, hb3⟩, (HKp.out.ext HX2.out).trans hk3⟩
        case measure => simp [intOf]; omega
    · have dk : decide ((k : Int) < (n : Int)) = false := decide_eq_false (by omega)
      have HL2 : Hid (l = wrongF s f.gp.l f.nm.l) := by show _ = _; rw [HL.out]; unfold wrongF; rw [HN.out, show k = n by omega]
      go_wp2
      go_ret
      exact ⟨a, c, l, rfl, HL2.out, own_mono HO.out (by omega), Keep.trans (Keep.of_ext HX.out) HKp.out⟩

set_option maxRecDepth 100000 in
set_option maxHeartbeats 4000000 in
theorem Wrong_ok (s : SL (Nat × Nat)) (f : FV) (w : World) (hs : IsSl 2 spC w s) (hf : IsF w f) (hk : OkSt s.l f.gp.l f.nm.l) (hr : readsF s.l f.gp.l f.nm.l = 0) (hn2 : 2 ≤ f.nm.l.length) (hn3 : f.nm.l.length ≤ 3) :
    Calls Try.prog 35 #[.agg #[.slice s.a s.l.length s.c], f.v] w fun e w' => ∃ a c l, e = .returned (.tuple #[.slice a l.length c, .int .i64 0]) ∧ l = wrongF s.l f.gp.l f.nm.l ∧ w'.ownsRow w.heap.size 3 1 (.slice a l.length c) l.length (nums l) ∧ Ext w w' := by
  have HT := Lib.hid (two_new w s f)
  have HX : Hid (Ext w ((w.alloc (.cells #[.slice s.a s.l.length s.c] 64)).alloc (.cells #[.slice f.gp.a f.gp.l.length f.gp.c, .slice f.nm.a f.nm.l.length f.nm.c] 66))) := ((Ext.refl w).alloc _).alloc _
  have HSl := Lib.hid hs
  have HF := Lib.hid hf
  have HK := Lib.hid hk
  have HSz : Hid (((w.alloc (.cells #[.slice s.a s.l.length s.c] 64)).alloc (.cells #[.slice f.gp.a f.gp.l.length f.gp.c, .slice f.nm.a f.nm.l.length f.nm.c] 66)).heap.size = w.heap.size + 2) := by show _ = _; simp only [World.size_alloc]
  clear hs hf hk
  obtain ⟨c0, c1, c2⟩ := HT.out
  have HCk := Lib.hid (checkStones_ok s f _ (HSl.out.ext HX.out) (HF.out.ext HX.out) HK.out)
  have HOp := Lib.hid (open_h s f _ HSl.out HK.out)
  have HRd := Lib.hid (read_s s f w HF.out HK.out)
  rw [hr] at HRd
  clear hr
  go_enter Try.func35, Try.ntmps35
  go_wp2_with fail
  generalize (w.alloc (.cells #[.slice s.a s.l.length s.c] 64)).alloc (.cells #[.slice f.gp.a f.gp.l.length f.gp.c, .slice f.nm.a f.nm.l.length f.nm.c] 66) = V at *
  refine HCk.out.mono ?_
  rintro e V1 ⟨rfl, hx1⟩
  have HX1 : Hid (Ext w V1) := HX.out.trans hx1
  obtain ⟨c0', c1', c2'⟩ := HT.out.ext hx1
  have HT1 := Lib.hid (HT.out.ext hx1)
  have HSz1 : Hid (w.heap.size + 2 ≤ V1.heap.size) := by have := hx1.size; rw [HSz.out] at this; exact this
  clear c0 c1 c2 hx1 HT
  go_wp2_with fail
  refine (HOp.out _ HX1.out).mono ?_
  rintro e V2 ⟨B, rfl, hB, hBk, hx2⟩
  obtain ⟨d0, d1, d2⟩ := HT1.out.ext hx2
  have HBk := Lib.hid hBk
  have HX12 := Lib.hid hx2
  have HX2 : Hid (Ext w V2) := HX1.out.trans hx2
  have hBw := Nat.le_trans HX1.out.size hB
  clear hBk hx2 c0' c1' c2'
  go_wp2_with fail
  refine (HRd.out B _ _ V2 hBw HBk.out HX2.out).mono ?_
  rintro e V3 ⟨rfl, hb3, hx3, hk3⟩
  have HB3 := Lib.hid hb3
  have HX3 := Lib.hid hx3
  have hsz1 := HSz1.out
  have t1 : V3.cell? ⟨w.heap.size + 1, 0, none⟩ = some (.slice f.gp.a f.gp.l.length f.gp.c) := hk3.cell d1 (show w.heap.size + 1 ≠ B by omega)
  have t2 : V3.cell? ⟨w.heap.size + 1, 1, none⟩ = some (.slice f.nm.a f.nm.l.length f.nm.c) := hk3.cell d2 (show w.heap.size + 1 ≠ B by omega)
  clear hb3 hx3 d0 d1 d2 hk3
  go_wp2_with fail
  refine (wrong_any B s.l f f _ V3 HB3.out (HF.out.ext HX3.out) (HF.out.lt.mono (fun x h => by have h2 : x < w.heap.size := h; omega)) HK.out hn2 hn3).mono ?_
  rintro e V4 ⟨a, c, l, rfl, hl, ho, hk4⟩
  have HL := Lib.hid hl
  have HO := Lib.hid (own_mono ho HX3.out.size)
  have HX4 : Hid (Ext w V4) := ext_keep HX3.out hk4 (fun i hi => by omega)
  clear hl ho hk4 t1 t2
  go_wp2
  go_ret2
  exact ⟨a, c, l, rfl, HL.out, HO.out, HX4.out⟩
end Go.Proofs.Ytfognlealnhodaa

namespace Go.Proofs.Ytfognlealnhodaa
open Go.RowKit

def hillP (h : Nat) : Prof := ⟨[0, 100, 200, 300], [(100, 100), (150, h), (120, 120), (100, 100)], 50, 0, 0⟩
theorem hill_okP (h : Nat) (h1 : 150 ≤ h) (h2 : h ≤ 1000) : OkP (hillP h) where
  n1 := by simp [hillP]
  n2 := by simp [hillP]
  gl := rfl
  ab := by intro x hx; simp [hillP] at hx; omega
  gb := by intro s hs; simp only [hillP, List.mem_cons, List.not_mem_nil, or_false] at hs; rcases hs with rfl | rfl | rfl | rfl <;> dsimp only <;> omega
  tb := by simp [hillP]
  bb := by simp [hillP]
  inc := by simp [hillP]
/-- A profile in memory that is a hill. -/
structure IsHill (w : World) (v : PV) (h : Nat) : Prop where
  is : IsP w v
  eq : v.p = hillP h
theorem IsHill.len {w : World} {v : PV} {h : Nat} (k : IsHill w v h) : v.at'.l.length = 4 := by
  have e : v.at'.l = (hillP h).A := by rw [← k.eq]
  rw [e]; rfl
theorem IsHill.ok {w : World} {v : PV} {h : Nat} (k : IsHill w v h) (h1 : 150 ≤ h) (h2 : h ≤ 1000) : OkP v.p := by rw [k.eq]; exact hill_okP h h1 h2
theorem hill160 (w : World) : Calls Try.prog 52 #[.int .i64 160] w fun e w' => ∃ v : PV, e = .returned v.v ∧ IsHill w' v 160 ∧ Ext w w' := by
  refine Calls.mono (hill_any 160 w) ?_
  rintro e w' ⟨v, rfl, h1, h2, h3⟩
  exact ⟨v, rfl, ⟨h2, h1⟩, h3⟩
theorem hill159 (w : World) : Calls Try.prog 52 #[.int .i64 159] w fun e w' => ∃ v : PV, e = .returned v.v ∧ IsHill w' v 159 ∧ Ext w w' := by
  refine Calls.mono (hill_any 159 w) ?_
  rintro e w' ⟨v, rfl, h1, h2, h3⟩
  exact ⟨v, rfl, ⟨h2, h1⟩, h3⟩
theorem hill_sees (v : PV) (w : World) (k : IsHill w v 160) (i j : Nat) (b1 b2 : Bool) (hi : i < 4) (hj : j < 4) (hne : i ≠ j) (h1 : seeF false (hillP 160) i j = b1) (h2 : seeF true (hillP 160) i j = b2) :
    Calls Try.prog 21 #[v.v, .int .i64 (i : Int), .int .i64 (j : Int)] w fun e w' => e = .returned (.tuple #[.bool b1, .bool b2, .int .i64 0]) ∧ Ext w w' := by
  have h := sees_ok v i j w k.is (k.ok (by omega) (by omega)) (by rw [k.len]; exact hi) (by rw [k.len]; exact hj) hne
  rw [k.eq, h1, h2] at h
  exact h
theorem hill_tall (v : PV) (w : World) (k : IsHill w v 160) (i j t : Nat) (hi : i < 4) (hj : j < 4) (hne : i ≠ j) (h1 : tallF true (hillP 160) i j = t) (ht : t ≤ 2000) :
    Calls Try.prog 22 #[v.v, .int .i64 (i : Int), .int .i64 (j : Int)] w fun e w' => e = .returned (.tuple #[.int .i64 (t : Int), .int .i64 0]) ∧ Ext w w' := by
  have h := tall_ok v i j w k.is (k.ok (by omega) (by omega)) (by rw [k.len]; exact hi) (by rw [k.len]; exact hj) hne (by rw [k.eq, h1]; exact ht)
  rw [k.eq, h1] at h
  exact h
theorem hill_fewest (v : PV) (w : World) (k : IsHill w v 160) : Calls Try.prog 12 #[v.v] w fun e w' => ∃ (a : Option Addr) (c : Nat) (L : List Nat), e = .returned (.tuple #[.slice a L.length c, .int .i64 0]) ∧ L = [0, 1, 3] ∧ IsSl 1 num w' ⟨a, c, L⟩ ∧ Ext w w' := by
  have hL : fewF (needsF (allF true v.p) v.at'.l.length (v.at'.l.length - 1) (-1)) (allF true v.p) v.at'.l.length 0 = [0, 1, 3] := by rw [k.len, k.eq]; kernel_rfl
  refine Calls.mono (fewest_ok v w k.is (k.ok (by omega) (by omega)) [0, 1, 3] hL) ?_
  rintro e w' ⟨a, c, rfl, ho, hx⟩
  exact ⟨a, c, [0, 1, 3], rfl, rfl, own_sl ho (by simp), hx⟩
theorem lit_sl (w : World) (l : List Nat) (hl : l.length ≤ 1000000) : IsSl 1 num (w.alloc (.cells (nums l).toArray 3)) ⟨some ⟨w.heap.size, 0, none⟩, l.length, l⟩ := isNum (alloc_new rfl) rfl (Nat.le_refl _) hl
theorem hill_proves (v : PV) (w : World) (k : IsHill w v 160) : Calls Try.prog 15 #[v.v, .slice (some ⟨w.heap.size, 0, none⟩) 4 4] (w.alloc (.cells #[.int .i64 0, .int .i64 1, .int .i64 2, .int .i64 2] 3)) fun e w' => e = .returned (.tuple #[.int .i64 3, .int .i64 0]) ∧ Ext w w' := by
  have hx : Ext w (w.alloc (.cells #[.int .i64 0, .int .i64 1, .int .i64 2, .int .i64 2] 3)) := (Ext.refl w).alloc _
  have h := proves_ok v ⟨some ⟨w.heap.size, 0, none⟩, 4, [0, 1, 2, 2]⟩ (w.alloc (.cells #[.int .i64 0, .int .i64 1, .int .i64 2, .int .i64 2] 3)) (k.is.ext hx) (k.ok (by omega) (by omega)) (lit_sl w [0, 1, 2, 2] (by simp)) (by rw [k.len]; rfl) (by intro x hx; simp at hx; omega) true (by rw [k.eq]; kernel_rfl) 3 (by rfl)
  refine Calls.mono h ?_
  rintro e w' ⟨rfl, h2⟩
  exact ⟨rfl, hx.trans h2⟩
theorem mend_h (v : PV) (w : World) (hh : Nat) (k : IsHill w v hh) (h1 : 150 ≤ hh) (h2 : hh ≤ 1000) (M R : List Nat) (hM : fewF (needsF (allF true (hillP hh)) 4 ([0, 1, 3][0 + 2]?.getD 0) (([0, 1, 3][0 + 1]?.getD 0 : Nat) : Int)) (allF true (hillP hh)) 4 ([0, 1, 3][0]?.getD 0) = M) (hR : (if M.length = 0 then [] else [0, 1, 3].take 0 ++ (M ++ [0, 1, 3].drop (0 + 3))) = R) (hl : R.length ≤ 1000000) (ho : holdsF (allF true (hillP hh)) 4 [0, 1, 3] = true) :
    Calls Try.prog 30 #[v.v, .slice (some ⟨w.heap.size, 0, none⟩) 3 3, .int .i64 1] (w.alloc (.cells #[.int .i64 0, .int .i64 1, .int .i64 3] 3)) fun e w' => ∃ a c, e = .returned (.tuple #[.slice a R.length c, .int .i64 (if R.length = 0 then 7 else 0)]) ∧ IsSl 1 num w' ⟨a, c, R⟩ ∧ Ext w w' := by
  have hx : Ext w (w.alloc (.cells #[.int .i64 0, .int .i64 1, .int .i64 3] 3)) := (Ext.refl w).alloc _
  have h := mend_ok v ⟨some ⟨w.heap.size, 0, none⟩, 3, [0, 1, 3]⟩ 0 (w.alloc (.cells #[.int .i64 0, .int .i64 1, .int .i64 3] 3)) (k.is.ext hx) (k.ok h1 h2) (lit_sl w [0, 1, 3] (by simp)) (by rw [k.len]; intro x hx; simp at hx; omega) (by rw [k.eq, k.len]; exact ho) (by simp) (by simp) M (by rw [k.eq, k.len]; exact hM) R hR
  refine Calls.mono h ?_
  rintro e w' ⟨a, c, rfl, ho, h2⟩
  exact ⟨a, c, rfl, own_sl ho hl, hx.trans h2⟩
theorem mend160 (v : PV) (w : World) (k : IsHill w v 160) : Calls Try.prog 30 #[v.v, .slice (some ⟨w.heap.size, 0, none⟩) 3 3, .int .i64 1] (w.alloc (.cells #[.int .i64 0, .int .i64 1, .int .i64 3] 3)) fun e w' => ∃ v, e = .returned (.tuple #[v, .int .i64 7]) ∧ Ext w w' := by
  refine Calls.mono (mend_h v w 160 k (by omega) (by omega) [] [] (by kernel_rfl) rfl (by simp) (by kernel_rfl)) ?_
  rintro e w' ⟨a, c, rfl, _, h2⟩
  exact ⟨_, rfl, h2⟩
theorem mend159 (v : PV) (w : World) (k : IsHill w v 159) : Calls Try.prog 30 #[v.v, .slice (some ⟨w.heap.size, 0, none⟩) 3 3, .int .i64 1] (w.alloc (.cells #[.int .i64 0, .int .i64 1, .int .i64 3] 3)) fun e w' => ∃ (a : Option Addr) (c : Nat) (R : List Nat), e = .returned (.tuple #[.slice a R.length c, .int .i64 0]) ∧ R = [0, 2, 3] ∧ IsSl 1 num w' ⟨a, c, R⟩ ∧ Ext w w' := by
  refine Calls.mono (mend_h v w 159 k (by omega) (by omega) [0, 2, 3] [0, 2, 3] (by kernel_rfl) rfl (by simp) (by kernel_rfl)) ?_
  rintro e w' ⟨a, c, rfl, h1, h2⟩
  exact ⟨a, c, [0, 2, 3], rfl, rfl, h1, h2⟩
/-- Two lists that are alike. -/
theorem equal_lit (a : Option Addr) (c : Nat) (L l : List Nat) (w : World) (h : IsSl 1 num w ⟨a, c, L⟩) (hl : l.length ≤ 1000000) (he : L = l) :
    Calls Try.prog 26 #[.slice a L.length c, .slice (some ⟨w.heap.size, 0, none⟩) l.length l.length] (w.alloc (.cells (nums l).toArray 3)) fun e w' => e = .returned (.bool true) ∧ Ext w w' := by
  have hx : Ext w (w.alloc (.cells (nums l).toArray 3)) := (Ext.refl w).alloc _
  have q := equal_any ⟨a, c, L⟩ ⟨some ⟨w.heap.size, 0, none⟩, l.length, l⟩ (w.alloc (.cells (nums l).toArray 3)) (h.ext hx) (lit_sl w l hl)
  refine Calls.mono q ?_
  rintro e w' ⟨rfl, ⟨m, rfl⟩⟩
  exact ⟨by rw [decide_eq_true he], hx.drewN m⟩
theorem book_r (w : World) : Calls Try.prog 53 #[] w fun e w' => ∃ s : SL (Nat × Nat), e = .returned (.agg #[.slice s.a s.l.length s.c]) ∧ Hid (s.l = [(100, 110), (50, 50), (100, 100)] ∧ IsSl 2 spC w' s) ∧ Ext w w' := by
  refine Calls.mono (book_any w) ?_
  rintro e w' ⟨s, rfl, h1, h2, h3⟩
  exact ⟨s, rfl, ⟨h1, h2⟩, h3⟩
theorem okSt_book (gp : List (Nat × Nat)) (nm : List Int) (h1 : gp.length + 1 = nm.length) (h2 : nm.length ≤ 3) (h3 : ∀ x ∈ gp, 1 ≤ x.1 ∧ x.1 ≤ x.2 ∧ x.2 ≤ 20000) (h4 : ∀ x ∈ nm, -1 ≤ x ∧ x ≤ 3) : OkSt [(100, 110), (50, 50), (100, 100)] gp nm where
  r1 := by simp
  r2 := by simp
  n1 := by omega
  n2 := by omega
  gl := h1
  rb := by intro x hx; simp only [List.mem_cons, List.not_mem_nil, or_false] at hx; rcases hx with rfl | rfl | rfl <;> simp
  gb := h3
  nb := h4
theorem book_numbers (s : SL (Nat × Nat)) (f : FV) (w : World) (hs : s.l = [(100, 110), (50, 50), (100, 100)]) (hs2 : IsSl 2 spC w s) (hg : f.gp.l = [(150, 155)]) (hn : f.nm.l = [-1, -1]) (hf : IsF w f) :
    Calls Try.prog 34 #[.agg #[.slice s.a s.l.length s.c], f.v] w fun e w' => ∃ r : SL (SL Nat), e = .returned (.tuple #[.slice r.a r.l.length r.c, .int .i64 0]) ∧ Hid (r.l.map (fun r => r.l) = [[0, 1], [2, 3]] ∧ IsSl 1 slC w' r ∧ (∀ x ∈ r.l, IsSl 1 num w' x)) ∧ Ext w w' := by
  have hk : OkSt s.l f.gp.l f.nm.l := by
    rw [hs, hg, hn]
    exact okSt_book _ _ rfl (by simp) (by intro x hx; simp at hx; subst hx; simp) (by intro x hx; simp at hx; omega)
  refine Calls.mono (Numbers_ok s f w hs2 hf hk (by rw [hs, hg, hn]; exact Nat.lt_of_lt_of_eq (show 0 < 2 by omega) (by kernel_rfl))) ?_
  rintro e w' ⟨r, rfl, h1, h2, h3, h4⟩
  exact ⟨r, rfl, ⟨by rw [h1, hs, hg, hn]; kernel_rfl, h2, h3⟩, h4⟩
theorem book_readings (s : SL (Nat × Nat)) (f : FV) (w : World) (hs : s.l = [(100, 110), (50, 50), (100, 100)]) (hs2 : IsSl 2 spC w s) (hg : f.gp.l = [(150, 155)]) (hn : f.nm.l = [-1, 3]) (hf : IsF w f) :
    Calls Try.prog 33 #[.agg #[.slice s.a s.l.length s.c], f.v] w fun e w' => e = .returned (.tuple #[.int .i64 1, .int .i64 0]) ∧ Ext w w' := by
  have hk : OkSt s.l f.gp.l f.nm.l := by
    rw [hs, hg, hn]
    exact okSt_book _ _ rfl (by simp) (by intro x hx; simp at hx; subst hx; simp) (by intro x hx; simp at hx; omega)
  have h := Readings_ok s f w hs2 hf hk
  have e : readsF s.l f.gp.l f.nm.l = 1 := by rw [hs, hg, hn]; kernel_rfl
  rw [e] at h
  exact h
theorem book_wrong (s : SL (Nat × Nat)) (f : FV) (w : World) (hs : s.l = [(100, 110), (50, 50), (100, 100)]) (hs2 : IsSl 2 spC w s) (hg : f.gp.l = [(120, 130), (30, 40)]) (hn : f.nm.l = [-1, -1, -1]) (hf : IsF w f) :
    Calls Try.prog 35 #[.agg #[.slice s.a s.l.length s.c], f.v] w fun e w' => ∃ (a : Option Addr) (c : Nat) (L : List Nat), e = .returned (.tuple #[.slice a L.length c, .int .i64 0]) ∧ L = [1] ∧ IsSl 1 num w' ⟨a, c, L⟩ ∧ Ext w w' := by
  have hk : OkSt s.l f.gp.l f.nm.l := by
    rw [hs, hg, hn]
    exact okSt_book _ _ rfl (by simp) (by intro x hx; simp at hx; rcases hx with rfl | rfl <;> simp) (by intro x hx; simp at hx; omega)
  have e : wrongF s.l f.gp.l f.nm.l = [1] := by rw [hs, hg, hn]; kernel_rfl
  refine Calls.mono (Wrong_ok s f w hs2 hf hk (by rw [hs, hg, hn]; kernel_rfl) (by rw [hn]; simp) (by rw [hn]; simp)) ?_
  rintro e2 w' ⟨a, c, l, rfl, h1, h2, h3⟩
  rw [e] at h1
  subst h1
  exact ⟨a, c, [1], rfl, rfl, own_sl h2 (by simp), h3⟩
theorem wrong_w (s : SL (Nat × Nat)) (w : World) (hs : s.l = [(100, 110), (50, 50), (100, 100)]) (hs2 : IsSl 2 spC w s) :
    Calls Try.prog 35 #[.agg #[.slice s.a s.l.length s.c], .agg #[.slice (some ⟨w.heap.size + 1 + 1, 0, none⟩) 2 2, .slice (some ⟨w.heap.size + 1 + 1 + 1, 0, none⟩) 3 3]]
      ((((w.alloc (.cells #[.int .i64 120, .int .i64 130] 28)).alloc (.cells #[.int .i64 30, .int .i64 40] 28)).alloc (.cells #[.int .i64 120, .int .i64 130, .int .i64 30, .int .i64 40] 28)).alloc (.cells #[.int .i64 (-1), .int .i64 (-1), .int .i64 (-1)] 3))
      fun e w' => ∃ (a : Option Addr) (c : Nat) (L : List Nat), e = .returned (.tuple #[.slice a L.length c, .int .i64 0]) ∧ L = [1] ∧ IsSl 1 num w' ⟨a, c, L⟩ ∧ Ext w w' := by
  have hx : Ext w ((((w.alloc (.cells #[.int .i64 120, .int .i64 130] 28)).alloc (.cells #[.int .i64 30, .int .i64 40] 28)).alloc (.cells #[.int .i64 120, .int .i64 130, .int .i64 30, .int .i64 40] 28)).alloc (.cells #[.int .i64 (-1), .int .i64 (-1), .int .i64 (-1)] 3)) := ((((Ext.refl w).alloc _).alloc _).alloc _).alloc _
  refine Calls.mono (book_wrong s ⟨⟨some ⟨w.heap.size + 1 + 1, 0, none⟩, 2, [(120, 130), (30, 40)]⟩, ⟨some ⟨w.heap.size + 1 + 1 + 1, 0, none⟩, 3, [-1, -1, -1]⟩⟩ _ hs (hs2.ext hx) rfl rfl ⟨?_, ?_⟩) ?_
  · refine sp_block (l := [(120, 130), (30, 40)]) (b := w.heap.size + 1 + 1) (cs := #[.int .i64 120, .int .i64 130, .int .i64 30, .int .i64 40]) (T := 28) (fr := (0, 0)) ?_ ?_ (show 2 ≤ 1000000 by omega)
    · exact (alloc_old (by simp only [World.size_alloc]; omega)).trans (alloc_new (by simp only [World.size_alloc]))
    · intro i hi'
      have hi4 : i < 2 := hi'
      rcases (show i = 0 ∨ i = 1 by omega) with rfl | rfl <;> exact ⟨rfl, rfl⟩
  · refine ints_block (l := [-1, -1, -1]) (b := w.heap.size + 1 + 1 + 1) (cs := #[.int .i64 (-1), .int .i64 (-1), .int .i64 (-1)]) (T := 3) (fr := (0, 0)) ?_ ?_ (show 3 ≤ 1000000 by omega)
    · exact alloc_new (by simp only [World.size_alloc])
    · intro i hi'
      have hi4 : i < 3 := hi'
      rcases (show i = 0 ∨ i = 1 ∨ i = 2 by omega) with rfl | rfl | rfl <;> rfl
  · rintro e w' ⟨a, c, L, rfl, h1, h2, h3⟩
    exact ⟨a, c, L, rfl, h1, h2, hx.trans h3⟩
theorem all_w (r : SL (SL Nat)) (w : World) (hr : r.l.map (fun r => r.l) = [[0, 1], [2, 3]]) (h1 : IsSl 1 slC w r) (h2 : ∀ x ∈ r.l, IsSl 1 num w x) :
    Calls Try.prog 55 #[.slice r.a r.l.length r.c, .slice (some ⟨w.heap.size + 1 + 1, 0, none⟩) 2 2]
      (((w.alloc (.cells #[.int .i64 0, .int .i64 1] 3)).alloc (.cells #[.int .i64 2, .int .i64 3] 3)).alloc (.cells #[.slice (some ⟨w.heap.size, 0, none⟩) 2 2, .slice (some ⟨w.heap.size + 1, 0, none⟩) 2 2] 25))
      fun e w' => e = .returned (.bool true) ∧ Ext w w' := by
  have x1 : Ext w (w.alloc (.cells #[.int .i64 0, .int .i64 1] 3)) := (Ext.refl w).alloc _
  have x2 : Ext (w.alloc (.cells #[.int .i64 0, .int .i64 1] 3)) ((w.alloc (.cells #[.int .i64 0, .int .i64 1] 3)).alloc (.cells #[.int .i64 2, .int .i64 3] 3)) := (Ext.refl _).alloc _
  have x3 : Ext ((w.alloc (.cells #[.int .i64 0, .int .i64 1] 3)).alloc (.cells #[.int .i64 2, .int .i64 3] 3)) (((w.alloc (.cells #[.int .i64 0, .int .i64 1] 3)).alloc (.cells #[.int .i64 2, .int .i64 3] 3)).alloc (.cells #[.slice (some ⟨w.heap.size, 0, none⟩) 2 2, .slice (some ⟨w.heap.size + 1, 0, none⟩) 2 2] 25)) := (Ext.refl _).alloc _
  have hx := (x1.trans x2).trans x3
  have s1 := ((lit_sl w [0, 1] (by simp)).ext x2).ext x3
  have s2 := (lit_sl (w.alloc (.cells #[.int .i64 0, .int .i64 1] 3)) [2, 3] (by simp)).ext x3
  rw [World.size_alloc] at s2
  refine Calls.mono (equalAll_any r ⟨some ⟨w.heap.size + 1 + 1, 0, none⟩, 2, [⟨some ⟨w.heap.size, 0, none⟩, 2, [0, 1]⟩, ⟨some ⟨w.heap.size + 1, 0, none⟩, 2, [2, 3]⟩]⟩ _ (h1.ext hx) ⟨Nat.le_refl _, (show 2 ≤ 1000000 by omega), .inr ⟨w.heap.size + 1 + 1, 0, rfl, fun i hi j hj => ?_⟩⟩ (fun x h => (h2 x h).ext hx) (fun x h => ?_)) ?_
  · obtain rfl : j = 0 := by omega
    have hi2 : i < 2 := hi
    rw [cell_at (alloc_new (by simp only [World.size_alloc]))]
    rcases (show i = 0 ∨ i = 1 by omega) with rfl | rfl <;> rfl
  · simp only [List.mem_cons, List.not_mem_nil, or_false] at h
    rcases h with rfl | rfl
    · exact s1
    · exact s2
  · rintro e w' ⟨rfl, ⟨m, rfl⟩⟩
    exact ⟨by rw [hr]; rfl, hx.drewN m⟩
end Go.Proofs.Ytfognlealnhodaa

namespace Go.Proofs.Ytfognlealnhodaa
open Go.RowKit

set_option maxRecDepth 100000 in
set_option maxHeartbeats 16000000 in
theorem awake_ok (w : World) : Calls Try.prog 19 #[] w fun e w' => e = .returned (.bool true) ∧ Ext w w' := by
  go_enter Try.func19, Try.ntmps19
  go_wp2_with fail
  refine (hill160 w).mono ?_
  rintro e x1 ⟨v, rfl, hv, hx⟩
  have X1 : Hid (Ext w x1) := hx
  have HV := Lib.hid hv
  clear hv
  clear hx
  go_wp2_with fail
  refine (hill_sees v x1 HV.out 0 2 true false (by omega) (by omega) (by omega) (by kernel_rfl) (by kernel_rfl)).mono ?_
  rintro e x2 ⟨rfl, hx⟩
  have X2 : Hid (Ext w x2) := X1.out.trans hx
  clear hx
  clear HV
  go_wp2_with fail
  refine (hill160 x2).mono ?_
  rintro e x3 ⟨v, rfl, hv, hx⟩
  have X3 : Hid (Ext w x3) := X2.out.trans hx
  have HV := Lib.hid hv
  clear hv
  clear hx
  go_wp2_with fail
  refine (hill_sees v x3 HV.out 1 3 true true (by omega) (by omega) (by omega) (by kernel_rfl) (by kernel_rfl)).mono ?_
  rintro e x4 ⟨rfl, hx⟩
  have X4 : Hid (Ext w x4) := X3.out.trans hx
  clear hx
  clear HV
  go_wp2_with fail
  refine (hill160 x4).mono ?_
  rintro e x5 ⟨v, rfl, hv, hx⟩
  have X5 : Hid (Ext w x5) := X4.out.trans hx
  have HV := Lib.hid hv
  clear hv
  clear hx
  go_wp2_with fail
  refine (hill_sees v x5 HV.out 0 3 false false (by omega) (by omega) (by omega) (by kernel_rfl) (by kernel_rfl)).mono ?_
  rintro e x6 ⟨rfl, hx⟩
  have X6 : Hid (Ext w x6) := X5.out.trans hx
  clear hx
  clear HV
  go_wp2_with fail
  refine (hill160 x6).mono ?_
  rintro e x7 ⟨v, rfl, hv, hx⟩
  have X7 : Hid (Ext w x7) := X6.out.trans hx
  have HV := Lib.hid hv
  clear hv
  clear hx
  go_wp2_with fail
  refine (hill_fewest v x7 HV.out).mono ?_
  rintro e x8 ⟨a1, c1, L1, rfl, hL1, hs1, hx⟩
  have X8 : Hid (Ext w x8) := X7.out.trans hx
  have HL1 := Lib.hid hL1
  have HS1 := Lib.hid hs1
  clear hL1 hs1
  clear hx
  clear HV
  go_wp2_with fail
  refine (hill160 x8).mono ?_
  rintro e x9 ⟨v, rfl, hv, hx⟩
  have X9 : Hid (Ext w x9) := X8.out.trans hx
  replace HS1 := Lib.hid (HS1.out.ext hx)
  have HV := Lib.hid hv
  clear hv
  clear hx
  go_wp2_with fail
  refine (hill_proves v x9 HV.out).mono ?_
  rintro e x10 ⟨rfl, hx⟩
  have X10 : Hid (Ext w x10) := X9.out.trans hx
  replace HS1 := Lib.hid (HS1.out.ext hx)
  clear hx
  clear HV
  go_wp2_with fail
  refine (equal_lit a1 c1 L1 [0, 1, 3] x10 HS1.out (by simp) HL1.out).mono ?_
  rintro e x11 ⟨rfl, hx⟩
  have X11 : Hid (Ext w x11) := X10.out.trans hx
  replace HS1 := Lib.hid (HS1.out.ext hx)
  clear hx
  clear HS1 HL1
  go_wp2_with fail
  refine (hill160 x11).mono ?_
  rintro e x12 ⟨v, rfl, hv, hx⟩
  have X12 : Hid (Ext w x12) := X11.out.trans hx
  have HV := Lib.hid hv
  clear hv
  clear hx
  go_wp2_with fail
  refine (hill_tall v x12 HV.out 0 2 51 (by omega) (by omega) (by omega) (by kernel_rfl) (by omega)).mono ?_
  rintro e x13 ⟨rfl, hx⟩
  have X13 : Hid (Ext w x13) := X12.out.trans hx
  clear hx
  clear HV
  go_wp2_with fail
  refine (hill160 x13).mono ?_
  rintro e x14 ⟨v, rfl, hv, hx⟩
  have X14 : Hid (Ext w x14) := X13.out.trans hx
  have HV := Lib.hid hv
  clear hv
  clear hx
  go_wp2_with fail
  refine (hill_tall v x14 HV.out 0 3 61 (by omega) (by omega) (by omega) (by kernel_rfl) (by omega)).mono ?_
  rintro e x15 ⟨rfl, hx⟩
  have X15 : Hid (Ext w x15) := X14.out.trans hx
  clear hx
  clear HV
  go_wp2_with fail
  refine (hill159 x15).mono ?_
  rintro e x16 ⟨v, rfl, hv, hx⟩
  have X16 : Hid (Ext w x16) := X15.out.trans hx
  have HV := Lib.hid hv
  clear hv
  clear hx
  go_wp2_with fail
  refine (mend159 v x16 HV.out).mono ?_
  rintro e x17 ⟨a1, c1, L1, rfl, hL1, hs1, hx⟩
  have X17 : Hid (Ext w x17) := X16.out.trans hx
  have HL1 := Lib.hid hL1
  have HS1 := Lib.hid hs1
  clear hL1 hs1
  clear hx
  clear HV
  go_wp2_with fail
  refine (hill160 x17).mono ?_
  rintro e x18 ⟨v, rfl, hv, hx⟩
  have X18 : Hid (Ext w x18) := X17.out.trans hx
  replace HS1 := Lib.hid (HS1.out.ext hx)
  have HV := Lib.hid hv
  clear hv
  clear hx
  go_wp2_with fail
  refine (mend160 v x18 HV.out).mono ?_
  rintro e x19 ⟨vv, rfl, hx⟩
  have X19 : Hid (Ext w x19) := X18.out.trans hx
  replace HS1 := Lib.hid (HS1.out.ext hx)
  clear hx
  clear HV
  go_wp2_with fail
  refine (equal_lit a1 c1 L1 [0, 2, 3] x19 HS1.out (by simp) HL1.out).mono ?_
  rintro e x20 ⟨rfl, hx⟩
  have X20 : Hid (Ext w x20) := X19.out.trans hx
  replace HS1 := Lib.hid (HS1.out.ext hx)
  clear hx
  clear HS1 HL1
  go_wp2_with fail
  refine (book_r x20).mono ?_
  rintro e x21 ⟨s, rfl, HB, hx⟩
  have X21 : Hid (Ext w x21) := X20.out.trans hx
  clear hx
  go_wp2_with fail
  refine (found_any 150 155 (-1) x21).mono ?_
  rintro e x22 ⟨f, rfl, hg, hn, hf, hx⟩
  have X22 : Hid (Ext w x22) := X21.out.trans hx
  replace HB := Lib.hid (And.intro HB.out.1 (HB.out.2.ext hx))
  have HG := Lib.hid hg
  have HN := Lib.hid hn
  have HF := Lib.hid hf
  clear hg hn hf
  clear hx
  go_wp2_with fail
  refine (book_numbers s f x22 HB.out.1 HB.out.2 HG.out HN.out HF.out).mono ?_
  rintro e x23 ⟨r, rfl, HR, hx⟩
  have X23 : Hid (Ext w x23) := X22.out.trans hx
  replace HB := Lib.hid (And.intro HB.out.1 (HB.out.2.ext hx))
  clear hx
  clear HB
  clear HG HN HF
  go_wp2_with fail
  refine (book_r x23).mono ?_
  rintro e x24 ⟨s, rfl, HB, hx⟩
  have X24 : Hid (Ext w x24) := X23.out.trans hx
  replace HR := Lib.hid (And.intro HR.out.1 (And.intro (HR.out.2.1.ext hx) (fun x hx9 => (HR.out.2.2 x hx9).ext hx)))
  clear hx
  go_wp2_with fail
  refine (found_any 150 155 3 x24).mono ?_
  rintro e x25 ⟨f, rfl, hg, hn, hf, hx⟩
  have X25 : Hid (Ext w x25) := X24.out.trans hx
  replace HR := Lib.hid (And.intro HR.out.1 (And.intro (HR.out.2.1.ext hx) (fun x hx9 => (HR.out.2.2 x hx9).ext hx)))
  replace HB := Lib.hid (And.intro HB.out.1 (HB.out.2.ext hx))
  have HG := Lib.hid hg
  have HN := Lib.hid hn
  have HF := Lib.hid hf
  clear hg hn hf
  clear hx
  go_wp2_with fail
  refine (book_readings s f x25 HB.out.1 HB.out.2 HG.out HN.out HF.out).mono ?_
  rintro e x26 ⟨rfl, hx⟩
  have X26 : Hid (Ext w x26) := X25.out.trans hx
  replace HR := Lib.hid (And.intro HR.out.1 (And.intro (HR.out.2.1.ext hx) (fun x hx9 => (HR.out.2.2 x hx9).ext hx)))
  replace HB := Lib.hid (And.intro HB.out.1 (HB.out.2.ext hx))
  clear hx
  clear HB
  clear HG HN HF
  go_wp2_with fail
  refine (book_r x26).mono ?_
  rintro e x27 ⟨s, rfl, HB, hx⟩
  have X27 : Hid (Ext w x27) := X26.out.trans hx
  replace HR := Lib.hid (And.intro HR.out.1 (And.intro (HR.out.2.1.ext hx) (fun x hx9 => (HR.out.2.2 x hx9).ext hx)))
  clear hx
  go_wp2_with (go_at_call 24; refine (span_any _ _ _).mono ?_; rintro e w' ⟨rfl, rfl⟩)
  refine (wrong_w s x27 HB.out.1 HB.out.2).mono ?_
  rintro e y1 ⟨a3, c3, L3, rfl, hL3, hs3, hx⟩
  have Y1 : Hid (Ext w y1) := X27.out.trans hx
  replace HR := Lib.hid (And.intro HR.out.1 (And.intro (HR.out.2.1.ext hx) (fun x hx9 => (HR.out.2.2 x hx9).ext hx)))
  have HL3 := Lib.hid hL3
  have HS3 := Lib.hid hs3
  clear hx hL3 hs3 HB
  go_wp2_with fail
  refine (all_w r y1 HR.out.1 HR.out.2.1 HR.out.2.2).mono ?_
  rintro e y2 ⟨rfl, hx⟩
  have Y2 : Hid (Ext w y2) := Y1.out.trans hx
  replace HS3 := Lib.hid (HS3.out.ext hx)
  clear hx HR
  go_wp2_with fail
  refine (equal_lit a3 c3 L3 [1] y2 HS3.out (by simp) HL3.out).mono ?_
  rintro e y3 ⟨rfl, hx⟩
  have Y3 : Hid (Ext w y3) := Y2.out.trans hx
  clear hx
  go_wp2
  go_ret
  exact ⟨rfl, Y3.out⟩
end Go.Proofs.Ytfognlealnhodaa
