/-
  wrong and Wrong of package pillar name the stones that alone can be wrong, for rolls and finds of two or three stones that are right and have no reading; nothing else that was there is turned.
-/
import Derived.Test.YtfognlealnhodaaWO
namespace Go.Proofs.Ytfognlealnhodaa
open Go.RowKit

theorem lessG_len (gl : List (Nat × Nat)) (n st : Nat) (hn2 : 2 ≤ n) (hg : gl.length + 1 = n) (hS : st = 0 ∨ st + 1 = n ∨ st + 2 = n) : (lessG gl n st).length + 2 = n := by
  unfold lessG
  by_cases h0 : st = 0
  · rw [if_pos h0, List.length_drop]; omega
  · rw [if_neg h0]
    by_cases h1 : st = n - 1
    · rw [if_pos h1, List.length_take]; omega
    · rw [if_neg h1]
      simp only [List.length_append, List.length_take, List.length_drop, List.length_cons, List.length_nil]
      omega

set_option maxRecDepth 100000 in
set_option maxHeartbeats 4000000 in
theorem wrong_any (B : Nat) (s : List (Nat × Nat)) (f f0 : FV) (wy0 : Nat → Nat → Nat) (w : World) (hw : BkB w B f0 (s.length + 1) (apart s) wy0) (hf : IsF w f) (hO : FIn (fun k => k ≠ B) f) (hk : OkSt s f.gp.l f.nm.l) (hn2 : 2 ≤ f.nm.l.length) (hn3 : f.nm.l.length ≤ 3) :
    Calls Try.prog 66 #[.pointer (some ⟨B, 0, none⟩), f.v] w fun e w' => ∃ a c l, e = .returned (.slice a l.length c) ∧ l = wrongF s f.gp.l f.nm.l ∧ w'.ownsRow w.heap.size 3 1 (.slice a l.length c) l.length (nums l) ∧ Keep (fun k => k ≠ B) w w' := by
  obtain ⟨i0, hi, hz0, hz1, hz2⟩ := info_parts info3
  obtain ⟨V, hV⟩ : ∃ V, w.alloc (.cells #[.slice f.gp.a f.gp.l.length f.gp.c, .slice f.nm.a f.nm.l.length f.nm.c] 66) = V := ⟨_, rfl⟩
  have HX : Hid (Ext w V) := by show Ext w V; rw [← hV]; exact (Ext.refl w).alloc _
  have Hb : Hid (V.heap[w.heap.size]? = some (.cells #[.slice f.gp.a f.gp.l.length f.gp.c, .slice f.nm.a f.nm.l.length f.nm.c] 66 (0, 0))) := by show _ = _; rw [← hV]; exact alloc_new rfl
  have HVz : Hid (V.heap.size = w.heap.size + 1) := by show _ = _; rw [← hV, World.size_alloc]
  have HB0 : Hid (∃ f0 wy0, BkB V B f0 (s.length + 1) (apart s) wy0) := ⟨f0, wy0, hw.ext HX.out⟩
  have HF := Lib.hid hf
  have HK := Lib.hid hk
  have HOf := Lib.hid hO
  clear hO
  have hBl := hw.lt
  obtain ⟨n, hnn⟩ : ∃ n, f.nm.l.length = n := ⟨_, rfl⟩
  have HN := Lib.hid hnn
  rw [hnn] at hn2 hn3
  have c1 : V.cell? ⟨w.heap.size, 1, none⟩ = some (.slice f.nm.a n f.nm.c) := by rw [← hnn]; exact (cell_at Hb.out 1).trans rfl
  clear hw hf hk hnn
  go_enter Try.func66, Try.ntmps66
  go_wp2_with fail
  clear hV c1
  go_loopw [5, 10] (fun u i wr => ∃ (k : Nat) (a : Option Addr) (c : Nat) (l : List Nat), k ≤ n ∧ i = .int .i64 (k : Int) ∧ u = .slice a l.length c ∧ l.length ≤ k ∧ Hid (l = (List.range k).filter fun st => decide (0 < readsF s (lessG f.gp.l n st) (f.nm.l.eraseIdx st))) ∧ Hid (wr.ownsRow (w.heap.size + 1) 3 1 (.slice a l.length c) l.length (nums l)) ∧ Hid (∃ f0 wy0, BkB wr B f0 (s.length + 1) (apart s) wy0) ∧ Hid (Keep (fun k => k ≠ B) V wr)) (fun _ i _ => n - (intOf i).toNat)
  case atStart => exact ⟨0, none, 0, [], Nat.zero_le _, rfl, rfl, Nat.le_refl _, rfl, World.ownsRow_nil _ _ _ _, HB0, Keep.refl _ _⟩
  case round =>
    clear HB0
    obtain ⟨wo, rfl⟩ : ∃ wo : World, wo = wr := ⟨_, rfl⟩
    obtain ⟨k, a, c, l, hk, rfl, rfl, hl, HL, HO, HB, HKp⟩ := hrel
    by_cases hlt : k < n
    · have dk : decide ((k : Int) < (n : Int)) = true := decide_eq_true (by omega)
      have hne : w.heap.size ≠ B := by omega
      have q0 : wo.cell? ⟨w.heap.size, 0, none⟩ = some (.slice f.gp.a f.gp.l.length f.gp.c) := (cell_at (HKp.out.heap Hb.out hne) 0).trans rfl
      have q1 : wo.cell? ⟨w.heap.size, 1, none⟩ = some (.slice f.nm.a f.nm.l.length f.nm.c) := (cell_at (HKp.out.heap Hb.out hne) 1).trans rfl
      have HFo : Hid (IsF wo f) := (HF.out.ext HX.out).keep HKp.out HOf.out
      have hS : k = 0 ∨ k + 1 = n ∨ k + 2 = n := by omega
      have HWo := Lib.hid (without_any f k wo HFo.out (by rw [HN.out]; exact hn2) (by rw [HN.out]; omega) (by rw [HN.out]; have := HK.out.gl; have := HN.out; omega) (by rw [HN.out]; exact hlt) (fun x hx => by have := HK.out.gb x hx; omega) (by rw [HN.out]; exact hS))
      go_wp2_with fail
      refine HWo.out.mono ?_
      rintro e w2 ⟨f', rfl, hg', hn', hf', hfi, hx2⟩
      rw [HN.out] at hg'
      have HF' := Lib.hid hf'
      have HX2 := Lib.hid hx2
      have hln : f'.nm.l.length + 1 = n := by rw [hn', List.length_eraseIdx, if_pos (by rw [HN.out]; exact hlt), HN.out]; omega
      have hlg : f'.gp.l.length + 2 = n := by rw [hg']; exact lessG_len f.gp.l n k hn2 (by have := HK.out.gl; rw [HN.out] at this; omega) hS
      have hBo : B < wo.heap.size := Nat.lt_of_lt_of_le hBl (Nat.le_trans HX.out.size HKp.out.size)
      have HRd : Hid (readF f'.gp.l f'.nm.l (apart s) (s.length + 1) = readsF s (lessG f.gp.l n k) (f.nm.l.eraseIdx k)) := by show _ = _; rw [hg', hn']; rfl
      obtain ⟨f1, wy1, hb1⟩ := HB.out
      have HRe := Lib.hid (read_any B (s.length + 1) f1 f' (apart s) wy1 w2 (hb1.ext hx2) hf' (hfi.mono (fun x h => by have : wo.heap.size ≤ x := h; omega)) (by omega) (by omega) (by have := HK.out.r2; omega))
      rw [HRd.out] at HRe
      have HR1 := Lib.hid (range_filter_succ (fun st => decide (0 < readsF s (lessG f.gp.l n st) (f.nm.l.eraseIdx st))) k)
      clear hg' hn' hf' hfi hx2 hb1 HWo HRd HB
      obtain ⟨rd, hrq⟩ : ∃ rd, readsF s (lessG f.gp.l n k) (f.nm.l.eraseIdx k) = rd := ⟨_, rfl⟩
      rw [hrq] at HRe
      have HRq := Lib.hid hrq
      clear hrq
      clear hln hlg hS
      by_cases hrd : 0 < rd
      · have dr : decide ((0 : Int) < (rd : Int)) = true := decide_eq_true (by omega)
        have HL2 : Hid (l ++ [k] = (List.range (k + 1)).filter fun st => decide (0 < readsF s (lessG f.gp.l n st) (f.nm.l.eraseIdx st))) := by show _ = _; rw [HR1.out, HL.out, HRq.out, decide_eq_true hrd]; simp
        go_upto_region 6 with (go_at_call 64; refine HRe.out.mono ?_; rintro e w3 ⟨rfl, hb3, hk3⟩)
        have HB3 : Hid (∃ f0 wy0, BkB w3 B f0 (s.length + 1) (apart s) wy0) := ⟨_, _, hb3⟩
        have HK3 : Hid (Keep (fun k => k ≠ B) V w3) := (HKp.out.ext HX2.out).trans hk3
        have HO3 : Hid (w3.ownsRow (w.heap.size + 1) 3 1 (.slice a l.length c) l.length (nums l)) := own_keep (own_ext HO.out HX2.out) hk3 (fun i hi => by omega)
        have HNw := Lib.hid (new_cells w3 (nums [k]) 3)
        have hsz := HK3.out.size
        have hxs := HX.out.size
        have hVs : w.heap.size + 1 ≤ V.heap.size := (Array.getElem?_eq_some_iff.1 Hb.out).1
        have hmx : l.length + 1 ≤ maxLen := by unfold maxLen; omega
        have hmb : (l.length + 1) * 8 ≤ 140737488355328 := by omega
        have hb6 : w.heap.size + 1 ≤ (w3.alloc (.cells (nums [k]).toArray 3)).heap.size := by rw [World.size_alloc]; omega
        clear hb3 hk3 q0 q1
        go_wp2_with (at_builtin; go_must (refine wpList_append_own _ rfl _ _ 25 rfl (w.heap.size + 1) 3 i0 (.int .i64 0) 1 8 Try.underlying25 hi hz0 hz1 hz2 rfl (by decide) _ l.length (nums l) rfl (own_ext HO3.out ((Ext.refl w3).alloc _)) ⟨w3.heap.size, 0, none⟩ 1 1 (nums [k]) rfl rfl HNw.out (nums_one [k]) hmx hmb hb6 ?_); intro v' w5 hown hgrow _)
        obtain ⟨a5, c5, rfl⟩ := own_form hown
        rw [← nums_append, show l.length + 1 = (l ++ [k]).length by simp] at hown
        have HO5 := Lib.hid hown
        have HK5 : Hid (Keep (fun k => k ≠ B) V w5) := (HK3.out.alloc _).grown hgrow (fun k' e h => by have := own_lt HO3.out k' e; have := HVz.out; omega)
        have HB5 : Hid (∃ f0 wy0, BkB w5 B f0 (s.length + 1) (apart s) wy0) := by
          obtain ⟨f9, wy9, h9⟩ := HB3.out
          exact ⟨f9, wy9, (h9.ext ((Ext.refl w3).alloc _)).keep (D := fun k => k < w.heap.size + 1) ((Keep.refl _ _).grown hgrow (fun k' e _ h => by have := own_lt HO3.out k' e; have h2 : k' < w.heap.size + 1 := h; omega)) (show B < w.heap.size + 1 by omega)⟩
        clear hown hgrow
        go_roundw
        case rel => exact ⟨k + 1, a5, c5, l ++ [k], by omega, by go_num, by simp, by simp; omega, HL2, HO5, HB5, HK5⟩
        case measure => simp [intOf]; omega
      · have dr : decide ((0 : Int) < (rd : Int)) = false := decide_eq_false (by omega)
        have HL2 : Hid (l = (List.range (k + 1)).filter fun st => decide (0 < readsF s (lessG f.gp.l n st) (f.nm.l.eraseIdx st))) := by show _ = _; rw [HR1.out, ← HL.out, HRq.out, decide_eq_false hrd]; simp
        go_wp2_with (go_at_call 64; refine HRe.out.mono ?_; rintro e w3 ⟨rfl, hb3, hk3⟩)
        go_roundw
        case rel => exact ⟨k + 1, a, c, l, by omega, by go_num, rfl, by omega, HL2, own_keep (own_ext HO.out HX2.out) hk3 (fun i hi => by omega), ⟨_, _, hb3⟩, (HKp.out.ext HX2.out).trans hk3⟩
        case measure => simp [intOf]; omega
    · have dk : decide ((k : Int) < (n : Int)) = false := decide_eq_false (by omega)
      have HL2 : Hid (l = wrongF s f.gp.l f.nm.l) := by show _ = _; rw [HL.out]; unfold wrongF; rw [HN.out, show k = n by omega]
      go_wp2
      go_ret
      exact ⟨a, c, l, rfl, HL2.out, own_mono HO.out (by omega), Keep.trans (Keep.of_ext HX.out) HKp.out⟩

set_option maxRecDepth 100000 in
set_option maxHeartbeats 4000000 in
theorem Wrong_ok (s : SL (Nat × Nat)) (f : FV) (w : World) (hs : IsSl 2 spC w s) (hf : IsF w f) (hk : OkSt s.l f.gp.l f.nm.l) (hr : readsF s.l f.gp.l f.nm.l = 0) (hn2 : 2 ≤ f.nm.l.length) (hn3 : f.nm.l.length ≤ 3) :
    Calls Try.prog 35 #[.agg #[.slice s.a s.l.length s.c], f.v] w fun e w' => ∃ a c l, e = .returned (.tuple #[.slice a l.length c, .int .i64 0]) ∧ l = wrongF s.l f.gp.l f.nm.l ∧ w'.ownsRow w.heap.size 3 1 (.slice a l.length c) l.length (nums l) ∧ Ext w w' := by
  have HT := Lib.hid (two_new w s f)
  have HX : Hid (Ext w ((w.alloc (.cells #[.slice s.a s.l.length s.c] 64)).alloc (.cells #[.slice f.gp.a f.gp.l.length f.gp.c, .slice f.nm.a f.nm.l.length f.nm.c] 66))) := ((Ext.refl w).alloc _).alloc _
  have HSl := Lib.hid hs
  have HF := Lib.hid hf
  have HK := Lib.hid hk
  have HSz : Hid (((w.alloc (.cells #[.slice s.a s.l.length s.c] 64)).alloc (.cells #[.slice f.gp.a f.gp.l.length f.gp.c, .slice f.nm.a f.nm.l.length f.nm.c] 66)).heap.size = w.heap.size + 2) := by show _ = _; simp only [World.size_alloc]
  clear hs hf hk
  obtain ⟨c0, c1, c2⟩ := HT.out
  have HCk := Lib.hid (checkStones_ok s f _ (HSl.out.ext HX.out) (HF.out.ext HX.out) HK.out)
  have HOp := Lib.hid (open_h s f _ HSl.out HK.out)
  have HRd := Lib.hid (read_s s f w HF.out HK.out)
  rw [hr] at HRd
  clear hr
  go_enter Try.func35, Try.ntmps35
  go_wp2_with fail
  generalize (w.alloc (.cells #[.slice s.a s.l.length s.c] 64)).alloc (.cells #[.slice f.gp.a f.gp.l.length f.gp.c, .slice f.nm.a f.nm.l.length f.nm.c] 66) = V at *
  refine HCk.out.mono ?_
  rintro e V1 ⟨rfl, hx1⟩
  have HX1 : Hid (Ext w V1) := HX.out.trans hx1
  obtain ⟨c0', c1', c2'⟩ := HT.out.ext hx1
  have HT1 := Lib.hid (HT.out.ext hx1)
  have HSz1 : Hid (w.heap.size + 2 ≤ V1.heap.size) := by have := hx1.size; rw [HSz.out] at this; exact this
  clear c0 c1 c2 hx1 HT
  go_wp2_with fail
  refine (HOp.out _ HX1.out).mono ?_
  rintro e V2 ⟨B, rfl, hB, hBk, hx2⟩
  obtain ⟨d0, d1, d2⟩ := HT1.out.ext hx2
  have HBk := Lib.hid hBk
  have HX12 := Lib.hid hx2
  have HX2 : Hid (Ext w V2) := HX1.out.trans hx2
  have hBw := Nat.le_trans HX1.out.size hB
  clear hBk hx2 c0' c1' c2'
  go_wp2_with fail
  refine (HRd.out B _ _ V2 hBw HBk.out HX2.out).mono ?_
  rintro e V3 ⟨rfl, hb3, hx3, hk3⟩
  have HB3 := Lib.hid hb3
  have HX3 := Lib.hid hx3
  have hsz1 := HSz1.out
  have t1 : V3.cell? ⟨w.heap.size + 1, 0, none⟩ = some (.slice f.gp.a f.gp.l.length f.gp.c) := hk3.cell d1 (show w.heap.size + 1 ≠ B by omega)
  have t2 : V3.cell? ⟨w.heap.size + 1, 1, none⟩ = some (.slice f.nm.a f.nm.l.length f.nm.c) := hk3.cell d2 (show w.heap.size + 1 ≠ B by omega)
  clear hb3 hx3 d0 d1 d2 hk3
  go_wp2_with fail
  refine (wrong_any B s.l f f _ V3 HB3.out (HF.out.ext HX3.out) (HF.out.lt.mono (fun x h => by have h2 : x < w.heap.size := h; omega)) HK.out hn2 hn3).mono ?_
  rintro e V4 ⟨a, c, l, rfl, hl, ho, hk4⟩
  have HL := Lib.hid hl
  have HO := Lib.hid (own_mono ho HX3.out.size)
  have HX4 : Hid (Ext w V4) := ext_keep HX3.out hk4 (fun i hi => by omega)
  clear hl ho hk4 t1 t2
  go_wp2
  go_ret2
  exact ⟨a, c, l, rfl, HL.out, HO.out, HX4.out⟩
end Go.Proofs.Ytfognlealnhodaa
