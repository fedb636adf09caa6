/-
  Readings and Numbers of package pillar answer how many readings there are, and which numbers each stone can have, for rolls and finds that are right; nothing that was there is turned.
-/
import Derived.Test.YtfognlealnhodaaNU
import Derived.Test.YtfognlealnhodaaCK
namespace Go.Proofs.Ytfognlealnhodaa
open Go.RowKit

/-- A block whose two boxes hold a roll and finds. -/
theorem two_new (w : World) (s : SL (Nat × Nat)) (f : FV) : Two ((w.alloc (.cells #[.slice s.a s.l.length s.c] 64)).alloc (.cells #[.slice f.gp.a f.gp.l.length f.gp.c, .slice f.nm.a f.nm.l.length f.nm.c] 66)) w.heap.size s f := by
  have h1 : ((w.alloc (.cells #[.slice s.a s.l.length s.c] 64)).alloc (.cells #[.slice f.gp.a f.gp.l.length f.gp.c, .slice f.nm.a f.nm.l.length f.nm.c] 66)).heap[w.heap.size]? = some (.cells #[.slice s.a s.l.length s.c] 64 (0, 0)) := (alloc_old (by simp only [World.size_alloc]; omega)).trans (alloc_new rfl)
  have h2 : ((w.alloc (.cells #[.slice s.a s.l.length s.c] 64)).alloc (.cells #[.slice f.gp.a f.gp.l.length f.gp.c, .slice f.nm.a f.nm.l.length f.nm.c] 66)).heap[w.heap.size + 1]? = some (.cells #[.slice f.gp.a f.gp.l.length f.gp.c, .slice f.nm.a f.nm.l.length f.nm.c] 66 (0, 0)) := alloc_new (by simp only [World.size_alloc])
  exact ⟨(cell_at h1 0).trans rfl, (cell_at h2 0).trans rfl, (cell_at h2 1).trans rfl⟩
/-- open, then read, as the functions of the package call them. -/
theorem open_h (s : SL (Nat × Nat)) (f : FV) (w : World) (hs : IsSl 2 spC w s) (hk : OkSt s.l f.gp.l f.nm.l) : ∀ w1, Ext w w1 → Calls Try.prog 63 #[.agg #[.slice s.a s.l.length s.c]] w1 fun e w' => ∃ B, e = .returned (.pointer (some ⟨B, 0, none⟩)) ∧ w1.heap.size ≤ B ∧ BkB w' B ⟨⟨none, 0, []⟩, ⟨none, 0, []⟩⟩ (s.l.length + 1) (apart s.l) (fun _ _ => 0) ∧ Ext w1 w' :=
  fun w1 h => open_any s w1 (hs.ext h) hk.r1 hk.r2 (fun x hx => by have := hk.rb x hx; omega)
theorem read_s (s : SL (Nat × Nat)) (f : FV) (w : World) (hf : IsF w f) (hk : OkSt s.l f.gp.l f.nm.l) : ∀ (B : Nat) (f0 : FV) (wy : Nat → Nat → Nat) (w2 : World), w.heap.size ≤ B → BkB w2 B f0 (s.l.length + 1) (apart s.l) wy → Ext w w2 → Calls Try.prog 64 #[.pointer (some ⟨B, 0, none⟩), f.v] w2 fun e w' => e = .returned (.int .i64 (readsF s.l f.gp.l f.nm.l : Int)) ∧ BkB w' B f (s.l.length + 1) (apart s.l) (tabW f.gp.l f.nm.l (apart s.l) (s.l.length + 1) f.gp.l.length 0 []) ∧ Ext w w' ∧ Keep (fun k => k ≠ B) w2 w' :=
  fun B f0 wy w2 hB hb hx => by
    refine (read_any B (s.l.length + 1) f0 f (apart s.l) wy w2 hb (hf.ext hx) (hf.lt.mono (fun x h => by have : x < w.heap.size := h; omega)) (by have := hk.gl; omega) (by have := hk.gl; have := hk.n2; omega) (by have := hk.r2; omega)).mono ?_
    rintro e w' ⟨rfl, h1, h2⟩
    exact ⟨rfl, h1, ext_keep hx h2 (fun i hi => by omega), h2⟩

set_option maxRecDepth 100000 in
set_option maxHeartbeats 4000000 in
theorem Readings_ok (s : SL (Nat × Nat)) (f : FV) (w : World) (hs : IsSl 2 spC w s) (hf : IsF w f) (hk : OkSt s.l f.gp.l f.nm.l) :
    Calls Try.prog 33 #[.agg #[.slice s.a s.l.length s.c], f.v] w fun e w' => e = .returned (.tuple #[.int .i64 (readsF s.l f.gp.l f.nm.l : Int), .int .i64 0]) ∧ Ext w w' := by
  have HT := Lib.hid (two_new w s f)
  have HX : Hid (Ext w ((w.alloc (.cells #[.slice s.a s.l.length s.c] 64)).alloc (.cells #[.slice f.gp.a f.gp.l.length f.gp.c, .slice f.nm.a f.nm.l.length f.nm.c] 66))) := ((Ext.refl w).alloc _).alloc _
  have HSl := Lib.hid hs
  have HF := Lib.hid hf
  have HK := Lib.hid hk
  have HSz : Hid (((w.alloc (.cells #[.slice s.a s.l.length s.c] 64)).alloc (.cells #[.slice f.gp.a f.gp.l.length f.gp.c, .slice f.nm.a f.nm.l.length f.nm.c] 66)).heap.size = w.heap.size + 2) := by show _ = _; simp only [World.size_alloc]
  clear hs hf hk
  obtain ⟨c0, c1, c2⟩ := HT.out
  have HCk := Lib.hid (checkStones_ok s f _ (HSl.out.ext HX.out) (HF.out.ext HX.out) HK.out)
  have HOp := Lib.hid (open_h s f _ HSl.out HK.out)
  have HRd := Lib.hid (read_s s f w HF.out HK.out)
  generalize readsF s.l f.gp.l f.nm.l = rd at *
  go_enter Try.func33, Try.ntmps33
  go_wp2_with fail
  generalize (w.alloc (.cells #[.slice s.a s.l.length s.c] 64)).alloc (.cells #[.slice f.gp.a f.gp.l.length f.gp.c, .slice f.nm.a f.nm.l.length f.nm.c] 66) = V at *
  refine HCk.out.mono ?_
  rintro e V1 ⟨rfl, hx1⟩
  have HX1 : Hid (Ext w V1) := HX.out.trans hx1
  obtain ⟨c0', c1', c2'⟩ := HT.out.ext hx1
  have HT1 := Lib.hid (HT.out.ext hx1)
  have HSz1 : Hid (w.heap.size + 2 ≤ V1.heap.size) := by have := hx1.size; rw [HSz.out] at this; exact this
  clear c0 c1 c2 hx1 HT
  go_wp2_with fail
  go_region_with (first
    | (go_at_call 63; refine (HOp.out _ (HX1.out.trans (Ext.refl V1).drew)).mono ?_; rintro e V2 ⟨B, rfl, hB, hBk, hx2⟩; have hx2' : Ext V1 V2 := (Ext.refl V1).drew.trans hx2; obtain ⟨d0, d1, d2⟩ := HT1.out.ext hx2')
    | (go_at_call 64; refine (HRd.out B _ _ _ (Nat.le_trans HX1.out.size hB) (by first | exact hBk | exact hBk.ext (Ext.refl _).drew) (by first | exact HX1.out.trans hx2' | exact (HX1.out.trans hx2').drew)).mono ?_; rintro e V3 ⟨rfl, hb3, hx3, -⟩))
  all_goals
    have HX3 := Lib.hid hx3
    clear hb3 hx3
    go_wp2
    go_ret2
    exact ⟨rfl, HX3.out⟩

set_option maxRecDepth 100000 in
set_option maxHeartbeats 4000000 in
theorem Numbers_ok (s : SL (Nat × Nat)) (f : FV) (w : World) (hs : IsSl 2 spC w s) (hf : IsF w f) (hk : OkSt s.l f.gp.l f.nm.l) (hr : 0 < readsF s.l f.gp.l f.nm.l) :
    Calls Try.prog 34 #[.agg #[.slice s.a s.l.length s.c], f.v] w fun e w' => ∃ r : SL (SL Nat), e = .returned (.tuple #[.slice r.a r.l.length r.c, .int .i64 0]) ∧ r.l.map (fun r => r.l) = numbersF f.gp.l f.nm.l (apart s.l) (s.l.length + 1) ∧ IsSl 1 slC w' r ∧ (∀ x ∈ r.l, IsSl 1 num w' x) ∧ Ext w w' := by
  have HT := Lib.hid (two_new w s f)
  have HX : Hid (Ext w ((w.alloc (.cells #[.slice s.a s.l.length s.c] 64)).alloc (.cells #[.slice f.gp.a f.gp.l.length f.gp.c, .slice f.nm.a f.nm.l.length f.nm.c] 66))) := ((Ext.refl w).alloc _).alloc _
  have HSl := Lib.hid hs
  have HF := Lib.hid hf
  have HK := Lib.hid hk
  have HSz : Hid (((w.alloc (.cells #[.slice s.a s.l.length s.c] 64)).alloc (.cells #[.slice f.gp.a f.gp.l.length f.gp.c, .slice f.nm.a f.nm.l.length f.nm.c] 66)).heap.size = w.heap.size + 2) := by show _ = _; simp only [World.size_alloc]
  clear hs hf hk
  obtain ⟨c0, c1, c2⟩ := HT.out
  have HCk := Lib.hid (checkStones_ok s f _ (HSl.out.ext HX.out) (HF.out.ext HX.out) HK.out)
  have HOp := Lib.hid (open_h s f _ HSl.out HK.out)
  have HRd := Lib.hid (read_s s f w HF.out HK.out)
  generalize readsF s.l f.gp.l f.nm.l = rd at *
  have hrd : ((rd : Int) == 0) = false := by rw [beq_eq_false_iff_ne]; omega
  go_enter Try.func34, Try.ntmps34
  go_wp2_with fail
  generalize (w.alloc (.cells #[.slice s.a s.l.length s.c] 64)).alloc (.cells #[.slice f.gp.a f.gp.l.length f.gp.c, .slice f.nm.a f.nm.l.length f.nm.c] 66) = V at *
  refine HCk.out.mono ?_
  rintro e V1 ⟨rfl, hx1⟩
  have HX1 : Hid (Ext w V1) := HX.out.trans hx1
  obtain ⟨c0', c1', c2'⟩ := HT.out.ext hx1
  have HT1 := Lib.hid (HT.out.ext hx1)
  have HSz1 : Hid (w.heap.size + 2 ≤ V1.heap.size) := by have := hx1.size; rw [HSz.out] at this; exact this
  clear c0 c1 c2 hx1 HT
  go_wp2_with fail
  refine (HOp.out _ HX1.out).mono ?_
  rintro e V2 ⟨B, rfl, hB, hBk, hx2⟩
  obtain ⟨d0, d1, d2⟩ := HT1.out.ext hx2
  have HBk := Lib.hid hBk
  have HX2 : Hid (Ext w V2) := HX1.out.trans hx2
  have hBw := Nat.le_trans HX1.out.size hB
  clear hBk hx2 c0' c1' c2'
  go_wp2_with fail
  refine (HRd.out B _ _ V2 hBw HBk.out HX2.out).mono ?_
  rintro e V3 ⟨rfl, hb3, hx3, -⟩
  have HB3 := Lib.hid hb3
  have HX3 := Lib.hid hx3
  clear hb3 hx3 d0 d1 d2
  go_wp2_with fail
  refine (numbers_any B (s.l.length + 1) f (apart s.l) _ V3 HB3.out (HF.out.ext HX3.out) (by have := HK.out.gl; omega) (by have := HK.out.gl; have := HK.out.n2; omega) (by have := HK.out.r2; omega) (fun r p hr _ => by simp [tabW, hr])).mono ?_
  rintro e V4 ⟨r, rfl, hm, h1, h2, hx4⟩
  have HM := Lib.hid hm
  have H1 := Lib.hid h1
  have H2 := Lib.hid h2
  have HX4 := Lib.hid hx4
  clear hm h1 h2 hx4
  go_wp2
  go_ret2
  exact ⟨r, rfl, HM.out, H1.out, H2.out, HX3.out.trans HX4.out⟩
end Go.Proofs.Ytfognlealnhodaa
