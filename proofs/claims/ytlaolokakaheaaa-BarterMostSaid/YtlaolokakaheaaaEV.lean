/-
  Order, Even and Most of package barter, of a valid land. The land must lie in memory as told.
-/
import Derived.Test.YtlaolokakaheaaaBY
import Derived.Test.YtlaolokakaheaaaAP
namespace Go.Proofs.Ytlaolokakaheaaa
open Go.RowKit

/-- A valid land in memory. -/
structure LIn (w : World) (x : Ld) : Prop where
  st : StL w x.s
  vi : IsSl 1 num w x.v
  ok : OkL x.s.l x.v.l
theorem LIn.ext {w w' : World} {x : Ld} (h : LIn w x) (k : Ext w w') : LIn w' x := ⟨h.st.ext k, h.vi.ext k, h.ok⟩
theorem byBoth_any (x : Ld) (w : World) : Calls Try.prog 27 #[x.val] w fun e w' => ∃ B, e = .returned (.pointer (some ⟨B, 0, none⟩)) ∧ IsWk w' B x true ∧ Ext w w' := by
  obtain ⟨⟨sa, sc, L⟩, ⟨va, vc, vl⟩⟩ := x
  go_enter Try.func27, Try.ntmps27
  go_wp2
  go_ret
  exact ⟨_, rfl, alloc_new (by simp only [World.size_alloc]), ((Ext.refl w).alloc _).alloc _⟩
theorem byNorth_any (x : Ld) (w : World) : Calls Try.prog 42 #[x.val] w fun e w' => ∃ B, e = .returned (.pointer (some ⟨B, 0, none⟩)) ∧ IsWk w' B x false ∧ Ext w w' := by
  obtain ⟨⟨sa, sc, L⟩, ⟨va, vc, vl⟩⟩ := x
  go_enter Try.func42, Try.ntmps42
  go_wp2
  go_ret
  exact ⟨_, rfl, alloc_new (by simp only [World.size_alloc]), ((Ext.refl w).alloc _).alloc _⟩

set_option maxHeartbeats 1000000 in
theorem Order_ok (x : Ld) (w : World) (h : LIn w x) :
    Calls Try.prog 38 #[x.val] w fun e w' => ∃ (a : Option Addr) (c : Nat), e = .returned (.tuple #[.slice a (orderF x.s.l).length c, .int .i64 0]) ∧ w'.ownsRow w.heap.size 3 1 (.slice a (orderF x.s.l).length c) (orderF x.s.l).length (nums (orderF x.s.l)) ∧ Ext w w' := by
  have HC := Lib.hid (fun (V : World) (k : Ext w V) => check_ok x V (h.st.ext k) (h.vi.ext k) h.ok)
  have HO := Lib.hid (fun (V : World) (k : Ext w V) => order_any x V (h.st.ext k) h.ok.oks h.ok.l2)
  clear h
  obtain ⟨⟨sa, sc, L⟩, ⟨va, vc, vl⟩⟩ := x
  dsimp only at *
  generalize orderF L = ol at *
  have HM0 : Hid (Mm w [] [(w.heap.size, .cells #[.slice sa L.length sc, .slice va vl.length vc] 26)] (w.alloc (.cells #[.slice sa L.length sc, .slice va vl.length vc] 26))) := (Mm.start (w0 := w)).new (.cells #[.slice sa L.length sc, .slice va vl.length vc] 26)
  go_enter Try.func38, Try.ntmps38
  go_upto_region 1 with (fail)
  generalize w.alloc (.cells #[.slice sa L.length sc, .slice va vl.length vc] 26) = V0 at *
  have l0 := HM0.out.cell 0 (j := 0) rfl rfl
  have l1 := HM0.out.cell 0 (j := 1) rfl rfl
  go_wp2_with (first
    | (go_at_call 26; refine (HC.out _ HM0.out.to_ext).mono ?_; rintro e V1 ⟨rfl, hx⟩; have HM1 := Lib.hid (HM0.out.ext hx); clear hx l0 l1; have l0 := HM1.out.cell 0 (j := 0) rfl rfl; have l1 := HM1.out.cell 0 (j := 1) rfl rfl)
    | (go_at_call 51; refine (HO.out _ HM1.out.to_ext).mono ?_; rintro e V2 ⟨a, c, rfl, ho, hx⟩; have HM2 := Lib.hid (HM1.out.ext hx); clear hx))
  refine bodyPost_ret (results_tmp2 rfl _ _ _) rfl ?_
  exact ⟨a, c, rfl, own_mono ho HM1.out.to_ext.size, HM2.out.to_ext⟩

/-- An exchange in memory of a call's own. -/
structure XNew (w : World) (g cap : Nat) (P : List Nat) (w' : World) : Prop where
  row : Row w' g P cap
  new : w.heap.size ≤ g
  x : Ext w w'

set_option maxHeartbeats 1000000 in
theorem Even_ok (x : Ld) (w : World) (h : LIn w x) (W : Nat) (P : List Nat) (hb : byOrderF x.s.l true 0 = some (W, P)) :
    Calls Try.prog 10 #[x.val] w fun e w' => ∃ g cap, e = .returned (.tuple #[.agg #[.int .i64 (W : Int), .slice (some ⟨g, 0, none⟩) x.s.l.length cap], .int .i64 0]) ∧ XNew w g cap P w' := by
  have HC := Lib.hid (fun (V : World) (k : Ext w V) => check_ok x V (h.st.ext k) (h.vi.ext k) h.ok)
  have HB := Lib.hid (fun (V : World) => byBoth_any x V)
  have HY : Hid (∀ (V : World) (B : Nat), Ext w V → IsWk V B x true → Calls Try.prog 28 #[.pointer (some ⟨B, 0, none⟩), .int .i64 0] V (ByPost V x.s.l (some (W, P)))) := fun V B k hw => by
    have := byOrder_any true x B 0 V hw (h.st.ext k) h.ok.oks h.ok.ob h.ok.l2 (by omega)
    rw [hb] at this
    exact this
  clear h hb
  obtain ⟨⟨sa, sc, L⟩, ⟨va, vc, vl⟩⟩ := x
  dsimp only at *
  have HM0 : Hid (Mm w [] [(w.heap.size, .cells #[.slice sa L.length sc, .slice va vl.length vc] 26), (w.heap.size + 1, .cells #[.int .i64 0, .slice none 0 0] 31)] ((w.alloc (.cells #[.slice sa L.length sc, .slice va vl.length vc] 26)).alloc (.cells #[.int .i64 0, .slice none 0 0] 31))) := by
    have h := ((Mm.start (w0 := w)).new (.cells #[.slice sa L.length sc, .slice va vl.length vc] 26)).new (.cells #[.int .i64 0, .slice none 0 0] 31)
    simp only [World.size_alloc] at h
    exact h
  go_enter Try.func10, Try.ntmps10
  go_upto_region 1 with (fail)
  generalize (w.alloc (.cells #[.slice sa L.length sc, .slice va vl.length vc] 26)).alloc (.cells #[.int .i64 0, .slice none 0 0] 31) = V0 at *
  generalize w.heap.size + 1 = RB at *
  have l0 := HM0.out.cell 0 (j := 0) rfl rfl
  have l1 := HM0.out.cell 0 (j := 1) rfl rfl
  go_upto_region 5 with (first
    | (go_at_call 26; refine (HC.out _ HM0.out.to_ext).mono ?_; rintro e V1 ⟨rfl, hx⟩; have HM1 := Lib.hid (HM0.out.ext hx); clear hx l0 l1; have l0 := HM1.out.cell 0 (j := 0) rfl rfl; have l1 := HM1.out.cell 0 (j := 1) rfl rfl)
    | (go_at_call 27; refine (HB.out _).mono ?_; rintro e V2 ⟨B, rfl, hw, hx⟩; have HM2 := Lib.hid (HM1.out.ext hx); have HWk := Lib.hid hw; clear hx hw l0 l1)
    | (go_at_call 28; refine (HY.out _ B HM2.out.to_ext HWk.out).mono ?_; rintro e V3 ⟨g, cap, rfl, hr, hg, hx⟩; have HM3 := Lib.hid ((HM2.out.ext hx).new (.cells #[.int .i64 (W : Int), .slice (some ⟨g, 0, none⟩) L.length cap] 31)); have HR3 := Lib.hid (hr.ext ((Ext.refl V3).alloc (.cells #[.int .i64 (W : Int), .slice (some ⟨g, 0, none⟩) L.length cap] 31))); have HG : Hid (w.heap.size ≤ g ∧ RB ≠ g) := (by have q1 := HM2.out.to_ext.size; have q2 := HM2.out.blt (i := 1) rfl; dsimp only at q2; exact ⟨by omega, by omega⟩); clear hr hg hx))
  generalize V3.alloc (.cells #[.int .i64 (W : Int), .slice (some ⟨g, 0, none⟩) L.length cap] 31) = V4 at *
  generalize V3.heap.size = XB at *
  have x0 := HM3.out.cell 2 (j := 0) rfl rfl
  have x1 := HM3.out.cell 2 (j := 1) rfl rfl
  have z0 := HM3.out.cell 1 (j := 0) rfl rfl
  have z1 := HM3.out.cell 1 (j := 1) rfl rfl
  have f0 := HM3.out.frozen 1 (j := 0) rfl
  have f1 := HM3.out.frozen 1 (j := 1) rfl
  go_wp2_with fail
  have HE := Lib.hid ((HM3.out.cellPut (j := 0) 1 rfl (.int .i64 (W : Int))).cellPut (j := 1) 1 rfl (.slice (some ⟨g, 0, none⟩) L.length cap))
  refine bodyPost_ret (results_ex rfl _ _ RB _ _ rfl (HE.out.heap 1 rfl)) rfl ?_
  exact ⟨g, cap, rfl, HR3.out.keep (((Keep.refl (fun k => k ≠ RB) V4).setCell _ _ (fun _ h => h rfl)).setCell _ _ (fun _ h => h rfl)) (fun e => HG.out.2 e.symm), HG.out.1, HE.out.to_ext⟩

set_option maxHeartbeats 1000000 in
theorem Most_some (x : Ld) (gain : Int) (w : World) (h : LIn w x) (hg : -10000 ≤ gain ∧ gain ≤ 50000) (W : Nat) (P : List Nat) (hb : byOrderF x.s.l false gain = some (W, P)) :
    Calls Try.prog 21 #[x.val, .int .i64 gain] w fun e w' => ∃ g cap, e = .returned (.tuple #[.agg #[.int .i64 (W : Int), .slice (some ⟨g, 0, none⟩) x.s.l.length cap], .int .i64 0]) ∧ XNew w g cap P w' := by
  have HC := Lib.hid (fun (V : World) (k : Ext w V) => check_ok x V (h.st.ext k) (h.vi.ext k) h.ok)
  have HB := Lib.hid (fun (V : World) => byNorth_any x V)
  have HY : Hid (∀ (V : World) (B : Nat), Ext w V → IsWk V B x false → Calls Try.prog 28 #[.pointer (some ⟨B, 0, none⟩), .int .i64 gain] V (ByPost V x.s.l (some (W, P)))) := fun V B k hw => by
    have := byOrder_any false x B gain V hw (h.st.ext k) h.ok.oks h.ok.ob h.ok.l2 hg
    rw [hb] at this
    exact this
  clear h hb hg
  obtain ⟨⟨sa, sc, L⟩, ⟨va, vc, vl⟩⟩ := x
  dsimp only at *
  have HM0 : Hid (Mm w [] [(w.heap.size, .cells #[.slice sa L.length sc, .slice va vl.length vc] 26), (w.heap.size + 1, .cells #[.int .i64 0, .slice none 0 0] 31)] ((w.alloc (.cells #[.slice sa L.length sc, .slice va vl.length vc] 26)).alloc (.cells #[.int .i64 0, .slice none 0 0] 31))) := by
    have h := ((Mm.start (w0 := w)).new (.cells #[.slice sa L.length sc, .slice va vl.length vc] 26)).new (.cells #[.int .i64 0, .slice none 0 0] 31)
    simp only [World.size_alloc] at h
    exact h
  go_enter Try.func21, Try.ntmps21
  go_upto_region 1 with (fail)
  generalize (w.alloc (.cells #[.slice sa L.length sc, .slice va vl.length vc] 26)).alloc (.cells #[.int .i64 0, .slice none 0 0] 31) = V0 at *
  generalize w.heap.size + 1 = RB at *
  have l0 := HM0.out.cell 0 (j := 0) rfl rfl
  have l1 := HM0.out.cell 0 (j := 1) rfl rfl
  go_upto_region 7 with (first
    | (go_at_call 26; refine (HC.out _ HM0.out.to_ext).mono ?_; rintro e V1 ⟨rfl, hx⟩; have HM1 := Lib.hid (HM0.out.ext hx); clear hx l0 l1; have l0 := HM1.out.cell 0 (j := 0) rfl rfl; have l1 := HM1.out.cell 0 (j := 1) rfl rfl)
    | (go_at_call 42; refine (HB.out _).mono ?_; rintro e V2 ⟨B, rfl, hw, hx⟩; have HM2 := Lib.hid (HM1.out.ext hx); have HWk := Lib.hid hw; clear hx hw l0 l1)
    | (go_at_call 28; refine (HY.out _ B HM2.out.to_ext HWk.out).mono ?_; rintro e V3 ⟨g, cap, rfl, hr, hg, hx⟩; have HM3 := Lib.hid ((HM2.out.ext hx).new (.cells #[.int .i64 (W : Int), .slice (some ⟨g, 0, none⟩) L.length cap] 31)); have HR3 := Lib.hid (hr.ext ((Ext.refl V3).alloc (.cells #[.int .i64 (W : Int), .slice (some ⟨g, 0, none⟩) L.length cap] 31))); have HG : Hid (w.heap.size ≤ g ∧ RB ≠ g) := (by have q1 := HM2.out.to_ext.size; have q2 := HM2.out.blt (i := 1) rfl; dsimp only at q2; exact ⟨by omega, by omega⟩); clear hr hg hx))
  generalize V3.alloc (.cells #[.int .i64 (W : Int), .slice (some ⟨g, 0, none⟩) L.length cap] 31) = V4 at *
  generalize V3.heap.size = XB at *
  have x0 := HM3.out.cell 2 (j := 0) rfl rfl
  have x1 := HM3.out.cell 2 (j := 1) rfl rfl
  have z0 := HM3.out.cell 1 (j := 0) rfl rfl
  have z1 := HM3.out.cell 1 (j := 1) rfl rfl
  have f0 := HM3.out.frozen 1 (j := 0) rfl
  have f1 := HM3.out.frozen 1 (j := 1) rfl
  go_wp2_with fail
  have HE := Lib.hid ((HM3.out.cellPut (j := 0) 1 rfl (.int .i64 (W : Int))).cellPut (j := 1) 1 rfl (.slice (some ⟨g, 0, none⟩) L.length cap))
  refine bodyPost_ret (results_ex rfl _ _ RB _ _ rfl (HE.out.heap 1 rfl)) rfl ?_
  exact ⟨g, cap, rfl, HR3.out.keep (((Keep.refl (fun k => k ≠ RB) V4).setCell _ _ (fun _ h => h rfl)).setCell _ _ (fun _ h => h rfl)) (fun e => HG.out.2 e.symm), HG.out.1, HE.out.to_ext⟩

set_option maxHeartbeats 1000000 in
theorem Most_none (x : Ld) (gain : Int) (w : World) (h : LIn w x) (hg : -10000 ≤ gain ∧ gain ≤ 50000) (hb : byOrderF x.s.l false gain = none) :
    Calls Try.prog 21 #[x.val, .int .i64 gain] w fun e w' => e = .returned (.tuple #[.agg #[.int .i64 0, .slice none 0 0], .int .i64 7]) ∧ Ext w w' := by
  have HC := Lib.hid (fun (V : World) (k : Ext w V) => check_ok x V (h.st.ext k) (h.vi.ext k) h.ok)
  have HB := Lib.hid (fun (V : World) => byNorth_any x V)
  have HY : Hid (∀ (V : World) (B : Nat), Ext w V → IsWk V B x false → Calls Try.prog 28 #[.pointer (some ⟨B, 0, none⟩), .int .i64 gain] V (ByPost V x.s.l none)) := fun V B k hw => by
    have := byOrder_any false x B gain V hw (h.st.ext k) h.ok.oks h.ok.ob h.ok.l2 hg
    rw [hb] at this
    exact this
  clear h hb hg
  obtain ⟨⟨sa, sc, L⟩, ⟨va, vc, vl⟩⟩ := x
  dsimp only at *
  have HM0 : Hid (Mm w [] [(w.heap.size, .cells #[.slice sa L.length sc, .slice va vl.length vc] 26), (w.heap.size + 1, .cells #[.int .i64 0, .slice none 0 0] 31)] ((w.alloc (.cells #[.slice sa L.length sc, .slice va vl.length vc] 26)).alloc (.cells #[.int .i64 0, .slice none 0 0] 31))) := by
    have h := ((Mm.start (w0 := w)).new (.cells #[.slice sa L.length sc, .slice va vl.length vc] 26)).new (.cells #[.int .i64 0, .slice none 0 0] 31)
    simp only [World.size_alloc] at h
    exact h
  go_enter Try.func21, Try.ntmps21
  go_upto_region 1 with (fail)
  generalize (w.alloc (.cells #[.slice sa L.length sc, .slice va vl.length vc] 26)).alloc (.cells #[.int .i64 0, .slice none 0 0] 31) = V0 at *
  generalize w.heap.size + 1 = RB at *
  have l0 := HM0.out.cell 0 (j := 0) rfl rfl
  have l1 := HM0.out.cell 0 (j := 1) rfl rfl
  go_upto_region 6 with (first
    | (go_at_call 26; refine (HC.out _ HM0.out.to_ext).mono ?_; rintro e V1 ⟨rfl, hx⟩; have HM1 := Lib.hid (HM0.out.ext hx); clear hx l0 l1; have l0 := HM1.out.cell 0 (j := 0) rfl rfl; have l1 := HM1.out.cell 0 (j := 1) rfl rfl)
    | (go_at_call 42; refine (HB.out _).mono ?_; rintro e V2 ⟨B, rfl, hw, hx⟩; have HM2 := Lib.hid (HM1.out.ext hx); have HWk := Lib.hid hw; clear hx hw l0 l1)
    | (go_at_call 28; refine (HY.out _ B HM2.out.to_ext HWk.out).mono ?_; rintro e V3 ⟨rfl, hx⟩; have HM3 := Lib.hid ((HM2.out.ext hx).new (.cells #[.int .i64 0, .slice none 0 0] 31)); clear hx))
  generalize V3.alloc (.cells #[.int .i64 0, .slice none 0 0] 31) = V4 at *
  have z0 := HM3.out.cell 1 (j := 0) rfl rfl
  have z1 := HM3.out.cell 1 (j := 1) rfl rfl
  have f0 := HM3.out.frozen 1 (j := 0) rfl
  have f1 := HM3.out.frozen 1 (j := 1) rfl
  go_wp2_with fail
  have HE := Lib.hid ((HM3.out.cellPut (j := 0) 1 rfl (.int .i64 0)).cellPut (j := 1) 1 rfl (.slice none 0 0))
  refine bodyPost_ret (results_ex rfl _ _ RB _ _ rfl (HE.out.heap 1 rfl)) rfl ?_
  exact ⟨rfl, HE.out.to_ext⟩
end Go.Proofs.Ytlaolokakaheaaa
