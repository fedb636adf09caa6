/-
  common of package treaty, asked of two meanings, returns on what they agree, and turns nothing that was there. Both must read as told, and the first one's lists be strictly increasing and have at most 12 numbers.
-/
import Derived.Test.YtopjjcgmcieboaaGreatDoorM
import Derived.LoopN
import Derived.Deep.RegionHeld3
import Derived.Deep.DeepCutAuto
namespace Go.Proofs.YtopjjcgmcieboaaGreatDoor
open Go.RowKit

theorem set2 {w : World} {g : Nat} {x y u v : Value} {T : TypeId} (h : w.heap[g]? = some (.cells #[x, y] T)) : ((w.setCell ⟨g, 0, none⟩ u).setCell ⟨g, 1, none⟩ v).heap[g]? = some (.cells #[u, v] T) := by
  rw [YtopjjcgmcieboaaGreatDoor.heap_setCell_same (YtopjjcgmcieboaaGreatDoor.heap_setCell_same h u) v]; rfl

/-- A list of numbers is not touched by stores into a box of two slices. -/
theorem IsSl.set2 {w : World} {s : SL Nat} {g : Nat} {a1 a2 : Option Addr} {n1 n2 c1 c2 : Nat} {T : TypeId} (h : IsSl 1 num w s) (hb : w.heap[g]? = some (.cells #[.slice a1 n1 c1, .slice a2 n2 c2] T)) (u v : Value) :
    IsSl 1 num ((w.setCell ⟨g, 0, none⟩ u).setCell ⟨g, 1, none⟩ v) s := by
  obtain ⟨h1, h2, h3⟩ := h
  refine ⟨h1, h2, ?_⟩
  rcases h3 with h3 | ⟨b, off, ha, hc⟩
  · exact .inl h3
  · refine .inr ⟨b, off, ha, fun i hi j hj => ?_⟩
    have hcc := hc i hi j hj
    have hne : b ≠ g := by
      rintro rfl
      rw [cell_at hb] at hcc
      generalize off + i * 1 + j = o at hcc
      match o, hcc with
      | 0, hcc => cases hcc
      | 1, hcc => cases hcc
      | o + 2, hcc => simp at hcc
    have e1 : ((w.setCell ⟨g, 0, none⟩ u).setCell ⟨g, 1, none⟩ v).heap[b]? = w.heap[b]? := by rw [Below.heap_setCell _ _ _ _ hne, Below.heap_setCell _ _ _ _ hne]
    exact (World.cell?_of_block (a := ⟨b, off + i * 1 + j, none⟩) e1).trans hcc

set_option maxRecDepth 100000 in
set_option maxHeartbeats 4000000 in
theorem common_any (f m : MV) (ad : Addr) (c : Nat) (w : World) (hf : IsMean w f) (hm : IsMean w m) (hv : IsSl 2 meanC w ⟨some ad, c, [m]⟩)
    (hk : f.k.l.Pairwise (· < ·)) (he : f.e.l.Pairwise (· < ·)) (hk12 : f.k.l.length ≤ 12) (he12 : f.e.l.length ≤ 12) :
    Calls Tryz.prog 106 #[meanV f, .slice (some ad) 1 c] w fun e w' => ∃ k' e' : SL Nat, e = .returned (.agg #[.slice k'.a k'.l.length k'.c, .slice e'.a e'.l.length e'.c]) ∧ k'.l = both f.k.l m.k.l ∧ e'.l = both f.e.l m.e.l ∧ IsMean w' ⟨k', e'⟩ ∧ Ext w w' := by
  obtain ⟨h1, h2, h3⟩ := hv
  obtain ⟨b, off, had, hc⟩ := h3.resolve_left (by simp)
  cases had
  have hcell0 := hc 0 (by simp) 0 (by omega)
  have hcell1 := hc 0 (by simp) 1 (by omega)
  clear hc h3
  replace hcell0 : w.cell? ⟨b, off, none⟩ = some (.slice m.k.a m.k.l.length m.k.c) := by simpa [meanC] using hcell0
  replace hcell1 : w.cell? ⟨b, off + 1, none⟩ = some (.slice m.e.a m.e.l.length m.e.c) := by simpa [meanC] using hcell1
  simp at h1
  have HC0 := Lib.hid hcell0; clear hcell0
  have HC1 := Lib.hid hcell1; clear hcell1
  have HF := Lib.hid hf; clear hf
  have HM := Lib.hid hm; clear hm
  have HK := Lib.hid hk; clear hk
  have HE := Lib.hid he; clear he
  have HB0 : Hid (((w.alloc (.cells #[.slice f.k.a f.k.l.length f.k.c, .slice f.e.a f.e.l.length f.e.c] 57)).alloc (.cells #[.slice none 0 0, .slice none 0 0] 57)).heap[w.heap.size]? = some (.cells #[.slice f.k.a f.k.l.length f.k.c, .slice f.e.a f.e.l.length f.e.c] 57)) := ((Ext.refl _).alloc _).laid
  go_enter Tryz.func106, Tryz.ntmps106
  go_wp2_with fail
  refine wp_loop_rounds 2 ?_
  rw [rounds_succ]
  have hcell0 := (((Ext.refl w).alloc (.cells #[.slice f.k.a f.k.l.length f.k.c, .slice f.e.a f.e.l.length f.e.c] 57)).alloc (.cells #[.slice none 0 0, .slice none 0 0] 57)).cell HC0.out
  have hcell1 := (((Ext.refl w).alloc (.cells #[.slice f.k.a f.k.l.length f.k.c, .slice f.e.a f.e.l.length f.e.c] 57)).alloc (.cells #[.slice none 0 0, .slice none 0 0] 57)).cell HC1.out
  generalize hW : (w.alloc (.cells #[.slice f.k.a f.k.l.length f.k.c, .slice f.e.a f.e.l.length f.e.c] 57)).alloc (.cells #[.slice none 0 0, .slice none 0 0] 57) = W at *
  have E0 : Hid (Ext w W) := by rw [← hW]; exact ((Ext.refl w).alloc _).alloc _
  have hlt : w.heap.size + 1 < W.heap.size := by rw [← hW]; simp
  have HB4 : Hid (W.heap[w.heap.size + 1]? = some (.cells #[.slice none 0 0, .slice none 0 0] 57)) := by
    rw [← hW]; have := World.alloc_heap_new (w.alloc (.cells #[.slice f.k.a f.k.l.length f.k.c, .slice f.e.a f.e.l.length f.e.c] 57)) (.cells #[.slice none 0 0, .slice none 0 0] 57); rwa [World.size_alloc] at this
  clear hW
  have hq0 := cell_at HB0.out 0
  have hq1 := cell_at HB0.out 1
  simp only [List.getElem?_toArray, List.getElem?_cons_succ, List.getElem?_cons_zero] at hq0 hq1
  have hlt0 : w.heap.size < W.heap.size := by omega
  go_wp2_with fail
  have hV1 : (W.alloc (.cells #[.slice m.k.a m.k.l.length m.k.c, .slice m.e.a m.e.l.length m.e.c] 57)).heap[w.heap.size]? = some (.cells #[.slice f.k.a f.k.l.length f.k.c, .slice f.e.a f.e.l.length f.e.c] 57) := ((Ext.refl W).alloc _).block HB0.out
  have hV2 : (W.alloc (.cells #[.slice m.k.a m.k.l.length m.k.c, .slice m.e.a m.e.l.length m.e.c] 57)).heap[W.heap.size]? = some (.cells #[.slice m.k.a m.k.l.length m.k.c, .slice m.e.a m.e.l.length m.e.c] 57) := World.alloc_heap_new W _
  have hV4 := ((Ext.refl W).alloc (.cells #[.slice m.k.a m.k.l.length m.k.c, .slice m.e.a m.e.l.length m.e.c] 57)).block HB4.out
  have hVE : Ext w (W.alloc (.cells #[.slice m.k.a m.k.l.length m.k.c, .slice m.e.a m.e.l.length m.e.c] 57)) := E0.out.alloc _
  clear hq0 hq1 hcell0 hcell1
  generalize W.alloc (.cells #[.slice m.k.a m.k.l.length m.k.c, .slice m.e.a m.e.l.length m.e.c] 57) = V at *
  have hq0 := cell_at hV1 0
  have hq1 := cell_at hV1 1
  have hr0 := cell_at hV2 0
  have hr1 := cell_at hV2 1
  simp only [List.getElem?_toArray, List.getElem?_cons_succ, List.getElem?_cons_zero] at hq0 hq1 hr0 hr1
  have HV1 := Lib.hid hV1; clear hV1
  have HV2 := Lib.hid hV2; clear hV2
  have HV4 := Lib.hid hV4; clear hV4
  have HVE := Lib.hid hVE; clear hVE
  -- after a call: what the boxes hold in a world that extends V
  have KQ : Hid (∀ V', Ext V V' → (V'.cell? ⟨w.heap.size, 0, none⟩ = some (.slice f.k.a f.k.l.length f.k.c) ∧ V'.cell? ⟨w.heap.size, 1, none⟩ = some (.slice f.e.a f.e.l.length f.e.c)) ∧ (V'.cell? ⟨W.heap.size, 0, none⟩ = some (.slice m.k.a m.k.l.length m.k.c) ∧ V'.cell? ⟨W.heap.size, 1, none⟩ = some (.slice m.e.a m.e.l.length m.e.c)) ∧ (∀ i, V'.frozen? ⟨w.heap.size, i, none⟩ = false)) := fun V' h' =>
    ⟨⟨h'.cell hq0, h'.cell hq1⟩, ⟨h'.cell hr0, h'.cell hr1⟩, fun i => by have := h'.block HV1.out; simp [World.frozen?, this]⟩
  refine Code.wp_mono (Q := fun e a' wx => match e with | .normal => ((∃ x13 x14 x15 x16 x17 x18 x19 x20 x21 x22 x23 : Value, a' = { tmps := #[meanV f, .slice (some ⟨b, off, none⟩) 1 c, .pointer (some ⟨w.heap.size, 0, none⟩), undef, .pointer (some ⟨w.heap.size + 1, 0, none⟩), undef, .pointer (some ⟨W.heap.size, 0, none⟩), .slice (some ⟨b, off, none⟩) 1 c, .int .i64 1, .int .i64 0, .bool true, .pointer (some ⟨b, off, none⟩), .agg #[.slice m.k.a m.k.l.length m.k.c, .slice m.e.a m.e.l.length m.e.c], x13, x14, x15, x16, x17, x18, x19, x20, x21, x22, x23, undef, undef], defers := [] }) ∧
      ∃ k' e' : SL Nat, k'.l = both f.k.l m.k.l ∧ e'.l = both f.e.l m.e.l ∧ Hid (wx.heap[w.heap.size]? = some (.cells #[.slice k'.a k'.l.length k'.c, .slice e'.a e'.l.length e'.c] 57)) ∧ Hid (wx.heap[w.heap.size + 1]? = some (.cells #[.slice none 0 0, .slice none 0 0] 57)) ∧ Hid (IsMean wx ⟨k', e'⟩) ∧ Hid (Ext w wx)) | _ => False) ?rest ?first
  case first =>
    go_region_with
      (first
        | (go_at_call_of 123 (Value.slice f.k.a f.k.l.length f.k.c); refine (inBoth_any f.k m.k _ ?_ ?_ HK.out hk12).mono ?_; exact HF.out.1.ext HVE.out.drew; exact HM.out.1.ext HVE.out.drew; rintro e w1 ⟨a1, c1, rfl, hs1, hx1⟩; have E1 : Hid (Ext V w1) := (Ext.refl V).drew.trans hx1; have S1 := Lib.hid hs1; clear hs1 hx1; obtain ⟨⟨hq0', hq1'⟩, ⟨hr0', hr1'⟩, hfz⟩ := KQ.out w1 E1.out)
        | (go_at_call_of 123 (Value.slice f.e.a f.e.l.length f.e.c); refine (inBoth_any f.e m.e _ ?_ ?_ HE.out he12).mono ?_; exact HF.out.2.ext (HVE.out.trans E1.out); exact HM.out.2.ext (HVE.out.trans E1.out); rintro e w2 ⟨a2, c2, rfl, hs2, hx2⟩; have E2 : Hid (Ext V w2) := E1.out.trans hx2; have S2 := Lib.hid hs2; have X2 := Lib.hid hx2; clear hs2 hx2 hfz; obtain ⟨⟨hq0'', hq1''⟩, ⟨hr0'', hr1''⟩, hfz⟩ := KQ.out w2 E2.out))
    all_goals
        exact ⟨⟨_, _, _, _, _, _, _, _, _, _, _, rfl⟩, ⟨a1, c1, both f.k.l m.k.l⟩, ⟨a2, c2, both f.e.l m.e.l⟩, rfl, rfl, set2 (E2.out.block HV1.out), heap_set_other _ _ _ _ (heap_set_other _ _ _ _ (E2.out.block HV4.out) (by omega)) (by omega), ⟨(S1.out.ext X2.out).set2 (E2.out.block HV1.out) _ _, S2.out.set2 (E2.out.block HV1.out) _ _⟩, ((HVE.out.trans E2.out).setCell (Nat.le_refl _) _).setCell (Nat.le_refl _) _⟩
  case rest =>
    intro e a' wc hq
    cases e <;> first | exact (hq : False).elim | skip
    obtain ⟨⟨x13, x14, x15, x16, x17, x18, x19, x20, x21, x22, x23, rfl⟩, k', e', hk', he', HB, HB', HM', HX⟩ := hq
    have HK' := Lib.hid hk'; clear hk'
    have HE' := Lib.hid he'; clear he'
    have hz0 := cell_at HB.out 0
    have hz1 := cell_at HB.out 1
    have hy0 := cell_at HB'.out 0
    have hy1 := cell_at HB'.out 1
    simp only [List.getElem?_toArray, List.getElem?_cons_succ, List.getElem?_cons_zero] at hz0 hz1 hy0 hy1
    have hfz : ∀ i, wc.frozen? ⟨w.heap.size + 1, i, none⟩ = false := fun i => by simp [World.frozen?, HB'.out]
    have hset := Lib.hid (set2 (u := .slice k'.a k'.l.length k'.c) (v := .slice e'.a e'.l.length e'.c) HB'.out)
    clear hq0 hq1 hr0 hr1 KQ
    go_wp2
    rw [rounds_succ]
    go_wp2
    refine bodyPost_ret (v := .agg #[.slice k'.a k'.l.length k'.c, .slice e'.a e'.l.length e'.c]) (results_cell_row rfl _ _ (w.heap.size + 1) 57 #[.slice k'.a k'.l.length k'.c, .slice e'.a e'.l.length e'.c] (0, 0) _ rfl hset.out Tryz.underlying57 rfl (by kernel_rfl)) rfl ?_
    exact ⟨k', e', rfl, HK'.out, HE'.out, ⟨(HM'.out.1.set2 HB'.out _ _), (HM'.out.2.set2 HB'.out _ _)⟩, (HX.out.setCell (by show w.heap.size ≤ w.heap.size + 1; omega) _).setCell (by show w.heap.size ≤ w.heap.size + 1; omega) _⟩
end Go.Proofs.YtopjjcgmcieboaaGreatDoor
