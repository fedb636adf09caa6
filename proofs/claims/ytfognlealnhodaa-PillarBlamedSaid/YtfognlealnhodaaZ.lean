/-
  known of package pillar returns a profile of which one truth is left, with a new row of spans; nothing that was there is turned. The profile must lie in memory as told.
-/
import Derived.Test.YtfognlealnhodaaX
namespace Go.Proofs.Ytfognlealnhodaa
open Go.RowKit

theorem info28 : (Try.prog.info? 28).map (fun i => (i.zero, i.size, i.bytes)) = some (some (.agg #[.int .i64 0, .int .i64 0]), 2, 16) := by kernel_rfl
theorem under26 : Try.prog.underlying 26 = some (.slice 28) := by kernel_rfl
/-- A row of spans of which the first ones are known. -/
def SRow (w : World) (b : Nat) (l : List Nat) (n : Nat) : Prop := ∃ cs : Array Value, w.heap[b]? = some (.cells cs 28 (0, 0)) ∧ cs.size = n * 2 ∧ ∀ i (h : i < l.length), cs[i * 2]? = some (.int .i64 (l[i] : Int)) ∧ cs[i * 2 + 1]? = some (.int .i64 (l[i] : Int))
theorem SRow.ext {w w' : World} {b : Nat} {l : List Nat} {n : Nat} (h : SRow w b l n) (k : Ext w w') : SRow w' b l n := by
  obtain ⟨cs, h1, h2⟩ := h; exact ⟨cs, k.block h1, h2⟩

theorem SRow.step {w : World} {b k x n : Nat} {l : List Nat} (h : SRow w b (l.take k) n) (hk : k < l.length) (hx : l[k]? = some x) (hn : l.length = n) : SRow ((w.setCell ⟨b, k * 2, none⟩ (.int .i64 (x : Int))).setCell ⟨b, k * 2 + 1, none⟩ (.int .i64 (x : Int))) b (l.take (k + 1)) n := by
  obtain ⟨cs, h1, h2, h3⟩ := h
  refine ⟨_, heap_setCell_same (heap_setCell_same h1 _) _, by simpa using h2, fun i hi => ?_⟩
  rw [List.length_take] at hi
  rw [List.getElem_take]
  simp only [Array.getElem?_setIfInBounds, Array.size_setIfInBounds]
  rcases Nat.lt_or_eq_of_le (show i ≤ k by omega) with e | e
  · have q := h3 i (by rw [List.length_take]; omega)
    rw [List.getElem_take] at q
    rw [if_neg (by omega), if_neg (by omega), if_neg (by omega), if_neg (by omega)]
    exact q
  · subst e
    have q : l[i] = x := by rw [List.getElem?_eq_getElem hk] at hx; exact Option.some.inj hx
    rw [if_neg (by omega), if_pos rfl, if_pos (by omega), if_pos rfl, if_pos (by omega), q]
    exact ⟨rfl, rfl⟩

set_option maxRecDepth 100000 in
set_option maxHeartbeats 2000000 in
theorem known_any (v : PV) (s : SL Nat) (bend : Nat) (w : World) (hs : IsSl 1 num w s) (hn : s.l.length ≤ 40) :
    Calls Try.prog 50 #[v.v, .slice s.a s.l.length s.c, .int .i64 (bend : Int)] w fun e w' => ∃ b, e = .returned (.agg #[.slice v.at'.a v.at'.l.length v.at'.c, .slice (some ⟨b, 0, none⟩) s.l.length s.l.length, .int .i64 (v.T : Int), .int .i64 (bend : Int), .int .i64 (bend : Int)]) ∧ SRow w' b s.l s.l.length ∧ Ext w w' := by
  have HF := Lib.hid (five_new w v)
  have HX := Lib.hid ((Ext.refl w).alloc (.cells #[.slice v.at'.a v.at'.l.length v.at'.c, .slice v.gr.a v.gr.l.length v.gr.c, .int .i64 (v.T : Int), .int .i64 (v.lo : Int), .int .i64 (v.hi : Int)] 30))
  obtain ⟨a, c, l⟩ := s
  obtain ⟨h1, h2, h3⟩ := hs
  dsimp only at h1 h2 h3 hn ⊢
  have H3 := Lib.hid h3; clear h3
  obtain ⟨i28, hi, hz⟩ := Option.map_eq_some_iff.1 info28
  simp only [Prod.mk.injEq] at hz
  obtain ⟨hz0, hz1, hz2⟩ := hz
  have hmk := fun w => run_make (P := Try.prog) w 26 28 i28 (.agg #[.int .i64 0, .int .i64 0]) under26 hi hz0 .i64 .i64 (l.length : Int) (l.length : Int) (by omega) (Int.le_refl _) (by rw [hz2]; omega) (by omega)
  rw [hz1] at hmk
  simp only [Int.toNat_natCast] at hmk
  obtain ⟨c0, c1, c2, c3, c4⟩ := HF.out
  clear c0 c1 c2 c3 c4
  go_enter Try.func50, Try.ntmps50
  go_wp2
  obtain ⟨V1, hV⟩ : ∃ V1, (w.alloc (.cells #[.slice v.at'.a v.at'.l.length v.at'.c, .slice v.gr.a v.gr.l.length v.gr.c, .int .i64 (v.T : Int), .int .i64 (v.lo : Int), .int .i64 (v.hi : Int)] 30)).alloc (.cells #[.slice none 0 0, .slice none 0 0, .int .i64 0, .int .i64 0, .int .i64 0] 30) = V1 := ⟨_, rfl⟩
  have hV2 : V1.heap.size = w.heap.size + 2 := by rw [← hV]; simp only [World.size_alloc]
  have HXV : Hid (Ext w V1) := by rw [← hV]; exact HX.out.alloc _
  have HFV := Lib.hid (HF.out.ext (show Ext _ V1 by rw [← hV]; exact (Ext.refl _).alloc _))
  have HRb : Hid (V1.heap[w.heap.size + 1]? = some (.cells #[.slice none 0 0, .slice none 0 0, .int .i64 0, .int .i64 0, .int .i64 0] 30 (0, 0))) := by rw [← hV]; exact alloc_new (by simp only [World.size_alloc])
  simp only [hV]
  clear hV
  go_loopw [15] (fun i wr => ∃ k : Nat, k ≤ l.length ∧ i = .int .i64 k ∧ Hid (SRow wr (w.heap.size + 1 + 1) (l.take k) l.length) ∧ Hid (Ext V1 wr)) (fun i _ => l.length - (intOf i).toNat)
  case atStart => exact ⟨0, Nat.zero_le _, rfl, ⟨_, alloc_new (by omega), by simp [size_madeCells], by simp⟩, (Ext.refl _).alloc _⟩
  case round =>
    obtain ⟨wo, rfl⟩ : ∃ wo : World, wo = wr := ⟨_, rfl⟩
    obtain ⟨k, hk, rfl, HR, HX2⟩ := hrel
    by_cases hlt : k < l.length
    · obtain ⟨b, off, rfl, hc⟩ := H3.out.resolve_left (by omega)
      have hcell0 : wo.cell? ⟨b, off + k, none⟩ = some (Value.int .i64 ((l[k]?.getD 0 : Nat) : Int)) := by have := HX2.out.cell (HXV.out.cell (hc k hlt 0 (by omega))); rw [List.getElem?_eq_getElem hlt]; simpa [num] using this
      clear hc
      have HXk : Hid (l[k]? = some (l[k]?.getD 0)) := by show _ = _; rw [List.getElem?_eq_getElem hlt]; rfl
      generalize l[k]?.getD 0 = x at *
      obtain ⟨cs, hcb, hcs, hct⟩ := HR.out
      clear hct
      obtain ⟨u0, hu0⟩ : ∃ u0, wo.cell? ⟨w.heap.size + 1 + 1, k * 2, none⟩ = some u0 := ⟨_, (cell_at hcb _).trans (Array.getElem?_eq_getElem (by omega))⟩
      obtain ⟨u1, hu1⟩ : ∃ u1, wo.cell? ⟨w.heap.size + 1 + 1, k * 2 + 1, none⟩ = some u1 := ⟨_, (cell_at hcb _).trans (Array.getElem?_eq_getElem (by omega))⟩
      have f0 : wo.frozen? ⟨w.heap.size + 1 + 1, k * 2, none⟩ = false := by simp [World.frozen?, hcb]
      have f1 : wo.frozen? ⟨w.heap.size + 1 + 1, k * 2 + 1, none⟩ = false := by simp [World.frozen?, hcb]
      clear hcb hcs
      have i1 : (0 : Int) ≤ (k : Int) := by omega
      have i2 : (k : Int) < (l.length : Int) := by omega
      go_wp2_with fail
      go_roundw
      case rel => exact ⟨k + 1, by omega, by go_num, HR.out.step hlt HXk.out rfl, by refine Ext.setCell (Ext.setCell HX2.out ?_ _) ?_ _ <;> (show V1.heap.size ≤ w.heap.size + 1 + 1; omega)⟩
      case measure => simp [intOf]; omega
    · have HRn : Hid (SRow wo (w.heap.size + 1 + 1) l l.length) := by have := HR.out; rw [List.take_of_length_le (by omega)] at this; exact this
      obtain ⟨c0, c1, c2, c3, c4⟩ := HFV.out.ext HX2.out
      have hrb := HX2.out.block HRb.out
      have r0 := (cell_at hrb 0).trans rfl
      have r1 := (cell_at hrb 1).trans rfl
      have r2 := (cell_at hrb 2).trans rfl
      have r3 := (cell_at hrb 3).trans rfl
      have r4 := (cell_at hrb 4).trans rfl
      have f0 : wo.frozen? ⟨w.heap.size + 1, 0, none⟩ = false := by simp [World.frozen?, hrb]
      have f1 : wo.frozen? ⟨w.heap.size + 1, 1, none⟩ = false := by simp [World.frozen?, hrb]
      have f2 : wo.frozen? ⟨w.heap.size + 1, 2, none⟩ = false := by simp [World.frozen?, hrb]
      have f3 : wo.frozen? ⟨w.heap.size + 1, 3, none⟩ = false := by simp [World.frozen?, hrb]
      have f4 : wo.frozen? ⟨w.heap.size + 1, 4, none⟩ = false := by simp [World.frozen?, hrb]
      clear hrb
      go_wp2_with fail
      simp only [bodyPost]
      obtain ⟨cs, hcs, hc2⟩ := HRn.out
      have HRW : Hid (∀ (W : World), (∀ i v, W.heap[w.heap.size + 1 + 1]? = some (.cells cs 28 (0, 0)) → (W.setCell ⟨w.heap.size + 1, i, none⟩ v).heap[w.heap.size + 1 + 1]? = some (.cells cs 28 (0, 0)))) := fun W i v h => heap_set_other _ _ _ _ h (by omega)
      have h5 := heap_setCell_same (i := 4) (heap_setCell_same (i := 3) (heap_setCell_same (i := 2) (heap_setCell_same (i := 1) (heap_setCell_same (i := 0) (HX2.out.block HRb.out) (.slice v.at'.a v.at'.l.length v.at'.c)) (.slice (some ⟨w.heap.size + 1 + 1, 0, none⟩) l.length l.length)) (.int .i64 (v.T : Int))) (.int .i64 (bend : Int))) (.int .i64 (bend : Int))
      have hx5 : Ext w (((((wo.setCell ⟨w.heap.size + 1, 0, none⟩ (.slice v.at'.a v.at'.l.length v.at'.c)).setCell ⟨w.heap.size + 1, 1, none⟩ (.slice (some ⟨w.heap.size + 1 + 1, 0, none⟩) l.length l.length)).setCell ⟨w.heap.size + 1, 2, none⟩ (.int .i64 (v.T : Int))).setCell ⟨w.heap.size + 1, 3, none⟩ (.int .i64 (bend : Int))).setCell ⟨w.heap.size + 1, 4, none⟩ (.int .i64 (bend : Int))) := by
        refine Ext.setCell (Ext.setCell (Ext.setCell (Ext.setCell (Ext.setCell (HXV.out.trans HX2.out) ?_ _) ?_ _) ?_ _) ?_ _) ?_ _ <;> (show w.heap.size ≤ w.heap.size + 1; omega)
      have hs5 := HRW.out _ 4 (.int .i64 (bend : Int)) (HRW.out _ 3 (.int .i64 (bend : Int)) (HRW.out _ 2 (.int .i64 (v.T : Int)) (HRW.out _ 1 (.slice (some ⟨w.heap.size + 1 + 1, 0, none⟩) l.length l.length) (HRW.out _ 0 (.slice v.at'.a v.at'.l.length v.at'.c) hcs))))
      generalize ((((wo.setCell ⟨w.heap.size + 1, 0, none⟩ (.slice v.at'.a v.at'.l.length v.at'.c)).setCell ⟨w.heap.size + 1, 1, none⟩ (.slice (some ⟨w.heap.size + 1 + 1, 0, none⟩) l.length l.length)).setCell ⟨w.heap.size + 1, 2, none⟩ (.int .i64 (v.T : Int))).setCell ⟨w.heap.size + 1, 3, none⟩ (.int .i64 (bend : Int))).setCell ⟨w.heap.size + 1, 4, none⟩ (.int .i64 (bend : Int)) = W at *
      have k0 := (cell_at h5 0).trans rfl
      have k1 := (cell_at h5 1).trans rfl
      have k2 := (cell_at h5 2).trans rfl
      have k3 := (cell_at h5 3).trans rfl
      have k4 := (cell_at h5 4).trans rfl
      refine ⟨trivial, _, ?_, _, rfl, ⟨cs, hs5, hc2⟩, hx5⟩
      simp [results, Try.f50, go_sem, k0, k1, k2, k3, k4]
end Go.Proofs.Ytfognlealnhodaa
