/-
  Clone, of the statements on pillars: the same profile in memory of its own; nothing that was there is turned.
-/
import Derived.Test.YtfognlealnhodaaCS
import Derived.Test.YtfognlealnhodaaI
import Derived.Test.YtfognlealnhodaaG
import Derived.RegionTactic
namespace Go.Proofs.Ytfognlealnhodaa
open Go.RowKit

set_option maxRecDepth 100000 in
set_option maxHeartbeats 4000000 in
theorem cloneP_any (v : PV) (w : World) (hp : IsP w v) :
    Calls Try.prog 23 #[v.v] w fun e w' => ∃ a1 c1 a2 c2, e = .returned (.agg #[.slice a1 v.at'.l.length c1, .slice a2 v.gr.l.length c2, .int .i64 (v.T : Int), .int .i64 (v.lo : Int), .int .i64 (v.hi : Int)]) ∧ w'.ownsRow w.heap.size 3 1 (.slice a1 v.at'.l.length c1) v.at'.l.length (nums v.at'.l) ∧ w'.ownsRow w.heap.size 28 2 (.slice a2 v.gr.l.length c2) v.gr.l.length (flat 2 spC v.gr.l) ∧ Ext w w' := by
  obtain ⟨w0, hw0⟩ : ∃ w0, (w.alloc (.cells #[.slice v.at'.a v.at'.l.length v.at'.c, .slice v.gr.a v.gr.l.length v.gr.c, .int .i64 (v.T : Int), .int .i64 (v.lo : Int), .int .i64 (v.hi : Int)] 30)).alloc (.cells #[.slice none 0 0, .slice none 0 0, .int .i64 0, .int .i64 0, .int .i64 0] 30) = w0 := ⟨_, rfl⟩
  have HX : Hid (Ext w w0) := by rw [← hw0]; exact ((Ext.refl w).alloc _).alloc _
  have HP := Lib.hid hp
  have hb : w0.heap[w.heap.size]? = some (.cells #[.slice v.at'.a v.at'.l.length v.at'.c, .slice v.gr.a v.gr.l.length v.gr.c, .int .i64 (v.T : Int), .int .i64 (v.lo : Int), .int .i64 (v.hi : Int)] 30 (0, 0)) := by rw [← hw0]; exact (alloc_old (by simp only [World.size_alloc]; omega)).trans (alloc_new rfl)
  have HRb : Hid (w0.heap[w.heap.size + 1]? = some (.cells #[.slice none 0 0, .slice none 0 0, .int .i64 0, .int .i64 0, .int .i64 0] 30 (0, 0))) := by show _ = _; rw [← hw0]; exact alloc_new (by simp only [World.size_alloc])
  have HBk := Lib.hid hb
  have HSz : Hid (w0.heap.size = w.heap.size + 2) := by show _ = _; rw [← hw0]; simp only [World.size_alloc]
  have HF : Hid (Five w0 w.heap.size v) := ⟨(cell_at hb 0).trans rfl, (cell_at hb 1).trans rfl, (cell_at hb 2).trans rfl, (cell_at hb 3).trans rfl, (cell_at hb 4).trans rfl⟩
  obtain ⟨c0, c1, c2, c3, c4⟩ := HF.out
  clear hp
  have HR := Lib.hid (Ext.refl w0)
  go_enter Try.func23, Try.ntmps23
  go_wp2_with fail
  clear hw0
  have HS : Hid (∀ w', Ext w0 w' → w'.cell? ⟨w.heap.size, 0, none⟩ = some (.slice v.at'.a v.at'.l.length v.at'.c) ∧ w'.cell? ⟨w.heap.size, 1, none⟩ = some (.slice v.gr.a v.gr.l.length v.gr.c) ∧ w'.frozen? ⟨w.heap.size, 0, none⟩ = false ∧ w'.frozen? ⟨w.heap.size, 1, none⟩ = false) := fun w' h => ⟨(HF.out.ext h).1, (HF.out.ext h).2.1, by simp [World.frozen?, h.block hb], by simp [World.frozen?, h.block hb]⟩
  have f0 := (HS.out _ (Ext.refl w0)).2.2.1
  have f1 := (HS.out _ (Ext.refl w0)).2.2.2
  clear hb c2 c3 c4
  go_region_with (first
      | (go_at_call 29; refine (kitClone_any _ _ _ v.at'.l _ rfl (HP.out.at'.ext (HX.out.trans ?_))).mono ?_; (repeat (first | exact HR.out | refine Ext.trans ?_ (by assumption) | refine Ext.alloc ?_ _ | refine Ext.drew ?_)); rintro e wa ⟨a1, k1, rfl, ho1, hxa⟩; have ha : Ext w0 wa := (by (repeat (first | exact HR.out | refine Ext.trans ?_ (by assumption) | refine Ext.alloc ?_ _ | refine Ext.drew ?_))); obtain ⟨g0, g1, g2, g3⟩ := HS.out _ ha)
      | (go_at_call 36; refine (kitCloneS_any v.gr _ (HP.out.gr.ext (HX.out.trans ?_))).mono ?_; (repeat (first | exact HR.out | refine Ext.trans ?_ (by assumption) | refine Ext.alloc ?_ _ | refine Ext.drew ?_)); rintro e wb ⟨a2, k2, rfl, ho2, hxb⟩; have hb2 : Ext w0 wb := (by (repeat (first | exact HR.out | refine Ext.trans ?_ (by assumption) | refine Ext.alloc ?_ _ | refine Ext.drew ?_))); obtain ⟨q0, q1, q2, q3⟩ := HS.out _ hb2))
  all_goals
    have hsz := HSz.out
    have h12 : Ext wa wb := by first | exact hxb | exact Ext.trans (Ext.refl wa).drew hxb | exact Ext.trans (Ext.refl wa).drew.drew hxb | exact Ext.trans (Ext.refl wa).drew.drew.drew hxb
    have hsa : w.heap.size + 2 ≤ wa.heap.size := by have := ha.size; omega
    have hO1 : wb.ownsRow (w.heap.size + 2) 3 1 (.slice a1 v.at'.l.length k1) v.at'.l.length (nums v.at'.l) := own_ext (own_mono ho1 (show w.heap.size + 2 ≤ w0.heap.size by omega)) h12
    have hO2 : wb.ownsRow (w.heap.size + 2) 28 2 (.slice a2 v.gr.l.length k2) v.gr.l.length (flat 2 spC v.gr.l) := own_mono ho2 (show w.heap.size + 2 ≤ wa.heap.size by omega)
    have hk : Keep (fun x => x ≠ w.heap.size) wb ((wb.setCell ⟨w.heap.size, 0, none⟩ (.slice a1 v.at'.l.length k1)).setCell ⟨w.heap.size, 1, none⟩ (.slice a2 v.gr.l.length k2)) := ((Keep.refl _ wb).setCell _ _ (fun _ h => h rfl)).setCell _ _ (fun _ h => h rfl)
    have e1 := heap_setCell_same (i := 1) (heap_setCell_same (i := 0) (hb2.block HBk.out) (.slice a1 v.at'.l.length k1)) (.slice a2 v.gr.l.length k2)
    have e2 := hk.heap (hb2.block HRb.out) (show w.heap.size + 1 ≠ w.heap.size by omega)
    have HO1 := Lib.hid (own_keep hO1 hk (fun i hi => (show i ≠ w.heap.size by omega)))
    have HO2 := Lib.hid (own_keep hO2 hk (fun i hi => (show i ≠ w.heap.size by omega)))
    have HXW : Hid (Ext w ((wb.setCell ⟨w.heap.size, 0, none⟩ (.slice a1 v.at'.l.length k1)).setCell ⟨w.heap.size, 1, none⟩ (.slice a2 v.gr.l.length k2))) := ((HX.out.trans hb2).setCell (Nat.le_refl _) _).setCell (Nat.le_refl _) _
    clear ho1 ho2 hxa hxb hk hO1 hO2 h12 c0 c1 f0 f1 g0 g1 g2 g3 q0 q1 q2 q3 ha hb2 hsa hsz
    generalize (wb.setCell ⟨w.heap.size, 0, none⟩ (.slice a1 v.at'.l.length k1)).setCell ⟨w.heap.size, 1, none⟩ (.slice a2 v.gr.l.length k2) = W at *
    have c0 := (cell_at e1 0).trans rfl
    have c1 := (cell_at e1 1).trans rfl
    have c2 := (cell_at e1 2).trans rfl
    have c3 := (cell_at e1 3).trans rfl
    have c4 := (cell_at e1 4).trans rfl
    have r0 := (cell_at e2 0).trans rfl
    have r1 := (cell_at e2 1).trans rfl
    have r2 := (cell_at e2 2).trans rfl
    have r3 := (cell_at e2 3).trans rfl
    have r4 := (cell_at e2 4).trans rfl
    have f0 : W.frozen? ⟨w.heap.size + 1, 0, none⟩ = false := by simp [World.frozen?, e2]
    have f1 : W.frozen? ⟨w.heap.size + 1, 1, none⟩ = false := by simp [World.frozen?, e2]
    have f2 : W.frozen? ⟨w.heap.size + 1, 2, none⟩ = false := by simp [World.frozen?, e2]
    have f3 : W.frozen? ⟨w.heap.size + 1, 3, none⟩ = false := by simp [World.frozen?, e2]
    have f4 : W.frozen? ⟨w.heap.size + 1, 4, none⟩ = false := by simp [World.frozen?, e2]
    have h5 := heap_setCell_same (i := 4) (heap_setCell_same (i := 3) (heap_setCell_same (i := 2) (heap_setCell_same (i := 1) (heap_setCell_same (i := 0) e2 (.slice a1 v.at'.l.length k1)) (.slice a2 v.gr.l.length k2)) (.int .i64 (v.T : Int))) (.int .i64 (v.lo : Int))) (.int .i64 (v.hi : Int))
    have hk5 : Keep (fun x => x ≠ w.heap.size + 1) W (((((W.setCell ⟨w.heap.size + 1, 0, none⟩ (.slice a1 v.at'.l.length k1)).setCell ⟨w.heap.size + 1, 1, none⟩ (.slice a2 v.gr.l.length k2)).setCell ⟨w.heap.size + 1, 2, none⟩ (.int .i64 (v.T : Int))).setCell ⟨w.heap.size + 1, 3, none⟩ (.int .i64 (v.lo : Int))).setCell ⟨w.heap.size + 1, 4, none⟩ (.int .i64 (v.hi : Int))) := by
      refine Keep.setCell (Keep.setCell (Keep.setCell (Keep.setCell (Keep.setCell (Keep.refl _ W) _ _ ?_) _ _ ?_) _ _ ?_) _ _ ?_) _ _ ?_ <;> exact fun _ h => h rfl
    have H5 := Lib.hid h5
    have HK5 := Lib.hid hk5
    clear e1 e2 h5 hk5
    go_wp2_with fail
    simp only [bodyPost]
    generalize ((((W.setCell ⟨w.heap.size + 1, 0, none⟩ (.slice a1 v.at'.l.length k1)).setCell ⟨w.heap.size + 1, 1, none⟩ (.slice a2 v.gr.l.length k2)).setCell ⟨w.heap.size + 1, 2, none⟩ (.int .i64 (v.T : Int))).setCell ⟨w.heap.size + 1, 3, none⟩ (.int .i64 (v.lo : Int))).setCell ⟨w.heap.size + 1, 4, none⟩ (.int .i64 (v.hi : Int)) = V at *
    have m0 := (cell_at H5.out 0).trans rfl
    have m1 := (cell_at H5.out 1).trans rfl
    have m2 := (cell_at H5.out 2).trans rfl
    have m3 := (cell_at H5.out 3).trans rfl
    have m4 := (cell_at H5.out 4).trans rfl
    refine ⟨trivial, _, ?_, a1, k1, a2, k2, rfl, own_mono (own_keep HO1.out HK5.out (fun i hi => (show i ≠ w.heap.size + 1 by omega))) (by omega), own_mono (own_keep HO2.out HK5.out (fun i hi => (show i ≠ w.heap.size + 1 by omega))) (by omega), ext_keep HXW.out HK5.out (fun i hi => (show i ≠ w.heap.size + 1 by omega))⟩
    simp [results, Try.f23, go_sem, m0, m1, m2, m3, m4]
end Go.Proofs.Ytfognlealnhodaa
