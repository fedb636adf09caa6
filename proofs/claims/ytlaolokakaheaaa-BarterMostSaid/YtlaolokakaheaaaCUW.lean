/-
  cut of package barter: an exchange that cuts no stretch becomes one that cuts one. It must lie in memory as told.
-/
import Derived.Test.YtlaolokakaheaaaHW
import Derived.Test.YtlaolokakaheaaaLW
namespace Go.Proofs.Ytlaolokakaheaaa
open Go.RowKit

/-- The first k are multiplied. -/
def mulK (l : List Nat) (W k : Nat) : List Nat := (l.take k).map (· * W) ++ l.drop k
theorem mulK_len (l : List Nat) (W k : Nat) : (mulK l W k).length = l.length := by
  unfold mulK; rw [List.length_append, List.length_map, ← List.length_append, List.take_append_drop]
theorem mulK_zero (l : List Nat) (W : Nat) : mulK l W 0 = l := by simp [mulK]
theorem mulK_all (l : List Nat) (W : Nat) : mulK l W l.length = l.map (· * W) := by simp [mulK]
theorem mulK_at (l : List Nat) (W k : Nat) (h : k < l.length) : (mulK l W k)[k]'(by rw [mulK_len]; exact h) = l[k] := by
  unfold mulK
  rw [List.getElem_append_right (by simp; omega)]
  simp [show min k l.length = k by omega]
theorem mulK_succ (l : List Nat) (W k : Nat) (h : k < l.length) : mulK l W (k + 1) = (mulK l W k).set k (l[k] * W) := by
  unfold mulK
  rw [List.set_append_right _ _ (by simp; omega)]
  simp only [List.length_map, List.length_take, show min k l.length = k by omega, Nat.sub_self]
  rw [List.drop_eq_getElem_cons h, List.set_cons_zero, List.take_add_one, List.map_append, List.getElem?_eq_getElem h]
  simp
theorem own_some {w : World} {base : Nat} {a : Option Addr} {c : Nat} {l : List Nat} (h : w.ownsRow base 3 1 (.slice a l.length c) l.length (nums l)) (h0 : 0 < l.length) : ∃ g, a = some ⟨g, 0, none⟩ := by
  obtain ⟨h1, h2 | ⟨g, cap, cur, hv, r⟩⟩ := h
  · rcases h2 with ⟨h2, h3⟩
    simp_all
  · cases hv; exact ⟨g, rfl⟩

set_option maxRecDepth 100000 in
set_option maxHeartbeats 2000000 in
theorem cut_any (W0 i p W : Nat) (a : Option Addr) (c : Nat) (l : List Nat) (w : World) (h : IsSl 1 num w ⟨a, c, l⟩) (hi : i < l.length) (hb : ∀ k, k < l.length → pt l k ≤ 1) (hW : W ≤ 100000000) :
    Calls Try.prog 57 #[.agg #[.int .i64 (W0 : Int), .slice a l.length c], .int .i64 (i : Int), .int .i64 (p : Int), .int .i64 (W : Int)] w fun e w' => ∃ g cap, e = .returned (.agg #[.int .i64 (W : Int), .slice (some ⟨g, 0, none⟩) l.length cap]) ∧ Row w' g ((l.map (· * W)).set i p) cap ∧ w.heap.size ≤ g ∧ Ext w w' := by
  have hl := h.2.1
  dsimp only at hl
  have HCl := Lib.hid (fun (V : World) (k : Ext w V) => clone_any a l.length c l V rfl (h.ext k))
  have HB := Lib.hid hb
  clear h hb
  have HX0 : Hid (Ext w ((w.alloc (.cells #[.int .i64 (W0 : Int), .slice a l.length c] 31)).alloc (.cells #[.int .i64 0, .slice none 0 0] 31))) := ((Ext.refl w).alloc _).alloc _
  have HR0 : Hid (((w.alloc (.cells #[.int .i64 (W0 : Int), .slice a l.length c] 31)).alloc (.cells #[.int .i64 0, .slice none 0 0] 31)).heap[w.heap.size + 1]? = some (.cells #[.int .i64 0, .slice none 0 0] 31 (0, 0))) := alloc_new (by simp only [World.size_alloc])
  go_enter Try.func57, Try.ntmps57
  go_wp2_with fail
  generalize (w.alloc (.cells #[.int .i64 (W0 : Int), .slice a l.length c] 31)).alloc (.cells #[.int .i64 0, .slice none 0 0] 31) = V0 at *
  refine (HCl.out _ HX0.out).mono ?_
  rintro e w1 ⟨a1, c1, rfl, ho, hx1⟩
  obtain ⟨g, rfl⟩ := own_some ho (by omega)
  obtain ⟨hr, hg⟩ := Row.of_own ho
  have HX1 : Hid (Ext w w1) := HX0.out.trans hx1
  have HR1 := Lib.hid (hx1.block HR0.out)
  have HGg : Hid (w.heap.size + 1 < g) := by have := (Array.getElem?_eq_some_iff.1 HR0.out).1; show _ < _; omega
  have HRw := Lib.hid hr
  clear ho hr hg hx1 HX0 HR0 HCl
  go_wp2
  go_loopw [16] (fun s wr => ∃ k : Nat, k ≤ l.length ∧ s = .int .i64 (k : Int) ∧ Hid (Ext w wr) ∧ Hid (Row wr g (mulK l W k) c1) ∧ Hid (wr.heap[w.heap.size + 1]? = some (.cells #[.int .i64 0, .slice none 0 0] 31 (0, 0)))) (fun s _ => l.length - (intOf s).toNat)
  case atStart => exact ⟨0, Nat.zero_le _, rfl, HX1, by show Row _ _ _ _; rw [mulK_zero]; exact HRw.out, HR1⟩
  case round =>
    clear HX1 HRw HR1
    obtain ⟨wo, rfl⟩ : ∃ wo : World, wo = wr := ⟨_, rfl⟩
    obtain ⟨k, hk, rfl, HX, HRw, HR⟩ := hrel
    by_cases hlt : k < l.length
    · have dk : decide ((k : Int) < (l.length : Int)) = true := decide_eq_true (by omega)
      have cR := HRw.out.cell k (by rw [mulK_len]; exact hlt)
      rw [mulK_at l W k hlt] at cR
      have fR := HRw.out.frozen k
      have k1 : (0 : Int) ≤ k := by omega
      have k2 : (k : Int) < (l.length : Int) := by omega
      have HM := Lib.hid (mulK_succ l W k hlt)
      have hb1 : l[k] ≤ 1 := by have := HB.out k hlt; unfold pt at this; rw [List.getElem?_eq_getElem hlt] at this; exact this
      have hm1 : ((l[k] : Nat) : Int) * (W : Int) = ((l[k] * W : Nat) : Int) := (Int.natCast_mul _ _).symm
      have hm2 : l[k] * W ≤ 100000000 := by have := Nat.mul_le_mul hb1 hW; omega
      have HLk : Hid (k < (mulK l W k).length) := by show _ < _; rw [mulK_len]; exact hlt
      generalize l[k] * W = v at *
      generalize l[k] = u at *
      go_wp2
      go_roundw
      case rel => exact ⟨k + 1, by omega, by go_num, HX.out.setCell (by have := HGg.out; simp only []; omega) _, by show Row _ _ _ _; rw [HM.out]; exact HRw.out.set k v HLk.out, heap_set_other _ _ _ _ HR.out (by have := HGg.out; omega)⟩
      case measure => simp [intOf]; omega
    · have dk : decide ((k : Int) < (l.length : Int)) = false := decide_eq_false (by omega)
      have hke : k = l.length := by omega
      subst hke
      have HRf : Hid (Row wo g (l.map (· * W)) c1) := by show Row _ _ _ _; rw [← mulK_all]; exact HRw.out
      have hi1 : (0 : Int) ≤ i := by omega
      have hi2 : (i : Int) < (l.length : Int) := by omega
      have cR := HRf.out.cell i (by rw [List.length_map]; exact hi)
      have fR := HRf.out.frozen i
      generalize (l.map (· * W))[i]'_ = old at cR
      have HRn : Hid (Row (wo.setCell ⟨g, i, none⟩ (.int .i64 (p : Int))) g ((l.map (· * W)).set i p) c1) := HRf.out.set i p (by rw [List.length_map]; exact hi)
      have HXn : Hid (Ext w (wo.setCell ⟨g, i, none⟩ (.int .i64 (p : Int)))) := HX.out.setCell (by have := HGg.out; simp only []; omega) _
      have HBn : Hid ((wo.setCell ⟨g, i, none⟩ (.int .i64 (p : Int))).heap[w.heap.size + 1]? = some (.cells #[.int .i64 0, .slice none 0 0] 31 (0, 0))) := heap_set_other _ _ _ _ HR.out (by have := HGg.out; omega)
      obtain ⟨d0, d1, f0, f1⟩ := blk_cells HBn.out
      go_wp2
      generalize wo.setCell ⟨g, i, none⟩ (.int .i64 (p : Int)) = V5 at *
      have hb5 := heap_setCell_same (i := 1) (heap_setCell_same (i := 0) HBn.out (.int .i64 (W : Int))) (.slice (some ⟨g, 0, none⟩) l.length c1)
      refine bodyPost_ret (results_cell_row rfl _ _ (w.heap.size + 1) 31 _ (0, 0) _ rfl hb5 Try.underlying31 rfl (by kernel_rfl)) rfl ?_
      refine ⟨g, c1, rfl, ?_, by have := HGg.out; omega, (HXn.out.setCell (by simp only []; omega) _).setCell (by simp only []; omega) _⟩
      obtain ⟨cur, r1, r2⟩ := HRn.out
      exact ⟨cur, heap_set_other _ _ _ _ (heap_set_other _ _ _ _ r1 (by have := HGg.out; omega)) (by have := HGg.out; omega), r2⟩
end Go.Proofs.Ytlaolokakaheaaa
