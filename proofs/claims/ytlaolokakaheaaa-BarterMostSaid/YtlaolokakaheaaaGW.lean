/-
  gains of package barter: what both sides gain by an exchange. The land and the exchange must lie in memory as told.
-/
import Derived.Test.YtlaolokakaheaaaHW
import Derived.Deep.RegionHeld3
namespace Go.Proofs.Ytlaolokakaheaaa
open Go.RowKit

theorem nowL_len (L : List St) : (nowL L).length = L.length := by simp [nowL]
theorem nowL_le (L : List St) (i : Nat) (h : i < (nowL L).length) : pt (nowL L) i ≤ 1 := by
  rw [nowL_len] at h
  rw [nowL_pt L i h]; unfold nowF; split <;> omega
theorem hasN_le {L : List St} {P : List Nat} {W : Nat} (hb : Wb L) (hl : P.length = L.length) (hle : ∀ i, i < P.length → pt P i ≤ W) : hasN L P ≤ 16000 * W := by
  refine Nat.le_trans (sumF_le _ (1000 * W) _ fun i hi => Nat.mul_le_mul (hb.n i hi) (hle i (by omega))) ?_
  have := Nat.mul_le_mul_right (1000 * W) hb.l2; omega
theorem hasS_le {L : List St} {P : List Nat} {W : Nat} (hb : Wb L) : hasS L W P ≤ 16000 * W := by
  refine Nat.le_trans (sumF_le _ (1000 * W) _ fun i hi => Nat.mul_le_mul (hb.s i hi) (Nat.sub_le _ _)) ?_
  have := Nat.mul_le_mul_right (1000 * W) hb.l2; omega
/-- What both sides gain. -/
def gainN (L : List St) (W : Nat) (P : List Nat) : Int := (hasN L P : Int) - (W * hasN L (nowL L) : Nat)
def gainS (L : List St) (W : Nat) (P : List Nat) : Int := (hasS L W P : Int) - (W * hasS L 1 (nowL L) : Nat)

theorem blk_two {w : World} {g : Nat} {a b : Value} {T : TypeId} (h : w.heap[g]? = some (.cells #[a, b] T (0, 0))) : w.cell? ⟨g, 0, none⟩ = some a ∧ w.cell? ⟨g, 1, none⟩ = some b ∧ w.frozen? ⟨g, 0, none⟩ = false ∧ w.frozen? ⟨g, 1, none⟩ = false :=
  ⟨cell_at h 0, cell_at h 1, by simp [World.frozen?, h], by simp [World.frozen?, h]⟩
theorem index_two0 (a b : Value) (w : World) : (Instr.index 64 (.agg #[a, b]) (.int .i64 0)).run Try.prog w = .ok a w := by kernel_rfl
theorem index_two1 (a b : Value) (w : World) : (Instr.index 64 (.agg #[a, b]) (.int .i64 1)).run Try.prog w = .ok b w := by kernel_rfl
set_option maxRecDepth 100000 in
set_option maxHeartbeats 1000000 in
theorem gains_any (x : Ld) (W : Nat) (a c : _) (l : List Nat) (w : World) (h : StL w x.s) (hb : Wb x.s.l) (hp : IsSl 1 num w ⟨a, c, l⟩) (hl : l.length = x.s.l.length) (hW : W ≤ 2000) (hle : ∀ i, i < l.length → pt l i ≤ W) :
    Calls Try.prog 30 #[x.val, .agg #[.int .i64 (W : Int), .slice a l.length c]] w fun e w' => e = .returned (.agg #[.int .i64 (gainN x.s.l W l), .int .i64 (gainS x.s.l W l)]) ∧ Ext w w' := by
  have b1 := hasN_le hb hl hle
  have b2 := hasS_le (W := W) (P := l) hb
  have b3 := hasN_le (W := 1) hb (nowL_len _) (nowL_le _)
  have b4 := hasS_le (W := 1) (P := nowL x.s.l) hb
  have b5 : W * hasN x.s.l (nowL x.s.l) ≤ 32000000 := Nat.mul_le_mul hW b3
  have b6 : W * hasS x.s.l 1 (nowL x.s.l) ≤ 32000000 := Nat.mul_le_mul hW b4
  have H1 := Lib.hid (fun (V : World) (k : Ext w V) => has_any x W a c l V (h.ext k) hb (hp.ext k) hl hW hle)
  have H2 := Lib.hid (fun (V : World) (k : Ext w V) => now_any x V (h.ext k))
  have H3 := Lib.hid (fun (V : World) (k : Ext w V) (g : Nat) (r : Row V g (nowL x.s.l) x.s.l.length) => has_any x 1 (some ⟨g, 0, none⟩) x.s.l.length (nowL x.s.l) V (h.ext k) hb (r.sl (by rw [nowL_len]; exact h.le.2)) (nowL_len _) (by omega) (nowL_le _))
  rw [nowL_len] at H3
  have HN : Hid (gainN x.s.l W l = (hasN x.s.l l : Int) - ((W * hasN x.s.l (nowL x.s.l) : Nat) : Int)) := rfl
  have HG : Hid (gainS x.s.l W l = (hasS x.s.l W l : Int) - ((W * hasS x.s.l 1 (nowL x.s.l) : Nat) : Int)) := rfl
  have m1 : (W : Int) * (hasN x.s.l (nowL x.s.l) : Int) = ((W * hasN x.s.l (nowL x.s.l) : Nat) : Int) := (Int.natCast_mul _ _).symm
  have m2 : (W : Int) * (hasS x.s.l 1 (nowL x.s.l) : Int) = ((W * hasS x.s.l 1 (nowL x.s.l) : Nat) : Int) := (Int.natCast_mul _ _).symm
  clear h hb hp hle hl
  generalize W * hasN x.s.l (nowL x.s.l) = wN at *
  generalize W * hasS x.s.l 1 (nowL x.s.l) = wS at *
  obtain ⟨⟨sa, sc, L⟩, ⟨va, vc, vl⟩⟩ := x
  dsimp only at *
  generalize hasN L l = hN at *
  generalize hasS L W l = hS at *
  generalize hasN L (nowL L) = nN at *
  generalize hasS L 1 (nowL L) = nS at *
  have HA0 : Hid (Ext w ((((w.alloc (.cells #[.slice sa L.length sc, .slice va vl.length vc] 26)).alloc (.cells #[.int .i64 (W : Int), .slice a l.length c] 31)).alloc (.cells #[.int .i64 0, .int .i64 0] 64)))) := (((Ext.refl w).alloc _).alloc _).alloc _
  go_enter Try.func30, Try.ntmps30
  go_upto_region 2 with (go_at_call 37; refine (H1.out _ HA0.out).mono ?_; rintro e w1 ⟨rfl, hx1⟩; have HX1 := Lib.hid hx1; clear hx1)
  have HLb : Hid (w1.heap[w.heap.size]? = some (.cells #[.slice sa L.length sc, .slice va vl.length vc] 26 (0, 0))) := by
    refine HX1.out.block ?_
    refine (alloc_old ?_).trans ((alloc_old ?_).trans (alloc_new ?_)) <;> simp only [World.size_alloc] <;> omega
  have HEb : Hid (w1.heap[w.heap.size + 1]? = some (.cells #[.int .i64 (W : Int), .slice a l.length c] 31 (0, 0))) := by
    refine HX1.out.block ?_
    refine (alloc_old ?_).trans (alloc_new ?_) <;> simp only [World.size_alloc] <;> omega
  have HRb : Hid (w1.heap[w.heap.size + 1 + 1]? = some (.cells #[.int .i64 0, .int .i64 0] 64 (0, 0))) := HX1.out.block (alloc_new (by simp only [World.size_alloc]))
  have HX0 : Hid (Ext w w1) := HA0.out.trans HX1.out
  clear HA0 HX1 H1
  have HW2 : Hid (Ext w1 (w1.alloc (.cells #[.int .i64 (hN : Int), .int .i64 (hS : Int)] 64))) := (Ext.refl _).alloc _
  have HGb : Hid ((w1.alloc (.cells #[.int .i64 (hN : Int), .int .i64 (hS : Int)] 64)).heap[w1.heap.size]? = some (.cells #[.int .i64 (hN : Int), .int .i64 (hS : Int)] 64 (0, 0))) := alloc_new rfl
  generalize w1.alloc (.cells #[.int .i64 (hN : Int), .int .i64 (hS : Int)] 64) = W2 at *
  have HCs : Hid (∀ v, Ext W2 v → v.cell? ⟨w.heap.size, 0, none⟩ = some (.slice sa L.length sc) ∧ v.cell? ⟨w.heap.size, 1, none⟩ = some (.slice va vl.length vc)) := fun v k => ⟨cell_at (k.block (HW2.out.block HLb.out)) 0, cell_at (k.block (HW2.out.block HLb.out)) 1⟩
  go_region_held3 (fun v => v.cell? ⟨w.heap.size, 0, none⟩ = some (.slice sa L.length sc) ∧ v.cell? ⟨w.heap.size, 1, none⟩ = some (.slice va vl.length vc))
    ((refine HCs.out _ ?_ <;> (repeat (first | exact Ext.refl _ | refine Ext.trans ?_ (by assumption) | refine Ext.drew ?_ | refine Ext.alloc ?_ _))))
    (first
      | (go_at_call 58; refine (H2.out _ ((HX0.out.trans HW2.out).drew)).mono ?_; rintro e w3 ⟨g, rfl, hr, hg, hx3⟩)
      | (go_at_call 37; refine (H3.out _ (((HX0.out.trans HW2.out).drew).trans hx3) g hr).mono ?_; rintro e w4 ⟨rfl, hx4⟩))
  have HX5 : Hid (Ext w w4) := ((HX0.out.trans HW2.out).drew.trans hx3).trans hx4
  have HE5 := Lib.hid (hx4.block (hx3.block (((Ext.refl W2).drew).block (HW2.out.block HEb.out))))
  have HR5 := Lib.hid (hx4.block (hx3.block (((Ext.refl W2).drew).block (HW2.out.block HRb.out))))
  have HG5 := Lib.hid (hx4.block (hx3.block (((Ext.refl W2).drew).block HGb.out)))
  have HBk : Hid (w.heap.size + 1 + 1 < w1.heap.size ∧ w.heap.size ≤ w1.heap.size) := ⟨(Array.getElem?_eq_some_iff.1 HRb.out).1, HX0.out.size⟩
  clear hx3 hx4 hr hg HCs HGb HW2 HLb HEb HRb H2 H3 HX0
  generalize w1.heap.size = B at *
  go_wp2
  go_loopw [15] (fun s wr => ((s = .int .i64 0 ∧ Hid (wr.heap[B]? = some (.cells #[.int .i64 (hN : Int), .int .i64 (hS : Int)] 64 (0, 0)))) ∨ (s = .int .i64 1 ∧ Hid (wr.heap[B]? = some (.cells #[.int .i64 ((hN : Int) - (wN : Int)), .int .i64 (hS : Int)] 64 (0, 0)))) ∨ (s = .int .i64 2 ∧ Hid (wr.heap[B]? = some (.cells #[.int .i64 ((hN : Int) - (wN : Int)), .int .i64 ((hS : Int) - (wS : Int))] 64 (0, 0))))) ∧ Hid (Ext w wr) ∧ Hid (wr.heap[w.heap.size + 1]? = some (.cells #[.int .i64 (W : Int), .slice a l.length c] 31 (0, 0))) ∧ Hid (wr.heap[w.heap.size + 1 + 1]? = some (.cells #[.int .i64 0, .int .i64 0] 64 (0, 0)))) (fun s _ => 2 - (intOf s).toNat)
  case atStart => exact ⟨.inl ⟨rfl, HG5⟩, HX5, HE5, HR5⟩
  case round =>
    clear HG5 HX5 HE5 HR5
    obtain ⟨wo, rfl⟩ : ∃ wo : World, wo = wr := ⟨_, rfl⟩
    obtain ⟨⟨rfl, HG5⟩ | ⟨rfl, HG5⟩ | ⟨rfl, HG5⟩, HX5, HE5, HR5⟩ := hrel
    · have ce := cell_at HE5.out 0
      have cg := cell_at HG5.out 0
      have fg : wo.frozen? ⟨B, 0, none⟩ = false := by simp [World.frozen?, HG5.out]
      dsimp at ce cg
      have hix := index_two0 (.int .i64 (nN : Int)) (.int .i64 (nS : Int))
      go_upto_region 5 with (fail)
      clear hix
      go_region
      clear ce cg fg
      have HX6 : Hid (Ext w (wo.setCell ⟨B, 0, none⟩ (.int .i64 ((hN : Int) - (wN : Int)))).drew) := (HX5.out.setCell (by have := HBk.out; simp only []; omega) _).drew
      have HE6 : Hid ((wo.setCell ⟨B, 0, none⟩ (.int .i64 ((hN : Int) - (wN : Int)))).drew.heap[w.heap.size + 1]? = _) := ((Ext.refl _).drew.block (heap_set_other _ _ _ _ HE5.out (by have := HBk.out; omega)))
      have HR6 : Hid ((wo.setCell ⟨B, 0, none⟩ (.int .i64 ((hN : Int) - (wN : Int)))).drew.heap[w.heap.size + 1 + 1]? = _) := ((Ext.refl _).drew.block (heap_set_other _ _ _ _ HR5.out (by have := HBk.out; omega)))
      have HG6 : Hid ((wo.setCell ⟨B, 0, none⟩ (.int .i64 ((hN : Int) - (wN : Int)))).drew.heap[B]? = _) := ((Ext.refl _).drew.block (heap_setCell_same HG5.out _))
      clear HX5 HE5 HR5 HG5
      generalize (wo.setCell ⟨B, 0, none⟩ (.int .i64 ((hN : Int) - (wN : Int)))).drew = W6 at *
      go_wp2
      go_roundw
      case rel => exact ⟨.inr (.inl ⟨by go_num, HG6⟩), HX6, HE6, HR6⟩
      case measure => simp [intOf]
    · have ce := cell_at HE5.out 0
      have cg := cell_at HG5.out 1
      have fg : wo.frozen? ⟨B, 1, none⟩ = false := by simp [World.frozen?, HG5.out]
      dsimp at ce cg
      have hix := index_two1 (.int .i64 (nN : Int)) (.int .i64 (nS : Int))
      go_upto_region 5 with (fail)
      clear hix
      go_region
      clear ce cg fg
      have HX6 : Hid (Ext w (wo.setCell ⟨B, 1, none⟩ (.int .i64 ((hS : Int) - (wS : Int)))).drew) := (HX5.out.setCell (by have := HBk.out; simp only []; omega) _).drew
      have HE6 : Hid ((wo.setCell ⟨B, 1, none⟩ (.int .i64 ((hS : Int) - (wS : Int)))).drew.heap[w.heap.size + 1]? = _) := ((Ext.refl _).drew.block (heap_set_other _ _ _ _ HE5.out (by have := HBk.out; omega)))
      have HR6 : Hid ((wo.setCell ⟨B, 1, none⟩ (.int .i64 ((hS : Int) - (wS : Int)))).drew.heap[w.heap.size + 1 + 1]? = _) := ((Ext.refl _).drew.block (heap_set_other _ _ _ _ HR5.out (by have := HBk.out; omega)))
      have HG6 : Hid ((wo.setCell ⟨B, 1, none⟩ (.int .i64 ((hS : Int) - (wS : Int)))).drew.heap[B]? = _) := ((Ext.refl _).drew.block (heap_setCell_same HG5.out _))
      clear HX5 HE5 HR5 HG5
      generalize (wo.setCell ⟨B, 1, none⟩ (.int .i64 ((hS : Int) - (wS : Int)))).drew = W6 at *
      go_wp2
      go_roundw
      case rel => exact ⟨.inr (.inr ⟨by go_num, HG6⟩), HX6, HE6, HR6⟩
      case measure => simp [intOf]
    · obtain ⟨d0, d1, f0, f1⟩ := blk_two HR5.out
      obtain ⟨e0, e1, -, -⟩ := blk_two HG5.out
      have hbk := HBk.out
      go_wp2
      have hb := heap_setCell_same (i := 1) (heap_setCell_same (i := 0) HR5.out (.int .i64 ((hN : Int) - (wN : Int)))) (.int .i64 ((hS : Int) - (wS : Int)))
      refine bodyPost_ret (results_cell_row rfl _ _ (w.heap.size + 1 + 1) 64 _ (0, 0) _ rfl hb Try.underlying64 rfl (by kernel_rfl)) rfl ?_
      refine ⟨?_, (HX5.out.setCell (by simp only []; omega) _).setCell (by simp only []; omega) _⟩
      rw [HN.out, HG.out]
      rfl
end Go.Proofs.Ytlaolokakaheaaa
