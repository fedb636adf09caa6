/-
  checkExchange of package barter answers OK for an exchange that is valid. The land and the exchange must lie in memory as told.
-/
import Derived.Test.YtlaolokakaheaaaKW
namespace Go.Proofs.Ytlaolokakaheaaa
open Go.RowKit

set_option maxRecDepth 100000 in
set_option maxHeartbeats 2000000 in
theorem checkExchange_ok (x : Ld) (W : Nat) (a : Option Addr) (c : Nat) (l : List Nat) (w : World) (h : StL w x.s) (hv : IsSl 1 num w x.v) (ok : OkL x.s.l x.v.l) (hp : IsSl 1 num w ⟨a, c, l⟩) (hl : l.length = x.s.l.length) (hW1 : 1 ≤ W) (hW : W ≤ 2000) (hle : ∀ i, i < l.length → pt l i ≤ W) :
    Calls Try.prog 29 #[x.val, .agg #[.int .i64 (W : Int), .slice a l.length c]] w fun e w' => e = .returned (.int .i64 0) ∧ Ext w w' := by
  have HC := Lib.hid (fun (V : World) (k : Ext w V) => check_ok x V (h.ext k) (hv.ext k) ok)
  have HE := Lib.hid (fun (V : World) (k : Ext w V) (b1 b2 : Nat) (hb : Bds V b1 b2 0 (W : Int)) => every_int 64 #[.pointer (some ⟨b1, 0, none⟩), .pointer (some ⟨b2, 0, none⟩)] (fun _ => True) (fun n : Nat => decide ((0 : Int) ≤ (n : Int)) && decide ((n : Int) ≤ (W : Int))) a l.length c l V enters_64 rfl (hp.ext k) (fun _ _ => trivial) (within_asks 0 (W : Int) b1 b2 V hb))
  have hall : (l.all fun n : Nat => decide ((0 : Int) ≤ (n : Int)) && decide ((n : Int) ≤ (W : Int))) = true := by
    rw [List.all_eq_true]
    intro n hn
    obtain ⟨i, hi, rfl⟩ := List.getElem_of_mem hn
    have := hle i hi
    unfold pt at this
    rw [List.getElem?_eq_getElem hi, Option.getD_some] at this
    rw [decide_eq_true (by omega), decide_eq_true (by omega)]; rfl
  rw [hall] at HE
  have HB := Lib.hid (fun V => between_yes (W : Int) 1 2000 (by omega) (by omega) V)
  have hn1 : l.length ≤ 1000000 := hp.2.1
  have hn2 := h.le.2
  have dn : ((l.length : Int) != (x.s.l.length : Int)) = false := by rw [hl]; simp
  clear hall h hv ok hp hle hl
  obtain ⟨⟨sa, sc, L⟩, ⟨va, vc, vl⟩⟩ := x
  dsimp only at *
  have HX0 : Hid (Ext w ((w.alloc (.cells #[.slice sa L.length sc, .slice va vl.length vc] 26)).alloc (.cells #[.int .i64 (W : Int), .slice a l.length c] 31))) := ((Ext.refl w).alloc _).alloc _
  have HL0 : Hid (((w.alloc (.cells #[.slice sa L.length sc, .slice va vl.length vc] 26)).alloc (.cells #[.int .i64 (W : Int), .slice a l.length c] 31)).heap[w.heap.size]? = some (.cells #[.slice sa L.length sc, .slice va vl.length vc] 26 (0, 0))) := by
    refine (alloc_old ?_).trans (alloc_new ?_) <;> simp only [World.size_alloc] <;> omega
  have HE0 : Hid (((w.alloc (.cells #[.slice sa L.length sc, .slice va vl.length vc] 26)).alloc (.cells #[.int .i64 (W : Int), .slice a l.length c] 31)).heap[w.heap.size + 1]? = some (.cells #[.int .i64 (W : Int), .slice a l.length c] 31 (0, 0))) := alloc_new (by simp only [World.size_alloc])
  go_enter Try.func29, Try.ntmps29
  go_wp2_with fail
  generalize (w.alloc (.cells #[.slice sa L.length sc, .slice va vl.length vc] 26)).alloc (.cells #[.int .i64 (W : Int), .slice a l.length c] 31) = V0 at *
  refine (HC.out _ HX0.out).mono ?_
  rintro e w1 ⟨rfl, hx1⟩
  have HX1 : Hid (Ext w w1) := HX0.out.trans hx1
  have HL1 := Lib.hid (hx1.block HL0.out)
  have HE1 := Lib.hid (hx1.block HE0.out)
  clear hx1 HX0 HL0 HE0
  have l0 := cell_at HL1.out 0
  have e0 := cell_at HE1.out 0
  have e1 := cell_at HE1.out 1
  dsimp at l0 e0 e1
  go_upto_region 8 with (go_at_call 34; refine (HB.out _).mono ?_; rintro e w' ⟨rfl, rfl⟩)
  have HCs : Hid (∀ V, Ext w1 V → V.cell? ⟨w.heap.size + 1, 0, none⟩ = some (.int .i64 (W : Int)) ∧ V.cell? ⟨w.heap.size + 1, 1, none⟩ = some (.slice a l.length c)) := fun V k => ⟨cell_at (k.block HE1.out) 0, cell_at (k.block HE1.out) 1⟩
  clear l0 e0 e1
  go_region_held3 (fun v => v.cell? ⟨w.heap.size + 1, 0, none⟩ = some (.int .i64 (W : Int)) ∧ v.cell? ⟨w.heap.size + 1, 1, none⟩ = some (.slice a l.length c))
    ((refine HCs.out _ ?_ <;> (repeat (first | exact Ext.refl _ | refine Ext.trans ?_ (by assumption) | refine Ext.drew ?_ | refine Ext.alloc ?_ _))))
    (first
      | (go_at_call 46; refine (within_ans 0 (W : Int) _).mono ?_; rintro e w3 ⟨b1, b2, rfl, hx3, hb⟩)
      | (go_at_call 45; refine (HE.out _ (HX1.out.trans ((Ext.refl w1).drew.trans hx3)) b1 b2 hb).mono ?_; rintro e w4 ⟨rfl, hx4⟩))
  have HX4 : Hid (Ext w w4) := HX1.out.trans (((Ext.refl w1).drew.trans hx3).trans hx4)
  clear hx3 hx4 hb HCs HE
  go_wp2
  go_ret
  exact ⟨rfl, HX4.out⟩
end Go.Proofs.Ytlaolokakaheaaa
