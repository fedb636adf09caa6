/-
  price of package barter: the price of an exchange. The land and the exchange must lie in memory as told.
-/
import Derived.Test.YtlaolokakaheaaaOD
namespace Go.Proofs.Ytlaolokakaheaaa
open Go.RowKit

theorem priceF_drop (L : List St) (W : Nat) (P ol : List Nat) (k : Nat) (p : Nat × Nat) (h : k < ol.length) :
    priceF L W P (ol.drop k) p = if pt P (pt ol k) < W then (lowS (at' L (pt ol k)), lowN (at' L (pt ol k))) else priceF L W P (ol.drop (k + 1)) (lowS (at' L (pt ol k)), lowN (at' L (pt ol k))) := by
  have e : pt ol k = ol[k] := by unfold pt; rw [List.getElem?_eq_getElem h]; rfl
  rw [List.drop_eq_getElem_cons h, priceF, e]

set_option maxRecDepth 100000 in
set_option maxHeartbeats 2000000 in
theorem price_any (x : Ld) (W : Nat) (a : Option Addr) (c : Nat) (l : List Nat) (w : World) (h : StL w x.s) (hk : OkS x.s.l) (hl16 : x.s.l.length ≤ 16) (hp : IsSl 1 num w ⟨a, c, l⟩) (hl : l.length = x.s.l.length) :
    Calls Try.prog 33 #[x.val, .agg #[.int .i64 (W : Int), .slice a l.length c]] w fun e w' => e = .returned (.agg #[.int .i64 ((priceF x.s.l W l (orderF x.s.l) (1, 1)).1 : Int), .int .i64 ((priceF x.s.l W l (orderF x.s.l) (1, 1)).2 : Int)]) ∧ Ext w w' := by
  have HOr := Lib.hid (fun (V : World) (k : Ext w V) => order_any x V (h.ext k) hk hl16)
  have HWo := Lib.hid (fun (V : World) (k : Ext w V) (i : Nat) (hi : i < x.s.l.length) => worths_any x i V (h.ext k) hi (hk.wr hi).n1 (hk.wr hi).n2 (hk.wr hi).s2)
  have HOl := Lib.hid (fun (i : Nat) (hi : i < (orderF x.s.l).length) => (order_lt (List.getElem_mem hi)).1)
  have HOn : Hid ((orderF x.s.l).length ≤ 1000) := by
    show _ ≤ _
    rw [order_perm.length_eq]
    have := List.length_filter_le (fun i => (at' x.s.l i).free) (List.range x.s.l.length); rw [List.length_range] at this; unfold freeF; omega
  have HP := Lib.hid hp
  have HLn := Lib.hid hl
  clear h hk hl16 hp hl
  obtain ⟨⟨sa, sc, L⟩, ⟨va, vc, vl⟩⟩ := x
  dsimp only at *
  generalize hol : orderF L = ol at *
  clear hol
  have HM0 : Hid (Mm w [] [(w.heap.size, .cells #[.slice sa L.length sc, .slice va vl.length vc] 26), (w.heap.size + 1, .cells #[.int .i64 (W : Int), .slice a l.length c] 31), (w.heap.size + 1 + 1, .cells #[.int .i64 0, .int .i64 0] 68), (w.heap.size + 1 + 1 + 1, .cells #[.int .i64 1, .int .i64 1] 68)] ((((w.alloc (.cells #[.slice sa L.length sc, .slice va vl.length vc] 26)).alloc (.cells #[.int .i64 (W : Int), .slice a l.length c] 31)).alloc (.cells #[.int .i64 0, .int .i64 0] 68)).alloc (.cells #[.int .i64 1, .int .i64 1] 68))) := by
    have h := ((((Mm.start (w0 := w)).new (.cells #[.slice sa L.length sc, .slice va vl.length vc] 26)).new (.cells #[.int .i64 (W : Int), .slice a l.length c] 31)).new (.cells #[.int .i64 0, .int .i64 0] 68)).new (.cells #[.int .i64 1, .int .i64 1] 68)
    simp only [World.size_alloc] at h
    exact h
  go_enter Try.func33, Try.ntmps33
  go_upto_region 2 with (fail)
  generalize (((w.alloc (.cells #[.slice sa L.length sc, .slice va vl.length vc] 26)).alloc (.cells #[.int .i64 (W : Int), .slice a l.length c] 31)).alloc (.cells #[.int .i64 0, .int .i64 0] 68)).alloc (.cells #[.int .i64 1, .int .i64 1] 68) = V0 at *
  generalize w.heap.size + 1 + 1 + 1 = PB at *
  generalize w.heap.size + 1 + 1 = RB at *
  generalize w.heap.size + 1 = EB at *
  generalize w.heap.size = LB at *
  have l0 := HM0.out.cell 0 (j := 0) rfl rfl
  have l1 := HM0.out.cell 0 (j := 1) rfl rfl
  go_wp2_with (go_at_call 51; refine (HOr.out _ HM0.out.to_ext).mono ?_; rintro e w1 ⟨oa, oc, rfl, ho, hx1⟩; have HM1 := Lib.hid (HM0.out.addRow hx1 ho); clear hx1 ho l0 l1 HM0)
  go_loopw [13] (fun s wr => ∃ (k : Nat) (p : Nat × Nat), s = .int .i64 (k : Int) ∧ k ≤ ol.length ∧ Hid (priceF L W l ol (1, 1) = priceF L W l (ol.drop k) p) ∧ Hid (Mm w [⟨3, 1, .slice oa ol.length oc, ol.length, nums ol⟩] [(LB, .cells #[.slice sa L.length sc, .slice va vl.length vc] 26), (EB, .cells #[.int .i64 (W : Int), .slice a l.length c] 31), (RB, .cells #[.int .i64 0, .int .i64 0] 68), (PB, .cells #[.int .i64 (p.1 : Int), .int .i64 (p.2 : Int)] 68)] wr)) (fun s _ => ol.length - (intOf s).toNat)
  case atStart => exact ⟨0, (1, 1), rfl, Nat.zero_le _, rfl, HM1.out⟩
  case round =>
    clear HM1
    obtain ⟨wo, rfl⟩ : ∃ wo : World, wo = wr := ⟨_, rfl⟩
    obtain ⟨k, ⟨p1, p2⟩, rfl, hk, HPr, HM⟩ := hrel
    dsimp only at HM
    by_cases hlt : k < ol.length
    · have dk : decide ((k : Int) < (ol.length : Int)) = true := decide_eq_true (by omega)
      obtain ⟨tb, rfl, -, -⟩ := own_place (HM.out.row 0 _ rfl) (show 0 < ol.length by omega)
      have HN : Hid (ol.length ≤ 1000) := HOn
      have cq := HM.out.num 0 rfl rfl (by have := HN.out; omega) hlt
      have hi := HOl.out k hlt
      have HPd := Lib.hid (priceF_drop L W l ol k (p1, p2) hlt)
      have e : pt ol k = ol[k] := by unfold pt; rw [List.getElem?_eq_getElem hlt]; rfl
      rw [← e] at hi
      clear e
      change wo.cell? ⟨tb, k, none⟩ = some (.int .i64 ((pt ol k : Nat) : Int)) at cq
      generalize pt ol k = i at *
      have hwk : IntKind.i64.wrap ((k : Int) + 1) = ((k + 1 : Nat) : Int) := by have := HN.out; rw [IntWalk.i64_in _ (by omega)]; omega
      have i1 : (0 : Int) ≤ k := by omega
      have i2 : (k : Int) < (ol.length : Int) := by omega
      have l0 := HM.out.cell 0 (j := 0) rfl rfl
      have l1 := HM.out.cell 0 (j := 1) rfl rfl
      go_upto_region 6 with (go_at_call 61; refine (HWo.out _ HM.out.to_ext i hi).mono ?_; rintro e w2 ⟨rfl, hx2⟩; have HM2 := Lib.hid ((HM.out.ext hx2).new (.cells #[.int .i64 (lowN (at' L i) : Int), .int .i64 (lowS (at' L i) : Int)] 68)); clear hx2 l0 l1 cq)
      have HS2 : Hid (w2.heap.size = w2.heap.size) := rfl
      generalize w2.alloc (.cells #[.int .i64 (lowN (at' L i) : Int), .int .i64 (lowS (at' L i) : Int)] 68) = V2 at *
      generalize w2.heap.size = TB at *
      clear HS2
      have q0 := HM2.out.cell 4 (j := 0) rfl rfl
      have q1 := HM2.out.cell 4 (j := 1) rfl rfl
      have y0 := HM2.out.cell 3 (j := 0) rfl rfl
      have y1 := HM2.out.cell 3 (j := 1) rfl rfl
      have f0 := HM2.out.frozen 3 (j := 0) rfl
      have f1 := HM2.out.frozen 3 (j := 1) rfl
      go_upto_region 7 with (fail)
      have HM3 := Lib.hid (Mm.drop [_] (blks := [_, _, _, _]) ((HM2.out.cellPut (j := 0) 3 rfl (.int .i64 (lowS (at' L i) : Int))).cellPut (j := 1) 3 rfl (.int .i64 (lowN (at' L i) : Int))))
      clear q0 q1 y0 y1 f0 f1 HM2 HM
      generalize (V2.setCell ⟨PB, 0, none⟩ (.int .i64 (lowS (at' L i) : Int))).setCell ⟨PB, 1, none⟩ (.int .i64 (lowN (at' L i) : Int)) = V3 at *
      have e0 := HM3.out.cell 1 (j := 0) rfl rfl
      have e1 := HM3.out.cell 1 (j := 1) rfl rfl
      obtain ⟨pbk, po, rfl, cp⟩ := part_cell (HP.out.ext HM3.out.to_ext) (show i < l.length by have := HLn.out; omega)
      have i3 : (0 : Int) ≤ (i : Int) := by omega
      have i4 : (i : Int) < (l.length : Int) := by have := HLn.out; omega
      generalize pt l i = pv at *
      by_cases hlt2 : pv < W
      · have d2 : decide ((pv : Int) < (W : Int)) = true := decide_eq_true (by omega)
        have HQ : Hid (priceF L W l ol (1, 1) = (lowS (at' L i), lowN (at' L i))) := by show _ = _; rw [HPr.out, HPd.out, if_pos hlt2]
        go_quiet (fail)
        have HM4 := Lib.hid (HM3.out.ext ((Ext.refl V3).drewN nq))
        generalize V3.drewN nq = V4 at *
        have y0 := HM4.out.cell 3 (j := 0) rfl rfl
        have y1 := HM4.out.cell 3 (j := 1) rfl rfl
        have z0 := HM4.out.cell 2 (j := 0) rfl rfl
        have z1 := HM4.out.cell 2 (j := 1) rfl rfl
        have f0 := HM4.out.frozen 2 (j := 0) rfl
        have f1 := HM4.out.frozen 2 (j := 1) rfl
        go_wp2_with fail
        have HE := Lib.hid ((HM4.out.cellPut (j := 0) 2 rfl (.int .i64 (lowS (at' L i) : Int))).cellPut (j := 1) 2 rfl (.int .i64 (lowN (at' L i) : Int)))
        refine bodyPost_ret (results_cell_row rfl _ _ RB 68 _ (0, 0) _ rfl (HE.out.heap 2 rfl) Try.underlying68 rfl (by kernel_rfl)) rfl ?_
        rw [HQ.out]
        exact ⟨rfl, HE.out.to_ext⟩
      · have d2 : decide ((pv : Int) < (W : Int)) = false := decide_eq_false (by omega)
        have HQ : Hid (priceF L W l ol (1, 1) = priceF L W l (ol.drop (k + 1)) (lowS (at' L i), lowN (at' L i))) := by show _ = _; rw [HPr.out, HPd.out, if_neg hlt2]
        go_quiet (fail)
        go_wp2_with fail
        go_roundw
        case rel => exact ⟨k + 1, (lowS (at' L i), lowN (at' L i)), rfl, by omega, HQ, HM3.out.ext ((Ext.refl V3).drewN nq)⟩
        case measure => simp [intOf]; omega
    · have dk : decide ((k : Int) < (ol.length : Int)) = false := decide_eq_false (by omega)
      obtain rfl : k = ol.length := by omega
      rw [List.drop_length] at HPr
      have y0 := HM.out.cell 3 (j := 0) rfl rfl
      have y1 := HM.out.cell 3 (j := 1) rfl rfl
      have z0 := HM.out.cell 2 (j := 0) rfl rfl
      have z1 := HM.out.cell 2 (j := 1) rfl rfl
      have f0 := HM.out.frozen 2 (j := 0) rfl
      have f1 := HM.out.frozen 2 (j := 1) rfl
      go_wp2_with fail
      have HE := Lib.hid ((HM.out.cellPut (j := 0) 2 rfl (.int .i64 (p1 : Int))).cellPut (j := 1) 2 rfl (.int .i64 (p2 : Int)))
      refine bodyPost_ret (results_cell_row rfl _ _ RB 68 _ (0, 0) _ rfl (HE.out.heap 2 rfl) Try.underlying68 rfl (by kernel_rfl)) rfl ?_
      rw [HPr.out]
      exact ⟨rfl, HE.out.to_ext⟩
end Go.Proofs.Ytlaolokakaheaaa
