/-
  Several texts in one. Floors and Yield of package treaty return the floors and the legs that yield, in new memory, and turn nothing that was there. The treaty and the reading must lie in memory as told and be valid. Proves of package treaty tells what floors prove, and turns nothing that was there. The treaty, the reading and the floors must lie in memory as told, the treaty and the reading be valid, the floors be numbers that floors may be.
-/
import Derived.Test.YtopjjcgmcieboaaGreatDoorCa
import Derived.Test.YtopjjcgmcieboaaGreatDoorRb
import Derived.Test.YtopjjcgmcieboaaGreatDoorVb
import Derived.Test.YtopjjcgmcieboaaGreatDoorQ
namespace Go.Proofs.YtopjjcgmcieboaaGreatDoor
open Go.RowKit

theorem Tbl.mono {w : World} {base base' B n : Nat} {rows : List RW} (h : Tbl w base B n rows) (hb : base' ≤ base) : Tbl w base' B n rows :=
  ⟨h.hd, Nat.le_trans hb h.low, fun r hr => ⟨(h.row r hr).1, Nat.le_trans hb (h.row r hr).2.1, (h.row r hr).2.2⟩, h.apart⟩

set_option maxRecDepth 100000 in
set_option maxHeartbeats 1000000 in
theorem Yield_ok (t : TV) (r : SL Nat) (w : World) (ht : IsT w t) (hk : OkT t) (hr : IsSl 1 num w r) (hR : RdOk t r.l) :
    Calls Tryz.prog 40 #[t.v, .slice r.a r.l.length r.c] w fun e w' => ∃ (a' : Option Addr) (c' : Nat), e = .returned (.tuple #[.slice a' (yieldL (leadsOf t r.l) t.P t.starts.l t.legs.l.length).length c', .int .i64 0]) ∧ IsSl 1 num w' ⟨a', c', yieldL (leadsOf t r.l) t.P t.starts.l t.legs.l.length⟩ ∧ Ext w w' := by
  have HT := Lib.hid ht; clear ht
  have HK := Lib.hid hk; clear hk
  have HR := Lib.hid hr; clear hr
  have HRd := Lib.hid hR; clear hR
  go_enter Tryz.func40, Tryz.ntmps40
  go_wp2_with fail
  refine (checkReading_ok t r _ (HT.out.ext ((Ext.refl w).alloc _)) HK.out (HR.out.ext ((Ext.refl w).alloc _)) HRd.out).mono ?_
  rintro e w1 ⟨rfl, hx1⟩
  have hb1 := hx1.block (World.alloc_heap_new w _)
  have HX1 : Hid (Ext w w1) := ((Ext.refl w).alloc _).trans hx1
  clear hx1
  have c0 := cell_at hb1 0
  have c1 := cell_at hb1 1
  have c2 := cell_at hb1 2
  have c3 := cell_at hb1 3
  have c4 := cell_at hb1 4
  simp only [List.getElem?_toArray, List.getElem?_cons_succ, List.getElem?_cons_zero] at c0 c1 c2 c3 c4
  clear hb1
  go_wp2_with fail
  clear c0 c1 c2 c3 c4
  refine (read_any t r w1 (HT.out.ext HX1.out) HK.out (HR.out.ext HX1.out) HRd.out).mono ?_
  rintro e w2 ⟨p, rfl, hw2, hx2⟩
  have HX2 : Hid (Ext w w2) := HX1.out.trans hx2
  have HW2 := Lib.hid hw2; clear hw2 hx2
  go_wp2_with fail
  refine (yielding_any p t (leadsOf t r.l) w2 HW2.out (HT.out.ext HX2.out).starts HK.out).mono ?_
  rintro e w3 ⟨a', c', rfl, hs, hx3⟩
  have HX3 : Hid (Ext w w3) := HX2.out.trans hx3
  have HS := Lib.hid hs; clear hs hx3
  go_wp2
  go_ret2
  exact ⟨a', c', rfl, HS.out, HX3.out⟩
end Go.Proofs.YtopjjcgmcieboaaGreatDoor

namespace Go.Proofs.YtopjjcgmcieboaaGreatDoor
open Go.RowKit
/-- A row that one may ask. -/
def IsRow (w : World) (s : SL Nat) : Prop := IsSl 1 num w s

set_option maxHeartbeats 400000 in
theorem proves1_any (s : SL Nat) (b P : Nat) (w : World) (_hl : s.l.length ≤ 1000000) (_hP : P ≤ 1000) (hc : w.cell? ⟨b, 0, none⟩ = some (.int .i64 (P : Int))) :
    Calls Tryz.prog 87 #[.slice s.a s.l.length s.c, .pointer (some ⟨b, 0, none⟩)] w fun e w' => e = .returned (.bool (s.l.length == P)) ∧ w = w' := by
  generalize s.l.length = n at *
  go_enter Tryz.func87, Tryz.ntmps87
  go_wp2
  go_ret
  refine ⟨ret_bool ?_, rfl⟩
  rw [Bool.eq_iff_iff]; simp; omega

theorem proves2_any (s : SL Nat) (b b2 : Nat) (w : World) (hs : IsSl 1 num w s) (hc : w.cell? ⟨b, 0, none⟩ = some (.func (.func 101) #[] #[.pointer (some ⟨b2, 0, none⟩)])) (hc2 : w.cell? ⟨b2, 0, none⟩ = some (.int .i64 12)) :
    Calls Tryz.prog 88 #[.slice s.a s.l.length s.c, .pointer (some ⟨b, 0, none⟩)] w fun e w' => e = .returned (.bool (s.l.all (lessB 12))) ∧ Ext w w' := by
  have HS := Lib.hid hs; clear hs
  have HC := Lib.hid hc2; clear hc2
  go_enter Tryz.func88, Tryz.ntmps88
  go_wp2_with fail
  refine (isAll_ok 12 (by omega) b2 w HC.out s.a _ s.c s.l rfl HS.out).mono ?_
  rintro e w2 ⟨rfl, hx2⟩
  have HX2 := Lib.hid hx2; clear hx2
  go_wp2
  go_ret
  exact ⟨rfl, HX2.out⟩

theorem at2_le {l : List (SL Nat)} (h : ∀ r ∈ l, ∀ x ∈ r.l, x ≤ 11) (k i : Nat) : at2 l k i ≤ 11 := by
  unfold at2
  cases hq : (l.map (fun r : SL Nat => r.l))[k]? with
  | none => simp
  | some r =>
    simp only [Option.getD_some]
    cases hr : r[i]? with
    | none => simp
    | some x =>
      obtain ⟨q, hq', rfl⟩ := List.mem_map.1 (List.mem_of_getElem? hq)
      exact h q hq' x (List.mem_of_getElem? hr)

theorem enters_87 : Enters Tryz.prog 87 := fun args w => Proofs.enters_of Tryz.func87 (by kernel_rfl) rfl args w
theorem enters_88 : Enters Tryz.prog 88 := fun args w => Proofs.enters_of Tryz.func88 (by kernel_rfl) rfl args w

set_option maxRecDepth 100000 in
set_option maxHeartbeats 1000000 in
theorem Proves_ok (t : TV) (r : SL Nat) (s : SL (SL Nat)) (w : World) (ht : IsT w t) (hk : OkT t) (hr : IsSl 1 num w r) (hR : RdOk t r.l) (hs : IsTbl w s)
    (hlen : s.l.length = t.legs.l.length + 1) (hP : ∀ r ∈ s.l, r.l.length = t.P) (h11 : ∀ r ∈ s.l, ∀ x ∈ r.l, x ≤ 11) :
    Calls Tryz.prog 41 #[t.v, .slice r.a r.l.length r.c, .slice s.a s.l.length s.c] w fun e w' => ((HoldP t (leadsOf t r.l) s.l ∧ ∃ m : Nat, e = .returned (.tuple #[.int .i64 (m : Int), .int .i64 0]) ∧ LeastOf ((s.l.map (·.l))[t.legs.l.length]?.getD []) m) ∨ (¬ HoldP t (leadsOf t r.l) s.l ∧ e = .returned (.tuple #[.int .i64 0, .int .i64 9]))) ∧ Ext w w' := by
  have HT := Lib.hid ht; clear ht
  have HK := Lib.hid hk; clear hk
  have HR := Lib.hid hr; clear hr
  have HRd := Lib.hid hR; clear hR
  have HS := Lib.hid hs; clear hs
  have HPr := Lib.hid hP; clear hP
  have H11 := Lib.hid h11; clear h11
  have hd : ((s.l.length : Int) != (t.legs.l.length : Int) + 1) = false := by rw [bne_eq_false_iff_eq]; omega
  have HLen := Lib.hid hlen; clear hlen
  have hN10 := HK.out.legs
  go_enter Tryz.func41, Tryz.ntmps41
  go_wp2_with fail
  refine (checkReading_ok t r _ (HT.out.ext ((Ext.refl w).alloc _)) HK.out (HR.out.ext ((Ext.refl w).alloc _)) HRd.out).mono ?_
  rintro e w1 ⟨rfl, hx1⟩
  have hb1 := hx1.block (World.alloc_heap_new w _)
  have HX1 : Hid (Ext w w1) := ((Ext.refl w).alloc _).trans hx1
  clear hx1
  have HB1 := Lib.hid hb1; clear hb1
  go_wp2_with fail
  refine (under_any 12 w1).mono ?_
  rintro e w2 ⟨rfl, rfl⟩
  have hu := World.alloc_heap_new w1 (.cells #[.int .i64 12] 3)
  have HU := Lib.hid hu; clear hu
  have hb4 := cell_at HB1.out 4
  simp only [List.getElem?_toArray, List.getElem?_cons_succ, List.getElem?_cons_zero] at hb4
  have hlt1 := lt_of_cell hb4
  dsimp only at hlt1
  go_wp2_with fail
  clear hb4
  have hX2 : Ext w1 ((w1.alloc (.cells #[.int .i64 12] 3)).alloc (.cells #[.func (.func 101) #[] #[.pointer (some ⟨w1.heap.size, 0, none⟩)]] 96)) := ((Ext.refl w1).alloc _).alloc _
  have hB2 := World.alloc_heap_new (w1.alloc (.cells #[.int .i64 12] 3)) (.cells #[.func (.func 101) #[] #[.pointer (some ⟨w1.heap.size, 0, none⟩)]] 96)
  rw [World.size_alloc] at hB2
  have hA2 : ((w1.alloc (.cells #[.int .i64 12] 3)).alloc (.cells #[.func (.func 101) #[] #[.pointer (some ⟨w1.heap.size, 0, none⟩)]] 96)).heap[w1.heap.size]? = some (.cells #[.int .i64 12] 3) := ((Ext.refl _).alloc _).block HU.out
  generalize (w1.alloc (.cells #[.int .i64 12] 3)).alloc (.cells #[.func (.func 101) #[] #[.pointer (some ⟨w1.heap.size, 0, none⟩)]] 96) = w2 at *
  have HX2 : Hid (Ext w w2) := HX1.out.trans hX2
  have HB2 := Lib.hid hB2; clear hB2
  have HA2 := Lib.hid hA2; clear hA2
  have HT2 := Lib.hid (hX2.block HB1.out)
  clear hX2 HU
  have hr1 := every_row 87 #[.pointer (some ⟨w.heap.size, 0, none⟩)] (fun x => IsSl 1 num w x) (fun x => x.l.length == t.P) s.a _ s.c s.l w2 enters_87 rfl (HS.out.rows.ext HX2.out) (fun x hx => HS.out.row x hx) (fun x hx w' hw' => by
    refine (proves1_any x w.heap.size t.P w' hx.2.1 (by have := HK.out.p2; omega) (cell_at (hw'.block HT2.out) 0)).mono ?_
    rintro e w'' ⟨rfl, rfl⟩
    exact ⟨rfl, Ext.refl _⟩)
  have hall1 : (s.l.all fun x => x.l.length == t.P) = true := List.all_eq_true.2 fun x hx => by simpa using HPr.out x hx
  rw [hall1] at hr1
  have HR1 := Lib.hid hr1; clear hr1 hall1
  refine HR1.out.mono ?_
  rintro e w3 ⟨rfl, hx3⟩
  have HX3 : Hid (Ext w2 w3) := hx3
  clear hx3
  go_wp2_with fail
  have hr2 := every_row 88 #[.pointer (some ⟨w1.heap.size + 1, 0, none⟩)] (fun x => IsSl 1 num w x) (fun x => x.l.all (lessB 12)) s.a _ s.c s.l w3 enters_88 rfl (HS.out.rows.ext (HX2.out.trans HX3.out)) (fun x hx => HS.out.row x hx) (fun x hx w' hw' => by
    have hE := HX3.out.trans hw'
    exact proves2_any x (w1.heap.size + 1) w1.heap.size w' (hx.ext (HX2.out.trans hE)) (cell_at (hE.block HB2.out) 0) (cell_at (hE.block HA2.out) 0))
  have hall2 : (s.l.all fun x => x.l.all (lessB 12)) = true := List.all_eq_true.2 fun x hx => List.all_eq_true.2 fun y hy => by have := H11.out x hx y hy; simp [lessB]; omega
  rw [hall2] at hr2
  have HR2 := Lib.hid hr2; clear hr2 hall2
  refine HR2.out.mono ?_
  rintro e w4 ⟨rfl, hx4⟩
  have HX4 : Hid (Ext w w4) := (HX2.out.trans HX3.out).trans hx4
  have HT4 := Lib.hid ((HX3.out.trans hx4).block HT2.out)
  clear hx4
  have c0 := cell_at HT4.out 0
  have c1 := cell_at HT4.out 1
  have c2 := cell_at HT4.out 2
  have c3 := cell_at HT4.out 3
  have c4 := cell_at HT4.out 4
  simp only [List.getElem?_toArray, List.getElem?_cons_succ, List.getElem?_cons_zero] at c0 c1 c2 c3 c4
  go_wp2_with fail
  clear c0 c1 c2 c3 c4
  refine (read_any t r w4 (HT.out.ext HX4.out) HK.out (HR.out.ext HX4.out) HRd.out).mono ?_
  rintro e w5 ⟨p, rfl, hw5, hx5⟩
  have HX5 : Hid (Ext w w5) := HX4.out.trans hx5
  have HT5 := Lib.hid (hx5.block HT4.out)
  have HW5 := Lib.hid hw5; clear hw5 hx5
  go_wp2_with fail
  refine (hold_any p t (leadsOf t r.l) s w5 HW5.out (HT.out.ext HX5.out) HK.out (HS.out.ext HX5.out) HLen.out HPr.out (fun k i => at2_le H11.out k i)).mono ?_
  rintro e w6 ⟨b, rfl, hb, hx6⟩
  have HX6 : Hid (Ext w w6) := HX5.out.trans hx6
  have HT6 := Lib.hid (hx6.block HT5.out)
  have HBb := Lib.hid hb; clear hb hx6
  cases b
  · go_wp2
    go_ret2
    refine ⟨.inr ⟨fun h => ?_, rfl⟩, HX6.out⟩
    have := HBb.out.2 h
    cases this
  · have c4 := cell_at HT6.out 4
    simp only [List.getElem?_toArray, List.getElem?_cons_succ, List.getElem?_cons_zero] at c4
    have hsa := (HS.out.ext HX6.out).rows
    obtain ⟨z1, z2, z3⟩ := hsa
    obtain ⟨B, O, ha, hc⟩ := z3.resolve_left (by have := HLen.out; omega)
    have hcN := hc t.legs.l.length (by have := HLen.out; omega) 0 (by omega)
    simp only [slC, SL.v, Nat.mul_one, Nat.add_zero] at hcN
    have hmem : s.l[t.legs.l.length]'(by have := HLen.out; omega) ∈ s.l := List.getElem_mem _
    have hlast := (HS.out.ext HX6.out).row _ hmem
    have hlP := HPr.out _ hmem
    have hge : (s.l.map (·.l))[t.legs.l.length]?.getD [] = (s.l[t.legs.l.length]'(by have := HLen.out; omega)).l := by simp [show t.legs.l.length < s.l.length by have := HLen.out; omega]
    generalize s.l[t.legs.l.length]'(by have := HLen.out; omega) = row at *
    have HLast := Lib.hid hlast; have HGe := Lib.hid hge; clear hlast hc z3 hmem hge
    have hP1 := HK.out.p1
    have HLP := Lib.hid hlP; clear hlP
    have n0 : (0 : Int) ≤ t.legs.l.length := by omega
    have n1 : (t.legs.l.length : Int) < s.l.length := by have := HLen.out; omega
    rw [ha]
    go_wp2_with fail
    refine (min_any row.a _ row.c row.l w6 rfl (by have := HLP.out; omega) HLast.out).mono ?_
    rintro e w' ⟨⟨m, rfl, hm⟩, rfl⟩
    have HM := Lib.hid hm; clear hm
    go_wp2
    go_ret2
    exact ⟨.inl ⟨HBb.out.1 trivial, m, rfl, by rw [HGe.out]; exact HM.out⟩, HX6.out⟩
end Go.Proofs.YtopjjcgmcieboaaGreatDoor
