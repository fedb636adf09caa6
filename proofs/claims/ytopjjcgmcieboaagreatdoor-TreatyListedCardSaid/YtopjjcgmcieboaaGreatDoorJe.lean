/-
  The statements' own examples hold: awake answers true, and turns nothing that was there.
-/
import Derived.Test.YtopjjcgmcieboaaGreatDoorJc
import Derived.Test.YtopjjcgmcieboaaGreatDoorJb
namespace Go.Proofs.YtopjjcgmcieboaaGreatDoor
open Go.RowKit

/-- What the six calls of the first part give. -/
structure Aw (t : TV) : Prop where
  l00 : linesR t (leadsOf t [0, 0]) = [[0, 1, 3], [0, 2, 3]]
  l10 : linesR t (leadsOf t [1, 0]) = []
  rd : (allR (cntR t)).filter (fun r => hasB t (leadsOf t r)) = [[0, 0]]
  en : endsR t = [[0], [1, 2], [3]]
  me : metR t (allR (cntR t)) 0 0 = true
  ag : (allR (cntR t)).find? (agB t [0, 1, 3]) = some [0, 0]
  br : brkTo (leadsOf t [1, 0]) [0, 1, 3] t.legs.l.length = [0]
  yi : yieldL (leadsOf t [1, 0]) t.P t.starts.l t.legs.l.length = [0]
  r00 : RdOk t [0, 0]
  r10 : RdOk t [1, 0]
  p4 : t.P = 4
  g2 : t.legs.l.length = 2
  st : t.starts.l = [0]
  ho : ∀ a b c : SL Nat, a.l = [0, 3, 3, 3] → b.l = [1, 1, 1, 1] → c.l = [2, 2, 2, 1] → HoldP t (leadsOf t [1, 0]) [a, b, c]
theorem aw_four (n : Nat) : Aw (fourG n (-1)) := ⟨ev_lines00 n, ev_lines10 n, ev_readings n, ev_ends n, ev_met n, ev_agrees n, ev_breaks n, ev_yield n, rd00 n _, rd10 n _, rfl, rfl, rfl, ev_hold n⟩

def Tb (w : World) (a : Option Addr) (c : Nat) (rows : List (SL Nat)) (l : List (List Nat)) : Prop := IsTbl w ⟨a, c, rows⟩ ∧ rows.map (fun r => r.l) = l
theorem Tb.ext {w w' : World} {a : Option Addr} {c : Nat} {rows : List (SL Nat)} {l : List (List Nat)} (h : Tb w a c rows l) (k : Ext w w') : Tb w' a c rows l := ⟨h.1.ext k, h.2⟩

theorem TBox.five {W : World} {b : Nat} {t : TV} (h : TBox W b t) : W.cell? ⟨b, 0, none⟩ = some (.int .i64 (t.P : Int)) ∧ W.cell? ⟨b, 1, none⟩ = some (.slice t.ways.a t.ways.l.length t.ways.c) ∧ W.cell? ⟨b, 2, none⟩ = some (.slice t.words.a t.words.l.length t.words.c) ∧
    W.cell? ⟨b, 3, none⟩ = some (.slice t.starts.a t.starts.l.length t.starts.c) ∧ W.cell? ⟨b, 4, none⟩ = some (.slice t.legs.a t.legs.l.length t.legs.c) :=
  ⟨(cell_at h 0).trans rfl, (cell_at h 1).trans rfl, (cell_at h 2).trans rfl, (cell_at h 3).trans rfl, (cell_at h 4).trans rfl⟩

theorem isNum {w : World} {b c : Nat} {l : List Nat} {T : TypeId} {fr : Nat × Nat} {cells : Array Value} (h : w.heap[b]? = some (.cells cells T fr)) (hc : cells = (nums l).toArray) (hlc : l.length ≤ c) (hl : l.length ≤ 1000000) : IsSl 1 num w ⟨some ⟨b, 0, none⟩, c, l⟩ := by
  subst hc
  refine isSl_of_block h hlc hl (fun i hi j hj => ?_)
  obtain rfl : j = 0 := by omega
  simp [nums, num, hi]

theorem tbl_of {w : World} {b c : Nat} {rows : List (SL Nat)} {T : TypeId} {fr : Nat × Nat} {cells : Array Value} (h : w.heap[b]? = some (.cells cells T fr)) (hc : cells = (rows.map fun r => r.v).toArray) (hlc : rows.length ≤ c) (hl : rows.length ≤ 1000000) (hr : ∀ r ∈ rows, IsSl 1 num w r) :
    IsTbl w ⟨some ⟨b, 0, none⟩, c, rows⟩ := by
  subst hc
  refine ⟨isSl_of_block h hlc hl (fun i hi j hj => ?_), hr⟩
  obtain rfl : j = 0 := by omega
  simp [slC, hi]

set_option maxRecDepth 100000 in
set_option maxHeartbeats 2000000 in
theorem awake_ok (w : World) : Calls Tryz.prog 10 #[] w fun e w' => e = .returned (.bool true) ∧ Ext w w' := by
  go_enter Tryz.func10, Tryz.ntmps10
  go_wp2_with fail
  refine (four_any w).mono ?_
  rintro e w1 ⟨rfl, hF, hx1, hs1⟩
  have hT1 := Lib.hid hF.isT
  have hF1 := Lib.hid hF; clear hF
  have hX1 := Lib.hid hx1; clear hx1
  have hK := Lib.hid (four_ok w.heap.size (-1) (.inl rfl))
  have hA := Lib.hid (aw_four w.heap.size)
  have hL := Lib.hid (show (fourG w.heap.size (-1)).legs.a = some ⟨w.heap.size + 12, 0, none⟩ from rfl)
  have hV := Lib.hid (show (fourG w.heap.size (-1)).v = (fourG w.heap.size 1).v from rfl)
  generalize fourG w.heap.size (-1) = t at *
  go_wp2_with fail
  refine (Lines_ok t ⟨some ⟨w1.heap.size + 1, 0, none⟩, 2, [0, 0]⟩ _ (hT1.out.ext (((Ext.refl w1).alloc _).alloc _)) hK.out (isNum (alloc_new (by simp only [World.size_alloc])) rfl (by simp) (by simp)) hA.out.r00 (by rw [hA.out.l00]; simp)).mono ?_
  rintro e w2 ⟨a1, c1, rows1, rfl, p1, q1, r1, hx2⟩
  have hb2 : Hid (TBox w2 w1.heap.size t) := hx2.unlaid.laid
  have hE2 := Lib.hid hx2.unlaid.unlaid; clear hx2
  have hS1 := Lib.hid (show Tb w2 a1 c1 rows1 _ from ⟨⟨p1, q1⟩, r1.trans hA.out.l00⟩); clear p1 q1 r1
  obtain ⟨f0, f1, f2, f3, f4⟩ := hb2.out.five
  go_wp2_with fail
  clear f0 f1 f2 f3 f4
  refine (Lines_ok t ⟨some ⟨w2.heap.size, 0, none⟩, 2, [1, 0]⟩ _ (hT1.out.ext (hE2.out.alloc _)) hK.out (isNum (alloc_new rfl) rfl (by simp) (by simp)) hA.out.r10 (by rw [hA.out.l10]; simp)).mono ?_
  rintro e w3 ⟨a2, c2, rows2, rfl, p2, q2, r2, hx3⟩
  have hb3 : Hid (TBox w3 w1.heap.size t) := hx3.unlaid.block hb2.out; clear hb2
  have hE3 := Lib.hid hx3.unlaid; clear hx3
  obtain rfl : rows2 = [] := by rw [hA.out.l10] at r2; simpa using r2
  clear p2 q2 r2
  obtain ⟨f0, f1, f2, f3, f4⟩ := hb3.out.five
  go_wp2_with fail
  clear f0 f1 f2 f3 f4
  have HR := Readings_ok t w3 (hT1.out.ext (hE2.out.trans hE3.out)) hK.out
  rw [hA.out.rd] at HR
  refine HR.mono ?_
  clear HR
  rintro e w4 ⟨a3, c3, rows3, rfl, p3, q3, r3, hx4⟩
  have hb4 : Hid (TBox w4 w1.heap.size t) := hx4.block hb3.out; clear hb3
  have hE4 := Lib.hid hx4; clear hx4
  have hS3 := Lib.hid (show Tb w4 a3 c3 rows3 _ from ⟨⟨p3, q3⟩, r3⟩); clear p3 q3 r3
  obtain ⟨f0, f1, f2, f3, f4⟩ := hb4.out.five
  go_wp2_with fail
  clear f0 f1 f2 f3 f4
  have HR := Ends_ok t w4 (hT1.out.ext (hE2.out.trans (hE3.out.trans hE4.out))) hK.out ⟨0, by omega, hA.out.me⟩
  rw [hA.out.en] at HR
  refine HR.mono ?_
  clear HR
  rintro e w5 ⟨a4, c4, rows4, rfl, p4, q4, r4, hx5⟩
  have hb5 : Hid (TBox w5 w1.heap.size t) := hx5.block hb4.out; clear hb4
  have hE5 := Lib.hid hx5; clear hx5
  have hS4 := Lib.hid (show Tb w5 a4 c4 rows4 _ from ⟨⟨p4, q4⟩, r4⟩); clear p4 q4 r4
  obtain ⟨f0, f1, f2, f3, f4⟩ := hb5.out.five
  go_wp2_with fail
  clear f0 f1 f2 f3 f4
  refine (Agrees_ok t ⟨some ⟨w5.heap.size, 0, none⟩, 3, [0, 1, 3]⟩ _ [0, 0] (hT1.out.ext ((hE2.out.trans (hE3.out.trans (hE4.out.trans hE5.out))).alloc _)) hK.out (isNum (alloc_new rfl) rfl (by simp) (by simp)) (by rw [hA.out.g2]; rfl) (by rw [hA.out.p4]; simp) (by rw [hA.out.st]; simp) hA.out.ag).mono ?_
  rintro e w6 ⟨a5, c5, rfl, p5, hx6⟩
  have hb6 : Hid (TBox w6 w1.heap.size t) := hx6.unlaid.block hb5.out; clear hb5
  have hE6 := Lib.hid hx6.unlaid; clear hx6
  have hS5 := Lib.hid p5; clear p5
  obtain ⟨f0, f1, f2, f3, f4⟩ := hb6.out.five
  go_wp2_with fail
  clear f0 f1 f2 f3 f4
  have HR := Breaks_ok t ⟨some ⟨w6.heap.size, 0, none⟩, 2, [1, 0]⟩ ⟨some ⟨w6.heap.size + 1, 0, none⟩, 3, [0, 1, 3]⟩ ((w6.alloc (.cells #[.int .i64 1, .int .i64 0] 3)).alloc (.cells #[.int .i64 0, .int .i64 1, .int .i64 3] 3)) (hT1.out.ext (((hE2.out.trans (hE3.out.trans (hE4.out.trans (hE5.out.trans hE6.out)))).alloc _).alloc _)) hK.out
    (isNum ((alloc_old (by simp only [World.size_alloc]; omega)).trans (alloc_new rfl)) rfl (by simp) (by simp)) hA.out.r10 (isNum (alloc_new (by simp only [World.size_alloc])) rfl (by simp) (by simp)) (by rw [hA.out.g2]; rfl) (by rw [hA.out.p4]; simp) (by rw [hA.out.st]; simp)
  rw [hA.out.br] at HR
  refine HR.mono ?_
  clear HR
  rintro e w7 ⟨a6, c6, rfl, p6, hx7⟩
  have hb7 : Hid (TBox w7 w1.heap.size t) := hx7.unlaid.unlaid.block hb6.out; clear hb6
  have hE7 := Lib.hid hx7.unlaid.unlaid; clear hx7
  have hS6 := Lib.hid p6; clear p6
  have hE37 := hE3.out.trans (hE4.out.trans (hE5.out.trans (hE6.out.trans hE7.out)))
  have hT7 := Lib.hid (hT1.out.ext (hE2.out.trans hE37))
  have hF7 := Lib.hid (hF1.out.ext (hE2.out.trans hE37))
  have hX7 := Lib.hid (hX1.out.trans (hE2.out.trans hE37))
  have hZ7 := Lib.hid (show Ext w1 w7 from hE2.out.trans hE37)
  replace hS1 := Lib.hid (hS1.out.ext hE37)
  replace hS3 := Lib.hid (hS3.out.ext (hE5.out.trans (hE6.out.trans hE7.out)))
  replace hS4 := Lib.hid (hS4.out.ext (hE6.out.trans hE7.out))
  replace hS5 := Lib.hid (hS5.out.ext hE7.out)
  clear hE37 hE2 hE3 hE4 hE5 hE6 hE7 hT1 hF1 hX1
  go_wp2_with fail
  refine (equalAll_true ⟨a1, c1, rows1⟩ ⟨some ⟨w7.heap.size + 1 + 1, 0, none⟩, 2, [⟨some ⟨w7.heap.size, 0, none⟩, 3, [0, 1, 3]⟩, ⟨some ⟨w7.heap.size + 1, 0, none⟩, 3, [0, 2, 3]⟩]⟩ _ (hS1.out.ext ((((Ext.refl w7).alloc _).alloc _).alloc _)).1
    (tbl_of (by (repeat rw [alloc_old (by simp only [World.size_alloc]; omega)]); exact alloc_new (by simp only [World.size_alloc])) rfl (by simp) (by simp) (fun r hr => by
      simp only [List.mem_cons, List.not_mem_nil, or_false] at hr
      rcases hr with rfl | rfl
      · exact isNum (by (repeat rw [alloc_old (by simp only [World.size_alloc]; omega)]); exact alloc_new (by simp only)) rfl (by simp) (by simp)
      · exact isNum (by (repeat rw [alloc_old (by simp only [World.size_alloc]; omega)]); exact alloc_new (by simp only [World.size_alloc])) rfl (by simp) (by simp))) hS1.out.2).mono ?_
  rintro e v1 ⟨rfl, hv1⟩
  replace hv1 := Lib.hid hv1.unlaid.unlaid.unlaid
  clear hS1
  go_wp2_with fail
  refine (equalAll_true ⟨a3, c3, rows3⟩ ⟨some ⟨v1.heap.size + 1, 0, none⟩, 1, [⟨some ⟨v1.heap.size, 0, none⟩, 2, [0, 0]⟩]⟩ _ (hS3.out.ext ((hv1.out.alloc _).alloc _)).1
    (tbl_of (by (repeat rw [alloc_old (by simp only [World.size_alloc]; omega)]); exact alloc_new (by simp only [World.size_alloc])) rfl (by simp) (by simp) (fun r hr => by
      simp only [List.mem_cons, List.not_mem_nil, or_false] at hr
      subst hr
      exact isNum (by (repeat rw [alloc_old (by simp only [World.size_alloc]; omega)]); exact alloc_new (by simp only)) rfl (by simp) (by simp))) hS3.out.2).mono ?_
  rintro e v2 ⟨rfl, hv2⟩
  replace hv2 := Lib.hid (hv1.out.trans hv2.unlaid.unlaid)
  clear hv1 hS3
  go_wp2_with fail
  refine (equalAll_true ⟨a4, c4, rows4⟩ ⟨some ⟨v2.heap.size + 1 + 1 + 1, 0, none⟩, 3, [⟨some ⟨v2.heap.size, 0, none⟩, 1, [0]⟩, ⟨some ⟨v2.heap.size + 1, 0, none⟩, 2, [1, 2]⟩, ⟨some ⟨v2.heap.size + 1 + 1, 0, none⟩, 1, [3]⟩]⟩ _ (hS4.out.ext ((((hv2.out.alloc _).alloc _).alloc _).alloc _)).1
    (tbl_of (by (repeat rw [alloc_old (by simp only [World.size_alloc]; omega)]); exact alloc_new (by simp only [World.size_alloc])) rfl (by simp) (by simp) (fun r hr => by
      simp only [List.mem_cons, List.not_mem_nil, or_false] at hr
      rcases hr with rfl | rfl | rfl
      · exact isNum (by (repeat rw [alloc_old (by simp only [World.size_alloc]; omega)]); exact alloc_new (by simp only)) rfl (by simp) (by simp)
      · exact isNum (by (repeat rw [alloc_old (by simp only [World.size_alloc]; omega)]); exact alloc_new (by simp only [World.size_alloc])) rfl (by simp) (by simp)
      · exact isNum (by (repeat rw [alloc_old (by simp only [World.size_alloc]; omega)]); exact alloc_new (by simp only [World.size_alloc])) rfl (by simp) (by simp))) hS4.out.2).mono ?_
  rintro e v3 ⟨rfl, hv3⟩
  replace hv3 := Lib.hid (hv2.out.trans hv3.unlaid.unlaid.unlaid.unlaid)
  clear hv2 hS4
  go_wp2_with fail
  refine (equal_true ⟨a5, c5, [0, 0]⟩ ⟨some ⟨v3.heap.size, 0, none⟩, 2, [0, 0]⟩ _ (hS5.out.ext (hv3.out.alloc _)) (isNum (by (repeat rw [alloc_old (by simp only [World.size_alloc]; omega)]); exact alloc_new (by simp only)) rfl (by simp) (by simp)) rfl).mono ?_
  rintro e v4 ⟨rfl, hv4⟩
  replace hv4 := Lib.hid (hv3.out.trans hv4.unlaid)
  clear hv3 hS5
  go_wp2_with fail
  refine (equal_true ⟨a6, c6, [0]⟩ ⟨some ⟨v4.heap.size, 0, none⟩, 1, [0]⟩ _ (hS6.out.ext (hv4.out.alloc _)) (isNum (by (repeat rw [alloc_old (by simp only [World.size_alloc]; omega)]); exact alloc_new (by simp only)) rfl (by simp) (by simp)) rfl).mono ?_
  rintro e v5 ⟨rfl, hv5⟩
  replace hv5 := Lib.hid (hv4.out.trans hv5.unlaid)
  clear hv4 hS6
  have hbv : Hid (TBox v5 w1.heap.size t) := hv5.out.block hb7.out
  obtain ⟨f0, f1, f2, f3, f4⟩ := hbv.out.five
  go_wp2_with fail
  clear f0 f1 f2 f3 f4
  have HR := Yield_ok t ⟨some ⟨v5.heap.size, 0, none⟩, 2, [1, 0]⟩ (v5.alloc (.cells #[.int .i64 1, .int .i64 0] 3)) (hT7.out.ext (hv5.out.alloc _)) hK.out (isNum (by (repeat rw [alloc_old (by simp only [World.size_alloc]; omega)]); exact alloc_new (by simp only)) rfl (by simp) (by simp)) hA.out.r10
  rw [hA.out.yi] at HR
  refine HR.mono ?_
  clear HR
  rintro e v6 ⟨a7, c7, rfl, p7, hv6⟩
  have hbv6 : Hid (TBox v6 w1.heap.size t) := hv6.unlaid.block hbv.out
  replace hv6 := Lib.hid (hv5.out.trans hv6.unlaid)
  have hS7 := Lib.hid p7; clear p7 hbv hv5
  obtain ⟨f0, f1, f2, f3, f4⟩ := hbv6.out.five
  go_wp2_with fail
  clear f0 f1 f2 f3 f4
  refine (Proves_ok t ⟨some ⟨v6.heap.size, 0, none⟩, 2, [1, 0]⟩ ⟨some ⟨v6.heap.size + 1 + 1 + 1 + 1, 0, none⟩, 3, [⟨some ⟨v6.heap.size + 1, 0, none⟩, 4, [0, 3, 3, 3]⟩, ⟨some ⟨v6.heap.size + 1 + 1, 0, none⟩, 4, [1, 1, 1, 1]⟩, ⟨some ⟨v6.heap.size + 1 + 1 + 1, 0, none⟩, 4, [2, 2, 2, 1]⟩]⟩ _
    (hT7.out.ext (((((hv6.out.alloc _).alloc _).alloc _).alloc _).alloc _)) hK.out (isNum (by (repeat rw [alloc_old (by simp only [World.size_alloc]; omega)]); exact alloc_new (by simp only)) rfl (by simp) (by simp)) hA.out.r10
    (tbl_of (by (repeat rw [alloc_old (by simp only [World.size_alloc]; omega)]); exact alloc_new (by simp only [World.size_alloc])) rfl (by simp) (by simp) (fun r hr => by
      simp only [List.mem_cons, List.not_mem_nil, or_false] at hr
      rcases hr with rfl | rfl | rfl
      · exact isNum (by (repeat rw [alloc_old (by simp only [World.size_alloc]; omega)]); exact alloc_new (by simp only [World.size_alloc])) rfl (by simp) (by simp)
      · exact isNum (by (repeat rw [alloc_old (by simp only [World.size_alloc]; omega)]); exact alloc_new (by simp only [World.size_alloc])) rfl (by simp) (by simp)
      · exact isNum (by (repeat rw [alloc_old (by simp only [World.size_alloc]; omega)]); exact alloc_new (by simp only [World.size_alloc])) rfl (by simp) (by simp)))
    (by rw [hA.out.g2]; rfl) (by rw [hA.out.p4]; simp) (by simp)).mono ?_
  rintro e v7 ⟨⟨hh, m, rfl, hm⟩ | ⟨hh, rfl⟩, hv7⟩
  case inr => exact absurd (hA.out.ho _ _ _ rfl rfl rfl) hh
  rw [hA.out.g2] at hm
  obtain rfl := ev_least _ _ _ rfl m hm
  clear hm hh
  have hbv7 : Hid (TBox v7 w1.heap.size t) := hv7.unlaid.unlaid.unlaid.unlaid.unlaid.block hbv6.out
  have hE67 := Lib.hid hv7.unlaid.unlaid.unlaid.unlaid.unlaid
  replace hv7 := Lib.hid (hv6.out.trans hE67.out)
  replace hS7 := Lib.hid (hS7.out.ext hE67.out)
  clear hbv6 hv6 hE67
  have hFv := Lib.hid (hF7.out.ext hv7.out)
  have f4 : v7.cell? ⟨w1.heap.size, 4, none⟩ = some (.slice (some ⟨w.heap.size + 12, 0, none⟩) 2 t.legs.c) := by rw [hbv7.out.five.2.2.2.2, hL.out, hA.out.g2]
  have f5 : v7.cell? ⟨w.heap.size + 12, 1, none⟩ = some (.int .i64 (-1)) := (cell_at hFv.out.b12 1).trans rfl
  have f6 : v7.frozen? ⟨w.heap.size + 12, 1, none⟩ = false := by simp [World.frozen?, hFv.out.b12]
  have hb8 : Hid (TBox (v7.setCell ⟨w.heap.size + 12, 1, none⟩ (.int .i64 1)) w1.heap.size t) := heap_set_other _ _ _ _ hbv7.out (by omega)
  obtain ⟨g0, g1, g2, g3, g4⟩ := hb8.out.five
  go_wp2_with fail
  clear f4 f5 f6 g0 g1 g2 g3 g4
  have hF8 : FourAt (v7.setCell ⟨w.heap.size + 12, 1, none⟩ (.int .i64 1)) w.heap.size 1 := by
    have h := hFv.out
    refine ⟨heap_set_other _ _ _ _ h.b1 (by omega), heap_set_other _ _ _ _ h.b2 (by omega), heap_set_other _ _ _ _ h.b3 (by omega), heap_set_other _ _ _ _ h.b4 (by omega), heap_set_other _ _ _ _ h.b5 (by omega), heap_set_other _ _ _ _ h.b6 (by omega), heap_set_other _ _ _ _ h.b7 (by omega), heap_set_other _ _ _ _ h.b8 (by omega), heap_set_other _ _ _ _ h.b9 (by omega), heap_set_other _ _ _ _ h.b10 (by omega), heap_set_other _ _ _ _ h.b11 (by omega), ?_⟩
    rw [heap_setCell_same h.b12]
    rfl
  have HR := Fewest_ok (fourG w.heap.size 1) _ hF8.isT (four_ok w.heap.size 1 (.inr rfl))
  rw [← hV.out] at HR
  simp only [ev_best] at HR
  refine HR.mono ?_
  clear HR
  rintro e v8 ⟨a8, c8, rfl, p8, hv8⟩
  have hX8 := Lib.hid (((hX7.out.trans hv7.out).setCell (p := ⟨w.heap.size + 12, 1, none⟩) (Nat.le_add_right _ _) (.int .i64 1)).trans hv8)
  have hS8 := Lib.hid p8
  have hE8 := Lib.hid hv8
  have hS7' : Hid (IsSl 1 num (v7.setCell ⟨w.heap.size + 12, 1, none⟩ (.int .i64 1)) ⟨a7, c7, [0]⟩) := by
    obtain ⟨s1, s2, s3⟩ := hS7.out
    refine ⟨s1, s2, ?_⟩
    rcases s3 with s3 | ⟨b, off, ha, hc⟩
    · exact .inl s3
    · refine .inr ⟨b, off, ha, fun i hi j hj => ?_⟩
      rw [World.cell?_setCell_other]
      · exact hc i hi j hj
      · intro he
        have h1 := hc i hi j hj
        rw [← he, (cell_at hFv.out.b12 1).trans rfl] at h1
        obtain rfl : i = 0 := by simpa using hi
        simp [num] at h1
  clear p8 hv8 hF8
  go_wp2_with fail
  refine (equal_true ⟨a7, c7, [0]⟩ ⟨some ⟨v8.heap.size, 0, none⟩, 1, [0]⟩ _ (hS7'.out.ext (hE8.out.alloc _)) (isNum (by (repeat rw [alloc_old (by simp only [World.size_alloc]; omega)]); exact alloc_new (by simp only)) rfl (by simp) (by simp)) rfl).mono ?_
  rintro e v9 ⟨rfl, hv9⟩
  replace hv9 := Lib.hid hv9.unlaid
  go_wp2_with fail
  refine (equal_true ⟨a8, c8, [0, 0]⟩ ⟨some ⟨v9.heap.size, 0, none⟩, 2, [0, 0]⟩ _ (hS8.out.ext (hv9.out.alloc _)) (isNum (by (repeat rw [alloc_old (by simp only [World.size_alloc]; omega)]); exact alloc_new (by simp only)) rfl (by simp) (by simp)) rfl).mono ?_
  rintro e v10 ⟨rfl, hv10⟩
  replace hv10 := Lib.hid (hv9.out.trans hv10.unlaid)
  go_wp2
  go_ret
  exact ⟨rfl, hX8.out.trans hv10.out⟩
end Go.Proofs.YtopjjcgmcieboaaGreatDoor
