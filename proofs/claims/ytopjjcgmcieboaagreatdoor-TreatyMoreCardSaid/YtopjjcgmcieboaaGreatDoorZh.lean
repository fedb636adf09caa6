/-
  Several texts in one. The treaty of the chapter's example 1, as the statements' own file builds it. More of what holds at the treaty of example 1; EqualAll and Equal of equal lists.
  What the mathematics of the calls gives at the treaty of example 1.
  The statements' own examples hold: awake answers true, and turns nothing that was there.
  gone deals a line of a treaty: a place more than there are legs, the first one a start, in new memory; but for the deck it turns nothing that was there.
-/
import Derived.Test.YtopjjcgmcieboaaGreatDoorD
import Derived.Test.YtopjjcgmcieboaaGreatDoorDa
import Derived.Test.YtopjjcgmcieboaaGreatDoorIn
import Derived.Test.YtopjjcgmcieboaaGreatDoorIe
import Derived.Test.YtopjjcgmcieboaaGreatDoorIh
import Derived.Test.YtopjjcgmcieboaaGreatDoorIi
import Derived.Test.YtopjjcgmcieboaaGreatDoorIj
import Derived.Test.YtopjjcgmcieboaaGreatDoorIm
import Derived.Test.YtopjjcgmcieboaaGreatDoorJoa
import Derived.Deep.RegionHeld3
import Derived.Deep.CutBlock
namespace Go.Proofs.YtopjjcgmcieboaaGreatDoor
open Go.RowKit

/-- The treaty of example 1, whose twelve blocks lie behind the block n; the second leg's other word is o. -/
def fourG (n : Nat) (o : Int) : TV :=
  ⟨4, ⟨some ⟨n + 1, 0, none⟩, 4, [(0, 1, 0), (1, 2, 0), (1, 3, 1), (2, 3, 2)]⟩,
    ⟨some ⟨n + 10, 0, none⟩, 2, [⟨some ⟨n + 6, 0, none⟩, 2, [⟨⟨some ⟨n + 2, 0, none⟩, 1, [0]⟩, ⟨some ⟨n + 3, 0, none⟩, 2, [1, 2]⟩⟩, ⟨⟨some ⟨n + 4, 0, none⟩, 1, [1]⟩, ⟨some ⟨n + 5, 0, none⟩, 1, [3]⟩⟩]⟩,
      ⟨some ⟨n + 9, 0, none⟩, 1, [⟨⟨some ⟨n + 7, 0, none⟩, 2, [1, 2]⟩, ⟨some ⟨n + 8, 0, none⟩, 1, [3]⟩⟩]⟩]⟩,
    ⟨some ⟨n + 11, 0, none⟩, 1, [0]⟩, ⟨some ⟨n + 12, 0, none⟩, 2, [(0, o), (1, -1)]⟩⟩

theorem alloc_get (w : World) (o : Obj) (i : Nat) : (w.alloc o).heap[i]? = if i = w.heap.size then some o else w.heap[i]? := by
  unfold World.alloc
  simp only [Array.getElem?_push]

theorem alloc_old {w : World} {o : Obj} {i : Nat} (h : i < w.heap.size) : (w.alloc o).heap[i]? = w.heap[i]? := by
  rw [alloc_get, if_neg (by omega)]
theorem alloc_new {w : World} {o : Obj} {i : Nat} (h : i = w.heap.size) : (w.alloc o).heap[i]? = some o := by
  rw [alloc_get, if_pos h]

structure FourAt (w : World) (n : Nat) (o : Int) : Prop where
  b1 : w.heap[n + 1]? = some (.cells #[.int .i64 0, .int .i64 1, .int .i64 0, .int .i64 1, .int .i64 2, .int .i64 0, .int .i64 1, .int .i64 3, .int .i64 1, .int .i64 2, .int .i64 3, .int .i64 2] 59)
  b2 : w.heap[n + 2]? = some (.cells #[.int .i64 0] 3)
  b3 : w.heap[n + 3]? = some (.cells #[.int .i64 1, .int .i64 2] 3)
  b4 : w.heap[n + 4]? = some (.cells #[.int .i64 1] 3)
  b5 : w.heap[n + 5]? = some (.cells #[.int .i64 3] 3)
  b6 : w.heap[n + 6]? = some (.cells #[.slice (some ⟨n + 2, 0, none⟩) 1 1, .slice (some ⟨n + 3, 0, none⟩) 2 2, .slice (some ⟨n + 4, 0, none⟩) 1 1, .slice (some ⟨n + 5, 0, none⟩) 1 1] 57)
  b7 : w.heap[n + 7]? = some (.cells #[.int .i64 1, .int .i64 2] 3)
  b8 : w.heap[n + 8]? = some (.cells #[.int .i64 3] 3)
  b9 : w.heap[n + 9]? = some (.cells #[.slice (some ⟨n + 7, 0, none⟩) 2 2, .slice (some ⟨n + 8, 0, none⟩) 1 1] 57)
  b10 : w.heap[n + 10]? = some (.cells #[.slice (some ⟨n + 6, 0, none⟩) 2 2, .slice (some ⟨n + 9, 0, none⟩) 1 1] 54)
  b11 : w.heap[n + 11]? = some (.cells #[.int .i64 0] 3)
  b12 : w.heap[n + 12]? = some (.cells #[.int .i64 0, .int .i64 o, .int .i64 1, .int .i64 (-1)] 63)

theorem FourAt.ext {w w' : World} {n : Nat} {o : Int} (h : FourAt w n o) (k : Ext w w') : FourAt w' n o :=
  ⟨k.block h.b1, k.block h.b2, k.block h.b3, k.block h.b4, k.block h.b5, k.block h.b6, k.block h.b7, k.block h.b8, k.block h.b9, k.block h.b10, k.block h.b11, k.block h.b12⟩

/-- A block of cells reads as the slice that it holds. -/
theorem isSl_of_block {α : Type} {sz : Nat} {cs : α → Nat → Value} {w : World} {b c : Nat} {l : List α} {cells : Array Value} {T : TypeId} {fr : Nat × Nat} (h : w.heap[b]? = some (.cells cells T fr)) (hlc : l.length ≤ c) (hl : l.length ≤ 1000000)
    (hc : ∀ i (h : i < l.length) j, j < sz → cells[i * sz + j]? = some (cs l[i] j)) : IsSl sz cs w ⟨some ⟨b, 0, none⟩, c, l⟩ := by
  refine ⟨hlc, hl, .inr ⟨b, 0, rfl, fun i hi j hj => ?_⟩⟩
  have := cell_at h (0 + i * sz + j)
  rw [this]
  simpa using hc i hi j hj

set_option maxHeartbeats 1000000 in
theorem FourAt.isT {w : World} {n : Nat} {o : Int} (h : FourAt w n o) : IsT w (fourG n o) := by
  have m1 : IsMean w ⟨⟨some ⟨n + 2, 0, none⟩, 1, [0]⟩, ⟨some ⟨n + 3, 0, none⟩, 2, [1, 2]⟩⟩ := by
    constructor
    · exact isSl_of_block h.b2 (by simp) (by simp) (fun i hi j hj => by obtain rfl : j = 0 := (by omega); match i, hi with | 0, _ => rfl)
    · exact isSl_of_block h.b3 (by simp) (by simp) (fun i hi j hj => by obtain rfl : j = 0 := (by omega); match i, hi with | 0, _ => rfl | 1, _ => rfl)
  have m2 : IsMean w ⟨⟨some ⟨n + 4, 0, none⟩, 1, [1]⟩, ⟨some ⟨n + 5, 0, none⟩, 1, [3]⟩⟩ := by
    constructor
    · exact isSl_of_block h.b4 (by simp) (by simp) (fun i hi j hj => by obtain rfl : j = 0 := (by omega); match i, hi with | 0, _ => rfl)
    · exact isSl_of_block h.b5 (by simp) (by simp) (fun i hi j hj => by obtain rfl : j = 0 := (by omega); match i, hi with | 0, _ => rfl)
  have m3 : IsMean w ⟨⟨some ⟨n + 7, 0, none⟩, 2, [1, 2]⟩, ⟨some ⟨n + 8, 0, none⟩, 1, [3]⟩⟩ := by
    constructor
    · exact isSl_of_block h.b7 (by simp) (by simp) (fun i hi j hj => by obtain rfl : j = 0 := (by omega); match i, hi with | 0, _ => rfl | 1, _ => rfl)
    · exact isSl_of_block h.b8 (by simp) (by simp) (fun i hi j hj => by obtain rfl : j = 0 := (by omega); match i, hi with | 0, _ => rfl)
  constructor
  · refine isSl_of_block h.b1 (by simp) (by simp) (fun i hi j hj => ?_)
    match i, hi, j, hj with
    | 0, _, 0, _ => rfl | 0, _, 1, _ => rfl | 0, _, 2, _ => rfl
    | 1, _, 0, _ => rfl | 1, _, 1, _ => rfl | 1, _, 2, _ => rfl
    | 2, _, 0, _ => rfl | 2, _, 1, _ => rfl | 2, _, 2, _ => rfl
    | 3, _, 0, _ => rfl | 3, _, 1, _ => rfl | 3, _, 2, _ => rfl
  · refine isSl_of_block h.b10 (by simp) (by simp) (fun i hi j hj => ?_)
    obtain rfl : j = 0 := by omega
    match i, hi with | 0, _ => rfl | 1, _ => rfl
  · intro s hs
    simp only [fourG, List.mem_cons, List.not_mem_nil, or_false] at hs
    rcases hs with rfl | rfl
    · refine ⟨isSl_of_block h.b6 (by simp) (by simp) (fun i hi j hj => ?_), fun m hm => ?_⟩
      · match i, hi, j, hj with | 0, _, 0, _ => rfl | 0, _, 1, _ => rfl | 1, _, 0, _ => rfl | 1, _, 1, _ => rfl
      · simp only [List.mem_cons, List.not_mem_nil, or_false] at hm
        rcases hm with rfl | rfl
        · exact m1
        · exact m2
    · refine ⟨isSl_of_block h.b9 (by simp) (by simp) (fun i hi j hj => ?_), fun m hm => ?_⟩
      · match i, hi, j, hj with | 0, _, 0, _ => rfl | 0, _, 1, _ => rfl
      · simp only [List.mem_cons, List.not_mem_nil, or_false] at hm
        subst hm
        exact m3
  · exact isSl_of_block h.b11 (by simp) (by simp) (fun i hi j hj => by obtain rfl : j = 0 := (by omega); match i, hi with | 0, _ => rfl)
  · refine isSl_of_block h.b12 (by simp) (by simp) (fun i hi j hj => ?_)
    match i, hi, j, hj with | 0, _, 0, _ => rfl | 0, _, 1, _ => rfl | 1, _, 0, _ => rfl | 1, _, 1, _ => rfl

theorem four_ok (n : Nat) (o : Int) (ho : o = -1 ∨ o = 1) : OkT (fourG n o) := by
  constructor <;> simp [fourG]
  rcases ho with rfl | rfl <;> simp

set_option maxRecDepth 100000 in
set_option maxHeartbeats 1000000 in
theorem four_any (w : World) : Calls Tryz.prog 38 #[] w fun e w' => e = .returned (fourG w.heap.size (-1)).v ∧ FourAt w' w.heap.size (-1) ∧ Ext w w' ∧ w.heap.size + 13 ≤ w'.heap.size := by
  go_enter Tryz.func38, Tryz.ntmps38
  go_wp2
  refine bodyPost_ret (v := (fourG w.heap.size (-1)).v) (results_cell_row rfl _ _ w.heap.size 28 (#[.int .i64 4, .slice (some ⟨w.heap.size + 1, 0, none⟩) 4 4, .slice (some ⟨w.heap.size + 10, 0, none⟩) 2 2, .slice (some ⟨w.heap.size + 11, 0, none⟩) 1 1, .slice (some ⟨w.heap.size + 12, 0, none⟩) 2 2]) (0, 0) _ rfl ?_ Tryz.underlying28 rfl (by kernel_rfl)) rfl ?_
  · (repeat rw [alloc_old (by simp only [World.size_alloc]; omega)]); rw [alloc_new (by simp only)]
  · refine ⟨rfl, ?_, ?_, ?_⟩
    · constructor <;> ((repeat rw [alloc_old (by simp only [World.size_alloc]; omega)]); rw [alloc_new (by simp only [World.size_alloc])])
    · iterate 13 refine Ext.alloc ?_ _
      exact Ext.refl w
    · simp [World.size_alloc, Nat.add_assoc]
end Go.Proofs.YtopjjcgmcieboaaGreatDoor

namespace Go.Proofs.YtopjjcgmcieboaaGreatDoor
open Go.RowKit

theorem rd00 (n : Nat) (o : Int) : RdOk (fourG n o) [0, 0] := by
  refine ⟨rfl, fun k h h' => ?_⟩
  match k, h, h' with
  | 0, _, _ => exact Nat.zero_lt_succ 1
  | 1, _, _ => exact Nat.zero_lt_succ 0
theorem rd10 (n : Nat) (o : Int) : RdOk (fourG n o) [1, 0] := by
  refine ⟨rfl, fun k h h' => ?_⟩
  match k, h, h' with
  | 0, _, _ => exact Nat.lt_succ_self 1
  | 1, _, _ => exact Nat.zero_lt_succ 0

theorem ev_hold (n : Nat) (a b c : SL Nat) (ha : a.l = [0, 3, 3, 3]) (hb : b.l = [1, 1, 1, 1]) (hc : c.l = [2, 2, 2, 1]) :
    HoldP (fourG n (-1)) (leadsOf (fourG n (-1)) [1, 0]) [a, b, c] := by
  obtain ⟨a1, a2, a3⟩ := a
  obtain ⟨b1, b2, b3⟩ := b
  obtain ⟨c1, c2, c3⟩ := c
  dsimp only at ha hb hc
  subst ha hb hc
  refine ⟨by kernel_rfl, fun k hk f hf g hg => ?_⟩
  have hall : ((List.range 2).all fun k => (List.range 4).all fun f => (List.range 4).all fun g => Nat.ble (at2 [⟨a1, a2, [0, 3, 3, 3]⟩, ⟨b1, b2, [1, 1, 1, 1]⟩, ⟨c1, c2, [2, 2, 2, 1]⟩] (k + 1) g) (at2 [⟨a1, a2, [0, 3, 3, 3]⟩, ⟨b1, b2, [1, 1, 1, 1]⟩, ⟨c1, c2, [2, 2, 2, 1]⟩] k f + cost (leadsOf (fourG n (-1)) [1, 0] k f g))) = true := by kernel_rfl
  rw [List.all_eq_true] at hall
  have h1 := hall k (List.mem_range.2 hk)
  rw [List.all_eq_true] at h1
  have h2 := h1 f (List.mem_range.2 hf)
  rw [List.all_eq_true] at h2
  exact Nat.le_of_ble_eq_true (h2 g (List.mem_range.2 hg))
theorem ev_least (a b c : SL Nat) (hc : c.l = [2, 2, 2, 1]) (m : Nat) (h : LeastOf (([a, b, c].map (fun r => r.l))[2]?.getD []) m) : m = 1 := by
  have h' : LeastOf [2, 2, 2, 1] m := by simpa [hc] using h
  obtain ⟨h1, h2⟩ := h'
  have := h2 1 (by simp)
  simp at h1
  omega

theorem equal_true (a b : SL Nat) (w : World) (ha : IsSl 1 num w a) (hb : IsSl 1 num w b) (h : a.l = b.l) :
    Calls Tryz.prog 16 #[.slice a.a a.l.length a.c, .slice b.a b.l.length b.c] w fun e w' => e = .returned (.bool true) ∧ Ext w w' :=
  (equal_any a b w ha hb).mono fun _ _ ⟨h1, h2⟩ => ⟨by rw [h1, decide_eq_true h], h2.ext⟩
theorem equalAll_true (a b : SL (SL Nat)) (w : World) (ha : IsTbl w a) (hb : IsTbl w b) (h : a.l.map (fun r => r.l) = b.l.map (fun r => r.l)) :
    Calls Tryz.prog 39 #[.slice a.a a.l.length a.c, .slice b.a b.l.length b.c] w fun e w' => e = .returned (.bool true) ∧ Ext w w' :=
  (equalAll_any a b w ha.rows hb.rows ha.row hb.row).mono fun _ _ ⟨h1, h2⟩ => ⟨by rw [h1, decide_eq_true h], h2.ext⟩
end Go.Proofs.YtopjjcgmcieboaaGreatDoor

namespace Go.Proofs.YtopjjcgmcieboaaGreatDoor
open Go.RowKit

theorem ev_cnt (n : Nat) (o : Int) : cntR (fourG n o) = [2, 1] := by kernel_rfl
theorem ev_lines00 (n : Nat) : linesR (fourG n (-1)) (leadsOf (fourG n (-1)) [0, 0]) = [[0, 1, 3], [0, 2, 3]] := by kernel_rfl
theorem ev_lines10 (n : Nat) : linesR (fourG n (-1)) (leadsOf (fourG n (-1)) [1, 0]) = [] := by kernel_rfl
theorem ev_readings (n : Nat) : (allR (cntR (fourG n (-1)))).filter (fun r => hasB (fourG n (-1)) (leadsOf (fourG n (-1)) r)) = [[0, 0]] := by kernel_rfl
theorem ev_ends (n : Nat) : endsR (fourG n (-1)) = [[0], [1, 2], [3]] := by kernel_rfl
theorem ev_met (n : Nat) : metR (fourG n (-1)) (allR (cntR (fourG n (-1)))) 0 0 = true := by kernel_rfl
theorem ev_agrees (n : Nat) : (allR (cntR (fourG n (-1)))).find? (agB (fourG n (-1)) [0, 1, 3]) = some [0, 0] := by kernel_rfl
theorem ev_breaks (n : Nat) : brkTo (leadsOf (fourG n (-1)) [1, 0]) [0, 1, 3] 2 = [0] := by kernel_rfl
theorem ev_yield (n : Nat) : yieldL (leadsOf (fourG n (-1)) [1, 0]) 4 [0] 2 = [0] := by kernel_rfl
theorem ev_best (n : Nat) : bestR (fourG n 1) (allR (cntR (fourG n 1))) = ([0, 0], 1) := by kernel_rfl
end Go.Proofs.YtopjjcgmcieboaaGreatDoor

namespace Go.Proofs.YtopjjcgmcieboaaGreatDoor
open Go.RowKit

/-- What the six calls of the first part give. -/
structure Aw (t : TV) : Prop where
  l00 : linesR t (leadsOf t [0, 0]) = [[0, 1, 3], [0, 2, 3]]
  l10 : linesR t (leadsOf t [1, 0]) = []
  rd : (allR (cntR t)).filter (fun r => hasB t (leadsOf t r)) = [[0, 0]]
  en : endsR t = [[0], [1, 2], [3]]
  me : metR t (allR (cntR t)) 0 0 = true
  ag : (allR (cntR t)).find? (agB t [0, 1, 3]) = some [0, 0]
  br : brkTo (leadsOf t [1, 0]) [0, 1, 3] t.legs.l.length = [0]
  yi : yieldL (leadsOf t [1, 0]) t.P t.starts.l t.legs.l.length = [0]
  r00 : RdOk t [0, 0]
  r10 : RdOk t [1, 0]
  p4 : t.P = 4
  g2 : t.legs.l.length = 2
  st : t.starts.l = [0]
  ho : ∀ a b c : SL Nat, a.l = [0, 3, 3, 3] → b.l = [1, 1, 1, 1] → c.l = [2, 2, 2, 1] → HoldP t (leadsOf t [1, 0]) [a, b, c]
theorem aw_four (n : Nat) : Aw (fourG n (-1)) := ⟨ev_lines00 n, ev_lines10 n, ev_readings n, ev_ends n, ev_met n, ev_agrees n, ev_breaks n, ev_yield n, rd00 n _, rd10 n _, rfl, rfl, rfl, ev_hold n⟩

def Tb (w : World) (a : Option Addr) (c : Nat) (rows : List (SL Nat)) (l : List (List Nat)) : Prop := IsTbl w ⟨a, c, rows⟩ ∧ rows.map (fun r => r.l) = l
theorem Tb.ext {w w' : World} {a : Option Addr} {c : Nat} {rows : List (SL Nat)} {l : List (List Nat)} (h : Tb w a c rows l) (k : Ext w w') : Tb w' a c rows l := ⟨h.1.ext k, h.2⟩

theorem TBox.five {W : World} {b : Nat} {t : TV} (h : TBox W b t) : W.cell? ⟨b, 0, none⟩ = some (.int .i64 (t.P : Int)) ∧ W.cell? ⟨b, 1, none⟩ = some (.slice t.ways.a t.ways.l.length t.ways.c) ∧ W.cell? ⟨b, 2, none⟩ = some (.slice t.words.a t.words.l.length t.words.c) ∧
    W.cell? ⟨b, 3, none⟩ = some (.slice t.starts.a t.starts.l.length t.starts.c) ∧ W.cell? ⟨b, 4, none⟩ = some (.slice t.legs.a t.legs.l.length t.legs.c) :=
  ⟨(cell_at h 0).trans rfl, (cell_at h 1).trans rfl, (cell_at h 2).trans rfl, (cell_at h 3).trans rfl, (cell_at h 4).trans rfl⟩

theorem isNum {w : World} {b c : Nat} {l : List Nat} {T : TypeId} {fr : Nat × Nat} {cells : Array Value} (h : w.heap[b]? = some (.cells cells T fr)) (hc : cells = (nums l).toArray) (hlc : l.length ≤ c) (hl : l.length ≤ 1000000) : IsSl 1 num w ⟨some ⟨b, 0, none⟩, c, l⟩ := by
  subst hc
  refine isSl_of_block h hlc hl (fun i hi j hj => ?_)
  obtain rfl : j = 0 := by omega
  simp [nums, num, hi]

theorem tbl_of {w : World} {b c : Nat} {rows : List (SL Nat)} {T : TypeId} {fr : Nat × Nat} {cells : Array Value} (h : w.heap[b]? = some (.cells cells T fr)) (hc : cells = (rows.map fun r => r.v).toArray) (hlc : rows.length ≤ c) (hl : rows.length ≤ 1000000) (hr : ∀ r ∈ rows, IsSl 1 num w r) :
    IsTbl w ⟨some ⟨b, 0, none⟩, c, rows⟩ := by
  subst hc
  refine ⟨isSl_of_block h hlc hl (fun i hi j hj => ?_), hr⟩
  obtain rfl : j = 0 := by omega
  simp [slC, hi]

set_option maxRecDepth 100000 in
set_option maxHeartbeats 2000000 in
theorem awake_ok (w : World) : Calls Tryz.prog 10 #[] w fun e w' => e = .returned (.bool true) ∧ Ext w w' := by
  go_enter Tryz.func10, Tryz.ntmps10
  go_wp2_with fail
  refine (four_any w).mono ?_
  rintro e w1 ⟨rfl, hF, hx1, hs1⟩
  have hT1 := Lib.hid hF.isT
  have hF1 := Lib.hid hF; clear hF
  have hX1 := Lib.hid hx1; clear hx1
  have hK := Lib.hid (four_ok w.heap.size (-1) (.inl rfl))
  have hA := Lib.hid (aw_four w.heap.size)
  have hL := Lib.hid (show (fourG w.heap.size (-1)).legs.a = some ⟨w.heap.size + 12, 0, none⟩ from rfl)
  have hV := Lib.hid (show (fourG w.heap.size (-1)).v = (fourG w.heap.size 1).v from rfl)
  generalize fourG w.heap.size (-1) = t at *
  go_wp2_with fail
  refine (Lines_ok t ⟨some ⟨w1.heap.size + 1, 0, none⟩, 2, [0, 0]⟩ _ (hT1.out.ext (((Ext.refl w1).alloc _).alloc _)) hK.out (isNum (alloc_new (by simp only [World.size_alloc])) rfl (by simp) (by simp)) hA.out.r00 (by rw [hA.out.l00]; simp)).mono ?_
  rintro e w2 ⟨a1, c1, rows1, rfl, p1, q1, r1, hx2⟩
  have hb2 : Hid (TBox w2 w1.heap.size t) := hx2.unlaid.laid
  have hE2 := Lib.hid hx2.unlaid.unlaid; clear hx2
  have hS1 := Lib.hid (show Tb w2 a1 c1 rows1 _ from ⟨⟨p1, q1⟩, r1.trans hA.out.l00⟩); clear p1 q1 r1
  obtain ⟨f0, f1, f2, f3, f4⟩ := hb2.out.five
  go_wp2_with fail
  clear f0 f1 f2 f3 f4
  refine (Lines_ok t ⟨some ⟨w2.heap.size, 0, none⟩, 2, [1, 0]⟩ _ (hT1.out.ext (hE2.out.alloc _)) hK.out (isNum (alloc_new rfl) rfl (by simp) (by simp)) hA.out.r10 (by rw [hA.out.l10]; simp)).mono ?_
  rintro e w3 ⟨a2, c2, rows2, rfl, p2, q2, r2, hx3⟩
  have hb3 : Hid (TBox w3 w1.heap.size t) := hx3.unlaid.block hb2.out; clear hb2
  have hE3 := Lib.hid hx3.unlaid; clear hx3
  obtain rfl : rows2 = [] := by rw [hA.out.l10] at r2; simpa using r2
  clear p2 q2 r2
  obtain ⟨f0, f1, f2, f3, f4⟩ := hb3.out.five
  go_wp2_with fail
  clear f0 f1 f2 f3 f4
  have HR := Readings_ok t w3 (hT1.out.ext (hE2.out.trans hE3.out)) hK.out
  rw [hA.out.rd] at HR
  refine HR.mono ?_
  clear HR
  rintro e w4 ⟨a3, c3, rows3, rfl, p3, q3, r3, hx4⟩
  have hb4 : Hid (TBox w4 w1.heap.size t) := hx4.block hb3.out; clear hb3
  have hE4 := Lib.hid hx4; clear hx4
  have hS3 := Lib.hid (show Tb w4 a3 c3 rows3 _ from ⟨⟨p3, q3⟩, r3⟩); clear p3 q3 r3
  obtain ⟨f0, f1, f2, f3, f4⟩ := hb4.out.five
  go_wp2_with fail
  clear f0 f1 f2 f3 f4
  have HR := Ends_ok t w4 (hT1.out.ext (hE2.out.trans (hE3.out.trans hE4.out))) hK.out ⟨0, by omega, hA.out.me⟩
  rw [hA.out.en] at HR
  refine HR.mono ?_
  clear HR
  rintro e w5 ⟨a4, c4, rows4, rfl, p4, q4, r4, hx5⟩
  have hb5 : Hid (TBox w5 w1.heap.size t) := hx5.block hb4.out; clear hb4
  have hE5 := Lib.hid hx5; clear hx5
  have hS4 := Lib.hid (show Tb w5 a4 c4 rows4 _ from ⟨⟨p4, q4⟩, r4⟩); clear p4 q4 r4
  obtain ⟨f0, f1, f2, f3, f4⟩ := hb5.out.five
  go_wp2_with fail
  clear f0 f1 f2 f3 f4
  refine (Agrees_ok t ⟨some ⟨w5.heap.size, 0, none⟩, 3, [0, 1, 3]⟩ _ [0, 0] (hT1.out.ext ((hE2.out.trans (hE3.out.trans (hE4.out.trans hE5.out))).alloc _)) hK.out (isNum (alloc_new rfl) rfl (by simp) (by simp)) (by rw [hA.out.g2]; rfl) (by rw [hA.out.p4]; simp) (by rw [hA.out.st]; simp) hA.out.ag).mono ?_
  rintro e w6 ⟨a5, c5, rfl, p5, hx6⟩
  have hb6 : Hid (TBox w6 w1.heap.size t) := hx6.unlaid.block hb5.out; clear hb5
  have hE6 := Lib.hid hx6.unlaid; clear hx6
  have hS5 := Lib.hid p5; clear p5
  obtain ⟨f0, f1, f2, f3, f4⟩ := hb6.out.five
  go_wp2_with fail
  clear f0 f1 f2 f3 f4
  have HR := Breaks_ok t ⟨some ⟨w6.heap.size, 0, none⟩, 2, [1, 0]⟩ ⟨some ⟨w6.heap.size + 1, 0, none⟩, 3, [0, 1, 3]⟩ ((w6.alloc (.cells #[.int .i64 1, .int .i64 0] 3)).alloc (.cells #[.int .i64 0, .int .i64 1, .int .i64 3] 3)) (hT1.out.ext (((hE2.out.trans (hE3.out.trans (hE4.out.trans (hE5.out.trans hE6.out)))).alloc _).alloc _)) hK.out
    (isNum ((alloc_old (by simp only [World.size_alloc]; omega)).trans (alloc_new rfl)) rfl (by simp) (by simp)) hA.out.r10 (isNum (alloc_new (by simp only [World.size_alloc])) rfl (by simp) (by simp)) (by rw [hA.out.g2]; rfl) (by rw [hA.out.p4]; simp) (by rw [hA.out.st]; simp)
  rw [hA.out.br] at HR
  refine HR.mono ?_
  clear HR
  rintro e w7 ⟨a6, c6, rfl, p6, hx7⟩
  have hb7 : Hid (TBox w7 w1.heap.size t) := hx7.unlaid.unlaid.block hb6.out; clear hb6
  have hE7 := Lib.hid hx7.unlaid.unlaid; clear hx7
  have hS6 := Lib.hid p6; clear p6
  have hE37 := hE3.out.trans (hE4.out.trans (hE5.out.trans (hE6.out.trans hE7.out)))
  have hT7 := Lib.hid (hT1.out.ext (hE2.out.trans hE37))
  have hF7 := Lib.hid (hF1.out.ext (hE2.out.trans hE37))
  have hX7 := Lib.hid (hX1.out.trans (hE2.out.trans hE37))
  have hZ7 := Lib.hid (show Ext w1 w7 from hE2.out.trans hE37)
  replace hS1 := Lib.hid (hS1.out.ext hE37)
  replace hS3 := Lib.hid (hS3.out.ext (hE5.out.trans (hE6.out.trans hE7.out)))
  replace hS4 := Lib.hid (hS4.out.ext (hE6.out.trans hE7.out))
  replace hS5 := Lib.hid (hS5.out.ext hE7.out)
  clear hE37 hE2 hE3 hE4 hE5 hE6 hE7 hT1 hF1 hX1
  go_wp2_with fail
  refine (equalAll_true ⟨a1, c1, rows1⟩ ⟨some ⟨w7.heap.size + 1 + 1, 0, none⟩, 2, [⟨some ⟨w7.heap.size, 0, none⟩, 3, [0, 1, 3]⟩, ⟨some ⟨w7.heap.size + 1, 0, none⟩, 3, [0, 2, 3]⟩]⟩ _ (hS1.out.ext ((((Ext.refl w7).alloc _).alloc _).alloc _)).1
    (tbl_of (by (repeat rw [alloc_old (by simp only [World.size_alloc]; omega)]); exact alloc_new (by simp only [World.size_alloc])) rfl (by simp) (by simp) (fun r hr => by
      simp only [List.mem_cons, List.not_mem_nil, or_false] at hr
      rcases hr with rfl | rfl
      · exact isNum (by (repeat rw [alloc_old (by simp only [World.size_alloc]; omega)]); exact alloc_new (by simp only)) rfl (by simp) (by simp)
      · exact isNum (by (repeat rw [alloc_old (by simp only [World.size_alloc]; omega)]); exact alloc_new (by simp only [World.size_alloc])) rfl (by simp) (by simp))) hS1.out.2).mono ?_
  rintro e v1 ⟨rfl, hv1⟩
  replace hv1 := Lib.hid hv1.unlaid.unlaid.unlaid
  clear hS1
  go_wp2_with fail
  refine (equalAll_true ⟨a3, c3, rows3⟩ ⟨some ⟨v1.heap.size + 1, 0, none⟩, 1, [⟨some ⟨v1.heap.size, 0, none⟩, 2, [0, 0]⟩]⟩ _ (hS3.out.ext ((hv1.out.alloc _).alloc _)).1
    (tbl_of (by (repeat rw [alloc_old (by simp only [World.size_alloc]; omega)]); exact alloc_new (by simp only [World.size_alloc])) rfl (by simp) (by simp) (fun r hr => by
      simp only [List.mem_cons, List.not_mem_nil, or_false] at hr
      subst hr
      exact isNum (by (repeat rw [alloc_old (by simp only [World.size_alloc]; omega)]); exact alloc_new (by simp only)) rfl (by simp) (by simp))) hS3.out.2).mono ?_
  rintro e v2 ⟨rfl, hv2⟩
  replace hv2 := Lib.hid (hv1.out.trans hv2.unlaid.unlaid)
  clear hv1 hS3
  go_wp2_with fail
  refine (equalAll_true ⟨a4, c4, rows4⟩ ⟨some ⟨v2.heap.size + 1 + 1 + 1, 0, none⟩, 3, [⟨some ⟨v2.heap.size, 0, none⟩, 1, [0]⟩, ⟨some ⟨v2.heap.size + 1, 0, none⟩, 2, [1, 2]⟩, ⟨some ⟨v2.heap.size + 1 + 1, 0, none⟩, 1, [3]⟩]⟩ _ (hS4.out.ext ((((hv2.out.alloc _).alloc _).alloc _).alloc _)).1
    (tbl_of (by (repeat rw [alloc_old (by simp only [World.size_alloc]; omega)]); exact alloc_new (by simp only [World.size_alloc])) rfl (by simp) (by simp) (fun r hr => by
      simp only [List.mem_cons, List.not_mem_nil, or_false] at hr
      rcases hr with rfl | rfl | rfl
      · exact isNum (by (repeat rw [alloc_old (by simp only [World.size_alloc]; omega)]); exact alloc_new (by simp only)) rfl (by simp) (by simp)
      · exact isNum (by (repeat rw [alloc_old (by simp only [World.size_alloc]; omega)]); exact alloc_new (by simp only [World.size_alloc])) rfl (by simp) (by simp)
      · exact isNum (by (repeat rw [alloc_old (by simp only [World.size_alloc]; omega)]); exact alloc_new (by simp only [World.size_alloc])) rfl (by simp) (by simp))) hS4.out.2).mono ?_
  rintro e v3 ⟨rfl, hv3⟩
  replace hv3 := Lib.hid (hv2.out.trans hv3.unlaid.unlaid.unlaid.unlaid)
  clear hv2 hS4
  go_wp2_with fail
  refine (equal_true ⟨a5, c5, [0, 0]⟩ ⟨some ⟨v3.heap.size, 0, none⟩, 2, [0, 0]⟩ _ (hS5.out.ext (hv3.out.alloc _)) (isNum (by (repeat rw [alloc_old (by simp only [World.size_alloc]; omega)]); exact alloc_new (by simp only)) rfl (by simp) (by simp)) rfl).mono ?_
  rintro e v4 ⟨rfl, hv4⟩
  replace hv4 := Lib.hid (hv3.out.trans hv4.unlaid)
  clear hv3 hS5
  go_wp2_with fail
  refine (equal_true ⟨a6, c6, [0]⟩ ⟨some ⟨v4.heap.size, 0, none⟩, 1, [0]⟩ _ (hS6.out.ext (hv4.out.alloc _)) (isNum (by (repeat rw [alloc_old (by simp only [World.size_alloc]; omega)]); exact alloc_new (by simp only)) rfl (by simp) (by simp)) rfl).mono ?_
  rintro e v5 ⟨rfl, hv5⟩
  replace hv5 := Lib.hid (hv4.out.trans hv5.unlaid)
  clear hv4 hS6
  have hbv : Hid (TBox v5 w1.heap.size t) := hv5.out.block hb7.out
  obtain ⟨f0, f1, f2, f3, f4⟩ := hbv.out.five
  go_wp2_with fail
  clear f0 f1 f2 f3 f4
  have HR := Yield_ok t ⟨some ⟨v5.heap.size, 0, none⟩, 2, [1, 0]⟩ (v5.alloc (.cells #[.int .i64 1, .int .i64 0] 3)) (hT7.out.ext (hv5.out.alloc _)) hK.out (isNum (by (repeat rw [alloc_old (by simp only [World.size_alloc]; omega)]); exact alloc_new (by simp only)) rfl (by simp) (by simp)) hA.out.r10
  rw [hA.out.yi] at HR
  refine HR.mono ?_
  clear HR
  rintro e v6 ⟨a7, c7, rfl, p7, hv6⟩
  have hbv6 : Hid (TBox v6 w1.heap.size t) := hv6.unlaid.block hbv.out
  replace hv6 := Lib.hid (hv5.out.trans hv6.unlaid)
  have hS7 := Lib.hid p7; clear p7 hbv hv5
  obtain ⟨f0, f1, f2, f3, f4⟩ := hbv6.out.five
  go_wp2_with fail
  clear f0 f1 f2 f3 f4
  refine (Proves_ok t ⟨some ⟨v6.heap.size, 0, none⟩, 2, [1, 0]⟩ ⟨some ⟨v6.heap.size + 1 + 1 + 1 + 1, 0, none⟩, 3, [⟨some ⟨v6.heap.size + 1, 0, none⟩, 4, [0, 3, 3, 3]⟩, ⟨some ⟨v6.heap.size + 1 + 1, 0, none⟩, 4, [1, 1, 1, 1]⟩, ⟨some ⟨v6.heap.size + 1 + 1 + 1, 0, none⟩, 4, [2, 2, 2, 1]⟩]⟩ _
    (hT7.out.ext (((((hv6.out.alloc _).alloc _).alloc _).alloc _).alloc _)) hK.out (isNum (by (repeat rw [alloc_old (by simp only [World.size_alloc]; omega)]); exact alloc_new (by simp only)) rfl (by simp) (by simp)) hA.out.r10
    (tbl_of (by (repeat rw [alloc_old (by simp only [World.size_alloc]; omega)]); exact alloc_new (by simp only [World.size_alloc])) rfl (by simp) (by simp) (fun r hr => by
      simp only [List.mem_cons, List.not_mem_nil, or_false] at hr
      rcases hr with rfl | rfl | rfl
      · exact isNum (by (repeat rw [alloc_old (by simp only [World.size_alloc]; omega)]); exact alloc_new (by simp only [World.size_alloc])) rfl (by simp) (by simp)
      · exact isNum (by (repeat rw [alloc_old (by simp only [World.size_alloc]; omega)]); exact alloc_new (by simp only [World.size_alloc])) rfl (by simp) (by simp)
      · exact isNum (by (repeat rw [alloc_old (by simp only [World.size_alloc]; omega)]); exact alloc_new (by simp only [World.size_alloc])) rfl (by simp) (by simp)))
    (by rw [hA.out.g2]; rfl) (by rw [hA.out.p4]; simp) (by simp)).mono ?_
  rintro e v7 ⟨⟨hh, m, rfl, hm⟩ | ⟨hh, rfl⟩, hv7⟩
  case inr => exact absurd (hA.out.ho _ _ _ rfl rfl rfl) hh
  rw [hA.out.g2] at hm
  obtain rfl := ev_least _ _ _ rfl m hm
  clear hm hh
  have hbv7 : Hid (TBox v7 w1.heap.size t) := hv7.unlaid.unlaid.unlaid.unlaid.unlaid.block hbv6.out
  have hE67 := Lib.hid hv7.unlaid.unlaid.unlaid.unlaid.unlaid
  replace hv7 := Lib.hid (hv6.out.trans hE67.out)
  replace hS7 := Lib.hid (hS7.out.ext hE67.out)
  clear hbv6 hv6 hE67
  have hFv := Lib.hid (hF7.out.ext hv7.out)
  have f4 : v7.cell? ⟨w1.heap.size, 4, none⟩ = some (.slice (some ⟨w.heap.size + 12, 0, none⟩) 2 t.legs.c) := by rw [hbv7.out.five.2.2.2.2, hL.out, hA.out.g2]
  have f5 : v7.cell? ⟨w.heap.size + 12, 1, none⟩ = some (.int .i64 (-1)) := (cell_at hFv.out.b12 1).trans rfl
  have f6 : v7.frozen? ⟨w.heap.size + 12, 1, none⟩ = false := by simp [World.frozen?, hFv.out.b12]
  have hb8 : Hid (TBox (v7.setCell ⟨w.heap.size + 12, 1, none⟩ (.int .i64 1)) w1.heap.size t) := heap_set_other _ _ _ _ hbv7.out (by omega)
  obtain ⟨g0, g1, g2, g3, g4⟩ := hb8.out.five
  go_wp2_with fail
  clear f4 f5 f6 g0 g1 g2 g3 g4
  have hF8 : FourAt (v7.setCell ⟨w.heap.size + 12, 1, none⟩ (.int .i64 1)) w.heap.size 1 := by
    have h := hFv.out
    refine ⟨heap_set_other _ _ _ _ h.b1 (by omega), heap_set_other _ _ _ _ h.b2 (by omega), heap_set_other _ _ _ _ h.b3 (by omega), heap_set_other _ _ _ _ h.b4 (by omega), heap_set_other _ _ _ _ h.b5 (by omega), heap_set_other _ _ _ _ h.b6 (by omega), heap_set_other _ _ _ _ h.b7 (by omega), heap_set_other _ _ _ _ h.b8 (by omega), heap_set_other _ _ _ _ h.b9 (by omega), heap_set_other _ _ _ _ h.b10 (by omega), heap_set_other _ _ _ _ h.b11 (by omega), ?_⟩
    rw [heap_setCell_same h.b12]
    rfl
  have HR := Fewest_ok (fourG w.heap.size 1) _ hF8.isT (four_ok w.heap.size 1 (.inr rfl))
  rw [← hV.out] at HR
  simp only [ev_best] at HR
  refine HR.mono ?_
  clear HR
  rintro e v8 ⟨a8, c8, rfl, p8, hv8⟩
  have hX8 := Lib.hid (((hX7.out.trans hv7.out).setCell (p := ⟨w.heap.size + 12, 1, none⟩) (Nat.le_add_right _ _) (.int .i64 1)).trans hv8)
  have hS8 := Lib.hid p8
  have hE8 := Lib.hid hv8
  have hS7' : Hid (IsSl 1 num (v7.setCell ⟨w.heap.size + 12, 1, none⟩ (.int .i64 1)) ⟨a7, c7, [0]⟩) := by
    obtain ⟨s1, s2, s3⟩ := hS7.out
    refine ⟨s1, s2, ?_⟩
    rcases s3 with s3 | ⟨b, off, ha, hc⟩
    · exact .inl s3
    · refine .inr ⟨b, off, ha, fun i hi j hj => ?_⟩
      rw [World.cell?_setCell_other]
      · exact hc i hi j hj
      · intro he
        have h1 := hc i hi j hj
        rw [← he, (cell_at hFv.out.b12 1).trans rfl] at h1
        obtain rfl : i = 0 := by simpa using hi
        simp [num] at h1
  clear p8 hv8 hF8
  go_wp2_with fail
  refine (equal_true ⟨a7, c7, [0]⟩ ⟨some ⟨v8.heap.size, 0, none⟩, 1, [0]⟩ _ (hS7'.out.ext (hE8.out.alloc _)) (isNum (by (repeat rw [alloc_old (by simp only [World.size_alloc]; omega)]); exact alloc_new (by simp only)) rfl (by simp) (by simp)) rfl).mono ?_
  rintro e v9 ⟨rfl, hv9⟩
  replace hv9 := Lib.hid hv9.unlaid
  go_wp2_with fail
  refine (equal_true ⟨a8, c8, [0, 0]⟩ ⟨some ⟨v9.heap.size, 0, none⟩, 2, [0, 0]⟩ _ (hS8.out.ext (hv9.out.alloc _)) (isNum (by (repeat rw [alloc_old (by simp only [World.size_alloc]; omega)]); exact alloc_new (by simp only)) rfl (by simp) (by simp)) rfl).mono ?_
  rintro e v10 ⟨rfl, hv10⟩
  replace hv10 := Lib.hid (hv9.out.trans hv10.unlaid)
  go_wp2
  go_ret
  exact ⟨rfl, hX8.out.trans hv10.out⟩
end Go.Proofs.YtopjjcgmcieboaaGreatDoor

namespace Go.Proofs.YtopjjcgmcieboaaGreatDoor
open Go.RowKit

/-- A line was dealt. -/
def GoneOf (D : Nat) (a : Option Addr) (n c k : Nat) (t : TV) (w : World) (e : Ending) (w' : World) : Prop :=
  ∃ (a' : Option Addr) (c' : Nat) (l : List Nat) (k' : Nat), e = .returned (.slice a' l.length c') ∧ w'.ownsRow w.heap.size 3 1 (.slice a' l.length c') l.length (nums l) ∧ l.length = t.legs.l.length + 1 ∧ (∀ x ∈ l, x < t.P) ∧ (l[0]?).getD 0 ∈ t.starts.l ∧ IsDeck w' D a n c k' ∧ k' ≤ k + 11 ∧ DExt D w w'

theorem row_new (w : World) (x : Nat) : Row (w.alloc (.cells #[.int .i64 (x : Int)] 3)) w.heap.size [x] 1 :=
  ⟨_, World.alloc_heap_new w _, rfl, by simp, fun i hi => by simp at hi; subst hi; rfl⟩

theorem own_base {w : World} {base base' : Nat} {e : TypeId} {size : Nat} {v : Value} {n : Nat} {xs : List Value} (h : w.ownsRow base e size v n xs) (hb : base' ≤ base) : w.ownsRow base' e size v n xs := by
  obtain ⟨h1, h2⟩ := h
  rcases h2 with h2 | ⟨g, cap, cur, h2, h3, h4⟩
  · exact ⟨h1, .inl h2⟩
  · exact ⟨h1, .inr ⟨g, cap, cur, h2, Nat.le_trans hb h3, h4⟩⟩

set_option maxRecDepth 100000 in
set_option maxHeartbeats 1000000 in
theorem gone_any (D : Nat) (a : Option Addr) (n c k : Nat) (t : TV) (w : World) (hd : IsDeck w D a n c k) (hb : ∀ b off, a = some ⟨b, off, none⟩ → 0 < n → b < w.heap.size) (hk : k + 11 ≤ 1000000) (ht : IsTo D w t) (hok : OkT t) :
    Calls Tryz.prog 17 #[.pointer (some ⟨D, 0, none⟩), t.v] w (GoneOf D a n c k t w) := by
  obtain ⟨i0, hi, hz0, hz1, hz2⟩ := info_parts info3
  have hDl := hd.lt
  have HD : Hid (IsDeck (w.alloc (.cells #[.int .i64 (t.P : Int), .slice t.ways.a t.ways.l.length t.ways.c, .slice t.words.a t.words.l.length t.words.c, .slice t.starts.a t.starts.l.length t.starts.c, .slice t.legs.a t.legs.l.length t.legs.c] 28)) D a n c k) := hd.ext ((Ext.refl w).alloc _)
  clear hd
  have HB := Lib.hid hb; clear hb
  have HT := Lib.hid ht; clear ht
  have HK := Lib.hid hok; clear hok
  have hp1 := HK.out.p1
  have hp2 := HK.out.p2
  have hst1 := HK.out.starts1
  have hst2 := HK.out.starts2
  have hl10 := HK.out.legs
  have HX0 : Hid (DExt D w (w.alloc (.cells #[.int .i64 (t.P : Int), .slice t.ways.a t.ways.l.length t.ways.c, .slice t.words.a t.words.l.length t.words.c, .slice t.starts.a t.starts.l.length t.starts.c, .slice t.legs.a t.legs.l.length t.legs.c] 28))) := (DExt.refl D w).ext ((Ext.refl w).alloc _)
  have HBx : Hid (TBox (w.alloc (.cells #[.int .i64 (t.P : Int), .slice t.ways.a t.ways.l.length t.ways.c, .slice t.words.a t.words.l.length t.words.c, .slice t.starts.a t.starts.l.length t.starts.c, .slice t.legs.a t.legs.l.length t.legs.c] 28)) w.heap.size t) := World.alloc_heap_new w _
  go_enter Tryz.func17, Tryz.ntmps17
  go_upto_region 1 with (fail)
  obtain ⟨WB, hWB⟩ : ∃ W, w.alloc (.cells #[.int .i64 (t.P : Int), .slice t.ways.a t.ways.l.length t.ways.c, .slice t.words.a t.words.l.length t.words.c, .slice t.starts.a t.starts.l.length t.starts.c, .slice t.legs.a t.legs.l.length t.legs.c] 28) = W := ⟨_, rfl⟩
  rw [hWB] at HX0 HBx HD ⊢
  clear hWB
  have hWs : w.heap.size < WB.heap.size := (Array.getElem?_eq_some_iff.1 HBx.out).1
  have KB : Hid (∀ V', DExt D WB V' → TBox V' w.heap.size t) := fun V' h => (h.block w.heap.size hWs (fun e => by cases e; omega)).trans HBx.out
  obtain ⟨b, off, hsa, -⟩ := (HT.out w (DExt.refl D w)).starts.2.2.resolve_left (by omega)
  obtain ⟨sf, hsf⟩ : ∃ sf : Nat → Nat, ∀ i (h : i < t.starts.l.length), t.starts.l[i] = sf i := ⟨fun i => (t.starts.l[i]?).getD 0, fun i h => by simp [h]⟩
  have HSF := Lib.hid hsf; clear hsf
  have KS : Hid (∀ V', DExt D WB V' → V'.cell? ⟨w.heap.size, 3, none⟩ = some (.slice (some ⟨b, off, none⟩) t.starts.l.length t.starts.c) ∧ ∀ i, i < t.starts.l.length → V'.cell? ⟨b, off + i, none⟩ = some (.int .i64 (sf i : Int))) := by
    intro V' h
    obtain ⟨-, -, -, cS, -⟩ := (KB.out V' h).five
    rw [hsa] at cS
    refine ⟨cS, fun i hi => ?_⟩
    obtain ⟨b2, off2, hsa2, hsc⟩ := (HT.out V' (HX0.out.trans h)).starts.2.2.resolve_left (by omega)
    rw [hsa] at hsa2
    cases hsa2
    have := hsc i hi 0 (by omega)
    rw [← HSF.out i hi]; simpa [num] using this
  have HSA := Lib.hid hsa; clear hsa
  have HXd : Hid (DExt D WB WB.drew) := (DExt.refl D WB).drew'
  go_region_held3 (fun V' => V'.cell? ⟨w.heap.size, 3, none⟩ = some (.slice (some ⟨b, off, none⟩) t.starts.l.length t.starts.c) ∧ ∀ i, i < t.starts.l.length → V'.cell? ⟨b, off + i, none⟩ = some (.int .i64 (sf i : Int)))
    (first | exact KS.out _ HXd.out | exact KS.out _ (DExt.refl _ _) | exact KS.out _ HX1.out | exact KS.out _ (HX1.out.ext ((Ext.refl _).alloc _)))
    (first
      | (go_at_call 26; refine (draw_any D a n c k t.starts.l.length _ (HD.out.ext (Ext.refl WB).drew) (by omega) (by omega)).mono ?_; rintro e v1 ⟨y, k1, hy, hk1, rfl, hd1, hg1⟩; have hyS : y < t.starts.l.length := (by omega); have HX1 : Hid (DExt D WB v1) := HXd.out.trans hg1; have HD1 := Lib.hid hd1; have hsm : sf y ∈ t.starts.l := HSF.out y hyS ▸ List.getElem_mem hyS; have hsP : sf y < t.P := HK.out.start.1 (sf y) hsm; have HSM := Lib.hid hsm; have y0 : (0 : Int) ≤ (y : Int) := (by omega); have y1 : (y : Int) < (t.starts.l.length : Int) := (by omega); clear hy hd1 hg1 hsm))
  have HO1 : Hid ((v1.alloc (.cells #[.int .i64 (sf y : Int)] 3)).ownsRow WB.heap.size 3 1 (.slice (some ⟨v1.heap.size, 0, none⟩) [sf y].length 1) [sf y].length (nums [sf y])) := (row_new v1 (sf y)).own HX1.out.size (by unfold maxLen; omega)
  have HX2 : Hid (DExt D WB (v1.alloc (.cells #[.int .i64 (sf y : Int)] 3))) := HX1.out.ext ((Ext.refl _).alloc _)
  have HD2 : Hid (IsDeck (v1.alloc (.cells #[.int .i64 (sf y : Int)] 3)) D a n c k1) := HD1.out.ext ((Ext.refl _).alloc _)
  have HF : Hid (([sf y][0]?).getD 0 ∈ t.starts.l) := HSM.out
  have HP : Hid (∀ x ∈ [sf y], x < t.P) := by intro x hx; simp at hx; rw [hx]; exact hsP
  have HL1 : Hid ([sf y].length = 0 + 1) := rfl
  generalize v1.alloc (.cells #[.int .i64 (sf y : Int)] 3) = w2 at *
  generalize v1.heap.size = g1 at *
  have e1 : ([sf y]).length = 1 := rfl
  generalize hls : [sf y] = l1 at *
  clear hls
  have hcap : Hid (w2.ownsRow WB.heap.size 3 1 (.slice (some ⟨g1, 0, none⟩) l1.length l1.length) l1.length (nums l1)) := by have := HO1.out; rw [e1] at this ⊢; exact this
  clear HO1
  rw [show (1 : Nat) = l1.length from e1.symm]
  clear e1
  obtain ⟨-, -, -, -, c4⟩ := (KB.out w2 HX2.out).five
  go_wp2_with fail
  clear c4
  go_loopw [5, 19] (fun v i wr => ∃ (j : Nat) (a' : Option Addr) (c' : Nat) (l : List Nat) (k' : Nat), j ≤ t.legs.l.length ∧ i = .int .i64 j ∧ v = .slice a' l.length c' ∧ Hid (wr.ownsRow WB.heap.size 3 1 (.slice a' l.length c') l.length (nums l)) ∧ Hid (l.length = j + 1) ∧ Hid (∀ x ∈ l, x < t.P) ∧ Hid ((l[0]?).getD 0 ∈ t.starts.l) ∧ Hid (IsDeck wr D a n c k') ∧ k' ≤ k + 1 + j ∧ Hid (DExt D WB wr)) (fun _ i _ => t.legs.l.length - (intOf i).toNat)
  case atStart => exact ⟨0, _, _, l1, k1, Nat.zero_le _, rfl, rfl, hcap, HL1, HP, HF, HD2, by omega, HX2⟩
  case round =>
    obtain ⟨wo, rfl⟩ : ∃ wo : World, wo = wr := ⟨_, rfl⟩
    obtain ⟨j, a', c', l, k', hj, rfl, rfl, HO, HLL, HL, HF1, HDk, hk', HX⟩ := hrel
    by_cases hlt : j < t.legs.l.length
    · have dj : decide ((j : Int) < (t.legs.l.length : Int)) = true := by simpa using hlt
      obtain ⟨c0, -, -, -, -⟩ := (KB.out wo HX.out).five
      go_wp2_with fail
      refine (draw_any D a n c k' t.P wo HDk.out (by omega) (by omega)).mono ?_
      rintro e w1 ⟨r, k2, hr, hk2, rfl, hd1, hg1⟩
      have hrP : r < t.P := by omega
      clear hr
      have HD3 := Lib.hid hd1; clear hd1
      have HX3 : Hid (DExt D WB w1) := HX.out.trans hg1
      have HO3 : Hid (w1.ownsRow WB.heap.size 3 1 (.slice a' l.length c') l.length (nums l)) := HO.out.kept hg1 (by
        cases hv : (Value.slice a' l.length c').ownBlock with
        | none => exact .inl rfl
        | some q => exact .inr (fun e => by cases e; have := own_lt HO.out _ hv; omega))
      clear hg1 c0
      have hnw := new_cells w1 (nums [r]) 3
      have HN := Lib.hid hnw; clear hnw
      have hb6 : WB.heap.size ≤ w1.heap.size + 1 := by have := HX3.out.size; omega
      have hl6 : l.length ≤ 10 := by have := HLL.out; omega
      have hm6 : l.length + 1 ≤ maxLen := by have := HLL.out; unfold maxLen; omega
      go_wp2_with (at_builtin; go_must (refine wpList_append_own _ rfl _ _ 25 rfl WB.heap.size 3 i0 (.int .i64 0) 1 8 Tryz.underlying25 hi hz0 hz1 hz2 rfl (by decide) _ l.length (nums l) rfl (HO3.out.alloc _) ⟨w1.heap.size, 0, none⟩ 1 1 (nums [r]) rfl rfl HN.out (nums_one [r]) hm6 (by omega) (by have := HLL.out; simp; omega) ?_); intro v' w3 hown hgrow _)
      obtain ⟨a3, c3, rfl⟩ := own_form hown
      have hx3 : DExt D WB w3 := (HX3.out.ext ((Ext.refl w1).alloc _)).grown hgrow (fun i hi => own_lt HO3.out i hi)
      have hd3 : IsDeck w3 D a n c k2 := (HD3.out.ext ((Ext.refl w1).alloc _)).grown hgrow (base := WB.heap.size) (fun i hi => own_lt HO3.out i hi) (by omega) (fun b off h1 h2 => Nat.lt_trans (HB.out b off h1 h2) hWs)
      have HX4 := Lib.hid hx3; clear hx3 hgrow
      have HD4 := Lib.hid hd3; clear hd3
      rw [← nums_append, show l.length + 1 = (l ++ [r]).length by simp] at hown
      have HO4 := Lib.hid hown; clear hown
      have hlen3 : (l ++ [r]).length = l.length + 1 := by simp
      have hlj : (l ++ [r]).length = j + 1 + 1 := by have := HLL.out; omega
      have HPn : Hid (∀ x ∈ l ++ [r], x < t.P) := by
        intro x hx
        rcases List.mem_append.1 hx with hx | hx
        · exact HL.out x hx
        · simp at hx; rw [hx]; exact hrP
      have HFn : Hid (((l ++ [r])[0]?).getD 0 ∈ t.starts.l) := by
        show _ ∈ _
        rw [List.getElem?_append_left (by have := HLL.out; omega)]; exact HF1.out
      generalize l ++ [r] = l3 at *
      rw [← hlen3]
      have HLe := Lib.hid hlen3; clear hlen3
      have HLj := Lib.hid hlj; clear hlj
      go_wp2
      go_roundw
      case rel => exact ⟨j + 1, a3, c3, l3, k2, by omega, by go_num, rfl, HO4, HLj, HPn, HFn, HD4, by omega, HX4⟩
      case measure => simp [intOf]; omega
    · have hje : j = t.legs.l.length := by omega
      have dj : decide ((j : Int) < (t.legs.l.length : Int)) = false := decide_eq_false (by omega)
      have HJe := Lib.hid hje; clear hje
      go_wp2
      go_ret
      exact ⟨a', c', l, k', rfl, own_base HO.out (Nat.le_of_lt hWs), HLL.out.trans (by rw [HJe.out]), HL.out, HF1.out, HDk.out, by omega, HX0.out.trans HX.out⟩
end Go.Proofs.YtopjjcgmcieboaaGreatDoor
