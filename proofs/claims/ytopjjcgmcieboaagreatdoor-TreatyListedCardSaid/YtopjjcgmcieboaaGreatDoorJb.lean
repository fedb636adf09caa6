/-
  Several texts in one. The treaty of the chapter's example 1, as the statements' own file builds it. More of what holds at the treaty of example 1; EqualAll and Equal of equal lists.
-/
import Derived.Test.YtopjjcgmcieboaaGreatDoorD
import Derived.Test.YtopjjcgmcieboaaGreatDoorDa
import Derived.Test.YtopjjcgmcieboaaGreatDoorIn
namespace Go.Proofs.YtopjjcgmcieboaaGreatDoor
open Go.RowKit

/-- The treaty of example 1, whose twelve blocks lie behind the block n; the second leg's other word is o. -/
def fourG (n : Nat) (o : Int) : TV :=
  ⟨4, ⟨some ⟨n + 1, 0, none⟩, 4, [(0, 1, 0), (1, 2, 0), (1, 3, 1), (2, 3, 2)]⟩,
    ⟨some ⟨n + 10, 0, none⟩, 2, [⟨some ⟨n + 6, 0, none⟩, 2, [⟨⟨some ⟨n + 2, 0, none⟩, 1, [0]⟩, ⟨some ⟨n + 3, 0, none⟩, 2, [1, 2]⟩⟩, ⟨⟨some ⟨n + 4, 0, none⟩, 1, [1]⟩, ⟨some ⟨n + 5, 0, none⟩, 1, [3]⟩⟩]⟩,
      ⟨some ⟨n + 9, 0, none⟩, 1, [⟨⟨some ⟨n + 7, 0, none⟩, 2, [1, 2]⟩, ⟨some ⟨n + 8, 0, none⟩, 1, [3]⟩⟩]⟩]⟩,
    ⟨some ⟨n + 11, 0, none⟩, 1, [0]⟩, ⟨some ⟨n + 12, 0, none⟩, 2, [(0, o), (1, -1)]⟩⟩

theorem alloc_get (w : World) (o : Obj) (i : Nat) : (w.alloc o).heap[i]? = if i = w.heap.size then some o else w.heap[i]? := by
  unfold World.alloc
  simp only [Array.getElem?_push]

theorem alloc_old {w : World} {o : Obj} {i : Nat} (h : i < w.heap.size) : (w.alloc o).heap[i]? = w.heap[i]? := by
  rw [alloc_get, if_neg (by omega)]
theorem alloc_new {w : World} {o : Obj} {i : Nat} (h : i = w.heap.size) : (w.alloc o).heap[i]? = some o := by
  rw [alloc_get, if_pos h]

structure FourAt (w : World) (n : Nat) (o : Int) : Prop where
  b1 : w.heap[n + 1]? = some (.cells #[.int .i64 0, .int .i64 1, .int .i64 0, .int .i64 1, .int .i64 2, .int .i64 0, .int .i64 1, .int .i64 3, .int .i64 1, .int .i64 2, .int .i64 3, .int .i64 2] 59)
  b2 : w.heap[n + 2]? = some (.cells #[.int .i64 0] 3)
  b3 : w.heap[n + 3]? = some (.cells #[.int .i64 1, .int .i64 2] 3)
  b4 : w.heap[n + 4]? = some (.cells #[.int .i64 1] 3)
  b5 : w.heap[n + 5]? = some (.cells #[.int .i64 3] 3)
  b6 : w.heap[n + 6]? = some (.cells #[.slice (some ⟨n + 2, 0, none⟩) 1 1, .slice (some ⟨n + 3, 0, none⟩) 2 2, .slice (some ⟨n + 4, 0, none⟩) 1 1, .slice (some ⟨n + 5, 0, none⟩) 1 1] 57)
  b7 : w.heap[n + 7]? = some (.cells #[.int .i64 1, .int .i64 2] 3)
  b8 : w.heap[n + 8]? = some (.cells #[.int .i64 3] 3)
  b9 : w.heap[n + 9]? = some (.cells #[.slice (some ⟨n + 7, 0, none⟩) 2 2, .slice (some ⟨n + 8, 0, none⟩) 1 1] 57)
  b10 : w.heap[n + 10]? = some (.cells #[.slice (some ⟨n + 6, 0, none⟩) 2 2, .slice (some ⟨n + 9, 0, none⟩) 1 1] 54)
  b11 : w.heap[n + 11]? = some (.cells #[.int .i64 0] 3)
  b12 : w.heap[n + 12]? = some (.cells #[.int .i64 0, .int .i64 o, .int .i64 1, .int .i64 (-1)] 63)

theorem FourAt.ext {w w' : World} {n : Nat} {o : Int} (h : FourAt w n o) (k : Ext w w') : FourAt w' n o :=
  ⟨k.block h.b1, k.block h.b2, k.block h.b3, k.block h.b4, k.block h.b5, k.block h.b6, k.block h.b7, k.block h.b8, k.block h.b9, k.block h.b10, k.block h.b11, k.block h.b12⟩

/-- A block of cells reads as the slice that it holds. -/
theorem isSl_of_block {α : Type} {sz : Nat} {cs : α → Nat → Value} {w : World} {b c : Nat} {l : List α} {cells : Array Value} {T : TypeId} {fr : Nat × Nat} (h : w.heap[b]? = some (.cells cells T fr)) (hlc : l.length ≤ c) (hl : l.length ≤ 1000000)
    (hc : ∀ i (h : i < l.length) j, j < sz → cells[i * sz + j]? = some (cs l[i] j)) : IsSl sz cs w ⟨some ⟨b, 0, none⟩, c, l⟩ := by
  refine ⟨hlc, hl, .inr ⟨b, 0, rfl, fun i hi j hj => ?_⟩⟩
  have := cell_at h (0 + i * sz + j)
  rw [this]
  simpa using hc i hi j hj

set_option maxHeartbeats 1000000 in
theorem FourAt.isT {w : World} {n : Nat} {o : Int} (h : FourAt w n o) : IsT w (fourG n o) := by
  have m1 : IsMean w ⟨⟨some ⟨n + 2, 0, none⟩, 1, [0]⟩, ⟨some ⟨n + 3, 0, none⟩, 2, [1, 2]⟩⟩ := by
    constructor
    · exact isSl_of_block h.b2 (by simp) (by simp) (fun i hi j hj => by obtain rfl : j = 0 := (by omega); match i, hi with | 0, _ => rfl)
    · exact isSl_of_block h.b3 (by simp) (by simp) (fun i hi j hj => by obtain rfl : j = 0 := (by omega); match i, hi with | 0, _ => rfl | 1, _ => rfl)
  have m2 : IsMean w ⟨⟨some ⟨n + 4, 0, none⟩, 1, [1]⟩, ⟨some ⟨n + 5, 0, none⟩, 1, [3]⟩⟩ := by
    constructor
    · exact isSl_of_block h.b4 (by simp) (by simp) (fun i hi j hj => by obtain rfl : j = 0 := (by omega); match i, hi with | 0, _ => rfl)
    · exact isSl_of_block h.b5 (by simp) (by simp) (fun i hi j hj => by obtain rfl : j = 0 := (by omega); match i, hi with | 0, _ => rfl)
  have m3 : IsMean w ⟨⟨some ⟨n + 7, 0, none⟩, 2, [1, 2]⟩, ⟨some ⟨n + 8, 0, none⟩, 1, [3]⟩⟩ := by
    constructor
    · exact isSl_of_block h.b7 (by simp) (by simp) (fun i hi j hj => by obtain rfl : j = 0 := (by omega); match i, hi with | 0, _ => rfl | 1, _ => rfl)
    · exact isSl_of_block h.b8 (by simp) (by simp) (fun i hi j hj => by obtain rfl : j = 0 := (by omega); match i, hi with | 0, _ => rfl)
  constructor
  · refine isSl_of_block h.b1 (by simp) (by simp) (fun i hi j hj => ?_)
    match i, hi, j, hj with
    | 0, _, 0, _ => rfl | 0, _, 1, _ => rfl | 0, _, 2, _ => rfl
    | 1, _, 0, _ => rfl | 1, _, 1, _ => rfl | 1, _, 2, _ => rfl
    | 2, _, 0, _ => rfl | 2, _, 1, _ => rfl | 2, _, 2, _ => rfl
    | 3, _, 0, _ => rfl | 3, _, 1, _ => rfl | 3, _, 2, _ => rfl
  · refine isSl_of_block h.b10 (by simp) (by simp) (fun i hi j hj => ?_)
    obtain rfl : j = 0 := by omega
    match i, hi with | 0, _ => rfl | 1, _ => rfl
  · intro s hs
    simp only [fourG, List.mem_cons, List.not_mem_nil, or_false] at hs
    rcases hs with rfl | rfl
    · refine ⟨isSl_of_block h.b6 (by simp) (by simp) (fun i hi j hj => ?_), fun m hm => ?_⟩
      · match i, hi, j, hj with | 0, _, 0, _ => rfl | 0, _, 1, _ => rfl | 1, _, 0, _ => rfl | 1, _, 1, _ => rfl
      · simp only [List.mem_cons, List.not_mem_nil, or_false] at hm
        rcases hm with rfl | rfl
        · exact m1
        · exact m2
    · refine ⟨isSl_of_block h.b9 (by simp) (by simp) (fun i hi j hj => ?_), fun m hm => ?_⟩
      · match i, hi, j, hj with | 0, _, 0, _ => rfl | 0, _, 1, _ => rfl
      · simp only [List.mem_cons, List.not_mem_nil, or_false] at hm
        subst hm
        exact m3
  · exact isSl_of_block h.b11 (by simp) (by simp) (fun i hi j hj => by obtain rfl : j = 0 := (by omega); match i, hi with | 0, _ => rfl)
  · refine isSl_of_block h.b12 (by simp) (by simp) (fun i hi j hj => ?_)
    match i, hi, j, hj with | 0, _, 0, _ => rfl | 0, _, 1, _ => rfl | 1, _, 0, _ => rfl | 1, _, 1, _ => rfl

theorem four_ok (n : Nat) (o : Int) (ho : o = -1 ∨ o = 1) : OkT (fourG n o) := by
  constructor <;> simp [fourG]
  rcases ho with rfl | rfl <;> simp

set_option maxRecDepth 100000 in
set_option maxHeartbeats 1000000 in
theorem four_any (w : World) : Calls Tryz.prog 38 #[] w fun e w' => e = .returned (fourG w.heap.size (-1)).v ∧ FourAt w' w.heap.size (-1) ∧ Ext w w' ∧ w.heap.size + 13 ≤ w'.heap.size := by
  go_enter Tryz.func38, Tryz.ntmps38
  go_wp2
  refine bodyPost_ret (v := (fourG w.heap.size (-1)).v) (results_cell_row rfl _ _ w.heap.size 28 (#[.int .i64 4, .slice (some ⟨w.heap.size + 1, 0, none⟩) 4 4, .slice (some ⟨w.heap.size + 10, 0, none⟩) 2 2, .slice (some ⟨w.heap.size + 11, 0, none⟩) 1 1, .slice (some ⟨w.heap.size + 12, 0, none⟩) 2 2]) (0, 0) _ rfl ?_ Tryz.underlying28 rfl (by kernel_rfl)) rfl ?_
  · (repeat rw [alloc_old (by simp only [World.size_alloc]; omega)]); rw [alloc_new (by simp only)]
  · refine ⟨rfl, ?_, ?_, ?_⟩
    · constructor <;> ((repeat rw [alloc_old (by simp only [World.size_alloc]; omega)]); rw [alloc_new (by simp only [World.size_alloc])])
    · iterate 13 refine Ext.alloc ?_ _
      exact Ext.refl w
    · simp [World.size_alloc, Nat.add_assoc]
end Go.Proofs.YtopjjcgmcieboaaGreatDoor

namespace Go.Proofs.YtopjjcgmcieboaaGreatDoor
open Go.RowKit

theorem rd00 (n : Nat) (o : Int) : RdOk (fourG n o) [0, 0] := by
  refine ⟨rfl, fun k h h' => ?_⟩
  match k, h, h' with
  | 0, _, _ => exact Nat.zero_lt_succ 1
  | 1, _, _ => exact Nat.zero_lt_succ 0
theorem rd10 (n : Nat) (o : Int) : RdOk (fourG n o) [1, 0] := by
  refine ⟨rfl, fun k h h' => ?_⟩
  match k, h, h' with
  | 0, _, _ => exact Nat.lt_succ_self 1
  | 1, _, _ => exact Nat.zero_lt_succ 0

theorem ev_hold (n : Nat) (a b c : SL Nat) (ha : a.l = [0, 3, 3, 3]) (hb : b.l = [1, 1, 1, 1]) (hc : c.l = [2, 2, 2, 1]) :
    HoldP (fourG n (-1)) (leadsOf (fourG n (-1)) [1, 0]) [a, b, c] := by
  obtain ⟨a1, a2, a3⟩ := a
  obtain ⟨b1, b2, b3⟩ := b
  obtain ⟨c1, c2, c3⟩ := c
  dsimp only at ha hb hc
  subst ha hb hc
  refine ⟨by kernel_rfl, fun k hk f hf g hg => ?_⟩
  have hall : ((List.range 2).all fun k => (List.range 4).all fun f => (List.range 4).all fun g => Nat.ble (at2 [⟨a1, a2, [0, 3, 3, 3]⟩, ⟨b1, b2, [1, 1, 1, 1]⟩, ⟨c1, c2, [2, 2, 2, 1]⟩] (k + 1) g) (at2 [⟨a1, a2, [0, 3, 3, 3]⟩, ⟨b1, b2, [1, 1, 1, 1]⟩, ⟨c1, c2, [2, 2, 2, 1]⟩] k f + cost (leadsOf (fourG n (-1)) [1, 0] k f g))) = true := by kernel_rfl
  rw [List.all_eq_true] at hall
  have h1 := hall k (List.mem_range.2 hk)
  rw [List.all_eq_true] at h1
  have h2 := h1 f (List.mem_range.2 hf)
  rw [List.all_eq_true] at h2
  exact Nat.le_of_ble_eq_true (h2 g (List.mem_range.2 hg))
theorem ev_least (a b c : SL Nat) (hc : c.l = [2, 2, 2, 1]) (m : Nat) (h : LeastOf (([a, b, c].map (fun r => r.l))[2]?.getD []) m) : m = 1 := by
  have h' : LeastOf [2, 2, 2, 1] m := by simpa [hc] using h
  obtain ⟨h1, h2⟩ := h'
  have := h2 1 (by simp)
  simp at h1
  omega

theorem equal_true (a b : SL Nat) (w : World) (ha : IsSl 1 num w a) (hb : IsSl 1 num w b) (h : a.l = b.l) :
    Calls Tryz.prog 16 #[.slice a.a a.l.length a.c, .slice b.a b.l.length b.c] w fun e w' => e = .returned (.bool true) ∧ Ext w w' :=
  (equal_any a b w ha hb).mono fun _ _ ⟨h1, h2⟩ => ⟨by rw [h1, decide_eq_true h], h2.ext⟩
theorem equalAll_true (a b : SL (SL Nat)) (w : World) (ha : IsTbl w a) (hb : IsTbl w b) (h : a.l.map (fun r => r.l) = b.l.map (fun r => r.l)) :
    Calls Tryz.prog 39 #[.slice a.a a.l.length a.c, .slice b.a b.l.length b.c] w fun e w' => e = .returned (.bool true) ∧ Ext w w' :=
  (equalAll_any a b w ha.rows hb.rows ha.row hb.row).mono fun _ _ ⟨h1, h2⟩ => ⟨by rw [h1, decide_eq_true h], h2.ext⟩
end Go.Proofs.YtopjjcgmcieboaaGreatDoor
