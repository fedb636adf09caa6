/-
  Small functions of package pillar, and of the statements' kit: Fold, common, sum.
-/
import Derived.Test.YtfognlealnhodaaX
namespace Go.Proofs.Ytfognlealnhodaa
open Go.RowKit

theorem fold_any (x : Int) (m : Nat) (w : World) (hm : 1 ≤ m) (hm2 : m ≤ 1000000) : Calls Try.prog 20 #[.int .i64 x, .int .i64 (m : Int)] w fun e w' => ∃ r : Nat, r < m ∧ e = .returned (.int .i64 (r : Int)) ∧ w' = w := by
  have d1 : decide ((m : Int) ≤ 0) = false := decide_eq_false (by omega)
  have h0 : ((m : Int) == 0) = false := by rw [beq_eq_false_iff_ne]; omega
  obtain ⟨t, ht⟩ : ∃ t, x.tmod (m : Int) = t := ⟨_, rfl⟩
  have hb : -(m : Int) < t ∧ t < (m : Int) := by
    rw [← ht]
    have q := Int.tmod_lt_of_pos x (show (0 : Int) < m by omega)
    have q2 := Int.lt_tmod_of_pos x (show (0 : Int) < m by omega)
    exact ⟨q2, q⟩
  have w1 : IntKind.i64.wrap t = t := IntWalk.i64_in _ (by omega)
  have w2 : IntKind.i64.wrap (t + (m : Int)) = t + (m : Int) := IntWalk.i64_in _ (by omega)
  obtain ⟨r, hr⟩ : ∃ r : Nat, (t + (m : Int)).tmod (m : Int) = (r : Int) := ⟨((t + (m : Int)).tmod (m : Int)).toNat, by
    have := Int.tmod_nonneg (a := t + (m : Int)) (m : Int) (by omega); omega⟩
  have hrm : r < m := by
    have q := Int.tmod_lt_of_pos (t + (m : Int)) (show (0 : Int) < m by omega)
    rw [hr] at q; omega
  have w3 : IntKind.i64.wrap (r : Int) = (r : Int) := IntWalk.i64_in _ (by omega)
  have hne : (m : Int) ≠ 0 := by omega
  have hn0 : m ≠ 0 := by omega
  go_enter Try.func20, Try.ntmps20
  go_wp2
  go_ret
  exact ⟨r, hrm, rfl, rfl⟩
/-- What two spans of distances have in common. -/
def comF (a b : Nat × Nat) : Nat × Nat := if min a.2 b.2 < max a.1 b.1 then (0, 0) else (max a.1 b.1, min a.2 b.2)
set_option maxRecDepth 100000 in
set_option maxHeartbeats 2000000 in
theorem common_any (a b : Nat × Nat) (w : World) : Calls Try.prog 91 #[.agg #[.int .i64 (a.1 : Int), .int .i64 (a.2 : Int)], .agg #[.int .i64 (b.1 : Int), .int .i64 (b.2 : Int)]] w fun e w' => e = .returned (.agg #[.int .i64 ((comF a b).1 : Int), .int .i64 ((comF a b).2 : Int)]) ∧ Ext w w' := by
  obtain ⟨a1, a2⟩ := a
  obtain ⟨b1, b2⟩ := b
  dsimp only
  have hlo : (if a1 < b1 then (b1 : Int) else (a1 : Int)) = ((max a1 b1 : Nat) : Int) := by split <;> omega
  have hhi : (if b2 < a2 then (b2 : Int) else (a2 : Int)) = ((min a2 b2 : Nat) : Int) := by split <;> omega
  have hc : comF (a1, a2) (b1, b2) = if min a2 b2 < max a1 b1 then (0, 0) else (max a1 b1, min a2 b2) := rfl
  rw [hc]
  clear hc
  generalize max a1 b1 = lo at *
  generalize min a2 b2 = hi at *
  have e1 : w.heap.size + 1 + 1 + 1 ≠ w.heap.size + 1 + 1 := by omega
  by_cases h : hi < lo
  · have d : decide (hi < lo) = true := decide_eq_true h
    rw [if_pos h]
    clear h
    go_enter Try.func91, Try.ntmps91
    go_wp2_with fail
    simp only [bodyPost]
    refine ⟨trivial, _, ?_, rfl, ?_⟩
    · simp [results, Try.f91, go_sem]
    · exact ((((Ext.refl w).alloc _).alloc _).alloc _).alloc _
  · have d : decide (hi < lo) = false := decide_eq_false h
    rw [if_neg h]
    clear h
    go_enter Try.func91, Try.ntmps91
    go_wp2_with fail
    simp only [bodyPost]
    refine ⟨trivial, _, ?_, rfl, ?_⟩
    · simp [results, Try.f91, go_sem]
    · exact ((((Ext.refl w).alloc _).alloc _).alloc _).alloc _

/-- The sums of the first m spans. -/
def sumTo (l : List (Nat × Nat)) : Nat → Nat × Nat
  | 0 => (0, 0)
  | m + 1 => ((sumTo l m).1 + (l[m]?.getD (0, 0)).1, (sumTo l m).2 + (l[m]?.getD (0, 0)).2)
theorem sumTo_le {l : List (Nat × Nat)} (h : ∀ x ∈ l, x.1 ≤ 1000000 ∧ x.2 ≤ 1000000) : ∀ m, (sumTo l m).1 ≤ m * 1000000 ∧ (sumTo l m).2 ≤ m * 1000000
  | 0 => by simp [sumTo]
  | m + 1 => by
    have ih := sumTo_le h m
    have q : (l[m]?.getD (0, 0)).1 ≤ 1000000 ∧ (l[m]?.getD (0, 0)).2 ≤ 1000000 := by
      by_cases hm : m < l.length
      · rw [List.getElem?_eq_getElem hm]; exact h _ (List.getElem_mem hm)
      · rw [List.getElem?_eq_none (by omega)]; simp
    simp only [sumTo]
    omega
theorem alloc_keep {w : World} {o x : Obj} {i : Nat} (h : w.heap[i]? = some x) : (w.alloc o).heap[i]? = some x := (alloc_old (Array.getElem?_eq_some_iff.1 h).1).trans h
theorem box2 {w : World} {b : Nat} {x y : Value} {T : TypeId} (h : w.heap[b]? = some (.cells #[x, y] T (0, 0))) : w.cell? ⟨b, 0, none⟩ = some x ∧ w.cell? ⟨b, 1, none⟩ = some y ∧ w.frozen? ⟨b, 0, none⟩ = false ∧ w.frozen? ⟨b, 1, none⟩ = false :=
  ⟨(cell_at h 0).trans rfl, (cell_at h 1).trans rfl, by simp [World.frozen?, h], by simp [World.frozen?, h]⟩

set_option maxRecDepth 100000 in
set_option maxHeartbeats 2000000 in
theorem sum_any (s : SL (Nat × Nat)) (w : World) (hs : IsSl 2 spC w s) (hl : s.l.length ≤ 1000) (hb : ∀ x ∈ s.l, x.1 ≤ 1000000 ∧ x.2 ≤ 1000000) :
    Calls Try.prog 80 #[.slice s.a s.l.length s.c] w fun e w' => e = .returned (.agg #[.int .i64 ((sumTo s.l s.l.length).1 : Int), .int .i64 ((sumTo s.l s.l.length).2 : Int)]) ∧ Ext w w' := by
  obtain ⟨sa, sc, l⟩ := s
  obtain ⟨h1, h2, h3⟩ := hs
  dsimp only at h1 h2 h3 hl hb ⊢
  have H3 := Lib.hid h3
  have HS := Lib.hid (sumTo_le hb)
  have HBd := Lib.hid hb
  clear h3 hb
  go_enter Try.func80, Try.ntmps80
  go_wp2_with fail
  go_loopw [8] (fun i wr => ∃ k : Nat, k ≤ l.length ∧ i = .int .i64 k ∧ Hid (wr.heap[w.heap.size]? = some (.cells #[.int .i64 0, .int .i64 0] 28 (0, 0))) ∧ Hid (wr.heap[w.heap.size + 1]? = some (.cells #[.int .i64 ((sumTo l k).1 : Int), .int .i64 ((sumTo l k).2 : Int)] 28 (0, 0))) ∧ Hid (Ext w wr)) (fun i _ => l.length - (intOf i).toNat)
  case atStart => exact ⟨0, Nat.zero_le _, rfl, (alloc_old (by simp only [World.size_alloc]; omega)).trans (alloc_new rfl), alloc_new (by simp only [World.size_alloc]), ((Ext.refl w).alloc _).alloc _⟩
  case round =>
    obtain ⟨wo, rfl⟩ : ∃ wo : World, wo = wr := ⟨_, rfl⟩
    obtain ⟨k, hk, rfl, HA, HB, HX⟩ := hrel
    by_cases hlt : k < l.length
    · obtain ⟨b2, off2, rfl, hc2⟩ := H3.out.resolve_left (by omega)
      have hcell1 : wo.cell? ⟨b2, off2 + k * 2, none⟩ = some (Value.int .i64 (l[k].1 : Int)) := by have := HX.out.cell (hc2 k hlt 0 (by omega)); simpa [spC] using this
      have hcell2 : wo.cell? ⟨b2, off2 + k * 2 + 1, none⟩ = some (Value.int .i64 (l[k].2 : Int)) := by have := HX.out.cell (hc2 k hlt 1 (by omega)); simpa [spC] using this
      clear hc2
      obtain ⟨s1, s2⟩ := HS.out k
      obtain ⟨x1, x2⟩ := HBd.out _ (List.getElem_mem hlt)
      have HSu : Hid (sumTo l (k + 1) = ((sumTo l k).1 + l[k].1, (sumTo l k).2 + l[k].2)) := by show _ = _; simp only [sumTo]; rw [List.getElem?_eq_getElem hlt]; rfl
      have hlo : w.heap.size + 1 < wo.heap.size := (Array.getElem?_eq_some_iff.1 HB.out).1
      generalize l[k] = sp at *
      generalize sumTo l k = su at *
      obtain ⟨r0, r1, f0, f1⟩ := box2 (((Ext.refl wo).alloc (.cells #[.int .i64 (sp.1 : Int), .int .i64 (sp.2 : Int)] 28)).block HB.out)
      have w1 : IntKind.i64.wrap ((su.1 : Int) + (sp.1 : Int)) = (su.1 : Int) + (sp.1 : Int) := IntWalk.i64_in _ (by omega)
      have w2 : IntKind.i64.wrap ((su.2 : Int) + (sp.2 : Int)) = (su.2 : Int) + (sp.2 : Int) := IntWalk.i64_in _ (by omega)
      have hne1 : wo.heap.size ≠ w.heap.size + 1 := by omega
      have hne2 : w.heap.size + 1 ≠ wo.heap.size := by omega
      obtain ⟨p0, p1, g0, g1⟩ := box2 HB.out
      go_wp2_with fail
      go_roundw
      case rel =>
        refine ⟨k + 1, by omega, by go_num, ?_, ?_, ?_⟩
        · exact alloc_keep (heap_set_other _ _ _ _ (heap_set_other _ _ _ _ HA.out (by omega)) (by omega))
        · rw [HSu.out]
          have q := heap_setCell_same (i := 1) (heap_setCell_same (i := 0) HB.out (.int .i64 ((su.1 : Int) + (sp.1 : Int)))) (.int .i64 ((su.2 : Int) + (sp.2 : Int)))
          refine alloc_keep ?_
          simpa using q
        · refine Ext.alloc (Ext.setCell (Ext.setCell HX.out ?_ _) ?_ _) _ <;> (show w.heap.size ≤ w.heap.size + 1; omega)
      case measure => simp [intOf]; omega
    · obtain rfl : k = l.length := by omega
      obtain ⟨r0, r1, f0, f1⟩ := box2 HB.out
      obtain ⟨q0, q1, g0, g1⟩ := box2 HA.out
      have h5 := heap_setCell_same (i := 1) (heap_setCell_same (i := 0) HA.out (.int .i64 ((sumTo l l.length).1 : Int))) (.int .i64 ((sumTo l l.length).2 : Int))
      have hx5 : Ext w ((wo.setCell ⟨w.heap.size, 0, none⟩ (.int .i64 ((sumTo l l.length).1 : Int))).setCell ⟨w.heap.size, 1, none⟩ (.int .i64 ((sumTo l l.length).2 : Int))) := by
        refine Ext.setCell (Ext.setCell HX.out ?_ _) ?_ _ <;> exact Nat.le_refl _
      have H5 := Lib.hid h5
      have HX5 := Lib.hid hx5
      clear h5 hx5
      go_wp2_with fail
      simp only [bodyPost]
      generalize ((wo.setCell ⟨w.heap.size, 0, none⟩ (.int .i64 ((sumTo l l.length).1 : Int))).setCell ⟨w.heap.size, 1, none⟩ (.int .i64 ((sumTo l l.length).2 : Int))) = W at *
      obtain ⟨k0, k1, _, _⟩ := box2 H5.out
      refine ⟨trivial, _, ?_, rfl, HX5.out⟩
      simp [results, Try.f80, go_sem, k0, k1]
end Go.Proofs.Ytfognlealnhodaa
