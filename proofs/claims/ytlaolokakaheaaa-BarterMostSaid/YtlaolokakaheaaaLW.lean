/-
  Two numbers in lowest terms, the worths of a stretch, and which stretch comes ahead of another one (package barter).
-/
import Derived.Test.YtlaolokakaheaaaLN
import Derived.Deep.QuietTactic
import Derived.BigQuiet
import Derived.Deep.DeepCutAuto
namespace Go.Proofs.Ytlaolokakaheaaa
open Go.RowKit

set_option maxHeartbeats 1000000 in
theorem lowest_any (x y : Nat) (w : World) (hx : 1 ≤ x) (hx2 : x ≤ 100000000) (hy2 : y ≤ 100000000) :
    Calls Try.prog 56 #[.int .i64 (x : Int), .int .i64 (y : Int)] w fun e w' => e = .returned (.tuple #[.int .i64 ((x / Nat.gcd x y : Nat) : Int), .int .i64 ((y / Nat.gcd x y : Nat) : Int)]) ∧ Ext w w' := by
  go_enter Try.func56, Try.ntmps56
  go_wp2
  go_loopw [6, 7] (fun s r wr => ∃ p q : Nat, s = .int .i64 (p : Int) ∧ r = .int .i64 (q : Int) ∧ 1 ≤ p ∧ p ≤ 100000000 ∧ q ≤ 100000000 ∧ Hid (Nat.gcd p q = Nat.gcd x y) ∧ Hid (Ext w wr)) (fun _ r _ => (intOf r).toNat)
  case atStart => exact ⟨x, y, rfl, rfl, hx, hx2, hy2, rfl, Ext.refl _⟩
  case round =>
    obtain ⟨wo, rfl⟩ : ∃ wo : World, wo = wr := ⟨_, rfl⟩
    obtain ⟨p, q, rfl, rfl, hp, hp2, hq2, HG, HX⟩ := hrel
    by_cases hq : 0 < q
    · have dq : decide ((0 : Int) < (q : Int)) = true := decide_eq_true (by omega)
      have hm : Int.tmod (p : Int) (q : Int) = ((p % q : Nat) : Int) := rfl
      have hl : p % q < q := Nat.mod_lt _ hq
      have HG2 : Hid (Nat.gcd q (p % q) = Nat.gcd x y) := by show _ = _; rw [← HG.out, Nat.gcd_comm p q, Nat.gcd_rec q p, Nat.gcd_comm]
      generalize p % q = r at *
      go_wp2
      go_quiet (fail)
      go_wp2
      go_roundw
      case rel => exact ⟨q, r, rfl, rfl, by omega, by omega, by omega, HG2, HX.out.drewN _⟩
      case measure => simp [intOf]; omega
    · have dq : decide ((0 : Int) < (q : Int)) = false := decide_eq_false (by omega)
      have hq0 : q = 0 := by omega
      subst hq0
      have hg : x.gcd y = p := by rw [← HG.out, Nat.gcd_zero_right]
      have h1 : Int.tdiv (x : Int) (p : Int) = ((x / p : Nat) : Int) := rfl
      have h2 : Int.tdiv (y : Int) (p : Int) = ((y / p : Nat) : Int) := rfl
      have l1 : x / p ≤ 100000000 := Nat.le_trans (Nat.div_le_self _ _) hx2
      have l2 : y / p ≤ 100000000 := Nat.le_trans (Nat.div_le_self _ _) hy2
      have HP1 : Hid (x / x.gcd y = x / p) := by show _ = _; rw [hg]
      have HP2 : Hid (y / x.gcd y = y / p) := by show _ = _; rw [hg]
      clear HG hg
      generalize x / p = xp at *
      generalize y / p = yp at *
      go_wp2_with fail
      go_quiet (fail)
      go_wp2
      refine bodyPost_ret (results_tmp2 rfl _ _ _) rfl ?_
      refine ⟨?_, HX.out.drewN _⟩
      rw [HP1.out, HP2.out]
      rfl

theorem blk_mid {w w1 : World} {o1 o2 o3 : Obj} (h : Ext (((w.alloc o1).alloc o2).alloc o3) w1) : w1.heap[w.heap.size + 1]? = some o2 := by
  refine h.block ((alloc_old ?_).trans (alloc_new ?_)) <;> simp only [World.size_alloc] <;> omega
theorem blk_cells {w : World} {g : Nat} {a b : Value} {T : TypeId} (h : w.heap[g]? = some (.cells #[a, b] T (0, 0))) : w.cell? ⟨g, 0, none⟩ = some a ∧ w.cell? ⟨g, 1, none⟩ = some b ∧ w.frozen? ⟨g, 0, none⟩ = false ∧ w.frozen? ⟨g, 1, none⟩ = false :=
  ⟨cell_at h 0, cell_at h 1, by simp [World.frozen?, h], by simp [World.frozen?, h]⟩
theorem worths_any (x : Ld) (i : Nat) (w : World) (h : StL w x.s) (hi : i < x.s.l.length) (h1 : 1 ≤ (at' x.s.l i).n) (h2 : (at' x.s.l i).n ≤ 1000) (h3 : (at' x.s.l i).s ≤ 1000) :
    Calls Try.prog 61 #[x.val, .int .i64 (i : Int)] w fun e w' => e = .returned (.agg #[.int .i64 (lowN (at' x.s.l i) : Int), .int .i64 (lowS (at' x.s.l i) : Int)]) ∧ Ext w w' := by
  obtain ⟨q1, q2⟩ := h.le
  obtain ⟨b, off, ha, c0, c1, c2, c3⟩ := h.cells hi
  have HL : Hid (∀ W : World, Calls Try.prog 56 #[.int .i64 ((at' x.s.l i).n : Int), .int .i64 ((at' x.s.l i).s : Int)] W fun e w' => e = .returned (.tuple #[.int .i64 (lowN (at' x.s.l i) : Int), .int .i64 (lowS (at' x.s.l i) : Int)]) ∧ Ext W w') := fun W => lowest_any (at' x.s.l i).n (at' x.s.l i).s W h1 (by omega) (by omega)
  have i1 : (0 : Int) ≤ i := by omega
  have i2 : (i : Int) < (x.s.l.length : Int) := by omega
  clear h
  obtain ⟨⟨a, c, l⟩, ⟨va, vc, vl⟩⟩ := x
  dsimp only at *
  subst ha
  have l3 := lt_of_cell c3
  dsimp only at l3
  generalize lowN (at' l i) = ln at *
  generalize lowS (at' l i) = ls at *
  go_enter Try.func61, Try.ntmps61
  go_wp2_with (go_at_call 56; refine (HL.out _).mono ?_; rintro e w1 ⟨rfl, hx1⟩; have hb := blk_mid hx1; obtain ⟨d0, d1, f0, f1⟩ := blk_cells hb; have HB1 := Lib.hid hb; have HX1 := Lib.hid hx1; clear hx1 hb)
  have hb := heap_setCell_same (i := 1) (heap_setCell_same (i := 0) HB1.out (.int .i64 (ln : Int))) (.int .i64 (ls : Int))
  refine bodyPost_ret (results_cell_row rfl _ _ (w.heap.size + 1) 68 _ (0, 0) _ rfl hb Try.underlying68 rfl (by kernel_rfl)) rfl ?_
  exact ⟨rfl, (((((((Ext.refl w).alloc _).alloc _).alloc _).trans HX1.out)).setCell (by simp only []; omega) _).setCell (by simp only []; omega) _⟩
end Go.Proofs.Ytlaolokakaheaaa
