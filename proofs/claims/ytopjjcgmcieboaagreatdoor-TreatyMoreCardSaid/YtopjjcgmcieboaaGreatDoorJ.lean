/-
  slices.Sort at a list of at most 12 numbers that is strictly increasing returns, and turns nothing that was there. The list must read as told.
-/
import Derived.Test.YtopjjcgmcieboaaGreatDoorH
import Derived.Test.YtopjjcgmcieboaaGreatDoorB
import Derived.IntWalk
namespace Go.Proofs.YtopjjcgmcieboaaGreatDoor
open Go.RowKit

theorem quiet_same {P : Program} {f : FuncId} {args : Array Value} {w : World} {n : Nat} {v : Value} (h : Calls P f args (w.drewN n) fun e w' => e = .returned v ∧ w.drewN n = w') :
    Calls P f args (w.drewN n) fun e w'' => e = .returned v ∧ ∃ m, w'' = w.drewN m := h.mono fun _ _ ⟨he, hm⟩ => ⟨he, n, hm.symm⟩

theorem isNaN_any (x : Int) (w : World) : Calls Tryz.prog 90 #[.int .i64 x] w fun e w' => e = .returned (.bool false) ∧ w = w' := by
  go_enter Tryz.func90, Tryz.ntmps90
  go_wp2
  go_ret
  simp

theorem less_ge (x y : Int) (w : World) (h : y ≤ x) : Calls Tryz.prog 95 #[.int .i64 x, .int .i64 y] w fun e w' => e = .returned (.bool false) ∧ w = w' := by
  have hd2 : ¬ (x < y) := by omega
  go_enter Tryz.func95, Tryz.ntmps95
  go_wp2_with (go_at_call 90; refine (isNaN_any _ _).mono ?_; rintro e w' ⟨rfl, rfl⟩)
  go_ret
  simp [h]

set_option maxRecDepth 100000 in
set_option maxHeartbeats 1000000 in
theorem insertion_sorted (a : Option Addr) (n c : Nat) (l : List Nat) (w : World) (hn : l.length = n) (hv : IsSl 1 num w ⟨a, c, l⟩) (hs : l.Pairwise (· < ·)) :
    Calls Tryz.prog 145 #[.slice a n c, .int .i64 0, .int .i64 (n : Int)] w fun e w' => (∃ v, e = .returned v) ∧ Ext w w' := by
  subst hn
  obtain ⟨h1, h2, h3⟩ := hv
  dsimp only at h1 h2 h3
  have H3 := Lib.hid h3; clear h3
  have HS := Lib.hid hs; clear hs
  go_enter Tryz.func145, Tryz.ntmps145
  go_wp2
  go_loopw [6] (fun i wr => ∃ j : Nat, i = .int .i64 ((j : Int) + 1) ∧ (j = 0 ∨ j + 1 ≤ l.length) ∧ Ext w wr) (fun i _ => l.length + 1 - (intOf i).toNat)
  case atStart => exact ⟨0, rfl, .inl rfl, Ext.refl _⟩
  case round =>
    obtain ⟨j, rfl, hj, hext⟩ := hrel
    by_cases hlt : j + 1 < l.length
    · obtain ⟨b, off, rfl, hc⟩ := H3.out.resolve_left (by omega)
      have hcell0 : wr.cell? ⟨b, off + j, none⟩ = some (.int .i64 (l[j] : Int)) := by have := hext.cell (hc j (by omega) 0 (by omega)); simpa [num] using this
      have hcell1 : wr.cell? ⟨b, off + (j + 1), none⟩ = some (.int .i64 (l[j + 1] : Int)) := by have := hext.cell (hc (j + 1) (by omega) 0 (by omega)); simpa [num] using this
      have hl := sorted_at HS.out j hlt
      clear hc
      generalize l[j] = x at *
      generalize l[j + 1] = y at *
      have HX := Lib.hid hext; clear hext
      have hj2 : j + 1 ≤ 1000000 := by omega
      clear hj
      have hd : decide ((j : Int) + 1 < (l.length : Int)) = true := by simp; omega
      have i1 : (0 : Int) ≤ j := by omega
      have i2 : (j : Int) < (l.length : Int) := by omega
      have i3 : (j : Int) + 1 < (l.length : Int) := by omega
      have i4 : decide ((0 : Int) < (j : Int) + 1) = true := decide_eq_true (by omega)
      have i5 : (0 : Int) < (j : Int) + 1 := by omega
      have i6 : (0 : Int) ≤ (j : Int) + 1 := by omega
      have i7 : (0 : Int) ≤ (j : Int) + 1 ∧ (j : Int) + 1 < (l.length : Int) := ⟨i6, i3⟩
      have i8 : (0 : Int) ≤ (j : Int) ∧ (j : Int) < (l.length : Int) := ⟨i1, i2⟩
      have i9 : IntKind.i64.wrap (j : Int) = (j : Int) := IntWalk.i64_in _ (by omega)
      have hyx : (x : Int) ≤ (y : Int) := by omega
      go_wp2
      go_loopw [7] (fun s wx => s = .int .i64 ((j : Int) + 1) ∧ wx = wr) (fun _ _ => 0)
      case atStart => exact ⟨rfl, rfl⟩
      case round =>
        obtain ⟨rfl, rfl⟩ := hrel
        go_wp2_with fail
        go_quiet ((go_at_call 95; exact quiet_same (less_ge (y : Int) (x : Int) _ hyx)))
        go_wp2
        exact ⟨⟨j + 1, by simp, .inr (by omega), HX.out.drewN _⟩, by simp [intOf]; omega⟩
    · have hd : decide ((j : Int) + 1 < (l.length : Int)) = false := by simp; omega
      have hj2 : j + 1 ≤ 1000000 + 1 := by omega
      have HX := Lib.hid hext; clear hext hj
      go_wp2
      go_end0
      exact ⟨⟨_, rfl⟩, HX.out⟩

set_option maxRecDepth 100000 in
theorem len64_any (n : Nat) (w : World) (h : n ≤ 12) : Calls Tryz.prog 117 #[.int .u64 (n : Int)] w fun e w' => (∃ k : Int, e = .returned (.int .i64 k)) ∧ w = w' := by
  have hc : n = 0 ∨ n = 1 ∨ n = 2 ∨ n = 3 ∨ n = 4 ∨ n = 5 ∨ n = 6 ∨ n = 7 ∨ n = 8 ∨ n = 9 ∨ n = 10 ∨ n = 11 ∨ n = 12 := by omega
  rcases hc with rfl | rfl | rfl | rfl | rfl | rfl | rfl | rfl | rfl | rfl | rfl | rfl | rfl
  all_goals
    go_enter Tryz.func117, Tryz.ntmps117
    go_wp2
    go_ret
    exact ⟨⟨_, rfl⟩, rfl⟩

theorem len_any (n : Nat) (w : World) (h : n ≤ 12) : Calls Tryz.prog 82 #[.int .u64 (n : Int)] w fun e w' => (∃ k : Int, e = .returned (.int .i64 k)) ∧ w = w' := by
  go_enter Tryz.func82, Tryz.ntmps82
  go_wp2_with fail
  refine (len64_any n _ h).mono ?_
  rintro e w' ⟨⟨k, rfl⟩, rfl⟩
  go_wp2
  go_ret
  exact ⟨⟨k, rfl⟩, rfl⟩

set_option maxRecDepth 100000 in
set_option maxHeartbeats 1000000 in
theorem pdq_sorted (a : Option Addr) (n c : Nat) (l : List Nat) (k : Int) (w : World) (hn : l.length = n) (hn12 : n ≤ 12) (hv : IsSl 1 num w ⟨a, c, l⟩) (hs : l.Pairwise (· < ·)) :
    Calls Tryz.prog 140 #[.slice a n c, .int .i64 0, .int .i64 (n : Int), .int .i64 k] w fun e w' => (∃ v, e = .returned v) ∧ Ext w w' := by
  have HI := Lib.hid (insertion_sorted a n c l w hn hv hs); clear hv hs
  have h12 : (n : Int) ≤ 12 := by omega
  clear hn
  go_enter Tryz.func140, Tryz.ntmps140
  go_wp2
  go_loopw [1, 2] (fun s1 s wx => s1 = .int .i64 0 ∧ s = .int .i64 (n : Int) ∧ wx = w) (fun _ _ _ => 0)
  case atStart => exact ⟨rfl, rfl, rfl⟩
  case round =>
    obtain ⟨rfl, rfl, rfl⟩ := hrel
    go_wp2_with fail
    refine HI.out.mono ?_
    rintro e w' ⟨⟨v, rfl⟩, hx⟩
    have HX := Lib.hid hx; clear hx
    go_wp2
    refine bodyPost_ret (results_none rfl _ _ _) rfl ?_
    exact ⟨⟨_, rfl⟩, HX.out⟩

set_option maxHeartbeats 1000000 in
/-- slices.Sort of a short list that is sorted already. -/
theorem sort_sorted (a : Option Addr) (n c : Nat) (l : List Nat) (w : World) (hn : l.length = n) (hn12 : n ≤ 12) (hv : IsSl 1 num w ⟨a, c, l⟩) (hs : l.Pairwise (· < ·)) :
    Calls Tryz.prog 134 #[.slice a n c] w fun e w' => (∃ v, e = .returned v) ∧ Ext w w' := by
  have HI : ∀ k, Hid (Calls Tryz.prog 140 #[.slice a n c, .int .i64 0, .int .i64 (n : Int), .int .i64 k] w fun e w' => (∃ v, e = .returned v) ∧ Ext w w') := fun k => pdq_sorted a n c l k w hn hn12 hv hs
  clear hv hs hn
  go_enter Tryz.func134, Tryz.ntmps134
  go_wp2_with fail
  refine (len_any n _ hn12).mono ?_
  rintro e w' ⟨⟨k, rfl⟩, rfl⟩
  go_wp2_with fail
  refine (HI k).out.mono ?_
  rintro e w' ⟨⟨v, rfl⟩, hx⟩
  have HX := Lib.hid hx; clear hx
  go_wp2
  go_end0
  exact ⟨⟨_, rfl⟩, HX.out⟩
end Go.Proofs.YtopjjcgmcieboaaGreatDoor
