/-
  What a stretch counts, and the sum of numbers (package barter). The list must read as told.
-/
import Derived.Test.YtlaolokakaheaaaHW
namespace Go.Proofs.Ytlaolokakaheaaa
open Go.RowKit

theorem worthNorth_any (x : St) (w : World) :
    Calls Try.prog 63 #[.agg #[.int .i64 (x.o : Int), .int .i64 (x.n : Int), .int .i64 (x.s : Int), .int .i64 x.w]] w fun e w' => e = .returned (.int .i64 (x.n : Int)) ∧ Ext w w' := by
  obtain ⟨o, n, s, z⟩ := x
  go_enter Try.func63, Try.ntmps63
  go_wp2
  go_ret
  exact ⟨rfl, (Ext.refl w).alloc _⟩
theorem worthBoth_any (x : St) (w : World) (hn : x.n ≤ 1000) (hs : x.s ≤ 1000) :
    Calls Try.prog 48 #[.agg #[.int .i64 (x.o : Int), .int .i64 (x.n : Int), .int .i64 (x.s : Int), .int .i64 x.w]] w fun e w' => e = .returned (.int .i64 ((x.n + x.s : Nat) : Int)) ∧ Ext w w' := by
  obtain ⟨o, n, s, z⟩ := x
  dsimp only at hn hs
  go_enter Try.func48, Try.ntmps48
  go_wp2
  go_ret
  exact ⟨by rw [Int.natCast_add]; rfl, (Ext.refl w).alloc _⟩

theorem sum_take (l : List Nat) (k : Nat) (h : k < l.length) : (l.take (k + 1)).sum = (l.take k).sum + pt l k := by
  unfold pt
  rw [List.take_add_one, List.sum_append, List.getElem?_eq_getElem h]; simp
theorem sum_bound (l : List Nat) (c : Nat) (h : ∀ i, i < l.length → pt l i ≤ c) (k : Nat) (hk : k ≤ l.length) : (l.take k).sum ≤ k * c := by
  induction k with
  | zero => simp
  | succ k ih =>
    rw [sum_take l k (by omega)]
    have := ih (by omega)
    have := h k (by omega)
    rw [Nat.succ_mul]; omega

set_option maxHeartbeats 1000000 in
theorem sum_any (a : Option Addr) (c : Nat) (l : List Nat) (w : World) (h : IsSl 1 num w ⟨a, c, l⟩) (hl : l.length ≤ 16) (hb : ∀ i, i < l.length → pt l i ≤ 2000) :
    Calls Try.prog 54 #[.slice a l.length c] w fun e w' => e = .returned (.int .i64 (l.sum : Int)) ∧ Ext w w' := by
  obtain ⟨h1, h2, -⟩ := id h
  dsimp only at h1 h2
  have HP := Lib.hid h; clear h
  have HB := Lib.hid hb; clear hb
  go_enter Try.func54, Try.ntmps54
  go_wp2
  go_loopw [3, 8] (fun t s wr => ∃ k : Nat, k ≤ l.length ∧ s = .int .i64 (k : Int) ∧ t = .int .i64 ((l.take k).sum : Int) ∧ Hid (Ext w wr)) (fun _ s _ => l.length - (intOf s).toNat)
  case atStart => exact ⟨0, Nat.zero_le _, rfl, by simp, Ext.refl _⟩
  case round =>
    obtain ⟨wo, rfl⟩ : ∃ wo : World, wo = wr := ⟨_, rfl⟩
    obtain ⟨k, hk, rfl, rfl, HX⟩ := hrel
    by_cases hlt : k < l.length
    · have dk : decide ((k : Int) < (l.length : Int)) = true := decide_eq_true (by omega)
      obtain ⟨b, off, rfl, cp⟩ := part_cell (HP.out.ext HX.out) hlt
      have k1 : (0 : Int) ≤ k := by omega
      have k2 : (k : Int) < (l.length : Int) := by omega
      have HT := Lib.hid (sum_take l k hlt)
      have hs := sum_bound l 2000 HB.out k hk
      have hp := HB.out k hlt
      generalize (l.take k).sum = sk at *
      generalize pt l k = p at *
      go_wp2
      go_roundw
      case rel => exact ⟨k + 1, by omega, by go_num, by rw [HT.out, Int.natCast_add], HX⟩
      case measure => simp [intOf]; omega
    · have dk : decide ((k : Int) < (l.length : Int)) = false := decide_eq_false (by omega)
      have hke : l.take k = l := List.take_of_length_le (by omega)
      rw [hke]
      go_wp2
      go_ret
      exact ⟨rfl, HX.out⟩
end Go.Proofs.Ytlaolokakaheaaa
