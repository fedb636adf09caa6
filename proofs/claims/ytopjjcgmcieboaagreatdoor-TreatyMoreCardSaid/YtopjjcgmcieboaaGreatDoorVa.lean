/-
  slices.Reverse at lists of numbers turns a row of the call's own round, and nothing else.
-/
import Derived.Test.YtopjjcgmcieboaaGreatDoorU
import Derived.RegionTactic
import Derived.Test.YtopjjcgmcieboaaGreatDoorX
namespace Go.Proofs.YtopjjcgmcieboaaGreatDoor
open Go.RowKit

/-- A list of which the first k and the last k are turned round. -/
def revTo (l : List Nat) (k : Nat) : List Nat := (List.range l.length).map fun i => if i < k ∨ l.length - k ≤ i then l.getD (l.length - 1 - i) 0 else l.getD i 0
theorem revTo_length (l : List Nat) (k : Nat) : (revTo l k).length = l.length := by simp [revTo]
theorem revTo_get (l : List Nat) (k i : Nat) (h : i < (revTo l k).length) : (revTo l k)[i] = if i < k ∨ l.length - k ≤ i then l.getD (l.length - 1 - i) 0 else l.getD i 0 := by simp [revTo]
theorem revTo_zero (l : List Nat) : revTo l 0 = l := by
  apply List.ext_getElem (revTo_length _ _)
  intro i h1 h2
  rw [revTo_get, if_neg (by omega)]; simp [h2]
theorem revTo_end (l : List Nat) (k : Nat) (h : l.length ≤ 2 * k + 1) : revTo l k = l.reverse := by
  apply List.ext_getElem (by simp [revTo_length])
  intro i h1 h2
  rw [revTo_length] at h1
  rw [revTo_get, List.getElem_reverse]
  split
  · rw [List.getD_eq_getElem?_getD, List.getElem?_eq_getElem (by omega)]; rfl
  · have : i = l.length - 1 - i := by omega
    rw [List.getD_eq_getElem?_getD, List.getElem?_eq_getElem (by omega)]
    simp only [Option.getD_some]
    congr 1
theorem revTo_step (l : List Nat) (k : Nat) (h : 2 * k + 1 < l.length) (h1 : k < (revTo l k).length) (h2 : l.length - 1 - k < (revTo l k).length) :
    ((revTo l k).set k (revTo l k)[l.length - 1 - k]).set (l.length - 1 - k) (revTo l k)[k] = revTo l (k + 1) := by
  have ek : (revTo l k)[k] = l.getD k 0 := by rw [revTo_get, if_neg (by omega)]
  have ej : (revTo l k)[l.length - 1 - k] = l.getD (l.length - 1 - k) 0 := by rw [revTo_get, if_neg (by omega)]
  rw [ek, ej]
  apply List.ext_getElem (by simp [revTo_length])
  intro i q1 q2
  rw [revTo_length] at q2
  rw [List.getElem_set, List.getElem_set, revTo_get l (k + 1)]
  by_cases e1 : l.length - 1 - k = i
  · subst e1
    rw [if_pos rfl, if_pos (by omega), show l.length - 1 - (l.length - 1 - k) = k by omega]
  · rw [if_neg e1]
    by_cases e2 : k = i
    · subst e2; rw [if_pos rfl, if_pos (by omega)]
    · rw [if_neg e2, revTo_get]
      by_cases e3 : i < k ∨ l.length - k ≤ i
      · rw [if_pos e3, if_pos (by omega)]
      · rw [if_neg e3, if_neg (by omega)]

set_option maxRecDepth 100000 in
set_option maxHeartbeats 2000000 in
theorem rev_row (g c : Nat) (l : List Nat) (w : World) (h : Row w g l c) (hn : l.length ≤ 1000) :
    Calls Tryz.prog 119 #[.slice (some ⟨g, 0, none⟩) l.length c] w fun e w' => e = .returned (.tuple #[]) ∧ Row w' g l.reverse c ∧ DExt g w w' := by
  have hH : Row w g (revTo l 0) c := by rw [revTo_zero]; exact h
  have HH := Lib.hid hH; clear hH h
  go_enter Tryz.func119, Tryz.ntmps119
  go_wp2_with fail
  go_loopw [2, 3] (fun i j wr => ∃ k : Nat, k ≤ l.length ∧ i = .int .i64 k ∧ j = .int .i64 ((l.length : Int) - 1 - k) ∧ Hid (Row wr g (revTo l k) c) ∧ Hid (DExt g w wr)) (fun i _ _ => l.length - (intOf i).toNat)
  case atStart => exact ⟨0, Nat.zero_le _, rfl, by simp, HH, DExt.refl _ _⟩
  case round =>
    obtain ⟨wo, rfl⟩ : ∃ wo : World, wo = wr := ⟨_, rfl⟩
    obtain ⟨k, hk, rfl, rfl, HR, HX⟩ := hrel
    by_cases hlt : 2 * k + 1 < l.length
    · have hst := revTo_step l k hlt (by rw [revTo_length]; omega) (by rw [revTo_length]; omega)
      obtain ⟨j, hj⟩ : ∃ j : Nat, l.length - 1 - k = j := ⟨_, rfl⟩
      have eJ : (l.length : Int) - 1 - k = (j : Int) := by omega
      simp only [hj] at hst
      rw [eJ]
      have c1 := HR.out.cell k (by rw [revTo_length]; omega)
      have c2 := HR.out.cell j (by rw [revTo_length]; omega)
      have f1 := HR.out.frozen k
      have f2 := HR.out.frozen j
      have HR2 := Lib.hid ((HR.out.set k ((revTo l k)[j]'(by rw [revTo_length]; omega)) (by rw [revTo_length]; omega)).set j ((revTo l k)[k]'(by rw [revTo_length]; omega)) (by rw [List.length_set, revTo_length]; omega))
      rw [hst] at HR2
      generalize (revTo l k)[k]'(by rw [revTo_length]; omega) = x at *
      generalize (revTo l k)[j]'(by rw [revTo_length]; omega) = y at *
      clear hst
      have dk : decide ((k : Int) < (j : Int)) = true := decide_eq_true (by omega)
      have i0 : (0 : Int) ≤ k := by omega
      have i1 : (k : Int) < l.length := by omega
      have j0 : (0 : Int) ≤ j := by omega
      have j1 : (j : Int) < l.length := by omega
      have n1 : ¬ k = j := by omega
      have n2 : ¬ j = k := by omega
      go_wp2_with fail
      go_region
      go_wp2
      go_roundw
      case rel => exact ⟨k + 1, by omega, by go_num, by rw [show ((j : Int) - 1) = (l.length : Int) - 1 - ((k + 1 : Nat) : Int) by omega], HR2, ((HX.out.setD k _).setD j _).drew'⟩
      case measure => simp [intOf]; omega
    · have dk : decide ((k : Int) < (l.length : Int) - 1 - k) = false := decide_eq_false (by omega)
      have HR2 := HR.out
      rw [revTo_end l k (by omega)] at HR2
      have HR3 := Lib.hid HR2; clear HR2
      go_wp2
      go_end0
      exact ⟨rfl, HR3.out, HX.out⟩
theorem rev_nil (w : World) : Calls Tryz.prog 119 #[.slice none 0 0] w fun e w' => e = .returned (.tuple #[]) ∧ w = w' := by
  go_enter Tryz.func119, Tryz.ntmps119
  go_wp2_with fail
  go_loopw [2, 3] (fun i j wr => i = .int .i64 0 ∧ j = .int .i64 (-1) ∧ w = wr) (fun _ _ _ => 0)
  case atStart => exact ⟨rfl, rfl, rfl⟩
  case round =>
    obtain ⟨rfl, rfl, rfl⟩ := hrel
    go_wp2
    go_end0
    exact ⟨rfl, rfl⟩

/-- A row that was turned round. -/
theorem rev_own (base : Nat) (a : Option Addr) (c : Nat) (l : List Nat) (w : World) (h : w.ownsRow base 3 1 (.slice a l.length c) l.length (nums l)) (hn : l.length ≤ 1000) :
    Calls Tryz.prog 119 #[.slice a l.length c] w fun e w' => e = .returned (.tuple #[]) ∧ w'.ownsRow base 3 1 (.slice a l.length c) l.length (nums l.reverse) ∧ Below base w w' := by
  have h' := h
  obtain ⟨h1, h2⟩ := h
  rcases h2 with ⟨h2, h3⟩ | ⟨g, cap, cur, h2, hb, hh, hn', hm, hs, ht⟩
  · have e0 : l = [] := List.eq_nil_of_length_eq_zero h3
    subst e0
    simp only [List.length_nil, Value.slice.injEq] at h2
    obtain ⟨rfl, _, rfl⟩ := h2
    refine (rev_nil w).mono ?_
    rintro e w' ⟨rfl, rfl⟩
    exact ⟨rfl, h', Below.refl _ _⟩
  · simp only [Value.slice.injEq] at h2
    obtain ⟨rfl, _, rfl⟩ := h2
    obtain ⟨hrow, hbg⟩ := Row.of_own h'
    refine (rev_row g _ l w hrow hn).mono ?_
    rintro e w' ⟨rfl, hr, hx⟩
    refine ⟨rfl, ?_, ?_⟩
    · have := hr.own hbg hm
      rwa [List.length_reverse] at this
    · exact ⟨hx.os, hx.tape, hx.output, hx.size, fun k hk => hx.block k (by have := hrow.lt; omega) (fun e => by cases e; omega)⟩

end Go.Proofs.YtopjjcgmcieboaaGreatDoor
