/-
  The small functions of package barter by which lands are checked (between, within, every) return what their texts say, and turn nothing that was there. The lists must read as told, and function values must answer.
-/
import Derived.Test.YtlaolokakaheaaaA
import Derived.Test.YtlaolokakaheaaaEB
import Derived.Deep.RegionHeld3
namespace Go.Proofs.Ytlaolokakaheaaa
open Go.RowKit

theorem between_any (n a b : Int) (w : World) :
    Calls Try.prog 34 #[.int .i64 n, .int .i64 a, .int .i64 b] w fun e w' => e = .returned (.bool (decide (a ≤ n) && decide (n ≤ b))) ∧ w = w' := by
  by_cases h : a ≤ n
  · go_enter Try.func34, Try.ntmps34
    go_wp2
    go_ret
    simp
    omega
  · go_enter Try.func34, Try.ntmps34
    go_wp2
    go_ret
    simp
    omega
theorem within_any (l m : Int) (w : World) :
    Calls Try.prog 46 #[.int .i64 l, .int .i64 m] w fun e w' => e = .returned (.func (.func 64) #[] #[.pointer (some ⟨w.heap.size, 0, none⟩), .pointer (some ⟨w.heap.size + 1, 0, none⟩)]) ∧ w' = (w.alloc (.cells #[.int .i64 l] 3)).alloc (.cells #[.int .i64 m] 3) := by
  go_enter Try.func46, Try.ntmps46
  go_wp2
  go_ret
  exact ⟨rfl, rfl⟩
/-- Two bounds lie in memory. -/
def Bds (w : World) (b1 b2 : Nat) (l m : Int) : Prop := w.cell? ⟨b1, 0, none⟩ = some (.int .i64 l) ∧ w.cell? ⟨b2, 0, none⟩ = some (.int .i64 m)
theorem Bds.ext {w w' : World} {b1 b2 : Nat} {l m : Int} (h : Bds w b1 b2 l m) (k : Ext w w') : Bds w' b1 b2 l m := ⟨k.cell h.1, k.cell h.2⟩
theorem bds_new (w : World) (l m : Int) : Bds ((w.alloc (.cells #[.int .i64 l] 3)).alloc (.cells #[.int .i64 m] 3)) w.heap.size (w.heap.size + 1) l m := by
  constructor
  · exact (cell_at ((alloc_old (by simp only [World.size_alloc]; omega)).trans (alloc_new rfl)) 0).trans rfl
  · exact (cell_at (alloc_new (by simp only [World.size_alloc])) 0).trans rfl
theorem within1_any (n l m : Int) (b1 b2 : Nat) (w : World) (h : Bds w b1 b2 l m) :
    Calls Try.prog 64 #[.int .i64 n, .pointer (some ⟨b1, 0, none⟩), .pointer (some ⟨b2, 0, none⟩)] w fun e w' => e = .returned (.bool (decide (l ≤ n) && decide (n ≤ m))) ∧ w = w' := by
  obtain ⟨h1, h2⟩ := h
  go_enter Try.func64, Try.ntmps64
  go_wp2_with (go_at_call 34; refine (between_any _ _ _ _).mono ?_; rintro e w' ⟨rfl, rfl⟩)
  go_ret
  exact ⟨rfl, rfl⟩
set_option maxHeartbeats 400000 in
theorem every_int (g : Nat) (cap : Array Value) (D : Nat → Prop) (p : Nat → Bool) (a : Option Addr) (n c : Nat) (l : List (Nat)) (w : World) (hE : Enters Try.prog g)
    (hn : l.length = n) (hv : IsSl 1 num w ⟨a, c, l⟩) (hD : ∀ x ∈ l, D x) (hp : Asks Try.prog g cap (fun x : Nat => #[.int .i64 (x : Int)]) D p w) :
    Calls Try.prog 45 #[.slice a n c, .func (.func g) #[] cap] w fun e w' => e = .returned (.bool (l.all p)) ∧ Ext w w' := by
  subst hn
  obtain ⟨h1, h2, h3⟩ := hv
  dsimp only at h1 h2 h3
  have H3 := Lib.hid h3; clear h3
  have HP := Lib.hid hp; clear hp
  have HD := Lib.hid hD; clear hD
  have HE : ∀ args w, (callFunc g args).run Try.prog w = .ok (.enter g args) w := hE; clear hE
  go_enter Try.func45, Try.ntmps45
  go_wp2
  go_loopw [9] (fun i wr => ∃ k : Nat, k ≤ l.length ∧ i = .int .i64 k ∧ (l.take k).all p = true ∧ Ext w wr) (fun i _ => l.length - (intOf i).toNat)
  case atStart => exact ⟨0, Nat.zero_le _, rfl, by simp, Ext.refl _⟩
  case round =>
    obtain ⟨k, hk, rfl, hall, hext⟩ := hrel
    by_cases hlt : k < l.length
    · obtain ⟨b, off, rfl, hc⟩ := H3.out.resolve_left (by omega)
      have hcell0 : wr.cell? ⟨b, off + k, none⟩ = some (Value.int .i64 (l[k] : Int)) := by have := hext.cell (hc k hlt 0 (by omega)); simpa [num] using this
      clear hc
      generalize hx : l[k] = x at *
      have Hx := Lib.hid hx; clear hx
      have HX := Lib.hid hext; clear hext
      have HA := Lib.hid hall; clear hall
      go_wp2_with fail
      refine (HP.out x (HD.out x (by rw [← Hx.out]; exact List.getElem_mem _)) _ HX.out).mono ?_
      rintro e w1 ⟨rfl, hx1⟩
      have HX1 := Lib.hid (HX.out.trans hx1); clear hx1
      cases hpx : p x
      · have Hpx := Lib.hid hpx; clear hpx
        go_wp2
        go_ret
        refine ⟨?_, HX1.out⟩
        have : l.all p = false := by
          rw [List.all_eq_false]; exact ⟨x, by rw [← Hx.out]; exact List.getElem_mem _, by simp [Hpx.out]⟩
        rw [this]; rfl
      · have Hpx := Lib.hid hpx; clear hpx
        go_wp2
        go_roundw
        case rel => exact ⟨k + 1, by omega, by go_num, by rw [all_take_succ _ _ _ hlt, HA.out, Hx.out, Hpx.out]; rfl, HX1.out⟩
        case measure => simp [intOf]; omega
    · have HX := Lib.hid hext; clear hext
      have HA := Lib.hid hall; clear hall
      go_wp2
      go_ret
      refine ⟨?_, HX.out⟩
      have := HA.out
      rw [List.take_of_length_le (by omega)] at this
      rw [this]; rfl
theorem enters_64 : Enters Try.prog 64 := fun args w => Proofs.enters_of Try.func64 (by kernel_rfl) rfl args w
theorem within_asks (l m : Int) (b1 b2 : Nat) (w : World) (h : Bds w b1 b2 l m) :
    Asks Try.prog 64 #[.pointer (some ⟨b1, 0, none⟩), .pointer (some ⟨b2, 0, none⟩)] (fun n : Nat => #[.int .i64 (n : Int)]) (fun _ => True) (fun n : Nat => decide (l ≤ (n : Int)) && decide ((n : Int) ≤ m)) w := by
  intro n _ w' hw
  refine (within1_any n l m b1 b2 w' (h.ext hw)).mono ?_
  rintro e w'' ⟨rfl, rfl⟩
  exact ⟨rfl, Ext.refl _⟩
end Go.Proofs.Ytlaolokakaheaaa
