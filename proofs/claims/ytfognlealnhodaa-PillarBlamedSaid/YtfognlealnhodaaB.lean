/-
  The small functions of package pillar by which profiles are checked (between, within, spanWithin, every, everyNext, isLess) return what their texts say, and turn nothing that was there; Check answers OK for a profile that is right. The lists must read as told, and function values must answer.
-/
import Derived.Test.YtfognlealnhodaaA
import Derived.Test.YtfognlealnhodaaP
import Derived.Deep.RegionHeld3
namespace Go.Proofs.Ytfognlealnhodaa
open Go.RowKit

/-- How a span lies in cells. -/
def spC (x : Nat × Nat) (j : Nat) : Value := if j = 0 then .int .i64 (x.1 : Int) else .int .i64 (x.2 : Int)
abbrev spV (x : Nat × Nat) : Value := .agg #[.int .i64 (x.1 : Int), .int .i64 (x.2 : Int)]

theorem between_any (n a b : Int) (w : World) :
    Calls Try.prog 59 #[.int .i64 n, .int .i64 a, .int .i64 b] w fun e w' => e = .returned (.bool (decide (a ≤ n) && decide (n ≤ b))) ∧ w = w' := by
  by_cases h : a ≤ n
  · go_enter Try.func59, Try.ntmps59
    go_wp2
    go_ret
    simp
    omega
  · go_enter Try.func59, Try.ntmps59
    go_wp2
    go_ret
    simp
    omega

theorem within_any (l m : Int) (w : World) :
    Calls Try.prog 67 #[.int .i64 l, .int .i64 m] w fun e w' => e = .returned (.func (.func 85) #[] #[.pointer (some ⟨w.heap.size, 0, none⟩), .pointer (some ⟨w.heap.size + 1, 0, none⟩)]) ∧ w' = (w.alloc (.cells #[.int .i64 l] 3)).alloc (.cells #[.int .i64 m] 3) := by
  go_enter Try.func67, Try.ntmps67
  go_wp2
  go_ret
  exact ⟨rfl, rfl⟩

theorem spanWithin_any (l m : Int) (w : World) :
    Calls Try.prog 69 #[.int .i64 l, .int .i64 m] w fun e w' => e = .returned (.func (.func 86) #[] #[.pointer (some ⟨w.heap.size, 0, none⟩), .pointer (some ⟨w.heap.size + 1, 0, none⟩)]) ∧ w' = (w.alloc (.cells #[.int .i64 l] 3)).alloc (.cells #[.int .i64 m] 3) := by
  go_enter Try.func69, Try.ntmps69
  go_wp2
  go_ret
  exact ⟨rfl, rfl⟩

/-- Two bounds lie in memory. -/
def Bds (w : World) (b1 b2 : Nat) (l m : Int) : Prop := w.cell? ⟨b1, 0, none⟩ = some (.int .i64 l) ∧ w.cell? ⟨b2, 0, none⟩ = some (.int .i64 m)
theorem Bds.ext {w w' : World} {b1 b2 : Nat} {l m : Int} (h : Bds w b1 b2 l m) (k : Ext w w') : Bds w' b1 b2 l m := ⟨k.cell h.1, k.cell h.2⟩
theorem bds_new (w : World) (l m : Int) : Bds ((w.alloc (.cells #[.int .i64 l] 3)).alloc (.cells #[.int .i64 m] 3)) w.heap.size (w.heap.size + 1) l m := by
  constructor
  · exact (cell_at ((alloc_old (by simp only [World.size_alloc]; omega)).trans (alloc_new rfl)) 0).trans rfl
  · exact (cell_at (alloc_new (by simp only [World.size_alloc])) 0).trans rfl

theorem within1_any (n l m : Int) (b1 b2 : Nat) (w : World) (h : Bds w b1 b2 l m) :
    Calls Try.prog 85 #[.int .i64 n, .pointer (some ⟨b1, 0, none⟩), .pointer (some ⟨b2, 0, none⟩)] w fun e w' => e = .returned (.bool (decide (l ≤ n) && decide (n ≤ m))) ∧ w = w' := by
  obtain ⟨h1, h2⟩ := h
  go_enter Try.func85, Try.ntmps85
  go_wp2_with (go_at_call 59; refine (between_any _ _ _ _).mono ?_; rintro e w' ⟨rfl, rfl⟩)
  go_ret
  exact ⟨rfl, rfl⟩

set_option maxHeartbeats 400000 in
theorem spanWithin1_any (x y l m : Int) (b1 b2 : Nat) (w : World) (h : Bds w b1 b2 l m) :
    Calls Try.prog 86 #[.agg #[.int .i64 x, .int .i64 y], .pointer (some ⟨b1, 0, none⟩), .pointer (some ⟨b2, 0, none⟩)] w fun e w' => e = .returned (.bool (decide (l ≤ x) && (decide (x ≤ y) && decide (y ≤ m)))) ∧ Ext w w' := by
  obtain ⟨h1, h2⟩ := h
  have l1 := lt_of_cell h1
  have l2 := lt_of_cell h2
  dsimp only at l1 l2
  by_cases q1 : l ≤ x <;> by_cases q2 : x ≤ y <;>
    (go_enter Try.func86, Try.ntmps86
     go_wp2
     all_goals
       go_ret
       refine ⟨ret_bool ?_, (Ext.refl w).alloc _⟩
       first | rfl | grind)

set_option maxHeartbeats 400000 in
theorem every_int (g : Nat) (cap : Array Value) (D : Nat → Prop) (p : Nat → Bool) (a : Option Addr) (n c : Nat) (l : List (Nat)) (w : World) (hE : Enters Try.prog g)
    (hn : l.length = n) (hv : IsSl 1 num w ⟨a, c, l⟩) (hD : ∀ x ∈ l, D x) (hp : Asks Try.prog g cap (fun x : Nat => #[.int .i64 (x : Int)]) D p w) :
    Calls Try.prog 45 #[.slice a n c, .func (.func g) #[] cap] w fun e w' => e = .returned (.bool (l.all p)) ∧ Ext w w' := by
  subst hn
  obtain ⟨h1, h2, h3⟩ := hv
  dsimp only at h1 h2 h3
  have H3 := Lib.hid h3; clear h3
  have HP := Lib.hid hp; clear hp
  have HD := Lib.hid hD; clear hD
  have HE : ∀ args w, (callFunc g args).run Try.prog w = .ok (.enter g args) w := hE; clear hE
  go_enter Try.func45, Try.ntmps45
  go_wp2
  go_loopw [9] (fun i wr => ∃ k : Nat, k ≤ l.length ∧ i = .int .i64 k ∧ (l.take k).all p = true ∧ Ext w wr) (fun i _ => l.length - (intOf i).toNat)
  case atStart => exact ⟨0, Nat.zero_le _, rfl, by simp, Ext.refl _⟩
  case round =>
    obtain ⟨k, hk, rfl, hall, hext⟩ := hrel
    by_cases hlt : k < l.length
    · obtain ⟨b, off, rfl, hc⟩ := H3.out.resolve_left (by omega)
      have hcell0 : wr.cell? ⟨b, off + k, none⟩ = some (Value.int .i64 (l[k] : Int)) := by have := hext.cell (hc k hlt 0 (by omega)); simpa [num] using this
      clear hc
      generalize hx : l[k] = x at *
      have Hx := Lib.hid hx; clear hx
      have HX := Lib.hid hext; clear hext
      have HA := Lib.hid hall; clear hall
      go_wp2_with fail
      refine (HP.out x (HD.out x (by rw [← Hx.out]; exact List.getElem_mem _)) _ HX.out).mono ?_
      rintro e w1 ⟨rfl, hx1⟩
      have HX1 := Lib.hid (HX.out.trans hx1); clear hx1
      cases hpx : p x
      · have Hpx := Lib.hid hpx; clear hpx
        go_wp2
        go_ret
        refine ⟨?_, HX1.out⟩
        have : l.all p = false := by
          rw [List.all_eq_false]; exact ⟨x, by rw [← Hx.out]; exact List.getElem_mem _, by simp [Hpx.out]⟩
        rw [this]; rfl
      · have Hpx := Lib.hid hpx; clear hpx
        go_wp2
        go_roundw
        case rel => exact ⟨k + 1, by omega, by go_num, by rw [all_take_succ _ _ _ hlt, HA.out, Hx.out, Hpx.out]; rfl, HX1.out⟩
        case measure => simp [intOf]; omega
    · have HX := Lib.hid hext; clear hext
      have HA := Lib.hid hall; clear hall
      go_wp2
      go_ret
      refine ⟨?_, HX.out⟩
      have := HA.out
      rw [List.take_of_length_le (by omega)] at this
      rw [this]; rfl

set_option maxHeartbeats 400000 in
theorem every_span (g : Nat) (cap : Array Value) (D : Nat × Nat → Prop) (p : Nat × Nat → Bool) (a : Option Addr) (n c : Nat) (l : List (Nat × Nat)) (w : World) (hE : Enters Try.prog g)
    (hn : l.length = n) (hv : IsSl 2 spC w ⟨a, c, l⟩) (hD : ∀ x ∈ l, D x) (hp : Asks Try.prog g cap (fun x : Nat × Nat => #[spV x]) D p w) :
    Calls Try.prog 68 #[.slice a n c, .func (.func g) #[] cap] w fun e w' => e = .returned (.bool (l.all p)) ∧ Ext w w' := by
  subst hn
  obtain ⟨h1, h2, h3⟩ := hv
  dsimp only at h1 h2 h3
  have H3 := Lib.hid h3; clear h3
  have HP := Lib.hid hp; clear hp
  have HD := Lib.hid hD; clear hD
  have HE : ∀ args w, (callFunc g args).run Try.prog w = .ok (.enter g args) w := hE; clear hE
  go_enter Try.func68, Try.ntmps68
  go_wp2
  go_loopw [9] (fun i wr => ∃ k : Nat, k ≤ l.length ∧ i = .int .i64 k ∧ (l.take k).all p = true ∧ Ext w wr) (fun i _ => l.length - (intOf i).toNat)
  case atStart => exact ⟨0, Nat.zero_le _, rfl, by simp, Ext.refl _⟩
  case round =>
    obtain ⟨k, hk, rfl, hall, hext⟩ := hrel
    by_cases hlt : k < l.length
    · obtain ⟨b, off, rfl, hc⟩ := H3.out.resolve_left (by omega)
      have hcell0 : wr.cell? ⟨b, off + k * 2, none⟩ = some (Value.int .i64 (l[k].1 : Int)) := by have := hext.cell (hc k hlt 0 (by omega)); simpa [spC] using this
      have hcell1 : wr.cell? ⟨b, off + k * 2 + 1, none⟩ = some (Value.int .i64 (l[k].2 : Int)) := by have := hext.cell (hc k hlt 1 (by omega)); simpa [spC] using this
      clear hc
      generalize hx : l[k] = x at *
      have Hx := Lib.hid hx; clear hx
      have HX := Lib.hid hext; clear hext
      have HA := Lib.hid hall; clear hall
      go_wp2_with fail
      refine (HP.out x (HD.out x (by rw [← Hx.out]; exact List.getElem_mem _)) _ (HX.out.alloc _)).mono ?_
      rintro e w1 ⟨rfl, hx1⟩
      have HX1 := Lib.hid ((HX.out.alloc _).trans hx1); clear hx1
      cases hpx : p x
      · have Hpx := Lib.hid hpx; clear hpx
        go_wp2
        go_ret
        refine ⟨?_, HX1.out⟩
        have : l.all p = false := by
          rw [List.all_eq_false]; exact ⟨x, by rw [← Hx.out]; exact List.getElem_mem _, by simp [Hpx.out]⟩
        rw [this]; rfl
      · have Hpx := Lib.hid hpx; clear hpx
        go_wp2
        go_roundw
        case rel => exact ⟨k + 1, by omega, by go_num, by rw [all_take_succ _ _ _ hlt, HA.out, Hx.out, Hpx.out]; rfl, HX1.out⟩
        case measure => simp [intOf]; omega
    · have HX := Lib.hid hext; clear hext
      have HA := Lib.hid hall; clear hall
      go_wp2
      go_ret
      refine ⟨?_, HX.out⟩
      have := HA.out
      rw [List.take_of_length_le (by omega)] at this
      rw [this]; rfl

theorem enters_85 : Enters Try.prog 85 := fun args w => Proofs.enters_of Try.func85 (by kernel_rfl) rfl args w
theorem enters_86 : Enters Try.prog 86 := fun args w => Proofs.enters_of Try.func86 (by kernel_rfl) rfl args w
theorem enters_71 : Enters Try.prog 71 := fun args w => Proofs.enters_of Try.func71 (by kernel_rfl) rfl args w

theorem within_asks (l m : Int) (b1 b2 : Nat) (w : World) (h : Bds w b1 b2 l m) :
    Asks Try.prog 85 #[.pointer (some ⟨b1, 0, none⟩), .pointer (some ⟨b2, 0, none⟩)] (fun n : Nat => #[.int .i64 (n : Int)]) (fun _ => True) (fun n : Nat => decide (l ≤ (n : Int)) && decide ((n : Int) ≤ m)) w := by
  intro n _ w' hw
  refine (within1_any n l m b1 b2 w' (h.ext hw)).mono ?_
  rintro e w'' ⟨rfl, rfl⟩
  exact ⟨rfl, Ext.refl _⟩
theorem spanWithin_asks (l m : Int) (b1 b2 : Nat) (w : World) (h : Bds w b1 b2 l m) :
    Asks Try.prog 86 #[.pointer (some ⟨b1, 0, none⟩), .pointer (some ⟨b2, 0, none⟩)] (fun x : Nat × Nat => #[spV x]) (fun _ => True) (fun x : Nat × Nat => decide (l ≤ (x.1 : Int)) && (decide ((x.1 : Int) ≤ (x.2 : Int)) && decide ((x.2 : Int) ≤ m))) w := by
  intro x _ w' hw
  exact spanWithin1_any x.1 x.2 l m b1 b2 w' (h.ext hw)

theorem isLess_any (a b : Int) (w : World) : Calls Try.prog 71 #[.int .i64 a, .int .i64 b] w fun e w' => e = .returned (.bool (decide (a < b))) ∧ w = w' := by
  go_enter Try.func71, Try.ntmps71
  go_wp2
  go_ret
  exact ⟨rfl, rfl⟩

/-- A function value that answers for two numbers, and turns nothing. -/
def Asks2 (P : Program) (g : Nat) (cap : Array Value) (D : Nat → Nat → Prop) (p : Nat → Nat → Bool) (w : World) : Prop :=
  ∀ (x y : Nat), D x y → ∀ (w' : World), Ext w w' → Calls P g (#[.int .i64 (x : Int), .int .i64 (y : Int)] ++ cap) w' fun e w'' => e = .returned (.bool (p x y)) ∧ w' = w''

/-- Something holds for every element of the first n of a list and the one behind it. -/
def nextB (p : Nat → Nat → Bool) (l : List Nat) : Nat → Bool
  | 0 => true
  | n + 1 => nextB p l n && p ((l[n]?).getD 0) ((l[n + 1]?).getD 0)
theorem nextB_false {p : Nat → Nat → Bool} {l : List Nat} {n : Nat} (h : nextB p l n = false) : ∀ {m : Nat}, n ≤ m → nextB p l m = false
  | 0, hm => by rw [show n = 0 by omega] at h; exact h
  | m + 1, hm => by
    rcases Nat.lt_or_eq_of_le hm with h' | h'
    · simp [nextB, nextB_false h (show n ≤ m by omega)]
    · rw [← h']; exact h
theorem nextB_true {p : Nat → Nat → Bool} {l : List Nat} {n : Nat} : nextB p l n = true ↔ ∀ k, k < n → p ((l[k]?).getD 0) ((l[k + 1]?).getD 0) = true := by
  induction n with
  | zero => simp [nextB]
  | succ n ih =>
    simp only [nextB, Bool.and_eq_true, ih]
    constructor
    · rintro ⟨h1, h2⟩ k hk
      rcases Nat.lt_succ_iff_lt_or_eq.1 hk with h | rfl
      · exact h1 k h
      · exact h2
    · intro h; exact ⟨fun k hk => h k (by omega), h n (by omega)⟩

set_option maxHeartbeats 1000000 in
theorem everyNext_any (g : Nat) (cap : Array Value) (D : Nat → Nat → Prop) (p : Nat → Nat → Bool) (s : SL Nat) (w : World) (hE : Enters Try.prog g) (hv : IsSl 1 num w s)
    (hD : ∀ k, k + 1 < s.l.length → D ((s.l[k]?).getD 0) ((s.l[k + 1]?).getD 0)) (hp : Asks2 Try.prog g cap D p w) :
    Calls Try.prog 70 #[.slice s.a s.l.length s.c, .func (.func g) #[] cap] w fun e w' => e = .returned (.bool (nextB p s.l (s.l.length - 1))) ∧ Ext w w' := by
  obtain ⟨a, c, l⟩ := s
  obtain ⟨h1, h2, h3⟩ := hv
  dsimp only at h1 h2 h3 hD ⊢
  have H3 := Lib.hid h3; clear h3
  have HP := Lib.hid hp; clear hp
  have HD := Lib.hid hD; clear hD
  have HE : ∀ args w, (callFunc g args).run Try.prog w = .ok (.enter g args) w := hE; clear hE
  go_enter Try.func70, Try.ntmps70
  go_wp2
  go_loopw [5] (fun i wr => ∃ j : Nat, i = .int .i64 ((j : Int) + 1) ∧ (j = 0 ∨ j + 1 ≤ l.length) ∧ Hid (nextB p l j = true) ∧ Hid (Ext w wr)) (fun i _ => l.length + 1 - (intOf i).toNat)
  case atStart => exact ⟨0, rfl, .inl rfl, rfl, Ext.refl _⟩
  case round =>
    obtain ⟨wo, rfl⟩ : ∃ wo : World, wo = wr := ⟨_, rfl⟩
    obtain ⟨j, rfl, hj, HN, HX⟩ := hrel
    by_cases hlt : j + 1 < l.length
    · obtain ⟨b, off, rfl, hc⟩ := H3.out.resolve_left (by omega)
      have hcell0 : wo.cell? ⟨b, off + j, none⟩ = some (.int .i64 (((l[j]?).getD 0 : Nat) : Int)) := by have := HX.out.cell (hc j (by omega) 0 (by omega)); rw [List.getElem?_eq_getElem (show j < l.length by omega)]; simpa [num] using this
      have hcell1 : wo.cell? ⟨b, off + (j + 1), none⟩ = some (.int .i64 (((l[j + 1]?).getD 0 : Nat) : Int)) := by have := HX.out.cell (hc (j + 1) (by omega) 0 (by omega)); rw [List.getElem?_eq_getElem hlt]; simpa [num] using this
      have HC := Lib.hid (fun n => HP.out _ _ (HD.out j hlt) (wo.drewN n) (HX.out.drewN n))
      have HS : Hid (nextB p l (j + 1) = p ((l[j]?).getD 0) ((l[j + 1]?).getD 0)) := by show _ = _; simp only [nextB]; rw [HN.out]; rfl
      clear hc
      generalize (l[j]?).getD 0 = x at *
      generalize (l[j + 1]?).getD 0 = y at *
      have hj2 : j + 1 ≤ 1000000 := by omega
      clear hj
      have hd : decide ((j : Int) + 1 < (l.length : Int)) = true := by simp; omega
      have i1 : (0 : Int) ≤ j := by omega
      have i2 : (j : Int) < (l.length : Int) := by omega
      have i3 : (j : Int) + 1 < (l.length : Int) := by omega
      cases hpx : p x y
      · rw [hpx] at HC HS
        clear hpx
        go_wp2_with fail
        go_quiet (exact quiet_same (HC.out _))
        go_wp2
        go_ret
        exact ⟨by rw [nextB_false HS.out (by omega)]; rfl, HX.out.drewN _⟩
      · rw [hpx] at HC HS
        clear hpx
        go_wp2_with fail
        go_quiet (exact quiet_same (HC.out _))
        go_wp2
        go_roundw
        case rel => exact ⟨j + 1, by simp, .inr (by omega), HS, HX.out.drewN _⟩
        case measure => simp [intOf]; omega
    · have hd : decide ((j : Int) + 1 < (l.length : Int)) = false := by simp; omega
      have hj2 : j + 1 ≤ 1000000 + 1 := by omega
      have HL : Hid (nextB p l (l.length - 1) = true) := by
        have := HN.out
        rcases hj with rfl | hj
        · rw [show l.length - 1 = 0 by omega]; rfl
        · rw [show l.length - 1 = j by omega]; exact this
      clear hj
      go_wp2
      go_ret
      exact ⟨by rw [HL.out]; rfl, HX.out⟩
end Go.Proofs.Ytfognlealnhodaa
