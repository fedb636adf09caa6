/-
  Several texts in one. Small functions of package treaty (between, under, increasing, every) return what their texts say, and turn nothing that was there. No condition but that ints are read as ints. The function every of package treaty, at each of its types, tells whether a function value answers true for all elements of a list, and turns nothing that was there. The function value must answer for each element, and the list must read as told. The function every of package treaty, at each of its types, tells whether a function value answers true for all elements of a list, and turns nothing that was there. The function value must answer for each element, and the list must read as told. The function increasing of package treaty returns true for lists that are strictly increasing, and turns nothing that was there.
-/
import Derived.Test.YtopjjcgmcieboaaGreatDoorProg
import Derived.Test.YtopjjcgmcieboaaGreatDoorCore
import Derived.Shelf.Abstract
namespace Go.Proofs.YtopjjcgmcieboaaGreatDoor
open Go.RowKit

theorem between_any (n a b : Int) (w : World) :
    Calls Tryz.prog 92 #[.int .i64 n, .int .i64 a, .int .i64 b] w fun e w' => e = .returned (.bool (decide (a ≤ n) && decide (n ≤ b))) ∧ w = w' := by
  by_cases h : a ≤ n
  · go_enter Tryz.func92, Tryz.ntmps92
    go_wp2
    go_ret
    simp
    omega
  · go_enter Tryz.func92, Tryz.ntmps92
    go_wp2
    go_ret
    simp
    omega

theorem under1_any (n x : Int) (b : Nat) (w : World) (hx : 0 ≤ x ∧ x ≤ 1000000) (hc : w.cell? ⟨b, 0, none⟩ = some (.int .i64 x)) :
    Calls Tryz.prog 101 #[.int .i64 n, .pointer (some ⟨b, 0, none⟩)] w fun e w' => e = .returned (.bool (decide (0 ≤ n) && decide (n ≤ x - 1))) ∧ w = w' := by
  obtain ⟨h0, h1⟩ := hx
  go_enter Tryz.func101, Tryz.ntmps101
  go_wp2_with (go_at_call 92; refine (between_any _ _ _ _).mono ?_; rintro e w' ⟨rfl, rfl⟩)
  go_ret
  exact ⟨rfl, rfl⟩

theorem under_any (x : Int) (w : World) :
    Calls Tryz.prog 61 #[.int .i64 x] w fun e w' => e = .returned (.func (.func 101) #[] #[.pointer (some ⟨w.heap.size, 0, none⟩)]) ∧ w' = w.alloc (.cells #[.int .i64 x] 3) := by
  go_enter Tryz.func61, Tryz.ntmps61
  go_wp2
  go_ret
  exact ⟨rfl, rfl⟩


end Go.Proofs.YtopjjcgmcieboaaGreatDoor

namespace Go.Proofs.YtopjjcgmcieboaaGreatDoor
open Go.RowKit

set_option maxHeartbeats 400000 in
theorem every_int (g : Nat) (cap : Array Value) (D : Nat → Prop) (p : Nat → Bool) (a : Option Addr) (n c : Nat) (l : List (Nat)) (w : World) (hE : Enters Tryz.prog g)
    (hn : l.length = n) (hv : IsSl 1 num w ⟨a, c, l⟩) (hD : ∀ x ∈ l, D x) (hp : Asks Tryz.prog g cap (fun x : Nat => #[.int .i64 (x : Int)]) D p w) :
    Calls Tryz.prog 64 #[.slice a n c, .func (.func g) #[] cap] w fun e w' => e = .returned (.bool (l.all p)) ∧ Ext w w' := by
  subst hn
  obtain ⟨h1, h2, h3⟩ := hv
  dsimp only at h1 h2 h3
  have H3 := Lib.hid h3; clear h3
  have HP := Lib.hid hp; clear hp
  have HD := Lib.hid hD; clear hD
  have HE : ∀ args w, (callFunc g args).run Tryz.prog w = .ok (.enter g args) w := hE; clear hE
  go_enter Tryz.func64, Tryz.ntmps64
  go_wp2
  go_loopw [9] (fun i wr => ∃ k : Nat, k ≤ l.length ∧ i = .int .i64 k ∧ (l.take k).all p = true ∧ Ext w wr) (fun i _ => l.length - (intOf i).toNat)
  case atStart => exact ⟨0, Nat.zero_le _, rfl, by simp, Ext.refl _⟩
  case round =>
    obtain ⟨k, hk, rfl, hall, hext⟩ := hrel
    by_cases hlt : k < l.length
    · obtain ⟨b, off, rfl, hc⟩ := H3.out.resolve_left (by omega)
      have hcell0 : wr.cell? ⟨b, off + k, none⟩ = some (Value.int .i64 (l[k] : Int)) := by have := hext.cell (hc k hlt 0 (by omega)); simpa [num] using this
      clear hc
      generalize hx : l[k] = x at *
      have Hx := Lib.hid hx; clear hx
      have HX := Lib.hid hext; clear hext
      have HA := Lib.hid hall; clear hall
      go_wp2_with fail
      refine (HP.out x (HD.out x (by rw [← Hx.out]; exact List.getElem_mem _)) _ HX.out).mono ?_
      rintro e w1 ⟨rfl, hx1⟩
      have HX1 := Lib.hid (HX.out.trans hx1); clear hx1
      cases hpx : p x
      · have Hpx := Lib.hid hpx; clear hpx
        go_wp2
        go_ret
        refine ⟨?_, HX1.out⟩
        have : l.all p = false := by
          rw [List.all_eq_false]; exact ⟨x, by rw [← Hx.out]; exact List.getElem_mem _, by simp [Hpx.out]⟩
        rw [this]; rfl
      · have Hpx := Lib.hid hpx; clear hpx
        go_wp2
        go_roundw
        case rel => exact ⟨k + 1, by omega, by go_num, by rw [all_take_succ _ _ _ hlt, HA.out, Hx.out, Hpx.out]; rfl, HX1.out⟩
        case measure => simp [intOf]; omega
    · have HX := Lib.hid hext; clear hext
      have HA := Lib.hid hall; clear hall
      go_wp2
      go_ret
      refine ⟨?_, HX.out⟩
      have := HA.out
      rw [List.take_of_length_le (by omega)] at this
      rw [this]; rfl

set_option maxHeartbeats 400000 in
theorem every_way (g : Nat) (cap : Array Value) (D : Nat × Nat × Nat → Prop) (p : Nat × Nat × Nat → Bool) (a : Option Addr) (n c : Nat) (l : List (Nat × Nat × Nat)) (w : World) (hE : Enters Tryz.prog g)
    (hn : l.length = n) (hv : IsSl 3 wayC w ⟨a, c, l⟩) (hD : ∀ x ∈ l, D x) (hp : Asks Tryz.prog g cap (fun x : Nat × Nat × Nat => #[wayV x]) D p w) :
    Calls Tryz.prog 104 #[.slice a n c, .func (.func g) #[] cap] w fun e w' => e = .returned (.bool (l.all p)) ∧ Ext w w' := by
  subst hn
  obtain ⟨h1, h2, h3⟩ := hv
  dsimp only at h1 h2 h3
  have H3 := Lib.hid h3; clear h3
  have HP := Lib.hid hp; clear hp
  have HD := Lib.hid hD; clear hD
  have HE : ∀ args w, (callFunc g args).run Tryz.prog w = .ok (.enter g args) w := hE; clear hE
  go_enter Tryz.func104, Tryz.ntmps104
  go_wp2
  go_loopw [9] (fun i wr => ∃ k : Nat, k ≤ l.length ∧ i = .int .i64 k ∧ (l.take k).all p = true ∧ Ext w wr) (fun i _ => l.length - (intOf i).toNat)
  case atStart => exact ⟨0, Nat.zero_le _, rfl, by simp, Ext.refl _⟩
  case round =>
    obtain ⟨k, hk, rfl, hall, hext⟩ := hrel
    by_cases hlt : k < l.length
    · obtain ⟨b, off, rfl, hc⟩ := H3.out.resolve_left (by omega)
      have hcell0 : wr.cell? ⟨b, off + k * 3, none⟩ = some (Value.int .i64 (l[k].1 : Int)) := by have := hext.cell (hc k hlt 0 (by omega)); simpa [wayC] using this
      have hcell1 : wr.cell? ⟨b, off + k * 3 + 1, none⟩ = some (Value.int .i64 (l[k].2.1 : Int)) := by have := hext.cell (hc k hlt 1 (by omega)); simpa [wayC] using this
      have hcell2 : wr.cell? ⟨b, off + k * 3 + 2, none⟩ = some (Value.int .i64 (l[k].2.2 : Int)) := by have := hext.cell (hc k hlt 2 (by omega)); simpa [wayC] using this
      clear hc
      generalize hx : l[k] = x at *
      have Hx := Lib.hid hx; clear hx
      have HX := Lib.hid hext; clear hext
      have HA := Lib.hid hall; clear hall
      go_wp2_with fail
      refine (HP.out x (HD.out x (by rw [← Hx.out]; exact List.getElem_mem _)) _ (HX.out.alloc _)).mono ?_
      rintro e w1 ⟨rfl, hx1⟩
      have HX1 := Lib.hid ((HX.out.alloc _).trans hx1); clear hx1
      cases hpx : p x
      · have Hpx := Lib.hid hpx; clear hpx
        go_wp2
        go_ret
        refine ⟨?_, HX1.out⟩
        have : l.all p = false := by
          rw [List.all_eq_false]; exact ⟨x, by rw [← Hx.out]; exact List.getElem_mem _, by simp [Hpx.out]⟩
        rw [this]; rfl
      · have Hpx := Lib.hid hpx; clear hpx
        go_wp2
        go_roundw
        case rel => exact ⟨k + 1, by omega, by go_num, by rw [all_take_succ _ _ _ hlt, HA.out, Hx.out, Hpx.out]; rfl, HX1.out⟩
        case measure => simp [intOf]; omega
    · have HX := Lib.hid hext; clear hext
      have HA := Lib.hid hall; clear hall
      go_wp2
      go_ret
      refine ⟨?_, HX.out⟩
      have := HA.out
      rw [List.take_of_length_le (by omega)] at this
      rw [this]; rfl

set_option maxHeartbeats 400000 in
theorem every_leg (g : Nat) (cap : Array Value) (D : Nat × Int → Prop) (p : Nat × Int → Bool) (a : Option Addr) (n c : Nat) (l : List (Nat × Int)) (w : World) (hE : Enters Tryz.prog g)
    (hn : l.length = n) (hv : IsSl 2 legC w ⟨a, c, l⟩) (hD : ∀ x ∈ l, D x) (hp : Asks Tryz.prog g cap (fun x : Nat × Int => #[legV x]) D p w) :
    Calls Tryz.prog 66 #[.slice a n c, .func (.func g) #[] cap] w fun e w' => e = .returned (.bool (l.all p)) ∧ Ext w w' := by
  subst hn
  obtain ⟨h1, h2, h3⟩ := hv
  dsimp only at h1 h2 h3
  have H3 := Lib.hid h3; clear h3
  have HP := Lib.hid hp; clear hp
  have HD := Lib.hid hD; clear hD
  have HE : ∀ args w, (callFunc g args).run Tryz.prog w = .ok (.enter g args) w := hE; clear hE
  go_enter Tryz.func66, Tryz.ntmps66
  go_wp2
  go_loopw [9] (fun i wr => ∃ k : Nat, k ≤ l.length ∧ i = .int .i64 k ∧ (l.take k).all p = true ∧ Ext w wr) (fun i _ => l.length - (intOf i).toNat)
  case atStart => exact ⟨0, Nat.zero_le _, rfl, by simp, Ext.refl _⟩
  case round =>
    obtain ⟨k, hk, rfl, hall, hext⟩ := hrel
    by_cases hlt : k < l.length
    · obtain ⟨b, off, rfl, hc⟩ := H3.out.resolve_left (by omega)
      have hcell0 : wr.cell? ⟨b, off + k * 2, none⟩ = some (Value.int .i64 (l[k].1 : Int)) := by have := hext.cell (hc k hlt 0 (by omega)); simpa [legC] using this
      have hcell1 : wr.cell? ⟨b, off + k * 2 + 1, none⟩ = some (Value.int .i64 l[k].2) := by have := hext.cell (hc k hlt 1 (by omega)); simpa [legC] using this
      clear hc
      generalize hx : l[k] = x at *
      have Hx := Lib.hid hx; clear hx
      have HX := Lib.hid hext; clear hext
      have HA := Lib.hid hall; clear hall
      go_wp2_with fail
      refine (HP.out x (HD.out x (by rw [← Hx.out]; exact List.getElem_mem _)) _ (HX.out.alloc _)).mono ?_
      rintro e w1 ⟨rfl, hx1⟩
      have HX1 := Lib.hid ((HX.out.alloc _).trans hx1); clear hx1
      cases hpx : p x
      · have Hpx := Lib.hid hpx; clear hpx
        go_wp2
        go_ret
        refine ⟨?_, HX1.out⟩
        have : l.all p = false := by
          rw [List.all_eq_false]; exact ⟨x, by rw [← Hx.out]; exact List.getElem_mem _, by simp [Hpx.out]⟩
        rw [this]; rfl
      · have Hpx := Lib.hid hpx; clear hpx
        go_wp2
        go_roundw
        case rel => exact ⟨k + 1, by omega, by go_num, by rw [all_take_succ _ _ _ hlt, HA.out, Hx.out, Hpx.out]; rfl, HX1.out⟩
        case measure => simp [intOf]; omega
    · have HX := Lib.hid hext; clear hext
      have HA := Lib.hid hall; clear hall
      go_wp2
      go_ret
      refine ⟨?_, HX.out⟩
      have := HA.out
      rw [List.take_of_length_le (by omega)] at this
      rw [this]; rfl
end Go.Proofs.YtopjjcgmcieboaaGreatDoor

namespace Go.Proofs.YtopjjcgmcieboaaGreatDoor
open Go.RowKit

set_option maxHeartbeats 400000 in
theorem every_mean (g : Nat) (cap : Array Value) (D : MV → Prop) (p : MV → Bool) (a : Option Addr) (n c : Nat) (l : List (MV)) (w : World) (hE : Enters Tryz.prog g)
    (hn : l.length = n) (hv : IsSl 2 meanC w ⟨a, c, l⟩) (hD : ∀ x ∈ l, D x) (hp : Asks Tryz.prog g cap (fun x : MV => #[meanV x]) D p w) :
    Calls Tryz.prog 103 #[.slice a n c, .func (.func g) #[] cap] w fun e w' => e = .returned (.bool (l.all p)) ∧ Ext w w' := by
  subst hn
  obtain ⟨h1, h2, h3⟩ := hv
  dsimp only at h1 h2 h3
  have H3 := Lib.hid h3; clear h3
  have HP := Lib.hid hp; clear hp
  have HD := Lib.hid hD; clear hD
  have HE : ∀ args w, (callFunc g args).run Tryz.prog w = .ok (.enter g args) w := hE; clear hE
  go_enter Tryz.func103, Tryz.ntmps103
  go_wp2
  go_loopw [9] (fun i wr => ∃ k : Nat, k ≤ l.length ∧ i = .int .i64 k ∧ (l.take k).all p = true ∧ Ext w wr) (fun i _ => l.length - (intOf i).toNat)
  case atStart => exact ⟨0, Nat.zero_le _, rfl, by simp, Ext.refl _⟩
  case round =>
    obtain ⟨k, hk, rfl, hall, hext⟩ := hrel
    by_cases hlt : k < l.length
    · obtain ⟨b, off, rfl, hc⟩ := H3.out.resolve_left (by omega)
      have hcell0 : wr.cell? ⟨b, off + k * 2, none⟩ = some (.slice l[k].k.a l[k].k.l.length l[k].k.c) := by have := hext.cell (hc k hlt 0 (by omega)); simpa [meanC] using this
      have hcell1 : wr.cell? ⟨b, off + k * 2 + 1, none⟩ = some (.slice l[k].e.a l[k].e.l.length l[k].e.c) := by have := hext.cell (hc k hlt 1 (by omega)); simpa [meanC] using this
      clear hc
      generalize hx : l[k] = x at *
      have Hx := Lib.hid hx; clear hx
      have HX := Lib.hid hext; clear hext
      have HA := Lib.hid hall; clear hall
      go_wp2_with fail
      refine (HP.out x (HD.out x (by rw [← Hx.out]; exact List.getElem_mem _)) _ (HX.out.alloc _)).mono ?_
      rintro e w1 ⟨rfl, hx1⟩
      have HX1 := Lib.hid ((HX.out.alloc _).trans hx1); clear hx1
      cases hpx : p x
      · have Hpx := Lib.hid hpx; clear hpx
        go_wp2
        go_ret
        refine ⟨?_, HX1.out⟩
        have : l.all p = false := by
          rw [List.all_eq_false]; exact ⟨x, by rw [← Hx.out]; exact List.getElem_mem _, by simp [Hpx.out]⟩
        rw [this]; rfl
      · have Hpx := Lib.hid hpx; clear hpx
        go_wp2
        go_roundw
        case rel => exact ⟨k + 1, by omega, by go_num, by rw [all_take_succ _ _ _ hlt, HA.out, Hx.out, Hpx.out]; rfl, HX1.out⟩
        case measure => simp [intOf]; omega
    · have HX := Lib.hid hext; clear hext
      have HA := Lib.hid hall; clear hall
      go_wp2
      go_ret
      refine ⟨?_, HX.out⟩
      have := HA.out
      rw [List.take_of_length_le (by omega)] at this
      rw [this]; rfl

set_option maxHeartbeats 400000 in
theorem every_word (g : Nat) (cap : Array Value) (D : SL MV → Prop) (p : SL MV → Bool) (a : Option Addr) (n c : Nat) (l : List (SL MV)) (w : World) (hE : Enters Tryz.prog g)
    (hn : l.length = n) (hv : IsSl 1 slC w ⟨a, c, l⟩) (hD : ∀ x ∈ l, D x) (hp : Asks Tryz.prog g cap (fun x : SL MV => #[.slice x.a x.l.length x.c]) D p w) :
    Calls Tryz.prog 99 #[.slice a n c, .func (.func g) #[] cap] w fun e w' => e = .returned (.bool (l.all p)) ∧ Ext w w' := by
  subst hn
  obtain ⟨h1, h2, h3⟩ := hv
  dsimp only at h1 h2 h3
  have H3 := Lib.hid h3; clear h3
  have HP := Lib.hid hp; clear hp
  have HD := Lib.hid hD; clear hD
  have HE : ∀ args w, (callFunc g args).run Tryz.prog w = .ok (.enter g args) w := hE; clear hE
  go_enter Tryz.func99, Tryz.ntmps99
  go_wp2
  go_loopw [9] (fun i wr => ∃ k : Nat, k ≤ l.length ∧ i = .int .i64 k ∧ (l.take k).all p = true ∧ Ext w wr) (fun i _ => l.length - (intOf i).toNat)
  case atStart => exact ⟨0, Nat.zero_le _, rfl, by simp, Ext.refl _⟩
  case round =>
    obtain ⟨k, hk, rfl, hall, hext⟩ := hrel
    by_cases hlt : k < l.length
    · obtain ⟨b, off, rfl, hc⟩ := H3.out.resolve_left (by omega)
      have hcell0 : wr.cell? ⟨b, off + k, none⟩ = some (.slice l[k].a l[k].l.length l[k].c) := by have := hext.cell (hc k hlt 0 (by omega)); simpa [slC] using this
      clear hc
      generalize hx : l[k] = x at *
      have Hx := Lib.hid hx; clear hx
      have HX := Lib.hid hext; clear hext
      have HA := Lib.hid hall; clear hall
      go_wp2_with fail
      refine (HP.out x (HD.out x (by rw [← Hx.out]; exact List.getElem_mem _)) _ HX.out).mono ?_
      rintro e w1 ⟨rfl, hx1⟩
      have HX1 := Lib.hid (HX.out.trans hx1); clear hx1
      cases hpx : p x
      · have Hpx := Lib.hid hpx; clear hpx
        go_wp2
        go_ret
        refine ⟨?_, HX1.out⟩
        have : l.all p = false := by
          rw [List.all_eq_false]; exact ⟨x, by rw [← Hx.out]; exact List.getElem_mem _, by simp [Hpx.out]⟩
        rw [this]; rfl
      · have Hpx := Lib.hid hpx; clear hpx
        go_wp2
        go_roundw
        case rel => exact ⟨k + 1, by omega, by go_num, by rw [all_take_succ _ _ _ hlt, HA.out, Hx.out, Hpx.out]; rfl, HX1.out⟩
        case measure => simp [intOf]; omega
    · have HX := Lib.hid hext; clear hext
      have HA := Lib.hid hall; clear hall
      go_wp2
      go_ret
      refine ⟨?_, HX.out⟩
      have := HA.out
      rw [List.take_of_length_le (by omega)] at this
      rw [this]; rfl

set_option maxHeartbeats 400000 in
theorem every_row (g : Nat) (cap : Array Value) (D : SL Nat → Prop) (p : SL Nat → Bool) (a : Option Addr) (n c : Nat) (l : List (SL Nat)) (w : World) (hE : Enters Tryz.prog g)
    (hn : l.length = n) (hv : IsSl 1 slC w ⟨a, c, l⟩) (hD : ∀ x ∈ l, D x) (hp : Asks Tryz.prog g cap (fun x : SL Nat => #[.slice x.a x.l.length x.c]) D p w) :
    Calls Tryz.prog 86 #[.slice a n c, .func (.func g) #[] cap] w fun e w' => e = .returned (.bool (l.all p)) ∧ Ext w w' := by
  subst hn
  obtain ⟨h1, h2, h3⟩ := hv
  dsimp only at h1 h2 h3
  have H3 := Lib.hid h3; clear h3
  have HP := Lib.hid hp; clear hp
  have HD := Lib.hid hD; clear hD
  have HE : ∀ args w, (callFunc g args).run Tryz.prog w = .ok (.enter g args) w := hE; clear hE
  go_enter Tryz.func86, Tryz.ntmps86
  go_wp2
  go_loopw [9] (fun i wr => ∃ k : Nat, k ≤ l.length ∧ i = .int .i64 k ∧ (l.take k).all p = true ∧ Ext w wr) (fun i _ => l.length - (intOf i).toNat)
  case atStart => exact ⟨0, Nat.zero_le _, rfl, by simp, Ext.refl _⟩
  case round =>
    obtain ⟨k, hk, rfl, hall, hext⟩ := hrel
    by_cases hlt : k < l.length
    · obtain ⟨b, off, rfl, hc⟩ := H3.out.resolve_left (by omega)
      have hcell0 : wr.cell? ⟨b, off + k, none⟩ = some (.slice l[k].a l[k].l.length l[k].c) := by have := hext.cell (hc k hlt 0 (by omega)); simpa [slC] using this
      clear hc
      generalize hx : l[k] = x at *
      have Hx := Lib.hid hx; clear hx
      have HX := Lib.hid hext; clear hext
      have HA := Lib.hid hall; clear hall
      go_wp2_with fail
      refine (HP.out x (HD.out x (by rw [← Hx.out]; exact List.getElem_mem _)) _ HX.out).mono ?_
      rintro e w1 ⟨rfl, hx1⟩
      have HX1 := Lib.hid (HX.out.trans hx1); clear hx1
      cases hpx : p x
      · have Hpx := Lib.hid hpx; clear hpx
        go_wp2
        go_ret
        refine ⟨?_, HX1.out⟩
        have : l.all p = false := by
          rw [List.all_eq_false]; exact ⟨x, by rw [← Hx.out]; exact List.getElem_mem _, by simp [Hpx.out]⟩
        rw [this]; rfl
      · have Hpx := Lib.hid hpx; clear hpx
        go_wp2
        go_roundw
        case rel => exact ⟨k + 1, by omega, by go_num, by rw [all_take_succ _ _ _ hlt, HA.out, Hx.out, Hpx.out]; rfl, HX1.out⟩
        case measure => simp [intOf]; omega
    · have HX := Lib.hid hext; clear hext
      have HA := Lib.hid hall; clear hall
      go_wp2
      go_ret
      refine ⟨?_, HX.out⟩
      have := HA.out
      rw [List.take_of_length_le (by omega)] at this
      rw [this]; rfl
end Go.Proofs.YtopjjcgmcieboaaGreatDoor

namespace Go.Proofs.YtopjjcgmcieboaaGreatDoor
open Go.RowKit

theorem below_drewN {B n : Nat} {a w : World} (h : Below B a w) : Below B a (w.drewN n) := ⟨h.os, h.tape, h.output, h.size, h.block⟩
theorem Ext.drewN {a w : World} (h : Ext a w) (n : Nat) : Ext a (w.drewN n) := below_drewN h

theorem sorted_at {l : List Nat} (h : l.Pairwise (· < ·)) (j : Nat) (hj : j + 1 < l.length) : l[j] < l[j + 1] :=
  List.pairwise_iff_getElem.1 h j (j + 1) (by omega) hj (by omega)

set_option maxHeartbeats 400000 in
theorem increasing_ok (a : Option Addr) (n c : Nat) (l : List Nat) (w : World) (hn : l.length = n) (hv : IsSl 1 num w ⟨a, c, l⟩) (hs : l.Pairwise (· < ·)) :
    Calls Tryz.prog 69 #[.slice a n c] w fun e w' => e = .returned (.bool true) ∧ Ext w w' := by
  subst hn
  obtain ⟨h1, h2, h3⟩ := hv
  dsimp only at h1 h2 h3
  have H3 := Lib.hid h3; clear h3
  have HS := Lib.hid hs; clear hs
  go_enter Tryz.func69, Tryz.ntmps69
  go_wp2
  go_loopw [3] (fun i wr => ∃ j : Nat, i = .int .i64 ((j : Int) + 1) ∧ (j = 0 ∨ j + 1 ≤ l.length) ∧ Ext w wr) (fun i _ => l.length + 1 - (intOf i).toNat)
  case atStart => exact ⟨0, rfl, .inl rfl, Ext.refl _⟩
  case round =>
    obtain ⟨j, rfl, hj, hext⟩ := hrel
    by_cases hlt : j + 1 < l.length
    · obtain ⟨b, off, rfl, hc⟩ := H3.out.resolve_left (by omega)
      have hcell0 : wr.cell? ⟨b, off + j, none⟩ = some (.int .i64 (l[j] : Int)) := by have := hext.cell (hc j (by omega) 0 (by omega)); simpa [num] using this
      have hcell1 : wr.cell? ⟨b, off + (j + 1), none⟩ = some (.int .i64 (l[j + 1] : Int)) := by have := hext.cell (hc (j + 1) (by omega) 0 (by omega)); simpa [num] using this
      have hl := sorted_at HS.out j hlt
      clear hc
      generalize l[j] = x at *
      generalize l[j + 1] = y at *
      have HX := Lib.hid hext; clear hext
      have hj2 : j + 1 ≤ 1000000 := by omega
      clear hj
      have hd : decide ((j : Int) + 1 < (l.length : Int)) = true := by simp; omega
      have hge : ¬ ((y : Int) ≤ (x : Int)) := by omega
      have hdg : decide ((y : Int) ≤ (x : Int)) = false := by simp; omega
      have i1 : (0 : Int) ≤ j := by omega
      have i2 : (j : Int) < (l.length : Int) := by omega
      have i3 : (j : Int) + 1 < (l.length : Int) := by omega
      go_wp2_with fail
      go_quiet (fail)
      go_wp2
      exact ⟨⟨j + 1, by simp, .inr (by omega), HX.out.drewN _⟩, by simp [intOf]; omega⟩
    · have hd : decide ((j : Int) + 1 < (l.length : Int)) = false := by simp; omega
      have hj2 : j + 1 ≤ 1000000 + 1 := by omega
      have HX := Lib.hid hext; clear hext hj
      go_wp2
      go_ret
      exact ⟨rfl, HX.out⟩

/-- A function value that asks whether a number is at least 0 and less than an end. -/
def lessB (x : Int) (n : Nat) : Bool := decide (0 ≤ (n : Int)) && decide ((n : Int) ≤ x - 1)

theorem enters_101 : Enters Tryz.prog 101 := fun args w => Proofs.enters_of Tryz.func101 (by kernel_rfl) rfl args w

theorem under_asks (x : Int) (hx : 0 ≤ x ∧ x ≤ 1000000) (b : Nat) (w : World) (hc : w.cell? ⟨b, 0, none⟩ = some (.int .i64 x)) :
    Asks Tryz.prog 101 #[.pointer (some ⟨b, 0, none⟩)] (fun n : Nat => #[.int .i64 (n : Int)]) (fun _ => True) (lessB x) w := by
  intro n _ w' hw
  refine (under1_any n x b w' hx (hw.cell hc)).mono ?_
  rintro e w'' ⟨rfl, rfl⟩
  exact ⟨rfl, Ext.refl _⟩

/-- every(list, under(x)) where the cell at b holds the function value. -/
theorem isAll_ok (x : Int) (hx : 0 ≤ x ∧ x ≤ 1000000) (b : Nat) (w : World) (hc : w.cell? ⟨b, 0, none⟩ = some (.int .i64 x)) (a : Option Addr) (n c : Nat) (l : List Nat)
    (hn : l.length = n) (hv : IsSl 1 num w ⟨a, c, l⟩) :
    Calls Tryz.prog 64 #[.slice a n c, .func (.func 101) #[] #[.pointer (some ⟨b, 0, none⟩)]] w fun e w' => e = .returned (.bool (l.all (lessB x))) ∧ Ext w w' :=
  every_int 101 _ (fun _ => True) _ a n c l w enters_101 hn hv (fun _ _ => trivial) (under_asks x hx b w hc)

end Go.Proofs.YtopjjcgmcieboaaGreatDoor
