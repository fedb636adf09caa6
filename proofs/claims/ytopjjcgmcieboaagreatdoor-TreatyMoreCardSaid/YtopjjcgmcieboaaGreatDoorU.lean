/-
  Several texts in one. A deck deals numbers that are in range, and turns nothing that was there but itself. The deck must lie in memory as told, and have dealt fewer than a million numbers. some of the statements' package deals a strictly increasing list of numbers in new memory, and turns nothing that was there but the deck. The deck must lie in memory as told.
-/
import Derived.Test.YtopjjcgmcieboaaGreatDoorL
import Derived.IntWalk
namespace Go.Proofs.YtopjjcgmcieboaaGreatDoor
open Go.RowKit

/-- A slice of bytes. -/
def IsBytes (w : World) (a : Option Addr) (n c : Nat) : Prop := n ≤ c ∧ n ≤ 140737488351232 ∧ (n = 0 ∨ ∃ b off, a = some ⟨b, off, none⟩ ∧ ∀ i, i < n → ∃ v : Nat, v < 256 ∧ w.cell? ⟨b, off + i, none⟩ = some (.int .u8 (v : Int)))
theorem IsBytes.ext {w w' : World} {a : Option Addr} {n c : Nat} (h : IsBytes w a n c) (k : Ext w w') : IsBytes w' a n c := by
  obtain ⟨h1, h2, h3⟩ := h
  refine ⟨h1, h2, ?_⟩
  rcases h3 with h3 | ⟨b, off, ha, hc⟩
  · exact .inl h3
  · exact .inr ⟨b, off, ha, fun i hi => by obtain ⟨v, hv, h⟩ := hc i hi; exact ⟨v, hv, k.cell h⟩⟩

/-- A deck in block D, of cards in another block, that has dealt k numbers. -/
def IsDeck (w : World) (D : Nat) (a : Option Addr) (n c k : Nat) : Prop :=
  ∃ s : Nat, s < 4294967296 ∧ w.heap[D]? = some (.cells #[.slice a n c, .int .i64 (k : Int), .int .u32 (s : Int)] 68) ∧ IsBytes w a n c ∧ (∀ b off, a = some ⟨b, off, none⟩ → 0 < n → b ≠ D)

theorem ret_mod (x : Int) (m : Nat) (hm : 0 < m) : ∃ r : Nat, r < m ∧ Ending.returned (.int .i64 (x % (m : Int))) = Ending.returned (.int .i64 (r : Int)) := by
  refine ⟨(x % (m : Int)).toNat, ?_, ?_⟩
  · have := Int.emod_lt_of_pos x (show (0 : Int) < m by omega); have := Int.emod_nonneg x (show (m : Int) ≠ 0 by omega); omega
  · have := Int.emod_nonneg x (show (m : Int) ≠ 0 by omega); rw [Int.toNat_of_nonneg this]

theorem deck_turned {w : World} {D b off n c k s N : Nat} (hh : w.heap[D]? = some (.cells #[.slice (some ⟨b, off, none⟩) n c, .int .i64 (k : Int), .int .u32 (s : Int)] 68)) (hb1 : n ≤ c) (hb2 : n ≤ 140737488351232)
    (hc : ∀ i, i < n → ∃ v : Nat, v < 256 ∧ w.cell? ⟨b, off + i, none⟩ = some (.int .u8 (v : Int))) (hne : b ≠ D) (S : Int) (hS : 0 ≤ S ∧ S < 4294967296) :
    IsDeck (((w.drewN N).setCell ⟨D, 1, none⟩ (.int .i64 ((k : Int) + 1))).setCell ⟨D, 2, none⟩ (.int .u32 S)) D (some ⟨b, off, none⟩) n c (k + 1) ∧
      w.grownBy (((w.drewN N).setCell ⟨D, 1, none⟩ (.int .i64 ((k : Int) + 1))).setCell ⟨D, 2, none⟩ (.int .u32 S)) (some D) := by
  have hh' : (w.drewN N).heap[D]? = some (.cells #[.slice (some ⟨b, off, none⟩) n c, .int .i64 (k : Int), .int .u32 (s : Int)] 68) := hh
  refine ⟨⟨S.toNat, by omega, ?_, ⟨hb1, hb2, .inr ⟨b, off, rfl, fun i hi => ?_⟩⟩, fun b' off' e _ => by cases e; exact hne⟩, ⟨rfl, rfl, rfl, by simp [World.setCell, World.drewN], fun j _ hj => ?_⟩⟩
  · rw [YtopjjcgmcieboaaGreatDoor.heap_setCell_same (YtopjjcgmcieboaaGreatDoor.heap_setCell_same hh' _) _, Int.toNat_of_nonneg hS.1]
    rfl
  · obtain ⟨v, hv, h⟩ := hc i hi
    refine ⟨v, hv, ?_⟩
    have e1 : (((w.drewN N).setCell ⟨D, 1, none⟩ (.int .i64 ((k : Int) + 1))).setCell ⟨D, 2, none⟩ (.int .u32 S)).heap[b]? = w.heap[b]? := by rw [Below.heap_setCell _ _ _ _ hne, Below.heap_setCell _ _ _ _ hne]; rfl
    exact (World.cell?_of_block (a := ⟨b, off + i, none⟩) e1).trans h
  · have hj' : j ≠ D := fun e => hj (by rw [e])
    rw [Below.heap_setCell _ _ _ _ hj', Below.heap_setCell _ _ _ _ hj']; rfl

set_option maxRecDepth 100000 in
set_option maxHeartbeats 1000000 in
theorem draw_some (D : Nat) (a : Option Addr) (n c k m : Nat) (w : World) (hd : IsDeck w D a n c k) (hk : k ≤ 1000000) (hm : m ≤ 1000000) (hm1 : 1 < m) (hn : 0 < n) :
    Calls Tryz.prog 26 #[.pointer (some ⟨D, 0, none⟩), .int .i64 (m : Int)] w fun e w' => (∃ r : Nat, r < m ∧ e = .returned (.int .i64 (r : Int))) ∧ IsDeck w' D a n c (k + 1) ∧ w.grownBy w' (some D) := by
  obtain ⟨s, hs, hh, ⟨hb1, hb2, hb3⟩, hne⟩ := hd
  obtain ⟨b, off, rfl, hc⟩ := hb3.resolve_left (by omega)
  have hbD := hne b off rfl hn
  have hqn := Nat.mod_lt k hn
  have hqk : k / n ≤ 1000000 := Nat.le_trans (Nat.div_le_self _ _) hk
  have htm : (k : Int).tmod (n : Int) = ((k % n : Nat) : Int) := rfl
  have hdv : (k : Int) / (n : Int) = ((k / n : Nat) : Int) := rfl
  generalize k % n = q at *
  generalize k / n = d at *
  obtain ⟨v, hv, hcell⟩ := hc q hqn
  have HC := Lib.hid hc; clear hc hb3 hne
  have hc0 := cell_at hh 0
  have hc1 := cell_at hh 1
  have hc2 := cell_at hh 2
  simp only [List.getElem?_toArray, List.getElem?_cons_succ, List.getElem?_cons_zero] at hc0 hc1 hc2
  have hfz : ∀ i, w.frozen? ⟨D, i, none⟩ = false := fun i => by simp [World.frozen?, hh]
  have HH := Lib.hid hh; clear hh
  have hmi : ¬ ((m : Int) ≤ 1) := by omega
  have dm : decide ((m : Int) ≤ 1) = false := decide_eq_false (by omega)
  have hn0 : ((n : Int) == 0) = false := by rw [beq_eq_false_iff_ne]; omega
  have hnz : ¬ (n : Int) = 0 := by omega
  have hn1 : (0 : Int) < (n : Int) := by omega
  have hk0 : (0 : Int) ≤ (k : Int) := by omega
  have hn00 : ¬ n = 0 := by omega
  have hwd : IntKind.i64.wrap (d : Int) = (d : Int) := IntWalk.i64_in _ (by omega)
  have hq0 : (0 : Int) ≤ (q : Int) := by omega
  have hqi : (q : Int) < (n : Int) := by omega
  go_enter Tryz.func26, Tryz.ntmps26
  go_wp2_with fail
  go_quiet (fail)
  go_wp2_with fail
  go_quiet (fail)
  clear hwd hdv htm
  go_wp2
  all_goals
    go_ret
    refine ⟨?_, ?_⟩
    · exact ret_mod _ m (by omega)
    · exact deck_turned HH.out hb1 hb2 HC.out hbD _ ⟨Int.emod_nonneg _ (by omega), Int.lt_trans (Int.emod_lt_of_pos _ (by omega)) (by omega)⟩

theorem IsDeck.more {w : World} {D : Nat} {a : Option Addr} {n c k : Nat} (h : IsDeck w D a n c k) : w.grownBy w (some D) ∧ IsDeck w D a n c k := ⟨⟨rfl, rfl, rfl, Nat.le_refl _, fun _ _ _ => rfl⟩, h⟩

/-- A number less than m, or 0, was dealt. -/
def Dealt (w : World) (D : Nat) (a : Option Addr) (n c k m : Nat) (e : Ending) (w' : World) : Prop :=
  ∃ r k' : Nat, (r < m ∨ r = 0) ∧ k' ≤ k + 1 ∧ e = .returned (.int .i64 (r : Int)) ∧ IsDeck w' D a n c k' ∧ w.grownBy w' (some D)

set_option maxHeartbeats 1000000 in
/-- Draw deals a number less than m, or 0. -/
theorem draw_any (D : Nat) (a : Option Addr) (n c k m : Nat) (w : World) (hd : IsDeck w D a n c k) (hk : k ≤ 1000000) (hm : m ≤ 1000000) :
    Calls Tryz.prog 26 #[.pointer (some ⟨D, 0, none⟩), .int .i64 (m : Int)] w (Dealt w D a n c k m) := by
  by_cases hm1 : m ≤ 1
  · have HD := Lib.hid hd; clear hd
    have dm : decide ((m : Int) ≤ 1) = true := decide_eq_true (by omega)
    have hmi : (m : Int) ≤ 1 := by omega
    go_enter Tryz.func26, Tryz.ntmps26
    go_wp2
    go_ret
    exact ⟨0, k, .inr rfl, by omega, rfl, HD.out, HD.out.more.1⟩
  · by_cases hn : n = 0
    · subst hn
      have HD := Lib.hid hd
      obtain ⟨s, hs, hh, _⟩ := hd
      have hc0 := cell_at hh 0
      simp only [List.getElem?_toArray, List.getElem?_cons_zero] at hc0
      clear hh
      have dm : decide ((m : Int) ≤ 1) = false := decide_eq_false (by omega)
      have hmi : ¬ (m : Int) ≤ 1 := by omega
      go_enter Tryz.func26, Tryz.ntmps26
      go_wp2
      go_ret
      exact ⟨0, k, .inr rfl, by omega, rfl, HD.out, HD.out.more.1⟩
    · refine (draw_some D a n c k m w hd hk hm (by omega) (by omega)).mono ?_
      rintro e w' ⟨⟨r, hr, rfl⟩, h2, h3⟩
      exact ⟨r, k + 1, .inl hr, Nat.le_refl _, rfl, h2, h3⟩

/-- A number from x to y was dealt. -/
def DealtB (w : World) (D : Nat) (a : Option Addr) (n c k : Nat) (x y : Int) (e : Ending) (w' : World) : Prop :=
  ∃ (r : Int) (k' : Nat), x ≤ r ∧ (r ≤ y ∨ r = x) ∧ k' ≤ k + 1 ∧ e = .returned (.int .i64 r) ∧ IsDeck w' D a n c k' ∧ w.grownBy w' (some D)

set_option maxHeartbeats 1000000 in
theorem dbetween_any (D : Nat) (a : Option Addr) (n c k : Nat) (x y : Int) (w : World) (hd : IsDeck w D a n c k) (hk : k ≤ 1000000) (hx : -1000 ≤ x) (hxy : x ≤ y + 1) (hy : y ≤ 1000) :
    Calls Tryz.prog 30 #[.pointer (some ⟨D, 0, none⟩), .int .i64 x, .int .i64 y] w (DealtB w D a n c k x y) := by
  obtain ⟨m, hm⟩ : ∃ m : Nat, y - x + 1 = (m : Int) := ⟨(y - x + 1).toNat, by omega⟩
  have HD := Lib.hid (draw_any D a n c k m w hd hk (by omega)); clear hd
  have HM := Lib.hid hm
  go_enter Tryz.func30, Tryz.ntmps30
  go_wp2_with fail
  refine HD.out.mono ?_
  rintro e w1 ⟨r, k', hr, hk', rfl, hd1, hg1⟩
  have hr2 : r < m ∨ r = 0 := hr
  have HR := Lib.hid hr; clear hr
  have HD1 := Lib.hid hd1; clear hd1
  have HG1 := Lib.hid hg1; clear hg1
  have b1 : (r : Int) ≤ 2001 := by omega
  clear hr2 hm
  go_wp2
  go_ret
  exact ⟨x + (r : Int), k', by omega, by have := HR.out; have := HM.out; omega, hk', rfl, HD1.out, HG1.out⟩

/-- A coin was thrown. -/
def DealtC (w : World) (D : Nat) (a : Option Addr) (n c k : Nat) (e : Ending) (w' : World) : Prop :=
  ∃ (r : Bool) (k' : Nat), k' ≤ k + 1 ∧ e = .returned (.bool r) ∧ IsDeck w' D a n c k' ∧ w.grownBy w' (some D)

set_option maxHeartbeats 1000000 in
theorem coin_any (D : Nat) (a : Option Addr) (n c k m : Nat) (w : World) (hd : IsDeck w D a n c k) (hk : k ≤ 1000000) (hm : m ≤ 1000000) :
    Calls Tryz.prog 55 #[.pointer (some ⟨D, 0, none⟩), .int .i64 (m : Int)] w (DealtC w D a n c k) := by
  have HD := Lib.hid (draw_any D a n c k m w hd hk hm); clear hd
  go_enter Tryz.func55, Tryz.ntmps55
  go_wp2_with fail
  refine HD.out.mono ?_
  rintro e w1 ⟨r, k', hr, hk', rfl, hd1, hg1⟩
  have HD1 := Lib.hid hd1; clear hd1
  have HG1 := Lib.hid hg1; clear hg1
  clear hr
  go_wp2
  go_ret
  exact ⟨((r : Int) == 0), k', hk', rfl, HD1.out, HG1.out⟩

theorem of_any (a : Option Addr) (n c : Nat) (w : World) (h : IsBytes w a n c) :
    Calls Tryz.prog 7 #[.slice a n c] w fun e w' => e = .returned (.pointer (some ⟨w.heap.size, 0, none⟩)) ∧ IsDeck w' w.heap.size a n c 0 ∧ Ext w w' := by
  have HH := Lib.hid h; clear h
  go_enter Tryz.func7, Tryz.ntmps7
  go_wp2
  go_ret
  refine ⟨rfl, ⟨9, by omega, World.alloc_heap_new w _, HH.out.ext ((Ext.refl w).alloc _), fun b off ha hn => ?_⟩, (Ext.refl w).alloc _⟩
  rcases HH.out.2.2 with h0 | ⟨b', off', ha', hc⟩
  · omega
  · rw [ha] at ha'; cases ha'
    obtain ⟨v, _, hv⟩ := hc 0 hn
    have := lt_of_cell hv
    dsimp only at this
    omega
end Go.Proofs.YtopjjcgmcieboaaGreatDoor

namespace Go.Proofs.YtopjjcgmcieboaaGreatDoor
open Go.RowKit

/-- What was there is as it was, but for block D. -/
def DExt (D : Nat) (w w' : World) : Prop := w.grownBy w' (some D)
theorem DExt.refl (D : Nat) (w : World) : DExt D w w := ⟨rfl, rfl, rfl, Nat.le_refl _, fun _ _ _ => rfl⟩
theorem DExt.trans {D : Nat} {a b c : World} (h : DExt D a b) (k : DExt D b c) : DExt D a c :=
  ⟨k.os.trans h.os, k.tape.trans h.tape, k.output.trans h.output, Nat.le_trans h.size k.size, fun i hi hne => (k.block i (Nat.lt_of_lt_of_le hi h.size) hne).trans (h.block i hi hne)⟩
theorem DExt.ext {D : Nat} {a b c : World} (h : DExt D a b) (k : Ext b c) : DExt D a c := h.trans ⟨Below.os k, Below.tape k, Below.output k, Below.size k, fun i hi _ => Below.block k i hi⟩
theorem DExt.grown {D : Nat} {a b c : World} {row : Option Nat} (h : DExt D a b) (k : b.grownBy c row) (hr : ∀ i, row = some i → a.heap.size ≤ i) : DExt D a c :=
  ⟨k.os.trans h.os, k.tape.trans h.tape, k.output.trans h.output, Nat.le_trans h.size k.size, fun i hi hne => (k.block i (Nat.lt_of_lt_of_le hi h.size) (fun e => by have := hr i e.symm; omega)).trans (h.block i hi hne)⟩
theorem DExt.cell {D : Nat} {w w' : World} (h : DExt D w w') {p : Addr} {v : Value} (hc : w.cell? p = some v) (hne : p.block ≠ D) : w'.cell? p = some v :=
  (World.cell?_of_block (h.block p.block (lt_of_cell hc) (fun e => hne (by cases e; rfl)))).trans hc

theorem IsDeck.lt {w : World} {D : Nat} {a : Option Addr} {n c k : Nat} (h : IsDeck w D a n c k) : D < w.heap.size := by
  obtain ⟨s, _, hh, _⟩ := h; exact (Array.getElem?_eq_some_iff.1 hh).1
theorem IsDeck.ext {w w' : World} {D : Nat} {a : Option Addr} {n c k : Nat} (h : IsDeck w D a n c k) (x : Ext w w') : IsDeck w' D a n c k := by
  obtain ⟨s, hs, hh, hb, hne⟩ := h; exact ⟨s, hs, x.block hh, hb.ext x, hne⟩
/-- A deck is left alone by what grows in other blocks. -/
theorem IsDeck.grown {w w' : World} {D : Nat} {a : Option Addr} {n c k base : Nat} {row : Option Nat} (h : IsDeck w D a n c k) (g : w.grownBy w' row) (hr : ∀ i, row = some i → base ≤ i) (hD : D < base) (hb : ∀ b off, a = some ⟨b, off, none⟩ → 0 < n → b < base) : IsDeck w' D a n c k := by
  obtain ⟨s, hs, hh, ⟨h1, h2, h3⟩, hne⟩ := h
  have hlt := (Array.getElem?_eq_some_iff.1 hh).1
  refine ⟨s, hs, (g.block D hlt (fun e => by have := hr D e.symm; omega)).trans hh, ⟨h1, h2, ?_⟩, hne⟩
  rcases h3 with h3 | ⟨b, off, ha, hc⟩
  · exact .inl h3
  · by_cases hn : n = 0
    · exact .inl hn
    · refine .inr ⟨b, off, ha, fun i hi => ?_⟩
      obtain ⟨v, hv, hcell⟩ := hc i hi
      refine ⟨v, hv, (World.cell?_of_block (a := ⟨b, off + i, none⟩) (g.block b (lt_of_cell hcell) (fun e => ?_))).trans hcell⟩
      have := hr b e.symm; have := hb b off ha (by omega); omega

/-- A strictly increasing list of numbers less than m was dealt. -/
def SomeOf (w : World) (D : Nat) (a : Option Addr) (n c k m : Nat) (e : Ending) (w' : World) : Prop :=
  ∃ (a' : Option Addr) (c' : Nat) (l : List Nat) (k' : Nat), e = .returned (.slice a' l.length c') ∧ w'.ownsRow w.heap.size 3 1 (.slice a' l.length c') l.length (nums l) ∧ l.Pairwise (· < ·) ∧ (∀ x ∈ l, x < m) ∧ IsDeck w' D a n c k' ∧ k' ≤ k + m ∧ DExt D w w'

set_option maxRecDepth 100000 in
set_option maxHeartbeats 1000000 in
theorem some_any (D : Nat) (a : Option Addr) (n c k m o : Nat) (w : World) (hd : IsDeck w D a n c k) (hb : ∀ b off, a = some ⟨b, off, none⟩ → 0 < n → b < w.heap.size) (hk : k + m ≤ 1000000) (hm : m ≤ 1000) (ho : o ≤ 1000) :
    Calls Tryz.prog 27 #[.pointer (some ⟨D, 0, none⟩), .int .i64 (m : Int), .int .i64 (o : Int)] w (SomeOf w D a n c k m) := by
  obtain ⟨i0, hi, hz0, hz1, hz2⟩ := info_parts info3
  have hDl := hd.lt
  have HD := Lib.hid hd; clear hd
  have HB := Lib.hid hb; clear hb
  go_enter Tryz.func27, Tryz.ntmps27
  go_wp2
  go_loopw [7, 10] (fun v i wr => ∃ (j : Nat) (a' : Option Addr) (c' : Nat) (l : List Nat) (k' : Nat), j ≤ m ∧ i = .int .i64 j ∧ v = .slice a' l.length c' ∧ Hid (wr.ownsRow w.heap.size 3 1 (.slice a' l.length c') l.length (nums l)) ∧ Hid (l.Pairwise (· < ·) ∧ (∀ x ∈ l, x < j)) ∧ l.length ≤ j ∧ Hid (IsDeck wr D a n c k') ∧ k' ≤ k + j ∧ Hid (DExt D w wr)) (fun _ i _ => m - (intOf i).toNat)
  case atStart => exact ⟨0, none, 0, [], k, Nat.zero_le _, rfl, rfl, World.ownsRow_nil _ _ _ _, ⟨List.Pairwise.nil, by simp⟩, Nat.le_refl _, HD, by omega, DExt.refl _ _⟩
  case round =>
    obtain ⟨wo, rfl⟩ : ∃ wo : World, wo = wr := ⟨_, rfl⟩
    obtain ⟨j, a', c', l, k', hj, rfl, rfl, HO, HL, hll, HDk, hk', HX⟩ := hrel
    by_cases hlt : j < m
    · have dj : decide ((j : Int) < (m : Int)) = true := by simpa using hlt
      go_wp2_with fail
      refine (coin_any D a n c k' o wo HDk.out (by omega) (by omega)).mono ?_
      rintro e w1 ⟨r, k2, hk2, rfl, hd1, hg1⟩
      have HD1 := Lib.hid hd1; clear hd1
      have HX1 : Hid (DExt D w w1) := HX.out.trans hg1
      have HO1 : Hid (w1.ownsRow w.heap.size 3 1 (.slice a' l.length c') l.length (nums l)) := HO.out.kept hg1 (by
        cases hv : (Value.slice a' l.length c').ownBlock with
        | none => exact .inl rfl
        | some q => exact .inr (fun e => by cases e; have := own_lt HO.out _ hv; omega))
      clear hg1
      cases r
      · go_wp2
        go_roundw
        case rel => exact ⟨j + 1, a', c', l, k2, by omega, by go_num, rfl, HO1, ⟨HL.out.1, fun x hx => by have := HL.out.2 x hx; omega⟩, by omega, HD1, by omega, HX1⟩
        case measure => simp [intOf]; omega
      · have hnw := new_cells w1 (nums [j]) 3
        have HN := Lib.hid hnw; clear hnw
        have hb6 : w.heap.size ≤ w1.heap.size + 1 := by have := HX1.out.size; omega
        have hm6 : l.length + 1 ≤ maxLen := by unfold maxLen; omega
        go_wp2_with (at_builtin; go_must (refine wpList_append_own _ rfl _ _ 25 rfl w.heap.size 3 i0 (.int .i64 0) 1 8 Tryz.underlying25 hi hz0 hz1 hz2 rfl (by decide) _ l.length (nums l) rfl (HO1.out.alloc _) ⟨w1.heap.size, 0, none⟩ 1 1 (nums [j]) rfl rfl HN.out (nums_one [j]) hm6 (by omega) (by simp; omega) ?_); intro v' w3 hown hgrow _)
        obtain ⟨a3, c3, rfl⟩ := own_form hown
        have hx3 : DExt D w w3 := (HX1.out.ext ((Ext.refl w1).alloc _)).grown hgrow (fun i hi => own_lt HO1.out i hi)
        have hd3 : IsDeck w3 D a n c k2 := (HD1.out.ext ((Ext.refl w1).alloc _)).grown hgrow (base := w.heap.size) (fun i hi => own_lt HO1.out i hi) hDl HB.out
        have HX3 := Lib.hid hx3; clear hx3 hgrow
        have HD3 := Lib.hid hd3; clear hd3
        rw [← nums_append, show l.length + 1 = (l ++ [j]).length by simp] at hown
        have HO3 := Lib.hid hown; clear hown
        have hlen3 : (l ++ [j]).length = l.length + 1 := by simp
        have HL3 : Hid ((l ++ [j]).Pairwise (· < ·) ∧ (∀ x ∈ l ++ [j], x < j + 1)) := by
          refine ⟨List.pairwise_append.2 ⟨HL.out.1, by simp, fun x hx y hy => by simp at hy; rw [hy]; exact HL.out.2 x hx⟩, fun x hx => ?_⟩
          rcases List.mem_append.1 hx with h | h
          · have := HL.out.2 x h; omega
          · simp at h; omega
        have hle3 : l.length + 1 ≤ j + 1 := by omega
        generalize l ++ [j] = l3 at *
        rw [← hlen3]
        rw [← hlen3] at hle3
        have HLe := Lib.hid hlen3; clear hlen3
        go_wp2
        go_roundw
        case rel => exact ⟨j + 1, a3, c3, l3, k2, by omega, by go_num, rfl, HO3, HL3, hle3, HD3, by omega, HX3⟩
        case measure => simp [intOf]; omega
    · have hje : j = m := by omega
      subst hje
      go_wp2
      go_ret
      exact ⟨a', c', l, k', rfl, HO.out, HL.out.1, HL.out.2, HDk.out, hk', HX.out⟩
end Go.Proofs.YtopjjcgmcieboaaGreatDoor
