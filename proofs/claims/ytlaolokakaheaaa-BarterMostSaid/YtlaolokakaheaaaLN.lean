/-
  Lands of package barter in memory, and what is asked of a stretch: isBound, isFree. The lists must read as told.
-/
import Derived.Test.YtlaolokakaheaaaBM
import Derived.Test.YtlaolokakaheaaaSM
namespace Go.Proofs.Ytlaolokakaheaaa
open Go.RowKit

/-- How a stretch lies in cells. -/
def stC (x : St) (j : Nat) : Value := if j = 0 then .int .i64 (x.o : Int) else if j = 1 then .int .i64 (x.n : Int) else if j = 2 then .int .i64 (x.s : Int) else .int .i64 x.w
/-- A land's lists. -/
structure Ld where
  s : SL St
  v : SL Nat
abbrev Ld.val (x : Ld) : Value := .agg #[.slice x.s.a x.s.l.length x.s.c, .slice x.v.a x.v.l.length x.v.c]
/-- The stretches read as told. -/
def StL (w : World) (s : SL St) : Prop := IsSl 4 stC w s
theorem StL.ext {w w' : World} {s : SL St} (h : StL w s) (k : Ext w w') : StL w' s := IsSl.ext h k
/-- The block of the stretches is one of which D speaks. -/
def InB {α : Type} (D : Nat → Prop) (s : SL α) : Prop := ∀ g off, s.a = some ⟨g, off, none⟩ → 0 < s.l.length → D g
theorem StL.keep {D : Nat → Prop} {w w' : World} {s : SL St} (h : StL w s) (k : Keep D w w') (hd : InB D s) : StL w' s := IsSl.keep h k hd
theorem StL.cells {w : World} {s : SL St} (h : StL w s) {i : Nat} (hi : i < s.l.length) : ∃ b off, s.a = some ⟨b, off, none⟩ ∧ w.cell? ⟨b, off + i * 4, none⟩ = some (.int .i64 ((at' s.l i).o : Int)) ∧ w.cell? ⟨b, off + i * 4 + 1, none⟩ = some (.int .i64 ((at' s.l i).n : Int)) ∧ w.cell? ⟨b, off + i * 4 + 2, none⟩ = some (.int .i64 ((at' s.l i).s : Int)) ∧ w.cell? ⟨b, off + i * 4 + 3, none⟩ = some (.int .i64 (at' s.l i).w) := by
  obtain ⟨h1, h2, h3⟩ := h
  obtain ⟨b, off, ha, hc⟩ := h3.resolve_left (by omega)
  have e : at' s.l i = s.l[i] := by unfold at'; rw [List.getElem?_eq_getElem hi]; rfl
  refine ⟨b, off, ha, ?_⟩
  rw [e]
  have c := hc i hi
  exact ⟨by simpa [stC] using c 0 (by omega), by simpa [stC, Nat.add_assoc] using c 1 (by omega), by simpa [stC, Nat.add_assoc] using c 2 (by omega), by simpa [stC, Nat.add_assoc] using c 3 (by omega)⟩
theorem StL.le {w : World} {s : SL St} (h : StL w s) : s.l.length ≤ s.c ∧ s.l.length ≤ 1000000 := ⟨h.1, h.2.1⟩

theorem isBound_any (x : Ld) (i : Nat) (w : World) (h : StL w x.s) (hi : i < x.s.l.length) :
    Calls Try.prog 60 #[x.val, .int .i64 (i : Int)] w fun e w' => e = .returned (.bool (!(at' x.s.l i).free)) ∧ Ext w w' := by
  obtain ⟨h1, h2⟩ := h.le
  obtain ⟨b, off, ha, -, -, -, c3⟩ := h.cells hi
  have i1 : (0 : Int) ≤ i := by omega
  have i2 : (i : Int) < (x.s.l.length : Int) := by omega
  clear h
  obtain ⟨⟨a, c, l⟩, v⟩ := x
  dsimp only at h1 h2 ha c3 i2 hi
  subst ha
  have l3 := lt_of_cell c3
  dsimp only at l3
  have HF := Lib.hid (show (decide ((at' l i).w = -1)) = (at' l i).free from rfl)
  generalize (at' l i).free = fr at *
  generalize (at' l i).w = z at *
  go_enter Try.func60, Try.ntmps60
  go_wp2
  go_ret
  refine ⟨ret_bool ?_, (Ext.refl w).alloc _⟩
  rw [← HF.out]
  by_cases hz : z = -1 <;> simp [hz]

theorem isFree_any (x : Ld) (i : Nat) (w : World) (h : StL w x.s) (hi : i < x.s.l.length) :
    Calls Try.prog 65 #[x.val, .int .i64 (i : Int)] w fun e w' => e = .returned (.bool (at' x.s.l i).free) ∧ Ext w w' := by
  have HB := Lib.hid (fun (W : World) (k : Ext w W) => isBound_any x i W (h.ext k) hi)
  clear h hi
  obtain ⟨⟨a, c, l⟩, v⟩ := x
  dsimp only at HB ⊢
  generalize (at' l i).free = fr at *
  go_enter Try.func65, Try.ntmps65
  go_wp2_with (go_at_call 60; refine (HB.out _ ((Ext.refl w).alloc _)).mono ?_; rintro e w1 ⟨rfl, hx⟩)
  go_ret
  exact ⟨ret_bool (by cases fr <;> rfl), hx.unlaid⟩

/-- A stretch is asked of: the function g with what it holds answers p for the first m numbers, where D keeps. -/
def AsksB (g : Nat) (pre : Array Value) (p : Nat → Bool) (m : Nat) (D : Nat → Prop) (w0 : World) : Prop :=
  ∀ i, i < m → ∀ W, Keep D w0 W → Calls Try.prog g (pre ++ #[.int .i64 (i : Int)]) W fun e W' => e = .returned (.bool (p i)) ∧ Ext W W'
theorem isBound_asks (x : Ld) (D : Nat → Prop) (w0 : World) (h : StL w0 x.s) (hd : InB D x.s) : AsksB 60 #[x.val] (fun i => !(at' x.s.l i).free) x.s.l.length D w0 :=
  fun i hi _ k => isBound_any x i _ (h.keep k hd) hi
theorem isFree_asks (x : Ld) (D : Nat → Prop) (w0 : World) (h : StL w0 x.s) (hd : InB D x.s) : AsksB 65 #[x.val] (fun i => (at' x.s.l i).free) x.s.l.length D w0 :=
  fun i hi _ k => isFree_any x i _ (h.keep k hd) hi
end Go.Proofs.Ytlaolokakaheaaa
