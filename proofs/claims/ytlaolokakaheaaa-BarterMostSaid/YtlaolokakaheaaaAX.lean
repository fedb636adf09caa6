/-
  The chapter's examples of package barter as the tests' awake asks them: what each call answers.
-/
import Derived.Test.YtlaolokakaheaaaEV
import Derived.Test.YtlaolokakaheaaaBX
namespace Go.Proofs.Ytlaolokakaheaaa
open Go.RowKit

def threeC (w0 : Int) : Array Value := #[.int .i64 0, .int .i64 10, .int .i64 30, .int .i64 w0, .int .i64 1, .int .i64 40, .int .i64 20, .int .i64 (-1), .int .i64 1, .int .i64 20, .int .i64 20, .int .i64 (-1)]
abbrev ldT (g : Nat) : Ld := ⟨⟨some ⟨g, 0, none⟩, 3, threeL⟩, ⟨none, 0, []⟩⟩
abbrev ldW (g v : Nat) : Ld := ⟨⟨some ⟨g, 0, none⟩, 3, threeW⟩, ⟨some ⟨v, 0, none⟩, 1, [0]⟩⟩
theorem three_st {w : World} {g : Nat} {z : Int} {L : List St} (hL : L = [⟨0, 10, 30, z⟩, ⟨1, 40, 20, -1⟩, ⟨1, 20, 20, -1⟩]) (h : w.heap[g]? = some (.cells (threeC z) 41 (0, 0))) : IsSl 4 stC w ⟨some ⟨g, 0, none⟩, 3, L⟩ := by
  subst hL
  refine ⟨show (3 : Nat) ≤ 3 by omega, show (3 : Nat) ≤ 1000000 by omega, .inr ⟨g, 0, rfl, fun i hi j hj => ?_⟩⟩
  have hi' : i < 3 := hi
  rw [cell_at h]
  rcases (show i = 0 ∨ i = 1 ∨ i = 2 by omega) with rfl | rfl | rfl <;> rcases (show j = 0 ∨ j = 1 ∨ j = 2 ∨ j = 3 by omega) with rfl | rfl | rfl | rfl <;> rfl
theorem okT : OkL threeL [] := ⟨by decide, by decide, by decide, by decide, by decide, by decide, by decide, fun x hx => .inl (by revert x; decide)⟩
theorem okW : OkL threeW [0] := ⟨by decide, by decide, by decide, by decide, by decide, by decide, by decide, fun x hx => by
  have : x = ⟨0, 10, 30, 0⟩ ∨ x = ⟨1, 40, 20, -1⟩ ∨ x = ⟨1, 20, 20, -1⟩ := by simpa [threeW] using hx
  rcases this with rfl | rfl | rfl
  · exact .inr ⟨0, rfl, by decide, by decide⟩
  · exact .inl rfl
  · exact .inl rfl⟩
theorem three_in {w : World} {g : Nat} (h : w.heap[g]? = some (.cells (threeC (-1)) 41 (0, 0))) : LIn w (ldT g) := ⟨three_st rfl h, ⟨show (0 : Nat) ≤ 0 by omega, show (0 : Nat) ≤ 1000000 by omega, .inl rfl⟩, okT⟩
theorem one_is {w : World} {v : Nat} {z : Nat} (h : w.heap[v]? = some (.cells #[.int .i64 (z : Int)] 3 (0, 0))) : IsSl 1 num w ⟨some ⟨v, 0, none⟩, 1, [z]⟩ := by
  refine ⟨show (1 : Nat) ≤ 1 by omega, show (1 : Nat) ≤ 1000000 by omega, .inr ⟨v, 0, rfl, fun i hi j hj => ?_⟩⟩
  have hi' : i < 1 := hi
  obtain rfl : i = 0 := by omega
  obtain rfl : j = 0 := by omega
  exact (cell_at h 0).trans rfl
theorem three_is {w : World} {v p q r : Nat} (h : w.heap[v]? = some (.cells #[.int .i64 (p : Int), .int .i64 (q : Int), .int .i64 (r : Int)] 3 (0, 0))) : IsSl 1 num w ⟨some ⟨v, 0, none⟩, 3, [p, q, r]⟩ := by
  refine ⟨show (3 : Nat) ≤ 3 by omega, show (3 : Nat) ≤ 1000000 by omega, .inr ⟨v, 0, rfl, fun i hi j hj => ?_⟩⟩
  have hi' : i < 3 := hi
  obtain rfl : j = 0 := by omega
  rcases (show i = 0 ∨ i = 1 ∨ i = 2 by omega) with rfl | rfl | rfl
  · exact (cell_at h 0).trans rfl
  · exact (cell_at h 1).trans rfl
  · exact (cell_at h 2).trans rfl
theorem threeW_in {w : World} {g v : Nat} (h : w.heap[g]? = some (.cells (threeC 0) 41 (0, 0))) (hv : w.heap[v]? = some (.cells #[.int .i64 0] 3 (0, 0))) : LIn w (ldW g v) := ⟨three_st rfl h, one_is (z := 0) hv, okW⟩

theorem three_any (w : World) : Calls Try.prog 39 #[] w fun e w' => ∃ g, e = .returned (.agg #[.slice (some ⟨g, 0, none⟩) 3 3, .slice none 0 0]) ∧ w'.heap[g]? = some (.cells (threeC (-1)) 41 (0, 0)) ∧ w.heap.size ≤ g ∧ Ext w w' := by
  have HR : Hid (((w.alloc (.cells #[.slice (some ⟨w.heap.size + 1, 0, none⟩) 3 3, .slice none 0 0] 26)).alloc (.cells (threeC (-1)) 41)).heap[w.heap.size]? = some (.cells #[.slice (some ⟨w.heap.size + 1, 0, none⟩) 3 3, .slice none 0 0] 26 (0, 0))) := (alloc_old (by simp only [World.size_alloc]; omega)).trans (alloc_new rfl)
  have HG : Hid (((w.alloc (.cells #[.slice (some ⟨w.heap.size + 1, 0, none⟩) 3 3, .slice none 0 0] 26)).alloc (.cells (threeC (-1)) 41)).heap[w.heap.size + 1]? = some (.cells (threeC (-1)) 41 (0, 0))) := alloc_new (by simp only [World.size_alloc])
  go_enter Try.func39, Try.ntmps39
  go_wp2
  refine bodyPost_ret (results_cell_row rfl _ _ w.heap.size 26 _ (0, 0) _ rfl HR.out Try.underlying26 rfl (by kernel_rfl)) rfl ?_
  exact ⟨_, rfl, HG.out, by omega, ((Ext.refl w).alloc _).alloc _⟩
theorem is_any (W V : Nat) (a a2 : Option Addr) (c c2 : Nat) (l l2 : List Nat) (w : World) (h : IsSl 1 num w ⟨a, c, l⟩) (h2 : IsSl 1 num w ⟨a2, c2, l2⟩) (hW : W = V) (hl : l = l2) :
    Calls Try.prog 40 #[.agg #[.int .i64 (W : Int), .slice a l.length c], .int .i64 (V : Int), .slice a2 l2.length c2] w fun e w' => e = .returned (.bool true) ∧ Ext w w' := by
  have HE := Lib.hid (fun (X : World) (k : Ext w X) => equal_any ⟨a, c, l⟩ ⟨a2, c2, l2⟩ X (h.ext k) (h2.ext k))
  have HL : Hid (decide (l = l2) = true) := decide_eq_true hl
  dsimp only at HE
  clear h h2 hl
  subst hW
  go_enter Try.func40, Try.ntmps40
  go_wp2_with (go_at_call 24; refine (HE.out _ ((Ext.refl w).alloc _)).mono ?_; rintro e w1 ⟨rfl, hd⟩)
  go_ret
  exact ⟨ret_bool HL.out, ((Ext.refl w).alloc _).trans hd.ext⟩

theorem ex_gain : gainN threeL 1 [0, 1, 0] = 30 ∧ gainS threeL 1 [0, 1, 0] = 10 := by decide
section
variable {g h : Nat} {V : World}
theorem ein_T (hg : LIn V (ldT g)) {p q r : Nat} (hp : IsSl 1 num V ⟨some ⟨h, 0, none⟩, 3, [p, q, r]⟩) (h1 : p ≤ 1) (h2 : q ≤ 1) (h3 : r ≤ 1) : EIn V (ldT g) 1 (some ⟨h, 0, none⟩) 3 [p, q, r] :=
  ⟨hg.st, hg.vi, hg.ok, hp, rfl, by omega, by omega, fun i hi => by
    have hi' : i < 3 := hi
    rcases (show i = 0 ∨ i = 1 ∨ i = 2 by omega) with rfl | rfl | rfl <;> assumption⟩
abbrev landV (g : Nat) : Value := .agg #[.slice (some ⟨g, 0, none⟩) 3 3, .slice none 0 0]
theorem c38 (hg : LIn V (ldT g)) : Calls Try.prog 38 #[landV g] V fun e w' => ∃ (a : Option Addr) (c : Nat), e = .returned (.tuple #[.slice a 3 c, .int .i64 0]) ∧ IsSl 1 num w' ⟨a, c, [1, 2, 0]⟩ ∧ Ext V w' := by
  have := Order_ok (ldT g) V hg
  refine this.mono ?_
  rintro e w' ⟨a, c, rfl, ho, hx⟩
  dsimp only at ho
  rw [ex_order] at ho
  exact ⟨a, c, by dsimp only; rw [ex_order]; rfl, own_sl ho (by decide), hx⟩
theorem c19 (hg : LIn V (ldT g)) (hp : IsSl 1 num V ⟨some ⟨h, 0, none⟩, 3, [1, 0, 0]⟩) : Calls Try.prog 19 #[landV g, .agg #[.int .i64 1, .slice (some ⟨h, 0, none⟩) 3 3]] V fun e w' => e = .returned (.tuple #[.int .i64 1, .int .i64 0, .int .i64 0]) ∧ Ext V w' := by
  have := Waste_ok (ldT g) 1 (some ⟨h, 0, none⟩) 3 [1, 0, 0] V (ein_T hg hp (by omega) (by omega) (by omega)) (show allowsF threeL 1 [1, 0, 0] = true by decide)
  dsimp only at this
  rw [ex_waste] at this
  exact this
theorem c11 (hg : LIn V (ldT g)) (hp : IsSl 1 num V ⟨some ⟨h, 0, none⟩, 3, [0, 1, 0]⟩) : Calls Try.prog 11 #[landV g, .agg #[.int .i64 1, .slice (some ⟨h, 0, none⟩) 3 3]] V fun e w' => e = .returned (.tuple #[.int .i64 30, .int .i64 10, .int .i64 0]) ∧ Ext V w' := by
  have := Gains_ok (ldT g) 1 (some ⟨h, 0, none⟩) 3 [0, 1, 0] V (ein_T hg hp (by omega) (by omega) (by omega))
  dsimp only at this
  rw [ex_gain.1, ex_gain.2] at this
  exact this
theorem c15 (hg : LIn V (ldT g)) (hp : IsSl 1 num V ⟨some ⟨h, 0, none⟩, 3, [0, 1, 0]⟩) : Calls Try.prog 15 #[landV g, .agg #[.int .i64 1, .slice (some ⟨h, 0, none⟩) 3 3], .int .i64 1, .int .i64 1] V fun e w' => e = .returned (.tuple #[.bool true, .int .i64 0]) ∧ Ext V w' := by
  have := Holds_ok (ldT g) 1 (some ⟨h, 0, none⟩) 3 [0, 1, 0] 1 1 V (ein_T hg hp (by omega) (by omega) (by omega)) (by omega) (by omega)
  dsimp only at this
  rw [ex_holds] at this
  exact this
/-- What an exchange by order answers. -/
abbrev ByV (V : World) (W : Nat) (P : List Nat) (e : Ending) (w' : World) : Prop := ∃ h c, e = .returned (.tuple #[.agg #[.int .i64 (W : Int), .slice (some ⟨h, 0, none⟩) 3 c], .int .i64 0]) ∧ IsSl 1 num w' ⟨some ⟨h, 0, none⟩, c, P⟩ ∧ Ext V w'
theorem byv {W : Nat} {P : List Nat} (hP : P.length = 3) {f : Nat} {args : Array Value} (h : Calls Try.prog f args V fun e w' => ∃ g cap, e = .returned (.tuple #[.agg #[.int .i64 (W : Int), .slice (some ⟨g, 0, none⟩) 3 cap], .int .i64 0]) ∧ XNew V g cap P w') : Calls Try.prog f args V (ByV V W P) := by
  refine h.mono ?_
  rintro e w' ⟨g, cap, rfl, hx⟩
  exact ⟨g, cap, rfl, hx.row.sl (by omega), hx.x⟩
theorem c10 (hg : LIn V (ldT g)) : Calls Try.prog 10 #[landV g] V (ByV V 3 [0, 2, 0]) := byv rfl (Even_ok (ldT g) V hg 3 [0, 2, 0] ex_even)
theorem c21a (hg : LIn V (ldT g)) : Calls Try.prog 21 #[landV g, .int .i64 30] V (ByV V 1 [0, 1, 0]) := byv rfl (Most_some (ldT g) 30 V hg (by omega) 1 [0, 1, 0] ex_most1)
theorem c21b (hg : LIn V (ldT g)) : Calls Try.prog 21 #[landV g, .int .i64 40] V (ByV V 2 [0, 2, 1]) := byv rfl (Most_some (ldT g) 40 V hg (by omega) 2 [0, 2, 1] ex_most2)
theorem c21c (hg : LIn V (ldT g)) : Calls Try.prog 21 #[landV g, .int .i64 61] V fun e w' => e = .returned (.tuple #[.agg #[.int .i64 0, .slice none 0 0], .int .i64 7]) ∧ Ext V w' := Most_none (ldT g) 61 V hg (by omega) ex_most3
theorem c10w {v : Nat} (hg : LIn V (ldW g v)) : Calls Try.prog 10 #[.agg #[.slice (some ⟨g, 0, none⟩) 3 3, .slice (some ⟨v, 0, none⟩) 1 1]] V (ByV V 1 [1, 0, 0]) := byv rfl (Even_ok (ldW g v) V hg 1 [1, 0, 0] ex_even2)
theorem c24 {a a2 : Option Addr} {c c2 : Nat} {l : List Nat} (h1 : IsSl 1 num V ⟨a, c, l⟩) (h2 : IsSl 1 num V ⟨a2, c2, l⟩) : Calls Try.prog 24 #[.slice a l.length c, .slice a2 l.length c2] V fun e w' => e = .returned (.bool true) ∧ Ext V w' := by
  refine (equal_any ⟨a, c, l⟩ ⟨a2, c2, l⟩ V h1 h2).mono ?_
  rintro e w' ⟨rfl, hd⟩
  exact ⟨by rw [decide_eq_true rfl], hd.ext⟩
end
end Go.Proofs.Ytlaolokakaheaaa
