/-
  Several texts in one. slices.Index and slices.Contains at lists of numbers return what they say, and turn nothing that was there. The list must read as told. Lists are cloned: the clone reads as the list, lies in new memory, and nothing that was there is turned. The list must read as told. Rows of numbers in memory of the call's own: what a store does to them. slices.IndexFunc at lists of numbers returns the first place at which a function value answers true, and turns nothing that was there. The list must read as told, and the function value must answer.
-/
import Derived.Test.YtopjjcgmcieboaaGreatDoorD
import Derived.Laws.AppendOwnNone
import Derived.Deep.DeepMust
import Derived.Lib.SliceRun
namespace Go.Proofs.YtopjjcgmcieboaaGreatDoor
open Go.RowKit

/-- r is the first place of x in l, or -1. -/
def IdxOf (l : List Nat) (x : Nat) (r : Int) : Prop := (r = -1 ∧ x ∉ l) ∨ ∃ (i : Nat) (h : i < l.length), r = i ∧ l[i] = x ∧ ∀ j (hj : j < i), l[j]'(by omega) ≠ x

set_option maxHeartbeats 400000 in
theorem index_any (a : Option Addr) (n c : Nat) (l : List Nat) (x : Nat) (w : World) (hn : l.length = n) (hv : IsSl 1 num w ⟨a, c, l⟩) :
    Calls Tryz.prog 91 #[.slice a n c, .int .i64 (x : Int)] w fun e w' => (∃ r : Int, e = .returned (.int .i64 r) ∧ IdxOf l x r) ∧ w = w' := by
  subst hn
  obtain ⟨h1, h2, h3⟩ := hv
  dsimp only at h1 h2 h3
  have H3 := Lib.hid h3; clear h3
  go_enter Tryz.func91, Tryz.ntmps91
  go_wp2
  go_loop [8] (fun i => ∃ k : Nat, k ≤ l.length ∧ i = .int .i64 k ∧ Hid (∀ j (hj : j < k) (h : j < l.length), l[j] ≠ x)) (fun i => l.length - (intOf i).toNat)
  case atStart => exact ⟨0, Nat.zero_le _, rfl, fun j hj => by omega⟩
  case round =>
    obtain ⟨k, hk, rfl, HA⟩ := hrel
    by_cases hlt : k < l.length
    · obtain ⟨b, off, rfl, hc⟩ := H3.out.resolve_left (by omega)
      have hcell : w.cell? ⟨b, off + k, none⟩ = some (.int .i64 (l[k] : Int)) := by have := hc k (by simpa using hlt) 0 (by omega); simpa [num] using this
      clear hc
      by_cases hxe : l[k] = x
      · generalize hy : l[k] = y at *
        have Hy := Lib.hid hy; clear hy
        have hb : ((x : Int) == (y : Int)) = true := by rw [beq_iff_eq]; omega
        have Hxe := Lib.hid hxe; clear hxe
        go_wp2
        go_ret
        exact ⟨⟨k, rfl, .inr ⟨k, hlt, rfl, by rw [Hy.out, Hxe.out], fun j hj => HA.out j hj (by omega)⟩⟩, rfl⟩
      · generalize hy : l[k] = y at *
        have Hy := Lib.hid hy; clear hy
        have hb : ((x : Int) == (y : Int)) = false := by rw [beq_eq_false_iff_ne]; omega
        have Hxe := Lib.hid hxe; clear hxe
        go_wp2
        go_round
        case rel => exact ⟨k + 1, by omega, by go_num, fun j hj h => by
          rcases Nat.lt_succ_iff_lt_or_eq.1 hj with h' | rfl
          · exact HA.out j h' h
          · rw [Hy.out]; exact Hxe.out⟩
        case measure => simp [intOf]; omega
    · go_wp2
      go_ret
      refine ⟨⟨-1, rfl, .inl ⟨rfl, fun hm => ?_⟩⟩, rfl⟩
      obtain ⟨j, hj, e⟩ := List.mem_iff_getElem.1 hm
      exact HA.out j (by omega) hj e

theorem contains_any (a : Option Addr) (n c : Nat) (l : List Nat) (x : Nat) (w : World) (hn : l.length = n) (hv : IsSl 1 num w ⟨a, c, l⟩) :
    Calls Tryz.prog 44 #[.slice a n c, .int .i64 (x : Int)] w fun e w' => e = .returned (.bool (l.contains x)) ∧ w = w' := by
  go_enter Tryz.func44, Tryz.ntmps44
  go_wp2_with fail
  refine (index_any a n c l x w hn hv).mono ?_
  rintro e w' ⟨⟨r, rfl, hr⟩, rfl⟩
  have HR := Lib.hid hr; clear hr hv
  go_wp2
  go_ret
  refine ⟨?_, rfl⟩
  rcases HR.out with ⟨rfl, hm⟩ | ⟨i, hi, rfl, hx, _⟩
  · have : l.contains x = false := by simpa using hm
    rw [this]; rfl
  · have : l.contains x = true := by simp; rw [← hx]; exact List.getElem_mem _
    rw [this]
    have h0 : decide ((0 : Int) ≤ (i : Int)) = true := by simp
    show Ending.returned (.bool (decide ((0 : Int) ≤ (i : Int)))) = _
    rw [h0]

end Go.Proofs.YtopjjcgmcieboaaGreatDoor

namespace Go.Proofs.YtopjjcgmcieboaaGreatDoor
open Go.RowKit

/-- The cells of a list of numbers. -/
def nums (l : List Nat) : List Value := l.map fun n : Nat => Value.int .i64 (n : Int)
theorem nums_length (l : List Nat) : (nums l).length = l.length := by simp [nums]
theorem nums_append (l m : List Nat) : nums (l ++ m) = nums l ++ nums m := by simp [nums]
theorem nums_get (l : List Nat) (j : Nat) (h : j < l.length) : (nums l)[j]? = some (.int .i64 (l[j] : Int)) := by simp [nums, h]
theorem nums_one (l : List Nat) : ∀ u ∈ nums l, u.oneCell' = true := by
  intro u hu; simp only [nums, List.mem_map] at hu; obtain ⟨n, _, rfl⟩ := hu; rfl

theorem own_form {w : World} {base : Nat} {e : TypeId} {size : Nat} {v : Value} {n : Nat} {xs : List Value} (h : w.ownsRow base e size v n xs) : ∃ a c, v = .slice a n c := by
  rcases h.2 with ⟨rfl, rfl⟩ | ⟨g, cap, cur, rfl, _⟩
  · exact ⟨none, 0, rfl⟩
  · exact ⟨_, _, rfl⟩

/-- An owned row of numbers reads as its list. -/
theorem own_sl {w : World} {base : Nat} {e : TypeId} {a : Option Addr} {c : Nat} {l : List Nat} (h : w.ownsRow base e 1 (.slice a l.length c) l.length (nums l)) (hl : l.length ≤ 1000000) : IsSl 1 num w ⟨a, c, l⟩ := by
  obtain ⟨h1, h2⟩ := h
  rcases h2 with ⟨h2, h3⟩ | ⟨g, cap, cur, h2, hb, hh, hn, hm, hs, ht⟩
  · simp only [Value.slice.injEq] at h2
    exact ⟨by simp only [h3]; omega, hl, .inl h3⟩
  · simp only [Value.slice.injEq] at h2
    obtain ⟨rfl, _, rfl⟩ := h2
    refine ⟨hn, hl, .inr ⟨g, 0, rfl, fun i hi j hj => ?_⟩⟩
    have hj0 : j = 0 := by omega
    subst hj0
    dsimp only at hi ⊢
    rw [cell_at hh]
    have e1 : cur[0 + i * 1 + 0]? = (cur.toList.take (l.length * 1))[i]? := by
      rw [List.getElem?_take]; simp [hi]
    rw [e1, ht, nums_get _ _ hi]; rfl

theorem ext_grown {w w' : World} (h : w.grownBy w' none) : Ext w w' := ⟨h.os, h.tape, h.output, h.size, fun k hk => h.block k hk (by simp)⟩
/-- What a row of the call's own grew by, if the row lies in new memory. -/
theorem ext_grown_of {a w w' : World} {row : Option Nat} (h0 : Ext a w) (h : w.grownBy w' row) (hr : ∀ k, row = some k → a.heap.size ≤ k) : Ext a w' := Below.grown h0 h h0.size hr

theorem info3 : (Tryz.prog.info? 3).map (fun i => (i.zero, i.size, i.bytes)) = some (some (.int .i64 0), 1, 8) := by kernel_rfl

/-- A list as its clone finds it: no memory, or a row of cells. -/
theorem cells_of_sl {w : World} {a : Option Addr} {c : Nat} {l : List Nat} (h : IsSl 1 num w ⟨a, c, l⟩) (ha : a ≠ none) : ∃ ad, a = some ad ∧ ∀ j u, (nums l)[j]? = some u → w.cell? (ad.add j) = some u := by
  obtain ⟨h1, h2, h3⟩ := h
  cases a with
  | none => exact absurd rfl ha
  | some ad =>
    refine ⟨ad, rfl, fun j u hu => ?_⟩
    have hj : j < l.length := by have := (List.getElem?_eq_some_iff.1 hu).1; simpa [nums] using this
    rcases h3 with h3 | ⟨b, off, h3, hc⟩
    · dsimp only at h3; omega
    · cases h3
      have := hc j hj 0 (by omega)
      rw [nums_get _ _ hj] at hu
      cases hu
      have e1 : (⟨b, off, none⟩ : Addr).add j = ⟨b, off + j, none⟩ := by
        unfold Addr.add; split
        · rename_i h0; simp_all
        · rfl
      rw [e1]
      simpa [num] using this

set_option maxHeartbeats 400000 in
theorem kitClone_any (a : Option Addr) (n c : Nat) (l : List Nat) (w : World) (hn : l.length = n) (hv : IsSl 1 num w ⟨a, c, l⟩) :
    Calls Tryz.prog 53 #[.slice a n c] w fun e w' => ∃ a' c', e = .returned (.slice a' n c') ∧ w'.ownsRow w.heap.size 3 1 (.slice a' n c') n (nums l) ∧ Ext w w' := by
  subst hn
  have hl : l.length ≤ 1000000 := hv.2.1
  obtain ⟨i0, hi, hz0, hz1, hz2⟩ := info_parts info3
  by_cases ha : a = none
  · subst ha
    have h0 : l = [] := by
      rcases hv.2.2 with h | ⟨b, off, h, _⟩
      · exact List.eq_nil_of_length_eq_zero h
      · cases h
    subst h0
    clear hv
    go_enter Tryz.func53, Tryz.ntmps53
    go_wp2
    go_ret
    exact ⟨none, 0, rfl, World.ownsRow_nil _ _ _ _, Ext.refl _⟩
  · obtain ⟨ad, rfl, hc⟩ := cells_of_sl hv ha
    have HC := Lib.hid hc; clear hc hv ha
    go_enter Tryz.func53, Tryz.ntmps53
    go_wp2_with (at_builtin; go_must (refine wpList_append_own _ rfl _ _ 25 rfl w.heap.size 3 i0 (.int .i64 0) 1 8 Tryz.underlying25 hi hz0 hz1 hz2 rfl (by decide) _ 0 [] rfl (World.ownsRow_nil _ _ _ _) ad l.length c (nums l) rfl (by simp [nums]) HC.out (nums_one l) (by unfold maxLen; omega) (by omega) (Nat.le_refl _) ?_); intro v' w1 hown hgrow _)
    rw [Nat.zero_add, List.nil_append] at hown
    obtain ⟨a', c', rfl⟩ := own_form hown
    have HO := Lib.hid hown
    have HG := Lib.hid (ext_grown hgrow); clear hown hgrow
    go_wp2
    go_ret
    exact ⟨a', c', rfl, HO.out, HG.out⟩

set_option maxHeartbeats 400000 in
theorem clone_any (a : Option Addr) (n c : Nat) (l : List Nat) (w : World) (hn : l.length = n) (hv : IsSl 1 num w ⟨a, c, l⟩) :
    Calls Tryz.prog 72 #[.slice a n c] w fun e w' => ∃ a' c', e = .returned (.slice a' n c') ∧ w'.ownsRow w.heap.size 3 1 (.slice a' n c') n (nums l) ∧ Ext w w' := by
  subst hn
  have hl : l.length ≤ 1000000 := hv.2.1
  obtain ⟨i0, hi, hz0, hz1, hz2⟩ := info_parts info3
  have q24 : ∀ (w : World) (a : Option Addr) (n c n' c' : Nat), (binOp .eql 25 (.slice a n c) (.slice none n' c')).run Tryz.prog w = .ok (.bool a.isNone) w := fun w a n c n' c' => Lib.run_eql_slice_nil w _ _ a n c n' c' Tryz.underlying25
  by_cases ha : a = none
  · subst ha
    have h0 : l = [] := by
      rcases hv.2.2 with h | ⟨b, off, h, _⟩
      · exact List.eq_nil_of_length_eq_zero h
      · cases h
    subst h0
    clear hv
    go_enter Tryz.func72, Tryz.ntmps72
    go_wp2
    go_ret
    exact ⟨none, 0, rfl, World.ownsRow_nil _ _ _ _, Ext.refl _⟩
  · obtain ⟨ad, rfl, hc⟩ := cells_of_sl hv ha
    have HC := Lib.hid hc; clear hc hv ha
    go_enter Tryz.func72, Tryz.ntmps72
    go_wp2_with (at_builtin; go_must (refine wpList_append_own _ rfl _ _ 25 rfl w.heap.size 3 i0 (.int .i64 0) 1 8 Tryz.underlying25 hi hz0 hz1 hz2 rfl (by decide) _ 0 [] rfl (World.ownsRow_made w #[] 0 (Nat.le_refl _) (by decide) rfl) ad l.length c (nums l) rfl (by simp [nums]) (fun j u hu => ((Ext.refl w).alloc _).cell (HC.out j u hu)) (nums_one l) (by unfold maxLen; omega) (by omega) (by simp) ?_); intro v' w1 hown hgrow _)
    rw [Nat.zero_add, List.nil_append] at hown
    obtain ⟨a', c', rfl⟩ := own_form hown
    have HO := Lib.hid hown
    have HG := Lib.hid (ext_grown_of ((Ext.refl w).alloc _) hgrow (fun k hk => by cases hk; exact Nat.le_refl _)); clear hown hgrow
    go_wp2
    go_ret
    exact ⟨a', c', rfl, HO.out, HG.out⟩
end Go.Proofs.YtopjjcgmcieboaaGreatDoor

namespace Go.Proofs.YtopjjcgmcieboaaGreatDoor
open Go.RowKit

/-- Block g holds cap cells, the first of which are the numbers L; it is not frozen. -/
def Row (w : World) (g : Nat) (L : List Nat) (cap : Nat) : Prop :=
  ∃ cur : Array Value, w.heap[g]? = some (.cells cur 3 (0, 0)) ∧ cur.size = cap ∧ L.length ≤ cap ∧ ∀ i (h : i < L.length), cur[i]? = some (.int .i64 (L[i] : Int))

theorem Row.ext {w w' : World} {g : Nat} {L : List Nat} {cap : Nat} (h : Row w g L cap) (k : Ext w w') : Row w' g L cap := by
  obtain ⟨cur, h1, h2⟩ := h; exact ⟨cur, k.block h1, h2⟩
theorem Row.lt {w : World} {g : Nat} {L : List Nat} {cap : Nat} (h : Row w g L cap) : g < w.heap.size := by
  obtain ⟨cur, h1, h2⟩ := h; exact (Array.getElem?_eq_some_iff.1 h1).1
theorem Row.le {w : World} {g : Nat} {L : List Nat} {cap : Nat} (h : Row w g L cap) : L.length ≤ cap := by
  obtain ⟨cur, h1, h2, h3, h4⟩ := h; exact h3
theorem Row.cell {w : World} {g : Nat} {L : List Nat} {cap : Nat} (h : Row w g L cap) (i : Nat) (hi : i < L.length) : w.cell? ⟨g, i, none⟩ = some (.int .i64 (L[i] : Int)) := by
  obtain ⟨cur, h1, h2, h3, h4⟩ := h; rw [cell_at h1, h4 i hi]
theorem Row.frozen {w : World} {g : Nat} {L : List Nat} {cap : Nat} (h : Row w g L cap) (i : Nat) : w.frozen? ⟨g, i, none⟩ = false := by
  obtain ⟨cur, h1, h2⟩ := h; simp [World.frozen?, h1]
theorem Row.take {w : World} {g : Nat} {L : List Nat} {cap : Nat} (h : Row w g L cap) (m : Nat) : Row w g (L.take m) cap := by
  obtain ⟨cur, h1, h2, h3, h4⟩ := h
  refine ⟨cur, h1, h2, by rw [List.length_take]; omega, fun i hi => ?_⟩
  rw [List.length_take] at hi
  rw [h4 i (by omega), List.getElem_take]
theorem heap_setCell_same {w : World} {g i : Nat} {cur : Array Value} {T : TypeId} {fr : Nat × Nat} (h : w.heap[g]? = some (.cells cur T fr)) (v : Value) : (w.setCell ⟨g, i, none⟩ v).heap[g]? = some (.cells (cur.setIfInBounds i v) T fr) := by
  simp [World.setCell, Array.getElem?_modify, h]
theorem Row.set {w : World} {g : Nat} {L : List Nat} {cap : Nat} (h : Row w g L cap) (i x : Nat) (hi : i < L.length) : Row (w.setCell ⟨g, i, none⟩ (.int .i64 (x : Int))) g (L.set i x) cap := by
  obtain ⟨cur, h1, h2, h3, h4⟩ := h
  refine ⟨_, heap_setCell_same h1 _, by simpa using h2, by simpa using h3, fun j hj => ?_⟩
  rw [List.length_set] at hj
  rw [Array.getElem?_setIfInBounds, List.getElem_set]
  split
  · rename_i e; subst e; simp; omega
  · exact h4 j hj
theorem Row.of_own {w : World} {base : Nat} {g c : Nat} {l : List Nat} (h : w.ownsRow base 3 1 (.slice (some ⟨g, 0, none⟩) l.length c) l.length (nums l)) : Row w g l c ∧ base ≤ g := by
  obtain ⟨h1, h2⟩ := h
  rcases h2 with ⟨h2, h3⟩ | ⟨g', cap, cur, h2, hb, hh, hn, hm, hs, ht⟩
  · cases h2
  · simp only [Value.slice.injEq, Option.some.injEq, Addr.mk.injEq, and_true, true_and] at h2
    obtain ⟨rfl, rfl⟩ := h2
    refine ⟨⟨cur, hh, by omega, hn, fun i hi => ?_⟩, hb⟩
    have e1 : cur[i]? = (cur.toList.take (l.length * 1))[i]? := by
      rw [List.getElem?_take]; simp [hi]
    rw [e1, ht, nums_get _ _ hi]
theorem Row.own {w : World} {base g cap : Nat} {L : List Nat} (h : Row w g L cap) (hb : base ≤ g) (hm : cap ≤ maxLen) : w.ownsRow base 3 1 (.slice (some ⟨g, 0, none⟩) L.length cap) L.length (nums L) := by
  obtain ⟨cur, h1, h2, h3, h4⟩ := h
  refine ⟨by simp [nums], .inr ⟨g, cap, cur, rfl, hb, h1, h3, hm, by omega, ?_⟩⟩
  apply List.ext_getElem?
  intro i
  rw [List.getElem?_take]
  by_cases hi : i < L.length
  · rw [nums_get _ _ hi, if_pos (by omega)]; simpa using h4 i hi
  · rw [if_neg (by omega), List.getElem?_eq_none (by rw [nums_length]; omega)]
theorem Row.cells_past {w : World} {g : Nat} {L : List Nat} {cap o : Nat} (h : Row w g L cap) (vs : List Value) (ho : L.length ≤ o) : Row (w.setCells g o vs) g L cap := by
  induction vs generalizing w o with
  | nil => exact h
  | cons v r ih =>
    refine ih ?_ (by omega)
    obtain ⟨cur, h1, h2, h3, h4⟩ := h
    refine ⟨_, heap_setCell_same h1 _, by simpa using h2, h3, fun j hj => ?_⟩
    rw [Array.getElem?_setIfInBounds, if_neg (by omega)]
    exact h4 j hj
theorem below_setCells {B : Nat} {a w : World} {g : Nat} (h : Below B a w) (hg : B ≤ g) (vs : List Value) (o : Nat) : Below B a (w.setCells g o vs) := by
  induction vs generalizing w o with
  | nil => exact h
  | cons v r ih => exact ih (h.setCell (p := ⟨g, o, none⟩) hg _) _

/-- r is the first place at which p holds of l, or -1. -/
def IdxBy (l : List Nat) (p : Nat → Bool) (r : Int) : Prop := (r = -1 ∧ l.all (fun x => !p x) = true) ∨ ∃ (i : Nat) (h : i < l.length), r = i ∧ p l[i] = true ∧ (l.take i).all (fun x => !p x) = true

set_option maxHeartbeats 400000 in
theorem indexFunc_any (g : Nat) (cap : Array Value) (p : Nat → Bool) (a : Option Addr) (n c : Nat) (l : List Nat) (w : World) (hE : Enters Tryz.prog g) (hn : l.length = n) (hv : IsSl 1 num w ⟨a, c, l⟩)
    (hp : Asks Tryz.prog g cap (fun x : Nat => #[.int .i64 (x : Int)]) (fun _ => True) p w) :
    Calls Tryz.prog 118 #[.slice a n c, .func (.func g) #[] cap] w fun e w' => (∃ r : Int, e = .returned (.int .i64 r) ∧ IdxBy l p r) ∧ Ext w w' := by
  subst hn
  obtain ⟨h1, h2, h3⟩ := hv
  dsimp only at h1 h2 h3
  have H3 := Lib.hid h3; clear h3
  have HP := Lib.hid hp; clear hp
  have HE : ∀ args w, (callFunc g args).run Tryz.prog w = .ok (.enter g args) w := hE; clear hE
  go_enter Tryz.func118, Tryz.ntmps118
  go_wp2
  go_loopw [8] (fun i wr => ∃ k : Nat, k ≤ l.length ∧ i = .int .i64 k ∧ Hid ((l.take k).all (fun x => !p x) = true) ∧ Ext w wr) (fun i _ => l.length - (intOf i).toNat)
  case atStart => exact ⟨0, Nat.zero_le _, rfl, by simp [Hid], Ext.refl _⟩
  case round =>
    obtain ⟨k, hk, rfl, HA, hext⟩ := hrel
    by_cases hlt : k < l.length
    · obtain ⟨b, off, rfl, hc⟩ := H3.out.resolve_left (by omega)
      have hcell : wr.cell? ⟨b, off + k, none⟩ = some (.int .i64 (l[k] : Int)) := by have := hext.cell (hc k (by simpa using hlt) 0 (by omega)); simpa [num] using this
      clear hc
      generalize hy : l[k] = y at *
      have Hy := Lib.hid hy; clear hy
      have HX := Lib.hid hext; clear hext
      go_wp2_with fail
      refine (HP.out y trivial wr HX.out).mono ?_
      rintro e w1 ⟨rfl, hx1⟩
      have HX1 := Lib.hid (HX.out.trans hx1); clear hx1
      cases hpx : p y
      · have Hpx := Lib.hid hpx; clear hpx
        go_wp2
        go_roundw
        case rel => exact ⟨k + 1, by omega, by go_num, by show _ = true; rw [all_take_succ _ _ _ hlt, HA.out, Hy.out, Hpx.out]; rfl, HX1.out⟩
        case measure => simp [intOf]; omega
      · have Hpx := Lib.hid hpx; clear hpx
        go_wp2
        go_ret
        exact ⟨⟨k, rfl, .inr ⟨k, hlt, rfl, by rw [Hy.out]; exact Hpx.out, HA.out⟩⟩, HX1.out⟩
    · have HX := Lib.hid hext; clear hext
      go_wp2
      go_ret
      refine ⟨⟨-1, rfl, .inl ⟨rfl, ?_⟩⟩, HX.out⟩
      have := HA.out
      rwa [List.take_of_length_le (by omega)] at this

end Go.Proofs.YtopjjcgmcieboaaGreatDoor
