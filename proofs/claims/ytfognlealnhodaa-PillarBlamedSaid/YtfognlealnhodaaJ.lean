/-
  slices.Grow of nothing and slices.Concat of slices of ints: new memory with all their numbers, in their order; nothing that was there is turned.
-/
import Derived.Test.YtfognlealnhodaaA
import Derived.Lib.AppendZerosOnto
namespace Go.Proofs.Ytfognlealnhodaa
open Go.RowKit

set_option maxRecDepth 100000 in
set_option maxHeartbeats 1000000 in
theorem grow_nil (n : Nat) (w : World) (hn : n ≤ 1000000) : Calls Try.prog 89 #[.slice none 0 0, .int .i64 (n : Int)] w fun e w' => ∃ a c, e = .returned (.slice a 0 c) ∧ w'.ownsRow w.heap.size 3 1 (.slice a 0 c) 0 [] ∧ Ext w w' := by
  obtain ⟨i0, hi, hz0, hz1, hz2⟩ := info_parts info3
  have d0 : decide ((n : Int) < 0) = false := decide_eq_false (by omega)
  by_cases h : n = 0
  · have d1 : decide ((0 : Int) < (n : Int)) = false := decide_eq_false (by omega)
    go_enter Try.func89, Try.ntmps89
    go_wp2
    go_ret
    exact ⟨none, 0, rfl, World.ownsRow_nil _ _ _ _, Ext.refl _⟩
  · have d1 : decide ((0 : Int) < (n : Int)) = true := decide_eq_true (by omega)
    have hap := fun ty => Lib.run_append_grow_zeros (P := Try.prog) w 25 3 ty 3 i0 (.int .i64 0) .i64 .i64 Try.underlying25 (by kernel_rfl) hi hz0 none 0 0 [] (run_firstCells_none w.drew i0.size 0 0 0) n (by omega) (by omega) (by omega) (by omega) (by rw [hz2]; omega) (growslice_fits (by omega) (by rw [hz2]; omega))
    rw [Nat.zero_add] at hap
    have hcap : n ≤ grownCap w n 0 3 := grownCap_ge w _ _ _
    have hcap2 : grownCap w n 0 3 ≤ maxLen := grownCap_le_maxLen w n 0 3 (by unfold maxLen; omega)
    generalize grownCap w n 0 3 = C at *
    have hm : C ≤ 9223372036854775807 := by unfold maxLen at hcap2; omega
    have hpos : 0 < n := by omega
    have d2 : decide (0 < n) = true := decide_eq_true hpos
    clear h
    have HO : Hid ((w.drew.alloc (.cells (#[] ++ Builtin.zeroCells (Value.int .i64 0).cells n ++ Builtin.zeroCells (Value.int .i64 0).cells (C - n)) 3)).ownsRow w.heap.size 3 1 (.slice (some ⟨w.heap.size, 0, none⟩) 0 C) 0 []) :=
      World.ownsRow_made w.drew _ C (Nat.le_refl _) hcap2 (by simp only [Array.size_append, size_zeroCells]; simp [Value.cells]; omega)
    have HX : Hid (Ext w (w.drew.alloc (.cells (#[] ++ Builtin.zeroCells (Value.int .i64 0).cells n ++ Builtin.zeroCells (Value.int .i64 0).cells (C - n)) 3))) := (Ext.refl w).drew.alloc _
    generalize #[] ++ Builtin.zeroCells (Value.int .i64 0).cells n ++ Builtin.zeroCells (Value.int .i64 0).cells (C - n) = Zs at *
    go_enter Try.func89, Try.ntmps89
    go_wp2_with (at_builtin; refine Lib.wpList_append_run _ rfl _ _ _ _ rfl _ _ rfl rfl _ _ (hap _) ?_)
    go_ret
    exact ⟨_, _, rfl, HO.out, HX.out⟩

/-- How many numbers the first m lists have. -/
def lenTo (L : List (SL Nat)) (m : Nat) : Nat := ((L.take m).flatMap SL.l).length
/-- The numbers of the first m lists. -/
def catTo (L : List (SL Nat)) (m : Nat) : List Nat := (L.take m).flatMap SL.l
theorem catTo_succ {L : List (SL Nat)} {m : Nat} (h : m < L.length) : catTo L (m + 1) = catTo L m ++ L[m].l := by
  unfold catTo; rw [List.take_succ_eq_append_getElem h, List.flatMap_append]; simp
theorem catTo_mono {L : List (SL Nat)} : ∀ {m k : Nat}, m ≤ k → (catTo L m).length ≤ (catTo L k).length := by
  intro m k h
  induction k with
  | zero => rw [show m = 0 by omega]; exact Nat.le_refl _
  | succ k ih =>
    rcases Nat.lt_or_eq_of_le h with h' | rfl
    · refine Nat.le_trans (ih (by omega)) ?_
      by_cases hk : k < L.length
      · rw [catTo_succ hk, List.length_append]; omega
      · unfold catTo; rw [List.take_of_length_le (by omega), List.take_of_length_le (by omega)]; exact Nat.le_refl _
    · exact Nat.le_refl _

set_option maxRecDepth 100000 in
set_option maxHeartbeats 2000000 in
theorem concat_any (s : SL (SL Nat)) (w : World) (hs : IsSl 1 slC w s) (he : ∀ x ∈ s.l, IsSl 1 num w x ∧ x.a ≠ none) (L : List Nat) (hL : catTo s.l s.l.length = L) (ht : L.length ≤ 1000000) :
    Calls Try.prog 79 #[.slice s.a s.l.length s.c] w fun e w' => ∃ a c, e = .returned (.slice a L.length c) ∧ w'.ownsRow w.heap.size 3 1 (.slice a L.length c) L.length (nums L) ∧ Ext w w' := by
  obtain ⟨i0, hi, hz0, hz1, hz2⟩ := info_parts info3
  obtain ⟨sa, sc, l⟩ := s
  obtain ⟨h1, h2, h3⟩ := hs
  dsimp only at h1 h2 h3 he hL ⊢
  have H3 := Lib.hid h3; clear h3
  have HE := Lib.hid he; clear he
  have HL := Lib.hid hL; clear hL
  have HM : Hid (∀ k, (catTo l k).length ≤ L.length) := fun k => by
    rcases Nat.le_total k l.length with h | h
    · rw [← HL.out]; exact catTo_mono h
    · rw [← HL.out]; unfold catTo; rw [List.take_of_length_le h, List.take_of_length_le (Nat.le_refl _)]; exact Nat.le_refl _
  go_enter Try.func79, Try.ntmps79
  go_wp2_with fail
  go_loopw [3, 11] (fun u i wr => ∃ k : Nat, k ≤ l.length ∧ i = .int .i64 k ∧ u = .int .i64 ((catTo l k).length : Int) ∧ wr = w) (fun _ i _ => l.length - (intOf i).toNat)
  case atStart => exact ⟨0, Nat.zero_le _, rfl, rfl, rfl⟩
  case round =>
    obtain ⟨wo, rfl⟩ : ∃ wo : World, wo = wr := ⟨_, rfl⟩
    obtain ⟨k, hk, rfl, rfl, rfl⟩ := hrel
    by_cases hlt : k < l.length
    · obtain ⟨b, off, rfl, hc⟩ := H3.out.resolve_left (by omega)
      have hcell0 : wo.cell? ⟨b, off + k, none⟩ = some (.slice l[k].a l[k].l.length l[k].c) := by have := hc k hlt 0 (by omega); simpa [slC, SL.v] using this
      clear hc
      have hsu := catTo_succ hlt
      have hm1 := HM.out k
      have hm2 := HM.out (k + 1)
      have HS : Hid ((catTo l (k + 1)).length = (catTo l k).length + l[k].l.length) := by show _ = _; rw [hsu, List.length_append]
      rw [HS.out] at hm2
      generalize (catTo l k).length = z at *
      clear hsu
      generalize l[k] = X at *
      have d0 : decide ((z : Int) + (X.l.length : Int) < 0) = false := decide_eq_false (by omega)
      go_wp2_with fail
      go_roundw
      case rel => exact ⟨k + 1, by omega, by go_num, by rw [HS.out]; simp, trivial⟩
      case measure => simp [intOf]; omega
    · obtain rfl : k = l.length := by omega
      rw [HL.out]
      go_wp2_with fail
      refine (grow_nil L.length _ ht).mono ?_
      rintro e w1 ⟨a1, c1, rfl, ho1, hx1⟩
      have HO1 := Lib.hid ho1
      have HX1 := Lib.hid hx1
      clear ho1 hx1 hlt
      go_wp2_with fail
      go_loopw [6, 27] (fun u i w2 => ∃ (k : Nat) (a : Option Addr) (c : Nat), k ≤ l.length ∧ i = .int .i64 k ∧ u = .slice a (catTo l k).length c ∧ Hid (w2.ownsRow wo.heap.size 3 1 (.slice a (catTo l k).length c) (catTo l k).length (nums (catTo l k))) ∧ Hid (Ext wo w2)) (fun _ i _ => l.length - (intOf i).toNat)
      case atStart => exact ⟨0, a1, c1, Nat.zero_le _, rfl, rfl, HO1.out, HX1.out⟩
      case round =>
        clear HO1 HX1
        obtain ⟨w2, rfl⟩ : ∃ w2 : World, w2 = wr := ⟨_, rfl⟩
        obtain ⟨k, a, c, hk, rfl, rfl, HO, HX⟩ := hrel
        by_cases hlt : k < l.length
        · obtain ⟨b, off, rfl, hc⟩ := H3.out.resolve_left (by omega)
          have hcell0 : w2.cell? ⟨b, off + k, none⟩ = some (.slice l[k].a l[k].l.length l[k].c) := by have := HX.out.cell (hc k hlt 0 (by omega)); simpa [slC, SL.v] using this
          clear hc
          have hm2 := HM.out (k + 1)
          have hsu := catTo_succ hlt
          rw [hsu, List.length_append] at hm2
          have HS := Lib.hid hsu
          clear hsu
          obtain ⟨hx1, hx2⟩ := HE.out _ (List.getElem_mem hlt)
          generalize l[k] = X at *
          obtain ⟨xa, xc, xl⟩ := X
          obtain ⟨ad, hxa, hcs⟩ := cells_of_sl hx1 hx2
          dsimp only at hcell0 hm2 hxa
          subst hxa
          have HC := Lib.hid hcs
          clear hcs hx1 hx2
          have hmx : (catTo l k).length + xl.length ≤ maxLen := by unfold maxLen; omega
          have HCt : Hid (catTo l (k + 1) = catTo l k ++ xl) := HS.out
          clear HS
          generalize catTo l k = Lk at *
          go_wp2_with (at_builtin; go_must (refine wpList_append_own _ rfl _ _ 25 rfl wo.heap.size 3 i0 (.int .i64 0) 1 8 Try.underlying25 hi hz0 hz1 hz2 rfl (by decide) _ Lk.length (nums Lk) rfl HO.out ad xl.length xc (nums xl) rfl (by simp [nums]) (fun j u hu => HX.out.cell (HC.out j u hu)) (nums_one xl) hmx (by omega) HX.out.size ?_); intro v' w5 hown hgrow _)
          obtain ⟨a5, c5, rfl⟩ := own_form hown
          have HG := Lib.hid (ext_grown_of HX.out hgrow (own_lt HO.out))
          rw [← nums_append, ← HCt.out, show Lk.length + xl.length = (catTo l (k + 1)).length by rw [HCt.out, List.length_append]] at hown
          have HO5 := Lib.hid hown
          clear hown hgrow
          go_roundw
          case rel => exact ⟨k + 1, a5, c5, by omega, by go_num, by rw [HCt.out, List.length_append], HO5.out, HG.out⟩
          case measure => simp [intOf]; omega
        · obtain rfl : k = l.length := by omega
          rw [HL.out] at HO
          go_wp2_with fail
          go_ret
          refine ⟨a, c, ?_, HO.out, HX.out⟩
          rw [HL.out]; rfl
end Go.Proofs.Ytfognlealnhodaa
