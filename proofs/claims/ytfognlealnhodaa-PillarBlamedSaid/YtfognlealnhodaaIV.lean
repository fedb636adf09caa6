/-
  Lists of numbers that may be less than 0: rows of one's own, clones, and what slices.Delete leaves.
-/
import Derived.Test.YtfognlealnhodaaRS
namespace Go.Proofs.Ytfognlealnhodaa
open Go.RowKit

/-- The cells of a list of numbers. -/
def intsV (l : List Int) : List Value := l.map fun n : Int => Value.int .i64 n
theorem intsV_length (l : List Int) : (intsV l).length = l.length := by simp [intsV]
theorem intsV_get (l : List Int) (j : Nat) (h : j < l.length) : (intsV l)[j]? = some (.int .i64 l[j]) := by simp [intsV, h]
theorem intsV_one (l : List Int) : ∀ u ∈ intsV l, u.oneCell' = true := by
  intro u hu; simp only [intsV, List.mem_map] at hu; obtain ⟨n, _, rfl⟩ := hu; rfl
/-- Block g holds cap cells, the first of which are the numbers L; it is not frozen. -/
def RowI (w : World) (g : Nat) (L : List Int) (cap : Nat) : Prop :=
  ∃ cur : Array Value, w.heap[g]? = some (.cells cur 3 (0, 0)) ∧ cur.size = cap ∧ L.length ≤ cap ∧ ∀ i (h : i < L.length), cur[i]? = some (.int .i64 L[i])
/-- An owned row of numbers reads as its list. -/
theorem own_slI {w : World} {base : Nat} {e : TypeId} {a : Option Addr} {c : Nat} {l : List Int} (h : w.ownsRow base e 1 (.slice a l.length c) l.length (intsV l)) (hl : l.length ≤ 1000000) : IsSl 1 numI w ⟨a, c, l⟩ := by
  obtain ⟨h1, h2⟩ := h
  rcases h2 with ⟨h2, h3⟩ | ⟨g, cap, cur, h2, hb, hh, hn, hm, hs, ht⟩
  · simp only [Value.slice.injEq] at h2
    exact ⟨by simp only [h3]; omega, hl, .inl h3⟩
  · simp only [Value.slice.injEq] at h2
    obtain ⟨rfl, _, rfl⟩ := h2
    refine ⟨hn, hl, .inr ⟨g, 0, rfl, fun i hi j hj => ?_⟩⟩
    have hj0 : j = 0 := by omega
    subst hj0
    dsimp only at hi ⊢
    rw [cell_at hh]
    have e1 : cur[0 + i * 1 + 0]? = (cur.toList.take (l.length * 1))[i]? := by
      rw [List.getElem?_take]; simp [hi]
    rw [e1, ht, intsV_get _ _ hi]; rfl
/-- A list as its clone finds it: no memory, or a row of cells. -/
theorem cells_of_slI {w : World} {a : Option Addr} {c : Nat} {l : List Int} (h : IsSl 1 numI w ⟨a, c, l⟩) (ha : a ≠ none) : ∃ ad, a = some ad ∧ ∀ j u, (intsV l)[j]? = some u → w.cell? (ad.add j) = some u := by
  obtain ⟨h1, h2, h3⟩ := h
  cases a with
  | none => exact absurd rfl ha
  | some ad =>
    refine ⟨ad, rfl, fun j u hu => ?_⟩
    have hj : j < l.length := by have := (List.getElem?_eq_some_iff.1 hu).1; simpa [intsV] using this
    rcases h3 with h3 | ⟨b, off, h3, hc⟩
    · dsimp only at h3; omega
    · cases h3
      have := hc j hj 0 (by omega)
      rw [intsV_get _ _ hj] at hu
      cases hu
      have e1 : (⟨b, off, none⟩ : Addr).add j = ⟨b, off + j, none⟩ := by
        unfold Addr.add; split
        · rename_i h0; simp_all
        · rfl
      rw [e1]
      simpa [numI] using this
set_option maxHeartbeats 400000 in
theorem kitClone_anyI (a : Option Addr) (n c : Nat) (l : List Int) (w : World) (hn : l.length = n) (hv : IsSl 1 numI w ⟨a, c, l⟩) :
    Calls Try.prog 29 #[.slice a n c] w fun e w' => ∃ a' c', e = .returned (.slice a' n c') ∧ w'.ownsRow w.heap.size 3 1 (.slice a' n c') n (intsV l) ∧ Ext w w' := by
  subst hn
  have hl : l.length ≤ 1000000 := hv.2.1
  obtain ⟨i0, hi, hz0, hz1, hz2⟩ := info_parts info3
  by_cases ha : a = none
  · subst ha
    have h0 : l = [] := by
      rcases hv.2.2 with h | ⟨b, off, h, _⟩
      · exact List.eq_nil_of_length_eq_zero h
      · cases h
    subst h0
    clear hv
    go_enter Try.func29, Try.ntmps29
    go_wp2
    go_ret
    exact ⟨none, 0, rfl, World.ownsRow_nil _ _ _ _, Ext.refl _⟩
  · obtain ⟨ad, rfl, hc⟩ := cells_of_slI hv ha
    have HC := Lib.hid hc; clear hc hv ha
    go_enter Try.func29, Try.ntmps29
    go_wp2_with (at_builtin; go_must (refine wpList_append_own _ rfl _ _ 25 rfl w.heap.size 3 i0 (.int .i64 0) 1 8 Try.underlying25 hi hz0 hz1 hz2 rfl (by decide) _ 0 [] rfl (World.ownsRow_nil _ _ _ _) ad l.length c (intsV l) rfl (by simp [intsV]) HC.out (intsV_one l) (by unfold maxLen; omega) (by omega) (Nat.le_refl _) ?_); intro v' w1 hown hgrow _)
    rw [Nat.zero_add, List.nil_append] at hown
    obtain ⟨a', c', rfl⟩ := own_form hown
    have HO := Lib.hid hown
    have HG := Lib.hid (ext_grown hgrow); clear hown hgrow
    go_wp2
    go_ret
    exact ⟨a', c', rfl, HO.out, HG.out⟩
set_option maxHeartbeats 400000 in
theorem clone_anyI (a : Option Addr) (n c : Nat) (l : List Int) (w : World) (hn : l.length = n) (hv : IsSl 1 numI w ⟨a, c, l⟩) :
    Calls Try.prog 93 #[.slice a n c] w fun e w' => ∃ a' c', e = .returned (.slice a' n c') ∧ w'.ownsRow w.heap.size 3 1 (.slice a' n c') n (intsV l) ∧ Ext w w' := by
  subst hn
  have hl : l.length ≤ 1000000 := hv.2.1
  obtain ⟨i0, hi, hz0, hz1, hz2⟩ := info_parts info3
  have q25 : ∀ (w : World) (a : Option Addr) (n c n' c' : Nat), (binOp .eql 25 (.slice a n c) (.slice none n' c')).run Try.prog w = .ok (.bool a.isNone) w := fun w a n c n' c' => Lib.run_eql_slice_nil w _ _ a n c n' c' Try.underlying25
  by_cases ha : a = none
  · subst ha
    have h0 : l = [] := by
      rcases hv.2.2 with h | ⟨b, off, h, _⟩
      · exact List.eq_nil_of_length_eq_zero h
      · cases h
    subst h0
    clear hv
    go_enter Try.func93, Try.ntmps93
    go_wp2
    go_ret
    exact ⟨none, 0, rfl, World.ownsRow_nil _ _ _ _, Ext.refl _⟩
  · obtain ⟨ad, rfl, hc⟩ := cells_of_slI hv ha
    have HC := Lib.hid hc; clear hc hv ha
    go_enter Try.func93, Try.ntmps93
    go_wp2_with (at_builtin; go_must (refine wpList_append_own _ rfl _ _ 25 rfl w.heap.size 3 i0 (.int .i64 0) 1 8 Try.underlying25 hi hz0 hz1 hz2 rfl (by decide) _ 0 [] rfl (World.ownsRow_made w #[] 0 (Nat.le_refl _) (by decide) rfl) ad l.length c (intsV l) rfl (by simp [intsV]) (fun j u hu => ((Ext.refl w).alloc _).cell (HC.out j u hu)) (intsV_one l) (by unfold maxLen; omega) (by omega) (by simp) ?_); intro v' w1 hown hgrow _)
    rw [Nat.zero_add, List.nil_append] at hown
    obtain ⟨a', c', rfl⟩ := own_form hown
    have HO := Lib.hid hown
    have HG := Lib.hid (ext_grown_of ((Ext.refl w).alloc _) hgrow (fun k hk => by cases hk; exact Nat.le_refl _)); clear hown hgrow
    go_wp2
    go_ret
    exact ⟨a', c', rfl, HO.out, HG.out⟩
theorem RowI.ext {w w' : World} {g : Nat} {L : List Int} {cap : Nat} (h : RowI w g L cap) (k : Ext w w') : RowI w' g L cap := by
  obtain ⟨cur, h1, h2⟩ := h; exact ⟨cur, k.block h1, h2⟩
theorem RowI.le {w : World} {g : Nat} {L : List Int} {cap : Nat} (h : RowI w g L cap) : L.length ≤ cap := by
  obtain ⟨cur, h1, h2, h3, h4⟩ := h; exact h3
theorem RowI.cell {w : World} {g : Nat} {L : List Int} {cap : Nat} (h : RowI w g L cap) (i : Nat) (hi : i < L.length) : w.cell? ⟨g, i, none⟩ = some (.int .i64 L[i]) := by
  obtain ⟨cur, h1, h2, h3, h4⟩ := h; rw [cell_at h1, h4 i hi]
theorem RowI.frozen {w : World} {g : Nat} {L : List Int} {cap : Nat} (h : RowI w g L cap) (i : Nat) : w.frozen? ⟨g, i, none⟩ = false := by
  obtain ⟨cur, h1, h2⟩ := h; simp [World.frozen?, h1]
theorem RowI.take {w : World} {g : Nat} {L : List Int} {cap : Nat} (h : RowI w g L cap) (m : Nat) : RowI w g (L.take m) cap := by
  obtain ⟨cur, h1, h2, h3, h4⟩ := h
  refine ⟨cur, h1, h2, by rw [List.length_take]; omega, fun i hi => ?_⟩
  rw [List.length_take] at hi
  rw [h4 i (by omega), List.getElem_take]
theorem RowI.set {w : World} {g : Nat} {L : List Int} {cap : Nat} (h : RowI w g L cap) (i : Nat) (x : Int) (hi : i < L.length) : RowI (w.setCell ⟨g, i, none⟩ (.int .i64 x)) g (L.set i x) cap := by
  obtain ⟨cur, h1, h2, h3, h4⟩ := h
  refine ⟨_, heap_setCell_same h1 _, by simpa using h2, by simpa using h3, fun j hj => ?_⟩
  rw [List.length_set] at hj
  rw [Array.getElem?_setIfInBounds, List.getElem_set]
  split
  · rename_i e; subst e; simp; omega
  · exact h4 j hj
theorem RowI.of_own {w : World} {base : Nat} {g c : Nat} {l : List Int} (h : w.ownsRow base 3 1 (.slice (some ⟨g, 0, none⟩) l.length c) l.length (intsV l)) : RowI w g l c ∧ base ≤ g := by
  obtain ⟨h1, h2⟩ := h
  rcases h2 with ⟨h2, h3⟩ | ⟨g', cap, cur, h2, hb, hh, hn, hm, hs, ht⟩
  · cases h2
  · simp only [Value.slice.injEq, Option.some.injEq, Addr.mk.injEq, and_true, true_and] at h2
    obtain ⟨rfl, rfl⟩ := h2
    refine ⟨⟨cur, hh, by omega, hn, fun i hi => ?_⟩, hb⟩
    have e1 : cur[i]? = (cur.toList.take (l.length * 1))[i]? := by
      rw [List.getElem?_take]; simp [hi]
    rw [e1, ht, intsV_get _ _ hi]
theorem RowI.cells_past {w : World} {g : Nat} {L : List Int} {cap o : Nat} (h : RowI w g L cap) (vs : List Value) (ho : L.length ≤ o) : RowI (w.setCells g o vs) g L cap := by
  induction vs generalizing w o with
  | nil => exact h
  | cons v r ih =>
    refine ih ?_ (by omega)
    obtain ⟨cur, h1, h2, h3, h4⟩ := h
    refine ⟨_, heap_setCell_same h1 _, by simpa using h2, h3, fun j hj => ?_⟩
    rw [Array.getElem?_setIfInBounds, if_neg (by omega)]
    exact h4 j hj
theorem RowI.move {w : World} {g cap o : Nat} {L : List Int} (h : RowI w g L cap) (ns : List Int) (ho : o + ns.length ≤ L.length) : RowI (w.setCells g o (intsV ns)) g (L.take o ++ ns ++ L.drop (o + ns.length)) cap := by
  induction ns generalizing w o L with
  | nil => simpa [intsV, World.setCells] using h
  | cons x ns ih =>
    rw [List.length_cons] at ho
    have h1 := ih (o := o + 1) (h.set o x (by omega)) (by rw [List.length_set]; omega)
    have e : (L.set o x).take (o + 1) ++ ns ++ (L.set o x).drop (o + 1 + ns.length) = L.take o ++ x :: ns ++ L.drop (o + (x :: ns).length) := by
      rw [List.take_succ_eq_append_getElem (by rw [List.length_set]; omega), List.getElem_set_self, List.take_set_of_le (Nat.le_refl _), List.drop_set_of_lt (by omega), List.length_cons, show o + 1 + ns.length = o + (ns.length + 1) by omega]
      simp
    rw [e] at h1
    exact h1
theorem erase_moveI (l : List Int) (i : Nat) (hi : i < l.length) : (l.take i ++ l.drop (i + 1) ++ l.drop (i + (l.drop (i + 1)).length)).take (l.length - 1) = l.eraseIdx i ∧ (l.take i ++ l.drop (i + 1) ++ l.drop (i + (l.drop (i + 1)).length)).length = l.length := by
  have h1 : (l.take i ++ l.drop (i + 1)).length = l.length - 1 := by rw [List.length_append, List.length_take, List.length_drop]; omega
  constructor
  · rw [← h1, List.take_left, List.eraseIdx_eq_take_drop_succ]
  · rw [List.length_append, h1, List.length_drop, List.length_drop]; omega
set_option maxRecDepth 100000 in
set_option maxHeartbeats 1000000 in
theorem delete_anyI (base g c i : Nat) (l : List Int) (w : World) (hrow : RowI w g l c) (hb : base ≤ g) (hl : l.length ≤ 1000000) (hcm : c ≤ maxLen) (hi : i < l.length) :
    Calls Try.prog 28 #[.slice (some ⟨g, 0, none⟩) l.length c, .int .i64 (i : Int), .int .i64 ((i : Int) + 1)] w fun e w' =>
      e = .returned (.slice (some ⟨g, 0, none⟩) (l.eraseIdx i).length c) ∧ RowI w' g (l.eraseIdx i) c ∧ Below base w w' := by
  obtain ⟨he1, he2⟩ := erase_moveI l i hi
  obtain ⟨iq, hq, hq0, hq1, hq2⟩ := info_parts info3
  have HQ := Lib.hid hq; clear hq hq0 hq2
  have HQ1 := Lib.hid hq1; clear hq1
  have hrd : RowI w.drew g l c := hrow.ext (Ext.refl w).drew
  have HR0 := Lib.hid hrd
  have hm := hrd.move (o := i) (l.drop (i + 1)) (by rw [List.length_drop]; omega)
  clear hrd
  have HR := Lib.hid hm; clear hm
  have HE1 := Lib.hid he1; clear he1
  have HE2 := Lib.hid he2; clear he2
  have hlc := hrow.le
  clear hrow
  have hcm' : c ≤ 9223372036854775807 := by unfold maxLen at hcm; omega
  have hel : (l.eraseIdx i).length = l.length - 1 := by rw [List.length_eraseIdx, if_pos hi]
  have HEL := Lib.hid hel; clear hel
  have i0 : (0 : Int) ≤ (i : Int) := by omega
  have i1 : (0 : Int) ≤ (i : Int) + 1 := by omega
  have i2 : (i : Int) + 1 ≤ (l.length : Int) := by omega
  have ic : i ≤ c := by omega
  have i3 : ((i : Int) == (i : Int) + 1) = false := by rw [beq_eq_false_iff_ne]; omega
  go_enter Try.func28, Try.ntmps28
  go_wp2_with fail
  go_region_law (first
    | (refine step_append_room rfl (.tmp 22) (.tmp 25) 25 rfl 3 iq 1 Try.underlying25 HQ.out HQ1.out g 0 i c ?_ (if c = i + 1 then ⟨g, 0, none⟩ else ⟨g, i + 1, none⟩) (l.length - (i + 1)) (c - (i + 1)) (intsV (l.drop (i + 1))) ?_ ?_ ?_ ?_ ?_ ?_ ?_; (simp [Act.put, Act.eval]); (simp only [Act.put, Act.eval]; simp; split <;> rfl); (rw [intsV_length, List.length_drop]; omega); (intro j u hu; have hj : j < (l.drop (i + 1)).length := (by rw [← intsV_length]; exact (List.getElem?_eq_some_iff.1 hu).1); rw [intsV_get _ _ hj] at hu; rw [List.length_drop] at hj; rw [if_neg (by omega), ← hu, List.getElem_drop, Addr.add_lit]; exact HR0.out.cell (i + 1 + j) (by omega)); (intro u hu; unfold intsV at hu; obtain ⟨x, _, rfl⟩ := List.mem_map.1 hu; rfl); omega; (intro j hj; rw [intsV_length, List.length_drop] at hj; exact ⟨by rw [show 0 + i * 1 + j = i + j by omega, HR0.out.cell (i + j) (by omega)]; rfl, HR0.out.frozen _⟩)))
  rw [show i + (l.length - (i + 1)) = l.length - 1 by omega]
  have HW : Hid (RowI (w.drew.setCells g i (intsV (l.drop (i + 1)))) g (l.take i ++ l.drop (i + 1) ++ l.drop (i + (l.drop (i + 1)).length)) c) := HR
  obtain ⟨W1, hW1⟩ : ∃ W1, w.drew.setCells g i (intsV (l.drop (i + 1))) = W1 := ⟨_, rfl⟩
  have HB1 : Hid (Below base w W1) := by rw [← hW1]; exact below_setCells (Below.drew (Below.refl _ _)) hb _ _
  rw [hW1] at HW ⊢
  clear hW1 HR HR0
  have hcl : ∀ ty, (Builtin.clear_ #[25] ty #[.slice (some ⟨g, l.length - 1, none⟩) (l.length - (l.length - 1)) (c - (l.length - 1))]).run Try.prog W1 = .ok (.tuple #[]) (W1.setCells g (l.length - 1) (List.replicate (l.length - (l.length - 1)) (.int .i64 0))) :=
    fun ty => Lib.run_clear_slice W1 25 3 ty (.int .i64 0) Try.underlying25 zeroValue3 rfl rfl g (l.length - 1) _ _ (by omega) (fun t ht => by rw [HW.out.cell (l.length - 1 + t) (by rw [HE2.out]; omega)]; rfl) (fun t ht => HW.out.frozen _)
  have k0 : (0 : Int) ≤ ((l.length - 1 : Nat) : Int) := by omega
  have k1 : l.length - 1 ≤ l.length := by omega
  have k2 : l.length ≤ c := hlc
  go_wp2_with fail
  all_goals
    try (have hc' : c = i + 1 := by assumption
         subst hc')
    go_ret
    refine ⟨by rw [HEL.out]; rfl, ?_, below_setCells HB1.out hb _ _⟩
    have h := (HW.out.take (l.length - 1)).cells_past (List.replicate (l.length - (l.length - 1)) (.int .i64 0)) (o := l.length - 1) (by rw [List.length_take, HE2.out]; omega)
    rw [HE1.out] at h
    exact h
end Go.Proofs.Ytfognlealnhodaa
