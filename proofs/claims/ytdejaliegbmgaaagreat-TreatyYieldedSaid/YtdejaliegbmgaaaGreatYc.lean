/-
  slices.Delete of one number of a list in memory of the call's own returns the list without it, in the same memory; nothing else that was there before is turned.
-/
import Derived.Test.YtdejaliegbmgaaaGreatI
import Derived.Deep.RegionLaw
namespace Go.Proofs.YtdejaliegbmgaaaGreat
open Go.RowKit

theorem Row.move {w : World} {g cap o : Nat} {L : List Nat} (h : Row w g L cap) (ns : List Nat) (ho : o + ns.length ≤ L.length) : Row (w.setCells g o (nums ns)) g (L.take o ++ ns ++ L.drop (o + ns.length)) cap := by
  induction ns generalizing w o L with
  | nil => simpa [nums, World.setCells] using h
  | cons x ns ih =>
    rw [List.length_cons] at ho
    have h1 := ih (o := o + 1) (h.set o x (by omega)) (by rw [List.length_set]; omega)
    have e : (L.set o x).take (o + 1) ++ ns ++ (L.set o x).drop (o + 1 + ns.length) = L.take o ++ x :: ns ++ L.drop (o + (x :: ns).length) := by
      rw [List.take_succ_eq_append_getElem (by rw [List.length_set]; omega), List.getElem_set_self, List.take_set_of_le (Nat.le_refl _), List.drop_set_of_lt (by omega), List.length_cons, show o + 1 + ns.length = o + (ns.length + 1) by omega]
      simp
    rw [e] at h1
    exact h1

theorem erase_move (l : List Nat) (i : Nat) (hi : i < l.length) : (l.take i ++ l.drop (i + 1) ++ l.drop (i + (l.drop (i + 1)).length)).take (l.length - 1) = l.eraseIdx i ∧ (l.take i ++ l.drop (i + 1) ++ l.drop (i + (l.drop (i + 1)).length)).length = l.length := by
  have h1 : (l.take i ++ l.drop (i + 1)).length = l.length - 1 := by rw [List.length_append, List.length_take, List.length_drop]; omega
  constructor
  · rw [← h1, List.take_left, List.eraseIdx_eq_take_drop_succ]
  · rw [List.length_append, h1, List.length_drop, List.length_drop]; omega

set_option maxRecDepth 100000 in
set_option maxHeartbeats 1000000 in
theorem delete_any (base g c i : Nat) (l : List Nat) (w : World) (hrow : Row w g l c) (hb : base ≤ g) (hl : l.length ≤ 1000000) (hcm : c ≤ maxLen) (hi : i < l.length) :
    Calls Tryz.prog 38 #[.slice (some ⟨g, 0, none⟩) l.length c, .int .i64 (i : Int), .int .i64 ((i : Int) + 1)] w fun e w' =>
      e = .returned (.slice (some ⟨g, 0, none⟩) (l.eraseIdx i).length c) ∧ Row w' g (l.eraseIdx i) c ∧ Below base w w' := by
  obtain ⟨he1, he2⟩ := erase_move l i hi
  obtain ⟨iq, hq, hq0, hq1, hq2⟩ := info_parts info3
  have HQ := Lib.hid hq; clear hq hq0 hq2
  have HQ1 := Lib.hid hq1; clear hq1
  have hrd : Row w.drew g l c := hrow.ext (Ext.refl w).drew
  have HR0 := Lib.hid hrd
  have hm := hrd.move (o := i) (l.drop (i + 1)) (by rw [List.length_drop]; omega)
  clear hrd
  have HR := Lib.hid hm; clear hm
  have HE1 := Lib.hid he1; clear he1
  have HE2 := Lib.hid he2; clear he2
  have hlc := hrow.le
  clear hrow
  have hcm' : c ≤ 9223372036854775807 := by unfold maxLen at hcm; omega
  have hel : (l.eraseIdx i).length = l.length - 1 := by rw [List.length_eraseIdx, if_pos hi]
  have HEL := Lib.hid hel; clear hel
  have i0 : (0 : Int) ≤ (i : Int) := by omega
  have i1 : (0 : Int) ≤ (i : Int) + 1 := by omega
  have i2 : (i : Int) + 1 ≤ (l.length : Int) := by omega
  have ic : i ≤ c := by omega
  have i3 : ((i : Int) == (i : Int) + 1) = false := by rw [beq_eq_false_iff_ne]; omega
  go_enter Tryz.func38, Tryz.ntmps38
  go_wp2_with fail
  go_region_law (first
    | (refine step_append_room rfl (.tmp 22) (.tmp 25) 24 rfl 3 iq 1 Tryz.underlying24 HQ.out HQ1.out g 0 i c ?_ (if c = i + 1 then ⟨g, 0, none⟩ else ⟨g, i + 1, none⟩) (l.length - (i + 1)) (c - (i + 1)) (nums (l.drop (i + 1))) ?_ ?_ ?_ ?_ ?_ ?_ ?_; (simp [Act.put, Act.eval]); (simp only [Act.put, Act.eval]; simp; split <;> rfl); (rw [nums_length, List.length_drop]; omega); (intro j u hu; have hj : j < (l.drop (i + 1)).length := (by rw [← nums_length]; exact (List.getElem?_eq_some_iff.1 hu).1); rw [nums_get _ _ hj] at hu; rw [List.length_drop] at hj; rw [if_neg (by omega), ← hu, List.getElem_drop, Addr.add_lit]; exact HR0.out.cell (i + 1 + j) (by omega)); (intro u hu; unfold nums at hu; obtain ⟨x, _, rfl⟩ := List.mem_map.1 hu; rfl); omega; (intro j hj; rw [nums_length, List.length_drop] at hj; exact ⟨by rw [show 0 + i * 1 + j = i + j by omega, HR0.out.cell (i + j) (by omega)]; rfl, HR0.out.frozen _⟩)))
  rw [show i + (l.length - (i + 1)) = l.length - 1 by omega]
  have HW : Hid (Row (w.drew.setCells g i (nums (l.drop (i + 1)))) g (l.take i ++ l.drop (i + 1) ++ l.drop (i + (l.drop (i + 1)).length)) c) := HR
  obtain ⟨W1, hW1⟩ : ∃ W1, w.drew.setCells g i (nums (l.drop (i + 1))) = W1 := ⟨_, rfl⟩
  have HB1 : Hid (Below base w W1) := by rw [← hW1]; exact below_setCells (Below.drew (Below.refl _ _)) hb _ _
  rw [hW1] at HW ⊢
  clear hW1 HR HR0
  have hcl : ∀ ty, (Builtin.clear_ #[24] ty #[.slice (some ⟨g, l.length - 1, none⟩) (l.length - (l.length - 1)) (c - (l.length - 1))]).run Tryz.prog W1 = .ok (.tuple #[]) (W1.setCells g (l.length - 1) (List.replicate (l.length - (l.length - 1)) (.int .i64 0))) :=
    fun ty => Lib.run_clear_slice W1 24 3 ty (.int .i64 0) Tryz.underlying24 zeroValue3 rfl rfl g (l.length - 1) _ _ (by omega) (fun t ht => by rw [HW.out.cell (l.length - 1 + t) (by rw [HE2.out]; omega)]; rfl) (fun t ht => HW.out.frozen _)
  have k0 : (0 : Int) ≤ ((l.length - 1 : Nat) : Int) := by omega
  have k1 : l.length - 1 ≤ l.length := by omega
  have k2 : l.length ≤ c := hlc
  go_wp2_with fail
  all_goals
    try (have hc' : c = i + 1 := by assumption
         subst hc')
    go_ret
    refine ⟨by rw [HEL.out]; rfl, ?_, below_setCells HB1.out hb _ _⟩
    have h := (HW.out.take (l.length - 1)).cells_past (List.replicate (l.length - (l.length - 1)) (.int .i64 0)) (o := l.length - 1) (by rw [List.length_take, HE2.out]; omega)
    rw [HE1.out] at h
    exact h
end Go.Proofs.YtdejaliegbmgaaaGreat
