/-
  slices.Delete of one span of a row; slices.Replace, where two spans of a row, not the last ones, are replaced by one.
  without of package pillar returns finds without a stone, whichever it is; in new memory; nothing that was there is turned. The finds must lie in memory as told.
  wrong and Wrong of package pillar name the stones that alone can be wrong, for rolls and finds of two stones or more that are right and have no reading; nothing else that was there is turned.
  Wrong of package pillar, where there is a reading: it says that nothing is wrong, by its error. The finds must lie in memory as told.
-/
import Derived.Test.YtfognlealnhodaaRP
import Derived.Laws.IdiomCopy
import Derived.BigQuiet
import Derived.Test.YtfognlealnhodaaWO
import Derived.Test.YtfognlealnhodaaY2
namespace Go.Proofs.Ytfognlealnhodaa
open Go.RowKit

theorem RowP.move {w : World} {g c o : Nat} {l : List (Nat × Nat)} (h : RowP w g l c) (ns : List (Nat × Nat)) (ho : o + ns.length ≤ l.length) : RowP (w.setCells g (o * 2) (flat 2 spC ns)) g (l.take o ++ ns ++ l.drop (o + ns.length)) c := by
  obtain ⟨cur, h1, h2, h3, h4⟩ := h
  obtain ⟨c2, k1, k2, k3⟩ := put_cells g 28 (0, 0) (flat 2 spC ns) (o * 2) w cur h1
  have hlen : (l.take o ++ ns ++ l.drop (o + ns.length)).length = l.length := by simp only [List.length_append, List.length_take, List.length_drop]; omega
  refine ⟨c2, k1, by omega, by omega, fun y hy j hj => ?_⟩
  rw [hlen] at hy
  rw [k3, flat_length]
  by_cases e1 : y < o
  · rw [if_neg (by omega), h4 y hy j hj]
    congr 2
    rw [List.getElem_append_left (by rw [List.length_append, List.length_take]; omega), List.getElem_append_left (by rw [List.length_take]; omega), List.getElem_take]
  · by_cases e2 : y < o + ns.length
    · rw [if_pos (by omega), show y * 2 + j - o * 2 = (y - o) * 2 + j by omega, flat_get 2 spC ns (y - o) j (by omega) hj]
      congr 2
      rw [List.getElem_append_left (by rw [List.length_append, List.length_take]; omega), List.getElem_append_right (by rw [List.length_take]; omega)]
      congr 1
      rw [List.length_take]; omega
    · rw [if_neg (by omega), h4 y hy j hj]
      congr 2
      rw [List.getElem_append_right (by rw [List.length_append, List.length_take]; omega), List.getElem_drop]
      congr 1
      rw [List.length_append, List.length_take]; omega
theorem erase_moveP (l : List (Nat × Nat)) (i : Nat) (hi : i < l.length) : (l.take i ++ l.drop (i + 1) ++ l.drop (i + (l.drop (i + 1)).length)).take (l.length - 1) = l.eraseIdx i ∧ (l.take i ++ l.drop (i + 1) ++ l.drop (i + (l.drop (i + 1)).length)).length = l.length := by
  have h1 : (l.take i ++ l.drop (i + 1)).length = l.length - 1 := by rw [List.length_append, List.length_take, List.length_drop]; omega
  constructor
  · rw [← h1, List.take_left, List.eraseIdx_eq_take_drop_succ]
  · rw [List.length_append, h1, List.length_drop, List.length_drop]; omega
theorem clearLast {w : World} {g c n i : Nat} {l : List (Nat × Nat)} (hp : RowP w g l c) (hn : i + 1 = n) (hc : n ≤ c) (ty : TypeId) : (Builtin.clear_ #[26] ty #[.slice (some ⟨g, i * 2, none⟩) (n - i) (c - i)]).run Try.prog w = .ok (.tuple #[]) (w.setCells g (i * 2) [.int .i64 0, .int .i64 0]) := by
  have hst := run_storeCells_cells (P := Try.prog) g (i * 2) [.int .i64 0, .int .i64 0] 0 w (fun j hj => by simp only [List.length_cons, List.length_nil] at hj; rw [Nat.add_zero]; exact hp.there _ (by omega)) (fun j _ => hp.frozen _) (fun v hv => by simp at hv; rw [hv]; rfl)
  simp only [Nat.add_zero] at hst
  rw [show n - i = 0 + 1 by omega]
  exact clear_run (fun w => run_underlying under26c w) (zeroValue28 _) (by kernel_rfl) hst
set_option maxRecDepth 100000 in
set_option maxHeartbeats 1000000 in
theorem delete_anyS (g c i : Nat) (l : List (Nat × Nat)) (w : World) (hrow : RowP w g l c) (hl : l.length ≤ 1000) (hcm : c ≤ maxLen) (hi : i < l.length) :
    Calls Try.prog 37 #[.slice (some ⟨g, 0, none⟩) l.length c, .int .i64 (i : Int), .int .i64 ((i : Int) + 1)] w fun e w' =>
      e = .returned (.slice (some ⟨g, 0, none⟩) (l.length - 1) c) ∧ RowP w' g (l.eraseIdx i) c ∧ Keep (fun k => k ≠ g) w w' := by
  obtain ⟨he1, he2⟩ := erase_moveP l i hi
  obtain ⟨iq, hq, hz⟩ := Option.map_eq_some_iff.1 info28c
  simp only [Prod.mk.injEq] at hz
  obtain ⟨hq0, hq1, hq2⟩ := hz
  have HQ := Lib.hid hq; clear hq hq0 hq2
  have HQ1 := Lib.hid hq1; clear hq1
  have hrd : RowP w.drew g l c := hrow.ext (Ext.refl w).drew
  have HR0 := Lib.hid hrd
  have hm := hrd.move (o := i) (l.drop (i + 1)) (by rw [List.length_drop]; omega)
  clear hrd
  have HR := Lib.hid hm; clear hm
  have HE1 := Lib.hid he1; clear he1
  have HE2 := Lib.hid he2; clear he2
  have hlc := hrow.le
  clear hrow
  have hcm' : c ≤ 9223372036854775807 := by unfold maxLen at hcm; omega
  have i0 : (0 : Int) ≤ (i : Int) := by omega
  have i1 : (0 : Int) ≤ (i : Int) + 1 := by omega
  have i2 : (i : Int) + 1 ≤ (l.length : Int) := by omega
  have ic : i ≤ c := by omega
  have i3 : ((i : Int) == (i : Int) + 1) = false := by rw [beq_eq_false_iff_ne]; omega
  go_enter Try.func37, Try.ntmps37
  go_wp2_with fail
  go_region_law (first
    | (refine step_append_room rfl (.tmp 22) (.tmp 25) 26 rfl 28 iq 2 under26c HQ.out HQ1.out g 0 i c ?_ (if c = i + 1 then ⟨g, 0, none⟩ else ⟨g, (i + 1) * 2, none⟩) (l.length - (i + 1)) (c - (i + 1)) (flat 2 spC (l.drop (i + 1))) ?_ ?_ ?_ ?_ ?_ ?_ ?_; (simp [Act.put, Act.eval]); (simp only [Act.put, Act.eval]; simp; split <;> rfl); (rw [flat_length, List.length_drop]); (intro j u hu; have hj : j < (l.drop (i + 1)).length * 2 := (by rw [← flat_length 2 spC]; exact (List.getElem?_eq_some_iff.1 hu).1); rw [List.length_drop] at hj; have e := flat_get 2 spC (l.drop (i + 1)) (j / 2) (j % 2) (by rw [List.length_drop]; omega) (by omega); rw [show j / 2 * 2 + j % 2 = j by omega, hu] at e; rw [if_neg (by omega), Addr.add_lit, show (i + 1) * 2 + j = (i + 1 + j / 2) * 2 + j % 2 by omega, HR0.out.cell (i + 1 + j / 2) (by omega) (j % 2) (by omega), e, List.getElem_drop]); (exact spans_one _); omega; (intro j hj; rw [flat_length, List.length_drop] at hj; exact ⟨by rw [show 0 + i * 2 + j = (i + j / 2) * 2 + j % 2 by omega, HR0.out.cell (i + j / 2) (by omega) (j % 2) (by omega)]; rfl, HR0.out.frozen _⟩)))
  rw [show i + (l.length - (i + 1)) = l.length - 1 by omega]
  have HW : Hid (RowP (w.drew.setCells g (i * 2) (flat 2 spC (l.drop (i + 1)))) g (l.take i ++ l.drop (i + 1) ++ l.drop (i + (l.drop (i + 1)).length)) c) := HR
  obtain ⟨W1, hW1⟩ : ∃ W1, w.drew.setCells g (i * 2) (flat 2 spC (l.drop (i + 1))) = W1 := ⟨_, rfl⟩
  have HB1 : Hid (Keep (fun k => k ≠ g) w W1) := by rw [← hW1]; exact keep_setCells g (fun _ h => h rfl) _ _ _ (Keep.refl _ w).drew
  rw [hW1] at HW ⊢
  clear hW1 HR HR0
  have hcl := clearLast HW.out (n := l.length) (i := l.length - 1) (by omega) hlc
  have k0 : (0 : Int) ≤ ((l.length - 1 : Nat) : Int) := by omega
  have k1 : l.length - 1 ≤ l.length := by omega
  have k2 : l.length ≤ c := hlc
  have k3 : ¬ c = l.length - 1 := by omega
  go_wp2_with fail
  all_goals
    try (have hc' : c = i + 1 := by assumption
         subst hc')
    go_ret
    refine ⟨rfl, ?_, keep_setCells g (fun _ h => h rfl) _ _ _ HB1.out⟩
    have h := (HW.out.take (l.length - 1)).past (o := (l.length - 1) * 2) [.int .i64 0, .int .i64 0] (by rw [List.length_take, HE2.out]; omega)
    rw [HE1.out] at h
    exact h
theorem run_copy_spans (w : World) (ty : TypeId) (b o dLen dCap : Nat) (a : Addr) (sLen sCap m : Nat) (cs : List Value) (hm : m = Nat.min sLen dLen) (hn : cs.length = m * 2)
    (hsrc : ∀ j v, cs[j]? = some v → w.cell? (a.add j) = some v) (hc : ∀ j, j < cs.length → (w.cell? ⟨b, o + j, none⟩).isSome = true) (hf : ∀ j, j < cs.length → w.frozen? ⟨b, o + j, none⟩ = false) (h1 : ∀ v ∈ cs, v.oneCell' = true) :
    (Builtin.copy_ #[26, 26] ty #[.slice (some ⟨b, o, none⟩) dLen dCap, .slice (some a) sLen sCap]).run Try.prog w = .ok (goInt m) (w.setCells b o cs) := by
  have hl := run_loadCells_list (P := Try.prog) w a cs hsrc
  have hst := run_storeCells_cells (P := Try.prog) b o cs 0 w (by simpa using hc) (by simpa using hf) h1
  obtain ⟨i, hq, hz⟩ := Option.map_eq_some_iff.1 info28c
  simp only [Prod.mk.injEq] at hz
  have hi : i.size = 2 := hz.2.1
  rw [hn] at hl
  simp [Builtin.copy_, run_underlying under26c, Builtin.lenOf, Builtin.firstCells, sizeOf, typeInfo, hq, hi, ← hm, hl, hst]
theorem mid_move (l : List (Nat × Nat)) (i n : Nat) (x : Nat × Nat) (hl : l.length = n) (hi : i + 2 < n) : (((l.set i x).take (i + 1) ++ l.drop (i + 2) ++ (l.set i x).drop (i + 1 + (l.drop (i + 2)).length)).take (n - 1) = l.take i ++ [x] ++ l.drop (i + 2)) ∧ ((l.set i x).take (i + 1) ++ l.drop (i + 2) ++ (l.set i x).drop (i + 1 + (l.drop (i + 2)).length)).length = n := by
  have h0 := take_put l i x (by omega)
  have h1 : (l.take i ++ [x] ++ l.drop (i + 2)).length = n - 1 := by simp only [List.length_append, List.length_take, List.length_drop, List.length_singleton]; omega
  rw [h0]
  constructor
  · rw [← h1, List.take_left]
  · rw [List.length_append, h1, List.length_drop, List.length_drop, List.length_set]; omega
theorem copy_one (g c i n vb : Nat) (l : List (Nat × Nat)) (x : Nat × Nat) (w : World) (hrow : RowP w g l c) (hn : i + 2 < n) (hl : l.length = n) (hv : IsSl 2 spC w ⟨some ⟨vb, 0, none⟩, 1, [x]⟩) (ty : TypeId) :
    (Builtin.copy_ #[26, 26] ty #[.slice (some ⟨g, i * 2, none⟩) (n - 1 - i) (c - i), .slice (some ⟨vb, 0, none⟩) 1 1]).run Try.prog w = .ok (goInt 1) (w.setCells g (i * 2) (flat 2 spC [x])) :=
  run_copy_spans w ty g (i * 2) _ _ ⟨vb, 0, none⟩ 1 1 1 _ (by show 1 = min 1 (n - 1 - i); omega) rfl (fun j u hu => by
      obtain ⟨_, _, h3⟩ := hv
      obtain ⟨b, off, ha, hc⟩ := h3.resolve_left (by simp)
      simp only [Option.some.injEq, Addr.mk.injEq, and_true] at ha
      obtain ⟨rfl, rfl⟩ := ha
      have hj : j < 2 := by have := (List.getElem?_eq_some_iff.1 hu).1; rw [flat_length] at this; simpa using this
      have e := flat_get 2 spC [x] 0 j (by simp) hj
      rw [show 0 * 2 + j = j by omega, hu] at e
      rw [Addr.add_lit]
      have q := hc 0 (by simp) j hj
      simp only [Nat.zero_mul, Nat.zero_add] at q
      rw [Nat.zero_add, q, Option.some.injEq]
      rw [Option.some.injEq] at e
      exact e.symm) (fun j hj => by rw [flat_length] at hj; exact hrow.there _ (by have := hrow.le; simp at hj; omega)) (fun j _ => hrow.frozen _) (spans_one [x])
theorem copy_rest (g c i n : Nat) (l : List (Nat × Nat)) (w : World) (hrow : RowP w g l c) (hn : i + 2 < n) (hl : l.length = n) (ty : TypeId) :
    (Builtin.copy_ #[26, 26] ty #[.slice (some ⟨g, (i + 1) * 2, none⟩) (n - 1 - (i + 1)) (c - (i + 1)), .slice (some ⟨g, (i + 2) * 2, none⟩) (n - (i + 2)) (c - (i + 2))]).run Try.prog w = .ok (goInt ((n - (i + 2) : Nat) : Int)) (w.setCells g ((i + 1) * 2) (flat 2 spC (l.drop (i + 2)))) :=
  run_copy_spans w ty g ((i + 1) * 2) _ _ ⟨g, (i + 2) * 2, none⟩ _ _ (n - (i + 2)) _ (by show n - (i + 2) = min (n - (i + 2)) (n - 1 - (i + 1)); omega) (by rw [flat_length, List.length_drop, hl]) (fun j u hu => by
      have hj : j < (l.drop (i + 2)).length * 2 := by rw [← flat_length 2 spC]; exact (List.getElem?_eq_some_iff.1 hu).1
      rw [List.length_drop] at hj
      have e := flat_get 2 spC (l.drop (i + 2)) (j / 2) (j % 2) (by rw [List.length_drop]; omega) (by omega)
      rw [show j / 2 * 2 + j % 2 = j by omega, hu] at e
      rw [Addr.add_lit, show (i + 2) * 2 + j = (i + 2 + j / 2) * 2 + j % 2 by omega, hrow.cell (i + 2 + j / 2) (by omega) (j % 2) (by omega), e, List.getElem_drop]) (fun j hj => by rw [flat_length, List.length_drop] at hj; exact hrow.there _ (by have := hrow.le; omega)) (fun j _ => hrow.frozen _) (spans_one _)
set_option maxRecDepth 100000 in
set_option maxHeartbeats 2000000 in
theorem replaceMid_any (g c i n vb : Nat) (l : List (Nat × Nat)) (x : Nat × Nat) (w : World) (hrow : RowP w g l c) (hn : i + 2 < n) (hl : l.length = n) (hi : n ≤ 1000) (hv : IsSl 2 spC w ⟨some ⟨vb, 0, none⟩, 1, [x]⟩) :
    Calls Try.prog 94 #[.slice (some ⟨g, 0, none⟩) n c, .int .i64 (i : Int), .int .i64 ((i + 2 : Nat) : Int), .slice (some ⟨vb, 0, none⟩) 1 1] w fun e w' => e = .returned (.slice (some ⟨g, 0, none⟩) (n - 1) c) ∧ RowP w' g (l.take i ++ [x] ++ l.drop (i + 2)) c ∧ Keep (fun k => k ≠ g) w w' := by
  have hle := hrow.le
  have HM := mid_move l i n x hl hn
  have hc1f := fun (u : World) (hu : Ext w u) => copy_one g c i n vb l x u (hrow.ext hu) hn hl (hv.ext hu)
  have hc2f := fun (u : World) (hu : RowP u g (l.set i x) c) => copy_rest g c i n (l.set i x) u hu hn (by rw [List.length_set]; exact hl)
  have hmv := fun (u : World) (hu : RowP u g (l.set i x) c) => hu.move (o := i + 1) (l.drop (i + 2)) (by rw [List.length_set, List.length_drop]; omega)
  have HR1 := Lib.hid (fun (u : World) (hu : Ext w u) => (hrow.ext hu).put i x (by omega))
  have HRw := Lib.hid (fun (u : World) (hu : Ext w u) => hrow.ext hu)
  obtain ⟨j2, hj2⟩ : ∃ j2, i + 2 = j2 := ⟨_, rfl⟩
  obtain ⟨tot, htot⟩ : ∃ tot, n - 1 = tot := ⟨_, rfl⟩
  simp only [htot] at hc1f hc2f
  simp only [show (l.set i x).drop (i + 2) = l.drop (i + 2) from List.drop_set_of_lt (by omega)] at hc2f
  simp only [hj2] at hc2f hmv
  rw [htot, hj2] at HM
  have HC1 := Lib.hid hc1f
  have HC2 := Lib.hid hc2f
  have HMv := Lib.hid hmv
  clear hc1f hc2f hmv
  have HN : Hid (i + 2 = j2 ∧ n - 1 = tot ∧ i + 2 < n ∧ n ≤ 1000 ∧ n ≤ c) := by show _ ∧ _ ∧ _ ∧ _ ∧ _; omega
  have HL := Lib.hid hl
  have e1 : ((i : Int) == (j2 : Int)) = false := by rw [beq_eq_false_iff_ne]; omega
  have e1b : ((j2 : Int) == (n : Int)) = false := by rw [beq_eq_false_iff_ne]; omega
  have e2 : (0 : Int) ≤ (i : Int) := by omega
  have e3 : (i : Int) ≤ (j2 : Int) := by omega
  have e4 : n ≤ c := by omega
  have e5 : i ≤ c := by omega
  have e6 : j2 ≤ c := by omega
  have e7 : ¬ c = i := by omega
  have e8 : (0 : Int) ≤ (j2 : Int) := by omega
  have e9 : j2 ≤ n := by omega
  have e10 : i ≤ n := by omega
  have e11 : i ≤ j2 := by omega
  have e12 : ¬ c = j2 := by omega
  have w1 : IntKind.i64.wrap ((i : Int) + 1) = ((i + 1 : Nat) : Int) := by rw [IntWalk.i64_in _ (by omega)]; omega
  have HW2 : Hid (wrap64 ((i : Int) + 1 + ((n - j2 : Nat) : Int)) = (tot : Int)) := by
    show _ = _
    rw [IntWalk.wrap64_in _ (by omega)]; omega
  have t1 : decide ((tot : Int) > (c : Int)) = false := decide_eq_false (by omega)
  have t2 : (0 : Int) ≤ (tot : Int) := by omega
  have t3 : tot ≤ c := by omega
  have t4 : decide ((i : Int) + 1 ≤ (j2 : Int)) = true := decide_eq_true (by omega)
  have t4b : (i : Int) + 1 ≤ (j2 : Int) := by omega
  have t1b : decide (c < tot) = false := decide_eq_false (by omega)
  have t1c : ¬ c < tot := by omega
  have t5 : i ≤ tot := by omega
  have t6 : i + 1 ≤ tot := by omega
  have t7 : ¬ c = i + 1 := by omega
  have t8 : ¬ c = tot := by omega
  have t9 : tot ≤ n := by omega
  rw [hj2]
  clear hrow hv hj2 htot hl hi hle
  go_enter Try.func94, Try.ntmps94
  go_wp2_with fail
  go_quiet (fail)
  rw [HW2.out]
  have hx0 : Ext w (w.drewN nq) := (Ext.refl w).drewN nq
  go_upto_region 17 with (fail)
  have hc1 := HC1.out _ hx0
  have HR2 := Lib.hid (HR1.out _ hx0)
  have HK2 : Hid (Keep (fun k => k ≠ g) w ((w.drewN nq).setCells g (i * 2) (flat 2 spC [x]))) := keep_setCells g (fun _ h => h rfl) _ _ _ (Keep.of_ext hx0)
  go_upto_region 18 with (fail)
  clear hc1 hx0
  generalize (w.drewN nq).setCells g (i * 2) (flat 2 spC [x]) = u2 at *
  have hr3 : RowP u2.drew g (l.set i x) c := HR2.out.ext (Ext.refl u2).drew
  have hc2 := HC2.out _ hr3
  have HR3 := Lib.hid (HMv.out _ hr3)
  have HK3 : Hid (Keep (fun k => k ≠ g) w (u2.drew.setCells g ((i + 1) * 2) (flat 2 spC (l.drop j2)))) := keep_setCells g (fun _ h => h rfl) _ _ _ (HK2.out.drew)
  clear hr3
  go_region
  clear hc2
  generalize u2.drew.setCells g ((i + 1) * 2) (flat 2 spC (l.drop j2)) = u3 at *
  have hcl := clearLast HR3.out (n := n) (i := tot) (by have := HN.out; omega) e4
  go_wp2_with fail
  go_ret
  have hn1 := HN.out.2.1
  subst hn1
  refine ⟨rfl, ?_, keep_setCells g (fun _ h => h rfl) _ _ _ HK3.out⟩
  have h := (HR3.out.take (n - 1)).past (o := (n - 1) * 2) [.int .i64 0, .int .i64 0] (by rw [List.length_take]; omega)
  rw [HM.1] at h
  exact h
end Go.Proofs.Ytfognlealnhodaa

namespace Go.Proofs.Ytfognlealnhodaa
open Go.RowKit

set_option maxRecDepth 100000 in
set_option maxHeartbeats 4000000 in
theorem without_mid (f : FV) (st : Nat) (w : World) (hf : IsF w f) (hn2 : 2 ≤ f.nm.l.length) (hn : f.nm.l.length ≤ 40) (hg : f.gp.l.length + 1 = f.nm.l.length) (hst : st < f.nm.l.length) (hb : ∀ x ∈ f.gp.l, x.1 ≤ 1000000 ∧ x.2 ≤ 1000000) (h0 : ¬ st = 0) (hS : st + 2 < f.nm.l.length) :
    Calls Try.prog 84 #[f.v, .int .i64 (st : Int)] w fun e w' => ∃ f' : FV, e = .returned f'.v ∧ f'.gp.l = lessG f.gp.l f.nm.l.length st ∧ f'.nm.l = f.nm.l.eraseIdx st ∧ IsF w' f' ∧ FIn (fun k => w.heap.size ≤ k) f' ∧ Ext w w' := by
  obtain ⟨⟨ga, gc, gl⟩, ⟨na, nc, nl⟩⟩ := f
  dsimp only at hn2 hn hg hst hb hS ⊢
  have HF := Lib.hid hf
  clear hf
  obtain ⟨V, hV⟩ : ∃ V, (w.alloc (.cells #[.slice ga gl.length gc, .slice na nl.length nc] 66)).alloc (.cells #[.slice none 0 0, .slice none 0 0] 66) = V := ⟨_, rfl⟩
  have HX : Hid (Ext w V) := by show Ext w V; rw [← hV]; exact ((Ext.refl w).alloc _).alloc _
  have Hb1 : Hid (V.heap[w.heap.size]? = some (.cells #[.slice ga gl.length gc, .slice na nl.length nc] 66 (0, 0))) := by show _ = _; rw [← hV]; exact (alloc_old (by simp only [World.size_alloc]; omega)).trans (alloc_new rfl)
  have Hb2 : Hid (V.heap[w.heap.size + 1]? = some (.cells #[.slice none 0 0, .slice none 0 0] 66 (0, 0))) := by show _ = _; rw [← hV]; exact alloc_new (by simp only [World.size_alloc])
  have HSz : Hid (V.heap.size = w.heap.size + 2) := by show _ = _; rw [← hV]; simp only [World.size_alloc]
  obtain ⟨n, hnn⟩ : ∃ n, nl.length = n := ⟨_, rfl⟩
  obtain ⟨m, hmm⟩ : ∃ m, gl.length = m := ⟨_, rfl⟩
  have HC : Hid (∀ w1, Ext V w1 → w1.cell? ⟨w.heap.size, 0, none⟩ = some (.slice ga m gc) ∧ w1.cell? ⟨w.heap.size, 1, none⟩ = some (.slice na n nc)) := fun w1 h => by
    rw [← hnn, ← hmm]; exact ⟨(cell_at (h.block Hb1.out) 0).trans rfl, (cell_at (h.block Hb1.out) 1).trans rfl⟩
  have HC1 : Hid (∀ w1, Ext V w1 → Calls Try.prog 92 #[.slice ga m gc] w1 fun e w' => ∃ a' c', e = .returned (.slice a' m c') ∧ w'.ownsRow w1.heap.size 28 2 (.slice a' m c') m (flat 2 spC gl) ∧ Ext w1 w') := fun w1 h => by
    have := cloneS_any ⟨ga, gc, gl⟩ w1 (HF.out.gp.ext (HX.out.trans h)); rw [← hmm]; exact this
  have HC2 : Hid (∀ w1, Ext V w1 → Calls Try.prog 93 #[.slice na n nc] w1 fun e w' => ∃ a' c', e = .returned (.slice a' n c') ∧ w'.ownsRow w1.heap.size 3 1 (.slice a' n c') n (intsV nl) ∧ Ext w1 w') := fun w1 h =>
    clone_anyI na n nc nl w1 hnn (HF.out.nm.ext (HX.out.trans h))
  have HNl := Lib.hid hnn
  have HGl := Lib.hid hmm
  have HBd := Lib.hid hb
  rw [hnn, hmm] at hV
  rw [hnn] at hn2 hn hst hS
  have hmn : m + 1 = n := by omega
  obtain ⟨q0, q1⟩ := HC.out V (Ext.refl V)
  clear hg hb hnn hmm
  show Calls Try.prog 84 #[.agg #[.slice ga gl.length gc, .slice na nl.length nc], .int .i64 (st : Int)] w _
  rw [HNl.out, HGl.out]
  go_enter Try.func84, Try.ntmps84
  go_wp2_with fail
  clear hV
  clear q0 q1
  go_region_held3 (fun w1 => w1.cell? ⟨w.heap.size, 0, none⟩ = some (.slice ga m gc) ∧ w1.cell? ⟨w.heap.size, 1, none⟩ = some (.slice na n nc))
    ((refine HC.out _ ?_ <;> (repeat (first | exact Ext.refl _ | refine Ext.trans ?_ (by assumption) | refine Ext.drew ?_))))
    (first
      | (go_at_call 92; refine (HC1.out _ (Ext.refl V).drew).mono ?_; rintro e wa ⟨a1, k1, rfl, ho1, hxa'⟩)
      | (go_at_call 93; refine (HC2.out wa ((Ext.refl V).drew.trans hxa')).mono ?_; rintro e wb ⟨a2, k2, rfl, ho2, hxb'⟩))
  have hxb : Ext V wb := ((Ext.refl V).drew.trans hxa').trans hxb'
  have hsz := HSz.out
  have hab : Ext wa wb := by first | exact hxb' | exact (Ext.refl wa).drew.trans hxb'
  rw [← HGl.out] at ho1
  obtain ⟨g1, rfl, hg1, hc1⟩ := own_place ho1 (by rw [HGl.out]; omega)
  obtain ⟨g2, rfl, hg2, hc2⟩ := own_place ho2 (by omega)
  obtain ⟨hp1, -⟩ := RowP.of_own ho1
  rw [← HNl.out] at ho2
  obtain ⟨hi2, -⟩ := RowI.of_own ho2
  have HP1 := Lib.hid (hp1.ext hab)
  have HI2 := Lib.hid hi2
  have HXb := Lib.hid hxb
  have hg12 : g1 < g2 := Nat.lt_of_lt_of_le hp1.lt hg2
  have hg1w : w.heap.size + 2 ≤ g1 := by have : V.heap.size ≤ g1 := hg1; omega
  have hle := hp1.le
  rw [HGl.out] at hle
  clear ho1 ho2 hp1 hi2 hab hxb hxa' hxb' hg1 hg2
  have hl := HNl.out
  have hgl := HGl.out
  have b0 : ((st : Int) == 0) = false := by rw [beq_eq_false_iff_ne]; omega
  obtain ⟨r, hr⟩ : ∃ r, st - 1 = r := ⟨_, rfl⟩
  have wr1 : IntKind.i64.wrap ((st : Int) - 1) = (r : Int) := by rw [IntWalk.i64_in _ (by omega)]; omega
  have wr2 : IntKind.i64.wrap ((st : Int) + 1) = (st : Int) + 1 := IntWalk.i64_in _ (by omega)
  have h1 : ¬ st + 1 = n := by omega
  obtain ⟨t2, hj2⟩ : ∃ t2, st + 1 = t2 := ⟨_, rfl⟩
  have HJ2 := Lib.hid hj2
  have wr3 : IntKind.i64.wrap ((n : Int) - 1) = (m : Int) := by rw [IntWalk.i64_in _ (by omega)]; omega
  have wr4 : IntKind.i64.wrap ((st : Int) + 1) = (t2 : Int) := by rw [wr2]; omega
  have b1 : ((st : Int) == (m : Int)) = false := by rw [beq_eq_false_iff_ne]; omega
  have j0 : (0 : Int) ≤ (r : Int) := by omega
  have j1 : (r : Int) < (m : Int) := by omega
  have j2 : (0 : Int) ≤ (st : Int) := by omega
  have j3 : (st : Int) < (m : Int) := by omega
  have HSr : Hid (r + 2 = t2 ∧ st = r + 1 ∧ t2 < m) := ⟨by omega, by omega, by omega⟩
  have hrl : r < gl.length := by omega
  have hsl : st < gl.length := by omega
  have u1 : wb.cell? ⟨g1, r * 2, none⟩ = some (.int .i64 (gl[r].1 : Int)) := by have := HP1.out.cell r hrl 0 (by omega); simpa [spC] using this
  have u2 : wb.cell? ⟨g1, r * 2 + 1, none⟩ = some (.int .i64 (gl[r].2 : Int)) := by have := HP1.out.cell r hrl 1 (by omega); simpa [spC] using this
  have u3 : wb.cell? ⟨g1, st * 2, none⟩ = some (.int .i64 (gl[st].1 : Int)) := by have := HP1.out.cell st hsl 0 (by omega); simpa [spC] using this
  have u4 : wb.cell? ⟨g1, st * 2 + 1, none⟩ = some (.int .i64 (gl[st].2 : Int)) := by have := HP1.out.cell st hsl 1 (by omega); simpa [spC] using this
  have v1 := HBd.out _ (List.getElem_mem hrl)
  have v2 := HBd.out _ (List.getElem_mem hsl)
  have HLs : Hid (gl.take r ++ [(gl[r].1 + gl[st].1, gl[r].2 + gl[st].2)] ++ gl.drop t2 = lessG gl n st) := by
    show _ = _
    unfold lessG
    rw [if_neg h0, if_neg (by omega), show st - 1 = r by omega, List.getElem?_eq_getElem hrl, List.getElem?_eq_getElem hsl, hj2]; simp
  generalize gl[r] = x1 at *
  generalize gl[st] = x2 at *
  have HSum : Hid (∀ w1 b, IsSl 2 spC w1 ⟨some ⟨b, 0, none⟩, 2, [x1, x2]⟩ → Calls Try.prog 80 #[.slice (some ⟨b, 0, none⟩) 2 2] w1 fun e w' => e = .returned (.agg #[.int .i64 ((x1.1 + x2.1 : Nat) : Int), .int .i64 ((x1.2 + x2.2 : Nat) : Int)]) ∧ Ext w1 w') := fun w1 b h => by
    have q := sum_any ⟨some ⟨b, 0, none⟩, 2, [x1, x2]⟩ w1 h (by simp) (by intro x hx; simp only [List.mem_cons, List.not_mem_nil, or_false] at hx; rcases hx with rfl | rfl <;> assumption)
    have e : sumTo [x1, x2] [x1, x2].length = (x1.1 + x2.1, x1.2 + x2.2) := by simp [sumTo]
    dsimp only at q
    rw [e] at q
    exact q
  have HRep : Hid (∀ w1 vb, Ext wb w1 → IsSl 2 spC w1 ⟨some ⟨vb, 0, none⟩, 1, [(x1.1 + x2.1, x1.2 + x2.2)]⟩ → Calls Try.prog 94 #[.slice (some ⟨g1, 0, none⟩) m k1, .int .i64 (r : Int), .int .i64 (t2 : Int), .slice (some ⟨vb, 0, none⟩) 1 1] w1 fun e w' => e = .returned (.slice (some ⟨g1, 0, none⟩) (m - 1) k1) ∧ RowP w' g1 (gl.take r ++ [(x1.1 + x2.1, x1.2 + x2.2)] ++ gl.drop t2) k1 ∧ Keep (fun k => k ≠ g1) w1 w') := fun w1 vb hx hv => by
    have h := replaceMid_any g1 k1 r m vb gl (x1.1 + x2.1, x1.2 + x2.2) w1 (HP1.out.ext hx) (by have := HSr.out; omega) HGl.out (by omega) hv
    rw [HSr.out.1] at h
    exact h
  have HCs : Hid (∀ w1, Ext wb w1 → w1.cell? ⟨g1, r * 2, none⟩ = some (.int .i64 (x1.1 : Int)) ∧ w1.cell? ⟨g1, r * 2 + 1, none⟩ = some (.int .i64 (x1.2 : Int)) ∧ w1.cell? ⟨g1, st * 2, none⟩ = some (.int .i64 (x2.1 : Int)) ∧ w1.cell? ⟨g1, st * 2 + 1, none⟩ = some (.int .i64 (x2.2 : Int))) := fun w1 h => ⟨h.cell u1, h.cell u2, h.cell u3, h.cell u4⟩
  clear hr wr2 h1 hrl hsl HCs hj2
  go_wp2_with fail
  go_region_with (first
    | (go_at_call 80; refine (HSum.out (wb.drew.alloc (.cells #[.int .i64 (x1.1 : Int), .int .i64 (x1.2 : Int), .int .i64 (x2.1 : Int), .int .i64 (x2.2 : Int)] 28)) wb.heap.size (two_sl wb.drew 28 x1 x2)).mono ?_; rintro e wc ⟨rfl, hxc⟩; have HXc : Hid (Ext wb wc) := (by show Ext wb wc; exact Ext.trans ((Ext.refl wb).drew.alloc _) hxc))
    | (go_at_call 94; refine (HRep.out (wc.alloc (.cells #[.int .i64 ((x1.1 + x2.1 : Nat) : Int), .int .i64 ((x1.2 + x2.2 : Nat) : Int)] 28)) wc.heap.size (HXc.out.alloc _) (one_sl wc 28 (x1.1 + x2.1, x1.2 + x2.2))).mono ?_; rintro e w3 ⟨rfl, hp3, hk3⟩))
  all_goals
    have hHl := HGl.out
    have hw3 : Keep (fun k => k ≠ g1) wb w3 := (Keep.of_ext (HXc.out.alloc _)).trans hk3
    have HZZ : Hid (IsSl 2 spC w3 ⟨some ⟨g1, 0, none⟩, k1, gl.take r ++ [(x1.1 + x2.1, x1.2 + x2.2)] ++ gl.drop t2⟩ ∧ (gl.take r ++ [(x1.1 + x2.1, x1.2 + x2.2)] ++ gl.drop t2).length = m - 1) := by
      have e : (gl.take r ++ [(x1.1 + x2.1, x1.2 + x2.2)] ++ gl.drop t2).length = m - 1 := by simp only [List.length_append, List.length_take, List.length_drop, HGl.out, List.length_singleton]; have := HSr.out; omega
      exact ⟨hp3.sl (by rw [e]; omega), e⟩
    have HI3 : Hid (RowI w3 g2 nl k2) := by obtain ⟨cur, q1, q2⟩ := HI2.out; exact ⟨cur, hw3.heap q1 (show g2 ≠ g1 by omega), q2⟩
    have HX3 : Hid (Ext V w3) := ext_keep HXb.out hw3 (fun i hi => by have := HSz.out; omega)
    have HD : Hid (Calls Try.prog 28 #[.slice (some ⟨g2, 0, none⟩) n k2, .int .i64 (st : Int), .int .i64 (t2 : Int)] w3 fun e w' => e = .returned (.slice (some ⟨g2, 0, none⟩) (nl.eraseIdx st).length k2) ∧ RowI w' g2 (nl.eraseIdx st) k2 ∧ Below g2 w3 w') := by
      have h := delete_anyI g2 g2 k2 st nl w3 HI3.out (Nat.le_refl _) (by rw [HNl.out]; omega) hc2 (by rw [HNl.out]; omega)
      rw [HNl.out, show ((st : Int) + 1) = (t2 : Int) by have := HJ2.out; omega] at h
      exact h
    clear hHl hw3 hk3 hp3
    obtain ⟨er, her⟩ : ∃ er, nl.eraseIdx st = er := ⟨_, rfl⟩
    rw [her] at HD
    have HEr := Lib.hid her
    clear hS hl hgl hsz her u1 u2 u3 u4
    have HZ : Hid (IsSl 2 spC w3 ⟨(some ⟨g1, 0, none⟩), k1, (gl.take r ++ [(x1.1 + x2.1, x1.2 + x2.2)] ++ gl.drop t2)⟩ ∧ (gl.take r ++ [(x1.1 + x2.1, x1.2 + x2.2)] ++ gl.drop t2).length = (m - 1)) := HZZ.out
    have HRi : Hid (RowI w3 g2 nl k2) := HI3.out
    have HPl : Hid (∀ g off, ((some ⟨g1, 0, none⟩) : Option Addr) = some ⟨g, off, none⟩ → w.heap.size + 2 ≤ g ∧ g < g2) := by intro g off e; cases e; exact ⟨hg1w, hg12⟩
    have HXW : Hid (Ext V w3) := HX3.out
    go_wp2_with (go_at_call 28; refine HD.out.mono ?_; rintro e wd ⟨rfl, hrd, hbd⟩; have HKd : Hid (Keep (fun k => k < g2) w3 wd) := ⟨Below.os hbd, Below.tape hbd, Below.output hbd, Below.size hbd, fun i hi h => Below.block hbd i h⟩; have b2' : wd.heap[w.heap.size + 1]? = some (.cells #[.slice none 0 0, .slice none 0 0] 66 (0, 0)) := HKd.out.heap (HXW.out.block Hb2.out) (show w.heap.size + 1 < g2 by omega); have r0 : wd.cell? ⟨w.heap.size + 1, 0, none⟩ = some (.slice none 0 0) := (cell_at b2' 0).trans rfl; have r1 : wd.cell? ⟨w.heap.size + 1, 1, none⟩ = some (.slice none 0 0) := (cell_at b2' 1).trans rfl; have f0 : wd.frozen? ⟨w.heap.size + 1, 0, none⟩ = false := (by simp [World.frozen?, b2']); have f1 : wd.frozen? ⟨w.heap.size + 1, 1, none⟩ = false := (by simp [World.frozen?, b2']); have HRd := Lib.hid hrd; have H5 := Lib.hid (heap_setCell_same (i := 1) (heap_setCell_same (i := 0) b2' (.slice (some ⟨g1, 0, none⟩) (m - 1) k1)) (.slice (some ⟨g2, 0, none⟩) (er).length k2)); have HK5 : Hid (Keep (fun k => k ≠ w.heap.size + 1) wd ((wd.setCell ⟨w.heap.size + 1, 0, none⟩ (.slice (some ⟨g1, 0, none⟩) (m - 1) k1)).setCell ⟨w.heap.size + 1, 1, none⟩ (.slice (some ⟨g2, 0, none⟩) (er).length k2))) := ((Keep.refl _ _).setCell _ _ (fun _ h => h rfl)).setCell _ _ (fun _ h => h rfl); clear hrd hbd b2')
    simp only [bodyPost]
    generalize ((wd.setCell ⟨w.heap.size + 1, 0, none⟩ (.slice (some ⟨g1, 0, none⟩) (m - 1) k1)).setCell ⟨w.heap.size + 1, 1, none⟩ (.slice (some ⟨g2, 0, none⟩) (er).length k2)) = WF at *
    have k0 : WF.cell? ⟨w.heap.size + 1, 0, none⟩ = some (.slice (some ⟨g1, 0, none⟩) (m - 1) k1) := (cell_at H5.out 0).trans rfl
    have k1' : WF.cell? ⟨w.heap.size + 1, 1, none⟩ = some (.slice (some ⟨g2, 0, none⟩) (er).length k2) := (cell_at H5.out 1).trans rfl
    have hnl := HNl.out
    refine ⟨trivial, _, ?_, ⟨⟨(some ⟨g1, 0, none⟩), k1, (gl.take r ++ [(x1.1 + x2.1, x1.2 + x2.2)] ++ gl.drop t2)⟩, ⟨some ⟨g2, 0, none⟩, k2, er⟩⟩, rfl, HLs.out, (by first | exact HEr.out.symm | (have := HEr.out; simpa using this.symm)), ⟨?_, ?_⟩, ⟨fun g off ha _ => ?_, fun g off ha _ => ?_⟩, ?_⟩
    · have q := HZ.out.2; simp [results, Try.f84, go_sem, k0, k1', FV.v]; try (simp at q; omega)
    · refine (HZ.out.1.keep HKd.out (fun g off ha _ => (HPl.out g off ha).2)).keep HK5.out (fun g off ha _ => ?_)
      have := (HPl.out g off ha).1
      show g ≠ w.heap.size + 1
      omega
    · obtain ⟨cur, q1, q2, q3, q4⟩ := HRd.out
      refine IsSl.keep (a := wd) ⟨q3, by have := List.length_eraseIdx_le nl st; rw [HEr.out] at this; dsimp only; omega, .inr ⟨g2, 0, rfl, fun i hi j hj => ?_⟩⟩ HK5.out (fun g off ha _ => ?_)
      · obtain rfl : j = 0 := by omega
        have := (cell_at q1 i).trans (q4 i hi)
        simpa [numI] using this
      · cases ha; show g2 ≠ w.heap.size + 1; omega
    · have := (HPl.out g off ha).1; omega
    · cases ha; omega
    · exact ext_keep (HX.out.trans (ext_keep HXW.out HKd.out (fun i hi => by have := HSz.out; omega))) HK5.out (fun i hi => by omega)
theorem without_all (f : FV) (st : Nat) (w : World) (hf : IsF w f) (hn2 : 2 ≤ f.nm.l.length) (hn : f.nm.l.length ≤ 40) (hg : f.gp.l.length + 1 = f.nm.l.length) (hst : st < f.nm.l.length) (hb : ∀ x ∈ f.gp.l, x.1 ≤ 1000000 ∧ x.2 ≤ 1000000) :
    Calls Try.prog 84 #[f.v, .int .i64 (st : Int)] w fun e w' => ∃ f' : FV, e = .returned f'.v ∧ f'.gp.l = lessG f.gp.l f.nm.l.length st ∧ f'.nm.l = f.nm.l.eraseIdx st ∧ IsF w' f' ∧ FIn (fun k => w.heap.size ≤ k) f' ∧ Ext w w' := by
  by_cases h : st = 0 ∨ st + 1 = f.nm.l.length ∨ st + 2 = f.nm.l.length
  · exact without_any f st w hf hn2 hn hg hst hb h
  · exact without_mid f st w hf hn2 hn hg hst hb (by omega) (by omega)
end Go.Proofs.Ytfognlealnhodaa

namespace Go.Proofs.Ytfognlealnhodaa
open Go.RowKit

theorem lessG_lenN (gl : List (Nat × Nat)) (n st : Nat) (hn2 : 2 ≤ n) (hg : gl.length + 1 = n) (hS : st < n) : (lessG gl n st).length + 2 = n := by
  unfold lessG
  by_cases h0 : st = 0
  · rw [if_pos h0, List.length_drop]; omega
  · rw [if_neg h0]
    by_cases h1 : st = n - 1
    · rw [if_pos h1, List.length_take]; omega
    · rw [if_neg h1]
      simp only [List.length_append, List.length_take, List.length_drop, List.length_cons, List.length_nil]
      omega

set_option maxRecDepth 100000 in
set_option maxHeartbeats 4000000 in
theorem wrong_anyN (B : Nat) (s : List (Nat × Nat)) (f f0 : FV) (wy0 : Nat → Nat → Nat) (w : World) (hw : BkB w B f0 (s.length + 1) (apart s) wy0) (hf : IsF w f) (hO : FIn (fun k => k ≠ B) f) (hk : OkSt s f.gp.l f.nm.l) (hn2 : 2 ≤ f.nm.l.length) (hn3 : f.nm.l.length ≤ 40) :
    Calls Try.prog 66 #[.pointer (some ⟨B, 0, none⟩), f.v] w fun e w' => ∃ a c l, e = .returned (.slice a l.length c) ∧ l = wrongF s f.gp.l f.nm.l ∧ w'.ownsRow w.heap.size 3 1 (.slice a l.length c) l.length (nums l) ∧ Keep (fun k => k ≠ B) w w' := by
  obtain ⟨i0, hi, hz0, hz1, hz2⟩ := info_parts info3
  obtain ⟨V, hV⟩ : ∃ V, w.alloc (.cells #[.slice f.gp.a f.gp.l.length f.gp.c, .slice f.nm.a f.nm.l.length f.nm.c] 66) = V := ⟨_, rfl⟩
  have HX : Hid (Ext w V) := by show Ext w V; rw [← hV]; exact (Ext.refl w).alloc _
  have Hb : Hid (V.heap[w.heap.size]? = some (.cells #[.slice f.gp.a f.gp.l.length f.gp.c, .slice f.nm.a f.nm.l.length f.nm.c] 66 (0, 0))) := by show _ = _; rw [← hV]; exact alloc_new rfl
  have HVz : Hid (V.heap.size = w.heap.size + 1) := by show _ = _; rw [← hV, World.size_alloc]
  have HB0 : Hid (∃ f0 wy0, BkB V B f0 (s.length + 1) (apart s) wy0) := ⟨f0, wy0, hw.ext HX.out⟩
  have HF := Lib.hid hf
  have HK := Lib.hid hk
  have HOf := Lib.hid hO
  clear hO
  have hBl := hw.lt
  obtain ⟨n, hnn⟩ : ∃ n, f.nm.l.length = n := ⟨_, rfl⟩
  have HN := Lib.hid hnn
  rw [hnn] at hn2 hn3
  have c1 : V.cell? ⟨w.heap.size, 1, none⟩ = some (.slice f.nm.a n f.nm.c) := by rw [← hnn]; exact (cell_at Hb.out 1).trans rfl
  clear hw hf hk hnn
  go_enter Try.func66, Try.ntmps66
  go_wp2_with fail
  clear hV c1
  go_loopw [5, 10] (fun u i wr => ∃ (k : Nat) (a : Option Addr) (c : Nat) (l : List Nat), k ≤ n ∧ i = .int .i64 (k : Int) ∧ u = .slice a l.length c ∧ l.length ≤ k ∧ Hid (l = (List.range k).filter fun st => decide (0 < readsF s (lessG f.gp.l n st) (f.nm.l.eraseIdx st))) ∧ Hid (wr.ownsRow (w.heap.size + 1) 3 1 (.slice a l.length c) l.length (nums l)) ∧ Hid (∃ f0 wy0, BkB wr B f0 (s.length + 1) (apart s) wy0) ∧ Hid (Keep (fun k => k ≠ B) V wr)) (fun _ i _ => n - (intOf i).toNat)
  case atStart => exact ⟨0, none, 0, [], Nat.zero_le _, rfl, rfl, Nat.le_refl _, rfl, World.ownsRow_nil _ _ _ _, HB0, Keep.refl _ _⟩
  case round =>
    clear HB0
    obtain ⟨wo, rfl⟩ : ∃ wo : World, wo = wr := ⟨_, rfl⟩
    obtain ⟨k, a, c, l, hk, rfl, rfl, hl, HL, HO, HB, HKp⟩ := hrel
    by_cases hlt : k < n
    · have dk : decide ((k : Int) < (n : Int)) = true := decide_eq_true (by omega)
      have hne : w.heap.size ≠ B := by omega
      have q0 : wo.cell? ⟨w.heap.size, 0, none⟩ = some (.slice f.gp.a f.gp.l.length f.gp.c) := (cell_at (HKp.out.heap Hb.out hne) 0).trans rfl
      have q1 : wo.cell? ⟨w.heap.size, 1, none⟩ = some (.slice f.nm.a f.nm.l.length f.nm.c) := (cell_at (HKp.out.heap Hb.out hne) 1).trans rfl
      have HFo : Hid (IsF wo f) := (HF.out.ext HX.out).keep HKp.out HOf.out
      have hS : k < n := hlt
      have HWo := Lib.hid (without_all f k wo HFo.out (by rw [HN.out]; exact hn2) (by rw [HN.out]; omega) (by rw [HN.out]; have := HK.out.gl; have := HN.out; omega) (by rw [HN.out]; exact hlt) (fun x hx => by have := HK.out.gb x hx; omega)  )
      go_wp2_with fail
      refine HWo.out.mono ?_
      rintro e w2 ⟨f', rfl, hg', hn', hf', hfi, hx2⟩
      rw [HN.out] at hg'
      have HF' := Lib.hid hf'
      have HX2 := Lib.hid hx2
      have hln : f'.nm.l.length + 1 = n := by rw [hn', List.length_eraseIdx, if_pos (by rw [HN.out]; exact hlt), HN.out]; omega
      have hlg : f'.gp.l.length + 2 = n := by rw [hg']; exact lessG_lenN f.gp.l n k hn2 (by have := HK.out.gl; rw [HN.out] at this; omega) hS
      have hBo : B < wo.heap.size := Nat.lt_of_lt_of_le hBl (Nat.le_trans HX.out.size HKp.out.size)
      have HRd : Hid (readF f'.gp.l f'.nm.l (apart s) (s.length + 1) = readsF s (lessG f.gp.l n k) (f.nm.l.eraseIdx k)) := by show _ = _; rw [hg', hn']; rfl
      obtain ⟨f1, wy1, hb1⟩ := HB.out
      have HRe := Lib.hid (read_any B (s.length + 1) f1 f' (apart s) wy1 w2 (hb1.ext hx2) hf' (hfi.mono (fun x h => by have : wo.heap.size ≤ x := h; omega)) (by omega) (by omega) (by have := HK.out.r2; omega))
      rw [HRd.out] at HRe
      have HR1 := Lib.hid (range_filter_succ (fun st => decide (0 < readsF s (lessG f.gp.l n st) (f.nm.l.eraseIdx st))) k)
      clear hg' hn' hf' hfi hx2 hb1 HWo HRd HB
      obtain ⟨rd, hrq⟩ : ∃ rd, readsF s (lessG f.gp.l n k) (f.nm.l.eraseIdx k) = rd := ⟨_, rfl⟩
      rw [hrq] at HRe
      have HRq := Lib.hid hrq
      clear hrq
      clear hln hlg hS
      by_cases hrd : 0 < rd
      · have dr : decide ((0 : Int) < (rd : Int)) = true := decide_eq_true (by omega)
        have HL2 : Hid (l ++ [k] = (List.range (k + 1)).filter fun st => decide (0 < readsF s (lessG f.gp.l n st) (f.nm.l.eraseIdx st))) := by show _ = _; rw [HR1.out, HL.out, HRq.out, decide_eq_true hrd]; simp
        go_upto_region 6 with (go_at_call 64; refine HRe.out.mono ?_; rintro e w3 ⟨rfl, hb3, hk3⟩)
        have HB3 : Hid (∃ f0 wy0, BkB w3 B f0 (s.length + 1) (apart s) wy0) := ⟨_, _, hb3⟩
        have HK3 : Hid (Keep (fun k => k ≠ B) V w3) := (HKp.out.ext HX2.out).trans hk3
        have HO3 : Hid (w3.ownsRow (w.heap.size + 1) 3 1 (.slice a l.length c) l.length (nums l)) := own_keep (own_ext HO.out HX2.out) hk3 (fun i hi => by omega)
        have HNw := Lib.hid (new_cells w3 (nums [k]) 3)
        have hsz := HK3.out.size
        have hxs := HX.out.size
        have hVs : w.heap.size + 1 ≤ V.heap.size := (Array.getElem?_eq_some_iff.1 Hb.out).1
        have hmx : l.length + 1 ≤ maxLen := by unfold maxLen; omega
        have hmb : (l.length + 1) * 8 ≤ 140737488355328 := by omega
        have hb6 : w.heap.size + 1 ≤ (w3.alloc (.cells (nums [k]).toArray 3)).heap.size := by rw [World.size_alloc]; omega
        clear hb3 hk3 q0 q1
        go_wp2_with (at_builtin; go_must (refine wpList_append_own _ rfl _ _ 25 rfl (w.heap.size + 1) 3 i0 (.int .i64 0) 1 8 Try.underlying25 hi hz0 hz1 hz2 rfl (by decide) _ l.length (nums l) rfl (own_ext HO3.out ((Ext.refl w3).alloc _)) ⟨w3.heap.size, 0, none⟩ 1 1 (nums [k]) rfl rfl HNw.out (nums_one [k]) hmx hmb hb6 ?_); intro v' w5 hown hgrow _)
        obtain ⟨a5, c5, rfl⟩ := own_form hown
        rw [← nums_append, show l.length + 1 = (l ++ [k]).length by simp] at hown
        have HO5 := Lib.hid hown
        have HK5 : Hid (Keep (fun k => k ≠ B) V w5) := (HK3.out.alloc _).grown hgrow (fun k' e h => by have := own_lt HO3.out k' e; have := HVz.out; omega)
        have HB5 : Hid (∃ f0 wy0, BkB w5 B f0 (s.length + 1) (apart s) wy0) := by
          obtain ⟨f9, wy9, h9⟩ := HB3.out
          exact ⟨f9, wy9, (h9.ext ((Ext.refl w3).alloc _)).keep (D := fun k => k < w.heap.size + 1) ((Keep.refl _ _).grown hgrow (fun k' e _ h => by have := own_lt HO3.out k' e; have h2 : k' < w.heap.size + 1 := h; omega)) (show B < w.heap.size + 1 by omega)⟩
        clear hown hgrow
        go_roundw
        case rel => exact ⟨k + 1, a5, c5, l ++ [k], by omega, by go_num, by simp, by simp; omega, HL2, HO5, HB5, HK5⟩
        case measure => simp [intOf]; omega
      · have dr : decide ((0 : Int) < (rd : Int)) = false := decide_eq_false (by omega)
        have HL2 : Hid (l = (List.range (k + 1)).filter fun st => decide (0 < readsF s (lessG f.gp.l n st) (f.nm.l.eraseIdx st))) := by show _ = _; rw [HR1.out, ← HL.out, HRq.out, decide_eq_false hrd]; simp
        go_wp2_with (go_at_call 64; refine HRe.out.mono ?_; rintro e w3 ⟨rfl, hb3, hk3⟩)
        go_roundw
        case rel => exact ⟨k + 1, a, c, l, by omega, by go_num, rfl, by omega, HL2, own_keep (own_ext HO.out HX2.out) hk3 (fun i hi => by omega), ⟨_, _, hb3⟩, (HKp.out.ext HX2.out).trans hk3⟩
        case measure => simp [intOf]; omega
    · have dk : decide ((k : Int) < (n : Int)) = false := decide_eq_false (by omega)
      have HL2 : Hid (l = wrongF s f.gp.l f.nm.l) := by show _ = _; rw [HL.out]; unfold wrongF; rw [HN.out, show k = n by omega]
      go_wp2
      go_ret
      exact ⟨a, c, l, rfl, HL2.out, own_mono HO.out (by omega), Keep.trans (Keep.of_ext HX.out) HKp.out⟩

set_option maxRecDepth 100000 in
set_option maxHeartbeats 4000000 in
theorem Wrong_okN (s : SL (Nat × Nat)) (f : FV) (w : World) (hs : IsSl 2 spC w s) (hf : IsF w f) (hk : OkSt s.l f.gp.l f.nm.l) (hr : readsF s.l f.gp.l f.nm.l = 0) (hn2 : 2 ≤ f.nm.l.length) (hn3 : f.nm.l.length ≤ 40) :
    Calls Try.prog 35 #[.agg #[.slice s.a s.l.length s.c], f.v] w fun e w' => ∃ a c l, e = .returned (.tuple #[.slice a l.length c, .int .i64 0]) ∧ l = wrongF s.l f.gp.l f.nm.l ∧ w'.ownsRow w.heap.size 3 1 (.slice a l.length c) l.length (nums l) ∧ Ext w w' := by
  have HT := Lib.hid (two_new w s f)
  have HX : Hid (Ext w ((w.alloc (.cells #[.slice s.a s.l.length s.c] 64)).alloc (.cells #[.slice f.gp.a f.gp.l.length f.gp.c, .slice f.nm.a f.nm.l.length f.nm.c] 66))) := ((Ext.refl w).alloc _).alloc _
  have HSl := Lib.hid hs
  have HF := Lib.hid hf
  have HK := Lib.hid hk
  have HSz : Hid (((w.alloc (.cells #[.slice s.a s.l.length s.c] 64)).alloc (.cells #[.slice f.gp.a f.gp.l.length f.gp.c, .slice f.nm.a f.nm.l.length f.nm.c] 66)).heap.size = w.heap.size + 2) := by show _ = _; simp only [World.size_alloc]
  clear hs hf hk
  obtain ⟨c0, c1, c2⟩ := HT.out
  have HCk := Lib.hid (checkStones_ok s f _ (HSl.out.ext HX.out) (HF.out.ext HX.out) HK.out)
  have HOp := Lib.hid (open_h s f _ HSl.out HK.out)
  have HRd := Lib.hid (read_s s f w HF.out HK.out)
  rw [hr] at HRd
  clear hr
  go_enter Try.func35, Try.ntmps35
  go_wp2_with fail
  generalize (w.alloc (.cells #[.slice s.a s.l.length s.c] 64)).alloc (.cells #[.slice f.gp.a f.gp.l.length f.gp.c, .slice f.nm.a f.nm.l.length f.nm.c] 66) = V at *
  refine HCk.out.mono ?_
  rintro e V1 ⟨rfl, hx1⟩
  have HX1 : Hid (Ext w V1) := HX.out.trans hx1
  obtain ⟨c0', c1', c2'⟩ := HT.out.ext hx1
  have HT1 := Lib.hid (HT.out.ext hx1)
  have HSz1 : Hid (w.heap.size + 2 ≤ V1.heap.size) := by have := hx1.size; rw [HSz.out] at this; exact this
  clear c0 c1 c2 hx1 HT
  go_wp2_with fail
  refine (HOp.out _ HX1.out).mono ?_
  rintro e V2 ⟨B, rfl, hB, hBk, hx2⟩
  obtain ⟨d0, d1, d2⟩ := HT1.out.ext hx2
  have HBk := Lib.hid hBk
  have HX12 := Lib.hid hx2
  have HX2 : Hid (Ext w V2) := HX1.out.trans hx2
  have hBw := Nat.le_trans HX1.out.size hB
  clear hBk hx2 c0' c1' c2'
  go_wp2_with fail
  refine (HRd.out B _ _ V2 hBw HBk.out HX2.out).mono ?_
  rintro e V3 ⟨rfl, hb3, hx3, hk3⟩
  have HB3 := Lib.hid hb3
  have HX3 := Lib.hid hx3
  have hsz1 := HSz1.out
  have t1 : V3.cell? ⟨w.heap.size + 1, 0, none⟩ = some (.slice f.gp.a f.gp.l.length f.gp.c) := hk3.cell d1 (show w.heap.size + 1 ≠ B by omega)
  have t2 : V3.cell? ⟨w.heap.size + 1, 1, none⟩ = some (.slice f.nm.a f.nm.l.length f.nm.c) := hk3.cell d2 (show w.heap.size + 1 ≠ B by omega)
  clear hb3 hx3 d0 d1 d2 hk3
  go_wp2_with fail
  refine (wrong_anyN B s.l f f _ V3 HB3.out (HF.out.ext HX3.out) (HF.out.lt.mono (fun x h => by have h2 : x < w.heap.size := h; omega)) HK.out hn2 hn3).mono ?_
  rintro e V4 ⟨a, c, l, rfl, hl, ho, hk4⟩
  have HL := Lib.hid hl
  have HO := Lib.hid (own_mono ho HX3.out.size)
  have HX4 : Hid (Ext w V4) := ext_keep HX3.out hk4 (fun i hi => by omega)
  clear hl ho hk4 t1 t2
  go_wp2
  go_ret2
  exact ⟨a, c, l, rfl, HL.out, HO.out, HX4.out⟩
end Go.Proofs.Ytfognlealnhodaa

namespace Go.Proofs.Ytfognlealnhodaa
open Go.RowKit

set_option maxRecDepth 100000 in
set_option maxHeartbeats 4000000 in
theorem Wrong_no (s : SL (Nat × Nat)) (f : FV) (w : World) (hs : IsSl 2 spC w s) (hf : IsF w f) (hk : OkSt s.l f.gp.l f.nm.l) (hr : 0 < readsF s.l f.gp.l f.nm.l) :
    Calls Try.prog 35 #[.agg #[.slice s.a s.l.length s.c], f.v] w fun e w' => e = .returned (.tuple #[.slice none 0 0, .int .i64 10]) ∧ Ext w w' := by
  have HT := Lib.hid (two_new w s f)
  have HX : Hid (Ext w ((w.alloc (.cells #[.slice s.a s.l.length s.c] 64)).alloc (.cells #[.slice f.gp.a f.gp.l.length f.gp.c, .slice f.nm.a f.nm.l.length f.nm.c] 66))) := ((Ext.refl w).alloc _).alloc _
  have HSl := Lib.hid hs
  have HF := Lib.hid hf
  have HK := Lib.hid hk
  have HSz : Hid (((w.alloc (.cells #[.slice s.a s.l.length s.c] 64)).alloc (.cells #[.slice f.gp.a f.gp.l.length f.gp.c, .slice f.nm.a f.nm.l.length f.nm.c] 66)).heap.size = w.heap.size + 2) := by show _ = _; simp only [World.size_alloc]
  clear hs hf hk
  obtain ⟨c0, c1, c2⟩ := HT.out
  have HCk := Lib.hid (checkStones_ok s f _ (HSl.out.ext HX.out) (HF.out.ext HX.out) HK.out)
  have HOp := Lib.hid (open_h s f _ HSl.out HK.out)
  have HRd := Lib.hid (read_s s f w HF.out HK.out)
  generalize readsF s.l f.gp.l f.nm.l = rd at *
  have dr : decide ((0 : Int) < (rd : Int)) = true := decide_eq_true (by omega)
  go_enter Try.func35, Try.ntmps35
  go_wp2_with fail
  generalize (w.alloc (.cells #[.slice s.a s.l.length s.c] 64)).alloc (.cells #[.slice f.gp.a f.gp.l.length f.gp.c, .slice f.nm.a f.nm.l.length f.nm.c] 66) = V at *
  refine HCk.out.mono ?_
  rintro e V1 ⟨rfl, hx1⟩
  have HX1 : Hid (Ext w V1) := HX.out.trans hx1
  obtain ⟨c0', c1', c2'⟩ := HT.out.ext hx1
  have HT1 := Lib.hid (HT.out.ext hx1)
  have HSz1 : Hid (w.heap.size + 2 ≤ V1.heap.size) := by have := hx1.size; rw [HSz.out] at this; exact this
  clear c0 c1 c2 hx1 HT
  go_wp2_with fail
  refine (HOp.out _ HX1.out).mono ?_
  rintro e V2 ⟨B, rfl, hB, hBk, hx2⟩
  obtain ⟨d0, d1, d2⟩ := HT1.out.ext hx2
  have HBk := Lib.hid hBk
  have HX12 := Lib.hid hx2
  have HX2 : Hid (Ext w V2) := HX1.out.trans hx2
  have hBw := Nat.le_trans HX1.out.size hB
  clear hBk hx2 c0' c1' c2'
  go_wp2_with fail
  refine (HRd.out B _ _ V2 hBw HBk.out HX2.out).mono ?_
  rintro e V3 ⟨rfl, hb3, hx3, hk3⟩
  have HX3 := Lib.hid hx3
  clear hb3 hx3 d0 d1 d2 hk3
  go_wp2
  go_ret2
  exact ⟨rfl, HX3.out⟩
end Go.Proofs.Ytfognlealnhodaa
