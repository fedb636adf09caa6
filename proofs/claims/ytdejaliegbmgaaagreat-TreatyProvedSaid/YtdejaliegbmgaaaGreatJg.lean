/-
  CloneAll of the statements' kit returns an equal list of lists, all of it in new memory, each list in a block of its own, and turns nothing that was there. The lists must not be empty.
-/
import Derived.Test.YtdejaliegbmgaaaGreatY
import Derived.Test.YtdejaliegbmgaaaGreatFa
import Derived.Test.YtdejaliegbmgaaaGreatId
namespace Go.Proofs.YtdejaliegbmgaaaGreat
open Go.RowKit

/-- An owned row of numbers that is not empty lies in a block of its own. -/
theorem own_row {w : World} {base : Nat} {a : Option Addr} {c : Nat} {l : List Nat} (h : w.ownsRow base 3 1 (.slice a l.length c) l.length (nums l)) (hl : 0 < l.length) : ∃ g, a = some ⟨g, 0, none⟩ ∧ base ≤ g ∧ Row w g l c := by
  obtain ⟨h1, h2⟩ := h
  rcases h2 with ⟨h2, h3⟩ | ⟨g, cap, cur, h2, hb, hh, hn, hm, hs, ht⟩
  · omega
  · simp only [Value.slice.injEq] at h2
    obtain ⟨rfl, _, rfl⟩ := h2
    refine ⟨g, rfl, hb, cur, hh, by simpa using hs, hn, fun i hi => ?_⟩
    have e1 : cur[i]? = (cur.toList.take (l.length * 1))[i]? := by
      rw [List.getElem?_take]; simp [hi]
    rw [e1, ht, nums_get _ _ hi]
theorem own_hd {w : World} {base : Nat} {a : Option Addr} {c : Nat} {rows : List RW} (h : w.ownsRow base 24 1 (.slice a rows.length c) rows.length (rows.map fun r => r.v)) (hl : 0 < rows.length) : ∃ B, a = some ⟨B, 0, none⟩ ∧ base ≤ B ∧ rows.length ≤ c ∧ Hd w B rows.length rows ∧ ∃ cur : Array Value, w.heap[B]? = some (.cells cur 24 (0, 0)) := by
  obtain ⟨h1, h2⟩ := h
  rcases h2 with ⟨h2, h3⟩ | ⟨g, cap, cur, h2, hb, hh, hn, hm, hs, ht⟩
  · omega
  · simp only [Value.slice.injEq] at h2
    obtain ⟨rfl, _, rfl⟩ := h2
    refine ⟨g, rfl, hb, hn, ⟨cur, 24, hh, by simp at hs; omega, Nat.le_refl _, fun i hi => ?_⟩, cur, hh⟩
    have e1 : cur[i]? = (cur.toList.take (rows.length * 1))[i]? := by
      rw [List.getElem?_take]; simp [hi]
    rw [e1, ht, List.getElem?_map, List.getElem?_eq_getElem hi]; rfl
theorem Row.grown {w w' : World} {g : Nat} {l : List Nat} {c : Nat} {row : Option Nat} (h : Row w g l c) (k : w.grownBy w' row) (hr : ∀ B, row = some B → ∃ cur : Array Value, w.heap[B]? = some (.cells cur 24 (0, 0))) : Row w' g l c := by
  obtain ⟨cur, h1, h2⟩ := h
  refine ⟨cur, (k.block g (Array.getElem?_eq_some_iff.1 h1).1 (fun e => ?_)).trans h1, h2⟩
  obtain ⟨c2, h3⟩ := hr g e.symm
  rw [h1] at h3; simp at h3

set_option maxRecDepth 100000 in
set_option maxHeartbeats 1000000 in
theorem cloneAll_any (s : SL (SL Nat)) (w : World) (hs : IsTbl w s) (hne : 0 < s.l.length) (hN : s.l.length ≤ 1000) (hr : ∀ r ∈ s.l, 0 < r.l.length) :
    Calls Tryz.prog 25 #[.slice s.a s.l.length s.c] w fun e w' => ∃ (B c : Nat) (rows : List RW), e = .returned (.slice (some ⟨B, 0, none⟩) rows.length c) ∧ Tbl w' w.heap.size B rows.length rows ∧ rows.length ≤ c ∧ rows.map (fun r => r.l) = s.l.map (fun r => r.l) ∧ Ext w w' := by
  obtain ⟨i0, hi, hz0, hz1, hz2⟩ := info_parts info24
  obtain ⟨bs, os, hsa, hsc⟩ := hs.rows.2.2.resolve_left (by omega)
  have HSC := Lib.hid hsc; clear hsc
  have HRow := Lib.hid hs.row; clear hs
  have HPos := Lib.hid hr; clear hr
  obtain ⟨sa, sc, sl⟩ := s
  dsimp only at hsa hne hN HSC HRow HPos ⊢
  subst hsa
  go_enter Tryz.func25, Tryz.ntmps25
  go_wp2
  go_loopw [3, 8] (fun v i wr => ∃ (k : Nat) (a' : Option Addr) (c' : Nat) (rows : List RW), k ≤ sl.length ∧ i = .int .i64 k ∧ v = .slice a' rows.length c' ∧ Hid (wr.ownsRow w.heap.size 24 1 (.slice a' rows.length c') rows.length (rows.map fun r => r.v)) ∧ Hid (rows.map (fun r => r.l) = (sl.take k).map (fun r => r.l)) ∧ Hid (∀ r ∈ rows, Row wr r.b r.l r.c ∧ w.heap.size ≤ r.b) ∧ Hid ((rows.map fun r : RW => r.b).Nodup) ∧ Hid (Ext w wr)) (fun _ i _ => sl.length - (intOf i).toNat)
  case atStart => exact ⟨0, none, 0, [], Nat.zero_le _, rfl, rfl, World.ownsRow_nil _ _ _ _, by simp [Hid], fun r hr => by simp at hr, by simp [Hid], Ext.refl w⟩
  case round =>
    obtain ⟨wo, rfl⟩ : ∃ wo : World, wo = wr := ⟨_, rfl⟩
    obtain ⟨k, a', c', rows, hk, rfl, rfl, HO, HM, HR, HN, HX⟩ := hrel
    have HLen : Hid (rows.length = k) := by have := congrArg List.length HM.out; simp only [List.length_map, List.length_take] at this; show _ = _; omega
    by_cases hlt : k < sl.length
    · have dk : decide ((k : Int) < (sl.length : Int)) = true := by simpa using hlt
      have cs : wo.cell? ⟨bs, os + k, none⟩ = some (.slice sl[k].a sl[k].l.length sl[k].c) := by have := HX.out.cell (HSC.out k hlt 0 (by omega)); simpa [slC] using this
      have HIs : Hid (IsSl 1 num wo sl[k]) := (HRow.out _ (List.getElem_mem hlt)).ext HX.out
      have HP := Lib.hid (HPos.out _ (List.getElem_mem hlt))
      have HMn : Hid (∀ r : RW, r.l = sl[k].l → (rows ++ [r]).map (fun r => r.l) = (sl.take (k + 1)).map (fun r => r.l)) := fun r e => by
        rw [List.take_succ_eq_append_getElem hlt, List.map_append, List.map_append, HM.out]; simp [e]
      generalize sl[k] = x at *
      have k0 : (0 : Int) ≤ k := by omega
      have k1 : (k : Int) < (sl.length : Int) := by omega
      go_wp2_with fail
      refine (kitClone_any x.a x.l.length x.c x.l wo rfl HIs.out).mono ?_
      rintro e w1 ⟨a1, c1, rfl, hO1, hx1⟩
      obtain ⟨g, rfl, hg, hR⟩ := own_row hO1 HP.out
      have HR1 : Hid (Row w1 g x.l c1 ∧ wo.heap.size ≤ g) := ⟨hR, hg⟩
      have HX1 := Lib.hid hx1
      clear hO1 hg hR hx1
      have HO1 : Hid (w1.ownsRow w.heap.size 24 1 (.slice a' rows.length c') rows.length (rows.map fun r => r.v)) := own_ext HO.out HX1.out
      have hb6 : w.heap.size ≤ w1.heap.size + 1 := by have := (HX.out.trans HX1.out).size; omega
      have hl6 : rows.length ≤ 1000 := by have := HLen.out; omega
      have hm6 : rows.length + 1 ≤ maxLen := by unfold maxLen; omega
      go_wp2_with (at_builtin; go_must (refine wpList_append_own _ rfl _ _ 41 rfl w.heap.size 24 i0 (.slice none 0 0) 1 24 Tryz.underlying41 hi hz0 hz1 hz2 rfl (by decide) _ rows.length (rows.map fun r => r.v) rfl (HO1.out.alloc _) ⟨w1.heap.size, 0, none⟩ 1 1 [RW.v ⟨g, x.l, c1⟩] rfl rfl (cell_one_new _ _ _) (by simp [Value.oneCell']) hm6 (by omega) (by simp; omega) ?_); intro v' w3 hown hgrow _)
      obtain ⟨a3, c3, rfl⟩ := own_form hown
      have HR3 : Hid (∀ q ∈ rows ++ [(⟨g, x.l, c1⟩ : RW)], Row w3 q.b q.l q.c ∧ w.heap.size ≤ q.b) := by
        intro q hq
        have hX := HX.out.size
        have hcase : Row w1 q.b q.l q.c ∧ w.heap.size ≤ q.b := by
          rcases List.mem_append.1 hq with hq | hq
          · exact ⟨(HR.out q hq).1.ext HX1.out, (HR.out q hq).2⟩
          · simp only [List.mem_singleton] at hq; subst hq; exact ⟨HR1.out.1, by have := HR1.out.2; show _ ≤ g; omega⟩
        exact ⟨(hcase.1.ext ((Ext.refl w1).alloc _)).grown hgrow (fun B hB => own_block (HO1.out.alloc _) B hB), hcase.2⟩
      have HN3 : Hid (((rows ++ [(⟨g, x.l, c1⟩ : RW)]).map fun r : RW => r.b).Nodup) := by
        show List.Nodup _
        rw [List.map_append, List.nodup_append]
        refine ⟨HN.out, by simp, fun b hb b' hb' e => ?_⟩
        simp only [List.map_cons, List.map_nil, List.mem_singleton] at hb'
        obtain ⟨q, hq, rfl⟩ := List.mem_map.1 hb
        have h1 := (HR.out q hq).1.lt
        have h2 := HR1.out.2
        omega
      have HM3 := Lib.hid (HMn.out ⟨g, x.l, c1⟩ rfl)
      have HX3 : Hid (Ext w w3) := ext_grown_of ((HX.out.trans HX1.out).alloc _) hgrow (fun i hi => own_lt HO1.out i hi)
      have hown' : w3.ownsRow w.heap.size 24 1 (.slice a3 (rows ++ [(⟨g, x.l, c1⟩ : RW)]).length c3) (rows ++ [(⟨g, x.l, c1⟩ : RW)]).length ((rows ++ [(⟨g, x.l, c1⟩ : RW)]).map fun r => r.v) := by
        rw [List.map_append, List.length_append]; exact hown
      have HO3 := Lib.hid hown'
      refine ⟨⟨k + 1, a3, c3, rows ++ [⟨g, x.l, c1⟩], by omega, by go_num, by simp, HO3, HM3, HR3, HN3, HX3⟩, ?_⟩
      simp [intOf]; omega
    · have hke : k = sl.length := by omega
      have dk : decide ((k : Int) < (sl.length : Int)) = false := decide_eq_false (by omega)
      have HKe := Lib.hid hke; clear hke
      go_wp2
      go_ret
      obtain ⟨B, rfl, hB, hc, hH, cur, hcur⟩ := own_hd HO.out (by have := HLen.out; have := HKe.out; omega)
      refine ⟨B, c', rows, rfl, ⟨hH, hB, fun r hr => ⟨(HR.out r hr).1, (HR.out r hr).2, fun e => ?_⟩, HN.out⟩, hc, ?_, HX.out⟩
      · obtain ⟨c2, h1, _⟩ := (HR.out r hr).1
        rw [e, hcur] at h1; simp at h1
      · rw [HM.out, HKe.out, List.take_of_length_le (Nat.le_refl _)]
end Go.Proofs.YtdejaliegbmgaaaGreat
