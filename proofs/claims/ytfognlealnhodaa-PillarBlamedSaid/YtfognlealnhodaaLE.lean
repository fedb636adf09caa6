/-
  leads of package pillar tells whether the stone behind one can be one of some pillars, if this is a pillar; nothing that was there is turned. The book must lie in memory as told.
-/
import Derived.Test.YtfognlealnhodaaBE
import Derived.Test.YtfognlealnhodaaM
namespace Go.Proofs.Ytfognlealnhodaa
open Go.RowKit
attribute [local go_sem] Oper.semAt_some

set_option maxRecDepth 100000 in
set_option maxHeartbeats 4000000 in
theorem leads_any (B P st place : Nat) (f : FV) (ap : Nat → Nat → Nat × Nat) (wy : Nat → Nat → Nat) (s : SL Nat) (w : World) (hw : BkB w B f P ap wy) (hf : IsF w f) (hs : IsSl 1 num w s) (hP : P ≤ 40) (hpl : place < 40) (hst : st < f.gp.l.length) (hst2 : st + 1 < f.nm.l.length) :
    Calls Try.prog 83 #[.pointer (some ⟨B, 0, none⟩), .int .i64 (st : Int), .int .i64 (place : Int), .slice s.a s.l.length s.c] w fun e w' => e = .returned (.bool ((behF f.gp.l f.nm.l ap P st place).any fun q => s.l.contains q)) ∧ Ext w w' := by
  obtain ⟨la, lc, ll⟩ := s
  dsimp only
  have HS := Lib.hid hs
  have HW := Lib.hid hw
  have HF := Lib.hid hf
  have hBlt := hw.lt
  clear hs hw hf
  refine callsIn_wide.1 (callsIn_of_wp_marks (n := 3) Try.func83 rfl trivial ?_ rfl)
  simp only [Try.ntmps83, List.size_toArray, List.length_cons, List.length_nil, Nat.reduceAdd, Nat.reduceSub, Array.replicate_succ, Array.replicate_zero, List.push_toArray, List.append_toArray, List.nil_append, List.cons_append]
  refine wpIn_wide.2 ?_
  have HX0 : Hid (Ext w ((w.alloc (.cells #[.slice la ll.length lc] 25)).alloc (.cells #[.bool false] 4))) := ((Ext.refl w).alloc _).alloc _
  have HR0 : Hid (BBox ((w.alloc (.cells #[.slice la ll.length lc] 25)).alloc (.cells #[.bool false] 4)) (w.heap.size + 1) false) := alloc_new (by simp only [World.size_alloc])
  have HL0 : Hid (((w.alloc (.cells #[.slice la ll.length lc] 25)).alloc (.cells #[.bool false] 4)).heap[w.heap.size]? = some (.cells #[.slice la ll.length lc] 25 (0, 0))) := (alloc_old (by simp only [World.size_alloc]; omega)).trans (alloc_new rfl)
  have HSz0 : Hid (((w.alloc (.cells #[.slice la ll.length lc] 25)).alloc (.cells #[.bool false] 4)).heap.size = w.heap.size + 2) := by show _ = _; simp only [World.size_alloc]
  have HBe := Lib.hid (behind_gives B P st place f ap ((w.alloc (.cells #[.slice la ll.length lc] 25)).alloc (.cells #[.bool false] 4)) (HF.out.ext HX0.out) hP hpl hst hst2)
  go_wp2_with fail
  generalize (w.alloc (.cells #[.slice la ll.length lc] 25)).alloc (.cells #[.bool false] 4) = V0 at *
  refine HBe.out.mono ?_
  rintro e w2 ⟨pb, wb, sb, rfl, hpb, hwb, hsb, hx2, hG⟩
  have hsz := HSz0.out
  have HX2 : Hid (Ext w w2) := HX0.out.trans hx2
  have HR2 := Lib.hid (HR0.out.ext hx2)
  have HLb2 : Hid (w2.heap[w.heap.size]? = some (.cells #[.slice la ll.length lc] 25 (0, 0))) := hx2.block HL0.out
  have HS2 : Hid (w.heap.size + 2 ≤ w2.heap.size) := by have := hx2.size; show _ ≤ _; omega
  have HBlt : Hid (B < w.heap.size) := hBlt
  have HG := Lib.hid (hG w2 (fun x => x ≠ w.heap.size + 1) (Ext.refl _) (by refine ⟨?_, ?_, ?_⟩ <;> omega) ((HF.out.lt).mono (fun x hx => by have : x < w.heap.size := hx; omega)))
  clear hG hx2 HBe HX0 HR0 HL0 hsz HSz0 hpb hwb hsb
  go_wp2_with fail
  refine (wpIn_wide (n := 3)).1 ?_
  refine wp_rangeFuncR (a₁ := ?a1) rfl enters_90 HG.out rfl
    (fun hi pre W => pre.any (fun q => ll.contains q) = false ∧ Keep (fun x => x < w2.heap.size) w2 W)
    (fun hi c pre W => c = .ret ∧ pre.any (fun q => ll.contains q) = true ∧ Keep (fun x => x < w2.heap.size ∧ x ≠ w.heap.size + 1) w2 W ∧ BBox W (w.heap.size + 1) true)
    ?_ ?_ ?_ ?keeps ?assign ?body ?done ?stop
  case assign =>
    intro l s W K hK
    gi_wp2
    exact hK
  case keeps =>
    intro hi s A hh h
    have := HBlt.out
    have := HS2.out
    exact ⟨wy, (HW.out.ext HX2.out).keep h.2 (by omega)⟩
  · intro hi s A B' hh h hk
    exact ⟨h.1, h.2.trans (hk.mono (fun k _ h => .inl h))⟩
  · intro c hi s A B' hh h hk
    have := HS2.out
    exact ⟨h.1, h.2.1, h.2.2.1.trans (hk.mono (fun k _ h => .inl h.1)), hk.heap h.2.2.2 (.inl (by omega))⟩
  · intro hi hh
    exact ⟨by simp, Keep.refl _ _⟩
  case body =>
    rintro l hi pre q W hh hhW ⟨hA, hKp⟩ hpre
    have hS2 := HS2.out
    have hXW : Ext w W := ext_keep HX2.out hKp (fun i hi => by have := HX2.out.size; omega)
    have c1 : W.cell? ⟨w.heap.size, 0, none⟩ = some (.slice la ll.length lc) := (cell_at (hKp.heap HLb2.out (by omega)) 0).trans rfl
    have hR2 : BBox W (w.heap.size + 1) false := hKp.heap HR2.out (by omega)
    have fr := hR2.frozen 0
    have cr := hR2.cell
    have HR2' := Lib.hid hR2
    have HA := Lib.hid hA
    have HKp := Lib.hid hKp
    have HCt := Lib.hid (contains_any la ll.length lc ll q W rfl (HS.out.ext hXW))
    clear hA hKp hR2 hpre hXW
    cases hct : ll.contains q
    · have dB : Hid ((pre ++ [q]).any (fun q => ll.contains q) = false) := by show _ = _; rw [List.any_append, HA.out]; simp only [List.any_cons, List.any_nil, hct, Bool.or_false]
      rw [hct] at HCt
      clear hct
      gi_wp2_with (refine ⟨trivial, ?_⟩; gi_at_call 31; refine (callsIn_wide.2 HCt.out).mono ?_; rintro e w' ⟨rfl, rfl⟩)
      exact ⟨Keep.refl _ _, dB.out, HKp.out⟩
    · have dB : Hid ((pre ++ [q]).any (fun q => ll.contains q) = true) := by show _ = _; rw [List.any_append, HA.out]; simp only [List.any_cons, List.any_nil, hct, Bool.or_false, Bool.false_or]
      rw [hct] at HCt
      clear hct
      gi_wp2_with (refine ⟨trivial, ?_⟩; gi_at_call 31; refine (callsIn_wide.2 HCt.out).mono ?_; rintro e w' ⟨rfl, rfl⟩)
      refine ⟨(Keep.refl _ _).setCell _ _ (fun _ h => ?_), rfl, dB.out, (HKp.out.mono (fun k _ h => h.1)).setCell _ _ (fun _ h => h.2 rfl), HR2'.out.set true⟩
      rcases h with h | h
      · exact h.2 rfl
      · have := h.1; simp only at this; omega
  case done =>
    rintro hi W hh ⟨hA, hKp⟩ hD
    have hS2 := HS2.out
    have hXW : Ext w W := ext_keep HX2.out hKp (fun i hi => by have := HX2.out.size; omega)
    have HXW := Lib.hid hXW
    have HRW : Hid (BBox W (w.heap.size + 1) false) := hKp.heap HR2.out (by omega)
    have HA := Lib.hid hA
    have HD := Lib.hid hD
    have cr := HRW.out.cell
    have fr := HRW.out.frozen 0
    have HCW : Hid (Coll w.heap.size W.heap.size [{ target := .collected w2.heap.size, args := #[] }] (W.setCell ⟨w.heap.size + 1, 0, none⟩ (.bool false))) :=
      Coll.cons trivial (by omega) (by have := (Array.getElem?_eq_some_iff.1 hD).1; omega) ((Below.heap_setCell _ _ _ _ (show w2.heap.size ≠ w.heap.size + 1 by omega)).trans hD)
    clear hA hKp hD hXW
    simp only [Exit.inBlock, Exit.then]
    go_wp2_with fail
    simp only [bodyPostM]
    refine leaves_coll (hi := W.heap.size) (lo := w.heap.size) HCW.out fun w' hs => ?_
    refine ⟨_, results_bool rfl _ _ (w.heap.size + 1) false rfl (hs.cells (HRW.out.set false)), ?_, hs.ext (HXW.out.setCell (by show w.heap.size ≤ w.heap.size + 1; omega) _) (Nat.le_refl _)⟩
    rw [HA.out]
  case stop =>
    rintro hi c pre W hh hp ⟨rfl, hA, hKp, hB⟩ hD
    have hS2 := HS2.out
    have hXW : Ext w W := ext_keep HX2.out (hKp) (fun i hi => ⟨by have := HX2.out.size; omega, by omega⟩)
    have hany : ((behF f.gp.l f.nm.l ap P st place).any fun q => ll.contains q) = true := by
      rw [List.any_eq_true] at hA ⊢
      obtain ⟨q, hq, hq2⟩ := hA
      exact ⟨q, hp.subset hq, hq2⟩
    apply wpIn_ret
    simp only [Exit.inBlock, Exit.then]
    refine leaves_coll (hi := W.heap.size) (lo := w.heap.size) (Coll.cons trivial (by omega) (Array.getElem?_eq_some_iff.1 hD).1 hD) fun w' hs => ?_
    refine ⟨_, results_bool rfl _ _ (w.heap.size + 1) true rfl (hs.cells hB), ?_, hs.ext hXW (Nat.le_refl _)⟩
    rw [hany]
end Go.Proofs.Ytfognlealnhodaa
