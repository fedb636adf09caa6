/-
  without of package pillar returns finds without a stone, if that is the first one, the last one, or the one ahead of the last one; in new memory; nothing that was there is turned. The finds must lie in memory as told.
-/
import Derived.Test.YtfognlealnhodaaRP
namespace Go.Proofs.Ytfognlealnhodaa
open Go.RowKit

theorem own_place {w : World} {base : Nat} {e : TypeId} {size : Nat} {a : Option Addr} {c n : Nat} {xs : List Value} (h : w.ownsRow base e size (.slice a n c) n xs) (hn : 0 < n) : ∃ g, a = some ⟨g, 0, none⟩ ∧ base ≤ g ∧ c ≤ maxLen := by
  obtain ⟨h1, h2⟩ := h
  rcases h2 with ⟨h2, h3⟩ | ⟨g', cap, cur, h2, hb, hh, hn', hm, hs, ht⟩
  · omega
  · simp only [Value.slice.injEq, true_and] at h2
    obtain ⟨rfl, rfl⟩ := h2
    exact ⟨g', rfl, hb, hm⟩

theorem two_sl (w : World) (T : TypeId) (x y : Nat × Nat) : IsSl 2 spC (w.alloc (.cells #[.int .i64 (x.1 : Int), .int .i64 (x.2 : Int), .int .i64 (y.1 : Int), .int .i64 (y.2 : Int)] T)) ⟨some ⟨w.heap.size, 0, none⟩, 2, [x, y]⟩ :=
  sp_block (l := [x, y]) (alloc_new rfl) (fun i hi => by
    have hi2 : i < 2 := hi
    rcases (show i = 0 ∨ i = 1 by omega) with rfl | rfl <;> exact ⟨rfl, rfl⟩) (show 2 ≤ 1000000 by omega)
theorem one_sl (w : World) (T : TypeId) (x : Nat × Nat) : IsSl 2 spC (w.alloc (.cells #[.int .i64 (x.1 : Int), .int .i64 (x.2 : Int)] T)) ⟨some ⟨w.heap.size, 0, none⟩, 1, [x]⟩ :=
  sp_block (l := [x]) (alloc_new rfl) (fun i hi => by
    have hi2 : i < 1 := hi
    obtain rfl : i = 0 := by omega
    exact ⟨rfl, rfl⟩) (show 1 ≤ 1000000 by omega)
set_option maxRecDepth 100000 in
set_option maxHeartbeats 4000000 in
theorem without_any (f : FV) (st : Nat) (w : World) (hf : IsF w f) (hn2 : 2 ≤ f.nm.l.length) (hn : f.nm.l.length ≤ 40) (hg : f.gp.l.length + 1 = f.nm.l.length) (hst : st < f.nm.l.length) (hb : ∀ x ∈ f.gp.l, x.1 ≤ 1000000 ∧ x.2 ≤ 1000000) (hS : st = 0 ∨ st + 1 = f.nm.l.length ∨ st + 2 = f.nm.l.length) :
    Calls Try.prog 84 #[f.v, .int .i64 (st : Int)] w fun e w' => ∃ f' : FV, e = .returned f'.v ∧ f'.gp.l = lessG f.gp.l f.nm.l.length st ∧ f'.nm.l = f.nm.l.eraseIdx st ∧ IsF w' f' ∧ FIn (fun k => w.heap.size ≤ k) f' ∧ Ext w w' := by
  obtain ⟨⟨ga, gc, gl⟩, ⟨na, nc, nl⟩⟩ := f
  dsimp only at hn2 hn hg hst hb hS ⊢
  have HF := Lib.hid hf
  clear hf
  obtain ⟨V, hV⟩ : ∃ V, (w.alloc (.cells #[.slice ga gl.length gc, .slice na nl.length nc] 66)).alloc (.cells #[.slice none 0 0, .slice none 0 0] 66) = V := ⟨_, rfl⟩
  have HX : Hid (Ext w V) := by show Ext w V; rw [← hV]; exact ((Ext.refl w).alloc _).alloc _
  have Hb1 : Hid (V.heap[w.heap.size]? = some (.cells #[.slice ga gl.length gc, .slice na nl.length nc] 66 (0, 0))) := by show _ = _; rw [← hV]; exact (alloc_old (by simp only [World.size_alloc]; omega)).trans (alloc_new rfl)
  have Hb2 : Hid (V.heap[w.heap.size + 1]? = some (.cells #[.slice none 0 0, .slice none 0 0] 66 (0, 0))) := by show _ = _; rw [← hV]; exact alloc_new (by simp only [World.size_alloc])
  have HSz : Hid (V.heap.size = w.heap.size + 2) := by show _ = _; rw [← hV]; simp only [World.size_alloc]
  obtain ⟨n, hnn⟩ : ∃ n, nl.length = n := ⟨_, rfl⟩
  obtain ⟨m, hmm⟩ : ∃ m, gl.length = m := ⟨_, rfl⟩
  have HC : Hid (∀ w1, Ext V w1 → w1.cell? ⟨w.heap.size, 0, none⟩ = some (.slice ga m gc) ∧ w1.cell? ⟨w.heap.size, 1, none⟩ = some (.slice na n nc)) := fun w1 h => by
    rw [← hnn, ← hmm]; exact ⟨(cell_at (h.block Hb1.out) 0).trans rfl, (cell_at (h.block Hb1.out) 1).trans rfl⟩
  have HC1 : Hid (∀ w1, Ext V w1 → Calls Try.prog 92 #[.slice ga m gc] w1 fun e w' => ∃ a' c', e = .returned (.slice a' m c') ∧ w'.ownsRow w1.heap.size 28 2 (.slice a' m c') m (flat 2 spC gl) ∧ Ext w1 w') := fun w1 h => by
    have := cloneS_any ⟨ga, gc, gl⟩ w1 (HF.out.gp.ext (HX.out.trans h)); rw [← hmm]; exact this
  have HC2 : Hid (∀ w1, Ext V w1 → Calls Try.prog 93 #[.slice na n nc] w1 fun e w' => ∃ a' c', e = .returned (.slice a' n c') ∧ w'.ownsRow w1.heap.size 3 1 (.slice a' n c') n (intsV nl) ∧ Ext w1 w') := fun w1 h =>
    clone_anyI na n nc nl w1 hnn (HF.out.nm.ext (HX.out.trans h))
  have HNl := Lib.hid hnn
  have HGl := Lib.hid hmm
  have HBd := Lib.hid hb
  rw [hnn, hmm] at hV
  rw [hnn] at hn2 hn hst hS
  have hmn : m + 1 = n := by omega
  obtain ⟨q0, q1⟩ := HC.out V (Ext.refl V)
  clear hg hb hnn hmm
  show Calls Try.prog 84 #[.agg #[.slice ga gl.length gc, .slice na nl.length nc], .int .i64 (st : Int)] w _
  rw [HNl.out, HGl.out]
  go_enter Try.func84, Try.ntmps84
  go_wp2_with fail
  clear hV
  clear q0 q1
  go_region_held3 (fun w1 => w1.cell? ⟨w.heap.size, 0, none⟩ = some (.slice ga m gc) ∧ w1.cell? ⟨w.heap.size, 1, none⟩ = some (.slice na n nc))
    ((refine HC.out _ ?_ <;> (repeat (first | exact Ext.refl _ | refine Ext.trans ?_ (by assumption) | refine Ext.drew ?_))))
    (first
      | (go_at_call 92; refine (HC1.out _ (Ext.refl V).drew).mono ?_; rintro e wa ⟨a1, k1, rfl, ho1, hxa'⟩)
      | (go_at_call 93; refine (HC2.out wa ((Ext.refl V).drew.trans hxa')).mono ?_; rintro e wb ⟨a2, k2, rfl, ho2, hxb'⟩))
  have hxb : Ext V wb := ((Ext.refl V).drew.trans hxa').trans hxb'
  have hsz := HSz.out
  have hab : Ext wa wb := by first | exact hxb' | exact (Ext.refl wa).drew.trans hxb'
  rw [← HGl.out] at ho1
  obtain ⟨g1, rfl, hg1, hc1⟩ := own_place ho1 (by rw [HGl.out]; omega)
  obtain ⟨g2, rfl, hg2, hc2⟩ := own_place ho2 (by omega)
  obtain ⟨hp1, -⟩ := RowP.of_own ho1
  rw [← HNl.out] at ho2
  obtain ⟨hi2, -⟩ := RowI.of_own ho2
  have HP1 := Lib.hid (hp1.ext hab)
  have HI2 := Lib.hid hi2
  have HXb := Lib.hid hxb
  have hg12 : g1 < g2 := Nat.lt_of_lt_of_le hp1.lt hg2
  have hg1w : w.heap.size + 2 ≤ g1 := by have : V.heap.size ≤ g1 := hg1; omega
  have hle := hp1.le
  rw [HGl.out] at hle
  clear ho1 ho2 hp1 hi2 hab hxb hxa' hxb' hg1 hg2
  have hl := HNl.out
  have hgl := HGl.out
  by_cases h0 : st = 0
  · subst h0
    obtain ⟨Z, hZ⟩ : ∃ Z, (if k1 = 1 then (some ⟨g1, 0, none⟩ : Option Addr) else some ⟨g1, 2, none⟩) = Z := ⟨_, rfl⟩
    have HZe := Lib.hid hZ
    have HDr := Lib.hid (HP1.out.drop (by omega) 1 (by omega))
    have HD : Hid (Calls Try.prog 28 #[.slice (some ⟨g2, 0, none⟩) n k2, .int .i64 0, .int .i64 1] wb fun e w' => e = .returned (.slice (some ⟨g2, 0, none⟩) (nl.eraseIdx 0).length k2) ∧ RowI w' g2 (nl.eraseIdx 0) k2 ∧ Below g2 wb w') := by
      have h := delete_anyI g2 g2 k2 0 nl wb HI2.out (Nat.le_refl _) (by omega) hc2 (by omega)
      rw [hl] at h
      exact h
    have i1 : 1 ≤ m := by omega
    have i2 : 1 ≤ k1 := by omega
    obtain ⟨er, her⟩ : ∃ er, nl.eraseIdx 0 = er := ⟨_, rfl⟩
    rw [her] at HD
    have HEr := Lib.hid her
    clear hS hl hgl hsz her
    have HZ : Hid (IsSl 2 spC wb ⟨Z, (k1 - 1), (gl.drop 1)⟩ ∧ (gl.drop 1).length = (m - 1)) := ⟨by rw [← HZe.out]; exact HDr.out, by rw [List.length_drop, HGl.out]⟩
    have HRi : Hid (RowI wb g2 nl k2) := HI2.out
    have HPl : Hid (∀ g off, Z = some ⟨g, off, none⟩ → w.heap.size + 2 ≤ g ∧ g < g2) := fun g off e => by rw [← HZe.out] at e; split at e <;> (cases e; omega)
    have HXW : Hid (Ext V wb) := HXb.out
    go_wp2_with (go_at_call 28; refine HD.out.mono ?_; rintro e wd ⟨rfl, hrd, hbd⟩; have HKd : Hid (Keep (fun k => k < g2) wb wd) := ⟨Below.os hbd, Below.tape hbd, Below.output hbd, Below.size hbd, fun i hi h => Below.block hbd i h⟩; have b2' : wd.heap[w.heap.size + 1]? = some (.cells #[.slice none 0 0, .slice none 0 0] 66 (0, 0)) := HKd.out.heap (HXW.out.block Hb2.out) (show w.heap.size + 1 < g2 by omega); have r0 : wd.cell? ⟨w.heap.size + 1, 0, none⟩ = some (.slice none 0 0) := (cell_at b2' 0).trans rfl; have r1 : wd.cell? ⟨w.heap.size + 1, 1, none⟩ = some (.slice none 0 0) := (cell_at b2' 1).trans rfl; have f0 : wd.frozen? ⟨w.heap.size + 1, 0, none⟩ = false := (by simp [World.frozen?, b2']); have f1 : wd.frozen? ⟨w.heap.size + 1, 1, none⟩ = false := (by simp [World.frozen?, b2']); have HRd := Lib.hid hrd; have H5 := Lib.hid (heap_setCell_same (i := 1) (heap_setCell_same (i := 0) b2' (.slice Z (m - 1) (k1 - 1))) (.slice (some ⟨g2, 0, none⟩) (er).length k2)); have HK5 : Hid (Keep (fun k => k ≠ w.heap.size + 1) wd ((wd.setCell ⟨w.heap.size + 1, 0, none⟩ (.slice Z (m - 1) (k1 - 1))).setCell ⟨w.heap.size + 1, 1, none⟩ (.slice (some ⟨g2, 0, none⟩) (er).length k2))) := ((Keep.refl _ _).setCell _ _ (fun _ h => h rfl)).setCell _ _ (fun _ h => h rfl); clear hrd hbd b2')
    simp only [bodyPost]
    generalize ((wd.setCell ⟨w.heap.size + 1, 0, none⟩ (.slice Z (m - 1) (k1 - 1))).setCell ⟨w.heap.size + 1, 1, none⟩ (.slice (some ⟨g2, 0, none⟩) (er).length k2)) = WF at *
    have k0 : WF.cell? ⟨w.heap.size + 1, 0, none⟩ = some (.slice Z (m - 1) (k1 - 1)) := (cell_at H5.out 0).trans rfl
    have k1' : WF.cell? ⟨w.heap.size + 1, 1, none⟩ = some (.slice (some ⟨g2, 0, none⟩) (er).length k2) := (cell_at H5.out 1).trans rfl
    have hnl := HNl.out
    refine ⟨trivial, _, ?_, ⟨⟨Z, (k1 - 1), (gl.drop 1)⟩, ⟨some ⟨g2, 0, none⟩, k2, er⟩⟩, rfl, (by simp [lessG]), (by first | exact HEr.out.symm | (have := HEr.out; simpa using this.symm)), ⟨?_, ?_⟩, ⟨fun g off ha _ => ?_, fun g off ha _ => ?_⟩, ?_⟩
    · have q := HZ.out.2; simp [results, Try.f84, go_sem, k0, k1', FV.v]; try (simp at q; omega)
    · refine (HZ.out.1.keep HKd.out (fun g off ha _ => (HPl.out g off ha).2)).keep HK5.out (fun g off ha _ => ?_)
      have := (HPl.out g off ha).1
      show g ≠ w.heap.size + 1
      omega
    · obtain ⟨cur, q1, q2, q3, q4⟩ := HRd.out
      refine IsSl.keep (a := wd) ⟨q3, by have := List.length_eraseIdx_le nl 0; rw [HEr.out] at this; dsimp only; omega, .inr ⟨g2, 0, rfl, fun i hi j hj => ?_⟩⟩ HK5.out (fun g off ha _ => ?_)
      · obtain rfl : j = 0 := by omega
        have := (cell_at q1 i).trans (q4 i hi)
        simpa [numI] using this
      · cases ha; show g2 ≠ w.heap.size + 1; omega
    · have := (HPl.out g off ha).1; omega
    · cases ha; omega
    · exact ext_keep (HX.out.trans (ext_keep HXW.out HKd.out (fun i hi => by have := HSz.out; omega))) HK5.out (fun i hi => by omega)
  · have b0 : ((st : Int) == 0) = false := by rw [beq_eq_false_iff_ne]; omega
    obtain ⟨r, hr⟩ : ∃ r, st - 1 = r := ⟨_, rfl⟩
    have wr1 : IntKind.i64.wrap ((st : Int) - 1) = (r : Int) := by rw [IntWalk.i64_in _ (by omega)]; omega
    have wr2 : IntKind.i64.wrap ((st : Int) + 1) = (st : Int) + 1 := IntWalk.i64_in _ (by omega)
    by_cases h1 : st + 1 = n
    · have wr3 : IntKind.i64.wrap ((n : Int) - 1) = (st : Int) := by rw [IntWalk.i64_in _ (by omega)]; omega
      have HD : Hid (Calls Try.prog 28 #[.slice (some ⟨g2, 0, none⟩) n k2, .int .i64 (st : Int), .int .i64 ((st : Int) + 1)] wb fun e w' => e = .returned (.slice (some ⟨g2, 0, none⟩) (nl.eraseIdx st).length k2) ∧ RowI w' g2 (nl.eraseIdx st) k2 ∧ Below g2 wb w') := by
        have h := delete_anyI g2 g2 k2 st nl wb HI2.out (Nat.le_refl _) (by rw [HNl.out]; omega) hc2 (by rw [HNl.out]; omega)
        rw [HNl.out] at h
        exact h
      have j0 : (0 : Int) ≤ (r : Int) := by omega
      have j1 : r ≤ k1 := by omega
      have HLs : Hid (gl.take r = lessG gl n st) := by show _ = _; unfold lessG; rw [if_neg (by omega), if_pos (by omega), show n - 2 = r by omega]
      have HTk := Lib.hid ((HP1.out.take r).sl (by rw [List.length_take, hgl]; omega))
      have HTl : Hid ((gl.take r).length = r) := by show _ = _; rw [List.length_take, hgl]; omega
      clear hr
      obtain ⟨er, her⟩ : ∃ er, nl.eraseIdx st = er := ⟨_, rfl⟩
      rw [her] at HD
      have HEr := Lib.hid her
      clear hS hl hgl hsz her h1
      have HZ : Hid (IsSl 2 spC wb ⟨(some ⟨g1, 0, none⟩), k1, (gl.take r)⟩ ∧ (gl.take r).length = r) := ⟨HTk.out, HTl.out⟩
      have HRi : Hid (RowI wb g2 nl k2) := HI2.out
      have HPl : Hid (∀ g off, ((some ⟨g1, 0, none⟩ : Option Addr)) = some ⟨g, off, none⟩ → w.heap.size + 2 ≤ g ∧ g < g2) := by intro g off e; cases e; exact ⟨hg1w, hg12⟩
      have HXW : Hid (Ext V wb) := HXb.out
      go_wp2_with (go_at_call 28; refine HD.out.mono ?_; rintro e wd ⟨rfl, hrd, hbd⟩; have HKd : Hid (Keep (fun k => k < g2) wb wd) := ⟨Below.os hbd, Below.tape hbd, Below.output hbd, Below.size hbd, fun i hi h => Below.block hbd i h⟩; have b2' : wd.heap[w.heap.size + 1]? = some (.cells #[.slice none 0 0, .slice none 0 0] 66 (0, 0)) := HKd.out.heap (HXW.out.block Hb2.out) (show w.heap.size + 1 < g2 by omega); have r0 : wd.cell? ⟨w.heap.size + 1, 0, none⟩ = some (.slice none 0 0) := (cell_at b2' 0).trans rfl; have r1 : wd.cell? ⟨w.heap.size + 1, 1, none⟩ = some (.slice none 0 0) := (cell_at b2' 1).trans rfl; have f0 : wd.frozen? ⟨w.heap.size + 1, 0, none⟩ = false := (by simp [World.frozen?, b2']); have f1 : wd.frozen? ⟨w.heap.size + 1, 1, none⟩ = false := (by simp [World.frozen?, b2']); have HRd := Lib.hid hrd; have H5 := Lib.hid (heap_setCell_same (i := 1) (heap_setCell_same (i := 0) b2' (.slice (some ⟨g1, 0, none⟩) r k1)) (.slice (some ⟨g2, 0, none⟩) (er).length k2)); have HK5 : Hid (Keep (fun k => k ≠ w.heap.size + 1) wd ((wd.setCell ⟨w.heap.size + 1, 0, none⟩ (.slice (some ⟨g1, 0, none⟩) r k1)).setCell ⟨w.heap.size + 1, 1, none⟩ (.slice (some ⟨g2, 0, none⟩) (er).length k2))) := ((Keep.refl _ _).setCell _ _ (fun _ h => h rfl)).setCell _ _ (fun _ h => h rfl); clear hrd hbd b2')
      simp only [bodyPost]
      generalize ((wd.setCell ⟨w.heap.size + 1, 0, none⟩ (.slice (some ⟨g1, 0, none⟩) r k1)).setCell ⟨w.heap.size + 1, 1, none⟩ (.slice (some ⟨g2, 0, none⟩) (er).length k2)) = WF at *
      have k0 : WF.cell? ⟨w.heap.size + 1, 0, none⟩ = some (.slice (some ⟨g1, 0, none⟩) r k1) := (cell_at H5.out 0).trans rfl
      have k1' : WF.cell? ⟨w.heap.size + 1, 1, none⟩ = some (.slice (some ⟨g2, 0, none⟩) (er).length k2) := (cell_at H5.out 1).trans rfl
      have hnl := HNl.out
      refine ⟨trivial, _, ?_, ⟨⟨(some ⟨g1, 0, none⟩), k1, (gl.take r)⟩, ⟨some ⟨g2, 0, none⟩, k2, er⟩⟩, rfl, HLs.out, (by first | exact HEr.out.symm | (have := HEr.out; simpa using this.symm)), ⟨?_, ?_⟩, ⟨fun g off ha _ => ?_, fun g off ha _ => ?_⟩, ?_⟩
      · have q := HZ.out.2; simp [results, Try.f84, go_sem, k0, k1', FV.v]; try (simp at q; omega)
      · refine (HZ.out.1.keep HKd.out (fun g off ha _ => (HPl.out g off ha).2)).keep HK5.out (fun g off ha _ => ?_)
        have := (HPl.out g off ha).1
        show g ≠ w.heap.size + 1
        omega
      · obtain ⟨cur, q1, q2, q3, q4⟩ := HRd.out
        refine IsSl.keep (a := wd) ⟨q3, by have := List.length_eraseIdx_le nl st; rw [HEr.out] at this; dsimp only; omega, .inr ⟨g2, 0, rfl, fun i hi j hj => ?_⟩⟩ HK5.out (fun g off ha _ => ?_)
        · obtain rfl : j = 0 := by omega
          have := (cell_at q1 i).trans (q4 i hi)
          simpa [numI] using this
        · cases ha; show g2 ≠ w.heap.size + 1; omega
      · have := (HPl.out g off ha).1; omega
      · cases ha; omega
      · exact ext_keep (HX.out.trans (ext_keep HXW.out HKd.out (fun i hi => by have := HSz.out; omega))) HK5.out (fun i hi => by omega)
    · have wr3 : IntKind.i64.wrap ((n : Int) - 1) = (m : Int) := by rw [IntWalk.i64_in _ (by omega)]; omega
      have wr4 : IntKind.i64.wrap ((st : Int) + 1) = (m : Int) := by rw [wr2]; omega
      have b1 : ((st : Int) == (m : Int)) = false := by rw [beq_eq_false_iff_ne]; omega
      have j0 : (0 : Int) ≤ (r : Int) := by omega
      have j1 : (r : Int) < (m : Int) := by omega
      have j2 : (0 : Int) ≤ (st : Int) := by omega
      have j3 : (st : Int) < (m : Int) := by omega
      have HSr : Hid (r + 2 = m ∧ st = r + 1) := ⟨by omega, by omega⟩
      have hrl : r < gl.length := by omega
      have hsl : st < gl.length := by omega
      have u1 : wb.cell? ⟨g1, r * 2, none⟩ = some (.int .i64 (gl[r].1 : Int)) := by have := HP1.out.cell r hrl 0 (by omega); simpa [spC] using this
      have u2 : wb.cell? ⟨g1, r * 2 + 1, none⟩ = some (.int .i64 (gl[r].2 : Int)) := by have := HP1.out.cell r hrl 1 (by omega); simpa [spC] using this
      have u3 : wb.cell? ⟨g1, st * 2, none⟩ = some (.int .i64 (gl[st].1 : Int)) := by have := HP1.out.cell st hsl 0 (by omega); simpa [spC] using this
      have u4 : wb.cell? ⟨g1, st * 2 + 1, none⟩ = some (.int .i64 (gl[st].2 : Int)) := by have := HP1.out.cell st hsl 1 (by omega); simpa [spC] using this
      have v1 := HBd.out _ (List.getElem_mem hrl)
      have v2 := HBd.out _ (List.getElem_mem hsl)
      have HLs : Hid (gl.take r ++ [(gl[r].1 + gl[st].1, gl[r].2 + gl[st].2)] = lessG gl n st) := by
        show _ = _
        unfold lessG
        rw [if_neg h0, if_neg (by omega), show st - 1 = r by omega, List.getElem?_eq_getElem hrl, List.getElem?_eq_getElem hsl, List.drop_of_length_le (by omega)]; simp
      generalize gl[r] = x1 at *
      generalize gl[st] = x2 at *
      have HSum : Hid (∀ w1 b, IsSl 2 spC w1 ⟨some ⟨b, 0, none⟩, 2, [x1, x2]⟩ → Calls Try.prog 80 #[.slice (some ⟨b, 0, none⟩) 2 2] w1 fun e w' => e = .returned (.agg #[.int .i64 ((x1.1 + x2.1 : Nat) : Int), .int .i64 ((x1.2 + x2.2 : Nat) : Int)]) ∧ Ext w1 w') := fun w1 b h => by
        have q := sum_any ⟨some ⟨b, 0, none⟩, 2, [x1, x2]⟩ w1 h (by simp) (by intro x hx; simp only [List.mem_cons, List.not_mem_nil, or_false] at hx; rcases hx with rfl | rfl <;> assumption)
        have e : sumTo [x1, x2] [x1, x2].length = (x1.1 + x2.1, x1.2 + x2.2) := by simp [sumTo]
        dsimp only at q
        rw [e] at q
        exact q
      have HRep : Hid (∀ w1 vb, Ext wb w1 → IsSl 2 spC w1 ⟨some ⟨vb, 0, none⟩, 1, [(x1.1 + x2.1, x1.2 + x2.2)]⟩ → Calls Try.prog 94 #[.slice (some ⟨g1, 0, none⟩) m k1, .int .i64 (r : Int), .int .i64 (m : Int), .slice (some ⟨vb, 0, none⟩) 1 1] w1 fun e w' => e = .returned (.slice (some ⟨g1, 0, none⟩) (r + 1) k1) ∧ RowP w' g1 (gl.take r ++ [(x1.1 + x2.1, x1.2 + x2.2)]) k1 ∧ Keep (fun k => k ≠ g1) w1 w') := fun w1 vb hx hv =>
        replaceEnd_any g1 k1 r m vb gl (x1.1 + x2.1, x1.2 + x2.2) w1 (HP1.out.ext hx) HSr.out.1 HGl.out (by omega) hv
      have HCs : Hid (∀ w1, Ext wb w1 → w1.cell? ⟨g1, r * 2, none⟩ = some (.int .i64 (x1.1 : Int)) ∧ w1.cell? ⟨g1, r * 2 + 1, none⟩ = some (.int .i64 (x1.2 : Int)) ∧ w1.cell? ⟨g1, st * 2, none⟩ = some (.int .i64 (x2.1 : Int)) ∧ w1.cell? ⟨g1, st * 2 + 1, none⟩ = some (.int .i64 (x2.2 : Int))) := fun w1 h => ⟨h.cell u1, h.cell u2, h.cell u3, h.cell u4⟩
      clear hr wr2 h1 hrl hsl HCs
      go_wp2_with fail
      go_region_with (first
        | (go_at_call 80; refine (HSum.out (wb.drew.alloc (.cells #[.int .i64 (x1.1 : Int), .int .i64 (x1.2 : Int), .int .i64 (x2.1 : Int), .int .i64 (x2.2 : Int)] 28)) wb.heap.size (two_sl wb.drew 28 x1 x2)).mono ?_; rintro e wc ⟨rfl, hxc⟩; have HXc : Hid (Ext wb wc) := (by show Ext wb wc; exact Ext.trans ((Ext.refl wb).drew.alloc _) hxc))
        | (go_at_call 94; refine (HRep.out (wc.alloc (.cells #[.int .i64 ((x1.1 + x2.1 : Nat) : Int), .int .i64 ((x1.2 + x2.2 : Nat) : Int)] 28)) wc.heap.size (HXc.out.alloc _) (one_sl wc 28 (x1.1 + x2.1, x1.2 + x2.2))).mono ?_; rintro e w3 ⟨rfl, hp3, hk3⟩))
      all_goals
        have hHl := HGl.out
        have hw3 : Keep (fun k => k ≠ g1) wb w3 := (Keep.of_ext (HXc.out.alloc _)).trans hk3
        have HZZ : Hid (IsSl 2 spC w3 ⟨some ⟨g1, 0, none⟩, k1, gl.take r ++ [(x1.1 + x2.1, x1.2 + x2.2)]⟩ ∧ (gl.take r ++ [(x1.1 + x2.1, x1.2 + x2.2)]).length = r + 1) := by
          have e : (gl.take r ++ [(x1.1 + x2.1, x1.2 + x2.2)]).length = r + 1 := by rw [List.length_append, List.length_take, HGl.out]; simp; omega
          exact ⟨hp3.sl (by rw [e]; omega), e⟩
        have HI3 : Hid (RowI w3 g2 nl k2) := by obtain ⟨cur, q1, q2⟩ := HI2.out; exact ⟨cur, hw3.heap q1 (show g2 ≠ g1 by omega), q2⟩
        have HX3 : Hid (Ext V w3) := ext_keep HXb.out hw3 (fun i hi => by have := HSz.out; omega)
        have HD : Hid (Calls Try.prog 28 #[.slice (some ⟨g2, 0, none⟩) n k2, .int .i64 (st : Int), .int .i64 (m : Int)] w3 fun e w' => e = .returned (.slice (some ⟨g2, 0, none⟩) (nl.eraseIdx st).length k2) ∧ RowI w' g2 (nl.eraseIdx st) k2 ∧ Below g2 w3 w') := by
          have h := delete_anyI g2 g2 k2 st nl w3 HI3.out (Nat.le_refl _) (by rw [HNl.out]; omega) hc2 (by rw [HNl.out]; omega)
          rw [HNl.out, show ((st : Int) + 1) = (m : Int) by omega] at h
          exact h
        clear hHl hw3 hk3 hp3
        obtain ⟨er, her⟩ : ∃ er, nl.eraseIdx st = er := ⟨_, rfl⟩
        rw [her] at HD
        have HEr := Lib.hid her
        clear hS hl hgl hsz her u1 u2 u3 u4
        have HZ : Hid (IsSl 2 spC w3 ⟨(some ⟨g1, 0, none⟩), k1, (gl.take r ++ [(x1.1 + x2.1, x1.2 + x2.2)])⟩ ∧ (gl.take r ++ [(x1.1 + x2.1, x1.2 + x2.2)]).length = (r + 1)) := HZZ.out
        have HRi : Hid (RowI w3 g2 nl k2) := HI3.out
        have HPl : Hid (∀ g off, ((some ⟨g1, 0, none⟩) : Option Addr) = some ⟨g, off, none⟩ → w.heap.size + 2 ≤ g ∧ g < g2) := by intro g off e; cases e; exact ⟨hg1w, hg12⟩
        have HXW : Hid (Ext V w3) := HX3.out
        go_wp2_with (go_at_call 28; refine HD.out.mono ?_; rintro e wd ⟨rfl, hrd, hbd⟩; have HKd : Hid (Keep (fun k => k < g2) w3 wd) := ⟨Below.os hbd, Below.tape hbd, Below.output hbd, Below.size hbd, fun i hi h => Below.block hbd i h⟩; have b2' : wd.heap[w.heap.size + 1]? = some (.cells #[.slice none 0 0, .slice none 0 0] 66 (0, 0)) := HKd.out.heap (HXW.out.block Hb2.out) (show w.heap.size + 1 < g2 by omega); have r0 : wd.cell? ⟨w.heap.size + 1, 0, none⟩ = some (.slice none 0 0) := (cell_at b2' 0).trans rfl; have r1 : wd.cell? ⟨w.heap.size + 1, 1, none⟩ = some (.slice none 0 0) := (cell_at b2' 1).trans rfl; have f0 : wd.frozen? ⟨w.heap.size + 1, 0, none⟩ = false := (by simp [World.frozen?, b2']); have f1 : wd.frozen? ⟨w.heap.size + 1, 1, none⟩ = false := (by simp [World.frozen?, b2']); have HRd := Lib.hid hrd; have H5 := Lib.hid (heap_setCell_same (i := 1) (heap_setCell_same (i := 0) b2' (.slice (some ⟨g1, 0, none⟩) (r + 1) k1)) (.slice (some ⟨g2, 0, none⟩) (er).length k2)); have HK5 : Hid (Keep (fun k => k ≠ w.heap.size + 1) wd ((wd.setCell ⟨w.heap.size + 1, 0, none⟩ (.slice (some ⟨g1, 0, none⟩) (r + 1) k1)).setCell ⟨w.heap.size + 1, 1, none⟩ (.slice (some ⟨g2, 0, none⟩) (er).length k2))) := ((Keep.refl _ _).setCell _ _ (fun _ h => h rfl)).setCell _ _ (fun _ h => h rfl); clear hrd hbd b2')
        simp only [bodyPost]
        generalize ((wd.setCell ⟨w.heap.size + 1, 0, none⟩ (.slice (some ⟨g1, 0, none⟩) (r + 1) k1)).setCell ⟨w.heap.size + 1, 1, none⟩ (.slice (some ⟨g2, 0, none⟩) (er).length k2)) = WF at *
        have k0 : WF.cell? ⟨w.heap.size + 1, 0, none⟩ = some (.slice (some ⟨g1, 0, none⟩) (r + 1) k1) := (cell_at H5.out 0).trans rfl
        have k1' : WF.cell? ⟨w.heap.size + 1, 1, none⟩ = some (.slice (some ⟨g2, 0, none⟩) (er).length k2) := (cell_at H5.out 1).trans rfl
        have hnl := HNl.out
        refine ⟨trivial, _, ?_, ⟨⟨(some ⟨g1, 0, none⟩), k1, (gl.take r ++ [(x1.1 + x2.1, x1.2 + x2.2)])⟩, ⟨some ⟨g2, 0, none⟩, k2, er⟩⟩, rfl, HLs.out, (by first | exact HEr.out.symm | (have := HEr.out; simpa using this.symm)), ⟨?_, ?_⟩, ⟨fun g off ha _ => ?_, fun g off ha _ => ?_⟩, ?_⟩
        · have q := HZ.out.2; simp [results, Try.f84, go_sem, k0, k1', FV.v]; try (simp at q; omega)
        · refine (HZ.out.1.keep HKd.out (fun g off ha _ => (HPl.out g off ha).2)).keep HK5.out (fun g off ha _ => ?_)
          have := (HPl.out g off ha).1
          show g ≠ w.heap.size + 1
          omega
        · obtain ⟨cur, q1, q2, q3, q4⟩ := HRd.out
          refine IsSl.keep (a := wd) ⟨q3, by have := List.length_eraseIdx_le nl st; rw [HEr.out] at this; dsimp only; omega, .inr ⟨g2, 0, rfl, fun i hi j hj => ?_⟩⟩ HK5.out (fun g off ha _ => ?_)
          · obtain rfl : j = 0 := by omega
            have := (cell_at q1 i).trans (q4 i hi)
            simpa [numI] using this
          · cases ha; show g2 ≠ w.heap.size + 1; omega
        · have := (HPl.out g off ha).1; omega
        · cases ha; omega
        · exact ext_keep (HX.out.trans (ext_keep HXW.out HKd.out (fun i hi => by have := HSz.out; omega))) HK5.out (fun i hi => by omega)
end Go.Proofs.Ytfognlealnhodaa
