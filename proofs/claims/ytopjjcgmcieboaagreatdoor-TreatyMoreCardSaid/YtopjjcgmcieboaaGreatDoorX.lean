/-
  Several texts in one. meaning of package treaty, for a leg that is told in one language alone, returns the meaning of its word in a reading, and turns nothing that was there. The treaty and the reading must lie in memory as told, and fit each other. meaning of package treaty, for a leg that is told in two languages, returns on what the meanings of its words agree in a reading, and turns nothing that was there. The treaty and the reading must lie in memory as told, and fit each other.
-/
import Derived.Test.YtopjjcgmcieboaaGreatDoorN
import Derived.Test.YtopjjcgmcieboaaGreatDoorU
import Derived.Deep.RegionHeld3
namespace Go.Proofs.YtopjjcgmcieboaaGreatDoor
open Go.RowKit

theorem laid3 (w : World) (A B C : Obj) : (((w.alloc A).alloc B).alloc C).heap[w.heap.size]? = some A ∧ (((w.alloc A).alloc B).alloc C).heap[w.heap.size + 1]? = some B ∧ (((w.alloc A).alloc B).alloc C).heap[w.heap.size + 1 + 1]? = some C ∧
    (((w.alloc A).alloc B).alloc C).heap.size = w.heap.size + 1 + 1 + 1 := by
  refine ⟨(((Ext.refl _).alloc B).alloc C).laid, ?_, ?_, by simp⟩
  · have := (((Ext.refl ((w.alloc A).alloc B)).alloc C)).laid (w := w.alloc A) (o := B)
    rwa [World.size_alloc] at this
  · have := World.alloc_heap_new ((w.alloc A).alloc B) C
    rwa [World.size_alloc, World.size_alloc] at this

/-- The meaning of a word in a reading lies in memory: where to look for it. -/
theorem word_at {w : World} {t : TV} {r : SL Nat} (ht : IsT w t) (hr : IsSl 1 num w r) (hlen : r.l.length = t.words.l.length) (k : Nat) (hk : k < t.words.l.length) (hx : r.l[k]'(by omega) < t.words.l[k].l.length) :
    ∃ B O Rb Ro b o, t.words.a = some ⟨B, O, none⟩ ∧ r.a = some ⟨Rb, Ro, none⟩ ∧ w.cell? ⟨B, O + k, none⟩ = some (.slice (some ⟨b, o, none⟩) t.words.l[k].l.length t.words.l[k].c) ∧ w.cell? ⟨Rb, Ro + k, none⟩ = some (.int .i64 (r.l[k]'(by omega) : Int)) ∧
      w.cell? ⟨b, o + r.l[k]'(by omega) * 2, none⟩ = some (.slice (t.words.l[k].l[r.l[k]'(by omega)]'hx).k.a (t.words.l[k].l[r.l[k]'(by omega)]'hx).k.l.length (t.words.l[k].l[r.l[k]'(by omega)]'hx).k.c) ∧
      w.cell? ⟨b, o + r.l[k]'(by omega) * 2 + 1, none⟩ = some (.slice (t.words.l[k].l[r.l[k]'(by omega)]'hx).e.a (t.words.l[k].l[r.l[k]'(by omega)]'hx).e.l.length (t.words.l[k].l[r.l[k]'(by omega)]'hx).e.c) ∧ t.words.l[k].l.length ≤ 1000000 := by
  obtain ⟨B, O, ha, hc⟩ := ht.words.2.2.resolve_left (by omega)
  obtain ⟨Rb, Ro, hra, hrc⟩ := hr.2.2.resolve_left (by omega)
  have hw := (ht.word _ (List.getElem_mem hk)).1
  obtain ⟨b, o, hwa, hwc⟩ := hw.2.2.resolve_left (by omega)
  refine ⟨B, O, Rb, Ro, b, o, ha, hra, ?_, ?_, ?_, ?_, hw.2.1⟩
  · have := hc k hk 0 (by omega); simpa [slC, SL.v, hwa] using this
  · have := hrc k (by omega) 0 (by omega); simpa [num] using this
  · have := hwc _ hx 0 (by omega); simpa [meanC, SL.v] using this
  · have := hwc _ hx 1 (by omega); simpa [meanC, SL.v] using this

set_option maxRecDepth 100000 in
set_option maxHeartbeats 4000000 in
theorem meaning_one (t : TV) (k : Nat) (r : SL Nat) (w : World) (ht : IsT w t) (hr : IsSl 1 num w r) (hlen : r.l.length = t.words.l.length) (hk : k < t.words.l.length) (hx : r.l[k]'(by omega) < t.words.l[k].l.length) :
    Calls Tryz.prog 76 #[t.v, .agg #[.int .i64 (k : Int), .int .i64 (-1)], .slice r.a r.l.length r.c] w fun e w' => ∃ m' : MV, e = .returned (meanV m') ∧ m' = t.words.l[k].l[r.l[k]'(by omega)]'hx ∧ Ext w w' := by
  obtain ⟨B, O, Rb, Ro, b, o, ha, hra, h1, h2, h3, h4, h5⟩ := word_at ht hr hlen k hk hx
  have hrl := hr.1
  have hlt1 := lt_of_cell h1
  have hlt2 := lt_of_cell h2
  have hlt3 := lt_of_cell h3
  dsimp only at hlt1 hlt2 hlt3
  unfold TV.v
  rw [ha, hra]
  generalize hm : t.words.l[k].l[r.l[k]'(by omega)]'hx = m at *
  clear hm
  generalize r.l[k]'(by omega) = x at *
  have hx' : (x : Int) < (t.words.l[k].l.length : Int) := by omega
  have hx0 : (0 : Int) ≤ x := by omega
  have hk0 : (0 : Int) ≤ k := by omega
  have hk1 : (k : Int) < (t.words.l.length : Int) := by omega
  have hk2 : (k : Int) < (r.l.length : Int) := by omega
  clear hx
  generalize t.words.l[k].l.length = wn at *
  generalize t.words.l[k].c = wc at *
  clear ht hr hlen ha hra
  go_enter Tryz.func76, Tryz.ntmps76
  go_wp2_with fail
  obtain ⟨l1, l2, l3, l4⟩ := laid3 w (.cells #[.int .i64 (t.P : Int), .slice t.ways.a t.ways.l.length t.ways.c, .slice (some ⟨B, O, none⟩) t.words.l.length t.words.c, .slice t.starts.a t.starts.l.length t.starts.c, .slice t.legs.a t.legs.l.length t.legs.c] 28) (.cells #[.int .i64 (k : Int), .int .i64 (-1)] 63) (.cells #[.slice none 0 0, .slice none 0 0] 57)
  have hE : Ext w (((w.alloc (.cells #[.int .i64 (t.P : Int), .slice t.ways.a t.ways.l.length t.ways.c, .slice (some ⟨B, O, none⟩) t.words.l.length t.words.c, .slice t.starts.a t.starts.l.length t.starts.c, .slice t.legs.a t.legs.l.length t.legs.c] 28)).alloc (.cells #[.int .i64 (k : Int), .int .i64 (-1)] 63)).alloc (.cells #[.slice none 0 0, .slice none 0 0] 57)) := (((Ext.refl w).alloc _).alloc _).alloc _
  generalize ((w.alloc (.cells #[.int .i64 (t.P : Int), .slice t.ways.a t.ways.l.length t.ways.c, .slice (some ⟨B, O, none⟩) t.words.l.length t.words.c, .slice t.starts.a t.starts.l.length t.starts.c, .slice t.legs.a t.legs.l.length t.legs.c] 28)).alloc (.cells #[.int .i64 (k : Int), .int .i64 (-1)] 63)).alloc (.cells #[.slice none 0 0, .slice none 0 0] 57) = W at *
  have c1 := hE.cell h1
  have c2 := hE.cell h2
  have c3 := hE.cell h3
  have c4 := hE.cell h4
  have d0 := cell_at l1 2
  have d1 := cell_at l2 0
  have d2 := cell_at l2 1
  have d3 := cell_at l3 0
  have d4 := cell_at l3 1
  simp only [List.getElem?_toArray, List.getElem?_cons_succ, List.getElem?_cons_zero] at d0 d1 d2 d3 d4
  have L3 := Lib.hid l3; clear l1 l2 l3
  have HE := Lib.hid hE; clear hE
  have z1 : B < W.heap.size := by omega
  have z2 : Rb < W.heap.size := by omega
  have z3 : b < W.heap.size := by omega
  have z4 : w.heap.size < W.heap.size := by omega
  have z5 : w.heap.size + 1 < W.heap.size := by omega
  have z6 : w.heap.size + 1 + 1 < W.heap.size := by omega
  clear h1 h2 h3 h4 hlt1 hlt2 hlt3 l4
  go_region
  have hfz3 : ∀ i, W.frozen? ⟨w.heap.size + 1 + 1, i, none⟩ = false := fun i => by simp [World.frozen?, L3.out]
  go_wp2
  refine bodyPost_ret (v := meanV m) (results_cell_row rfl _ _ (w.heap.size + 1 + 1) 57 #[.slice m.k.a m.k.l.length m.k.c, .slice m.e.a m.e.l.length m.e.c] (0, 0) _ rfl ?_ Tryz.underlying57 rfl (by kernel_rfl)) rfl ?_
  · exact ((Ext.refl _).alloc _).block (set2 L3.out)
  · refine ⟨m, rfl, rfl, ?_⟩
    repeat (first | exact HE.out | refine Ext.drew ?_ | refine Ext.alloc ?_ _ | refine Ext.setCell ?_ (by show w.heap.size ≤ w.heap.size + 1 + 1; omega) _)
end Go.Proofs.YtopjjcgmcieboaaGreatDoor

namespace Go.Proofs.YtopjjcgmcieboaaGreatDoor
open Go.RowKit

theorem DExt.setD {D : Nat} {a b : World} (h : DExt D a b) (i : Nat) (v : Value) : DExt D a (b.setCell ⟨D, i, none⟩ v) :=
  h.trans ⟨rfl, rfl, rfl, by simp [World.setCell], fun k _ hne => Below.heap_setCell _ _ _ _ (fun e => hne (by rw [e]))⟩

theorem DExt.drew' {D : Nat} {a b : World} (h : DExt D a b) : DExt D a b.drew := h.trans ⟨rfl, rfl, rfl, Nat.le_refl _, fun _ _ _ => rfl⟩
theorem DExt.alloc' {D : Nat} {a b : World} (h : DExt D a b) (o : Obj) : DExt D a (b.alloc o) := h.ext ((Ext.refl b).alloc o)
theorem isl_new (V : World) (m : MV) (T : TypeId) : IsSl 2 meanC (V.alloc (.cells #[.slice m.k.a m.k.l.length m.k.c, .slice m.e.a m.e.l.length m.e.c] T)) ⟨some ⟨V.heap.size, 0, none⟩, 1, [m]⟩ := by
  refine ⟨by simp, by simp, .inr ⟨_, 0, rfl, fun i hi j hj => ?_⟩⟩
  have h0 : i = 0 := by simp at hi; omega
  subst h0
  rw [cell_at (World.alloc_heap_new V _)]
  match j, hj with
  | 0, _ => rfl
  | 1, _ => rfl

set_option maxRecDepth 100000 in
set_option maxHeartbeats 4000000 in
theorem meaning_two (t : TV) (k j : Nat) (r : SL Nat) (w : World) (ht : IsT w t) (hr : IsSl 1 num w r) (hlen : r.l.length = t.words.l.length) (hk : k < t.words.l.length) (hx : r.l[k]'(by omega) < t.words.l[k].l.length)
    (hj : j < t.words.l.length) (hy : r.l[j]'(by omega) < t.words.l[j].l.length)
    (hs1 : (t.words.l[k].l[r.l[k]'(by omega)]'hx).k.l.Pairwise (· < ·)) (hs2 : (t.words.l[k].l[r.l[k]'(by omega)]'hx).e.l.Pairwise (· < ·)) (hl1 : (t.words.l[k].l[r.l[k]'(by omega)]'hx).k.l.length ≤ 12) (hl2 : (t.words.l[k].l[r.l[k]'(by omega)]'hx).e.l.length ≤ 12) :
    Calls Tryz.prog 76 #[t.v, .agg #[.int .i64 (k : Int), .int .i64 (j : Int)], .slice r.a r.l.length r.c] w fun e w' => ∃ k' e' : SL Nat, e = .returned (.agg #[.slice k'.a k'.l.length k'.c, .slice e'.a e'.l.length e'.c]) ∧
      k'.l = both (t.words.l[k].l[r.l[k]'(by omega)]'hx).k.l (t.words.l[j].l[r.l[j]'(by omega)]'hy).k.l ∧ e'.l = both (t.words.l[k].l[r.l[k]'(by omega)]'hx).e.l (t.words.l[j].l[r.l[j]'(by omega)]'hy).e.l ∧ IsMean w' ⟨k', e'⟩ ∧ Ext w w' := by
  obtain ⟨B, O, Rb, Ro, b, o, ha, hra, h1, h2, h3, h4, h5⟩ := word_at ht hr hlen k hk hx
  obtain ⟨B', O', Rb', Ro', b', o', ha', hra', h1', h2', h3', h4', h5'⟩ := word_at ht hr hlen j hj hy
  rw [ha] at ha'; cases ha'
  rw [hra] at hra'; cases hra'
  have hMk : IsMean w (t.words.l[k].l[r.l[k]'(by omega)]'hx) := (ht.word _ (List.getElem_mem hk)).2 _ (List.getElem_mem hx)
  have hMj : IsMean w (t.words.l[j].l[r.l[j]'(by omega)]'hy) := (ht.word _ (List.getElem_mem hj)).2 _ (List.getElem_mem hy)
  have hrl := hr.1
  have hlt1 := lt_of_cell h1
  have hlt2 := lt_of_cell h2
  have hlt3 := lt_of_cell h3
  have hlt4 := lt_of_cell h3'
  dsimp only at hlt1 hlt2 hlt3 hlt4
  unfold TV.v
  rw [ha, hra]
  generalize hm : t.words.l[k].l[r.l[k]'(by omega)]'hx = m at *
  generalize hm' : t.words.l[j].l[r.l[j]'(by omega)]'hy = m' at *
  clear hm hm'
  generalize r.l[k]'(by omega) = x at *
  generalize r.l[j]'(by omega) = y at *
  have hx' : (x : Int) < (t.words.l[k].l.length : Int) := by omega
  have hy' : (y : Int) < (t.words.l[j].l.length : Int) := by omega
  have hx0 : (0 : Int) ≤ x := by omega
  have hy0 : (0 : Int) ≤ y := by omega
  have hk0 : (0 : Int) ≤ k := by omega
  have hk1 : (k : Int) < (t.words.l.length : Int) := by omega
  have hk2 : (k : Int) < (r.l.length : Int) := by omega
  have hj0 : (0 : Int) ≤ j := by omega
  have hj1 : (j : Int) < (t.words.l.length : Int) := by omega
  have hj2 : (j : Int) < (r.l.length : Int) := by omega
  have hjn : ((j : Int) == -1) = false := by rw [beq_eq_false_iff_ne]; omega
  clear hx hy
  generalize t.words.l[k].l.length = wn at *
  generalize t.words.l[k].c = wc at *
  generalize t.words.l[j].l.length = wn' at *
  generalize t.words.l[j].c = wc' at *
  clear ht hr hlen ha hra
  have HMk := Lib.hid hMk; clear hMk
  have HMj := Lib.hid hMj; clear hMj
  have HS1 := Lib.hid hs1; clear hs1
  have HS2 := Lib.hid hs2; clear hs2
  go_enter Tryz.func76, Tryz.ntmps76
  go_wp2_with fail
  obtain ⟨l1, l2, l3, l4⟩ := laid3 w (.cells #[.int .i64 (t.P : Int), .slice t.ways.a t.ways.l.length t.ways.c, .slice (some ⟨B, O, none⟩) t.words.l.length t.words.c, .slice t.starts.a t.starts.l.length t.starts.c, .slice t.legs.a t.legs.l.length t.legs.c] 28) (.cells #[.int .i64 (k : Int), .int .i64 (j : Int)] 63) (.cells #[.slice none 0 0, .slice none 0 0] 57)
  have hE : Ext w (((w.alloc (.cells #[.int .i64 (t.P : Int), .slice t.ways.a t.ways.l.length t.ways.c, .slice (some ⟨B, O, none⟩) t.words.l.length t.words.c, .slice t.starts.a t.starts.l.length t.starts.c, .slice t.legs.a t.legs.l.length t.legs.c] 28)).alloc (.cells #[.int .i64 (k : Int), .int .i64 (j : Int)] 63)).alloc (.cells #[.slice none 0 0, .slice none 0 0] 57)) := (((Ext.refl w).alloc _).alloc _).alloc _
  generalize ((w.alloc (.cells #[.int .i64 (t.P : Int), .slice t.ways.a t.ways.l.length t.ways.c, .slice (some ⟨B, O, none⟩) t.words.l.length t.words.c, .slice t.starts.a t.starts.l.length t.starts.c, .slice t.legs.a t.legs.l.length t.legs.c] 28)).alloc (.cells #[.int .i64 (k : Int), .int .i64 (j : Int)] 63)).alloc (.cells #[.slice none 0 0, .slice none 0 0] 57) = W at *
  have c1 := hE.cell h1
  have c2 := hE.cell h2
  have c3 := hE.cell h3
  have c4 := hE.cell h4
  have d0 := cell_at l1 2
  have d1 := cell_at l2 0
  have d2 := cell_at l2 1
  have d3 := cell_at l3 0
  have d4 := cell_at l3 1
  simp only [List.getElem?_toArray, List.getElem?_cons_succ, List.getElem?_cons_zero] at d0 d1 d2 d3 d4
  have L3 := Lib.hid l3; clear l1 l2 l3
  have HE := Lib.hid hE
  have z1 : B < W.heap.size := by omega
  have z2 : Rb < W.heap.size := by omega
  have z3 : b < W.heap.size := by omega
  have z4 : w.heap.size < W.heap.size := by omega
  have z5 : w.heap.size + 1 < W.heap.size := by omega
  have z6 : w.heap.size + 1 + 1 < W.heap.size := by omega
  have hV : W.heap.size = w.heap.size + 1 + 1 + 1 := l4
  have HV := Lib.hid hV; clear hV l4
  have H1 := Lib.hid h1'; have H2 := Lib.hid h2'; have H3 := Lib.hid h3'; have H4 := Lib.hid h4'
  clear h1 h2 h3 h4 h1' h2' h3' h4' hE
  go_region
  go_wp2_with fail
  have EW : Ext W (W.alloc (.cells #[.slice m.k.a m.k.l.length m.k.c, .slice m.e.a m.e.l.length m.e.c] 57)).drew := ((Ext.refl W).alloc _).drew
  have n1 : (W.alloc (.cells #[.slice m.k.a m.k.l.length m.k.c, .slice m.e.a m.e.l.length m.e.c] 57)).drew.heap[W.heap.size]? = some (.cells #[.slice m.k.a m.k.l.length m.k.c, .slice m.e.a m.e.l.length m.e.c] 57) := World.alloc_heap_new W _
  have p0 := cell_at n1 0
  have p1 := cell_at n1 1
  simp only [List.getElem?_toArray, List.getElem?_cons_succ, List.getElem?_cons_zero] at p0 p1
  have e0 := EW.cell d0
  have e1 := EW.cell d2
  have e2 := (HE.out.trans EW).cell H1.out
  have e3 := (HE.out.trans EW).cell H2.out
  have e4 := (HE.out.trans EW).cell H3.out
  have e5 := (HE.out.trans EW).cell H4.out
  have LV := Lib.hid (EW.block L3.out)
  have EV := Lib.hid (HE.out.trans EW)
  clear c1 c2 c3 c4 d0 d1 d2 d3 d4 n1 EW z1 z2 z3 z4 z5 z6
  generalize (W.alloc (.cells #[.slice m.k.a m.k.l.length m.k.c, .slice m.e.a m.e.l.length m.e.c] 57)).drew = V at *
  have KS : Hid (∀ V', DExt (w.heap.size + 1 + 1) V V' → V'.cell? ⟨W.heap.size, 0, none⟩ = some (.slice m.k.a m.k.l.length m.k.c) ∧ V'.cell? ⟨W.heap.size, 1, none⟩ = some (.slice m.e.a m.e.l.length m.e.c) ∧ V'.cell? ⟨w.heap.size, 2, none⟩ = some (.slice (some ⟨B, O, none⟩) t.words.l.length t.words.c) ∧ V'.cell? ⟨w.heap.size + 1, 1, none⟩ = some (.int .i64 (j : Int)) ∧
      V'.cell? ⟨B, O + j, none⟩ = some (.slice (some ⟨b', o', none⟩) wn' wc') ∧ V'.cell? ⟨Rb, Ro + j, none⟩ = some (.int .i64 (y : Int)) ∧ V'.cell? ⟨b', o' + y * 2, none⟩ = some (.slice m'.k.a m'.k.l.length m'.k.c) ∧ V'.cell? ⟨b', o' + y * 2 + 1, none⟩ = some (.slice m'.e.a m'.e.l.length m'.e.c)) := by
    intro V' h'
    have hWs := HV.out
    exact ⟨h'.cell p0 (by show W.heap.size ≠ _; omega), h'.cell p1 (by show W.heap.size ≠ _; omega), h'.cell e0 (by show w.heap.size ≠ _; omega), h'.cell e1 (by show w.heap.size + 1 ≠ _; omega), h'.cell e2 (by show B ≠ _; omega), h'.cell e3 (by show Rb ≠ _; omega), h'.cell e4 (by show b' ≠ _; omega), h'.cell e5 (by show b' ≠ _; omega)⟩
  go_region_held3 (fun V' => V'.cell? ⟨W.heap.size, 0, none⟩ = some (.slice m.k.a m.k.l.length m.k.c) ∧ V'.cell? ⟨W.heap.size, 1, none⟩ = some (.slice m.e.a m.e.l.length m.e.c) ∧ V'.cell? ⟨w.heap.size, 2, none⟩ = some (.slice (some ⟨B, O, none⟩) t.words.l.length t.words.c) ∧ V'.cell? ⟨w.heap.size + 1, 1, none⟩ = some (.int .i64 (j : Int)) ∧
      V'.cell? ⟨B, O + j, none⟩ = some (.slice (some ⟨b', o', none⟩) wn' wc') ∧ V'.cell? ⟨Rb, Ro + j, none⟩ = some (.int .i64 (y : Int)) ∧ V'.cell? ⟨b', o' + y * 2, none⟩ = some (.slice m'.k.a m'.k.l.length m'.k.c) ∧ V'.cell? ⟨b', o' + y * 2 + 1, none⟩ = some (.slice m'.e.a m'.e.l.length m'.e.c))
    ((refine KS.out _ ?_; repeat (first | exact DExt.refl _ _ | exact X1.out | refine DExt.setD ?_ _ _ | refine DExt.drew' ?_ | refine DExt.alloc' ?_ _)))
    (first
      | (go_at_call 106; refine (common_any m m' _ 1 _ ?_ ?_ ?_ HS1.out HS2.out hl1 hl2).mono ?_; (exact HMk.out.ext (EV.out.alloc _).drew); (exact HMj.out.ext (EV.out.alloc _).drew); (exact isl_new V m' 57); rintro e w1 ⟨k', e', rfl, hk', he', hmm, hx1⟩; have X0 : Hid (Ext V w1) := ((Ext.refl V).alloc _).drew.trans hx1; have X1 : Hid (DExt (w.heap.size + 1 + 1) V w1) := (DExt.refl _ _).ext X0.out; have HK := Lib.hid hk'; have HEE := Lib.hid he'; have HMM := Lib.hid hmm; clear hk' he' hmm hx1; have t0 := cell_at (X0.out.block LV.out) 0; have t1 := cell_at (X0.out.block LV.out) 1; simp only [List.getElem?_toArray, List.getElem?_cons_succ, List.getElem?_cons_zero] at t0 t1; have tf : ∀ i, w1.frozen? ⟨w.heap.size + 1 + 1, i, none⟩ = false := fun i => by simp [World.frozen?, X0.out.block LV.out]))
  go_wp2_with fail
  refine bodyPost_ret (v := .agg #[.slice k'.a k'.l.length k'.c, .slice e'.a e'.l.length e'.c]) (results_cell_row rfl _ _ (w.heap.size + 1 + 1) 57 #[.slice k'.a k'.l.length k'.c, .slice e'.a e'.l.length e'.c] (0, 0) _ rfl (set2 (X0.out.block LV.out)) Tryz.underlying57 rfl (by kernel_rfl)) rfl ?_
  refine ⟨k', e', rfl, HK.out, HEE.out, ⟨HMM.out.1.set2 (X0.out.block LV.out) _ _, HMM.out.2.set2 (X0.out.block LV.out) _ _⟩, ?_⟩
  exact ((EV.out.trans X0.out).setCell (by show w.heap.size ≤ w.heap.size + 1 + 1; omega) _).setCell (by show w.heap.size ≤ w.heap.size + 1 + 1; omega) _
end Go.Proofs.YtopjjcgmcieboaaGreatDoor
