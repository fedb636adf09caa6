/-
  Several texts in one. Enough of package treaty tells whether some line keeps all legs but those that yield, and turns nothing that was there. The treaty, the reading and the legs must lie in memory as told and be valid. Words for TreatyYielded: the legs that yield are told in order, without one of them they are not enough; lists of one's own as rows; readings with lines. Nothing is claimed of the program here.
-/
import Derived.Test.YtdejaliegbmgaaaGreatRw
import Derived.Test.YtdejaliegbmgaaaGreatYb
import Derived.Test.YtdejaliegbmgaaaGreatJe
import Derived.Test.YtdejaliegbmgaaaGreatCa
import Derived.Test.YtdejaliegbmgaaaGreatIc
import Derived.Deep.RegionHeld3
import Derived.Test.YtdejaliegbmgaaaGreatYc
import Derived.Test.YtdejaliegbmgaaaGreatYd
namespace Go.Proofs.YtdejaliegbmgaaaGreat
open Go.RowKit

set_option maxHeartbeats 400000 in
theorem enough1_any (x b : Nat) (s : SL Nat) (w : World) (hs : IsSl 1 num w s) (hc : w.cell? ⟨b, 0, none⟩ = some (.slice s.a s.l.length s.c)) :
    Calls Tryz.prog 88 #[.int .i64 (x : Int), .pointer (some ⟨b, 0, none⟩)] w fun e w' => e = .returned (.bool (!s.l.contains x)) ∧ w = w' := by
  have HC := Lib.hid (contains_any s.a _ s.c s.l x w rfl hs)
  clear hs
  generalize s.l.contains x = r at *
  generalize s.l.length = n at *
  go_enter Tryz.func88, Tryz.ntmps88
  go_wp2_with (go_at_call 74; refine HC.out.mono ?_; rintro e w' ⟨rfl, rfl⟩)
  go_ret
  exact ⟨rfl, rfl⟩

set_option maxHeartbeats 400000 in
theorem canLeadY_any (p b : Nat) (cs : Array Value) (s : SL Nat) (L : Nat → Nat → Nat → Bool) (k f g : Nat) (w : World) (h1 : w.heap[p]? = some (.cells cs 135 (0, 0))) (h6 : cs[1445]? = some (.func (.func 88) #[] #[.pointer (some ⟨b, 0, none⟩)]))
    (h7 : cs[5 + k * 144 + f * 12 + g]? = some (.bool (L k f g))) (hs : IsSl 1 num w s) (hb : w.cell? ⟨b, 0, none⟩ = some (.slice s.a s.l.length s.c)) (hk : k < 10) (hf : f < 12) (hg : g < 12) :
    Calls Tryz.prog 75 #[.pointer (some ⟨p, 0, none⟩), .int .i64 (k : Int), .int .i64 (f : Int), .int .i64 (g : Int)] w fun e w' => e = .returned (.bool (yieldsL s.l L k f g)) ∧ w = w' := by
  have hc := (cell_at h1 1445).trans h6
  have hcell := (cell_at h1 _).trans h7
  have HC := Lib.hid (enough1_any k b s w hs hb)
  clear h1 h6 h7 hs hb
  have i1 : (0 : Int) ≤ k := by omega
  have i2 : (k : Int) < 10 := by omega
  have i3 : (0 : Int) ≤ f := by omega
  have i4 : (f : Int) < 12 := by omega
  have i5 : (0 : Int) ≤ g := by omega
  have i6 : (g : Int) < 12 := by omega
  unfold yieldsL
  generalize L k f g = r at *
  generalize s.l.contains k = q at *
  cases q
  · go_enter Tryz.func75, Tryz.ntmps75
    go_wp2_with (go_at_call 88; refine HC.out.mono ?_; rintro e w' ⟨rfl, rfl⟩)
    go_ret
    exact ⟨rfl, rfl⟩
  · go_enter Tryz.func75, Tryz.ntmps75
    go_wp2_with (go_at_call 88; refine HC.out.mono ?_; rintro e w' ⟨rfl, rfl⟩)
    go_ret
    exact ⟨rfl, rfl⟩

/-- A treaty at work where some legs yield. -/
theorem workY {w : World} {p b : Nat} {t : TV} {cs : Array Value} {s : SL Nat} {L : Nat → Nat → Nat → Bool} (h1 : w.heap[p]? = some (.cells cs 135 (0, 0))) (h0 : cs[0]? = some (.int .i64 (t.P : Int))) (h3 : cs[3]? = some (.slice t.starts.a t.starts.l.length t.starts.c)) (h4 : cs[4]? = some (.slice t.legs.a t.legs.l.length t.legs.c))
    (h6 : cs[1445]? = some (.func (.func 88) #[] #[.pointer (some ⟨b, 0, none⟩)])) (h7 : ∀ k f g, k < 10 → f < 12 → g < 12 → cs[5 + k * 144 + f * 12 + g]? = some (.bool (L k f g))) (hs : IsSl 1 num w s) (hb : w.cell? ⟨b, 0, none⟩ = some (.slice s.a s.l.length s.c)) :
    WorkAt w p t (yieldsL s.l L) :=
  ⟨(cell_at h1 0).trans h0, (cell_at h1 3).trans h3, (cell_at h1 4).trans h4, fun w' hx k f g hk hf hg => canLeadY_any p b cs s L k f g w' (hx.block h1) h6 (h7 k f g hk hf hg) (hs.ext hx) (hx.cell hb) hk hf hg⟩

set_option maxRecDepth 100000 in
set_option maxHeartbeats 1000000 in
theorem Enough_ok (t : TV) (r s : SL Nat) (w : World) (ht : IsT w t) (hk : OkT t) (hr : IsSl 1 num w r) (hR : RdOk t r.l) (hs : IsSl 1 num w s) (hsl : ∀ x ∈ s.l, x < t.legs.l.length) (hinc : s.l.Pairwise (· < ·)) :
    Calls Tryz.prog 31 #[t.v, .slice r.a r.l.length r.c, .slice s.a s.l.length s.c] w fun e w' => e = .returned (.tuple #[.bool (hasB t (yieldsL s.l (leadsOf t r.l))), .int .i64 0]) ∧ Ext w w' := by
  have HT := Lib.hid ht; clear ht
  have HK := Lib.hid hk; clear hk
  have HR := Lib.hid hr; clear hr
  have HRd := Lib.hid hR; clear hR
  have HS := Lib.hid hs; clear hs
  have HSl := Lib.hid hsl; clear hsl
  have HIn := Lib.hid hinc; clear hinc
  have hN10 := HK.out.legs
  have hall : s.l.all (lessB (t.legs.l.length : Int)) = true := by
    rw [List.all_eq_true]; intro x hx; have := HSl.out x hx; simp [lessB]; omega
  have HAll := Lib.hid hall; clear hall
  have hE2 : Ext w ((w.alloc (.cells #[.int .i64 (t.P : Int), .slice t.ways.a t.ways.l.length t.ways.c, .slice t.words.a t.words.l.length t.words.c, .slice t.starts.a t.starts.l.length t.starts.c, .slice t.legs.a t.legs.l.length t.legs.c] 27)).alloc (.cells #[.slice s.a s.l.length s.c] 24)) := ((Ext.refl w).alloc _).alloc _
  have HE2 := Lib.hid hE2; clear hE2
  have hb : TBox ((w.alloc (.cells #[.int .i64 (t.P : Int), .slice t.ways.a t.ways.l.length t.ways.c, .slice t.words.a t.words.l.length t.words.c, .slice t.starts.a t.starts.l.length t.starts.c, .slice t.legs.a t.legs.l.length t.legs.c] 27)).alloc (.cells #[.slice s.a s.l.length s.c] 24)) w.heap.size t := ((Ext.refl _).alloc _).block (World.alloc_heap_new w _)
  have HB := Lib.hid hb; clear hb
  have hbs := World.alloc_heap_new (w.alloc (.cells #[.int .i64 (t.P : Int), .slice t.ways.a t.ways.l.length t.ways.c, .slice t.words.a t.words.l.length t.words.c, .slice t.starts.a t.starts.l.length t.starts.c, .slice t.legs.a t.legs.l.length t.legs.c] 27)) (.cells #[.slice s.a s.l.length s.c] 24)
  rw [World.size_alloc] at hbs
  have HBs := Lib.hid hbs; clear hbs
  go_enter Tryz.func31, Tryz.ntmps31
  go_wp2_with fail
  refine (checkReading_ok t r _ (HT.out.ext HE2.out) HK.out (HR.out.ext HE2.out) HRd.out).mono ?_
  rintro e w1 ⟨rfl, hx1⟩
  have HX1 : Hid (Ext w w1) := HE2.out.trans hx1
  have HB1 : Hid (TBox w1 w.heap.size t) := hx1.block HB.out
  have HBs1 := Lib.hid (hx1.block HBs.out)
  clear hx1 HB HBs HE2
  go_wp2_with fail
  have c4 := (cell_at HB1.out 4).trans (show _ = some (Value.slice t.legs.a t.legs.l.length t.legs.c) from rfl)
  have cs := (cell_at HBs1.out 0).trans (show _ = some (Value.slice s.a s.l.length s.c) from rfl)
  have KS : Hid (∀ V', Ext w1 V' → V'.cell? ⟨w.heap.size + 1, 0, none⟩ = some (.slice s.a s.l.length s.c) ∧ V'.cell? ⟨w.heap.size, 4, none⟩ = some (.slice t.legs.a t.legs.l.length t.legs.c)) := fun V' h => ⟨h.cell cs, h.cell c4⟩
  go_region_held3 (fun V' => V'.cell? ⟨w.heap.size + 1, 0, none⟩ = some (.slice s.a s.l.length s.c) ∧ V'.cell? ⟨w.heap.size, 4, none⟩ = some (.slice t.legs.a t.legs.l.length t.legs.c))
    ((refine KS.out _ ?_; repeat (first | exact Ext.refl _ | exact X3.out | refine Ext.drew ?_ | refine Ext.alloc ?_ _)))
    (first
      | (go_at_call 55; refine (under_any _ _).mono ?_; rintro e w2 ⟨rfl, rfl⟩)
      | (go_at_call 58; refine (isAll_ok (t.legs.l.length : Int) (by omega) w1.heap.size _ (cell_at (World.alloc_heap_new _ _) 0) s.a _ s.c s.l rfl (HS.out.ext (HX1.out.drew.alloc _))).mono ?_; rw [HAll.out]; rintro e w3 ⟨rfl, hx3⟩; have X3 : Hid (Ext w1 w3) := ((Ext.refl w1).drew.alloc _).trans hx3; clear hx3))
  clear c4 cs KS
  have HX3 : Hid (Ext w w3) := HX1.out.trans X3.out
  have HB3 : Hid (TBox w3 w.heap.size t) := X3.out.block HB1.out
  have HBs3 : Hid (w3.heap[w.heap.size + 1]? = some (.cells #[.slice s.a s.l.length s.c] 24)) := X3.out.block HBs1.out
  have cs := (cell_at HBs3.out 0).trans (show _ = some (Value.slice s.a s.l.length s.c) from rfl)
  clear X3 HX1 HB1 HBs1
  go_wp2_with fail
  clear cs
  refine (increasing_ok s.a _ s.c s.l w3 rfl (HS.out.ext HX3.out) HIn.out).mono ?_
  rintro e w4 ⟨rfl, hx4⟩
  have HX4 : Hid (Ext w w4) := HX3.out.trans hx4
  have HB4 : Hid (TBox w4 w.heap.size t) := hx4.block HB3.out
  have HBs4 : Hid (w4.heap[w.heap.size + 1]? = some (.cells #[.slice s.a s.l.length s.c] 24)) := hx4.block HBs3.out
  clear hx4 HX3 HB3 HBs3
  obtain ⟨f0, f1, f2, f3, f4⟩ := HB4.out.five
  go_wp2_with fail
  clear f0 f1 f2 f3 f4
  refine (readN_any t r w4 (HT.out.ext HX4.out) HK.out (HR.out.ext HX4.out) HRd.out).mono ?_
  rintro e w5 ⟨p, rfl, ⟨cs, q1, q2, q3, q4, q5, q6, q7, q8⟩, hx5, hp5⟩
  have hw4 : w.heap.size + 1 < w4.heap.size := (Array.getElem?_eq_some_iff.1 HBs4.out).1
  have cC : w5.cell? ⟨p, 1445, none⟩ = some (.func (.func 108) #[] #[]) := (cell_at q1 1445).trans q7
  have fC : w5.frozen? ⟨p, 1445, none⟩ = false := by simp [World.frozen?, q1]
  have HX6 : Hid (Ext w4 (w5.setCell ⟨p, 1445, none⟩ (.func (.func 88) #[] #[.pointer (some ⟨w.heap.size + 1, 0, none⟩)]))) := hx5.setCell hp5 _
  have HS6 : Hid (Ext w (w5.setCell ⟨p, 1445, none⟩ (.func (.func 88) #[] #[.pointer (some ⟨w.heap.size + 1, 0, none⟩)]))) := HX4.out.trans HX6.out
  have h1445 : 1445 < cs.size := (Array.getElem?_eq_some_iff.1 q7).1
  have HW : Hid (WorkAt (w5.setCell ⟨p, 1445, none⟩ (.func (.func 88) #[] #[.pointer (some ⟨w.heap.size + 1, 0, none⟩)])) p t (yieldsL s.l (leadsOf t r.l))) :=
    workY (heap_setCell_same q1 _) ((Array.getElem?_setIfInBounds_ne (by omega)).trans q2) ((Array.getElem?_setIfInBounds_ne (by omega)).trans q5) ((Array.getElem?_setIfInBounds_ne (by omega)).trans q6)
      (by simp [h1445]) (fun k f g hk hf hg => (Array.getElem?_setIfInBounds_ne (by omega)).trans (q8 k f g hk hf hg)) (HS.out.ext HS6.out) ((cell_at (HX6.out.block HBs4.out) 0).trans rfl)
  have HL := Lib.hid (hasLineW_any p t _ _ HW.out (HT.out.starts.ext HS6.out) HK.out.p2 hN10 (fun x hx => HK.out.start.1 x hx))
  clear q1 q2 q3 q4 q5 q6 q7 q8 hx5 hp5
  go_wp2_with fail
  refine HL.out.mono ?_
  rintro e w7 ⟨rfl, hx7⟩
  go_wp2_with fail
  go_ret2
  exact ⟨rfl, HS6.out.trans hx7⟩
end Go.Proofs.YtdejaliegbmgaaaGreat

namespace Go.Proofs.YtdejaliegbmgaaaGreat
open Go.RowKit

theorem yl_pw (L : Nat → Nat → Nat → Bool) (P : Nat) (st : List Nat) : ∀ k g, (yl L P st k g).Pairwise (· < ·)
  | 0, _ => by simp [yl]
  | k + 1, g => by
    rw [yl_succ, List.pairwise_append]
    refine ⟨yl_pw L P st k _, by split <;> simp, fun x hx y hy => ?_⟩
    have h1 := yl_lt L P st k _ x hx
    split at hy
    · simp at hy
    · simp at hy; omega
theorem yieldL_pw (L : Nat → Nat → Nat → Bool) (P : Nat) (st : List Nat) (N : Nat) : (yieldL L P st N).Pairwise (· < ·) := yl_pw L P st N _
theorem yieldL_lt (L : Nat → Nat → Nat → Bool) (P : Nat) (st : List Nat) (N : Nat) : ∀ x ∈ yieldL L P st N, x < N := yl_lt L P st N _

/-- What a line says of the legs that must yield: the facts that TreatyYielded asks, for one reading. -/
theorem yield_facts (t : TV) (hk : OkT t) (r : List Nat) :
    (yieldL (leadsOf t r) t.P t.starts.l t.legs.l.length).length = fewR t r ∧ hasB t (yieldsL (yieldL (leadsOf t r) t.P t.starts.l t.legs.l.length) (leadsOf t r)) = true ∧
    (∀ i, i < (yieldL (leadsOf t r) t.P t.starts.l t.legs.l.length).length → hasB t (yieldsL ((yieldL (leadsOf t r) t.P t.starts.l t.legs.l.length).eraseIdx i) (leadsOf t r)) = false) ∧
    (∀ ls, hasB t (yieldsL ls (leadsOf t r)) = true → fewR t r ≤ ls.length) ∧
    ∀ l : List Nat, l.length = t.legs.l.length + 1 → (∀ x ∈ l, x < t.P) → (l[0]?).getD 0 ∈ t.starts.l → fewR t r ≤ (brkTo (leadsOf t r) l t.legs.l.length).length := by
  have hs : ∃ s ∈ t.starts.l, s < t.P := ⟨t.starts.l[0]'(by have := hk.starts1; omega), List.getElem_mem _, hk.start.1 _ (List.getElem_mem _)⟩
  have h1 := yieldL_length (leadsOf t r) t.P t.starts.l t.legs.l.length hs hk.legs
  have h2 := fun ls h => enough_le t (leadsOf t r) hk.start.1 ls h
  refine ⟨h1, yield_enough t _ hk.start.1 hk.starts1 hk.legs, fun i hi => ?_, h2, fun l hl hlt h0 => ?_⟩
  · cases hb : hasB t (yieldsL ((yieldL (leadsOf t r) t.P t.starts.l t.legs.l.length).eraseIdx i) (leadsOf t r)) with
    | false => rfl
    | true =>
      have := h2 _ hb
      rw [List.length_eraseIdx, if_pos hi, h1] at this
      rw [h1] at hi
      omega
  · rw [brkTo_eq]
    refine leastF_brk _ _ _ _ _ h0 fun i hi => ?_
    have hil : i < l.length := by omega
    simp only [List.getElem?_eq_getElem hil, Option.getD_some]
    exact hlt _ (List.getElem_mem hil)

/-- Some reading has a line just if no leg must yield in the best one. -/
theorem readings_many (t : TV) (hk : OkT t) : 0 < ((allR (cntR t)).filter (fun r => hasB t (leadsOf t r))).length ↔ (bestR t (allR (cntR t))).2 = 0 := by
  obtain ⟨h1, h2, h3⟩ := best_few t hk
  rw [List.length_pos_iff_exists_mem]
  constructor
  · rintro ⟨r, hr⟩
    rw [List.mem_filter] at hr
    have h4 := h3 r (allR_rd hk hr.1)
    have h5 : fewR t r = 0 := (few_zero t (leadsOf t r) hk.start.1 hk.starts1 hk.legs).2 hr.2
    omega
  · intro h
    refine ⟨(bestR t (allR (cntR t))).1, ?_⟩
    rw [List.mem_filter]
    refine ⟨rd_all hk h1, (few_zero t _ hk.start.1 hk.starts1 hk.legs).1 ?_⟩
    show fewR t _ = 0
    omega

/-- A list of one's own that is not empty is a row. -/
theorem own_is_row {w : World} {base c : Nat} {a : Option Addr} {l : List Nat} (h : w.ownsRow base 3 1 (.slice a l.length c) l.length (nums l)) (hl : 0 < l.length) : ∃ g, a = some ⟨g, 0, none⟩ ∧ Row w g l c ∧ base ≤ g ∧ c ≤ maxLen := by
  have h' := h
  obtain ⟨h1, h2⟩ := h
  rcases h2 with ⟨h2, h3⟩ | ⟨g, cap, cur, h2, hb, hh, hn, hm, hs, ht⟩
  · simp only [Value.slice.injEq] at h2; omega
  · simp only [Value.slice.injEq, true_and] at h2
    obtain ⟨rfl, rfl⟩ := h2
    exact ⟨g, rfl, (Row.of_own h').1, hb, hm⟩
end Go.Proofs.YtdejaliegbmgaaaGreat
