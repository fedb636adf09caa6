/-
  Fewest of package treaty returns the first reading in which fewest legs must yield, and how many, in new memory, and turns nothing that was there. The treaty must lie in memory as told and be valid.
-/
import Derived.Test.YtopjjcgmcieboaaGreatDoorId
import Derived.Test.YtopjjcgmcieboaaGreatDoorVb
import Derived.Shelf.RegionOpen
namespace Go.Proofs.YtopjjcgmcieboaaGreatDoor
open Go.RowKit
attribute [local go_sem] Oper.semAt_some

/-- How many legs must yield in a reading. -/
def fewR (t : TV) (r : List Nat) : Nat := leastF (leadsOf t r) t.P t.starts.l t.legs.l.length
/-- The best reading so far, and how many legs must yield in it. -/
def bestS (t : TV) (x : List Nat × Nat) (r : List Nat) : List Nat × Nat := if fewR t r < x.2 then (r, fewR t r) else x
def bestR (t : TV) (l : List (List Nat)) : List Nat × Nat := l.foldl (bestS t) ([], t.legs.l.length + 1)
theorem bestR_snoc (t : TV) (l : List (List Nat)) (r : List Nat) : bestR t (l ++ [r]) = bestS t (bestR t l) r := by simp [bestR]
theorem bestR_le (t : TV) (l : List (List Nat)) : (bestR t l).2 ≤ t.legs.l.length + 1 := by
  have : ∀ (l : List (List Nat)) (x : List Nat × Nat), x.2 ≤ t.legs.l.length + 1 → (l.foldl (bestS t) x).2 ≤ t.legs.l.length + 1 := by
    intro l
    induction l with
    | nil => intro x h; exact h
    | cons r l ih =>
      intro x h
      refine ih _ ?_
      unfold bestS; split
      · simp only; omega
      · exact h
  exact this l _ (Nat.le_refl _)

theorem own_set {w : World} {hi b : Nat} {s : SL Nat} (h : Own1 w hi s) (hb : b < hi) (x : Value) : Own1 (w.setCell ⟨b, 0, none⟩ x) hi s :=
  own_keep (D := fun k => hi ≤ k) h ((Keep.refl _ w).setCell _ _ (fun _ h => by simp only at h; omega)) (fun _ h => h)

/-- The last row of the floors. -/
theorem last_row {t : TV} {L : Nat → Nat → Nat → Bool} {w : World} {base B : Nat} {rows : List RW} (h : Tbl w base B (t.legs.l.length + 1) rows) (hr : rows.map (fun r => r.l) = flrT L t.P t.starts.l t.legs.l.length) (hP : t.P ≤ 1000000) :
    ∃ b c, w.cell? ⟨B, t.legs.l.length, none⟩ = some (.slice (some ⟨b, 0, none⟩) t.P c) ∧ IsSl 1 num w ⟨some ⟨b, 0, none⟩, c, (List.range t.P).map (flr L t.P t.starts.l t.legs.l.length)⟩ := by
  have hn := rows_len hr
  have hk := rows_get hr t.legs.l.length (by omega)
  refine ⟨(rows[t.legs.l.length]'(by omega)).b, (rows[t.legs.l.length]'(by omega)).c, ?_, ?_⟩
  · have := h.hd.cell t.legs.l.length (by omega); rw [this]; simp [RW.v, hk]
  · have hrow := (h.row rows[t.legs.l.length] (List.getElem_mem _)).1
    rw [hk] at hrow
    exact hrow.sl (by simp; exact hP)

/-- The caller's two boxes. -/
abbrev But2 (n b c : Nat) (k : Nat) : Prop := k < n ∧ k ≠ b ∧ k ≠ c

/-- The boxes of the best reading and of the fewest legs. -/
def Best (W : World) (b hi : Nat) (x : List Nat × Nat) : Prop :=
  ∃ bs : SL Nat, W.heap[b]? = some (.cells #[bs.v] 25 (0, 0)) ∧ W.heap[b + 1]? = some (.cells #[.int .i64 (x.2 : Int)] 3 (0, 0)) ∧ bs.l = x.1 ∧ bs.l.length ≤ 1000000 ∧ Own1 W hi bs
theorem Best.keep {D : Nat → Prop} {A B : World} {b hi : Nat} {x : List Nat × Nat} (h : Best A b hi x) (k : Keep D A B) (h0 : D b) (h1 : D (b + 1)) (hd : ∀ i, hi ≤ i → D i) : Best B b hi x := by
  obtain ⟨bs, q1, q2, q3, q4, q5⟩ := h
  exact ⟨bs, k.heap q1 h0, k.heap q2 h1, q3, q4, own_keep q5 k hd⟩

/-- What the first region of a round leaves. -/
def FewOut (t : TV) (w w1 : World) (s : SL Nat) (W : World) (a' : Act) (W' : World) : Prop :=
  ∃ u10 u11 u12 u13 u14 u15 u16 u17 u18 u19 u20 u21 u22 u23 u24 u25 u26 u27 u28 u29 u30 u31 : Value, a' = { tmps := #[t.v, .pointer (some ⟨w.heap.size, 0, none⟩), .slice none 0 0, .int .i64 0, .int .i64 0, .int .i64 0, .pointer (some ⟨w1.heap.size, 0, none⟩), .pointer (some ⟨w1.heap.size + 1, 0, none⟩), s.v, .int .i64 (fewR t s.l : Int), u10, u11, u12, u13, u14, u15, u16, u17, u18, u19, u20, u21, u22, u23, u24, u25, u26, u27, u28, u29, u30, u31, undef, undef, undef, undef, undef, undef, undef], defers := [] } ∧ Ext W W'

set_option maxRecDepth 100000 in
set_option maxHeartbeats 4000000 in
theorem Fewest_ok (t : TV) (w : World) (ht : IsT w t) (hk : OkT t) :
    Calls Tryz.prog 24 #[t.v] w fun e w' => ∃ (a : Option Addr) (c : Nat), e = .returned (.tuple #[.slice a (bestR t (allR (cntR t))).1.length c, .int .i64 ((bestR t (allR (cntR t))).2 : Int), .int .i64 0]) ∧ IsSl 1 num w' ⟨a, c, (bestR t (allR (cntR t))).1⟩ ∧ Ext w w' := by
  have HT := Lib.hid ht; clear ht
  have HK := Lib.hid hk; clear hk
  refine callsIn_wide.1 (callsIn_of_wp_marks (n := 3) Tryz.func24 rfl trivial ?_ rfl)
  simp only [Tryz.ntmps24, List.size_toArray, List.length_cons, List.length_nil, Nat.reduceAdd, Nat.reduceSub, Array.replicate_succ, Array.replicate_zero, List.push_toArray, List.append_toArray, List.nil_append, List.cons_append]
  refine wpIn_wide.2 ?_
  go_wp2_with fail
  refine (check_ok t _ (HT.out.ext ((Ext.refl w).alloc _)) HK.out).mono ?_
  rintro e w1 ⟨rfl, hx1⟩
  have hb1 := hx1.block (World.alloc_heap_new w _)
  have HX1 : Hid (Ext w w1) := ((Ext.refl w).alloc _).trans hx1
  have HTB1 : Hid (TBox w1 w.heap.size t) := hb1
  have hlt1 : w.heap.size < w1.heap.size := by have := hx1.size; rw [World.size_alloc] at this; omega
  have HLt := Lib.hid hlt1
  clear hx1
  have c0 := cell_at hb1 0
  have c1 := cell_at hb1 1
  have c2 := cell_at hb1 2
  have c3 := cell_at hb1 3
  have c4 := cell_at hb1 4
  simp only [List.getElem?_toArray, List.getElem?_cons_succ, List.getElem?_cons_zero] at c0 c1 c2 c3 c4
  clear hb1
  have n0 : (0 : Int) ≤ (t.legs.l.length : Int) := by omega
  have n10 : (t.legs.l.length : Int) ≤ 10 := by have := HK.out.legs; omega
  go_wp2_with fail
  clear c0 c1 c2 c3 c4
  have hbB := ((Ext.refl (w1.alloc (.cells #[.slice none 0 0] 25))).alloc (.cells #[.int .i64 ((t.legs.l.length : Int) + 1)] 3)).block (World.alloc_heap_new w1 (.cells #[.slice none 0 0] 25))
  have hbF := World.alloc_heap_new (w1.alloc (.cells #[.slice none 0 0] 25)) (.cells #[.int .i64 ((t.legs.l.length : Int) + 1)] 3)
  rw [World.size_alloc] at hbF
  have HX2 : Hid (Ext w1 ((w1.alloc (.cells #[.slice none 0 0] 25)).alloc (.cells #[.int .i64 ((t.legs.l.length : Int) + 1)] 3))) := ((Ext.refl w1).alloc _).alloc _
  have hs2 : ((w1.alloc (.cells #[.slice none 0 0] 25)).alloc (.cells #[.int .i64 ((t.legs.l.length : Int) + 1)] 3)).heap.size = w1.heap.size + 2 := by simp
  generalize (w1.alloc (.cells #[.slice none 0 0] 25)).alloc (.cells #[.int .i64 ((t.legs.l.length : Int) + 1)] 3) = w2 at *
  refine (readings_any t w2).mono ?_
  rintro e w3 ⟨rfl, hx3, hB3, hs3⟩
  have HX3 : Hid (Ext w2 w3) := hx3
  have HL3 : Hid (∀ hi, Best w3 w1.heap.size hi ([], t.legs.l.length + 1)) := fun hi => ⟨⟨none, 0, []⟩, hx3.block hbB, hx3.block hbF, rfl, by simp, World.ownsRow_nil _ _ _ _⟩
  have HB3 := Lib.hid hB3
  have HS : Hid (w2.heap.size = w1.heap.size + 2 ∧ w3.heap.size = w1.heap.size + 3) := ⟨hs2, by omega⟩
  clear hx3 hbB hbF hB3 hs2 hs3
  go_wp2_with fail
  refine (wpIn_wide (n := 3)).1 ?_
  refine wp_rangeFuncT (a₁ := ?a1) rfl enters_71 (readings1_gives t w2.heap.size w w3 (fun k => k ≠ w1.heap.size ∧ k ≠ w1.heap.size + 1) HT.out HK.out (HX1.out.trans (HX2.out.trans HX3.out)) HB3.out (fun k h => by have := HLt.out; omega) (by have := HS.out; omega)) rfl
    (fun hi pre W => Best W w1.heap.size hi (bestR t pre) ∧ Keep (But2 w3.heap.size w1.heap.size (w1.heap.size + 1)) w3 W) (fun _ _ _ _ => False)
    ?_ (fun _ _ _ _ _ _ h _ => h) ?_ ?assign ?body ?done ?stop
  case assign =>
    intro l s W K hK
    gi_wp2
    exact hK
  · intro hi s A B hh h hk
    have := HS.out
    exact ⟨h.1.keep hk (.inl (by omega)) (.inl (by omega)) (fun i hi => .inr hi), h.2.trans (hk.mono (fun k _ h => .inl h.1))⟩
  · intro hi hh
    exact ⟨HL3.out hi, Keep.refl _ _⟩
  case body =>
    rintro l hi pre s W hh hhW ⟨hC, hKp⟩ hpre hsl hown
    have hS := HS.out
    have hLt := HLt.out
    have hXw : Ext w w3 := HX1.out.trans (HX2.out.trans HX3.out)
    have HXW : Hid (Ext w W) := ext_keep hXw hKp (fun i hi => ⟨by omega, by omega⟩)
    have HTW : Hid (TBox W w.heap.size t) := hKp.heap ((HX2.out.trans HX3.out).block HTB1.out) ⟨by omega, by omega⟩
    have hmem := mem_of_prefix hpre
    have HRd := Lib.hid (allR_rd HK.out hmem)
    have HIs := Lib.hid (own_sl hown hsl)
    have HOs := Lib.hid hown
    have HSl := Lib.hid hsl
    clear hpre hown hmem hXw
    have c0 := cell_at HTW.out 0
    have c1 := cell_at HTW.out 1
    have c2 := cell_at HTW.out 2
    have c3 := cell_at HTW.out 3
    have c4 := cell_at HTW.out 4
    simp only [List.getElem?_toArray, List.getElem?_cons_succ, List.getElem?_cons_zero] at c0 c1 c2 c3 c4
    obtain ⟨bs, q1, q2, q3, q4, q5⟩ := hC
    have Q1 := Lib.hid q1; clear q1
    have Q2 := Lib.hid q2; clear q2
    have Q3 := Lib.hid q3; clear q3
    have Q5 := Lib.hid q5; clear q5
    have HKp := Lib.hid hKp; clear hKp
    have hmx : Tryz.prog.follows .mixedOrders = true := by kernel_rfl
    gi_wp2_with fail
    refine wpIn_mono (Q := fun e a' W' => match e with | .normal => FewOut t w w1 s W a' W' | _ => False) ?_ ?_
    · gi_region_with_o (first
        | (refine ⟨trivial, ?_⟩; gi_at_call 33; refine (CallsIn.inRound l (callsIn_wide.2 (read_any t s _ (HT.out.ext (HXW.out.drew)) HK.out (HIs.out.ext (Ext.refl W).drew) HRd.out))).mono ?_; rintro e v1 ⟨p, rfl, hw1, hx1⟩; have HW1 := Lib.hid hw1; have HY1 : Hid (Ext W v1) := (Ext.refl W).drew.trans hx1; have d4 := HY1.out.cell c4; clear hw1 hx1)
        | (refine ⟨trivial, ?_⟩; gi_at_call 51; refine (CallsIn.inRound l (callsIn_wide.2 (floors_any p t (leadsOf t s.l) v1 HW1.out (HT.out.ext (HXW.out.trans HY1.out)).starts HK.out))).mono ?_; rintro e v2 ⟨Bt, trows, rfl, hT2, hrl2, hx2⟩; have HY2 : Hid (Ext W v2) := HY1.out.trans hx2; have d4 := HY2.out.cell c4; obtain ⟨rb, rc, hrow1, hrow2⟩ := last_row hT2 hrl2 (by have := HK.out.p2; omega); have HRow := Lib.hid hrow2; clear hrow2 hT2 hrl2 hx2)
        | (refine ⟨trivial, ?_⟩; gi_at_call 50; refine (CallsIn.inRound l (callsIn_wide.2 (min_any _ t.P _ ((List.range t.P).map (flr (leadsOf t s.l) t.P t.starts.l t.legs.l.length)) v2 (by simp) (by simp; have := HK.out.p1; omega) HRow.out))).mono ?_; rintro e v3 ⟨⟨m, rfl, hm⟩, rfl⟩))
      all_goals
        have hmf : m = fewR t s.l := leastF_of _ _ _ _ _ (by have := HK.out.p1; omega) hm
        rw [hmf]
        exact ⟨_, _, _, _, _, _, _, _, _, _, _, _, _, _, _, _, _, _, _, _, _, _, rfl, HY2.out⟩
    · intro e a' W' h
      cases e with
      | normal =>
        obtain ⟨u10, u11, u12, u13, u14, u15, u16, u17, u18, u19, u20, u21, u22, u23, u24, u25, u26, u27, u28, u29, u30, u31, rfl, hxW⟩ := h
        have HXx := Lib.hid hxW
        have hbB := hxW.block Q1.out
        have hbF := hxW.block Q2.out
        have cB : W'.cell? ⟨w1.heap.size, 0, none⟩ = some bs.v := (cell_at hbB 0).trans rfl
        have cF : W'.cell? ⟨w1.heap.size + 1, 0, none⟩ = some (.int .i64 ((bestR t pre).2 : Int)) := (cell_at hbF 0).trans rfl
        have fB : W'.frozen? ⟨w1.heap.size, 0, none⟩ = false := by simp [World.frozen?, hbB]
        have fF : W'.frozen? ⟨w1.heap.size + 1, 0, none⟩ = false := by simp [World.frozen?, hbF]
        have HBB := Lib.hid hbB; clear hbB
        have HBF := Lib.hid hbF; clear hbF
        have ne1 : ¬ w1.heap.size = w1.heap.size + 1 := by omega
        have ne2 : ¬ w1.heap.size + 1 = w1.heap.size := by omega
        have hsn := bestR_snoc t pre s.l
        have HSn := Lib.hid hsn; clear hsn
        generalize hfr : fewR t s.l = fr at *
        have HFr := Lib.hid hfr; clear hfr
        generalize hbx : bestR t pre = bx at *
        have HBx := Lib.hid hbx; clear hbx
        clear hxW c0 c1 c2 c3 c4
        by_cases hlt : fr < bx.2
        · have dl : decide ((fr : Int) < (bx.2 : Int)) = true := decide_eq_true (by omega)
          gi_wp2
          have K1 : Keep (Inn w3.heap.size (fun k => k ≠ w1.heap.size ∧ k ≠ w1.heap.size + 1) w3.heap.size hi) W ((W'.setCell ⟨w1.heap.size, 0, none⟩ s.v).setCell ⟨w1.heap.size + 1, 0, none⟩ (.int .i64 (fr : Int))) :=
            ((Keep.of_ext HXx.out).setCell _ _ (fun _ h => by rcases h with h | h; exact h.2.1 rfl; have := h.1; simp only at this; omega)).setCell _ _ (fun _ h => by rcases h with h | h; exact h.2.2 rfl; have := h.1; simp only at this; omega)
          refine ⟨K1, ?_, HKp.out.trans (K1.mono (fun k _ h => .inl ⟨h.1, h.2⟩))⟩
          rw [HSn.out]
          unfold bestS
          rw [if_pos (by rw [HFr.out]; exact hlt)]
          refine ⟨s, ?_, ?_, rfl, HSl.out, own_set (own_set (own_ext HOs.out HXx.out) (by omega) _) (by omega) _⟩
          · have h1 : (W'.setCell ⟨w1.heap.size, 0, none⟩ s.v).heap[w1.heap.size]? = some (.cells #[s.v] 25 (0, 0)) := heap_setCell_same HBB.out s.v
            exact (Below.heap_setCell _ _ _ _ (by show w1.heap.size ≠ _; omega)).trans h1
          · have h1 : (W'.setCell ⟨w1.heap.size, 0, none⟩ s.v).heap[w1.heap.size + 1]? = some (.cells #[.int .i64 (bx.2 : Int)] 3 (0, 0)) := (Below.heap_setCell _ _ _ _ (by show w1.heap.size + 1 ≠ _; omega)).trans HBF.out
            rw [HFr.out]
            exact heap_setCell_same h1 _
        · have dl : decide ((fr : Int) < (bx.2 : Int)) = false := decide_eq_false (by omega)
          gi_wp2
          refine ⟨Keep.of_ext HXx.out, ?_, HKp.out.ext HXx.out⟩
          rw [HSn.out]
          unfold bestS
          rw [if_neg (by rw [HFr.out]; exact hlt)]
          exact ⟨bs, HBB.out, HBF.out, Q3.out, q4, own_ext Q5.out HXx.out⟩
      | _ => exact h.elim
  case stop =>
    rintro hi c pre W hh hp h
    exact h.elim
  case done =>
    rintro hi W hh ⟨hC, hKp⟩ hD
    have hS := HS.out
    have hLt := HLt.out
    obtain ⟨bs, q1, q2, q3, q4, q5⟩ := hC.keep (D := fun k => k ≠ w3.heap.size) ((Keep.refl _ W).putObj w3.heap.size (.deferred none) (fun h => h rfl)) (by omega) (by omega) (fun i hi => by omega)
    have hb : W.heap[w1.heap.size]? = some (.cells #[bs.v] 25 (0, 0)) := (World.putObj_heap_other (by omega)).symm.trans q1
    have hbf : W.heap[w1.heap.size + 1]? = some (.cells #[.int .i64 ((bestR t (allR (cntR t))).2 : Int)] 3 (0, 0)) := (World.putObj_heap_other (by omega)).symm.trans q2
    have hcb : W.cell? ⟨w1.heap.size, 0, none⟩ = some bs.v := (cell_at hb 0).trans rfl
    have hcf : W.cell? ⟨w1.heap.size + 1, 0, none⟩ = some (.int .i64 ((bestR t (allR (cntR t))).2 : Int)) := (cell_at hbf 0).trans rfl
    have hXw : Ext w w3 := HX1.out.trans (HX2.out.trans HX3.out)
    have HXW : Hid (Ext w (W.putObj w3.heap.size (.deferred none))) := ext_keep (ext_keep hXw hKp (fun i hi => ⟨by omega, by omega⟩)) ((Keep.refl (fun k => k ≠ w3.heap.size) W).putObj _ _ (fun h => h rfl)) (fun i hi => by omega)
    have H5 := Lib.hid (own_sl q5 q4)
    have H3 := Lib.hid q3; clear q3
    have HD := Lib.hid hD; clear hD
    clear hC q1 q2 hb hbf hKp hXw q5
    simp only [Exit.inBlock, Exit.then]
    go_wp2_with fail
    go_quiet (fail)
    go_wp2_with fail
    refine ⟨by simp, .inl ⟨_, _, rfl, run_takeDeferred (w := W.drewN nq) HD.out, ?_⟩⟩
    have H6 : IsSl 1 num ((W.putObj w3.heap.size (.deferred none)).drewN nq) ⟨bs.a, bs.c, (bestR t (allR (cntR t))).1⟩ := by rw [← H3.out]; exact H5.out.ext ((Ext.refl _).drewN nq)
    exact ⟨_, results_tmp3 rfl _ _ _, bs.a, bs.c, by rw [← H3.out]; rfl, H6, HXW.out.drewN nq⟩
end Go.Proofs.YtopjjcgmcieboaaGreatDoor
