/-
  Agrees of package treaty returns the first reading in which a line agrees, in new memory, and turns nothing that was there. The treaty and the line must lie in memory as told and be valid, the line must begin at a start, and agree in some reading.
-/
import Derived.Test.YtopjjcgmcieboaaGreatDoorIh
import Derived.Test.YtopjjcgmcieboaaGreatDoorIe
import Derived.Test.YtopjjcgmcieboaaGreatDoorJa
namespace Go.Proofs.YtopjjcgmcieboaaGreatDoor
open Go.RowKit
attribute [local go_sem] Oper.semAt_some

/-- Does a line agree in a reading? -/
def agB (t : TV) (line r : List Nat) : Bool := (List.range t.legs.l.length).all fun k => leadsOf t r k ((line[k]?).getD 0) ((line[k + 1]?).getD 0)

/-- A round that has returned. -/
def AgIx (t : TV) (line : List Nat) (b4 b5 n0 : Nat) (w4 : World) (hi : Nat) (c : Code) (pre : List (List Nat)) (W : World) : Prop :=
  c = .ret ∧ ∃ (pre0 : List (List Nat)) (s : SL Nat), pre = pre0 ++ [s.l] ∧ (∀ r ∈ pre0, agB t line r = false) ∧ agB t line s.l = true ∧ W.heap[b4]? = some (.cells #[s.v] 25 (0, 0)) ∧ W.heap[b5]? = some (.cells #[.int .i64 0] 33 (0, 0)) ∧
    s.l.length ≤ 1000000 ∧ Own1 W hi s ∧ Keep (But2 n0 b4 b5) w4 W

set_option maxRecDepth 100000 in
set_option maxHeartbeats 2000000 in
theorem Agrees_ok (t : TV) (ln : SL Nat) (w : World) (r0 : List Nat) (ht : IsT w t) (hk : OkT t) (hl : IsSl 1 num w ln) (hll : ln.l.length = t.legs.l.length + 1) (hlt : ∀ x ∈ ln.l, x < t.P) (hs0 : (ln.l[0]?).getD 0 ∈ t.starts.l)
    (hf : (allR (cntR t)).find? (agB t ln.l) = some r0) :
    Calls Tryz.prog 12 #[t.v, .slice ln.a ln.l.length ln.c] w fun e w' => ∃ (a : Option Addr) (c : Nat), e = .returned (.tuple #[.slice a r0.length c, .int .i64 0]) ∧ IsSl 1 num w' ⟨a, c, r0⟩ ∧ Ext w w' := by
  obtain ⟨la, lc, ll⟩ := ln
  dsimp only at hll hlt hs0 hf
  obtain ⟨bl, ol, hla, hlc⟩ := hl.2.2.resolve_left (by show ¬ ll.length = 0; omega)
  dsimp only at hla hlc
  subst hla
  have HT := Lib.hid ht; clear ht
  have HK := Lib.hid hk; clear hk
  have HL := Lib.hid hl
  have HLl := Lib.hid hll
  have HLt' := Lib.hid hlt; clear hlt
  have HF := Lib.hid hf; clear hf
  have hN10 := HK.out.legs
  have hS0 : ∃ x, ll[0]? = some x ∧ x ∈ t.starts.l ∧ x < 12 := by
    have h0 : 0 < ll.length := by omega
    refine ⟨ll[0], by simp [h0], by simpa [h0] using hs0, ?_⟩
    have := HLt'.out _ (List.getElem_mem h0); have := HK.out.p2; omega
  obtain ⟨x0, hx0, hx0s, hx12⟩ := hS0
  have hcl : ∀ k, k ≤ t.legs.l.length → w.cell? ⟨bl, ol + k, none⟩ = some (.int .i64 ((ll[k]?).getD 0 : Nat)) := fun k hk => by
    have h1 : k < ll.length := by omega
    have := hlc k h1 0 (by omega)
    rw [List.getElem?_eq_getElem h1]; simpa [num] using this
  have HCl := Lib.hid hcl; clear hcl hlc hs0 hl
  have HX0 : Hid (ll[0]? = some x0 ∧ x0 ∈ t.starts.l ∧ x0 < 12) := ⟨hx0, hx0s, hx12⟩
  clear hx0 hx0s hx12 hll
  refine callsIn_wide.1 (callsIn_of_wp_marks (n := 3) Tryz.func12 rfl trivial ?_ rfl)
  simp only [Tryz.ntmps12, List.size_toArray, List.length_cons, List.length_nil, Nat.reduceAdd, Nat.reduceSub, Array.replicate_succ, Array.replicate_zero, List.push_toArray, List.append_toArray, List.nil_append, List.cons_append]
  refine wpIn_wide.2 ?_
  obtain ⟨W0, hW0⟩ : ∃ W0, ((((w.alloc (.cells #[.int .i64 (t.P : Int), .slice t.ways.a t.ways.l.length t.ways.c, .slice t.words.a t.words.l.length t.words.c, .slice t.starts.a t.starts.l.length t.starts.c, .slice t.legs.a t.legs.l.length t.legs.c] 28)).alloc (.cells #[.slice (some ⟨bl, ol, none⟩) ll.length lc] 25)).alloc (.cells #[.slice none 0 0] 25)).alloc (.cells #[.int .i64 0] 33)) = W0 := ⟨_, rfl⟩
  have hX0 : Ext w W0 := by rw [← hW0]; exact ((((Ext.refl w).alloc _).alloc _).alloc _).alloc _
  have hT0 : TBox W0 w.heap.size t := by rw [← hW0]; exact ((((Ext.refl _).alloc _).alloc _).alloc _).block (World.alloc_heap_new w _)
  have h30 : W0.heap[w.heap.size + 1]? = some (.cells #[.slice (some ⟨bl, ol, none⟩) ll.length lc] 25 (0, 0)) := by rw [← hW0]; exact (((Ext.refl _).alloc _).alloc _).block (new2 w _ _)
  have h45 : W0.heap[w.heap.size + 1 + 1]? = some (.cells #[.slice none 0 0] 25 (0, 0)) ∧ W0.heap[w.heap.size + 1 + 1 + 1]? = some (.cells #[.int .i64 0] 33 (0, 0)) ∧ W0.heap.size = w.heap.size + 4 := by
    rw [← hW0]
    have e1 := new2 ((w.alloc (.cells #[.int .i64 (t.P : Int), .slice t.ways.a t.ways.l.length t.ways.c, .slice t.words.a t.words.l.length t.words.c, .slice t.starts.a t.starts.l.length t.starts.c, .slice t.legs.a t.legs.l.length t.legs.c] 28)).alloc (.cells #[.slice (some ⟨bl, ol, none⟩) ll.length lc] 25)) (.cells #[.slice none 0 0] 25) (.cells #[.int .i64 0] 33)
    have e2 := new2 (w.alloc (.cells #[.int .i64 (t.P : Int), .slice t.ways.a t.ways.l.length t.ways.c, .slice t.words.a t.words.l.length t.words.c, .slice t.starts.a t.starts.l.length t.starts.c, .slice t.legs.a t.legs.l.length t.legs.c] 28)) (.cells #[.slice (some ⟨bl, ol, none⟩) ll.length lc] 25) (.cells #[.slice none 0 0] 25)
    rw [World.size_alloc] at e2
    rw [World.size_alloc, World.size_alloc] at e1
    exact ⟨((Ext.refl _).alloc _).block e2, e1, by simp⟩
  have HW0 := Lib.hid hW0; clear hW0
  go_wp2_with fail
  go_step3
  go_wp2_with fail
  rw [HW0.out]
  clear HW0
  refine (check_ok t W0 (HT.out.ext hX0) HK.out).mono ?_
  rintro e w1 ⟨rfl, hx1⟩
  have HX1 : Hid (Ext w w1) := hX0.trans hx1
  have HTB1 : Hid (TBox w1 w.heap.size t) := hx1.block hT0
  have HBl1 : Hid (w1.heap[w.heap.size + 1]? = some (.cells #[.slice (some ⟨bl, ol, none⟩) ll.length lc] 25 (0, 0))) := hx1.block h30
  have HB1 : Hid (w1.heap[w.heap.size + 1 + 1]? = some (.cells #[.slice none 0 0] 25 (0, 0)) ∧ w1.heap[w.heap.size + 1 + 1 + 1]? = some (.cells #[.int .i64 0] 33 (0, 0)) ∧ w.heap.size + 4 ≤ w1.heap.size) :=
    ⟨hx1.block h45.1, hx1.block h45.2.1, by have := hx1.size; have := h45.2.2; omega⟩
  clear hX0 hT0 h30 h45 hx1
  have c0 := cell_at HTB1.out 0
  have c1 := cell_at HTB1.out 1
  have c2 := cell_at HTB1.out 2
  have c3 := cell_at HTB1.out 3
  have c4 := cell_at HTB1.out 4
  have cl := cell_at HBl1.out 0
  simp only [List.getElem?_toArray, List.getElem?_cons_succ, List.getElem?_cons_zero] at c0 c1 c2 c3 c4 cl
  go_wp2_with fail
  clear c0 c1 c2 c3 c4 cl
  refine (checkLine_ok t ⟨some ⟨bl, ol, none⟩, lc, ll⟩ w1 HK.out.p2 HK.out.legs (HL.out.ext HX1.out) HLl.out HLt'.out).mono ?_
  rintro e w2 ⟨rfl, hx2⟩
  have HX2 : Hid (Ext w w2) := HX1.out.trans hx2
  have HTB2 : Hid (TBox w2 w.heap.size t) := hx2.block HTB1.out
  have HBl2 : Hid (w2.heap[w.heap.size + 1]? = some (.cells #[.slice (some ⟨bl, ol, none⟩) ll.length lc] 25 (0, 0))) := hx2.block HBl1.out
  have HB2 : Hid (w2.heap[w.heap.size + 1 + 1]? = some (.cells #[.slice none 0 0] 25 (0, 0)) ∧ w2.heap[w.heap.size + 1 + 1 + 1]? = some (.cells #[.int .i64 0] 33 (0, 0)) ∧ w.heap.size + 4 ≤ w2.heap.size) :=
    ⟨hx2.block HB1.out.1, hx2.block HB1.out.2.1, by have := hx2.size; have := HB1.out.2.2; omega⟩
  clear hx2 HX1 HTB1 HBl1 HB1
  have c0 := cell_at HTB2.out 0
  have c1 := cell_at HTB2.out 1
  have c2 := cell_at HTB2.out 2
  have c3 := cell_at HTB2.out 3
  have c4 := cell_at HTB2.out 4
  have cl := cell_at HBl2.out 0
  simp only [List.getElem?_toArray, List.getElem?_cons_succ, List.getElem?_cons_zero] at c0 c1 c2 c3 c4 cl
  have cx : w2.cell? ⟨bl, ol, none⟩ = some (.int .i64 (x0 : Int)) := by
    have := HX2.out.cell (HCl.out 0 (Nat.zero_le _))
    rw [HX0.out.1] at this; simpa using this
  have hll1 : (0 : Int) < (ll.length : Int) := by have := HLl.out; omega
  have HCt := Lib.hid (fun n => contains_any t.starts.a _ t.starts.c t.starts.l x0 (w2.drewN n) rfl ((HT.out.ext HX2.out).starts.ext ((Ext.refl w2).drewN n)))
  have HCc : Hid (t.starts.l.contains x0 = true) := by show _ = _; simpa using HX0.out.2.1
  rw [HCc.out] at HCt
  go_wp2_with fail
  go_quiet ((go_at_call 44; exact quiet_same (HCt.out _)))
  go_wp2_with fail
  have hdw : Ext w2 (w2.drewN nq) := (Ext.refl w2).drewN nq
  have HX3 : Hid (Ext w (w2.drewN nq)) := HX2.out.trans hdw
  have HTB3 : Hid (TBox (w2.drewN nq) w.heap.size t) := hdw.block HTB2.out
  have HBl3 : Hid ((w2.drewN nq).heap[w.heap.size + 1]? = some (.cells #[.slice (some ⟨bl, ol, none⟩) ll.length lc] 25 (0, 0))) := hdw.block HBl2.out
  have HB3 : Hid ((w2.drewN nq).heap[w.heap.size + 1 + 1]? = some (.cells #[.slice none 0 0] 25 (0, 0)) ∧ (w2.drewN nq).heap[w.heap.size + 1 + 1 + 1]? = some (.cells #[.int .i64 0] 33 (0, 0)) ∧ w.heap.size + 4 ≤ (w2.drewN nq).heap.size) :=
    ⟨hdw.block HB2.out.1, hdw.block HB2.out.2.1, Nat.le_trans HB2.out.2.2 hdw.size⟩
  clear hdw HX2 HTB2 HBl2 HB2 HCt HCc c0 c1 c2 c3 c4 cl cx
  generalize w2.drewN nq = w3 at *
  have c0 := cell_at HTB3.out 0
  have c1 := cell_at HTB3.out 1
  have c2 := cell_at HTB3.out 2
  have c3 := cell_at HTB3.out 3
  have c4 := cell_at HTB3.out 4
  simp only [List.getElem?_toArray, List.getElem?_cons_succ, List.getElem?_cons_zero] at c0 c1 c2 c3 c4
  go_step3
  go_wp2_with fail
  clear c0 c1 c2 c3 c4
  refine (readings_any t w3).mono ?_
  rintro e w4 ⟨rfl, hx4, hB4, hs4⟩
  have HX4 : Hid (Ext w w4) := HX3.out.trans hx4
  have HTB4 : Hid (TBox w4 w.heap.size t) := hx4.block HTB3.out
  have HBl4 : Hid (w4.heap[w.heap.size + 1]? = some (.cells #[.slice (some ⟨bl, ol, none⟩) ll.length lc] 25 (0, 0))) := hx4.block HBl3.out
  have HB4 : Hid (w4.heap[w.heap.size + 1 + 1]? = some (.cells #[.slice none 0 0] 25 (0, 0)) ∧ w4.heap[w.heap.size + 1 + 1 + 1]? = some (.cells #[.int .i64 0] 33 (0, 0)) ∧ w.heap.size + 4 ≤ w3.heap.size ∧ w4.heap.size = w3.heap.size + 1) :=
    ⟨hx4.block HB3.out.1, hx4.block HB3.out.2.1, HB3.out.2.2, hs4⟩
  have HBr := Lib.hid hB4
  clear hx4 hB4 hs4 HX3 HTB3 HBl3 HB3
  go_wp2_with fail
  refine (wpIn_wide (n := 3)).1 ?_
  refine wp_rangeFuncT (a₁ := ?a1) rfl enters_71 (readings1_gives t w3.heap.size w w4 (fun k => k ≠ w.heap.size + 1 + 1 ∧ k ≠ w.heap.size + 1 + 1 + 1) HT.out HK.out HX4.out HBr.out (fun k h => by omega) (by have := HB4.out; omega)) rfl
    (fun hi pre W => (∀ r ∈ pre, agB t ll r = false) ∧ Keep (fun k => k < w4.heap.size) w4 W) (fun hi c pre W => AgIx t ll (w.heap.size + 1 + 1) (w.heap.size + 1 + 1 + 1) w4.heap.size w4 hi c pre W)
    ?_ ?_ ?_ ?assign ?body ?done ?stop
  case assign =>
    intro l s W K hK
    gi_wp2
    exact hK
  · intro hi s A B hh h hk
    exact ⟨h.1, h.2.trans (hk.mono (fun k _ h => .inl h))⟩
  · intro c hi s A B hh h hk
    have := HB4.out
    obtain ⟨rfl, pre0, sl, q1, q2, q3, q4, q5, q6, q7, q8⟩ := h
    exact ⟨rfl, pre0, sl, q1, q2, q3, hk.heap q4 (.inl (by omega)), hk.heap q5 (.inl (by omega)), q6, own_keep q7 hk (fun i hi => .inr hi), q8.trans (hk.mono (fun k _ h => .inl h.1))⟩
  · intro hi hh
    exact ⟨by simp, Keep.refl _ _⟩
  case body =>
    rintro l hi pre s W hh hhW ⟨hA, hKp⟩ hpre hsl hown
    have hB4 := HB4.out
    have HXW : Hid (Ext w W) := ext_keep HX4.out hKp (fun i hi => by omega)
    have HTW : Hid (TBox W w.heap.size t) := hKp.heap HTB4.out (by omega)
    have HBlW : Hid (W.heap[w.heap.size + 1]? = some (.cells #[.slice (some ⟨bl, ol, none⟩) ll.length lc] 25 (0, 0))) := hKp.heap HBl4.out (by omega)
    have HBW : Hid (W.heap[w.heap.size + 1 + 1]? = some (.cells #[.slice none 0 0] 25 (0, 0)) ∧ W.heap[w.heap.size + 1 + 1 + 1]? = some (.cells #[.int .i64 0] 33 (0, 0))) := ⟨hKp.heap hB4.1 (by omega), hKp.heap hB4.2.1 (by omega)⟩
    have hmem := mem_of_prefix hpre
    have HRd := Lib.hid (allR_rd HK.out hmem)
    have HIs := Lib.hid (own_sl hown hsl)
    have HOs := Lib.hid hown
    have HSl := Lib.hid hsl
    have HA := Lib.hid hA
    have HKp := Lib.hid hKp
    clear hpre hown hmem hA hKp
    have c0 := cell_at HTW.out 0
    have c1 := cell_at HTW.out 1
    have c2 := cell_at HTW.out 2
    have c3 := cell_at HTW.out 3
    have c4 := cell_at HTW.out 4
    simp only [List.getElem?_toArray, List.getElem?_cons_succ, List.getElem?_cons_zero] at c0 c1 c2 c3 c4
    gi_wp2_with (refine ⟨trivial, ?_⟩; gi_at_call 33; refine (CallsIn.inRound l (callsIn_wide.2 (read_any t s W (HT.out.ext HXW.out) HK.out HIs.out HRd.out))).mono ?_; clear c0 c1 c2 c3 c4; rintro e v1 ⟨p, rfl, hw1, hx1⟩; have HW1 := Lib.hid hw1; have HY1 := Lib.hid hx1; have c4 := cell_at (hx1.block HTW.out) 4; simp only [List.getElem?_toArray, List.getElem?_cons_succ, List.getElem?_cons_zero] at c4; clear hw1 hx1)
    have HTW1 : Hid (Ext w v1) := HXW.out.trans HY1.out
    have HBlV : Hid (v1.heap[w.heap.size + 1]? = some (.cells #[.slice (some ⟨bl, ol, none⟩) ll.length lc] 25 (0, 0))) := HY1.out.block HBlW.out
    have HBV : Hid (v1.heap[w.heap.size + 1 + 1]? = some (.cells #[.slice none 0 0] 25 (0, 0)) ∧ v1.heap[w.heap.size + 1 + 1 + 1]? = some (.cells #[.int .i64 0] 33 (0, 0))) := ⟨HY1.out.block HBW.out.1, HY1.out.block HBW.out.2⟩
    clear c4
    have hmx : Tryz.prog.follows .mixedOrders = true := by kernel_rfl
    gi_loopw [39] (fun i wr => ∃ k : Nat, k ≤ t.legs.l.length ∧ i = .int .i64 (k : Int) ∧ Hid (∀ j, j < k → leadsOf t s.l j ((ll[j]?).getD 0) ((ll[j + 1]?).getD 0) = true) ∧ Hid (Ext v1 wr)) (fun i _ => t.legs.l.length - (intOf i).toNat)
    case atStart => exact ⟨0, Nat.zero_le _, rfl, fun j hj => by omega, Ext.refl _⟩
    case round =>
      obtain ⟨wo, rfl⟩ : ∃ wo : World, wo = wr := ⟨_, rfl⟩
      obtain ⟨k, hk, rfl, HLd, HX⟩ := hrel
      by_cases hlt : k < t.legs.l.length
      · have dk : decide ((k : Int) < (t.legs.l.length : Int)) = true := decide_eq_true (by omega)
        have EX := HTW1.out.trans HX.out
        have a0 := EX.cell (HCl.out k (by omega))
        have a1 := EX.cell (HCl.out (k + 1) (by omega))
        have b0 : wo.cell? ⟨w.heap.size + 1, 0, none⟩ = some (.slice (some ⟨bl, ol, none⟩) ll.length lc) := (cell_at (HX.out.block HBlV.out) 0).trans rfl
        have hl0 : (ll[k]?).getD 0 < 12 := by
          have h1 : k < ll.length := by have := HLl.out; omega
          rw [List.getElem?_eq_getElem h1]; have := HLt'.out _ (List.getElem_mem h1); have := HK.out.p2; simp only [Option.getD_some]; omega
        have hl1 : (ll[k + 1]?).getD 0 < 12 := by
          have h1 : k + 1 < ll.length := by have := HLl.out; omega
          rw [List.getElem?_eq_getElem h1]; have := HLt'.out _ (List.getElem_mem h1); have := HK.out.p2; simp only [Option.getD_some]; omega
        have HC := Lib.hid (fun n => canLead_any p t (leadsOf t s.l) k ((ll[k]?).getD 0) ((ll[k + 1]?).getD 0) (wo.drewN n) ((HW1.out.ext HX.out).ext ((Ext.refl wo).drewN n)) (by omega) hl0 hl1)
        have hll2 : (k : Int) + 1 < (ll.length : Int) := by have := HLl.out; omega
        have k0 : (0 : Int) ≤ k := by omega
        have k1 : (k : Int) < (ll.length : Int) := by omega
        have k2 : (k : Int) < 10 := by omega
        have k3 : (0 : Int) ≤ (k : Int) + 1 := by omega
        have hwr : IntKind.i64.wrap ((k : Int) + 1) = (k : Int) + 1 := IntWalk.i64_in _ (by omega)
        have htn : ((k : Int) + 1).toNat = k + 1 := by omega
        have HLk : Hid (leadsOf t s.l k ((ll[k]?).getD 0) ((ll[k + 1]?).getD 0) = true → ∀ j, j < k + 1 → leadsOf t s.l j ((ll[j]?).getD 0) ((ll[j + 1]?).getD 0) = true) := fun h j hj => by
          by_cases e : j = k
          · subst e; exact h
          · exact HLd.out j (by omega)
        have HLn : Hid (leadsOf t s.l k ((ll[k]?).getD 0) ((ll[k + 1]?).getD 0) = false → agB t ll s.l = false) := fun h => by
          unfold agB
          rw [List.all_eq_false]
          exact ⟨k, by simpa using hlt, by simp [h]⟩
        generalize (ll[k]?).getD 0 = f at *
        generalize (ll[k + 1]?).getD 0 = g at *
        have f0 : (0 : Int) ≤ f := by omega
        rcases hC : leadsOf t s.l k f g with _ | _
        · rw [hC] at HC
          have HLf : Hid (agB t ll s.l = false) := HLn.out hC
          clear HLk HLn hC
          gi_wp2_with fail
          refine round_quiet (by kernel_rfl) (by kernel_rfl) (by kernel_rfl) ?_
          repeat (quiet_step ((go_at_call 45; exact quiet_same (HC.out _))))
          refine wpQuiet_nil ?_
          intro _ hw'
          obtain ⟨nq, hw2⟩ := hw'
          subst hw2
          gi_wp2_with fail
          have EW : Ext W (wo.drewN nq) := HY1.out.trans (HX.out.trans ((Ext.refl wo).drewN nq))
          refine ⟨Keep.of_ext EW, fun r hr => ?_, HKp.out.ext EW⟩
          rcases List.mem_append.1 hr with hr | hr
          · exact HA.out r hr
          · simp only [List.mem_singleton] at hr; rw [hr]; exact HLf.out
        · rw [hC] at HC
          have HLt2 : Hid (∀ j, j < k + 1 → leadsOf t s.l j ((ll[j]?).getD 0) ((ll[j + 1]?).getD 0) = true) := HLk.out hC
          clear HLk HLn hC
          gi_wp2_with fail
          refine round_quiet (by kernel_rfl) (by kernel_rfl) (by kernel_rfl) ?_
          repeat (quiet_step ((go_at_call 45; exact quiet_same (HC.out _))))
          refine wpQuiet_nil ?_
          intro _ hw'
          obtain ⟨nq, hw2⟩ := hw'
          subst hw2
          gi_wp2_with fail
          go_roundw
          case rel => exact ⟨k + 1, by omega, by go_num, HLt2, HX.out.drewN nq⟩
          case measure => simp [intOf]; omega
      · have hke : k = t.legs.l.length := by omega
        subst hke
        have HAg : Hid (agB t ll s.l = true) := by
          show _ = _; unfold agB; rw [List.all_eq_true]
          intro j hj; exact HLd.out j (by simpa using hj)
        have hB := HX.out.block HBV.out.1
        have hB5 := HX.out.block HBV.out.2
        have c4 : wo.cell? ⟨w.heap.size + 1 + 1, 0, none⟩ = some (.slice none 0 0) := (cell_at hB 0).trans rfl
        have c5 : wo.cell? ⟨w.heap.size + 1 + 1 + 1, 0, none⟩ = some (.int .i64 0) := (cell_at hB5 0).trans rfl
        have f4 : wo.frozen? ⟨w.heap.size + 1 + 1, 0, none⟩ = false := by simp [World.frozen?, hB]
        have f5 : wo.frozen? ⟨w.heap.size + 1 + 1 + 1, 0, none⟩ = false := by simp [World.frozen?, hB5]
        have HBo := Lib.hid hB; have HB5o := Lib.hid hB5; clear hB hB5
        have e12 : ¬ w.heap.size + 1 + 1 = w.heap.size + 1 + 1 + 1 := by omega
        have e21 : ¬ w.heap.size + 1 + 1 + 1 = w.heap.size + 1 + 1 := by omega
        gi_wp2_with fail
        have K1 : Keep (But2 w4.heap.size (w.heap.size + 1 + 1) (w.heap.size + 1 + 1 + 1)) W ((wo.setCell ⟨w.heap.size + 1 + 1, 0, none⟩ s.v).setCell ⟨w.heap.size + 1 + 1 + 1, 0, none⟩ (.int .i64 0)) :=
          ((Keep.of_ext (HY1.out.trans HX.out)).setCell _ _ (fun _ h => h.2.1 rfl)).setCell _ _ (fun _ h => h.2.2 rfl)
        have K2 : Keep (Inn w4.heap.size (fun k => k ≠ w.heap.size + 1 + 1 ∧ k ≠ w.heap.size + 1 + 1 + 1) w4.heap.size hi) W ((wo.setCell ⟨w.heap.size + 1 + 1, 0, none⟩ s.v).setCell ⟨w.heap.size + 1 + 1 + 1, 0, none⟩ (.int .i64 0)) :=
          ((Keep.of_ext (HY1.out.trans HX.out)).setCell _ _ (fun _ h => by rcases h with h | h; exact h.2.1 rfl; have := h.1; simp only at this; omega)).setCell _ _ (fun _ h => by rcases h with h | h; exact h.2.2 rfl; have := h.1; simp only at this; omega)
        have b4 : (wo.setCell ⟨w.heap.size + 1 + 1, 0, none⟩ s.v).heap[w.heap.size + 1 + 1]? = some (.cells #[s.v] 25 (0, 0)) := heap_setCell_same HBo.out s.v
        have b5 : (wo.setCell ⟨w.heap.size + 1 + 1, 0, none⟩ s.v).heap[w.heap.size + 1 + 1 + 1]? = some (.cells #[.int .i64 0] 33 (0, 0)) := (Below.heap_setCell _ _ _ _ (by show w.heap.size + 1 + 1 + 1 ≠ _; omega)).trans HB5o.out
        refine ⟨K2, rfl, pre, s, rfl, HA.out, HAg.out, (Below.heap_setCell _ _ _ _ (by show w.heap.size + 1 + 1 ≠ w.heap.size + 1 + 1 + 1; omega)).trans b4, heap_setCell_same b5 _, HSl.out, own_set (own_set (own_ext HOs.out (HY1.out.trans HX.out)) (by omega) _) (by omega) _, ?_⟩
        exact (HKp.out.mono (fun k _ h => h.1)).trans K1
  case stop =>
    rintro hi c pre W hh hp ⟨rfl, pre0, s, hpr, q2, q3, q4, q5, q6, q7, q8⟩ hD
    have hB4 := HB4.out
    have hr0 : r0 = s.l := by
      obtain ⟨rest, hre⟩ := hp
      have h1 := HF.out
      rw [← hre, hpr, List.append_assoc, List.find?_append, List.find?_eq_none.2 (fun x hx => by rw [q2 x hx]; simp)] at h1
      simp [q3] at h1
      exact h1.symm
    have hXw : Ext w (W.putObj w4.heap.size (.deferred none)) := ext_keep (ext_keep HX4.out q8 (fun i hi => ⟨by omega, by omega, by omega⟩)) ((Keep.refl (fun k => k ≠ w4.heap.size) W).putObj _ _ (fun h => h rfl)) (fun i hi => by omega)
    have hsl := own_sl (own_keep (D := fun k => k ≠ w4.heap.size) q7 ((Keep.refl _ W).putObj _ (.deferred none) (fun h => h rfl)) (fun i hi => by omega)) q6
    have f4 : (W.putObj w4.heap.size (.deferred none)).cell? ⟨w.heap.size + 1 + 1, 0, none⟩ = some s.v := (cell_at ((World.putObj_heap_other (by omega)).trans q4) 0).trans rfl
    have f5 : (W.putObj w4.heap.size (.deferred none)).cell? ⟨w.heap.size + 1 + 1 + 1, 0, none⟩ = some (.int .i64 0) := (cell_at ((World.putObj_heap_other (by omega)).trans q5) 0).trans rfl
    apply wpIn_ret
    simp only [Exit.inBlock, Exit.then, Exit.noGoto]
    refine ⟨by simp, .inl ⟨_, _, rfl, run_takeDeferred hD, ?_⟩⟩
    subst hr0
    exact ⟨_, res2 rfl _ _ ⟨w.heap.size + 1 + 1, 0, none⟩ ⟨w.heap.size + 1 + 1 + 1, 0, none⟩ rfl rfl _ _ (load24 _ _ _ f4) (load38 _ _ _ f5), s.a, s.c, rfl, hsl, hXw⟩
  case done =>
    rintro hi W hh ⟨hA, hKp⟩ hD
    have h1 := List.find?_some HF.out
    have h2 := List.mem_of_find?_eq_some HF.out
    rw [hA r0 h2] at h1; cases h1
end Go.Proofs.YtopjjcgmcieboaaGreatDoor
