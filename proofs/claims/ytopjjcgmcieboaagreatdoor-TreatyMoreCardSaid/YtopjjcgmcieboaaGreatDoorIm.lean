/-
  Ends of package treaty returns the places that lines have at the start and behind each leg, in new memory, and turns nothing that was there. The treaty must lie in memory as told and be valid, and some line agree in some reading.
-/
import Derived.Test.YtopjjcgmcieboaaGreatDoorIl
import Derived.Test.YtopjjcgmcieboaaGreatDoorId
import Derived.Deep.MidRow
import Derived.ChangeKeysEq
import Derived.Maps.AppendAt
namespace Go.Proofs.YtopjjcgmcieboaaGreatDoor
open Go.RowKit
attribute [local go_sem] Oper.semAt_some

theorem info4 : (Tryz.prog.info? 4).map (fun i => (i.zero, i.size, i.bytes)) = some (some (.bool false), 1, 1) := by kernel_rfl
theorem cells4 : Tryz.prog.cellsOf 4 = 1 := by kernel_rfl
theorem eqItems_bool (w : World) (d : Nat) (xs ys : Array Value) (bs cs : Nat → Bool) : ∀ (is : List Nat), (∀ i ∈ is, xs[i]? = some (.bool (bs i)) ∧ ys[i]? = some (.bool (cs i))) →
    (Op.eqItems (d + 1) 4 1 xs ys is).run Tryz.prog w = .ok (is.all fun i => bs i == cs i) w
  | [], _ => by simp [Op.eqItems]
  | i :: is, h => by
    have ih := eqItems_bool w d xs ys bs cs is (fun j hj => h j (by simp [hj]))
    obtain ⟨h1, h2⟩ := h i (by simp)
    simp only [Op.eqItems, Sem.run_bind, Nat.mul_one]
    have p1 : (part 4 xs i).run Tryz.prog w = .ok (.bool (bs i)) w := by simp [part, h1, go_sem]
    have p2 : (part 4 ys i).run Tryz.prog w = .ok (.bool (cs i)) w := by simp [part, h2, go_sem]
    rw [p1]
    simp only [Result.andThen_ok]
    rw [p2]
    simp only [Result.andThen_ok]
    rw [run_equalIn_bool' w d 4 _ _ Tryz.underlying4]
    simp only [Result.andThen_ok]
    cases hb : bs i == cs i
    · simp [hb]
    · simp [hb, ih]
/-- Twelve marks are not all unset. -/
theorem eq145 (w : World) (M : Nat → Bool) (h : ∃ x, x < 12 ∧ M x = true) : (Op.equalIn 10000 86 (.agg #[.bool (M 0), .bool (M 1), .bool (M 2), .bool (M 3), .bool (M 4), .bool (M 5), .bool (M 6), .bool (M 7), .bool (M 8), .bool (M 9), .bool (M 10), .bool (M 11)]) (.agg #[.bool false, .bool false, .bool false, .bool false, .bool false, .bool false, .bool false, .bool false, .bool false, .bool false, .bool false, .bool false])).run Tryz.prog w = .ok false w := by
  obtain ⟨i, hi, -⟩ := info_parts info4
  rw [run_equalIn_array (w := w) 9999 _ _ Tryz.underlying86 hi, cells4, eqItems_bool w 9998 _ _ M (fun _ => false)]
  · obtain ⟨x, hx, hM⟩ := h
    have : ((List.range 12).all fun i => M i == false) = false := by
      rw [List.all_eq_false]; exact ⟨x, by simpa using hx, by simp [hM]⟩
    rw [this]
  · intro j hj
    have hj' : j < 12 := by simpa using hj
    rcases j with _ | _ | _ | _ | _ | _ | _ | _ | _ | _ | _ | _ | j <;> first | exact ⟨rfl, rfl⟩ | omega

/-- A table of lists that are appended to: block E holds n slices; each list owns its memory. -/
structure EnT (wr : World) (base E n : Nat) (rows : List (SL Nat)) : Prop where
  hd : ∃ cur : Array Value, wr.heap[E]? = some (.cells cur 25 (0, 0)) ∧ cur.size = n ∧ ∀ i, i < n → cur[i]? = some (match rows[i]? with | some r => r.v | none => .slice none 0 0)
  low : base ≤ E
  own : ∀ r ∈ rows, r.l.length ≤ 1000 ∧ Own1 wr base r
  apart : rows.Pairwise (fun r s => r.v.ownBlock = none ∨ r.v.ownBlock ≠ s.v.ownBlock)
theorem EnT.ext {a b : World} {base E n : Nat} {rows : List (SL Nat)} (h : EnT a base E n rows) (k : Ext a b) : EnT b base E n rows := by
  obtain ⟨⟨cur, h1, h2⟩, h3, h4, h5⟩ := h
  exact ⟨⟨cur, k.block h1, h2⟩, h3, fun r hr => ⟨(h4 r hr).1, own_ext (h4 r hr).2 k⟩, h5⟩
theorem EnT.keep {D : Nat → Prop} {a b : World} {base E n : Nat} {rows : List (SL Nat)} (h : EnT a base E n rows) (k : Keep D a b) (hd : ∀ i, base ≤ i → D i) : EnT b base E n rows := by
  obtain ⟨⟨cur, h1, h2⟩, h3, h4, h5⟩ := h
  exact ⟨⟨cur, k.heap h1 (hd E h3), h2⟩, h3, fun r hr => ⟨(h4 r hr).1, own_keep (h4 r hr).2 k hd⟩, h5⟩
theorem EnT.cell {wr : World} {base E n : Nat} {rows : List (SL Nat)} (h : EnT wr base E n rows) (i : Nat) (hi : i < n) : wr.cell? ⟨E, i, none⟩ = some (match rows[i]? with | some r => r.v | none => .slice none 0 0) := by
  obtain ⟨cur, h1, h2, h3⟩ := h.hd; rw [cell_at h1, h3 i hi]
theorem EnT.frozen {wr : World} {base E n : Nat} {rows : List (SL Nat)} (h : EnT wr base E n rows) (i : Nat) : wr.frozen? ⟨E, i, none⟩ = false := by
  obtain ⟨cur, h1, h2⟩ := h.hd; simp [World.frozen?, h1]
theorem EnT.next {wr : World} {base E n : Nat} {rows : List (SL Nat)} (h : EnT wr base E n rows) : EnT wr base E n (rows ++ [⟨none, 0, []⟩]) := by
  obtain ⟨⟨cur, h1, h2, h3⟩, h4, h5, h6⟩ := h
  refine ⟨⟨cur, h1, h2, fun i hi => ?_⟩, h4, fun r hr => ?_, ?_⟩
  · rw [h3 i hi]
    by_cases e : i < rows.length
    · rw [List.getElem?_append_left e]
    · rw [List.getElem?_eq_none (by omega)]
      by_cases e2 : i = rows.length
      · subst e2; simp
      · rw [List.getElem?_eq_none (by simp; omega)]
  · rcases List.mem_append.1 hr with hr | hr
    · exact h5 r hr
    · simp only [List.mem_singleton] at hr; subst hr; exact ⟨by simp, World.ownsRow_nil _ _ _ _⟩
  · rw [List.pairwise_append]
    refine ⟨h6, by simp, fun r hr s hs => ?_⟩
    simp only [List.mem_singleton] at hs; subst hs
    cases hb : r.v.ownBlock with
    | none => exact .inl rfl
    | some g => exact .inr (by simp [Value.ownBlock])
theorem own_setE {w : World} {base E i : Nat} {v : Value} {m : Nat} {xs : List Value} (h : w.ownsRow base 3 1 v m xs) {cur : Array Value} (hE : w.heap[E]? = some (.cells cur 25 (0, 0))) (x : Value) : (w.setCell ⟨E, i, none⟩ x).ownsRow base 3 1 v m xs := by
  refine own_grown h (row := some E) ⟨rfl, rfl, rfl, (KeepsWalks.setCell w _ x).size, fun k _ hk => Below.heap_setCell _ _ _ k (fun e => hk (by rw [e]))⟩ ?_
  cases hv : v.ownBlock with
  | none => exact .inl rfl
  | some g =>
    refine .inr fun e1 => ?_
    obtain ⟨c1, h1⟩ := own_block h g hv
    cases e1
    rw [h1] at hE; simp at hE
/-- One number is appended to the last list. -/
theorem EnT.append {wr w5 : World} {base E n x : Nat} {init : List (SL Nat)} {s : SL Nat} {a' : Option Addr} {c' : Nat} {tmp : Obj} (h : EnT wr base E n (init ++ [s])) (hn : init.length < n) (hl : s.l.length + 1 ≤ 1000)
    (hown : w5.ownsRow base 3 1 (.slice a' (s.l.length + 1) c') (s.l.length + 1) (nums s.l ++ nums [x])) (hg : (wr.alloc tmp).grownBy w5 s.v.ownBlock)
    (hb : (Value.slice a' (s.l.length + 1) c').ownBlock = s.v.ownBlock ∨ (Value.slice a' (s.l.length + 1) c').ownBlock = some (wr.alloc tmp).heap.size) :
    (w5.cell? ⟨E, init.length, none⟩ = some s.v ∧ w5.frozen? ⟨E, init.length, none⟩ = false) ∧ EnT (w5.setCell ⟨E, init.length, none⟩ (.slice a' (s.l.length + 1) c')) base E n (init ++ [⟨a', c', s.l ++ [x]⟩]) := by
  obtain ⟨⟨cur, h1, h2, h3⟩, h4, h5, h6⟩ := h
  have hs := h5 s (by simp)
  have hx := (Ext.refl wr).alloc tmp
  have hE5 : w5.heap[E]? = some (.cells cur 25 (0, 0)) := by
    have h1' := hx.block h1
    refine (hg.block E (Array.getElem?_eq_some_iff.1 h1').1 ?_).trans h1'
    intro e
    obtain ⟨c1, hc⟩ := own_block hs.2 E e.symm
    rw [h1] at hc; simp at hc
  rw [List.pairwise_append] at h6
  refine ⟨⟨?_, by simp [World.frozen?, hE5]⟩, ⟨⟨_, heap_setCell_same hE5 _, by simpa using h2, fun i hi => ?_⟩, h4, fun r hr => ?_, ?_⟩⟩
  · rw [cell_at hE5, h3 _ hn]; simp
  · rw [Array.getElem?_setIfInBounds]
    by_cases e : init.length = i
    · subst e; rw [if_pos rfl, if_pos (by omega)]; simp
    · rw [if_neg e, h3 i hi]
      by_cases e2 : i < init.length
      · rw [List.getElem?_append_left e2, List.getElem?_append_left e2]
      · rw [List.getElem?_eq_none (by simp; omega), List.getElem?_eq_none (by simp; omega)]
  · rcases List.mem_append.1 hr with hr | hr
    · have hr5 := h5 r (by simp [hr])
      exact ⟨hr5.1, own_setE (own_grown (own_ext hr5.2 hx) hg (h6.2.2 r hr s (by simp))) hE5 _⟩
    · simp only [List.mem_singleton] at hr; subst hr
      refine ⟨by simpa using hl, own_setE ?_ hE5 _⟩
      have e : (SL.v ⟨a', c', s.l ++ [x]⟩ : Value) = .slice a' (s.l.length + 1) c' := by simp [SL.v]
      show w5.ownsRow base 3 1 _ _ _
      rw [e, nums_append]; simpa using hown
  · rw [List.pairwise_append]
    refine ⟨h6.1, by simp, fun r hr q hq => ?_⟩
    simp only [List.mem_singleton] at hq; subst hq
    have hv : (SL.v ⟨a', c', s.l ++ [x]⟩ : Value).ownBlock = (Value.slice a' (s.l.length + 1) c').ownBlock := by simp [SL.v]
    rw [hv]
    rcases hb with hb | hb
    · rw [hb]; exact h6.2.2 r hr s (by simp)
    · rw [hb]
      cases hg' : r.v.ownBlock with
      | none => exact .inl rfl
      | some g =>
        refine .inr fun e => ?_
        obtain ⟨c1, hc⟩ := own_block (h5 r (by simp [hr])).2 g hg'
        have := (Array.getElem?_eq_some_iff.1 hc).1
        rw [World.size_alloc] at e
        simp only [Option.some.injEq] at e; omega

/-- The marks of all lines of some readings. -/
def metR (t : TV) (l : List (List Nat)) (f p : Nat) : Bool := l.any fun r => endsB t (leadsOf t r) f p
/-- The places at a step. -/
def placeR (t : TV) (f : Nat) : List Nat := (List.range t.P).filter fun p => metR t (allR (cntR t)) f p
/-- All places of all lines. -/
def endsR (t : TV) : List (List Nat) := (List.range (t.legs.l.length + 1)).map (placeR t)

set_option maxRecDepth 100000 in
set_option maxHeartbeats 2000000 in
theorem Ends_ok (t : TV) (w : World) (ht : IsT w t) (hk : OkT t) (hne : ∃ x, x < 12 ∧ metR t (allR (cntR t)) 0 x = true) :
    Calls Tryz.prog 19 #[t.v] w fun e w' => ∃ (a : Option Addr) (c : Nat) (rows : List (SL Nat)), e = .returned (.tuple #[.slice a rows.length c, .int .i64 0]) ∧ IsSl 1 slC w' ⟨a, c, rows⟩ ∧ (∀ r ∈ rows, IsSl 1 num w' r) ∧
      rows.map (fun r => r.l) = endsR t ∧ Ext w w' := by
  have HT := Lib.hid ht; clear ht
  have HK := Lib.hid hk; clear hk
  have HNe := Lib.hid hne; clear hne
  refine callsIn_wide.1 (callsIn_of_wp_marks (n := 3) Tryz.func19 rfl trivial ?_ rfl)
  simp only [Tryz.ntmps19, List.size_toArray, List.length_cons, List.length_nil, Nat.reduceAdd, Nat.reduceSub, Array.replicate_succ, Array.replicate_zero, List.push_toArray, List.append_toArray, List.nil_append, List.cons_append]
  refine wpIn_wide.2 ?_
  go_wp2_with fail
  refine (check_ok t _ (HT.out.ext ((Ext.refl w).alloc _)) HK.out).mono ?_
  rintro e w1 ⟨rfl, hx1⟩
  have hb1 := hx1.block (World.alloc_heap_new w _)
  have HX1 : Hid (Ext w w1) := ((Ext.refl w).alloc _).trans hx1
  have HTB1 : Hid (TBox w1 w.heap.size t) := hb1
  have hlt1 : w.heap.size < w1.heap.size := by have := hx1.size; rw [World.size_alloc] at this; omega
  have HLt := Lib.hid hlt1
  clear hx1
  have c0 := cell_at hb1 0
  have c1 := cell_at hb1 1
  have c2 := cell_at hb1 2
  have c3 := cell_at hb1 3
  have c4 := cell_at hb1 4
  simp only [List.getElem?_toArray, List.getElem?_cons_succ, List.getElem?_cons_zero] at c0 c1 c2 c3 c4
  clear hb1
  go_wp2_with fail
  clear c0 c1 c2 c3 c4
  have hM2 := zeroMrk w1
  have HX2 : Hid (Ext w1 (w1.alloc (.cells Tryz.zeroCells88 88))) := (Ext.refl w1).alloc _
  have hs2 : (w1.alloc (.cells Tryz.zeroCells88 88)).heap.size = w1.heap.size + 1 := World.size_alloc _ _
  generalize w1.alloc (.cells Tryz.zeroCells88 88) = w2 at *
  refine (readings_any t w2).mono ?_
  rintro e w3 ⟨rfl, hx3, hB3, hs3⟩
  have HX3 : Hid (Ext w2 w3) := hx3
  have HM3 : Hid (Mrk w3 w1.heap.size (fun _ _ => false)) := hM2.ext hx3
  have HB3 := Lib.hid hB3
  have HS : Hid (w2.heap.size = w1.heap.size + 1 ∧ w3.heap.size = w1.heap.size + 2) := ⟨hs2, by omega⟩
  clear hx3 hM2 hB3 hs2 hs3
  go_wp2_with fail
  refine (wpIn_wide (n := 3)).1 ?_
  refine wp_rangeFuncT (a₁ := ?a1) rfl enters_71 (readings1_gives t w2.heap.size w w3 (fun k => k ≠ w1.heap.size) HT.out HK.out (HX1.out.trans (HX2.out.trans HX3.out)) HB3.out (fun k h => by have := HLt.out; omega) (by have := HS.out; omega)) rfl
    (fun hi pre W => Mrk W w1.heap.size (metR t pre) ∧ Keep (But w3.heap.size w1.heap.size) w3 W) (fun _ _ _ _ => False)
    ?_ (fun _ _ _ _ _ _ h _ => h) ?_ ?assign ?body ?done ?stop
  case assign =>
    intro l s W K hK
    gi_wp2
    exact hK
  · intro hi s A B hh h hk
    have := HS.out
    exact ⟨h.1.keep hk (.inl (by omega)), h.2.trans (hk.mono (fun k _ h => .inl h.1))⟩
  · intro hi hh
    exact ⟨HM3.out, Keep.refl _ _⟩
  case body =>
    rintro l hi pre s W hh hhW ⟨hC, hKp⟩ hpre hsl hown
    have hS := HS.out
    have hLt := HLt.out
    have hXw : Ext w w3 := HX1.out.trans (HX2.out.trans HX3.out)
    have HXW : Hid (Ext w W) := ext_keep hXw hKp (fun i hi => ⟨by omega, by omega⟩)
    have HTW : Hid (TBox W w.heap.size t) := hKp.heap ((HX2.out.trans HX3.out).block HTB1.out) ⟨by omega, by omega⟩
    have hmem := mem_of_prefix hpre
    have HRd := Lib.hid (allR_rd HK.out hmem)
    have HIs := Lib.hid (own_sl hown hsl)
    clear hpre hown hmem hXw
    have c0 := cell_at HTW.out 0
    have c1 := cell_at HTW.out 1
    have c2 := cell_at HTW.out 2
    have c3 := cell_at HTW.out 3
    have c4 := cell_at HTW.out 4
    simp only [List.getElem?_toArray, List.getElem?_cons_succ, List.getElem?_cons_zero] at c0 c1 c2 c3 c4
    have HC := Lib.hid hC; clear hC
    have HKp := Lib.hid hKp; clear hKp
    gi_wp2_with (first
      | (refine ⟨trivial, ?_⟩; gi_at_call 33; refine (CallsIn.inRound l (callsIn_wide.2 (read_any t s W (HT.out.ext HXW.out) HK.out HIs.out HRd.out))).mono ?_; clear c0 c1 c2 c3 c4; rintro e v1 ⟨p, rfl, hw1, hx1⟩; have HW1 := Lib.hid hw1; have HY1 := Lib.hid hx1; clear hw1 hx1)
      | (refine ⟨trivial, ?_⟩; gi_at_call 49; refine (CallsIn.inRound l (callsIn_wide.2 (ends_any p t (leadsOf t s.l) v1 HW1.out (HT.out.ext (HXW.out.trans HY1.out)).starts HK.out))).mono ?_; rintro e v2 ⟨cs, rfl, hsz, hce, hx2⟩; have HY2 : Hid (Ext W v2) := HY1.out.trans hx2; have HSz := Lib.hid hsz; have HCe := Lib.hid hce; clear hsz hce hx2)
      | (refine ⟨trivial, ?_⟩; gi_at_call 48; refine (CallsIn.inRound l (callsIn_wide.2 (add_any w1.heap.size _ _ cs v2 (HC.out.ext HY2.out) HSz.out HCe.out))).mono ?_; rintro e v3 ⟨rfl, hm3, hk3⟩; have HM := Lib.hid hm3; have HK3 := Lib.hid hk3; clear hm3 hk3))
    refine ⟨((Keep.of_ext HY2.out).trans (HK3.out.mono (fun k _ h => by rcases h with h | h; exact h.2; omega))), ?_, (HKp.out.ext HY2.out).trans (HK3.out.mono (fun k _ h => h.2))⟩
    have e : metR t (pre ++ [s.l]) = fun f p => metR t pre f p || endsB t (leadsOf t s.l) f p := by
      funext f p; simp [metR]
    rw [e]; exact HM.out
  case stop =>
    rintro hi c pre W hh hp h
    exact h.elim
  case done =>
    rintro hi W hh ⟨hC, hKp⟩ hD
    have hS := HS.out
    have hLt := HLt.out
    have d0 := hC.cell 0 0 (by omega) (by omega)
    have d1 := hC.cell 0 1 (by omega) (by omega)
    have d2 := hC.cell 0 2 (by omega) (by omega)
    have d3 := hC.cell 0 3 (by omega) (by omega)
    have d4 := hC.cell 0 4 (by omega) (by omega)
    have d5 := hC.cell 0 5 (by omega) (by omega)
    have d6 := hC.cell 0 6 (by omega) (by omega)
    have d7 := hC.cell 0 7 (by omega) (by omega)
    have d8 := hC.cell 0 8 (by omega) (by omega)
    have d9 := hC.cell 0 9 (by omega) (by omega)
    have d10 := hC.cell 0 10 (by omega) (by omega)
    have d11 := hC.cell 0 11 (by omega) (by omega)
    simp only [Nat.zero_mul, Nat.zero_add] at d0 d1 d2 d3 d4 d5 d6 d7 d8 d9 d10 d11
    have hEq := eq145 W (metR t (allR (cntR t)) 0) HNe.out
    generalize hMM : metR t (allR (cntR t)) 0 = M0 at *
    have HMM := Lib.hid hMM; clear hMM
    have hXw : Ext w w3 := HX1.out.trans (HX2.out.trans HX3.out)
    have HXW : Hid (Ext w W) := ext_keep hXw hKp (fun i hi => ⟨by omega, by omega⟩)
    have HTW : Hid (TBox W w.heap.size t) := hKp.heap ((HX2.out.trans HX3.out).block HTB1.out) ⟨by omega, by omega⟩
    have hbw : w.heap.size < W.heap.size := (Array.getElem?_eq_some_iff.1 HTW.out).1
    have c4 := cell_at HTW.out 4
    simp only [List.getElem?_toArray, List.getElem?_cons_succ, List.getElem?_cons_zero] at c4
    have HC := Lib.hid hC; clear hC
    have HD : Hid (W.heap[w3.heap.size]? = some (.deferred (some []))) := hD
    have HLd := (Array.getElem?_eq_some_iff.1 hD).1
    have HLd' := Lib.hid HLd
    clear hD hKp hXw HLd hS hh
    have hN10 := HK.out.legs
    have hP12 := HK.out.p2
    have hmk := run_make_row' (P := Tryz.prog) 32 25 (.slice none 0 0) 24 Tryz.underlying32 info25 rfl .i64 .i64 (t.legs.l.length + 1) (by omega) (by omega)
    rw [show (((t.legs.l.length + 1 : Nat)) : Int) = (t.legs.l.length : Int) + 1 by omega] at hmk
    have hmc : Hid (∀ i, i < t.legs.l.length + 1 → (madeCells #[Value.slice none 0 0] (t.legs.l.length + 1))[i]? = some (.slice none 0 0)) := fun i hi => by
      simp [madeCells, Nat.mod_one, hi]
    have hmsz := size_madeCells #[Value.slice none 0 0] (t.legs.l.length + 1)
    have HMsz := Lib.hid hmsz; clear hmsz
    generalize madeCells #[Value.slice none 0 0] (t.legs.l.length + 1) = mc at *
    have n0 : (0 : Int) ≤ (t.legs.l.length : Int) := by omega
    have n10 : (t.legs.l.length : Int) ≤ 10 := by omega
    obtain ⟨i0, hi0, hz0, hz1, hz2⟩ := info_parts info3
    simp only [Exit.inBlock, Exit.then]
    go_wp2_with fail
    clear hmk c4
    have hET0 : EnT (W.alloc (.cells mc 25)) W.heap.size W.heap.size (t.legs.l.length + 1) [] :=
      ⟨⟨mc, World.alloc_heap_new W _, HMsz.out.trans (by simp), fun i hi => by rw [hmc.out i hi]; simp⟩, Nat.le_refl _, fun r hr => by simp at hr, by simp⟩
    have HET0 := Lib.hid hET0; clear hET0
    have HX0 : Hid (Ext W (W.alloc (.cells mc 25))) := (Ext.refl W).alloc _
    clear d0 d1 d2 d3 d4 d5 d6 d7 d8 d9 d10 d11 hEq
    generalize W.alloc (.cells mc 25) = V at *
    go_loopw [34] (fun i wr => ∃ (k : Nat) (rows : List (SL Nat)), k ≤ t.legs.l.length + 1 ∧ i = .int .i64 (k : Int) ∧ Hid (rows.map (fun r => r.l) = (List.range k).map (placeR t)) ∧ Hid (EnT wr W.heap.size W.heap.size (t.legs.l.length + 1) rows) ∧ Hid (Ext W wr)) (fun i _ => t.legs.l.length + 1 - (intOf i).toNat)
    case atStart => exact ⟨0, [], Nat.zero_le _, rfl, rfl, HET0, HX0⟩
    case round =>
      clear HET0 HX0
      obtain ⟨wo, rfl⟩ : ∃ wo : World, wo = wr := ⟨_, rfl⟩
      obtain ⟨k, rows, hk, rfl, HRw, HE, HX⟩ := hrel
      have hrl : rows.length = k := by have := congrArg List.length HRw.out; simpa using this
      by_cases hlt : k < t.legs.l.length + 1
      · have dk : decide ((k : Int) < (t.legs.l.length : Int) + 1) = true := decide_eq_true (by omega)
        have HRl := Lib.hid hrl; clear hrl
        have cP := cell_at (HX.out.block HTW.out) 0
        simp only [List.getElem?_toArray, List.getElem?_cons_zero] at cP
        go_wp2_with fail
        clear cP
        go_loopw [39] (fun i wr => ∃ (m : Nat) (s : SL Nat), m ≤ t.P ∧ i = .int .i64 (m : Int) ∧ Hid (s.l = (List.range m).filter fun p => metR t (allR (cntR t)) k p) ∧ Hid (EnT wr W.heap.size W.heap.size (t.legs.l.length + 1) (rows ++ [s])) ∧ Hid (Ext W wr)) (fun i _ => t.P - (intOf i).toNat)
        case atStart => exact ⟨0, ⟨none, 0, []⟩, Nat.zero_le _, rfl, rfl, HE.out.next, HX⟩
        case round =>
          clear HE HX
          obtain ⟨wx, rfl⟩ : ∃ wx : World, wx = wr := ⟨_, rfl⟩
          obtain ⟨m, s, hm, rfl, HSl, HE, HX⟩ := hrel
          by_cases hltm : m < t.P
          · have dm : decide ((m : Int) < (t.P : Int)) = true := decide_eq_true (by omega)
            have cM := (HC.out.ext HX.out).cell k m (by omega) (by omega)
            have i1 : (0 : Int) ≤ k := by omega
            have i2 : (k : Int) < 11 := by omega
            have i3 : (0 : Int) ≤ m := by omega
            have i4 : (m : Int) < 12 := by omega
            have i5 : (k : Int) < (t.legs.l.length : Int) + 1 := by omega
            have HSu : Hid (((List.range (m + 1)).filter fun p => metR t (allR (cntR t)) k p) = s.l ++ if metR t (allR (cntR t)) k m then [m] else []) := by
              show _ = _; rw [List.range_succ, List.filter_append, ← HSl.out]; cases hbb : metR t (allR (cntR t)) k m <;> simp [hbb]
            have hsl12 : s.l.length ≤ 12 := by
              have h1 := congrArg List.length HSl.out
              have h2 := List.length_filter_le (fun p => metR t (allR (cntR t)) k p) (List.range m)
              rw [List.length_range] at h2; omega
            cases hb : metR t (allR (cntR t)) k m
            · rw [hb] at cM
              have HSn : Hid (s.l = (List.range (m + 1)).filter fun p => metR t (allR (cntR t)) k p) := by have := HSu.out; rw [hb] at this; show _ = _; rw [this]; simp
              clear hb
              go_wp2_with fail
              go_roundw
              case rel => exact ⟨m + 1, s, by omega, by go_num, HSn, HE, HX⟩
              case measure => simp [intOf]; omega
            · rw [hb] at cM
              have HSn : Hid (s.l ++ [m] = (List.range (m + 1)).filter fun p => metR t (allR (cntR t)) k p) := by have := HSu.out; rw [hb] at this; show _ = _; rw [this]; simp
              clear hb
              have cE := HE.out.cell k (by omega)
              rw [List.getElem?_append_right (by rw [HRl.out]; exact Nat.le_refl _), HRl.out, Nat.sub_self] at cE
              simp only [List.getElem?_cons_zero] at cE
              have fE := HE.out.frozen k
              have HO := Lib.hid (HE.out.own s (by simp)).2
              have hnw := new_cells wx (nums [m]) 3
              have HN := Lib.hid hnw; clear hnw
              have hb6 : W.heap.size ≤ wx.heap.size + 1 := by have := HX.out.size; omega
              have hm6 : s.l.length + 1 ≤ maxLen := by unfold maxLen; omega
              go_wp2_with (at_builtin; go_must (refine wpList_append_own_at _ rfl _ _ 25 rfl W.heap.size 3 i0 (.int .i64 0) 1 8 Tryz.underlying25 hi0 hz0 hz1 hz2 rfl (by decide) _ s.l.length (nums s.l) rfl (own_ext HO.out ((Ext.refl wx).alloc _)) ⟨wx.heap.size, 0, none⟩ 1 1 (nums [m]) rfl rfl HN.out (nums_one [m]) hm6 (by omega) (by simp; omega) ?_); intro v' w5 hown hgrow _ hblk;
                           obtain ⟨a3, c3, rfl⟩ := own_form hown; obtain ⟨⟨q1, q2⟩, q3⟩ := EnT.append HE.out (by rw [HRl.out]; omega) (by omega) hown hgrow hblk; rw [HRl.out] at q1 q2 q3; have Q3 := Lib.hid q3; have QX : Hid (Ext W w5) := ext_grown_of (HX.out.alloc _) hgrow (fun i hi => own_lt HO.out i hi); clear q3 hown hgrow hblk)
              go_roundw
              case rel => exact ⟨m + 1, ⟨a3, c3, s.l ++ [m]⟩, by omega, by go_num, HSn, Q3, QX.out.setCell (Nat.le_refl _) _⟩
              case measure => simp [intOf]; omega
          · have hme : m = t.P := by omega
            subst hme
            go_wp2
            go_roundw
            case rel => exact ⟨k + 1, rows ++ [s], by omega, by go_num, by show _ = _; rw [List.map_append, HRw.out, List.range_succ, List.map_append]; simp [HSl.out, placeR], HE, HX⟩
            case measure => simp [intOf]; omega
      · have hke : k = t.legs.l.length + 1 := by omega
        have HKe := Lib.hid hke
        have HRl := Lib.hid hrl; clear hrl
        subst hke
        go_wp2_with fail
        have hD2 : wo.heap[w3.heap.size]? = some (.deferred (some [])) := HX.out.block HD.out
        refine ⟨by simp, .inl ⟨_, _, rfl, run_takeDeferred hD2, ?_⟩⟩
        have hlt3 : w3.heap.size < W.heap.size := HLd'.out
        have KP : Keep (fun x => x ≠ w3.heap.size) wo (wo.putObj w3.heap.size (.deferred none)) := (Keep.refl _ wo).putObj _ _ (fun h => h rfl)
        have hE2 := HE.out.keep KP (fun i hi => by omega)
        refine ⟨_, results_tmp2 rfl _ _ _, some ⟨W.heap.size, 0, none⟩, t.legs.l.length + 1, rows, by rw [HRl.out]; rfl, ?_, fun r hr => own_sl (hE2.own r hr).2 (by have := (hE2.own r hr).1; omega), HRw.out, ?_⟩
        · refine ⟨by show rows.length ≤ _; rw [HRl.out]; exact Nat.le_refl _, by show rows.length ≤ _; rw [HRl.out]; omega, .inr ⟨W.heap.size, 0, rfl, fun i hi j hj => ?_⟩⟩
          obtain rfl : j = 0 := by omega
          have hi' : i < rows.length := hi
          have := hE2.cell i (by rw [HRl.out] at hi'; omega)
          rw [List.getElem?_eq_getElem hi'] at this
          simpa [slC] using this
        · exact ext_keep (HXW.out.trans HX.out) KP (fun i hi => by have := HLt.out; have := HS.out; omega)
end Go.Proofs.YtopjjcgmcieboaaGreatDoor
