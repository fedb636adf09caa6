/-
  Readings of package treaty returns the readings in which some line agrees, in new memory, and turns nothing that was there. The treaty must lie in memory as told and be valid.
-/
import Derived.Test.YtopjjcgmcieboaaGreatDoorIc
import Derived.Test.YtopjjcgmcieboaaGreatDoorRb
import Derived.Test.YtopjjcgmcieboaaGreatDoorFa
import Derived.Test.YtopjjcgmcieboaaGreatDoorS
import Derived.Test.YtopjjcgmcieboaaGreatDoorE
import Derived.Maps.AppendAt
namespace Go.Proofs.YtopjjcgmcieboaaGreatDoor
open Go.RowKit
attribute [local go_sem] Oper.semAt_some

set_option maxHeartbeats 1000000 in
theorem readings_any (t : TV) (w : World) :
    Calls Tryz.prog 32 #[t.v] w fun e w' => e = .returned (.func (.func 71) #[] #[.pointer (some ⟨w.heap.size, 0, none⟩)]) ∧ Ext w w' ∧ TBox w' w.heap.size t ∧ w'.heap.size = w.heap.size + 1 := by
  go_enter Tryz.func32, Tryz.ntmps32
  go_wp2
  go_ret
  exact ⟨rfl, (Ext.refl w).alloc _, World.alloc_heap_new w _, World.size_alloc _ _⟩

theorem enters_71 : ∀ args w, (callFunc 71 args).run Tryz.prog w = .ok (.enter 71 args) w := fun args w => Proofs.enters_of Tryz.func71 (by kernel_rfl) rfl args w

/-- A box holds a slice of lists, all of it in memory from block hi on. -/
def Coll (W : World) (b hi : Nat) (ls : List (List Nat)) : Prop :=
  ∃ (a : Option Addr) (c : Nat) (rows : List (SL Nat)), W.heap[b]? = some (.cells #[.slice a rows.length c] 32 (0, 0)) ∧ W.ownsRow hi 25 1 (.slice a rows.length c) rows.length (rows.map fun r => r.v) ∧
    (∀ r ∈ rows, r.l.length ≤ 1000000 ∧ Own1 W hi r) ∧ rows.map (fun r => r.l) = ls
theorem Coll.keep {D : Nat → Prop} {A B : World} {b hi : Nat} {ls : List (List Nat)} (h : Coll A b hi ls) (k : Keep D A B) (hb : D b) (hd : ∀ i, hi ≤ i → D i) : Coll B b hi ls := by
  obtain ⟨a, c, rows, h1, h2, h3, h4⟩ := h
  exact ⟨a, c, rows, k.heap h1 hb, own_keep h2 k hd, fun r hr => ⟨(h3 r hr).1, own_keep (h3 r hr).2 k hd⟩, h4⟩
theorem Coll.ext {A B : World} {b hi : Nat} {ls : List (List Nat)} (h : Coll A b hi ls) (k : Ext A B) : Coll B b hi ls := h.keep (D := fun _ => True) (Keep.of_ext k) trivial (fun _ _ => trivial)
theorem Coll.nil {W : World} {b hi : Nat} (h : W.heap[b]? = some (.cells #[.slice none 0 0] 32 (0, 0))) : Coll W b hi [] :=
  ⟨none, 0, [], h, World.ownsRow_nil _ _ _ _, fun r hr => by simp at hr, rfl⟩
/-- What a slice of lists reads as. -/
theorem Coll.is {W : World} {b hi : Nat} {ls : List (List Nat)} (h : Coll W b hi ls) (hl : ls.length ≤ 1000000) : ∃ (a : Option Addr) (c : Nat) (rows : List (SL Nat)), W.heap[b]? = some (.cells #[.slice a rows.length c] 32 (0, 0)) ∧
    IsSl 1 slC W ⟨a, c, rows⟩ ∧ (∀ r ∈ rows, IsSl 1 num W r) ∧ rows.map (fun r => r.l) = ls := by
  obtain ⟨a, c, rows, h1, h2, h3, h4⟩ := h
  have hf : flat 1 slC rows = rows.map fun r => r.v := by simp [flat, slC, List.range_succ, ← List.map_eq_flatMap]
  rw [← hf] at h2
  exact ⟨a, c, rows, h1, own_slG h2 (by rw [← h4] at hl; simpa using hl), fun r hr => own_sl (h3 r hr).2 (h3 r hr).1, h4⟩

theorem own_block {w : World} {base : Nat} {e : TypeId} {size : Nat} {v : Value} {n : Nat} {xs : List Value} (h : w.ownsRow base e size v n xs) (g : Nat) (hg : v.ownBlock = some g) : ∃ cur : Array Value, w.heap[g]? = some (.cells cur e (0, 0)) := by
  obtain ⟨h1, h2⟩ := h
  rcases h2 with ⟨rfl, _⟩ | ⟨g', cap, cur, rfl, hb, hh, r⟩
  · simp [Value.ownBlock] at hg
  · obtain rfl : g' = g := by simpa [Value.ownBlock] using hg
    exact ⟨cur, hh⟩
/-- Two owned rows of different types lie in different blocks. -/
theorem own_apart {w : World} {base base' : Nat} {e e' : TypeId} {size size' : Nat} {v v' : Value} {n n' : Nat} {xs xs' : List Value} (h : w.ownsRow base e size v n xs) (h' : w.ownsRow base' e' size' v' n' xs') (hne : e ≠ e') : v.ownBlock = none ∨ v.ownBlock ≠ v'.ownBlock := by
  cases hv : v.ownBlock with
  | none => exact .inl rfl
  | some g =>
    refine .inr fun hv' => ?_
    obtain ⟨c1, h1⟩ := own_block h g hv
    obtain ⟨c2, h2⟩ := own_block h' g hv'.symm
    rw [h1] at h2; simp at h2; exact hne h2.2
theorem own_grown {w w' : World} {base : Nat} {e : TypeId} {size : Nat} {v : Value} {n : Nat} {xs : List Value} {row : Option Nat} (h : w.ownsRow base e size v n xs) (g : w.grownBy w' row) (hr : v.ownBlock = none ∨ v.ownBlock ≠ row) : w'.ownsRow base e size v n xs := by
  obtain ⟨h1, h2⟩ := h
  rcases h2 with h2 | ⟨g', cap, cur, rfl, hg, hh, r⟩
  · exact ⟨h1, .inl h2⟩
  · refine ⟨h1, .inr ⟨g', cap, cur, rfl, hg, ?_, r⟩⟩
    refine (g.block g' (Array.getElem?_eq_some_iff.1 hh).1 ?_).trans hh
    rcases hr with hr | hr
    · simp [Value.ownBlock] at hr
    · simpa [Value.ownBlock] using hr
theorem own_box {w : World} {base : Nat} {e : TypeId} {size : Nat} {v : Value} {n : Nat} {xs : List Value} (h : w.ownsRow base e size v n xs) {b : Nat} {u : Value} {e' : TypeId} (hb : w.heap[b]? = some (.cells #[u] e' (0, 0))) (hne : e ≠ e') (x : Value) : (w.setCell ⟨b, 0, none⟩ x).ownsRow base e size v n xs := by
  refine own_grown h (row := some b) (grownBy_setCell' w b x) ?_
  cases hv : v.ownBlock with
  | none => exact .inl rfl
  | some g =>
    refine .inr fun e1 => ?_
    obtain ⟨c1, h1⟩ := own_block h g hv
    cases e1
    rw [h1] at hb; simp at hb; exact hne hb.2

/-- The box behind an append of one list. -/
theorem Coll.append {W w1 : World} {b hi : Nat} {a : Option Addr} {c : Nat} {rows : List (SL Nat)} {s : SL Nat} {v' : Value} {tmp : Obj}
    (h1 : W.heap[b]? = some (.cells #[.slice a rows.length c] 32 (0, 0))) (h2 : W.ownsRow hi 25 1 (.slice a rows.length c) rows.length (rows.map fun r => r.v)) (h3 : ∀ r ∈ rows, r.l.length ≤ 1000000 ∧ Own1 W hi r)
    (hs : s.l.length ≤ 1000000 ∧ Own1 W hi s)
    (hown : w1.ownsRow hi 25 1 v' (rows.length + 1) ((rows.map fun r => r.v) ++ [s.v])) (hg : (W.alloc tmp).grownBy w1 (Value.slice a rows.length c).ownBlock) :
    w1.heap[b]? = some (.cells #[.slice a rows.length c] 32 (0, 0)) ∧ Coll (w1.setCell ⟨b, 0, none⟩ v') b hi ((rows ++ [s]).map fun r => r.l) ∧ Keep (fun k => k < hi ∧ k ≠ b) W (w1.setCell ⟨b, 0, none⟩ v') := by
  obtain ⟨a', c', rfl⟩ := own_form hown
  have hx := (Ext.refl W).alloc tmp
  have hb1 : w1.heap[b]? = some (.cells #[.slice a rows.length c] 32 (0, 0)) := by
    have h1' := hx.block h1
    refine (hg.block b (Array.getElem?_eq_some_iff.1 h1').1 ?_).trans h1'
    intro e
    obtain ⟨cur, hc⟩ := own_block h2 b e.symm
    rw [h1] at hc; simp at hc
  have step : ∀ r : SL Nat, Own1 W hi r → Own1 (w1.setCell ⟨b, 0, none⟩ (.slice a' (rows.length + 1) c')) hi r := fun r hr => by
    have e1 : Own1 (W.alloc tmp) hi r := own_keep hr (D := fun _ => True) (Keep.of_ext hx) (fun _ _ => trivial)
    have e2 : Own1 w1 hi r := own_grown e1 hg (own_apart hr h2 (by decide))
    exact own_box e2 hb1 (by decide) _
  refine ⟨hb1, ⟨a', c', rows ++ [s], ?_, ?_, ?_, rfl⟩, ?_⟩
  · rw [List.length_append]; exact heap_setCell_same hb1 _
  · rw [List.length_append, List.map_append]; exact own_box hown hb1 (by decide) _
  · intro r hr
    rcases List.mem_append.1 hr with hr | hr
    · exact ⟨(h3 r hr).1, step r (h3 r hr).2⟩
    · simp only [List.mem_singleton] at hr; subst hr; exact ⟨hs.1, step r hs.2⟩
  · refine ((Keep.of_ext hx).grown hg (fun k e _ => ?_)).setCell _ _ (fun _ h => h.2 rfl)
    intro hk
    have := own_lt h2 k e.symm.symm
    omega

theorem seqR_ok : ∀ {k : Nat} {c r : List Nat}, OkR c r → ∀ x ∈ seqR c k r, OkR c x
  | 0, c, r, _, x, hx => by simp [seqR] at hx
  | k + 1, c, r, h, x, hx => by
    rcases hi : incR c r with ⟨b, q⟩
    have h1 := (incR_ok h).1
    rw [hi] at h1
    cases b with
    | true => rw [seqR_over hi] at hx; simp only [List.mem_singleton] at hx; rw [hx]; exact h
    | false =>
      rw [seqR_next hi] at hx
      simp only [List.mem_cons] at hx
      rcases hx with rfl | hx
      · exact h
      · exact seqR_ok h1 x hx
theorem allR_rd {t : TV} (hk : OkT t) {r : List Nat} (h : r ∈ allR (cntR t)) : RdOk t r := by
  have h1 := seqR_ok (okR_zero (c := cntR t) (fun x hx => by
    simp only [cntR, List.mem_map] at hx; obtain ⟨s, hs, rfl⟩ := hx; have := (hk.word s hs).1; omega)) r h
  have hl := okR_length h1
  rw [cntR_length] at hl
  exact ⟨hl, fun k hk1 hk2 => by have := okR_get h1 k hk1 (by rw [cntR_length]; exact hk2); simpa [cntR] using this⟩
theorem seqR_length : ∀ (k : Nat) (c r : List Nat), (seqR c k r).length ≤ k
  | 0, _, _ => by simp [seqR]
  | k + 1, c, r => by
    rcases hi : incR c r with ⟨b, q⟩
    cases b with
    | true => rw [seqR_over hi]; simp
    | false => rw [seqR_next hi]; have := seqR_length k c q; simp only [List.length_cons]; omega
theorem prodR_le : ∀ (c : List Nat), (∀ x ∈ c, x ≤ 4) → prodR c ≤ 4 ^ c.length
  | [], _ => by simp [prodR]
  | x :: c, h => by
    have h1 := prodR_le c (fun y hy => h y (by simp [hy]))
    have h2 := h x (by simp)
    simp only [prodR, List.length_cons, Nat.pow_succ]
    rw [Nat.mul_comm]
    exact Nat.mul_le_mul h1 h2
theorem allR_length {t : TV} (hk : OkT t) : (allR (cntR t)).length ≤ 4096 := by
  have h2 : (allR (cntR t)).length ≤ prodR (cntR t) := seqR_length _ _ _
  have h3 := prodR_le (cntR t) (fun x hx => by
    simp only [cntR, List.mem_map] at hx; obtain ⟨s, hs, rfl⟩ := hx; exact (hk.word s hs).2)
  have h4 : 4 ^ (cntR t).length ≤ 4 ^ 6 := Nat.pow_le_pow_right (by decide) (by rw [cntR_length]; exact hk.words)
  omega
theorem pre_length {t : TV} (hk : OkT t) {pre : List (List Nat)} {x : List Nat} (h : (pre ++ [x]) <+: allR (cntR t)) : pre.length < 4096 := by
  have h1 := h.length_le
  have h2 : (allR (cntR t)).length ≤ prodR (cntR t) := seqR_length _ _ _
  have h3 := prodR_le (cntR t) (fun x hx => by
    simp only [cntR, List.mem_map] at hx; obtain ⟨s, hs, rfl⟩ := hx; exact (hk.word s hs).2)
  have h4 : 4 ^ (cntR t).length ≤ 4 ^ 6 := Nat.pow_le_pow_right (by decide) (by rw [cntR_length]; exact hk.words)
  simp only [List.length_append, List.length_cons, List.length_nil] at h1
  omega
theorem mem_of_prefix {pre all : List (List Nat)} {x : List Nat} (h : (pre ++ [x]) <+: all) : x ∈ all := h.subset (by simp)

/-- The caller's boxes in a loop over readings: one box that is written. -/
abbrev But (n b : Nat) (k : Nat) : Prop := k < n ∧ k ≠ b

set_option maxRecDepth 100000 in
set_option maxHeartbeats 2000000 in
theorem Readings_ok (t : TV) (w : World) (ht : IsT w t) (hk : OkT t) :
    Calls Tryz.prog 9 #[t.v] w fun e w' => ∃ (a : Option Addr) (c : Nat) (rows : List (SL Nat)), e = .returned (.tuple #[.slice a rows.length c, .int .i64 0]) ∧ IsSl 1 slC w' ⟨a, c, rows⟩ ∧ (∀ r ∈ rows, IsSl 1 num w' r) ∧
      rows.map (fun r => r.l) = (allR (cntR t)).filter (fun r => hasB t (leadsOf t r)) ∧ Ext w w' := by
  have HT := Lib.hid ht; clear ht
  have HK := Lib.hid hk; clear hk
  refine callsIn_wide.1 (callsIn_of_wp_marks (n := 3) Tryz.func9 rfl trivial ?_ rfl)
  simp only [Tryz.ntmps9, List.size_toArray, List.length_cons, List.length_nil, Nat.reduceAdd, Nat.reduceSub, Array.replicate_succ, Array.replicate_zero, List.push_toArray, List.append_toArray, List.nil_append, List.cons_append]
  refine wpIn_wide.2 ?_
  go_wp2_with fail
  refine (check_ok t _ (HT.out.ext ((Ext.refl w).alloc _)) HK.out).mono ?_
  rintro e w1 ⟨rfl, hx1⟩
  have hb1 := hx1.block (World.alloc_heap_new w _)
  have HX1 : Hid (Ext w w1) := ((Ext.refl w).alloc _).trans hx1
  have HTB1 : Hid (TBox w1 w.heap.size t) := hb1
  have hlt1 : w.heap.size < w1.heap.size := by have := hx1.size; rw [World.size_alloc] at this; omega
  have HLt := Lib.hid hlt1
  clear hx1
  have c0 := cell_at hb1 0
  have c1 := cell_at hb1 1
  have c2 := cell_at hb1 2
  have c3 := cell_at hb1 3
  have c4 := cell_at hb1 4
  simp only [List.getElem?_toArray, List.getElem?_cons_succ, List.getElem?_cons_zero] at c0 c1 c2 c3 c4
  clear hb1
  go_wp2_with fail
  clear c0 c1 c2 c3 c4
  have hbL := World.alloc_heap_new w1 (.cells #[.slice none 0 0] 32)
  have HX2 : Hid (Ext w1 (w1.alloc (.cells #[.slice none 0 0] 32))) := (Ext.refl w1).alloc _
  have hs2 : (w1.alloc (.cells #[.slice none 0 0] 32)).heap.size = w1.heap.size + 1 := World.size_alloc _ _
  generalize w1.alloc (.cells #[.slice none 0 0] 32) = w2 at *
  refine (readings_any t w2).mono ?_
  rintro e w3 ⟨rfl, hx3, hB3, hs3⟩
  have HX3 : Hid (Ext w2 w3) := hx3
  have HL3 : Hid (w3.heap[w1.heap.size]? = some (.cells #[.slice none 0 0] 32 (0, 0))) := hx3.block hbL
  have HB3 := Lib.hid hB3
  have HS : Hid (w2.heap.size = w1.heap.size + 1 ∧ w3.heap.size = w1.heap.size + 2) := ⟨hs2, by omega⟩
  clear hx3 hbL hB3 hs2 hs3
  go_wp2_with fail
  refine (wpIn_wide (n := 3)).1 ?_
  refine wp_rangeFuncT (a₁ := ?a1) rfl enters_71 (readings1_gives t w2.heap.size w w3 (fun k => k ≠ w1.heap.size) HT.out HK.out (HX1.out.trans (HX2.out.trans HX3.out)) HB3.out (fun k h => by have := HLt.out; omega) (by have := HS.out; omega)) rfl
    (fun hi pre W => Coll W w1.heap.size hi (pre.filter fun r => hasB t (leadsOf t r)) ∧ Keep (But w3.heap.size w1.heap.size) w3 W) (fun _ _ _ _ => False)
    ?_ (fun _ _ _ _ _ _ h _ => h) ?_ ?assign ?body ?done ?stop
  case assign =>
    intro l s W K hK
    gi_wp2
    exact hK
  · intro hi s A B hh h hk
    have := HS.out
    exact ⟨h.1.keep hk (.inl (by omega)) (fun i hi => .inr hi), h.2.trans (hk.mono (fun k _ h => .inl h.1))⟩
  · intro hi hh
    exact ⟨Coll.nil HL3.out, Keep.refl _ _⟩
  case body =>
    rintro l hi pre s W hh hhW ⟨hC, hKp⟩ hpre hsl hown
    have hS := HS.out
    have hLt := HLt.out
    have hXw : Ext w w3 := HX1.out.trans (HX2.out.trans HX3.out)
    have HXW : Hid (Ext w W) := ext_keep hXw hKp (fun i hi => ⟨by omega, by omega⟩)
    have HTW : Hid (TBox W w.heap.size t) := hKp.heap ((HX2.out.trans HX3.out).block HTB1.out) ⟨by omega, by omega⟩
    have hmem := mem_of_prefix hpre
    have HRd := Lib.hid (allR_rd HK.out hmem)
    have HIs := Lib.hid (own_sl hown hsl)
    have HOs := Lib.hid hown
    have HSl := Lib.hid hsl
    have HPre := Lib.hid hpre
    have hpl := pre_length HK.out hpre
    clear hpre hown hmem hXw
    have c0 := cell_at HTW.out 0
    have c1 := cell_at HTW.out 1
    have c2 := cell_at HTW.out 2
    have c3 := cell_at HTW.out 3
    have c4 := cell_at HTW.out 4
    simp only [List.getElem?_toArray, List.getElem?_cons_succ, List.getElem?_cons_zero] at c0 c1 c2 c3 c4
    obtain ⟨a, c, rows, h1, h2, h3, h4⟩ := hC
    have H1 := Lib.hid h1; clear h1
    have H2 := Lib.hid h2; clear h2
    have H3 := Lib.hid h3; clear h3
    have hrl : rows.length ≤ pre.length := by
      have := congrArg List.length h4; simp only [List.length_map] at this; rw [this]; exact List.length_filter_le _ _
    have H4 := Lib.hid h4; clear h4
    have HKp := Lib.hid hKp; clear hKp
    obtain ⟨i0, hi0, hz0, hz1, hz2⟩ := info_parts info25
    rcases hbb : hasB t (leadsOf t s.l) with _ | _
    · have HBb := Lib.hid hbb; clear hbb
      gi_wp2_with (first
        | (refine ⟨trivial, ?_⟩; gi_at_call 33; refine (CallsIn.inRound l (callsIn_wide.2 (read_any t s W (HT.out.ext HXW.out) HK.out HIs.out HRd.out))).mono ?_; clear c0 c1 c2 c3 c4; rintro e v1 ⟨p, rfl, hw1, hx1⟩; have HW1 := Lib.hid hw1; have HY1 := Lib.hid hx1; clear hw1 hx1)
        | (refine ⟨trivial, ?_⟩; gi_at_call 37; refine (CallsIn.inRound l (callsIn_wide.2 (hasLine_any p t (leadsOf t s.l) v1 HW1.out (HT.out.ext (HXW.out.trans HY1.out)).starts HK.out.p2 HK.out.legs HK.out.start.1))).mono ?_; rintro e v2 ⟨he, hx2⟩; rw [HBb.out] at he; subst he; have HY2 : Hid (Ext W v2) := HY1.out.trans hx2; have HB2 : Hid (v2.heap[w1.heap.size]? = some (.cells #[.slice a rows.length c] 32 (0, 0))) := HY2.out.block H1.out; have hcb : v2.cell? ⟨w1.heap.size, 0, none⟩ = some (.slice a rows.length c) := (cell_at HB2.out 0).trans rfl; clear hx2; have HO2 : Hid (v2.ownsRow hi 25 1 (.slice a rows.length c) rows.length (rows.map fun r => r.v)) := own_ext H2.out HY2.out; have hsz2 : hi ≤ v2.heap.size := Nat.le_trans hhW HY2.out.size))
      refine ⟨Keep.of_ext HY2.out, Coll.ext (A := W) ⟨a, c, rows, H1.out, H2.out, H3.out, ?_⟩ HY2.out, HKp.out.ext HY2.out⟩
      rw [H4.out, List.filter_append]; simp [HBb.out]
    · have HBb := Lib.hid hbb; clear hbb
      have hm1 : rows.length + 1 ≤ maxLen := by unfold maxLen; omega
      gi_wp2_with (first
        | (refine ⟨trivial, ?_⟩; gi_at_call 33; refine (CallsIn.inRound l (callsIn_wide.2 (read_any t s W (HT.out.ext HXW.out) HK.out HIs.out HRd.out))).mono ?_; clear c0 c1 c2 c3 c4; rintro e v1 ⟨p, rfl, hw1, hx1⟩; have HW1 := Lib.hid hw1; have HY1 := Lib.hid hx1; clear hw1 hx1)
        | (refine ⟨trivial, ?_⟩; gi_at_call 37; refine (CallsIn.inRound l (callsIn_wide.2 (hasLine_any p t (leadsOf t s.l) v1 HW1.out (HT.out.ext (HXW.out.trans HY1.out)).starts HK.out.p2 HK.out.legs HK.out.start.1))).mono ?_; rintro e v2 ⟨he, hx2⟩; rw [HBb.out] at he; subst he; have HY2 : Hid (Ext W v2) := HY1.out.trans hx2; have HB2 : Hid (v2.heap[w1.heap.size]? = some (.cells #[.slice a rows.length c] 32 (0, 0))) := HY2.out.block H1.out; have hcb : v2.cell? ⟨w1.heap.size, 0, none⟩ = some (.slice a rows.length c) := (cell_at HB2.out 0).trans rfl; clear hx2; have HO2 : Hid (v2.ownsRow hi 25 1 (.slice a rows.length c) rows.length (rows.map fun r => r.v)) := own_ext H2.out HY2.out; have hsz2 : hi ≤ v2.heap.size := Nat.le_trans hhW HY2.out.size)
        | (gi_at_builtin; refine wpListIn_append_own _ rfl _ _ 32 rfl hi 25 i0 (.slice none 0 0) 1 24 Tryz.underlying32 hi0 hz0 hz1 hz2 rfl (by decide) _ rows.length (rows.map fun r => r.v) rfl (HO2.out.alloc _) ⟨v2.heap.size, 0, none⟩ 1 1 [s.v] rfl rfl (cell_one_new _ _ _) (by simp [Value.oneCell']) hm1 (by omega) (by simp; omega) ?_; intro v' w5 hown5 hgrow5 _;
           obtain ⟨q1, q2, q3⟩ := Coll.append HB2.out HO2.out (fun r hr => ⟨(H3.out r hr).1, own_ext (H3.out r hr).2 HY2.out⟩) ⟨HSl.out, own_ext HOs.out HY2.out⟩ hown5 hgrow5;
           obtain ⟨g', cap', rfl⟩ := ownsRow_succ hown5; have hcb5 : w5.cell? ⟨w1.heap.size, 0, none⟩ = some (.slice a rows.length c) := (cell_at q1 0).trans rfl; have hfb5 : w5.frozen? ⟨w1.heap.size, 0, none⟩ = false := (by simp [World.frozen?, q1]); have Q2 := Lib.hid q2; have Q3 := Lib.hid q3; clear q1 q2 q3 hown5 hgrow5))
      refine ⟨(Keep.of_ext HY2.out).trans (Q3.out.mono (fun k hk h => ?_)), ?_, (HKp.out.ext HY2.out).trans (Q3.out.mono (fun k _ h => ⟨by have := h.1; omega, h.2⟩))⟩
      · rcases h with h | h
        · exact ⟨by omega, h.2⟩
        · exact ⟨h.2, by omega⟩
      · have := Q2.out
        rw [List.map_append, H4.out] at this
        rw [List.filter_append]; simpa [HBb.out] using this
  case stop =>
    rintro hi c pre W hh hp h
    exact h.elim
  case done =>
    rintro hi W hh ⟨hC, hKp⟩ hD
    have hS := HS.out
    have hLt := HLt.out
    have hC' := hC.keep (D := fun k => k ≠ w3.heap.size) ((Keep.refl _ W).putObj w3.heap.size (.deferred none) (fun h => h rfl)) (by omega) (fun i hi => by omega)
    have hlen : ((allR (cntR t)).filter fun r => hasB t (leadsOf t r)).length ≤ 1000000 := by
      have h1 := List.length_filter_le (fun r => hasB t (leadsOf t r)) (allR (cntR t))
      have h2 := allR_length HK.out
      omega
    obtain ⟨a, c, rows, h1, h2, h3, h4⟩ := hC'.is hlen
    have hb : W.heap[w1.heap.size]? = some (.cells #[.slice a rows.length c] 32 (0, 0)) := (World.putObj_heap_other (by omega)).symm.trans h1
    have hcb : W.cell? ⟨w1.heap.size, 0, none⟩ = some (.slice a rows.length c) := (cell_at hb 0).trans rfl
    have hXw : Ext w w3 := HX1.out.trans (HX2.out.trans HX3.out)
    have HXW : Hid (Ext w (W.putObj w3.heap.size (.deferred none))) := ext_keep (ext_keep hXw hKp (fun i hi => ⟨by omega, by omega⟩)) ((Keep.refl (fun k => k ≠ w3.heap.size) W).putObj _ _ (fun h => h rfl)) (fun i hi => by omega)
    have H2 := Lib.hid h2; clear h2
    have H3 := Lib.hid h3; clear h3
    have H4 := Lib.hid h4; clear h4
    have HD := Lib.hid hD; clear hD
    clear hC hC' h1 hb hKp hXw hlen
    simp only [Exit.inBlock, Exit.then]
    go_wp2_with fail
    refine ⟨by simp, .inl ⟨_, _, rfl, run_takeDeferred HD.out, ?_⟩⟩
    exact ⟨_, results_tmp2 rfl _ _ _, a, c, rows, rfl, H2.out, H3.out, H4.out, HXW.out⟩
end Go.Proofs.YtopjjcgmcieboaaGreatDoor
