/-
  order of package barter: the free stretches, in their order, in new memory. The land must lie in memory as told.
-/
import Derived.Test.YtlaolokakaheaaaSO
namespace Go.Proofs.Ytlaolokakaheaaa
open Go.RowKit

theorem OkS.wr {L : List St} (h : OkS L) {i : Nat} (hi : i < L.length) : Wr (at' L i) := by
  obtain ⟨⟨a, b⟩, c, d⟩ := h _ (at_mem hi)
  exact ⟨a, b, c, d⟩

set_option maxRecDepth 100000 in
set_option maxHeartbeats 1000000 in
theorem order1_any (x : Ld) (B i j : Nat) (w : World) (h : StL w x.s) (hk : OkS x.s.l) (hi : i < x.s.l.length) (hj : j < x.s.l.length) (hB : w.heap[B]? = some (.cells #[.slice x.s.a x.s.l.length x.s.c, .slice x.v.a x.v.l.length x.v.c] 26 (0, 0))) :
    Calls Try.prog 68 #[.int .i64 (i : Int), .int .i64 (j : Int), .pointer (some ⟨B, 0, none⟩)] w fun e w' => e = .returned (.int .i64 (cmpO x.s.l i j)) ∧ Ext w w' ∧ Dw w w' := by
  have h1 := hk.wr hi
  have h2 := hk.wr hj
  have HI := Lib.hid (fun (V : World) (k : Ext w V) => worths_d x i V (h.ext k) hi h1.n1 h1.n2 h1.s2)
  have HJ := Lib.hid (fun (V : World) (k : Ext w V) => worths_d x j V (h.ext k) hj h2.n1 h2.n2 h2.s2)
  have HA := Lib.hid (fun (V : World) (k : Ext w V) => isAhead_d x i j V (h.ext k) hi hj h1 h2)
  have HC := Lib.hid (fun (V : World) => cmp_any (i : Int) (j : Int) V)
  have HF : Hid (cmpO x.s.l i j = if lowN (at' x.s.l i) = lowN (at' x.s.l j) ∧ lowS (at' x.s.l i) = lowS (at' x.s.l j) then (if i < j then -1 else if j < i then 1 else 0) else if aheadF (at' x.s.l i) (at' x.s.l j) then -1 else 1) := rfl
  have HM : Hid (cmpI (i : Int) (j : Int) = if i < j then -1 else if j < i then 1 else 0) := by
    show _ = _
    unfold cmpI
    by_cases a : i < j
    · rw [if_pos a, if_pos (by omega)]
    · rw [if_neg a, if_neg (by omega)]
      by_cases b : j < i
      · rw [if_pos b, if_pos (by omega)]
      · rw [if_neg b, if_neg (by omega)]
  clear h hk hi hj h1 h2
  obtain ⟨⟨a, c, l⟩, ⟨va, vc, vl⟩⟩ := x
  dsimp only at *
  generalize aheadF (at' l i) (at' l j) = z at *
  generalize lowN (at' l i) = p at *
  generalize lowS (at' l i) = q at *
  generalize lowN (at' l j) = r at *
  generalize lowS (at' l j) = s at *
  generalize cmpO l i j = cc at *
  generalize cmpI (i : Int) (j : Int) = ci at *
  obtain ⟨l0, l1, -, -⟩ := blk_cells hB
  have HL := Lib.hid hB
  clear hB
  go_enter Try.func68, Try.ntmps68
  go_upto_region 1 with (fail)
  have c0 : ∀ E : XW w, E.w.cell? ⟨B, 0, none⟩ = some (.slice a l.length c) := fun E => E.cell l0
  have c1 : ∀ E : XW w, E.w.cell? ⟨B, 1, none⟩ = some (.slice va vl.length vc) := fun E => E.cell l1
  by_cases hp : p = r
  · subst hp
    by_cases hq : q = s
    · subst hq
      refine region_quietX (by kernel_rfl) (by kernel_rfl) ?_
      repeat (quiet_step (first
        | (go_at_call_of 61 (Value.int IntKind.i64 (i : Int)); exact Calls.quietX (HI.out _ (XW.x _)))
        | (go_at_call_of 61 (Value.int IntKind.i64 (j : Int)); exact Calls.quietX (HJ.out _ (XW.x _)))))
      refine wpQuiet_nil ?_
      rintro _ ⟨E, rfl⟩
      have HX := Lib.hid E.x
      have HD := Lib.hid E.d
      have m0 := c0 E
      have m1 := c1 E
      clear c0 c1
      generalize E.w = V at HX HD m0 m1 ⊢
      go_wp2_with (go_at_call 69; refine (HC.out _).mono ?_; rintro e w' ⟨rfl, rfl⟩)
      go_ret
      refine ⟨?_, HX.out, HD.out⟩
      rw [HF.out, if_pos (by simp), ← HM.out]; rfl

    · have hpr : ¬ (q : Int) = (s : Int) := by omega
      refine region_quietX (by kernel_rfl) (by kernel_rfl) ?_
      repeat (quiet_step (first
        | (go_at_call_of 61 (Value.int IntKind.i64 (i : Int)); exact Calls.quietX (HI.out _ (XW.x _)))
        | (go_at_call_of 61 (Value.int IntKind.i64 (j : Int)); exact Calls.quietX (HJ.out _ (XW.x _)))))
      refine wpQuiet_nil ?_
      rintro _ ⟨E, rfl⟩
      have HX := Lib.hid E.x
      have HD := Lib.hid E.d
      have m0 := c0 E
      have m1 := c1 E
      clear c0 c1
      generalize E.w = V at HX HD m0 m1 ⊢
      have HN : Hid (¬ (p = p ∧ q = s)) := Lib.hid (fun h => hq h.2)
      clear hpr
      cases z
      · go_wp2_with (go_at_call 62; refine (HA.out _ HX.out).mono ?_; rintro e w1 ⟨rfl, hx1, hd1⟩)
        go_ret
        refine ⟨?_, HX.out.trans hx1, HD.out.trans hd1⟩
        rw [HF.out, if_neg HN.out]; rfl
      · go_wp2_with (go_at_call 62; refine (HA.out _ HX.out).mono ?_; rintro e w1 ⟨rfl, hx1, hd1⟩)
        go_ret
        refine ⟨?_, HX.out.trans hx1, HD.out.trans hd1⟩
        rw [HF.out, if_neg HN.out]; rfl

  · have hpr : ¬ (p : Int) = (r : Int) := by omega
    refine region_quietX (by kernel_rfl) (by kernel_rfl) ?_
    repeat (quiet_step (first
      | (go_at_call_of 61 (Value.int IntKind.i64 (i : Int)); exact Calls.quietX (HI.out _ (XW.x _)))
      | (go_at_call_of 61 (Value.int IntKind.i64 (j : Int)); exact Calls.quietX (HJ.out _ (XW.x _)))))
    refine wpQuiet_nil ?_
    rintro _ ⟨E, rfl⟩
    have HX := Lib.hid E.x
    have HD := Lib.hid E.d
    have m0 := c0 E
    have m1 := c1 E
    clear c0 c1
    generalize E.w = V at HX HD m0 m1 ⊢
    have HN : Hid (¬ (p = r ∧ q = s)) := Lib.hid (fun h => hp h.1)
    clear hpr
    cases z
    · go_wp2_with (go_at_call 62; refine (HA.out _ HX.out).mono ?_; rintro e w1 ⟨rfl, hx1, hd1⟩)
      go_ret
      refine ⟨?_, HX.out.trans hx1, HD.out.trans hd1⟩
      rw [HF.out, if_neg HN.out]; rfl
    · go_wp2_with (go_at_call 62; refine (HA.out _ HX.out).mono ?_; rintro e w1 ⟨rfl, hx1, hd1⟩)
      go_ret
      refine ⟨?_, HX.out.trans hx1, HD.out.trans hd1⟩
      rw [HF.out, if_neg HN.out]; rfl


/-- The order's question, of a land in a box. -/
theorem order1_asks (x : Ld) (B : Nat) (D : Nat → Prop) (w0 : World) (h : StL w0 x.s) (hk : OkS x.s.l) (hd : InB D x.s) (hB : w0.heap[B]? = some (.cells #[.slice x.s.a x.s.l.length x.s.c, .slice x.v.a x.v.l.length x.v.c] 26 (0, 0))) (hD : D B) :
    AsksO x.s.l #[.pointer (some ⟨B, 0, none⟩)] D w0 :=
  fun i j hi hj W k => order1_any x B i j W (h.keep k hd) hk hi hj (k.heap hB hD)

theorem StL.lt {w : World} {s : SL St} (h : StL w s) : InB (fun k => k < w.heap.size) s := fun g off ha h0 => by
  obtain ⟨b, off', hb, c0, -⟩ := h.cells h0
  rw [ha] at hb; cases hb; exact lt_of_cell c0

theorem own_rebase {w : World} {base base' : Nat} {e : TypeId} {size : Nat} {v : Value} {n : Nat} {xs : List Value} (h : w.ownsRow base e size v n xs) (hb : ∀ k, v.ownBlock = some k → base' ≤ k) : w.ownsRow base' e size v n xs := by
  obtain ⟨h1, h2⟩ := h
  rcases h2 with h2 | ⟨g, cap, cur, rfl, hg, r⟩
  · exact ⟨h1, .inl h2⟩
  · exact ⟨h1, .inr ⟨g, cap, cur, rfl, hb g rfl, r⟩⟩

set_option maxRecDepth 100000 in
set_option maxHeartbeats 1000000 in
theorem order_any (x : Ld) (w : World) (h : StL w x.s) (hk : OkS x.s.l) (hl : x.s.l.length ≤ 16) :
    Calls Try.prog 51 #[x.val] w fun e w' => ∃ (a : Option Addr) (c : Nat), e = .returned (.slice a (orderF x.s.l).length c) ∧ w'.ownsRow w.heap.size 3 1 (.slice a (orderF x.s.l).length c) (orderF x.s.l).length (nums (orderF x.s.l)) ∧ Ext w w' := by
  have HFr := Lib.hid (fun (V : World) => free_any x V)
  have HGi := Lib.hid (fun (V : World) (pb ib : Nat) (k : Ext w V) (hw : IsWhich V x (.func (.func 65) #[x.val] #[]) pb ib) => free_gives (M := fun _ => True) hw (h.ext k) (fun _ _ _ _ => trivial) trivial)
  have HSo := Lib.hid (fun (V : World) (k : Ext w V) (hB : V.heap[w.heap.size]? = some (.cells #[.slice x.s.a x.s.l.length x.s.c, .slice x.v.a x.v.l.length x.v.c] 26 (0, 0))) (a : Option Addr) (c : Nat) (base : Nat) (hb : w.heap.size < base) (ho : V.ownsRow base 3 1 (.slice a (freeF x.s.l).length c) (freeF x.s.l).length (nums (freeF x.s.l))) =>
    sort_order x.s.l hk #[.pointer (some ⟨w.heap.size, 0, none⟩)] a c V (freeF x.s.l) rfl (own_mono ho (Nat.zero_le _)) (order1_asks x w.heap.size _ V (h.ext k) hk (fun g off hg h0 e => by have := h.lt g off hg h0; have := own_lt ho g e; omega) hB (fun e => by have := own_lt ho _ e; omega)) (by have := List.length_filter_le (fun i => (at' x.s.l i).free) (List.range x.s.l.length); rw [List.length_range] at this; show (freeF x.s.l).length ≤ 1000; unfold freeF; omega))
  have HLn : Hid ((freeF x.s.l).length ≤ 1000) := by have := List.length_filter_le (fun i => (at' x.s.l i).free) (List.range x.s.l.length); rw [List.length_range] at this; show (freeF x.s.l).length ≤ 1000; unfold freeF; omega
  have HPl : Hid ((orderF x.s.l).length = (freeF x.s.l).length) := order_perm.length_eq
  clear h hk hl
  obtain ⟨⟨sa, sc, L⟩, ⟨va, vc, vl⟩⟩ := x
  dsimp only at *
  rw [HPl.out]
  clear HPl
  generalize orderF L = ol at *
  have HX0 : Hid (Ext w (w.alloc (.cells #[.slice sa L.length sc, .slice va vl.length vc] 26))) := (Ext.refl w).alloc _
  have HB0 : Hid ((w.alloc (.cells #[.slice sa L.length sc, .slice va vl.length vc] 26)).heap[w.heap.size]? = some (.cells #[.slice sa L.length sc, .slice va vl.length vc] 26 (0, 0))) := alloc_new rfl
  have HS0 : Hid ((w.alloc (.cells #[.slice sa L.length sc, .slice va vl.length vc] 26)).heap.size = w.heap.size + 1) := World.size_alloc _ _
  go_enter Try.func51, Try.ntmps51
  go_upto_region 1 with (fail)
  generalize w.alloc (.cells #[.slice sa L.length sc, .slice va vl.length vc] 26) = V0 at *
  obtain ⟨l0, l1, -, -⟩ := blk_cells HB0.out
  go_wp2_with (first
    | (go_at_call 50; refine (HFr.out _).mono ?_; rintro e w1 ⟨pb, ib, rfl, -, -, hx1, hI⟩; have HX1 := Lib.hid (HX0.out.trans hx1); have HB1 := Lib.hid (hx1.block HB0.out); have HG1 := Lib.hid (HGi.out _ _ _ HX1.out hI); have HS1 : Hid (w.heap.size < w1.heap.size) := (by have := hx1.size; have := HS0.out; show _ < _; omega); clear hx1 hI l0 l1)
    | (go_at_call 66; refine (collect_any 71 _ (freeF L) _ enters_71 HG1.out HLn.out).mono ?_; rintro e w2 ⟨a, c, rfl, ho, hx2⟩; have HX2 := Lib.hid (HX1.out.trans hx2); have HB2 := Lib.hid (hx2.block HB1.out); have HO2 := Lib.hid ho; clear ho hx2)
    | (go_at_call 67; refine (HSo.out _ HX2.out HB2.out a c _ HS1.out HO2.out).mono ?_; rintro e w3 ⟨rfl, ho3, hg3⟩; have HO3 := Lib.hid ho3; have HG3 := Lib.hid hg3; clear ho3 hg3))
  go_ret
  refine ⟨a, c, rfl, ?_, ext_grown_of HX2.out HG3.out (fun k e => by have := own_lt HO2.out k e.symm.symm; have := HS1.out; omega)⟩
  exact own_rebase HO3.out (fun k e => by have := own_lt HO2.out k e; have := HS1.out; omega)
end Go.Proofs.Ytlaolokakaheaaa
