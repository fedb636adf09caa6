/-
  slices.SortFunc puts the free stretches of a land into their order (package barter). The stretches must lie in memory as told.
-/
import Derived.Test.YtlaolokakaheaaaDR
import Derived.Test.YtlaolokakaheaaaCO
import Derived.Test.YtlaolokakaheaaaBU
import Derived.Shelf.SlSortCmp.NoneTotal
import Derived.Ground.SlsfProg
import Derived.Sort.OwnSorted
namespace Go.Proofs
open Go.Shelf
shelf_lay_g SlLaysF.n6 Slsf 6 at Try 67 as Try.sortOrderL
end Go.Proofs
namespace Go.Proofs.Ytlaolokakaheaaa
open Go.RowKit Go.Sort

section
variable {α : Type} [Inhabited α] (enc : α → Value)
theorem holdsG {w : World} {g : Nat} {cur : Array Value} {e : TypeId} {ss : List α} (hb : w.heap[g]? = some (.cells cur e (0, 0))) (ht : cur.toList.take ss.length = ss.map enc) : Holds enc w g 0 ss.toArray := by
  intro j hj
  have hj' : j < ss.length := by simpa using hj
  refine ⟨?_, by simp [World.frozen?, hb]⟩
  have h1 : (cur.toList.take ss.length)[j]? = (ss.map enc)[j]? := by rw [ht]
  rw [List.getElem?_take_of_lt hj'] at h1
  simp only [World.cell?, hb, Nat.zero_add]
  simp only [Option.isSome_none, Bool.false_eq_true, if_false]
  rw [← Array.getElem?_toList, h1]
  simp [hj']
theorem heapG {w : World} {g n : Nat} {os : Array Obj} {cur : Array Value} {e : TypeId} {fr : Nat × Nat} (d : Array α) (hb : w.heap[g]? = some (.cells cur e fr)) :
    (sortWorld enc w g 0 n d os).heap[g]? = some (.cells (putCells enc 0 d cur) e fr) := by
  have hg : g < w.heap.size := (Array.getElem?_eq_some_iff.1 hb).1
  unfold sortWorld
  rw [heap_grow_old _ _ (by simpa using hg)]
  simp [putRow, mapBlock, Sort.ahead, Array.getElem?_modify, hb, onCells]
theorem grownG {w : World} {g n : Nat} {os : Array Obj} (d : Array α) : w.grownBy (sortWorld enc w g 0 n d os) (some g) := by
  unfold sortWorld
  refine ⟨rfl, rfl, rfl, by simp, fun k hk hne => ?_⟩
  rw [heap_grow_old _ _ (by simpa using hk)]
  have : g ≠ k := fun e => hne (by rw [e])
  simp [putRow, mapBlock, Sort.ahead, Array.getElem?_modify, this]
theorem takeG (cur : Array Value) (ts : List α) (h : ts.length ≤ cur.size) : (putCells enc 0 ts.toArray cur).toList.take ts.length = ts.map enc := by
  apply List.ext_getElem?
  intro j
  by_cases hj : j < ts.length
  · rw [List.getElem?_take_of_lt hj, Array.getElem?_toList]
    simp [putCells, hj, show j < cur.size by omega]
  · rw [List.getElem?_take_eq_none (by omega), List.getElem?_eq_none (by simp; omega)]
theorem ownsG {w : World} {base g cap n : Nat} {e : TypeId} {os : Array Obj} {cur : Array Value} {ss ts : List α} (hl : ts.length = ss.length) (hbase : base ≤ g) (hb : w.heap[g]? = some (.cells cur e (0, 0)))
    (h1 : ss.length ≤ cap) (h2 : cap ≤ maxLen) (h3 : cur.size = cap * 1) :
    (sortWorld enc w g 0 n ts.toArray os).ownsRow base e 1 (.slice (some ⟨g, 0, none⟩) ss.length cap) ss.length (ts.map enc) :=
  ⟨by simp [hl], .inr ⟨g, cap, _, rfl, hbase, heapG enc _ hb, h1, h2, by simp [putCells, h3], by rw [Nat.mul_one, ← hl]; exact takeG enc cur ts (by omega)⟩⟩
end
/-- A world that extends another one, with no fewer questions drawn, is it, drawn from and grown. -/
theorem ext_grow {w w' : World} (h : Ext w w') (d : Dw w w') : ∃ q os, w' = grow (w.drewN q) os := by
  refine ⟨w'.drawn - w.drawn, w'.heap.extract w.heap.size w'.heap.size, ?_⟩
  have e1 := h.os
  have e2 := h.tape
  have e3 := h.output
  have e4 : w'.heap = w.heap ++ w'.heap.extract w.heap.size w'.heap.size := by
    refine Array.ext_getElem? fun i => ?_
    rw [Array.getElem?_append]
    by_cases hi : i < w.heap.size
    · rw [if_pos hi]; exact Below.block h i hi
    · rw [if_neg hi, Array.getElem?_extract]
      by_cases hj : i < w'.heap.size
      · rw [if_pos (by omega)]; congr 1; omega
      · rw [if_neg (by omega), Array.getElem?_eq_none (by omega)]
  have e5 : w.drawn + (w'.drawn - w.drawn) = w'.drawn := by have : w.drawn ≤ w'.drawn := d; omega
  cases w'
  cases w
  simp only [grow, World.drewN] at *
  subst e1 e2 e3
  rw [e5, ← e4]

/-- What the order's question answers. -/
def cmpO (L : List St) (i j : Nat) : Int := if lowN (at' L i) = lowN (at' L j) ∧ lowS (at' L i) = lowS (at' L j) then (if i < j then -1 else if j < i then 1 else 0) else if aheadF (at' L i) (at' L j) then -1 else 1
theorem low_cop {x : St} (h : 1 ≤ x.n) : Nat.Coprime (lowN x) (lowS x) := Nat.coprime_div_gcd_div_gcd (Nat.gcd_pos_of_pos_left _ h)
theorem low_eq {x y : St} (hx : 1 ≤ x.n) (hy : 1 ≤ y.n) (hx2 : 1 ≤ x.s) (hy2 : 1 ≤ y.s) (h : lowS x * lowN y = lowN x * lowS y) : lowN x = lowN y ∧ lowS x = lowS y := by
  have c1 := low_cop hx
  have c2 := low_cop hy
  have p1 := low_pos hx hx2
  have p2 := low_pos hy hy2
  have d1 : lowN x ∣ lowN y := c1.dvd_of_dvd_mul_left (k := lowN x) (by rw [h]; exact Nat.dvd_mul_right _ _)
  have d2 : lowN y ∣ lowN x := c2.dvd_of_dvd_mul_right (k := lowN y) (by rw [← h]; exact Nat.dvd_mul_left _ _)
  have e := Nat.dvd_antisymm d1 d2
  refine ⟨e, ?_⟩
  rw [e, Nat.mul_comm] at h
  exact Nat.eq_of_mul_eq_mul_left p2.1 h
section
variable {L : List St} {i j : Nat}
theorem cmpO_neg (h : OkS L) (hi : i < L.length) (hj : j < L.length) : cmpO L i j < 0 ↔ befB L i j = true := by
  obtain ⟨⟨a1, -⟩, a2, -⟩ := h _ (at_mem hi)
  obtain ⟨⟨b1, -⟩, b2, -⟩ := h _ (at_mem hj)
  unfold cmpO befB
  by_cases e : lowN (at' L i) = lowN (at' L j) ∧ lowS (at' L i) = lowS (at' L j)
  · rw [if_pos e]
    have h1 : aheadF (at' L i) (at' L j) = false := by unfold aheadF; rw [e.1, e.2, Nat.mul_comm]; simp
    have h2 : aheadF (at' L j) (at' L i) = false := by unfold aheadF; rw [e.1, e.2, Nat.mul_comm]; simp
    rw [h1, h2]
    simp only [Bool.false_or, Bool.not_false, Bool.true_and, decide_eq_true_eq]
    by_cases k : i < j
    · simp [k]
    · rw [if_neg k]
      by_cases k2 : j < i
      · simp [k2, k]
      · simp [k2, k]
  · rw [if_neg e]
    cases h1 : aheadF (at' L i) (at' L j) with
    | true => simp
    | false =>
      have h2 : aheadF (at' L j) (at' L i) = true := by
        cases h2 : aheadF (at' L j) (at' L i) with
        | true => rfl
        | false =>
          exfalso
          unfold aheadF at h1 h2
          rw [decide_eq_false_iff_not] at h1 h2
          rw [Nat.mul_comm (lowS (at' L j)), Nat.mul_comm (lowN (at' L j))] at h2
          exact e (low_eq a1 b1 a2 b2 (by omega))
      rw [h2]; simp
theorem bef_self : befB L i i = false := by
  unfold befB aheadF
  rw [Nat.mul_comm]
  simp
theorem bef_ge (h : OkS L) {k : Nat} (hi : i < L.length) (hj : j < L.length) (hk : k < L.length) (h1 : befB L i j = false) (h2 : befB L j k = false) : befB L i k = false := by
  by_cases e1 : i = j
  · subst e1; exact h2
  · by_cases e2 : j = k
    · subst e2; exact h1
    · have q1 : befB L j i = true := (bef_total e1).resolve_left (by rw [h1]; simp)
      have q2 : befB L k j = true := (bef_total e2).resolve_left (by rw [h2]; simp)
      exact bef_not h hk hi (bef_trans h hk hj hi q2 q1)
end

/-- The order's question is answered. -/
def AsksO (L : List St) (cap : Array Value) (D : Nat → Prop) (w0 : World) : Prop :=
  ∀ i j, i < L.length → j < L.length → ∀ W, Keep D w0 W → Calls Try.prog 68 (#[intV i, intV j] ++ cap) W fun e W' => e = .returned (.int .i64 (cmpO L i j)) ∧ Ext W W' ∧ Dw W W'
theorem enters_68 : Enters Try.prog 68 := fun args w => Proofs.enters_of Try.func68 (by kernel_rfl) rfl args w

set_option maxHeartbeats 1000000 in
theorem sort_order (L : List St) (h : OkS L) (cap : Array Value) (a : Option Addr) (c : Nat) (W : World) (l : List Nat) (hfl : l = freeF L) (hown : W.ownsRow 0 3 1 (.slice a l.length c) l.length (nums l)) (hA : AsksO L cap (fun k => (Value.slice a l.length c).ownBlock ≠ some k) W) (hlen : l.length ≤ 1000) :
    Calls Try.prog 67 #[.slice a l.length c, .func (.func 68) #[] cap] W fun e W' => e = .returned (.tuple #[]) ∧
      W'.ownsRow 0 3 1 (.slice a l.length c) l.length (nums (orderF L)) ∧ W.grownBy W' (Value.slice a l.length c).ownBlock := by
  have hmem : ∀ i ∈ l, i < L.length := fun i hi => by rw [hfl] at hi; exact (mem_free.1 hi).1
  have hfin : ∀ ts : List Nat, ts.Perm l → ts.Pairwise (fun i j => befB L i j = true) → ts = orderF L := fun ts hp hs => order_unique h (by rw [← hfl]; exact hp) hs
  have hnd : l.Nodup := by rw [hfl]; exact free_nodup
  clear hfl
  by_cases h0 : l.length = 0
  · obtain rfl := List.length_eq_zero_iff.1 h0
    have hcon := AnyF.slices_SortFunc_none (P := Try.prog) { Try.sortOrderL with } a c (.func (.func 68) #[] cap) W
    change Calls Try.prog 67 _ _ _ at hcon
    refine hcon.mono ?_
    rintro e W' ⟨rfl, rfl⟩
    refine ⟨rfl, ?_, ⟨rfl, rfl, rfl, Nat.le_refl _, fun _ _ _ => rfl⟩⟩
    rw [← hfin [] (List.Perm.refl _) List.Pairwise.nil]
    exact hown
  · obtain ⟨h1, ⟨h2, h3⟩ | ⟨g, cap', cur, h2, hb, hh, hn1, hm, hs, ht⟩⟩ := hown
    · exact absurd h3 h0
    simp only [Value.slice.injEq] at h2
    obtain ⟨rfl, -, rfl⟩ := h2
    let α := { s : Nat // s ∈ l }
    have hne : 0 < l.length := by omega
    letI : Inhabited α := ⟨⟨l[0], List.getElem_mem hne⟩⟩
    let enc : α → Value := fun x => intV x.1
    let cf : α → α → Int := fun x y => cmpO L x.1 y.1
    have hcf : ∀ x y : α, Go.Proofs.ltOf cf x y = befB L x.1 y.1 := fun x y => by
      rw [Bool.eq_iff_iff]
      simp only [Go.Proofs.ltOf, cf, decide_eq_true_eq]
      exact cmpO_neg h (hmem _ x.2) (hmem _ y.2)
    have hO : SWO (Go.Proofs.ltOf cf) := {
      irrefl := fun x => by rw [hcf]; exact bef_self
      trans := fun x y z p q => by rw [hcf] at *; exact bef_trans h (hmem _ x.2) (hmem _ y.2) (hmem _ z.2) p q
      ntrans := fun x y z p q => by rw [hcf] at *; exact bef_ge h (hmem _ x.2) (hmem _ y.2) (hmem _ z.2) p q }
    have hT : ∀ x y : α, Go.Proofs.ltOf cf x y = false → Go.Proofs.ltOf cf y x = false → x = y := by
      intro x y p q
      rw [hcf] at p q
      by_cases e : x.1 = y.1
      · exact Subtype.ext e
      · rcases bef_total (L := L) e with k | k
        · rw [k] at p; cases p
        · rw [k] at q; cases q
    have hmap : l.attach.map enc = nums l := by
      show l.attach.map (fun x => (fun r : Nat => intV r) x.1) = _
      rw [List.attach_map_val]; rfl
    have hcmp : CmpLays1 Try.prog 68 cap enc cf g 0 l.attach.toArray.size W := by
      intro m os dk hdk x y
      refine (hA x.1 y.1 (hmem _ x.2) (hmem _ y.2) _ ((Keep.refl _ W).grown (grownG enc dk) (fun k e => ?_))).mono ?_
      · cases e; exact fun _ k => k rfl
      · rintro e w' ⟨rfl, hx, hd⟩
        exact ⟨rfl, ext_grow hx hd⟩
    have hH : Holds enc W g 0 l.attach.toArray := holdsG enc hh (by rw [List.length_attach, hmap]; simpa using ht)
    have hcon := Any.slices_SortFunc_total Try.sortOrderL enc (fun _ => rfl) cf hO 68 cap g 0 c l.attach.toArray W enters_68 hcmp hH (Array.getElem?_eq_some_iff.1 hh).1 (by rw [List.size_toArray, List.length_attach]; omega) hT
    change Calls Try.prog 67 _ _ _ at hcon
    rw [List.size_toArray, List.length_attach] at hcon
    refine hcon.mono ?_
    rintro e W' ⟨rfl, nn, os, rfl⟩
    have hperm := List.mergeSort_perm l.attach (fun x y => !(Go.Proofs.ltOf cf) y x)
    have hsort := List.pairwise_mergeSort (le := fun x y => !(Go.Proofs.ltOf cf) y x)
      (fun x y z p q => by simp only [hcf, Bool.not_eq_true'] at *; exact bef_ge h (hmem _ z.2) (hmem _ y.2) (hmem _ x.2) q p)
      (fun x y => by
        simp only [hcf, Bool.or_eq_true, Bool.not_eq_true']
        cases k : befB L y.1 x.1 with
        | false => exact .inl rfl
        | true => exact .inr (bef_not h (hmem _ y.2) (hmem _ x.2) k)) l.attach
    generalize List.mergeSort l.attach (fun x y => !(Go.Proofs.ltOf cf) y x) = ts at *
    have hp : (ts.map Subtype.val).Perm l := by
      have := hperm.map Subtype.val
      rwa [List.attach_map_subtype_val] at this
    have hpw : (ts.map Subtype.val).Pairwise (fun i j => befB L i j = true) := by
      have hnd2 : (ts.map Subtype.val).Nodup := hp.nodup_iff.2 hnd
      rw [List.Nodup, List.pairwise_map] at hnd2
      rw [List.pairwise_map]
      refine (hsort.and hnd2).imp ?_
      rintro x y ⟨p, q⟩
      simp only [hcf, Bool.not_eq_true'] at p
      exact (bef_total (L := L) q).resolve_right (by rw [p]; simp)
    refine ⟨rfl, ?_, grownG enc ts.toArray⟩
    rw [← hfin _ hp hpw]
    have hl : ts.length = l.attach.length := hperm.length_eq
    have := ownsG enc (n := nn) (os := os) hl hb hh (by rw [List.length_attach]; exact hn1) hm hs
    rw [List.length_attach] at this
    rw [show nums (ts.map Subtype.val) = ts.map enc by unfold nums; rw [List.map_map]; rfl]
    exact this
end Go.Proofs.Ytlaolokakaheaaa
