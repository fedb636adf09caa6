/-
  distinct of package treaty returns the ways without those that are told again, or told backwards, in new memory, and turns nothing that was there. The ways must read as told.
-/
import Derived.Test.YtopjjcgmcieboaaGreatDoorK
namespace Go.Proofs.YtopjjcgmcieboaaGreatDoor
open Go.RowKit

/-- A way, told backwards. -/
def backW (x : Nat × Nat × Nat) : Nat × Nat × Nat := (x.2.1, x.1, x.2.2)
/-- Is y another way than x, and than x backwards? -/
def newW (x y : Nat × Nat × Nat) : Bool := decide (y ≠ x) && decide (y ≠ backW x)

theorem ret_bool {a b : Bool} (h : a = b) : Ending.returned (.bool a) = Ending.returned (.bool b) := by rw [h]

set_option maxHeartbeats 400000 in
theorem distinct1_any (x y : Nat × Nat × Nat) (b1 b2 : Nat) (w : World)
    (h10 : w.cell? ⟨b1, 0, none⟩ = some (.int .i64 (x.1 : Int))) (h11 : w.cell? ⟨b1, 1, none⟩ = some (.int .i64 (x.2.1 : Int))) (h12 : w.cell? ⟨b1, 2, none⟩ = some (.int .i64 (x.2.2 : Int)))
    (h20 : w.cell? ⟨b2, 0, none⟩ = some (.int .i64 (x.2.1 : Int))) (h21 : w.cell? ⟨b2, 1, none⟩ = some (.int .i64 (x.1 : Int))) (h22 : w.cell? ⟨b2, 2, none⟩ = some (.int .i64 (x.2.2 : Int))) :
    Calls Tryz.prog 105 #[wayV y, .pointer (some ⟨b1, 0, none⟩), .pointer (some ⟨b2, 0, none⟩)] w fun e w' => e = .returned (.bool (newW x y)) ∧ Ext w w' := by
  obtain ⟨x1, x2, x3⟩ := x
  obtain ⟨y1, y2, y3⟩ := y
  dsimp only at *
  have hb1 := lt_of_cell h10
  have hb2 := lt_of_cell h20
  dsimp only at hb1 hb2
  go_enter Tryz.func105, Tryz.ntmps105
  go_wp2
  all_goals
    go_ret
    refine ⟨ret_bool ?_, (Ext.refl w).alloc _⟩
    simp only [newW, backW, ne_eq, Prod.mk.injEq]
    first
      | (symm; simp only [Bool.and_eq_true, decide_eq_true_eq]; omega)
      | (symm; simp only [Bool.and_eq_false_iff, decide_eq_false_iff_not]; omega)

/-- The cells of a list, element by element. -/
def flat {α : Type} (sz : Nat) (cs : α → Nat → Value) (l : List α) : List Value := l.flatMap fun x => (List.range sz).map (cs x)
theorem flat_length {α : Type} (sz : Nat) (cs : α → Nat → Value) (l : List α) : (flat sz cs l).length = l.length * sz := by
  unfold flat
  induction l with
  | nil => simp
  | cons x r ih => simp only [List.flatMap_cons, List.length_append, ih, List.length_map, List.length_range, List.length_cons, Nat.succ_mul]; omega
theorem flat_append {α : Type} (sz : Nat) (cs : α → Nat → Value) (l m : List α) : flat sz cs (l ++ m) = flat sz cs l ++ flat sz cs m := by simp [flat]
theorem flat_get {α : Type} (sz : Nat) (cs : α → Nat → Value) (l : List α) (i j : Nat) (hi : i < l.length) (hj : j < sz) : (flat sz cs l)[i * sz + j]? = some (cs l[i] j) := by
  unfold flat
  induction l generalizing i with
  | nil => simp at hi
  | cons x r ih =>
    rw [List.flatMap_cons]
    cases i with
    | zero => rw [List.getElem?_append_left (by simp; omega)]; simp [hj]
    | succ i =>
      rw [List.getElem?_append_right (by simp [Nat.succ_mul]; omega)]
      have : (i + 1) * sz + j - ((List.range sz).map (cs x)).length = i * sz + j := by simp [Nat.succ_mul]; omega
      rw [this, ih i (by simpa using hi)]
      simp

/-- An owned row reads as its list. -/
theorem own_slG {α : Type} {sz : Nat} {cs : α → Nat → Value} {w : World} {base : Nat} {e : TypeId} {a : Option Addr} {c : Nat} {l : List α} (h : w.ownsRow base e sz (.slice a l.length c) l.length (flat sz cs l)) (hl : l.length ≤ 1000000) : IsSl sz cs w ⟨a, c, l⟩ := by
  obtain ⟨h1, h2⟩ := h
  rcases h2 with ⟨h2, h3⟩ | ⟨g, cap, cur, h2, hb, hh, hn, hm, hs, ht⟩
  · exact ⟨by simp only [h3]; omega, hl, .inl h3⟩
  · simp only [Value.slice.injEq] at h2
    obtain ⟨rfl, _, rfl⟩ := h2
    refine ⟨hn, hl, .inr ⟨g, 0, rfl, fun i hi j hj => ?_⟩⟩
    dsimp only at hi ⊢
    rw [cell_at hh]
    have hlt : i * sz + j < l.length * sz := by
      have : (i + 1) * sz ≤ l.length * sz := Nat.mul_le_mul_right sz hi
      rw [Nat.succ_mul] at this; omega
    have e1 : cur[0 + i * sz + j]? = (cur.toList.take (l.length * sz))[i * sz + j]? := by
      rw [List.getElem?_take, if_pos hlt]; simp
    rw [e1, ht, flat_get _ _ _ _ _ hi hj]

theorem own_ext {w w' : World} {base : Nat} {e : TypeId} {size : Nat} {v : Value} {n : Nat} {xs : List Value} (h : w.ownsRow base e size v n xs) (k : Ext w w') : w'.ownsRow base e size v n xs := by
  obtain ⟨h1, h2⟩ := h
  refine ⟨h1, ?_⟩
  rcases h2 with h2 | ⟨g, cap, cur, h2, hb, hh, r⟩
  · exact .inl h2
  · exact .inr ⟨g, cap, cur, h2, hb, k.block hh, r⟩

theorem own_lt {w : World} {base : Nat} {e : TypeId} {size : Nat} {v : Value} {n : Nat} {xs : List Value} (h : w.ownsRow base e size v n xs) : ∀ k, v.ownBlock = some k → base ≤ k := fun k hk => (h.lt k hk).1

theorem new_cells (w : World) (cs : List Value) (T : TypeId) : ∀ (j : Nat) (u : Value), cs[j]? = some u → (w.alloc (.cells cs.toArray T)).cell? ((⟨w.heap.size, 0, none⟩ : Addr).add j) = some u := by
  intro j u hu
  have e1 : (⟨w.heap.size, 0, none⟩ : Addr).add j = ⟨w.heap.size, j, none⟩ := by
    unfold Addr.add; split
    · rename_i h0; simp_all
    · simp
  rw [e1, cell_at (World.alloc_heap_new w _)]; simpa using hu

/-- The ways without those that are told again, or told backwards. -/
def dist (l : List (Nat × Nat × Nat)) : List (Nat × Nat × Nat) := l.foldl (fun acc x => if acc.all (newW x) then acc ++ [x] else acc) []
def distTo (l : List (Nat × Nat × Nat)) (k : Nat) : List (Nat × Nat × Nat) := dist (l.take k)
theorem distTo_succ (l : List (Nat × Nat × Nat)) (k : Nat) (h : k < l.length) : distTo l (k + 1) = if (distTo l k).all (newW l[k]) then distTo l k ++ [l[k]] else distTo l k := by
  unfold distTo dist; rw [List.take_succ_eq_append_getElem h, List.foldl_append]; rfl
theorem distTo_le (l : List (Nat × Nat × Nat)) : ∀ k, k ≤ l.length → (distTo l k).length ≤ k
  | 0, _ => by simp [distTo, dist]
  | k + 1, h => by
    have := distTo_le l k (by omega)
    rw [distTo_succ _ _ (by omega)]; split <;> simp <;> omega

theorem info59 : (Tryz.prog.info? 59).map (fun i => (i.zero, i.size, i.bytes)) = some (some (.agg #[.int .i64 0, .int .i64 0, .int .i64 0]), 3, 24) := by kernel_rfl
theorem enters_105 : Enters Tryz.prog 105 := fun args w => Proofs.enters_of Tryz.func105 (by kernel_rfl) rfl args w

set_option maxRecDepth 100000 in
set_option maxHeartbeats 1000000 in
theorem distinct_any (a : Option Addr) (n c : Nat) (l : List (Nat × Nat × Nat)) (w : World) (hn : l.length = n) (hl : l.length ≤ 1000) (hv : IsSl 3 wayC w ⟨a, c, l⟩) :
    Calls Tryz.prog 74 #[.slice a n c] w fun e w' => ∃ a' c', e = .returned (.slice a' (dist l).length c') ∧ IsSl 3 wayC w' ⟨a', c', dist l⟩ ∧ Ext w w' := by
  subst hn
  obtain ⟨h1, h2, h3⟩ := hv
  dsimp only at h1 h2 h3
  have H3 := Lib.hid h3; clear h3
  obtain ⟨i0, hi, hz0, hz1, hz2⟩ := info_parts info59
  go_enter Tryz.func74, Tryz.ntmps74
  go_wp2
  go_loopw [3, 9] (fun v i wr => ∃ (k : Nat) (a' : Option Addr) (c' : Nat), k ≤ l.length ∧ i = .int .i64 k ∧ v = .slice a' (distTo l k).length c' ∧ Hid (wr.ownsRow w.heap.size 59 3 (.slice a' (distTo l k).length c') (distTo l k).length (flat 3 wayC (distTo l k))) ∧ Ext w wr) (fun _ i _ => l.length - (intOf i).toNat)
  case atStart => exact ⟨0, none, 0, Nat.zero_le _, rfl, rfl, World.ownsRow_nil _ _ _ _, Ext.refl _⟩
  case round =>
    obtain ⟨k, a', c', hk, rfl, rfl, HO, hext⟩ := hrel
    have hdl := distTo_le l k hk
    by_cases hlt : k < l.length
    · obtain ⟨b, off, rfl, hc⟩ := H3.out.resolve_left (by omega)
      have hcell0 : wr.cell? ⟨b, off + k * 3, none⟩ = some (.int .i64 (l[k].1 : Int)) := by have := hext.cell (hc k hlt 0 (by omega)); simpa [wayC] using this
      have hcell1 : wr.cell? ⟨b, off + k * 3 + 1, none⟩ = some (.int .i64 (l[k].2.1 : Int)) := by have := hext.cell (hc k hlt 1 (by omega)); simpa [wayC] using this
      have hcell2 : wr.cell? ⟨b, off + k * 3 + 2, none⟩ = some (.int .i64 (l[k].2.2 : Int)) := by have := hext.cell (hc k hlt 2 (by omega)); simpa [wayC] using this
      clear hc
      have hs := distTo_succ l k hlt
      have hd1 := distTo_le l (k + 1) hlt
      generalize hx : l[k] = x at *
      generalize hd : distTo l k = d at *
      generalize hd2 : distTo l (k + 1) = d2 at *
      have HX := Lib.hid hext; clear hext
      have HS := Lib.hid hs; clear hs hx hd
      have HD2 := Lib.hid hd2; clear hd2
      have e2 : Ext wr ((wr.alloc (.cells #[.int .i64 (x.1 : Int), .int .i64 (x.2.1 : Int), .int .i64 (x.2.2 : Int)] 59)).alloc (.cells #[.int .i64 (x.2.1 : Int), .int .i64 (x.1 : Int), .int .i64 (x.2.2 : Int)] 59)) := ((Ext.refl wr).alloc _).alloc _
      have hB1 : ((wr.alloc (.cells #[.int .i64 (x.1 : Int), .int .i64 (x.2.1 : Int), .int .i64 (x.2.2 : Int)] 59)).alloc (.cells #[.int .i64 (x.2.1 : Int), .int .i64 (x.1 : Int), .int .i64 (x.2.2 : Int)] 59)).heap[wr.heap.size]? = some (.cells #[.int .i64 (x.1 : Int), .int .i64 (x.2.1 : Int), .int .i64 (x.2.2 : Int)] 59) :=
        ((Ext.refl _).alloc _).laid
      have hB2 : ((wr.alloc (.cells #[.int .i64 (x.1 : Int), .int .i64 (x.2.1 : Int), .int .i64 (x.2.2 : Int)] 59)).alloc (.cells #[.int .i64 (x.2.1 : Int), .int .i64 (x.1 : Int), .int .i64 (x.2.2 : Int)] 59)).heap[wr.heap.size + 1]? = some (.cells #[.int .i64 (x.2.1 : Int), .int .i64 (x.1 : Int), .int .i64 (x.2.2 : Int)] 59) := by
        have := World.alloc_heap_new (wr.alloc (.cells #[.int .i64 (x.1 : Int), .int .i64 (x.2.1 : Int), .int .i64 (x.2.2 : Int)] 59)) (.cells #[.int .i64 (x.2.1 : Int), .int .i64 (x.1 : Int), .int .i64 (x.2.2 : Int)] 59)
        rwa [World.size_alloc] at this
      have E2 := Lib.hid e2; clear e2
      have HB1 := Lib.hid hB1; clear hB1
      have HB2 := Lib.hid hB2; clear hB2
      go_wp2_with fail
      refine (every_way 105 _ (fun _ => True) (newW x) a' _ c' d _ enters_105 rfl ((own_slG HO.out (by omega)).ext E2.out) (fun _ _ => trivial) ?_).mono ?_
      · intro y _ w' hw
        have c1 := cell_at (hw.block HB1.out)
        have c2 := cell_at (hw.block HB2.out)
        exact distinct1_any x y _ _ w' (c1 0) (c1 1) (c1 2) (c2 0) (c2 1) (c2 2)
      rintro e w2 ⟨rfl, hx2⟩
      have hb5 := hx2.block HB1.out
      have hlt5 := (Array.getElem?_eq_some_iff.1 hb5).1
      have hc5 := cell_at hb5
      have HB5 := Lib.hid hb5; clear hb5
      have HX2 := Lib.hid (E2.out.trans hx2); clear hx2
      have HO2 := Lib.hid (own_ext HO.out HX2.out)
      cases hall : d.all (newW x)
      · have HSf : Hid (d2 = d) := by have := HS.out; rw [hall] at this; simpa [Hid] using this
        clear hall
        go_wp2
        go_roundw
        case rel => exact ⟨k + 1, a', c', by omega, by go_num, by rw [HD2.out, HSf.out], by rw [HD2.out, HSf.out]; exact HO2, HX.out.trans HX2.out⟩
        case measure => simp [intOf]; omega
      · have HSt : Hid (d2 = d ++ [x]) := by have := HS.out; rw [hall] at this; simpa [Hid] using this
        clear hall
        have hnw := new_cells w2 [.int .i64 (x.1 : Int), .int .i64 (x.2.1 : Int), .int .i64 (x.2.2 : Int)] 59
        have HN := Lib.hid hnw; clear hnw
        have h1c : ∀ u ∈ ([.int .i64 (x.1 : Int), .int .i64 (x.2.1 : Int), .int .i64 (x.2.2 : Int)] : List Value), u.oneCell' = true := by intro u hu; simp at hu; rcases hu with rfl | rfl | rfl <;> rfl
        have H1C := Lib.hid h1c; clear h1c
        have hb6 : w.heap.size ≤ w2.heap.size + 1 := by have := HX.out.size; have := HX2.out.size; omega
        have hm6 : d.length + 1 ≤ maxLen := by unfold maxLen; omega
        go_wp2_with (at_builtin; go_must (refine wpList_append_own _ rfl _ _ 23 rfl w.heap.size 59 i0 (.agg #[.int .i64 0, .int .i64 0, .int .i64 0]) 3 24 Tryz.underlying23 hi hz0 hz1 hz2 rfl (by decide) _ d.length (flat 3 wayC d) rfl (HO2.out.alloc _) ⟨w2.heap.size, 0, none⟩ 1 1 [.int .i64 (x.1 : Int), .int .i64 (x.2.1 : Int), .int .i64 (x.2.2 : Int)] rfl rfl HN.out H1C.out hm6 (by omega) (by simp; omega) ?_); intro v' w3 hown hgrow _)
        obtain ⟨a3, c3, rfl⟩ := own_form hown
        have hx3 : Ext w w3 := ext_grown_of ((HX.out.trans HX2.out).alloc _) hgrow (fun k hk => own_lt HO2.out k hk)
        have HX3 := Lib.hid hx3; clear hx3 hgrow
        have hfl : flat 3 wayC d ++ [.int .i64 (x.1 : Int), .int .i64 (x.2.1 : Int), .int .i64 (x.2.2 : Int)] = flat 3 wayC (d ++ [x]) := by rw [flat_append]; rfl
        have hle3 : d.length + 1 = (d ++ [x]).length := by simp
        rw [hfl, hle3] at hown
        have HO3 := Lib.hid hown; clear hown hfl hle3
        go_wp2
        go_roundw
        case rel => exact ⟨k + 1, a3, c3, by omega, by go_num, by rw [HD2.out, HSt.out]; simp, by rw [HD2.out, HSt.out]; exact HO3, HX3.out⟩
        case measure => simp [intOf]; omega
    · have HX := Lib.hid hext; clear hext
      have hke : k = l.length := by omega
      subst hke
      have hdd : distTo l l.length = dist l := by unfold distTo; rw [List.take_length]
      have HDD := Lib.hid hdd; clear hdd
      go_wp2
      go_ret
      exact ⟨a', c', by rw [← HDD.out]; rfl, by rw [← HDD.out]; exact own_slG HO.out (by omega), HX.out⟩
end Go.Proofs.YtopjjcgmcieboaaGreatDoor
