/-
  What texts on memory share: rows of one's own, blocks, the deck. Nothing is claimed of the program here.
-/
import Derived.Test.YtlaolokakaheaaaG
namespace Go.Proofs.Ytlaolokakaheaaa
open Go.RowKit

theorem own_type {w : World} {base : Nat} {e : TypeId} {size : Nat} {u : Value} {n : Nat} {xs : List Value} (h : w.ownsRow base e size u n xs) {k : Nat} (hk : u.ownBlock = some k) : base ≤ k ∧ k < w.heap.size ∧ ∃ cur, w.heap[k]? = some (.cells cur e (0, 0)) := by
  obtain ⟨h1, h2⟩ := h
  rcases h2 with ⟨rfl, _⟩ | ⟨g, cap, cur, rfl, hb, hh, _⟩
  · cases hk
  · cases hk; exact ⟨hb, (Array.getElem?_eq_some_iff.1 hh).1, cur, hh⟩
theorem own_grown {w w' : World} {base : Nat} {e : TypeId} {size : Nat} {u : Value} {n : Nat} {xs : List Value} {row : Option Nat} (h : w.ownsRow base e size u n xs) (g : w.grownBy w' row) (hr : ∀ k, u.ownBlock = some k → row ≠ some k) : w'.ownsRow base e size u n xs := by
  obtain ⟨h1, h2⟩ := h
  refine ⟨h1, ?_⟩
  rcases h2 with h2 | ⟨b, cap, cur, rfl, hb, hh, r⟩
  · exact .inl h2
  · exact .inr ⟨b, cap, cur, rfl, hb, (g.block b (Array.getElem?_eq_some_iff.1 hh).1 (fun e => hr b rfl e.symm)).trans hh, r⟩
theorem blk_grown {w w' : World} {row : Option Nat} {b : Nat} {o : Obj} (g : w.grownBy w' row) (h : w.heap[b]? = some o) (hr : row ≠ some b) : w'.heap[b]? = some o := (g.block b (Array.getElem?_eq_some_iff.1 h).1 (fun e => hr e.symm)).trans h
theorem type_ne {w : World} {k b : Nat} {c1 c2 : Array Value} {t1 t2 : TypeId} (h1 : w.heap[k]? = some (.cells c1 t1 (0, 0))) (h2 : w.heap[b]? = some (.cells c2 t2 (0, 0))) (ht : t1 ≠ t2) : k ≠ b := by
  intro e; subst e; rw [h1] at h2; simp only [Option.some.injEq, Obj.cells.injEq] at h2; exact ht h2.2.1
theorem Keep.transD {D D' : Nat → Prop} {a b c : World} (h : Keep D a b) (k : Keep D' b c) (hd : ∀ i, i < a.heap.size → D i → D' i) : Keep D a c :=
  ⟨k.os.trans h.os, k.tape.trans h.tape, k.output.trans h.output, Nat.le_trans h.size k.size, fun i hi h' => (k.block i (Nat.lt_of_lt_of_le hi h.size) (hd i hi h')).trans (h.block i hi h')⟩
theorem IsDeck.keepD {w w' : World} {D : Nat} {a : Option Addr} {n c k : Nat} {E : Nat → Prop} (h : IsDeck w D a n c k) (g : Keep E w w') (hD : E D) (hb : ∀ b off, a = some ⟨b, off, none⟩ → 0 < n → E b) : IsDeck w' D a n c k := by
  obtain ⟨s, hs, hh, ⟨h1, h2, h3⟩, hne⟩ := h
  refine ⟨s, hs, g.heap hh hD, ⟨h1, h2, ?_⟩, hne⟩
  rcases h3 with h3 | ⟨b, off, ha, hc⟩
  · exact .inl h3
  · by_cases h0 : n = 0
    · exact .inl h0
    · exact .inr ⟨b, off, ha, fun i hi => by obtain ⟨v, hv, hx⟩ := hc i hi; exact ⟨v, hv, g.cell hx (hb b off ha (by omega))⟩⟩
theorem own_keepB {w w' : World} {base : Nat} {e : TypeId} {size : Nat} {u : Value} {n : Nat} {xs : List Value} {D : Nat → Prop} (h : w.ownsRow base e size u n xs) (g : Keep D w w') (hr : ∀ k, u.ownBlock = some k → D k) : w'.ownsRow base e size u n xs := by
  obtain ⟨h1, h2⟩ := h
  refine ⟨h1, ?_⟩
  rcases h2 with h2 | ⟨b, cap, cur, rfl, hb, hh, r⟩
  · exact .inl h2
  · exact .inr ⟨b, cap, cur, rfl, hb, g.heap hh (hr b rfl), r⟩
theorem IsDeck.bytes {w : World} {D n c k : Nat} {a : Option Addr} (h : IsDeck w D a n c k) : ∀ b off, a = some ⟨b, off, none⟩ → 0 < n → b < w.heap.size := by
  intro b off ha hn
  obtain ⟨s, h1, h2, ⟨h3, h4, h5⟩, h6⟩ := h
  obtain ⟨b', off', ha', hc⟩ := h5.resolve_left (by omega)
  rw [ha] at ha'
  simp only [Option.some.injEq, Addr.mk.injEq, and_true] at ha'
  obtain ⟨rfl, rfl⟩ := ha'
  obtain ⟨x, _, hx⟩ := hc 0 hn
  refine Nat.lt_of_not_le fun hle => ?_
  simp [World.cell?, Array.getElem?_eq_none hle] at hx
/-- How a number, which may be None, lies in a cell. -/
def numI (n : Int) (_ : Nat) : Value := .int .i64 n
/-- The cells of a list of numbers. -/
def intsV (l : List Int) : List Value := l.map fun n : Int => Value.int .i64 n
theorem intsV_length (l : List Int) : (intsV l).length = l.length := by simp [intsV]
theorem intsV_get (l : List Int) (j : Nat) (h : j < l.length) : (intsV l)[j]? = some (.int .i64 l[j]) := by simp [intsV, h]
theorem intsV_one (l : List Int) : ∀ u ∈ intsV l, u.oneCell' = true := by
  intro u hu; simp only [intsV, List.mem_map] at hu; obtain ⟨n, _, rfl⟩ := hu; rfl
/-- Block g holds cap cells, the first of which are the numbers L; it is not frozen. -/
def RowI (w : World) (g : Nat) (L : List Int) (cap : Nat) : Prop :=
  ∃ cur : Array Value, w.heap[g]? = some (.cells cur 3 (0, 0)) ∧ cur.size = cap ∧ L.length ≤ cap ∧ ∀ i (h : i < L.length), cur[i]? = some (.int .i64 L[i])
/-- An owned row of numbers reads as its list. -/
theorem own_slI {w : World} {base : Nat} {e : TypeId} {a : Option Addr} {c : Nat} {l : List Int} (h : w.ownsRow base e 1 (.slice a l.length c) l.length (intsV l)) (hl : l.length ≤ 1000000) : IsSl 1 numI w ⟨a, c, l⟩ := by
  obtain ⟨h1, h2⟩ := h
  rcases h2 with ⟨h2, h3⟩ | ⟨g, cap, cur, h2, hb, hh, hn, hm, hs, ht⟩
  · simp only [Value.slice.injEq] at h2
    exact ⟨by simp only [h3]; omega, hl, .inl h3⟩
  · simp only [Value.slice.injEq] at h2
    obtain ⟨rfl, _, rfl⟩ := h2
    refine ⟨hn, hl, .inr ⟨g, 0, rfl, fun i hi j hj => ?_⟩⟩
    have hj0 : j = 0 := by omega
    subst hj0
    dsimp only at hi ⊢
    rw [cell_at hh]
    have e1 : cur[0 + i * 1 + 0]? = (cur.toList.take (l.length * 1))[i]? := by
      rw [List.getElem?_take]; simp [hi]
    rw [e1, ht, intsV_get _ _ hi]; rfl
theorem RowI.ext {w w' : World} {g : Nat} {L : List Int} {cap : Nat} (h : RowI w g L cap) (k : Ext w w') : RowI w' g L cap := by
  obtain ⟨cur, h1, h2⟩ := h; exact ⟨cur, k.block h1, h2⟩
theorem RowI.le {w : World} {g : Nat} {L : List Int} {cap : Nat} (h : RowI w g L cap) : L.length ≤ cap := by
  obtain ⟨cur, h1, h2, h3, h4⟩ := h; exact h3
theorem RowI.cell {w : World} {g : Nat} {L : List Int} {cap : Nat} (h : RowI w g L cap) (i : Nat) (hi : i < L.length) : w.cell? ⟨g, i, none⟩ = some (.int .i64 L[i]) := by
  obtain ⟨cur, h1, h2, h3, h4⟩ := h; rw [cell_at h1, h4 i hi]
theorem RowI.frozen {w : World} {g : Nat} {L : List Int} {cap : Nat} (h : RowI w g L cap) (i : Nat) : w.frozen? ⟨g, i, none⟩ = false := by
  obtain ⟨cur, h1, h2⟩ := h; simp [World.frozen?, h1]
theorem RowI.take {w : World} {g : Nat} {L : List Int} {cap : Nat} (h : RowI w g L cap) (m : Nat) : RowI w g (L.take m) cap := by
  obtain ⟨cur, h1, h2, h3, h4⟩ := h
  refine ⟨cur, h1, h2, by rw [List.length_take]; omega, fun i hi => ?_⟩
  rw [List.length_take] at hi
  rw [h4 i (by omega), List.getElem_take]
theorem RowI.set {w : World} {g : Nat} {L : List Int} {cap : Nat} (h : RowI w g L cap) (i : Nat) (x : Int) (hi : i < L.length) : RowI (w.setCell ⟨g, i, none⟩ (.int .i64 x)) g (L.set i x) cap := by
  obtain ⟨cur, h1, h2, h3, h4⟩ := h
  refine ⟨_, heap_setCell_same h1 _, by simpa using h2, by simpa using h3, fun j hj => ?_⟩
  rw [List.length_set] at hj
  rw [Array.getElem?_setIfInBounds, List.getElem_set]
  split
  · rename_i e; subst e; simp; omega
  · exact h4 j hj
theorem RowI.of_own {w : World} {base : Nat} {g c : Nat} {l : List Int} (h : w.ownsRow base 3 1 (.slice (some ⟨g, 0, none⟩) l.length c) l.length (intsV l)) : RowI w g l c ∧ base ≤ g := by
  obtain ⟨h1, h2⟩ := h
  rcases h2 with ⟨h2, h3⟩ | ⟨g', cap, cur, h2, hb, hh, hn, hm, hs, ht⟩
  · cases h2
  · simp only [Value.slice.injEq, Option.some.injEq, Addr.mk.injEq, and_true, true_and] at h2
    obtain ⟨rfl, rfl⟩ := h2
    refine ⟨⟨cur, hh, by omega, hn, fun i hi => ?_⟩, hb⟩
    have e1 : cur[i]? = (cur.toList.take (l.length * 1))[i]? := by
      rw [List.getElem?_take]; simp [hi]
    rw [e1, ht, intsV_get _ _ hi]
theorem own_place {w : World} {base : Nat} {e : TypeId} {size : Nat} {a : Option Addr} {c n : Nat} {xs : List Value} (h : w.ownsRow base e size (.slice a n c) n xs) (hn : 0 < n) : ∃ g, a = some ⟨g, 0, none⟩ ∧ base ≤ g ∧ c ≤ maxLen := by
  obtain ⟨h1, h2⟩ := h
  rcases h2 with ⟨h2, h3⟩ | ⟨g', cap, cur, h2, hb, hh, hn', hm, hs, ht⟩
  · omega
  · simp only [Value.slice.injEq, true_and] at h2
    obtain ⟨rfl, rfl⟩ := h2
    exact ⟨g', rfl, hb, hm⟩
theorem Keep.trans' {D D' : Nat → Prop} {a b c : World} (h : Keep D a b) (k : Keep D' b c) (hd : ∀ i, i < a.heap.size → D i → D' i) : Keep D a c :=
  ⟨k.os.trans h.os, k.tape.trans h.tape, k.output.trans h.output, Nat.le_trans h.size k.size, fun i hi h' => (k.block i (Nat.lt_of_lt_of_le hi h.size) (hd i hi h')).trans (h.block i hi h')⟩
theorem RowI.sl {w : World} {g c : Nat} {l : List Int} (h : RowI w g l c) (hl : l.length ≤ 1000000) : IsSl 1 numI w ⟨some ⟨g, 0, none⟩, c, l⟩ :=
  ⟨h.le, hl, .inr ⟨g, 0, rfl, fun i hi j hj => by
    obtain rfl : j = 0 := by omega
    rw [Nat.zero_add, Nat.mul_one]
    exact h.cell i hi⟩⟩
theorem RowI.own {w : World} {g c base : Nat} {l : List Int} (h : RowI w g l c) (hb : base ≤ g) (hc : c ≤ maxLen) : w.ownsRow base 3 1 (.slice (some ⟨g, 0, none⟩) l.length c) l.length (intsV l) := by
  obtain ⟨cur, h1, h2, h3, h4⟩ := h
  refine ⟨by rw [intsV_length, Nat.mul_one], .inr ⟨g, c, cur, rfl, hb, h1, h3, hc, by omega, ?_⟩⟩
  apply List.ext_getElem?
  intro i
  rw [List.getElem?_take, Nat.mul_one]
  by_cases e : i < l.length
  · rw [if_pos e, Array.getElem?_toList, h4 i e, intsV_get _ _ e]
  · rw [if_neg e, List.getElem?_eq_none (by rw [intsV_length]; omega)]
theorem box2 {w : World} {b : Nat} {x y : Value} {T : TypeId} (h : w.heap[b]? = some (.cells #[x, y] T (0, 0))) : w.cell? ⟨b, 0, none⟩ = some x ∧ w.cell? ⟨b, 1, none⟩ = some y ∧ w.frozen? ⟨b, 0, none⟩ = false ∧ w.frozen? ⟨b, 1, none⟩ = false :=
  ⟨(cell_at h 0).trans rfl, (cell_at h 1).trans rfl, by simp [World.frozen?, h], by simp [World.frozen?, h]⟩

end Go.Proofs.Ytlaolokakaheaaa
