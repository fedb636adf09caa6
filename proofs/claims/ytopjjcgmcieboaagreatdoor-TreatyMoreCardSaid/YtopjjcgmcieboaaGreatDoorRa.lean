/-
  read of package treaty puts a treaty to work in a reading: in new memory, with the table of where each leg can lead, and turns nothing that was there. The treaty must lie in memory as told and be valid, and the reading be one of it.
-/
import Derived.Test.YtopjjcgmcieboaaGreatDoorX
import Derived.Test.YtopjjcgmcieboaaGreatDoorQ
import Derived.Test.YtopjjcgmcieboaaGreatDoorM
import Derived.Deep.MidRow
namespace Go.Proofs.YtopjjcgmcieboaaGreatDoor
open Go.RowKit

theorem heap_setCells {g : Nat} {T : TypeId} : ∀ (vs : List Value) (o : Nat) (w : World) (cs : Array Value), w.heap[g]? = some (.cells cs T (0, 0)) → o + vs.length ≤ cs.size →
    ∃ cs' : Array Value, (w.setCells g o vs).heap[g]? = some (.cells cs' T (0, 0)) ∧ cs'.size = cs.size ∧ (∀ j, j < vs.length → cs'[o + j]? = vs[j]?) ∧ ∀ i, (i < o ∨ o + vs.length ≤ i) → cs'[i]? = cs[i]?
  | [], o, w, cs, h, _ => ⟨cs, h, rfl, by simp, fun _ _ => rfl⟩
  | v :: r, o, w, cs, h, hf => by
    simp only [List.length_cons] at hf
    obtain ⟨cs', h1, h2, h3, h4⟩ := heap_setCells r (o + 1) (w.setCell ⟨g, o, none⟩ v) _ (YtopjjcgmcieboaaGreatDoor.heap_setCell_same h v) (by rw [Array.size_setIfInBounds]; omega)
    refine ⟨cs', h1, by simpa using h2, fun j hj => ?_, fun i hi => ?_⟩
    · cases j with
      | zero =>
        have ho : o < cs.size := by omega
        rw [Nat.add_zero, h4 o (.inl (by omega))]; simp [ho]
      | succ j => rw [show o + (j + 1) = o + 1 + j by omega, h3 j (by simpa using hj)]; simp
    · simp only [List.length_cons] at hi
      rw [h4 i (by omega), Array.getElem?_setIfInBounds, if_neg (by omega)]

theorem len_sorted {l : List Nat} (h : l.Pairwise (· < ·)) (n : Nat) (hn : ∀ x ∈ l, x < n) : l.length ≤ n := by
  have key : ∀ i (hi : i < l.length), i ≤ l[i] := by
    intro i
    induction i with
    | zero => intro _; omega
    | succ i ih => intro hi; have := ih (by omega); have := sorted_at h i hi; omega
  by_cases h0 : l.length = 0
  · omega
  · have := key (l.length - 1) (by omega); have := hn _ (List.getElem_mem (show l.length - 1 < l.length by omega)); omega

/-- A reading of a treaty. -/
def RdOk (t : TV) (r : List Nat) : Prop := r.length = t.words.l.length ∧ ∀ k (h : k < r.length) (h' : k < t.words.l.length), r[k] < t.words.l[k].l.length

/-- The kinds and ends of a word in a reading. -/
def meanAt (t : TV) (r : List Nat) (k : Nat) : List Nat × List Nat :=
  match t.words.l[k]? with
  | none => ([], [])
  | some s => match s.l[(r[k]?).getD 0]? with
    | none => ([], [])
    | some m => (m.k.l, m.e.l)
/-- The kinds and ends of a leg in a reading. -/
def legMean (t : TV) (r : List Nat) (x : Nat × Int) : List Nat × List Nat :=
  if x.2 = -1 then meanAt t r x.1 else (both (meanAt t r x.1).1 (meanAt t r x.2.toNat).1, both (meanAt t r x.1).2 (meanAt t r x.2.toNat).2)
theorem meanAt_eq (t : TV) (r : List Nat) (k : Nat) (hk : k < t.words.l.length) (hr : k < r.length) (hx : r[k] < t.words.l[k].l.length) : meanAt t r k = (t.words.l[k].l[r[k]].k.l, t.words.l[k].l[r[k]].e.l) := by
  unfold meanAt
  simp [hk, hr, hx]

/-- meaning gave m. -/
def MeanOf (t : TV) (r : List Nat) (x : Nat × Int) (w : World) (e : Ending) (w' : World) : Prop :=
  ∃ m : MV, e = .returned (meanV m) ∧ m.k.l = (legMean t r x).1 ∧ m.e.l = (legMean t r x).2 ∧ IsMean w' m ∧ Ext w w'

theorem meaning_leg (t : TV) (x : Nat × Int) (r : SL Nat) (w : World) (ht : IsT w t) (hk : OkT t) (hr : IsSl 1 num w r) (hR : RdOk t r.l) (hx : x ∈ t.legs.l) :
    Calls Tryz.prog 76 #[t.v, .agg #[.int .i64 (x.1 : Int), .int .i64 x.2], .slice r.a r.l.length r.c] w (MeanOf t r.l x w) := by
  obtain ⟨h1, h2⟩ := hk.leg x hx
  have hr1 := hR.2 x.1 (by have := hR.1; omega) h1
  have hkm := hk.kinds _ (List.getElem_mem h1) _ (List.getElem_mem hr1)
  have hem := hk.ends _ (List.getElem_mem h1) _ (List.getElem_mem hr1)
  have hp2 := hk.p2
  rcases h2 with h2 | ⟨h2, h3⟩
  · rw [h2]
    refine (meaning_one t x.1 r w ht hr hR.1 h1 hr1).mono ?_
    rintro e w' ⟨m, rfl, rfl, hx'⟩
    refine ⟨_, rfl, ?_, ?_, ?_, hx'⟩
    · rw [legMean, if_pos h2, meanAt_eq t r.l x.1 h1 (by have := hR.1; omega) hr1]
    · rw [legMean, if_pos h2, meanAt_eq t r.l x.1 h1 (by have := hR.1; omega) hr1]
    · exact ((ht.word _ (List.getElem_mem h1)).2 _ (List.getElem_mem hr1)).ext hx'
  · have hj : x.2.toNat < t.words.l.length := by omega
    have hr2 := hR.2 x.2.toNat (by have := hR.1; omega) hj
    have e2 : (x.2 : Int) = ((x.2.toNat : Nat) : Int) := by omega
    have hm := meaning_two t x.1 x.2.toNat r w ht hr hR.1 h1 hr1 hj hr2 hkm.2 hem.2 (by have := len_sorted hkm.2 8 (fun y hy => by have := hkm.1 y hy; omega); omega) (by have := len_sorted hem.2 t.P hem.1; omega)
    rw [← e2] at hm
    refine hm.mono ?_
    rintro e w' ⟨k', e', rfl, hk', he', hmm, hx'⟩
    refine ⟨⟨k', e'⟩, rfl, ?_, ?_, hmm, hx'⟩
    · rw [legMean, if_neg (by omega), meanAt_eq t r.l x.1 h1 (by have := hR.1; omega) hr1, meanAt_eq t r.l x.2.toNat hj (by have := hR.1; omega) hr2]; exact hk'
    · rw [legMean, if_neg (by omega), meanAt_eq t r.l x.1 h1 (by have := hR.1; omega) hr1, meanAt_eq t r.l x.2.toNat hj (by have := hR.1; omega) hr2]; exact he'

/-- Where legs can lead in a reading. -/
def leadsOf (t : TV) (r : List Nat) (k : Nat) : Nat → Nat → Bool :=
  match t.legs.l[k]? with
  | none => fun _ _ => false
  | some x => leadF (dist t.ways.l) (legMean t r x).1 (legMean t r x).2
def leadsTo (t : TV) (r : List Nat) (n k : Nat) : Nat → Nat → Bool := if k < n then leadsOf t r k else fun _ _ => false

/-- A treaty at work, in a block of 1446 cells. -/
def Wk (w : World) (p : Nat) (t : TV) (L : Nat → Nat → Nat → Bool) : Prop :=
  ∃ cs : Array Value, w.heap[p]? = some (.cells cs 113 (0, 0)) ∧ cs.size = 1446 ∧ cs[0]? = some (.int .i64 (t.P : Int)) ∧ cs[1]? = some (.slice t.ways.a t.ways.l.length t.ways.c) ∧ cs[2]? = some (.slice t.words.a t.words.l.length t.words.c) ∧
    cs[3]? = some (.slice t.starts.a t.starts.l.length t.starts.c) ∧ cs[4]? = some (.slice t.legs.a t.legs.l.length t.legs.c) ∧ cs[1445]? = some (.func (.func 73) #[] #[]) ∧
    ∀ k f g, k < 10 → f < 12 → g < 12 → cs[5 + k * 144 + f * 12 + g]? = some (.bool (L k f g))
theorem Wk.ext {w w' : World} {p : Nat} {t : TV} {L : Nat → Nat → Nat → Bool} (h : Wk w p t L) (k : Ext w w') : Wk w' p t L := by
  obtain ⟨cs, h1, h2⟩ := h; exact ⟨cs, k.block h1, h2⟩
theorem Wk.is {w : World} {p : Nat} {t : TV} {L : Nat → Nat → Nat → Bool} (h : Wk w p t L) : IsWork w p t L := by
  obtain ⟨cs, h1, _, h2⟩ := h; exact ⟨cs, h1, h2⟩
theorem Wk.there {w : World} {p : Nat} {t : TV} {L : Nat → Nat → Nat → Bool} (h : Wk w p t L) (k : Nat) (hk : k < 10) : w.there p (5 + k * 144) 144 := by
  obtain ⟨cs, h1, hs, h2⟩ := h
  intro j hj
  refine ⟨?_, by simp [World.frozen?, h1]⟩
  rw [cell_at h1, Array.getElem?_eq_getElem (by omega)]; rfl
theorem Wk.set {w : World} {p : Nat} {t : TV} {L : Nat → Nat → Nat → Bool} (h : Wk w p t L) (n : Nat) (hn : n < 10) (l : List Value) (hl : l.length = 144) (T : Nat → Nat → Bool)
    (hT : ∀ f g, f < 12 → g < 12 → l[f * 12 + g]? = some (.bool (T f g))) (L' : Nat → Nat → Nat → Bool) (hL : ∀ k, L' k = if k = n then T else L k) : Wk (w.setCells p (5 + n * 144) l) p t L' := by
  obtain ⟨cs, h1, hs, a0, a1, a2, a3, a4, a5, h2⟩ := h
  obtain ⟨cs', q1, q2, q3, q4⟩ := heap_setCells l (5 + n * 144) w cs h1 (by omega)
  refine ⟨cs', q1, by omega, (q4 0 (by omega)).trans a0, (q4 1 (by omega)).trans a1, (q4 2 (by omega)).trans a2, (q4 3 (by omega)).trans a3, (q4 4 (by omega)).trans a4, (q4 1445 (by omega)).trans a5, fun k f g hk hf hg => ?_⟩
  rw [hL k]
  by_cases e : k = n
  · subst e
    rw [if_pos rfl, show 5 + k * 144 + f * 12 + g = 5 + k * 144 + (f * 12 + g) by omega, q3 _ (by omega)]
    exact hT f g hf hg
  · rw [if_neg e, q4 _ (by omega)]
    exact h2 k f g hk hf hg

/-- The ways that are at hand do not lie in the block of the treaty at work. -/
theorem ways_apart {w : World} {p : Nat} {t : TV} {L : Nat → Nat → Nat → Bool} (h : Wk w p t L) {s : SL (Nat × Nat × Nat)} (hs : IsSl 3 wayC w s) (hl : 0 < s.l.length) (b off : Nat) (ha : s.a = some ⟨b, off, none⟩) : b ≠ p := by
  obtain ⟨cs, h1, hsz, a0, a1, a2, a3, a4, a5, h2⟩ := h
  rcases hs.2.2 with h0 | ⟨b', off', ha', hc⟩
  · omega
  · rw [ha] at ha'; cases ha'
    rintro rfl
    have c1 := hc 0 hl 1 (by omega)
    rw [cell_at h1] at c1
    simp only [Nat.zero_mul, Nat.add_zero, wayC, if_neg (show ¬ (1 : Nat) = 0 by omega), if_true] at c1
    have hlt : off + 1 < cs.size := (Array.getElem?_eq_some_iff.1 c1).1
    rcases (by omega : off + 1 = 1 ∨ off + 1 = 2 ∨ off + 1 = 3 ∨ off + 1 = 4 ∨ off + 1 = 1445 ∨ (5 ≤ off + 1 ∧ off + 1 < 1445)) with e | e | e | e | e | ⟨e, e'⟩
    · rw [e, a1] at c1; cases c1
    · rw [e, a2] at c1; cases c1
    · rw [e, a3] at c1; cases c1
    · rw [e, a4] at c1; cases c1
    · rw [e, a5] at c1; cases c1
    · have := h2 ((off + 1 - 5) / 144) ((off + 1 - 5) % 144 / 12) ((off + 1 - 5) % 144 % 12) (by omega) (by omega) (by omega)
      rw [show 5 + (off + 1 - 5) / 144 * 144 + (off + 1 - 5) % 144 / 12 * 12 + (off + 1 - 5) % 144 % 12 = off + 1 by omega, c1] at this
      cases this

theorem sl_dext {α : Type} {sz : Nat} {cs : α → Nat → Value} {D : Nat} {w w' : World} {s : SL α} (h : IsSl sz cs w s) (k : DExt D w w') (hne : ∀ b off, s.a = some ⟨b, off, none⟩ → 0 < s.l.length → b ≠ D) : IsSl sz cs w' s := by
  obtain ⟨h1, h2, h3⟩ := h
  refine ⟨h1, h2, ?_⟩
  by_cases h0 : s.l.length = 0
  · exact .inl h0
  · obtain ⟨b, off, ha, hc⟩ := h3.resolve_left h0
    exact .inr ⟨b, off, ha, fun i hi j hj => k.cell (hc i hi j hj) (hne b off ha (by omega))⟩

theorem dext_setCells {D : Nat} {a b : World} (h : DExt D a b) (vs : List Value) (o : Nat) : DExt D a (b.setCells D o vs) := by
  induction vs generalizing b o with
  | nil => exact h
  | cons v r ih => exact ih (h.setD o v) (o + 1)

theorem dist_mem (l : List (Nat × Nat × Nat)) : ∀ k, k ≤ l.length → ∀ x ∈ distTo l k, x ∈ l
  | 0, _, x, hx => by simp [distTo, dist] at hx
  | k + 1, hk, x, hx => by
    rw [distTo_succ l k (by omega)] at hx
    split at hx
    · rcases List.mem_append.1 hx with h | h
      · exact dist_mem l k (by omega) x h
      · rw [List.mem_singleton] at h; rw [h]; exact List.getElem_mem _
    · exact dist_mem l k (by omega) x hx
theorem dist_mem' (l : List (Nat × Nat × Nat)) (x : Nat × Nat × Nat) (hx : x ∈ dist l) : x ∈ l := dist_mem l l.length (Nat.le_refl _) x (by unfold distTo; rwa [List.take_length])
theorem dist_length (l : List (Nat × Nat × Nat)) : (dist l).length ≤ l.length := by have := distTo_le l l.length (Nat.le_refl _); unfold distTo at this; rwa [List.take_length] at this

theorem zeroWk (w : World) (t : TV) : Wk (w.alloc (.cells ((((((Tryz.zeroCells113.setIfInBounds 0 (.int .i64 (t.P : Int))).setIfInBounds 1 (.slice t.ways.a t.ways.l.length t.ways.c)).setIfInBounds 2 (.slice t.words.a t.words.l.length t.words.c)).setIfInBounds 3 (.slice t.starts.a t.starts.l.length t.starts.c)).setIfInBounds 4
    (.slice t.legs.a t.legs.l.length t.legs.c)).setIfInBounds 1445 (.func (.func 73) #[] #[])) 113)) w.heap.size t (fun _ _ _ => false) := by
  have hsz : Tryz.zeroCells113.size = 1446 := Tryz.zeroCells113_size
  have hz : (Tryz.zeroCells113.toList.drop 5).take 1440 = List.replicate 1440 (.bool false) := by kernel_rfl
  refine ⟨_, World.alloc_heap_new w _, by simp [hsz], by simp [hsz], by simp [hsz], by simp [hsz], by simp [hsz], by simp [hsz], by simp [hsz], fun k f g hk hf hg => ?_⟩
  have h1 : ((Tryz.zeroCells113.toList.drop 5).take 1440)[k * 144 + f * 12 + g]? = some (.bool false) := by
    rw [hz, List.getElem?_replicate, if_pos (by omega)]
  rw [List.getElem?_take, if_pos (by omega), List.getElem?_drop, Array.getElem?_toList] at h1
  simp only [Array.getElem?_setIfInBounds]
  rw [if_neg (by omega), if_neg (by omega), if_neg (by omega), if_neg (by omega), if_neg (by omega), if_neg (by omega), show 5 + k * 144 + f * 12 + g = 5 + (k * 144 + f * 12 + g) by omega]
  exact h1
end Go.Proofs.YtopjjcgmcieboaaGreatDoor
