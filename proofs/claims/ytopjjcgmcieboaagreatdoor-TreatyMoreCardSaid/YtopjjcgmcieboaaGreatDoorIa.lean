/-
  Several texts in one. The readings of a treaty in their order, as counting goes on: mathematics alone. Nothing is claimed of the program here. A range over a function whose iterator keeps state of its own in memory, and yields lists in new memory: a law of the walk for such loops. Nothing is claimed of the program here.
-/
import Derived.WalkKit
import Derived.Test.YtopjjcgmcieboaaGreatDoorH
import Derived.RangeFuncIn
import Derived.RangeFuncLeaves
import Derived.RangeFuncBound
import Derived.RangeFuncWrites
namespace Go.Proofs.YtopjjcgmcieboaaGreatDoor

/-- Counting on, from the right: whether it runs over, and the next reading. c: how many meanings each word has. -/
def incR : List Nat → List Nat → Bool × List Nat
  | c :: cs, r :: rs => match incR cs rs with
    | (true, q) => if r = c - 1 then (true, 0 :: q) else (false, (r + 1) :: q)
    | (false, q) => (false, r :: q)
  | _, _ => (true, [])

/-- All readings from one on: no more than so many. -/
def seqR (c : List Nat) : Nat → List Nat → List (List Nat)
  | 0, _ => []
  | n + 1, r => r :: (match incR c r with
    | (true, _) => []
    | (false, q) => seqR c n q)

/-- How many readings there are. -/
def prodR : List Nat → Nat
  | [] => 1
  | c :: cs => c * prodR cs
/-- The number of a reading. -/
def valR : List Nat → List Nat → Nat
  | _ :: cs, r :: rs => r * prodR cs + valR cs rs
  | _, _ => 0
/-- A reading's numbers are each less than the count. -/
def OkR : List Nat → List Nat → Prop
  | [], [] => True
  | c :: cs, r :: rs => r < c ∧ OkR cs rs
  | _, _ => False

/-- All readings of words with so many meanings. -/
def allR (c : List Nat) : List (List Nat) := seqR c (prodR c) (List.replicate c.length 0)

theorem okR_length : ∀ {c r : List Nat}, OkR c r → r.length = c.length
  | [], [], _ => rfl
  | _ :: _, _ :: _, h => by simp [okR_length h.2]
theorem okR_zero : ∀ {c : List Nat}, (∀ x ∈ c, 0 < x) → OkR c (List.replicate c.length 0)
  | [], _ => trivial
  | c :: cs, h => ⟨h c (by simp), okR_zero fun x hx => h x (by simp [hx])⟩
theorem valR_zero : ∀ (c : List Nat), valR c (List.replicate c.length 0) = 0
  | [] => rfl
  | c :: cs => by simp [valR, List.replicate_succ, valR_zero cs]
theorem okR_get : ∀ {c r : List Nat}, OkR c r → ∀ k (h : k < r.length) (h' : k < c.length), r[k] < c[k]
  | [], [], _, k, h, _ => by simp at h
  | _ :: _, _ :: _, hk, 0, _, _ => hk.1
  | _ :: _, _ :: _, hk, k + 1, h, h' => by simpa using okR_get hk.2 k (by simpa using h) (by simpa using h')
theorem incR_length : ∀ {c r : List Nat}, r.length = c.length → (incR c r).2.length = c.length
  | [], [], _ => rfl
  | c :: cs, r :: rs, h => by
    have ih := incR_length (c := cs) (r := rs) (by simpa using h)
    rcases hi : incR cs rs with ⟨b, q⟩
    rw [hi] at ih
    cases b <;> simp only [incR, hi]
    · simpa using ih
    · split <;> simpa using ih
  | [], _ :: _, h => by simp at h
  | _ :: _, [], h => by simp at h
theorem incR_ok : ∀ {c r : List Nat}, OkR c r → OkR c (incR c r).2 ∧ valR c r < prodR c ∧
    ((incR c r).1 = true → valR c r + 1 = prodR c ∧ (incR c r).2 = List.replicate c.length 0) ∧ ((incR c r).1 = false → valR c (incR c r).2 = valR c r + 1)
  | [], [], _ => by simp [incR, valR, prodR, OkR]
  | c :: cs, r :: rs, h => by
    obtain ⟨h1, h2, h3, h4⟩ := incR_ok h.2
    have hr : r < c := h.1
    rcases hi : incR cs rs with ⟨b, q⟩
    rw [hi] at h1 h3 h4
    have hm : (r + 1) * prodR cs ≤ c * prodR cs := Nat.mul_le_mul_right _ hr
    rw [Nat.add_mul, Nat.one_mul] at hm
    cases b with
    | false =>
      have e4 := h4 rfl
      simp only [incR, hi, valR, prodR, OkR]
      exact ⟨⟨hr, h1⟩, by omega, by simp, fun _ => by simp only at e4; omega⟩
    | true =>
      obtain ⟨e3, e5⟩ := h3 rfl
      simp only [incR, hi]
      simp only at e5 h1
      by_cases hc : r = c - 1
      · rw [if_pos hc]
        have : (r + 1) * prodR cs = c * prodR cs := by rw [show r + 1 = c by omega]
        rw [Nat.add_mul, Nat.one_mul] at this
        simp only [valR, prodR, OkR]
        refine ⟨⟨by omega, h1⟩, by omega, fun _ => ⟨by omega, by rw [e5]; simp [List.replicate_succ]⟩, by simp⟩
      · rw [if_neg hc]
        simp only [valR, prodR, OkR]
        refine ⟨⟨by omega, h1⟩, by omega, by simp, fun _ => ?_⟩
        have ez : valR cs q = 0 := by rw [e5]; exact valR_zero cs
        rw [Nat.add_mul, Nat.one_mul, ez]; omega

/-- Behind each word the next numbers are those that counting on leaves where it runs over. -/
theorem incR_tail {c r : List Nat} (hl : r.length = c.length) (k : Nat) (hk : k ≤ c.length) (ht : (incR (c.drop k) (r.drop k)).1 = true) : incR c r = (match incR (c.take k) (r.take k) with | (b, q) => (b, q ++ (incR (c.drop k) (r.drop k)).2)) := by
  induction k generalizing c r with
  | zero =>
    simp only [List.drop_zero] at ht
    simp only [List.take_zero, incR, List.drop_zero, List.nil_append]
    rw [← ht]
  | succ k ih =>
    cases c with
    | nil => simp at hk
    | cons c cs =>
      cases r with
      | nil => simp at hl
      | cons r rs =>
        simp only [List.drop_succ_cons] at ht
        have := ih (c := cs) (r := rs) (by simpa using hl) (by simpa using hk) ht
        simp only [List.take_succ_cons, List.drop_succ_cons, incR]
        rw [this]
        rcases incR (cs.take k) (rs.take k) with ⟨b, q⟩
        cases b
        · rfl
        · simp only; split <;> rfl

/-- One word more runs over. -/
theorem incR_over {c r : List Nat} (hl : r.length = c.length) (k : Nat) (hk : k < c.length) (ht : incR (c.drop (k + 1)) (r.drop (k + 1)) = (true, List.replicate (c.length - (k + 1)) 0)) (he : r[k]'(by omega) = c[k] - 1) :
    incR (c.drop k) (r.drop k) = (true, List.replicate (c.length - k) 0) := by
  rw [List.drop_eq_getElem_cons hk, List.drop_eq_getElem_cons (show k < r.length by omega)]
  simp only [incR, ht, he, if_true]
  rw [show c.length - k = c.length - (k + 1) + 1 by omega, List.replicate_succ]
/-- A word that does not run over: the next reading. -/
theorem incR_step {c r : List Nat} (hl : r.length = c.length) (k : Nat) (hk : k < c.length) (ht : incR (c.drop (k + 1)) (r.drop (k + 1)) = (true, List.replicate (c.length - (k + 1)) 0)) (he : r[k]'(by omega) ≠ c[k] - 1) :
    incR c r = (false, r.take k ++ (r[k]'(by omega) + 1) :: List.replicate (c.length - (k + 1)) 0) := by
  have hkr : k < r.length := by omega
  induction k generalizing c r with
  | zero =>
    cases c with
    | nil => simp at hk
    | cons c cs =>
      cases r with
      | nil => simp at hl
      | cons r rs =>
        simp only [Nat.zero_add, List.drop_succ_cons, List.drop_zero] at ht
        simp only [List.getElem_cons_zero] at he
        simp only [incR, ht, if_neg he]
        simp
  | succ k ih =>
    cases c with
    | nil => simp at hk
    | cons c cs =>
      cases r with
      | nil => simp at hl
      | cons r rs =>
        have := ih (c := cs) (r := rs) (by simpa using hl) (by simpa using hk) (by simpa using ht) (by simpa using he) (by simpa using hkr)
        simp only [incR, this]
        simp
end Go.Proofs.YtopjjcgmcieboaaGreatDoor

namespace Go.Proofs.YtopjjcgmcieboaaGreatDoor
open Go.RowKit

/-- What was there in blocks of which D speaks is as it was. -/
structure Keep (D : Nat → Prop) (a b : World) : Prop where
  os : b.os = a.os
  tape : b.tape = a.tape
  output : b.output = a.output
  size : a.heap.size ≤ b.heap.size
  block : ∀ k, k < a.heap.size → D k → b.heap[k]? = a.heap[k]?

theorem Keep.refl (D : Nat → Prop) (w : World) : Keep D w w := ⟨rfl, rfl, rfl, Nat.le_refl _, fun _ _ _ => rfl⟩
theorem Keep.trans {D : Nat → Prop} {a b c : World} (h : Keep D a b) (k : Keep D b c) : Keep D a c :=
  ⟨k.os.trans h.os, k.tape.trans h.tape, k.output.trans h.output, Nat.le_trans h.size k.size, fun i hi hd => (k.block i (Nat.lt_of_lt_of_le hi h.size) hd).trans (h.block i hi hd)⟩
theorem Keep.mono {D D' : Nat → Prop} {a b : World} (h : Keep D a b) (hd : ∀ k, k < a.heap.size → D' k → D k) : Keep D' a b := ⟨h.os, h.tape, h.output, h.size, fun k hk h' => h.block k hk (hd k hk h')⟩
theorem Keep.of_ext {D : Nat → Prop} {a b : World} (h : Ext a b) : Keep D a b := ⟨Below.os h, Below.tape h, Below.output h, Below.size h, fun k hk _ => Below.block h k hk⟩
theorem Keep.ext {D : Nat → Prop} {a b c : World} (h : Keep D a b) (k : Ext b c) : Keep D a c := h.trans (Keep.of_ext k)
theorem Keep.alloc {D : Nat → Prop} {a b : World} (h : Keep D a b) (o : Obj) : Keep D a (b.alloc o) := h.ext ((Ext.refl b).alloc o)
theorem Keep.drew {D : Nat → Prop} {a b : World} (h : Keep D a b) : Keep D a b.drew := h.ext (Ext.refl b).drew
theorem Keep.grown {D : Nat → Prop} {a b c : World} {row : Option Nat} (h : Keep D a b) (g : b.grownBy c row) (hr : ∀ k, row = some k → k < a.heap.size → ¬ D k) : Keep D a c :=
  ⟨g.os.trans h.os, g.tape.trans h.tape, g.output.trans h.output, Nat.le_trans h.size g.size, fun k hk hd => (g.block k (Nat.lt_of_lt_of_le hk h.size) (fun e => hr k e.symm hk hd)).trans (h.block k hk hd)⟩
theorem Keep.setCell {D : Nat → Prop} {a b : World} (h : Keep D a b) (p : Addr) (v : Value) (hp : p.block < a.heap.size → ¬ D p.block) : Keep D a (b.setCell p v) :=
  h.grown (row := some p.block) ⟨rfl, rfl, rfl, (KeepsWalks.setCell b p v).size, fun k _ hk => Below.heap_setCell _ _ _ k (fun e => hk (by rw [e]))⟩ (fun k e => by cases e; exact hp)
theorem Keep.putObj {D : Nat → Prop} {a b : World} (h : Keep D a b) (l : Nat) (o : Obj) (hp : ¬ D l) : Keep D a (b.putObj l o) :=
  h.grown (grownBy_putObj' b l o) (fun k e => by cases e; exact fun _ => hp)
theorem Keep.cell {D : Nat → Prop} {a b : World} (h : Keep D a b) {p : Addr} {v : Value} (hc : a.cell? p = some v) (hd : D p.block) : b.cell? p = some v :=
  (World.cell?_of_block (h.block p.block (lt_of_cell hc) hd)).trans hc
theorem Keep.heap {D : Nat → Prop} {a b : World} (h : Keep D a b) {k : Nat} {o : Obj} (hc : a.heap[k]? = some o) (hd : D k) : b.heap[k]? = some o :=
  (h.block k (Array.getElem?_eq_some_iff.1 hc).1 hd).trans hc
theorem Keep.to_ext {D : Nat → Prop} {a b : World} (h : Keep D a b) (hd : ∀ k, k < a.heap.size → D k) : Ext a b :=
  ⟨h.os, h.tape, h.output, h.size, fun k hk => h.block k hk (hd k hk)⟩

/-- A slice that lies where D speaks of reads as it did. -/
theorem IsSl.keep {α : Type} {sz : Nat} {cs : α → Nat → Value} {D : Nat → Prop} {a b : World} {s : SL α} (h : IsSl sz cs a s) (k : Keep D a b) (hd : ∀ g off, s.a = some ⟨g, off, none⟩ → 0 < s.l.length → D g) : IsSl sz cs b s := by
  obtain ⟨h1, h2, h3⟩ := h
  refine ⟨h1, h2, ?_⟩
  rcases h3 with h3 | ⟨g, off, ha, hc⟩
  · exact .inl h3
  · by_cases h0 : s.l.length = 0
    · exact .inl h0
    · exact .inr ⟨g, off, ha, fun i hi j hj => k.cell (hc i hi j hj) (hd g off ha (by omega))⟩

/-- What the iterator's own steps leave: its own blocks lie in [lo, hi). -/
abbrev Out (lo hi : Nat) (k : Nat) : Prop := k < lo ∨ hi ≤ k
/-- What a round leaves: of the blocks below n those of which M speaks, and the iterator's own blocks. -/
abbrev Inn (n : Nat) (M : Nat → Prop) (lo hi : Nat) (k : Nat) : Prop := (k < n ∧ M k) ∨ (lo ≤ k ∧ k < hi)
theorem own_keep {D : Nat → Prop} {w w' : World} {base : Nat} {e : TypeId} {size : Nat} {v : Value} {n : Nat} {xs : List Value} (h : w.ownsRow base e size v n xs) (k : Keep D w w') (hd : ∀ i, base ≤ i → D i) : w'.ownsRow base e size v n xs := by
  obtain ⟨h1, h2⟩ := h
  rcases h2 with h2 | ⟨g, cap, cur, hv, hg, hh, r⟩
  · exact ⟨h1, .inl h2⟩
  · exact ⟨h1, .inr ⟨g, cap, cur, hv, hg, k.heap hh (hd g hg), r⟩⟩
theorem own_mono {w : World} {base base' : Nat} {e : TypeId} {size : Nat} {v : Value} {n : Nat} {xs : List Value} (h : w.ownsRow base e size v n xs) (hb : base' ≤ base) : w.ownsRow base' e size v n xs := by
  obtain ⟨h1, h2⟩ := h
  rcases h2 with h2 | ⟨g, cap, cur, hv, hg, r⟩
  · exact ⟨h1, .inl h2⟩
  · exact ⟨h1, .inr ⟨g, cap, cur, hv, Nat.le_trans hb hg, r⟩⟩
/-- A slice owns its list, in memory from block hi on. -/
abbrev Own1 (w : World) (hi : Nat) (s : SL Nat) : Prop := w.ownsRow hi 3 1 s.v s.l.length (nums s.l)

/-- The function with number g and captured values lb yields the lists of all, one after the other, each in new memory. -/
def Gives (P : Program) (g : Nat) (lb : Array Value) (M : Nat → Prop) (all : List (List Nat)) (w0 : World) : Prop :=
  ∀ (l : Nat) (J Jx : Nat → List (List Nat) → World → Prop) (W : World), Ext w0 W →
    (∀ hi s A B, W.heap.size ≤ hi → J hi s A → Keep (Out W.heap.size hi) A B → J hi s B) →
    (∀ hi s A B, W.heap.size ≤ hi → Jx hi s A → Keep (Out W.heap.size hi) A B → Jx hi s B) →
    (∀ hi pre (s : SL Nat) W1, W.heap.size ≤ hi → hi ≤ W1.heap.size → J hi pre W1 → (pre ++ [s.l]) <+: all → s.l.length ≤ 1000000 → Own1 W1 hi s →
      YieldAt Fence.wide 0 P l #[s.v] W1 fun e W' =>
        (e = .returned (.bool true) ∧ J hi (pre ++ [s.l]) W' ∧ Keep (Inn w0.heap.size M W.heap.size hi) W1 W') ∨ (e = .returned (.bool false) ∧ Jx hi (pre ++ [s.l]) W')) →
    (∀ hi, W.heap.size ≤ hi → J hi [] W) →
    Calls P g (#[.func (.yield l) #[] #[]] ++ lb) W fun e W' => (∃ v, e = .returned v) ∧ ∃ hi, W.heap.size ≤ hi ∧ (J hi all W' ∨ ∃ pre, pre <+: all ∧ Jx hi pre W')

/-- How a round's body may be left. -/
def postT (M : Nat → Prop) (n₀ hi : Nat) (I : List (List Nat) → World → Prop) (Ix : Code → List (List Nat) → World → Prop) (xs : List (List Nat)) (W : World) : Exit → Act → World → Prop
  | .normal, _, W' => Keep (Inn n₀ M n₀ hi) W W' ∧ I xs W'
  | .ret, _, W' => Keep (Inn n₀ M n₀ hi) W W' ∧ Ix .ret xs W'
  | .exit id, _, W' => Keep (Inn n₀ M n₀ hi) W W' ∧ Ix (.exit id) xs W'
  | .goto t, _, W' => Keep (Inn n₀ M n₀ hi) W W' ∧ Ix (.goto t) xs W'
  | .panic _, _, _ => False
  | .outgrown, _, _ => False

variable {P : Program} {n : Nat}

theorem keep_size {D : Nat → Prop} {a b : World} {k : Nat} (h : Keep D a b) (hk : k ≤ a.heap.size) : k ≤ b.heap.size := Nat.le_trans hk h.size

/-- The law. -/
theorem wp_rangeFuncT {g : Operand} {ps : Array Tmp} {assign body : Code} {Q : Exit → Act → World → Prop} {a : Act} {w : World}
    {gf : Nat} {lb : Array Value} (hg : a.eval g = .func (.func gf) #[] lb) (eg : ∀ args w, (callFunc gf args).run P w = .ok (.enter gf args) w)
    {M : Nat → Prop} {all : List (List Nat)} (hseq : Gives P gf lb M all w) (hps : ps.size = 1)
    (I : Nat → List (List Nat) → World → Prop) (Ix : Nat → Code → List (List Nat) → World → Prop)
    (hI : ∀ hi s A B, w.heap.size + 2 ≤ hi → I hi s A → Keep (Out w.heap.size hi) A B → I hi s B)
    (hIx : ∀ c hi s A B, w.heap.size + 2 ≤ hi → Ix hi c s A → Keep (Out w.heap.size hi) A B → Ix hi c s B)
    (h0 : ∀ hi, w.heap.size + 2 ≤ hi → I hi [] w) (a₁ : SL Nat → Act)
    (hassign : ∀ (l : Nat) (s : SL Nat) (W : World) (K : Act → World → Prop), K (a₁ s) W →
      assign.wpIn (Fence.wide.inRound l) 3 P (Exit.then K (fun _ _ _ => False)) { tmps := (ps.zip #[s.v]).foldl (fun t (p, v) => t.setIfInBounds p v) a.tmps, defers := [] } W)
    (hbody : ∀ (l hi : Nat) (pre : List (List Nat)) (s : SL Nat) (W : World), w.heap.size + 2 ≤ hi → hi ≤ W.heap.size → I hi pre W → (pre ++ [s.l]) <+: all → s.l.length ≤ 1000000 → Own1 W hi s →
      body.wpIn (Fence.wide.inRound l) 3 P (postT M w.heap.size hi (I hi) (Ix hi) (pre ++ [s.l]) W) (a₁ s) W)
    (hdone : ∀ (hi : Nat) (W : World), w.heap.size + 2 ≤ hi → I hi all W → W.heap[w.heap.size]? = some (.deferred (some [])) → Q .normal { a with defers := { target := .collected w.heap.size, args := #[] } :: a.defers } W)
    (hstop : ∀ (hi : Nat) (c : Code) (pre : List (List Nat)) (W : World), w.heap.size + 2 ≤ hi → pre <+: all → Ix hi c pre W → W.heap[w.heap.size]? = some (.deferred (some [])) → c.wpIn Fence.wide n P Q { a with defers := { target := .collected w.heap.size, args := #[] } :: a.defers } W) :
    (Code.rangeFunc g ps assign body).wpIn Fence.wide n P Q a w := by
  refine wpIn_rangeFunc ?_
  intro fn hfn
  rw [show Fence.wide.round = none from rfl]
  obtain ⟨rec, hrec⟩ : ∃ rec : LoopState → Option Code → Loop, rec = fun st pe => { state := st, pending := pe, fn, tmps := a.tmps, params := ps, assign, body, defers := w.heap.size } := ⟨_, rfl⟩
  obtain ⟨W1, hW1⟩ : ∃ W1, (w.alloc (.deferred (some []))).alloc (.loop (rec .ready none)) = W1 := ⟨_, rfl⟩
  have hL1 : W1.heap[w.heap.size + 1]? = some (.loop (rec .ready none)) := by
    rw [← hW1]; have := World.alloc_heap_new (w.alloc (.deferred (some []))) (.loop (rec .ready none)); rwa [World.size_alloc] at this
  have hK1 : W1.heap[w.heap.size]? = some (.deferred (some [])) := by
    rw [← hW1]; exact (Below.heap_alloc _ _ _ (by simp)).trans (World.alloc_heap_new w _)
  have hs1 : W1.heap.size = w.heap.size + 2 := by rw [← hW1]; simp
  have hx1 : Ext w W1 := by rw [← hW1]; exact ((Ext.refl w).alloc _).alloc _
  refine ⟨w.heap.size + 1, [{ target := .collected w.heap.size, args := #[] }], W1, { target := .fn (.func gf) lb, args := #[.func (.yield (w.heap.size + 1)) #[] #[]] }, W1, gf,
    #[.func (.yield (w.heap.size + 1)) #[] #[]] ++ lb, W1, ?_, ?_, ?_, ?_, fun h => (by cases h), ?_⟩
  · rw [← hW1, hrec]; exact run_enterLoop_outer _ _ _ _ _
  · simp only [resolve, hg]
    simp [go_sem]
  · intro f' hf'; trivial
  · simp [invoke, go_sem, eg]
  · refine callsIn_wide.2 ?_
    refine (hseq (w.heap.size + 1)
      (fun hi pre W => I hi pre W ∧ W.heap[w.heap.size + 1]? = some (.loop (rec .ready none)) ∧ W.heap[w.heap.size]? = some (.deferred (some [])))
      (fun hi pre W => ∃ c, Ix hi c pre W ∧ W.heap[w.heap.size + 1]? = some (.loop (rec .done (some c))) ∧ W.heap[w.heap.size]? = some (.deferred (some [])))
      W1 hx1
      (fun hi s A B hh hs hk => by
        rw [hs1] at hh hk
        exact ⟨hI hi s A B hh hs.1 (hk.mono (fun k _ h => by simp only [Out] at h ⊢; omega)), hk.heap hs.2.1 (.inl (by omega)), hk.heap hs.2.2 (.inl (by omega))⟩)
      (fun hi s A B hh hs hk => by
        rw [hs1] at hh hk
        obtain ⟨c, hc, hl, hd⟩ := hs
        exact ⟨c, hIx c hi s A B hh hc (hk.mono (fun k _ h => by simp only [Out] at h ⊢; omega)), hk.heap hl (.inl (by omega)), hk.heap hd (.inl (by omega))⟩)
      ?_ (fun hi hh => by rw [hs1] at hh; exact ⟨hI hi [] w W1 hh (h0 hi hh) (Keep.of_ext hx1), hL1, hK1⟩)).mono ?_
    · -- one round
      rintro hi pre s W hh hhW ⟨hi1, hl, hk⟩ hpre hsl hown
      rw [hs1] at hh
      have hlt : w.heap.size + 1 < W.heap.size := (Array.getElem?_eq_some_iff.1 hl).1
      have hy := run_yield (P := P) (args := #[s.v]) hl (by rw [hrec]; simp [hps])
      rw [hrec] at hy
      have put : ∀ (A : World) (o : Obj), Keep (Out w.heap.size hi) A (A.putObj (w.heap.size + 1) o) := fun A o => (Keep.refl _ A).putObj _ _ (by simp only [Out]; omega)
      refine YieldAt.mono (R := fun e W' => (e = .returned (.bool true) ∧ (I hi (pre ++ [s.l]) W' ∧ W'.heap[w.heap.size + 1]? = some (.loop (rec .ready none)) ∧ W'.heap[w.heap.size]? = some (.deferred (some []))) ∧ Keep (Inn w.heap.size M W1.heap.size hi) W W') ∨
          (e = .returned (.bool false) ∧ ∃ c, Ix hi c (pre ++ [s.l]) W' ∧ W'.heap[w.heap.size + 1]? = some (.loop (rec .done (some c))) ∧ W'.heap[w.heap.size]? = some (.deferred (some [])))) ?_ (fun _ _ h => h)
      refine (⟨fn, _, assign, body, hy, ?_⟩ : YieldAt Fence.wide 0 P (w.heap.size + 1) #[s.v] W _)
      have hany : ∀ {R : Ending → World → Prop} {tm : Array Value}, RoundIn Fence.wide 3 P (w.heap.size + 1) fn tm assign body W R → RoundIn Fence.wide 0 P (w.heap.size + 1) fn tm assign body W R :=
        fun h => ⟨h.1, fun c cs _ => h.2 c cs (fun d hd => by cases hd)⟩
      refine hany (roundIn_of_wpIn trivial (hassign _ s W _ ⟨_, run_beginRound hl (by rw [hrec]), ?_⟩))
      have hl2 : (W.putObj (w.heap.size + 1) (.loop { rec .ready none with state := .busy })).heap[w.heap.size + 1]? = some (.loop { rec .ready none with state := .busy }) := World.putObj_heap_same hlt
      have hk2 : (W.putObj (w.heap.size + 1) (.loop { rec .ready none with state := .busy })).heap[w.heap.size]? = some (.deferred (some [])) := (World.putObj_heap_other (by omega)).trans hk
      have hp2 := put W (.loop { rec .ready none with state := .busy })
      have hsz2 : (W.putObj (w.heap.size + 1) (.loop { rec .ready none with state := .busy })).heap.size = W.heap.size := by simp [World.putObj]
      refine wpIn_mono (hbody _ hi pre s _ hh (by rw [hsz2]; exact hhW) (hI hi _ _ _ hh hi1 hp2) hpre hsl (own_keep (D := fun k => k ≠ w.heap.size + 1) hown ((Keep.refl _ W).putObj _ _ (fun h => h rfl)) (fun i hi => by omega))) ?_
      have fin : ∀ (jump : Option Code) (W3 : World), Keep (Inn w.heap.size M w.heap.size hi) (W.putObj (w.heap.size + 1) (.loop { rec .ready none with state := .busy })) W3 →
          (Instr.endRound (w.heap.size + 1) jump).run P W3 = .ok (.bool jump.isNone) (W3.putObj (w.heap.size + 1) (.loop (rec (if jump.isNone then .ready else .done) jump))) ∧
          (W3.putObj (w.heap.size + 1) (.loop (rec (if jump.isNone then .ready else .done) jump))).heap[w.heap.size + 1]? = some (.loop (rec (if jump.isNone then .ready else .done) jump)) ∧
          (W3.putObj (w.heap.size + 1) (.loop (rec (if jump.isNone then .ready else .done) jump))).heap[w.heap.size]? = some (.deferred (some [])) := fun jump W3 hk3 => by
        have hl3 := hk3.heap hl2 (.inr ⟨by omega, by omega⟩)
        have := run_endRound (P := P) jump hl3
        rw [hrec] at this ⊢
        exact ⟨this, World.putObj_heap_same (Array.getElem?_eq_some_iff.1 hl3).1, (World.putObj_heap_other (by omega)).trans (hk3.heap hk2 (.inr ⟨by omega, by omega⟩))⟩
      rintro e a3 W3 hp
      cases e with
      | normal =>
        obtain ⟨hk3, hi3⟩ := hp
        obtain ⟨hr, hl4, hk4⟩ := fin none W3 hk3
        refine ⟨_, _, hr, .inl ⟨rfl, ⟨hI hi _ _ _ hh hi3 (put W3 _), hl4, hk4⟩, ?_⟩⟩
        have q1 : Keep (Inn w.heap.size M W1.heap.size hi) W (W.putObj (w.heap.size + 1) (.loop { rec .ready none with state := .busy })) := (Keep.refl _ W).putObj _ _ (fun h => by rcases h with h | h <;> omega)
        have q2 : Keep (Inn w.heap.size M W1.heap.size hi) (W.putObj (w.heap.size + 1) (.loop { rec .ready none with state := .busy })) W3 := hk3.mono (fun k _ h => by rcases h with h | h; exact .inl h; exact .inr ⟨by omega, h.2⟩)
        exact (q1.trans q2).putObj _ _ (fun h => by rcases h with h | h <;> omega)
      | ret =>
        obtain ⟨hk3, hi3⟩ := hp
        obtain ⟨hr, hl4, hk4⟩ := fin (some .ret) W3 hk3
        exact ⟨_, _, hr, .inr ⟨rfl, .ret, hIx _ hi _ _ _ hh hi3 (put W3 _), hl4, hk4⟩⟩
      | exit id =>
        obtain ⟨hk3, hi3⟩ := hp
        obtain ⟨hr, hl4, hk4⟩ := fin (some (.exit id)) W3 hk3
        exact ⟨_, _, hr, .inr ⟨rfl, .exit id, hIx _ hi _ _ _ hh hi3 (put W3 _), hl4, hk4⟩⟩
      | goto t =>
        obtain ⟨hk3, hi3⟩ := hp
        obtain ⟨hr, hl4, hk4⟩ := fin (some (.goto t)) W3 hk3
        exact ⟨_, _, hr, .inr ⟨rfl, .goto t, hIx _ hi _ _ _ hh hi3 (put W3 _), hl4, hk4⟩⟩
      | panic ch => exact hp.elim
      | outgrown => exact hp.elim
    · -- behind the iterator
      rintro e W2 ⟨⟨v, rfl⟩, hi, hh, (⟨hi1, hl, hk⟩ | ⟨pre, hSp, c, hi1, hl, hk⟩)⟩
      · rw [hs1] at hh
        exact ⟨none, _, by have := run_endLoop (P := P) hl (by rw [hrec]; simp); rw [hrec] at this; exact this, hdone hi _ hh (hI hi _ _ _ hh hi1 ((Keep.refl _ W2).putObj _ _ (by simp only [Out]; omega))) ((World.putObj_heap_other (by omega)).trans hk)⟩
      · rw [hs1] at hh
        exact ⟨some c, _, by have := run_endLoop (P := P) hl (by rw [hrec]; simp); rw [hrec] at this; exact this, hstop hi c pre _ hh hSp (hIx c hi _ _ _ hh hi1 ((Keep.refl _ W2).putObj _ _ (by simp only [Out]; omega))) ((World.putObj_heap_other (by omega)).trans hk)⟩

end Go.Proofs.YtopjjcgmcieboaaGreatDoor
