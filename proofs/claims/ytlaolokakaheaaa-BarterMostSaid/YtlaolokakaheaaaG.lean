/-
  A range over a function whose iterator yields the elements of a list: a law of the walk for such loops. Nothing is claimed of the program here.
-/
import Derived.Test.YtlaolokakaheaaaA
import Derived.RangeFuncIn
import Derived.RangeFuncLeaves
import Derived.RangeFuncBound
import Derived.RangeFuncWrites
namespace Go.Proofs.Ytlaolokakaheaaa
open Go.RowKit
/-- What was there in blocks of which D speaks is as it was. -/
structure Keep (D : Nat → Prop) (a b : World) : Prop where
  os : b.os = a.os
  tape : b.tape = a.tape
  output : b.output = a.output
  size : a.heap.size ≤ b.heap.size
  block : ∀ k, k < a.heap.size → D k → b.heap[k]? = a.heap[k]?

theorem Keep.refl (D : Nat → Prop) (w : World) : Keep D w w := ⟨rfl, rfl, rfl, Nat.le_refl _, fun _ _ _ => rfl⟩

theorem Keep.trans {D : Nat → Prop} {a b c : World} (h : Keep D a b) (k : Keep D b c) : Keep D a c :=
  ⟨k.os.trans h.os, k.tape.trans h.tape, k.output.trans h.output, Nat.le_trans h.size k.size, fun i hi hd => (k.block i (Nat.lt_of_lt_of_le hi h.size) hd).trans (h.block i hi hd)⟩

theorem Keep.mono {D D' : Nat → Prop} {a b : World} (h : Keep D a b) (hd : ∀ k, k < a.heap.size → D' k → D k) : Keep D' a b := ⟨h.os, h.tape, h.output, h.size, fun k hk h' => h.block k hk (hd k hk h')⟩

theorem Keep.of_ext {D : Nat → Prop} {a b : World} (h : Ext a b) : Keep D a b := ⟨Below.os h, Below.tape h, Below.output h, Below.size h, fun k hk _ => Below.block h k hk⟩

theorem Keep.ext {D : Nat → Prop} {a b c : World} (h : Keep D a b) (k : Ext b c) : Keep D a c := h.trans (Keep.of_ext k)

theorem Keep.alloc {D : Nat → Prop} {a b : World} (h : Keep D a b) (o : Obj) : Keep D a (b.alloc o) := h.ext ((Ext.refl b).alloc o)

theorem Keep.drew {D : Nat → Prop} {a b : World} (h : Keep D a b) : Keep D a b.drew := h.ext (Ext.refl b).drew

theorem Keep.grown {D : Nat → Prop} {a b c : World} {row : Option Nat} (h : Keep D a b) (g : b.grownBy c row) (hr : ∀ k, row = some k → k < a.heap.size → ¬ D k) : Keep D a c :=
  ⟨g.os.trans h.os, g.tape.trans h.tape, g.output.trans h.output, Nat.le_trans h.size g.size, fun k hk hd => (g.block k (Nat.lt_of_lt_of_le hk h.size) (fun e => hr k e.symm hk hd)).trans (h.block k hk hd)⟩

theorem Keep.setCell {D : Nat → Prop} {a b : World} (h : Keep D a b) (p : Addr) (v : Value) (hp : p.block < a.heap.size → ¬ D p.block) : Keep D a (b.setCell p v) :=
  h.grown (row := some p.block) ⟨rfl, rfl, rfl, (KeepsWalks.setCell b p v).size, fun k _ hk => Below.heap_setCell _ _ _ k (fun e => hk (by rw [e]))⟩ (fun k e => by cases e; exact hp)

theorem Keep.putObj {D : Nat → Prop} {a b : World} (h : Keep D a b) (l : Nat) (o : Obj) (hp : ¬ D l) : Keep D a (b.putObj l o) :=
  h.grown (grownBy_putObj' b l o) (fun k e => by cases e; exact fun _ => hp)

theorem Keep.cell {D : Nat → Prop} {a b : World} (h : Keep D a b) {p : Addr} {v : Value} (hc : a.cell? p = some v) (hd : D p.block) : b.cell? p = some v :=
  (World.cell?_of_block (h.block p.block (lt_of_cell hc) hd)).trans hc

theorem Keep.heap {D : Nat → Prop} {a b : World} (h : Keep D a b) {k : Nat} {o : Obj} (hc : a.heap[k]? = some o) (hd : D k) : b.heap[k]? = some o :=
  (h.block k (Array.getElem?_eq_some_iff.1 hc).1 hd).trans hc

theorem Keep.to_ext {D : Nat → Prop} {a b : World} (h : Keep D a b) (hd : ∀ k, k < a.heap.size → D k) : Ext a b :=
  ⟨h.os, h.tape, h.output, h.size, fun k hk => h.block k hk (hd k hk)⟩

/-- A slice that lies where D speaks of reads as it did. -/
theorem IsSl.keep {α : Type} {sz : Nat} {cs : α → Nat → Value} {D : Nat → Prop} {a b : World} {s : SL α} (h : IsSl sz cs a s) (k : Keep D a b) (hd : ∀ g off, s.a = some ⟨g, off, none⟩ → 0 < s.l.length → D g) : IsSl sz cs b s := by
  obtain ⟨h1, h2, h3⟩ := h
  refine ⟨h1, h2, ?_⟩
  rcases h3 with h3 | ⟨g, off, ha, hc⟩
  · exact .inl h3
  · by_cases h0 : s.l.length = 0
    · exact .inl h0
    · exact .inr ⟨g, off, ha, fun i hi j hj => k.cell (hc i hi j hj) (hd g off ha (by omega))⟩

/-- What the iterator's own steps leave: its own blocks lie in [lo, hi). -/
abbrev Out (lo hi : Nat) (k : Nat) : Prop := k < lo ∨ hi ≤ k

/-- What a round leaves: of the blocks below n those of which M speaks, and the iterator's own blocks. -/
abbrev Inn (n : Nat) (M : Nat → Prop) (lo hi : Nat) (k : Nat) : Prop := (k < n ∧ M k) ∨ (lo ≤ k ∧ k < hi)

theorem own_keep {D : Nat → Prop} {w w' : World} {base : Nat} {e : TypeId} {size : Nat} {v : Value} {n : Nat} {xs : List Value} (h : w.ownsRow base e size v n xs) (k : Keep D w w') (hd : ∀ i, base ≤ i → D i) : w'.ownsRow base e size v n xs := by
  obtain ⟨h1, h2⟩ := h
  rcases h2 with h2 | ⟨g, cap, cur, hv, hg, hh, r⟩
  · exact ⟨h1, .inl h2⟩
  · exact ⟨h1, .inr ⟨g, cap, cur, hv, hg, k.heap hh (hd g hg), r⟩⟩

theorem own_mono {w : World} {base base' : Nat} {e : TypeId} {size : Nat} {v : Value} {n : Nat} {xs : List Value} (h : w.ownsRow base e size v n xs) (hb : base' ≤ base) : w.ownsRow base' e size v n xs := by
  obtain ⟨h1, h2⟩ := h
  rcases h2 with h2 | ⟨g, cap, cur, hv, hg, r⟩
  · exact ⟨h1, .inl h2⟩
  · exact ⟨h1, .inr ⟨g, cap, cur, hv, Nat.le_trans hb hg, r⟩⟩

/-- The function with number g and captured values lb yields the elements of all, one after the other. -/
def Gives {α : Type} (enc : α → Value) (P : Program) (g : Nat) (lb : Array Value) (M : Nat → Prop) (all : List α) (w0 : World) : Prop :=
  ∀ (l : Nat) (J Jx : Nat → List α → World → Prop) (W : World), Ext w0 W →
    (∀ hi s A B, W.heap.size ≤ hi → J hi s A → Keep (Out W.heap.size hi) A B → J hi s B) →
    (∀ hi s A B, W.heap.size ≤ hi → Jx hi s A → Keep (Out W.heap.size hi) A B → Jx hi s B) →
    (∀ hi pre (s : α) W1, W.heap.size ≤ hi → hi ≤ W1.heap.size → J hi pre W1 → (pre ++ [s]) <+: all →
      YieldAt Fence.wide 0 P l #[enc s] W1 fun e W' =>
        (e = .returned (.bool true) ∧ J hi (pre ++ [s]) W' ∧ Keep (Inn w0.heap.size M W.heap.size hi) W1 W') ∨ (e = .returned (.bool false) ∧ Jx hi (pre ++ [s]) W')) →
    (∀ hi, W.heap.size ≤ hi → J hi [] W) →
    Calls P g (#[.func (.yield l) #[] #[]] ++ lb) W fun e W' => (∃ v, e = .returned v) ∧ ∃ hi, W.heap.size ≤ hi ∧ (J hi all W' ∨ ∃ pre, pre <+: all ∧ Jx hi pre W')

/-- How a round's body may be left. -/
def postT {α : Type} (M : Nat → Prop) (n₀ hi : Nat) (I : List α → World → Prop) (Ix : Code → List α → World → Prop) (xs : List α) (W : World) : Exit → Act → World → Prop
  | .normal, _, W' => Keep (Inn n₀ M n₀ hi) W W' ∧ I xs W'
  | .ret, _, W' => Keep (Inn n₀ M n₀ hi) W W' ∧ Ix .ret xs W'
  | .exit id, _, W' => Keep (Inn n₀ M n₀ hi) W W' ∧ Ix (.exit id) xs W'
  | .goto t, _, W' => Keep (Inn n₀ M n₀ hi) W W' ∧ Ix (.goto t) xs W'
  | .panic _, _, _ => False
  | .outgrown, _, _ => False

variable {P : Program} {n : Nat}
theorem keep_size {D : Nat → Prop} {a b : World} {k : Nat} (h : Keep D a b) (hk : k ≤ a.heap.size) : k ≤ b.heap.size := Nat.le_trans hk h.size

/-- The law. -/
theorem wp_rangeFuncT {α : Type} {enc : α → Value} {g : Operand} {ps : Array Tmp} {assign body : Code} {Q : Exit → Act → World → Prop} {a : Act} {w : World}
    {gf : Nat} {lb : Array Value} (hg : a.eval g = .func (.func gf) #[] lb) (eg : ∀ args w, (callFunc gf args).run P w = .ok (.enter gf args) w)
    {M : Nat → Prop} {all : List α} (hseq : Gives enc P gf lb M all w) (hps : ps.size = 1)
    (I : Nat → List α → World → Prop) (Ix : Nat → Code → List α → World → Prop)
    (hI : ∀ hi s A B, w.heap.size + 2 ≤ hi → I hi s A → Keep (Out w.heap.size hi) A B → I hi s B)
    (hIx : ∀ c hi s A B, w.heap.size + 2 ≤ hi → Ix hi c s A → Keep (Out w.heap.size hi) A B → Ix hi c s B)
    (h0 : ∀ hi, w.heap.size + 2 ≤ hi → I hi [] w) (a₁ : α → Act)
    (hassign : ∀ (l : Nat) (s : α) (W : World) (K : Act → World → Prop), K (a₁ s) W →
      assign.wpIn (Fence.wide.inRound l) 3 P (Exit.then K (fun _ _ _ => False)) { tmps := (ps.zip #[enc s]).foldl (fun t (p, v) => t.setIfInBounds p v) a.tmps, defers := [] } W)
    (hbody : ∀ (l hi : Nat) (pre : List α) (s : α) (W : World), w.heap.size + 2 ≤ hi → hi ≤ W.heap.size → I hi pre W → (pre ++ [s]) <+: all →
      body.wpIn (Fence.wide.inRound l) 3 P (postT M w.heap.size hi (I hi) (Ix hi) (pre ++ [s]) W) (a₁ s) W)
    (hdone : ∀ (hi : Nat) (W : World), w.heap.size + 2 ≤ hi → I hi all W → W.heap[w.heap.size]? = some (.deferred (some [])) → Q .normal { a with defers := { target := .collected w.heap.size, args := #[] } :: a.defers } W)
    (hstop : ∀ (hi : Nat) (c : Code) (pre : List α) (W : World), w.heap.size + 2 ≤ hi → pre <+: all → Ix hi c pre W → W.heap[w.heap.size]? = some (.deferred (some [])) → c.wpIn Fence.wide n P Q { a with defers := { target := .collected w.heap.size, args := #[] } :: a.defers } W) :
    (Code.rangeFunc g ps assign body).wpIn Fence.wide n P Q a w := by
  refine wpIn_rangeFunc ?_
  intro fn hfn
  rw [show Fence.wide.round = none from rfl]
  obtain ⟨rec, hrec⟩ : ∃ rec : LoopState → Option Code → Loop, rec = fun st pe => { state := st, pending := pe, fn, tmps := a.tmps, params := ps, assign, body, defers := w.heap.size } := ⟨_, rfl⟩
  obtain ⟨W1, hW1⟩ : ∃ W1, (w.alloc (.deferred (some []))).alloc (.loop (rec .ready none)) = W1 := ⟨_, rfl⟩
  have hL1 : W1.heap[w.heap.size + 1]? = some (.loop (rec .ready none)) := by
    rw [← hW1]; have := World.alloc_heap_new (w.alloc (.deferred (some []))) (.loop (rec .ready none)); rwa [World.size_alloc] at this
  have hK1 : W1.heap[w.heap.size]? = some (.deferred (some [])) := by
    rw [← hW1]; exact (Below.heap_alloc _ _ _ (by simp)).trans (World.alloc_heap_new w _)
  have hs1 : W1.heap.size = w.heap.size + 2 := by rw [← hW1]; simp
  have hx1 : Ext w W1 := by rw [← hW1]; exact ((Ext.refl w).alloc _).alloc _
  refine ⟨w.heap.size + 1, [{ target := .collected w.heap.size, args := #[] }], W1, { target := .fn (.func gf) lb, args := #[.func (.yield (w.heap.size + 1)) #[] #[]] }, W1, gf,
    #[.func (.yield (w.heap.size + 1)) #[] #[]] ++ lb, W1, ?_, ?_, ?_, ?_, fun h => (by cases h), ?_⟩
  · rw [← hW1, hrec]; exact run_enterLoop_outer _ _ _ _ _
  · simp only [resolve, hg]
    simp [go_sem]
  · intro f' hf'; trivial
  · simp [invoke, go_sem, eg]
  · refine callsIn_wide.2 ?_
    refine (hseq (w.heap.size + 1)
      (fun hi pre W => I hi pre W ∧ W.heap[w.heap.size + 1]? = some (.loop (rec .ready none)) ∧ W.heap[w.heap.size]? = some (.deferred (some [])))
      (fun hi pre W => ∃ c, Ix hi c pre W ∧ W.heap[w.heap.size + 1]? = some (.loop (rec .done (some c))) ∧ W.heap[w.heap.size]? = some (.deferred (some [])))
      W1 hx1
      (fun hi s A B hh hs hk => by
        rw [hs1] at hh hk
        exact ⟨hI hi s A B hh hs.1 (hk.mono (fun k _ h => by simp only [Out] at h ⊢; omega)), hk.heap hs.2.1 (.inl (by omega)), hk.heap hs.2.2 (.inl (by omega))⟩)
      (fun hi s A B hh hs hk => by
        rw [hs1] at hh hk
        obtain ⟨c, hc, hl, hd⟩ := hs
        exact ⟨c, hIx c hi s A B hh hc (hk.mono (fun k _ h => by simp only [Out] at h ⊢; omega)), hk.heap hl (.inl (by omega)), hk.heap hd (.inl (by omega))⟩)
      ?_ (fun hi hh => by rw [hs1] at hh; exact ⟨hI hi [] w W1 hh (h0 hi hh) (Keep.of_ext hx1), hL1, hK1⟩)).mono ?_
    · -- one round
      rintro hi pre s W hh hhW ⟨hi1, hl, hk⟩ hpre
      rw [hs1] at hh
      have hlt : w.heap.size + 1 < W.heap.size := (Array.getElem?_eq_some_iff.1 hl).1
      have hy := run_yield (P := P) (args := #[enc s]) hl (by rw [hrec]; simp [hps])
      rw [hrec] at hy
      have put : ∀ (A : World) (o : Obj), Keep (Out w.heap.size hi) A (A.putObj (w.heap.size + 1) o) := fun A o => (Keep.refl _ A).putObj _ _ (by simp only [Out]; omega)
      refine YieldAt.mono (R := fun e W' => (e = .returned (.bool true) ∧ (I hi (pre ++ [s]) W' ∧ W'.heap[w.heap.size + 1]? = some (.loop (rec .ready none)) ∧ W'.heap[w.heap.size]? = some (.deferred (some []))) ∧ Keep (Inn w.heap.size M W1.heap.size hi) W W') ∨
          (e = .returned (.bool false) ∧ ∃ c, Ix hi c (pre ++ [s]) W' ∧ W'.heap[w.heap.size + 1]? = some (.loop (rec .done (some c))) ∧ W'.heap[w.heap.size]? = some (.deferred (some [])))) ?_ (fun _ _ h => h)
      refine (⟨fn, _, assign, body, hy, ?_⟩ : YieldAt Fence.wide 0 P (w.heap.size + 1) #[enc s] W _)
      have hany : ∀ {R : Ending → World → Prop} {tm : Array Value}, RoundIn Fence.wide 3 P (w.heap.size + 1) fn tm assign body W R → RoundIn Fence.wide 0 P (w.heap.size + 1) fn tm assign body W R :=
        fun h => ⟨h.1, fun c cs _ => h.2 c cs (fun d hd => by cases hd)⟩
      refine hany (roundIn_of_wpIn trivial (hassign _ s W _ ⟨_, run_beginRound hl (by rw [hrec]), ?_⟩))
      have hl2 : (W.putObj (w.heap.size + 1) (.loop { rec .ready none with state := .busy })).heap[w.heap.size + 1]? = some (.loop { rec .ready none with state := .busy }) := World.putObj_heap_same hlt
      have hk2 : (W.putObj (w.heap.size + 1) (.loop { rec .ready none with state := .busy })).heap[w.heap.size]? = some (.deferred (some [])) := (World.putObj_heap_other (by omega)).trans hk
      have hp2 := put W (.loop { rec .ready none with state := .busy })
      have hsz2 : (W.putObj (w.heap.size + 1) (.loop { rec .ready none with state := .busy })).heap.size = W.heap.size := by simp [World.putObj]
      refine wpIn_mono (hbody _ hi pre s _ hh (by rw [hsz2]; exact hhW) (hI hi _ _ _ hh hi1 hp2) hpre) ?_
      have fin : ∀ (jump : Option Code) (W3 : World), Keep (Inn w.heap.size M w.heap.size hi) (W.putObj (w.heap.size + 1) (.loop { rec .ready none with state := .busy })) W3 →
          (Instr.endRound (w.heap.size + 1) jump).run P W3 = .ok (.bool jump.isNone) (W3.putObj (w.heap.size + 1) (.loop (rec (if jump.isNone then .ready else .done) jump))) ∧
          (W3.putObj (w.heap.size + 1) (.loop (rec (if jump.isNone then .ready else .done) jump))).heap[w.heap.size + 1]? = some (.loop (rec (if jump.isNone then .ready else .done) jump)) ∧
          (W3.putObj (w.heap.size + 1) (.loop (rec (if jump.isNone then .ready else .done) jump))).heap[w.heap.size]? = some (.deferred (some [])) := fun jump W3 hk3 => by
        have hl3 := hk3.heap hl2 (.inr ⟨by omega, by omega⟩)
        have := run_endRound (P := P) jump hl3
        rw [hrec] at this ⊢
        exact ⟨this, World.putObj_heap_same (Array.getElem?_eq_some_iff.1 hl3).1, (World.putObj_heap_other (by omega)).trans (hk3.heap hk2 (.inr ⟨by omega, by omega⟩))⟩
      rintro e a3 W3 hp
      cases e with
      | normal =>
        obtain ⟨hk3, hi3⟩ := hp
        obtain ⟨hr, hl4, hk4⟩ := fin none W3 hk3
        refine ⟨_, _, hr, .inl ⟨rfl, ⟨hI hi _ _ _ hh hi3 (put W3 _), hl4, hk4⟩, ?_⟩⟩
        have q1 : Keep (Inn w.heap.size M W1.heap.size hi) W (W.putObj (w.heap.size + 1) (.loop { rec .ready none with state := .busy })) := (Keep.refl _ W).putObj _ _ (fun h => by rcases h with h | h <;> omega)
        have q2 : Keep (Inn w.heap.size M W1.heap.size hi) (W.putObj (w.heap.size + 1) (.loop { rec .ready none with state := .busy })) W3 := hk3.mono (fun k _ h => by rcases h with h | h; exact .inl h; exact .inr ⟨by omega, h.2⟩)
        exact (q1.trans q2).putObj _ _ (fun h => by rcases h with h | h <;> omega)
      | ret =>
        obtain ⟨hk3, hi3⟩ := hp
        obtain ⟨hr, hl4, hk4⟩ := fin (some .ret) W3 hk3
        exact ⟨_, _, hr, .inr ⟨rfl, .ret, hIx _ hi _ _ _ hh hi3 (put W3 _), hl4, hk4⟩⟩
      | exit id =>
        obtain ⟨hk3, hi3⟩ := hp
        obtain ⟨hr, hl4, hk4⟩ := fin (some (.exit id)) W3 hk3
        exact ⟨_, _, hr, .inr ⟨rfl, .exit id, hIx _ hi _ _ _ hh hi3 (put W3 _), hl4, hk4⟩⟩
      | goto t =>
        obtain ⟨hk3, hi3⟩ := hp
        obtain ⟨hr, hl4, hk4⟩ := fin (some (.goto t)) W3 hk3
        exact ⟨_, _, hr, .inr ⟨rfl, .goto t, hIx _ hi _ _ _ hh hi3 (put W3 _), hl4, hk4⟩⟩
      | panic ch => exact hp.elim
      | outgrown => exact hp.elim
    · -- behind the iterator
      rintro e W2 ⟨⟨v, rfl⟩, hi, hh, (⟨hi1, hl, hk⟩ | ⟨pre, hSp, c, hi1, hl, hk⟩)⟩
      · rw [hs1] at hh
        exact ⟨none, _, by have := run_endLoop (P := P) hl (by rw [hrec]; simp); rw [hrec] at this; exact this, hdone hi _ hh (hI hi _ _ _ hh hi1 ((Keep.refl _ W2).putObj _ _ (by simp only [Out]; omega))) ((World.putObj_heap_other (by omega)).trans hk)⟩
      · rw [hs1] at hh
        exact ⟨some c, _, by have := run_endLoop (P := P) hl (by rw [hrec]; simp); rw [hrec] at this; exact this, hstop hi c pre _ hh hSp (hIx c hi _ _ _ hh hi1 ((Keep.refl _ W2).putObj _ _ (by simp only [Out]; omega))) ((World.putObj_heap_other (by omega)).trans hk)⟩

theorem yield_wide {m : Nat} {P : Program} {l : Nat} {args : Array Value} {W : World} {R : Ending → World → Prop} (h : YieldAt Fence.wide m P l args W R) :
    ∃ fn tmps assign body, (Instr.yield l args).run P W = .ok (.round l fn tmps assign body) W ∧ ∀ m', RoundIn Fence.wide m' P l fn tmps assign body W R := by
  obtain ⟨fn, tmps, assign, body, hy, hR⟩ := h
  exact ⟨fn, tmps, assign, body, hy, fun m' => ⟨hR.1, fun c cs _ => hR.2 c cs (fun d hd => by cases hd)⟩⟩

theorem ext_keep {D : Nat → Prop} {w a b : World} (h : Ext w a) (k : Keep D a b) (hd : ∀ i, i < w.heap.size → D i) : Ext w b :=
  ⟨k.os.trans (Below.os h), k.tape.trans (Below.tape h), k.output.trans (Below.output h), Nat.le_trans (Below.size h) k.size, fun i hi => (k.block i (Nat.lt_of_lt_of_le hi (Below.size h)) (hd i hi)).trans (Below.block h i hi)⟩

theorem Row.keep {a b : World} {g cap : Nat} {L : List Nat} {D : Nat → Prop} (h : Row a g L cap) (k : Keep D a b) (hd : D g) : Row b g L cap := by
  obtain ⟨cur, h1, h2⟩ := h; exact ⟨cur, k.heap h1 hd, h2⟩

theorem Row.sl {w : World} {g cap : Nat} {L : List Nat} (h : Row w g L cap) (hl : L.length ≤ 1000000) : IsSl 1 num w ⟨some ⟨g, 0, none⟩, cap, L⟩ :=
  ⟨h.le, hl, .inr ⟨g, 0, rfl, fun i hi j hj => by
    obtain rfl : j = 0 := by omega
    have := h.cell i hi
    simpa [num] using this⟩⟩

end Go.Proofs.Ytlaolokakaheaaa