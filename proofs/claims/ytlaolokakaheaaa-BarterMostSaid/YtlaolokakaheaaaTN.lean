/-
  A range over a function within a round of a range over a function, both of whose iterators keep state of their own: a law of the walk. Nothing is claimed of the program here.
-/
import Derived.Test.YtlaolokakaheaaaG
import Derived.RangeFuncNested
namespace Go.Proofs.Ytlaolokakaheaaa
open Go.RowKit
variable {P : Program} {n : Nat}

/-- The law, where the body is told of its own loop's record. -/
theorem wp_rangeFuncTH {α : Type} {enc : α → Value} {g : Operand} {ps : Array Tmp} {assign body : Code} {Q : Exit → Act → World → Prop} {a : Act} {w : World}
    {gf : Nat} {lb : Array Value} (hg : a.eval g = .func (.func gf) #[] lb) (eg : ∀ args w, (callFunc gf args).run P w = .ok (.enter gf args) w)
    {M : Nat → Prop} {all : List α} (hseq : Gives enc P gf lb M all w) (hps : ps.size = 1)
    (I : Nat → List α → World → Prop) (Ix : Nat → Code → List α → World → Prop)
    (hI : ∀ hi s A B, w.heap.size + 2 ≤ hi → I hi s A → Keep (Out w.heap.size hi) A B → I hi s B)
    (hIx : ∀ c hi s A B, w.heap.size + 2 ≤ hi → Ix hi c s A → Keep (Out w.heap.size hi) A B → Ix hi c s B)
    (h0 : ∀ hi, w.heap.size + 2 ≤ hi → I hi [] w) (a₁ : α → Act)
    (hassign : ∀ (l : Nat) (s : α) (W : World) (K : Act → World → Prop), K (a₁ s) W →
      assign.wpIn (Fence.wide.inRound l) 3 P (Exit.then K (fun _ _ _ => False)) { tmps := (ps.zip #[enc s]).foldl (fun t (p, v) => t.setIfInBounds p v) a.tmps, defers := [] } W)
    (hbody : ∀ (l hi : Nat) (pre : List α) (s : α) (W : World), w.heap.size + 2 ≤ hi → hi ≤ W.heap.size → I hi pre W → (pre ++ [s]) <+: all → (∃ r, W.heap[l]? = some (.loop r)) → w.heap.size ≤ l → l < hi →
      body.wpIn (Fence.wide.inRound l) 3 P (postT M w.heap.size hi (I hi) (Ix hi) (pre ++ [s]) W) (a₁ s) W)
    (hdone : ∀ (hi : Nat) (W : World), w.heap.size + 2 ≤ hi → I hi all W → W.heap[w.heap.size]? = some (.deferred (some [])) → Q .normal { a with defers := { target := .collected w.heap.size, args := #[] } :: a.defers } W)
    (hstop : ∀ (hi : Nat) (c : Code) (pre : List α) (W : World), w.heap.size + 2 ≤ hi → pre <+: all → Ix hi c pre W → W.heap[w.heap.size]? = some (.deferred (some [])) → c.wpIn Fence.wide n P Q { a with defers := { target := .collected w.heap.size, args := #[] } :: a.defers } W) :
    (Code.rangeFunc g ps assign body).wpIn Fence.wide n P Q a w := by
  refine wpIn_rangeFunc ?_
  intro fn hfn
  rw [show Fence.wide.round = none from rfl]
  obtain ⟨rec, hrec⟩ : ∃ rec : LoopState → Option Code → Loop, rec = fun st pe => { state := st, pending := pe, fn, tmps := a.tmps, params := ps, assign, body, defers := w.heap.size } := ⟨_, rfl⟩
  obtain ⟨W1, hW1⟩ : ∃ W1, (w.alloc (.deferred (some []))).alloc (.loop (rec .ready none)) = W1 := ⟨_, rfl⟩
  have hL1 : W1.heap[w.heap.size + 1]? = some (.loop (rec .ready none)) := by
    rw [← hW1]; have := World.alloc_heap_new (w.alloc (.deferred (some []))) (.loop (rec .ready none)); rwa [World.size_alloc] at this
  have hK1 : W1.heap[w.heap.size]? = some (.deferred (some [])) := by
    rw [← hW1]; exact (Below.heap_alloc _ _ _ (by simp)).trans (World.alloc_heap_new w _)
  have hs1 : W1.heap.size = w.heap.size + 2 := by rw [← hW1]; simp
  have hx1 : Ext w W1 := by rw [← hW1]; exact ((Ext.refl w).alloc _).alloc _
  refine ⟨w.heap.size + 1, [{ target := .collected w.heap.size, args := #[] }], W1, { target := .fn (.func gf) lb, args := #[.func (.yield (w.heap.size + 1)) #[] #[]] }, W1, gf,
    #[.func (.yield (w.heap.size + 1)) #[] #[]] ++ lb, W1, ?_, ?_, ?_, ?_, fun h => (by cases h), ?_⟩
  · rw [← hW1, hrec]; exact run_enterLoop_outer _ _ _ _ _
  · simp only [resolve, hg]
    simp [go_sem]
  · intro f' hf'; trivial
  · simp [invoke, go_sem, eg]
  · refine callsIn_wide.2 ?_
    refine (hseq (w.heap.size + 1)
      (fun hi pre W => I hi pre W ∧ W.heap[w.heap.size + 1]? = some (.loop (rec .ready none)) ∧ W.heap[w.heap.size]? = some (.deferred (some [])))
      (fun hi pre W => ∃ c, Ix hi c pre W ∧ W.heap[w.heap.size + 1]? = some (.loop (rec .done (some c))) ∧ W.heap[w.heap.size]? = some (.deferred (some [])))
      W1 hx1
      (fun hi s A B hh hs hk => by
        rw [hs1] at hh hk
        exact ⟨hI hi s A B hh hs.1 (hk.mono (fun k _ h => by simp only [Out] at h ⊢; omega)), hk.heap hs.2.1 (.inl (by omega)), hk.heap hs.2.2 (.inl (by omega))⟩)
      (fun hi s A B hh hs hk => by
        rw [hs1] at hh hk
        obtain ⟨c, hc, hl, hd⟩ := hs
        exact ⟨c, hIx c hi s A B hh hc (hk.mono (fun k _ h => by simp only [Out] at h ⊢; omega)), hk.heap hl (.inl (by omega)), hk.heap hd (.inl (by omega))⟩)
      ?_ (fun hi hh => by rw [hs1] at hh; exact ⟨hI hi [] w W1 hh (h0 hi hh) (Keep.of_ext hx1), hL1, hK1⟩)).mono ?_
    · -- one round
      rintro hi pre s W hh hhW ⟨hi1, hl, hk⟩ hpre
      rw [hs1] at hh
      have hlt : w.heap.size + 1 < W.heap.size := (Array.getElem?_eq_some_iff.1 hl).1
      have hy := run_yield (P := P) (args := #[enc s]) hl (by rw [hrec]; simp [hps])
      rw [hrec] at hy
      have put : ∀ (A : World) (o : Obj), Keep (Out w.heap.size hi) A (A.putObj (w.heap.size + 1) o) := fun A o => (Keep.refl _ A).putObj _ _ (by simp only [Out]; omega)
      refine YieldAt.mono (R := fun e W' => (e = .returned (.bool true) ∧ (I hi (pre ++ [s]) W' ∧ W'.heap[w.heap.size + 1]? = some (.loop (rec .ready none)) ∧ W'.heap[w.heap.size]? = some (.deferred (some []))) ∧ Keep (Inn w.heap.size M W1.heap.size hi) W W') ∨
          (e = .returned (.bool false) ∧ ∃ c, Ix hi c (pre ++ [s]) W' ∧ W'.heap[w.heap.size + 1]? = some (.loop (rec .done (some c))) ∧ W'.heap[w.heap.size]? = some (.deferred (some [])))) ?_ (fun _ _ h => h)
      refine (⟨fn, _, assign, body, hy, ?_⟩ : YieldAt Fence.wide 0 P (w.heap.size + 1) #[enc s] W _)
      have hany : ∀ {R : Ending → World → Prop} {tm : Array Value}, RoundIn Fence.wide 3 P (w.heap.size + 1) fn tm assign body W R → RoundIn Fence.wide 0 P (w.heap.size + 1) fn tm assign body W R :=
        fun h => ⟨h.1, fun c cs _ => h.2 c cs (fun d hd => by cases hd)⟩
      refine hany (roundIn_of_wpIn trivial (hassign _ s W _ ⟨_, run_beginRound hl (by rw [hrec]), ?_⟩))
      have hl2 : (W.putObj (w.heap.size + 1) (.loop { rec .ready none with state := .busy })).heap[w.heap.size + 1]? = some (.loop { rec .ready none with state := .busy }) := World.putObj_heap_same hlt
      have hk2 : (W.putObj (w.heap.size + 1) (.loop { rec .ready none with state := .busy })).heap[w.heap.size]? = some (.deferred (some [])) := (World.putObj_heap_other (by omega)).trans hk
      have hp2 := put W (.loop { rec .ready none with state := .busy })
      have hsz2 : (W.putObj (w.heap.size + 1) (.loop { rec .ready none with state := .busy })).heap.size = W.heap.size := by simp [World.putObj]
      refine wpIn_mono (hbody _ hi pre s _ hh (by rw [hsz2]; exact hhW) (hI hi _ _ _ hh hi1 hp2) hpre ⟨_, hl2⟩ (by omega) (by omega)) ?_
      have fin : ∀ (jump : Option Code) (W3 : World), Keep (Inn w.heap.size M w.heap.size hi) (W.putObj (w.heap.size + 1) (.loop { rec .ready none with state := .busy })) W3 →
          (Instr.endRound (w.heap.size + 1) jump).run P W3 = .ok (.bool jump.isNone) (W3.putObj (w.heap.size + 1) (.loop (rec (if jump.isNone then .ready else .done) jump))) ∧
          (W3.putObj (w.heap.size + 1) (.loop (rec (if jump.isNone then .ready else .done) jump))).heap[w.heap.size + 1]? = some (.loop (rec (if jump.isNone then .ready else .done) jump)) ∧
          (W3.putObj (w.heap.size + 1) (.loop (rec (if jump.isNone then .ready else .done) jump))).heap[w.heap.size]? = some (.deferred (some [])) := fun jump W3 hk3 => by
        have hl3 := hk3.heap hl2 (.inr ⟨by omega, by omega⟩)
        have := run_endRound (P := P) jump hl3
        rw [hrec] at this ⊢
        exact ⟨this, World.putObj_heap_same (Array.getElem?_eq_some_iff.1 hl3).1, (World.putObj_heap_other (by omega)).trans (hk3.heap hk2 (.inr ⟨by omega, by omega⟩))⟩
      rintro e a3 W3 hp
      cases e with
      | normal =>
        obtain ⟨hk3, hi3⟩ := hp
        obtain ⟨hr, hl4, hk4⟩ := fin none W3 hk3
        refine ⟨_, _, hr, .inl ⟨rfl, ⟨hI hi _ _ _ hh hi3 (put W3 _), hl4, hk4⟩, ?_⟩⟩
        have q1 : Keep (Inn w.heap.size M W1.heap.size hi) W (W.putObj (w.heap.size + 1) (.loop { rec .ready none with state := .busy })) := (Keep.refl _ W).putObj _ _ (fun h => by rcases h with h | h <;> omega)
        have q2 : Keep (Inn w.heap.size M W1.heap.size hi) (W.putObj (w.heap.size + 1) (.loop { rec .ready none with state := .busy })) W3 := hk3.mono (fun k _ h => by rcases h with h | h; exact .inl h; exact .inr ⟨by omega, h.2⟩)
        exact (q1.trans q2).putObj _ _ (fun h => by rcases h with h | h <;> omega)
      | ret =>
        obtain ⟨hk3, hi3⟩ := hp
        obtain ⟨hr, hl4, hk4⟩ := fin (some .ret) W3 hk3
        exact ⟨_, _, hr, .inr ⟨rfl, .ret, hIx _ hi _ _ _ hh hi3 (put W3 _), hl4, hk4⟩⟩
      | exit id =>
        obtain ⟨hk3, hi3⟩ := hp
        obtain ⟨hr, hl4, hk4⟩ := fin (some (.exit id)) W3 hk3
        exact ⟨_, _, hr, .inr ⟨rfl, .exit id, hIx _ hi _ _ _ hh hi3 (put W3 _), hl4, hk4⟩⟩
      | goto t =>
        obtain ⟨hk3, hi3⟩ := hp
        obtain ⟨hr, hl4, hk4⟩ := fin (some (.goto t)) W3 hk3
        exact ⟨_, _, hr, .inr ⟨rfl, .goto t, hIx _ hi _ _ _ hh hi3 (put W3 _), hl4, hk4⟩⟩
      | panic ch => exact hp.elim
      | outgrown => exact hp.elim
    · -- behind the iterator
      rintro e W2 ⟨⟨v, rfl⟩, hi, hh, (⟨hi1, hl, hk⟩ | ⟨pre, hSp, c, hi1, hl, hk⟩)⟩
      · rw [hs1] at hh
        exact ⟨none, _, by have := run_endLoop (P := P) hl (by rw [hrec]; simp); rw [hrec] at this; exact this, hdone hi _ hh (hI hi _ _ _ hh hi1 ((Keep.refl _ W2).putObj _ _ (by simp only [Out]; omega))) ((World.putObj_heap_other (by omega)).trans hk)⟩
      · rw [hs1] at hh
        exact ⟨some c, _, by have := run_endLoop (P := P) hl (by rw [hrec]; simp); rw [hrec] at this; exact this, hstop hi c pre _ hh hSp (hIx c hi _ _ _ hh hi1 ((Keep.refl _ W2).putObj _ _ (by simp only [Out]; omega))) ((World.putObj_heap_other (by omega)).trans hk)⟩

/-- The law, for a loop in the body of such a loop. -/
theorem wp_rangeFuncTN {α : Type} {enc : α → Value} {g : Operand} {ps : Array Tmp} {assign body : Code} {Q : Exit → Act → World → Prop} {a : Act} {w : World} {l₀ : Nat} {r₀ : Loop} (hl₀ : w.heap[l₀]? = some (.loop r₀))
    {gf : Nat} {lb : Array Value} (hg : a.eval g = .func (.func gf) #[] lb) (eg : ∀ args w, (callFunc gf args).run P w = .ok (.enter gf args) w)
    {M : Nat → Prop} {all : List α} (hseq : Gives enc P gf lb M all w) (hps : ps.size = 1)
    (I : Nat → List α → World → Prop) (Ix : Nat → Code → List α → World → Prop)
    (hI : ∀ hi s A B, w.heap.size + 1 ≤ hi → I hi s A → Keep (Out w.heap.size hi) A B → I hi s B)
    (hIx : ∀ c hi s A B, w.heap.size + 1 ≤ hi → Ix hi c s A → Keep (Out w.heap.size hi) A B → Ix hi c s B)
    (h0 : ∀ hi, w.heap.size + 1 ≤ hi → I hi [] w) (a₁ : α → Act)
    (hassign : ∀ (l : Nat) (s : α) (W : World) (K : Act → World → Prop), K (a₁ s) W →
      assign.wpIn (Fence.wide.inRound l) 3 P (Exit.then K (fun _ _ _ => False)) { tmps := (ps.zip #[enc s]).foldl (fun t (p, v) => t.setIfInBounds p v) a.tmps, defers := [] } W)
    (hbody : ∀ (l hi : Nat) (pre : List α) (s : α) (W : World), w.heap.size + 1 ≤ hi → hi ≤ W.heap.size → I hi pre W → (pre ++ [s]) <+: all →
      body.wpIn (Fence.wide.inRound l) 3 P (postT M w.heap.size hi (I hi) (Ix hi) (pre ++ [s]) W) (a₁ s) W)
    (hdone : ∀ (hi : Nat) (W : World), w.heap.size + 1 ≤ hi → I hi all W → Q .normal a W)
    (hstop : ∀ (hi : Nat) (c : Code) (pre : List α) (W : World), w.heap.size + 1 ≤ hi → pre <+: all → Ix hi c pre W → c.wpIn (Fence.wide.inRound l₀) n P Q a W) :
    (Code.rangeFunc g ps assign body).wpIn (Fence.wide.inRound l₀) n P Q a w := by
  refine wpIn_rangeFunc ?_
  intro fn hfn
  rw [show (Fence.wide.inRound l₀).round = some l₀ from rfl]
  obtain ⟨rec, hrec⟩ : ∃ rec : LoopState → Option Code → Loop, rec = fun st pe => { state := st, pending := pe, fn, tmps := a.tmps, params := ps, assign, body, defers := r₀.defers } := ⟨_, rfl⟩
  obtain ⟨W1, hW1⟩ : ∃ W1, w.alloc (.loop (rec .ready none)) = W1 := ⟨_, rfl⟩
  have hL1 : W1.heap[w.heap.size]? = some (.loop (rec .ready none)) := by rw [← hW1]; exact World.alloc_heap_new w _
  have hs1 : W1.heap.size = w.heap.size + 1 := by rw [← hW1]; simp
  have hx1 : Ext w W1 := by rw [← hW1]; exact (Ext.refl w).alloc _
  refine ⟨w.heap.size, [], W1, { target := .fn (.func gf) lb, args := #[.func (.yield w.heap.size) #[] #[]] }, W1, gf,
    #[.func (.yield w.heap.size) #[] #[]] ++ lb, W1, ?_, ?_, ?_, ?_, fun h => (by cases h), ?_⟩
  · rw [← hW1, hrec]; exact run_enterLoop_inner hl₀ _ _ _ _ _
  · simp only [resolve, hg]
    simp [go_sem]
  · intro f' hf'; trivial
  · simp [invoke, go_sem, eg]
  · refine CallsIn.inRound l₀ (callsIn_wide.2 ?_)
    refine (hseq w.heap.size
      (fun hi pre W => I hi pre W ∧ W.heap[w.heap.size]? = some (.loop (rec .ready none)))
      (fun hi pre W => ∃ c, Ix hi c pre W ∧ W.heap[w.heap.size]? = some (.loop (rec .done (some c))))
      W1 hx1
      (fun hi s A B hh hs hk => by
        rw [hs1] at hh hk
        exact ⟨hI hi s A B hh hs.1 (hk.mono (fun k _ h => by simp only [Out] at h ⊢; omega)), hk.heap hs.2 (.inl (by omega))⟩)
      (fun hi s A B hh hs hk => by
        rw [hs1] at hh hk
        obtain ⟨c, hc, hl⟩ := hs
        exact ⟨c, hIx c hi s A B hh hc (hk.mono (fun k _ h => by simp only [Out] at h ⊢; omega)), hk.heap hl (.inl (by omega))⟩)
      ?_ (fun hi hh => by rw [hs1] at hh; exact ⟨hI hi [] w W1 hh (h0 hi hh) (Keep.of_ext hx1), hL1⟩)).mono ?_
    · -- one round
      rintro hi pre s W hh hhW ⟨hi1, hl⟩ hpre
      rw [hs1] at hh
      have hlt : w.heap.size < W.heap.size := (Array.getElem?_eq_some_iff.1 hl).1
      have hy := run_yield (P := P) (args := #[enc s]) hl (by rw [hrec]; simp [hps])
      rw [hrec] at hy
      have put : ∀ (A : World) (o : Obj), Keep (Out w.heap.size hi) A (A.putObj w.heap.size o) := fun A o => (Keep.refl _ A).putObj _ _ (by simp only [Out]; omega)
      refine YieldAt.mono (R := fun e W' => (e = .returned (.bool true) ∧ (I hi (pre ++ [s]) W' ∧ W'.heap[w.heap.size]? = some (.loop (rec .ready none))) ∧ Keep (Inn w.heap.size M W1.heap.size hi) W W') ∨
          (e = .returned (.bool false) ∧ ∃ c, Ix hi c (pre ++ [s]) W' ∧ W'.heap[w.heap.size]? = some (.loop (rec .done (some c))))) ?_ (fun _ _ h => h)
      refine (⟨fn, _, assign, body, hy, ?_⟩ : YieldAt Fence.wide 0 P w.heap.size #[enc s] W _)
      have hany : ∀ {R : Ending → World → Prop} {tm : Array Value}, RoundIn Fence.wide 3 P w.heap.size fn tm assign body W R → RoundIn Fence.wide 0 P w.heap.size fn tm assign body W R :=
        fun h => ⟨h.1, fun c cs _ => h.2 c cs (fun d hd => by cases hd)⟩
      refine hany (roundIn_of_wpIn trivial (hassign _ s W _ ⟨_, run_beginRound hl (by rw [hrec]), ?_⟩))
      have hl2 : (W.putObj w.heap.size (.loop { rec .ready none with state := .busy })).heap[w.heap.size]? = some (.loop { rec .ready none with state := .busy }) := World.putObj_heap_same hlt
      have hp2 := put W (.loop { rec .ready none with state := .busy })
      have hsz2 : (W.putObj w.heap.size (.loop { rec .ready none with state := .busy })).heap.size = W.heap.size := by simp [World.putObj]
      refine wpIn_mono (hbody _ hi pre s _ hh (by rw [hsz2]; exact hhW) (hI hi _ _ _ hh hi1 hp2) hpre) ?_
      have fin : ∀ (jump : Option Code) (W3 : World), Keep (Inn w.heap.size M w.heap.size hi) (W.putObj w.heap.size (.loop { rec .ready none with state := .busy })) W3 →
          (Instr.endRound w.heap.size jump).run P W3 = .ok (.bool jump.isNone) (W3.putObj w.heap.size (.loop (rec (if jump.isNone then .ready else .done) jump))) ∧
          (W3.putObj w.heap.size (.loop (rec (if jump.isNone then .ready else .done) jump))).heap[w.heap.size]? = some (.loop (rec (if jump.isNone then .ready else .done) jump)) := fun jump W3 hk3 => by
        have hl3 := hk3.heap hl2 (.inr ⟨by omega, by omega⟩)
        have := run_endRound (P := P) jump hl3
        rw [hrec] at this ⊢
        exact ⟨this, World.putObj_heap_same (Array.getElem?_eq_some_iff.1 hl3).1⟩
      rintro e a3 W3 hp
      cases e with
      | normal =>
        obtain ⟨hk3, hi3⟩ := hp
        obtain ⟨hr, hl4⟩ := fin none W3 hk3
        refine ⟨_, _, hr, .inl ⟨rfl, ⟨hI hi _ _ _ hh hi3 (put W3 _), hl4⟩, ?_⟩⟩
        have q1 : Keep (Inn w.heap.size M W1.heap.size hi) W (W.putObj w.heap.size (.loop { rec .ready none with state := .busy })) := (Keep.refl _ W).putObj _ _ (fun h => by rcases h with h | h <;> omega)
        have q2 : Keep (Inn w.heap.size M W1.heap.size hi) (W.putObj w.heap.size (.loop { rec .ready none with state := .busy })) W3 := hk3.mono (fun k _ h => by rcases h with h | h; exact .inl h; exact .inr ⟨by omega, h.2⟩)
        exact (q1.trans q2).putObj _ _ (fun h => by rcases h with h | h <;> omega)
      | ret =>
        obtain ⟨hk3, hi3⟩ := hp
        obtain ⟨hr, hl4⟩ := fin (some .ret) W3 hk3
        exact ⟨_, _, hr, .inr ⟨rfl, .ret, hIx _ hi _ _ _ hh hi3 (put W3 _), hl4⟩⟩
      | exit id =>
        obtain ⟨hk3, hi3⟩ := hp
        obtain ⟨hr, hl4⟩ := fin (some (.exit id)) W3 hk3
        exact ⟨_, _, hr, .inr ⟨rfl, .exit id, hIx _ hi _ _ _ hh hi3 (put W3 _), hl4⟩⟩
      | goto t =>
        obtain ⟨hk3, hi3⟩ := hp
        obtain ⟨hr, hl4⟩ := fin (some (.goto t)) W3 hk3
        exact ⟨_, _, hr, .inr ⟨rfl, .goto t, hIx _ hi _ _ _ hh hi3 (put W3 _), hl4⟩⟩
      | panic ch => exact hp.elim
      | outgrown => exact hp.elim
    · -- behind the iterator
      rintro e W2 ⟨⟨v, rfl⟩, hi, hh, (⟨hi1, hl⟩ | ⟨pre, hSp, c, hi1, hl⟩)⟩
      · rw [hs1] at hh
        exact ⟨none, _, by have := run_endLoop (P := P) hl (by rw [hrec]; simp); rw [hrec] at this; exact this, hdone hi _ hh (hI hi _ _ _ hh hi1 ((Keep.refl _ W2).putObj _ _ (by simp only [Out]; omega)))⟩
      · rw [hs1] at hh
        exact ⟨some c, _, by have := run_endLoop (P := P) hl (by rw [hrec]; simp); rw [hrec] at this; exact this, hstop hi c pre _ hh hSp (hIx c hi _ _ _ hh hi1 ((Keep.refl _ W2).putObj _ _ (by simp only [Out]; omega)))⟩

end Go.Proofs.Ytlaolokakaheaaa
