/-
  A range over a function within a round of a range over a function, both of whose iterators keep state of their own: a law of the walk. Nothing is claimed of the program here.
  A set of strings, kept in a map of truths that a call makes: a look-up tells whether a string is there, a store puts it in. Laws of the walk within rounds; nothing is claimed of the program here.
  A box that holds a slice of lists, all of whose memory lies in blocks of which S speaks: for loops within rounds. Nothing is claimed of the program here.
  All lines of a treaty, each once: mathematics alone. Nothing is claimed of the program here.
-/
import Derived.Test.YtopjjcgmcieboaaGreatDoorIa
import Derived.RangeFuncNested
import Derived.Maps.OwnIn
import Derived.Maps.OwnSet
import Derived.Maps.Views
import Derived.StringKeys
import Derived.Test.YtopjjcgmcieboaaGreatDoorId
import Derived.Test.YtopjjcgmcieboaaGreatDoorIg
import Derived.Test.YtopjjcgmcieboaaGreatDoorRa
import Derived.Test.YtopjjcgmcieboaaGreatDoorIc
import Derived.Test.YtopjjcgmcieboaaGreatDoorZa
namespace Go.Proofs.YtopjjcgmcieboaaGreatDoor
open Go.RowKit
variable {P : Program} {n : Nat}

/-- The law, where the body is told of its own loop's record. -/
theorem wp_rangeFuncTH {g : Operand} {ps : Array Tmp} {assign body : Code} {Q : Exit → Act → World → Prop} {a : Act} {w : World}
    {gf : Nat} {lb : Array Value} (hg : a.eval g = .func (.func gf) #[] lb) (eg : ∀ args w, (callFunc gf args).run P w = .ok (.enter gf args) w)
    {M : Nat → Prop} {all : List (List Nat)} (hseq : Gives P gf lb M all w) (hps : ps.size = 1)
    (I : Nat → List (List Nat) → World → Prop) (Ix : Nat → Code → List (List Nat) → World → Prop)
    (hI : ∀ hi s A B, w.heap.size + 2 ≤ hi → I hi s A → Keep (Out w.heap.size hi) A B → I hi s B)
    (hIx : ∀ c hi s A B, w.heap.size + 2 ≤ hi → Ix hi c s A → Keep (Out w.heap.size hi) A B → Ix hi c s B)
    (h0 : ∀ hi, w.heap.size + 2 ≤ hi → I hi [] w) (a₁ : SL Nat → Act)
    (hassign : ∀ (l : Nat) (s : SL Nat) (W : World) (K : Act → World → Prop), K (a₁ s) W →
      assign.wpIn (Fence.wide.inRound l) 3 P (Exit.then K (fun _ _ _ => False)) { tmps := (ps.zip #[s.v]).foldl (fun t (p, v) => t.setIfInBounds p v) a.tmps, defers := [] } W)
    (hbody : ∀ (l hi : Nat) (pre : List (List Nat)) (s : SL Nat) (W : World), w.heap.size + 2 ≤ hi → hi ≤ W.heap.size → I hi pre W → (pre ++ [s.l]) <+: all → s.l.length ≤ 1000000 → Own1 W hi s → (∃ r, W.heap[l]? = some (.loop r)) → w.heap.size ≤ l → l < hi →
      body.wpIn (Fence.wide.inRound l) 3 P (postT M w.heap.size hi (I hi) (Ix hi) (pre ++ [s.l]) W) (a₁ s) W)
    (hdone : ∀ (hi : Nat) (W : World), w.heap.size + 2 ≤ hi → I hi all W → W.heap[w.heap.size]? = some (.deferred (some [])) → Q .normal { a with defers := { target := .collected w.heap.size, args := #[] } :: a.defers } W)
    (hstop : ∀ (hi : Nat) (c : Code) (pre : List (List Nat)) (W : World), w.heap.size + 2 ≤ hi → pre <+: all → Ix hi c pre W → W.heap[w.heap.size]? = some (.deferred (some [])) → c.wpIn Fence.wide n P Q { a with defers := { target := .collected w.heap.size, args := #[] } :: a.defers } W) :
    (Code.rangeFunc g ps assign body).wpIn Fence.wide n P Q a w := by
  refine wpIn_rangeFunc ?_
  intro fn hfn
  rw [show Fence.wide.round = none from rfl]
  obtain ⟨rec, hrec⟩ : ∃ rec : LoopState → Option Code → Loop, rec = fun st pe => { state := st, pending := pe, fn, tmps := a.tmps, params := ps, assign, body, defers := w.heap.size } := ⟨_, rfl⟩
  obtain ⟨W1, hW1⟩ : ∃ W1, (w.alloc (.deferred (some []))).alloc (.loop (rec .ready none)) = W1 := ⟨_, rfl⟩
  have hL1 : W1.heap[w.heap.size + 1]? = some (.loop (rec .ready none)) := by
    rw [← hW1]; have := World.alloc_heap_new (w.alloc (.deferred (some []))) (.loop (rec .ready none)); rwa [World.size_alloc] at this
  have hK1 : W1.heap[w.heap.size]? = some (.deferred (some [])) := by
    rw [← hW1]; exact (Below.heap_alloc _ _ _ (by simp)).trans (World.alloc_heap_new w _)
  have hs1 : W1.heap.size = w.heap.size + 2 := by rw [← hW1]; simp
  have hx1 : Ext w W1 := by rw [← hW1]; exact ((Ext.refl w).alloc _).alloc _
  refine ⟨w.heap.size + 1, [{ target := .collected w.heap.size, args := #[] }], W1, { target := .fn (.func gf) lb, args := #[.func (.yield (w.heap.size + 1)) #[] #[]] }, W1, gf,
    #[.func (.yield (w.heap.size + 1)) #[] #[]] ++ lb, W1, ?_, ?_, ?_, ?_, fun h => (by cases h), ?_⟩
  · rw [← hW1, hrec]; exact run_enterLoop_outer _ _ _ _ _
  · simp only [resolve, hg]
    simp [go_sem]
  · intro f' hf'; trivial
  · simp [invoke, go_sem, eg]
  · refine callsIn_wide.2 ?_
    refine (hseq (w.heap.size + 1)
      (fun hi pre W => I hi pre W ∧ W.heap[w.heap.size + 1]? = some (.loop (rec .ready none)) ∧ W.heap[w.heap.size]? = some (.deferred (some [])))
      (fun hi pre W => ∃ c, Ix hi c pre W ∧ W.heap[w.heap.size + 1]? = some (.loop (rec .done (some c))) ∧ W.heap[w.heap.size]? = some (.deferred (some [])))
      W1 hx1
      (fun hi s A B hh hs hk => by
        rw [hs1] at hh hk
        exact ⟨hI hi s A B hh hs.1 (hk.mono (fun k _ h => by simp only [Out] at h ⊢; omega)), hk.heap hs.2.1 (.inl (by omega)), hk.heap hs.2.2 (.inl (by omega))⟩)
      (fun hi s A B hh hs hk => by
        rw [hs1] at hh hk
        obtain ⟨c, hc, hl, hd⟩ := hs
        exact ⟨c, hIx c hi s A B hh hc (hk.mono (fun k _ h => by simp only [Out] at h ⊢; omega)), hk.heap hl (.inl (by omega)), hk.heap hd (.inl (by omega))⟩)
      ?_ (fun hi hh => by rw [hs1] at hh; exact ⟨hI hi [] w W1 hh (h0 hi hh) (Keep.of_ext hx1), hL1, hK1⟩)).mono ?_
    · -- one round
      rintro hi pre s W hh hhW ⟨hi1, hl, hk⟩ hpre hsl hown
      rw [hs1] at hh
      have hlt : w.heap.size + 1 < W.heap.size := (Array.getElem?_eq_some_iff.1 hl).1
      have hy := run_yield (P := P) (args := #[s.v]) hl (by rw [hrec]; simp [hps])
      rw [hrec] at hy
      have put : ∀ (A : World) (o : Obj), Keep (Out w.heap.size hi) A (A.putObj (w.heap.size + 1) o) := fun A o => (Keep.refl _ A).putObj _ _ (by simp only [Out]; omega)
      refine YieldAt.mono (R := fun e W' => (e = .returned (.bool true) ∧ (I hi (pre ++ [s.l]) W' ∧ W'.heap[w.heap.size + 1]? = some (.loop (rec .ready none)) ∧ W'.heap[w.heap.size]? = some (.deferred (some []))) ∧ Keep (Inn w.heap.size M W1.heap.size hi) W W') ∨
          (e = .returned (.bool false) ∧ ∃ c, Ix hi c (pre ++ [s.l]) W' ∧ W'.heap[w.heap.size + 1]? = some (.loop (rec .done (some c))) ∧ W'.heap[w.heap.size]? = some (.deferred (some [])))) ?_ (fun _ _ h => h)
      refine (⟨fn, _, assign, body, hy, ?_⟩ : YieldAt Fence.wide 0 P (w.heap.size + 1) #[s.v] W _)
      have hany : ∀ {R : Ending → World → Prop} {tm : Array Value}, RoundIn Fence.wide 3 P (w.heap.size + 1) fn tm assign body W R → RoundIn Fence.wide 0 P (w.heap.size + 1) fn tm assign body W R :=
        fun h => ⟨h.1, fun c cs _ => h.2 c cs (fun d hd => by cases hd)⟩
      refine hany (roundIn_of_wpIn trivial (hassign _ s W _ ⟨_, run_beginRound hl (by rw [hrec]), ?_⟩))
      have hl2 : (W.putObj (w.heap.size + 1) (.loop { rec .ready none with state := .busy })).heap[w.heap.size + 1]? = some (.loop { rec .ready none with state := .busy }) := World.putObj_heap_same hlt
      have hk2 : (W.putObj (w.heap.size + 1) (.loop { rec .ready none with state := .busy })).heap[w.heap.size]? = some (.deferred (some [])) := (World.putObj_heap_other (by omega)).trans hk
      have hp2 := put W (.loop { rec .ready none with state := .busy })
      have hsz2 : (W.putObj (w.heap.size + 1) (.loop { rec .ready none with state := .busy })).heap.size = W.heap.size := by simp [World.putObj]
      refine wpIn_mono (hbody _ hi pre s _ hh (by rw [hsz2]; exact hhW) (hI hi _ _ _ hh hi1 hp2) hpre hsl (own_keep (D := fun k => k ≠ w.heap.size + 1) hown ((Keep.refl _ W).putObj _ _ (fun h => h rfl)) (fun i hi => by omega)) ⟨_, hl2⟩ (by omega) (by omega)) ?_
      have fin : ∀ (jump : Option Code) (W3 : World), Keep (Inn w.heap.size M w.heap.size hi) (W.putObj (w.heap.size + 1) (.loop { rec .ready none with state := .busy })) W3 →
          (Instr.endRound (w.heap.size + 1) jump).run P W3 = .ok (.bool jump.isNone) (W3.putObj (w.heap.size + 1) (.loop (rec (if jump.isNone then .ready else .done) jump))) ∧
          (W3.putObj (w.heap.size + 1) (.loop (rec (if jump.isNone then .ready else .done) jump))).heap[w.heap.size + 1]? = some (.loop (rec (if jump.isNone then .ready else .done) jump)) ∧
          (W3.putObj (w.heap.size + 1) (.loop (rec (if jump.isNone then .ready else .done) jump))).heap[w.heap.size]? = some (.deferred (some [])) := fun jump W3 hk3 => by
        have hl3 := hk3.heap hl2 (.inr ⟨by omega, by omega⟩)
        have := run_endRound (P := P) jump hl3
        rw [hrec] at this ⊢
        exact ⟨this, World.putObj_heap_same (Array.getElem?_eq_some_iff.1 hl3).1, (World.putObj_heap_other (by omega)).trans (hk3.heap hk2 (.inr ⟨by omega, by omega⟩))⟩
      rintro e a3 W3 hp
      cases e with
      | normal =>
        obtain ⟨hk3, hi3⟩ := hp
        obtain ⟨hr, hl4, hk4⟩ := fin none W3 hk3
        refine ⟨_, _, hr, .inl ⟨rfl, ⟨hI hi _ _ _ hh hi3 (put W3 _), hl4, hk4⟩, ?_⟩⟩
        have q1 : Keep (Inn w.heap.size M W1.heap.size hi) W (W.putObj (w.heap.size + 1) (.loop { rec .ready none with state := .busy })) := (Keep.refl _ W).putObj _ _ (fun h => by rcases h with h | h <;> omega)
        have q2 : Keep (Inn w.heap.size M W1.heap.size hi) (W.putObj (w.heap.size + 1) (.loop { rec .ready none with state := .busy })) W3 := hk3.mono (fun k _ h => by rcases h with h | h; exact .inl h; exact .inr ⟨by omega, h.2⟩)
        exact (q1.trans q2).putObj _ _ (fun h => by rcases h with h | h <;> omega)
      | ret =>
        obtain ⟨hk3, hi3⟩ := hp
        obtain ⟨hr, hl4, hk4⟩ := fin (some .ret) W3 hk3
        exact ⟨_, _, hr, .inr ⟨rfl, .ret, hIx _ hi _ _ _ hh hi3 (put W3 _), hl4, hk4⟩⟩
      | exit id =>
        obtain ⟨hk3, hi3⟩ := hp
        obtain ⟨hr, hl4, hk4⟩ := fin (some (.exit id)) W3 hk3
        exact ⟨_, _, hr, .inr ⟨rfl, .exit id, hIx _ hi _ _ _ hh hi3 (put W3 _), hl4, hk4⟩⟩
      | goto t =>
        obtain ⟨hk3, hi3⟩ := hp
        obtain ⟨hr, hl4, hk4⟩ := fin (some (.goto t)) W3 hk3
        exact ⟨_, _, hr, .inr ⟨rfl, .goto t, hIx _ hi _ _ _ hh hi3 (put W3 _), hl4, hk4⟩⟩
      | panic ch => exact hp.elim
      | outgrown => exact hp.elim
    · -- behind the iterator
      rintro e W2 ⟨⟨v, rfl⟩, hi, hh, (⟨hi1, hl, hk⟩ | ⟨pre, hSp, c, hi1, hl, hk⟩)⟩
      · rw [hs1] at hh
        exact ⟨none, _, by have := run_endLoop (P := P) hl (by rw [hrec]; simp); rw [hrec] at this; exact this, hdone hi _ hh (hI hi _ _ _ hh hi1 ((Keep.refl _ W2).putObj _ _ (by simp only [Out]; omega))) ((World.putObj_heap_other (by omega)).trans hk)⟩
      · rw [hs1] at hh
        exact ⟨some c, _, by have := run_endLoop (P := P) hl (by rw [hrec]; simp); rw [hrec] at this; exact this, hstop hi c pre _ hh hSp (hIx c hi _ _ _ hh hi1 ((Keep.refl _ W2).putObj _ _ (by simp only [Out]; omega))) ((World.putObj_heap_other (by omega)).trans hk)⟩

/-- The law, for a loop in the body of such a loop. -/
theorem wp_rangeFuncTN {g : Operand} {ps : Array Tmp} {assign body : Code} {Q : Exit → Act → World → Prop} {a : Act} {w : World} {l₀ : Nat} {r₀ : Loop} (hl₀ : w.heap[l₀]? = some (.loop r₀))
    {gf : Nat} {lb : Array Value} (hg : a.eval g = .func (.func gf) #[] lb) (eg : ∀ args w, (callFunc gf args).run P w = .ok (.enter gf args) w)
    {M : Nat → Prop} {all : List (List Nat)} (hseq : Gives P gf lb M all w) (hps : ps.size = 1)
    (I : Nat → List (List Nat) → World → Prop) (Ix : Nat → Code → List (List Nat) → World → Prop)
    (hI : ∀ hi s A B, w.heap.size + 1 ≤ hi → I hi s A → Keep (Out w.heap.size hi) A B → I hi s B)
    (hIx : ∀ c hi s A B, w.heap.size + 1 ≤ hi → Ix hi c s A → Keep (Out w.heap.size hi) A B → Ix hi c s B)
    (h0 : ∀ hi, w.heap.size + 1 ≤ hi → I hi [] w) (a₁ : SL Nat → Act)
    (hassign : ∀ (l : Nat) (s : SL Nat) (W : World) (K : Act → World → Prop), K (a₁ s) W →
      assign.wpIn (Fence.wide.inRound l) 3 P (Exit.then K (fun _ _ _ => False)) { tmps := (ps.zip #[s.v]).foldl (fun t (p, v) => t.setIfInBounds p v) a.tmps, defers := [] } W)
    (hbody : ∀ (l hi : Nat) (pre : List (List Nat)) (s : SL Nat) (W : World), w.heap.size + 1 ≤ hi → hi ≤ W.heap.size → I hi pre W → (pre ++ [s.l]) <+: all → s.l.length ≤ 1000000 → Own1 W hi s →
      body.wpIn (Fence.wide.inRound l) 3 P (postT M w.heap.size hi (I hi) (Ix hi) (pre ++ [s.l]) W) (a₁ s) W)
    (hdone : ∀ (hi : Nat) (W : World), w.heap.size + 1 ≤ hi → I hi all W → Q .normal a W)
    (hstop : ∀ (hi : Nat) (c : Code) (pre : List (List Nat)) (W : World), w.heap.size + 1 ≤ hi → pre <+: all → Ix hi c pre W → c.wpIn (Fence.wide.inRound l₀) n P Q a W) :
    (Code.rangeFunc g ps assign body).wpIn (Fence.wide.inRound l₀) n P Q a w := by
  refine wpIn_rangeFunc ?_
  intro fn hfn
  rw [show (Fence.wide.inRound l₀).round = some l₀ from rfl]
  obtain ⟨rec, hrec⟩ : ∃ rec : LoopState → Option Code → Loop, rec = fun st pe => { state := st, pending := pe, fn, tmps := a.tmps, params := ps, assign, body, defers := r₀.defers } := ⟨_, rfl⟩
  obtain ⟨W1, hW1⟩ : ∃ W1, w.alloc (.loop (rec .ready none)) = W1 := ⟨_, rfl⟩
  have hL1 : W1.heap[w.heap.size]? = some (.loop (rec .ready none)) := by rw [← hW1]; exact World.alloc_heap_new w _
  have hs1 : W1.heap.size = w.heap.size + 1 := by rw [← hW1]; simp
  have hx1 : Ext w W1 := by rw [← hW1]; exact (Ext.refl w).alloc _
  refine ⟨w.heap.size, [], W1, { target := .fn (.func gf) lb, args := #[.func (.yield w.heap.size) #[] #[]] }, W1, gf,
    #[.func (.yield w.heap.size) #[] #[]] ++ lb, W1, ?_, ?_, ?_, ?_, fun h => (by cases h), ?_⟩
  · rw [← hW1, hrec]; exact run_enterLoop_inner hl₀ _ _ _ _ _
  · simp only [resolve, hg]
    simp [go_sem]
  · intro f' hf'; trivial
  · simp [invoke, go_sem, eg]
  · refine CallsIn.inRound l₀ (callsIn_wide.2 ?_)
    refine (hseq w.heap.size
      (fun hi pre W => I hi pre W ∧ W.heap[w.heap.size]? = some (.loop (rec .ready none)))
      (fun hi pre W => ∃ c, Ix hi c pre W ∧ W.heap[w.heap.size]? = some (.loop (rec .done (some c))))
      W1 hx1
      (fun hi s A B hh hs hk => by
        rw [hs1] at hh hk
        exact ⟨hI hi s A B hh hs.1 (hk.mono (fun k _ h => by simp only [Out] at h ⊢; omega)), hk.heap hs.2 (.inl (by omega))⟩)
      (fun hi s A B hh hs hk => by
        rw [hs1] at hh hk
        obtain ⟨c, hc, hl⟩ := hs
        exact ⟨c, hIx c hi s A B hh hc (hk.mono (fun k _ h => by simp only [Out] at h ⊢; omega)), hk.heap hl (.inl (by omega))⟩)
      ?_ (fun hi hh => by rw [hs1] at hh; exact ⟨hI hi [] w W1 hh (h0 hi hh) (Keep.of_ext hx1), hL1⟩)).mono ?_
    · -- one round
      rintro hi pre s W hh hhW ⟨hi1, hl⟩ hpre hsl hown
      rw [hs1] at hh
      have hlt : w.heap.size < W.heap.size := (Array.getElem?_eq_some_iff.1 hl).1
      have hy := run_yield (P := P) (args := #[s.v]) hl (by rw [hrec]; simp [hps])
      rw [hrec] at hy
      have put : ∀ (A : World) (o : Obj), Keep (Out w.heap.size hi) A (A.putObj w.heap.size o) := fun A o => (Keep.refl _ A).putObj _ _ (by simp only [Out]; omega)
      refine YieldAt.mono (R := fun e W' => (e = .returned (.bool true) ∧ (I hi (pre ++ [s.l]) W' ∧ W'.heap[w.heap.size]? = some (.loop (rec .ready none))) ∧ Keep (Inn w.heap.size M W1.heap.size hi) W W') ∨
          (e = .returned (.bool false) ∧ ∃ c, Ix hi c (pre ++ [s.l]) W' ∧ W'.heap[w.heap.size]? = some (.loop (rec .done (some c))))) ?_ (fun _ _ h => h)
      refine (⟨fn, _, assign, body, hy, ?_⟩ : YieldAt Fence.wide 0 P w.heap.size #[s.v] W _)
      have hany : ∀ {R : Ending → World → Prop} {tm : Array Value}, RoundIn Fence.wide 3 P w.heap.size fn tm assign body W R → RoundIn Fence.wide 0 P w.heap.size fn tm assign body W R :=
        fun h => ⟨h.1, fun c cs _ => h.2 c cs (fun d hd => by cases hd)⟩
      refine hany (roundIn_of_wpIn trivial (hassign _ s W _ ⟨_, run_beginRound hl (by rw [hrec]), ?_⟩))
      have hl2 : (W.putObj w.heap.size (.loop { rec .ready none with state := .busy })).heap[w.heap.size]? = some (.loop { rec .ready none with state := .busy }) := World.putObj_heap_same hlt
      have hp2 := put W (.loop { rec .ready none with state := .busy })
      have hsz2 : (W.putObj w.heap.size (.loop { rec .ready none with state := .busy })).heap.size = W.heap.size := by simp [World.putObj]
      refine wpIn_mono (hbody _ hi pre s _ hh (by rw [hsz2]; exact hhW) (hI hi _ _ _ hh hi1 hp2) hpre hsl (own_keep (D := fun k => k ≠ w.heap.size) hown ((Keep.refl _ W).putObj _ _ (fun h => h rfl)) (fun i hi => by omega))) ?_
      have fin : ∀ (jump : Option Code) (W3 : World), Keep (Inn w.heap.size M w.heap.size hi) (W.putObj w.heap.size (.loop { rec .ready none with state := .busy })) W3 →
          (Instr.endRound w.heap.size jump).run P W3 = .ok (.bool jump.isNone) (W3.putObj w.heap.size (.loop (rec (if jump.isNone then .ready else .done) jump))) ∧
          (W3.putObj w.heap.size (.loop (rec (if jump.isNone then .ready else .done) jump))).heap[w.heap.size]? = some (.loop (rec (if jump.isNone then .ready else .done) jump)) := fun jump W3 hk3 => by
        have hl3 := hk3.heap hl2 (.inr ⟨by omega, by omega⟩)
        have := run_endRound (P := P) jump hl3
        rw [hrec] at this ⊢
        exact ⟨this, World.putObj_heap_same (Array.getElem?_eq_some_iff.1 hl3).1⟩
      rintro e a3 W3 hp
      cases e with
      | normal =>
        obtain ⟨hk3, hi3⟩ := hp
        obtain ⟨hr, hl4⟩ := fin none W3 hk3
        refine ⟨_, _, hr, .inl ⟨rfl, ⟨hI hi _ _ _ hh hi3 (put W3 _), hl4⟩, ?_⟩⟩
        have q1 : Keep (Inn w.heap.size M W1.heap.size hi) W (W.putObj w.heap.size (.loop { rec .ready none with state := .busy })) := (Keep.refl _ W).putObj _ _ (fun h => by rcases h with h | h <;> omega)
        have q2 : Keep (Inn w.heap.size M W1.heap.size hi) (W.putObj w.heap.size (.loop { rec .ready none with state := .busy })) W3 := hk3.mono (fun k _ h => by rcases h with h | h; exact .inl h; exact .inr ⟨by omega, h.2⟩)
        exact (q1.trans q2).putObj _ _ (fun h => by rcases h with h | h <;> omega)
      | ret =>
        obtain ⟨hk3, hi3⟩ := hp
        obtain ⟨hr, hl4⟩ := fin (some .ret) W3 hk3
        exact ⟨_, _, hr, .inr ⟨rfl, .ret, hIx _ hi _ _ _ hh hi3 (put W3 _), hl4⟩⟩
      | exit id =>
        obtain ⟨hk3, hi3⟩ := hp
        obtain ⟨hr, hl4⟩ := fin (some (.exit id)) W3 hk3
        exact ⟨_, _, hr, .inr ⟨rfl, .exit id, hIx _ hi _ _ _ hh hi3 (put W3 _), hl4⟩⟩
      | goto t =>
        obtain ⟨hk3, hi3⟩ := hp
        obtain ⟨hr, hl4⟩ := fin (some (.goto t)) W3 hk3
        exact ⟨_, _, hr, .inr ⟨rfl, .goto t, hIx _ hi _ _ _ hh hi3 (put W3 _), hl4⟩⟩
      | panic ch => exact hp.elim
      | outgrown => exact hp.elim
    · -- behind the iterator
      rintro e W2 ⟨⟨v, rfl⟩, hi, hh, (⟨hi1, hl⟩ | ⟨pre, hSp, c, hi1, hl⟩)⟩
      · rw [hs1] at hh
        exact ⟨none, _, by have := run_endLoop (P := P) hl (by rw [hrec]; simp); rw [hrec] at this; exact this, hdone hi _ hh (hI hi _ _ _ hh hi1 ((Keep.refl _ W2).putObj _ _ (by simp only [Out]; omega)))⟩
      · rw [hs1] at hh
        exact ⟨some c, _, by have := run_endLoop (P := P) hl (by rw [hrec]; simp); rw [hrec] at this; exact this, hstop hi c pre _ hh hSp (hIx c hi _ _ _ hh hi1 ((Keep.refl _ W2).putObj _ _ (by simp only [Out]; omega)))⟩

end Go.Proofs.YtopjjcgmcieboaaGreatDoor

namespace Go.Proofs.YtopjjcgmcieboaaGreatDoor
open Go.Maps Go.RowKit Go.WideMaps

theorem atKey_fold (u z : DataW Unit) (s : List UInt8) : ∀ (acc : List (List UInt8)) (m : DataW Unit), IsMap m → ((acc.map Lit.string).foldl (fun m x => m.put x u) m).atKey (.string s) z = if s ∈ acc then u else m.atKey (.string s) z
  | [], m, _ => by simp
  | x :: r, m, h => by
    rw [List.map_cons, List.foldl_cons, atKey_fold u z s r _ (h.put _ _)]
    by_cases e : s = x
    · subst e
      rw [atKey_put_same h (show WideAt.IsKeyLit (Lit.string s) from trivial)]
      simp
    · rw [atKey_put_other (by intro e'; cases e'; exact e rfl)]
      simp [e]
theorem atKey_set (acc : List (List UInt8)) (s : List UInt8) : (setOf (H := Unit) (.lit (.bool true)) (acc.map Lit.string)).atKey (.string s) (.lit (.bool false)) = .lit (.bool (decide (s ∈ acc))) := by
  unfold setOf
  rw [atKey_fold _ _ s acc _ isMap_empty]
  by_cases h : s ∈ acc
  · rw [if_pos h, decide_eq_true h]
  · rw [if_neg h, decide_eq_false h]; rfl
theorem plainElem_bool_inv {P : Program} {e : TypeId} (he : P.underlying e = some .bool) {v : Value} {x : Bool} {ps : List MemPlace} (h : plainElem (H := Unit) P e v = some (.lit (.bool x), ps)) : v = .bool x := by
  unfold plainElem at h
  rw [he] at h
  cases v <;> simp at h
  rw [h.1]

/-- Block b is a map of truths whose keys are just those strings. -/
def SetAt (P : Program) (K E : TypeId) (w : World) (b : Nat) (acc : List (List UInt8)) : Prop :=
  w.ownsMap (H := Unit) P K (plainElem P E) b acc.length (setOf (.lit (.bool true)) (acc.map Lit.string))

section
variable {P : Program} {K E : TypeId} {w w' : World} {b : Nat} {acc : List (List UInt8)}
theorem SetAt.made (w : World) : SetAt P K E (w.alloc (.map #[] 0)) w.heap.size [] := World.ownsMap_made _ _ _ _
theorem SetAt.lt (h : SetAt P K E w b acc) : b < w.heap.size := World.ownsMap.lt h
theorem SetAt.kept {row : Option Nat} (h : SetAt P K E w b acc) (hg : w.grownBy w' row) (hne : some b ≠ row) : SetAt P K E w' b acc := World.ownsMap.kept h hg hne
theorem SetAt.heap (h : SetAt P K E w b acc) (hb : w'.heap[b]? = w.heap[b]?) : SetAt P K E w' b acc := by
  obtain ⟨es, clock, h1, h2⟩ := h
  exact ⟨es, clock, hb.trans h1, h2⟩
theorem SetAt.keep {D : Nat → Prop} (h : SetAt P K E w b acc) (k : Keep D w w') (hd : D b) : SetAt P K E w' b acc := h.heap (k.block b h.lt hd)

variable {F : Fence} {nF : Nat} {ops : Array Oper} {rest : List Oper} {o : Oper} {a : Act} {Q : Exit → Act → World → Prop}
theorem wpListIn_lookup_set (w : World) (hg : o.guard = none) (m x : Operand) (t : TypeId) (hop : o.op = Op.lookup t m x false) (K E : TypeId) (hk : P.underlying K = some .string) (ht : P.underlying t = some (.map K E))
    (he : P.underlying E = some .bool) (hz : (zeroValue E).run P w = .ok (.bool false) w) (b : Nat) (acc : List (List UInt8)) (hm : a.eval m = .map (some b)) (hs : SetAt P K E w b acc) (s : ByteArray) (hx : a.eval x = .string s) (hsz : s.size ≤ maxLen)
    (hK : wpListIn F nF P ops Q rest (a.put o.dst (.bool (decide (s.data.toList ∈ acc)))) w) : wpListIn F nF P ops Q (o :: rest) a w := by
  refine wpListIn_plain hg fun K' hK' => ?_
  obtain ⟨v, ps, hrun, hv⟩ := World.ownsMap.lookup hs (string_keyed hk) ht hz (plainElem_bool he false) (keyOf_string_mk hk hsz)
  rw [atKey_set] at hv
  obtain rfl := plainElem_bool_inv he hv
  unfold Oper.wpIn
  refine ⟨by simp [Oper.about, hop], ?_⟩
  rw [Oper.semAt_plain F _ _ (by rw [hop]; intro c hc'; cases hc')]
  simp [execOp, hop, hm, hx, hrun, Result.andThen]
  exact hK' _ _ (by simpa using hK)

theorem wpListIn_put_set (w : World) (hg : o.guard = none) (m x v : Operand) (t : TypeId) (hop : o.op = Op.mapUpdate t m x v) (K E : TypeId) (hk : P.underlying K = some .string) (ht : P.underlying t = some (.map K E))
    (he : P.underlying E = some .bool) (b : Nat) (acc : List (List UInt8)) (hm : a.eval m = .map (some b)) (hs : SetAt P K E w b acc) (hn : acc.length < maxLen) (s : ByteArray) (hx : a.eval x = .string s) (hv : a.eval v = .bool true) (hsz : s.size ≤ maxLen)
    (hK : ∀ w', SetAt P K E w' b (acc ++ [s.data.toList]) → w.grownBy w' (some b) → wpListIn F nF P ops Q rest (a.put o.dst undef) w') : wpListIn F nF P ops Q (o :: rest) a w := by
  refine wpListIn_mapUpdate_own w hg m x v t hop K E (string_keyed hk) ht (plainElem P E) b acc.length _ hm hs hn _ _ _ hx hv (keyOf_string_mk hk hsz) (.lit (.bool true)) [] (plainElem_bool he true) ?_
  intro w' h' g'
  refine hK w' ?_ g'
  unfold SetAt
  rw [List.map_append, List.map_cons, List.map_nil, setOf_snoc, List.length_append]
  exact h'
end
end Go.Proofs.YtopjjcgmcieboaaGreatDoor

namespace Go.Proofs.YtopjjcgmcieboaaGreatDoor
open Go.RowKit

theorem own_blocks {w w' : World} {base : Nat} {e : TypeId} {size : Nat} {v : Value} {n : Nat} {xs : List Value} (h : w.ownsRow base e size v n xs) (k : ∀ g, v.ownBlock = some g → w'.heap[g]? = w.heap[g]?) : w'.ownsRow base e size v n xs := by
  obtain ⟨h1, h2⟩ := h
  refine ⟨h1, ?_⟩
  rcases h2 with h2 | ⟨g, cap, cur, e, hb, hh, r⟩
  · exact .inl h2
  · exact .inr ⟨g, cap, cur, e, hb, (k g (by rw [e]; rfl)).trans hh, r⟩
theorem own_in {w : World} {base : Nat} {e : TypeId} {size : Nat} {v : Value} {n : Nat} {xs : List Value} (h : w.ownsRow base e size v n xs) {g : Nat} (hg : v.ownBlock = some g) : g < w.heap.size := by
  obtain ⟨cur, hc⟩ := own_block h g hg
  exact (Array.getElem?_eq_some_iff.1 hc).1

/-- A box holds a slice of lists, all of it in memory in blocks of which S speaks. -/
def CollS (S : Nat → Prop) (W : World) (b : Nat) (ls : List (List Nat)) : Prop :=
  ∃ (a : Option Addr) (c : Nat) (rows : List (SL Nat)), W.heap[b]? = some (.cells #[.slice a rows.length c] 32 (0, 0)) ∧ W.ownsRow 0 25 1 (.slice a rows.length c) rows.length (rows.map fun r => r.v) ∧
    (∀ i, (Value.slice a rows.length c).ownBlock = some i → S i) ∧ (∀ r ∈ rows, r.l.length ≤ 1000000 ∧ W.ownsRow 0 3 1 r.v r.l.length (nums r.l) ∧ ∀ i, r.v.ownBlock = some i → S i) ∧ rows.map (fun r => r.l) = ls
section
variable {S S' D : Nat → Prop} {A B W : World} {b : Nat} {ls : List (List Nat)}
theorem CollS.keep (h : CollS S A b ls) (k : Keep D A B) (hb : D b) (hd : ∀ i, i < A.heap.size → S i → D i) : CollS S B b ls := by
  obtain ⟨a, c, rows, h1, h2, h3, h4, h5⟩ := h
  refine ⟨a, c, rows, k.heap h1 hb, own_blocks h2 fun g hg => k.block g (own_in h2 hg) (hd g (own_in h2 hg) (h3 g hg)), h3, fun r hr => ?_, h5⟩
  obtain ⟨q1, q2, q3⟩ := h4 r hr
  exact ⟨q1, own_blocks q2 fun g hg => k.block g (own_in q2 hg) (hd g (own_in q2 hg) (q3 g hg)), q3⟩
theorem CollS.ext (h : CollS S A b ls) (k : Ext A B) : CollS S B b ls := h.keep (D := fun _ => True) (Keep.of_ext k) trivial (fun _ _ _ => trivial)
theorem CollS.mono (h : CollS S A b ls) (hs : ∀ i, i < A.heap.size → S i → S' i) : CollS S' A b ls := by
  obtain ⟨a, c, rows, h1, h2, h3, h4, h5⟩ := h
  refine ⟨a, c, rows, h1, h2, fun i hi => hs i (own_in h2 hi) (h3 i hi), fun r hr => ?_, h5⟩
  obtain ⟨q1, q2, q3⟩ := h4 r hr
  exact ⟨q1, q2, fun i hi => hs i (own_in q2 hi) (q3 i hi)⟩
/-- Nothing of it lies in a block of another type. -/
theorem CollS.avoid (h : CollS S A b ls) {p : Nat} {cs : Array Value} {e : TypeId} {z : Nat × Nat} (hp : A.heap[p]? = some (.cells cs e z)) (h24 : e ≠ 25) (h3 : e ≠ 3) : CollS (fun k => S k ∧ k < A.heap.size ∧ k ≠ p) A b ls := by
  obtain ⟨a, c, rows, h1, h2, h3', h4, h5⟩ := h
  refine ⟨a, c, rows, h1, h2, fun i hi => ⟨h3' i hi, own_in h2 hi, ?_⟩, fun r hr => ?_, h5⟩
  · rintro rfl
    obtain ⟨cur, hc⟩ := own_block h2 i hi
    rw [hp] at hc
    simp at hc
    exact h24 hc.2.1
  · obtain ⟨q1, q2, q3⟩ := h4 r hr
    refine ⟨q1, q2, fun i hi => ⟨q3 i hi, own_in q2 hi, ?_⟩⟩
    rintro rfl
    obtain ⟨cur, hc⟩ := own_block q2 i hi
    rw [hp] at hc
    simp at hc
    exact h3 hc.2.1
theorem CollS.nil (h : W.heap[b]? = some (.cells #[.slice none 0 0] 32 (0, 0))) : CollS S W b [] :=
  ⟨none, 0, [], h, World.ownsRow_nil _ _ _ _, fun i hi => by simp [Value.ownBlock] at hi, fun r hr => by simp at hr, rfl⟩
/-- What a slice of lists reads as. -/
theorem CollS.is (h : CollS S W b ls) (hl : ls.length ≤ 1000000) : ∃ (a : Option Addr) (c : Nat) (rows : List (SL Nat)), W.heap[b]? = some (.cells #[.slice a rows.length c] 32 (0, 0)) ∧ W.ownsRow 0 25 1 (.slice a rows.length c) rows.length (rows.map fun r => r.v) ∧
    (∀ i, (Value.slice a rows.length c).ownBlock = some i → S i) ∧ IsSl 1 slC W ⟨a, c, rows⟩ ∧ (∀ r ∈ rows, W.ownsRow 0 3 1 r.v r.l.length (nums r.l) ∧ IsSl 1 num W r) ∧ rows.map (fun r => r.l) = ls := by
  obtain ⟨a, c, rows, h1, h2, h3, h4, h5⟩ := h
  have hf : flat 1 slC rows = rows.map fun r => r.v := by simp [flat, slC, List.range_succ, ← List.map_eq_flatMap]
  refine ⟨a, c, rows, h1, h2, h3, ?_, fun r hr => ⟨(h4 r hr).2.1, own_sl (h4 r hr).2.1 (h4 r hr).1⟩, h5⟩
  rw [← hf] at h2
  exact own_slG h2 (by rw [← h5] at hl; simpa using hl)
end

/-- The box behind an append of one list. -/
theorem CollS.append {S : Nat → Prop} {W w1 : World} {b : Nat} {a : Option Addr} {c : Nat} {rows : List (SL Nat)} {s : SL Nat} {v' : Value} {tmp : Obj}
    (h1 : W.heap[b]? = some (.cells #[.slice a rows.length c] 32 (0, 0))) (h2 : W.ownsRow 0 25 1 (.slice a rows.length c) rows.length (rows.map fun r => r.v)) (h2s : ∀ i, (Value.slice a rows.length c).ownBlock = some i → S i)
    (h3 : ∀ r ∈ rows, r.l.length ≤ 1000000 ∧ W.ownsRow 0 3 1 r.v r.l.length (nums r.l) ∧ ∀ i, r.v.ownBlock = some i → S i)
    (hs : s.l.length ≤ 1000000 ∧ W.ownsRow 0 3 1 s.v s.l.length (nums s.l) ∧ ∀ i, s.v.ownBlock = some i → S i) (hS : S (W.heap.size + 1))
    (hown : w1.ownsRow 0 25 1 v' (rows.length + 1) ((rows.map fun r => r.v) ++ [s.v])) (hg : (W.alloc tmp).grownBy w1 (Value.slice a rows.length c).ownBlock)
    (hloc : v'.ownBlock = (Value.slice a rows.length c).ownBlock ∨ v'.ownBlock = some (W.alloc tmp).heap.size) :
    w1.heap[b]? = some (.cells #[.slice a rows.length c] 32 (0, 0)) ∧ CollS S (w1.setCell ⟨b, 0, none⟩ v') b ((rows ++ [s]).map fun r => r.l) ∧ Keep (fun k => k ≠ b ∧ (Value.slice a rows.length c).ownBlock ≠ some k) W (w1.setCell ⟨b, 0, none⟩ v') := by
  have hloc' : ∀ i, v'.ownBlock = some i → S i := by
    intro i hi
    rcases hloc with h | h
    · exact h2s i (by rw [← h]; exact hi)
    · rw [h, World.size_alloc] at hi
      cases hi
      exact hS
  obtain ⟨a', c', rfl⟩ := own_form hown
  have hx := (Ext.refl W).alloc tmp
  have hb1 : w1.heap[b]? = some (.cells #[.slice a rows.length c] 32 (0, 0)) := by
    have h1' := hx.block h1
    refine (hg.block b (Array.getElem?_eq_some_iff.1 h1').1 ?_).trans h1'
    intro e
    obtain ⟨cur, hc⟩ := own_block h2 b e.symm
    rw [h1] at hc; simp at hc
  have step : ∀ r : SL Nat, W.ownsRow 0 3 1 r.v r.l.length (nums r.l) → (w1.setCell ⟨b, 0, none⟩ (.slice a' (rows.length + 1) c')).ownsRow 0 3 1 r.v r.l.length (nums r.l) := fun r hr => by
    have e1 : (W.alloc tmp).ownsRow 0 3 1 r.v r.l.length (nums r.l) := own_keep hr (D := fun _ => True) (Keep.of_ext hx) (fun _ _ => trivial)
    have e2 : w1.ownsRow 0 3 1 r.v r.l.length (nums r.l) := own_grown e1 hg (own_apart hr h2 (by decide))
    exact own_box e2 hb1 (by decide) _
  refine ⟨hb1, ⟨a', c', rows ++ [s], ?_, ?_, ?_, ?_, rfl⟩, ?_⟩
  · rw [List.length_append]; exact heap_setCell_same hb1 _
  · rw [List.length_append, List.map_append]; exact own_box hown hb1 (by decide) _
  · rw [List.length_append]; exact hloc'
  · intro r hr
    rcases List.mem_append.1 hr with hr | hr
    · exact ⟨(h3 r hr).1, step r (h3 r hr).2.1, (h3 r hr).2.2⟩
    · simp only [List.mem_singleton] at hr; subst hr; exact ⟨hs.1, step r hs.2.1, hs.2.2⟩
  · exact ((Keep.of_ext hx).grown hg (fun k e _ hk => hk.2 e)).setCell _ _ (fun _ h => h.1 rfl)
end Go.Proofs.YtopjjcgmcieboaaGreatDoor

namespace Go.Proofs.YtopjjcgmcieboaaGreatDoor

/-- All lines of some readings, reading by reading. -/
def linesOf (t : TV) (rs : List (List Nat)) : List (List Nat) := rs.flatMap fun r => linesR t (leadsOf t r)
theorem linesOf_snoc (t : TV) (rs : List (List Nat)) (r : List Nat) : linesOf t (rs ++ [r]) = linesOf t rs ++ linesR t (leadsOf t r) := by simp [linesOf]
theorem linesOf_append (t : TV) (rs qs : List (List Nat)) : linesOf t (rs ++ qs) = linesOf t rs ++ linesOf t qs := by simp [linesOf]
theorem mem_linesOf {t : TV} {rs : List (List Nat)} {x : List Nat} : x ∈ linesOf t rs ↔ ∃ r ∈ rs, x ∈ linesR t (leadsOf t r) := by simp [linesOf]
/-- Each line of some readings once. -/
def accOf (t : TV) (rs : List (List Nat)) : List (List Nat) := addLs [] (linesOf t rs)
theorem accOf_snoc (t : TV) (rs : List (List Nat)) (r : List Nat) : accOf t (rs ++ [r]) = addLs (accOf t rs) (linesR t (leadsOf t r)) := by
  unfold accOf
  rw [linesOf_snoc, addLs_append]
/-- Each line of a treaty once. -/
def allD (t : TV) : List (List Nat) := accOf t (allR (cntR t))
theorem mem_allD {t : TV} {x : List Nat} : x ∈ allD t ↔ ∃ r ∈ allR (cntR t), x ∈ linesR t (leadsOf t r) := by
  unfold allD accOf
  rw [mem_addLs, mem_linesOf]
  simp
theorem nodup_allD (t : TV) : (allD t).Nodup := nodup_addLs List.nodup_nil
/-- What is listed by then is no more than all. -/
theorem len_by {t : TV} {pre pre2 : List (List Nat)} {r x : List Nat} (h1 : (pre ++ [r]) <+: allR (cntR t)) (h2 : (pre2 ++ [x]) <+: linesR t (leadsOf t r)) : (addL (addLs (accOf t pre) pre2) x).length ≤ (allD t).length := by
  obtain ⟨s1, e1⟩ := h1
  obtain ⟨s2, e2⟩ := h2
  unfold allD
  rw [← e1]
  unfold accOf
  rw [linesOf_append, linesOf_snoc, ← e2, addLs_append, addLs_append, addLs_append, addLs_append]
  exact Nat.le_trans len_addLs len_addLs
/-- A list that has just the lines of a treaty, in their order. -/
def AllL (t : TV) (L : List (List Nat)) : Prop := L.Perm (allD t) ∧ L.Pairwise fun a b => cmpL a b < 0
theorem AllL.mem {t : TV} {L : List (List Nat)} (h : AllL t L) {x : List Nat} : x ∈ L ↔ ∃ r ∈ allR (cntR t), x ∈ linesR t (leadsOf t r) := by
  rw [h.1.mem_iff]; exact mem_allD
theorem AllL.length {t : TV} {L : List (List Nat)} (h : AllL t L) : L.length = (allD t).length := h.1.length_eq

theorem lnF_in (L : Nat → Nat → Nat → Bool) (P N : Nat) : ∀ (k p : Nat) (l : List Nat), l ∈ lnF L P N k p → p < P → l.length = k + 1 ∧ ∀ y ∈ l, y < P
  | 0, p, l, h, hp => by
    have e : l = [p] := by simpa [lnF] using h
    subst e
    simp [hp]
  | k + 1, p, l, h, hp => by
    simp only [lnF, List.mem_map, List.mem_flatMap, List.mem_range] at h
    obtain ⟨l', ⟨q, hq, h'⟩, rfl⟩ := h
    split at h'
    · obtain ⟨h1, h2⟩ := lnF_in L P N k q l' h' hq
      refine ⟨by simp [h1], fun y hy => ?_⟩
      rcases List.mem_cons.1 hy with rfl | hy
      · exact hp
      · exact h2 y hy
    · simp at h'
theorem lines_lt {t : TV} {L : Nat → Nat → Nat → Bool} (hst : ∀ x ∈ t.starts.l, x < t.P) {l : List Nat} (h : l ∈ linesR t L) : l.length = t.legs.l.length + 1 ∧ ∀ y ∈ l, y < t.P := by
  unfold linesR at h
  rw [List.mem_flatMap] at h
  obtain ⟨s, hs, h⟩ := h
  split at h
  · exact lnF_in L _ _ _ _ _ h (hst s hs)
  · simp at h
/-- The lines that are listed have numbers of places. -/
theorem acc_lt {t : TV} (hst : ∀ x ∈ t.starts.l, x < t.P) {pre pre2 : List (List Nat)} {r : List Nat} (h2 : pre2 <+: linesR t (leadsOf t r)) : ∀ l ∈ addLs (accOf t pre) pre2, ∀ y ∈ l, y < t.P := by
  intro l hl
  rw [mem_addLs] at hl
  rcases hl with hl | hl
  · unfold accOf at hl
    rw [mem_addLs, mem_linesOf] at hl
    rcases hl with hl | ⟨q, _, hq⟩
    · simp at hl
    · exact (lines_lt hst hq).2
  · exact (lines_lt hst (h2.subset hl)).2
end Go.Proofs.YtopjjcgmcieboaaGreatDoor
