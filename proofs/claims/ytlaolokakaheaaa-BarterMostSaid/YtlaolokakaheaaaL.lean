/-
  Functions that hold ranges over functions within loops: the marks that such loops leave among the deferred calls; a region that draws its order within a round, all of whose operations and callees leave the world alone: laws of the walk. Nothing is claimed of the program here.
-/
import Derived.Test.YtlaolokakaheaaaG
import Derived.Deep.QuietTactic
import Derived.Deep.Quiet
import Derived.OrdersIn
import Derived.RangeFuncCalls
import Derived.RangeFuncLeaves
import Derived.TacticsIn
import Derived.StillTail
import Derived.StillTailTactics
namespace Go.Proofs.Ytlaolokakaheaaa
open Go.RowKit
section
variable {P : Program} {ops : Array Oper} {md : Region.Mode} {C : World → Prop} {r n : Nat}
/-- An operation that is no defer statement. -/
def noDefer (o : Oper) : Bool := match o.op with | .defer _ => false | _ => true

theorem noDefer_spec {o : Oper} (h : noDefer o = true) : ∀ c, o.op ≠ .defer c := fun c e => by simp [noDefer, e] at h

theorem round_of_quiet {o : Oper} {a : Act} {K : Act → Prop} {K' : Act → World → Prop} {Q' : Exit → Act → World → Prop} {w : World} (hn : noDefer o = true) (hw : C w) (h : ∀ a w', C w' → K a → K' a w') (hh : o.quiet P a C K) :
    o.wpIn (Fence.wide.inRound r) n P a w K' Q' := by
  obtain ⟨v, h1, h2⟩ := hh
  have h3 := h1 w hw
  unfold Oper.quietAt at h3
  unfold Oper.wpIn
  refine ⟨fun _ _ => trivial, ?_⟩
  rw [show (Fence.wide.inRound r).round = some r from rfl, Oper.semAt_some r _ _ (noDefer_spec hn)]
  generalize (execOp a.eval o).run P w = q at *
  cases q with
  | ok m w' =>
    cases m <;> simp only [Oper.quietUpon] at h3 <;> simp only [Oper.uponIn]
    case value u =>
      obtain ⟨e1, e2⟩ := h3
      rw [e1, e2]
      exact h _ _ hw h2
    case skip =>
      obtain ⟨e1, e2⟩ := h3
      rw [e1, ← e2]
      exact h _ _ hw h2
    case enter f args =>
      obtain ⟨e1, hc⟩ := h3
      rw [e1]
      exact ⟨fun hd => (by cases hd), CallsIn.inRound r (callsIn_wide.2 (hc.mono fun e w'' ⟨he, hw''⟩ => by subst he; exact h _ _ hw'' h2))⟩
  | halt x w' => simp only [Oper.quietUpon] at h3

theorem round_op {i : Nat} {a : Act} {K : Act → Prop} {K' : Act → World → Prop} {Q' : Exit → Act → World → Prop} {w : World} (hn : ∀ o, ops[i]? = some o → noDefer o = true) (hC : C w) (h : ∀ a w', C w' → K a → K' a w') (hh : qOp P ops C i K a) :
    wpOpIn (Fence.wide.inRound r) n P ops Q' i K' a w := by
  unfold qOp at hh
  unfold wpOpIn
  split
  · rename_i ho; simp only [ho] at hh; exact h _ _ hC hh
  · rename_i o ho
    simp only [ho] at hh
    split
    · rename_i hw; simp only [hw, if_true] at hh; exact round_of_quiet (hn o ho) hC h hh
    · rename_i hw; simp only [hw] at hh; exact ⟨fun _ _ => trivial, h _ _ hC hh⟩

theorem round_any {Q : Act → Prop} {Q' : Exit → Act → World → Prop} (hn : ∀ (i : Nat) o, ops[i]? = some o → noDefer o = true) (hQ : ∀ a w, C w → Q a → Q' .normal a w) : ∀ (fuel : Nat) (listed : Array Bool) (a : Act) (w : World), C w →
    wpAnyQ P md ops C Q fuel listed a → wpAnyIn (Fence.wide.inRound r) n P md ops Q' fuel listed a w
  | 0, _, _, _, hw, h => ⟨h.1, hQ _ _ hw h.2⟩
  | fuel + 1, _, _, _, hw, h => ⟨fun h0 => hQ _ _ hw (h.1 h0), fun i hi => round_op (hn i) hw (fun a' w' hw' => round_any hn hQ fuel _ a' w' hw') (h.2 i hi)⟩

/-- The law. -/
theorem round_quiet {id : Nat} {Q : Exit → Act → World → Prop} {a : Act} {w : World} {l : List Oper} (hm : P.follows .mixedOrders = true) (hB : Region.lexB .any l.toArray = true) (hn : l.all noDefer = true)
    (h : wpQuiet P l.toArray (fun w' => ∃ n, w' = w.drewN n) (fun a' => ∀ w', (∃ n, w' = w.drewN n) → Q .normal a' w') l a) : (Code.region id l.toArray true).wpIn (Fence.wide.inRound r) n P Q a w := by
  simp only [Region.lexB, Bool.and_eq_true] at hB
  refine wpIn_region_any hm (round_any (Q := fun a' => ∀ w', (∃ n, w' = w.drewN n) → Q .normal a' w') (C := fun w' => ∃ n, w' = w.drewN n) (fun i o ho => ?_) (fun _ w' hw' h => h w' hw') _ _ _ _ ⟨1, rfl⟩ ?_)
  · rw [List.getElem?_toArray] at ho
    exact List.all_eq_true.1 hn o (List.mem_of_getElem? ho)
  · have := wpAnyQ_lex (C := fun w' => ∃ n, w' = w.drewN n) (md := .any) hB.1 l 0 (Array.replicate l.toArray.size false) a (by simp) (by simpa using hB.2) h
    simpa using this

end
section
variable {P : Program} {ops : Array Oper} {md : Region.Mode} {r n : Nat}
theorem round_of_still {o : Oper} {a : Act} {K : Act → Prop} {K' : Act → World → Prop} {Q' : Exit → Act → World → Prop} {w : World} (hn : noDefer o = true) (h : ∀ a, K a → K' a w) (hh : o.still P a w K) : o.wpIn (Fence.wide.inRound r) n P a w K' Q' := by
  unfold Oper.still at hh
  unfold Oper.wpIn
  refine ⟨fun _ _ => trivial, ?_⟩
  rw [show (Fence.wide.inRound r).round = some r from rfl, Oper.semAt_some r _ _ (noDefer_spec hn)]
  generalize (execOp a.eval o).run P w = q at *
  cases q with
  | ok m w' =>
    cases m <;> simp only [Oper.stillUpon] at hh <;> simp only [Oper.uponIn]
    case value u => obtain ⟨e1, h2⟩ := hh; rw [e1]; exact h _ h2
    case skip => obtain ⟨e1, h2⟩ := hh; rw [e1]; exact h _ h2
    case enter f args =>
      obtain ⟨e1, v, hc, h2⟩ := hh
      rw [e1]
      exact ⟨fun hd => (by cases hd), CallsIn.inRound r (callsIn_wide.2 (hc.mono fun e w'' ⟨he, hw''⟩ => by subst he; subst hw''; exact h _ h2))⟩
  | halt x w' => simp only [Oper.stillUpon] at hh

theorem round_of_stOp {i : Nat} {a : Act} {K : Act → Prop} {K' : Act → World → Prop} {Q' : Exit → Act → World → Prop} {w : World} (hn : ∀ o, ops[i]? = some o → noDefer o = true) (h : ∀ a, K a → K' a w) (hh : stOp P ops w i K a) : wpOpIn (Fence.wide.inRound r) n P ops Q' i K' a w := by
  unfold stOp at hh
  unfold wpOpIn
  split
  · rename_i ho; simp only [ho] at hh; exact h _ hh
  · rename_i o ho
    simp only [ho] at hh
    split
    · rename_i hw; simp only [hw, if_true] at hh; exact round_of_still (hn o ho) h hh
    · rename_i hw; simp only [hw] at hh; exact ⟨fun _ _ => trivial, h _ hh⟩

theorem round_head {k g : Nat} {w : World} {L : Array Bool → Act → Prop} {Q' : Exit → Act → World → Prop} (hn : ∀ (i : Nat) o, ops[i]? = some o → noDefer o = true) (hL : ∀ listed a, L listed a → wpAnyIn (Fence.wide.inRound r) n P md ops Q' g listed a w) :
    ∀ (f : Nat) (listed : Array Bool) (a : Act), wpAnyL P md ops w k L f listed a → wpAnyIn (Fence.wide.inRound r) n P md ops Q' (f + g) listed a w
  | 0, listed, a, h => by rw [Nat.zero_add]; exact hL _ _ h
  | f + 1, listed, a, h => by
    rw [show f + 1 + g = (f + g) + 1 by omega]
    exact ⟨fun h0 => absurd h0 h.1, fun i hi => round_of_stOp (hn i) (fun a' h' => round_head hn hL f _ a' h') (h.2 i hi).2⟩

theorem round_seq {Q' : Exit → Act → World → Prop} : ∀ (l : List Oper) (k : Nat) (listed : Array Bool) (a : Act) (w : World), (∀ j, l[j]? = ops[k + j]?) →
    Region.seqB md ops l.length k listed = true → wpListIn (Fence.wide.inRound r) n P ops Q' l a w → wpAnyIn (Fence.wide.inRound r) n P md ops Q' l.length listed a w
  | [], _, _, _, _, _, hB, h => ⟨by simpa [Region.seqB] using hB, h⟩
  | o :: l, k, listed, a, w, hl, hB, h => by
    have h0 : ops[k]? = some o := by simpa using (hl 0).symm
    simp only [List.length_cons, Region.seqB, Bool.and_eq_true, decide_eq_true_eq] at hB
    refine ⟨fun h1 => (by rw [hB.1] at h1; cases h1), fun i hi => ?_⟩
    rw [hB.1] at hi
    have hik : i = k := by simpa using hi
    subst hik
    have hw : wpOpIn (Fence.wide.inRound r) n P ops Q' i (wpListIn (Fence.wide.inRound r) n P ops Q' l) a w := by unfold wpOpIn; simp only [h0]; exact h
    exact wpOpIn_mono (fun a' w' h' => round_seq l (i + 1) _ a' w' (fun j => by have := hl (j + 1); simpa [Nat.add_assoc, Nat.add_comm 1 j] using this) hB.2 h') hw

/-- A region within a round that reads, and writes in its last operations alone: one walk. -/
theorem round_tail {id : Nat} {Q : Exit → Act → World → Prop} {a : Act} {w : World} {l : List Oper} (k : Nat) (hm : P.follows .mixedOrders = true) (hB : Region.lexTailB .any l.toArray k = true) (hnd : l.all noDefer = true)
    (h : wpStill P l.toArray { w with drawn := w.drawn + 1 } (fun a' => wpListIn (Fence.wide.inRound r) n P l.toArray Q (l.drop k) a' { w with drawn := w.drawn + 1 }) (l.take k) a) : (Code.region id l.toArray true).wpIn (Fence.wide.inRound r) n P Q a w := by
  simp only [Region.lexTailB, Bool.and_eq_true, decide_eq_true_eq] at hB
  obtain ⟨⟨⟨⟨hsel, hn⟩, hs⟩, hc⟩, hlex⟩ := hB
  have hn' : k < l.length := by simpa using hn
  have htl : (l.take k).length = k := by simp; omega
  have hdl : (l.drop k).length = l.toArray.size - k := by simp
  have inv0 : HeadInv .any l.toArray k (Array.replicate l.toArray.size false) :=
    ⟨by simp, fun j oj _ hl => (by rw [getD_replicate_false] at hl; cases hl), fun t _ ht => getD_in (by simpa using ht) (getD_replicate_false _ _)⟩
  have H := wpAnyL_lex (md := .any) (g := l.toArray.size - k) hsel hs hc hn (l.take k) 0 _ a (fun j hj => by
    have hj' : j < k := by rw [htl] at hj; exact hj
    simp [hj']) (by simpa using htl) inv0 (by rw [htl]; exact hlex) h
  refine wpIn_region_any hm ?_
  have := round_head (r := r) (n := n) (Q' := Q) (g := l.toArray.size - k) (fun i o ho => by rw [List.getElem?_toArray] at ho; exact List.all_eq_true.1 hnd o (List.mem_of_getElem? ho)) (fun listed a' hL => by
    have := round_seq (r := r) (n := n) (md := .any) (Q' := Q) (l.drop k) k listed a' { w with drawn := w.drawn + 1 } (fun j => by simp [List.getElem?_drop]) (by rw [hdl]; exact hL.1) hL.2
    rwa [hdl] at this) _ _ _ H
  rw [htl, show k + (l.toArray.size - k) = l.toArray.size by omega] at this
  exact this

end
/-- Marks of ranges over functions that have ended, whose blocks lie in [lo, hi), the newest first. -/
def Coll (lo : Nat) : Nat → List Deferred → World → Prop
  | _, [], _ => True
  | hi, d :: ds, w => ∃ b, d = { target := .collected b, args := #[] } ∧ lo ≤ b ∧ b < hi ∧ w.heap[b]? = some (.deferred (some [])) ∧ Coll lo b ds w

theorem Coll.mono {lo hi hi' : Nat} {ds : List Deferred} {w : World} (h : Coll lo hi ds w) (hh : hi ≤ hi') : Coll lo hi' ds w := by
  cases ds with
  | nil => trivial
  | cons d ds => obtain ⟨b, h1, h2, h3, h4⟩ := h; exact ⟨b, h1, h2, by omega, h4⟩

theorem Coll.keep {lo : Nat} {w w' : World} : ∀ {ds : List Deferred} {hi : Nat}, Coll lo hi ds w → (∀ b, lo ≤ b → b < hi → w.heap[b]? = some (.deferred (some [])) → w'.heap[b]? = some (.deferred (some []))) → Coll lo hi ds w'
  | [], _, _, _ => trivial
  | d :: ds, hi, h, k => by
    obtain ⟨b, h1, h2, h3, h4, h5⟩ := h
    exact ⟨b, h1, h2, h3, k b h2 h3 h4, h5.keep fun b' h6 h7 => k b' h6 (by omega)⟩

theorem Coll.ext {lo hi : Nat} {w w' : World} {ds : List Deferred} (h : Coll lo hi ds w) (k : Ext w w') : Coll lo hi ds w' := h.keep fun _ _ _ hb => k.block hb

theorem Coll.keepD {lo hi : Nat} {w w' : World} {ds : List Deferred} {D : Nat → Prop} (h : Coll lo hi ds w) (k : Keep D w w') (hd : ∀ b, lo ≤ b → b < hi → w.heap[b]? = some (.deferred (some [])) → D b) : Coll lo hi ds w' := h.keep fun b h1 h2 hb => k.heap hb (hd b h1 h2 hb)

theorem Coll.cons {lo hi b : Nat} {w : World} {ds : List Deferred} (h : Coll lo b ds w) (h1 : lo ≤ b) (h2 : b < hi) (h3 : w.heap[b]? = some (.deferred (some []))) : Coll lo hi ({ target := .collected b, args := #[] } :: ds) w := ⟨b, rfl, h1, h2, h3, h⟩

/-- The marks' blocks are shut; all else is as it was. -/
structure Shut (lo : Nat) (w w' : World) : Prop where
  os : w'.os = w.os
  tape : w'.tape = w.tape
  output : w'.output = w.output
  size : w.heap.size ≤ w'.heap.size
  block : ∀ k, (k < lo ∨ ∀ ds, w.heap[k]? ≠ some (.deferred ds)) → w'.heap[k]? = w.heap[k]?

theorem Shut.refl (lo : Nat) (w : World) : Shut lo w w := ⟨rfl, rfl, rfl, Nat.le_refl _, fun _ _ => rfl⟩

theorem Shut.trans {lo : Nat} {a b c : World} (h : Shut lo a b) (k : Shut lo b c) : Shut lo a c :=
  ⟨k.os.trans h.os, k.tape.trans h.tape, k.output.trans h.output, Nat.le_trans h.size k.size, fun i hi => (k.block i (by rcases hi with hi | hi; exact .inl hi; exact .inr fun ds => by rw [h.block i (.inr hi)]; exact hi ds)).trans (h.block i hi)⟩

theorem Shut.put {lo b : Nat} {w : World} {ds : Option (List Deferred)} (h : w.heap[b]? = some (.deferred ds)) (hb : lo ≤ b) : Shut lo w (w.putObj b (.deferred none)) :=
  ⟨rfl, rfl, rfl, by simp [World.putObj], fun k hk => World.putObj_heap_other (by rcases hk with hk | hk; omega; intro e; subst e; exact hk ds h)⟩

theorem Shut.ext {lo : Nat} {w0 w w' : World} (h : Ext w0 w) (k : Shut lo w w') (hl : w0.heap.size ≤ lo) : Ext w0 w' :=
  ⟨k.os.trans (Below.os h), k.tape.trans (Below.tape h), k.output.trans (Below.output h), Nat.le_trans (Below.size h) k.size, fun i hi => (k.block i (.inl (by omega))).trans (Below.block h i hi)⟩

theorem Shut.cells {lo : Nat} {w w' : World} (k : Shut lo w w') {b : Nat} {cs : Array Value} {T : TypeId} {fr : Nat × Nat} (h : w.heap[b]? = some (.cells cs T fr)) : w'.heap[b]? = some (.cells cs T fr) :=
  (k.block b (.inr fun ds => by rw [h]; exact fun e => by cases e)).trans h

theorem Shut.own {lo : Nat} {w w' : World} {base : Nat} {e : TypeId} {size : Nat} {v : Value} {n : Nat} {xs : List Value} (h : w.ownsRow base e size v n xs) (k : Shut lo w w') : w'.ownsRow base e size v n xs := by
  obtain ⟨h1, h2⟩ := h
  refine ⟨h1, ?_⟩
  rcases h2 with h2 | ⟨g, cap, cur, h2, hb, hh, r⟩
  · exact .inl h2
  · exact .inr ⟨g, cap, cur, h2, hb, k.cells hh, r⟩

/-- How a function with such marks leaves. -/
theorem leaves_coll {P : Program} {fn : Func} {tmps : Array Value} {R : Ending → World → Prop} {n lo : Nat} : ∀ {ds : List Deferred} {hi : Nat} {w : World}, Coll lo hi ds w →
    (∀ w', Shut lo w w' → LeavesIn Fence.wide n P fn tmps R [] .returning w') → LeavesInM Fence.wide n P fn tmps R ds .returning w
  | [], _, w, _, h => h w (Shut.refl _ _)
  | d :: ds, hi, w, hc, h => by
    obtain ⟨b, rfl, h2, h3, h4, h5⟩ := hc
    refine ⟨by simp, .inl ⟨_, _, rfl, run_takeDeferred h4, ?_⟩⟩
    refine leaves_coll (hi := b) (h5.keep fun b' _ h7 h8 => (World.putObj_heap_other (by omega)).trans h8) fun w' hs => h w' ((Shut.put h4 h2).trans hs)

end Go.Proofs.Ytlaolokakaheaaa