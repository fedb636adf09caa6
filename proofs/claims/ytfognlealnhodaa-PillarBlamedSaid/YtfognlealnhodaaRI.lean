/-
  A region that draws its order, by an invariant that speaks of the operations that are done: each one that may come up keeps it, whichever others are done. Nothing is claimed of the program here.
-/
import Derived.Test.YtfognlealnhodaaA
import Derived.Deep.RegionHeld3
namespace Go.Proofs.Ytfognlealnhodaa

section
variable {P : Program} {ops : Array Oper} {Q : Exit → Act → World → Prop} {md : Region.Mode}

/-- Operations wait for earlier ones alone. -/
def backB (md : Region.Mode) (ops : Array Oper) : Bool := (List.range ops.size).all fun i => match ops[i]? with
  | none => true
  | some o => o.after.all fun e => !Region.binds md e || decide (e.on < i)
theorem back_spec (h : backB md ops = true) {i : Nat} {o : Oper} (ho : ops[i]? = some o) : ∀ e ∈ o.after, Region.binds md e = true → e.on < i := by
  have hi : i < ops.size := (Array.getElem?_eq_some_iff.1 ho).1
  unfold backB at h
  rw [List.all_eq_true] at h
  have := h i (List.mem_range.2 hi)
  rw [ho] at this
  simp only [Array.all_eq_true] at this
  intro e he hbd
  obtain ⟨k, hk, rfl⟩ := Array.mem_iff_getElem.1 he
  simpa [hbd] using this k hk
/-- Nothing may come up: all is done. -/
theorem all_done (h : backB md ops = true) {listed : Array Bool} (hr : Region.ready md ops listed = []) : ∀ i, i < ops.size → listed.getD i true = true := by
  intro i
  induction i using Nat.strongRecOn with
  | ind i ih =>
    intro hi
    cases hl : listed.getD i true with
    | true => rfl
    | false =>
      exfalso
      obtain ⟨o, ho⟩ : ∃ o, ops[i]? = some o := ⟨ops[i], by simp [hi]⟩
      have : i ∈ Region.ready md ops listed := mem_ready.2 ⟨hl, o, ho, fun e he hbd => by
        have h1 := back_spec h ho e he hbd
        have h2 := ih e.on h1 (by omega)
        by_cases hs : e.on < listed.size
        · simpa [Array.getD, hs] using h2
        · exfalso
          have : ¬ i < listed.size := by omega
          simp [Array.getD, this] at hl⟩
      rw [hr] at this
      cases this

/-- Which operations are done. -/
abbrev doneL (listed : Array Bool) (j : Nat) : Prop := listed.getD j false = true
theorem done_set {listed : Array Bool} {i : Nat} (hi : i < listed.size) : doneL (listed.setIfInBounds i true) = fun j => j = i ∨ doneL listed j := by
  funext j
  apply propext
  show (listed.setIfInBounds i true).getD j false = true ↔ j = i ∨ listed.getD j false = true
  by_cases e : j = i
  · subst e; simp [Array.getD, hi]
  · have e' : ¬ i = j := fun h => e h.symm
    by_cases hj : j < listed.size
    · simp [Array.getD, hj, e, e']
    · simp [Array.getD, hj, e]
def leftN (listed : Array Bool) : Nat := (listed.toList.filter (fun b => !b)).length
theorem left_set {listed : Array Bool} {i : Nat} (hi : i < listed.size) (hf : listed.getD i true = false) : leftN (listed.setIfInBounds i true) + 1 = leftN listed := by
  unfold leftN
  rw [Array.toList_setIfInBounds]
  have hg : listed.toList[i]? = some false := by
    have : listed[i] = false := by simpa [Array.getD, hi] using hf
    rw [Array.getElem?_toList, Array.getElem?_eq_getElem hi, this]
  generalize listed.toList = l at *
  clear hf hi
  induction l generalizing i with
  | nil => simp at hg
  | cons b l ih =>
    cases i with
    | zero =>
      simp only [List.getElem?_cons_zero, Option.some.injEq] at hg
      subst hg
      simp
    | succ i =>
      simp only [List.getElem?_cons_succ] at hg
      have := ih hg
      cases b <;> simp [List.set_cons_succ] at this ⊢ <;> omega
theorem wpAny_inv (hb : backB md ops = true) (I : (Nat → Prop) → Act → World → Prop)
    (hstep : ∀ (L : Nat → Prop) (a : Act) (w : World) (i : Nat) (o : Oper), I L a w → ¬ L i → ops[i]? = some o → (∀ e ∈ o.after, Region.binds md e = true → L e.on) → wpOp P ops Q i (fun a' w' => I (fun j => j = i ∨ L j) a' w') a w)
    (hdone : ∀ (L : Nat → Prop) (a : Act) (w : World), I L a w → (∀ i, i < ops.size → L i) → Q .normal a w) :
    ∀ (fuel : Nat) (listed : Array Bool) (a : Act) (w : World), listed.size = ops.size → leftN listed ≤ fuel → I (doneL listed) a w → wpAny P md ops Q fuel listed a w := by
  have fin : ∀ (listed : Array Bool) (a : Act) (w : World), listed.size = ops.size → I (doneL listed) a w → Region.ready md ops listed = [] → Q .normal a w := fun listed a w hs hI hr =>
    hdone _ a w hI (fun i hi => by
      have := all_done hb hr i hi
      have hi' : i < listed.size := by omega
      simpa [doneL, Array.getD, hi'] using this)
  intro fuel
  induction fuel with
  | zero =>
    intro listed a w hs hl hI
    have hr : Region.ready md ops listed = [] := by
      rw [List.eq_nil_iff_forall_not_mem]
      intro i hi
      have h1 := (mem_ready.1 hi).1
      obtain ⟨_, o, ho, _⟩ := mem_ready.1 hi
      have hi' : i < listed.size := by have := (Array.getElem?_eq_some_iff.1 ho).1; omega
      have := left_set hi' h1
      omega
    exact ⟨hr, fin listed a w hs hI hr⟩
  | succ fuel ih =>
    intro listed a w hs hl hI
    refine ⟨fin listed a w hs hI, fun i hi => ?_⟩
    obtain ⟨h1, o, ho, h2⟩ := mem_ready.1 hi
    have hi' : i < listed.size := by have := (Array.getElem?_eq_some_iff.1 ho).1; omega
    have hnl : ¬ doneL listed i := by
      have : listed[i] = false := by simpa [Array.getD, hi'] using h1
      simp [doneL, Array.getD, hi', this]
    refine wpOp_mono (fun a' w' hI' => ?_) (hstep (doneL listed) a w i o hI hnl ho (fun e he hbd => h2 e he hbd))
    have hls := left_set hi' h1
    refine ih _ a' w' (by simpa using hs) (by omega) ?_
    rw [done_set hi']
    exact hI'
/-- The law. -/
theorem wp_region_inv {id : Nat} {a : Act} {w : World} (hm : P.follows .mixedOrders = true) (hb : backB .any ops = true) (I : (Nat → Prop) → Act → World → Prop) (h0 : I (fun _ => False) a w.drew)
    (hstep : ∀ (L : Nat → Prop) (a : Act) (w : World) (i : Nat) (o : Oper), I L a w → ¬ L i → ops[i]? = some o → (∀ e ∈ o.after, Region.binds .any e = true → L e.on) → wpOp P ops Q i (fun a' w' => I (fun j => j = i ∨ L j) a' w') a w)
    (hdone : ∀ (L : Nat → Prop) (a : Act) (w : World), I L a w → (∀ i, i < ops.size → L i) → Q .normal a w) : (Code.region id ops true).wp P Q a w := by
  refine wp_region_any hm (wpAny_inv hb I hstep hdone _ _ _ _ (by simp) ?_ ?_)
  · unfold leftN; rw [Array.toList_replicate]; exact Nat.le_trans (List.length_filter_le _ _) (by simp)
  · have : doneL (Array.replicate ops.size false) = fun _ => False := by
      funext j
      apply propext
      show (Array.replicate ops.size false).getD j false = true ↔ False
      by_cases hj : j < ops.size <;> simp [Array.getD, hj]
    rw [this]; exact h0
end
/-- What is done is closed under what it waited for. -/
def Closed (ops : Array Oper) (L : Nat → Prop) : Prop := ∀ i o, L i → ops[i]? = some o → ∀ e ∈ o.after, Region.binds .any e = true → L e.on
theorem wp_region_inv2 {P : Program} {ops : Array Oper} {Q : Exit → Act → World → Prop} {id : Nat} {a : Act} {w : World} (hm : P.follows .mixedOrders = true) (hb : backB .any ops = true) (I : (Nat → Prop) → Act → World → Prop) (h0 : I (fun _ => False) a w.drew)
    (hstep : ∀ (L : Nat → Prop) (a : Act) (w : World) (i : Nat) (o : Oper), I L a w → Closed ops L → ¬ L i → ops[i]? = some o → (∀ e ∈ o.after, Region.binds .any e = true → L e.on) → wpOp P ops Q i (fun a' w' => I (fun j => j = i ∨ L j) a' w') a w)
    (hdone : ∀ (L : Nat → Prop) (a : Act) (w : World), I L a w → (∀ i, i < ops.size → L i) → Q .normal a w) : (Code.region id ops true).wp P Q a w := by
  refine wp_region_inv hm hb (fun L a w => I L a w ∧ Closed ops L) ⟨h0, fun i o h => h.elim⟩ (fun L a w i o hI hn ho hw => ?_) (fun L a w hI hL => hdone L a w hI.1 hL)
  refine wpOp_mono (fun a' w' hI' => ⟨hI', ?_⟩) (hstep L a w i o hI.1 hI.2 hn ho hw)
  rintro j oj (rfl | hj) hoj e he hbd
  · rw [ho] at hoj
    cases hoj
    exact .inr (hw e he hbd)
  · exact .inr (hI.2 j oj hj hoj e he hbd)

/-- What a slot holds behind a step. -/
def updV (x : Nat → Value) (n : Nat) (v : Value) : Nat → Value := fun m => if m = n then v else x m
theorem updV_self {x : Nat → Value} {k : Nat} {v : Value} (h : x k = v) : updV x k v = x := by
  funext n
  unfold updV
  by_cases e : n = k
  · rw [if_pos e, e, h]
  · rw [if_neg e]
end Go.Proofs.Ytfognlealnhodaa
