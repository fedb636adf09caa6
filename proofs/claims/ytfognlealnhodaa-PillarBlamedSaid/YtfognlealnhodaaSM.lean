/-
  Readings of finds, as mathematics alone: in how many ways the stones up to one can be read, how far pillars are apart, which pillars a stone is in some reading, which stones alone can be wrong. Nothing is claimed of the program here.
-/
import Derived.Test.YtfognlealnhodaaBS
import Derived.Test.YtfognlealnhodaaFO
import Derived.Test.YtfognlealnhodaaK
namespace Go.Proofs.Ytfognlealnhodaa
open Go.RowKit

/-- The stone behind stone st can be pillar q, if that is pillar p: gap and bottle allow it. -/
def fitF (gp : List (Nat × Nat)) (nm : List Int) (ap : Nat → Nat → Nat × Nat) (st p q : Nat) : Bool := !decide (comF (ap p q) (gp[st]?.getD (0, 0)) = (0, 0)) && saysF nm (st + 1) q
/-- The pillars that the stone behind one can be. -/
def behF (gp : List (Nat × Nat)) (nm : List Int) (ap : Nat → Nat → Nat × Nat) (P st p : Nat) : List Nat := seenTo (fitF gp nm ap st) p P
theorem behF_mem {gp : List (Nat × Nat)} {nm : List Int} {ap : Nat → Nat → Nat × Nat} {P st p q : Nat} : q ∈ behF gp nm ap P st p ↔ q < P ∧ p < q ∧ fitF gp nm ap st p q = true := seenTo_mem
def leadB (gp : List (Nat × Nat)) (nm : List Int) (ap : Nat → Nat → Nat × Nat) (P st p q : Nat) : Bool := decide (q < P) && (decide (p < q) && fitF gp nm ap st p q)
theorem leadB_mem {gp : List (Nat × Nat)} {nm : List Int} {ap : Nat → Nat → Nat × Nat} {P st p q : Nat} : leadB gp nm ap P st p q = true ↔ q ∈ behF gp nm ap P st p := by
  rw [behF_mem]; simp [leadB]
/-- What the first p pillars lead to. -/
def part (b : Nat → Nat → Bool) (row : Nat → Nat) : Nat → Nat → Nat
  | 0, _ => 0
  | p + 1, q => part b row p q + if b p q then row p else 0
/-- In how many ways the stones up to one can be read, if it is a pillar. -/
def wayR (gp : List (Nat × Nat)) (nm : List Int) (ap : Nat → Nat → Nat × Nat) (P : Nat) : Nat → Nat → Nat
  | 0, q => if decide (q < P) && saysF nm 0 q then 1 else 0
  | st + 1, q => part (leadB gp nm ap P st) (wayR gp nm ap P st) 40 q
theorem part_le {b : Nat → Nat → Bool} {row : Nat → Nat} (hr : ∀ p, row p ≤ 2 ^ p) (hb : ∀ p q, b p q = true → p < q) (m q : Nat) : part b row m q + 1 ≤ 2 ^ min m q := by
  induction m with
  | zero => simp [part]
  | succ m ih =>
    simp only [part]
    by_cases h : b m q = true
    · have := hb m q h
      rw [if_pos h, Nat.min_eq_left (by omega), Nat.pow_succ]
      rw [Nat.min_eq_left (by omega)] at ih
      have := hr m
      omega
    · rw [if_neg h]
      exact Nat.le_trans ih (Nat.pow_le_pow_right (by omega) (by omega))
theorem leadB_lt {gp : List (Nat × Nat)} {nm : List Int} {ap : Nat → Nat → Nat × Nat} {P st : Nat} (p q : Nat) (h : leadB gp nm ap P st p q = true) : p < q := by
  simp [leadB] at h; omega
theorem wayR_pow (gp : List (Nat × Nat)) (nm : List Int) (ap : Nat → Nat → Nat × Nat) (P st q : Nat) : wayR gp nm ap P st q ≤ 2 ^ q := by
  induction st generalizing q with
  | zero =>
    simp only [wayR]
    have : 1 ≤ 2 ^ q := Nat.one_le_two_pow
    split <;> omega
  | succ st ih =>
    simp only [wayR]
    have h := part_le (b := leadB gp nm ap P st) ih leadB_lt 40 q
    have h2 : 2 ^ min 40 q ≤ 2 ^ q := Nat.pow_le_pow_right (by omega) (by omega)
    omega
theorem pow40 {q : Nat} (h : q ≤ 40) : 2 ^ q ≤ 1099511627776 := Nat.le_trans (Nat.pow_le_pow_right (by omega) h) (by decide)
theorem wayR_le (gp : List (Nat × Nat)) (nm : List Int) (ap : Nat → Nat → Nat × Nat) (P st q : Nat) (hq : q ≤ 40) : wayR gp nm ap P st q ≤ 1099511627776 := Nat.le_trans (wayR_pow gp nm ap P st q) (pow40 hq)
theorem wayR_out {gp : List (Nat × Nat)} {nm : List Int} {ap : Nat → Nat → Nat × Nat} {P st q : Nat} (h : P ≤ q) : wayR gp nm ap P st q = 0 := by
  cases st with
  | zero => simp only [wayR]; rw [if_neg]; simp; omega
  | succ st =>
    simp only [wayR]
    have : ∀ m, part (leadB gp nm ap P st) (wayR gp nm ap P st) m q = 0 := by
      intro m
      induction m with
      | zero => rfl
      | succ m ih => simp only [part]; rw [ih, if_neg]; simp [leadB]; omega
    exact this 40

/-- The table of ways while it is filled: rows up to st are done; of the next one what the first p pillars lead to, and of p those of pre. -/
def tabW (gp : List (Nat × Nat)) (nm : List Int) (ap : Nat → Nat → Nat × Nat) (P st p : Nat) (pre : List Nat) : Nat → Nat → Nat := fun r q =>
  if r ≤ st then wayR gp nm ap P r q else if r = st + 1 then part (leadB gp nm ap P st) (wayR gp nm ap P st) p q + (if q ∈ pre then wayR gp nm ap P st p else 0) else 0
/-- While its first row is filled. -/
def tab0 (gp : List (Nat × Nat)) (nm : List Int) (ap : Nat → Nat → Nat × Nat) (P m : Nat) : Nat → Nat → Nat := fun r q => if r = 0 ∧ q < m then wayR gp nm ap P 0 q else 0
def updN (T : Nat → Nat → Nat) (f t b : Nat) : Nat → Nat → Nat := fun f' t' => if f' = f ∧ t' = t then b else T f' t'
theorem tab0_zero (gp : List (Nat × Nat)) (nm : List Int) (ap : Nat → Nat → Nat × Nat) (P : Nat) : tab0 gp nm ap P 0 = fun _ _ => 0 := by
  funext r q; simp [tab0]
theorem tab0_yes {gp : List (Nat × Nat)} {nm : List Int} {ap : Nat → Nat → Nat × Nat} {P m : Nat} (hm : m < P) (h : saysF nm 0 m = true) : updN (tab0 gp nm ap P m) 0 m 1 = tab0 gp nm ap P (m + 1) := by
  funext r q
  unfold updN tab0
  by_cases e : r = 0 ∧ q = m
  · obtain ⟨rfl, rfl⟩ := e; simp [wayR, hm, h]
  · rw [if_neg e]
    by_cases h0 : r = 0
    · subst h0
      have hq : q ≠ m := fun e' => e ⟨rfl, e'⟩
      by_cases h1 : q < m
      · rw [if_pos ⟨rfl, h1⟩, if_pos ⟨rfl, by omega⟩]
      · rw [if_neg (by omega), if_neg (by omega)]
    · rw [if_neg (by omega), if_neg (by omega)]
theorem tab0_no {gp : List (Nat × Nat)} {nm : List Int} {ap : Nat → Nat → Nat × Nat} {P m : Nat} (h : saysF nm 0 m = false) : tab0 gp nm ap P m = tab0 gp nm ap P (m + 1) := by
  funext r q
  unfold tab0
  by_cases h0 : r = 0
  · subst h0
    by_cases h1 : q < m
    · rw [if_pos ⟨rfl, h1⟩, if_pos ⟨rfl, by omega⟩]
    · rw [if_neg (by omega)]
      by_cases h2 : q = m
      · subst h2; simp [wayR, h]
      · rw [if_neg (by omega)]
  · rw [if_neg (by omega), if_neg (by omega)]
theorem tab0_tabW (gp : List (Nat × Nat)) (nm : List Int) (ap : Nat → Nat → Nat × Nat) (P : Nat) : tab0 gp nm ap P P = tabW gp nm ap P 0 0 [] := by
  funext r q
  unfold tab0 tabW
  by_cases h0 : r = 0
  · subst h0
    rw [if_pos (Nat.le_refl _)]
    by_cases h1 : q < P
    · rw [if_pos ⟨rfl, h1⟩]
    · rw [if_neg (by omega), wayR_out (by omega)]
  · rw [if_neg (by omega), if_neg (by omega)]
    simp [part]
theorem tabW_row (gp : List (Nat × Nat)) (nm : List Int) (ap : Nat → Nat → Nat × Nat) (P st p : Nat) (pre : List Nat) (q : Nat) : tabW gp nm ap P st p pre st q = wayR gp nm ap P st q := by simp [tabW]
theorem tabW_next (gp : List (Nat × Nat)) (nm : List Int) (ap : Nat → Nat → Nat × Nat) (P st p : Nat) : tabW gp nm ap P st p (behF gp nm ap P st p) = tabW gp nm ap P st (p + 1) [] := by
  funext r q
  unfold tabW
  by_cases h0 : r ≤ st
  · rw [if_pos h0, if_pos h0]
  · rw [if_neg h0, if_neg h0]
    by_cases h1 : r = st + 1
    · rw [if_pos h1, if_pos h1]
      simp only [part, List.not_mem_nil, if_false, Nat.add_zero]
      by_cases h2 : q ∈ behF gp nm ap P st p
      · rw [if_pos h2, if_pos (leadB_mem.2 h2)]
      · rw [if_neg h2, if_neg (fun h => h2 (leadB_mem.1 h))]
    · rw [if_neg h1, if_neg h1]
theorem tabW_done (gp : List (Nat × Nat)) (nm : List Int) (ap : Nat → Nat → Nat × Nat) (P st : Nat) : tabW gp nm ap P st 40 [] = tabW gp nm ap P (st + 1) 0 [] := by
  funext r q
  unfold tabW
  by_cases h0 : r ≤ st
  · rw [if_pos h0, if_pos (by omega)]
  · rw [if_neg h0]
    by_cases h1 : r = st + 1
    · subst h1; rw [if_pos rfl, if_pos (Nat.le_refl _)]; simp [wayR]
    · rw [if_neg h1, if_neg (by omega)]
      simp [part]
theorem tabW_step {gp : List (Nat × Nat)} {nm : List Int} {ap : Nat → Nat → Nat × Nat} {P st p q : Nat} {pre : List Nat} (hq : q ∉ pre) : updN (tabW gp nm ap P st p pre) (st + 1) q (tabW gp nm ap P st p pre (st + 1) q + wayR gp nm ap P st p) = tabW gp nm ap P st p (pre ++ [q]) := by
  funext r q'
  unfold updN
  by_cases e : r = st + 1 ∧ q' = q
  · obtain ⟨rfl, rfl⟩ := e
    rw [if_pos ⟨rfl, rfl⟩]
    have hn : ¬ st + 1 ≤ st := by omega
    simp [tabW, hn, hq]
  · rw [if_neg e]
    unfold tabW
    by_cases h0 : r ≤ st
    · rw [if_pos h0, if_pos h0]
    · rw [if_neg h0, if_neg h0]
      by_cases h1 : r = st + 1
      · subst h1
        have hne : q' ≠ q := fun e' => e ⟨rfl, e'⟩
        simp [hne]
      · rw [if_neg h1, if_neg h1]
theorem part_fin (gp : List (Nat × Nat)) (nm : List Int) (ap : Nat → Nat → Nat × Nat) (P st p q : Nat) (pre : List Nat) (hq : q ≤ 40) (hp : p ≤ 40) : tabW gp nm ap P st p pre (st + 1) q ≤ 2199023255552 := by
  unfold tabW
  rw [if_neg (by omega), if_pos rfl]
  have h := part_le (b := leadB gp nm ap P st) (row := wayR gp nm ap P st) (wayR_pow gp nm ap P st) leadB_lt p q
  have h2 : 2 ^ min p q ≤ 1099511627776 := pow40 (by omega)
  have h3 := wayR_le gp nm ap P st p hp
  split <;> omega
/-- A pillar comes once among those behind. -/
theorem behF_fresh {gp : List (Nat × Nat)} {nm : List Int} {ap : Nat → Nat → Nat × Nat} {P st p q : Nat} {pre : List Nat} (h : (pre ++ [q]) <+: behF gp nm ap P st p) : q ∉ pre := by
  have hn : (behF gp nm ap P st p).Nodup := by
    unfold behF seenTo
    exact (List.filter_sublist).nodup List.nodup_range
  have := (h.sublist).nodup hn
  rw [List.nodup_append] at this
  intro hq
  exact this.2.2 q hq q (by simp) rfl
/-- A sum of numbers. -/
def sumN (f : Nat → Nat) : Nat → Nat
  | 0 => 0
  | m + 1 => sumN f m + f m
theorem sumN_le {f : Nat → Nat} {b : Nat} (m : Nat) (h : ∀ q, q < m → f q ≤ b) : sumN f m ≤ m * b := by
  induction m with
  | zero => simp [sumN]
  | succ m ih => simp only [sumN]; have := ih (fun q hq => h q (by omega)); have := h m (by omega); rw [Nat.succ_mul]; omega
/-- How many readings there are. -/
def readF (gp : List (Nat × Nat)) (nm : List Int) (ap : Nat → Nat → Nat × Nat) (P : Nat) : Nat := sumN (wayR gp nm ap P gp.length) 40
/-- The pillars that the stone k ahead of the last one is in some reading. -/
def numK (gp : List (Nat × Nat)) (nm : List Int) (ap : Nat → Nat → Nat × Nat) (P last : Nat) : Nat → List Nat
  | 0 => (List.range 40).filter fun p => decide (0 < wayR gp nm ap P last p)
  | k + 1 => (List.range 40).filter fun p => decide (0 < wayR gp nm ap P (last - (k + 1)) p) && (behF gp nm ap P (last - (k + 1)) p).any fun q => (numK gp nm ap P last k).contains q
def numbersF (gp : List (Nat × Nat)) (nm : List Int) (ap : Nat → Nat → Nat × Nat) (P : Nat) : List (List Nat) := (List.range nm.length).map fun st => numK gp nm ap P (nm.length - 1) (nm.length - 1 - st)
/-- How far pillars are apart, while the table is filled. -/
def apF (l : List (Nat × Nat)) (i j : Nat) : Nat × Nat := sumTo ((l.drop i).take (j - i)) (j - i)
def tabA (l : List (Nat × Nat)) (i j : Nat) : Nat → Nat → Nat × Nat := fun f t => if (f < i ∨ (f = i ∧ t < j)) ∧ f < t ∧ t < l.length + 1 then apF l f t else (0, 0)
def apart (l : List (Nat × Nat)) : Nat → Nat → Nat × Nat := fun f t => if f < t ∧ t < l.length + 1 then apF l f t else (0, 0)
theorem tabA_zero (l : List (Nat × Nat)) (j : Nat) (h : j ≤ 1) : tabA l 0 j = fun _ _ => (0, 0) := by
  funext f t; unfold tabA; rw [if_neg (by omega)]
def updA (T : Nat → Nat → Nat × Nat) (f t : Nat) (b : Nat × Nat) : Nat → Nat → Nat × Nat := fun f' t' => if f' = f ∧ t' = t then b else T f' t'
theorem tabA_step {l : List (Nat × Nat)} {i j : Nat} (hij : i < j) (hj : j < l.length + 1) : updA (tabA l i j) i j (apF l i j) = tabA l i (j + 1) := by
  funext f t; unfold updA tabA
  by_cases e : f = i ∧ t = j
  · obtain ⟨rfl, rfl⟩ := e; rw [if_pos ⟨rfl, rfl⟩, if_pos (by omega)]
  · rw [if_neg e]
    by_cases h : (f < i ∨ (f = i ∧ t < j)) ∧ f < t ∧ t < l.length + 1
    · rw [if_pos h, if_pos (by omega)]
    · rw [if_neg h, if_neg (by omega)]
theorem tabA_row (l : List (Nat × Nat)) (i j j' : Nat) (h : l.length + 1 ≤ j) (h' : j' ≤ i + 2) : tabA l i j = tabA l (i + 1) j' := by
  funext f t; unfold tabA
  by_cases h1 : (f < i ∨ (f = i ∧ t < j)) ∧ f < t ∧ t < l.length + 1
  · rw [if_pos h1, if_pos (by omega)]
  · rw [if_neg h1, if_neg (by omega)]
theorem tabA_all (l : List (Nat × Nat)) (j : Nat) : tabA l (l.length + 1) j = apart l := by
  funext f t; unfold tabA apart
  by_cases h1 : f < t ∧ t < l.length + 1
  · rw [if_pos h1, if_pos (by omega)]
  · rw [if_neg h1, if_neg (by omega)]
/-- How many readings a roll has of finds. -/
def readsF (l gp : List (Nat × Nat)) (nm : List Int) : Nat := readF gp nm (apart l) (l.length + 1)
/-- Finds without a stone. -/
def lessG (gp : List (Nat × Nat)) (n st : Nat) : List (Nat × Nat) :=
  if st = 0 then gp.drop 1 else if st = n - 1 then gp.take (n - 2) else gp.take (st - 1) ++ [((gp[st - 1]?.getD (0, 0)).1 + (gp[st]?.getD (0, 0)).1, (gp[st - 1]?.getD (0, 0)).2 + (gp[st]?.getD (0, 0)).2)] ++ gp.drop (st + 1)
/-- The stones that alone can be wrong. -/
def wrongF (l gp : List (Nat × Nat)) (nm : List Int) : List Nat := (List.range nm.length).filter fun st => decide (0 < readsF l (lessG gp nm.length st) (nm.eraseIdx st))
end Go.Proofs.Ytfognlealnhodaa
