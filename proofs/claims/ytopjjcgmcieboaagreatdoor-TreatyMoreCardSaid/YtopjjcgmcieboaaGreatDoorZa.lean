/-
  All lines of a treaty, as mathematics: each once, in the order of lists; a line's text tells it from all other ones.
  A line's text, byte for byte: the decimal numerals of its places, a blank behind each; it tells the line from all other ones.
-/
import Init
import Derived.Lib.ItoaNum
namespace Go.Proofs.YtopjjcgmcieboaaGreatDoor

/-- A line more, if it is not there. -/
def addL (acc : List (List Nat)) (x : List Nat) : List (List Nat) := if x ∈ acc then acc else acc ++ [x]
theorem addL_in {acc : List (List Nat)} {x : List Nat} (h : x ∈ acc) : addL acc x = acc := if_pos h
theorem addL_out {acc : List (List Nat)} {x : List Nat} (h : x ∉ acc) : addL acc x = acc ++ [x] := if_neg h
theorem mem_addL {acc : List (List Nat)} {x y : List Nat} : y ∈ addL acc x ↔ y ∈ acc ∨ y = x := by
  unfold addL
  split
  · rename_i h
    constructor
    · exact .inl
    · rintro (h1 | rfl)
      · exact h1
      · exact h
  · rw [List.mem_append, List.mem_singleton]
theorem nodup_addL {acc : List (List Nat)} {x : List Nat} (h : acc.Nodup) : (addL acc x).Nodup := by
  unfold addL
  split
  · exact h
  · rename_i hx
    rw [List.nodup_append]
    refine ⟨h, by simp, ?_⟩
    intro a ha b hb e
    rw [List.mem_singleton] at hb
    exact hx (by rw [← hb, ← e]; exact ha)
theorem len_addL (acc : List (List Nat)) (x : List Nat) : acc.length ≤ (addL acc x).length := by
  unfold addL
  split
  · exact Nat.le_refl _
  · rw [List.length_append]; omega

/-- Lines more, each that is not there. -/
def addLs (acc : List (List Nat)) (l : List (List Nat)) : List (List Nat) := l.foldl addL acc
theorem addLs_nil (acc : List (List Nat)) : addLs acc [] = acc := rfl
theorem addLs_cons (acc l : List (List Nat)) (x : List Nat) : addLs acc (x :: l) = addLs (addL acc x) l := rfl
theorem addLs_append (acc l m : List (List Nat)) : addLs acc (l ++ m) = addLs (addLs acc l) m := List.foldl_append
theorem mem_addLs {l : List (List Nat)} : ∀ {acc : List (List Nat)} {y : List Nat}, y ∈ addLs acc l ↔ y ∈ acc ∨ y ∈ l := by
  induction l with
  | nil => intro acc y; simp [addLs_nil]
  | cons x l ih =>
    intro acc y
    rw [addLs_cons, ih, mem_addL, List.mem_cons]
    constructor
    · rintro ((h | h) | h)
      · exact .inl h
      · exact .inr (.inl h)
      · exact .inr (.inr h)
    · rintro (h | h | h)
      · exact .inl (.inl h)
      · exact .inl (.inr h)
      · exact .inr h
theorem nodup_addLs {l : List (List Nat)} : ∀ {acc : List (List Nat)}, acc.Nodup → (addLs acc l).Nodup := by
  induction l with
  | nil => intro acc h; exact h
  | cons x l ih => intro acc h; exact ih (nodup_addL h)
theorem len_addLs {l : List (List Nat)} : ∀ {acc : List (List Nat)}, acc.length ≤ (addLs acc l).length := by
  induction l with
  | nil => intro acc; exact Nat.le_refl _
  | cons x l ih => intro acc; exact Nat.le_trans (len_addL acc x) ih

/-- A place's digits. -/
def dig (x : Nat) : List Nat := if x < 10 then [48 + x] else [48 + x / 10, 48 + x % 10]
/-- A line's text. -/
def txt (l : List Nat) : List Nat := l.flatMap fun x => dig x ++ [32]
theorem txt_nil : txt [] = [] := rfl
theorem txt_cons (x : Nat) (l : List Nat) : txt (x :: l) = dig x ++ 32 :: txt l := by
  simp [txt]
theorem txt_snoc (l : List Nat) (x : Nat) : txt (l ++ [x]) = txt l ++ dig x ++ [32] := by
  simp [txt]
theorem dig_inj {x y : Nat} {a b : List Nat} (h : dig x ++ 32 :: a = dig y ++ 32 :: b) : x = y ∧ a = b := by
  unfold dig at h
  split at h <;> split at h <;> simp at h
  · exact ⟨by omega, h.2⟩
  · omega
  · omega
  · exact ⟨by omega, h.2.2⟩
theorem txt_inj : ∀ {l m : List Nat}, txt l = txt m → l = m := by
  intro l
  induction l with
  | nil =>
    intro m h
    cases m with
    | nil => rfl
    | cons y m => rw [txt_cons, txt_nil] at h; exact absurd (congrArg List.length h) (by simp)
  | cons x l ih =>
    intro m h
    cases m with
    | nil => rw [txt_cons, txt_nil] at h; exact absurd (congrArg List.length h) (by simp)
    | cons y m =>
      rw [txt_cons, txt_cons] at h
      obtain ⟨h1, h2⟩ := dig_inj h
      rw [h1, ih h2]
theorem txt_len (l : List Nat) : (txt l).length ≤ 3 * l.length := by
  induction l with
  | nil => simp [txt]
  | cons x l ih =>
    rw [txt_cons, List.length_append, List.length_cons, List.length_cons]
    have : (dig x).length ≤ 2 := by unfold dig; split <;> simp
    omega

/-- The order of lists, as slices.Compare tells it: below, at, or above nought. -/
def cmpL : List Nat → List Nat → Int
  | [], [] => 0
  | [], _ :: _ => -1
  | _ :: _, [] => 1
  | x :: l, y :: m => if x < y then -1 else if y < x then 1 else cmpL l m
theorem cmpL_zero : ∀ {l m : List Nat}, cmpL l m = 0 → l = m := by
  intro l
  induction l with
  | nil => intro m h; cases m with
    | nil => rfl
    | cons y m => simp [cmpL] at h
  | cons x l ih =>
    intro m h
    cases m with
    | nil => simp [cmpL] at h
    | cons y m =>
      unfold cmpL at h
      split at h
      · simp at h
      · split at h
        · simp at h
        · rw [ih h, show x = y by omega]
theorem cmpL_self : ∀ (l : List Nat), cmpL l l = 0 := by
  intro l
  induction l with
  | nil => rfl
  | cons x l ih => unfold cmpL; rw [if_neg (by omega), if_neg (by omega)]; exact ih
theorem cmpL_swap : ∀ (l m : List Nat), cmpL m l = - cmpL l m := by
  intro l
  induction l with
  | nil => intro m; cases m <;> simp [cmpL]
  | cons x l ih =>
    intro m
    cases m with
    | nil => simp [cmpL]
    | cons y m =>
      unfold cmpL
      by_cases h1 : x < y
      · rw [if_neg (by omega), if_pos h1, if_pos h1]; rfl
      · by_cases h2 : y < x
        · rw [if_pos h2, if_neg h1, if_pos h2]
        · rw [if_neg h2, if_neg h1, if_neg h1, if_neg h2]; exact ih m
theorem cmpL_trans : ∀ {l m k : List Nat}, cmpL l m < 0 → cmpL m k < 0 → cmpL l k < 0 := by
  intro l
  induction l with
  | nil =>
    intro m k h1 h2
    cases k with
    | nil => cases m <;> simp [cmpL] at h1 h2
    | cons z k => simp [cmpL]
  | cons x l ih =>
    intro m k h1 h2
    cases m with
    | nil => simp [cmpL] at h1
    | cons y m =>
      cases k with
      | nil => simp [cmpL] at h2
      | cons z k =>
        unfold cmpL at h1 h2 ⊢
        by_cases a1 : x < y
        · by_cases a2 : y < z
          · rw [if_pos (by omega)]; decide
          · rw [if_neg a2] at h2
            by_cases a3 : z < y
            · rw [if_pos a3] at h2; simp at h2
            · rw [if_pos (by omega)]; decide
        · rw [if_neg a1] at h1
          by_cases b1 : y < x
          · rw [if_pos b1] at h1; simp at h1
          · rw [if_neg b1] at h1
            obtain rfl : x = y := by omega
            by_cases a2 : x < z
            · rw [if_pos a2]; decide
            · rw [if_neg a2] at h2 ⊢
              by_cases a3 : z < x
              · rw [if_pos a3] at h2; simp at h2
              · rw [if_neg a3] at h2 ⊢
                exact ih h1 h2
end Go.Proofs.YtopjjcgmcieboaaGreatDoor

namespace Go.Proofs.YtopjjcgmcieboaaGreatDoor

theorem dec_dig {x : Nat} (h : x < 100) : (Lib.decDigits x).map UInt8.toNat = dig x := by
  unfold dig
  by_cases h1 : x < 10
  · rw [Lib.decDigits_one h1, if_pos h1]
    simp
    omega
  · rw [Lib.decDigits_two h1 h, if_neg h1]
    simp
    omega
theorem dec_len {x : Nat} (h : x < 100) : (Lib.decDigits x).length ≤ 2 := by
  by_cases h1 : x < 10
  · rw [Lib.decDigits_one h1]; simp
  · rw [Lib.decDigits_two h1 h]; simp
/-- A line's text. -/
def txtB (l : List Nat) : List UInt8 := l.flatMap fun x => Lib.decDigits x ++ [32]
theorem txtB_nil : txtB [] = [] := rfl
theorem txtB_cons (x : Nat) (l : List Nat) : txtB (x :: l) = Lib.decDigits x ++ 32 :: txtB l := by simp [txtB]
theorem txtB_snoc (l : List Nat) (x : Nat) : txtB (l ++ [x]) = txtB l ++ Lib.decDigits x ++ [32] := by simp [txtB]
theorem txtB_nat {l : List Nat} (h : ∀ x ∈ l, x < 100) : (txtB l).map UInt8.toNat = txt l := by
  induction l with
  | nil => rfl
  | cons x l ih =>
    rw [txtB_cons, txt_cons, List.map_append, List.map_cons, dec_dig (h x (by simp)), ih fun z hz => h z (by simp [hz])]
    rfl
theorem txtB_inj {l m : List Nat} (hl : ∀ x ∈ l, x < 100) (hm : ∀ x ∈ m, x < 100) (h : txtB l = txtB m) : l = m :=
  txt_inj (by rw [← txtB_nat hl, ← txtB_nat hm, h])
theorem txtB_len {l : List Nat} (h : ∀ x ∈ l, x < 100) : (txtB l).length ≤ 3 * l.length := by
  have := congrArg List.length (txtB_nat h)
  rw [List.length_map] at this
  rw [this]
  exact txt_len l
/-- A line's text is among those of others just if the line is. -/
theorem mem_txtB {x : List Nat} {acc : List (List Nat)} (hx : ∀ y ∈ x, y < 100) (ha : ∀ l ∈ acc, ∀ y ∈ l, y < 100) : txtB x ∈ acc.map txtB ↔ x ∈ acc := by
  rw [List.mem_map]
  constructor
  · rintro ⟨l, hl, he⟩
    rw [← txtB_inj (ha l hl) hx he]
    exact hl
  · exact fun h => ⟨x, h, rfl⟩
end Go.Proofs.YtopjjcgmcieboaaGreatDoor
