/-
  Several texts in one. Read deals a reading of a treaty that is valid: a number for each word, less than the word has meanings, in new memory; but for the deck it turns nothing that was there. What was there but for two blocks: the deck's and the treaty's.
-/
import Derived.Test.YtopjjcgmcieboaaGreatDoorU
import Derived.Test.YtopjjcgmcieboaaGreatDoorRa
import Derived.Test.YtopjjcgmcieboaaGreatDoorX
import Derived.Test.YtopjjcgmcieboaaGreatDoorId
namespace Go.Proofs.YtopjjcgmcieboaaGreatDoor
open Go.RowKit

/-- A treaty that lies in memory, whatever the deck does. -/
def IsTo (D : Nat) (w : World) (t : TV) : Prop := ∀ w', DExt D w w' → IsT w' t
theorem IsTo.dext {D : Nat} {w w' : World} {t : TV} (h : IsTo D w t) (k : DExt D w w') : IsTo D w' t := fun w'' k' => h w'' (k.trans k')
theorem IsTo.at {D : Nat} {w : World} {t : TV} (h : IsTo D w t) : IsT w t := h w (DExt.refl D w)

/-- A reading was dealt. -/
def ReadOf (D : Nat) (a : Option Addr) (n c k : Nat) (t : TV) (w : World) (e : Ending) (w' : World) : Prop :=
  ∃ (a' : Option Addr) (c' : Nat) (l : List Nat) (k' : Nat), e = .returned (.slice a' l.length c') ∧ w'.ownsRow w.heap.size 3 1 (.slice a' l.length c') l.length (nums l) ∧ RdOk t l ∧ IsDeck w' D a n c k' ∧ k' ≤ k + 6 ∧ DExt D w w'

set_option maxRecDepth 100000 in
set_option maxHeartbeats 1000000 in
theorem readDeal_any (D : Nat) (a : Option Addr) (n c k : Nat) (t : TV) (w : World) (hd : IsDeck w D a n c k) (hb : ∀ b off, a = some ⟨b, off, none⟩ → 0 < n → b < w.heap.size) (hk : k + 6 ≤ 1000000) (ht : IsTo D w t) (hok : OkT t) :
    Calls Tryz.prog 20 #[.pointer (some ⟨D, 0, none⟩), t.v] w (ReadOf D a n c k t w) := by
  obtain ⟨i0, hi, hz0, hz1, hz2⟩ := info_parts info3
  have hDl := hd.lt
  have HD : Hid (IsDeck (w.alloc (.cells #[.int .i64 (t.P : Int), .slice t.ways.a t.ways.l.length t.ways.c, .slice t.words.a t.words.l.length t.words.c, .slice t.starts.a t.starts.l.length t.starts.c, .slice t.legs.a t.legs.l.length t.legs.c] 28)) D a n c k) := hd.ext ((Ext.refl w).alloc _)
  clear hd
  have HB := Lib.hid hb; clear hb
  have HT := Lib.hid ht; clear ht
  have hw6 := hok.words
  have HW := Lib.hid hok.word
  clear hok
  have m0 : (0 : Int) ≤ (t.words.l.length : Int) := by omega
  go_enter Tryz.func20, Tryz.ntmps20
  go_wp2
  go_loopw [5, 11] (fun v i wr => ∃ (j : Nat) (a' : Option Addr) (c' : Nat) (l : List Nat) (k' : Nat), j ≤ t.words.l.length ∧ i = .int .i64 j ∧ v = .slice a' l.length c' ∧ Hid (wr.ownsRow w.heap.size 3 1 (.slice a' l.length c') l.length (nums l)) ∧ Hid (l.length = j) ∧ Hid (∀ q (h : q < l.length) (h' : q < t.words.l.length), l[q] < t.words.l[q].l.length) ∧ Hid (IsDeck wr D a n c k') ∧ k' ≤ k + j ∧ Hid (DExt D w wr)) (fun _ i _ => t.words.l.length - (intOf i).toNat)
  case atStart => exact ⟨0, none, 0, [], k, Nat.zero_le _, rfl, rfl, World.ownsRow_nil _ _ _ _, rfl, fun q h => by simp at h, HD, by omega, (DExt.refl D w).ext ((Ext.refl w).alloc _)⟩
  case round =>
    obtain ⟨wo, rfl⟩ : ∃ wo : World, wo = wr := ⟨_, rfl⟩
    obtain ⟨j, a', c', l, k', hj, rfl, rfl, HO, HLL, HL, HDk, hk', HX⟩ := hrel
    by_cases hlt : j < t.words.l.length
    · have dj : decide ((j : Int) < (t.words.l.length : Int)) = true := by simpa using hlt
      have hT : IsT wo t := HT.out wo HX.out
      obtain ⟨bw, ow, hwa, hwc⟩ := hT.words.2.2.resolve_left (by omega)
      have cw : wo.cell? ⟨bw, ow + j, none⟩ = some (.slice t.words.l[j].a t.words.l[j].l.length t.words.l[j].c) := by have := hwc j hlt 0 (by omega); simpa [slC] using this
      have hs4 := HW.out _ (List.getElem_mem hlt)
      clear hT hwc
      have HWj : Hid (∀ x, x < t.words.l[j].l.length → x < t.words.l[j].l.length) := fun _ h => h
      have HLn : Hid (∀ x, x < t.words.l[j].l.length → ∀ q (h : q < (l ++ [x]).length) (h' : q < t.words.l.length), (l ++ [x])[q] < t.words.l[q].l.length) := by
        intro x hx q h h'
        by_cases hq : q < l.length
        · rw [List.getElem_append_left hq]; exact HL.out q hq h'
        · have hl := HLL.out
          have : q = j := by simp at h; omega
          subst this
          rw [List.getElem_append_right (by omega)]
          simpa using hx
      generalize t.words.l[j] = s at *
      have k0 : (0 : Int) ≤ j := by omega
      have k1 : (j : Int) < (t.words.l.length : Int) := by omega
      rw [hwa]
      have HWa := Lib.hid hwa; clear hwa
      go_wp2_with fail
      refine (draw_any D a n c k' s.l.length wo HDk.out (by omega) (by omega)).mono ?_
      rintro e w1 ⟨r, k2, hr, hk2, rfl, hd1, hg1⟩
      have HLr := Lib.hid (HLn.out r (by omega))
      clear HLn HWj hr
      have HD1 := Lib.hid hd1; clear hd1
      have HX1 : Hid (DExt D w w1) := HX.out.trans hg1
      have HO1 : Hid (w1.ownsRow w.heap.size 3 1 (.slice a' l.length c') l.length (nums l)) := HO.out.kept hg1 (by
        cases hv : (Value.slice a' l.length c').ownBlock with
        | none => exact .inl rfl
        | some q => exact .inr (fun e => by cases e; have := own_lt HO.out _ hv; omega))
      clear hg1
      have hnw := new_cells w1 (nums [r]) 3
      have HN := Lib.hid hnw; clear hnw
      have hb6 : w.heap.size ≤ w1.heap.size + 1 := by have := HX1.out.size; omega
      have hl6 : l.length ≤ 6 := by have := HLL.out; omega
      have hm6 : l.length + 1 ≤ maxLen := by have := HLL.out; unfold maxLen; omega
      go_wp2_with (at_builtin; go_must (refine wpList_append_own _ rfl _ _ 25 rfl w.heap.size 3 i0 (.int .i64 0) 1 8 Tryz.underlying25 hi hz0 hz1 hz2 rfl (by decide) _ l.length (nums l) rfl (HO1.out.alloc _) ⟨w1.heap.size, 0, none⟩ 1 1 (nums [r]) rfl rfl HN.out (nums_one [r]) hm6 (by omega) (by have := HLL.out; simp; omega) ?_); intro v' w3 hown hgrow _)
      obtain ⟨a3, c3, rfl⟩ := own_form hown
      have hx3 : DExt D w w3 := (HX1.out.ext ((Ext.refl w1).alloc _)).grown hgrow (fun i hi => own_lt HO1.out i hi)
      have hd3 : IsDeck w3 D a n c k2 := (HD1.out.ext ((Ext.refl w1).alloc _)).grown hgrow (base := w.heap.size) (fun i hi => own_lt HO1.out i hi) hDl HB.out
      have HX3 := Lib.hid hx3; clear hx3 hgrow
      have HD3 := Lib.hid hd3; clear hd3
      rw [← nums_append, show l.length + 1 = (l ++ [r]).length by simp] at hown
      have HO3 := Lib.hid hown; clear hown
      have hlen3 : (l ++ [r]).length = l.length + 1 := by simp
      have hlj : (l ++ [r]).length = j + 1 := by have := HLL.out; omega
      generalize l ++ [r] = l3 at *
      rw [← hlen3]
      have HLe := Lib.hid hlen3; clear hlen3
      have HLj := Lib.hid hlj; clear hlj
      go_wp2
      go_roundw
      case rel => exact ⟨j + 1, a3, c3, l3, k2, by omega, by go_num, rfl, HO3, HLj.out, HLr, HD3, by omega, HX3⟩
      case measure => simp [intOf]; omega
    · have hje : j = t.words.l.length := by omega
      have dj : decide ((j : Int) < (t.words.l.length : Int)) = false := decide_eq_false (by omega)
      have HJe := Lib.hid hje; clear hje
      go_wp2
      go_ret
      exact ⟨a', c', l, k', rfl, HO.out, ⟨HLL.out.trans HJe.out, HL.out⟩, HDk.out, by omega, HX.out⟩
end Go.Proofs.YtopjjcgmcieboaaGreatDoor

namespace Go.Proofs.YtopjjcgmcieboaaGreatDoor
open Go.RowKit

/-- But for the blocks D and B, what was there is as it was. -/
structure G2 (D B : Nat) (w w' : World) : Prop where
  os : w'.os = w.os
  tape : w'.tape = w.tape
  output : w'.output = w.output
  size : w.heap.size ≤ w'.heap.size
  block : ∀ i, i < w.heap.size → i ≠ D → i ≠ B → w'.heap[i]? = w.heap[i]?
theorem G2.refl (D B : Nat) (w : World) : G2 D B w w := ⟨rfl, rfl, rfl, Nat.le_refl _, fun _ _ _ _ => rfl⟩
theorem G2.trans {D B : Nat} {a b c : World} (h : G2 D B a b) (k : G2 D B b c) : G2 D B a c :=
  ⟨k.os.trans h.os, k.tape.trans h.tape, k.output.trans h.output, Nat.le_trans h.size k.size, fun i hi h1 h2 => (k.block i (Nat.lt_of_lt_of_le hi h.size) h1 h2).trans (h.block i hi h1 h2)⟩
theorem G2.step {D B : Nat} {a b c : World} {row : Option Nat} (h : G2 D B a b) (k : b.grownBy c row) (hr : ∀ i, row = some i → i = D ∨ i = B ∨ a.heap.size ≤ i) : G2 D B a c :=
  ⟨k.os.trans h.os, k.tape.trans h.tape, k.output.trans h.output, Nat.le_trans h.size k.size, fun i hi h1 h2 => (k.block i (Nat.lt_of_lt_of_le hi h.size) (fun e => by rcases hr i e.symm with e | e | e <;> omega)).trans (h.block i hi h1 h2)⟩
theorem G2.dext {D B : Nat} {a b c : World} (h : G2 D B a b) (k : DExt D b c) : G2 D B a c := h.step k (fun i e => by cases e; exact .inl rfl)
theorem G2.ext {D B : Nat} {a b c : World} (h : G2 D B a b) (k : Ext b c) : G2 D B a c := h.dext ((DExt.refl D b).ext k)
theorem G2.setB {D B : Nat} {a b : World} (h : G2 D B a b) (i : Nat) (v : Value) : G2 D B a (b.setCell ⟨B, i, none⟩ v) :=
  h.step (row := some B) ⟨rfl, rfl, rfl, by simp [World.setCell], fun k _ hne => Below.heap_setCell _ _ _ _ (fun e => hne (by rw [e]))⟩ (fun i e => by cases e; exact .inr (.inl rfl))
theorem G2.own {D B : Nat} {w w' : World} {base : Nat} {e : TypeId} {size : Nat} {v : Value} {n : Nat} {xs : List Value} (h : w.ownsRow base e size v n xs) (k : G2 D B w w') (hD : D < base) (hB : B < base) : w'.ownsRow base e size v n xs := by
  obtain ⟨h1, h2⟩ := h
  refine ⟨h1, ?_⟩
  rcases h2 with h2 | ⟨g, cap, cur, h2, hb, hh, r⟩
  · exact .inl h2
  · exact .inr ⟨g, cap, cur, h2, hb, (k.block g (Array.getElem?_eq_some_iff.1 hh).1 (by omega) (by omega)).trans hh, r⟩
theorem G2.mono {D B : Nat} {a a' b : World} (h : G2 D B a b) (hs : G2 D B a' a) : G2 D B a' b := hs.trans h

/-- A deck is left alone by what grows in other blocks, some of them newer than its bytes. -/
theorem IsDeck.step {w w' : World} {D : Nat} {a : Option Addr} {n c k : Nat} {row : Option Nat} (h : IsDeck w D a n c k) (g : w.grownBy w' row) (hr : ∀ i, row = some i → i ≠ D ∧ ∀ b off, a = some ⟨b, off, none⟩ → 0 < n → b ≠ i) : IsDeck w' D a n c k := by
  obtain ⟨s, hs, hh, ⟨h1, h2, h3⟩, hne⟩ := h
  have hlt := (Array.getElem?_eq_some_iff.1 hh).1
  refine ⟨s, hs, (g.block D hlt (fun e => (hr D e.symm).1 rfl)).trans hh, ⟨h1, h2, ?_⟩, hne⟩
  rcases h3 with h3 | ⟨b, off, ha, hc⟩
  · exact .inl h3
  · by_cases hn : n = 0
    · exact .inl hn
    · refine .inr ⟨b, off, ha, fun i hi => ?_⟩
      obtain ⟨v, hv, hcell⟩ := hc i hi
      exact ⟨v, hv, (World.cell?_of_block (a := ⟨b, off + i, none⟩) (g.block b (lt_of_cell hcell) (fun e => (hr b e.symm).2 b off ha (by omega) rfl))).trans hcell⟩

/-- The treaty in the making: its block. -/
def MkT (w : World) (B P : Nat) (ways words starts legs : Value) : Prop := w.heap[B]? = some (.cells #[.int .i64 (P : Int), ways, words, starts, legs] 28)
theorem MkT.dext {D : Nat} {w w' : World} {B P : Nat} {a b c d : Value} (h : MkT w B P a b c d) (k : DExt D w w') (hne : B ≠ D) : MkT w' B P a b c d := by
  have hlt := (Array.getElem?_eq_some_iff.1 h).1
  exact (k.block B hlt (fun e => hne (by cases e; rfl))).trans h
theorem MkT.grown {w w' : World} {B P : Nat} {a b c d : Value} {row : Option Nat} (h : MkT w B P a b c d) (k : w.grownBy w' row) (hne : ∀ i, row = some i → i ≠ B) : MkT w' B P a b c d := by
  have hlt := (Array.getElem?_eq_some_iff.1 h).1
  exact (k.block B hlt (fun e => hne B e.symm rfl)).trans h
theorem MkT.five {w : World} {B P : Nat} {a b c d : Value} (h : MkT w B P a b c d) : w.cell? ⟨B, 0, none⟩ = some (.int .i64 (P : Int)) ∧ w.cell? ⟨B, 1, none⟩ = some a ∧ w.cell? ⟨B, 2, none⟩ = some b ∧ w.cell? ⟨B, 3, none⟩ = some c ∧ w.cell? ⟨B, 4, none⟩ = some d :=
  ⟨(cell_at h 0).trans rfl, (cell_at h 1).trans rfl, (cell_at h 2).trans rfl, (cell_at h 3).trans rfl, (cell_at h 4).trans rfl⟩
theorem MkT.frozen {w : World} {B P : Nat} {a b c d : Value} (h : MkT w B P a b c d) (i : Nat) : w.frozen? ⟨B, i, none⟩ = false := by
  unfold MkT at h; simp [World.frozen?, h]
theorem MkT.set1 {w : World} {B P : Nat} {a b c d : Value} (h : MkT w B P a b c d) (v : Value) : MkT (w.setCell ⟨B, 1, none⟩ v) B P v b c d := heap_setCell_same h v
theorem MkT.set2 {w : World} {B P : Nat} {a b c d : Value} (h : MkT w B P a b c d) (v : Value) : MkT (w.setCell ⟨B, 2, none⟩ v) B P a v c d := heap_setCell_same h v
theorem MkT.set3 {w : World} {B P : Nat} {a b c d : Value} (h : MkT w B P a b c d) (v : Value) : MkT (w.setCell ⟨B, 3, none⟩ v) B P a b v d := heap_setCell_same h v
theorem MkT.set4 {w : World} {B P : Nat} {a b c d : Value} (h : MkT w B P a b c d) (v : Value) : MkT (w.setCell ⟨B, 4, none⟩ v) B P a b c v := heap_setCell_same h v
end Go.Proofs.YtopjjcgmcieboaaGreatDoor
