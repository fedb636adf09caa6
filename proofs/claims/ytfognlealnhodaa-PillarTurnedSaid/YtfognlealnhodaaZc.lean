/-
  PillarTurned answers true for every input, and each argument reads afterwards as it read before: a line that is gone the other way, that begins elsewhere, and that is twice as long with a quarter of the bend, has places that see alike, and needs as many pillars. No condition beyond the statement's own.
-/
import Derived.Test.YtfognlealnhodaaA
import Derived.Test.YtfognlealnhodaaRP
import Derived.Test.YtfognlealnhodaaMA
import Derived.Test.YtfognlealnhodaaCL
import Derived.Test.YtfognlealnhodaaMB
import Derived.Test.YtfognlealnhodaaWO
import Derived.Test.YtfognlealnhodaaZo
import Derived.Test.YtfognlealnhodaaAK
import Derived.Test.YtfognlealnhodaaI
import Derived.Deep.QuietTactic
import Derived.BigQuiet
import Derived.Deep.RegionHeld3
import Derived.Test.YtfognlealnhodaaMC
import Derived.Test.YtfognlealnhodaaRows
import Derived.WalkKit
import Derived.ProofKit
import Derived.OpenShut
import Derived.ShutString
import Derived.ChangeOld
import Derived.Below
import Derived.SizedLaws
namespace Go.Proofs.Ytfognlealnhodaa
open Go.RowKit

/-- What Fold makes of a number. -/
def foldN (x : Int) (m : Nat) : Nat := ((x.tmod (m : Int) + (m : Int)).tmod (m : Int)).toNat
theorem foldN_spec (x : Int) (m : Nat) (hm : 1 ≤ m) : foldN x m < m ∧ (x.tmod (m : Int) + (m : Int)).tmod (m : Int) = (foldN x m : Int) := by
  have q := Int.tmod_lt_of_pos x (show (0 : Int) < m by omega)
  have q2 := Int.lt_tmod_of_pos x (show (0 : Int) < m by omega)
  have h0 := Int.tmod_nonneg (a := x.tmod (m : Int) + (m : Int)) (m : Int) (by omega)
  have h1 := Int.tmod_lt_of_pos (x.tmod (m : Int) + (m : Int)) (show (0 : Int) < m by omega)
  unfold foldN
  omega
theorem fold_q (x : Int) (m : Nat) (w : World) (hm : 1 ≤ m) (hm2 : m ≤ 1000000) : Calls Try.prog 20 #[.int .i64 x, .int .i64 (m : Int)] w fun e w' => e = .returned (.int .i64 (foldN x m : Int)) ∧ w = w' := by
  have d1 : decide ((m : Int) ≤ 0) = false := decide_eq_false (by omega)
  have h0 : ((m : Int) == 0) = false := by rw [beq_eq_false_iff_ne]; omega
  obtain ⟨hr1, hr2⟩ := foldN_spec x m hm
  have q := Int.tmod_lt_of_pos x (show (0 : Int) < m by omega)
  have q2 := Int.lt_tmod_of_pos x (show (0 : Int) < m by omega)
  generalize foldN x m = r at *
  obtain ⟨t, ht⟩ : ∃ t, x.tmod (m : Int) = t := ⟨_, rfl⟩
  rw [ht] at hr2 q q2
  have w1 : IntKind.i64.wrap t = t := IntWalk.i64_in _ (by omega)
  have w2 : IntKind.i64.wrap (t + (m : Int)) = t + (m : Int) := IntWalk.i64_in _ (by omega)
  have w3 : IntKind.i64.wrap (r : Int) = (r : Int) := IntWalk.i64_in _ (by omega)
  have hne : (m : Int) ≠ 0 := by omega
  have hn0 : m ≠ 0 := by omega
  go_enter Try.func20, Try.ntmps20
  go_wp2
  go_ret
  exact ⟨rfl, rfl⟩
end Go.Proofs.Ytfognlealnhodaa

namespace Go.Proofs.Ytfognlealnhodaa
open Go.RowKit

/-- A list while it is turned round: the first c and the last c are changed already. -/
def revT (l : List (Nat × Nat)) (n c j : Nat) : List (Nat × Nat) := (List.range n).map fun q => if q < c ∨ j < q then l[n - 1 - q]?.getD (0, 0) else l[q]?.getD (0, 0)
section
variable {l : List (Nat × Nat)} {n c j : Nat}
theorem revT_len : (revT l n c j).length = n := by simp [revT]
theorem revT_get {q : Nat} (hq : q < n) : (revT l n c j)[q]'(by rw [revT_len]; exact hq) = if q < c ∨ j < q then l[n - 1 - q]?.getD (0, 0) else l[q]?.getD (0, 0) := by simp [revT]
theorem revT_start (hn : l.length = n) (hj : j + 1 = n) : revT l n 0 j = l := by
  apply List.ext_getElem
  · rw [revT_len, hn]
  · intro q h1 h2
    rw [revT_len] at h1
    rw [revT_get h1, if_neg (by omega), List.getElem?_eq_getElem h2]; rfl
theorem revT_end (hn : l.length = n) (hc : c + j + 1 = n) (h : ¬ c < j) (hcj : c ≤ j + 1) : revT l n c j = l.reverse := by
  apply List.ext_getElem
  · rw [revT_len, List.length_reverse, hn]
  · intro q h1 h2
    rw [revT_len] at h1
    rw [revT_get h1, List.getElem_reverse]
    by_cases hq : q < c ∨ j < q
    · rw [if_pos hq, List.getElem?_eq_getElem (by omega)]; simp [hn]
    · rw [if_neg hq, List.getElem?_eq_getElem (by omega)]
      simp only [Option.getD_some]
      congr 1
      omega
theorem revT_step (_hn : l.length = n) (hc : c + (j + 1) + 1 = n) (h : c < j + 1) : ((revT l n c (j + 1)).set c (l[j + 1]?.getD (0, 0))).set (j + 1) (l[c]?.getD (0, 0)) = revT l n (c + 1) j := by
  apply List.ext_getElem
  · simp [revT_len]
  · intro q h1 h2
    rw [revT_len] at h2
    rw [List.getElem_set, List.getElem_set, revT_get h2, revT_get h2]
    by_cases e1 : j + 1 = q
    · subst e1
      rw [if_pos rfl, if_pos (by omega), show n - 1 - (j + 1) = c by omega]
    · rw [if_neg e1]
      by_cases e2 : c = q
      · subst e2
        rw [if_pos rfl, if_pos (by omega), show n - 1 - c = j + 1 by omega]
      · rw [if_neg e2]
        by_cases e3 : q < c ∨ j + 1 < q
        · rw [if_pos e3, if_pos (by omega)]
        · rw [if_neg e3, if_neg (by omega)]
end
set_option maxRecDepth 100000 in
set_option maxHeartbeats 4000000 in
theorem reverse_any (g c n : Nat) (l : List (Nat × Nat)) (w : World) (hrow : RowP w g l c) (hn : l.length = n) (hn1 : 1 ≤ n) (hl : n ≤ 1000) :
    Calls Try.prog 27 #[.slice (some ⟨g, 0, none⟩) n c] w fun e w' => e = .returned (.tuple #[]) ∧ RowP w' g l.reverse c ∧ Keep (fun k => k ≠ g) w w' := by
  have HR := Lib.hid hrow
  have HN := Lib.hid hn
  have hnc : n ≤ c := by have := hrow.le; omega
  clear hrow hn
  obtain ⟨j0, hj0⟩ : ∃ j0, j0 + 1 = n := ⟨n - 1, by omega⟩
  have hw1 : IntKind.i64.wrap ((n : Int) - 1) = (j0 : Int) := by rw [IntWalk.i64_in _ (by omega)]; omega
  have hw2 : (n : Int) - 1 = (j0 : Int) := by omega
  go_enter Try.func27, Try.ntmps27
  go_wp2_with fail
  clear hw1 hw2
  go_loopw [2, 3] (fun i j wr => ∃ (p q : Nat), i = .int .i64 (p : Int) ∧ j = .int .i64 (q : Int) ∧ p + q + 1 = n ∧ p ≤ q + 1 ∧ Hid (RowP wr g (revT l n p q) c) ∧ Hid (Keep (fun k => k ≠ g) w wr)) (fun _ j _ => (intOf j).toNat)
  case atStart => exact ⟨0, j0, rfl, rfl, by omega, by omega, by show RowP _ _ _ _; rw [revT_start HN.out hj0]; exact HR.out, Keep.refl _ _⟩
  case round =>
    obtain ⟨wo, rfl⟩ : ∃ wo : World, wo = wr := ⟨_, rfl⟩
    obtain ⟨p, q, rfl, rfl, hpq, hle, HRo, HK⟩ := hrel
    by_cases hlt : p < q
    · have di : decide ((p : Int) < (q : Int)) = true := decide_eq_true (by omega)
      obtain ⟨q', hq'⟩ : ∃ q', q' + 1 = q := ⟨q - 1, by omega⟩
      have hwp : IntKind.i64.wrap ((p : Int) + 1) = ((p + 1 : Nat) : Int) := by rw [IntWalk.i64_in _ (by omega)]; omega
      have hwq : IntKind.i64.wrap ((q : Int) - 1) = (q' : Int) := by rw [IntWalk.i64_in _ (by omega)]; omega
      have i0 : (0 : Int) ≤ (p : Int) := by omega
      have i1 : (p : Int) < (n : Int) := by omega
      have i2 : (0 : Int) ≤ (q : Int) := by omega
      have i3 : (q : Int) < (n : Int) := by omega
      have hlp : p < (revT l n p q).length := by rw [revT_len]; omega
      have hlq : q < (revT l n p q).length := by rw [revT_len]; omega
      have ex : (revT l n p q)[p] = l[p]?.getD (0, 0) := by rw [revT_get (by omega), if_neg (by omega)]
      have ey : (revT l n p q)[q] = l[q]?.getD (0, 0) := by rw [revT_get (by omega), if_neg (by omega)]
      have hstep : ((revT l n p q).set p (l[q]?.getD (0, 0))).set q (l[p]?.getD (0, 0)) = revT l n (p + 1) q' := by
        subst hq'; exact revT_step HN.out (by omega) (by omega)
      have cx1 : wo.cell? ⟨g, p * 2, none⟩ = some (.int .i64 ((l[p]?.getD (0, 0)).1 : Int)) := by have h := HRo.out.cell p hlp 0 (by omega); rw [ex] at h; simpa [spC] using h
      have cx2 : wo.cell? ⟨g, p * 2 + 1, none⟩ = some (.int .i64 ((l[p]?.getD (0, 0)).2 : Int)) := by have h := HRo.out.cell p hlp 1 (by omega); rw [ex] at h; simpa [spC] using h
      have cy1 : wo.cell? ⟨g, q * 2, none⟩ = some (.int .i64 ((l[q]?.getD (0, 0)).1 : Int)) := by have h := HRo.out.cell q hlq 0 (by omega); rw [ey] at h; simpa [spC] using h
      have cy2 : wo.cell? ⟨g, q * 2 + 1, none⟩ = some (.int .i64 ((l[q]?.getD (0, 0)).2 : Int)) := by have h := HRo.out.cell q hlq 1 (by omega); rw [ey] at h; simpa [spC] using h
      generalize l[p]?.getD (0, 0) = x at *
      generalize l[q]?.getD (0, 0) = y at *
      have hr1 := HRo.out.put p y hlp
      have hr2 := hr1.put q x (by rw [List.length_set]; exact hlq)
      rw [hstep] at hr2
      have fx0 := HRo.out.frozen (p * 2)
      have fx1 := HRo.out.frozen (p * 2 + 1)
      obtain ⟨z0, dz0⟩ : ∃ z, ((wo.setCell ⟨g, p * 2, none⟩ (.int .i64 (y.1 : Int))).setCell ⟨g, p * 2 + 1, none⟩ (.int .i64 (y.2 : Int))).cell? ⟨g, q * 2, none⟩ = some z := ⟨_, hr1.cell q (by rw [List.length_set]; exact hlq) 0 (by omega)⟩
      obtain ⟨z1, dz1⟩ : ∃ z, ((wo.setCell ⟨g, p * 2, none⟩ (.int .i64 (y.1 : Int))).setCell ⟨g, p * 2 + 1, none⟩ (.int .i64 (y.2 : Int))).cell? ⟨g, q * 2 + 1, none⟩ = some z := ⟨_, hr1.cell q (by rw [List.length_set]; exact hlq) 1 (by omega)⟩
      have fy0 : ((wo.setCell ⟨g, p * 2, none⟩ (.int .i64 (y.1 : Int))).setCell ⟨g, p * 2 + 1, none⟩ (.int .i64 (y.2 : Int))).frozen? ⟨g, q * 2, none⟩ = false := hr1.frozen _
      have fy1 : ((wo.setCell ⟨g, p * 2, none⟩ (.int .i64 (y.1 : Int))).setCell ⟨g, p * 2 + 1, none⟩ (.int .i64 (y.2 : Int))).frozen? ⟨g, q * 2 + 1, none⟩ = false := hr1.frozen _
      have HR2 : Hid (RowP ((((wo.setCell ⟨g, p * 2, none⟩ (.int .i64 (y.1 : Int))).setCell ⟨g, p * 2 + 1, none⟩ (.int .i64 (y.2 : Int))).setCell ⟨g, q * 2, none⟩ (.int .i64 (x.1 : Int))).setCell ⟨g, q * 2 + 1, none⟩ (.int .i64 (x.2 : Int))) g (revT l n (p + 1) q') c) := hr2
      clear hr1 hr2 hstep ex ey hlp hlq
      go_wp2_with fail
      go_region
      have HK2 : Hid (Keep (fun k => k ≠ g) w ((((wo.setCell ⟨g, p * 2, none⟩ (.int .i64 (y.1 : Int))).setCell ⟨g, p * 2 + 1, none⟩ (.int .i64 (y.2 : Int))).setCell ⟨g, q * 2, none⟩ (.int .i64 (x.1 : Int))).setCell ⟨g, q * 2 + 1, none⟩ (.int .i64 (x.2 : Int)))) :=
        (((HK.out.setCell _ _ (fun _ h => h rfl)).setCell _ _ (fun _ h => h rfl)).setCell _ _ (fun _ h => h rfl)).setCell _ _ (fun _ h => h rfl)
      go_wp2_with fail
      go_roundw
      case rel => exact ⟨p + 1, q', by go_num, rfl, by omega, by omega, HR2.out.ext (Ext.refl _).drew, HK2.out.drew⟩
      case measure => simp [intOf]; omega
    · have di : decide ((p : Int) < (q : Int)) = false := decide_eq_false (by omega)
      go_wp2_with fail
      refine bodyPost_end (v := .tuple #[]) (results_none rfl _ _ _) rfl ⟨rfl, ?_, HK.out⟩
      have h := HRo.out
      rw [revT_end HN.out hpq hlt hle] at h
      exact h
end Go.Proofs.Ytfognlealnhodaa

namespace Go.Proofs.Ytfognlealnhodaa
open Go.RowKit

theorem own_keepT {D : Nat → Prop} {w w' : World} {base : Nat} {e : TypeId} {size : Nat} {v : Value} {n : Nat} {xs : List Value} (h : w.ownsRow base e size v n xs) (k : Keep D w w') (hd : ∀ i, v.ownBlock = some i → D i) : w'.ownsRow base e size v n xs := by
  obtain ⟨h1, h2⟩ := h
  rcases h2 with h2 | ⟨g, cap, cur, rfl, hg, hh, r⟩
  · exact ⟨h1, .inl h2⟩
  · exact ⟨h1, .inr ⟨g, cap, cur, rfl, hg, k.heap hh (hd g rfl), r⟩⟩
/-- The same profile, elsewhere. -/
def SameP (t c : PV) : Prop := c.at'.l = t.at'.l ∧ c.gr.l = t.gr.l ∧ c.T = t.T ∧ c.lo = t.lo ∧ c.hi = t.hi
/-- The lists of a profile lie in memory of their own, in blocks from l on, below h. -/
structure OwnP (l h : Nat) (w : World) (c : PV) : Prop where
  at' : w.ownsRow l 3 1 c.at'.v c.at'.l.length (nums c.at'.l)
  gr : w.ownsRow l 28 2 c.gr.v c.gr.l.length (flat 2 spC c.gr.l)
  below : ∀ k, c.at'.v.ownBlock = some k ∨ c.gr.v.ownBlock = some k → k < h
theorem OwnP.ext {l h : Nat} {w w' : World} {c : PV} (o : OwnP l h w c) (k : Ext w w') : OwnP l h w' c := ⟨own_ext o.at' k, own_ext o.gr k, o.below⟩
theorem OwnP.keep {l h : Nat} {w w' : World} {c : PV} {D : Nat → Prop} (o : OwnP l h w c) (k : Keep D w w') (hd : ∀ g, l ≤ g → g < h → D g) : OwnP l h w' c :=
  ⟨own_keepT o.at' k (fun g e => hd g (own_type o.at' e).1 (o.below g (.inl e))), own_keepT o.gr k (fun g e => hd g (own_type o.gr e).1 (o.below g (.inr e))), o.below⟩
/-- A box that holds nothing yet, and one that holds a profile. -/
abbrev boxP : Obj := .cells #[.slice none 0 0, .slice none 0 0, .int .i64 0, .int .i64 0, .int .i64 0] 30
def ZBP (w : World) (b : Nat) : Prop := w.heap[b]? = some (.cells #[.slice none 0 0, .slice none 0 0, .int .i64 0, .int .i64 0, .int .i64 0] 30 (0, 0))
def MkP (w : World) (b : Nat) (c : PV) : Prop := w.heap[b]? = some (.cells #[c.at'.v, c.gr.v, .int .i64 (c.T : Int), .int .i64 (c.lo : Int), .int .i64 (c.hi : Int)] 30 (0, 0))
theorem ZBP.ext {w w' : World} {b : Nat} (h : ZBP w b) (k : Ext w w') : ZBP w' b := k.block h
theorem zbP_at (w : World) : ZBP (w.alloc boxP) w.heap.size := World.alloc_heap_new _ _
theorem ZBP.five {w : World} {b : Nat} (h : ZBP w b) : w.cell? ⟨b, 0, none⟩ = some (.slice none 0 0) ∧ w.cell? ⟨b, 1, none⟩ = some (.slice none 0 0) ∧ w.cell? ⟨b, 2, none⟩ = some (.int .i64 0) ∧ w.cell? ⟨b, 3, none⟩ = some (.int .i64 0) ∧ w.cell? ⟨b, 4, none⟩ = some (.int .i64 0) ∧ ∀ i, w.frozen? ⟨b, i, none⟩ = false :=
  ⟨(cell_at h 0).trans rfl, (cell_at h 1).trans rfl, (cell_at h 2).trans rfl, (cell_at h 3).trans rfl, (cell_at h 4).trans rfl, fun i => by simp [World.frozen?, show w.heap[b]? = _ from h]⟩
theorem MkP.five {w : World} {b : Nat} {c : PV} (h : MkP w b c) : Five w b c :=
  ⟨(cell_at h 0).trans rfl, (cell_at h 1).trans rfl, (cell_at h 2).trans rfl, (cell_at h 3).trans rfl, (cell_at h 4).trans rfl⟩
theorem zbP_set {w : World} {b : Nat} {c : PV} (h : ZBP w b) : MkP (((((w.setCell ⟨b, 0, none⟩ c.at'.v).setCell ⟨b, 1, none⟩ c.gr.v).setCell ⟨b, 2, none⟩ (.int .i64 (c.T : Int))).setCell ⟨b, 3, none⟩ (.int .i64 (c.lo : Int))).setCell ⟨b, 4, none⟩ (.int .i64 (c.hi : Int))) b c :=
  (heap_setCell_same (heap_setCell_same (heap_setCell_same (heap_setCell_same (heap_setCell_same h _) _) _) _) _).trans rfl

/-- What holds while three copies are made: 2 * k: the treaty was loaded; 2 * k + 1: it was copied; 6 + k: its box is there; 9 + k: it is in its box. -/
structure Part3c (t : PV) (w3 : World) (L : Nat → Prop) (X C A : Nat → Value) (l h B : Nat → Nat) (ts : Nat → PV) (w : World) (k : Nat) : Prop where
  load : L (2 * k) → X k = t.v
  call : L (2 * k + 1) → C k = (ts k).v ∧ SameP t (ts k) ∧ OwnP (l k) (h k) w (ts k)
  low : w3.heap.size ≤ l k
  high : h k ≤ w.heap.size
  box : L (6 + k) → A k = .pointer (some ⟨B k, 0, none⟩) ∧ w3.heap.size ≤ B k ∧ B k < w.heap.size ∧ (¬ L (9 + k) → ZBP w (B k))
  put : L (9 + k) → MkP w (B k) (ts k)
  apart : ∀ j, j < 3 → j ≠ k → h j ≤ l k ∨ h k ≤ l j
  out : ∀ j, j < 3 → L (6 + k) → B k < l j ∨ h j ≤ B k
  other : ∀ j, j < 3 → j ≠ k → L (6 + k) → L (6 + j) → B k ≠ B j
def Inv3c (t : PV) (w3 : World) (L : Nat → Prop) (X C A : Nat → Value) (w : World) : Prop :=
  ∃ (l h B : Nat → Nat) (ts : Nat → PV), Ext w3 w ∧ (∀ k, k < 3 → L (9 + k) → L (6 + k) ∧ L (2 * k + 1)) ∧ ∀ k, k < 3 → Part3c t w3 L X C A l h B ts w k

def updM (X : Nat → Nat) (k : Nat) (v : Nat) (j : Nat) : Nat := if j = k then v else X j
theorem Inv3c.start (t : PV) (w3 : World) (X C A : Nat → Value) (w : World) (hx : Ext w3 w) : Inv3c t w3 (fun _ => False) X C A w :=
  ⟨fun _ => w3.heap.size, fun _ => w3.heap.size, fun _ => 0, fun _ => t, hx, fun _ _ h => h.elim, fun _ _ => ⟨fun h => h.elim, fun h => h.elim, Nat.le_refl _, hx.size, fun h => h.elim, fun h => h.elim, fun _ _ _ => .inl (Nat.le_refl _), fun _ _ h => h.elim, fun _ _ _ h => h.elim⟩⟩
theorem Inv3c.load {t : PV} {w3 w : World} {L : Nat → Prop} {X C A : Nat → Value} (I : Inv3c t w3 L X C A w) (k : Nat) (hk : k < 3) : Inv3c t w3 (fun j => j = 2 * k ∨ L j) (updV X k t.v) C A w := by
  obtain ⟨l, h, B, ts, hx, h0, hp⟩ := I
  refine ⟨l, h, B, ts, hx, fun j hj hl => ?_, fun j hj => ?_⟩
  · have := h0 j hj (hl.resolve_left (by omega))
    exact ⟨.inr this.1, .inr this.2⟩
  · have p := hp j hj
    refine ⟨fun hl => ?_, fun hl => p.call (hl.resolve_left (by omega)), p.low, p.high, fun hl => ?_, fun hl => p.put (hl.resolve_left (by omega)), p.apart, fun i hi hl => p.out i hi (hl.resolve_left (by omega)), fun i hi hij hl hl2 => p.other i hi hij (hl.resolve_left (by omega)) (hl2.resolve_left (by omega))⟩
    · unfold updV
      by_cases e : j = k
      · rw [if_pos e]
      · rw [if_neg e]; exact p.load (hl.resolve_left (by omega))
    · obtain ⟨q1, q2, q3, q4⟩ := p.box (hl.resolve_left (by omega))
      exact ⟨q1, q2, q3, fun hn => q4 (fun hh => hn (.inr hh))⟩
theorem Inv3c.call {t t' : PV} {w3 w w' : World} {L : Nat → Prop} {X C A : Nat → Value} (I : Inv3c t w3 L X C A w) (k : Nat) (hk : k < 3) (hn : ¬ L (2 * k + 1)) (ho : OwnP w.heap.size w'.heap.size w' t') (hs : SameP t t') (hx' : Ext w w') : Inv3c t w3 (fun j => j = 2 * k + 1 ∨ L j) X (updV C k t'.v) A w' := by
  obtain ⟨l, h, B, ts, hx, h0, hp⟩ := I
  have hsz := hx'.size
  refine ⟨updM l k w.heap.size, updM h k w'.heap.size, B, fun j => if j = k then t' else ts j, hx.trans hx', fun j hj hl => ?_, fun j hj => ?_⟩
  · have := h0 j hj (hl.resolve_left (by omega))
    exact ⟨.inr this.1, .inr this.2⟩
  · have p := hp j hj
    unfold updM updV
    refine ⟨fun hl => p.load (hl.resolve_left (by omega)), fun hl => ?_, ?_, ?_, fun hl => ?_, fun hl => ?_, fun i hi hij => ?_, fun i hi hl => ?_, fun i hi hij hl hl2 => p.other i hi hij (hl.resolve_left (by omega)) (hl2.resolve_left (by omega))⟩
    · by_cases e : j = k
      · simp only [if_pos e]; exact ⟨trivial, hs, ho⟩
      · simp only [if_neg e]
        obtain ⟨q1, q2, q3⟩ := p.call (hl.resolve_left (by omega))
        exact ⟨q1, q2, q3.ext hx'⟩
    · by_cases e : j = k
      · rw [if_pos e]; exact hx.size
      · rw [if_neg e]; exact p.low
    · by_cases e : j = k
      · rw [if_pos e]; exact Nat.le_refl _
      · rw [if_neg e]; have := p.high; omega
    · obtain ⟨q1, q2, q3, q4⟩ := p.box (hl.resolve_left (by omega))
      exact ⟨q1, q2, by omega, fun hn' => (q4 (fun hh => hn' (.inr hh))).ext hx'⟩
    · have hl' := hl.resolve_left (by omega)
      have hjk : j ≠ k := fun e => hn (e ▸ (h0 j hj hl').2)
      simp only [if_neg hjk]
      exact hx'.block (p.put hl')
    · have p2 := hp i hi
      by_cases e : j = k
      · have e2 : i ≠ k := fun e2 => hij (e2.trans e.symm)
        rw [if_neg e2, if_pos e]
        left; exact p2.high
      · by_cases e2 : i = k
        · rw [if_pos e2, if_neg e, if_neg e, if_pos e2]
          right; exact p.high
        · rw [if_neg e2, if_neg e, if_neg e, if_neg e2]; exact p.apart i hi hij
    · have hl' := hl.resolve_left (by omega)
      by_cases e2 : i = k
      · rw [if_pos e2]
        left; exact (p.box hl').2.2.1
      · rw [if_neg e2, if_neg e2]; exact p.out i hi hl'
theorem Inv3c.box {t : PV} {w3 w : World} {L : Nat → Prop} {X C A : Nat → Value} (I : Inv3c t w3 L X C A w) (k : Nat) (hk : k < 3) (hn : ¬ L (6 + k)) : Inv3c t w3 (fun j => j = 6 + k ∨ L j) X C (updV A k (.pointer (some ⟨w.heap.size, 0, none⟩))) (w.alloc boxP) := by
  obtain ⟨l, h, B, ts, hx, h0, hp⟩ := I
  have hx' : Ext w (w.alloc boxP) := (Ext.refl w).alloc _
  have hsz : (w.alloc boxP).heap.size = w.heap.size + 1 := World.size_alloc _ _
  refine ⟨l, h, updM B k w.heap.size, ts, hx.trans hx', fun j hj hl => ?_, fun j hj => ?_⟩
  · have := h0 j hj (hl.resolve_left (by omega))
    exact ⟨.inr this.1, .inr this.2⟩
  · have p := hp j hj
    unfold updM updV
    refine ⟨fun hl => p.load (hl.resolve_left (by omega)), fun hl => ?_, p.low, ?_, fun hl => ?_, fun hl => ?_, p.apart, fun i hi hl => ?_, fun i hi hij hl hl2 => ?_⟩
    · obtain ⟨q1, q2, q3⟩ := p.call (hl.resolve_left (by omega))
      exact ⟨q1, q2, q3.ext hx'⟩
    · have := p.high; omega
    · by_cases e : j = k
      · simp only [if_pos e]
        exact ⟨trivial, hx.size, by omega, fun _ => zbP_at w⟩
      · simp only [if_neg e]
        obtain ⟨q1, q2, q3, q4⟩ := p.box (hl.resolve_left (by omega))
        exact ⟨q1, q2, by omega, fun hn' => (q4 (fun hh => hn' (.inr hh))).ext hx'⟩
    · have hl' := hl.resolve_left (by omega)
      have hjk : j ≠ k := fun e => hn (e ▸ (h0 j hj hl').1)
      rw [if_neg hjk]
      exact hx'.block (p.put hl')
    · by_cases e : j = k
      · rw [if_pos e]; right; exact (hp i hi).high
      · rw [if_neg e]; exact p.out i hi (hl.resolve_left (by omega))
    · by_cases e : j = k
      · have e2 : i ≠ k := fun e2 => hij (e2.trans e.symm)
        rw [if_pos e, if_neg e2]
        have := ((hp i hi).box (hl2.resolve_left (by omega))).2.2.1
        omega
      · by_cases e2 : i = k
        · rw [if_neg e, if_pos e2]
          have := (p.box (hl.resolve_left (by omega))).2.2.1
          omega
        · rw [if_neg e, if_neg e2]; exact p.other i hi hij (hl.resolve_left (by omega)) (hl2.resolve_left (by omega))
/-- What is stored, and where. -/
theorem Inv3c.at {t : PV} {w3 w : World} {L : Nat → Prop} {X C A : Nat → Value} (I : Inv3c t w3 L X C A w) (k : Nat) (hk : k < 3) (h6 : L (6 + k)) (h1 : L (2 * k + 1)) (hn : ¬ L (9 + k)) : ∃ (b : Nat) (t' : PV), A k = .pointer (some ⟨b, 0, none⟩) ∧ C k = t'.v ∧ ZBP w b ∧
    Inv3c t w3 (fun j => j = 9 + k ∨ L j) X C A (((((w.setCell ⟨b, 0, none⟩ t'.at'.v).setCell ⟨b, 1, none⟩ t'.gr.v).setCell ⟨b, 2, none⟩ (.int .i64 (t'.T : Int))).setCell ⟨b, 3, none⟩ (.int .i64 (t'.lo : Int))).setCell ⟨b, 4, none⟩ (.int .i64 (t'.hi : Int))) := by
  obtain ⟨l, h, B, ts, hx, h0, hp⟩ := I
  obtain ⟨q1, q2, q3, q4⟩ := (hp k hk).box h6
  obtain ⟨c1, c2, c3⟩ := (hp k hk).call h1
  have hz := q4 hn
  refine ⟨B k, ts k, q1, c1, hz, ?_⟩
  have hset := zbP_set (c := ts k) hz
  have hK : Keep (fun g => g ≠ B k) w (((((w.setCell ⟨B k, 0, none⟩ (ts k).at'.v).setCell ⟨B k, 1, none⟩ (ts k).gr.v).setCell ⟨B k, 2, none⟩ (.int .i64 ((ts k).T : Int))).setCell ⟨B k, 3, none⟩ (.int .i64 ((ts k).lo : Int))).setCell ⟨B k, 4, none⟩ (.int .i64 ((ts k).hi : Int))) :=
    (((((Keep.refl _ w).setCell _ _ (fun _ h => h rfl)).setCell _ _ (fun _ h => h rfl)).setCell _ _ (fun _ h => h rfl)).setCell _ _ (fun _ h => h rfl)).setCell _ _ (fun _ h => h rfl)
  have hE : Ext w3 (((((w.setCell ⟨B k, 0, none⟩ (ts k).at'.v).setCell ⟨B k, 1, none⟩ (ts k).gr.v).setCell ⟨B k, 2, none⟩ (.int .i64 ((ts k).T : Int))).setCell ⟨B k, 3, none⟩ (.int .i64 ((ts k).lo : Int))).setCell ⟨B k, 4, none⟩ (.int .i64 ((ts k).hi : Int))) :=
    ((((hx.setCell q2 _).setCell q2 _).setCell q2 _).setCell q2 _).setCell q2 _
  have hsz : (((((w.setCell ⟨B k, 0, none⟩ (ts k).at'.v).setCell ⟨B k, 1, none⟩ (ts k).gr.v).setCell ⟨B k, 2, none⟩ (.int .i64 ((ts k).T : Int))).setCell ⟨B k, 3, none⟩ (.int .i64 ((ts k).lo : Int))).setCell ⟨B k, 4, none⟩ (.int .i64 ((ts k).hi : Int))).heap.size = w.heap.size := by simp
  generalize ((((w.setCell ⟨B k, 0, none⟩ (ts k).at'.v).setCell ⟨B k, 1, none⟩ (ts k).gr.v).setCell ⟨B k, 2, none⟩ (.int .i64 ((ts k).T : Int))).setCell ⟨B k, 3, none⟩ (.int .i64 ((ts k).lo : Int))).setCell ⟨B k, 4, none⟩ (.int .i64 ((ts k).hi : Int)) = W at *
  refine ⟨l, h, B, ts, hE, fun j hj hl => ?_, fun j hj => ?_⟩
  · by_cases e : j = k
    · subst e; exact ⟨.inr h6, .inr h1⟩
    · have := h0 j hj (hl.resolve_left (by omega))
      exact ⟨.inr this.1, .inr this.2⟩
  · have p := hp j hj
    refine ⟨fun hl => p.load (hl.resolve_left (by omega)), fun hl => ?_, p.low, by rw [hsz]; exact p.high, fun hl => ?_, fun hl => ?_, p.apart, fun i hi hl => p.out i hi (hl.resolve_left (by omega)), fun i hi hij hl hl2 => p.other i hi hij (hl.resolve_left (by omega)) (hl2.resolve_left (by omega))⟩
    · obtain ⟨r1, r2, r3⟩ := p.call (hl.resolve_left (by omega))
      refine ⟨r1, r2, r3.keep hK (fun g _ hg => ?_)⟩
      have := (hp k hk).out j hj h6
      omega
    · obtain ⟨r1, r2, r3, r4⟩ := p.box (hl.resolve_left (by omega))
      refine ⟨r1, r2, by rw [hsz]; exact r3, fun hn' => ?_⟩
      have hjk : j ≠ k := fun e => hn' (.inl (by omega))
      exact hK.heap (r4 (fun hh => hn' (.inr hh))) (p.other k hk (fun e => hjk e.symm) (hl.resolve_left (by omega)) h6)
    · by_cases e : j = k
      · subst e; exact hset
      · have hl' := hl.resolve_left (by omega)
        exact hK.heap (p.put hl') (p.other k hk (fun e' => e e'.symm) (h0 j hj hl').1 h6)
/-- Three copies of a treaty, in boxes. -/
def ThreeP (t : PV) (w3 : World) (s12 s13 s14 : Value) (w : World) : Prop :=
  ∃ (l h B : Nat → Nat) (ts : Nat → PV), s12 = .pointer (some ⟨B 0, 0, none⟩) ∧ s13 = .pointer (some ⟨B 1, 0, none⟩) ∧ s14 = .pointer (some ⟨B 2, 0, none⟩) ∧ Hid (Ext w3 w) ∧
    Hid (∀ k, k < 3 → SameP t (ts k) ∧ OwnP (l k) (h k) w (ts k) ∧ w3.heap.size ≤ l k ∧ h k ≤ w.heap.size ∧ w3.heap.size ≤ B k ∧ B k < w.heap.size ∧ MkP w (B k) (ts k) ∧ ∀ j, j < 3 → (j ≠ k → (h j ≤ l k ∨ h k ≤ l j) ∧ B k ≠ B j) ∧ (B k < l j ∨ h j ≤ B k))
theorem Inv3c.done {t : PV} {w3 w : World} {L : Nat → Prop} {X C A : Nat → Value} (I : Inv3c t w3 L X C A w) (hL : ∀ i, i < 12 → L i) : ThreeP t w3 (A 0) (A 1) (A 2) w := by
  obtain ⟨l, h, B, ts, hx, h0, hp⟩ := I
  have p0 := ((hp 0 (by omega)).box (hL _ (by omega))).1
  have p1 := ((hp 1 (by omega)).box (hL _ (by omega))).1
  have p2 := ((hp 2 (by omega)).box (hL _ (by omega))).1
  refine ⟨l, h, B, ts, p0, p1, p2, hx, fun k hk => ?_⟩
  have p := hp k hk
  obtain ⟨-, q2, q3, -⟩ := p.box (hL _ (by omega))
  obtain ⟨-, r2, r3⟩ := p.call (hL _ (by omega))
  exact ⟨r2, r3, p.low, p.high, q2, q3, p.put (hL _ (by omega)), fun j hj => ⟨fun hjk => ⟨p.apart j hj hjk, p.other j hj hjk (hL _ (by omega)) (hL _ (by omega))⟩, p.out j hj (hL _ (by omega))⟩⟩
end Go.Proofs.Ytfognlealnhodaa

namespace Go.Proofs.Ytfognlealnhodaa
open Go.RowKit

noncomputable def reg6_7 : Code := ((Try.f6.body.bind (regA 7)).getD .skip)
/-- The slots at the region. -/
def fr3c6 (pb : Nat) (n i j : Nat) (xy : Int) (X C A Y : Nat → Value) : Array Value := #[Y 0, Y 1, Y 2, .int .i64 xy, Y 4, Y 5, Y 6, Y 7, Y 8, .pointer (some ⟨pb, 0, none⟩), Y 10, .int .i64 (n : Int), .int .i64 (i : Int), .int .i64 (j : Int), A 0, A 1, A 2, Y 17, Y 18, Y 19, Y 20, Y 21, Y 22, Y 23, Y 24, Y 25, Y 26, Y 27, Y 28, Y 29, Y 30, Y 31, Y 32, Y 33, Y 34, Y 35, Y 36, Y 37, Y 38, Y 39, Y 40, Y 41, Y 42, Y 43, Y 44, Y 45, Y 46, Y 47, Y 48, Y 49, Y 50, Y 51, Y 52, Y 53, Y 54, Y 55, Y 56, Y 57, Y 58, Y 59, Y 60, Y 61, Y 62, Y 63, Y 64, Y 65, Y 66, Y 67, Y 68, Y 69, X 0, C 0, X 1, C 1, X 2, C 2, Y 76, Y 77, Y 78, Y 79, Y 80, Y 81, Y 82, Y 83, Y 84, Y 85, Y 86, Y 87, Y 88, Y 89, Y 90, Y 91, Y 92, Y 93, Y 94, Y 95, Y 96, Y 97, Y 98, Y 99, Y 100, Y 101, Y 102, Y 103, Y 104, Y 105, Y 106, Y 107, Y 108, Y 109, Y 110, Y 111, Y 112, Y 113, Y 114, Y 115, Y 116, Y 117, Y 118, Y 119, Y 120, Y 121, Y 122, Y 123, Y 124, Y 125, Y 126, Y 127, Y 128, Y 129, Y 130, Y 131, Y 132, Y 133, Y 134, Y 135, Y 136, Y 137, Y 138, Y 139, Y 140, Y 141, Y 142, Y 143, Y 144, Y 145, Y 146, Y 147, Y 148, Y 149, Y 150, Y 151, Y 152, Y 153, Y 154, Y 155, Y 156, Y 157, Y 158, Y 159, Y 160, Y 161, Y 162, Y 163, Y 164, Y 165, Y 166, Y 167, Y 168, Y 169, Y 170, Y 171, Y 172, Y 173, Y 174, Y 175, Y 176, Y 177, Y 178, Y 179, Y 180, Y 181, Y 182, Y 183, Y 184, Y 185, Y 186, Y 187, Y 188, Y 189, Y 190, Y 191, Y 192, Y 193, Y 194, Y 195, Y 196, Y 197, Y 198, Y 199, Y 200, Y 201, Y 202, Y 203, Y 204, Y 205, Y 206, Y 207, Y 208, Y 209, Y 210, Y 211, Y 212, Y 213, Y 214, Y 215, Y 216, Y 217]

set_option maxRecDepth 1000000 in
set_option maxHeartbeats 16000000 in
theorem three_r6 (pb : Nat) (n i j : Nat) (xy : Int) (v : PV) (t : Array Value) (V0 : World) (Q : Exit → Act → World → Prop) (ht : t = fr3c6 pb n i j xy (fun k => t.getD (70 + 2 * k) undef) (fun k => t.getD (71 + 2 * k) undef) (fun k => t.getD (14 + k) undef) (fun i => t.getD i undef)) (hF : Five V0 pb v) (hP : IsP V0 v)
    (HQ : Hid (∀ (X C A Y : Nat → Value) (W : World), ThreeP v V0 (A 0) (A 1) (A 2) W → Q .normal ⟨fr3c6 pb n i j xy X C A Y, []⟩ W)) :
    Code.wp Try.prog reg6_7 Q ⟨t, []⟩ V0 := by
  have HT : Hid (t = fr3c6 pb n i j xy (fun k => t.getD (70 + 2 * k) undef) (fun k => t.getD (71 + 2 * k) undef) (fun k => t.getD (14 + k) undef) (fun i => t.getD i undef)) := ht
  have HF := Lib.hid hF
  have HP := Lib.hid hP
  clear ht hF hP
  conv => arg 2; whnf
  refine wp_region_inv (by kernel_rfl) (by kernel_rfl) (fun L a w => ∃ X C A Y : Nat → Value, a = ⟨fr3c6 pb n i j xy X C A Y, []⟩ ∧ Inv3c v V0 L X C A w) ?_ ?_ ?_
  · exact ⟨_, _, _, _, congrArg (fun z => Act.mk z []) HT.out, Inv3c.start v _ _ _ _ _ (Ext.refl V0).drew⟩
  · rintro L a V i o ⟨X, C, A, Y, rfl, hI⟩ hn ho hwait
    have hi : i < 12 := (Array.getElem?_eq_some_iff.1 ho).1
    have HI := Lib.hid hI
    have HX : Hid (Ext V0 V) := by obtain ⟨_, _, _, _, hx, _⟩ := hI; exact hx
    have HN := Lib.hid hn
    clear hI hn HT HQ
    obtain ⟨f0, f1, f2, f3, f4⟩ := HF.out.ext HX.out
    obtain rfl | rfl | rfl | rfl | rfl | rfl | rfl | rfl | rfl | rfl | rfl | rfl : i = 0 ∨ i = 1 ∨ i = 2 ∨ i = 3 ∨ i = 4 ∨ i = 5 ∨ i = 6 ∨ i = 7 ∨ i = 8 ∨ i = 9 ∨ i = 10 ∨ i = 11 := by omega
    all_goals (simp only [List.getElem?_toArray, List.getElem?_cons_zero, List.getElem?_cons_succ, Option.some.injEq] at ho; subst ho; simp [Region.binds] at hwait; dsimp only [fr3c6]; refine wpOp_step rfl (fun K' hK => ?_); have HKK := Lib.hid hK; clear hK)
    · go_simp
      exact HKK.out _ _ ⟨updV X 0 v.v, C, A, Y, rfl, HI.out.load 0 (by omega)⟩
    · have e0 : X 0 = v.v := by obtain ⟨_, _, _, _, _, _, hp⟩ := HI.out; exact (hp 0 (by omega)).load (by exact hwait)
      clear f0 f1 f2 f3 f4 hwait
      rw [e0]
      have HE := Lib.hid e0
      clear e0
      go_simp
      go_at_call 23
      refine (cloneP_any v V (HP.out.ext HX.out)).mono ?_
      rintro e w' ⟨a1, k1, a2, k2, rfl, ho1, ho2, hx'⟩
      have hop : OwnP V.heap.size w'.heap.size w' ⟨⟨a1, k1, v.at'.l⟩, ⟨a2, k2, v.gr.l⟩, v.T, v.lo, v.hi⟩ := ⟨ho1, ho2, fun g hg => by
        rcases hg with hg | hg
        · exact (own_type ho1 hg).2.1
        · exact (own_type ho2 hg).2.1⟩
      refine HKK.out _ _ ⟨X, updV C 0 (⟨⟨a1, k1, v.at'.l⟩, ⟨a2, k2, v.gr.l⟩, v.T, v.lo, v.hi⟩ : PV).v, A, Y, ?_, HI.out.call 0 (by omega) HN.out hop ⟨rfl, rfl, rfl, rfl, rfl⟩ hx'⟩
      rw [← HE.out]
      rfl
    · go_simp
      exact HKK.out _ _ ⟨updV X 1 v.v, C, A, Y, rfl, HI.out.load 1 (by omega)⟩
    · have e0 : X 1 = v.v := by obtain ⟨_, _, _, _, _, _, hp⟩ := HI.out; exact (hp 1 (by omega)).load (by exact hwait.1)
      clear f0 f1 f2 f3 f4 hwait
      rw [e0]
      have HE := Lib.hid e0
      clear e0
      go_simp
      go_at_call 23
      refine (cloneP_any v V (HP.out.ext HX.out)).mono ?_
      rintro e w' ⟨a1, k1, a2, k2, rfl, ho1, ho2, hx'⟩
      have hop : OwnP V.heap.size w'.heap.size w' ⟨⟨a1, k1, v.at'.l⟩, ⟨a2, k2, v.gr.l⟩, v.T, v.lo, v.hi⟩ := ⟨ho1, ho2, fun g hg => by
        rcases hg with hg | hg
        · exact (own_type ho1 hg).2.1
        · exact (own_type ho2 hg).2.1⟩
      refine HKK.out _ _ ⟨X, updV C 1 (⟨⟨a1, k1, v.at'.l⟩, ⟨a2, k2, v.gr.l⟩, v.T, v.lo, v.hi⟩ : PV).v, A, Y, ?_, HI.out.call 1 (by omega) HN.out hop ⟨rfl, rfl, rfl, rfl, rfl⟩ hx'⟩
      rw [← HE.out]
      rfl
    · go_simp
      exact HKK.out _ _ ⟨updV X 2 v.v, C, A, Y, rfl, HI.out.load 2 (by omega)⟩
    · have e0 : X 2 = v.v := by obtain ⟨_, _, _, _, _, _, hp⟩ := HI.out; exact (hp 2 (by omega)).load (by exact hwait.1)
      clear f0 f1 f2 f3 f4 hwait
      rw [e0]
      have HE := Lib.hid e0
      clear e0
      go_simp
      go_at_call 23
      refine (cloneP_any v V (HP.out.ext HX.out)).mono ?_
      rintro e w' ⟨a1, k1, a2, k2, rfl, ho1, ho2, hx'⟩
      have hop : OwnP V.heap.size w'.heap.size w' ⟨⟨a1, k1, v.at'.l⟩, ⟨a2, k2, v.gr.l⟩, v.T, v.lo, v.hi⟩ := ⟨ho1, ho2, fun g hg => by
        rcases hg with hg | hg
        · exact (own_type ho1 hg).2.1
        · exact (own_type ho2 hg).2.1⟩
      refine HKK.out _ _ ⟨X, updV C 2 (⟨⟨a1, k1, v.at'.l⟩, ⟨a2, k2, v.gr.l⟩, v.T, v.lo, v.hi⟩ : PV).v, A, Y, ?_, HI.out.call 2 (by omega) HN.out hop ⟨rfl, rfl, rfl, rfl, rfl⟩ hx'⟩
      rw [← HE.out]
      rfl
    · clear f0 f1 f2 f3 f4
      go_simp
      exact HKK.out _ _ ⟨X, C, updV A 0 (.pointer (some ⟨V.heap.size, 0, none⟩)), Y, rfl, HI.out.box 0 (by omega) HN.out⟩
    · clear f0 f1 f2 f3 f4
      go_simp
      exact HKK.out _ _ ⟨X, C, updV A 1 (.pointer (some ⟨V.heap.size, 0, none⟩)), Y, rfl, HI.out.box 1 (by omega) HN.out⟩
    · clear f0 f1 f2 f3 f4
      go_simp
      exact HKK.out _ _ ⟨X, C, updV A 2 (.pointer (some ⟨V.heap.size, 0, none⟩)), Y, rfl, HI.out.box 2 (by omega) HN.out⟩
    · clear f0 f1 f2 f3 f4
      obtain ⟨b, t', eA, eC, hz, hI2⟩ := HI.out.at 0 (by omega) hwait.1 hwait.2.1 HN.out
      obtain ⟨z0, z1, z2, z3, z4, zf⟩ := hz.five
      have HI2 := Lib.hid hI2
      have HA := Lib.hid eA
      have HC := Lib.hid eC
      clear hwait hI2 hz
      rw [eA, eC]
      clear eA eC
      go_simp
      refine HKK.out _ _ ⟨X, C, A, Y, ?_, HI2.out⟩
      rw [← HA.out, ← HC.out]
    · clear f0 f1 f2 f3 f4
      obtain ⟨b, t', eA, eC, hz, hI2⟩ := HI.out.at 1 (by omega) hwait.1 hwait.2.1 HN.out
      obtain ⟨z0, z1, z2, z3, z4, zf⟩ := hz.five
      have HI2 := Lib.hid hI2
      have HA := Lib.hid eA
      have HC := Lib.hid eC
      clear hwait hI2 hz
      rw [eA, eC]
      clear eA eC
      go_simp
      refine HKK.out _ _ ⟨X, C, A, Y, ?_, HI2.out⟩
      rw [← HA.out, ← HC.out]
    · clear f0 f1 f2 f3 f4
      obtain ⟨b, t', eA, eC, hz, hI2⟩ := HI.out.at 2 (by omega) hwait.1 hwait.2.1 HN.out
      obtain ⟨z0, z1, z2, z3, z4, zf⟩ := hz.five
      have HI2 := Lib.hid hI2
      have HA := Lib.hid eA
      have HC := Lib.hid eC
      clear hwait hI2 hz
      rw [eA, eC]
      clear eA eC
      go_simp
      refine HKK.out _ _ ⟨X, C, A, Y, ?_, HI2.out⟩
      rw [← HA.out, ← HC.out]
  · rintro L a V ⟨X, C, A, Y, rfl, hI⟩ hL
    exact HQ.out X C A Y V (hI.done (fun i hi => hL i hi))
end Go.Proofs.Ytfognlealnhodaa

namespace Go.Proofs.Ytfognlealnhodaa
open Go.RowKit

/-- Where a copy lies: its places, their capacity, its ground, its capacity, its box. -/
structure N3 where
  g : Nat
  k : Nat
  r : Nat
  q : Nat
  B : Nat
/-- A copy. -/
structure CpS (W : World) (s0 n : Nat) (x : N3) (A : List Nat) (G : List (Nat × Nat)) (T lo hi : Nat) : Prop where
  row : Row W x.g A x.k
  sp : RowP W x.r G x.q
  box : W.heap[x.B]? = some (.cells #[.slice (some ⟨x.g, 0, none⟩) n x.k, .slice (some ⟨x.r, 0, none⟩) n x.q, .int .i64 (T : Int), .int .i64 (lo : Int), .int .i64 (hi : Int)] 30 (0, 0))
  la : A.length = n
  lg : G.length = n
  low : s0 ≤ x.g ∧ s0 ≤ x.r ∧ s0 ≤ x.B
section
variable {W W' : World} {s0 n T lo hi : Nat} {x y : N3} {A A' : List Nat} {G G' : List (Nat × Nat)} {D : Nat → Prop}
theorem Row.heap {w : World} {g c : Nat} {L : List Nat} (h : Row w g L c) : ∃ cur, w.heap[g]? = some (.cells cur 3 (0, 0)) := by obtain ⟨cur, h1, _⟩ := h; exact ⟨cur, h1⟩
theorem RowP.heap {w : World} {g c : Nat} {L : List (Nat × Nat)} (h : RowP w g L c) : ∃ cur, w.heap[g]? = some (.cells cur 28 (0, 0)) := by obtain ⟨cur, h1, _⟩ := h; exact ⟨cur, h1⟩
theorem CpS.keep (h : CpS W s0 n x A G T lo hi) (k : Keep D W W') (d1 : D x.g) (d2 : D x.r) (d3 : D x.B) : CpS W' s0 n x A G T lo hi :=
  ⟨h.row.keep k d1, h.sp.keep k d2, k.heap h.box d3, h.la, h.lg, h.low⟩
theorem CpS.ext (h : CpS W s0 n x A G T lo hi) (k : Ext W W') : CpS W' s0 n x A G T lo hi :=
  ⟨h.row.ext k, h.sp.ext k, k.block h.box, h.la, h.lg, h.low⟩
theorem CpS.gr {T' lo' hi' : Nat} (h : CpS W s0 n x A G T lo hi) (h' : CpS W s0 n y A' G' T' lo' hi') : x.g ≠ y.r ∧ x.g ≠ y.B ∧ x.r ≠ y.g ∧ x.r ≠ y.B ∧ x.B ≠ y.g ∧ x.B ≠ y.r := by
  obtain ⟨c1, e1⟩ := h.row.heap
  obtain ⟨c2, e2⟩ := h.sp.heap
  obtain ⟨c3, e3⟩ := h'.row.heap
  obtain ⟨c4, e4⟩ := h'.sp.heap
  exact ⟨type_ne e1 e4 (by decide), type_ne e1 h'.box (by decide), type_ne e2 e3 (by decide), type_ne e2 h'.box (by decide), type_ne h.box e3 (by decide), type_ne h.box e4 (by decide)⟩
theorem CpS.setA (h : CpS W s0 n x A G T lo hi) (i z : Nat) (hi' : i < n) : CpS (W.setCell ⟨x.g, i, none⟩ (.int .i64 (z : Int))) s0 n x (A.set i z) G T lo hi := by
  obtain ⟨q1, q2, q3, q4, q5, q6⟩ := h.gr h
  have k : Keep (fun b => b ≠ x.g) W (W.setCell ⟨x.g, i, none⟩ (.int .i64 (z : Int))) := (Keep.refl _ W).setCell _ _ (fun _ hh => hh rfl)
  exact ⟨h.row.set i z (by rw [h.la]; exact hi'), h.sp.keep k q3, k.heap h.box q5, by rw [List.length_set]; exact h.la, h.lg, h.low⟩
theorem CpS.box_at (h : CpS W s0 n x A G T lo hi) : W.cell? ⟨x.B, 0, none⟩ = some (.slice (some ⟨x.g, 0, none⟩) n x.k) ∧ W.cell? ⟨x.B, 1, none⟩ = some (.slice (some ⟨x.r, 0, none⟩) n x.q) ∧ W.cell? ⟨x.B, 2, none⟩ = some (.int .i64 (T : Int)) ∧ W.cell? ⟨x.B, 3, none⟩ = some (.int .i64 (lo : Int)) ∧ W.cell? ⟨x.B, 4, none⟩ = some (.int .i64 (hi : Int)) :=
  ⟨(cell_at h.box 0).trans rfl, (cell_at h.box 1).trans rfl, (cell_at h.box 2).trans rfl, (cell_at h.box 3).trans rfl, (cell_at h.box 4).trans rfl⟩
/-- The profile that a copy is. -/
def N3.pv (x : N3) (A : List Nat) (G : List (Nat × Nat)) (T lo hi : Nat) : PV := ⟨⟨some ⟨x.g, 0, none⟩, x.k, A⟩, ⟨some ⟨x.r, 0, none⟩, x.q, G⟩, T, lo, hi⟩
theorem CpS.is (h : CpS W s0 n x A G T lo hi) (hn : n ≤ 1000) : IsP W (x.pv A G T lo hi) := ⟨h.row.sl (by rw [h.la]; omega), h.sp.sl (by rw [h.lg]; omega)⟩
end
/-- The copies lie apart. -/
def Ap3 (x0 x1 x2 : N3) : Prop := (x0.g ≠ x1.g ∧ x0.g ≠ x2.g ∧ x1.g ≠ x2.g) ∧ (x0.r ≠ x1.r ∧ x0.r ≠ x2.r ∧ x1.r ≠ x2.r) ∧ (x0.B ≠ x1.B ∧ x0.B ≠ x2.B ∧ x1.B ≠ x2.B)
/-- Three copies. -/
structure T3 (W : World) (s0 n : Nat) (x0 x1 x2 : N3) (A0 A1 A2 : List Nat) (G0 G1 G2 : List (Nat × Nat)) (T0 T1 T2 lo0 lo1 lo2 hi0 hi1 hi2 : Nat) : Prop where
  c0 : CpS W s0 n x0 A0 G0 T0 lo0 hi0
  c1 : CpS W s0 n x1 A1 G1 T1 lo1 hi1
  c2 : CpS W s0 n x2 A2 G2 T2 lo2 hi2
  ap : Ap3 x0 x1 x2
section
variable {W W' : World} {s0 n : Nat} {x0 x1 x2 : N3} {A0 A1 A2 : List Nat} {G0 G1 G2 : List (Nat × Nat)} {T0 T1 T2 lo0 lo1 lo2 hi0 hi1 hi2 : Nat}
theorem T3.ext (h : T3 W s0 n x0 x1 x2 A0 A1 A2 G0 G1 G2 T0 T1 T2 lo0 lo1 lo2 hi0 hi1 hi2) (k : Ext W W') : T3 W' s0 n x0 x1 x2 A0 A1 A2 G0 G1 G2 T0 T1 T2 lo0 lo1 lo2 hi0 hi1 hi2 := ⟨h.c0.ext k, h.c1.ext k, h.c2.ext k, h.ap⟩
theorem T3.setA0 (h : T3 W s0 n x0 x1 x2 A0 A1 A2 G0 G1 G2 T0 T1 T2 lo0 lo1 lo2 hi0 hi1 hi2) (i z : Nat) (hi' : i < n) : T3 (W.setCell ⟨x0.g, i, none⟩ (.int .i64 (z : Int))) s0 n x0 x1 x2 (A0.set i z) A1 A2 G0 G1 G2 T0 T1 T2 lo0 lo1 lo2 hi0 hi1 hi2 := by
  have k : Keep (fun b => b ≠ x0.g) W (W.setCell ⟨x0.g, i, none⟩ (.int .i64 (z : Int))) := (Keep.refl _ W).setCell _ _ (fun _ hh => hh rfl)
  obtain ⟨⟨p1, p2, p3⟩, _, _⟩ := h.ap
  obtain ⟨q1, q2, -⟩ := h.c0.gr h.c1
  obtain ⟨r1, r2, -⟩ := h.c0.gr h.c2
  exact ⟨h.c0.setA i z hi', h.c1.keep k (Ne.symm p1) (Ne.symm q1) (Ne.symm q2), h.c2.keep k (Ne.symm p2) (Ne.symm r1) (Ne.symm r2), h.ap⟩
theorem T3.setA1 (h : T3 W s0 n x0 x1 x2 A0 A1 A2 G0 G1 G2 T0 T1 T2 lo0 lo1 lo2 hi0 hi1 hi2) (i z : Nat) (hi' : i < n) : T3 (W.setCell ⟨x1.g, i, none⟩ (.int .i64 (z : Int))) s0 n x0 x1 x2 A0 (A1.set i z) A2 G0 G1 G2 T0 T1 T2 lo0 lo1 lo2 hi0 hi1 hi2 := by
  have k : Keep (fun b => b ≠ x1.g) W (W.setCell ⟨x1.g, i, none⟩ (.int .i64 (z : Int))) := (Keep.refl _ W).setCell _ _ (fun _ hh => hh rfl)
  obtain ⟨⟨p1, p2, p3⟩, _, _⟩ := h.ap
  obtain ⟨q1, q2, -⟩ := h.c1.gr h.c0
  obtain ⟨r1, r2, -⟩ := h.c1.gr h.c2
  exact ⟨h.c0.keep k p1 (Ne.symm q1) (Ne.symm q2), h.c1.setA i z hi', h.c2.keep k (Ne.symm p3) (Ne.symm r1) (Ne.symm r2), h.ap⟩
theorem T3.setA2 (h : T3 W s0 n x0 x1 x2 A0 A1 A2 G0 G1 G2 T0 T1 T2 lo0 lo1 lo2 hi0 hi1 hi2) (i z : Nat) (hi' : i < n) : T3 (W.setCell ⟨x2.g, i, none⟩ (.int .i64 (z : Int))) s0 n x0 x1 x2 A0 A1 (A2.set i z) G0 G1 G2 T0 T1 T2 lo0 lo1 lo2 hi0 hi1 hi2 := by
  have k : Keep (fun b => b ≠ x2.g) W (W.setCell ⟨x2.g, i, none⟩ (.int .i64 (z : Int))) := (Keep.refl _ W).setCell _ _ (fun _ hh => hh rfl)
  obtain ⟨⟨p1, p2, p3⟩, _, _⟩ := h.ap
  obtain ⟨q1, q2, -⟩ := h.c2.gr h.c0
  obtain ⟨r1, r2, -⟩ := h.c2.gr h.c1
  exact ⟨h.c0.keep k p2 (Ne.symm q1) (Ne.symm q2), h.c1.keep k p3 (Ne.symm r1) (Ne.symm r2), h.c2.setA i z hi', h.ap⟩
theorem T3.rev0 (h : T3 W s0 n x0 x1 x2 A0 A1 A2 G0 G1 G2 T0 T1 T2 lo0 lo1 lo2 hi0 hi1 hi2) {G' : List (Nat × Nat)} (hl : G'.length = n) (hr : RowP W' x0.r G' x0.q) (k : Keep (fun b => b ≠ x0.r) W W') : T3 W' s0 n x0 x1 x2 A0 A1 A2 G' G1 G2 T0 T1 T2 lo0 lo1 lo2 hi0 hi1 hi2 := by
  obtain ⟨_, ⟨p1, p2, p3⟩, _⟩ := h.ap
  obtain ⟨a1, a2, a3, a4, a5, a6⟩ := h.c0.gr h.c0
  obtain ⟨-, -, q1, q2, -⟩ := h.c0.gr h.c1
  obtain ⟨-, -, r1, r2, -⟩ := h.c0.gr h.c2
  exact ⟨⟨h.c0.row.keep k (Ne.symm a3), hr, k.heap h.c0.box (Ne.symm a4), h.c0.la, hl, h.c0.low⟩, h.c1.keep k (Ne.symm q1) (Ne.symm p1) (Ne.symm q2), h.c2.keep k (Ne.symm r1) (Ne.symm p2) (Ne.symm r2), h.ap⟩
theorem T3.bend2 (h : T3 W s0 n x0 x1 x2 A0 A1 A2 G0 G1 G2 T0 T1 T2 lo0 lo1 lo2 hi0 hi1 hi2) (a b : Nat) : T3 ((W.setCell ⟨x2.B, 3, none⟩ (.int .i64 (a : Int))).setCell ⟨x2.B, 4, none⟩ (.int .i64 (b : Int))) s0 n x0 x1 x2 A0 A1 A2 G0 G1 G2 T0 T1 T2 lo0 lo1 a hi0 hi1 b := by
  have k : Keep (fun c => c ≠ x2.B) W ((W.setCell ⟨x2.B, 3, none⟩ (.int .i64 (a : Int))).setCell ⟨x2.B, 4, none⟩ (.int .i64 (b : Int))) := ((Keep.refl _ W).setCell _ _ (fun _ hh => hh rfl)).setCell _ _ (fun _ hh => hh rfl)
  obtain ⟨_, _, ⟨p1, p2, p3⟩⟩ := h.ap
  obtain ⟨a1, a2, a3, a4, a5, a6⟩ := h.c2.gr h.c2
  obtain ⟨-, -, -, -, q1, q2⟩ := h.c2.gr h.c0
  obtain ⟨-, -, -, -, r1, r2⟩ := h.c2.gr h.c1
  exact ⟨h.c0.keep k (Ne.symm q1) (Ne.symm q2) p2, h.c1.keep k (Ne.symm r1) (Ne.symm r2) p3, ⟨h.c2.row.keep k (Ne.symm a5), h.c2.sp.keep k (Ne.symm a6), (heap_setCell_same (heap_setCell_same h.c2.box _) _).trans rfl, h.c2.la, h.c2.lg, h.c2.low⟩, h.ap⟩
end
theorem own_at {w : World} {base : Nat} {e : TypeId} {size : Nat} {a : Option Addr} {c n : Nat} {xs : List Value} (h : w.ownsRow base e size (.slice a n c) n xs) (hn : 0 < n) : ∃ g, a = some ⟨g, 0, none⟩ ∧ base ≤ g := by
  obtain ⟨g, hg, hb, _⟩ := own_place h hn
  exact ⟨g, hg, hb⟩
/-- Three copies as they are made. -/
theorem three_at {v : PV} {V0 W : World} {s0 s1 s2 : Value} (h : ThreeP v V0 s0 s1 s2 W) (hn : 0 < v.at'.l.length) (hg : v.gr.l.length = v.at'.l.length) : ∃ x0 x1 x2 : N3, s0 = .pointer (some ⟨x0.B, 0, none⟩) ∧ s1 = .pointer (some ⟨x1.B, 0, none⟩) ∧ s2 = .pointer (some ⟨x2.B, 0, none⟩) ∧ Ext V0 W ∧
    T3 W V0.heap.size v.at'.l.length x0 x1 x2 v.at'.l v.at'.l v.at'.l v.gr.l v.gr.l v.gr.l v.T v.T v.T v.lo v.lo v.lo v.hi v.hi v.hi := by
  obtain ⟨l, hh, B, ts, e0, e1, e2, hx, hp⟩ := h
  have one : ∀ k, k < 3 → ∃ x : N3, x.B = B k ∧ (l k ≤ x.g ∧ x.g < hh k) ∧ (l k ≤ x.r ∧ x.r < hh k) ∧ CpS W V0.heap.size v.at'.l.length x v.at'.l v.gr.l v.T v.lo v.hi := by
    intro k hk
    obtain ⟨hs, ho, h1, h2, h3, h4, h5, _⟩ := hp.out k hk
    obtain ⟨q1, q2, q3, q4, q5⟩ := hs
    have o1 := ho.at'
    have o2 := ho.gr
    have hb := ho.below
    rw [show MkP W (B k) (ts k) = (W.heap[B k]? = some (.cells #[(ts k).at'.v, (ts k).gr.v, .int .i64 ((ts k).T : Int), .int .i64 ((ts k).lo : Int), .int .i64 ((ts k).hi : Int)] 30 (0, 0))) from rfl, q3, q4, q5] at h5
    unfold SL.v at o1 o2 h5 hb
    rw [q1] at o1 h5 hb
    rw [q2] at o2 h5 hb
    obtain ⟨g, hga, hgl⟩ := own_at o1 hn
    obtain ⟨r, hra, hrl⟩ := own_at o2 (by omega)
    rw [hga] at o1 h5 hb
    rw [hra] at o2 h5 hb
    have t1 := hb g (.inl rfl)
    have t2 := hb r (.inr rfl)
    rw [hg] at h5
    exact ⟨⟨g, (ts k).at'.c, r, (ts k).gr.c, B k⟩, rfl, ⟨hgl, t1⟩, ⟨hrl, t2⟩, ⟨(Row.of_own o1).1, (RowP.of_own o2).1, h5, rfl, hg, ⟨Nat.le_trans h1 hgl, Nat.le_trans h1 hrl, h3⟩⟩⟩
  obtain ⟨x0, b0, g0, r0, c0⟩ := one 0 (by omega)
  obtain ⟨x1, b1, g1, r1, c1⟩ := one 1 (by omega)
  obtain ⟨x2, b2, g2, r2, c2⟩ := one 2 (by omega)
  have a01 := ((hp.out 0 (by omega)).2.2.2.2.2.2.2 1 (by omega)).1 (by omega)
  have a02 := ((hp.out 0 (by omega)).2.2.2.2.2.2.2 2 (by omega)).1 (by omega)
  have a12 := ((hp.out 1 (by omega)).2.2.2.2.2.2.2 2 (by omega)).1 (by omega)
  refine ⟨x0, x1, x2, by rw [e0, b0], by rw [e1, b1], by rw [e2, b2], hx.out, c0, c1, c2, ⟨?_, ?_, ?_⟩, ⟨?_, ?_, ?_⟩, ⟨?_, ?_, ?_⟩⟩
  · omega
  · omega
  · omega
  · omega
  · omega
  · omega
  · rw [b0, b1]; exact a01.2
  · rw [b0, b2]; exact a02.2
  · rw [b1, b2]; exact a12.2
/-- A list while its places are filled. -/
def fl (P : Nat → Bool) (new old : Nat → Nat) (n : Nat) : List Nat := (List.range n).map fun q => if P q then new q else old q
section
variable {P P' : Nat → Bool} {new old : Nat → Nat} {n : Nat}
theorem fl_len : (fl P new old n).length = n := by simp [fl]
theorem fl_set {i : Nat} (h : ∀ q, q < n → P' q = (P q || decide (q = i))) : (fl P new old n).set i (new i) = fl P' new old n := by
  apply List.ext_getElem
  · simp [fl]
  · intro q h1 h2
    rw [fl_len] at h2
    rw [List.getElem_set]
    simp only [fl, List.getElem_map, List.getElem_range, h q h2]
    by_cases e : i = q
    · subst e; simp
    · rw [if_neg e]
      have e' : ¬ q = i := fun h => e h.symm
      simp [e']
theorem fl_none (h : ∀ q, q < n → P q = false) : fl P new old n = (List.range n).map old := by
  unfold fl
  apply List.map_congr_left
  intro q hq
  rw [h q (List.mem_range.1 hq)]; rfl
theorem fl_all (h : ∀ q, q < n → P q = true) : fl P new old n = (List.range n).map new := by
  unfold fl
  apply List.map_congr_left
  intro q hq
  rw [h q (List.mem_range.1 hq)]; rfl
end
theorem range_get (A : List Nat) (n : Nat) (h : A.length = n) : (List.range n).map (fun q => A[q]?.getD 0) = A := by
  subst h
  apply List.ext_getElem
  · simp
  · intro q h1 h2; simp [h2]
end Go.Proofs.Ytfognlealnhodaa

namespace Go.Proofs.Ytfognlealnhodaa
open Go.RowKit

/-- The code from region n on. -/
def tailT (n : Nat) : Code → Option Code
  | .seq (.region k o d) b => if k = n then some (.seq (.region k o d) b) else tailT n b
  | .seq (.seq (.region k o d) c) b => if k = n then some (.seq (.seq (.region k o d) c) b) else tailT n b
  | .seq _ b => tailT n b
  | .block _ c => tailT n c
  | .scope c => tailT n c
  | _ => none
noncomputable def tail6_17 : Code := ((Try.f6.body.bind (tailT 17)).getD .skip)
theorem N3.pv_v {x : N3} {A : List Nat} {G : List (Nat × Nat)} {T lo hi n : Nat} (h1 : A.length = n) (h2 : G.length = n) : (x.pv A G T lo hi).v = .agg #[.slice (some ⟨x.g, 0, none⟩) n x.k, .slice (some ⟨x.r, 0, none⟩) n x.q, .int .i64 (T : Int), .int .i64 (lo : Int), .int .i64 (hi : Int)] := by
  show Value.agg #[.slice (some ⟨x.g, 0, none⟩) A.length x.k, .slice (some ⟨x.r, 0, none⟩) G.length x.q, .int .i64 (T : Int), .int .i64 (lo : Int), .int .i64 (hi : Int)] = _
  rw [h1, h2]
def frT17 (pb n i j b0 b1 b2 : Nat) (X : Nat → Value) : Array Value := #[X 0, X 1, X 2, X 3, X 4, X 5, X 6, X 7, X 8, .pointer (some ⟨pb, 0, none⟩), X 10, .int .i64 (n : Int), .int .i64 (i : Int), .int .i64 (j : Int), .pointer (some ⟨b0, 0, none⟩), .pointer (some ⟨b1, 0, none⟩), .pointer (some ⟨b2, 0, none⟩), X 17, X 18, X 19, X 20, X 21, X 22, X 23, X 24, X 25, X 26, X 27, X 28, X 29, X 30, X 31, X 32, X 33, X 34, X 35, X 36, X 37, X 38, X 39, X 40, X 41, X 42, X 43, X 44, X 45, X 46, X 47, X 48, X 49, X 50, X 51, X 52, X 53, X 54, X 55, X 56, X 57, X 58, X 59, X 60, X 61, X 62, X 63, X 64, X 65, X 66, X 67, X 68, X 69, X 70, X 71, X 72, X 73, X 74, X 75, X 76, X 77, X 78, X 79, X 80, X 81, X 82, X 83, X 84, X 85, X 86, X 87, X 88, X 89, X 90, X 91, X 92, X 93, X 94, X 95, X 96, X 97, X 98, X 99, X 100, X 101, X 102, X 103, X 104, X 105, X 106, X 107, X 108, X 109, X 110, X 111, X 112, X 113, X 114, X 115, X 116, X 117, X 118, X 119, X 120, X 121, X 122, X 123, X 124, X 125, X 126, X 127, X 128, X 129, X 130, X 131, X 132, X 133, X 134, X 135, X 136, X 137, X 138, X 139, X 140, X 141, X 142, X 143, X 144, X 145, X 146, X 147, X 148, X 149, X 150, X 151, X 152, X 153, X 154, X 155, X 156, X 157, X 158, X 159, X 160, X 161, X 162, X 163, X 164, X 165, X 166, X 167, X 168, X 169, X 170, X 171, X 172, X 173, X 174, X 175, X 176, X 177, X 178, X 179, X 180, X 181, X 182, X 183, X 184, X 185, X 186, X 187, X 188, X 189, X 190, X 191, X 192, X 193, X 194, X 195, X 196, X 197, X 198, X 199, X 200, X 201, X 202, X 203, X 204, X 205, X 206, X 207, X 208, X 209, X 210, X 211, X 212, X 213, X 214, X 215, X 216, X 217]
def frT20 (n i j ln lc sb k : Nat) (xb yb : Bool) (la : Option Addr) (X : Nat → Value) : Array Value := #[X 0, X 1, X 2, X 3, X 4, X 5, X 6, X 7, X 8, X 9, X 10, .int .i64 (n : Int), .int .i64 (i : Int), .int .i64 (j : Int), X 14, X 15, X 16, X 17, X 18, .bool xb, .bool yb, .int .i64 0, .slice la ln lc, .int .i64 0, X 24, X 25, X 26, X 27, X 28, X 29, X 30, X 31, X 32, X 33, X 34, X 35, X 36, X 37, X 38, X 39, X 40, X 41, X 42, X 43, X 44, X 45, X 46, X 47, X 48, X 49, X 50, X 51, X 52, X 53, X 54, X 55, X 56, X 57, X 58, X 59, X 60, X 61, X 62, X 63, X 64, X 65, X 66, X 67, X 68, X 69, X 70, X 71, X 72, X 73, X 74, X 75, X 76, X 77, X 78, X 79, X 80, X 81, X 82, X 83, X 84, X 85, X 86, X 87, X 88, X 89, X 90, X 91, X 92, X 93, X 94, X 95, X 96, X 97, X 98, X 99, X 100, X 101, X 102, X 103, X 104, X 105, X 106, X 107, X 108, X 109, X 110, X 111, X 112, X 113, X 114, X 115, X 116, X 117, X 118, X 119, X 120, X 121, X 122, X 123, X 124, X 125, X 126, X 127, X 128, X 129, X 130, X 131, X 132, X 133, X 134, X 135, X 136, X 137, X 138, X 139, X 140, X 141, X 142, .slice (some ⟨sb, 0, none⟩) 3 3, .int .i64 3, .int .i64 (k : Int), X 146, X 147, X 148, X 149, X 150, X 151, X 152, X 153, X 154, X 155, X 156, X 157, X 158, X 159, X 160, X 161, X 162, X 163, X 164, X 165, X 166, X 167, X 168, X 169, X 170, X 171, X 172, X 173, X 174, X 175, X 176, X 177, X 178, X 179, X 180, X 181, X 182, X 183, X 184, X 185, X 186, X 187, X 188, X 189, X 190, X 191, X 192, X 193, X 194, X 195, X 196, X 197, X 198, X 199, X 200, X 201, X 202, X 203, X 204, X 205, X 206, X 207, X 208, X 209, X 210, X 211, X 212, X 213, X 214, X 215, X 216, X 217]

def InvT2 (n i j ln lc sb : Nat) (xb yb : Bool) (la : Option Addr) (W : World) (ac : Act) (wr : World) : Prop :=
  ∃ (X : Nat → Value) (k : Nat), ac = { tmps := frT20 n i j ln lc sb k xb yb la X, defers := [] } ∧ k ≤ 3 ∧ Hid (Ext W wr)
theorem InvT2.of {n i j ln lc sb : Nat} {xb yb : Bool} {la : Option Addr} {u : Array Value} {W wr : World} (k : Nat) (ht : u = frT20 n i j ln lc sb k xb yb la (fun j => u.getD j undef)) (h1 : k ≤ 3) (h2 : Hid (Ext W wr)) :
    InvT2 n i j ln lc sb xb yb la W { tmps := u, defers := [] } wr := ⟨_, k, by rw [← ht], h1, h2⟩

set_option maxRecDepth 1000000 in
set_option maxHeartbeats 16000000 in
theorem turn_tail17 (X : Nat → Value) (pb n i j : Nat) (v : PV) (x0 x1 x2 : N3) (s0 : Nat) (A0 A1 A2 : List Nat) (G0 G1 G2 : List (Nat × Nat)) (T0 T1 T2 lo0 lo1 lo2 hi0 hi1 hi2 : Nat) (w W : World) (HN : Hid (v.at'.l.length = n)) (HP : Hid (IsP W v)) (HF : Hid (Five W pb v)) (HOk : Hid (OkP v.p)) (H3 : Hid (T3 W s0 n x0 x1 x2 A0 A1 A2 G0 G1 G2 T0 T1 T2 lo0 lo1 lo2 hi0 hi1 hi2))
    (HQ0 : Hid (Alike v.p (x0.pv A0 G0 T0 lo0 hi0).p (fun i => v.p.A.length - 1 - i) false)) (HQ1 : Hid (Alike v.p (x1.pv A1 G1 T1 lo1 hi1).p id true)) (HQ2 : Hid (Alike v.p (x2.pv A2 G2 T2 lo2 hi2).p id true)) (hi : i < n) (hj : j < n) (hij : i ≠ j) (hn40 : n ≤ 40) (HX : Hid (Ext w W)) :
    Code.wp Try.prog tail6_17 (bodyPost Try.prog Try.f6 fun e w' => e = .returned (.bool true) ∧ Ext w w') ⟨frT17 pb n i j x0.B x1.B x2.B X, []⟩ W := by
  conv => arg 2; whnf
  conv => arg 4; dsimp only [frT17]
  have HNe : Hid (v.p.A.length = n) := HN.out
  obtain ⟨xb, hxb⟩ : ∃ b, seeF false v.p i j = b := ⟨_, rfl⟩
  obtain ⟨yb, hyb⟩ : ∃ b, seeF true v.p i j = b := ⟨_, rfl⟩
  obtain ⟨L, hL⟩ : ∃ L, fewP v.p = L := ⟨_, rfl⟩
  have hse := sees_ok v i j W HP.out HOk.out (by rw [HN.out]; exact hi) (by rw [HN.out]; exact hj) hij
  rw [hxb, hyb] at hse
  have hfe := fun w1 (hx : Ext W w1) => fewest_ok v w1 (HP.out.ext hx) HOk.out L hL
  have Hxb := Lib.hid hxb
  have Hyb := Lib.hid hyb
  have HLL := Lib.hid hL
  have HSe := Lib.hid hse
  have HFe := Lib.hid hfe
  have hlen : L.length ≤ 41 := by rw [← hL]; exact (seen_math HOk.out).most
  obtain ⟨ln, hln⟩ : ∃ ln, L.length = ln := ⟨_, rfl⟩
  have HL : Hid ((fewP v.p).length = ln) := by show _ = _; rw [hL]; exact hln
  have HLl := Lib.hid hln
  rw [hln] at hlen HFe
  clear hse hfe hxb hyb hL hln
  have HP0 : Hid (IsP W (x0.pv A0 G0 T0 lo0 hi0)) := H3.out.c0.is (by omega)
  have HP1 : Hid (IsP W (x1.pv A1 G1 T1 lo1 hi1)) := H3.out.c1.is (by omega)
  have HP2 : Hid (IsP W (x2.pv A2 G2 T2 lo2 hi2)) := H3.out.c2.is (by omega)
  obtain ⟨t0, t1, t2, t3, t4⟩ := HF.out
  go_wp2_with fail
  refine HSe.out.mono ?_
  rintro e w1 ⟨rfl, hx1⟩
  have HX1 : Hid (Ext W w1) := hx1
  clear hx1 HSe t0 t1 t2 t3 t4
  obtain ⟨t0, t1, t2, t3, t4⟩ := HF.out.ext HX1.out
  go_wp2_with fail
  refine (HFe.out w1 HX1.out).mono ?_
  rintro e w2 ⟨la, lc, rfl, hlo, hx2⟩
  have HX2 : Hid (Ext W w2) := HX1.out.trans hx2
  have HLs2 : Hid (IsSl 1 num w2 ⟨la, lc, L⟩) := own_sl (c := lc) (base := w1.heap.size) (e := 3) (by rw [HLl.out]; exact hlo) (by rw [HLl.out]; omega)
  clear hx2 hlo HFe HX1 t0 t1 t2 t3 t4
  obtain ⟨p0, p1, p2, p3, p4⟩ := (H3.out.ext HX2.out).c0.box_at
  obtain ⟨q0, q1, q2, q3, q4⟩ := (H3.out.ext HX2.out).c1.box_at
  obtain ⟨r0, r1, r2, r3, r4⟩ := (H3.out.ext HX2.out).c2.box_at
  have hlA0 : A0.length = n := H3.out.c0.la
  go_wp2_with fail
  have hx5 := (Ext.refl w2).alloc (.cells #[.slice (some ⟨x0.g, 0, none⟩) n x0.k, .slice (some ⟨x0.r, 0, none⟩) n x0.q, .int .i64 (T0 : Int), .int .i64 (lo0 : Int), .int .i64 (hi0 : Int), .slice (some ⟨x1.g, 0, none⟩) n x1.k, .slice (some ⟨x1.r, 0, none⟩) n x1.q, .int .i64 (T1 : Int), .int .i64 (lo1 : Int), .int .i64 (hi1 : Int), .slice (some ⟨x2.g, 0, none⟩) n x2.k, .slice (some ⟨x2.r, 0, none⟩) n x2.q, .int .i64 (T2 : Int), .int .i64 (lo2 : Int), .int .i64 (hi2 : Int)] 30)
  have hbl := World.alloc_heap_new w2 (.cells #[.slice (some ⟨x0.g, 0, none⟩) n x0.k, .slice (some ⟨x0.r, 0, none⟩) n x0.q, .int .i64 (T0 : Int), .int .i64 (lo0 : Int), .int .i64 (hi0 : Int), .slice (some ⟨x1.g, 0, none⟩) n x1.k, .slice (some ⟨x1.r, 0, none⟩) n x1.q, .int .i64 (T1 : Int), .int .i64 (lo1 : Int), .int .i64 (hi1 : Int), .slice (some ⟨x2.g, 0, none⟩) n x2.k, .slice (some ⟨x2.r, 0, none⟩) n x2.q, .int .i64 (T2 : Int), .int .i64 (lo2 : Int), .int .i64 (hi2 : Int)] 30)
  have HSb : Hid (∀ u, Ext (w2.alloc (.cells #[.slice (some ⟨x0.g, 0, none⟩) n x0.k, .slice (some ⟨x0.r, 0, none⟩) n x0.q, .int .i64 (T0 : Int), .int .i64 (lo0 : Int), .int .i64 (hi0 : Int), .slice (some ⟨x1.g, 0, none⟩) n x1.k, .slice (some ⟨x1.r, 0, none⟩) n x1.q, .int .i64 (T1 : Int), .int .i64 (lo1 : Int), .int .i64 (hi1 : Int), .slice (some ⟨x2.g, 0, none⟩) n x2.k, .slice (some ⟨x2.r, 0, none⟩) n x2.q, .int .i64 (T2 : Int), .int .i64 (lo2 : Int), .int .i64 (hi2 : Int)] 30)) u → u.cell? ⟨w2.heap.size, 0, none⟩ = some (.slice (some ⟨x0.g, 0, none⟩) n x0.k) ∧ u.cell? ⟨w2.heap.size, 1, none⟩ = some (.slice (some ⟨x0.r, 0, none⟩) n x0.q) ∧ u.cell? ⟨w2.heap.size, 2, none⟩ = some (.int .i64 (T0 : Int)) ∧ u.cell? ⟨w2.heap.size, 3, none⟩ = some (.int .i64 (lo0 : Int)) ∧ u.cell? ⟨w2.heap.size, 4, none⟩ = some (.int .i64 (hi0 : Int)) ∧ u.cell? ⟨w2.heap.size, 5, none⟩ = some (.slice (some ⟨x1.g, 0, none⟩) n x1.k) ∧ u.cell? ⟨w2.heap.size, 6, none⟩ = some (.slice (some ⟨x1.r, 0, none⟩) n x1.q) ∧ u.cell? ⟨w2.heap.size, 7, none⟩ = some (.int .i64 (T1 : Int)) ∧ u.cell? ⟨w2.heap.size, 8, none⟩ = some (.int .i64 (lo1 : Int)) ∧ u.cell? ⟨w2.heap.size, 9, none⟩ = some (.int .i64 (hi1 : Int)) ∧ u.cell? ⟨w2.heap.size, 10, none⟩ = some (.slice (some ⟨x2.g, 0, none⟩) n x2.k) ∧ u.cell? ⟨w2.heap.size, 11, none⟩ = some (.slice (some ⟨x2.r, 0, none⟩) n x2.q) ∧ u.cell? ⟨w2.heap.size, 12, none⟩ = some (.int .i64 (T2 : Int)) ∧ u.cell? ⟨w2.heap.size, 13, none⟩ = some (.int .i64 (lo2 : Int)) ∧ u.cell? ⟨w2.heap.size, 14, none⟩ = some (.int .i64 (hi2 : Int))) := fun u hu => by
    have h := hu.block hbl
    exact ⟨(cell_at h 0).trans rfl, (cell_at h 1).trans rfl, (cell_at h 2).trans rfl, (cell_at h 3).trans rfl, (cell_at h 4).trans rfl, (cell_at h 5).trans rfl, (cell_at h 6).trans rfl, (cell_at h 7).trans rfl, (cell_at h 8).trans rfl, (cell_at h 9).trans rfl, (cell_at h 10).trans rfl, (cell_at h 11).trans rfl, (cell_at h 12).trans rfl, (cell_at h 13).trans rfl, (cell_at h 14).trans rfl⟩
  have HX5 : Hid (Ext W (w2.alloc (.cells #[.slice (some ⟨x0.g, 0, none⟩) n x0.k, .slice (some ⟨x0.r, 0, none⟩) n x0.q, .int .i64 (T0 : Int), .int .i64 (lo0 : Int), .int .i64 (hi0 : Int), .slice (some ⟨x1.g, 0, none⟩) n x1.k, .slice (some ⟨x1.r, 0, none⟩) n x1.q, .int .i64 (T1 : Int), .int .i64 (lo1 : Int), .int .i64 (hi1 : Int), .slice (some ⟨x2.g, 0, none⟩) n x2.k, .slice (some ⟨x2.r, 0, none⟩) n x2.q, .int .i64 (T2 : Int), .int .i64 (lo2 : Int), .int .i64 (hi2 : Int)] 30))) := HX2.out.trans hx5
  have HLs := Lib.hid (HLs2.out.ext hx5)
  clear hx5 hbl HLs2 HX2 p0 p1 p2 p3 p4 q0 q1 q2 q3 q4 r0 r1 r2 r3 r4
  generalize w2.alloc (.cells #[.slice (some ⟨x0.g, 0, none⟩) n x0.k, .slice (some ⟨x0.r, 0, none⟩) n x0.q, .int .i64 (T0 : Int), .int .i64 (lo0 : Int), .int .i64 (hi0 : Int), .slice (some ⟨x1.g, 0, none⟩) n x1.k, .slice (some ⟨x1.r, 0, none⟩) n x1.q, .int .i64 (T1 : Int), .int .i64 (lo1 : Int), .int .i64 (hi1 : Int), .slice (some ⟨x2.g, 0, none⟩) n x2.k, .slice (some ⟨x2.r, 0, none⟩) n x2.q, .int .i64 (T2 : Int), .int .i64 (lo2 : Int), .int .i64 (hi2 : Int)] 30) = W5 at *
  generalize w2.heap.size = sb at *
  obtain ⟨n1, hn1⟩ : ∃ n1, n1 + 1 = n := ⟨n - 1, by omega⟩
  obtain ⟨u0, hu0⟩ : ∃ u0, n - 1 - i = u0 := ⟨_, rfl⟩
  obtain ⟨u1, hu1⟩ : ∃ u1, n - 1 - j = u1 := ⟨_, rfl⟩
  refine wp_loop (InvT2 n i j ln lc sb xb yb la W5) (fun a _ => 3 - (intOf (a.tmps.getD 145 undef)).toNat) (InvT2.of 0 rfl (by omega) (Ext.refl _)) ?_
  rintro ac wz ⟨X2, k, rfl, hk, HZ⟩
  conv => arg 4; dsimp only [frT20]
  have hlA1 : A1.length = n := H3.out.c1.la
  have hlA2 : A2.length = n := H3.out.c2.la
  have hlG0 : G0.length = n := H3.out.c0.lg
  have hlG1 : G1.length = n := H3.out.c1.lg
  have hlG2 : G2.length = n := H3.out.c2.lg
  have HU : Hid (u0 = n - 1 - i ∧ u1 = n - 1 - j) := ⟨hu0.symm, hu1.symm⟩
  by_cases hlt : k < 3
  · obtain rfl | rfl | rfl : k = 0 ∨ k = 1 ∨ k = 2 := by omega
    · rw [show (((0 : Nat)) : Int) = 0 from rfl]
      have di : decide ((0 : Int) < 3) = true := by decide
      have hwk : IntKind.i64.wrap ((0 : Int) + 1) = 1 := by decide
      have w1 : IntKind.i64.wrap ((n : Int) - 1) = (n1 : Int) := by rw [IntWalk.i64_in _ (by omega)]; omega
      have w2 : IntKind.i64.wrap ((n1 : Int) - (i : Int)) = (u0 : Int) := by rw [IntWalk.i64_in _ (by omega)]; omega
      have w3 : IntKind.i64.wrap ((n1 : Int) - (j : Int)) = (u1 : Int) := by rw [IntWalk.i64_in _ (by omega)]; omega
      have w4 : (n : Int) - 1 = (n1 : Int) := by omega
      have w5 : (n1 : Int) - (i : Int) = (u0 : Int) := by omega
      have w6 : (n1 : Int) - (j : Int) = (u1 : Int) := by omega
      clear hlt hk
      have HWz : Hid (Ext W wz) := HX5.out.trans HZ.out
      have HP := Lib.hid (HP0.out.ext HWz.out)
      obtain ⟨s0, s1, s2, s3, s4, s5, s6, s7, s8, s9, s10, s11, s12, s13, s14⟩ := HSb.out wz HZ.out
      clear s5 s6 s7 s8 s9 s10 s11 s12 s13 s14
      have hse := fun w1 (hx : Ext wz w1) => sees_ok (x0.pv A0 G0 T0 lo0 hi0) u0 u1 w1 (HP.out.ext hx) HQ0.out.ok (by rw [HQ0.out.len, HNe.out]; omega) (by rw [HQ0.out.len, HNe.out]; omega) (by omega)
      have hs1 : seeF false (x0.pv A0 G0 T0 lo0 hi0).p u0 u1 = xb := by rw [← Hxb.out]; have h := HQ0.out.see false i j (by rw [HNe.out]; exact hi) (by rw [HNe.out]; exact hj); rw [HNe.out, hu0, hu1] at h; exact h
      have hs2 : seeF true (x0.pv A0 G0 T0 lo0 hi0).p u0 u1 = yb := by rw [← Hyb.out]; have h := HQ0.out.see true i j (by rw [HNe.out]; exact hi) (by rw [HNe.out]; exact hj); rw [HNe.out, hu0, hu1] at h; exact h
      rw [hs1, hs2] at hse
      have HSe := Lib.hid hse
      obtain ⟨Lk, hLk⟩ : ∃ L, fewP (x0.pv A0 G0 T0 lo0 hi0).p = L := ⟨_, rfl⟩
      have hfe := fun w1 (hx : Ext wz w1) => fewest_ok (x0.pv A0 G0 T0 lo0 hi0) w1 (HP.out.ext hx) HQ0.out.ok Lk hLk
      have HFe := Lib.hid hfe
      have hlk : Lk.length = ln := by rw [← hLk, HQ0.out.few]; exact HL.out
      clear hse hfe hs1 hs2 hLk
      have HLk := Lib.hid hlk
      rw [hlk] at HFe
      clear hlk
      have e0 : (((0 : Nat) : Int) == 0) = true := by decide
      have e1 : ((0 : Int) == 0) = true := by decide
      have e2 : decide ((0 : Int) < ((0 : Nat) : Int)) = false := by decide
      have e3 : decide ((0 : Int) < 0) = false := by decide
      rw [N3.pv_v hlA0 hlG0] at HSe HFe
      go_wp2_with fail
      refine (HSe.out _ ((Ext.refl wz).alloc _)).mono ?_
      rintro e wa ⟨rfl, hxa⟩
      have HXa : Hid (Ext wz wa) := ((Ext.refl wz).alloc _).trans hxa
      have hbx : wa.heap[wz.heap.size]? = _ := hxa.block (World.alloc_heap_new _ _)
      have m0 := (cell_at hbx 0).trans rfl
      have m1 := (cell_at hbx 1).trans rfl
      have m2 := (cell_at hbx 2).trans rfl
      have m3 := (cell_at hbx 3).trans rfl
      have m4 := (cell_at hbx 4).trans rfl
      clear hxa hbx HSe s0 s1 s2 s3 s4
      go_wp2_with fail
      refine (HFe.out _ HXa.out).mono ?_
      rintro e wb ⟨ma, mc, rfl, hmo, hxb⟩
      have HXb : Hid (Ext wz wb) := HXa.out.trans hxb
      have hnn : (ln != ln) = false := by simp
      have hnn2 : ((ln : Int) != (ln : Int)) = false := by simp
      have hxx : (xb != xb) = false := by cases xb <;> rfl
      have hyy : (yb != yb) = false := by cases yb <;> rfl
      clear hxb hmo HFe m0 m1 m2 m3 m4 HP
      have HXc : Hid (Ext W5 wb) := HZ.out.trans HXb.out
      clear HXb HXa
      go_wp2_with fail
      refine ⟨InvT2.of 1 ?_ (by omega) HXc, ?_⟩
      · rfl
      · simp [intOf, frT20]
    · rw [show (((1 : Nat)) : Int) = 1 from rfl]
      have di : decide ((1 : Int) < 3) = true := by decide
      have hwk : IntKind.i64.wrap ((1 : Int) + 1) = 2 := by decide
      clear hlt hk hu0 hu1
      have HWz : Hid (Ext W wz) := HX5.out.trans HZ.out
      have HP := Lib.hid (HP1.out.ext HWz.out)
      obtain ⟨s0, s1, s2, s3, s4, s5, s6, s7, s8, s9, s10, s11, s12, s13, s14⟩ := HSb.out wz HZ.out
      clear s0 s1 s2 s3 s4 s10 s11 s12 s13 s14
      have hse := fun w1 (hx : Ext wz w1) => sees_ok (x1.pv A1 G1 T1 lo1 hi1) i j w1 (HP.out.ext hx) HQ1.out.ok (by rw [HQ1.out.len, HNe.out]; omega) (by rw [HQ1.out.len, HNe.out]; omega) (by omega)
      have hs1 : seeF false (x1.pv A1 G1 T1 lo1 hi1).p i j = xb := by rw [← Hxb.out]; exact HQ1.out.see false i j (by rw [HNe.out]; exact hi) (by rw [HNe.out]; exact hj)
      have hs2 : seeF true (x1.pv A1 G1 T1 lo1 hi1).p i j = yb := by rw [← Hyb.out]; exact HQ1.out.see true i j (by rw [HNe.out]; exact hi) (by rw [HNe.out]; exact hj)
      rw [hs1, hs2] at hse
      have HSe := Lib.hid hse
      obtain ⟨Lk, hLk⟩ : ∃ L, fewP (x1.pv A1 G1 T1 lo1 hi1).p = L := ⟨_, rfl⟩
      have hfe := fun w1 (hx : Ext wz w1) => fewest_ok (x1.pv A1 G1 T1 lo1 hi1) w1 (HP.out.ext hx) HQ1.out.ok Lk hLk
      have HFe := Lib.hid hfe
      have hlk : Lk.length = ln := by rw [← hLk, HQ1.out.few]; exact HL.out
      have hlL : Lk = L := by rw [← hLk, HQ1.out.same rfl]; exact HLL.out
      subst hlL
      clear hse hfe hs1 hs2 hLk
      have HLk := Lib.hid hlk
      rw [hlk] at HFe
      clear hlk
      have e0 : (((1 : Nat) : Int) == 0) = false := by decide
      have e1 : ((1 : Int) == 0) = false := by decide
      have e2 : decide ((0 : Int) < ((1 : Nat) : Int)) = true := by decide
      have e3 : decide ((0 : Int) < 1) = true := by decide
      rw [N3.pv_v hlA1 hlG1] at HSe HFe
      go_wp2_with fail
      refine (HSe.out _ ((Ext.refl wz).alloc _)).mono ?_
      rintro e wa ⟨rfl, hxa⟩
      have HXa : Hid (Ext wz wa) := ((Ext.refl wz).alloc _).trans hxa
      have hbx : wa.heap[wz.heap.size]? = _ := hxa.block (World.alloc_heap_new _ _)
      have m0 := (cell_at hbx 0).trans rfl
      have m1 := (cell_at hbx 1).trans rfl
      have m2 := (cell_at hbx 2).trans rfl
      have m3 := (cell_at hbx 3).trans rfl
      have m4 := (cell_at hbx 4).trans rfl
      clear hxa hbx HSe s5 s6 s7 s8 s9
      go_wp2_with fail
      refine (HFe.out _ HXa.out).mono ?_
      rintro e wb ⟨ma, mc, rfl, hmo, hxb⟩
      have HXb : Hid (Ext wz wb) := HXa.out.trans hxb
      have hnn : (ln != ln) = false := by simp
      have hnn2 : ((ln : Int) != (ln : Int)) = false := by simp
      have hxx : (xb != xb) = false := by cases xb <;> rfl
      have hyy : (yb != yb) = false := by cases yb <;> rfl
      have hms : IsSl 1 num wb ⟨ma, mc, Lk⟩ := own_sl (c := mc) (base := wa.heap.size) (e := 3) (by rw [HLk.out]; exact hmo) (by rw [HLk.out]; omega)
      have heq := equal_any ⟨ma, mc, Lk⟩ ⟨la, lc, Lk⟩ wb hms (HLs.out.ext (HZ.out.trans HXb.out))
      dsimp only at heq
      rw [HLk.out, decide_eq_true rfl] at heq
      have HEq := Lib.hid heq
      clear hms heq
      clear hxb hmo HFe m0 m1 m2 m3 m4 HP
      go_wp2_with fail
      refine HEq.out.mono ?_
      rintro e wc ⟨rfl, m, rfl⟩
      have HXc : Hid (Ext W5 (wb.drewN m)) := (HZ.out.trans HXb.out).drewN m
      clear HEq HXb HXa
      generalize wb.drewN m = wd at *
      go_wp2_with fail
      refine ⟨InvT2.of 2 ?_ (by omega) HXc, ?_⟩
      · rfl
      · simp [intOf, frT20]
    · rw [show (((2 : Nat)) : Int) = 2 from rfl]
      have di : decide ((2 : Int) < 3) = true := by decide
      have hwk : IntKind.i64.wrap ((2 : Int) + 1) = 3 := by decide
      clear hlt hk hu0 hu1
      have HWz : Hid (Ext W wz) := HX5.out.trans HZ.out
      have HP := Lib.hid (HP2.out.ext HWz.out)
      obtain ⟨s0, s1, s2, s3, s4, s5, s6, s7, s8, s9, s10, s11, s12, s13, s14⟩ := HSb.out wz HZ.out
      clear s0 s1 s2 s3 s4 s5 s6 s7 s8 s9
      have hse := fun w1 (hx : Ext wz w1) => sees_ok (x2.pv A2 G2 T2 lo2 hi2) i j w1 (HP.out.ext hx) HQ2.out.ok (by rw [HQ2.out.len, HNe.out]; omega) (by rw [HQ2.out.len, HNe.out]; omega) (by omega)
      have hs1 : seeF false (x2.pv A2 G2 T2 lo2 hi2).p i j = xb := by rw [← Hxb.out]; exact HQ2.out.see false i j (by rw [HNe.out]; exact hi) (by rw [HNe.out]; exact hj)
      have hs2 : seeF true (x2.pv A2 G2 T2 lo2 hi2).p i j = yb := by rw [← Hyb.out]; exact HQ2.out.see true i j (by rw [HNe.out]; exact hi) (by rw [HNe.out]; exact hj)
      rw [hs1, hs2] at hse
      have HSe := Lib.hid hse
      obtain ⟨Lk, hLk⟩ : ∃ L, fewP (x2.pv A2 G2 T2 lo2 hi2).p = L := ⟨_, rfl⟩
      have hfe := fun w1 (hx : Ext wz w1) => fewest_ok (x2.pv A2 G2 T2 lo2 hi2) w1 (HP.out.ext hx) HQ2.out.ok Lk hLk
      have HFe := Lib.hid hfe
      have hlk : Lk.length = ln := by rw [← hLk, HQ2.out.few]; exact HL.out
      have hlL : Lk = L := by rw [← hLk, HQ2.out.same rfl]; exact HLL.out
      subst hlL
      clear hse hfe hs1 hs2 hLk
      have HLk := Lib.hid hlk
      rw [hlk] at HFe
      clear hlk
      have e0 : (((2 : Nat) : Int) == 0) = false := by decide
      have e1 : ((2 : Int) == 0) = false := by decide
      have e2 : decide ((0 : Int) < ((2 : Nat) : Int)) = true := by decide
      have e3 : decide ((0 : Int) < 2) = true := by decide
      rw [N3.pv_v hlA2 hlG2] at HSe HFe
      go_wp2_with fail
      refine (HSe.out _ ((Ext.refl wz).alloc _)).mono ?_
      rintro e wa ⟨rfl, hxa⟩
      have HXa : Hid (Ext wz wa) := ((Ext.refl wz).alloc _).trans hxa
      have hbx : wa.heap[wz.heap.size]? = _ := hxa.block (World.alloc_heap_new _ _)
      have m0 := (cell_at hbx 0).trans rfl
      have m1 := (cell_at hbx 1).trans rfl
      have m2 := (cell_at hbx 2).trans rfl
      have m3 := (cell_at hbx 3).trans rfl
      have m4 := (cell_at hbx 4).trans rfl
      clear hxa hbx HSe s10 s11 s12 s13 s14
      go_wp2_with fail
      refine (HFe.out _ HXa.out).mono ?_
      rintro e wb ⟨ma, mc, rfl, hmo, hxb⟩
      have HXb : Hid (Ext wz wb) := HXa.out.trans hxb
      have hnn : (ln != ln) = false := by simp
      have hnn2 : ((ln : Int) != (ln : Int)) = false := by simp
      have hxx : (xb != xb) = false := by cases xb <;> rfl
      have hyy : (yb != yb) = false := by cases yb <;> rfl
      have hms : IsSl 1 num wb ⟨ma, mc, Lk⟩ := own_sl (c := mc) (base := wa.heap.size) (e := 3) (by rw [HLk.out]; exact hmo) (by rw [HLk.out]; omega)
      have heq := equal_any ⟨ma, mc, Lk⟩ ⟨la, lc, Lk⟩ wb hms (HLs.out.ext (HZ.out.trans HXb.out))
      dsimp only at heq
      rw [HLk.out, decide_eq_true rfl] at heq
      have HEq := Lib.hid heq
      clear hms heq
      clear hxb hmo HFe m0 m1 m2 m3 m4 HP
      go_wp2_with fail
      refine HEq.out.mono ?_
      rintro e wc ⟨rfl, m, rfl⟩
      have HXc : Hid (Ext W5 (wb.drewN m)) := (HZ.out.trans HXb.out).drewN m
      clear HEq HXb HXa
      generalize wb.drewN m = wd at *
      go_wp2_with fail
      refine ⟨InvT2.of 3 ?_ (by omega) HXc, ?_⟩
      · rfl
      · simp [intOf, frT20]
  · obtain rfl : k = 3 := by omega
    have di : decide ((3 : Int) < 3) = false := by decide
    have HXe : Hid (Ext w wz) := (HX.out.trans HX5.out).trans HZ.out
    go_wp2_with (go_at_call 19; refine (awake_ok _).mono ?_; rintro e w7 ⟨rfl, hx7⟩; have HX7 : Hid (Ext w w7) := HXe.out.trans hx7; clear hx7)
    go_ret
    exact ⟨rfl, HX7.out⟩
end Go.Proofs.Ytfognlealnhodaa

namespace Go.Proofs.Ytfognlealnhodaa
open Go.RowKit

noncomputable def tail6_8 : Code := ((Try.f6.body.bind (tailT 8)).getD .skip)
theorem turn_tail17' (t : Array Value) (pb n i j : Nat) (v : PV) (x0 x1 x2 : N3) (s0 : Nat) (A0 A1 A2 : List Nat) (G0 G1 G2 : List (Nat × Nat)) (T0 T1 T2 lo0 lo1 lo2 hi0 hi1 hi2 : Nat) (w W : World) (ht : t = frT17 pb n i j x0.B x1.B x2.B (fun j => t.getD j undef)) (HN : Hid (v.at'.l.length = n)) (HP : Hid (IsP W v)) (HF : Hid (Five W pb v)) (HOk : Hid (OkP v.p)) (H3 : Hid (T3 W s0 n x0 x1 x2 A0 A1 A2 G0 G1 G2 T0 T1 T2 lo0 lo1 lo2 hi0 hi1 hi2))
    (HQ0 : Hid (Alike v.p (x0.pv A0 G0 T0 lo0 hi0).p (fun i => v.p.A.length - 1 - i) false)) (HQ1 : Hid (Alike v.p (x1.pv A1 G1 T1 lo1 hi1).p id true)) (HQ2 : Hid (Alike v.p (x2.pv A2 G2 T2 lo2 hi2).p id true)) (hi : i < n) (hj : j < n) (hij : i ≠ j) (hn40 : n ≤ 40) (HX : Hid (Ext w W)) :
    Code.wp Try.prog tail6_17 (bodyPost Try.prog Try.f6 fun e w' => e = .returned (.bool true) ∧ Ext w w') ⟨t, []⟩ W := by
  rw [ht]
  exact turn_tail17 _ pb n i j v x0 x1 x2 s0 A0 A1 A2 G0 G1 G2 T0 T1 T2 lo0 lo1 lo2 hi0 hi1 hi2 w W HN HP HF HOk H3 HQ0 HQ1 HQ2 hi hj hij hn40 HX
def frT8 (pb n i j b0 b1 b2 : Nat) (xy : Int) (X : Nat → Value) : Array Value := #[X 0, X 1, X 2, .int .i64 xy, X 4, X 5, X 6, X 7, X 8, .pointer (some ⟨pb, 0, none⟩), X 10, .int .i64 (n : Int), .int .i64 (i : Int), .int .i64 (j : Int), .pointer (some ⟨b0, 0, none⟩), .pointer (some ⟨b1, 0, none⟩), .pointer (some ⟨b2, 0, none⟩), X 17, X 18, X 19, X 20, X 21, X 22, X 23, X 24, X 25, X 26, X 27, X 28, X 29, X 30, X 31, X 32, X 33, X 34, X 35, X 36, X 37, X 38, X 39, X 40, X 41, X 42, X 43, X 44, X 45, X 46, X 47, X 48, X 49, X 50, X 51, X 52, X 53, X 54, X 55, X 56, X 57, X 58, X 59, X 60, X 61, X 62, X 63, X 64, X 65, X 66, X 67, X 68, X 69, X 70, X 71, X 72, X 73, X 74, X 75, X 76, X 77, X 78, X 79, X 80, X 81, X 82, X 83, X 84, X 85, X 86, X 87, X 88, X 89, X 90, X 91, X 92, X 93, X 94, X 95, X 96, X 97, X 98, X 99, X 100, X 101, X 102, X 103, X 104, X 105, X 106, X 107, X 108, X 109, X 110, X 111, X 112, X 113, X 114, X 115, X 116, X 117, X 118, X 119, X 120, X 121, X 122, X 123, X 124, X 125, X 126, X 127, X 128, X 129, X 130, X 131, X 132, X 133, X 134, X 135, X 136, X 137, X 138, X 139, X 140, X 141, X 142, X 143, X 144, X 145, X 146, X 147, X 148, X 149, X 150, X 151, X 152, X 153, X 154, X 155, X 156, X 157, X 158, X 159, X 160, X 161, X 162, X 163, X 164, X 165, X 166, X 167, X 168, X 169, X 170, X 171, X 172, X 173, X 174, X 175, X 176, X 177, X 178, X 179, X 180, X 181, X 182, X 183, X 184, X 185, X 186, X 187, X 188, X 189, X 190, X 191, X 192, X 193, X 194, X 195, X 196, X 197, X 198, X 199, X 200, X 201, X 202, X 203, X 204, X 205, X 206, X 207, X 208, X 209, X 210, X 211, X 212, X 213, X 214, X 215, X 216, X 217]
def frT10 (pb n i j b0 b1 b2 ab ao ac k : Nat) (xy : Int) (X : Nat → Value) : Array Value := #[X 0, X 1, X 2, .int .i64 xy, X 4, X 5, X 6, X 7, X 8, .pointer (some ⟨pb, 0, none⟩), X 10, .int .i64 (n : Int), .int .i64 (i : Int), .int .i64 (j : Int), .pointer (some ⟨b0, 0, none⟩), .pointer (some ⟨b1, 0, none⟩), .pointer (some ⟨b2, 0, none⟩), X 17, X 18, X 19, X 20, X 21, X 22, X 23, X 24, X 25, X 26, X 27, X 28, X 29, X 30, X 31, X 32, X 33, X 34, X 35, X 36, X 37, X 38, X 39, X 40, X 41, X 42, X 43, X 44, X 45, X 46, X 47, X 48, X 49, X 50, X 51, X 52, X 53, X 54, X 55, X 56, X 57, X 58, X 59, X 60, X 61, X 62, X 63, X 64, X 65, X 66, X 67, X 68, X 69, X 70, X 71, X 72, X 73, X 74, X 75, X 76, X 77, X 78, X 79, .slice (some ⟨ab, ao, none⟩) n ac, .int .i64 (n : Int), .int .i64 (k : Int), X 83, X 84, X 85, X 86, X 87, X 88, X 89, X 90, X 91, X 92, X 93, X 94, X 95, X 96, X 97, X 98, X 99, X 100, X 101, X 102, X 103, X 104, X 105, X 106, X 107, X 108, X 109, X 110, X 111, X 112, X 113, X 114, X 115, X 116, X 117, X 118, X 119, X 120, X 121, X 122, X 123, X 124, X 125, X 126, X 127, X 128, X 129, X 130, X 131, X 132, X 133, X 134, X 135, X 136, X 137, X 138, X 139, X 140, X 141, X 142, X 143, X 144, X 145, X 146, X 147, X 148, X 149, X 150, X 151, X 152, X 153, X 154, X 155, X 156, X 157, X 158, X 159, X 160, X 161, X 162, X 163, X 164, X 165, X 166, X 167, X 168, X 169, X 170, X 171, X 172, X 173, X 174, X 175, X 176, X 177, X 178, X 179, X 180, X 181, X 182, X 183, X 184, X 185, X 186, X 187, X 188, X 189, X 190, X 191, X 192, X 193, X 194, X 195, X 196, X 197, X 198, X 199, X 200, X 201, X 202, X 203, X 204, X 205, X 206, X 207, X 208, X 209, X 210, X 211, X 212, X 213, X 214, X 215, X 216, X 217]

/-- The places of the three copies while they are filled. -/
def bkL (A : List Nat) (n1 n k : Nat) : List Nat := fl (fun q => decide (n ≤ q + k)) (fun q => (A[n1]?.getD 0) - (A[n1 - q]?.getD 0)) (fun q => A[q]?.getD 0) n
def faL (A : List Nat) (u n k : Nat) : List Nat := fl (fun q => decide (q < k)) (fun q => A[q]?.getD 0 + u) (fun q => A[q]?.getD 0) n
def wiL (A : List Nat) (n k : Nat) : List Nat := fl (fun q => decide (q < k)) (fun q => 2 * A[q]?.getD 0) (fun q => A[q]?.getD 0) n
section
variable {A : List Nat} {n n1 u k : Nat}
theorem bkL_zero (h : A.length = n) : bkL A n1 n 0 = A := (fl_none (fun q hq => decide_eq_false (by omega))).trans (range_get A n h)
theorem faL_zero (h : A.length = n) : faL A u n 0 = A := (fl_none (fun q hq => decide_eq_false (by omega))).trans (range_get A n h)
theorem wiL_zero (h : A.length = n) : wiL A n 0 = A := (fl_none (fun q hq => decide_eq_false (by omega))).trans (range_get A n h)
theorem bkL_set {m : Nat} (h1 : n1 + 1 = n) (h : m + k = n1) : (bkL A n1 n k).set m (A[n1]?.getD 0 - A[k]?.getD 0) = bkL A n1 n (k + 1) := by
  have e := fl_set (P := fun q => decide (n ≤ q + k)) (P' := fun q => decide (n ≤ q + (k + 1))) (new := fun q => (A[n1]?.getD 0) - (A[n1 - q]?.getD 0)) (old := fun q => A[q]?.getD 0) (n := n) (i := m) (fun q hq => by
    rw [Bool.eq_iff_iff]; simp only [Bool.or_eq_true, decide_eq_true_eq]; omega)
  rw [show n1 - m = k by omega] at e
  exact e
theorem faL_set : (faL A u n k).set k (A[k]?.getD 0 + u) = faL A u n (k + 1) :=
  fl_set (P := fun q => decide (q < k)) (P' := fun q => decide (q < k + 1)) (new := fun q => A[q]?.getD 0 + u) (fun q hq => by
    rw [Bool.eq_iff_iff]; simp only [Bool.or_eq_true, decide_eq_true_eq]; omega)
theorem wiL_set : (wiL A n k).set k (2 * A[k]?.getD 0) = wiL A n (k + 1) :=
  fl_set (P := fun q => decide (q < k)) (P' := fun q => decide (q < k + 1)) (new := fun q => 2 * A[q]?.getD 0) (fun q hq => by
    rw [Bool.eq_iff_iff]; simp only [Bool.or_eq_true, decide_eq_true_eq]; omega)
theorem bkL_end (h : A.length = n) (h1 : n1 + 1 = n) : bkL A n1 n n = (A.map fun x => A[n - 1]?.getD 0 - x).reverse := by
  unfold bkL
  rw [fl_all (fun q hq => decide_eq_true (by omega))]
  apply List.ext_getElem
  · simp [h]
  · intro q h2 h3
    simp only [List.length_map, List.length_range] at h2
    have e1 : A.length - 1 - q = n1 - q := by omega
    have e2 : n - 1 = n1 := by omega
    rw [List.getElem_reverse]
    simp only [List.getElem_map, List.getElem_range, List.length_map, e1, e2]
    rw [List.getElem?_eq_getElem (show n1 - q < A.length by omega)]
    rfl
theorem faL_end (h : A.length = n) : faL A u n n = A.map (· + u) := by
  unfold faL
  rw [fl_all (fun q hq => decide_eq_true hq)]
  apply List.ext_getElem
  · simp [h]
  · intro q h2 h3
    simp only [List.length_map] at h3
    simp [h3]
theorem wiL_end (h : A.length = n) : wiL A n n = A.map (2 * ·) := by
  unfold wiL
  rw [fl_all (fun q hq => decide_eq_true hq)]
  apply List.ext_getElem
  · simp [h]
  · intro q h2 h3
    simp only [List.length_map] at h3
    simp [h3]
end
def InvT1 (pb n n1 i j u : Nat) (ab ao ac : Nat) (xy : Int) (v : PV) (x0 x1 x2 : N3) (G0 : List (Nat × Nat)) (V0 : World) (s0 : Nat) (ac' : Act) (wr : World) : Prop :=
  ∃ (X : Nat → Value) (k : Nat), ac' = { tmps := frT10 pb n i j x0.B x1.B x2.B ab ao ac k xy X, defers := [] } ∧ k ≤ n ∧ Hid (Ext V0 wr) ∧ Hid (T3 wr s0 n x0 x1 x2 (bkL v.at'.l n1 n k) (faL v.at'.l u n k) (wiL v.at'.l n k) G0 v.gr.l v.gr.l v.T v.T v.T v.lo v.lo v.lo v.hi v.hi v.hi)
theorem InvT1.of {pb n n1 i j u : Nat} {ab ao ac : Nat} {xy : Int} {v : PV} {x0 x1 x2 : N3} {G0 : List (Nat × Nat)} {V0 : World} {s0 : Nat} {t : Array Value} {wr : World} (k : Nat) (ht : t = frT10 pb n i j x0.B x1.B x2.B ab ao ac k xy (fun j => t.getD j undef)) (h1 : k ≤ n) (h2 : Hid (Ext V0 wr)) (h3 : Hid (T3 wr s0 n x0 x1 x2 (bkL v.at'.l n1 n k) (faL v.at'.l u n k) (wiL v.at'.l n k) G0 v.gr.l v.gr.l v.T v.T v.T v.lo v.lo v.lo v.hi v.hi v.hi)) :
    InvT1 pb n n1 i j u ab ao ac xy v x0 x1 x2 G0 V0 s0 { tmps := t, defers := [] } wr := ⟨_, k, by rw [← ht], h1, h2, h3⟩

set_option maxRecDepth 1000000 in
set_option maxHeartbeats 16000000 in
theorem turn_tail8 (X : Nat → Value) (pb n i j : Nat) (xy : Int) (v : PV) (a b : Nat) (x0 x1 x2 : N3) (w V0 W : World) (HN : Hid (v.at'.l.length = n)) (HG : Hid (v.gr.l.length = n)) (HP : Hid (IsP V0 v)) (HF : Hid (Five V0 pb v)) (HOk : Hid (OkP v.p)) (HA : Hid (∀ x ∈ v.at'.l, x ≤ 4050)) (Hab : Hid (v.lo = 4 * a ∧ v.hi = 4 * b)) (hab : a ≤ 1000 ∧ b ≤ 1000) (HE : Hid (Ext V0 W))
    (H3 : Hid (T3 W V0.heap.size n x0 x1 x2 v.at'.l v.at'.l v.at'.l v.gr.l v.gr.l v.gr.l v.T v.T v.T v.lo v.lo v.lo v.hi v.hi v.hi)) (hi : i < n) (hj : j < n) (hij : i ≠ j) (hn40 : n ≤ 40) (HX : Hid (Ext w V0)) :
    Code.wp Try.prog tail6_8 (bodyPost Try.prog Try.f6 fun e w' => e = .returned (.bool true) ∧ Ext w w') ⟨frT8 pb n i j x0.B x1.B x2.B xy X, []⟩ W := by
  conv => arg 2; whnf
  conv => arg 4; dsimp only [frT8]
  obtain ⟨n1, hn1⟩ : ∃ n1, n1 + 1 = n := ⟨n - 1, by omega⟩
  obtain ⟨ab, ao, hab', hac⟩ := HP.out.at'.2.2.resolve_left (by rw [HN.out]; omega)
  have HAc : Hid (∀ u, Ext V0 u → ∀ q, q < n → u.cell? ⟨ab, ao + q, none⟩ = some (.int .i64 ((v.at'.l[q]?.getD 0 : Nat) : Int))) := fun u hu q hq => by
    have h := hu.cell (hac q (by rw [HN.out]; exact hq) 0 (by omega))
    rw [List.getElem?_eq_getElem (by rw [HN.out]; exact hq)]
    simpa [num] using h
  have HFv : Hid (∀ u, Ext V0 u → u.cell? ⟨pb, 0, none⟩ = some (.slice (some ⟨ab, ao, none⟩) n v.at'.c) ∧ u.cell? ⟨pb, 3, none⟩ = some (.int .i64 (v.lo : Int)) ∧ u.cell? ⟨pb, 4, none⟩ = some (.int .i64 (v.hi : Int))) := fun u hu => by
    obtain ⟨e0, e1, e2, e3, e4⟩ := HF.out.ext hu
    rw [hab', HN.out] at e0
    exact ⟨e0, e3, e4⟩
  have hrv := reverse_any x0.r x0.q n v.gr.l W H3.out.c0.sp HG.out (by omega) (by omega)
  have HRv := Lib.hid hrv
  obtain ⟨p0, p1, p2, p3, p4⟩ := H3.out.c0.box_at
  clear hac hab' hrv p0 p2 p3 p4
  go_wp2_with fail
  refine HRv.out.mono ?_
  rintro e w1 ⟨rfl, hr1, hk1⟩
  have HE1 : Hid (Ext V0 w1) := ext_keep HE.out hk1 (fun q hq => by have := H3.out.c0.low; omega)
  have H31 := Lib.hid (H3.out.rev0 (by rw [List.length_reverse]; exact HG.out) hr1 hk1)
  clear hr1 hk1 HRv p1 HE H3
  obtain ⟨t0, t3, t4⟩ := HFv.out w1 HE1.out
  obtain ⟨u, hu⟩ : ∃ u, foldN xy 9000 = u := ⟨_, rfl⟩
  have HFo : Hid (∀ w1, Calls Try.prog 20 #[.int .i64 xy, .int .i64 9000] w1 fun e w' => e = .returned (.int .i64 (u : Int)) ∧ w1 = w') := fun w1 => by rw [← hu]; exact fold_q xy 9000 w1 (by omega) (by omega)
  have hu9 : u < 9000 := by rw [← hu]; exact (foldN_spec xy 9000 (by omega)).1
  clear hu
  go_wp2_with fail
  refine wp_loop (InvT1 pb n n1 i j u ab ao v.at'.c xy v x0 x1 x2 v.gr.l.reverse V0 V0.heap.size) (fun a _ => n - (intOf (a.tmps.getD 82 undef)).toNat) (InvT1.of 0 rfl (Nat.zero_le _) HE1 (by show T3 _ _ _ _ _ _ _ _ _ _ _ _ _ _ _ _ _ _ _ _ _; rw [bkL_zero HN.out, faL_zero HN.out, wiL_zero HN.out]; exact H31.out)) ?_
  clear t0 t3 t4 HE1 H31
  rintro ac' wr ⟨X1, k, rfl, hk, HE, H3⟩
  conv => arg 4; dsimp only [frT10]
  obtain ⟨t0, t3, t4⟩ := HFv.out wr HE.out
  by_cases hlt : k < n
  · have dk : decide ((k : Int) < (n : Int)) = true := decide_eq_true (by omega)
    have hwk : IntKind.i64.wrap ((k : Int) + 1) = ((k + 1 : Nat) : Int) := by rw [IntWalk.i64_in _ (by omega)]; omega
    obtain ⟨m, hm⟩ : ∃ m, m + k = n1 := ⟨n1 - k, by omega⟩
    have ck := HAc.out wr HE.out k hlt
    have cl := HAc.out wr HE.out n1 (by omega)
    have hset0 := bkL_set (A := v.at'.l) (n := n) hn1 hm
    have hset1 := faL_set (A := v.at'.l) (u := u) (n := n) (k := k)
    have hset2 := wiL_set (A := v.at'.l) (n := n) (k := k)
    have hmem : ∀ q, q < n → v.at'.l[q]?.getD 0 ≤ 4050 := fun q hq => by rw [List.getElem?_eq_getElem (by rw [HN.out]; exact hq)]; exact HA.out _ (List.getElem_mem _)
    have hx50 := hmem k hlt
    have hl50 := hmem n1 (by omega)
    have hxl : v.at'.l[k]?.getD 0 ≤ v.at'.l[n1]?.getD 0 := by
      by_cases e : k = n1
      · rw [e]; exact Nat.le_refl _
      · have := HOk.out.a_lt (show k < n1 by omega) (by show n1 < v.at'.l.length; rw [HN.out]; omega)
        exact Nat.le_of_lt this
    generalize v.at'.l[k]?.getD 0 = x at *
    generalize v.at'.l[n1]?.getD 0 = la at *
    obtain ⟨z, hz⟩ : ∃ z, la - x = z := ⟨_, rfl⟩
    rw [hz] at hset0
    have w1 : IntKind.i64.wrap ((n : Int) - 1) = (n1 : Int) := by rw [IntWalk.i64_in _ (by omega)]; omega
    have w2 : IntKind.i64.wrap ((n1 : Int) - (k : Int)) = (m : Int) := by rw [IntWalk.i64_in _ (by omega)]; omega
    have w3 : IntKind.i64.wrap ((la : Int) - (x : Int)) = (z : Int) := by rw [IntWalk.i64_in _ (by omega)]; omega
    have i0 : (0 : Int) ≤ (k : Int) := by omega
    have i1 : (k : Int) < (n : Int) := by omega
    have i2 : (0 : Int) ≤ (m : Int) := by omega
    have i3 : (m : Int) < (n : Int) := by omega
    have i4 : (0 : Int) ≤ (n1 : Int) := by omega
    have i5 : (n1 : Int) < (n : Int) := by omega
    have b0 := H3.out.c0.box_at.1
    have s0c := H3.out.c0.row.cell m (by rw [H3.out.c0.la]; omega)
    have s0f := H3.out.c0.row.frozen m
    obtain ⟨y0, hy0⟩ : ∃ y, wr.cell? ⟨x0.g, m, none⟩ = some y := ⟨_, s0c⟩
    have H3a : Hid (T3 (wr.setCell ⟨x0.g, m, none⟩ (.int .i64 (z : Int))) V0.heap.size n x0 x1 x2 (bkL v.at'.l n1 n (k + 1)) (faL v.at'.l u n k) (wiL v.at'.l n k) v.gr.l.reverse v.gr.l v.gr.l v.T v.T v.T v.lo v.lo v.lo v.hi v.hi v.hi) := by
      have h := H3.out.setA0 m z (by omega)
      rw [hset0] at h
      exact h
    have HEa : Hid (Ext V0 (wr.setCell ⟨x0.g, m, none⟩ (.int .i64 (z : Int)))) := HE.out.setCell H3.out.c0.low.1 _
    have HL1 : Hid ((faL v.at'.l u n k).set k (x + u) = faL v.at'.l u n (k + 1)) := hset1
    have HL2 : Hid ((wiL v.at'.l n k).set k (2 * x) = wiL v.at'.l n (k + 1)) := hset2
    clear hset0 hset1 hset2 hmem s0c hz H3 HE t3 t4
    go_upto_region 12 with (fail)
    go_region
    clear b0 s0f hy0 t0 ck cl w1 w2 w3
    have HEb : Hid (Ext V0 ((wr.setCell ⟨x0.g, m, none⟩ (.int .i64 (z : Int))).drew)) := HEa.out.drew
    have H3b := Lib.hid (H3a.out.ext (Ext.refl (wr.setCell ⟨x0.g, m, none⟩ (.int .i64 (z : Int)))).drew)
    clear HEa H3a
    generalize (wr.setCell ⟨x0.g, m, none⟩ (.int .i64 (z : Int))).drew = wA at *
    have q0 := H3b.out.c1.box_at.1
    have HS1 : Hid (∀ u, Keep (fun q => q ≠ x1.g) wA u → u.cell? ⟨x1.B, 0, none⟩ = some (.slice (some ⟨x1.g, 0, none⟩) n x1.k)) := fun u hu => hu.cell q0 (Ne.symm (H3b.out.c1.gr H3b.out.c1).2.1)
    have s1c := H3b.out.c1.row.cell k (by rw [H3b.out.c1.la]; exact hlt)
    have s1f := H3b.out.c1.row.frozen k
    obtain ⟨y1, hy1⟩ : ∃ y, wA.cell? ⟨x1.g, k, none⟩ = some y := ⟨_, s1c⟩
    have w4 : IntKind.i64.wrap ((x : Int) + (u : Int)) = ((x + u : Nat) : Int) := by rw [IntWalk.i64_in _ (by omega)]; omega
    clear s1c
    go_upto_region 13 with (fail)
    go_region_held3 (fun u => u.cell? ⟨x1.B, 0, none⟩ = some (.slice (some ⟨x1.g, 0, none⟩) n x1.k))
      ((refine HS1.out _ ?_; (repeat (first | exact Keep.refl _ _ | refine Keep.drew ?_ | refine Keep.setCell ?_ _ _ (fun _ h => h rfl)))))
      (first
        | (go_at_call 20; refine (HFo.out _).mono ?_; rintro e we ⟨rfl, rfl⟩))
    clear hy1 s1f HS1 q0 w4
    have H3c : Hid (T3 ((wA.setCell ⟨x1.g, k, none⟩ (.int .i64 ((x : Int) + (u : Int)))).drew) V0.heap.size n x0 x1 x2 (bkL v.at'.l n1 n (k + 1)) (faL v.at'.l u n (k + 1)) (wiL v.at'.l n k) v.gr.l.reverse v.gr.l v.gr.l v.T v.T v.T v.lo v.lo v.lo v.hi v.hi v.hi) := by
      have h := H3b.out.setA1 k (x + u) hlt
      rw [HL1.out, Int.natCast_add] at h
      exact h.ext (Ext.refl _).drew
    have HEc : Hid (Ext V0 ((wA.setCell ⟨x1.g, k, none⟩ (.int .i64 ((x : Int) + (u : Int)))).drew)) := (HEb.out.setCell H3b.out.c1.low.1 _).drew
    clear HEb H3b HL1
    generalize (wA.setCell ⟨x1.g, k, none⟩ (.int .i64 ((x : Int) + (u : Int)))).drew = wB at *
    have r0 := H3c.out.c2.box_at.1
    have s2c := H3c.out.c2.row.cell k (by rw [H3c.out.c2.la]; exact hlt)
    have s2f := H3c.out.c2.row.frozen k
    obtain ⟨y2, hy2⟩ : ∃ y, wB.cell? ⟨x2.g, k, none⟩ = some y := ⟨_, s2c⟩
    have w5 : IntKind.i64.wrap (2 * (x : Int)) = ((2 * x : Nat) : Int) := by rw [IntWalk.i64_in _ (by omega)]; omega
    have H3d : Hid (T3 (wB.setCell ⟨x2.g, k, none⟩ (.int .i64 (2 * (x : Int)))) V0.heap.size n x0 x1 x2 (bkL v.at'.l n1 n (k + 1)) (faL v.at'.l u n (k + 1)) (wiL v.at'.l n (k + 1)) v.gr.l.reverse v.gr.l v.gr.l v.T v.T v.T v.lo v.lo v.lo v.hi v.hi v.hi) := by
      have h := H3c.out.setA2 k (2 * x) hlt
      rw [HL2.out, Int.natCast_mul] at h
      exact h
    have HEd : Hid (Ext V0 (wB.setCell ⟨x2.g, k, none⟩ (.int .i64 (2 * (x : Int))))) := HEc.out.setCell H3c.out.c2.low.1 _
    clear s2c H3c HEc HL2
    go_wp2_with fail
    refine ⟨InvT1.of (k + 1) ?_ (by omega) HEd H3d, ?_⟩
    · rfl
    · simp [intOf, frT10]; omega
  · obtain rfl : k = n := by omega
    have dk : decide ((k : Int) < (k : Int)) = false := decide_eq_false (by omega)
    obtain ⟨hab1, hab2⟩ := Hab.out
    have w1 : ((v.lo : Int)) / 4 = (a : Int) := by omega
    have w2 : ((v.hi : Int)) / 4 = (b : Int) := by omega
    have w1' : ((v.lo : Int)).tdiv 4 = (a : Int) := by rw [Int.tdiv_eq_ediv_of_nonneg (by omega)]; omega
    have w2' : ((v.hi : Int)).tdiv 4 = (b : Int) := by rw [Int.tdiv_eq_ediv_of_nonneg (by omega)]; omega
    have w3 : IntKind.i64.wrap (a : Int) = (a : Int) := IntWalk.i64_in _ (by omega)
    have w4 : IntKind.i64.wrap (b : Int) = (b : Int) := IntWalk.i64_in _ (by omega)
    have hvlo : (0 : Int) ≤ (v.lo : Int) := by omega
    have hvhi : (0 : Int) ≤ (v.hi : Int) := by omega
    have HE2 : Hid (Ext V0 (wr.alloc (.cells #[.int .i64 (a : Int), .int .i64 (b : Int)] 28))) := HE.out.alloc _
    have H32 := Lib.hid (H3.out.ext ((Ext.refl wr).alloc (.cells #[.int .i64 (a : Int), .int .i64 (b : Int)] 28)))
    obtain ⟨-, -, -, b3, b4⟩ := H32.out.c2.box_at
    have f3 : (wr.alloc (.cells #[.int .i64 (a : Int), .int .i64 (b : Int)] 28)).frozen? ⟨x2.B, 3, none⟩ = false := by simp [World.frozen?, H32.out.c2.box]
    have f4 : (wr.alloc (.cells #[.int .i64 (a : Int), .int .i64 (b : Int)] 28)).frozen? ⟨x2.B, 4, none⟩ = false := by simp [World.frozen?, H32.out.c2.box]
    have HBx : Hid (x2.B < wr.heap.size) := (Array.getElem?_eq_some_iff.1 H3.out.c2.box).1
    clear hab1 hab2
    go_wp2_with fail
    refine (span_any _ _ _).mono ?_
    rintro e w' ⟨rfl, rfl⟩
    have H33 := Lib.hid (H32.out.bend2 a b)
    have HE3 : Hid (Ext V0 (((wr.alloc (.cells #[.int .i64 (a : Int), .int .i64 (b : Int)] 28)).setCell ⟨x2.B, 3, none⟩ (.int .i64 (a : Int))).setCell ⟨x2.B, 4, none⟩ (.int .i64 (b : Int)))) := (HE2.out.setCell H32.out.c2.low.2.2 _).setCell H32.out.c2.low.2.2 _
    have hA := HN.out
    have hG := HG.out
    rw [bkL_end hA hn1, faL_end hA, wiL_end hA] at H33
    have Q0 : Hid (Alike v.p (x0.pv (v.at'.l.map fun x => v.at'.l[k - 1]?.getD 0 - x).reverse v.gr.l.reverse v.T v.lo v.hi).p (fun i => v.p.A.length - 1 - i) false) := by
      have h := alike_back HOk.out
      have e : backP v.p = (x0.pv (v.at'.l.map fun x => v.at'.l[k - 1]?.getD 0 - x).reverse v.gr.l.reverse v.T v.lo v.hi).p := by
        show (⟨(v.at'.l.map fun x => v.at'.l[v.at'.l.length - 1]?.getD 0 - x).reverse, v.gr.l.reverse, v.T, v.lo, v.hi⟩ : Prof) = ⟨(v.at'.l.map fun x => v.at'.l[k - 1]?.getD 0 - x).reverse, v.gr.l.reverse, v.T, v.lo, v.hi⟩
        rw [hA]
      rw [e] at h
      exact h
    have Q1 : Hid (Alike v.p (x1.pv (v.at'.l.map (· + u)) v.gr.l v.T v.lo v.hi).p id true) := alike_far HOk.out u (fun x hx => by have := HA.out x hx; omega)
    have Q2 : Hid (Alike v.p (x2.pv (v.at'.l.map (2 * ·)) v.gr.l v.T a b).p id true) := by
      have e : v.p = ⟨v.at'.l, v.gr.l, v.T, 4 * a, 4 * b⟩ := by
        show (⟨v.at'.l, v.gr.l, v.T, v.lo, v.hi⟩ : Prof) = _
        rw [Hab.out.1, Hab.out.2]
      have ho := HOk.out
      rw [e] at ho
      have h := alike_wide ho (fun x hx => by have := HA.out x hx; omega)
      rw [← e] at h
      exact h
    have HP3 := Lib.hid (HP.out.ext HE3.out)
    have HF3 := Lib.hid (HF.out.ext HE3.out)
    have HXw : Hid (Ext w (((wr.alloc (.cells #[.int .i64 (a : Int), .int .i64 (b : Int)] 28)).setCell ⟨x2.B, 3, none⟩ (.int .i64 (a : Int))).setCell ⟨x2.B, 4, none⟩ (.int .i64 (b : Int)))) := HX.out.trans HE3.out
    clear hA hG H32 HE2 HE3 H3 HE HP HF HAc HFv HA t0 t3 t4 w1 w2 w1' w2'
    dsimp only
    repeat (first
      | exact turn_tail17' _ pb k i j v x0 x1 x2 V0.heap.size _ _ _ _ _ _ v.T v.T v.T v.lo v.lo a v.hi v.hi b w _ rfl HN HP3 HF3 HOk H33 Q0 Q1 Q2 hi hj hij hn40 HXw
      | go_step)
/-- The same, from slots as they lie. -/
theorem turn_tail8' (t : Array Value) (pb n i j : Nat) (xy : Int) (v : PV) (a b : Nat) (x0 x1 x2 : N3) (w V0 W : World) (ht : t = frT8 pb n i j x0.B x1.B x2.B xy (fun j => t.getD j undef)) (HN : Hid (v.at'.l.length = n)) (HG : Hid (v.gr.l.length = n)) (HP : Hid (IsP V0 v)) (HF : Hid (Five V0 pb v)) (HOk : Hid (OkP v.p)) (HA : Hid (∀ x ∈ v.at'.l, x ≤ 4050)) (Hab : Hid (v.lo = 4 * a ∧ v.hi = 4 * b)) (hab : a ≤ 1000 ∧ b ≤ 1000) (HE : Hid (Ext V0 W))
    (H3 : Hid (T3 W V0.heap.size n x0 x1 x2 v.at'.l v.at'.l v.at'.l v.gr.l v.gr.l v.gr.l v.T v.T v.T v.lo v.lo v.lo v.hi v.hi v.hi)) (hi : i < n) (hj : j < n) (hij : i ≠ j) (hn40 : n ≤ 40) (HX : Hid (Ext w V0)) :
    Code.wp Try.prog tail6_8 (bodyPost Try.prog Try.f6 fun e w' => e = .returned (.bool true) ∧ Ext w w') ⟨t, []⟩ W := by
  rw [ht]
  exact turn_tail8 _ pb n i j xy v a b x0 x1 x2 w V0 W HN HG HP HF HOk HA Hab hab HE H3 hi hj hij hn40 HX
end Go.Proofs.Ytfognlealnhodaa

namespace Go.Proofs.Ytfognlealnhodaa
open Go.RowKit

set_option maxRecDepth 1000000 in
set_option maxHeartbeats 16000000 in
theorem turned_any (a0 : Option Addr) (n0 c0 : Nat) (xa xb xy : Int) (w : World) (h0 : IsBytes w a0 n0 c0) :
    Calls Try.prog 6 #[.slice a0 n0 c0, .int .i64 xa, .int .i64 xb, .int .i64 xy] w fun e w' => e = .returned (.bool true) ∧ Ext w w' := by
  have H0 := Lib.hid h0
  clear h0
  go_enter Try.func6, Try.ntmps6
  go_wp2_with fail
  refine (of_any a0 n0 c0 w H0.out).mono ?_
  rintro e w1 ⟨rfl, hd1, hx1⟩
  have HD1 := Lib.hid hd1
  have HX1 := Lib.hid hx1
  clear hd1 hx1
  go_wp2_with fail
  refine (made_anyB w.heap.size a0 n0 c0 0 10 w1 HD1.out (by omega) (by omega) (by omega)).mono ?_
  rintro e w3 ⟨v, T, k3, rfl, hok, ⟨hA, hT, hhi4⟩, hm10, hgl, hhi, hgb, htl, htr, hoA, hoG, hoT, -, -, hk3⟩
  have HX3 : Hid (Ext w w3) := ext_keep HX1.out hk3 (fun i hi => by omega)
  have HOk := Lib.hid hok
  have hM : v.at'.l.length ≤ 10 ∧ 2 ≤ v.at'.l.length := ⟨hm10, hok.n1⟩
  have HPp : Hid (IsP w3 v) := ⟨own_sl hoA (show v.at'.l.length ≤ 1000000 by omega), own_slG hoG (show v.gr.l.length ≤ 1000000 by omega)⟩
  have HA : Hid (∀ x ∈ v.at'.l, x ≤ 4050) := fun x hx => by have := hA x hx; omega
  have HGl : Hid (v.gr.l.length = v.at'.l.length) := hgl
  have hlh : v.lo ≤ v.hi := hok.bb.1
  clear hoA hoG hoT hk3 hok hm10 hgl hhi hgb htl htr HD1 HX1 hA hT
  obtain ⟨a, ha⟩ : ∃ a, v.lo / 4 = a := ⟨_, rfl⟩
  obtain ⟨b, hb⟩ : ∃ b, v.hi / 4 = b := ⟨_, rfl⟩
  obtain ⟨r1, hr1⟩ : ∃ r, v.lo % 4 = r := ⟨_, rfl⟩
  obtain ⟨r2, hr2⟩ : ∃ r, v.hi % 4 = r := ⟨_, rfl⟩
  obtain ⟨c1, hc1⟩ : ∃ c, 4 * a = c := ⟨_, rfl⟩
  obtain ⟨c2, hc2⟩ : ∃ c, 4 * b = c := ⟨_, rfl⟩
  have hab : a ≤ 1000 ∧ b ≤ 1000 := by omega
  have HCc : Hid (c1 = 4 * a ∧ c2 = 4 * b ∧ c1 ≤ c2 ∧ c2 ≤ 1000) := by show _ ∧ _ ∧ _ ∧ _; omega
  have z1 : ((v.lo : Int)) % 4 = (r1 : Int) := by omega
  have z2 : ((v.hi : Int)) % 4 = (r2 : Int) := by omega
  have z1' : ((v.lo : Int)).tmod 4 = (r1 : Int) := by rw [Int.tmod_eq_emod_of_nonneg (by omega)]; omega
  have z2' : ((v.hi : Int)).tmod 4 = (r2 : Int) := by rw [Int.tmod_eq_emod_of_nonneg (by omega)]; omega
  have z3 : IntKind.i64.wrap (r1 : Int) = (r1 : Int) := IntWalk.i64_in _ (by omega)
  have z4 : IntKind.i64.wrap (r2 : Int) = (r2 : Int) := IntWalk.i64_in _ (by omega)
  have z5 : IntKind.i64.wrap ((v.lo : Int) - (r1 : Int)) = (c1 : Int) := by rw [IntWalk.i64_in _ (by omega)]; omega
  have z6 : IntKind.i64.wrap ((v.hi : Int) - (r2 : Int)) = (c2 : Int) := by rw [IntWalk.i64_in _ (by omega)]; omega
  have z7 : (v.lo : Int) - (r1 : Int) = (c1 : Int) := by omega
  have z8 : (v.hi : Int) - (r2 : Int) = (c2 : Int) := by omega
  have hvlo : (0 : Int) ≤ (v.lo : Int) := by omega
  have hvhi : (0 : Int) ≤ (v.hi : Int) := by omega
  have HF := Lib.hid (five_new w3 v)
  obtain ⟨t0, t1, t2, t3, t4⟩ := HF.out
  clear ha hb hr1 hr2 hc1 hc2
  go_wp2_with fail
  refine (span_any _ _ _).mono ?_
  rintro e w' ⟨rfl, rfl⟩
  go_upto_region 3 with (fail)
  clear z1 z2 z1' z2' z3 z4 z5 z6 z7 z8 t0 t1 t2 t3 t4 HF hvlo hvhi
  have hxx : Ext w3 ((w3.alloc (.cells #[.slice v.at'.a v.at'.l.length v.at'.c, .slice v.gr.a v.gr.l.length v.gr.c, .int .i64 (v.T : Int), .int .i64 (c1 : Int), .int .i64 (c2 : Int)] 30)).alloc (.cells #[.int .i64 (c1 : Int), .int .i64 (c2 : Int)] 28)) := ((Ext.refl w3).alloc _).alloc _
  have HF : Hid (Five ((w3.alloc (.cells #[.slice v.at'.a v.at'.l.length v.at'.c, .slice v.gr.a v.gr.l.length v.gr.c, .int .i64 (v.T : Int), .int .i64 (c1 : Int), .int .i64 (c2 : Int)] 30)).alloc (.cells #[.int .i64 (c1 : Int), .int .i64 (c2 : Int)] 28)) w3.heap.size ⟨v.at', v.gr, v.T, c1, c2⟩) := (five_new w3 ⟨v.at', v.gr, v.T, c1, c2⟩).ext ((Ext.refl _).alloc _)
  have HP4 : Hid (IsP ((w3.alloc (.cells #[.slice v.at'.a v.at'.l.length v.at'.c, .slice v.gr.a v.gr.l.length v.gr.c, .int .i64 (v.T : Int), .int .i64 (c1 : Int), .int .i64 (c2 : Int)] 30)).alloc (.cells #[.int .i64 (c1 : Int), .int .i64 (c2 : Int)] 28)) ⟨v.at', v.gr, v.T, c1, c2⟩) := ⟨HPp.out.at'.ext hxx, HPp.out.gr.ext hxx⟩
  have HX4 : Hid (Ext w ((w3.alloc (.cells #[.slice v.at'.a v.at'.l.length v.at'.c, .slice v.gr.a v.gr.l.length v.gr.c, .int .i64 (v.T : Int), .int .i64 (c1 : Int), .int .i64 (c2 : Int)] 30)).alloc (.cells #[.int .i64 (c1 : Int), .int .i64 (c2 : Int)] 28))) := HX3.out.trans hxx
  have HOk4 : Hid (OkP (⟨v.at', v.gr, v.T, c1, c2⟩ : PV).p) := by
    have h := HOk.out
    exact ⟨h.n1, h.n2, h.gl, h.ab, h.gb, h.tb, ⟨HCc.out.2.2.1, HCc.out.2.2.2⟩, h.inc⟩
  clear hxx HPp HX3 HOk
  generalize (w3.alloc (.cells #[.slice v.at'.a v.at'.l.length v.at'.c, .slice v.gr.a v.gr.l.length v.gr.c, .int .i64 (v.T : Int), .int .i64 (c1 : Int), .int .i64 (c2 : Int)] 30)).alloc (.cells #[.int .i64 (c1 : Int), .int .i64 (c2 : Int)] 28) = w4 at *
  generalize w3.heap.size = pb at *
  obtain ⟨n, hn⟩ : ∃ n, v.at'.l.length = n := ⟨_, rfl⟩
  have HN := Lib.hid hn
  rw [hn] at hM
  obtain ⟨hM1, hM2⟩ := hM
  obtain ⟨t0, t1, t2, t3, t4⟩ := HF.out
  dsimp only at t0 t1 t2 t3 t4
  rw [hn] at t0
  clear hn
  have HFa := Lib.hid (fold_q xa n w4 (by omega) (by omega))
  have HFb := Lib.hid (fold_q xb n w4 (by omega) (by omega))
  have hi := (foldN_spec xa n (by omega)).1
  have hj := (foldN_spec xb n (by omega)).1
  generalize foldN xa n = i at *
  generalize foldN xb n = j at *
  go_wp2_with fail
  refine HFa.out.mono ?_
  rintro e w' ⟨rfl, rfl⟩
  go_wp2_with fail
  refine HFb.out.mono ?_
  rintro e w' ⟨rfl, rfl⟩
  clear HFa HFb t0 t1 t2 t3 t4
  by_cases hij : i = j
  · have hb : ((i : Int) == (j : Int)) = true := by rw [beq_iff_eq]; omega
    clear hij
    go_wp2_with (go_at_call 19; refine (awake_ok _).mono ?_; rintro e w7 ⟨rfl, hx7⟩; have HX7 : Hid (Ext w w7) := HX4.out.trans hx7; clear hx7)
    go_ret
    exact ⟨rfl, HX7.out⟩
  · have hb : ((i : Int) == (j : Int)) = false := by rw [beq_eq_false_iff_ne]; omega
    go_upto_region 7 with (fail)
    refine three_r6 pb n i j xy ⟨v.at', v.gr, v.T, c1, c2⟩ _ w4 _ rfl HF.out HP4.out ?_
    intro X C A Y W hT
    obtain ⟨x0, x1, x2, e0, e1, e2, hE, h3⟩ := three_at hT (by dsimp only; rw [HN.out]; omega) HGl.out
    rw [show (⟨v.at', v.gr, v.T, c1, c2⟩ : PV).at'.l.length = n from HN.out] at h3
    have HE := Lib.hid hE
    have H3 := Lib.hid h3
    have HG : Hid (v.gr.l.length = n) := HGl.out.trans HN.out
    have Hab : Hid (c1 = 4 * a ∧ c2 = 4 * b) := ⟨HCc.out.1, HCc.out.2.1⟩
    clear hE h3 hT hb
    dsimp only [fr3c6]
    rw [e0, e1, e2]
    clear e0 e1 e2
    repeat (first
      | exact turn_tail8' _ pb n i j xy ⟨v.at', v.gr, v.T, c1, c2⟩ a b x0 x1 x2 w w4 W rfl HN HG HP4 HF HOk4 HA Hab hab HE H3 hi hj hij (by omega) HX4
      | go_step)
end Go.Proofs.Ytfognlealnhodaa

namespace Go.Proofs.Ytfognlealnhodaa.pillarTurned
open Go.ChangeShapes Go.WideShapes Go.ChangeAt Go.RowKit
open Go.ChangeMaps (open_string shut_string)
set_option linter.unusedVariables false

theorem own : ownKnob Try.prog.godebug = none := by kernel_rfl
theorem laidOut : laidOutB Try.prog = true := by kernel_rfl

/-- A slice of integers that came in: it is nil, or it leads to a row of cap cells, the numbers zs, each of which fits its kind. -/
def IsRow (k : IntKind) (w : World) (a : Option Addr) (len cap : Nat) (zs : List Int) : Prop :=
  (a = none ∧ len = 0 ∧ cap = 0 ∧ zs = []) ∨
  ∃ x, a = some x ∧ len ≤ cap ∧ cap ≤ maxLen ∧ zs.length = cap ∧ (∀ i, i < zs.length → w.cell? (x.add i) = some (.int k (zs.getD i 0))) ∧ ∀ n ∈ zs, (Lit.int k n).wf = true

/-- Bytes that came in lie in memory as told. -/
theorem bytes_of {w : World} {a : Option Addr} {n c : Nat} {zs : List Int} (h : IsRow .u8 w a n c zs) (hn : n ≤ 140737488351232) : IsBytes w a n c := by
  rcases h with ⟨rfl, rfl, rfl, rfl⟩ | ⟨x, rfl, hl, hm, hz, hc, hw⟩
  · exact ⟨Nat.le_refl _, by omega, .inl rfl⟩
  · refine ⟨hl, hn, ?_⟩
    by_cases hn0 : n = 0
    · exact .inl hn0
    · right
      have h0 := hc 0 (by omega)
      obtain ⟨b, off, sp⟩ := x
      have hsp : sp = none := by
        cases sp with
        | none => rfl
        | some s =>
          exfalso
          unfold World.cell? at h0
          split at h0
          · simp [Addr.add] at h0
          · cases h0
      subst hsp
      refine ⟨b, off, rfl, fun i hi => ?_⟩
      have h1 := hc i (by omega)
      rw [Addr.add_lit] at h1
      have h2 := hw (zs.getD i 0) (by rw [List.getD_eq_getElem?_getD, List.getElem?_eq_getElem (show i < zs.length by omega)]; exact List.getElem_mem _)
      have h3 : 0 ≤ zs.getD i 0 ∧ zs.getD i 0 < 256 := by
        have h4 : IntKind.u8.min = 0 := by kernel_rfl
        have h5 : IntKind.u8.max = 255 := by kernel_rfl
        generalize zs.getD i 0 = z at h2 ⊢
        simp [Lit.wf, h4, h5] at h2
        omega
      exact ⟨(zs.getD i 0).toNat, by omega, by rw [h1, Int.toNat_of_nonneg h3.1]⟩

theorem cells5 : Try.prog.bytesOf 5 = 1 := by kernel_rfl

theorem walk (a0 : Option Addr) (len0 cap0 : Nat) (z0 : List Int) (n1 n2 n3 : Int) (w : World) (w0 : IsRow .u8 w a0 len0 cap0 z0) (m0 : len0 ≤ 140737488351232) :
    Calls Try.prog 6 #[.slice a0 len0 cap0, .int .i64 n1, .int .i64 n2, .int .i64 n3] w fun e w' => e = .returned (.bool true) ∧ Below w.heap.size w w' := by
  exact turned_any a0 len0 cap0 n1 n2 n3 w (bytes_of w0 m0)

set_option maxRecDepth 100000 in
theorem lifted (os : Os) (started : os.Started) (H : Type) (enc : TypeId × Value → H) :
    ReturnsInHanded {} Try.checked os 6 .any (Rows.pillarTurnedSpec.pre6 enc Try.prog Try.f6 Rows.pillarTurnedRow.domain false) (Rows.pillarTurnedSpec.post enc Try.prog Try.f6 false true false false) := by
  refine returnsInHanded_of_change_sized (C := Try.checked) own started (by kernel_rfl) Try.func6
    (ChangeSpec.witness6 (enc := enc) (C := Try.checked) false ⟨#[], #[.slice none 0 0, .int .i64 0, .int .i64 0, .int .i64 0], []⟩ 8 (by kernel_rfl) (by kernel_rfl) (by kernel_rfl) (by kernel_rfl)) ?_
  intro W base args ds gs before hval0 hW hcnd hsz0 _
  have hsz : (DataW.weightsEach Try.prog (Try.f6.params.toList ++ Rows.pillarTurnedSpec.plain.varTypes Try.prog) (ds ++ gs)).all (· ≤ reachBytes) = true := hsz0
  clear hsz0
  have hval : ∀ (j : Nat) t v, Try.f6.params[j]? = some t → args[j]? = some v → Value.okWide Try.prog W .any base t v := hval0
  have hW' := hW
  obtain ⟨p, q, hA0, hV, rfl, hfz, hnd⟩ := hW
  have hA : DataW.TrodAll enc Try.prog W 0 (fun _ => true) true Try.f6.params.toList args.toList ds p := hA0
  rw [Try.params6] at hA hval hsz
  obtain ⟨v0, vs0, d0, ds0, p0, q0, hargs, rfl, rfl, h0, r0⟩ := trodAll_cons hA
  obtain ⟨v1, vs1, d1, ds1, p1, q1, rfl, rfl, rfl, h1, r1⟩ := trodAll_cons r0
  obtain ⟨v2, vs2, d2, ds2, p2, q2, rfl, rfl, rfl, h2, r2⟩ := trodAll_cons r1
  obtain ⟨v3, vs3, d3, ds3, p3, q3, rfl, rfl, rfl, h3, r3⟩ := trodAll_cons r2
  obtain ⟨rfl, rfl, rfl⟩ := trodAll_nil r3
  obtain rfl : args = #[v0, v1, v2, v3] := by cases args; simp_all
  obtain ⟨rfl, rfl⟩ := trodVars_none hV
  obtain ⟨a0, len0, cap0, rfl⟩ := okWide_slice Try.underlying22 (hval 0 22 v0 rfl rfl)
  have k0 := h0
  have lt0 : ∀ x ∈ p0, x.block < W.heap.size := by obtain ⟨m, hm⟩ := k0; exact DataW.trod_lt m _ _ _ hm
  obtain ⟨z0, w0, m0⟩ : ∃ zs, IsRow .u8 W a0 len0 cap0 zs ∧ len0 ≤ 140737488351232 := by
    obtain ⟨fuel, hf⟩ := h0
    rcases open_ints Try.underlying22 Try.underlying5 (by kernel_rfl) hf with ⟨hcs, _⟩ | ⟨x, l, c, zs, hcs, _, hl, hm, hz, hx, hcell, hwz⟩
    · simp [Value.cells] at hcs
      obtain ⟨rfl, rfl, rfl⟩ := hcs
      exact ⟨[], .inl ⟨rfl, rfl, rfl, rfl⟩, Nat.zero_le _⟩
    · simp [Value.cells] at hcs
      obtain ⟨rfl, rfl, rfl⟩ := hcs
      simp only [Prod.mk.injEq] at hx
      have hr := sized_slice hsz (j := 0) (t := 22) (e := 5) rfl (by rw [hx.1]; rfl) Try.underlying22
      rw [cells5] at hr
      simp only [lits, List.length_map, List.length_take, List.length_drop] at hr
      simp only [if_true] at hz
      have hb : reachBytes = 140737488351232 := rfl
      exact ⟨zs, .inr ⟨_, rfl, hl, hm, hz, hcell, hwz⟩, by omega⟩
  obtain ⟨n1, rfl, rfl, rfl, hw1⟩ := open_int Try.underlying3 (hval 1 3 v1 rfl rfl) h1
  obtain ⟨n2, rfl, rfl, rfl, hw2⟩ := open_int Try.underlying3 (hval 2 3 v2 rfl rfl) h2
  obtain ⟨n3, rfl, rfl, rfl, hw3⟩ := open_int Try.underlying3 (hval 3 3 v3 rfl rfl) h3
  clear hA0 hval0
  refine (walk a0 len0 cap0 z0 n1 n2 n3 W w0 m0).mono fun e W' ⟨he, bel⟩ => ?_
  subst he
  exact ⟨_, rfl, _, _, _, [], _, [], hW', trodAll_mk1 (shut_bool Try.underlying4 _), (trodAll_cons_mk (Below.trod laidOut (by kernel_rfl) (of_decide_eq_true (by kernel_rfl)) k0 bel lt0) (trodAll_cons_mk (shut_int Try.underlying3 hw1) (trodAll_cons_mk (shut_int Try.underlying3 hw2) (trodAll_cons_mk (shut_int Try.underlying3 hw3) trodAll_mk0)))), rfl, bel.frame _, fun h => by cases h⟩

theorem over : Rows.pillarTurnedRow.holds Try.pinned (OpenSpec.ofChange Rows.pillarTurnedSpec) :=
  OpenClaim.holds_of_wide 6 Try.f6 rfl rfl rfl rfl rfl rfl rfl ⟨rfl, rfl, rfl, rfl, rfl⟩ rfl rfl rfl rfl rfl (by kernel_rfl) Try.func6 (by kernel_rfl)
    (of_decide_eq_true (by kernel_rfl)) (by unfold Func.isWrapper; first | (rw [if_pos (by decide +kernel)]; kernel_rfl) | (rw [if_neg (by decide +kernel)]; exact ⟨rfl, rfl⟩))
    (fun os started H enc _ => lifted os started H enc)

/-- The statement. -/
theorem proved : Rows.PillarTurnedSaid := over
#print axioms proved
end Go.Proofs.Ytfognlealnhodaa.pillarTurned
