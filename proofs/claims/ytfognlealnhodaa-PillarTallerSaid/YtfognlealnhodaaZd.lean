/-
  PillarTaller answers true for every input, and each argument reads afterwards as it read before: taller pillars, and narrower spans, never see less, and need no more pillars; ground that is raised leaves all as it is. No condition beyond the statement's own.
-/
import Derived.Test.YtfognlealnhodaaA
import Derived.Test.YtfognlealnhodaaRP
import Derived.Test.YtfognlealnhodaaPT
import Derived.Test.YtfognlealnhodaaMA
import Derived.Test.YtfognlealnhodaaCL
import Derived.Test.YtfognlealnhodaaMB
import Derived.Test.YtfognlealnhodaaWO
import Derived.Test.YtfognlealnhodaaZq
import Derived.Test.YtfognlealnhodaaAK
import Derived.Test.YtfognlealnhodaaI
import Derived.Deep.QuietTactic
import Derived.BigQuiet
import Derived.Test.YtfognlealnhodaaMC
import Derived.Deep.RegionHeld3
import Derived.Test.YtfognlealnhodaaRows
import Derived.WalkKit
import Derived.ProofKit
import Derived.OpenShut
import Derived.ShutString
import Derived.ChangeOld
import Derived.Below
import Derived.SizedLaws
namespace Go.Proofs.Ytfognlealnhodaa
open Go.RowKit

/-- What Fold makes of a number. -/
def foldN (x : Int) (m : Nat) : Nat := ((x.tmod (m : Int) + (m : Int)).tmod (m : Int)).toNat
theorem foldN_spec (x : Int) (m : Nat) (hm : 1 ≤ m) : foldN x m < m ∧ (x.tmod (m : Int) + (m : Int)).tmod (m : Int) = (foldN x m : Int) := by
  have q := Int.tmod_lt_of_pos x (show (0 : Int) < m by omega)
  have q2 := Int.lt_tmod_of_pos x (show (0 : Int) < m by omega)
  have h0 := Int.tmod_nonneg (a := x.tmod (m : Int) + (m : Int)) (m : Int) (by omega)
  have h1 := Int.tmod_lt_of_pos (x.tmod (m : Int) + (m : Int)) (show (0 : Int) < m by omega)
  unfold foldN
  omega
theorem fold_q (x : Int) (m : Nat) (w : World) (hm : 1 ≤ m) (hm2 : m ≤ 1000000) : Calls Try.prog 20 #[.int .i64 x, .int .i64 (m : Int)] w fun e w' => e = .returned (.int .i64 (foldN x m : Int)) ∧ w = w' := by
  have d1 : decide ((m : Int) ≤ 0) = false := decide_eq_false (by omega)
  have h0 : ((m : Int) == 0) = false := by rw [beq_eq_false_iff_ne]; omega
  obtain ⟨hr1, hr2⟩ := foldN_spec x m hm
  have q := Int.tmod_lt_of_pos x (show (0 : Int) < m by omega)
  have q2 := Int.lt_tmod_of_pos x (show (0 : Int) < m by omega)
  generalize foldN x m = r at *
  obtain ⟨t, ht⟩ : ∃ t, x.tmod (m : Int) = t := ⟨_, rfl⟩
  rw [ht] at hr2 q q2
  have w1 : IntKind.i64.wrap t = t := IntWalk.i64_in _ (by omega)
  have w2 : IntKind.i64.wrap (t + (m : Int)) = t + (m : Int) := IntWalk.i64_in _ (by omega)
  have w3 : IntKind.i64.wrap (r : Int) = (r : Int) := IntWalk.i64_in _ (by omega)
  have hne : (m : Int) ≠ 0 := by omega
  have hn0 : m ≠ 0 := by omega
  go_enter Try.func20, Try.ntmps20
  go_wp2
  go_ret
  exact ⟨rfl, rfl⟩
end Go.Proofs.Ytfognlealnhodaa

namespace Go.Proofs.Ytfognlealnhodaa
open Go.RowKit

/-- A list while it is turned round: the first c and the last c are changed already. -/
def revT (l : List (Nat × Nat)) (n c j : Nat) : List (Nat × Nat) := (List.range n).map fun q => if q < c ∨ j < q then l[n - 1 - q]?.getD (0, 0) else l[q]?.getD (0, 0)
section
variable {l : List (Nat × Nat)} {n c j : Nat}
theorem revT_len : (revT l n c j).length = n := by simp [revT]
theorem revT_get {q : Nat} (hq : q < n) : (revT l n c j)[q]'(by rw [revT_len]; exact hq) = if q < c ∨ j < q then l[n - 1 - q]?.getD (0, 0) else l[q]?.getD (0, 0) := by simp [revT]
theorem revT_start (hn : l.length = n) (hj : j + 1 = n) : revT l n 0 j = l := by
  apply List.ext_getElem
  · rw [revT_len, hn]
  · intro q h1 h2
    rw [revT_len] at h1
    rw [revT_get h1, if_neg (by omega), List.getElem?_eq_getElem h2]; rfl
theorem revT_end (hn : l.length = n) (hc : c + j + 1 = n) (h : ¬ c < j) (hcj : c ≤ j + 1) : revT l n c j = l.reverse := by
  apply List.ext_getElem
  · rw [revT_len, List.length_reverse, hn]
  · intro q h1 h2
    rw [revT_len] at h1
    rw [revT_get h1, List.getElem_reverse]
    by_cases hq : q < c ∨ j < q
    · rw [if_pos hq, List.getElem?_eq_getElem (by omega)]; simp [hn]
    · rw [if_neg hq, List.getElem?_eq_getElem (by omega)]
      simp only [Option.getD_some]
      congr 1
      omega
theorem revT_step (_hn : l.length = n) (hc : c + (j + 1) + 1 = n) (h : c < j + 1) : ((revT l n c (j + 1)).set c (l[j + 1]?.getD (0, 0))).set (j + 1) (l[c]?.getD (0, 0)) = revT l n (c + 1) j := by
  apply List.ext_getElem
  · simp [revT_len]
  · intro q h1 h2
    rw [revT_len] at h2
    rw [List.getElem_set, List.getElem_set, revT_get h2, revT_get h2]
    by_cases e1 : j + 1 = q
    · subst e1
      rw [if_pos rfl, if_pos (by omega), show n - 1 - (j + 1) = c by omega]
    · rw [if_neg e1]
      by_cases e2 : c = q
      · subst e2
        rw [if_pos rfl, if_pos (by omega), show n - 1 - c = j + 1 by omega]
      · rw [if_neg e2]
        by_cases e3 : q < c ∨ j + 1 < q
        · rw [if_pos e3, if_pos (by omega)]
        · rw [if_neg e3, if_neg (by omega)]
end
set_option maxRecDepth 100000 in
set_option maxHeartbeats 4000000 in
theorem reverse_any (g c n : Nat) (l : List (Nat × Nat)) (w : World) (hrow : RowP w g l c) (hn : l.length = n) (hn1 : 1 ≤ n) (hl : n ≤ 1000) :
    Calls Try.prog 27 #[.slice (some ⟨g, 0, none⟩) n c] w fun e w' => e = .returned (.tuple #[]) ∧ RowP w' g l.reverse c ∧ Keep (fun k => k ≠ g) w w' := by
  have HR := Lib.hid hrow
  have HN := Lib.hid hn
  have hnc : n ≤ c := by have := hrow.le; omega
  clear hrow hn
  obtain ⟨j0, hj0⟩ : ∃ j0, j0 + 1 = n := ⟨n - 1, by omega⟩
  have hw1 : IntKind.i64.wrap ((n : Int) - 1) = (j0 : Int) := by rw [IntWalk.i64_in _ (by omega)]; omega
  have hw2 : (n : Int) - 1 = (j0 : Int) := by omega
  go_enter Try.func27, Try.ntmps27
  go_wp2_with fail
  clear hw1 hw2
  go_loopw [2, 3] (fun i j wr => ∃ (p q : Nat), i = .int .i64 (p : Int) ∧ j = .int .i64 (q : Int) ∧ p + q + 1 = n ∧ p ≤ q + 1 ∧ Hid (RowP wr g (revT l n p q) c) ∧ Hid (Keep (fun k => k ≠ g) w wr)) (fun _ j _ => (intOf j).toNat)
  case atStart => exact ⟨0, j0, rfl, rfl, by omega, by omega, by show RowP _ _ _ _; rw [revT_start HN.out hj0]; exact HR.out, Keep.refl _ _⟩
  case round =>
    obtain ⟨wo, rfl⟩ : ∃ wo : World, wo = wr := ⟨_, rfl⟩
    obtain ⟨p, q, rfl, rfl, hpq, hle, HRo, HK⟩ := hrel
    by_cases hlt : p < q
    · have di : decide ((p : Int) < (q : Int)) = true := decide_eq_true (by omega)
      obtain ⟨q', hq'⟩ : ∃ q', q' + 1 = q := ⟨q - 1, by omega⟩
      have hwp : IntKind.i64.wrap ((p : Int) + 1) = ((p + 1 : Nat) : Int) := by rw [IntWalk.i64_in _ (by omega)]; omega
      have hwq : IntKind.i64.wrap ((q : Int) - 1) = (q' : Int) := by rw [IntWalk.i64_in _ (by omega)]; omega
      have i0 : (0 : Int) ≤ (p : Int) := by omega
      have i1 : (p : Int) < (n : Int) := by omega
      have i2 : (0 : Int) ≤ (q : Int) := by omega
      have i3 : (q : Int) < (n : Int) := by omega
      have hlp : p < (revT l n p q).length := by rw [revT_len]; omega
      have hlq : q < (revT l n p q).length := by rw [revT_len]; omega
      have ex : (revT l n p q)[p] = l[p]?.getD (0, 0) := by rw [revT_get (by omega), if_neg (by omega)]
      have ey : (revT l n p q)[q] = l[q]?.getD (0, 0) := by rw [revT_get (by omega), if_neg (by omega)]
      have hstep : ((revT l n p q).set p (l[q]?.getD (0, 0))).set q (l[p]?.getD (0, 0)) = revT l n (p + 1) q' := by
        subst hq'; exact revT_step HN.out (by omega) (by omega)
      have cx1 : wo.cell? ⟨g, p * 2, none⟩ = some (.int .i64 ((l[p]?.getD (0, 0)).1 : Int)) := by have h := HRo.out.cell p hlp 0 (by omega); rw [ex] at h; simpa [spC] using h
      have cx2 : wo.cell? ⟨g, p * 2 + 1, none⟩ = some (.int .i64 ((l[p]?.getD (0, 0)).2 : Int)) := by have h := HRo.out.cell p hlp 1 (by omega); rw [ex] at h; simpa [spC] using h
      have cy1 : wo.cell? ⟨g, q * 2, none⟩ = some (.int .i64 ((l[q]?.getD (0, 0)).1 : Int)) := by have h := HRo.out.cell q hlq 0 (by omega); rw [ey] at h; simpa [spC] using h
      have cy2 : wo.cell? ⟨g, q * 2 + 1, none⟩ = some (.int .i64 ((l[q]?.getD (0, 0)).2 : Int)) := by have h := HRo.out.cell q hlq 1 (by omega); rw [ey] at h; simpa [spC] using h
      generalize l[p]?.getD (0, 0) = x at *
      generalize l[q]?.getD (0, 0) = y at *
      have hr1 := HRo.out.put p y hlp
      have hr2 := hr1.put q x (by rw [List.length_set]; exact hlq)
      rw [hstep] at hr2
      have fx0 := HRo.out.frozen (p * 2)
      have fx1 := HRo.out.frozen (p * 2 + 1)
      obtain ⟨z0, dz0⟩ : ∃ z, ((wo.setCell ⟨g, p * 2, none⟩ (.int .i64 (y.1 : Int))).setCell ⟨g, p * 2 + 1, none⟩ (.int .i64 (y.2 : Int))).cell? ⟨g, q * 2, none⟩ = some z := ⟨_, hr1.cell q (by rw [List.length_set]; exact hlq) 0 (by omega)⟩
      obtain ⟨z1, dz1⟩ : ∃ z, ((wo.setCell ⟨g, p * 2, none⟩ (.int .i64 (y.1 : Int))).setCell ⟨g, p * 2 + 1, none⟩ (.int .i64 (y.2 : Int))).cell? ⟨g, q * 2 + 1, none⟩ = some z := ⟨_, hr1.cell q (by rw [List.length_set]; exact hlq) 1 (by omega)⟩
      have fy0 : ((wo.setCell ⟨g, p * 2, none⟩ (.int .i64 (y.1 : Int))).setCell ⟨g, p * 2 + 1, none⟩ (.int .i64 (y.2 : Int))).frozen? ⟨g, q * 2, none⟩ = false := hr1.frozen _
      have fy1 : ((wo.setCell ⟨g, p * 2, none⟩ (.int .i64 (y.1 : Int))).setCell ⟨g, p * 2 + 1, none⟩ (.int .i64 (y.2 : Int))).frozen? ⟨g, q * 2 + 1, none⟩ = false := hr1.frozen _
      have HR2 : Hid (RowP ((((wo.setCell ⟨g, p * 2, none⟩ (.int .i64 (y.1 : Int))).setCell ⟨g, p * 2 + 1, none⟩ (.int .i64 (y.2 : Int))).setCell ⟨g, q * 2, none⟩ (.int .i64 (x.1 : Int))).setCell ⟨g, q * 2 + 1, none⟩ (.int .i64 (x.2 : Int))) g (revT l n (p + 1) q') c) := hr2
      clear hr1 hr2 hstep ex ey hlp hlq
      go_wp2_with fail
      go_region
      have HK2 : Hid (Keep (fun k => k ≠ g) w ((((wo.setCell ⟨g, p * 2, none⟩ (.int .i64 (y.1 : Int))).setCell ⟨g, p * 2 + 1, none⟩ (.int .i64 (y.2 : Int))).setCell ⟨g, q * 2, none⟩ (.int .i64 (x.1 : Int))).setCell ⟨g, q * 2 + 1, none⟩ (.int .i64 (x.2 : Int)))) :=
        (((HK.out.setCell _ _ (fun _ h => h rfl)).setCell _ _ (fun _ h => h rfl)).setCell _ _ (fun _ h => h rfl)).setCell _ _ (fun _ h => h rfl)
      go_wp2_with fail
      go_roundw
      case rel => exact ⟨p + 1, q', by go_num, rfl, by omega, by omega, HR2.out.ext (Ext.refl _).drew, HK2.out.drew⟩
      case measure => simp [intOf]; omega
    · have di : decide ((p : Int) < (q : Int)) = false := decide_eq_false (by omega)
      go_wp2_with fail
      refine bodyPost_end (v := .tuple #[]) (results_none rfl _ _ _) rfl ⟨rfl, ?_, HK.out⟩
      have h := HRo.out
      rw [revT_end HN.out hpq hlt hle] at h
      exact h
end Go.Proofs.Ytfognlealnhodaa

namespace Go.Proofs.Ytfognlealnhodaa
open Go.RowKit

/-- What holds of the profile and the deck. -/
structure SX (W : World) (D2 pb : Nat) (a1 : Option Addr) (n1 c1 : Nat) (v : PV) : Prop where
  prof : IsP W v
  ok : OkP v.p
  five : Five W pb v
  deck : D2 < W.heap.size
  byt : ∀ b off, a1 = some ⟨b, off, none⟩ → 0 < n1 → b < W.heap.size
  len : v.at'.l.length ≤ 12
  ne : pb ≠ D2
  apart : ∀ g off, (v.at'.a = some ⟨g, off, none⟩ → g ≠ D2) ∧ (v.gr.a = some ⟨g, off, none⟩ → g ≠ D2)
theorem SX.at {W W' : World} {D2 pb : Nat} {a1 : Option Addr} {n1 c1 : Nat} {v : PV} (h : SX W D2 pb a1 n1 c1 v) (k : Keep (fun x => x ≠ D2) W W') : IsP W' v ∧ Five W' pb v := by
  obtain ⟨c0, c1', c2, c3, c4⟩ := h.five
  exact ⟨⟨h.prof.at'.keep k (fun g off e _ => (h.apart g off).1 e), h.prof.gr.keep k (fun g off e _ => (h.apart g off).2 e)⟩, ⟨k.cell c0 h.ne, k.cell c1' h.ne, k.cell c2 h.ne, k.cell c3 h.ne, k.cell c4 h.ne⟩⟩
end Go.Proofs.Ytfognlealnhodaa

namespace Go.Proofs.Ytfognlealnhodaa
open Go.RowKit

theorem own_keepT {D : Nat → Prop} {w w' : World} {base : Nat} {e : TypeId} {size : Nat} {v : Value} {n : Nat} {xs : List Value} (h : w.ownsRow base e size v n xs) (k : Keep D w w') (hd : ∀ i, v.ownBlock = some i → D i) : w'.ownsRow base e size v n xs := by
  obtain ⟨h1, h2⟩ := h
  rcases h2 with h2 | ⟨g, cap, cur, rfl, hg, hh, r⟩
  · exact ⟨h1, .inl h2⟩
  · exact ⟨h1, .inr ⟨g, cap, cur, rfl, hg, k.heap hh (hd g rfl), r⟩⟩
/-- The same profile, elsewhere. -/
def SameP (t c : PV) : Prop := c.at'.l = t.at'.l ∧ c.gr.l = t.gr.l ∧ c.T = t.T ∧ c.lo = t.lo ∧ c.hi = t.hi
/-- The lists of a profile lie in memory of their own, in blocks from l on, below h. -/
structure OwnP (l h : Nat) (w : World) (c : PV) : Prop where
  at' : w.ownsRow l 3 1 c.at'.v c.at'.l.length (nums c.at'.l)
  gr : w.ownsRow l 28 2 c.gr.v c.gr.l.length (flat 2 spC c.gr.l)
  below : ∀ k, c.at'.v.ownBlock = some k ∨ c.gr.v.ownBlock = some k → k < h
theorem OwnP.ext {l h : Nat} {w w' : World} {c : PV} (o : OwnP l h w c) (k : Ext w w') : OwnP l h w' c := ⟨own_ext o.at' k, own_ext o.gr k, o.below⟩
theorem OwnP.keep {l h : Nat} {w w' : World} {c : PV} {D : Nat → Prop} (o : OwnP l h w c) (k : Keep D w w') (hd : ∀ g, l ≤ g → g < h → D g) : OwnP l h w' c :=
  ⟨own_keepT o.at' k (fun g e => hd g (own_type o.at' e).1 (o.below g (.inl e))), own_keepT o.gr k (fun g e => hd g (own_type o.gr e).1 (o.below g (.inr e))), o.below⟩
/-- A box that holds nothing yet, and one that holds a profile. -/
abbrev boxP : Obj := .cells #[.slice none 0 0, .slice none 0 0, .int .i64 0, .int .i64 0, .int .i64 0] 30
def ZBP (w : World) (b : Nat) : Prop := w.heap[b]? = some (.cells #[.slice none 0 0, .slice none 0 0, .int .i64 0, .int .i64 0, .int .i64 0] 30 (0, 0))
def MkP (w : World) (b : Nat) (c : PV) : Prop := w.heap[b]? = some (.cells #[c.at'.v, c.gr.v, .int .i64 (c.T : Int), .int .i64 (c.lo : Int), .int .i64 (c.hi : Int)] 30 (0, 0))
theorem ZBP.ext {w w' : World} {b : Nat} (h : ZBP w b) (k : Ext w w') : ZBP w' b := k.block h
theorem zbP_at (w : World) : ZBP (w.alloc boxP) w.heap.size := World.alloc_heap_new _ _
theorem ZBP.five {w : World} {b : Nat} (h : ZBP w b) : w.cell? ⟨b, 0, none⟩ = some (.slice none 0 0) ∧ w.cell? ⟨b, 1, none⟩ = some (.slice none 0 0) ∧ w.cell? ⟨b, 2, none⟩ = some (.int .i64 0) ∧ w.cell? ⟨b, 3, none⟩ = some (.int .i64 0) ∧ w.cell? ⟨b, 4, none⟩ = some (.int .i64 0) ∧ ∀ i, w.frozen? ⟨b, i, none⟩ = false :=
  ⟨(cell_at h 0).trans rfl, (cell_at h 1).trans rfl, (cell_at h 2).trans rfl, (cell_at h 3).trans rfl, (cell_at h 4).trans rfl, fun i => by simp [World.frozen?, show w.heap[b]? = _ from h]⟩
theorem MkP.five {w : World} {b : Nat} {c : PV} (h : MkP w b c) : Five w b c :=
  ⟨(cell_at h 0).trans rfl, (cell_at h 1).trans rfl, (cell_at h 2).trans rfl, (cell_at h 3).trans rfl, (cell_at h 4).trans rfl⟩
theorem zbP_set {w : World} {b : Nat} {c : PV} (h : ZBP w b) : MkP (((((w.setCell ⟨b, 0, none⟩ c.at'.v).setCell ⟨b, 1, none⟩ c.gr.v).setCell ⟨b, 2, none⟩ (.int .i64 (c.T : Int))).setCell ⟨b, 3, none⟩ (.int .i64 (c.lo : Int))).setCell ⟨b, 4, none⟩ (.int .i64 (c.hi : Int))) b c :=
  (heap_setCell_same (heap_setCell_same (heap_setCell_same (heap_setCell_same (heap_setCell_same h _) _) _) _) _).trans rfl

/-- What holds while three copies are made: 2 * k: the treaty was loaded; 2 * k + 1: it was copied; 6 + k: its box is there; 9 + k: it is in its box. -/
structure Part3c (t : PV) (w3 : World) (L : Nat → Prop) (X C A : Nat → Value) (l h B : Nat → Nat) (ts : Nat → PV) (w : World) (k : Nat) : Prop where
  load : L (2 * k) → X k = t.v
  call : L (2 * k + 1) → C k = (ts k).v ∧ SameP t (ts k) ∧ OwnP (l k) (h k) w (ts k)
  low : w3.heap.size ≤ l k
  high : h k ≤ w.heap.size
  box : L (6 + k) → A k = .pointer (some ⟨B k, 0, none⟩) ∧ w3.heap.size ≤ B k ∧ B k < w.heap.size ∧ (¬ L (9 + k) → ZBP w (B k))
  put : L (9 + k) → MkP w (B k) (ts k)
  apart : ∀ j, j < 3 → j ≠ k → h j ≤ l k ∨ h k ≤ l j
  out : ∀ j, j < 3 → L (6 + k) → B k < l j ∨ h j ≤ B k
  other : ∀ j, j < 3 → j ≠ k → L (6 + k) → L (6 + j) → B k ≠ B j
def Inv3c (t : PV) (w3 : World) (L : Nat → Prop) (X C A : Nat → Value) (w : World) : Prop :=
  ∃ (l h B : Nat → Nat) (ts : Nat → PV), Ext w3 w ∧ (∀ k, k < 3 → L (9 + k) → L (6 + k) ∧ L (2 * k + 1)) ∧ ∀ k, k < 3 → Part3c t w3 L X C A l h B ts w k

def updM (X : Nat → Nat) (k : Nat) (v : Nat) (j : Nat) : Nat := if j = k then v else X j
theorem Inv3c.start (t : PV) (w3 : World) (X C A : Nat → Value) (w : World) (hx : Ext w3 w) : Inv3c t w3 (fun _ => False) X C A w :=
  ⟨fun _ => w3.heap.size, fun _ => w3.heap.size, fun _ => 0, fun _ => t, hx, fun _ _ h => h.elim, fun _ _ => ⟨fun h => h.elim, fun h => h.elim, Nat.le_refl _, hx.size, fun h => h.elim, fun h => h.elim, fun _ _ _ => .inl (Nat.le_refl _), fun _ _ h => h.elim, fun _ _ _ h => h.elim⟩⟩
theorem Inv3c.load {t : PV} {w3 w : World} {L : Nat → Prop} {X C A : Nat → Value} (I : Inv3c t w3 L X C A w) (k : Nat) (hk : k < 3) : Inv3c t w3 (fun j => j = 2 * k ∨ L j) (updV X k t.v) C A w := by
  obtain ⟨l, h, B, ts, hx, h0, hp⟩ := I
  refine ⟨l, h, B, ts, hx, fun j hj hl => ?_, fun j hj => ?_⟩
  · have := h0 j hj (hl.resolve_left (by omega))
    exact ⟨.inr this.1, .inr this.2⟩
  · have p := hp j hj
    refine ⟨fun hl => ?_, fun hl => p.call (hl.resolve_left (by omega)), p.low, p.high, fun hl => ?_, fun hl => p.put (hl.resolve_left (by omega)), p.apart, fun i hi hl => p.out i hi (hl.resolve_left (by omega)), fun i hi hij hl hl2 => p.other i hi hij (hl.resolve_left (by omega)) (hl2.resolve_left (by omega))⟩
    · unfold updV
      by_cases e : j = k
      · rw [if_pos e]
      · rw [if_neg e]; exact p.load (hl.resolve_left (by omega))
    · obtain ⟨q1, q2, q3, q4⟩ := p.box (hl.resolve_left (by omega))
      exact ⟨q1, q2, q3, fun hn => q4 (fun hh => hn (.inr hh))⟩
theorem Inv3c.call {t t' : PV} {w3 w w' : World} {L : Nat → Prop} {X C A : Nat → Value} (I : Inv3c t w3 L X C A w) (k : Nat) (hk : k < 3) (hn : ¬ L (2 * k + 1)) (ho : OwnP w.heap.size w'.heap.size w' t') (hs : SameP t t') (hx' : Ext w w') : Inv3c t w3 (fun j => j = 2 * k + 1 ∨ L j) X (updV C k t'.v) A w' := by
  obtain ⟨l, h, B, ts, hx, h0, hp⟩ := I
  have hsz := hx'.size
  refine ⟨updM l k w.heap.size, updM h k w'.heap.size, B, fun j => if j = k then t' else ts j, hx.trans hx', fun j hj hl => ?_, fun j hj => ?_⟩
  · have := h0 j hj (hl.resolve_left (by omega))
    exact ⟨.inr this.1, .inr this.2⟩
  · have p := hp j hj
    unfold updM updV
    refine ⟨fun hl => p.load (hl.resolve_left (by omega)), fun hl => ?_, ?_, ?_, fun hl => ?_, fun hl => ?_, fun i hi hij => ?_, fun i hi hl => ?_, fun i hi hij hl hl2 => p.other i hi hij (hl.resolve_left (by omega)) (hl2.resolve_left (by omega))⟩
    · by_cases e : j = k
      · simp only [if_pos e]; exact ⟨trivial, hs, ho⟩
      · simp only [if_neg e]
        obtain ⟨q1, q2, q3⟩ := p.call (hl.resolve_left (by omega))
        exact ⟨q1, q2, q3.ext hx'⟩
    · by_cases e : j = k
      · rw [if_pos e]; exact hx.size
      · rw [if_neg e]; exact p.low
    · by_cases e : j = k
      · rw [if_pos e]; exact Nat.le_refl _
      · rw [if_neg e]; have := p.high; omega
    · obtain ⟨q1, q2, q3, q4⟩ := p.box (hl.resolve_left (by omega))
      exact ⟨q1, q2, by omega, fun hn' => (q4 (fun hh => hn' (.inr hh))).ext hx'⟩
    · have hl' := hl.resolve_left (by omega)
      have hjk : j ≠ k := fun e => hn (e ▸ (h0 j hj hl').2)
      simp only [if_neg hjk]
      exact hx'.block (p.put hl')
    · have p2 := hp i hi
      by_cases e : j = k
      · have e2 : i ≠ k := fun e2 => hij (e2.trans e.symm)
        rw [if_neg e2, if_pos e]
        left; exact p2.high
      · by_cases e2 : i = k
        · rw [if_pos e2, if_neg e, if_neg e, if_pos e2]
          right; exact p.high
        · rw [if_neg e2, if_neg e, if_neg e, if_neg e2]; exact p.apart i hi hij
    · have hl' := hl.resolve_left (by omega)
      by_cases e2 : i = k
      · rw [if_pos e2]
        left; exact (p.box hl').2.2.1
      · rw [if_neg e2, if_neg e2]; exact p.out i hi hl'
theorem Inv3c.box {t : PV} {w3 w : World} {L : Nat → Prop} {X C A : Nat → Value} (I : Inv3c t w3 L X C A w) (k : Nat) (hk : k < 3) (hn : ¬ L (6 + k)) : Inv3c t w3 (fun j => j = 6 + k ∨ L j) X C (updV A k (.pointer (some ⟨w.heap.size, 0, none⟩))) (w.alloc boxP) := by
  obtain ⟨l, h, B, ts, hx, h0, hp⟩ := I
  have hx' : Ext w (w.alloc boxP) := (Ext.refl w).alloc _
  have hsz : (w.alloc boxP).heap.size = w.heap.size + 1 := World.size_alloc _ _
  refine ⟨l, h, updM B k w.heap.size, ts, hx.trans hx', fun j hj hl => ?_, fun j hj => ?_⟩
  · have := h0 j hj (hl.resolve_left (by omega))
    exact ⟨.inr this.1, .inr this.2⟩
  · have p := hp j hj
    unfold updM updV
    refine ⟨fun hl => p.load (hl.resolve_left (by omega)), fun hl => ?_, p.low, ?_, fun hl => ?_, fun hl => ?_, p.apart, fun i hi hl => ?_, fun i hi hij hl hl2 => ?_⟩
    · obtain ⟨q1, q2, q3⟩ := p.call (hl.resolve_left (by omega))
      exact ⟨q1, q2, q3.ext hx'⟩
    · have := p.high; omega
    · by_cases e : j = k
      · simp only [if_pos e]
        exact ⟨trivial, hx.size, by omega, fun _ => zbP_at w⟩
      · simp only [if_neg e]
        obtain ⟨q1, q2, q3, q4⟩ := p.box (hl.resolve_left (by omega))
        exact ⟨q1, q2, by omega, fun hn' => (q4 (fun hh => hn' (.inr hh))).ext hx'⟩
    · have hl' := hl.resolve_left (by omega)
      have hjk : j ≠ k := fun e => hn (e ▸ (h0 j hj hl').1)
      rw [if_neg hjk]
      exact hx'.block (p.put hl')
    · by_cases e : j = k
      · rw [if_pos e]; right; exact (hp i hi).high
      · rw [if_neg e]; exact p.out i hi (hl.resolve_left (by omega))
    · by_cases e : j = k
      · have e2 : i ≠ k := fun e2 => hij (e2.trans e.symm)
        rw [if_pos e, if_neg e2]
        have := ((hp i hi).box (hl2.resolve_left (by omega))).2.2.1
        omega
      · by_cases e2 : i = k
        · rw [if_neg e, if_pos e2]
          have := (p.box (hl.resolve_left (by omega))).2.2.1
          omega
        · rw [if_neg e, if_neg e2]; exact p.other i hi hij (hl.resolve_left (by omega)) (hl2.resolve_left (by omega))
/-- What is stored, and where. -/
theorem Inv3c.at {t : PV} {w3 w : World} {L : Nat → Prop} {X C A : Nat → Value} (I : Inv3c t w3 L X C A w) (k : Nat) (hk : k < 3) (h6 : L (6 + k)) (h1 : L (2 * k + 1)) (hn : ¬ L (9 + k)) : ∃ (b : Nat) (t' : PV), A k = .pointer (some ⟨b, 0, none⟩) ∧ C k = t'.v ∧ ZBP w b ∧
    Inv3c t w3 (fun j => j = 9 + k ∨ L j) X C A (((((w.setCell ⟨b, 0, none⟩ t'.at'.v).setCell ⟨b, 1, none⟩ t'.gr.v).setCell ⟨b, 2, none⟩ (.int .i64 (t'.T : Int))).setCell ⟨b, 3, none⟩ (.int .i64 (t'.lo : Int))).setCell ⟨b, 4, none⟩ (.int .i64 (t'.hi : Int))) := by
  obtain ⟨l, h, B, ts, hx, h0, hp⟩ := I
  obtain ⟨q1, q2, q3, q4⟩ := (hp k hk).box h6
  obtain ⟨c1, c2, c3⟩ := (hp k hk).call h1
  have hz := q4 hn
  refine ⟨B k, ts k, q1, c1, hz, ?_⟩
  have hset := zbP_set (c := ts k) hz
  have hK : Keep (fun g => g ≠ B k) w (((((w.setCell ⟨B k, 0, none⟩ (ts k).at'.v).setCell ⟨B k, 1, none⟩ (ts k).gr.v).setCell ⟨B k, 2, none⟩ (.int .i64 ((ts k).T : Int))).setCell ⟨B k, 3, none⟩ (.int .i64 ((ts k).lo : Int))).setCell ⟨B k, 4, none⟩ (.int .i64 ((ts k).hi : Int))) :=
    (((((Keep.refl _ w).setCell _ _ (fun _ h => h rfl)).setCell _ _ (fun _ h => h rfl)).setCell _ _ (fun _ h => h rfl)).setCell _ _ (fun _ h => h rfl)).setCell _ _ (fun _ h => h rfl)
  have hE : Ext w3 (((((w.setCell ⟨B k, 0, none⟩ (ts k).at'.v).setCell ⟨B k, 1, none⟩ (ts k).gr.v).setCell ⟨B k, 2, none⟩ (.int .i64 ((ts k).T : Int))).setCell ⟨B k, 3, none⟩ (.int .i64 ((ts k).lo : Int))).setCell ⟨B k, 4, none⟩ (.int .i64 ((ts k).hi : Int))) :=
    ((((hx.setCell q2 _).setCell q2 _).setCell q2 _).setCell q2 _).setCell q2 _
  have hsz : (((((w.setCell ⟨B k, 0, none⟩ (ts k).at'.v).setCell ⟨B k, 1, none⟩ (ts k).gr.v).setCell ⟨B k, 2, none⟩ (.int .i64 ((ts k).T : Int))).setCell ⟨B k, 3, none⟩ (.int .i64 ((ts k).lo : Int))).setCell ⟨B k, 4, none⟩ (.int .i64 ((ts k).hi : Int))).heap.size = w.heap.size := by simp
  generalize ((((w.setCell ⟨B k, 0, none⟩ (ts k).at'.v).setCell ⟨B k, 1, none⟩ (ts k).gr.v).setCell ⟨B k, 2, none⟩ (.int .i64 ((ts k).T : Int))).setCell ⟨B k, 3, none⟩ (.int .i64 ((ts k).lo : Int))).setCell ⟨B k, 4, none⟩ (.int .i64 ((ts k).hi : Int)) = W at *
  refine ⟨l, h, B, ts, hE, fun j hj hl => ?_, fun j hj => ?_⟩
  · by_cases e : j = k
    · subst e; exact ⟨.inr h6, .inr h1⟩
    · have := h0 j hj (hl.resolve_left (by omega))
      exact ⟨.inr this.1, .inr this.2⟩
  · have p := hp j hj
    refine ⟨fun hl => p.load (hl.resolve_left (by omega)), fun hl => ?_, p.low, by rw [hsz]; exact p.high, fun hl => ?_, fun hl => ?_, p.apart, fun i hi hl => p.out i hi (hl.resolve_left (by omega)), fun i hi hij hl hl2 => p.other i hi hij (hl.resolve_left (by omega)) (hl2.resolve_left (by omega))⟩
    · obtain ⟨r1, r2, r3⟩ := p.call (hl.resolve_left (by omega))
      refine ⟨r1, r2, r3.keep hK (fun g _ hg => ?_)⟩
      have := (hp k hk).out j hj h6
      omega
    · obtain ⟨r1, r2, r3, r4⟩ := p.box (hl.resolve_left (by omega))
      refine ⟨r1, r2, by rw [hsz]; exact r3, fun hn' => ?_⟩
      have hjk : j ≠ k := fun e => hn' (.inl (by omega))
      exact hK.heap (r4 (fun hh => hn' (.inr hh))) (p.other k hk (fun e => hjk e.symm) (hl.resolve_left (by omega)) h6)
    · by_cases e : j = k
      · subst e; exact hset
      · have hl' := hl.resolve_left (by omega)
        exact hK.heap (p.put hl') (p.other k hk (fun e' => e e'.symm) (h0 j hj hl').1 h6)
/-- Three copies of a treaty, in boxes. -/
def ThreeP (t : PV) (w3 : World) (s12 s13 s14 : Value) (w : World) : Prop :=
  ∃ (l h B : Nat → Nat) (ts : Nat → PV), s12 = .pointer (some ⟨B 0, 0, none⟩) ∧ s13 = .pointer (some ⟨B 1, 0, none⟩) ∧ s14 = .pointer (some ⟨B 2, 0, none⟩) ∧ Hid (Ext w3 w) ∧
    Hid (∀ k, k < 3 → SameP t (ts k) ∧ OwnP (l k) (h k) w (ts k) ∧ w3.heap.size ≤ l k ∧ h k ≤ w.heap.size ∧ w3.heap.size ≤ B k ∧ B k < w.heap.size ∧ MkP w (B k) (ts k) ∧ ∀ j, j < 3 → (j ≠ k → (h j ≤ l k ∨ h k ≤ l j) ∧ B k ≠ B j) ∧ (B k < l j ∨ h j ≤ B k))
theorem Inv3c.done {t : PV} {w3 w : World} {L : Nat → Prop} {X C A : Nat → Value} (I : Inv3c t w3 L X C A w) (hL : ∀ i, i < 12 → L i) : ThreeP t w3 (A 0) (A 1) (A 2) w := by
  obtain ⟨l, h, B, ts, hx, h0, hp⟩ := I
  have p0 := ((hp 0 (by omega)).box (hL _ (by omega))).1
  have p1 := ((hp 1 (by omega)).box (hL _ (by omega))).1
  have p2 := ((hp 2 (by omega)).box (hL _ (by omega))).1
  refine ⟨l, h, B, ts, p0, p1, p2, hx, fun k hk => ?_⟩
  have p := hp k hk
  obtain ⟨-, q2, q3, -⟩ := p.box (hL _ (by omega))
  obtain ⟨-, r2, r3⟩ := p.call (hL _ (by omega))
  exact ⟨r2, r3, p.low, p.high, q2, q3, p.put (hL _ (by omega)), fun j hj => ⟨fun hjk => ⟨p.apart j hj hjk, p.other j hj hjk (hL _ (by omega)) (hL _ (by omega))⟩, p.out j hj (hL _ (by omega))⟩⟩
end Go.Proofs.Ytfognlealnhodaa

namespace Go.Proofs.Ytfognlealnhodaa
open Go.RowKit

noncomputable def reg6_7 : Code := ((Try.f6.body.bind (regA 7)).getD .skip)
/-- The slots at the region. -/
def fr3c6 (pb : Nat) (n i j : Nat) (xy : Int) (X C A Y : Nat → Value) : Array Value := #[Y 0, Y 1, Y 2, .int .i64 xy, Y 4, Y 5, Y 6, Y 7, Y 8, .pointer (some ⟨pb, 0, none⟩), Y 10, .int .i64 (n : Int), .int .i64 (i : Int), .int .i64 (j : Int), A 0, A 1, A 2, Y 17, Y 18, Y 19, Y 20, Y 21, Y 22, Y 23, Y 24, Y 25, Y 26, Y 27, Y 28, Y 29, Y 30, Y 31, Y 32, Y 33, Y 34, Y 35, Y 36, Y 37, Y 38, Y 39, Y 40, Y 41, Y 42, Y 43, Y 44, Y 45, Y 46, Y 47, Y 48, Y 49, Y 50, Y 51, Y 52, Y 53, Y 54, Y 55, Y 56, Y 57, Y 58, Y 59, Y 60, Y 61, Y 62, Y 63, Y 64, Y 65, Y 66, Y 67, Y 68, Y 69, X 0, C 0, X 1, C 1, X 2, C 2, Y 76, Y 77, Y 78, Y 79, Y 80, Y 81, Y 82, Y 83, Y 84, Y 85, Y 86, Y 87, Y 88, Y 89, Y 90, Y 91, Y 92, Y 93, Y 94, Y 95, Y 96, Y 97, Y 98, Y 99, Y 100, Y 101, Y 102, Y 103, Y 104, Y 105, Y 106, Y 107, Y 108, Y 109, Y 110, Y 111, Y 112, Y 113, Y 114, Y 115, Y 116, Y 117, Y 118, Y 119, Y 120, Y 121, Y 122, Y 123, Y 124, Y 125, Y 126, Y 127, Y 128, Y 129, Y 130, Y 131, Y 132, Y 133, Y 134, Y 135, Y 136, Y 137, Y 138, Y 139, Y 140, Y 141, Y 142, Y 143, Y 144, Y 145, Y 146, Y 147, Y 148, Y 149, Y 150, Y 151, Y 152, Y 153, Y 154, Y 155, Y 156, Y 157, Y 158, Y 159, Y 160, Y 161, Y 162, Y 163, Y 164, Y 165, Y 166, Y 167, Y 168, Y 169, Y 170, Y 171, Y 172, Y 173, Y 174, Y 175, Y 176, Y 177, Y 178, Y 179, Y 180, Y 181, Y 182, Y 183, Y 184, Y 185, Y 186, Y 187, Y 188, Y 189, Y 190, Y 191, Y 192, Y 193, Y 194, Y 195, Y 196, Y 197, Y 198, Y 199, Y 200, Y 201, Y 202, Y 203, Y 204, Y 205, Y 206, Y 207, Y 208, Y 209, Y 210, Y 211, Y 212, Y 213, Y 214, Y 215, Y 216, Y 217]

set_option maxRecDepth 1000000 in
set_option maxHeartbeats 16000000 in
theorem three_r6 (pb : Nat) (n i j : Nat) (xy : Int) (v : PV) (t : Array Value) (V0 : World) (Q : Exit → Act → World → Prop) (ht : t = fr3c6 pb n i j xy (fun k => t.getD (70 + 2 * k) undef) (fun k => t.getD (71 + 2 * k) undef) (fun k => t.getD (14 + k) undef) (fun i => t.getD i undef)) (hF : Five V0 pb v) (hP : IsP V0 v)
    (HQ : Hid (∀ (X C A Y : Nat → Value) (W : World), ThreeP v V0 (A 0) (A 1) (A 2) W → Q .normal ⟨fr3c6 pb n i j xy X C A Y, []⟩ W)) :
    Code.wp Try.prog reg6_7 Q ⟨t, []⟩ V0 := by
  have HT : Hid (t = fr3c6 pb n i j xy (fun k => t.getD (70 + 2 * k) undef) (fun k => t.getD (71 + 2 * k) undef) (fun k => t.getD (14 + k) undef) (fun i => t.getD i undef)) := ht
  have HF := Lib.hid hF
  have HP := Lib.hid hP
  clear ht hF hP
  conv => arg 2; whnf
  refine wp_region_inv (by kernel_rfl) (by kernel_rfl) (fun L a w => ∃ X C A Y : Nat → Value, a = ⟨fr3c6 pb n i j xy X C A Y, []⟩ ∧ Inv3c v V0 L X C A w) ?_ ?_ ?_
  · exact ⟨_, _, _, _, congrArg (fun z => Act.mk z []) HT.out, Inv3c.start v _ _ _ _ _ (Ext.refl V0).drew⟩
  · rintro L a V i o ⟨X, C, A, Y, rfl, hI⟩ hn ho hwait
    have hi : i < 12 := (Array.getElem?_eq_some_iff.1 ho).1
    have HI := Lib.hid hI
    have HX : Hid (Ext V0 V) := by obtain ⟨_, _, _, _, hx, _⟩ := hI; exact hx
    have HN := Lib.hid hn
    clear hI hn HT HQ
    obtain ⟨f0, f1, f2, f3, f4⟩ := HF.out.ext HX.out
    obtain rfl | rfl | rfl | rfl | rfl | rfl | rfl | rfl | rfl | rfl | rfl | rfl : i = 0 ∨ i = 1 ∨ i = 2 ∨ i = 3 ∨ i = 4 ∨ i = 5 ∨ i = 6 ∨ i = 7 ∨ i = 8 ∨ i = 9 ∨ i = 10 ∨ i = 11 := by omega
    all_goals (simp only [List.getElem?_toArray, List.getElem?_cons_zero, List.getElem?_cons_succ, Option.some.injEq] at ho; subst ho; simp [Region.binds] at hwait; dsimp only [fr3c6]; refine wpOp_step rfl (fun K' hK => ?_); have HKK := Lib.hid hK; clear hK)
    · go_simp
      exact HKK.out _ _ ⟨updV X 0 v.v, C, A, Y, rfl, HI.out.load 0 (by omega)⟩
    · have e0 : X 0 = v.v := by obtain ⟨_, _, _, _, _, _, hp⟩ := HI.out; exact (hp 0 (by omega)).load (by exact hwait)
      clear f0 f1 f2 f3 f4 hwait
      rw [e0]
      have HE := Lib.hid e0
      clear e0
      go_simp
      go_at_call 23
      refine (cloneP_any v V (HP.out.ext HX.out)).mono ?_
      rintro e w' ⟨a1, k1, a2, k2, rfl, ho1, ho2, hx'⟩
      have hop : OwnP V.heap.size w'.heap.size w' ⟨⟨a1, k1, v.at'.l⟩, ⟨a2, k2, v.gr.l⟩, v.T, v.lo, v.hi⟩ := ⟨ho1, ho2, fun g hg => by
        rcases hg with hg | hg
        · exact (own_type ho1 hg).2.1
        · exact (own_type ho2 hg).2.1⟩
      refine HKK.out _ _ ⟨X, updV C 0 (⟨⟨a1, k1, v.at'.l⟩, ⟨a2, k2, v.gr.l⟩, v.T, v.lo, v.hi⟩ : PV).v, A, Y, ?_, HI.out.call 0 (by omega) HN.out hop ⟨rfl, rfl, rfl, rfl, rfl⟩ hx'⟩
      rw [← HE.out]
      rfl
    · go_simp
      exact HKK.out _ _ ⟨updV X 1 v.v, C, A, Y, rfl, HI.out.load 1 (by omega)⟩
    · have e0 : X 1 = v.v := by obtain ⟨_, _, _, _, _, _, hp⟩ := HI.out; exact (hp 1 (by omega)).load (by exact hwait.1)
      clear f0 f1 f2 f3 f4 hwait
      rw [e0]
      have HE := Lib.hid e0
      clear e0
      go_simp
      go_at_call 23
      refine (cloneP_any v V (HP.out.ext HX.out)).mono ?_
      rintro e w' ⟨a1, k1, a2, k2, rfl, ho1, ho2, hx'⟩
      have hop : OwnP V.heap.size w'.heap.size w' ⟨⟨a1, k1, v.at'.l⟩, ⟨a2, k2, v.gr.l⟩, v.T, v.lo, v.hi⟩ := ⟨ho1, ho2, fun g hg => by
        rcases hg with hg | hg
        · exact (own_type ho1 hg).2.1
        · exact (own_type ho2 hg).2.1⟩
      refine HKK.out _ _ ⟨X, updV C 1 (⟨⟨a1, k1, v.at'.l⟩, ⟨a2, k2, v.gr.l⟩, v.T, v.lo, v.hi⟩ : PV).v, A, Y, ?_, HI.out.call 1 (by omega) HN.out hop ⟨rfl, rfl, rfl, rfl, rfl⟩ hx'⟩
      rw [← HE.out]
      rfl
    · go_simp
      exact HKK.out _ _ ⟨updV X 2 v.v, C, A, Y, rfl, HI.out.load 2 (by omega)⟩
    · have e0 : X 2 = v.v := by obtain ⟨_, _, _, _, _, _, hp⟩ := HI.out; exact (hp 2 (by omega)).load (by exact hwait.1)
      clear f0 f1 f2 f3 f4 hwait
      rw [e0]
      have HE := Lib.hid e0
      clear e0
      go_simp
      go_at_call 23
      refine (cloneP_any v V (HP.out.ext HX.out)).mono ?_
      rintro e w' ⟨a1, k1, a2, k2, rfl, ho1, ho2, hx'⟩
      have hop : OwnP V.heap.size w'.heap.size w' ⟨⟨a1, k1, v.at'.l⟩, ⟨a2, k2, v.gr.l⟩, v.T, v.lo, v.hi⟩ := ⟨ho1, ho2, fun g hg => by
        rcases hg with hg | hg
        · exact (own_type ho1 hg).2.1
        · exact (own_type ho2 hg).2.1⟩
      refine HKK.out _ _ ⟨X, updV C 2 (⟨⟨a1, k1, v.at'.l⟩, ⟨a2, k2, v.gr.l⟩, v.T, v.lo, v.hi⟩ : PV).v, A, Y, ?_, HI.out.call 2 (by omega) HN.out hop ⟨rfl, rfl, rfl, rfl, rfl⟩ hx'⟩
      rw [← HE.out]
      rfl
    · clear f0 f1 f2 f3 f4
      go_simp
      exact HKK.out _ _ ⟨X, C, updV A 0 (.pointer (some ⟨V.heap.size, 0, none⟩)), Y, rfl, HI.out.box 0 (by omega) HN.out⟩
    · clear f0 f1 f2 f3 f4
      go_simp
      exact HKK.out _ _ ⟨X, C, updV A 1 (.pointer (some ⟨V.heap.size, 0, none⟩)), Y, rfl, HI.out.box 1 (by omega) HN.out⟩
    · clear f0 f1 f2 f3 f4
      go_simp
      exact HKK.out _ _ ⟨X, C, updV A 2 (.pointer (some ⟨V.heap.size, 0, none⟩)), Y, rfl, HI.out.box 2 (by omega) HN.out⟩
    · clear f0 f1 f2 f3 f4
      obtain ⟨b, t', eA, eC, hz, hI2⟩ := HI.out.at 0 (by omega) hwait.1 hwait.2.1 HN.out
      obtain ⟨z0, z1, z2, z3, z4, zf⟩ := hz.five
      have HI2 := Lib.hid hI2
      have HA := Lib.hid eA
      have HC := Lib.hid eC
      clear hwait hI2 hz
      rw [eA, eC]
      clear eA eC
      go_simp
      refine HKK.out _ _ ⟨X, C, A, Y, ?_, HI2.out⟩
      rw [← HA.out, ← HC.out]
    · clear f0 f1 f2 f3 f4
      obtain ⟨b, t', eA, eC, hz, hI2⟩ := HI.out.at 1 (by omega) hwait.1 hwait.2.1 HN.out
      obtain ⟨z0, z1, z2, z3, z4, zf⟩ := hz.five
      have HI2 := Lib.hid hI2
      have HA := Lib.hid eA
      have HC := Lib.hid eC
      clear hwait hI2 hz
      rw [eA, eC]
      clear eA eC
      go_simp
      refine HKK.out _ _ ⟨X, C, A, Y, ?_, HI2.out⟩
      rw [← HA.out, ← HC.out]
    · clear f0 f1 f2 f3 f4
      obtain ⟨b, t', eA, eC, hz, hI2⟩ := HI.out.at 2 (by omega) hwait.1 hwait.2.1 HN.out
      obtain ⟨z0, z1, z2, z3, z4, zf⟩ := hz.five
      have HI2 := Lib.hid hI2
      have HA := Lib.hid eA
      have HC := Lib.hid eC
      clear hwait hI2 hz
      rw [eA, eC]
      clear eA eC
      go_simp
      refine HKK.out _ _ ⟨X, C, A, Y, ?_, HI2.out⟩
      rw [← HA.out, ← HC.out]
  · rintro L a V ⟨X, C, A, Y, rfl, hI⟩ hL
    exact HQ.out X C A Y V (hI.done (fun i hi => hL i hi))
end Go.Proofs.Ytfognlealnhodaa

namespace Go.Proofs.Ytfognlealnhodaa
open Go.RowKit

noncomputable def reg5_18 : Code := ((Try.f5.body.bind (regA 18)).getD .skip)
/-- The slots at the region. -/
def fr3c5 (pb : Nat) (D2 n i j z : Nat) (xm : Int) (T : SL Nat) (X C A Y : Nat → Value) : Array Value := #[Y 0, Y 1, Y 2, Y 3, .int .i64 xm, Y 5, Y 6, Y 7, Y 8, Y 9, Y 10, Y 11, .pointer (some ⟨D2, 0, none⟩), .pointer (some ⟨pb, 0, none⟩), .slice T.a n T.c, .int .i64 (i : Int), .int .i64 (j : Int), .int .i64 (z : Int), Y 18, Y 19, Y 20, Y 21, Y 22, Y 23, Y 24, A 0, A 1, A 2, Y 28, Y 29, Y 30, Y 31, Y 32, Y 33, Y 34, Y 35, Y 36, Y 37, Y 38, Y 39, Y 40, Y 41, Y 42, Y 43, Y 44, Y 45, Y 46, Y 47, Y 48, Y 49, Y 50, Y 51, Y 52, Y 53, Y 54, Y 55, Y 56, Y 57, Y 58, Y 59, Y 60, Y 61, Y 62, Y 63, Y 64, Y 65, Y 66, Y 67, Y 68, Y 69, Y 70, Y 71, Y 72, Y 73, Y 74, Y 75, Y 76, Y 77, Y 78, Y 79, Y 80, Y 81, Y 82, Y 83, Y 84, Y 85, Y 86, Y 87, Y 88, Y 89, Y 90, Y 91, Y 92, Y 93, Y 94, Y 95, Y 96, Y 97, Y 98, Y 99, Y 100, Y 101, Y 102, Y 103, Y 104, Y 105, Y 106, Y 107, Y 108, Y 109, Y 110, Y 111, Y 112, Y 113, X 0, C 0, X 1, C 1, X 2, C 2, Y 120, Y 121, Y 122, Y 123, Y 124, Y 125, Y 126, Y 127, Y 128, Y 129, Y 130, Y 131, Y 132, Y 133, Y 134, Y 135, Y 136, Y 137, Y 138, Y 139, Y 140, Y 141, Y 142, Y 143, Y 144, Y 145, Y 146, Y 147, Y 148, Y 149, Y 150, Y 151, Y 152, Y 153, Y 154, Y 155, Y 156, Y 157, Y 158, Y 159, Y 160, Y 161, Y 162, Y 163, Y 164, Y 165, Y 166, Y 167, Y 168, Y 169, Y 170, Y 171, Y 172, Y 173, Y 174, Y 175, Y 176, Y 177, Y 178, Y 179, Y 180, Y 181, Y 182, Y 183, Y 184, Y 185, Y 186, Y 187, Y 188, Y 189, Y 190, Y 191, Y 192, Y 193, Y 194, Y 195, Y 196, Y 197, Y 198, Y 199, Y 200, Y 201, Y 202, Y 203, Y 204, Y 205, Y 206, Y 207, Y 208, Y 209, Y 210, Y 211, Y 212, Y 213, Y 214, Y 215, Y 216, Y 217, Y 218, Y 219, Y 220, Y 221, Y 222, Y 223, Y 224, Y 225, Y 226, Y 227, Y 228, Y 229, Y 230, Y 231, Y 232, Y 233, Y 234, Y 235, Y 236, Y 237, Y 238, Y 239, Y 240, Y 241, Y 242, Y 243, Y 244, Y 245, Y 246, Y 247, Y 248, Y 249, Y 250, Y 251, Y 252, Y 253, Y 254, Y 255, Y 256, Y 257, Y 258, Y 259, Y 260, Y 261, Y 262, Y 263, Y 264, Y 265, Y 266, Y 267, Y 268, Y 269, Y 270, Y 271, Y 272, Y 273, Y 274, Y 275, Y 276, Y 277, Y 278, Y 279, Y 280, Y 281, Y 282, Y 283]

set_option maxRecDepth 1000000 in
set_option maxHeartbeats 16000000 in
theorem three_r5 (pb : Nat) (D2 n i j z : Nat) (xm : Int) (T : SL Nat) (v : PV) (t : Array Value) (V0 : World) (Q : Exit → Act → World → Prop) (ht : t = fr3c5 pb D2 n i j z xm T (fun k => t.getD (114 + 2 * k) undef) (fun k => t.getD (115 + 2 * k) undef) (fun k => t.getD (25 + k) undef) (fun i => t.getD i undef)) (hF : Five V0 pb v) (hP : IsP V0 v)
    (HQ : Hid (∀ (X C A Y : Nat → Value) (W : World), ThreeP v V0 (A 0) (A 1) (A 2) W → Q .normal ⟨fr3c5 pb D2 n i j z xm T X C A Y, []⟩ W)) :
    Code.wp Try.prog reg5_18 Q ⟨t, []⟩ V0 := by
  have HT : Hid (t = fr3c5 pb D2 n i j z xm T (fun k => t.getD (114 + 2 * k) undef) (fun k => t.getD (115 + 2 * k) undef) (fun k => t.getD (25 + k) undef) (fun i => t.getD i undef)) := ht
  have HF := Lib.hid hF
  have HP := Lib.hid hP
  clear ht hF hP
  conv => arg 2; whnf
  refine wp_region_inv (by kernel_rfl) (by kernel_rfl) (fun L a w => ∃ X C A Y : Nat → Value, a = ⟨fr3c5 pb D2 n i j z xm T X C A Y, []⟩ ∧ Inv3c v V0 L X C A w) ?_ ?_ ?_
  · exact ⟨_, _, _, _, congrArg (fun z => Act.mk z []) HT.out, Inv3c.start v _ _ _ _ _ (Ext.refl V0).drew⟩
  · rintro L a V i o ⟨X, C, A, Y, rfl, hI⟩ hn ho hwait
    have hi : i < 12 := (Array.getElem?_eq_some_iff.1 ho).1
    have HI := Lib.hid hI
    have HX : Hid (Ext V0 V) := by obtain ⟨_, _, _, _, hx, _⟩ := hI; exact hx
    have HN := Lib.hid hn
    clear hI hn HT HQ
    obtain ⟨f0, f1, f2, f3, f4⟩ := HF.out.ext HX.out
    obtain rfl | rfl | rfl | rfl | rfl | rfl | rfl | rfl | rfl | rfl | rfl | rfl : i = 0 ∨ i = 1 ∨ i = 2 ∨ i = 3 ∨ i = 4 ∨ i = 5 ∨ i = 6 ∨ i = 7 ∨ i = 8 ∨ i = 9 ∨ i = 10 ∨ i = 11 := by omega
    all_goals (simp only [List.getElem?_toArray, List.getElem?_cons_zero, List.getElem?_cons_succ, Option.some.injEq] at ho; subst ho; simp [Region.binds] at hwait; dsimp only [fr3c5]; refine wpOp_step rfl (fun K' hK => ?_); have HKK := Lib.hid hK; clear hK)
    · go_simp
      exact HKK.out _ _ ⟨updV X 0 v.v, C, A, Y, rfl, HI.out.load 0 (by omega)⟩
    · have e0 : X 0 = v.v := by obtain ⟨_, _, _, _, _, _, hp⟩ := HI.out; exact (hp 0 (by omega)).load (by exact hwait)
      clear f0 f1 f2 f3 f4 hwait
      rw [e0]
      have HE := Lib.hid e0
      clear e0
      go_simp
      go_at_call 23
      refine (cloneP_any v V (HP.out.ext HX.out)).mono ?_
      rintro e w' ⟨a1, k1, a2, k2, rfl, ho1, ho2, hx'⟩
      have hop : OwnP V.heap.size w'.heap.size w' ⟨⟨a1, k1, v.at'.l⟩, ⟨a2, k2, v.gr.l⟩, v.T, v.lo, v.hi⟩ := ⟨ho1, ho2, fun g hg => by
        rcases hg with hg | hg
        · exact (own_type ho1 hg).2.1
        · exact (own_type ho2 hg).2.1⟩
      refine HKK.out _ _ ⟨X, updV C 0 (⟨⟨a1, k1, v.at'.l⟩, ⟨a2, k2, v.gr.l⟩, v.T, v.lo, v.hi⟩ : PV).v, A, Y, ?_, HI.out.call 0 (by omega) HN.out hop ⟨rfl, rfl, rfl, rfl, rfl⟩ hx'⟩
      rw [← HE.out]
      rfl
    · go_simp
      exact HKK.out _ _ ⟨updV X 1 v.v, C, A, Y, rfl, HI.out.load 1 (by omega)⟩
    · have e0 : X 1 = v.v := by obtain ⟨_, _, _, _, _, _, hp⟩ := HI.out; exact (hp 1 (by omega)).load (by exact hwait.1)
      clear f0 f1 f2 f3 f4 hwait
      rw [e0]
      have HE := Lib.hid e0
      clear e0
      go_simp
      go_at_call 23
      refine (cloneP_any v V (HP.out.ext HX.out)).mono ?_
      rintro e w' ⟨a1, k1, a2, k2, rfl, ho1, ho2, hx'⟩
      have hop : OwnP V.heap.size w'.heap.size w' ⟨⟨a1, k1, v.at'.l⟩, ⟨a2, k2, v.gr.l⟩, v.T, v.lo, v.hi⟩ := ⟨ho1, ho2, fun g hg => by
        rcases hg with hg | hg
        · exact (own_type ho1 hg).2.1
        · exact (own_type ho2 hg).2.1⟩
      refine HKK.out _ _ ⟨X, updV C 1 (⟨⟨a1, k1, v.at'.l⟩, ⟨a2, k2, v.gr.l⟩, v.T, v.lo, v.hi⟩ : PV).v, A, Y, ?_, HI.out.call 1 (by omega) HN.out hop ⟨rfl, rfl, rfl, rfl, rfl⟩ hx'⟩
      rw [← HE.out]
      rfl
    · go_simp
      exact HKK.out _ _ ⟨updV X 2 v.v, C, A, Y, rfl, HI.out.load 2 (by omega)⟩
    · have e0 : X 2 = v.v := by obtain ⟨_, _, _, _, _, _, hp⟩ := HI.out; exact (hp 2 (by omega)).load (by exact hwait.1)
      clear f0 f1 f2 f3 f4 hwait
      rw [e0]
      have HE := Lib.hid e0
      clear e0
      go_simp
      go_at_call 23
      refine (cloneP_any v V (HP.out.ext HX.out)).mono ?_
      rintro e w' ⟨a1, k1, a2, k2, rfl, ho1, ho2, hx'⟩
      have hop : OwnP V.heap.size w'.heap.size w' ⟨⟨a1, k1, v.at'.l⟩, ⟨a2, k2, v.gr.l⟩, v.T, v.lo, v.hi⟩ := ⟨ho1, ho2, fun g hg => by
        rcases hg with hg | hg
        · exact (own_type ho1 hg).2.1
        · exact (own_type ho2 hg).2.1⟩
      refine HKK.out _ _ ⟨X, updV C 2 (⟨⟨a1, k1, v.at'.l⟩, ⟨a2, k2, v.gr.l⟩, v.T, v.lo, v.hi⟩ : PV).v, A, Y, ?_, HI.out.call 2 (by omega) HN.out hop ⟨rfl, rfl, rfl, rfl, rfl⟩ hx'⟩
      rw [← HE.out]
      rfl
    · clear f0 f1 f2 f3 f4
      go_simp
      exact HKK.out _ _ ⟨X, C, updV A 0 (.pointer (some ⟨V.heap.size, 0, none⟩)), Y, rfl, HI.out.box 0 (by omega) HN.out⟩
    · clear f0 f1 f2 f3 f4
      go_simp
      exact HKK.out _ _ ⟨X, C, updV A 1 (.pointer (some ⟨V.heap.size, 0, none⟩)), Y, rfl, HI.out.box 1 (by omega) HN.out⟩
    · clear f0 f1 f2 f3 f4
      go_simp
      exact HKK.out _ _ ⟨X, C, updV A 2 (.pointer (some ⟨V.heap.size, 0, none⟩)), Y, rfl, HI.out.box 2 (by omega) HN.out⟩
    · clear f0 f1 f2 f3 f4
      obtain ⟨b, t', eA, eC, hz, hI2⟩ := HI.out.at 0 (by omega) hwait.1 hwait.2.1 HN.out
      obtain ⟨z0, z1, z2, z3, z4, zf⟩ := hz.five
      have HI2 := Lib.hid hI2
      have HA := Lib.hid eA
      have HC := Lib.hid eC
      clear hwait hI2 hz
      rw [eA, eC]
      clear eA eC
      go_simp
      refine HKK.out _ _ ⟨X, C, A, Y, ?_, HI2.out⟩
      rw [← HA.out, ← HC.out]
    · clear f0 f1 f2 f3 f4
      obtain ⟨b, t', eA, eC, hz, hI2⟩ := HI.out.at 1 (by omega) hwait.1 hwait.2.1 HN.out
      obtain ⟨z0, z1, z2, z3, z4, zf⟩ := hz.five
      have HI2 := Lib.hid hI2
      have HA := Lib.hid eA
      have HC := Lib.hid eC
      clear hwait hI2 hz
      rw [eA, eC]
      clear eA eC
      go_simp
      refine HKK.out _ _ ⟨X, C, A, Y, ?_, HI2.out⟩
      rw [← HA.out, ← HC.out]
    · clear f0 f1 f2 f3 f4
      obtain ⟨b, t', eA, eC, hz, hI2⟩ := HI.out.at 2 (by omega) hwait.1 hwait.2.1 HN.out
      obtain ⟨z0, z1, z2, z3, z4, zf⟩ := hz.five
      have HI2 := Lib.hid hI2
      have HA := Lib.hid eA
      have HC := Lib.hid eC
      clear hwait hI2 hz
      rw [eA, eC]
      clear eA eC
      go_simp
      refine HKK.out _ _ ⟨X, C, A, Y, ?_, HI2.out⟩
      rw [← HA.out, ← HC.out]
  · rintro L a V ⟨X, C, A, Y, rfl, hI⟩ hL
    exact HQ.out X C A Y V (hI.done (fun i hi => hL i hi))
end Go.Proofs.Ytfognlealnhodaa

namespace Go.Proofs.Ytfognlealnhodaa
open Go.RowKit

/-- Where a copy lies: its places, their capacity, its ground, its capacity, its box. -/
structure N3 where
  g : Nat
  k : Nat
  r : Nat
  q : Nat
  B : Nat
/-- A copy. -/
structure CpS (W : World) (s0 n : Nat) (x : N3) (A : List Nat) (G : List (Nat × Nat)) (T lo hi : Nat) : Prop where
  row : Row W x.g A x.k
  sp : RowP W x.r G x.q
  box : W.heap[x.B]? = some (.cells #[.slice (some ⟨x.g, 0, none⟩) n x.k, .slice (some ⟨x.r, 0, none⟩) n x.q, .int .i64 (T : Int), .int .i64 (lo : Int), .int .i64 (hi : Int)] 30 (0, 0))
  la : A.length = n
  lg : G.length = n
  low : s0 ≤ x.g ∧ s0 ≤ x.r ∧ s0 ≤ x.B
section
variable {W W' : World} {s0 n T lo hi : Nat} {x y : N3} {A A' : List Nat} {G G' : List (Nat × Nat)} {D : Nat → Prop}
theorem Row.heap {w : World} {g c : Nat} {L : List Nat} (h : Row w g L c) : ∃ cur, w.heap[g]? = some (.cells cur 3 (0, 0)) := by obtain ⟨cur, h1, _⟩ := h; exact ⟨cur, h1⟩
theorem RowP.heap {w : World} {g c : Nat} {L : List (Nat × Nat)} (h : RowP w g L c) : ∃ cur, w.heap[g]? = some (.cells cur 28 (0, 0)) := by obtain ⟨cur, h1, _⟩ := h; exact ⟨cur, h1⟩
theorem CpS.keep (h : CpS W s0 n x A G T lo hi) (k : Keep D W W') (d1 : D x.g) (d2 : D x.r) (d3 : D x.B) : CpS W' s0 n x A G T lo hi :=
  ⟨h.row.keep k d1, h.sp.keep k d2, k.heap h.box d3, h.la, h.lg, h.low⟩
theorem CpS.ext (h : CpS W s0 n x A G T lo hi) (k : Ext W W') : CpS W' s0 n x A G T lo hi :=
  ⟨h.row.ext k, h.sp.ext k, k.block h.box, h.la, h.lg, h.low⟩
theorem CpS.gr {T' lo' hi' : Nat} (h : CpS W s0 n x A G T lo hi) (h' : CpS W s0 n y A' G' T' lo' hi') : x.g ≠ y.r ∧ x.g ≠ y.B ∧ x.r ≠ y.g ∧ x.r ≠ y.B ∧ x.B ≠ y.g ∧ x.B ≠ y.r := by
  obtain ⟨c1, e1⟩ := h.row.heap
  obtain ⟨c2, e2⟩ := h.sp.heap
  obtain ⟨c3, e3⟩ := h'.row.heap
  obtain ⟨c4, e4⟩ := h'.sp.heap
  exact ⟨type_ne e1 e4 (by decide), type_ne e1 h'.box (by decide), type_ne e2 e3 (by decide), type_ne e2 h'.box (by decide), type_ne h.box e3 (by decide), type_ne h.box e4 (by decide)⟩
theorem CpS.setA (h : CpS W s0 n x A G T lo hi) (i z : Nat) (hi' : i < n) : CpS (W.setCell ⟨x.g, i, none⟩ (.int .i64 (z : Int))) s0 n x (A.set i z) G T lo hi := by
  obtain ⟨q1, q2, q3, q4, q5, q6⟩ := h.gr h
  have k : Keep (fun b => b ≠ x.g) W (W.setCell ⟨x.g, i, none⟩ (.int .i64 (z : Int))) := (Keep.refl _ W).setCell _ _ (fun _ hh => hh rfl)
  exact ⟨h.row.set i z (by rw [h.la]; exact hi'), h.sp.keep k q3, k.heap h.box q5, by rw [List.length_set]; exact h.la, h.lg, h.low⟩
theorem CpS.box_at (h : CpS W s0 n x A G T lo hi) : W.cell? ⟨x.B, 0, none⟩ = some (.slice (some ⟨x.g, 0, none⟩) n x.k) ∧ W.cell? ⟨x.B, 1, none⟩ = some (.slice (some ⟨x.r, 0, none⟩) n x.q) ∧ W.cell? ⟨x.B, 2, none⟩ = some (.int .i64 (T : Int)) ∧ W.cell? ⟨x.B, 3, none⟩ = some (.int .i64 (lo : Int)) ∧ W.cell? ⟨x.B, 4, none⟩ = some (.int .i64 (hi : Int)) :=
  ⟨(cell_at h.box 0).trans rfl, (cell_at h.box 1).trans rfl, (cell_at h.box 2).trans rfl, (cell_at h.box 3).trans rfl, (cell_at h.box 4).trans rfl⟩
/-- The profile that a copy is. -/
def N3.pv (x : N3) (A : List Nat) (G : List (Nat × Nat)) (T lo hi : Nat) : PV := ⟨⟨some ⟨x.g, 0, none⟩, x.k, A⟩, ⟨some ⟨x.r, 0, none⟩, x.q, G⟩, T, lo, hi⟩
theorem CpS.is (h : CpS W s0 n x A G T lo hi) (hn : n ≤ 1000) : IsP W (x.pv A G T lo hi) := ⟨h.row.sl (by rw [h.la]; omega), h.sp.sl (by rw [h.lg]; omega)⟩
end
/-- The copies lie apart. -/
def Ap3 (x0 x1 x2 : N3) : Prop := (x0.g ≠ x1.g ∧ x0.g ≠ x2.g ∧ x1.g ≠ x2.g) ∧ (x0.r ≠ x1.r ∧ x0.r ≠ x2.r ∧ x1.r ≠ x2.r) ∧ (x0.B ≠ x1.B ∧ x0.B ≠ x2.B ∧ x1.B ≠ x2.B)
/-- Three copies. -/
structure T3 (W : World) (s0 n : Nat) (x0 x1 x2 : N3) (A0 A1 A2 : List Nat) (G0 G1 G2 : List (Nat × Nat)) (T0 T1 T2 lo0 lo1 lo2 hi0 hi1 hi2 : Nat) : Prop where
  c0 : CpS W s0 n x0 A0 G0 T0 lo0 hi0
  c1 : CpS W s0 n x1 A1 G1 T1 lo1 hi1
  c2 : CpS W s0 n x2 A2 G2 T2 lo2 hi2
  ap : Ap3 x0 x1 x2
section
variable {W W' : World} {s0 n : Nat} {x0 x1 x2 : N3} {A0 A1 A2 : List Nat} {G0 G1 G2 : List (Nat × Nat)} {T0 T1 T2 lo0 lo1 lo2 hi0 hi1 hi2 : Nat}
theorem T3.ext (h : T3 W s0 n x0 x1 x2 A0 A1 A2 G0 G1 G2 T0 T1 T2 lo0 lo1 lo2 hi0 hi1 hi2) (k : Ext W W') : T3 W' s0 n x0 x1 x2 A0 A1 A2 G0 G1 G2 T0 T1 T2 lo0 lo1 lo2 hi0 hi1 hi2 := ⟨h.c0.ext k, h.c1.ext k, h.c2.ext k, h.ap⟩
theorem T3.setA0 (h : T3 W s0 n x0 x1 x2 A0 A1 A2 G0 G1 G2 T0 T1 T2 lo0 lo1 lo2 hi0 hi1 hi2) (i z : Nat) (hi' : i < n) : T3 (W.setCell ⟨x0.g, i, none⟩ (.int .i64 (z : Int))) s0 n x0 x1 x2 (A0.set i z) A1 A2 G0 G1 G2 T0 T1 T2 lo0 lo1 lo2 hi0 hi1 hi2 := by
  have k : Keep (fun b => b ≠ x0.g) W (W.setCell ⟨x0.g, i, none⟩ (.int .i64 (z : Int))) := (Keep.refl _ W).setCell _ _ (fun _ hh => hh rfl)
  obtain ⟨⟨p1, p2, p3⟩, _, _⟩ := h.ap
  obtain ⟨q1, q2, -⟩ := h.c0.gr h.c1
  obtain ⟨r1, r2, -⟩ := h.c0.gr h.c2
  exact ⟨h.c0.setA i z hi', h.c1.keep k (Ne.symm p1) (Ne.symm q1) (Ne.symm q2), h.c2.keep k (Ne.symm p2) (Ne.symm r1) (Ne.symm r2), h.ap⟩
theorem T3.setA1 (h : T3 W s0 n x0 x1 x2 A0 A1 A2 G0 G1 G2 T0 T1 T2 lo0 lo1 lo2 hi0 hi1 hi2) (i z : Nat) (hi' : i < n) : T3 (W.setCell ⟨x1.g, i, none⟩ (.int .i64 (z : Int))) s0 n x0 x1 x2 A0 (A1.set i z) A2 G0 G1 G2 T0 T1 T2 lo0 lo1 lo2 hi0 hi1 hi2 := by
  have k : Keep (fun b => b ≠ x1.g) W (W.setCell ⟨x1.g, i, none⟩ (.int .i64 (z : Int))) := (Keep.refl _ W).setCell _ _ (fun _ hh => hh rfl)
  obtain ⟨⟨p1, p2, p3⟩, _, _⟩ := h.ap
  obtain ⟨q1, q2, -⟩ := h.c1.gr h.c0
  obtain ⟨r1, r2, -⟩ := h.c1.gr h.c2
  exact ⟨h.c0.keep k p1 (Ne.symm q1) (Ne.symm q2), h.c1.setA i z hi', h.c2.keep k (Ne.symm p3) (Ne.symm r1) (Ne.symm r2), h.ap⟩
theorem T3.setA2 (h : T3 W s0 n x0 x1 x2 A0 A1 A2 G0 G1 G2 T0 T1 T2 lo0 lo1 lo2 hi0 hi1 hi2) (i z : Nat) (hi' : i < n) : T3 (W.setCell ⟨x2.g, i, none⟩ (.int .i64 (z : Int))) s0 n x0 x1 x2 A0 A1 (A2.set i z) G0 G1 G2 T0 T1 T2 lo0 lo1 lo2 hi0 hi1 hi2 := by
  have k : Keep (fun b => b ≠ x2.g) W (W.setCell ⟨x2.g, i, none⟩ (.int .i64 (z : Int))) := (Keep.refl _ W).setCell _ _ (fun _ hh => hh rfl)
  obtain ⟨⟨p1, p2, p3⟩, _, _⟩ := h.ap
  obtain ⟨q1, q2, -⟩ := h.c2.gr h.c0
  obtain ⟨r1, r2, -⟩ := h.c2.gr h.c1
  exact ⟨h.c0.keep k p2 (Ne.symm q1) (Ne.symm q2), h.c1.keep k p3 (Ne.symm r1) (Ne.symm r2), h.c2.setA i z hi', h.ap⟩
theorem T3.rev0 (h : T3 W s0 n x0 x1 x2 A0 A1 A2 G0 G1 G2 T0 T1 T2 lo0 lo1 lo2 hi0 hi1 hi2) {G' : List (Nat × Nat)} (hl : G'.length = n) (hr : RowP W' x0.r G' x0.q) (k : Keep (fun b => b ≠ x0.r) W W') : T3 W' s0 n x0 x1 x2 A0 A1 A2 G' G1 G2 T0 T1 T2 lo0 lo1 lo2 hi0 hi1 hi2 := by
  obtain ⟨_, ⟨p1, p2, p3⟩, _⟩ := h.ap
  obtain ⟨a1, a2, a3, a4, a5, a6⟩ := h.c0.gr h.c0
  obtain ⟨-, -, q1, q2, -⟩ := h.c0.gr h.c1
  obtain ⟨-, -, r1, r2, -⟩ := h.c0.gr h.c2
  exact ⟨⟨h.c0.row.keep k (Ne.symm a3), hr, k.heap h.c0.box (Ne.symm a4), h.c0.la, hl, h.c0.low⟩, h.c1.keep k (Ne.symm q1) (Ne.symm p1) (Ne.symm q2), h.c2.keep k (Ne.symm r1) (Ne.symm p2) (Ne.symm r2), h.ap⟩
theorem T3.bend2 (h : T3 W s0 n x0 x1 x2 A0 A1 A2 G0 G1 G2 T0 T1 T2 lo0 lo1 lo2 hi0 hi1 hi2) (a b : Nat) : T3 ((W.setCell ⟨x2.B, 3, none⟩ (.int .i64 (a : Int))).setCell ⟨x2.B, 4, none⟩ (.int .i64 (b : Int))) s0 n x0 x1 x2 A0 A1 A2 G0 G1 G2 T0 T1 T2 lo0 lo1 a hi0 hi1 b := by
  have k : Keep (fun c => c ≠ x2.B) W ((W.setCell ⟨x2.B, 3, none⟩ (.int .i64 (a : Int))).setCell ⟨x2.B, 4, none⟩ (.int .i64 (b : Int))) := ((Keep.refl _ W).setCell _ _ (fun _ hh => hh rfl)).setCell _ _ (fun _ hh => hh rfl)
  obtain ⟨_, _, ⟨p1, p2, p3⟩⟩ := h.ap
  obtain ⟨a1, a2, a3, a4, a5, a6⟩ := h.c2.gr h.c2
  obtain ⟨-, -, -, -, q1, q2⟩ := h.c2.gr h.c0
  obtain ⟨-, -, -, -, r1, r2⟩ := h.c2.gr h.c1
  exact ⟨h.c0.keep k (Ne.symm q1) (Ne.symm q2) p2, h.c1.keep k (Ne.symm r1) (Ne.symm r2) p3, ⟨h.c2.row.keep k (Ne.symm a5), h.c2.sp.keep k (Ne.symm a6), (heap_setCell_same (heap_setCell_same h.c2.box _) _).trans rfl, h.c2.la, h.c2.lg, h.c2.low⟩, h.ap⟩
end
theorem own_at {w : World} {base : Nat} {e : TypeId} {size : Nat} {a : Option Addr} {c n : Nat} {xs : List Value} (h : w.ownsRow base e size (.slice a n c) n xs) (hn : 0 < n) : ∃ g, a = some ⟨g, 0, none⟩ ∧ base ≤ g := by
  obtain ⟨g, hg, hb, _⟩ := own_place h hn
  exact ⟨g, hg, hb⟩
/-- Three copies as they are made. -/
theorem three_at {v : PV} {V0 W : World} {s0 s1 s2 : Value} (h : ThreeP v V0 s0 s1 s2 W) (hn : 0 < v.at'.l.length) (hg : v.gr.l.length = v.at'.l.length) : ∃ x0 x1 x2 : N3, s0 = .pointer (some ⟨x0.B, 0, none⟩) ∧ s1 = .pointer (some ⟨x1.B, 0, none⟩) ∧ s2 = .pointer (some ⟨x2.B, 0, none⟩) ∧ Ext V0 W ∧
    T3 W V0.heap.size v.at'.l.length x0 x1 x2 v.at'.l v.at'.l v.at'.l v.gr.l v.gr.l v.gr.l v.T v.T v.T v.lo v.lo v.lo v.hi v.hi v.hi := by
  obtain ⟨l, hh, B, ts, e0, e1, e2, hx, hp⟩ := h
  have one : ∀ k, k < 3 → ∃ x : N3, x.B = B k ∧ (l k ≤ x.g ∧ x.g < hh k) ∧ (l k ≤ x.r ∧ x.r < hh k) ∧ CpS W V0.heap.size v.at'.l.length x v.at'.l v.gr.l v.T v.lo v.hi := by
    intro k hk
    obtain ⟨hs, ho, h1, h2, h3, h4, h5, _⟩ := hp.out k hk
    obtain ⟨q1, q2, q3, q4, q5⟩ := hs
    have o1 := ho.at'
    have o2 := ho.gr
    have hb := ho.below
    rw [show MkP W (B k) (ts k) = (W.heap[B k]? = some (.cells #[(ts k).at'.v, (ts k).gr.v, .int .i64 ((ts k).T : Int), .int .i64 ((ts k).lo : Int), .int .i64 ((ts k).hi : Int)] 30 (0, 0))) from rfl, q3, q4, q5] at h5
    unfold SL.v at o1 o2 h5 hb
    rw [q1] at o1 h5 hb
    rw [q2] at o2 h5 hb
    obtain ⟨g, hga, hgl⟩ := own_at o1 hn
    obtain ⟨r, hra, hrl⟩ := own_at o2 (by omega)
    rw [hga] at o1 h5 hb
    rw [hra] at o2 h5 hb
    have t1 := hb g (.inl rfl)
    have t2 := hb r (.inr rfl)
    rw [hg] at h5
    exact ⟨⟨g, (ts k).at'.c, r, (ts k).gr.c, B k⟩, rfl, ⟨hgl, t1⟩, ⟨hrl, t2⟩, ⟨(Row.of_own o1).1, (RowP.of_own o2).1, h5, rfl, hg, ⟨Nat.le_trans h1 hgl, Nat.le_trans h1 hrl, h3⟩⟩⟩
  obtain ⟨x0, b0, g0, r0, c0⟩ := one 0 (by omega)
  obtain ⟨x1, b1, g1, r1, c1⟩ := one 1 (by omega)
  obtain ⟨x2, b2, g2, r2, c2⟩ := one 2 (by omega)
  have a01 := ((hp.out 0 (by omega)).2.2.2.2.2.2.2 1 (by omega)).1 (by omega)
  have a02 := ((hp.out 0 (by omega)).2.2.2.2.2.2.2 2 (by omega)).1 (by omega)
  have a12 := ((hp.out 1 (by omega)).2.2.2.2.2.2.2 2 (by omega)).1 (by omega)
  refine ⟨x0, x1, x2, by rw [e0, b0], by rw [e1, b1], by rw [e2, b2], hx.out, c0, c1, c2, ⟨?_, ?_, ?_⟩, ⟨?_, ?_, ?_⟩, ⟨?_, ?_, ?_⟩⟩
  · omega
  · omega
  · omega
  · omega
  · omega
  · omega
  · rw [b0, b1]; exact a01.2
  · rw [b0, b2]; exact a02.2
  · rw [b1, b2]; exact a12.2
/-- A list while its places are filled. -/
def fl (P : Nat → Bool) (new old : Nat → Nat) (n : Nat) : List Nat := (List.range n).map fun q => if P q then new q else old q
section
variable {P P' : Nat → Bool} {new old : Nat → Nat} {n : Nat}
theorem fl_len : (fl P new old n).length = n := by simp [fl]
theorem fl_set {i : Nat} (h : ∀ q, q < n → P' q = (P q || decide (q = i))) : (fl P new old n).set i (new i) = fl P' new old n := by
  apply List.ext_getElem
  · simp [fl]
  · intro q h1 h2
    rw [fl_len] at h2
    rw [List.getElem_set]
    simp only [fl, List.getElem_map, List.getElem_range, h q h2]
    by_cases e : i = q
    · subst e; simp
    · rw [if_neg e]
      have e' : ¬ q = i := fun h => e h.symm
      simp [e']
theorem fl_none (h : ∀ q, q < n → P q = false) : fl P new old n = (List.range n).map old := by
  unfold fl
  apply List.map_congr_left
  intro q hq
  rw [h q (List.mem_range.1 hq)]; rfl
theorem fl_all (h : ∀ q, q < n → P q = true) : fl P new old n = (List.range n).map new := by
  unfold fl
  apply List.map_congr_left
  intro q hq
  rw [h q (List.mem_range.1 hq)]; rfl
end
theorem range_get (A : List Nat) (n : Nat) (h : A.length = n) : (List.range n).map (fun q => A[q]?.getD 0) = A := by
  subst h
  apply List.ext_getElem
  · simp
  · intro q h1 h2; simp [h2]
end Go.Proofs.Ytfognlealnhodaa

namespace Go.Proofs.Ytfognlealnhodaa
open Go.RowKit

/-- The code from region n on. -/
def tailT (n : Nat) : Code → Option Code
  | .seq (.region k o d) b => if k = n then some (.seq (.region k o d) b) else tailT n b
  | .seq (.seq (.region k o d) c) b => if k = n then some (.seq (.seq (.region k o d) c) b) else tailT n b
  | .seq _ b => tailT n b
  | .block _ c => tailT n c
  | .scope c => tailT n c
  | _ => none
noncomputable def tail6_17 : Code := ((Try.f6.body.bind (tailT 17)).getD .skip)
theorem N3.pv_v {x : N3} {A : List Nat} {G : List (Nat × Nat)} {T lo hi n : Nat} (h1 : A.length = n) (h2 : G.length = n) : (x.pv A G T lo hi).v = .agg #[.slice (some ⟨x.g, 0, none⟩) n x.k, .slice (some ⟨x.r, 0, none⟩) n x.q, .int .i64 (T : Int), .int .i64 (lo : Int), .int .i64 (hi : Int)] := by
  show Value.agg #[.slice (some ⟨x.g, 0, none⟩) A.length x.k, .slice (some ⟨x.r, 0, none⟩) G.length x.q, .int .i64 (T : Int), .int .i64 (lo : Int), .int .i64 (hi : Int)] = _
  rw [h1, h2]
def frT17 (pb n i j b0 b1 b2 : Nat) (X : Nat → Value) : Array Value := #[X 0, X 1, X 2, X 3, X 4, X 5, X 6, X 7, X 8, .pointer (some ⟨pb, 0, none⟩), X 10, .int .i64 (n : Int), .int .i64 (i : Int), .int .i64 (j : Int), .pointer (some ⟨b0, 0, none⟩), .pointer (some ⟨b1, 0, none⟩), .pointer (some ⟨b2, 0, none⟩), X 17, X 18, X 19, X 20, X 21, X 22, X 23, X 24, X 25, X 26, X 27, X 28, X 29, X 30, X 31, X 32, X 33, X 34, X 35, X 36, X 37, X 38, X 39, X 40, X 41, X 42, X 43, X 44, X 45, X 46, X 47, X 48, X 49, X 50, X 51, X 52, X 53, X 54, X 55, X 56, X 57, X 58, X 59, X 60, X 61, X 62, X 63, X 64, X 65, X 66, X 67, X 68, X 69, X 70, X 71, X 72, X 73, X 74, X 75, X 76, X 77, X 78, X 79, X 80, X 81, X 82, X 83, X 84, X 85, X 86, X 87, X 88, X 89, X 90, X 91, X 92, X 93, X 94, X 95, X 96, X 97, X 98, X 99, X 100, X 101, X 102, X 103, X 104, X 105, X 106, X 107, X 108, X 109, X 110, X 111, X 112, X 113, X 114, X 115, X 116, X 117, X 118, X 119, X 120, X 121, X 122, X 123, X 124, X 125, X 126, X 127, X 128, X 129, X 130, X 131, X 132, X 133, X 134, X 135, X 136, X 137, X 138, X 139, X 140, X 141, X 142, X 143, X 144, X 145, X 146, X 147, X 148, X 149, X 150, X 151, X 152, X 153, X 154, X 155, X 156, X 157, X 158, X 159, X 160, X 161, X 162, X 163, X 164, X 165, X 166, X 167, X 168, X 169, X 170, X 171, X 172, X 173, X 174, X 175, X 176, X 177, X 178, X 179, X 180, X 181, X 182, X 183, X 184, X 185, X 186, X 187, X 188, X 189, X 190, X 191, X 192, X 193, X 194, X 195, X 196, X 197, X 198, X 199, X 200, X 201, X 202, X 203, X 204, X 205, X 206, X 207, X 208, X 209, X 210, X 211, X 212, X 213, X 214, X 215, X 216, X 217]
def frT20 (n i j ln lc sb k : Nat) (xb yb : Bool) (la : Option Addr) (X : Nat → Value) : Array Value := #[X 0, X 1, X 2, X 3, X 4, X 5, X 6, X 7, X 8, X 9, X 10, .int .i64 (n : Int), .int .i64 (i : Int), .int .i64 (j : Int), X 14, X 15, X 16, X 17, X 18, .bool xb, .bool yb, .int .i64 0, .slice la ln lc, .int .i64 0, X 24, X 25, X 26, X 27, X 28, X 29, X 30, X 31, X 32, X 33, X 34, X 35, X 36, X 37, X 38, X 39, X 40, X 41, X 42, X 43, X 44, X 45, X 46, X 47, X 48, X 49, X 50, X 51, X 52, X 53, X 54, X 55, X 56, X 57, X 58, X 59, X 60, X 61, X 62, X 63, X 64, X 65, X 66, X 67, X 68, X 69, X 70, X 71, X 72, X 73, X 74, X 75, X 76, X 77, X 78, X 79, X 80, X 81, X 82, X 83, X 84, X 85, X 86, X 87, X 88, X 89, X 90, X 91, X 92, X 93, X 94, X 95, X 96, X 97, X 98, X 99, X 100, X 101, X 102, X 103, X 104, X 105, X 106, X 107, X 108, X 109, X 110, X 111, X 112, X 113, X 114, X 115, X 116, X 117, X 118, X 119, X 120, X 121, X 122, X 123, X 124, X 125, X 126, X 127, X 128, X 129, X 130, X 131, X 132, X 133, X 134, X 135, X 136, X 137, X 138, X 139, X 140, X 141, X 142, .slice (some ⟨sb, 0, none⟩) 3 3, .int .i64 3, .int .i64 (k : Int), X 146, X 147, X 148, X 149, X 150, X 151, X 152, X 153, X 154, X 155, X 156, X 157, X 158, X 159, X 160, X 161, X 162, X 163, X 164, X 165, X 166, X 167, X 168, X 169, X 170, X 171, X 172, X 173, X 174, X 175, X 176, X 177, X 178, X 179, X 180, X 181, X 182, X 183, X 184, X 185, X 186, X 187, X 188, X 189, X 190, X 191, X 192, X 193, X 194, X 195, X 196, X 197, X 198, X 199, X 200, X 201, X 202, X 203, X 204, X 205, X 206, X 207, X 208, X 209, X 210, X 211, X 212, X 213, X 214, X 215, X 216, X 217]

def InvT2 (n i j ln lc sb : Nat) (xb yb : Bool) (la : Option Addr) (W : World) (ac : Act) (wr : World) : Prop :=
  ∃ (X : Nat → Value) (k : Nat), ac = { tmps := frT20 n i j ln lc sb k xb yb la X, defers := [] } ∧ k ≤ 3 ∧ Hid (Ext W wr)
theorem InvT2.of {n i j ln lc sb : Nat} {xb yb : Bool} {la : Option Addr} {u : Array Value} {W wr : World} (k : Nat) (ht : u = frT20 n i j ln lc sb k xb yb la (fun j => u.getD j undef)) (h1 : k ≤ 3) (h2 : Hid (Ext W wr)) :
    InvT2 n i j ln lc sb xb yb la W { tmps := u, defers := [] } wr := ⟨_, k, by rw [← ht], h1, h2⟩

set_option maxRecDepth 1000000 in
set_option maxHeartbeats 16000000 in
theorem turn_tail17 (X : Nat → Value) (pb n i j : Nat) (v : PV) (x0 x1 x2 : N3) (s0 : Nat) (A0 A1 A2 : List Nat) (G0 G1 G2 : List (Nat × Nat)) (T0 T1 T2 lo0 lo1 lo2 hi0 hi1 hi2 : Nat) (w W : World) (HN : Hid (v.at'.l.length = n)) (HP : Hid (IsP W v)) (HF : Hid (Five W pb v)) (HOk : Hid (OkP v.p)) (H3 : Hid (T3 W s0 n x0 x1 x2 A0 A1 A2 G0 G1 G2 T0 T1 T2 lo0 lo1 lo2 hi0 hi1 hi2))
    (HQ0 : Hid (Alike v.p (x0.pv A0 G0 T0 lo0 hi0).p (fun i => v.p.A.length - 1 - i) false)) (HQ1 : Hid (Alike v.p (x1.pv A1 G1 T1 lo1 hi1).p id true)) (HQ2 : Hid (Alike v.p (x2.pv A2 G2 T2 lo2 hi2).p id true)) (hi : i < n) (hj : j < n) (hij : i ≠ j) (hn40 : n ≤ 40) (HX : Hid (Ext w W)) :
    Code.wp Try.prog tail6_17 (bodyPost Try.prog Try.f6 fun e w' => e = .returned (.bool true) ∧ Ext w w') ⟨frT17 pb n i j x0.B x1.B x2.B X, []⟩ W := by
  conv => arg 2; whnf
  conv => arg 4; dsimp only [frT17]
  have HNe : Hid (v.p.A.length = n) := HN.out
  obtain ⟨xb, hxb⟩ : ∃ b, seeF false v.p i j = b := ⟨_, rfl⟩
  obtain ⟨yb, hyb⟩ : ∃ b, seeF true v.p i j = b := ⟨_, rfl⟩
  obtain ⟨L, hL⟩ : ∃ L, fewP v.p = L := ⟨_, rfl⟩
  have hse := sees_ok v i j W HP.out HOk.out (by rw [HN.out]; exact hi) (by rw [HN.out]; exact hj) hij
  rw [hxb, hyb] at hse
  have hfe := fun w1 (hx : Ext W w1) => fewest_ok v w1 (HP.out.ext hx) HOk.out L hL
  have Hxb := Lib.hid hxb
  have Hyb := Lib.hid hyb
  have HLL := Lib.hid hL
  have HSe := Lib.hid hse
  have HFe := Lib.hid hfe
  have hlen : L.length ≤ 41 := by rw [← hL]; exact (seen_math HOk.out).most
  obtain ⟨ln, hln⟩ : ∃ ln, L.length = ln := ⟨_, rfl⟩
  have HL : Hid ((fewP v.p).length = ln) := by show _ = _; rw [hL]; exact hln
  have HLl := Lib.hid hln
  rw [hln] at hlen HFe
  clear hse hfe hxb hyb hL hln
  have HP0 : Hid (IsP W (x0.pv A0 G0 T0 lo0 hi0)) := H3.out.c0.is (by omega)
  have HP1 : Hid (IsP W (x1.pv A1 G1 T1 lo1 hi1)) := H3.out.c1.is (by omega)
  have HP2 : Hid (IsP W (x2.pv A2 G2 T2 lo2 hi2)) := H3.out.c2.is (by omega)
  obtain ⟨t0, t1, t2, t3, t4⟩ := HF.out
  go_wp2_with fail
  refine HSe.out.mono ?_
  rintro e w1 ⟨rfl, hx1⟩
  have HX1 : Hid (Ext W w1) := hx1
  clear hx1 HSe t0 t1 t2 t3 t4
  obtain ⟨t0, t1, t2, t3, t4⟩ := HF.out.ext HX1.out
  go_wp2_with fail
  refine (HFe.out w1 HX1.out).mono ?_
  rintro e w2 ⟨la, lc, rfl, hlo, hx2⟩
  have HX2 : Hid (Ext W w2) := HX1.out.trans hx2
  have HLs2 : Hid (IsSl 1 num w2 ⟨la, lc, L⟩) := own_sl (c := lc) (base := w1.heap.size) (e := 3) (by rw [HLl.out]; exact hlo) (by rw [HLl.out]; omega)
  clear hx2 hlo HFe HX1 t0 t1 t2 t3 t4
  obtain ⟨p0, p1, p2, p3, p4⟩ := (H3.out.ext HX2.out).c0.box_at
  obtain ⟨q0, q1, q2, q3, q4⟩ := (H3.out.ext HX2.out).c1.box_at
  obtain ⟨r0, r1, r2, r3, r4⟩ := (H3.out.ext HX2.out).c2.box_at
  have hlA0 : A0.length = n := H3.out.c0.la
  go_wp2_with fail
  have hx5 := (Ext.refl w2).alloc (.cells #[.slice (some ⟨x0.g, 0, none⟩) n x0.k, .slice (some ⟨x0.r, 0, none⟩) n x0.q, .int .i64 (T0 : Int), .int .i64 (lo0 : Int), .int .i64 (hi0 : Int), .slice (some ⟨x1.g, 0, none⟩) n x1.k, .slice (some ⟨x1.r, 0, none⟩) n x1.q, .int .i64 (T1 : Int), .int .i64 (lo1 : Int), .int .i64 (hi1 : Int), .slice (some ⟨x2.g, 0, none⟩) n x2.k, .slice (some ⟨x2.r, 0, none⟩) n x2.q, .int .i64 (T2 : Int), .int .i64 (lo2 : Int), .int .i64 (hi2 : Int)] 30)
  have hbl := World.alloc_heap_new w2 (.cells #[.slice (some ⟨x0.g, 0, none⟩) n x0.k, .slice (some ⟨x0.r, 0, none⟩) n x0.q, .int .i64 (T0 : Int), .int .i64 (lo0 : Int), .int .i64 (hi0 : Int), .slice (some ⟨x1.g, 0, none⟩) n x1.k, .slice (some ⟨x1.r, 0, none⟩) n x1.q, .int .i64 (T1 : Int), .int .i64 (lo1 : Int), .int .i64 (hi1 : Int), .slice (some ⟨x2.g, 0, none⟩) n x2.k, .slice (some ⟨x2.r, 0, none⟩) n x2.q, .int .i64 (T2 : Int), .int .i64 (lo2 : Int), .int .i64 (hi2 : Int)] 30)
  have HSb : Hid (∀ u, Ext (w2.alloc (.cells #[.slice (some ⟨x0.g, 0, none⟩) n x0.k, .slice (some ⟨x0.r, 0, none⟩) n x0.q, .int .i64 (T0 : Int), .int .i64 (lo0 : Int), .int .i64 (hi0 : Int), .slice (some ⟨x1.g, 0, none⟩) n x1.k, .slice (some ⟨x1.r, 0, none⟩) n x1.q, .int .i64 (T1 : Int), .int .i64 (lo1 : Int), .int .i64 (hi1 : Int), .slice (some ⟨x2.g, 0, none⟩) n x2.k, .slice (some ⟨x2.r, 0, none⟩) n x2.q, .int .i64 (T2 : Int), .int .i64 (lo2 : Int), .int .i64 (hi2 : Int)] 30)) u → u.cell? ⟨w2.heap.size, 0, none⟩ = some (.slice (some ⟨x0.g, 0, none⟩) n x0.k) ∧ u.cell? ⟨w2.heap.size, 1, none⟩ = some (.slice (some ⟨x0.r, 0, none⟩) n x0.q) ∧ u.cell? ⟨w2.heap.size, 2, none⟩ = some (.int .i64 (T0 : Int)) ∧ u.cell? ⟨w2.heap.size, 3, none⟩ = some (.int .i64 (lo0 : Int)) ∧ u.cell? ⟨w2.heap.size, 4, none⟩ = some (.int .i64 (hi0 : Int)) ∧ u.cell? ⟨w2.heap.size, 5, none⟩ = some (.slice (some ⟨x1.g, 0, none⟩) n x1.k) ∧ u.cell? ⟨w2.heap.size, 6, none⟩ = some (.slice (some ⟨x1.r, 0, none⟩) n x1.q) ∧ u.cell? ⟨w2.heap.size, 7, none⟩ = some (.int .i64 (T1 : Int)) ∧ u.cell? ⟨w2.heap.size, 8, none⟩ = some (.int .i64 (lo1 : Int)) ∧ u.cell? ⟨w2.heap.size, 9, none⟩ = some (.int .i64 (hi1 : Int)) ∧ u.cell? ⟨w2.heap.size, 10, none⟩ = some (.slice (some ⟨x2.g, 0, none⟩) n x2.k) ∧ u.cell? ⟨w2.heap.size, 11, none⟩ = some (.slice (some ⟨x2.r, 0, none⟩) n x2.q) ∧ u.cell? ⟨w2.heap.size, 12, none⟩ = some (.int .i64 (T2 : Int)) ∧ u.cell? ⟨w2.heap.size, 13, none⟩ = some (.int .i64 (lo2 : Int)) ∧ u.cell? ⟨w2.heap.size, 14, none⟩ = some (.int .i64 (hi2 : Int))) := fun u hu => by
    have h := hu.block hbl
    exact ⟨(cell_at h 0).trans rfl, (cell_at h 1).trans rfl, (cell_at h 2).trans rfl, (cell_at h 3).trans rfl, (cell_at h 4).trans rfl, (cell_at h 5).trans rfl, (cell_at h 6).trans rfl, (cell_at h 7).trans rfl, (cell_at h 8).trans rfl, (cell_at h 9).trans rfl, (cell_at h 10).trans rfl, (cell_at h 11).trans rfl, (cell_at h 12).trans rfl, (cell_at h 13).trans rfl, (cell_at h 14).trans rfl⟩
  have HX5 : Hid (Ext W (w2.alloc (.cells #[.slice (some ⟨x0.g, 0, none⟩) n x0.k, .slice (some ⟨x0.r, 0, none⟩) n x0.q, .int .i64 (T0 : Int), .int .i64 (lo0 : Int), .int .i64 (hi0 : Int), .slice (some ⟨x1.g, 0, none⟩) n x1.k, .slice (some ⟨x1.r, 0, none⟩) n x1.q, .int .i64 (T1 : Int), .int .i64 (lo1 : Int), .int .i64 (hi1 : Int), .slice (some ⟨x2.g, 0, none⟩) n x2.k, .slice (some ⟨x2.r, 0, none⟩) n x2.q, .int .i64 (T2 : Int), .int .i64 (lo2 : Int), .int .i64 (hi2 : Int)] 30))) := HX2.out.trans hx5
  have HLs := Lib.hid (HLs2.out.ext hx5)
  clear hx5 hbl HLs2 HX2 p0 p1 p2 p3 p4 q0 q1 q2 q3 q4 r0 r1 r2 r3 r4
  generalize w2.alloc (.cells #[.slice (some ⟨x0.g, 0, none⟩) n x0.k, .slice (some ⟨x0.r, 0, none⟩) n x0.q, .int .i64 (T0 : Int), .int .i64 (lo0 : Int), .int .i64 (hi0 : Int), .slice (some ⟨x1.g, 0, none⟩) n x1.k, .slice (some ⟨x1.r, 0, none⟩) n x1.q, .int .i64 (T1 : Int), .int .i64 (lo1 : Int), .int .i64 (hi1 : Int), .slice (some ⟨x2.g, 0, none⟩) n x2.k, .slice (some ⟨x2.r, 0, none⟩) n x2.q, .int .i64 (T2 : Int), .int .i64 (lo2 : Int), .int .i64 (hi2 : Int)] 30) = W5 at *
  generalize w2.heap.size = sb at *
  obtain ⟨n1, hn1⟩ : ∃ n1, n1 + 1 = n := ⟨n - 1, by omega⟩
  obtain ⟨u0, hu0⟩ : ∃ u0, n - 1 - i = u0 := ⟨_, rfl⟩
  obtain ⟨u1, hu1⟩ : ∃ u1, n - 1 - j = u1 := ⟨_, rfl⟩
  refine wp_loop (InvT2 n i j ln lc sb xb yb la W5) (fun a _ => 3 - (intOf (a.tmps.getD 145 undef)).toNat) (InvT2.of 0 rfl (by omega) (Ext.refl _)) ?_
  rintro ac wz ⟨X2, k, rfl, hk, HZ⟩
  conv => arg 4; dsimp only [frT20]
  have hlA1 : A1.length = n := H3.out.c1.la
  have hlA2 : A2.length = n := H3.out.c2.la
  have hlG0 : G0.length = n := H3.out.c0.lg
  have hlG1 : G1.length = n := H3.out.c1.lg
  have hlG2 : G2.length = n := H3.out.c2.lg
  have HU : Hid (u0 = n - 1 - i ∧ u1 = n - 1 - j) := ⟨hu0.symm, hu1.symm⟩
  by_cases hlt : k < 3
  · obtain rfl | rfl | rfl : k = 0 ∨ k = 1 ∨ k = 2 := by omega
    · rw [show (((0 : Nat)) : Int) = 0 from rfl]
      have di : decide ((0 : Int) < 3) = true := by decide
      have hwk : IntKind.i64.wrap ((0 : Int) + 1) = 1 := by decide
      have w1 : IntKind.i64.wrap ((n : Int) - 1) = (n1 : Int) := by rw [IntWalk.i64_in _ (by omega)]; omega
      have w2 : IntKind.i64.wrap ((n1 : Int) - (i : Int)) = (u0 : Int) := by rw [IntWalk.i64_in _ (by omega)]; omega
      have w3 : IntKind.i64.wrap ((n1 : Int) - (j : Int)) = (u1 : Int) := by rw [IntWalk.i64_in _ (by omega)]; omega
      have w4 : (n : Int) - 1 = (n1 : Int) := by omega
      have w5 : (n1 : Int) - (i : Int) = (u0 : Int) := by omega
      have w6 : (n1 : Int) - (j : Int) = (u1 : Int) := by omega
      clear hlt hk
      have HWz : Hid (Ext W wz) := HX5.out.trans HZ.out
      have HP := Lib.hid (HP0.out.ext HWz.out)
      obtain ⟨s0, s1, s2, s3, s4, s5, s6, s7, s8, s9, s10, s11, s12, s13, s14⟩ := HSb.out wz HZ.out
      clear s5 s6 s7 s8 s9 s10 s11 s12 s13 s14
      have hse := fun w1 (hx : Ext wz w1) => sees_ok (x0.pv A0 G0 T0 lo0 hi0) u0 u1 w1 (HP.out.ext hx) HQ0.out.ok (by rw [HQ0.out.len, HNe.out]; omega) (by rw [HQ0.out.len, HNe.out]; omega) (by omega)
      have hs1 : seeF false (x0.pv A0 G0 T0 lo0 hi0).p u0 u1 = xb := by rw [← Hxb.out]; have h := HQ0.out.see false i j (by rw [HNe.out]; exact hi) (by rw [HNe.out]; exact hj); rw [HNe.out, hu0, hu1] at h; exact h
      have hs2 : seeF true (x0.pv A0 G0 T0 lo0 hi0).p u0 u1 = yb := by rw [← Hyb.out]; have h := HQ0.out.see true i j (by rw [HNe.out]; exact hi) (by rw [HNe.out]; exact hj); rw [HNe.out, hu0, hu1] at h; exact h
      rw [hs1, hs2] at hse
      have HSe := Lib.hid hse
      obtain ⟨Lk, hLk⟩ : ∃ L, fewP (x0.pv A0 G0 T0 lo0 hi0).p = L := ⟨_, rfl⟩
      have hfe := fun w1 (hx : Ext wz w1) => fewest_ok (x0.pv A0 G0 T0 lo0 hi0) w1 (HP.out.ext hx) HQ0.out.ok Lk hLk
      have HFe := Lib.hid hfe
      have hlk : Lk.length = ln := by rw [← hLk, HQ0.out.few]; exact HL.out
      clear hse hfe hs1 hs2 hLk
      have HLk := Lib.hid hlk
      rw [hlk] at HFe
      clear hlk
      have e0 : (((0 : Nat) : Int) == 0) = true := by decide
      have e1 : ((0 : Int) == 0) = true := by decide
      have e2 : decide ((0 : Int) < ((0 : Nat) : Int)) = false := by decide
      have e3 : decide ((0 : Int) < 0) = false := by decide
      rw [N3.pv_v hlA0 hlG0] at HSe HFe
      go_wp2_with fail
      refine (HSe.out _ ((Ext.refl wz).alloc _)).mono ?_
      rintro e wa ⟨rfl, hxa⟩
      have HXa : Hid (Ext wz wa) := ((Ext.refl wz).alloc _).trans hxa
      have hbx : wa.heap[wz.heap.size]? = _ := hxa.block (World.alloc_heap_new _ _)
      have m0 := (cell_at hbx 0).trans rfl
      have m1 := (cell_at hbx 1).trans rfl
      have m2 := (cell_at hbx 2).trans rfl
      have m3 := (cell_at hbx 3).trans rfl
      have m4 := (cell_at hbx 4).trans rfl
      clear hxa hbx HSe s0 s1 s2 s3 s4
      go_wp2_with fail
      refine (HFe.out _ HXa.out).mono ?_
      rintro e wb ⟨ma, mc, rfl, hmo, hxb⟩
      have HXb : Hid (Ext wz wb) := HXa.out.trans hxb
      have hnn : (ln != ln) = false := by simp
      have hnn2 : ((ln : Int) != (ln : Int)) = false := by simp
      have hxx : (xb != xb) = false := by cases xb <;> rfl
      have hyy : (yb != yb) = false := by cases yb <;> rfl
      clear hxb hmo HFe m0 m1 m2 m3 m4 HP
      have HXc : Hid (Ext W5 wb) := HZ.out.trans HXb.out
      clear HXb HXa
      go_wp2_with fail
      refine ⟨InvT2.of 1 ?_ (by omega) HXc, ?_⟩
      · rfl
      · simp [intOf, frT20]
    · rw [show (((1 : Nat)) : Int) = 1 from rfl]
      have di : decide ((1 : Int) < 3) = true := by decide
      have hwk : IntKind.i64.wrap ((1 : Int) + 1) = 2 := by decide
      clear hlt hk hu0 hu1
      have HWz : Hid (Ext W wz) := HX5.out.trans HZ.out
      have HP := Lib.hid (HP1.out.ext HWz.out)
      obtain ⟨s0, s1, s2, s3, s4, s5, s6, s7, s8, s9, s10, s11, s12, s13, s14⟩ := HSb.out wz HZ.out
      clear s0 s1 s2 s3 s4 s10 s11 s12 s13 s14
      have hse := fun w1 (hx : Ext wz w1) => sees_ok (x1.pv A1 G1 T1 lo1 hi1) i j w1 (HP.out.ext hx) HQ1.out.ok (by rw [HQ1.out.len, HNe.out]; omega) (by rw [HQ1.out.len, HNe.out]; omega) (by omega)
      have hs1 : seeF false (x1.pv A1 G1 T1 lo1 hi1).p i j = xb := by rw [← Hxb.out]; exact HQ1.out.see false i j (by rw [HNe.out]; exact hi) (by rw [HNe.out]; exact hj)
      have hs2 : seeF true (x1.pv A1 G1 T1 lo1 hi1).p i j = yb := by rw [← Hyb.out]; exact HQ1.out.see true i j (by rw [HNe.out]; exact hi) (by rw [HNe.out]; exact hj)
      rw [hs1, hs2] at hse
      have HSe := Lib.hid hse
      obtain ⟨Lk, hLk⟩ : ∃ L, fewP (x1.pv A1 G1 T1 lo1 hi1).p = L := ⟨_, rfl⟩
      have hfe := fun w1 (hx : Ext wz w1) => fewest_ok (x1.pv A1 G1 T1 lo1 hi1) w1 (HP.out.ext hx) HQ1.out.ok Lk hLk
      have HFe := Lib.hid hfe
      have hlk : Lk.length = ln := by rw [← hLk, HQ1.out.few]; exact HL.out
      have hlL : Lk = L := by rw [← hLk, HQ1.out.same rfl]; exact HLL.out
      subst hlL
      clear hse hfe hs1 hs2 hLk
      have HLk := Lib.hid hlk
      rw [hlk] at HFe
      clear hlk
      have e0 : (((1 : Nat) : Int) == 0) = false := by decide
      have e1 : ((1 : Int) == 0) = false := by decide
      have e2 : decide ((0 : Int) < ((1 : Nat) : Int)) = true := by decide
      have e3 : decide ((0 : Int) < 1) = true := by decide
      rw [N3.pv_v hlA1 hlG1] at HSe HFe
      go_wp2_with fail
      refine (HSe.out _ ((Ext.refl wz).alloc _)).mono ?_
      rintro e wa ⟨rfl, hxa⟩
      have HXa : Hid (Ext wz wa) := ((Ext.refl wz).alloc _).trans hxa
      have hbx : wa.heap[wz.heap.size]? = _ := hxa.block (World.alloc_heap_new _ _)
      have m0 := (cell_at hbx 0).trans rfl
      have m1 := (cell_at hbx 1).trans rfl
      have m2 := (cell_at hbx 2).trans rfl
      have m3 := (cell_at hbx 3).trans rfl
      have m4 := (cell_at hbx 4).trans rfl
      clear hxa hbx HSe s5 s6 s7 s8 s9
      go_wp2_with fail
      refine (HFe.out _ HXa.out).mono ?_
      rintro e wb ⟨ma, mc, rfl, hmo, hxb⟩
      have HXb : Hid (Ext wz wb) := HXa.out.trans hxb
      have hnn : (ln != ln) = false := by simp
      have hnn2 : ((ln : Int) != (ln : Int)) = false := by simp
      have hxx : (xb != xb) = false := by cases xb <;> rfl
      have hyy : (yb != yb) = false := by cases yb <;> rfl
      have hms : IsSl 1 num wb ⟨ma, mc, Lk⟩ := own_sl (c := mc) (base := wa.heap.size) (e := 3) (by rw [HLk.out]; exact hmo) (by rw [HLk.out]; omega)
      have heq := equal_any ⟨ma, mc, Lk⟩ ⟨la, lc, Lk⟩ wb hms (HLs.out.ext (HZ.out.trans HXb.out))
      dsimp only at heq
      rw [HLk.out, decide_eq_true rfl] at heq
      have HEq := Lib.hid heq
      clear hms heq
      clear hxb hmo HFe m0 m1 m2 m3 m4 HP
      go_wp2_with fail
      refine HEq.out.mono ?_
      rintro e wc ⟨rfl, m, rfl⟩
      have HXc : Hid (Ext W5 (wb.drewN m)) := (HZ.out.trans HXb.out).drewN m
      clear HEq HXb HXa
      generalize wb.drewN m = wd at *
      go_wp2_with fail
      refine ⟨InvT2.of 2 ?_ (by omega) HXc, ?_⟩
      · rfl
      · simp [intOf, frT20]
    · rw [show (((2 : Nat)) : Int) = 2 from rfl]
      have di : decide ((2 : Int) < 3) = true := by decide
      have hwk : IntKind.i64.wrap ((2 : Int) + 1) = 3 := by decide
      clear hlt hk hu0 hu1
      have HWz : Hid (Ext W wz) := HX5.out.trans HZ.out
      have HP := Lib.hid (HP2.out.ext HWz.out)
      obtain ⟨s0, s1, s2, s3, s4, s5, s6, s7, s8, s9, s10, s11, s12, s13, s14⟩ := HSb.out wz HZ.out
      clear s0 s1 s2 s3 s4 s5 s6 s7 s8 s9
      have hse := fun w1 (hx : Ext wz w1) => sees_ok (x2.pv A2 G2 T2 lo2 hi2) i j w1 (HP.out.ext hx) HQ2.out.ok (by rw [HQ2.out.len, HNe.out]; omega) (by rw [HQ2.out.len, HNe.out]; omega) (by omega)
      have hs1 : seeF false (x2.pv A2 G2 T2 lo2 hi2).p i j = xb := by rw [← Hxb.out]; exact HQ2.out.see false i j (by rw [HNe.out]; exact hi) (by rw [HNe.out]; exact hj)
      have hs2 : seeF true (x2.pv A2 G2 T2 lo2 hi2).p i j = yb := by rw [← Hyb.out]; exact HQ2.out.see true i j (by rw [HNe.out]; exact hi) (by rw [HNe.out]; exact hj)
      rw [hs1, hs2] at hse
      have HSe := Lib.hid hse
      obtain ⟨Lk, hLk⟩ : ∃ L, fewP (x2.pv A2 G2 T2 lo2 hi2).p = L := ⟨_, rfl⟩
      have hfe := fun w1 (hx : Ext wz w1) => fewest_ok (x2.pv A2 G2 T2 lo2 hi2) w1 (HP.out.ext hx) HQ2.out.ok Lk hLk
      have HFe := Lib.hid hfe
      have hlk : Lk.length = ln := by rw [← hLk, HQ2.out.few]; exact HL.out
      have hlL : Lk = L := by rw [← hLk, HQ2.out.same rfl]; exact HLL.out
      subst hlL
      clear hse hfe hs1 hs2 hLk
      have HLk := Lib.hid hlk
      rw [hlk] at HFe
      clear hlk
      have e0 : (((2 : Nat) : Int) == 0) = false := by decide
      have e1 : ((2 : Int) == 0) = false := by decide
      have e2 : decide ((0 : Int) < ((2 : Nat) : Int)) = true := by decide
      have e3 : decide ((0 : Int) < 2) = true := by decide
      rw [N3.pv_v hlA2 hlG2] at HSe HFe
      go_wp2_with fail
      refine (HSe.out _ ((Ext.refl wz).alloc _)).mono ?_
      rintro e wa ⟨rfl, hxa⟩
      have HXa : Hid (Ext wz wa) := ((Ext.refl wz).alloc _).trans hxa
      have hbx : wa.heap[wz.heap.size]? = _ := hxa.block (World.alloc_heap_new _ _)
      have m0 := (cell_at hbx 0).trans rfl
      have m1 := (cell_at hbx 1).trans rfl
      have m2 := (cell_at hbx 2).trans rfl
      have m3 := (cell_at hbx 3).trans rfl
      have m4 := (cell_at hbx 4).trans rfl
      clear hxa hbx HSe s10 s11 s12 s13 s14
      go_wp2_with fail
      refine (HFe.out _ HXa.out).mono ?_
      rintro e wb ⟨ma, mc, rfl, hmo, hxb⟩
      have HXb : Hid (Ext wz wb) := HXa.out.trans hxb
      have hnn : (ln != ln) = false := by simp
      have hnn2 : ((ln : Int) != (ln : Int)) = false := by simp
      have hxx : (xb != xb) = false := by cases xb <;> rfl
      have hyy : (yb != yb) = false := by cases yb <;> rfl
      have hms : IsSl 1 num wb ⟨ma, mc, Lk⟩ := own_sl (c := mc) (base := wa.heap.size) (e := 3) (by rw [HLk.out]; exact hmo) (by rw [HLk.out]; omega)
      have heq := equal_any ⟨ma, mc, Lk⟩ ⟨la, lc, Lk⟩ wb hms (HLs.out.ext (HZ.out.trans HXb.out))
      dsimp only at heq
      rw [HLk.out, decide_eq_true rfl] at heq
      have HEq := Lib.hid heq
      clear hms heq
      clear hxb hmo HFe m0 m1 m2 m3 m4 HP
      go_wp2_with fail
      refine HEq.out.mono ?_
      rintro e wc ⟨rfl, m, rfl⟩
      have HXc : Hid (Ext W5 (wb.drewN m)) := (HZ.out.trans HXb.out).drewN m
      clear HEq HXb HXa
      generalize wb.drewN m = wd at *
      go_wp2_with fail
      refine ⟨InvT2.of 3 ?_ (by omega) HXc, ?_⟩
      · rfl
      · simp [intOf, frT20]
  · obtain rfl : k = 3 := by omega
    have di : decide ((3 : Int) < 3) = false := by decide
    have HXe : Hid (Ext w wz) := (HX.out.trans HX5.out).trans HZ.out
    go_wp2_with (go_at_call 19; refine (awake_ok _).mono ?_; rintro e w7 ⟨rfl, hx7⟩; have HX7 : Hid (Ext w w7) := HXe.out.trans hx7; clear hx7)
    go_ret
    exact ⟨rfl, HX7.out⟩
end Go.Proofs.Ytfognlealnhodaa

namespace Go.Proofs.Ytfognlealnhodaa
open Go.RowKit

section
variable {W W' : World} {s0 n T lo hi : Nat} {x : N3} {A : List Nat} {G : List (Nat × Nat)}
theorem CpS.setG (h : CpS W s0 n x A G T lo hi) (i : Nat) (z : Nat × Nat) (hi' : i < n) : CpS ((W.setCell ⟨x.r, i * 2, none⟩ (.int .i64 (z.1 : Int))).setCell ⟨x.r, i * 2 + 1, none⟩ (.int .i64 (z.2 : Int))) s0 n x A (G.set i z) T lo hi := by
  obtain ⟨q1, q2, q3, q4, q5, q6⟩ := h.gr h
  have k : Keep (fun b => b ≠ x.r) W ((W.setCell ⟨x.r, i * 2, none⟩ (.int .i64 (z.1 : Int))).setCell ⟨x.r, i * 2 + 1, none⟩ (.int .i64 (z.2 : Int))) := ((Keep.refl _ W).setCell _ _ (fun _ hh => hh rfl)).setCell _ _ (fun _ hh => hh rfl)
  exact ⟨h.row.keep k q1, h.sp.put i z (by rw [h.lg]; exact hi'), k.heap h.box q6, h.la, by rw [List.length_set]; exact h.lg, h.low⟩
theorem CpS.setT (h : CpS W s0 n x A G T lo hi) (T' : Nat) : CpS (W.setCell ⟨x.B, 2, none⟩ (.int .i64 (T' : Int))) s0 n x A G T' lo hi := by
  obtain ⟨q1, q2, q3, q4, q5, q6⟩ := h.gr h
  have k : Keep (fun b => b ≠ x.B) W (W.setCell ⟨x.B, 2, none⟩ (.int .i64 (T' : Int))) := (Keep.refl _ W).setCell _ _ (fun _ hh => hh rfl)
  exact ⟨h.row.keep k q2, h.sp.keep k q4, (heap_setCell_same h.box _).trans rfl, h.la, h.lg, h.low⟩
theorem CpS.setHi (h : CpS W s0 n x A G T lo hi) (hi' : Nat) : CpS (W.setCell ⟨x.B, 4, none⟩ (.int .i64 (hi' : Int))) s0 n x A G T lo hi' := by
  obtain ⟨q1, q2, q3, q4, q5, q6⟩ := h.gr h
  have k : Keep (fun b => b ≠ x.B) W (W.setCell ⟨x.B, 4, none⟩ (.int .i64 (hi' : Int))) := (Keep.refl _ W).setCell _ _ (fun _ hh => hh rfl)
  exact ⟨h.row.keep k q2, h.sp.keep k q4, (heap_setCell_same h.box _).trans rfl, h.la, h.lg, h.low⟩
end
section
variable {W W' : World} {s0 n : Nat} {x0 x1 x2 : N3} {A0 A1 A2 : List Nat} {G0 G1 G2 : List (Nat × Nat)} {T0 T1 T2 lo0 lo1 lo2 hi0 hi1 hi2 : Nat}
theorem T3.keepD {D : Nat} (h : T3 W s0 n x0 x1 x2 A0 A1 A2 G0 G1 G2 T0 T1 T2 lo0 lo1 lo2 hi0 hi1 hi2) (k : Keep (fun b => b ≠ D) W W') (hD : D < s0) : T3 W' s0 n x0 x1 x2 A0 A1 A2 G0 G1 G2 T0 T1 T2 lo0 lo1 lo2 hi0 hi1 hi2 := by
  have a0 := h.c0.low
  have a1 := h.c1.low
  have a2 := h.c2.low
  exact ⟨h.c0.keep k (by omega) (by omega) (by omega), h.c1.keep k (by omega) (by omega) (by omega), h.c2.keep k (by omega) (by omega) (by omega), h.ap⟩
theorem T3.setG0 (h : T3 W s0 n x0 x1 x2 A0 A1 A2 G0 G1 G2 T0 T1 T2 lo0 lo1 lo2 hi0 hi1 hi2) (i : Nat) (z : Nat × Nat) (hi' : i < n) : T3 ((W.setCell ⟨x0.r, i * 2, none⟩ (.int .i64 (z.1 : Int))).setCell ⟨x0.r, i * 2 + 1, none⟩ (.int .i64 (z.2 : Int))) s0 n x0 x1 x2 A0 A1 A2 (G0.set i z) G1 G2 T0 T1 T2 lo0 lo1 lo2 hi0 hi1 hi2 := by
  have k : Keep (fun b => b ≠ x0.r) W ((W.setCell ⟨x0.r, i * 2, none⟩ (.int .i64 (z.1 : Int))).setCell ⟨x0.r, i * 2 + 1, none⟩ (.int .i64 (z.2 : Int))) := ((Keep.refl _ W).setCell _ _ (fun _ hh => hh rfl)).setCell _ _ (fun _ hh => hh rfl)
  obtain ⟨_, ⟨p1, p2, p3⟩, _⟩ := h.ap
  obtain ⟨-, -, q1, q2, -⟩ := h.c0.gr h.c1
  obtain ⟨-, -, r1, r2, -⟩ := h.c0.gr h.c2
  exact ⟨h.c0.setG i z hi', h.c1.keep k (Ne.symm q1) (Ne.symm p1) (Ne.symm q2), h.c2.keep k (Ne.symm r1) (Ne.symm p2) (Ne.symm r2), h.ap⟩
theorem T3.setG2 (h : T3 W s0 n x0 x1 x2 A0 A1 A2 G0 G1 G2 T0 T1 T2 lo0 lo1 lo2 hi0 hi1 hi2) (i : Nat) (z : Nat × Nat) (hi' : i < n) : T3 ((W.setCell ⟨x2.r, i * 2, none⟩ (.int .i64 (z.1 : Int))).setCell ⟨x2.r, i * 2 + 1, none⟩ (.int .i64 (z.2 : Int))) s0 n x0 x1 x2 A0 A1 A2 G0 G1 (G2.set i z) T0 T1 T2 lo0 lo1 lo2 hi0 hi1 hi2 := by
  have k : Keep (fun b => b ≠ x2.r) W ((W.setCell ⟨x2.r, i * 2, none⟩ (.int .i64 (z.1 : Int))).setCell ⟨x2.r, i * 2 + 1, none⟩ (.int .i64 (z.2 : Int))) := ((Keep.refl _ W).setCell _ _ (fun _ hh => hh rfl)).setCell _ _ (fun _ hh => hh rfl)
  obtain ⟨_, ⟨p1, p2, p3⟩, _⟩ := h.ap
  obtain ⟨-, -, q1, q2, -⟩ := h.c2.gr h.c0
  obtain ⟨-, -, r1, r2, -⟩ := h.c2.gr h.c1
  exact ⟨h.c0.keep k (Ne.symm q1) p2 (Ne.symm q2), h.c1.keep k (Ne.symm r1) p3 (Ne.symm r2), h.c2.setG i z hi', h.ap⟩
theorem T3.setT1 (h : T3 W s0 n x0 x1 x2 A0 A1 A2 G0 G1 G2 T0 T1 T2 lo0 lo1 lo2 hi0 hi1 hi2) (T' : Nat) : T3 (W.setCell ⟨x1.B, 2, none⟩ (.int .i64 (T' : Int))) s0 n x0 x1 x2 A0 A1 A2 G0 G1 G2 T0 T' T2 lo0 lo1 lo2 hi0 hi1 hi2 := by
  have k : Keep (fun b => b ≠ x1.B) W (W.setCell ⟨x1.B, 2, none⟩ (.int .i64 (T' : Int))) := (Keep.refl _ W).setCell _ _ (fun _ hh => hh rfl)
  obtain ⟨_, _, ⟨p1, p2, p3⟩⟩ := h.ap
  obtain ⟨-, -, -, -, q1, q2⟩ := h.c1.gr h.c0
  obtain ⟨-, -, -, -, r1, r2⟩ := h.c1.gr h.c2
  exact ⟨h.c0.keep k (Ne.symm q1) (Ne.symm q2) p1, h.c1.setT T', h.c2.keep k (Ne.symm r1) (Ne.symm r2) (Ne.symm p3), h.ap⟩
theorem T3.setHi0 (h : T3 W s0 n x0 x1 x2 A0 A1 A2 G0 G1 G2 T0 T1 T2 lo0 lo1 lo2 hi0 hi1 hi2) (hi' : Nat) : T3 (W.setCell ⟨x0.B, 4, none⟩ (.int .i64 (hi' : Int))) s0 n x0 x1 x2 A0 A1 A2 G0 G1 G2 T0 T1 T2 lo0 lo1 lo2 hi' hi1 hi2 := by
  have k : Keep (fun b => b ≠ x0.B) W (W.setCell ⟨x0.B, 4, none⟩ (.int .i64 (hi' : Int))) := (Keep.refl _ W).setCell _ _ (fun _ hh => hh rfl)
  obtain ⟨_, _, ⟨p1, p2, p3⟩⟩ := h.ap
  obtain ⟨-, -, -, -, q1, q2⟩ := h.c0.gr h.c1
  obtain ⟨-, -, -, -, r1, r2⟩ := h.c0.gr h.c2
  exact ⟨h.c0.setHi hi', h.c1.keep k (Ne.symm q1) (Ne.symm q2) (Ne.symm p1), h.c2.keep k (Ne.symm r1) (Ne.symm r2) (Ne.symm p2), h.ap⟩
end
end Go.Proofs.Ytfognlealnhodaa

namespace Go.Proofs.Ytfognlealnhodaa
open Go.RowKit

noncomputable def tail5_28 : Code := ((Try.f5.body.bind (tailT 28)).getD .skip)
def frH28 (pb i j z b0 b1 b2 : Nat) (X : Nat → Value) : Array Value := #[X 0, X 1, X 2, X 3, X 4, X 5, X 6, X 7, X 8, X 9, X 10, X 11, X 12, .pointer (some ⟨pb, 0, none⟩), X 14, .int .i64 (i : Int), .int .i64 (j : Int), .int .i64 (z : Int), X 18, X 19, X 20, X 21, X 22, X 23, X 24, .pointer (some ⟨b0, 0, none⟩), .pointer (some ⟨b1, 0, none⟩), .pointer (some ⟨b2, 0, none⟩), X 28, X 29, X 30, X 31, X 32, X 33, X 34, X 35, X 36, X 37, X 38, X 39, X 40, X 41, X 42, X 43, X 44, X 45, X 46, X 47, X 48, X 49, X 50, X 51, X 52, X 53, X 54, X 55, X 56, X 57, X 58, X 59, X 60, X 61, X 62, X 63, X 64, X 65, X 66, X 67, X 68, X 69, X 70, X 71, X 72, X 73, X 74, X 75, X 76, X 77, X 78, X 79, X 80, X 81, X 82, X 83, X 84, X 85, X 86, X 87, X 88, X 89, X 90, X 91, X 92, X 93, X 94, X 95, X 96, X 97, X 98, X 99, X 100, X 101, X 102, X 103, X 104, X 105, X 106, X 107, X 108, X 109, X 110, X 111, X 112, X 113, X 114, X 115, X 116, X 117, X 118, X 119, X 120, X 121, X 122, X 123, X 124, X 125, X 126, X 127, X 128, X 129, X 130, X 131, X 132, X 133, X 134, X 135, X 136, X 137, X 138, X 139, X 140, X 141, X 142, X 143, X 144, X 145, X 146, X 147, X 148, X 149, X 150, X 151, X 152, X 153, X 154, X 155, X 156, X 157, X 158, X 159, X 160, X 161, X 162, X 163, X 164, X 165, X 166, X 167, X 168, X 169, X 170, X 171, X 172, X 173, X 174, X 175, X 176, X 177, X 178, X 179, X 180, X 181, X 182, X 183, X 184, X 185, X 186, X 187, X 188, X 189, X 190, X 191, X 192, X 193, X 194, X 195, X 196, X 197, X 198, X 199, X 200, X 201, X 202, X 203, X 204, X 205, X 206, X 207, X 208, X 209, X 210, X 211, X 212, X 213, X 214, X 215, X 216, X 217, X 218, X 219, X 220, X 221, X 222, X 223, X 224, X 225, X 226, X 227, X 228, X 229, X 230, X 231, X 232, X 233, X 234, X 235, X 236, X 237, X 238, X 239, X 240, X 241, X 242, X 243, X 244, X 245, X 246, X 247, X 248, X 249, X 250, X 251, X 252, X 253, X 254, X 255, X 256, X 257, X 258, X 259, X 260, X 261, X 262, X 263, X 264, X 265, X 266, X 267, X 268, X 269, X 270, X 271, X 272, X 273, X 274, X 275, X 276, X 277, X 278, X 279, X 280, X 281, X 282, X 283]
def frH30 (pb i j z ln lc sb k : Nat) (la : Option Addr) (X : Nat → Value) : Array Value := #[X 0, X 1, X 2, X 3, X 4, X 5, X 6, X 7, X 8, X 9, X 10, X 11, X 12, .pointer (some ⟨pb, 0, none⟩), X 14, .int .i64 (i : Int), .int .i64 (j : Int), .int .i64 (z : Int), .int .i64 0, X 19, X 20, X 21, X 22, X 23, X 24, X 25, X 26, X 27, X 28, X 29, X 30, .slice la ln lc, X 32, X 33, X 34, X 35, X 36, X 37, X 38, X 39, X 40, X 41, X 42, X 43, X 44, X 45, X 46, X 47, X 48, X 49, X 50, X 51, X 52, X 53, X 54, X 55, X 56, X 57, X 58, X 59, X 60, X 61, X 62, X 63, X 64, X 65, X 66, X 67, X 68, X 69, X 70, X 71, X 72, X 73, X 74, X 75, X 76, X 77, X 78, X 79, X 80, X 81, X 82, X 83, X 84, X 85, X 86, X 87, X 88, X 89, X 90, X 91, X 92, X 93, X 94, X 95, X 96, X 97, X 98, X 99, X 100, X 101, X 102, X 103, X 104, X 105, X 106, X 107, X 108, X 109, X 110, X 111, X 112, X 113, X 114, X 115, X 116, X 117, X 118, X 119, X 120, X 121, X 122, X 123, X 124, X 125, X 126, X 127, X 128, X 129, X 130, X 131, X 132, X 133, X 134, X 135, X 136, X 137, X 138, X 139, X 140, X 141, X 142, X 143, X 144, X 145, X 146, X 147, X 148, X 149, X 150, X 151, X 152, X 153, X 154, X 155, X 156, X 157, X 158, X 159, X 160, X 161, X 162, X 163, X 164, X 165, X 166, X 167, X 168, X 169, X 170, X 171, X 172, X 173, X 174, X 175, X 176, X 177, X 178, X 179, X 180, X 181, X 182, X 183, X 184, X 185, X 186, X 187, .slice (some ⟨sb, 0, none⟩) 3 3, .int .i64 3, .int .i64 (k : Int), X 191, X 192, X 193, X 194, X 195, X 196, X 197, X 198, X 199, X 200, X 201, X 202, X 203, X 204, X 205, X 206, X 207, X 208, X 209, X 210, X 211, X 212, X 213, X 214, X 215, X 216, X 217, X 218, X 219, X 220, X 221, X 222, X 223, X 224, X 225, X 226, X 227, X 228, X 229, X 230, X 231, X 232, X 233, X 234, X 235, X 236, X 237, X 238, X 239, X 240, X 241, X 242, X 243, X 244, X 245, X 246, X 247, X 248, X 249, X 250, X 251, X 252, X 253, X 254, X 255, X 256, X 257, X 258, X 259, X 260, X 261, X 262, X 263, X 264, X 265, X 266, X 267, X 268, X 269, X 270, X 271, X 272, X 273, X 274, X 275, X 276, X 277, X 278, X 279, X 280, X 281, X 282, X 283]

def InvH3 (pb i j z ln lc sb : Nat) (la : Option Addr) (W : World) (ac : Act) (wr : World) : Prop :=
  ∃ (X : Nat → Value) (k : Nat), ac = { tmps := frH30 pb i j z ln lc sb k la X, defers := [] } ∧ k ≤ 3 ∧ Hid (Ext W wr)
theorem InvH3.of {pb i j z ln lc sb : Nat} {la : Option Addr} {u : Array Value} {W wr : World} (k : Nat) (ht : u = frH30 pb i j z ln lc sb k la (fun j => u.getD j undef)) (h1 : k ≤ 3) (h2 : Hid (Ext W wr)) :
    InvH3 pb i j z ln lc sb la W { tmps := u, defers := [] } wr := ⟨_, k, by rw [← ht], h1, h2⟩

set_option maxRecDepth 1000000 in
set_option maxHeartbeats 16000000 in
theorem taller_tail28 (X : Nat → Value) (pb n i j z : Nat) (v : PV) (x0 x1 x2 : N3) (s0 : Nat) (A0 A1 A2 : List Nat) (G0 G1 G2 : List (Nat × Nat)) (T0 T1 T2 lo0 lo1 lo2 hi0 hi1 hi2 : Nat) (w W : World) (HN : Hid (v.at'.l.length = n)) (HP : Hid (IsP W v)) (HF : Hid (Five W pb v)) (HOk : Hid (OkP v.p)) (Hz : Hid (tallF true v.p i j = z ∧ z ≤ 2000)) (H3 : Hid (T3 W s0 n x0 x1 x2 A0 A1 A2 G0 G1 G2 T0 T1 T2 lo0 lo1 lo2 hi0 hi1 hi2))
    (HQ0 : Hid (Finer v.p (x0.pv A0 G0 T0 lo0 hi0).p i j false false)) (HQ1 : Hid (Finer v.p (x1.pv A1 G1 T1 lo1 hi1).p i j true false)) (HQ2 : Hid (Finer v.p (x2.pv A2 G2 T2 lo2 hi2).p i j true true)) (hi : i < n) (hj : j < n) (hij : i ≠ j) (hn40 : n ≤ 40) (HX : Hid (Ext w W)) :
    Code.wp Try.prog tail5_28 (bodyPost Try.prog Try.f5 fun e w' => e = .returned (.bool true) ∧ Ext w w') ⟨frH28 pb i j z x0.B x1.B x2.B X, []⟩ W := by
  conv => arg 2; whnf
  conv => arg 4; dsimp only [frH28]
  have HNe : Hid (v.p.A.length = n) := HN.out
  obtain ⟨xb, hxb⟩ : ∃ b, seeF false v.p i j = b := ⟨_, rfl⟩
  obtain ⟨yb, hyb⟩ : ∃ b, seeF true v.p i j = b := ⟨_, rfl⟩
  obtain ⟨L, hL⟩ : ∃ L, fewP v.p = L := ⟨_, rfl⟩
  have hsp := fun w1 (hx : Ext W w1) => sees_ok v i j w1 (HP.out.ext hx) HOk.out (by rw [HN.out]; exact hi) (by rw [HN.out]; exact hj) hij
  rw [hxb, hyb] at hsp
  have hfe := fewest_ok v W HP.out HOk.out L hL
  have Hyb := Lib.hid hyb
  have HLL := Lib.hid hL
  have HSp := Lib.hid hsp
  have hlen : L.length ≤ 41 := by rw [← hL]; exact (seen_math HOk.out).most
  obtain ⟨ln, hln⟩ : ∃ ln, L.length = ln := ⟨_, rfl⟩
  have HL : Hid ((fewP v.p).length = ln) := by show _ = _; rw [hL]; exact hln
  have HLl := Lib.hid hln
  rw [hln] at hlen hfe
  have HFe := Lib.hid hfe
  clear hsp hfe hxb hyb hL hln
  have HP0 : Hid (IsP W (x0.pv A0 G0 T0 lo0 hi0)) := H3.out.c0.is (by omega)
  have HP1 : Hid (IsP W (x1.pv A1 G1 T1 lo1 hi1)) := H3.out.c1.is (by omega)
  have HP2 : Hid (IsP W (x2.pv A2 G2 T2 lo2 hi2)) := H3.out.c2.is (by omega)
  have hlA0 : A0.length = n := H3.out.c0.la
  have hlA1 : A1.length = n := H3.out.c1.la
  have hlA2 : A2.length = n := H3.out.c2.la
  have hlG0 : G0.length = n := H3.out.c0.lg
  have hlG1 : G1.length = n := H3.out.c1.lg
  have hlG2 : G2.length = n := H3.out.c2.lg
  obtain ⟨t0, t1, t2, t3, t4⟩ := HF.out
  go_wp2_with fail
  refine HFe.out.mono ?_
  rintro e w2 ⟨la, lc, rfl, hlo, hx2⟩
  have HX2 : Hid (Ext W w2) := hx2
  have HLs2 : Hid (IsSl 1 num w2 ⟨la, lc, L⟩) := own_sl (c := lc) (base := W.heap.size) (e := 3) (by rw [HLl.out]; exact hlo) (by rw [HLl.out]; omega)
  clear hx2 hlo HFe t0 t1 t2 t3 t4
  obtain ⟨p0, p1, p2, p3, p4⟩ := (H3.out.ext HX2.out).c0.box_at
  obtain ⟨q0, q1, q2, q3, q4⟩ := (H3.out.ext HX2.out).c1.box_at
  obtain ⟨r0, r1, r2, r3, r4⟩ := (H3.out.ext HX2.out).c2.box_at
  go_wp2_with fail
  have hx5 := (Ext.refl w2).alloc (.cells #[.slice (some ⟨x0.g, 0, none⟩) n x0.k, .slice (some ⟨x0.r, 0, none⟩) n x0.q, .int .i64 (T0 : Int), .int .i64 (lo0 : Int), .int .i64 (hi0 : Int), .slice (some ⟨x1.g, 0, none⟩) n x1.k, .slice (some ⟨x1.r, 0, none⟩) n x1.q, .int .i64 (T1 : Int), .int .i64 (lo1 : Int), .int .i64 (hi1 : Int), .slice (some ⟨x2.g, 0, none⟩) n x2.k, .slice (some ⟨x2.r, 0, none⟩) n x2.q, .int .i64 (T2 : Int), .int .i64 (lo2 : Int), .int .i64 (hi2 : Int)] 30)
  have hbl := World.alloc_heap_new w2 (.cells #[.slice (some ⟨x0.g, 0, none⟩) n x0.k, .slice (some ⟨x0.r, 0, none⟩) n x0.q, .int .i64 (T0 : Int), .int .i64 (lo0 : Int), .int .i64 (hi0 : Int), .slice (some ⟨x1.g, 0, none⟩) n x1.k, .slice (some ⟨x1.r, 0, none⟩) n x1.q, .int .i64 (T1 : Int), .int .i64 (lo1 : Int), .int .i64 (hi1 : Int), .slice (some ⟨x2.g, 0, none⟩) n x2.k, .slice (some ⟨x2.r, 0, none⟩) n x2.q, .int .i64 (T2 : Int), .int .i64 (lo2 : Int), .int .i64 (hi2 : Int)] 30)
  have HSb : Hid (∀ u, Ext (w2.alloc (.cells #[.slice (some ⟨x0.g, 0, none⟩) n x0.k, .slice (some ⟨x0.r, 0, none⟩) n x0.q, .int .i64 (T0 : Int), .int .i64 (lo0 : Int), .int .i64 (hi0 : Int), .slice (some ⟨x1.g, 0, none⟩) n x1.k, .slice (some ⟨x1.r, 0, none⟩) n x1.q, .int .i64 (T1 : Int), .int .i64 (lo1 : Int), .int .i64 (hi1 : Int), .slice (some ⟨x2.g, 0, none⟩) n x2.k, .slice (some ⟨x2.r, 0, none⟩) n x2.q, .int .i64 (T2 : Int), .int .i64 (lo2 : Int), .int .i64 (hi2 : Int)] 30)) u → u.cell? ⟨w2.heap.size, 0, none⟩ = some (.slice (some ⟨x0.g, 0, none⟩) n x0.k) ∧ u.cell? ⟨w2.heap.size, 1, none⟩ = some (.slice (some ⟨x0.r, 0, none⟩) n x0.q) ∧ u.cell? ⟨w2.heap.size, 2, none⟩ = some (.int .i64 (T0 : Int)) ∧ u.cell? ⟨w2.heap.size, 3, none⟩ = some (.int .i64 (lo0 : Int)) ∧ u.cell? ⟨w2.heap.size, 4, none⟩ = some (.int .i64 (hi0 : Int)) ∧ u.cell? ⟨w2.heap.size, 5, none⟩ = some (.slice (some ⟨x1.g, 0, none⟩) n x1.k) ∧ u.cell? ⟨w2.heap.size, 6, none⟩ = some (.slice (some ⟨x1.r, 0, none⟩) n x1.q) ∧ u.cell? ⟨w2.heap.size, 7, none⟩ = some (.int .i64 (T1 : Int)) ∧ u.cell? ⟨w2.heap.size, 8, none⟩ = some (.int .i64 (lo1 : Int)) ∧ u.cell? ⟨w2.heap.size, 9, none⟩ = some (.int .i64 (hi1 : Int)) ∧ u.cell? ⟨w2.heap.size, 10, none⟩ = some (.slice (some ⟨x2.g, 0, none⟩) n x2.k) ∧ u.cell? ⟨w2.heap.size, 11, none⟩ = some (.slice (some ⟨x2.r, 0, none⟩) n x2.q) ∧ u.cell? ⟨w2.heap.size, 12, none⟩ = some (.int .i64 (T2 : Int)) ∧ u.cell? ⟨w2.heap.size, 13, none⟩ = some (.int .i64 (lo2 : Int)) ∧ u.cell? ⟨w2.heap.size, 14, none⟩ = some (.int .i64 (hi2 : Int))) := fun u hu => by
    have h := hu.block hbl
    exact ⟨(cell_at h 0).trans rfl, (cell_at h 1).trans rfl, (cell_at h 2).trans rfl, (cell_at h 3).trans rfl, (cell_at h 4).trans rfl, (cell_at h 5).trans rfl, (cell_at h 6).trans rfl, (cell_at h 7).trans rfl, (cell_at h 8).trans rfl, (cell_at h 9).trans rfl, (cell_at h 10).trans rfl, (cell_at h 11).trans rfl, (cell_at h 12).trans rfl, (cell_at h 13).trans rfl, (cell_at h 14).trans rfl⟩
  have HX5 : Hid (Ext W (w2.alloc (.cells #[.slice (some ⟨x0.g, 0, none⟩) n x0.k, .slice (some ⟨x0.r, 0, none⟩) n x0.q, .int .i64 (T0 : Int), .int .i64 (lo0 : Int), .int .i64 (hi0 : Int), .slice (some ⟨x1.g, 0, none⟩) n x1.k, .slice (some ⟨x1.r, 0, none⟩) n x1.q, .int .i64 (T1 : Int), .int .i64 (lo1 : Int), .int .i64 (hi1 : Int), .slice (some ⟨x2.g, 0, none⟩) n x2.k, .slice (some ⟨x2.r, 0, none⟩) n x2.q, .int .i64 (T2 : Int), .int .i64 (lo2 : Int), .int .i64 (hi2 : Int)] 30))) := HX2.out.trans hx5
  have HLs := Lib.hid (HLs2.out.ext hx5)
  clear hx5 hbl HLs2 HX2 p0 p1 p2 p3 p4 q0 q1 q2 q3 q4 r0 r1 r2 r3 r4
  generalize w2.alloc (.cells #[.slice (some ⟨x0.g, 0, none⟩) n x0.k, .slice (some ⟨x0.r, 0, none⟩) n x0.q, .int .i64 (T0 : Int), .int .i64 (lo0 : Int), .int .i64 (hi0 : Int), .slice (some ⟨x1.g, 0, none⟩) n x1.k, .slice (some ⟨x1.r, 0, none⟩) n x1.q, .int .i64 (T1 : Int), .int .i64 (lo1 : Int), .int .i64 (hi1 : Int), .slice (some ⟨x2.g, 0, none⟩) n x2.k, .slice (some ⟨x2.r, 0, none⟩) n x2.q, .int .i64 (T2 : Int), .int .i64 (lo2 : Int), .int .i64 (hi2 : Int)] 30) = W5 at *
  generalize w2.heap.size = sb at *
  refine wp_loop (InvH3 pb i j z ln lc sb la W5) (fun a _ => 3 - (intOf (a.tmps.getD 190 undef)).toNat) (InvH3.of 0 rfl (by omega) (Ext.refl _)) ?_
  rintro ac wz ⟨X2, k, rfl, hk, HZ⟩
  conv => arg 4; dsimp only [frH30]
  by_cases hlt : k < 3
  · obtain rfl | rfl | rfl : k = 0 ∨ k = 1 ∨ k = 2 := by omega
    · rw [show (((0 : Nat)) : Int) = 0 from rfl]
      have di : decide ((0 : Int) < 3) = true := by decide
      have hwk : IntKind.i64.wrap ((0 : Int) + 1) = 1 := by decide
      clear hlt hk
      have HWz : Hid (Ext W wz) := HX5.out.trans HZ.out
      have HPx := Lib.hid (HP0.out.ext HWz.out)
      obtain ⟨s0, s1, s2, s3, s4, s5, s6, s7, s8, s9, s10, s11, s12, s13, s14⟩ := HSb.out wz HZ.out
      clear s5 s6 s7 s8 s9 s10 s11 s12 s13 s14
      obtain ⟨Lk, hLk⟩ : ∃ L, fewP (x0.pv A0 G0 T0 lo0 hi0).p = L := ⟨_, rfl⟩
      have hfe := fun w1 (hx : Ext wz w1) => fewest_ok (x0.pv A0 G0 T0 lo0 hi0) w1 (HPx.out.ext hx) HQ0.out.ok Lk hLk
      obtain ⟨tk, htk⟩ : ∃ t, tallF true (x0.pv A0 G0 T0 lo0 hi0).p i j = t := ⟨_, rfl⟩
      have hta := fun w1 (hx : Ext wz w1) => tall_ok (x0.pv A0 G0 T0 lo0 hi0) i j w1 (HPx.out.ext hx) HQ0.out.ok (by rw [HQ0.out.len, HNe.out]; exact hi) (by rw [HQ0.out.len, HNe.out]; exact hj) hij (by have := HQ0.out.tall; have := Hz.out; omega)
      rw [htk] at hta
      obtain ⟨yk, hyk⟩ : ∃ b, seeF true (x0.pv A0 G0 T0 lo0 hi0).p i j = b := ⟨_, rfl⟩
      obtain ⟨xk, hxk⟩ : ∃ b, seeF false (x0.pv A0 G0 T0 lo0 hi0).p i j = b := ⟨_, rfl⟩
      have hse := fun w1 (hx : Ext wz w1) => sees_ok (x0.pv A0 G0 T0 lo0 hi0) i j w1 (HPx.out.ext hx) HQ0.out.ok (by rw [HQ0.out.len, HNe.out]; exact hi) (by rw [HQ0.out.len, HNe.out]; exact hj) hij
      rw [hyk, hxk] at hse
      have hlk : Lk.length ≤ ln := by rw [← hLk]; have := HQ0.out.few; have := HL.out; omega
      have htz : tk ≤ z := by rw [← htk]; have := HQ0.out.tall; have := Hz.out; omega
      have hcase : yb = false ∨ (yb = true ∧ yk = true) := by
        cases hh : yb
        · left; rfl
        · right; exact ⟨rfl, by rw [← hyk]; exact HQ0.out.see (by rw [Hyb.out]; exact hh)⟩
      obtain ⟨lk, hlk2⟩ : ∃ n, Lk.length = n := ⟨_, rfl⟩
      have HLk := Lib.hid hlk2
      rw [hlk2] at hfe hlk
      have HFe := Lib.hid hfe
      have HTa := Lib.hid hta
      have HSe := Lib.hid hse
      have d1 : decide ((ln : Int) < (lk : Int)) = false := decide_eq_false (by omega)
      have d2 : decide (ln < lk) = false := decide_eq_false (by omega)
      have d3 : decide ((z : Int) < (tk : Int)) = false := decide_eq_false (by omega)
      have d4 : decide (z < tk) = false := decide_eq_false (by omega)
      have e0 : ((0 : Int) == 2) = false := by decide
      have e1 : ((0 : Int) == 1) = false := by decide
      have HK9 : Hid (lk ≤ 1000000) := (by omega : lk ≤ 1000000)
      clear hfe hta hse hLk htk hyk hxk hlk2 hlk htz
      rw [N3.pv_v hlA0 hlG0] at HSe HFe HTa
      go_upto_region 32 with (fail)
      have HXa : Hid (Ext wz (wz.alloc (.cells #[.slice (some ⟨x0.g, 0, none⟩) n x0.k, .slice (some ⟨x0.r, 0, none⟩) n x0.q, .int .i64 (T0 : Int), .int .i64 (lo0 : Int), .int .i64 (hi0 : Int)] 30))) := (Ext.refl wz).alloc _
      have HB : Hid (∀ u, Ext (wz.alloc (.cells #[.slice (some ⟨x0.g, 0, none⟩) n x0.k, .slice (some ⟨x0.r, 0, none⟩) n x0.q, .int .i64 (T0 : Int), .int .i64 (lo0 : Int), .int .i64 (hi0 : Int)] 30)) u → u.cell? ⟨wz.heap.size, 0, none⟩ = some (.slice (some ⟨x0.g, 0, none⟩) n x0.k) ∧ u.cell? ⟨wz.heap.size, 1, none⟩ = some (.slice (some ⟨x0.r, 0, none⟩) n x0.q) ∧ u.cell? ⟨wz.heap.size, 2, none⟩ = some (.int .i64 (T0 : Int)) ∧ u.cell? ⟨wz.heap.size, 3, none⟩ = some (.int .i64 (lo0 : Int)) ∧ u.cell? ⟨wz.heap.size, 4, none⟩ = some (.int .i64 (hi0 : Int))) := fun u hu => by
        have h := hu.block (World.alloc_heap_new wz (.cells #[.slice (some ⟨x0.g, 0, none⟩) n x0.k, .slice (some ⟨x0.r, 0, none⟩) n x0.q, .int .i64 (T0 : Int), .int .i64 (lo0 : Int), .int .i64 (hi0 : Int)] 30))
        exact ⟨(cell_at h 0).trans rfl, (cell_at h 1).trans rfl, (cell_at h 2).trans rfl, (cell_at h 3).trans rfl, (cell_at h 4).trans rfl⟩
      clear s0 s1 s2 s3 s4
      generalize wz.alloc (.cells #[.slice (some ⟨x0.g, 0, none⟩) n x0.k, .slice (some ⟨x0.r, 0, none⟩) n x0.q, .int .i64 (T0 : Int), .int .i64 (lo0 : Int), .int .i64 (hi0 : Int)] 30) = wa at *
      generalize wz.heap.size = xb' at *
      obtain ⟨m0, m1, m2, m3, m4⟩ := HB.out wa (Ext.refl _)
      go_wp2_with fail
      refine (HFe.out _ HXa.out).mono ?_
      rintro e wb ⟨ma, mc, rfl, hmo, hxb⟩
      have HXb : Hid (Ext wa wb) := hxb
      clear hxb hmo HFe m0 m1 m2 m3 m4
      obtain ⟨m0, m1, m2, m3, m4⟩ := HB.out wb HXb.out
      go_wp2_with fail
      refine (HTa.out _ (HXa.out.trans HXb.out)).mono ?_
      rintro e wc ⟨rfl, hxc⟩
      have HXc : Hid (Ext wa wc) := HXb.out.trans hxc
      clear hxc HTa m0 m1 m2 m3 m4 HXb
      obtain ⟨we, hwe⟩ : ∃ w, w = wc := ⟨_, rfl⟩
      subst hwe
      have HXe := HXc
      obtain ⟨t0, t1, t2, t3, t4⟩ := HF.out.ext ((HWz.out.trans HXa.out).trans HXe.out)
      go_wp2_with fail
      refine (HSp.out _ ((HWz.out.trans HXa.out).trans HXe.out)).mono ?_
      rintro e wf ⟨rfl, hxf⟩
      have HXf : Hid (Ext wa wf) := HXe.out.trans hxf
      clear hxf t0 t1 t2 t3 t4
      obtain ⟨m0, m1, m2, m3, m4⟩ := HB.out wf HXf.out
      go_wp2_with fail
      refine (HSe.out _ (HXa.out.trans HXf.out)).mono ?_
      rintro e wg ⟨rfl, hxg⟩
      have HXg : Hid (Ext W5 wg) := ((HZ.out.trans HXa.out).trans HXf.out).trans hxg
      clear hxg m0 m1 m2 m3 m4 HSe HB
      rcases hcase with rfl | ⟨rfl, rfl⟩
      · go_wp2_with fail
        refine ⟨InvH3.of 1 ?_ (by omega) HXg, ?_⟩
        · rfl
        · simp [intOf, frH30]
      · go_wp2_with fail
        refine ⟨InvH3.of 1 ?_ (by omega) HXg, ?_⟩
        · rfl
        · simp [intOf, frH30]
    · rw [show (((1 : Nat)) : Int) = 1 from rfl]
      have di : decide ((1 : Int) < 3) = true := by decide
      have hwk : IntKind.i64.wrap ((1 : Int) + 1) = 2 := by decide
      clear hlt hk
      have HWz : Hid (Ext W wz) := HX5.out.trans HZ.out
      have HPx := Lib.hid (HP1.out.ext HWz.out)
      obtain ⟨s0, s1, s2, s3, s4, s5, s6, s7, s8, s9, s10, s11, s12, s13, s14⟩ := HSb.out wz HZ.out
      clear s0 s1 s2 s3 s4 s10 s11 s12 s13 s14
      obtain ⟨Lk, hLk⟩ : ∃ L, fewP (x1.pv A1 G1 T1 lo1 hi1).p = L := ⟨_, rfl⟩
      have hfe := fun w1 (hx : Ext wz w1) => fewest_ok (x1.pv A1 G1 T1 lo1 hi1) w1 (HPx.out.ext hx) HQ1.out.ok Lk hLk
      obtain ⟨tk, htk⟩ : ∃ t, tallF true (x1.pv A1 G1 T1 lo1 hi1).p i j = t := ⟨_, rfl⟩
      have hta := fun w1 (hx : Ext wz w1) => tall_ok (x1.pv A1 G1 T1 lo1 hi1) i j w1 (HPx.out.ext hx) HQ1.out.ok (by rw [HQ1.out.len, HNe.out]; exact hi) (by rw [HQ1.out.len, HNe.out]; exact hj) hij (by have := HQ1.out.tall; have := Hz.out; omega)
      rw [htk] at hta
      obtain ⟨yk, hyk⟩ : ∃ b, seeF true (x1.pv A1 G1 T1 lo1 hi1).p i j = b := ⟨_, rfl⟩
      obtain ⟨xk, hxk⟩ : ∃ b, seeF false (x1.pv A1 G1 T1 lo1 hi1).p i j = b := ⟨_, rfl⟩
      have hse := fun w1 (hx : Ext wz w1) => sees_ok (x1.pv A1 G1 T1 lo1 hi1) i j w1 (HPx.out.ext hx) HQ1.out.ok (by rw [HQ1.out.len, HNe.out]; exact hi) (by rw [HQ1.out.len, HNe.out]; exact hj) hij
      rw [hyk, hxk] at hse
      have hlk : Lk.length ≤ ln := by rw [← hLk]; have := HQ1.out.few; have := HL.out; omega
      have htz : tk ≤ z := by rw [← htk]; have := HQ1.out.tall; have := Hz.out; omega
      have hcase : yb = false ∨ (yb = true ∧ yk = true) := by
        cases hh : yb
        · left; rfl
        · right; exact ⟨rfl, by rw [← hyk]; exact HQ1.out.see (by rw [Hyb.out]; exact hh)⟩
      have hteq : tk = z := by rw [← htk, HQ1.out.talls rfl]; exact Hz.out.1
      obtain ⟨lk, hlk2⟩ : ∃ n, Lk.length = n := ⟨_, rfl⟩
      have HLk := Lib.hid hlk2
      rw [hlk2] at hfe hlk
      have HFe := Lib.hid hfe
      have HTa := Lib.hid hta
      have HSe := Lib.hid hse
      have d1 : decide ((ln : Int) < (lk : Int)) = false := decide_eq_false (by omega)
      have d2 : decide (ln < lk) = false := decide_eq_false (by omega)
      have d3 : decide ((z : Int) < (tk : Int)) = false := decide_eq_false (by omega)
      have d4 : decide (z < tk) = false := decide_eq_false (by omega)
      have d5 : ((tk : Int) != (z : Int)) = false := by rw [bne_eq_false_iff_eq]; omega
      have d6 : (tk != z) = false := by rw [bne_eq_false_iff_eq]; omega
      have e0 : ((1 : Int) == 2) = false := by decide
      have e1 : ((1 : Int) == 1) = true := by decide
      have HK9 : Hid (lk ≤ 1000000) := (by omega : lk ≤ 1000000)
      clear hfe hta hse hLk htk hyk hxk hlk2 hlk htz hteq
      rw [N3.pv_v hlA1 hlG1] at HSe HFe HTa
      go_upto_region 32 with (fail)
      have HXa : Hid (Ext wz (wz.alloc (.cells #[.slice (some ⟨x1.g, 0, none⟩) n x1.k, .slice (some ⟨x1.r, 0, none⟩) n x1.q, .int .i64 (T1 : Int), .int .i64 (lo1 : Int), .int .i64 (hi1 : Int)] 30))) := (Ext.refl wz).alloc _
      have HB : Hid (∀ u, Ext (wz.alloc (.cells #[.slice (some ⟨x1.g, 0, none⟩) n x1.k, .slice (some ⟨x1.r, 0, none⟩) n x1.q, .int .i64 (T1 : Int), .int .i64 (lo1 : Int), .int .i64 (hi1 : Int)] 30)) u → u.cell? ⟨wz.heap.size, 0, none⟩ = some (.slice (some ⟨x1.g, 0, none⟩) n x1.k) ∧ u.cell? ⟨wz.heap.size, 1, none⟩ = some (.slice (some ⟨x1.r, 0, none⟩) n x1.q) ∧ u.cell? ⟨wz.heap.size, 2, none⟩ = some (.int .i64 (T1 : Int)) ∧ u.cell? ⟨wz.heap.size, 3, none⟩ = some (.int .i64 (lo1 : Int)) ∧ u.cell? ⟨wz.heap.size, 4, none⟩ = some (.int .i64 (hi1 : Int))) := fun u hu => by
        have h := hu.block (World.alloc_heap_new wz (.cells #[.slice (some ⟨x1.g, 0, none⟩) n x1.k, .slice (some ⟨x1.r, 0, none⟩) n x1.q, .int .i64 (T1 : Int), .int .i64 (lo1 : Int), .int .i64 (hi1 : Int)] 30))
        exact ⟨(cell_at h 0).trans rfl, (cell_at h 1).trans rfl, (cell_at h 2).trans rfl, (cell_at h 3).trans rfl, (cell_at h 4).trans rfl⟩
      clear s5 s6 s7 s8 s9
      generalize wz.alloc (.cells #[.slice (some ⟨x1.g, 0, none⟩) n x1.k, .slice (some ⟨x1.r, 0, none⟩) n x1.q, .int .i64 (T1 : Int), .int .i64 (lo1 : Int), .int .i64 (hi1 : Int)] 30) = wa at *
      generalize wz.heap.size = xb' at *
      obtain ⟨m0, m1, m2, m3, m4⟩ := HB.out wa (Ext.refl _)
      go_wp2_with fail
      refine (HFe.out _ HXa.out).mono ?_
      rintro e wb ⟨ma, mc, rfl, hmo, hxb⟩
      have HXb : Hid (Ext wa wb) := hxb
      clear hxb hmo HFe m0 m1 m2 m3 m4
      obtain ⟨m0, m1, m2, m3, m4⟩ := HB.out wb HXb.out
      go_wp2_with fail
      refine (HTa.out _ (HXa.out.trans HXb.out)).mono ?_
      rintro e wc ⟨rfl, hxc⟩
      have HXc : Hid (Ext wa wc) := HXb.out.trans hxc
      clear hxc HTa m0 m1 m2 m3 m4 HXb
      obtain ⟨we, hwe⟩ : ∃ w, w = wc := ⟨_, rfl⟩
      subst hwe
      have HXe := HXc
      obtain ⟨t0, t1, t2, t3, t4⟩ := HF.out.ext ((HWz.out.trans HXa.out).trans HXe.out)
      go_wp2_with fail
      refine (HSp.out _ ((HWz.out.trans HXa.out).trans HXe.out)).mono ?_
      rintro e wf ⟨rfl, hxf⟩
      have HXf : Hid (Ext wa wf) := HXe.out.trans hxf
      clear hxf t0 t1 t2 t3 t4
      obtain ⟨m0, m1, m2, m3, m4⟩ := HB.out wf HXf.out
      go_wp2_with fail
      refine (HSe.out _ (HXa.out.trans HXf.out)).mono ?_
      rintro e wg ⟨rfl, hxg⟩
      have HXg : Hid (Ext W5 wg) := ((HZ.out.trans HXa.out).trans HXf.out).trans hxg
      clear hxg m0 m1 m2 m3 m4 HSe HB
      rcases hcase with rfl | ⟨rfl, rfl⟩
      · go_wp2_with fail
        refine ⟨InvH3.of 2 ?_ (by omega) HXg, ?_⟩
        · rfl
        · simp [intOf, frH30]
      · go_wp2_with fail
        refine ⟨InvH3.of 2 ?_ (by omega) HXg, ?_⟩
        · rfl
        · simp [intOf, frH30]
    · rw [show (((2 : Nat)) : Int) = 2 from rfl]
      have di : decide ((2 : Int) < 3) = true := by decide
      have hwk : IntKind.i64.wrap ((2 : Int) + 1) = 3 := by decide
      clear hlt hk
      have HWz : Hid (Ext W wz) := HX5.out.trans HZ.out
      have HPx := Lib.hid (HP2.out.ext HWz.out)
      obtain ⟨s0, s1, s2, s3, s4, s5, s6, s7, s8, s9, s10, s11, s12, s13, s14⟩ := HSb.out wz HZ.out
      clear s0 s1 s2 s3 s4 s5 s6 s7 s8 s9
      obtain ⟨Lk, hLk⟩ : ∃ L, fewP (x2.pv A2 G2 T2 lo2 hi2).p = L := ⟨_, rfl⟩
      have hfe := fun w1 (hx : Ext wz w1) => fewest_ok (x2.pv A2 G2 T2 lo2 hi2) w1 (HPx.out.ext hx) HQ2.out.ok Lk hLk
      obtain ⟨tk, htk⟩ : ∃ t, tallF true (x2.pv A2 G2 T2 lo2 hi2).p i j = t := ⟨_, rfl⟩
      have hta := fun w1 (hx : Ext wz w1) => tall_ok (x2.pv A2 G2 T2 lo2 hi2) i j w1 (HPx.out.ext hx) HQ2.out.ok (by rw [HQ2.out.len, HNe.out]; exact hi) (by rw [HQ2.out.len, HNe.out]; exact hj) hij (by have := HQ2.out.tall; have := Hz.out; omega)
      rw [htk] at hta
      obtain ⟨yk, hyk⟩ : ∃ b, seeF true (x2.pv A2 G2 T2 lo2 hi2).p i j = b := ⟨_, rfl⟩
      obtain ⟨xk, hxk⟩ : ∃ b, seeF false (x2.pv A2 G2 T2 lo2 hi2).p i j = b := ⟨_, rfl⟩
      have hse := fun w1 (hx : Ext wz w1) => sees_ok (x2.pv A2 G2 T2 lo2 hi2) i j w1 (HPx.out.ext hx) HQ2.out.ok (by rw [HQ2.out.len, HNe.out]; exact hi) (by rw [HQ2.out.len, HNe.out]; exact hj) hij
      rw [hyk, hxk] at hse
      have hlk : Lk.length ≤ ln := by rw [← hLk]; have := HQ2.out.few; have := HL.out; omega
      have htz : tk ≤ z := by rw [← htk]; have := HQ2.out.tall; have := Hz.out; omega
      have hcase : yb = false ∨ (yb = true ∧ yk = true) := by
        cases hh : yb
        · left; rfl
        · right; exact ⟨rfl, by rw [← hyk]; exact HQ2.out.see (by rw [Hyb.out]; exact hh)⟩
      have hteq : tk = z := by rw [← htk, HQ2.out.talls rfl]; exact Hz.out.1
      have hlL : Lk = L := by rw [← hLk, HQ2.out.same rfl]; exact HLL.out
      subst hlL
      obtain ⟨lk, hlk2⟩ : ∃ n, Lk.length = n := ⟨_, rfl⟩
      have HLk := Lib.hid hlk2
      rw [hlk2] at hfe hlk
      have HFe := Lib.hid hfe
      have HTa := Lib.hid hta
      have HSe := Lib.hid hse
      have d1 : decide ((ln : Int) < (lk : Int)) = false := decide_eq_false (by omega)
      have d2 : decide (ln < lk) = false := decide_eq_false (by omega)
      have d3 : decide ((z : Int) < (tk : Int)) = false := decide_eq_false (by omega)
      have d4 : decide (z < tk) = false := decide_eq_false (by omega)
      have d5 : ((tk : Int) != (z : Int)) = false := by rw [bne_eq_false_iff_eq]; omega
      have d6 : (tk != z) = false := by rw [bne_eq_false_iff_eq]; omega
      have e0 : ((2 : Int) == 2) = true := by decide
      have e1 : ((2 : Int) == 1) = false := by decide
      have HK9 : Hid (lk ≤ 1000000) := (by omega : lk ≤ 1000000)
      clear hfe hta hse hLk htk hyk hxk hlk2 hlk htz hteq
      rw [N3.pv_v hlA2 hlG2] at HSe HFe HTa
      go_upto_region 32 with (fail)
      have HXa : Hid (Ext wz (wz.alloc (.cells #[.slice (some ⟨x2.g, 0, none⟩) n x2.k, .slice (some ⟨x2.r, 0, none⟩) n x2.q, .int .i64 (T2 : Int), .int .i64 (lo2 : Int), .int .i64 (hi2 : Int)] 30))) := (Ext.refl wz).alloc _
      have HB : Hid (∀ u, Ext (wz.alloc (.cells #[.slice (some ⟨x2.g, 0, none⟩) n x2.k, .slice (some ⟨x2.r, 0, none⟩) n x2.q, .int .i64 (T2 : Int), .int .i64 (lo2 : Int), .int .i64 (hi2 : Int)] 30)) u → u.cell? ⟨wz.heap.size, 0, none⟩ = some (.slice (some ⟨x2.g, 0, none⟩) n x2.k) ∧ u.cell? ⟨wz.heap.size, 1, none⟩ = some (.slice (some ⟨x2.r, 0, none⟩) n x2.q) ∧ u.cell? ⟨wz.heap.size, 2, none⟩ = some (.int .i64 (T2 : Int)) ∧ u.cell? ⟨wz.heap.size, 3, none⟩ = some (.int .i64 (lo2 : Int)) ∧ u.cell? ⟨wz.heap.size, 4, none⟩ = some (.int .i64 (hi2 : Int))) := fun u hu => by
        have h := hu.block (World.alloc_heap_new wz (.cells #[.slice (some ⟨x2.g, 0, none⟩) n x2.k, .slice (some ⟨x2.r, 0, none⟩) n x2.q, .int .i64 (T2 : Int), .int .i64 (lo2 : Int), .int .i64 (hi2 : Int)] 30))
        exact ⟨(cell_at h 0).trans rfl, (cell_at h 1).trans rfl, (cell_at h 2).trans rfl, (cell_at h 3).trans rfl, (cell_at h 4).trans rfl⟩
      clear s10 s11 s12 s13 s14
      generalize wz.alloc (.cells #[.slice (some ⟨x2.g, 0, none⟩) n x2.k, .slice (some ⟨x2.r, 0, none⟩) n x2.q, .int .i64 (T2 : Int), .int .i64 (lo2 : Int), .int .i64 (hi2 : Int)] 30) = wa at *
      generalize wz.heap.size = xb' at *
      obtain ⟨m0, m1, m2, m3, m4⟩ := HB.out wa (Ext.refl _)
      go_wp2_with fail
      refine (HFe.out _ HXa.out).mono ?_
      rintro e wb ⟨ma, mc, rfl, hmo, hxb⟩
      have HXb : Hid (Ext wa wb) := hxb
      have hms : IsSl 1 num wb ⟨ma, mc, Lk⟩ := own_sl (c := mc) (base := wa.heap.size) (e := 3) (by rw [HLk.out]; exact hmo) (by rw [HLk.out]; exact HK9.out)
      have HMs := Lib.hid hms
      clear hms
      clear hxb hmo HFe m0 m1 m2 m3 m4
      obtain ⟨m0, m1, m2, m3, m4⟩ := HB.out wb HXb.out
      go_wp2_with fail
      refine (HTa.out _ (HXa.out.trans HXb.out)).mono ?_
      rintro e wc ⟨rfl, hxc⟩
      have HXc : Hid (Ext wa wc) := HXb.out.trans hxc
      have heq := equal_any ⟨la, lc, Lk⟩ ⟨ma, mc, Lk⟩ wc (HLs.out.ext (HZ.out.trans (HXa.out.trans HXc.out))) (HMs.out.ext hxc)
      dsimp only at heq
      rw [HLk.out, decide_eq_true rfl] at heq
      have HEq := Lib.hid heq
      have hlln : ln = lk := by have := HLl.out; have := HLk.out; omega
      subst hlln
      clear heq HMs
      clear hxc HTa m0 m1 m2 m3 m4 HXb
      go_wp2_with fail
      refine HEq.out.mono ?_
      rintro e wd ⟨rfl, md, rfl⟩
      have HXd : Hid (Ext wa (wc.drewN md)) := HXc.out.drewN md
      clear HEq
      generalize wc.drewN md = we at *
      have HXe := HXd
      obtain ⟨t0, t1, t2, t3, t4⟩ := HF.out.ext ((HWz.out.trans HXa.out).trans HXe.out)
      go_wp2_with fail
      refine (HSp.out _ ((HWz.out.trans HXa.out).trans HXe.out)).mono ?_
      rintro e wf ⟨rfl, hxf⟩
      have HXf : Hid (Ext wa wf) := HXe.out.trans hxf
      clear hxf t0 t1 t2 t3 t4
      obtain ⟨m0, m1, m2, m3, m4⟩ := HB.out wf HXf.out
      go_wp2_with fail
      refine (HSe.out _ (HXa.out.trans HXf.out)).mono ?_
      rintro e wg ⟨rfl, hxg⟩
      have HXg : Hid (Ext W5 wg) := ((HZ.out.trans HXa.out).trans HXf.out).trans hxg
      clear hxg m0 m1 m2 m3 m4 HSe HB
      rcases hcase with rfl | ⟨rfl, rfl⟩
      · go_wp2_with fail
        refine ⟨InvH3.of 3 ?_ (by omega) HXg, ?_⟩
        · rfl
        · simp [intOf, frH30]
      · go_wp2_with fail
        refine ⟨InvH3.of 3 ?_ (by omega) HXg, ?_⟩
        · rfl
        · simp [intOf, frH30]
  · obtain rfl : k = 3 := by omega
    have di : decide ((3 : Int) < 3) = false := by decide
    have HXe : Hid (Ext w wz) := (HX.out.trans HX5.out).trans HZ.out
    go_wp2_with (go_at_call 19; refine (awake_ok _).mono ?_; rintro e w7 ⟨rfl, hx7⟩; have HX7 : Hid (Ext w w7) := HXe.out.trans hx7; clear hx7)
    go_ret
    exact ⟨rfl, HX7.out⟩
/-- The same, from slots as they lie. -/
theorem taller_tail28' (t : Array Value) (pb n i j z : Nat) (v : PV) (x0 x1 x2 : N3) (s0 : Nat) (A0 A1 A2 : List Nat) (G0 G1 G2 : List (Nat × Nat)) (T0 T1 T2 lo0 lo1 lo2 hi0 hi1 hi2 : Nat) (w W : World) (ht : t = frH28 pb i j z x0.B x1.B x2.B (fun j => t.getD j undef)) (HN : Hid (v.at'.l.length = n)) (HP : Hid (IsP W v)) (HF : Hid (Five W pb v)) (HOk : Hid (OkP v.p)) (Hz : Hid (tallF true v.p i j = z ∧ z ≤ 2000)) (H3 : Hid (T3 W s0 n x0 x1 x2 A0 A1 A2 G0 G1 G2 T0 T1 T2 lo0 lo1 lo2 hi0 hi1 hi2))
    (HQ0 : Hid (Finer v.p (x0.pv A0 G0 T0 lo0 hi0).p i j false false)) (HQ1 : Hid (Finer v.p (x1.pv A1 G1 T1 lo1 hi1).p i j true false)) (HQ2 : Hid (Finer v.p (x2.pv A2 G2 T2 lo2 hi2).p i j true true)) (hi : i < n) (hj : j < n) (hij : i ≠ j) (hn40 : n ≤ 40) (HX : Hid (Ext w W)) :
    Code.wp Try.prog tail5_28 (bodyPost Try.prog Try.f5 fun e w' => e = .returned (.bool true) ∧ Ext w w') ⟨t, []⟩ W := by
  rw [ht]
  exact taller_tail28 _ pb n i j z v x0 x1 x2 s0 A0 A1 A2 G0 G1 G2 T0 T1 T2 lo0 lo1 lo2 hi0 hi1 hi2 w W HN HP HF HOk Hz H3 HQ0 HQ1 HQ2 hi hj hij hn40 HX
end Go.Proofs.Ytfognlealnhodaa

namespace Go.Proofs.Ytfognlealnhodaa
open Go.RowKit

noncomputable def tail5_19 : Code := ((Try.f5.body.bind (tailT 19)).getD .skip)
/-- Spans that are narrower, each within its own. -/
def NarL (G L : List (Nat × Nat)) : Prop := L.length = G.length ∧ ∀ q, q < G.length → (G[q]?.getD (0, 0)).1 ≤ (L[q]?.getD (0, 0)).1 ∧ (L[q]?.getD (0, 0)).1 ≤ (L[q]?.getD (0, 0)).2 ∧ (L[q]?.getD (0, 0)).2 ≤ (G[q]?.getD (0, 0)).2
theorem getD_mem {G : List (Nat × Nat)} {q : Nat} (h : q < G.length) : G[q]?.getD (0, 0) ∈ G := by
  rw [List.getElem?_eq_getElem h]; exact List.getElem_mem h
theorem NarL.start {G : List (Nat × Nat)} (h : ∀ s ∈ G, s.1 ≤ s.2) : NarL G G := ⟨rfl, fun _ hq => ⟨Nat.le_refl _, h _ (getD_mem hq), Nat.le_refl _⟩⟩
theorem NarL.set {G L : List (Nat × Nat)} (h : NarL G L) (k : Nat) (s z : Nat × Nat) (hs : G[k]?.getD (0, 0) = s) (h1 : s.1 ≤ z.1) (h2 : z.1 ≤ z.2) (h3 : z.2 ≤ s.2) : NarL G (L.set k z) := by
  refine ⟨by rw [List.length_set]; exact h.1, fun q hq => ?_⟩
  have hl := h.1
  by_cases e : k = q
  · subst e
    rw [hs, List.getElem?_set_self (by omega)]
    exact ⟨h1, h2, h3⟩
  · rw [List.getElem?_set_ne e]
    exact h.2 q hq
/-- Spans that are raised, up to a place. -/
def RaL (G : List (Nat × Nat)) (u k : Nat) : List (Nat × Nat) := (List.range G.length).map fun q => if q < k then ((G[q]?.getD (0, 0)).1 + u, (G[q]?.getD (0, 0)).2 + u) else G[q]?.getD (0, 0)
section
variable {G : List (Nat × Nat)} {u k : Nat}
theorem RaL_zero : RaL G u 0 = G := by
  apply List.ext_getElem
  · simp [RaL]
  · intro q h1 h2
    simp [RaL, h2]
theorem RaL_set (s : Nat × Nat) (hs : G[k]?.getD (0, 0) = s) : (RaL G u k).set k (s.1 + u, s.2 + u) = RaL G u (k + 1) := by
  subst hs
  apply List.ext_getElem
  · simp [RaL]
  · intro q h1 h2
    rw [List.getElem_set]
    simp only [RaL, List.getElem_map, List.getElem_range]
    by_cases e : k = q
    · subst e
      rw [if_pos rfl, if_pos (by omega)]
    · rw [if_neg e]
      by_cases h : q < k
      · rw [if_pos h, if_pos (by omega)]
      · rw [if_neg h, if_neg (by omega)]
theorem RaL_end {n : Nat} (h : G.length = n) : RaL G u n = G.map fun s => (s.1 + u, s.2 + u) := by
  apply List.ext_getElem
  · simp [RaL]
  · intro q h1 h2
    rw [List.length_map] at h2
    simp only [RaL, List.getElem_map, List.getElem_range]
    rw [if_pos (by omega), List.getElem?_eq_getElem h2]
    rfl
end
theorem btw_keep (D2 n1 c1 : Nat) (a1 : Option Addr) (wq : World) (u : World) (K x y : Nat) (hd : IsDeck u D2 a1 n1 c1 K) (hk : Keep (fun b => b ≠ D2) wq u) (h1 : K ≤ 1000000) (h2 : x ≤ y) (h3 : y ≤ 1000) :
    Calls Try.prog 25 #[.pointer (some ⟨D2, 0, none⟩), .int .i64 (x : Int), .int .i64 (y : Int)] u fun e w' => ∃ r K' : Nat, e = .returned (.int .i64 (r : Int)) ∧ (x ≤ r ∧ r ≤ y) ∧ K' ≤ K + 1 ∧ IsDeck w' D2 a1 n1 c1 K' ∧ Keep (fun b => b ≠ D2) wq w' := by
  refine (dbetween_any D2 a1 n1 c1 K (x : Int) (y : Int) u hd h1 (by omega) (by omega) (by omega)).mono ?_
  rintro e w' ⟨r, K', q1, q2, q3, rfl, q4, q5⟩
  obtain ⟨r', rfl⟩ : ∃ r' : Nat, r = (r' : Int) := ⟨r.toNat, by omega⟩
  exact ⟨r', K', rfl, ⟨by omega, by omega⟩, q3, q4, hk.grown q5 (fun k e _ => by cases e; exact fun h => h rfl)⟩
theorem span_keep (D2 n1 c1 : Nat) (a1 : Option Addr) (wq : World) (u : World) (K : Nat) (x y : Int) (hd : IsDeck u D2 a1 n1 c1 K) (hk : Keep (fun b => b ≠ D2) wq u) :
    Calls Try.prog 24 #[.int .i64 x, .int .i64 y] u fun e w' => e = .returned (.agg #[.int .i64 x, .int .i64 y]) ∧ IsDeck w' D2 a1 n1 c1 K ∧ Keep (fun b => b ≠ D2) wq w' := by
  refine (span_any x y u).mono ?_
  rintro e w' ⟨rfl, rfl⟩
  exact ⟨rfl, hd.ext ((Ext.refl u).alloc _), hk.alloc _⟩
theorem IsDeck.set {w : World} {D n c K : Nat} {a : Option Addr} (h : IsDeck w D a n c K) (p : Addr) (x : Value) (hp : D ≠ p.block) (hb : ∀ b off, a = some ⟨b, off, none⟩ → 0 < n → b ≠ p.block) : IsDeck (w.setCell p x) D a n c K :=
  h.keepD (E := fun b => b ≠ p.block) ((Keep.refl _ w).setCell p x (fun _ hh => hh rfl)) hp hb
def frH19 (pb D2 tb tq tc n i j z b0 b1 b2 : Nat) (xm : Int) (X : Nat → Value) : Array Value := #[X 0, X 1, X 2, X 3, .int .i64 xm, X 5, X 6, X 7, X 8, X 9, X 10, X 11, .pointer (some ⟨D2, 0, none⟩), .pointer (some ⟨pb, 0, none⟩), .slice (some ⟨tb, tq, none⟩) n tc, .int .i64 (i : Int), .int .i64 (j : Int), .int .i64 (z : Int), X 18, X 19, X 20, X 21, X 22, X 23, X 24, .pointer (some ⟨b0, 0, none⟩), .pointer (some ⟨b1, 0, none⟩), .pointer (some ⟨b2, 0, none⟩), X 28, X 29, X 30, X 31, X 32, X 33, X 34, X 35, X 36, X 37, X 38, X 39, X 40, X 41, X 42, X 43, X 44, X 45, X 46, X 47, X 48, X 49, X 50, X 51, X 52, X 53, X 54, X 55, X 56, X 57, X 58, X 59, X 60, X 61, X 62, X 63, X 64, X 65, X 66, X 67, X 68, X 69, X 70, X 71, X 72, X 73, X 74, X 75, X 76, X 77, X 78, X 79, X 80, X 81, X 82, X 83, X 84, X 85, X 86, X 87, X 88, X 89, X 90, X 91, X 92, X 93, X 94, X 95, X 96, X 97, X 98, X 99, X 100, X 101, X 102, X 103, X 104, X 105, X 106, X 107, X 108, X 109, X 110, X 111, X 112, X 113, X 114, X 115, X 116, X 117, X 118, X 119, X 120, X 121, X 122, X 123, X 124, X 125, X 126, X 127, X 128, X 129, X 130, X 131, X 132, X 133, X 134, X 135, X 136, X 137, X 138, X 139, X 140, X 141, X 142, X 143, X 144, X 145, X 146, X 147, X 148, X 149, X 150, X 151, X 152, X 153, X 154, X 155, X 156, X 157, X 158, X 159, X 160, X 161, X 162, X 163, X 164, X 165, X 166, X 167, X 168, X 169, X 170, X 171, X 172, X 173, X 174, X 175, X 176, X 177, X 178, X 179, X 180, X 181, X 182, X 183, X 184, X 185, X 186, X 187, X 188, X 189, X 190, X 191, X 192, X 193, X 194, X 195, X 196, X 197, X 198, X 199, X 200, X 201, X 202, X 203, X 204, X 205, X 206, X 207, X 208, X 209, X 210, X 211, X 212, X 213, X 214, X 215, X 216, X 217, X 218, X 219, X 220, X 221, X 222, X 223, X 224, X 225, X 226, X 227, X 228, X 229, X 230, X 231, X 232, X 233, X 234, X 235, X 236, X 237, X 238, X 239, X 240, X 241, X 242, X 243, X 244, X 245, X 246, X 247, X 248, X 249, X 250, X 251, X 252, X 253, X 254, X 255, X 256, X 257, X 258, X 259, X 260, X 261, X 262, X 263, X 264, X 265, X 266, X 267, X 268, X 269, X 270, X 271, X 272, X 273, X 274, X 275, X 276, X 277, X 278, X 279, X 280, X 281, X 282, X 283]
def frH22 (pb D2 tb tq tc n i j z b0 b1 b2 u rb ro rc k : Nat) (X : Nat → Value) : Array Value := #[X 0, X 1, X 2, X 3, X 4, X 5, X 6, X 7, X 8, X 9, X 10, X 11, .pointer (some ⟨D2, 0, none⟩), .pointer (some ⟨pb, 0, none⟩), .slice (some ⟨tb, tq, none⟩) n tc, .int .i64 (i : Int), .int .i64 (j : Int), .int .i64 (z : Int), X 18, X 19, X 20, X 21, X 22, X 23, X 24, .pointer (some ⟨b0, 0, none⟩), .pointer (some ⟨b1, 0, none⟩), .pointer (some ⟨b2, 0, none⟩), .int .i64 (u : Int), X 29, X 30, X 31, X 32, X 33, X 34, X 35, X 36, X 37, X 38, X 39, X 40, X 41, X 42, X 43, X 44, X 45, X 46, X 47, X 48, X 49, X 50, X 51, X 52, X 53, X 54, X 55, X 56, X 57, X 58, X 59, X 60, X 61, X 62, X 63, X 64, X 65, X 66, X 67, X 68, X 69, X 70, X 71, X 72, X 73, X 74, X 75, X 76, X 77, X 78, X 79, X 80, X 81, X 82, X 83, X 84, X 85, X 86, X 87, X 88, X 89, X 90, X 91, X 92, X 93, X 94, X 95, X 96, X 97, X 98, X 99, X 100, X 101, X 102, X 103, X 104, X 105, X 106, X 107, X 108, X 109, X 110, X 111, X 112, X 113, X 114, X 115, X 116, X 117, X 118, X 119, X 120, X 121, X 122, X 123, X 124, X 125, X 126, X 127, .slice (some ⟨rb, ro, none⟩) n rc, .int .i64 (n : Int), .int .i64 (k : Int), X 131, X 132, X 133, X 134, X 135, X 136, X 137, X 138, X 139, X 140, X 141, X 142, X 143, X 144, X 145, X 146, X 147, X 148, X 149, X 150, X 151, X 152, X 153, X 154, X 155, X 156, X 157, X 158, X 159, X 160, X 161, X 162, X 163, X 164, X 165, X 166, X 167, X 168, X 169, X 170, X 171, X 172, X 173, X 174, X 175, X 176, X 177, X 178, X 179, X 180, X 181, X 182, X 183, X 184, X 185, X 186, X 187, X 188, X 189, X 190, X 191, X 192, X 193, X 194, X 195, X 196, X 197, X 198, X 199, X 200, X 201, X 202, X 203, X 204, X 205, X 206, X 207, X 208, X 209, X 210, X 211, X 212, X 213, X 214, X 215, X 216, X 217, X 218, X 219, X 220, X 221, X 222, X 223, X 224, X 225, X 226, X 227, X 228, X 229, X 230, X 231, X 232, X 233, X 234, X 235, X 236, X 237, X 238, X 239, X 240, X 241, X 242, X 243, X 244, X 245, X 246, X 247, X 248, X 249, X 250, X 251, X 252, X 253, X 254, X 255, X 256, X 257, X 258, X 259, X 260, X 261, X 262, X 263, X 264, X 265, X 266, X 267, X 268, X 269, X 270, X 271, X 272, X 273, X 274, X 275, X 276, X 277, X 278, X 279, X 280, X 281, X 282, X 283]

def InvH2 (pb D2 tb tq tc n i j z u rb ro rc : Nat) (a1 : Option Addr) (n1 c1 : Nat) (v : PV) (x0 x1 x2 : N3) (V0 : World) (ac : Act) (wr : World) : Prop :=
  ∃ (X : Nat → Value) (k K : Nat) (L : List (Nat × Nat)), ac = { tmps := frH22 pb D2 tb tq tc n i j z x0.B x1.B x2.B u rb ro rc k X, defers := [] } ∧ k ≤ n ∧ K ≤ 100 + 2 * k ∧ Hid (IsDeck wr D2 a1 n1 c1 K) ∧ Hid (Keep (fun b => b ≠ D2) V0 wr) ∧ Hid (NarL v.gr.l L) ∧ Hid (T3 wr V0.heap.size n x0 x1 x2 v.at'.l v.at'.l v.at'.l L v.gr.l (RaL v.gr.l u k) v.T (v.T + u) v.T v.lo v.lo v.lo v.hi v.hi v.hi)
theorem InvH2.of {pb D2 tb tq tc n i j z u rb ro rc : Nat} {a1 : Option Addr} {n1 c1 : Nat} {v : PV} {x0 x1 x2 : N3} {V0 : World} {t : Array Value} {wr : World} (k K : Nat) (L : List (Nat × Nat)) (ht : t = frH22 pb D2 tb tq tc n i j z x0.B x1.B x2.B u rb ro rc k (fun j => t.getD j undef)) (h1 : k ≤ n) (h2 : K ≤ 100 + 2 * k) (h3 : Hid (IsDeck wr D2 a1 n1 c1 K)) (h4 : Hid (Keep (fun b => b ≠ D2) V0 wr)) (h5 : Hid (NarL v.gr.l L))
    (h6 : Hid (T3 wr V0.heap.size n x0 x1 x2 v.at'.l v.at'.l v.at'.l L v.gr.l (RaL v.gr.l u k) v.T (v.T + u) v.T v.lo v.lo v.lo v.hi v.hi v.hi)) :
    InvH2 pb D2 tb tq tc n i j z u rb ro rc a1 n1 c1 v x0 x1 x2 V0 { tmps := t, defers := [] } wr := ⟨_, k, K, L, by rw [← ht], h1, h2, h3, h4, h5, h6⟩

set_option maxRecDepth 1000000 in
set_option maxHeartbeats 16000000 in
theorem taller_tail19 (X : Nat → Value) (pb D2 tb tq tc n i j z : Nat) (xm : Int) (tl : List Nat) (a1 : Option Addr) (n1 c1 K0 : Nat) (v : PV) (x0 x1 x2 : N3) (w V0 W : World) (HN : Hid (v.at'.l.length = n)) (HG : Hid (v.gr.l.length = n)) (HSX : Hid (SX V0 D2 pb a1 n1 c1 v)) (HDk : Hid (IsDeck V0 D2 a1 n1 c1 K0 ∧ K0 ≤ 100)) (HTc : Hid (∀ u, Keep (fun b => b ≠ D2) V0 u → ∀ q, q < n → u.cell? ⟨tb, tq + q, none⟩ = some (.int .i64 ((tl[q]?.getD 0 : Nat) : Int)))) (HTb0 : Hid (tb ≠ D2 ∧ tb < V0.heap.size)) (HTr : Hid (∀ q, q < n → inB (tl[q]?.getD 0) (v.gr.l[q]?.getD (0, 0)) = true)) (HGb : Hid (∀ s ∈ v.gr.l, s.1 ≤ s.2 ∧ s.2 ≤ 100)) (HHi : Hid (v.lo ≤ v.hi ∧ v.hi ≤ 400 ∧ v.T ≤ 30)) (HE : Hid (Ext V0 W)) (Hz : Hid (tallF true v.p i j = z ∧ z ≤ 2000))
    (H3 : Hid (T3 W V0.heap.size n x0 x1 x2 v.at'.l v.at'.l v.at'.l v.gr.l v.gr.l v.gr.l v.T v.T v.T v.lo v.lo v.lo v.hi v.hi v.hi)) (hi : i < n) (hj : j < n) (hij : i ≠ j) (hn40 : n ≤ 40) (HX : Hid (Ext w V0)) (HD0 : Hid (w.heap.size ≤ D2)) :
    Code.wp Try.prog tail5_19 (bodyPost Try.prog Try.f5 fun e w' => e = .returned (.bool true) ∧ Ext w w') ⟨frH19 pb D2 tb tq tc n i j z x0.B x1.B x2.B xm X, []⟩ W := by
  conv => arg 2; whnf
  conv => arg 4; dsimp only [frH19]
  obtain ⟨rb, ro, hra, hrc⟩ := HSX.out.prof.gr.2.2.resolve_left (by rw [HG.out]; omega)
  have HRb : Hid (rb ≠ D2) := (HSX.out.apart rb ro).2 hra
  have HRc : Hid (∀ u, Keep (fun b => b ≠ D2) V0 u → ∀ q, q < n → u.cell? ⟨rb, ro + q * 2, none⟩ = some (.int .i64 (((v.gr.l[q]?.getD (0, 0)).1 : Nat) : Int)) ∧ u.cell? ⟨rb, ro + q * 2 + 1, none⟩ = some (.int .i64 (((v.gr.l[q]?.getD (0, 0)).2 : Nat) : Int))) := fun u hu q hq => by
    have h0 := hu.cell (hrc q (by rw [HG.out]; exact hq) 0 (by omega)) HRb.out
    have h1 := hu.cell (hrc q (by rw [HG.out]; exact hq) 1 (by omega)) HRb.out
    rw [List.getElem?_eq_getElem (by rw [HG.out]; exact hq)]
    exact ⟨by simpa [spC] using h0, by simpa [spC] using h1⟩
  have HFv : Hid (∀ u, Keep (fun b => b ≠ D2) V0 u → u.cell? ⟨pb, 1, none⟩ = some (.slice (some ⟨rb, ro, none⟩) n v.gr.c) ∧ u.cell? ⟨pb, 3, none⟩ = some (.int .i64 (v.lo : Int)) ∧ u.cell? ⟨pb, 4, none⟩ = some (.int .i64 (v.hi : Int))) := fun u hu => by
    obtain ⟨e0, e1, e2, e3, e4⟩ := (HSX.out.at hu).2
    rw [hra, HG.out] at e1
    exact ⟨e1, e3, e4⟩
  have HDl : Hid (D2 < V0.heap.size) := HSX.out.deck
  obtain ⟨u, hu⟩ : ∃ u, foldN xm 1000 = u := ⟨_, rfl⟩
  have HFo : Hid (∀ w1, Calls Try.prog 20 #[.int .i64 xm, .int .i64 1000] w1 fun e w' => e = .returned (.int .i64 (u : Int)) ∧ w1 = w') := fun w1 => by rw [← hu]; exact fold_q xm 1000 w1 (by omega) (by omega)
  have hu9 : u < 1000 := by rw [← hu]; exact (foldN_spec xm 1000 (by omega)).1
  clear hu hrc hra
  go_wp2_with fail
  refine (HFo.out _).mono ?_
  rintro e w' ⟨rfl, rfl⟩
  clear HFo
  have hT30 := HHi.out.2.2
  have w1 : IntKind.i64.wrap ((v.T : Int) + (u : Int)) = ((v.T + u : Nat) : Int) := by rw [IntWalk.i64_in _ (by omega)]; omega
  obtain ⟨-, -, b2, -, -⟩ := H3.out.c1.box_at
  have f2 : W.frozen? ⟨x1.B, 2, none⟩ = false := by simp [World.frozen?, H3.out.c1.box]
  have H31 := Lib.hid (H3.out.setT1 (v.T + u))
  have HK1 : Hid (Keep (fun b => b ≠ D2) V0 (W.setCell ⟨x1.B, 2, none⟩ (.int .i64 ((v.T + u : Nat) : Int)))) := (Keep.of_ext HE.out).setCell _ _ (fun h => absurd h (Nat.not_lt.2 H3.out.c1.low.2.2))
  have HD1 : Hid (IsDeck (W.setCell ⟨x1.B, 2, none⟩ (.int .i64 ((v.T + u : Nat) : Int))) D2 a1 n1 c1 K0) := (HDk.out.1.ext HE.out).set _ _ (by have := H3.out.c1.low; have := HDl.out; show D2 ≠ x1.B; omega) (fun b off ha h0 => by have := HSX.out.byt b off ha h0; have := H3.out.c1.low; show b ≠ x1.B; omega)
  have hk0 := HDk.out.2
  rw [Int.natCast_add] at H31 HK1 HD1
  obtain ⟨t1, t3, t4⟩ := HFv.out _ HK1.out
  clear hT30
  go_wp2_with fail
  refine wp_loop (InvH2 pb D2 tb tq tc n i j z u rb ro v.gr.c a1 n1 c1 v x0 x1 x2 V0) (fun a _ => n - (intOf (a.tmps.getD 130 undef)).toNat) (InvH2.of 0 K0 v.gr.l rfl (Nat.zero_le _) (by omega) HD1 HK1 (NarL.start fun s hs => (HGb.out s hs).1) (by show T3 _ _ _ _ _ _ _ _ _ _ _ _ _ _ _ _ _ _ _ _ _; rw [RaL_zero]; exact H31.out)) ?_
  clear t1 t3 t4 HK1 HD1 H31 b2 f2 w1 HDk hk0 H3 HE
  rintro ac wr ⟨X1, k, K, L, rfl, hk, hK, HDk, HK, HNar, H3⟩
  conv => arg 4; dsimp only [frH22]
  by_cases hlt : k < n
  · have dk : decide ((k : Int) < (n : Int)) = true := decide_eq_true (by omega)
    have hwk : IntKind.i64.wrap ((k : Int) + 1) = ((k + 1 : Nat) : Int) := by rw [IntWalk.i64_in _ (by omega)]; omega
    obtain ⟨ck0, ck1⟩ := HRc.out wr HK.out k hlt
    have ct := HTc.out wr HK.out k hlt
    have hin := HTr.out k hlt
    have hsb := HGb.out _ (getD_mem (show k < v.gr.l.length by rw [HG.out]; exact hlt))
    obtain ⟨s, hs⟩ : ∃ s, v.gr.l[k]?.getD (0, 0) = s := ⟨_, rfl⟩
    have HSg := Lib.hid hs
    rw [hs] at ck0 ck1 hin hsb
    obtain ⟨lo, hi'⟩ := s
    obtain ⟨x, hx⟩ : ∃ x, tl[k]?.getD 0 = x := ⟨_, rfl⟩
    rw [hx] at ct hin
    simp only [inB, Bool.and_eq_true, decide_eq_true_eq] at hin
    dsimp only at ck0 ck1 hsb
    obtain ⟨hin1, hin2⟩ := hin
    obtain ⟨hsb1, hsb2⟩ := hsb
    clear hs hx
    have i0 : (0 : Int) ≤ (k : Int) := by omega
    have i1 : (k : Int) < (n : Int) := by omega
    go_upto_region 24 with (fail)
    have hsz : D2 < wr.heap.size := Nat.lt_of_lt_of_le HDl.out HK.out.size
    have HHx := (Ext.refl wr).alloc (.cells #[.int .i64 (lo : Int), .int .i64 (hi' : Int)] 28)
    have hnw := World.alloc_heap_new wr (.cells #[.int .i64 (lo : Int), .int .i64 (hi' : Int)] 28)
    have hq0 := (cell_at hnw 0).trans rfl
    have hq1 := (cell_at hnw 1).trans rfl
    have HSbn : Hid (wr.heap.size ≠ D2) := by show _ ≠ _; omega
    have HSbx : Hid (wr.heap.size ≠ x0.r ∧ wr.heap.size ≠ x2.r) := by
      obtain ⟨c4, e4⟩ := H3.out.c0.sp.heap
      obtain ⟨c5, e5⟩ := H3.out.c2.sp.heap
      have q1 := (Array.getElem?_eq_some_iff.1 e4).1
      have q2 := (Array.getElem?_eq_some_iff.1 e5).1
      show _ ∧ _
      omega
    have HDk1 := Lib.hid (HDk.out.ext HHx)
    have HK1 := Lib.hid (HK.out.ext HHx)
    have H31 := Lib.hid (H3.out.ext HHx)
    have ct1 := HHx.cell ct
    have HSq : Hid ((wr.alloc (.cells #[.int .i64 (lo : Int), .int .i64 (hi' : Int)] 28)).cell? ⟨wr.heap.size, 0, none⟩ = some (.int .i64 (lo : Int)) ∧ (wr.alloc (.cells #[.int .i64 (lo : Int), .int .i64 (hi' : Int)] 28)).cell? ⟨wr.heap.size, 1, none⟩ = some (.int .i64 (hi' : Int)) ∧ (wr.alloc (.cells #[.int .i64 (lo : Int), .int .i64 (hi' : Int)] 28)).cell? ⟨tb, tq + k, none⟩ = some (.int .i64 (x : Int))) := ⟨hq0, hq1, ct1⟩
    clear HHx hnw hq0 hq1 ct1 ct ck0 ck1 HDk HK H3 hsz
    generalize wr.alloc (.cells #[.int .i64 (lo : Int), .int .i64 (hi' : Int)] 28) = wq at *
    generalize wr.heap.size = sb at *
    have HTb : Hid (tb ≠ D2 ∧ tb < V0.heap.size) := HTb0
    have hdk := HDk1.out
    have hkq : Keep (fun b => b ≠ D2) wq wq := Keep.refl _ _
    have HB := Lib.hid (btw_keep D2 n1 c1 a1 wq)
    have HSp := Lib.hid (span_keep D2 n1 c1 a1 wq)
    have HKM : Hid (∀ u, Keep (fun b => b ≠ D2) wq u → Keep (fun b => b ≠ D2 ∧ b ≠ x0.r) wq u) := fun u hu => hu.mono fun _ _ h => h.1
    have HS : Hid (∀ u, Keep (fun b => b ≠ D2 ∧ b ≠ x0.r) wq u → u.cell? ⟨x0.B, 1, none⟩ = some (.slice (some ⟨x0.r, 0, none⟩) n x0.q) ∧ u.cell? ⟨sb, 0, none⟩ = some (.int .i64 (lo : Int)) ∧ u.cell? ⟨sb, 1, none⟩ = some (.int .i64 (hi' : Int)) ∧ u.cell? ⟨tb, tq + k, none⟩ = some (.int .i64 (x : Int))) := fun u hu => by
      have a0 := H31.out.c0.low
      have a1 := HDl.out
      have a2 := HTb.out
      obtain ⟨q1, q2, q3, q4, q5, q6⟩ := H31.out.c0.gr H31.out.c0
      exact ⟨hu.cell H31.out.c0.box_at.2.1 ⟨by show x0.B ≠ D2; omega, q6⟩, hu.cell HSq.out.1 ⟨HSbn.out, HSbx.out.1⟩, hu.cell HSq.out.2.1 ⟨HSbn.out, HSbx.out.1⟩, hu.cell HSq.out.2.2 ⟨a2.1, by show tb ≠ x0.r; omega⟩⟩
    have HY : Hid (∀ u, Keep (fun b => b ≠ D2) wq u → ∃ y0 y1, u.cell? ⟨x0.r, k * 2, none⟩ = some y0 ∧ u.cell? ⟨x0.r, k * 2 + 1, none⟩ = some y1 ∧ u.frozen? ⟨x0.r, k * 2, none⟩ = false ∧ u.frozen? ⟨x0.r, k * 2 + 1, none⟩ = false) := fun u hu => by
      have a0 := H31.out.c0.low
      have a1 := HDl.out
      have h := H31.out.c0.sp.keep hu (show x0.r ≠ D2 by omega)
      have hl : k < L.length := by rw [H31.out.c0.lg]; exact hlt
      exact ⟨_, _, h.cell k hl 0 (by omega), h.cell k hl 1 (by omega), h.frozen _, h.frozen _⟩
    obtain ⟨s1, s2, s3, s4⟩ := HS.out wq (Keep.refl _ _)
    go_region_held3 (fun u => u.cell? ⟨x0.B, 1, none⟩ = some (.slice (some ⟨x0.r, 0, none⟩) n x0.q) ∧ u.cell? ⟨sb, 0, none⟩ = some (.int .i64 (lo : Int)) ∧ u.cell? ⟨sb, 1, none⟩ = some (.int .i64 (hi' : Int)) ∧ u.cell? ⟨tb, tq + k, none⟩ = some (.int .i64 (x : Int)))
      ((refine HS.out _ ?_; (repeat (first | assumption | exact Keep.refl _ _ | refine Keep.drew ?_ | refine Keep.setCell ?_ _ _ (fun _ h => h.2 rfl)))))
      (first
        | (go_at_call 25; refine (HB.out _ K1 _ _ ?_ ?_ ?_ ?_ ?_).mono ?_; (first | assumption | (refine IsDeck.ext ?_ (Ext.refl _).drew; assumption)); (first | assumption | (refine Keep.drew ?_; assumption)); omega; omega; omega; rintro e wd ⟨r2, K2, rfl, hr2, hK2, hd2, hk2⟩; have hm2 := HKM.out _ hk2)
        | (go_at_call 25; refine (HB.out _ K _ _ ?_ ?_ ?_ ?_ ?_).mono ?_; (first | assumption | (refine IsDeck.ext ?_ (Ext.refl _).drew; assumption)); (first | assumption | (refine Keep.drew ?_; assumption)); omega; omega; omega; rintro e wc ⟨r1, K1, rfl, hr1, hK1, hd1, hk1⟩; have hm1 := HKM.out _ hk1)
        | (go_at_call 24; refine (HSp.out _ K2 _ _ ?_ ?_).mono ?_; (first | assumption | (refine IsDeck.ext ?_ (Ext.refl _).drew; assumption)); (first | assumption | (refine Keep.drew ?_; assumption)); rintro e we ⟨rfl, hd3, hk3⟩; have hm3 := HKM.out _ hk3; obtain ⟨y0, y1, g0, g1, g2, g3⟩ := HY.out _ hk3))
    have a0 := H31.out.c0.low
    have a2 := H31.out.c2.low
    have a1' := HDl.out
    have hbyt := HSX.out.byt
    have HNar2 : Hid (NarL v.gr.l (L.set k (r1, r2))) := HNar.out.set k (lo, hi') (r1, r2) HSg.out hr1.1 (by show r1 ≤ r2; omega) hr2.2
    have HA3 := Lib.hid ((H31.out.keepD hk3 a1').setG0 k (r1, r2) hlt)
    have HKA : Hid (Keep (fun b => b ≠ D2) V0 ((we.setCell ⟨x0.r, k * 2, none⟩ (.int .i64 (r1 : Int))).setCell ⟨x0.r, k * 2 + 1, none⟩ (.int .i64 (r2 : Int)))) := ((HK1.out.trans' hk3 (fun _ _ h => h)).setCell _ _ (fun h => absurd h (Nat.not_lt.2 a0.2.1))).setCell _ _ (fun h => absurd h (Nat.not_lt.2 a0.2.1))
    have HDA : Hid (IsDeck ((we.setCell ⟨x0.r, k * 2, none⟩ (.int .i64 (r1 : Int))).setCell ⟨x0.r, k * 2 + 1, none⟩ (.int .i64 (r2 : Int))) D2 a1 n1 c1 K2) := (hd3.set _ _ (by show D2 ≠ x0.r; omega) (fun b off ha h0 => by have := hbyt b off ha h0; show b ≠ x0.r; omega)).set _ _ (by show D2 ≠ x0.r; omega) (fun b off ha h0 => by have := hbyt b off ha h0; show b ≠ x0.r; omega)
    have HKq : Keep (fun b => b ≠ D2 ∧ b ≠ x0.r) wq ((we.setCell ⟨x0.r, k * 2, none⟩ (.int .i64 (r1 : Int))).setCell ⟨x0.r, k * 2 + 1, none⟩ (.int .i64 (r2 : Int))) := (hm3.setCell _ _ (fun _ h => h.2 rfl)).setCell _ _ (fun _ h => h.2 rfl)
    have HSc : Hid (((we.setCell ⟨x0.r, k * 2, none⟩ (.int .i64 (r1 : Int))).setCell ⟨x0.r, k * 2 + 1, none⟩ (.int .i64 (r2 : Int))).cell? ⟨sb, 0, none⟩ = some (.int .i64 (lo : Int)) ∧ ((we.setCell ⟨x0.r, k * 2, none⟩ (.int .i64 (r1 : Int))).setCell ⟨x0.r, k * 2 + 1, none⟩ (.int .i64 (r2 : Int))).cell? ⟨sb, 1, none⟩ = some (.int .i64 (hi' : Int))) := ⟨HKq.cell HSq.out.1 ⟨HSbn.out, HSbx.out.1⟩, HKq.cell HSq.out.2.1 ⟨HSbn.out, HSbx.out.1⟩⟩
    have hK3 : K2 ≤ 100 + 2 * (k + 1) := by omega
    clear HKq hd1 hk1 hm1 hd2 hk2 hm2 hd3 hk3 hm3 g0 g1 g2 g3 s1 s2 s3 s4 hdk hkq HB HSp HKM HS HY HSq HTb HDk1 HK1 H31 HNar hK1 hK2 hK hr1 hr2 hin1 hin2 a0 a2 a1' hbyt
    rename_i hHeld
    clear hHeld
    generalize (we.setCell ⟨x0.r, k * 2, none⟩ (.int .i64 (r1 : Int))).setCell ⟨x0.r, k * 2 + 1, none⟩ (.int .i64 (r2 : Int)) = wA at *
    have HSp := Lib.hid (span_keep D2 n1 c1 a1 wA)
    have HKM : Hid (∀ u, Keep (fun b => b ≠ D2) wA u → Keep (fun b => b ≠ D2 ∧ b ≠ x2.r) wA u) := fun u hu => hu.mono fun _ _ h => h.1
    have HS : Hid (∀ u, Keep (fun b => b ≠ D2 ∧ b ≠ x2.r) wA u → u.cell? ⟨x2.B, 1, none⟩ = some (.slice (some ⟨x2.r, 0, none⟩) n x2.q) ∧ u.cell? ⟨sb, 0, none⟩ = some (.int .i64 (lo : Int)) ∧ u.cell? ⟨sb, 1, none⟩ = some (.int .i64 (hi' : Int))) := fun u hu => by
      have a0 := HA3.out.c2.low
      have a1 := HDl.out
      obtain ⟨q1, q2, q3, q4, q5, q6⟩ := HA3.out.c2.gr HA3.out.c2
      exact ⟨hu.cell HA3.out.c2.box_at.2.1 ⟨by show x2.B ≠ D2; omega, q6⟩, hu.cell HSc.out.1 ⟨HSbn.out, HSbx.out.2⟩, hu.cell HSc.out.2 ⟨HSbn.out, HSbx.out.2⟩⟩
    have HY : Hid (∀ u, Keep (fun b => b ≠ D2) wA u → ∃ y0 y1, u.cell? ⟨x2.r, k * 2, none⟩ = some y0 ∧ u.cell? ⟨x2.r, k * 2 + 1, none⟩ = some y1 ∧ u.frozen? ⟨x2.r, k * 2, none⟩ = false ∧ u.frozen? ⟨x2.r, k * 2 + 1, none⟩ = false) := fun u' hu => by
      have a0 := HA3.out.c2.low
      have a1 := HDl.out
      have h := HA3.out.c2.sp.keep hu (show x2.r ≠ D2 by omega)
      have hl : k < (RaL v.gr.l u k).length := by rw [HA3.out.c2.lg]; exact hlt
      exact ⟨_, _, h.cell k hl 0 (by omega), h.cell k hl 1 (by omega), h.frozen _, h.frozen _⟩
    have hdk := HDA.out
    have hkq : Keep (fun b => b ≠ D2) wA wA := Keep.refl _ _
    have ws1 : IntKind.i64.wrap ((lo : Int) + (u : Int)) = ((lo + u : Nat) : Int) := by rw [IntWalk.i64_in _ (by omega)]; omega
    have ws2 : IntKind.i64.wrap ((hi' : Int) + (u : Int)) = ((hi' + u : Nat) : Int) := by rw [IntWalk.i64_in _ (by omega)]; omega
    obtain ⟨s1, s2, s3⟩ := HS.out wA (Keep.refl _ _)
    go_upto_region 25 with (fail)
    go_region_held3 (fun u => u.cell? ⟨x2.B, 1, none⟩ = some (.slice (some ⟨x2.r, 0, none⟩) n x2.q) ∧ u.cell? ⟨sb, 0, none⟩ = some (.int .i64 (lo : Int)) ∧ u.cell? ⟨sb, 1, none⟩ = some (.int .i64 (hi' : Int)))
      ((refine HS.out _ ?_; (repeat (first | assumption | exact Keep.refl _ _ | refine Keep.drew ?_ | refine Keep.setCell ?_ _ _ (fun _ h => h.2 rfl)))))
      (first
        | (go_at_call 24; refine (HSp.out _ K2 _ _ ?_ ?_).mono ?_; (first | assumption | (refine IsDeck.ext ?_ (Ext.refl _).drew; assumption)); (first | assumption | (refine Keep.drew ?_; assumption)); rintro e wf ⟨rfl, hd3, hk3⟩; have hm3 := HKM.out _ hk3; obtain ⟨y0, y1, g0, g1, g2, g3⟩ := HY.out _ hk3))
    have a0 := HA3.out.c0.low
    have a2 := HA3.out.c2.low
    have a1' := HDl.out
    have hbyt := HSX.out.byt
    have HB3 : Hid (T3 ((wf.setCell ⟨x2.r, k * 2, none⟩ (.int .i64 ((lo : Int) + (u : Int)))).setCell ⟨x2.r, k * 2 + 1, none⟩ (.int .i64 ((hi' : Int) + (u : Int)))) V0.heap.size n x0 x1 x2 v.at'.l v.at'.l v.at'.l (L.set k (r1, r2)) v.gr.l (RaL v.gr.l u (k + 1)) v.T (v.T + u) v.T v.lo v.lo v.lo v.hi v.hi v.hi) := by
      have h := (HA3.out.keepD hk3 a1').setG2 k (lo + u, hi' + u) hlt
      have e := RaL_set (G := v.gr.l) (u := u) (k := k) (lo, hi') HSg.out
      dsimp only at e h
      rw [e, Int.natCast_add, Int.natCast_add] at h
      exact h
    have HKB : Hid (Keep (fun b => b ≠ D2) V0 ((wf.setCell ⟨x2.r, k * 2, none⟩ (.int .i64 ((lo : Int) + (u : Int)))).setCell ⟨x2.r, k * 2 + 1, none⟩ (.int .i64 ((hi' : Int) + (u : Int))))) := ((HKA.out.trans' hk3 (fun _ _ h => h)).setCell _ _ (fun h => absurd h (Nat.not_lt.2 a2.2.1))).setCell _ _ (fun h => absurd h (Nat.not_lt.2 a2.2.1))
    have HDB : Hid (IsDeck ((wf.setCell ⟨x2.r, k * 2, none⟩ (.int .i64 ((lo : Int) + (u : Int)))).setCell ⟨x2.r, k * 2 + 1, none⟩ (.int .i64 ((hi' : Int) + (u : Int)))) D2 a1 n1 c1 K2) := (hd3.set _ _ (by show D2 ≠ x2.r; omega) (fun b off ha h0 => by have := hbyt b off ha h0; show b ≠ x2.r; omega)).set _ _ (by show D2 ≠ x2.r; omega) (fun b off ha h0 => by have := hbyt b off ha h0; show b ≠ x2.r; omega)
    clear hd3 hk3 hm3 g0 g1 g2 g3 s1 s2 s3 hdk hkq HSp HKM HS HY HA3 HKA HDA HSc ws1 ws2 a0 a2 a1' hbyt
    rename_i hHeld
    clear hHeld
    generalize (wf.setCell ⟨x2.r, k * 2, none⟩ (.int .i64 ((lo : Int) + (u : Int)))).setCell ⟨x2.r, k * 2 + 1, none⟩ (.int .i64 ((hi' : Int) + (u : Int))) = wB at *
    go_wp2_with fail
    refine ⟨InvH2.of (k + 1) K2 (L.set k (r1, r2)) ?_ (by omega) hK3 HDB HKB HNar2 HB3, ?_⟩
    · rfl
    · simp [intOf, frH22]; omega
  · obtain rfl : k = n := by omega
    have dk : decide ((k : Int) < (k : Int)) = false := decide_eq_false (by omega)
    obtain ⟨t1, t3, t4⟩ := HFv.out wr HK.out
    obtain ⟨hh1, hh2, hh3⟩ := HHi.out
    have HB := Lib.hid (btw_keep D2 n1 c1 a1 wr wr K v.lo v.hi HDk.out (Keep.refl _ _) (by omega) hh1 (by omega))
    clear hh1 hh2 hh3
    go_wp2_with fail
    refine HB.out.mono ?_
    rintro e w5 ⟨r, K', rfl, hr, hK', hd', hk'⟩
    have HR := Lib.hid hr
    have H35 := Lib.hid (H3.out.keepD hk' HDl.out)
    have HK5 := Lib.hid (HK.out.trans' hk' (fun _ _ h => h))
    clear hd' hk' hr hK' t1 t3 t4 HB
    obtain ⟨-, -, -, -, b4⟩ := H35.out.c0.box_at
    have f4 : w5.frozen? ⟨x0.B, 4, none⟩ = false := by simp [World.frozen?, H35.out.c0.box]
    have H36 := Lib.hid (H35.out.setHi0 r)
    have HK6 : Hid (Keep (fun b => b ≠ D2) V0 (w5.setCell ⟨x0.B, 4, none⟩ (.int .i64 (r : Int)))) := HK5.out.setCell _ _ (fun h => absurd h (Nat.not_lt.2 H35.out.c0.low.2.2))
    have hA := HN.out
    have hG := HG.out
    rw [RaL_end hG] at H36
    have HOk := Lib.hid HSX.out.ok
    have Q0 : Hid (Finer v.p (x0.pv v.at'.l L v.T v.lo r).p i j false false) := finer_fine (q := (x0.pv v.at'.l L v.T v.lo r).p) HOk.out rfl HNar.out.1 HNar.out.2 rfl HR.out.1 HR.out.2 (by show i < v.at'.l.length; omega) (by show j < v.at'.l.length; omega) hij
    have Q1 : Hid (Finer v.p (x1.pv v.at'.l v.gr.l (v.T + u) v.lo v.hi).p i j true false) := finer_tall HOk.out (v.T + u) (Nat.le_add_right _ _) (by have := HHi.out.2.2; omega) hij
    have Q2 : Hid (Finer v.p (x2.pv v.at'.l (v.gr.l.map fun s => (s.1 + u, s.2 + u)) v.T v.lo v.hi).p i j true true) := finer_high HOk.out u (fun s hs => by have := (HGb.out s hs).2; omega) (by show i < v.at'.l.length; omega) (by show j < v.at'.l.length; omega)
    have HP6 := Lib.hid (HSX.out.at HK6.out).1
    have HF6 := Lib.hid (HSX.out.at HK6.out).2
    have HXw : Hid (Ext w (w5.setCell ⟨x0.B, 4, none⟩ (.int .i64 (r : Int)))) := ext_keep HX.out HK6.out (fun q hq => by have := HD0.out; omega)
    clear hA hG H35 HK5 H3 HK HRc HFv HTc HDk HNar HR
    try dsimp only
    repeat (first
      | exact taller_tail28' _ pb k i j z v x0 x1 x2 V0.heap.size _ _ _ _ _ _ v.T (v.T + u) v.T v.lo v.lo v.lo r v.hi v.hi w _ rfl HN HP6 HF6 HOk Hz H36 Q0 Q1 Q2 hi hj hij hn40 HXw
      | go_step)
/-- The same, from slots as they lie. -/
theorem taller_tail19' (t : Array Value) (pb D2 tb tq tc n i j z : Nat) (xm : Int) (tl : List Nat) (a1 : Option Addr) (n1 c1 K0 : Nat) (v : PV) (x0 x1 x2 : N3) (w V0 W : World) (ht : t = frH19 pb D2 tb tq tc n i j z x0.B x1.B x2.B xm (fun j => t.getD j undef)) (HN : Hid (v.at'.l.length = n)) (HG : Hid (v.gr.l.length = n)) (HSX : Hid (SX V0 D2 pb a1 n1 c1 v)) (HDk : Hid (IsDeck V0 D2 a1 n1 c1 K0 ∧ K0 ≤ 100)) (HTc : Hid (∀ u, Keep (fun b => b ≠ D2) V0 u → ∀ q, q < n → u.cell? ⟨tb, tq + q, none⟩ = some (.int .i64 ((tl[q]?.getD 0 : Nat) : Int)))) (HTb0 : Hid (tb ≠ D2 ∧ tb < V0.heap.size)) (HTr : Hid (∀ q, q < n → inB (tl[q]?.getD 0) (v.gr.l[q]?.getD (0, 0)) = true)) (HGb : Hid (∀ s ∈ v.gr.l, s.1 ≤ s.2 ∧ s.2 ≤ 100)) (HHi : Hid (v.lo ≤ v.hi ∧ v.hi ≤ 400 ∧ v.T ≤ 30)) (HE : Hid (Ext V0 W)) (Hz : Hid (tallF true v.p i j = z ∧ z ≤ 2000))
    (H3 : Hid (T3 W V0.heap.size n x0 x1 x2 v.at'.l v.at'.l v.at'.l v.gr.l v.gr.l v.gr.l v.T v.T v.T v.lo v.lo v.lo v.hi v.hi v.hi)) (hi : i < n) (hj : j < n) (hij : i ≠ j) (hn40 : n ≤ 40) (HX : Hid (Ext w V0)) (HD0 : Hid (w.heap.size ≤ D2)) :
    Code.wp Try.prog tail5_19 (bodyPost Try.prog Try.f5 fun e w' => e = .returned (.bool true) ∧ Ext w w') ⟨t, []⟩ W := by
  rw [ht]
  exact taller_tail19 _ pb D2 tb tq tc n i j z xm tl a1 n1 c1 K0 v x0 x1 x2 w V0 W HN HG HSX HDk HTc HTb0 HTr HGb HHi HE Hz H3 hi hj hij hn40 HX HD0
end Go.Proofs.Ytfognlealnhodaa

namespace Go.Proofs.Ytfognlealnhodaa
open Go.RowKit

theorem PV.v_n {v : PV} {n : Nat} (h1 : v.at'.l.length = n) (h2 : v.gr.l.length = n) : v.v = .agg #[.slice v.at'.a n v.at'.c, .slice v.gr.a n v.gr.c, .int .i64 (v.T : Int), .int .i64 (v.lo : Int), .int .i64 (v.hi : Int)] := by
  show Value.agg #[.slice v.at'.a v.at'.l.length v.at'.c, .slice v.gr.a v.gr.l.length v.gr.c, .int .i64 (v.T : Int), .int .i64 (v.lo : Int), .int .i64 (v.hi : Int)] = _
  rw [h1, h2]
theorem SX.on {W W' : World} {D2 pb : Nat} {a1 : Option Addr} {n1 c1 : Nat} {v : PV} (h : SX W D2 pb a1 n1 c1 v) (k : Ext W W') : SX W' D2 pb a1 n1 c1 v :=
  ⟨h.prof.ext k, h.ok, h.five.ext k, by have := h.deck; have := k.size; omega, fun b off e e2 => by have := h.byt b off e e2; have := k.size; omega, h.len, h.ne, h.apart⟩
theorem clone_n (v : PV) (n : Nat) (u : World) (hP : IsP u v) (h1 : v.at'.l.length = n) (h2 : v.gr.l.length = n) (hn : n ≤ 40) :
    Calls Try.prog 23 #[.agg #[.slice v.at'.a n v.at'.c, .slice v.gr.a n v.gr.c, .int .i64 (v.T : Int), .int .i64 (v.lo : Int), .int .i64 (v.hi : Int)]] u fun e w' => ∃ a1 c1 a2 c2, e = .returned (.agg #[.slice a1 n c1, .slice a2 n c2, .int .i64 (v.T : Int), .int .i64 (v.lo : Int), .int .i64 (v.hi : Int)]) ∧ (∀ h, IsP w' ⟨⟨a1, c1, v.at'.l⟩, ⟨a2, c2, v.gr.l⟩, h, v.lo, v.hi⟩) ∧ Ext u w' := by
  have h := cloneP_any v u hP
  rw [PV.v_n h1 h2] at h
  refine h.mono ?_
  rintro e w' ⟨b1, k1, b2, k2, rfl, o1, o2, hx⟩
  rw [h1, h2]
  exact ⟨b1, k1, b2, k2, rfl, fun h => ⟨own_sl o1 (show v.at'.l.length ≤ 1000000 by omega), own_slG o2 (show v.gr.l.length ≤ 1000000 by omega)⟩, hx⟩
theorem sees_n (v : PV) (n i j z : Nat) (hk : OkP v.p) (hz : tallF true v.p i j = z) (h1 : v.at'.l.length = n) (h2 : v.gr.l.length = n) (hi : i < n) (hj : j < n) (hij : i ≠ j) (u : World) (b1 b2 : Option Addr) (k1 k2 h : Nat) (hh : h ≤ 2000) (hP : IsP u ⟨⟨b1, k1, v.at'.l⟩, ⟨b2, k2, v.gr.l⟩, h, v.lo, v.hi⟩) :
    Calls Try.prog 21 #[.agg #[.slice b1 n k1, .slice b2 n k2, .int .i64 (h : Int), .int .i64 (v.lo : Int), .int .i64 (v.hi : Int)], .int .i64 (i : Int), .int .i64 (j : Int)] u fun e w' => ∃ d, e = .returned (.tuple #[.bool d, .bool (decide (z ≤ h)), .int .i64 0]) ∧ Ext u w' := by
  have hs := sees_ok ⟨⟨b1, k1, v.at'.l⟩, ⟨b2, k2, v.gr.l⟩, h, v.lo, v.hi⟩ i j u hP ⟨hk.n1, hk.n2, hk.gl, hk.ab, hk.gb, hh, hk.bb, hk.inc⟩ (by show i < v.at'.l.length; omega) (by show j < v.at'.l.length; omega) hij
  have e : seeF true (⟨⟨b1, k1, v.at'.l⟩, ⟨b2, k2, v.gr.l⟩, h, v.lo, v.hi⟩ : PV).p i j = decide (z ≤ h) := by
    rw [seeF_tall hij]
    have e2 : tallF true (⟨⟨b1, k1, v.at'.l⟩, ⟨b2, k2, v.gr.l⟩, h, v.lo, v.hi⟩ : PV).p i j = z := by rw [← hz]; exact tallF_only (p := v.p)
    rw [e2]
  rw [e, PV.v_n (v := ⟨⟨b1, k1, v.at'.l⟩, ⟨b2, k2, v.gr.l⟩, h, v.lo, v.hi⟩) (n := n) h1 h2] at hs
  exact hs.mono fun e w' ⟨h3, h4⟩ => ⟨_, h3, h4⟩
def frH9 (pb D2 tb tq tc n i j z sb k : Nat) (xm : Int) (X : Nat → Value) : Array Value := #[X 0, X 1, X 2, X 3, .int .i64 xm, X 5, X 6, X 7, X 8, X 9, X 10, X 11, .pointer (some ⟨D2, 0, none⟩), .pointer (some ⟨pb, 0, none⟩), .slice (some ⟨tb, tq, none⟩) n tc, .int .i64 (i : Int), .int .i64 (j : Int), .int .i64 (z : Int), X 18, X 19, X 20, X 21, X 22, X 23, X 24, X 25, X 26, X 27, X 28, X 29, X 30, X 31, X 32, X 33, X 34, X 35, X 36, X 37, X 38, X 39, X 40, X 41, X 42, X 43, X 44, X 45, X 46, X 47, X 48, X 49, X 50, X 51, X 52, X 53, X 54, X 55, X 56, X 57, X 58, X 59, X 60, X 61, X 62, X 63, X 64, X 65, X 66, X 67, X 68, X 69, X 70, X 71, X 72, X 73, X 74, X 75, X 76, X 77, X 78, X 79, X 80, X 81, X 82, X 83, .slice (some ⟨sb, 0, none⟩) 2 2, .int .i64 2, .int .i64 (k : Int), X 87, X 88, X 89, X 90, X 91, X 92, X 93, X 94, X 95, X 96, X 97, X 98, X 99, X 100, X 101, X 102, X 103, X 104, X 105, X 106, X 107, X 108, X 109, X 110, X 111, X 112, X 113, X 114, X 115, X 116, X 117, X 118, X 119, X 120, X 121, X 122, X 123, X 124, X 125, X 126, X 127, X 128, X 129, X 130, X 131, X 132, X 133, X 134, X 135, X 136, X 137, X 138, X 139, X 140, X 141, X 142, X 143, X 144, X 145, X 146, X 147, X 148, X 149, X 150, X 151, X 152, X 153, X 154, X 155, X 156, X 157, X 158, X 159, X 160, X 161, X 162, X 163, X 164, X 165, X 166, X 167, X 168, X 169, X 170, X 171, X 172, X 173, X 174, X 175, X 176, X 177, X 178, X 179, X 180, X 181, X 182, X 183, X 184, X 185, X 186, X 187, X 188, X 189, X 190, X 191, X 192, X 193, X 194, X 195, X 196, X 197, X 198, X 199, X 200, X 201, X 202, X 203, X 204, X 205, X 206, X 207, X 208, X 209, X 210, X 211, X 212, X 213, X 214, X 215, X 216, X 217, X 218, X 219, X 220, X 221, X 222, X 223, X 224, X 225, X 226, X 227, X 228, X 229, X 230, X 231, X 232, X 233, X 234, X 235, X 236, X 237, X 238, X 239, X 240, X 241, X 242, X 243, X 244, X 245, X 246, X 247, X 248, X 249, X 250, X 251, X 252, X 253, X 254, X 255, X 256, X 257, X 258, X 259, X 260, X 261, X 262, X 263, X 264, X 265, X 266, X 267, X 268, X 269, X 270, X 271, X 272, X 273, X 274, X 275, X 276, X 277, X 278, X 279, X 280, X 281, X 282, X 283]
def InvH1 (pb D2 tb tq tc n i j z sb : Nat) (xm : Int) (W : World) (ac : Act) (wr : World) : Prop :=
  ∃ (X : Nat → Value) (k : Nat), ac = { tmps := frH9 pb D2 tb tq tc n i j z sb k xm X, defers := [] } ∧ k ≤ 2 ∧ Hid (Ext W wr)
theorem InvH1.of {pb D2 tb tq tc n i j z sb : Nat} {xm : Int} {t : Array Value} {W wr : World} (k : Nat) (ht : t = frH9 pb D2 tb tq tc n i j z sb k xm (fun j => t.getD j undef)) (h1 : k ≤ 2) (h2 : Hid (Ext W wr)) :
    InvH1 pb D2 tb tq tc n i j z sb xm W { tmps := t, defers := [] } wr := ⟨_, k, by rw [← ht], h1, h2⟩

set_option maxRecDepth 1000000 in
set_option maxHeartbeats 16000000 in
theorem taller_any (a0 a1 : Option Addr) (n0 c0 n1 c1 : Nat) (xa xb xm : Int) (w : World) (h0 : IsBytes w a0 n0 c0) (h1 : IsBytes w a1 n1 c1) :
    Calls Try.prog 5 #[.slice a0 n0 c0, .slice a1 n1 c1, .int .i64 xa, .int .i64 xb, .int .i64 xm] w fun e w' => e = .returned (.bool true) ∧ Ext w w' := by
  have H1 := Lib.hid h1
  have H0 := Lib.hid h0
  clear h0 h1
  go_enter Try.func5, Try.ntmps5
  go_wp2_with fail
  refine (of_any a0 n0 c0 w H0.out).mono ?_
  rintro e w1 ⟨rfl, hd1, hx1⟩
  have HDa := Lib.hid hd1
  have HX1 := Lib.hid hx1
  clear hd1 hx1
  go_wp2_with fail
  refine (of_any a1 n1 c1 w1 (H1.out.ext HX1.out)).mono ?_
  rintro e w2 ⟨rfl, hd2, hx2⟩
  have HD1 := Lib.hid (HDa.out.ext hx2)
  have HD2 := Lib.hid hd2
  have HX2 : Hid (Ext w w2) := HX1.out.trans hx2
  have hw1 : w.heap.size < w1.heap.size := HDa.out.lt
  have hb1 : ∀ b off, a1 = some ⟨b, off, none⟩ → 0 < n1 → b < w.heap.size := fun b off ha hn => by
    obtain ⟨_, _, h3⟩ := H1.out
    obtain ⟨b', off', ha', hc⟩ := h3.resolve_left (by omega)
    rw [ha] at ha'
    cases ha'
    obtain ⟨x, _, hx⟩ := hc 0 hn
    exact lt_of_cell hx
  have HB1 := Lib.hid hb1
  clear hd2 hx2 HDa hb1
  obtain ⟨D2, hD2⟩ : ∃ D2, w1.heap.size = D2 := ⟨_, rfl⟩
  rw [hD2] at HD2 hw1
  go_wp2_with fail
  clear hD2
  refine (made_anyB w.heap.size a0 n0 c0 0 10 w2 HD1.out (by omega) (by omega) (by omega)).mono ?_
  rintro e w3 ⟨v, T, k3, rfl, hok, ⟨hA, hT30, hh4⟩, hm12, hgl, hhi, hgb, htl, htr, hoA, hoG, hoT, -, -, hk3⟩
  have h2w : D2 < w2.heap.size := HD2.out.lt
  have HD3 : Hid (IsDeck w3 D2 a1 n1 c1 0) := HD2.out.keepD hk3 (show D2 ≠ w.heap.size by omega) (fun b off ha hn => by have := HB1.out b off ha hn; omega)
  have HX3 : Hid (Ext w w3) := ext_keep HX2.out hk3 (fun i hi => by omega)
  have HOk := Lib.hid hok
  have hM : v.at'.l.length ≤ 10 ∧ 2 ≤ v.at'.l.length := ⟨hm12, hok.n1⟩
  have HPp : Hid (IsP w3 v) := ⟨own_sl hoA (show v.at'.l.length ≤ 1000000 by omega), own_slG hoG (show v.gr.l.length ≤ 1000000 by omega)⟩
  have HAp : Hid (∀ g off, (v.at'.a = some ⟨g, off, none⟩ → w2.heap.size ≤ g) ∧ (v.gr.a = some ⟨g, off, none⟩ → w2.heap.size ≤ g)) := fun g off => ⟨fun e => (own_type hoA (k := g) (by rw [show v.at'.v = .slice v.at'.a v.at'.l.length v.at'.c from rfl, e]; rfl)).1, fun e => (own_type hoG (k := g) (by rw [show v.gr.v = .slice v.gr.a v.gr.l.length v.gr.c from rfl, e]; rfl)).1⟩
  have HTr : Hid (T.l.length = v.at'.l.length ∧ truthTo T.l v.gr.l T.l.length = true ∧ IsSl 1 num w3 T ∧ ∀ g off, T.a = some ⟨g, off, none⟩ → w2.heap.size ≤ g) := ⟨htl, by rw [htl]; exact htr, own_sl hoT (show T.l.length ≤ 1000000 by omega), fun g off e => (own_type hoT (k := g) (by rw [show T.v = .slice T.a T.l.length T.c from rfl, e]; rfl)).1⟩
  have HAl : Hid ((∀ x ∈ v.at'.l, x ≤ 4050) ∧ (∀ s ∈ v.gr.l, s.1 ≤ s.2 ∧ s.2 ≤ 100) ∧ v.lo ≤ v.hi ∧ v.hi ≤ 400 ∧ v.T ≤ 30) := ⟨fun x hx => by have := hA x hx; omega, hgb, hok.bb.1, hh4, hT30⟩
  have HGl : Hid (v.gr.l.length = v.at'.l.length) := hgl
  clear hoA hoG hoT hk3 hok hm12 hgl hhi hgb htl htr HD1 HD2 HX2 HX1 hA hT30 hh4
  obtain ⟨Ta, tc, tl⟩ := T
  obtain ⟨n, hn⟩ : ∃ n, v.at'.l.length = n := ⟨_, rfl⟩
  have HN := Lib.hid hn
  have HTl : Hid (tl.length = n) := HTr.out.1.trans hn
  have HG : Hid (v.gr.l.length = n) := HGl.out.trans hn
  rw [hn] at hM
  obtain ⟨hM1, hM2⟩ := hM
  have htl := HTl.out
  dsimp only
  rw [htl]
  obtain ⟨tb, tq, hTa, hTc⟩ := HTr.out.2.2.1.2.2.resolve_left (by show tl.length ≠ 0; omega)
  dsimp only at hTa hTc
  subst hTa
  have HTc : Hid (∀ q, q < n → w3.cell? ⟨tb, tq + q, none⟩ = some (.int .i64 ((tl[q]?.getD 0 : Nat) : Int))) := fun q hq => by
    have h := hTc q (by omega) 0 (by omega)
    rw [List.getElem?_eq_getElem (by omega)]
    simpa [num] using h
  have HTb : Hid (D2 < tb) := Nat.lt_of_lt_of_le h2w (HTr.out.2.2.2 tb tq rfl)
  have HTr2 : Hid (∀ q, q < n → inB (tl[q]?.getD 0) (v.gr.l[q]?.getD (0, 0)) = true) := fun q hq => truthTo_true.1 HTr.out.2.1 q (by show q < tl.length; omega)
  clear hTc htl HTr HGl hn
  have HwD : Hid (w.heap.size ≤ D2) := Nat.le_of_lt hw1
  have HF := Lib.hid (five_new w3 v)
  have HX4 : Hid (Ext w3 (w3.alloc (.cells #[.slice v.at'.a v.at'.l.length v.at'.c, .slice v.gr.a v.gr.l.length v.gr.c, .int .i64 (v.T : Int), .int .i64 (v.lo : Int), .int .i64 (v.hi : Int)] 30))) := (Ext.refl w3).alloc _
  have HDl : Hid (D2 < w3.heap.size) := HD3.out.lt
  have HXw3 := HX3.out.size
  have HSX : Hid (SX (w3.alloc (.cells #[.slice v.at'.a v.at'.l.length v.at'.c, .slice v.gr.a v.gr.l.length v.gr.c, .int .i64 (v.T : Int), .int .i64 (v.lo : Int), .int .i64 (v.hi : Int)] 30)) D2 w3.heap.size a1 n1 c1 v) := by
    have hdl := HDl.out
    have hnn := HN.out
    refine ⟨HPp.out.ext HX4.out, HOk.out, HF.out, by rw [World.size_alloc]; omega, fun b off e e2 => by have := HB1.out b off e e2; rw [World.size_alloc]; omega, by omega, by omega, fun g off => ⟨fun e => ?_, fun e => ?_⟩⟩
    · have := (HAp.out g off).1 e; omega
    · have := (HAp.out g off).2 e; omega
  go_upto_region 3 with (fail)
  have HD4 := Lib.hid (HD3.out.ext HX4.out)
  have HXw : Hid (Ext w (w3.alloc (.cells #[.slice v.at'.a v.at'.l.length v.at'.c, .slice v.gr.a v.gr.l.length v.gr.c, .int .i64 (v.T : Int), .int .i64 (v.lo : Int), .int .i64 (v.hi : Int)] 30))) := HX3.out.trans HX4.out
  have HTc4 : Hid (∀ q, q < n → (w3.alloc (.cells #[.slice v.at'.a v.at'.l.length v.at'.c, .slice v.gr.a v.gr.l.length v.gr.c, .int .i64 (v.T : Int), .int .i64 (v.lo : Int), .int .i64 (v.hi : Int)] 30)).cell? ⟨tb, tq + q, none⟩ = some (.int .i64 ((tl[q]?.getD 0 : Nat) : Int))) := fun q hq => HX4.out.cell (HTc.out q hq)
  clear HF HX4 HDl HXw3 HX3 HD3 HAp HPp HB1 HTc
  generalize w3.alloc (.cells #[.slice v.at'.a v.at'.l.length v.at'.c, .slice v.gr.a v.gr.l.length v.gr.c, .int .i64 (v.T : Int), .int .i64 (v.lo : Int), .int .i64 (v.hi : Int)] 30) = w4 at *
  generalize w3.heap.size = pb at *
  have HFv : Hid (∀ u, Ext w4 u → u.cell? ⟨pb, 0, none⟩ = some (.slice v.at'.a n v.at'.c) ∧ u.cell? ⟨pb, 1, none⟩ = some (.slice v.gr.a n v.gr.c) ∧ u.cell? ⟨pb, 2, none⟩ = some (.int .i64 (v.T : Int)) ∧ u.cell? ⟨pb, 3, none⟩ = some (.int .i64 (v.lo : Int)) ∧ u.cell? ⟨pb, 4, none⟩ = some (.int .i64 (v.hi : Int))) := fun u hu => by
    have h := HSX.out.five.ext hu
    unfold Five at h
    rw [HN.out, HG.out] at h
    exact h
  obtain ⟨n2, hn2⟩ : ∃ n2, n2 + 1 = n := ⟨n - 1, by omega⟩
  have HFa := Lib.hid (fold_q xa n2 w4 (by omega) (by omega))
  have hi1 := (foldN_spec xa n2 (by omega)).1
  generalize foldN xa n2 = i at *
  obtain ⟨m, hm⟩ : ∃ m, m + i = n2 := ⟨n2 - i, by omega⟩
  have HFb := Lib.hid (fold_q xb m w4 (by omega) (by omega))
  have hj1 := (foldN_spec xb m (by omega)).1
  generalize foldN xb m = r at *
  obtain ⟨j, hjr⟩ : ∃ j, i + 1 + r = j := ⟨_, rfl⟩
  have hi : i < n := by omega
  have hj : j < n := by omega
  have hij : i ≠ j := by omega
  have w1 : IntKind.i64.wrap ((n : Int) - 1) = (n2 : Int) := by rw [IntWalk.i64_in _ (by omega)]; omega
  have w2 : IntKind.i64.wrap ((i : Int) + 1) = (i : Int) + 1 := by rw [IntWalk.i64_in _ (by omega)]
  have wm5 : IntKind.i64.wrap ((n2 : Int) - (i : Int)) = (m : Int) := by rw [IntWalk.i64_in _ (by omega)]; omega
  have w6 : IntKind.i64.wrap ((i : Int) + 1 + (r : Int)) = (j : Int) := by rw [IntWalk.i64_in _ (by omega)]; omega
  have w1' : (n : Int) - 1 = (n2 : Int) := by omega
  have w5' : (n2 : Int) - (i : Int) = (m : Int) := by omega
  have w6' : (i : Int) + 1 + (r : Int) = (j : Int) := by omega
  obtain ⟨z, hz⟩ : ∃ z, tallF true v.p i j = z := ⟨_, rfl⟩
  have hz2 : z ≤ 2000 := by
    rw [← hz]
    exact tall_small HAl.out.1 (fun s hs => (HAl.out.2.1 s hs).2) HAl.out.2.2.2.1 HOk.out.inc (by show i < v.at'.l.length; rw [HN.out]; exact hi) (by show j < v.at'.l.length; rw [HN.out]; exact hj) hij (HG.out.trans HN.out.symm)
  have Hz : Hid (tallF true v.p i j = z ∧ z ≤ 2000) := ⟨hz, hz2⟩
  have hta := tall_ok v i j w4 HSX.out.prof HOk.out (by rw [HN.out]; exact hi) (by rw [HN.out]; exact hj) hij (by rw [hz]; exact hz2)
  rw [hz, PV.v_n HN.out HG.out] at hta
  have HTa := Lib.hid hta
  have HCl := Lib.hid (fun u (hu : Ext w4 u) => clone_n v n u (HSX.out.prof.ext hu) HN.out HG.out (show n ≤ 40 by omega))
  have HSe := Lib.hid (sees_n v n i j z HOk.out hz HN.out HG.out hi hj hij)
  clear hta hz
  obtain ⟨t0, t1, t2, t3, t4⟩ := HFv.out w4 (Ext.refl w4)
  go_wp2_with fail
  refine HFa.out.mono ?_
  rintro e w' ⟨rfl, rfl⟩
  go_wp2_with fail
  refine HFb.out.mono ?_
  rintro e w' ⟨rfl, rfl⟩
  clear HFa HFb
  go_wp2_with fail
  refine HTa.out.mono ?_
  rintro e w5 ⟨rfl, hx5⟩
  have HX5 := Lib.hid hx5
  clear hx5 HTa t0 t1 t2 t3 t4 w1 w2 w1' wm5 w5' w6 w6'
  have d1 : decide ((z : Int) < 0) = false := decide_eq_false (by omega)
  have wz : IntKind.i64.wrap ((z : Int) - 1) = (z : Int) - 1 := by rw [IntWalk.i64_in _ (by omega)]
  go_upto_region 9 with (fail)
  have hx6 := (Ext.refl w5).alloc (.cells #[.int .i64 (z : Int), .int .i64 ((z : Int) - 1)] 3)
  have hbl := World.alloc_heap_new w5 (.cells #[.int .i64 (z : Int), .int .i64 ((z : Int) - 1)] 3)
  have HSb : Hid (∀ u, Ext (w5.alloc (.cells #[.int .i64 (z : Int), .int .i64 ((z : Int) - 1)] 3)) u → u.cell? ⟨w5.heap.size, 0, none⟩ = some (.int .i64 (z : Int)) ∧ u.cell? ⟨w5.heap.size, 1, none⟩ = some (.int .i64 ((z : Int) - 1))) := fun u hu => by
    have h := hu.block hbl
    exact ⟨(cell_at h 0).trans rfl, (cell_at h 1).trans rfl⟩
  have HX6 : Hid (Ext w4 (w5.alloc (.cells #[.int .i64 (z : Int), .int .i64 ((z : Int) - 1)] 3))) := HX5.out.trans hx6
  clear hx6 hbl HX5 wz
  generalize w5.alloc (.cells #[.int .i64 (z : Int), .int .i64 ((z : Int) - 1)] 3) = W6 at *
  generalize w5.heap.size = sb at *
  refine wp_loop (InvH1 pb D2 tb tq tc n i j z sb xm W6) (fun a _ => 2 - (intOf (a.tmps.getD 86 undef)).toNat) (InvH1.of 0 rfl (by omega) (Ext.refl _)) ?_
  rintro ac wr ⟨X1, k, rfl, hk, HE⟩
  conv => arg 4; dsimp only [frH9]
  by_cases hlt : k < 2
  · obtain rfl | rfl : k = 0 ∨ k = 1 := by omega
    · rw [show (((0 : Nat)) : Int) = 0 from rfl]
      have di : decide ((0 : Int) < 2) = true := by decide
      have hwk : IntKind.i64.wrap ((0 : Int) + 1) = 1 := by decide
      clear hlt hk
      have HEw : Hid (Ext w4 wr) := HX6.out.trans HE.out
      obtain ⟨s0, s1⟩ := HSb.out wr HE.out
      obtain ⟨t0, t1, t2, t3, t4⟩ := HFv.out wr HEw.out
      have HC := Lib.hid (HCl.out wr HEw.out)
      clear s1
      go_wp2_with fail
      refine HC.out.mono ?_
      rintro e wa ⟨b1, k1, b2, k2, rfl, hP, hxa⟩
      have HPa := Lib.hid (hP z)
      have HXa : Hid (Ext W6 wa) := HE.out.trans hxa
      clear hP hxa HC t0 t1 t2 t3 t4
      go_upto_region 14 with (fail)
      have HXb : Hid (Ext wa (wa.alloc (.cells #[.slice b1 n k1, .slice b2 n k2, .int .i64 (z : Int), .int .i64 (v.lo : Int), .int .i64 (v.hi : Int)] 30))) := (Ext.refl wa).alloc _
      have hb := World.alloc_heap_new wa (.cells #[.slice b1 n k1, .slice b2 n k2, .int .i64 (z : Int), .int .i64 (v.lo : Int), .int .i64 (v.hi : Int)] 30)
      have q0 := (cell_at hb 0).trans rfl
      have q1 := (cell_at hb 1).trans rfl
      have q2 := (cell_at hb 2).trans rfl
      have q3 := (cell_at hb 3).trans rfl
      have q4 := (cell_at hb 4).trans rfl
      clear hb
      generalize wa.alloc (.cells #[.slice b1 n k1, .slice b2 n k2, .int .i64 (z : Int), .int .i64 (v.lo : Int), .int .i64 (v.hi : Int)] 30) = wb at *
      generalize wa.heap.size = bb at *
      have hse := HSe.out wb b1 b2 k1 k2 z (by omega) (HPa.out.ext HXb.out)
      rw [show decide (z ≤ z) = true by simp; try omega] at hse
      have HSs := Lib.hid hse
      have ee : ((z : Int) == (z : Int)) = true := by simp; try omega
      clear hse
      go_wp2_with fail
      refine HSs.out.mono ?_
      rintro e wc ⟨d, rfl, hxc⟩
      have HXc : Hid (Ext W6 wc) := (HXa.out.trans HXb.out).trans hxc
      clear hxc HSs q0 q1 q2 q3 q4 HXa HXb HPa
      go_wp2_with fail
      refine ⟨InvH1.of 1 ?_ (by omega) HXc, ?_⟩
      · rfl
      · simp [intOf, frH9]
    · rw [show (((1 : Nat)) : Int) = 1 from rfl]
      have di : decide ((1 : Int) < 2) = true := by decide
      have hwk : IntKind.i64.wrap ((1 : Int) + 1) = 2 := by decide
      clear hlt hk
      have HEw : Hid (Ext w4 wr) := HX6.out.trans HE.out
      obtain ⟨s0, s1⟩ := HSb.out wr HE.out
      obtain ⟨t0, t1, t2, t3, t4⟩ := HFv.out wr HEw.out
      have HC := Lib.hid (HCl.out wr HEw.out)
      clear s0
      by_cases hz0 : z = 0
      · have ez : (z : Int) - 1 = -1 := by omega
        rw [ez] at s1
        have dn : decide ((-1 : Int) < 0) = true := by decide
        clear ez hz0 d1
        go_wp2_with fail
        refine HC.out.mono ?_
        rintro e wa ⟨b1, k1, b2, k2, rfl, hP, hxa⟩
        have HXa : Hid (Ext W6 wa) := HE.out.trans hxa
        clear hP hxa HC s1 t0 t1 t2 t3 t4
        have HXb : Hid (Ext W6 (wa.alloc (.cells #[.slice b1 n k1, .slice b2 n k2, .int .i64 (-1), .int .i64 (v.lo : Int), .int .i64 (v.hi : Int)] 30))) := HXa.out.alloc _
        go_wp2_with fail
        refine ⟨InvH1.of 2 ?_ (by omega) HXb, ?_⟩
        · rfl
        · simp [intOf, frH9]
      · obtain ⟨h, hh⟩ : ∃ h, h + 1 = z := ⟨z - 1, by omega⟩
        have ez : (z : Int) - 1 = (h : Int) := by omega
        have d2 : decide ((h : Int) < 0) = false := decide_eq_false (by omega)
        rw [ez] at s1
        clear ez hz0 d1
        go_wp2_with fail
        refine HC.out.mono ?_
        rintro e wa ⟨b1, k1, b2, k2, rfl, hP, hxa⟩
        have HPa := Lib.hid (hP h)
        have HXa : Hid (Ext W6 wa) := HE.out.trans hxa
        clear hP hxa HC t0 t1 t2 t3 t4
        go_upto_region 14 with (fail)
        have HXb : Hid (Ext wa (wa.alloc (.cells #[.slice b1 n k1, .slice b2 n k2, .int .i64 (h : Int), .int .i64 (v.lo : Int), .int .i64 (v.hi : Int)] 30))) := (Ext.refl wa).alloc _
        have hb := World.alloc_heap_new wa (.cells #[.slice b1 n k1, .slice b2 n k2, .int .i64 (h : Int), .int .i64 (v.lo : Int), .int .i64 (v.hi : Int)] 30)
        have q0 := (cell_at hb 0).trans rfl
        have q1 := (cell_at hb 1).trans rfl
        have q2 := (cell_at hb 2).trans rfl
        have q3 := (cell_at hb 3).trans rfl
        have q4 := (cell_at hb 4).trans rfl
        clear hb
        generalize wa.alloc (.cells #[.slice b1 n k1, .slice b2 n k2, .int .i64 (h : Int), .int .i64 (v.lo : Int), .int .i64 (v.hi : Int)] 30) = wb at *
        generalize wa.heap.size = bb at *
        have hse := HSe.out wb b1 b2 k1 k2 h (by omega) (HPa.out.ext HXb.out)
        rw [show decide (z ≤ h) = false by simp; try omega] at hse
        have HSs := Lib.hid hse
        have ee : ((h : Int) == (z : Int)) = false := by simp; try omega
        clear hse
        go_wp2_with fail
        refine HSs.out.mono ?_
        rintro e wc ⟨d, rfl, hxc⟩
        have HXc : Hid (Ext W6 wc) := (HXa.out.trans HXb.out).trans hxc
        clear hxc HSs q0 q1 q2 q3 q4 HXa HXb HPa
        go_wp2_with fail
        refine ⟨InvH1.of 2 ?_ (by omega) HXc, ?_⟩
        · rfl
        · simp [intOf, frH9]
  · obtain rfl : k = 2 := by omega
    have di : decide ((2 : Int) < 2) = false := by decide
    have HEw : Hid (Ext w4 wr) := HX6.out.trans HE.out
    have HSXr := Lib.hid (HSX.out.on HEw.out)
    have HDkr : Hid (IsDeck wr D2 a1 n1 c1 0 ∧ 0 ≤ 100) := ⟨HD4.out.ext HEw.out, by omega⟩
    have HTcr : Hid (∀ u, Keep (fun b => b ≠ D2) wr u → ∀ q, q < n → u.cell? ⟨tb, tq + q, none⟩ = some (.int .i64 ((tl[q]?.getD 0 : Nat) : Int))) := fun u hu q hq => hu.cell (HEw.out.cell (HTc4.out q hq)) (Nat.ne_of_gt HTb.out)
    have HTbr : Hid (tb ≠ D2 ∧ tb < wr.heap.size) := ⟨Nat.ne_of_gt HTb.out, lt_of_cell (HEw.out.cell (HTc4.out 0 (by omega)))⟩
    have HGb : Hid (∀ s ∈ v.gr.l, s.1 ≤ s.2 ∧ s.2 ≤ 100) := HAl.out.2.1
    have HHi : Hid (v.lo ≤ v.hi ∧ v.hi ≤ 400 ∧ v.T ≤ 30) := HAl.out.2.2
    have HXr : Hid (Ext w wr) := HXw.out.trans HEw.out
    have HD0 : Hid (w.heap.size ≤ D2) := HwD.out
    have hn40 : n ≤ 40 := by omega
    clear HFv HCl HSe HSb HTc4 HD4 HEw HXw HX6 HE HAl HTb
    go_upto_region 18 with (fail)
    refine three_r5 pb D2 n i j z xm ⟨some ⟨tb, tq, none⟩, tc, tl⟩ v _ wr _ rfl HSXr.out.five HSXr.out.prof ?_
    intro X C A Y W hT
    obtain ⟨x0, x1, x2, e0, e1, e2, hE, h3⟩ := three_at hT (by rw [HN.out]; omega) (HG.out.trans HN.out.symm)
    rw [HN.out] at h3
    have HE := Lib.hid hE
    have H3 := Lib.hid h3
    clear hE h3 hT
    dsimp only [fr3c5]
    rw [e0, e1, e2]
    clear e0 e1 e2
    repeat (first
      | exact taller_tail19' _ pb D2 tb tq tc n i j z xm tl a1 n1 c1 0 v x0 x1 x2 w wr W rfl HN HG HSXr HDkr HTcr HTbr HTr2 HGb HHi HE Hz H3 hi hj hij hn40 HXr HD0
      | go_step)
end Go.Proofs.Ytfognlealnhodaa

namespace Go.Proofs.Ytfognlealnhodaa.pillarTaller
open Go.ChangeShapes Go.WideShapes Go.ChangeAt Go.RowKit
open Go.ChangeMaps (open_string shut_string)
set_option linter.unusedVariables false

theorem own : ownKnob Try.prog.godebug = none := by kernel_rfl
theorem laidOut : laidOutB Try.prog = true := by kernel_rfl

/-- A slice of integers that came in: it is nil, or it leads to a row of cap cells, the numbers zs, each of which fits its kind. -/
def IsRow (k : IntKind) (w : World) (a : Option Addr) (len cap : Nat) (zs : List Int) : Prop :=
  (a = none ∧ len = 0 ∧ cap = 0 ∧ zs = []) ∨
  ∃ x, a = some x ∧ len ≤ cap ∧ cap ≤ maxLen ∧ zs.length = cap ∧ (∀ i, i < zs.length → w.cell? (x.add i) = some (.int k (zs.getD i 0))) ∧ ∀ n ∈ zs, (Lit.int k n).wf = true

/-- Bytes that came in lie in memory as told. -/
theorem bytes_of {w : World} {a : Option Addr} {n c : Nat} {zs : List Int} (h : IsRow .u8 w a n c zs) (hn : n ≤ 140737488351232) : IsBytes w a n c := by
  rcases h with ⟨rfl, rfl, rfl, rfl⟩ | ⟨x, rfl, hl, hm, hz, hc, hw⟩
  · exact ⟨Nat.le_refl _, by omega, .inl rfl⟩
  · refine ⟨hl, hn, ?_⟩
    by_cases hn0 : n = 0
    · exact .inl hn0
    · right
      have h0 := hc 0 (by omega)
      obtain ⟨b, off, sp⟩ := x
      have hsp : sp = none := by
        cases sp with
        | none => rfl
        | some s =>
          exfalso
          unfold World.cell? at h0
          split at h0
          · simp [Addr.add] at h0
          · cases h0
      subst hsp
      refine ⟨b, off, rfl, fun i hi => ?_⟩
      have h1 := hc i (by omega)
      rw [Addr.add_lit] at h1
      have h2 := hw (zs.getD i 0) (by rw [List.getD_eq_getElem?_getD, List.getElem?_eq_getElem (show i < zs.length by omega)]; exact List.getElem_mem _)
      have h3 : 0 ≤ zs.getD i 0 ∧ zs.getD i 0 < 256 := by
        have h4 : IntKind.u8.min = 0 := by kernel_rfl
        have h5 : IntKind.u8.max = 255 := by kernel_rfl
        generalize zs.getD i 0 = z at h2 ⊢
        simp [Lit.wf, h4, h5] at h2
        omega
      exact ⟨(zs.getD i 0).toNat, by omega, by rw [h1, Int.toNat_of_nonneg h3.1]⟩

theorem cells5 : Try.prog.bytesOf 5 = 1 := by kernel_rfl

theorem walk (a0 : Option Addr) (len0 cap0 : Nat) (z0 : List Int) (a1 : Option Addr) (len1 cap1 : Nat) (z1 : List Int) (n2 n3 n4 : Int) (w : World) (w0 : IsRow .u8 w a0 len0 cap0 z0) (w1 : IsRow .u8 w a1 len1 cap1 z1) (m0 : len0 ≤ 140737488351232) (m1 : len1 ≤ 140737488351232) :
    Calls Try.prog 5 #[.slice a0 len0 cap0, .slice a1 len1 cap1, .int .i64 n2, .int .i64 n3, .int .i64 n4] w fun e w' => e = .returned (.bool true) ∧ Below w.heap.size w w' := by
  exact taller_any a0 a1 len0 cap0 len1 cap1 n2 n3 n4 w (bytes_of w0 m0) (bytes_of w1 m1)

set_option maxRecDepth 100000 in
theorem lifted (os : Os) (started : os.Started) (H : Type) (enc : TypeId × Value → H) :
    ReturnsInHanded {} Try.checked os 5 .any (Rows.pillarTallerSpec.pre6 enc Try.prog Try.f5 Rows.pillarTallerRow.domain false) (Rows.pillarTallerSpec.post enc Try.prog Try.f5 false true false false) := by
  refine returnsInHanded_of_change_sized (C := Try.checked) own started (by kernel_rfl) Try.func5
    (ChangeSpec.witness6 (enc := enc) (C := Try.checked) false ⟨#[], #[.slice none 0 0, .slice none 0 0, .int .i64 0, .int .i64 0, .int .i64 0], []⟩ 8 (by kernel_rfl) (by kernel_rfl) (by kernel_rfl) (by kernel_rfl)) ?_
  intro W base args ds gs before hval0 hW hcnd hsz0 _
  have hsz : (DataW.weightsEach Try.prog (Try.f5.params.toList ++ Rows.pillarTallerSpec.plain.varTypes Try.prog) (ds ++ gs)).all (· ≤ reachBytes) = true := hsz0
  clear hsz0
  have hval : ∀ (j : Nat) t v, Try.f5.params[j]? = some t → args[j]? = some v → Value.okWide Try.prog W .any base t v := hval0
  have hW' := hW
  obtain ⟨p, q, hA0, hV, rfl, hfz, hnd⟩ := hW
  have hA : DataW.TrodAll enc Try.prog W 0 (fun _ => true) true Try.f5.params.toList args.toList ds p := hA0
  rw [Try.params5] at hA hval hsz
  obtain ⟨v0, vs0, d0, ds0, p0, q0, hargs, rfl, rfl, h0, r0⟩ := trodAll_cons hA
  obtain ⟨v1, vs1, d1, ds1, p1, q1, rfl, rfl, rfl, h1, r1⟩ := trodAll_cons r0
  obtain ⟨v2, vs2, d2, ds2, p2, q2, rfl, rfl, rfl, h2, r2⟩ := trodAll_cons r1
  obtain ⟨v3, vs3, d3, ds3, p3, q3, rfl, rfl, rfl, h3, r3⟩ := trodAll_cons r2
  obtain ⟨v4, vs4, d4, ds4, p4, q4, rfl, rfl, rfl, h4, r4⟩ := trodAll_cons r3
  obtain ⟨rfl, rfl, rfl⟩ := trodAll_nil r4
  obtain rfl : args = #[v0, v1, v2, v3, v4] := by cases args; simp_all
  obtain ⟨rfl, rfl⟩ := trodVars_none hV
  obtain ⟨a0, len0, cap0, rfl⟩ := okWide_slice Try.underlying22 (hval 0 22 v0 rfl rfl)
  have k0 := h0
  have lt0 : ∀ x ∈ p0, x.block < W.heap.size := by obtain ⟨m, hm⟩ := k0; exact DataW.trod_lt m _ _ _ hm
  obtain ⟨z0, w0, m0⟩ : ∃ zs, IsRow .u8 W a0 len0 cap0 zs ∧ len0 ≤ 140737488351232 := by
    obtain ⟨fuel, hf⟩ := h0
    rcases open_ints Try.underlying22 Try.underlying5 (by kernel_rfl) hf with ⟨hcs, _⟩ | ⟨x, l, c, zs, hcs, _, hl, hm, hz, hx, hcell, hwz⟩
    · simp [Value.cells] at hcs
      obtain ⟨rfl, rfl, rfl⟩ := hcs
      exact ⟨[], .inl ⟨rfl, rfl, rfl, rfl⟩, Nat.zero_le _⟩
    · simp [Value.cells] at hcs
      obtain ⟨rfl, rfl, rfl⟩ := hcs
      simp only [Prod.mk.injEq] at hx
      have hr := sized_slice hsz (j := 0) (t := 22) (e := 5) rfl (by rw [hx.1]; rfl) Try.underlying22
      rw [cells5] at hr
      simp only [lits, List.length_map, List.length_take, List.length_drop] at hr
      simp only [if_true] at hz
      have hb : reachBytes = 140737488351232 := rfl
      exact ⟨zs, .inr ⟨_, rfl, hl, hm, hz, hcell, hwz⟩, by omega⟩
  obtain ⟨a1, len1, cap1, rfl⟩ := okWide_slice Try.underlying22 (hval 1 22 v1 rfl rfl)
  have k1 := h1
  have lt1 : ∀ x ∈ p1, x.block < W.heap.size := by obtain ⟨m, hm⟩ := k1; exact DataW.trod_lt m _ _ _ hm
  obtain ⟨z1, w1, m1⟩ : ∃ zs, IsRow .u8 W a1 len1 cap1 zs ∧ len1 ≤ 140737488351232 := by
    obtain ⟨fuel, hf⟩ := h1
    rcases open_ints Try.underlying22 Try.underlying5 (by kernel_rfl) hf with ⟨hcs, _⟩ | ⟨x, l, c, zs, hcs, _, hl, hm, hz, hx, hcell, hwz⟩
    · simp [Value.cells] at hcs
      obtain ⟨rfl, rfl, rfl⟩ := hcs
      exact ⟨[], .inl ⟨rfl, rfl, rfl, rfl⟩, Nat.zero_le _⟩
    · simp [Value.cells] at hcs
      obtain ⟨rfl, rfl, rfl⟩ := hcs
      simp only [Prod.mk.injEq] at hx
      have hr := sized_slice hsz (j := 1) (t := 22) (e := 5) rfl (by rw [hx.1]; rfl) Try.underlying22
      rw [cells5] at hr
      simp only [lits, List.length_map, List.length_take, List.length_drop] at hr
      simp only [if_true] at hz
      have hb : reachBytes = 140737488351232 := rfl
      exact ⟨zs, .inr ⟨_, rfl, hl, hm, hz, hcell, hwz⟩, by omega⟩
  obtain ⟨n2, rfl, rfl, rfl, hw2⟩ := open_int Try.underlying3 (hval 2 3 v2 rfl rfl) h2
  obtain ⟨n3, rfl, rfl, rfl, hw3⟩ := open_int Try.underlying3 (hval 3 3 v3 rfl rfl) h3
  obtain ⟨n4, rfl, rfl, rfl, hw4⟩ := open_int Try.underlying3 (hval 4 3 v4 rfl rfl) h4
  clear hA0 hval0
  refine (walk a0 len0 cap0 z0 a1 len1 cap1 z1 n2 n3 n4 W w0 w1 m0 m1).mono fun e W' ⟨he, bel⟩ => ?_
  subst he
  exact ⟨_, rfl, _, _, _, [], _, [], hW', trodAll_mk1 (shut_bool Try.underlying4 _), (trodAll_cons_mk (Below.trod laidOut (by kernel_rfl) (of_decide_eq_true (by kernel_rfl)) k0 bel lt0) (trodAll_cons_mk (Below.trod laidOut (by kernel_rfl) (of_decide_eq_true (by kernel_rfl)) k1 bel lt1) (trodAll_cons_mk (shut_int Try.underlying3 hw2) (trodAll_cons_mk (shut_int Try.underlying3 hw3) (trodAll_cons_mk (shut_int Try.underlying3 hw4) trodAll_mk0))))), rfl, bel.frame _, fun h => by cases h⟩

theorem over : Rows.pillarTallerRow.holds Try.pinned (OpenSpec.ofChange Rows.pillarTallerSpec) :=
  OpenClaim.holds_of_wide 5 Try.f5 rfl rfl rfl rfl rfl rfl rfl ⟨rfl, rfl, rfl, rfl, rfl⟩ rfl rfl rfl rfl rfl (by kernel_rfl) Try.func5 (by kernel_rfl)
    (of_decide_eq_true (by kernel_rfl)) (by unfold Func.isWrapper; first | (rw [if_pos (by decide +kernel)]; kernel_rfl) | (rw [if_neg (by decide +kernel)]; exact ⟨rfl, rfl⟩))
    (fun os started H enc _ => lifted os started H enc)

/-- The statement. -/
theorem proved : Rows.PillarTallerSaid := over
#print axioms proved
end Go.Proofs.Ytfognlealnhodaa.pillarTaller
