/-
  look of package pillar puts a profile to work: its table tells of each two places whether the one sees the other; see and sees read it. The profile must lie in memory as told and be right.
-/
import Derived.Test.YtfognlealnhodaaC
import Derived.WalkMore
namespace Go.Proofs.Ytfognlealnhodaa
open Go.RowKit

/-- The cells of a profile at work: seven, and a table of 40 rows of 40 truths. -/
structure WC (cs : Array Value) (d : Bool) (v : PV) (S : Nat → Nat → Bool) : Prop where
  sz : cs.size = 1607
  c0 : cs[0]? = some (.slice v.at'.a v.at'.l.length v.at'.c)
  c1 : cs[1]? = some (.slice v.gr.a v.gr.l.length v.gr.c)
  c2 : cs[2]? = some (.int .i64 (v.T : Int))
  c3 : cs[3]? = some (.int .i64 (v.lo : Int))
  c4 : cs[4]? = some (.int .i64 (v.hi : Int))
  c5 : cs[5]? = some (.func (.func (endN !d)) #[] #[])
  c6 : cs[6]? = some (.func (.func (endN d)) #[] #[])
  ct : ∀ f t, f < 40 → t < 40 → cs[7 + f * 40 + t]? = some (.bool (S f t))
/-- A profile at work lies in block B. -/
structure Wk (w : World) (B : Nat) (d : Bool) (v : PV) (S : Nat → Nat → Bool) : Prop where
  is : IsP w v
  blk : ∃ cs : Array Value, w.heap[B]? = some (.cells cs 115 (0, 0)) ∧ WC cs d v S
theorem Wk.ext {w w' : World} {B : Nat} {d : Bool} {v : PV} {S : Nat → Nat → Bool} (h : Wk w B d v S) (k : Ext w w') : Wk w' B d v S := by
  obtain ⟨cs, h1, h2⟩ := h.blk; exact ⟨h.is.ext k, cs, k.block h1, h2⟩
theorem Wk.lt {w : World} {B : Nat} {d : Bool} {v : PV} {S : Nat → Nat → Bool} (h : Wk w B d v S) : B < w.heap.size := by
  obtain ⟨cs, h1, h2⟩ := h.blk; exact (Array.getElem?_eq_some_iff.1 h1).1
theorem Wk.wh {w : World} {B : Nat} {d : Bool} {v : PV} {S : Nat → Nat → Bool} (h : Wk w B d v S) : WH w B d v := by
  obtain ⟨cs, h1, h2⟩ := h.blk
  exact ⟨h.is, by rw [cell_at h1, h2.c0], by rw [cell_at h1, h2.c1], by rw [cell_at h1, h2.c2], by rw [cell_at h1, h2.c3], by rw [cell_at h1, h2.c4], by rw [cell_at h1, h2.c5], by rw [cell_at h1, h2.c6]⟩
theorem Wk.cell {w : World} {B : Nat} {d : Bool} {v : PV} {S : Nat → Nat → Bool} (h : Wk w B d v S) (f t : Nat) (hf : f < 40) (ht : t < 40) : w.cell? ⟨B, 7 + f * 40 + t, none⟩ = some (.bool (S f t)) := by
  obtain ⟨cs, h1, h2⟩ := h.blk; rw [cell_at h1, h2.ct f t hf ht]
theorem Wk.frozen {w : World} {B : Nat} {d : Bool} {v : PV} {S : Nat → Nat → Bool} (h : Wk w B d v S) (i : Nat) : w.frozen? ⟨B, i, none⟩ = false := by
  obtain ⟨cs, h1, h2⟩ := h.blk; simp [World.frozen?, h1]
theorem Wk.congr {w : World} {B : Nat} {d : Bool} {v : PV} {S S' : Nat → Nat → Bool} (h : Wk w B d v S) (he : ∀ f t, f < 40 → t < 40 → S f t = S' f t) : Wk w B d v S' := by
  obtain ⟨cs, h1, h2⟩ := h.blk
  exact ⟨h.is, cs, h1, { h2 with ct := fun f t hf ht => by rw [h2.ct f t hf ht, he f t hf ht] }⟩
def upd (T : Nat → Nat → Bool) (f t : Nat) (b : Bool) : Nat → Nat → Bool := fun f' t' => if f' = f ∧ t' = t then b else T f' t'
theorem Wk.set {w : World} {B : Nat} {d : Bool} {v : PV} {S : Nat → Nat → Bool} (h : Wk w B d v S) (f t : Nat) (hf : f < 40) (ht : t < 40) (b : Bool) (hB : ∀ ad off, (v.at'.a = some ⟨ad, off, none⟩ → ad ≠ B) ∧ (v.gr.a = some ⟨ad, off, none⟩ → ad ≠ B)) :
    Wk (w.setCell ⟨B, 7 + f * 40 + t, none⟩ (.bool b)) B d v (upd S f t b) := by
  obtain ⟨cs, h1, h2⟩ := h.blk
  have hs : ∀ {α : Type} {sz : Nat} {ce : α → Nat → Value} {s : SL α}, IsSl sz ce w s → (∀ ad off, s.a = some ⟨ad, off, none⟩ → ad ≠ B) → IsSl sz ce (w.setCell ⟨B, 7 + f * 40 + t, none⟩ (.bool b)) s := by
    intro α sz ce s hs hne
    obtain ⟨q1, q2, q3⟩ := hs
    refine ⟨q1, q2, ?_⟩
    rcases q3 with q3 | ⟨g, off, q3, q4⟩
    · exact .inl q3
    · exact .inr ⟨g, off, q3, fun i hi j hj => (World.cell?_of_block (a := ⟨g, off + i * sz + j, none⟩) (Below.heap_setCell _ _ _ _ (hne g off q3))).trans (q4 i hi j hj)⟩
  refine ⟨⟨hs h.is.at' (fun ad off => (hB ad off).1), hs h.is.gr (fun ad off => (hB ad off).2)⟩, _, heap_setCell_same h1 _, ?_⟩
  have hq : ∀ i, i < 7 → (cs.setIfInBounds (7 + f * 40 + t) (.bool b))[i]? = cs[i]? := fun i hi => by rw [Array.getElem?_setIfInBounds, if_neg (by omega)]
  refine ⟨by simpa using h2.sz, by rw [hq 0 (by omega), h2.c0], by rw [hq 1 (by omega), h2.c1], by rw [hq 2 (by omega), h2.c2], by rw [hq 3 (by omega), h2.c3], by rw [hq 4 (by omega), h2.c4], by rw [hq 5 (by omega), h2.c5], by rw [hq 6 (by omega), h2.c6], fun f' t' hf' ht' => ?_⟩
  rw [Array.getElem?_setIfInBounds]
  unfold upd
  have hsz := h2.sz
  by_cases e : f' = f ∧ t' = t
  · obtain ⟨rfl, rfl⟩ := e; simp; omega
  · rw [if_neg e, if_neg (by omega)]; exact h2.ct f' t' hf' ht'

theorem sees_any (B : Nat) (d : Bool) (v : PV) (S : Nat → Nat → Bool) (i j : Nat) (w : World) (hw : Wk w B d v S) (hi : i < 40) (hj : j < 40) :
    Calls Try.prog 77 #[.pointer (some ⟨B, 0, none⟩), .int .i64 (i : Int), .int .i64 (j : Int)] w fun e w' => e = .returned (.bool (S i j)) ∧ w = w' := by
  have c := hw.cell i j hi hj
  have hlt := hw.lt
  generalize S i j = b at *
  clear hw
  have i1 : (0 : Int) ≤ i := by omega
  have i2 : (i : Int) < 40 := by omega
  have i3 : (0 : Int) ≤ j := by omega
  have i4 : (j : Int) < 40 := by omega
  go_enter Try.func77, Try.ntmps77
  go_wp2
  go_ret
  exact ⟨rfl, rfl⟩

theorem see_any (B : Nat) (d : Bool) (v : PV) (S : Nat → Nat → Bool) (i j : Nat) (w : World) (hw : Wk w B d v S) (hi : i < 40) (hj : j < 40) (hne : i ≠ j) :
    Calls Try.prog 51 #[.pointer (some ⟨B, 0, none⟩), .int .i64 (i : Int), .int .i64 (j : Int)] w fun e w' => e = .returned (.bool (S (min i j) (max i j))) ∧ w = w' := by
  have HW := Lib.hid hw; clear hw
  by_cases h : i < j
  · have h1 : min i j = i := Nat.min_eq_left (by omega)
    have h2 : max i j = j := Nat.max_eq_right (by omega)
    rw [h1, h2]
    have HS := Lib.hid (sees_any B d v S i j w HW.out hi hj)
    clear h1 h2 HW
    have h3 : (i : Int) < (j : Int) := by omega
    have h4 : ¬ (j : Int) < (i : Int) := by omega
    go_enter Try.func51, Try.ntmps51
    go_wp2_with fail
    refine HS.out.mono ?_
    rintro e w' ⟨rfl, rfl⟩
    go_wp2
    go_ret
    exact ⟨rfl, rfl⟩
  · have h1 : min i j = j := Nat.min_eq_right (by omega)
    have h2 : max i j = i := Nat.max_eq_left (by omega)
    rw [h1, h2]
    have HS := Lib.hid (sees_any B d v S j i w HW.out hj hi)
    clear h1 h2 HW
    have h3 : (j : Int) < (i : Int) := by omega
    have h4 : ¬ (i : Int) < (j : Int) := by omega
    go_enter Try.func51, Try.ntmps51
    go_wp2_with fail
    refine HS.out.mono ?_
    rintro e w' ⟨rfl, rfl⟩
    go_wp2
    go_ret
    exact ⟨rfl, rfl⟩

set_option maxHeartbeats 1000000 in
/-- The closure that asks whether a place hides two others from each other. -/
theorem hides_any (B ib jb : Nat) (d : Bool) (v : PV) (i k j : Nat) (w : World) (hw : WH w B d v) (hk : OkP v.p) (hik : i < k) (hkj : k < j) (hj : j < v.at'.l.length) (hi' : w.cell? ⟨ib, 0, none⟩ = some (.int .i64 (i : Int))) (hj' : w.cell? ⟨jb, 0, none⟩ = some (.int .i64 (j : Int))) :
    Calls Try.prog 87 #[.int .i64 (k : Int), .pointer (some ⟨B, 0, none⟩), .pointer (some ⟨ib, 0, none⟩), .pointer (some ⟨jb, 0, none⟩)] w fun e w' => e = .returned (.bool (decide (v.T < needF d v.p i k j))) ∧ Ext w w' := by
  have HK := Lib.hid hk; clear hk
  have c2 := hw.c2
  have HW := Lib.hid hw; clear hw
  have hN : Hid (∀ w1, Ext w w1 → Calls Try.prog 78 #[.pointer (some ⟨B, 0, none⟩), .int .i64 (i : Int), .int .i64 (k : Int), .int .i64 (j : Int)] w1 fun e w' => e = .returned (.int .i64 (needF d v.p i k j : Int)) ∧ Ext w1 w') :=
    fun w1 h => need_any B d v i k j w1 (HW.out.ext h) HK.out hik hkj hj
  generalize needF d v.p i k j = m at *
  have hB := lt_of_cell c2
  dsimp only at hB
  clear HK hik hkj hj
  go_enter Try.func87, Try.ntmps87
  go_wp2_with fail
  have KS : Hid (∀ w1, Ext w w1 → w1.cell? ⟨B, 2, none⟩ = some (.int .i64 (v.T : Int)) ∧ w1.cell? ⟨ib, 0, none⟩ = some (.int .i64 (i : Int)) ∧ w1.cell? ⟨jb, 0, none⟩ = some (.int .i64 (j : Int))) := fun w1 h => ⟨h.cell c2, h.cell hi', h.cell hj'⟩
  clear HW
  go_region_held3 (fun w1 => w1.cell? ⟨B, 2, none⟩ = some (.int .i64 (v.T : Int)) ∧ w1.cell? ⟨ib, 0, none⟩ = some (.int .i64 (i : Int)) ∧ w1.cell? ⟨jb, 0, none⟩ = some (.int .i64 (j : Int)))
    ((refine KS.out _ ?_ <;> (repeat (first | exact Ext.refl _ | refine Ext.trans ?_ (by assumption) | refine Ext.drew ?_ | refine Ext.alloc ?_ _))))
    (first
      | (go_at_call 78; refine (hN.out _ (Ext.refl w).drew).mono ?_; rintro e we ⟨rfl, hx'⟩))
  have HX : Hid (Ext w we) := (Ext.refl w).drew.trans hx'
  clear hx'
  go_wp2
  go_ret
  exact ⟨rfl, HX.out⟩

/-- The table behind the first pairs. -/
def tabF (d : Bool) (p : Prof) (i j : Nat) : Nat → Nat → Bool := fun f t => (decide (f < i) || (decide (f = i) && decide (t < j))) && (decide (f < t) && (decide (t < p.A.length) && seesF d p f t))
/-- The whole table. -/
def allF (d : Bool) (p : Prof) : Nat → Nat → Bool := fun f t => decide (f < t) && (decide (t < p.A.length) && seesF d p f t)
theorem tabF_zero (d : Bool) (p : Prof) (j : Nat) (h : j ≤ 1) : tabF d p 0 j = fun _ _ => false := by
  funext f t; simp only [tabF]; by_cases h1 : f = 0 ∧ t < j
  · obtain ⟨rfl, h1⟩ := h1; simp; omega
  · simp; omega
theorem tabF_yes {d : Bool} {p : Prof} {i j : Nat} (hij : i < j) (hj : j < p.A.length) (h : seesF d p i j = true) : upd (tabF d p i j) i j true = tabF d p i (j + 1) := by
  funext f t; unfold upd tabF
  by_cases e : f = i ∧ t = j
  · obtain ⟨rfl, rfl⟩ := e; simp [h, hij, hj]
  · rw [if_neg e]
    have : (decide (f = i) && decide (t < j)) = (decide (f = i) && decide (t < j + 1)) := by
      by_cases h1 : f = i
      · simp [h1]; omega
      · simp [h1]
    rw [this]
theorem tabF_no {d : Bool} {p : Prof} {i j : Nat} (h : seesF d p i j = false) : tabF d p i j = tabF d p i (j + 1) := by
  funext f t; unfold tabF
  by_cases e : f = i ∧ t = j
  · obtain ⟨rfl, rfl⟩ := e; simp [h]
  · have : (decide (f = i) && decide (t < j)) = (decide (f = i) && decide (t < j + 1)) := by
      by_cases h1 : f = i
      · simp [h1]; omega
      · simp [h1]
    rw [this]
theorem tabF_row (d : Bool) (p : Prof) (i j j' : Nat) (h : p.A.length ≤ j) (h' : j' ≤ i + 2) : tabF d p i j = tabF d p (i + 1) j' := by
  funext f t; unfold tabF
  cases h1 : (decide (f < t) && (decide (t < p.A.length) && seesF d p f t))
  · simp
  · simp only [Bool.and_eq_true, decide_eq_true_eq] at h1
    simp only [Bool.and_true]
    rw [Bool.eq_iff_iff]; simp only [Bool.or_eq_true, Bool.and_eq_true, decide_eq_true_eq]; omega
theorem tabF_all (d : Bool) (p : Prof) (j : Nat) : tabF d p p.A.length j = allF d p := by
  funext f t; unfold tabF allF
  cases h1 : (decide (f < t) && (decide (t < p.A.length) && seesF d p f t))
  · simp
  · simp only [Bool.and_eq_true, decide_eq_true_eq] at h1
    simp; omega

/-- The seven first cells, and the lists, are told by any later world. -/
theorem Wk.off {w : World} {B : Nat} {d : Bool} {v : PV} {S : Nat → Nat → Bool} {w0 : World} (_ : Wk w B d v S) (h0 : IsP w0 v) (hk : OkP v.p) (hB : w0.heap.size ≤ B) : ∀ ad off, (v.at'.a = some ⟨ad, off, none⟩ → ad ≠ B) ∧ (v.gr.a = some ⟨ad, off, none⟩ → ad ≠ B) := by
  obtain ⟨ba, oa, bg, og, ha, hg, hca, hcg⟩ := h0.place hk
  have hn := hk.n1
  have l1 := lt_of_cell (hca 0 (by show 0 < v.at'.l.length; have := hk.n1; dsimp only at this; omega))
  have l2 := lt_of_cell (hcg 0 (by show 0 < v.at'.l.length; have := hk.n1; dsimp only at this; omega)).1
  dsimp only at l1 l2
  intro ad off
  constructor
  · intro e; rw [ha] at e; cases e; omega
  · intro e; rw [hg] at e; cases e; omega

/-- The number in a box. -/
def boxOf (s : Value) (w : World) : Nat := match s with
  | .pointer (some a) => match w.cell? a with
    | some v => (intOf v).toNat
    | none => 0
  | _ => 0
theorem boxOf_eq {w : World} {b : Nat} {n : Int} (h : w.cell? ⟨b, 0, none⟩ = some (.int .i64 n)) : boxOf (.pointer (some ⟨b, 0, none⟩)) w = n.toNat := by
  simp [boxOf, h, intOf]
/-- A box with a number lies in block b. -/
def IBox (w : World) (b : Nat) (n : Int) : Prop := w.heap[b]? = some (.cells #[.int .i64 n] 3 (0, 0))
theorem IBox.cell {w : World} {b : Nat} {n : Int} (h : IBox w b n) : w.cell? ⟨b, 0, none⟩ = some (.int .i64 n) := (cell_at h 0).trans rfl
theorem IBox.frozen {w : World} {b : Nat} {n : Int} (h : IBox w b n) (i : Nat) : w.frozen? ⟨b, i, none⟩ = false := by simp [World.frozen?, show w.heap[b]? = _ from h]
theorem IBox.ext {w w' : World} {b : Nat} {n : Int} (h : IBox w b n) (k : Ext w w') : IBox w' b n := k.block h
theorem IBox.set {w : World} {b : Nat} {n : Int} (h : IBox w b n) (m : Int) : IBox (w.setCell ⟨b, 0, none⟩ (.int .i64 m)) b m := heap_setCell_same h _
theorem IBox.other {w : World} {b : Nat} {n : Int} (h : IBox w b n) (g i : Nat) (u : Value) (hne : b ≠ g) : IBox (w.setCell ⟨g, i, none⟩ u) b n := heap_set_other _ _ _ _ h hne
theorem IBox.lt {w : World} {b : Nat} {n : Int} (h : IBox w b n) : b < w.heap.size := (Array.getElem?_eq_some_iff.1 h).1
theorem ibox_new (w : World) (n : Int) : IBox (w.alloc (.cells #[.int .i64 n] 3)) w.heap.size n := World.alloc_heap_new _ _
/-- A profile at work is left alone by stores into other blocks. -/
theorem Wk.other {w : World} {B : Nat} {d : Bool} {v : PV} {S : Nat → Nat → Bool} (h : Wk w B d v S) (g i : Nat) (u : Value) (hB : B ≠ g) (hne : ∀ ad off, (v.at'.a = some ⟨ad, off, none⟩ → ad ≠ g) ∧ (v.gr.a = some ⟨ad, off, none⟩ → ad ≠ g)) : Wk (w.setCell ⟨g, i, none⟩ u) B d v S := by
  obtain ⟨cs, h1, h2⟩ := h.blk
  have hs : ∀ {α : Type} {sz : Nat} {ce : α → Nat → Value} {s : SL α}, IsSl sz ce w s → (∀ ad off, s.a = some ⟨ad, off, none⟩ → ad ≠ g) → IsSl sz ce (w.setCell ⟨g, i, none⟩ u) s := by
    intro α sz ce s hs hne
    obtain ⟨q1, q2, q3⟩ := hs
    refine ⟨q1, q2, ?_⟩
    rcases q3 with q3 | ⟨g', off, q3, q4⟩
    · exact .inl q3
    · exact .inr ⟨g', off, q3, fun i' hi j hj => (World.cell?_of_block (a := ⟨g', off + i' * sz + j, none⟩) (Below.heap_setCell _ _ _ _ (hne g' off q3))).trans (q4 i' hi j hj)⟩
  exact ⟨⟨hs h.is.at' (fun ad off => (hne ad off).1), hs h.is.gr (fun ad off => (hne ad off).2)⟩, cs, heap_set_other _ _ _ _ h1 hB, h2⟩

theorem enters_87 : Enters Try.prog 87 := fun args w => Proofs.enters_of Try.func87 (by kernel_rfl) rfl args w

set_option maxRecDepth 100000 in
set_option maxHeartbeats 4000000 in
theorem look_any (cs : Array Value) (d : Bool) (v : PV) (w : World) (hcs : WC cs d v (fun _ _ => false)) (hp : IsP w v) (hk : OkP v.p) :
    Calls Try.prog 72 #[.agg cs] w fun e w' => e = .returned (.pointer (some ⟨w.heap.size, 0, none⟩)) ∧ Wk w' w.heap.size d v (allF d v.p) ∧ Ext w w' := by
  have HW0 : Hid (Wk (w.alloc (.cells cs 115)) w.heap.size d v (tabF d v.p 0 0)) := by
    rw [tabF_zero _ _ _ (Nat.zero_le _)]
    exact ⟨hp.ext ((Ext.refl w).alloc _), cs, World.alloc_heap_new w _, hcs⟩
  have HOff := Lib.hid (HW0.out.off hp hk (Nat.le_refl _))
  have HX0 : Hid (Ext w (w.alloc (.cells cs 115))) := (Ext.refl w).alloc _
  have hinf : (Try.prog.info? 115).map (·.size) = some cs.size := by rw [hcs.sz]; kernel_rfl
  have HInf := Lib.hid hinf; clear hinf
  have HK := Lib.hid hk
  have hn2 := hk.n2
  have hn1 := hk.n1
  dsimp only at hn1 hn2
  clear hcs hp hk
  have HE : ∀ args w, (callFunc 87 args).run Try.prog w = .ok (.enter 87 args) w := enters_87
  have c0 := HW0.out.wh.c0
  go_enter Try.func72, Try.ntmps72
  go_wp2_with fail
  clear c0
  generalize hW0 : w.alloc (.cells cs 115) = V0 at *
  clear hW0
  go_loopw [11] (fun i wr => ∃ q : Nat, q ≤ v.at'.l.length ∧ i = .int .i64 (q : Int) ∧ Hid (Wk wr w.heap.size d v (tabF d v.p q 0)) ∧ Hid (Ext w wr)) (fun i _ => v.at'.l.length - (intOf i).toNat)
  case atStart => exact ⟨0, Nat.zero_le _, rfl, HW0, HX0⟩
  case round =>
    clear HW0 HX0
    obtain ⟨wo, rfl⟩ : ∃ wo : World, wo = wr := ⟨_, rfl⟩
    obtain ⟨q, hq, rfl, HW, HX⟩ := hrel
    by_cases hltq : q < v.at'.l.length
    · have dq : decide ((q : Int) < (v.at'.l.length : Int)) = true := decide_eq_true (by omega)
      have c0 := HW.out.wh.c0
      have dq2 : (q : Int) < (v.at'.l.length : Int) := by omega
      have hws := HX.out.size
      have HWi : Hid (Wk (wo.alloc (.cells #[.int .i64 (q : Int)] 3)) w.heap.size d v (tabF d v.p q (q + 1))) := (HW.out.congr (fun f t _ _ => by unfold tabF; cases h1 : (decide (f < t) && (decide (t < v.p.A.length) && seesF d v.p f t)); simp; simp only [Bool.and_eq_true, decide_eq_true_eq] at h1; rw [Bool.and_true, Bool.and_true, Bool.eq_iff_iff]; simp only [Bool.or_eq_true, Bool.and_eq_true, decide_eq_true_eq]; omega)).ext ((Ext.refl _).alloc _)
      have HXi : Hid (Ext w (wo.alloc (.cells #[.int .i64 (q : Int)] 3))) := HX.out.alloc _
      have ci : (wo.alloc (.cells #[.int .i64 (q : Int)] 3)).cell? ⟨wo.heap.size, 0, none⟩ = some (.int .i64 (q : Int)) := (cell_at (World.alloc_heap_new _ _) 0).trans rfl
      go_wp2
      go_step3
      go_wp2
      go_step3
      clear c0
      have hne : wo.heap.size ≠ w.heap.size := by have := HW.out.lt; omega
      generalize hob : wo.heap.size = ob at *
      generalize hVV : wo.alloc (.cells #[.int .i64 (q : Int)] 3) = wi at *
      clear hVV
      have HB0 : Hid (IBox (wi.alloc (.cells #[.int .i64 ((q : Int) + 1)] 3)) wi.heap.size (((q + 1 : Nat) : Int))) := ibox_new wi ((q + 1 : Nat) : Int)
      have HC0 : Hid ((wi.alloc (.cells #[.int .i64 ((q : Int) + 1)] 3)).cell? ⟨ob, 0, none⟩ = some (.int .i64 (q : Int))) := ((Ext.refl wi).alloc _).cell ci
      have hob2 := lt_of_cell ci
      dsimp only at hob2
      have HN : Hid (ob ≠ wi.heap.size ∧ w.heap.size < wi.heap.size ∧ w.heap.size ≤ ob) := ⟨by omega, by have := HWi.out.lt; omega, hws⟩
      have HW1 := Lib.hid (HWi.out.ext ((Ext.refl wi).alloc (.cells #[.int .i64 ((q : Int) + 1)] 3)))
      have HX1 := Lib.hid (HXi.out.alloc (.cells #[.int .i64 ((q : Int) + 1)] 3))
      have HNe := Lib.hid hne
      clear HWi HXi hob hne hws
      go_wp2_with fail
      clear ci hob2
      generalize wi.alloc (.cells #[.int .i64 ((q : Int) + 1)] 3) = W1 at *
      generalize hjb : wi.heap.size = jb0 at *
      clear hjb
      go_loopw [4] (fun s wr => ∃ j jb : Nat, s = .pointer (some ⟨jb, 0, none⟩) ∧ j ≤ v.at'.l.length ∧ q < j ∧ Hid (IBox wr jb (j : Int)) ∧ Hid (wr.cell? ⟨ob, 0, none⟩ = some (.int .i64 (q : Int))) ∧ Hid (ob ≠ jb ∧ w.heap.size < jb ∧ w.heap.size ≤ ob) ∧ Hid (Wk wr w.heap.size d v (tabF d v.p q j)) ∧ Hid (Ext w wr)) (fun s wr => v.at'.l.length - boxOf s wr)
      case atStart => exact ⟨q + 1, jb0, rfl, by omega, by omega, HB0, HC0, HN, HW1, HX1⟩
      case round =>
        clear HB0 HC0 HN HW1 HX1
        obtain ⟨wx, rfl⟩ : ∃ wx : World, wx = wr := ⟨_, rfl⟩
        obtain ⟨j, jb, rfl, hj, hqj, HB, HC, HN, HWj, HXj⟩ := hrel
        have c0 := HWj.out.wh.c0
        have ci := HC.out
        have cj := HB.out.cell
        by_cases hlj : j < v.at'.l.length
        · have dj : (j : Int) < (v.at'.l.length : Int) := by omega
          have dj2 : decide ((j : Int) < (v.at'.l.length : Int)) = true := decide_eq_true dj
          go_wp2_with fail
          go_loopw [6] (fun s wr => ∃ k : Nat, s = .int .i64 (k : Int) ∧ q < k ∧ k ≤ j ∧ Hid (∀ k', q < k' → k' < k → needF d v.p q k' j ≤ v.T) ∧ Hid (Ext wx wr)) (fun s _ => j - (intOf s).toNat)
          case atStart => exact ⟨q + 1, rfl, by omega, by omega, fun k' h1 h2 => by omega, Ext.refl _⟩
          case round =>
            obtain ⟨wy, rfl⟩ : ∃ wy : World, wy = wr := ⟨_, rfl⟩
            obtain ⟨k, rfl, hqk, hkj, HA, HXk⟩ := hrel
            have cj' := HXk.out.cell cj
            by_cases hlk : k < j
            · have dk : (k : Int) < (j : Int) := by omega
              have dk2 : decide ((k : Int) < (j : Int)) = true := decide_eq_true dk
              have HH := Lib.hid (hides_any w.heap.size ob jb d v q k j wy ((HWj.out.ext HXk.out).wh) HK.out hqk hlk hlj (HXk.out.cell ci) cj')
              go_wp2_with fail
              refine HH.out.mono ?_
              rintro e w2 ⟨rfl, hx2⟩
              have HX2 : Hid (Ext wx w2) := HXk.out.trans hx2
              clear hx2 HH
              by_cases hT : v.T < needF d v.p q k j
              · have dT : decide (v.T < needF d v.p q k j) = true := decide_eq_true hT
                have HNo : Hid (seesF d v.p q j = false) := by
                  show _ = _
                  cases hs : seesF d v.p q j
                  · rfl
                  · have h2 := seesF_iff.1 hs k hqk hlk; have h3 : v.p.T = v.T := rfl; omega
                rw [dT]
                have c0' := HX2.out.cell c0
                have cj2 := HX2.out.cell cj
                have hws2 := HX2.out.size
                have hjlt := HB.out.lt
                have hwl := HWj.out.lt
                go_wp2_with fail
                go_roundw
                case rel => exact ⟨j + 1, w2.heap.size, rfl, by omega, by omega, ibox_new w2 ((j + 1 : Nat) : Int), (HX2.out.alloc _).cell ci, ⟨by have := lt_of_cell ci; dsimp only at this; omega, by omega, HN.out.2.2⟩, by rw [← tabF_no HNo.out]; exact HWj.out.ext (HX2.out.alloc _), (HXj.out.trans HX2.out).alloc _⟩
                case measure =>
                  rw [boxOf_eq cj, boxOf_eq ((ibox_new w2 ((j : Int) + 1)).cell)]
                  omega
              · have dT : decide (v.T < needF d v.p q k j) = false := decide_eq_false hT
                have HA2 : Hid (∀ k', q < k' → k' < k + 1 → needF d v.p q k' j ≤ v.T) := fun k' h1 h2 => by
                  by_cases h : k' < k
                  · exact HA.out k' h1 h
                  · obtain rfl : k' = k := by omega
                    omega
                rw [dT]
                clear hT dT
                go_wp2
                go_roundw
                case rel => exact ⟨k + 1, by go_num, by omega, by omega, HA2, HX2⟩
                case measure => simp [intOf]; omega
            · have hke : k = j := by omega
              subst hke
              have HYes : Hid (seesF d v.p q k = true) := seesF_iff.2 HA.out
              have dk2 : decide ((k : Int) < (k : Int)) = false := decide_eq_false (by omega)
              have i1 : (0 : Int) ≤ (q : Int) := by omega
              have i2 : (q : Int) < 40 := by omega
              have i3 : (0 : Int) ≤ (k : Int) := by omega
              have i4 : (k : Int) < 40 := by omega
              have HWk := Lib.hid (HWj.out.ext HXk.out)
              have ct := HWk.out.cell q k (by omega) (by omega)
              have ft := HWk.out.frozen (7 + q * 40 + k)
              have ci' := HXk.out.cell ci
              generalize tabF d v.p q k q k = tb at ct
              have HSet := Lib.hid (HWk.out.set q k (by omega) (by omega) true HOff.out)
              have HT : Hid (upd (tabF d v.p q k) q k true = tabF d v.p q (k + 1)) := tabF_yes hqk hlj HYes.out
              have hwlt := HWk.out.lt
              have hjb3 := HXk.out.size
              have cb3 := ((HB.out.ext HXk.out).other w.heap.size (7 + q * 40 + k) (.bool true) (by have := HN.out; omega))
              have HB3 := Lib.hid cb3
              have cj3 := cb3.cell
              clear cb3
              have ci3 : (wy.setCell ⟨w.heap.size, 7 + q * 40 + k, none⟩ (.bool true)).cell? ⟨ob, 0, none⟩ = some (.int .i64 (q : Int)) := (World.cell?_of_block (a := ⟨ob, 0, none⟩) (Below.heap_setCell _ _ _ _ (fun e => HNe.out e))).trans ci'
              have HCi3 := Lib.hid ci3
              have HX3 : Hid (Ext w (wy.setCell ⟨w.heap.size, 7 + q * 40 + k, none⟩ (.bool true))) := (HXj.out.trans HXk.out).setCell (Nat.le_refl _) _
              have HJb := Lib.hid HB.out.lt
              go_wp2_with fail
              go_region
              generalize wy.setCell ⟨w.heap.size, 7 + q * 40 + k, none⟩ (.bool true) = w3 at *
              have hs3 := HB3.out.lt
              have hw3 := HSet.out.lt
              go_wp2_with fail
              go_roundw
              case rel => exact ⟨k + 1, w3.heap.size, rfl, by omega, by omega, ibox_new w3.drew ((k + 1 : Nat) : Int), ((Ext.refl w3).drew.alloc _).cell ci3, ⟨by have := lt_of_cell ci3; dsimp only at this; omega, by omega, HN.out.2.2⟩, by rw [← HT.out]; exact HSet.out.ext ((Ext.refl w3).drew.alloc _), (HX3.out.drew).alloc _⟩
              case measure =>
                rw [boxOf_eq cj, boxOf_eq (((ibox_new w3 ((k : Int) + 1)).ext (Ext.refl _).drew).cell)]
                omega
        · have dj2 : decide ((j : Int) < (v.at'.l.length : Int)) = false := decide_eq_false (by omega)
          have hje : j = v.at'.l.length := by omega
          have HJe := Lib.hid hje; clear hje
          go_wp2
          show Exit.then _ (fun _ _ _ => True) .normal _ _
          go_wp2
          go_roundw
          case rel => exact ⟨q + 1, by omega, by go_num, by rw [← tabF_row d v.p q j 0 (by rw [HJe.out]; exact Nat.le_refl _) (by omega)]; exact HWj, HXj⟩
          case measure => simp [intOf]; omega
    · have dq : decide ((q : Int) < (v.at'.l.length : Int)) = false := decide_eq_false (by omega)
      have hqe : q = v.at'.l.length := by omega
      have HQe := Lib.hid hqe; clear hqe
      go_wp2
      go_ret
      exact ⟨rfl, by have := HW.out; rw [HQe.out] at this; exact tabF_all d v.p 0 ▸ this, HX.out⟩
end Go.Proofs.Ytfognlealnhodaa
