/-
  The region of Made that appends a place, its span and its true height: what holds in between, whichever order is drawn. Nothing is claimed of the program here.
-/
import Derived.Test.YtfognlealnhodaaRI
import Derived.Test.YtfognlealnhodaaDA
import Derived.Test.YtfognlealnhodaaCS
import Derived.Deep.AppendLies
namespace Go.Proofs.Ytfognlealnhodaa
open Go.RowKit

/-- What the region begins with. -/
structure R12 where
  n0 : Nat
  p : Nat
  sB : Nat
  at' : Nat
  h : Nat
  lo : Nat
  hi : Nat
  T0 : Nat
  B0 : Nat
  B1 : Nat
  A : SL Nat
  T : SL Nat
  G : SL (Nat × Nat)
def simE (q : R12) (i : Nat) : Value :=
  if i = 0 ∨ i = 14 then .pointer (some ⟨q.p, 0, none⟩) else if i = 1 then .slice q.A.a q.A.l.length q.A.c else if i = 2 then .int .i64 (q.at' : Int) else if i = 5 ∨ i = 16 then .pointer (some ⟨q.p, 1, none⟩) else if i = 6 then .slice q.G.a q.G.l.length q.G.c else if i = 7 then .agg #[.int .i64 (q.lo : Int), .int .i64 (q.hi : Int)] else if i = 10 then .slice q.T.a q.T.l.length q.T.c else .int .i64 (q.h : Int)
def smp (i : Nat) : Prop := i = 0 ∨ i = 1 ∨ i = 2 ∨ i = 5 ∨ i = 6 ∨ i = 7 ∨ i = 10 ∨ i = 11 ∨ i = 14 ∨ i = 16
/-- What holds with the operations L done. -/
structure I12 (q : R12) (v : World) (L : Nat → Prop) (x : Nat → Value) (w : World) : Prop where
  sim : ∀ i, smp i → L i → x i = simE q i
  keep : Keep (fun b => b < q.n0 ∧ b ≠ q.p) v w
  big : q.n0 ≤ w.heap.size
  box : ∃ u0 u1, w.heap[q.p]? = some (.cells #[u0, u1, .int .i64 (q.T0 : Int), .int .i64 (q.B0 : Int), .int .i64 (q.B1 : Int)] 30 (0, 0)) ∧ (¬ L 15 → u0 = .slice q.A.a q.A.l.length q.A.c) ∧ (L 15 → u0 = x 4) ∧ (¬ L 17 → u1 = .slice q.G.a q.G.l.length q.G.c) ∧ (L 17 → u1 = x 9)
  sbx : ¬ L 9 → w.heap[q.sB]? = some (.cells #[.int .i64 (q.lo : Int), .int .i64 (q.hi : Int)] 28 (0, 0))
  a3 : L 3 → ∃ b, x 3 = .slice (some ⟨b, 0, none⟩) 1 1 ∧ (¬ L 4 → w.heap[b]? = some (.cells (nums [q.at']).toArray 3 (0, 0)))
  a8 : L 8 → ∃ b, x 8 = .slice (some ⟨b, 0, none⟩) 1 1 ∧ (¬ L 9 → w.heap[b]? = some (.cells (flat 2 spC [(q.lo, q.hi)]).toArray 28 (0, 0)))
  a12 : L 12 → ∃ b, x 12 = .slice (some ⟨b, 0, none⟩) 1 1 ∧ (¬ L 13 → w.heap[b]? = some (.cells (nums [q.h]).toArray 3 (0, 0)) ∧ (¬ L 4 → q.A.v.ownBlock ≠ some b))
  rA0 : ¬ L 4 → w.ownsRow q.n0 3 1 q.A.v q.A.l.length (nums q.A.l)
  rA1 : L 4 → ∃ g c, x 4 = .slice (some ⟨g, 0, none⟩) (q.A.l.length + 1) c ∧ w.ownsRow q.n0 3 1 (.slice (some ⟨g, 0, none⟩) (q.A.l.length + 1) c) (q.A.l.length + 1) (nums (q.A.l ++ [q.at'])) ∧ (¬ L 13 → q.T.v.ownBlock ≠ some g) ∧ (L 13 → (x 13).ownBlock ≠ some g)
  rG0 : ¬ L 9 → w.ownsRow q.n0 28 2 q.G.v q.G.l.length (flat 2 spC q.G.l)
  rG1 : L 9 → ∃ g c, x 9 = .slice (some ⟨g, 0, none⟩) (q.G.l.length + 1) c ∧ w.ownsRow q.n0 28 2 (.slice (some ⟨g, 0, none⟩) (q.G.l.length + 1) c) (q.G.l.length + 1) (flat 2 spC (q.G.l ++ [(q.lo, q.hi)]))
  rT0 : ¬ L 13 → w.ownsRow q.n0 3 1 q.T.v q.T.l.length (nums q.T.l)
  rT1 : L 13 → ∃ g c, x 13 = .slice (some ⟨g, 0, none⟩) (q.T.l.length + 1) c ∧ w.ownsRow q.n0 3 1 (.slice (some ⟨g, 0, none⟩) (q.T.l.length + 1) c) (q.T.l.length + 1) (nums (q.T.l ++ [q.h]))
  fin : L 18 → x 18 = x 13
section
variable {q : R12} {v w : World} {L : Nat → Prop} {x : Nat → Value}
theorem updV_other {x : Nat → Value} {k n : Nat} {u : Value} (h : n ≠ k) : updV x k u n = x n := by unfold updV; rw [if_neg h]
theorem updV_same (x : Nat → Value) (k : Nat) (u : Value) : updV x k u k = u := by unfold updV; rw [if_pos rfl]
theorem smp_ne {i : Nat} (h : smp i) : i ≠ 3 ∧ i ≠ 4 ∧ i ≠ 8 ∧ i ≠ 9 ∧ i ≠ 12 ∧ i ≠ 13 ∧ i ≠ 15 ∧ i ≠ 17 ∧ i ≠ 18 := by unfold smp at h; omega
/-- An operation that neither appends nor stores. -/
theorem I12.mark (h : I12 q v L x w) (i : Nat) (u : Value) (hi : i ≠ 4 ∧ i ≠ 9 ∧ i ≠ 13 ∧ i ≠ 15 ∧ i ≠ 17 ∧ i ≠ 18) (hs : smp i → u = simE q i)
    (h3 : i = 3 → ∃ b, u = .slice (some ⟨b, 0, none⟩) 1 1 ∧ w.heap[b]? = some (.cells (nums [q.at']).toArray 3 (0, 0)))
    (h8 : i = 8 → ∃ b, u = .slice (some ⟨b, 0, none⟩) 1 1 ∧ w.heap[b]? = some (.cells (flat 2 spC [(q.lo, q.hi)]).toArray 28 (0, 0)))
    (h12 : i = 12 → ∃ b, u = .slice (some ⟨b, 0, none⟩) 1 1 ∧ w.heap[b]? = some (.cells (nums [q.h]).toArray 3 (0, 0)) ∧ (¬ L 4 → q.A.v.ownBlock ≠ some b)) :
    I12 q v (fun n => n = i ∨ L n) (updV x i u) w := by
  obtain ⟨n4, n9, n13, n15, n17, n18⟩ := hi
  refine ⟨fun n hn hl => ?_, h.keep, h.big, ?_, fun hn => h.sbx (fun hh => hn (.inr hh)), fun hl => ?_, fun hl => ?_, fun hl => ?_, fun hn => h.rA0 (fun hh => hn (.inr hh)), fun hl => ?_, fun hn => h.rG0 (fun hh => hn (.inr hh)), fun hl => ?_, fun hn => h.rT0 (fun hh => hn (.inr hh)), fun hl => ?_, fun hl => ?_⟩
  · by_cases e : n = i
    · subst e; rw [updV_same]; exact hs hn
    · rw [updV_other e]; exact h.sim n hn (hl.resolve_left e)
  · obtain ⟨u0, u1, h1, h2, h3, h4, h5⟩ := h.box
    exact ⟨u0, u1, h1, fun hn => h2 (fun hh => hn (.inr hh)), fun hl => by rw [updV_other (fun e => n4 e.symm)]; exact h3 (hl.resolve_left (fun e => n15 e.symm)), fun hn => h4 (fun hh => hn (.inr hh)), fun hl => by rw [updV_other (fun e => n9 e.symm)]; exact h5 (hl.resolve_left (fun e => n17 e.symm))⟩
  · by_cases e : i = 3
    · obtain ⟨b, h1, h2⟩ := h3 e; subst e; exact ⟨b, by rw [updV_same]; exact h1, fun _ => h2⟩
    · obtain ⟨b, h1, h2⟩ := h.a3 (hl.resolve_left (fun e' => e e'.symm))
      exact ⟨b, by rw [updV_other (fun e' => e e'.symm)]; exact h1, fun hn => h2 (fun hh => hn (.inr hh))⟩
  · by_cases e : i = 8
    · obtain ⟨b, h1, h2⟩ := h8 e; subst e; exact ⟨b, by rw [updV_same]; exact h1, fun _ => h2⟩
    · obtain ⟨b, h1, h2⟩ := h.a8 (hl.resolve_left (fun e' => e e'.symm))
      exact ⟨b, by rw [updV_other (fun e' => e e'.symm)]; exact h1, fun hn => h2 (fun hh => hn (.inr hh))⟩
  · by_cases e : i = 12
    · obtain ⟨b, h1, h2, k3⟩ := h12 e; subst e; exact ⟨b, by rw [updV_same]; exact h1, fun _ => ⟨h2, fun hn => k3 (fun hh => hn (.inr hh))⟩⟩
    · obtain ⟨b, h1, h2⟩ := h.a12 (hl.resolve_left (fun e' => e e'.symm))
      exact ⟨b, by rw [updV_other (fun e' => e e'.symm)]; exact h1, fun hn => ⟨(h2 (fun hh => hn (.inr hh))).1, fun hn4 => (h2 (fun hh => hn (.inr hh))).2 (fun hh => hn4 (.inr hh))⟩⟩
  · obtain ⟨g, c, h1, h2, h3, h4⟩ := h.rA1 (hl.resolve_left (fun e => n4 e.symm))
    exact ⟨g, c, by rw [updV_other (fun e => n4 e.symm)]; exact h1, h2, fun hn => h3 (fun hh => hn (.inr hh)), fun hl => by rw [updV_other (fun e => n13 e.symm)]; exact h4 (hl.resolve_left (fun e => n13 e.symm))⟩
  · obtain ⟨g, c, h1, h2⟩ := h.rG1 (hl.resolve_left (fun e => n9 e.symm))
    exact ⟨g, c, by rw [updV_other (fun e => n9 e.symm)]; exact h1, h2⟩
  · obtain ⟨g, c, h1, h2⟩ := h.rT1 (hl.resolve_left (fun e => n13 e.symm))
    exact ⟨g, c, by rw [updV_other (fun e => n13 e.symm)]; exact h1, h2⟩
  · rw [updV_other (fun e => n18 e.symm), updV_other (fun e => n13 e.symm)]; exact h.fin (hl.resolve_left (fun e => n18 e.symm))
theorem I12.simple (h : I12 q v L x w) (i : Nat) (hi : smp i) : I12 q v (fun n => n = i ∨ L n) (updV x i (simE q i)) w :=
  have hh := smp_ne hi
  h.mark i _ ⟨hh.2.1, hh.2.2.2.1, hh.2.2.2.2.2.1, hh.2.2.2.2.2.2.1, hh.2.2.2.2.2.2.2.1, hh.2.2.2.2.2.2.2.2⟩ (fun _ => rfl) (fun e => absurd e hh.1) (fun e => absurd e hh.2.2.1) (fun e => absurd e hh.2.2.2.2.1)
/-- The same in a world that extends this one. -/
theorem I12.ext {w' : World} (h : I12 q v L x w) (k : Ext w w') : I12 q v L x w' := by
  refine ⟨h.sim, h.keep.ext k, Nat.le_trans h.big k.size, ?_, fun hn => k.block (h.sbx hn), fun hl => ?_, fun hl => ?_, fun hl => ?_, fun hn => own_ext (h.rA0 hn) k, fun hl => ?_, fun hn => own_ext (h.rG0 hn) k, fun hl => ?_, fun hn => own_ext (h.rT0 hn) k, fun hl => ?_, h.fin⟩
  · obtain ⟨u0, u1, h1, h2⟩ := h.box
    exact ⟨u0, u1, k.block h1, h2⟩
  · obtain ⟨b, h1, h2⟩ := h.a3 hl; exact ⟨b, h1, fun hn => k.block (h2 hn)⟩
  · obtain ⟨b, h1, h2⟩ := h.a8 hl; exact ⟨b, h1, fun hn => k.block (h2 hn)⟩
  · obtain ⟨b, h1, h2⟩ := h.a12 hl; exact ⟨b, h1, fun hn => ⟨k.block (h2 hn).1, (h2 hn).2⟩⟩
  · obtain ⟨g, c, h1, h2, h3⟩ := h.rA1 hl; exact ⟨g, c, h1, own_ext h2 k, h3⟩
  · obtain ⟨g, c, h1, h2⟩ := h.rG1 hl; exact ⟨g, c, h1, own_ext h2 k⟩
  · obtain ⟨g, c, h1, h2⟩ := h.rT1 hl; exact ⟨g, c, h1, own_ext h2 k⟩
theorem own_type {w : World} {base : Nat} {e : TypeId} {size : Nat} {u : Value} {n : Nat} {xs : List Value} (h : w.ownsRow base e size u n xs) {k : Nat} (hk : u.ownBlock = some k) : base ≤ k ∧ k < w.heap.size ∧ ∃ cur, w.heap[k]? = some (.cells cur e (0, 0)) := by
  obtain ⟨h1, h2⟩ := h
  rcases h2 with ⟨rfl, _⟩ | ⟨g, cap, cur, rfl, hb, hh, _⟩
  · cases hk
  · cases hk; exact ⟨hb, (Array.getElem?_eq_some_iff.1 hh).1, cur, hh⟩
theorem own_grown {w w' : World} {base : Nat} {e : TypeId} {size : Nat} {u : Value} {n : Nat} {xs : List Value} {row : Option Nat} (h : w.ownsRow base e size u n xs) (g : w.grownBy w' row) (hr : ∀ k, u.ownBlock = some k → row ≠ some k) : w'.ownsRow base e size u n xs := by
  obtain ⟨h1, h2⟩ := h
  refine ⟨h1, ?_⟩
  rcases h2 with h2 | ⟨b, cap, cur, rfl, hb, hh, r⟩
  · exact .inl h2
  · exact .inr ⟨b, cap, cur, rfl, hb, (g.block b (Array.getElem?_eq_some_iff.1 hh).1 (fun e => hr b rfl e.symm)).trans hh, r⟩
theorem blk_grown {w w' : World} {row : Option Nat} {b : Nat} {o : Obj} (g : w.grownBy w' row) (h : w.heap[b]? = some o) (hr : row ≠ some b) : w'.heap[b]? = some o := (g.block b (Array.getElem?_eq_some_iff.1 h).1 (fun e => hr e.symm)).trans h
theorem type_ne {w : World} {k b : Nat} {c1 c2 : Array Value} {t1 t2 : TypeId} (h1 : w.heap[k]? = some (.cells c1 t1 (0, 0))) (h2 : w.heap[b]? = some (.cells c2 t2 (0, 0))) (ht : t1 ≠ t2) : k ≠ b := by
  intro e; subst e; rw [h1] at h2; simp only [Option.some.injEq, Obj.cells.injEq] at h2; exact ht h2.2.1
theorem I12.app4 (h : I12 q v L x w) (hp : q.p < q.n0) (hap : ∀ k, q.A.v.ownBlock = some k → q.T.v.ownBlock ≠ some k) (N4 : ¬ L 4) (N9 : ¬ L 9) (N13 : ¬ L 13) (N15 : ¬ L 15) (N17 : ¬ L 17) (N18 : ¬ L 18) {w' : World} {g c : Nat}
    (ho : w'.ownsRow q.n0 3 1 (.slice (some ⟨g, 0, none⟩) (q.A.l.length + 1) c) (q.A.l.length + 1) (nums (q.A.l ++ [q.at']))) (hg : w.grownBy w' q.A.v.ownBlock) (hl : q.A.v.ownBlock = some g ∨ g = w.heap.size) :
    I12 q v (fun n => n = 4 ∨ L n) (updV x 4 (.slice (some ⟨g, 0, none⟩) (q.A.l.length + 1) c)) w' := by
  have hA := h.rA0 N4
  refine ⟨fun n hn hl => ?_, h.keep.grown hg (fun k e _ hd => by have := (own_type hA e).1; omega), Nat.le_trans h.big hg.size, ?_, fun _ => ?_, fun _ => ?_, fun hl => ?_, fun hl => ?_, fun hn => (hn (.inl rfl)).elim, fun _ => ?_, fun _ => ?_, fun hl => ?_, fun _ => ?_, fun hl => ?_, fun hl => ?_⟩
  · have := (smp_ne hn).2.1
    rw [updV_other this]; exact h.sim n hn (hl.resolve_left this)
  · obtain ⟨u0, u1, h1, h2, h3, h4, h5⟩ := h.box
    refine ⟨u0, u1, blk_grown hg h1 (fun e => by have := (own_type hA e).1; omega), fun _ => h2 N15, fun hl => (N15 (hl.resolve_left (by omega))).elim, fun _ => h4 N17, fun hl => (N17 (hl.resolve_left (by omega))).elim⟩
  · have hs := h.sbx N9
    exact blk_grown hg hs (fun e => by obtain ⟨_, _, cur, hc⟩ := own_type hA e; exact type_ne hc hs (by decide) rfl)
  · rename_i hl3
    obtain ⟨b, h1, h2⟩ := h.a3 (hl3.resolve_left (by omega))
    exact ⟨b, by rw [updV_other (by omega)]; exact h1, fun hn => (hn (.inl rfl)).elim⟩
  · obtain ⟨b, h1, h2⟩ := h.a8 (hl.resolve_left (by omega))
    have h3 := h2 N9
    exact ⟨b, by rw [updV_other (by omega)]; exact h1, fun _ => blk_grown hg h3 (fun e => by obtain ⟨_, _, cur, hc⟩ := own_type hA e; exact type_ne hc h3 (by decide) rfl)⟩
  · obtain ⟨b, h1, h2⟩ := h.a12 (hl.resolve_left (by omega))
    obtain ⟨h3, h4⟩ := h2 N13
    exact ⟨b, by rw [updV_other (by omega)]; exact h1, fun _ => ⟨blk_grown hg h3 (h4 N4), fun hn => (hn (.inl rfl)).elim⟩⟩
  · refine ⟨g, c, updV_same _ _ _, ho, fun _ e => ?_, fun hl => (N13 (hl.resolve_left (by omega))).elim⟩
    rcases hl with hl | hl
    · exact hap g hl e
    · have := (own_type (h.rT0 N13) e).2.1; omega
  · exact own_grown (h.rG0 N9) hg (fun k e e2 => by obtain ⟨_, _, c1, h1⟩ := own_type (h.rG0 N9) e; obtain ⟨_, _, c2, h2⟩ := own_type hA e2; exact type_ne h2 h1 (by decide) rfl)
  · exact (N9 (hl.resolve_left (by omega))).elim
  · exact own_grown (h.rT0 N13) hg (fun k e e2 => hap k e2 e)
  · exact (N13 (hl.resolve_left (by omega))).elim
  · exact (N18 (hl.resolve_left (by omega))).elim
theorem I12.app9 (h : I12 q v L x w) (hp : q.p < q.n0) (L4 : L 4) (N9 : ¬ L 9) (N13 : ¬ L 13) (N15 : ¬ L 15) (N17 : ¬ L 17) (N18 : ¬ L 18) {w' : World} {g c : Nat}
    (ho : w'.ownsRow q.n0 28 2 (.slice (some ⟨g, 0, none⟩) (q.G.l.length + 1) c) (q.G.l.length + 1) (flat 2 spC (q.G.l ++ [(q.lo, q.hi)]))) (hg : w.grownBy w' q.G.v.ownBlock) :
    I12 q v (fun n => n = 9 ∨ L n) (updV x 9 (.slice (some ⟨g, 0, none⟩) (q.G.l.length + 1) c)) w' := by
  have hG := h.rG0 N9
  refine ⟨fun n hn hl => ?_, h.keep.grown hg (fun k e _ hd => by have := (own_type hG e).1; omega), Nat.le_trans h.big hg.size, ?_, fun hn => (hn (.inl rfl)).elim, fun hl => ?_, fun hl => ?_, fun hl => ?_, fun hn => (hn (.inr L4)).elim, fun _ => ?_, fun hn => (hn (.inl rfl)).elim, fun _ => ?_, fun _ => ?_, fun hl => ?_, fun hl => ?_⟩
  · have := (smp_ne hn).2.2.2.1
    rw [updV_other this]; exact h.sim n hn (hl.resolve_left this)
  · obtain ⟨u0, u1, h1, h2, h3, h4, h5⟩ := h.box
    refine ⟨u0, u1, blk_grown hg h1 (fun e => by have := (own_type hG e).1; omega), fun _ => h2 N15, fun hl => (N15 (hl.resolve_left (by omega))).elim, fun _ => h4 N17, fun hl => (N17 (hl.resolve_left (by omega))).elim⟩
  · obtain ⟨b, h1, h2⟩ := h.a3 (hl.resolve_left (by omega))
    exact ⟨b, by rw [updV_other (by omega)]; exact h1, fun hn => (hn (.inr L4)).elim⟩
  · obtain ⟨b, h1, h2⟩ := h.a8 (hl.resolve_left (by omega))
    exact ⟨b, by rw [updV_other (by omega)]; exact h1, fun hn => (hn (.inl rfl)).elim⟩
  · obtain ⟨b, h1, h2⟩ := h.a12 (hl.resolve_left (by omega))
    obtain ⟨h3, h4⟩ := h2 N13
    exact ⟨b, by rw [updV_other (by omega)]; exact h1, fun _ => ⟨blk_grown hg h3 (fun e => by obtain ⟨_, _, cur, hc⟩ := own_type hG e; exact type_ne hc h3 (by decide) rfl), fun hn => (hn (.inr L4)).elim⟩⟩
  · obtain ⟨g4, c4, h1, h2, h3, h4⟩ := h.rA1 L4
    refine ⟨g4, c4, by rw [updV_other (by omega)]; exact h1, own_grown h2 hg (fun k e e2 => by obtain ⟨_, _, q1, r1⟩ := own_type h2 e; obtain ⟨_, _, q2, r2⟩ := own_type hG e2; exact type_ne r2 r1 (by decide) rfl), fun _ => h3 N13, fun hl => (N13 (hl.resolve_left (by omega))).elim⟩
  · exact ⟨g, c, updV_same _ _ _, ho⟩
  · exact own_grown (h.rT0 N13) hg (fun k e e2 => by obtain ⟨_, _, q1, r1⟩ := own_type (h.rT0 N13) e; obtain ⟨_, _, q2, r2⟩ := own_type hG e2; exact type_ne r2 r1 (by decide) rfl)
  · exact (N13 (hl.resolve_left (by omega))).elim
  · exact (N18 (hl.resolve_left (by omega))).elim
theorem I12.app13 (h : I12 q v L x w) (hp : q.p < q.n0) (L4 : L 4) (L9 : L 9) (N13 : ¬ L 13) (N15 : ¬ L 15) (N17 : ¬ L 17) (N18 : ¬ L 18) {w' : World} {g c : Nat}
    (ho : w'.ownsRow q.n0 3 1 (.slice (some ⟨g, 0, none⟩) (q.T.l.length + 1) c) (q.T.l.length + 1) (nums (q.T.l ++ [q.h]))) (hg : w.grownBy w' q.T.v.ownBlock) (hl : q.T.v.ownBlock = some g ∨ g = w.heap.size) :
    I12 q v (fun n => n = 13 ∨ L n) (updV x 13 (.slice (some ⟨g, 0, none⟩) (q.T.l.length + 1) c)) w' := by
  have hT := h.rT0 N13
  refine ⟨fun n hn hl => ?_, h.keep.grown hg (fun k e _ hd => by have := (own_type hT e).1; omega), Nat.le_trans h.big hg.size, ?_, fun hn => (hn (.inr L9)).elim, fun hl => ?_, fun hl => ?_, fun hl => ?_, fun hn => (hn (.inr L4)).elim, fun _ => ?_, fun hn => (hn (.inr L9)).elim, fun _ => ?_, fun hn => (hn (.inl rfl)).elim, fun _ => ?_, fun hl => ?_⟩
  · have := (smp_ne hn).2.2.2.2.2.1
    rw [updV_other this]; exact h.sim n hn (hl.resolve_left this)
  · obtain ⟨u0, u1, h1, h2, h3, h4, h5⟩ := h.box
    refine ⟨u0, u1, blk_grown hg h1 (fun e => by have := (own_type hT e).1; omega), fun _ => h2 N15, fun hl => (N15 (hl.resolve_left (by omega))).elim, fun _ => h4 N17, fun hl => (N17 (hl.resolve_left (by omega))).elim⟩
  · obtain ⟨b, h1, h2⟩ := h.a3 (hl.resolve_left (by omega))
    exact ⟨b, by rw [updV_other (by omega)]; exact h1, fun hn => (hn (.inr L4)).elim⟩
  · obtain ⟨b, h1, h2⟩ := h.a8 (hl.resolve_left (by omega))
    exact ⟨b, by rw [updV_other (by omega)]; exact h1, fun hn => (hn (.inr L9)).elim⟩
  · obtain ⟨b, h1, h2⟩ := h.a12 (hl.resolve_left (by omega))
    exact ⟨b, by rw [updV_other (by omega)]; exact h1, fun hn => (hn (.inl rfl)).elim⟩
  · obtain ⟨g4, c4, h1, h2, h3, h4⟩ := h.rA1 L4
    have h5 := h3 N13
    refine ⟨g4, c4, by rw [updV_other (by omega)]; exact h1, own_grown h2 hg (fun k e e2 => by cases e; exact h5 e2), fun hn => (hn (.inl rfl)).elim, fun _ => ?_⟩
    rw [updV_same]
    intro e
    cases e
    rcases hl with hl | hl
    · exact h5 hl
    · have t : g < w.heap.size := (own_type h2 rfl).2.1; omega
  · obtain ⟨g9, c9, h1, h2⟩ := h.rG1 L9
    exact ⟨g9, c9, by rw [updV_other (by omega)]; exact h1, own_grown h2 hg (fun k e e2 => by obtain ⟨_, _, q1, r1⟩ := own_type h2 e; obtain ⟨_, _, q2, r2⟩ := own_type hT e2; exact type_ne r2 r1 (by decide) rfl)⟩
  · exact ⟨g, c, updV_same _ _ _, ho⟩
  · exact (N18 (hl.resolve_left (by omega))).elim
/-- A store into the profile's box. -/
theorem I12.st (h : I12 q v L x w) (hp : q.p < q.n0) (i : Nat) (hi : i = 15 ∨ i = 17) (L4 : L 4) (L9 : L 9) (L13 : L 13) (N18 : ¬ L 18) : I12 q v (fun n => n = i ∨ L n) x (w.setCell ⟨q.p, if i = 15 then 0 else 1, none⟩ (if i = 15 then x 4 else x 9)) := by
  have hk : ∀ (a : Nat) (u : Value), Keep (fun b => b ≠ q.p) w (w.setCell ⟨q.p, a, none⟩ u) := fun a u => (Keep.refl _ w).setCell _ _ (fun _ h => h rfl)
  refine ⟨fun n hn hl => h.sim n hn (hl.resolve_left (by have := smp_ne hn; omega)), h.keep.setCell _ _ (fun _ hd => hd.2 rfl), Nat.le_trans h.big (hk _ _).size, ?_, fun hn => (hn (.inr L9)).elim, fun hl => ?_, fun hl => ?_, fun hl => ?_, fun hn => (hn (.inr L4)).elim, fun _ => ?_, fun hn => (hn (.inr L9)).elim, fun _ => ?_, fun hn => (hn (.inr L13)).elim, fun _ => ?_, fun hl => (N18 (hl.resolve_left (by omega))).elim⟩
  · obtain ⟨u0, u1, h1, h2, h3, h4, h5⟩ := h.box
    have h6 := heap_setCell_same (i := if i = 15 then 0 else 1) h1 (if i = 15 then x 4 else x 9)
    rcases hi with rfl | rfl
    · refine ⟨x 4, u1, h6, fun hn => (hn (.inl rfl)).elim, fun _ => rfl, fun hn => h4 (fun hh => hn (.inr hh)), fun hl => h5 (hl.resolve_left (by omega))⟩
    · refine ⟨u0, x 9, h6, fun hn => h2 (fun hh => hn (.inr hh)), fun hl => h3 (hl.resolve_left (by omega)), fun hn => (hn (.inl rfl)).elim, fun _ => rfl⟩
  · obtain ⟨b, h1, h2⟩ := h.a3 (hl.resolve_left (by omega)); exact ⟨b, h1, fun hn => (hn (.inr L4)).elim⟩
  · obtain ⟨b, h1, h2⟩ := h.a8 (hl.resolve_left (by omega)); exact ⟨b, h1, fun hn => (hn (.inr L9)).elim⟩
  · obtain ⟨b, h1, h2⟩ := h.a12 (hl.resolve_left (by omega)); exact ⟨b, h1, fun hn => (hn (.inr L13)).elim⟩
  · obtain ⟨g, c, h1, h2, h3, h4⟩ := h.rA1 L4
    exact ⟨g, c, h1, own_keep h2 (hk _ _) (fun i hi => by omega), fun hn => (hn (.inr L13)).elim, fun _ => h4 L13⟩
  · obtain ⟨g, c, h1, h2⟩ := h.rG1 L9; exact ⟨g, c, h1, own_keep h2 (hk _ _) (fun i hi => by omega)⟩
  · obtain ⟨g, c, h1, h2⟩ := h.rT1 L13; exact ⟨g, c, h1, own_keep h2 (hk _ _) (fun i hi => by omega)⟩
theorem I12.as18 (h : I12 q v L x w) (L4 : L 4) (L9 : L 9) (L13 : L 13) : I12 q v (fun n => n = 18 ∨ L n) (updV x 18 (x 13)) w := by
  refine ⟨fun n hn hl => by have := smp_ne hn; rw [updV_other (by omega)]; exact h.sim n hn (hl.resolve_left (by omega)), h.keep, h.big, ?_, fun hn => (hn (.inr L9)).elim, fun hl => ?_, fun hl => ?_, fun hl => ?_, fun hn => (hn (.inr L4)).elim, fun _ => ?_, fun hn => (hn (.inr L9)).elim, fun _ => ?_, fun hn => (hn (.inr L13)).elim, fun _ => ?_, fun _ => by rw [updV_same, updV_other (by omega)]⟩
  · obtain ⟨u0, u1, h1, h2, h3, h4, h5⟩ := h.box
    exact ⟨u0, u1, h1, fun hn => h2 (fun hh => hn (.inr hh)), fun hl => by rw [updV_other (by omega)]; exact h3 (hl.resolve_left (by omega)), fun hn => h4 (fun hh => hn (.inr hh)), fun hl => by rw [updV_other (by omega)]; exact h5 (hl.resolve_left (by omega))⟩
  · obtain ⟨b, h1, h2⟩ := h.a3 (hl.resolve_left (by omega)); exact ⟨b, by rw [updV_other (by omega)]; exact h1, fun hn => (hn (.inr L4)).elim⟩
  · obtain ⟨b, h1, h2⟩ := h.a8 (hl.resolve_left (by omega)); exact ⟨b, by rw [updV_other (by omega)]; exact h1, fun hn => (hn (.inr L9)).elim⟩
  · obtain ⟨b, h1, h2⟩ := h.a12 (hl.resolve_left (by omega)); exact ⟨b, by rw [updV_other (by omega)]; exact h1, fun hn => (hn (.inr L13)).elim⟩
  · obtain ⟨g, c, h1, h2, h3, h4⟩ := h.rA1 L4
    exact ⟨g, c, by rw [updV_other (by omega)]; exact h1, h2, fun hn => (hn (.inr L13)).elim, fun _ => by rw [updV_other (by omega)]; exact h4 L13⟩
  · obtain ⟨g, c, h1, h2⟩ := h.rG1 L9; exact ⟨g, c, by rw [updV_other (by omega)]; exact h1, h2⟩
  · obtain ⟨g, c, h1, h2⟩ := h.rT1 L13; exact ⟨g, c, by rw [updV_other (by omega)]; exact h1, h2⟩
end
end Go.Proofs.Ytfognlealnhodaa
