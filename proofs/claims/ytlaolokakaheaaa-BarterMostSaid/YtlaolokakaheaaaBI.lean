/-
  What lies in memory while a statement on barters runs: the land in its box, the deck of what is tried, an exchange in its box; what the calls answer of them.
-/
import Derived.Test.YtlaolokakaheaaaEM
import Derived.Test.YtlaolokakaheaaaEV
namespace Go.Proofs.Ytlaolokakaheaaa
open Go.RowKit

/-- An exchange with so many parts. -/
abbrev exL (x : Ld) (W : Nat) (a : Option Addr) (c : Nat) : Value := .agg #[.int .i64 (W : Int), .slice a x.s.l.length c]
theorem OkL.of {L : List St} {v : List Nat} (h1 : 1 ≤ L.length) (h2 : L.length ≤ 16) (h3 : v.length ≤ 4) (h4 : ∀ x ∈ v, x ≤ 1) (h5 : ∀ x ∈ L, SOk v x) : OkL L v :=
  ⟨h1, h2, by omega, h4, fun x hx => (h5 x hx).o, fun x hx => ⟨(h5 x hx).n.1, by have := (h5 x hx).n.2; omega⟩, fun x hx => ⟨(h5 x hx).s.1, by have := (h5 x hx).s.2; omega⟩, fun x hx => (h5 x hx).w⟩
/-- The land and the deck. -/
structure BS (w : World) (D : Nat) (da : Option Addr) (dn dc k : Nat) (x : Ld) (LB : Nat) (V : World) : Prop where
  x0 : Ext w V
  dk : IsDeck V D da dn dc k
  lb : V.heap[LB]? = some (.cells #[.slice x.s.a x.s.l.length x.s.c, .slice x.v.a x.v.l.length x.v.c] 26 (0, 0))
  li : LIn V x
  ds : InB (fun b => b ≠ D) x.s
  dv : InB (fun b => b ≠ D) x.v
  dl : LB ≠ D
  dw : w.heap.size ≤ D
/-- An exchange in a box. -/
structure XS (D : Nat) (x : Ld) (W : Nat) (P : List Nat) (a : Option Addr) (c XB : Nat) (V : World) : Prop where
  blk : V.heap[XB]? = some (.cells #[.int .i64 (W : Int), .slice a x.s.l.length c] 31 (0, 0))
  e : EIn V x W a c P
  d : XB ≠ D
  da : InB (fun b => b ≠ D) ⟨a, c, P⟩
section
variable {w V V' : World} {D dn dc k k' LB XB W c : Nat} {da a : Option Addr} {x : Ld} {P : List Nat}
theorem BS.ext (h : BS w D da dn dc k x LB V) (e : Ext V V') : BS w D da dn dc k x LB V' :=
  ⟨h.x0.trans e, h.dk.ext e, e.block h.lb, h.li.ext e, h.ds, h.dv, h.dl, h.dw⟩
theorem XS.ext (h : XS D x W P a c XB V) (e : Ext V V') : XS D x W P a c XB V' := ⟨e.block h.blk, h.e.ext e, h.d, h.da⟩
theorem BS.turn (h : BS w D da dn dc k x LB V) (q : Keep (fun b => b ≠ D) V V') (d : IsDeck V' D da dn dc k') : BS w D da dn dc k' x LB V' :=
  ⟨ext_keep h.x0 q (fun i hi => by have := h.dw; omega), d, q.heap h.lb h.dl, ⟨h.li.st.keep q h.ds, h.li.vi.keep q h.dv, h.li.ok⟩, h.ds, h.dv, h.dl, h.dw⟩
theorem XS.turn (h : XS D x W P a c XB V) (q : Keep (fun b => b ≠ D) V V') (hs : InB (fun b => b ≠ D) x.s) (hv : InB (fun b => b ≠ D) x.v) : XS D x W P a c XB V' :=
  ⟨q.heap h.blk h.d, ⟨h.e.st.keep q hs, h.e.vi.keep q hv, h.e.ok, h.e.pa.keep q h.da, h.e.ln, h.e.w1, h.e.w2, h.e.le⟩, h.d, h.da⟩
theorem BS.c0 (h : BS w D da dn dc k x LB V) : V.cell? ⟨LB, 0, none⟩ = some (.slice x.s.a x.s.l.length x.s.c) := (cell_at h.lb 0).trans rfl
theorem BS.c1 (h : BS w D da dn dc k x LB V) : V.cell? ⟨LB, 1, none⟩ = some (.slice x.v.a x.v.l.length x.v.c) := (cell_at h.lb 1).trans rfl
theorem XS.c0 (h : XS D x W P a c XB V) : V.cell? ⟨XB, 0, none⟩ = some (.int .i64 (W : Int)) := (cell_at h.blk 0).trans rfl
theorem XS.c1 (h : XS D x W P a c XB V) : V.cell? ⟨XB, 1, none⟩ = some (.slice a x.s.l.length c) := (cell_at h.blk 1).trans rfl
theorem XS.new (h : EIn V x W a c P) (hd : D < V.heap.size) (hda : InB (fun b => b ≠ D) ⟨a, c, P⟩) : XS D x W P a c V.heap.size (V.alloc (.cells #[.int .i64 (W : Int), .slice a x.s.l.length c] 31)) :=
  ⟨alloc_new rfl, h.ext ((Ext.refl _).alloc _), by omega, hda⟩
/-- What the calls answer. -/
theorem Has_l (h : EIn V x W a c P) : Calls Try.prog 17 #[x.val, exL x W a c] V fun e w' => e = .returned (.tuple #[.int .i64 (hasN x.s.l P : Int), .int .i64 (hasS x.s.l W P : Int), .int .i64 0]) ∧ Ext V w' := by
  have q := Has_ok x W a c P V h
  unfold exV at q
  rw [h.ln] at q
  exact q
theorem Gains_l (h : EIn V x W a c P) : Calls Try.prog 11 #[x.val, exL x W a c] V fun e w' => e = .returned (.tuple #[.int .i64 (gainN x.s.l W P), .int .i64 (gainS x.s.l W P), .int .i64 0]) ∧ Ext V w' := by
  have q := Gains_ok x W a c P V h
  unfold exV at q
  rw [h.ln] at q
  exact q
theorem Best_l (h : EIn V x W a c P) : Calls Try.prog 13 #[x.val, exL x W a c] V fun e w' => e = .returned (.tuple #[.bool (bestF x.s.l W P), .int .i64 0]) ∧ Ext V w' := by
  have q := Best_ok x W a c P V h
  unfold exV at q
  rw [h.ln] at q
  exact q
theorem Fair_l (h : EIn V x W a c P) (ha : allowsF x.s.l W P = true) (h1 : 0 ≤ gainN x.s.l W P) (h2 : 0 ≤ gainS x.s.l W P) : Calls Try.prog 12 #[x.val, exL x W a c] V fun e w' => e = .returned (.tuple #[.bool true, .int .i64 0]) ∧ Ext V w' := by
  have q := Fair_ok x W a c P V h
  unfold exV at q
  rw [h.ln, ha, decide_eq_true h1, decide_eq_true h2] at q
  exact q
theorem Waste_l (h : EIn V x W a c P) (ha : allowsF x.s.l W P = true) : Calls Try.prog 19 #[x.val, exL x W a c] V fun e w' => e = .returned (wasteV (wasteF x.s.l W P)) ∧ Ext V w' := by
  have q := Waste_ok x W a c P V h ha
  unfold exV at q
  rw [h.ln] at q
  exact q
theorem Price_l {pa pb : Nat} (h : EIn V x W a c P) (hb : BestM x.s.l W P pa pb) : Calls Try.prog 14 #[x.val, exL x W a c] V fun e w' => e = .returned (.tuple #[.int .i64 (pa : Int), .int .i64 (pb : Int), .int .i64 0]) ∧ Ext V w' := by
  have q := Price_ok x W a c P V h
  unfold exV at q
  rw [h.ln, if_pos hb.best, hb.pr] at q
  exact q
theorem Price_no (h : EIn V x W a c P) (hb : bestF x.s.l W P = false) : Calls Try.prog 14 #[x.val, exL x W a c] V fun e w' => e = .returned (.tuple #[.int .i64 0, .int .i64 0, .int .i64 9]) ∧ Ext V w' := by
  have q := Price_ok x W a c P V h
  unfold exV at q
  rw [h.ln, if_neg (by rw [hb]; decide)] at q
  exact q
theorem Holds_l {pa pb : Nat} (h : EIn V x W a c P) (h1 : 1 ≤ pa ∧ pa ≤ 2000) (h2 : 1 ≤ pb ∧ pb ≤ 2000) : Calls Try.prog 15 #[x.val, exL x W a c, .int .i64 (pa : Int), .int .i64 (pb : Int)] V fun e w' => e = .returned (.tuple #[.bool (holdsF x.s.l W P pa pb), .int .i64 0]) ∧ Ext V w' := by
  have q := Holds_ok x W a c P pa pb V h h1 h2
  unfold exV at q
  rw [h.ln] at q
  exact q
theorem le_of (h : EIn V x W a c P) : ∀ i, i < x.s.l.length → pt P i ≤ W := fun i hi => h.le i (by rw [h.ln]; exact hi)
/-- What Tried deals. -/
structure TrL (D : Nat) (x : Ld) (V : World) (da : Option Addr) (dn dc k : Nat) (W : Nat) (P : List Nat) (a : Option Addr) (c k' : Nat) (V' : World) : Prop where
  e : EIn V' x W a c P
  al : allowsF x.s.l W P = true
  w12 : W ≤ 12
  q : Keep (fun b => b ≠ D) V V'
  dk : IsDeck V' D da dn dc k'
  kk : k' ≤ k + 49
  da : InB (fun b => b ≠ D) ⟨a, c, P⟩
theorem Tried_l (h : BS w D da dn dc k x LB V) (hk : k ≤ 2000) : Calls Try.prog 16 #[.pointer (some ⟨D, 0, none⟩), x.val] V fun e V' => ∃ W P a c k', e = .returned (exL x W a c) ∧ TrL D x V da dn dc k W P a c k' V' := by
  refine (tried_any x D da dn dc k V h.dk hk h.li.st h.ds h.li.ok).mono ?_
  rintro e V' ⟨a, c, W, k', P, rfl, hl, h1, h2, hP, hk', hH⟩
  have hl2 := h.li.ok.l2
  have hr := hH.row 0 _ rfl
  refine ⟨W, P, a, c, k', by unfold exL; rw [hl], ⟨⟨h.li.st.keep hH.keep h.ds, h.li.vi.keep hH.keep h.dv, h.li.ok, own_sl hr (by omega), hl, h1, by omega, fun i hi => (hP i (by omega)).1⟩, parts_allow hP, h2, hH.keep, hH.deck, by omega, fun g off e _ => ?_⟩⟩
  have hg := (own_type hr (k := g) (by dsimp only at e; subst e; rfl)).1
  have := h.dk.lt
  omega
end
end Go.Proofs.Ytlaolokakaheaaa
