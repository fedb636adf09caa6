/-
  All of package treaty tells all lines of a treaty, each once, in their order, or that there are more than may be listed, and turns nothing that was there. The treaty must lie in memory as told and be valid.
  slices.ContainsFunc over lists, asked by a function value that only draws, only draws; TreatyListed's two function values are such. Lists must lie in memory as told.
  A table of marks in memory of its own: a slice of slices of marks, row by row; TreatyAgreed's two function values that ask whether a list is among lists; the contracts that its walk uses, behind names. Nothing else is claimed of the program here.
-/
import Derived.Test.YtopjjcgmcieboaaGreatDoorIh
import Derived.Test.YtopjjcgmcieboaaGreatDoorZc
import Derived.Test.YtopjjcgmcieboaaGreatDoorZb
import Derived.Test.YtopjjcgmcieboaaGreatDoorIn
import Derived.Test.YtopjjcgmcieboaaGreatDoorZe
import Derived.Test.YtopjjcgmcieboaaGreatDoorIl
import Derived.Test.YtopjjcgmcieboaaGreatDoorU
namespace Go.Proofs.YtopjjcgmcieboaaGreatDoor
open Go.RowKit
attribute [local go_sem] Oper.semAt_some

/-- What All has listed by then: a slice of lines in a box, and their texts in a map. -/
def AllJ (ball bm : Nat) (S : Nat → Prop) (W : World) (acc : List (List Nat)) : Prop :=
  CollS S W ball acc ∧ SetAt Tryz.prog 9 4 W bm (acc.map txtB)
/-- All has told that there are too many. -/
def AllX (t : TV) (r1 r2 : Nat) (c : Code) (W : World) : Prop :=
  c = .ret ∧ 200 < (allD t).length ∧ W.heap[r1]? = some (.cells #[.slice none 0 0] 32 (0, 0)) ∧ W.heap[r2]? = some (.cells #[.int .i64 11] 33 (0, 0))
theorem AllJ.keep {ball bm : Nat} {S D : Nat → Prop} {W W' : World} {acc : List (List Nat)} (h : AllJ ball bm S W acc) (k : Keep D W W') (hb : D ball) (hm : D bm) (hd : ∀ i, i < W.heap.size → S i → D i) : AllJ ball bm S W' acc :=
  ⟨h.1.keep k hb hd, h.2.keep k hm⟩
theorem AllX.keep {t : TV} {r1 r2 : Nat} {c : Code} {D : Nat → Prop} {W W' : World} (h : AllX t r1 r2 c W) (k : Keep D W W') (h1 : D r1) (h2 : D r2) : AllX t r1 r2 c W' :=
  ⟨h.1, h.2.1, k.heap h.2.2.1 h1, k.heap h.2.2.2 h2⟩
theorem AllJ.ext {ball bm : Nat} {S : Nat → Prop} {W W' : World} {acc : List (List Nat)} (h : AllJ ball bm S W acc) (k : Ext W W') : AllJ ball bm S W' acc :=
  h.keep (D := fun _ => True) (Keep.of_ext k) trivial trivial (fun _ _ _ => trivial)

/-- A box holds an empty map, another one an empty slice of lists. -/
def MapBox (w1 : World) (s6 : Value) (wx : World) : Prop :=
  ∃ bm B : Nat, s6 = .pointer (some ⟨B, 0, none⟩) ∧ w1.heap.size < bm ∧ w1.heap.size < B ∧ bm ≠ B ∧ Hid (wx.heap[w1.heap.size]? = some (.cells #[.slice none 0 0] 32 (0, 0))) ∧ Hid (SetAt Tryz.prog 9 4 wx bm []) ∧
    Hid (wx.heap[B]? = some (.cells #[.map (some bm)] 70 (0, 0))) ∧ Hid (Ext w1 wx)

theorem TBox.five5 {W : World} {b : Nat} {t : TV} (h : TBox W b t) : W.cell? ⟨b, 0, none⟩ = some (.int .i64 (t.P : Int)) ∧ W.cell? ⟨b, 1, none⟩ = some (.slice t.ways.a t.ways.l.length t.ways.c) ∧ W.cell? ⟨b, 2, none⟩ = some (.slice t.words.a t.words.l.length t.words.c) ∧
    W.cell? ⟨b, 3, none⟩ = some (.slice t.starts.a t.starts.l.length t.starts.c) ∧ W.cell? ⟨b, 4, none⟩ = some (.slice t.legs.a t.legs.l.length t.legs.c) :=
  ⟨(cell_at h 0).trans rfl, (cell_at h 1).trans rfl, (cell_at h 2).trans rfl, (cell_at h 3).trans rfl, (cell_at h 4).trans rfl⟩
theorem zero4 (w : World) : (zeroValue 4).run Tryz.prog w = .ok (.bool false) w := by kernel_rfl

/-- A table of lists in memory of its own, all of whose blocks come from one on. -/
def TblO (lo : Nat) (w : World) (a : Option Addr) (c : Nat) (rows : List (SL Nat)) : Prop :=
  rows.length ≤ 1000000 ∧ w.ownsRow 0 25 1 (.slice a rows.length c) rows.length (flat 1 slC rows) ∧ (∀ g, (Value.slice a rows.length c).ownBlock = some g → lo ≤ g) ∧
    ∀ r ∈ rows, r.l.length ≤ 1000000 ∧ w.ownsRow 0 3 1 r.v r.l.length (nums r.l) ∧ ∀ g, r.v.ownBlock = some g → lo ≤ g
theorem TblO.keep {lo : Nat} {D : Nat → Prop} {w w' : World} {a : Option Addr} {c : Nat} {rows : List (SL Nat)} (h : TblO lo w a c rows) (k : Keep D w w') (hd : ∀ i, lo ≤ i → D i) : TblO lo w' a c rows := by
  obtain ⟨h1, h2, h3, h4⟩ := h
  refine ⟨h1, own_blocks h2 (fun g hg => k.block g (own_in h2 hg) (hd g (h3 g hg))), h3, fun r hr => ?_⟩
  obtain ⟨q1, q2, q3⟩ := h4 r hr
  exact ⟨q1, own_blocks q2 (fun g hg => k.block g (own_in q2 hg) (hd g (q3 g hg))), q3⟩
theorem TblO.is {lo : Nat} {w : World} {a : Option Addr} {c : Nat} {rows : List (SL Nat)} (h : TblO lo w a c rows) : IsSl 1 slC w ⟨a, c, rows⟩ ∧ ∀ r ∈ rows, IsSl 1 num w r :=
  ⟨own_slG h.2.1 h.1, fun r hr => own_sl (h.2.2.2 r hr).2.1 (h.2.2.2 r hr).1⟩

set_option maxRecDepth 100000 in
set_option maxHeartbeats 2000000 in
theorem All_own (t : TV) (w : World) (ht : IsT w t) (hk : OkT t) :
    Calls Tryz.prog 8 #[t.v] w fun e w' => ∃ (a : Option Addr) (c : Nat) (rows : List (SL Nat)) (er : Nat), e = .returned (.tuple #[.slice a rows.length c, .int .i64 (er : Int)]) ∧ TblO w.heap.size w' a c rows ∧
      (er = 0 ∧ AllL t (rows.map fun r => r.l) ∧ (allD t).length ≤ 200 ∨ er = 11 ∧ rows = [] ∧ 200 < (allD t).length) ∧ Ext w w' := by
  have HT := Lib.hid ht; clear ht
  have HK := Lib.hid hk; clear hk
  refine callsIn_wide.1 (callsIn_of_wp_marks (n := 3) Tryz.func8 rfl trivial ?_ rfl)
  simp only [Tryz.ntmps8, List.size_toArray, List.length_cons, List.length_nil, Nat.reduceAdd, Nat.reduceSub, Array.replicate_succ, Array.replicate_zero, List.push_toArray, List.append_toArray, List.nil_append, List.cons_append]
  refine wpIn_wide.2 ?_
  obtain ⟨W0, hW0⟩ : ∃ W0, (((w.alloc (.cells #[.int .i64 (t.P : Int), .slice t.ways.a t.ways.l.length t.ways.c, .slice t.words.a t.words.l.length t.words.c, .slice t.starts.a t.starts.l.length t.starts.c, .slice t.legs.a t.legs.l.length t.legs.c] 28)).alloc (.cells #[.slice none 0 0] 32)).alloc (.cells #[.int .i64 0] 33)) = W0 := ⟨_, rfl⟩
  have hX0 : Ext w W0 := by rw [← hW0]; exact (((Ext.refl w).alloc _).alloc _).alloc _
  have hT0 : TBox W0 w.heap.size t := by rw [← hW0]; exact (((Ext.refl _).alloc _).alloc _).block (World.alloc_heap_new w _)
  have h40 : W0.heap[w.heap.size + 1]? = some (.cells #[.slice none 0 0] 32 (0, 0)) := by rw [← hW0]; exact ((Ext.refl _).alloc _).block (new2 w _ _)
  have h50 : W0.heap[w.heap.size + 1 + 1]? = some (.cells #[.int .i64 0] 33 (0, 0)) := by
    rw [← hW0]; have := new2 (w.alloc (.cells #[.int .i64 (t.P : Int), .slice t.ways.a t.ways.l.length t.ways.c, .slice t.words.a t.words.l.length t.words.c, .slice t.starts.a t.starts.l.length t.starts.c, .slice t.legs.a t.legs.l.length t.legs.c] 28)) (.cells #[.slice none 0 0] 32) (.cells #[.int .i64 0] 33)
    rw [World.size_alloc] at this; exact this
  have hs0 : W0.heap.size = w.heap.size + 3 := by rw [← hW0]; simp
  have HW0 := Lib.hid hW0; clear hW0
  go_wp2_with fail
  rw [HW0.out]
  clear HW0
  refine (check_ok t W0 (HT.out.ext hX0) HK.out).mono ?_
  rintro e w1 ⟨rfl, hx1⟩
  have HX1 : Hid (Ext w w1) := hX0.trans hx1
  have HTB1 : Hid (TBox w1 w.heap.size t) := hx1.block hT0
  have HBx : Hid (w1.heap[w.heap.size + 1]? = some (.cells #[.slice none 0 0] 32 (0, 0)) ∧ w1.heap[w.heap.size + 1 + 1]? = some (.cells #[.int .i64 0] 33 (0, 0))) := ⟨hx1.block h40, hx1.block h50⟩
  have HLt : Hid (w.heap.size + 3 ≤ w1.heap.size) := by have := hx1.size; show _ ≤ _; omega
  have hlt1 : w.heap.size < w1.heap.size := by have := hx1.size; omega
  clear hX0 hT0 h40 h50 hs0 hx1
  have c0 := cell_at HTB1.out 0
  have c1 := cell_at HTB1.out 1
  have c2 := cell_at HTB1.out 2
  have c3 := cell_at HTB1.out 3
  have c4 := cell_at HTB1.out 4
  simp only [List.getElem?_toArray, List.getElem?_cons_succ, List.getElem?_cons_zero] at c0 c1 c2 c3 c4
  go_upto_region 5 with (fail)
  clear c0 c1 c2 c3 c4
  go_cut [6] from 15 to 15 (fun s6 wx => MapBox w1 s6 wx)
  case first =>
    have hmm := @run_makeMap Tryz.prog
    go_wp2_with fail
    all_goals go_meet
    have X1 : Ext w1 (w1.alloc (.cells #[.slice none 0 0] 32)) := (Ext.refl w1).alloc _
    have s1 : (w1.alloc (.cells #[.slice none 0 0] 32)).heap.size = w1.heap.size + 1 := World.size_alloc _ _
    have s2 : ((w1.alloc (.cells #[.slice none 0 0] 32)).alloc (.map #[] 0)).heap.size = w1.heap.size + 1 + 1 := by rw [World.size_alloc, s1]
    have m1 : SetAt Tryz.prog 9 4 ((w1.alloc (.cells #[.slice none 0 0] 32)).alloc (.map #[] 0)) (w1.heap.size + 1) [] := by have := SetAt.made (P := Tryz.prog) (K := 9) (E := 4) (w1.alloc (.cells #[.slice none 0 0] 32)); rwa [s1] at this
    refine ⟨w1.heap.size + 1, w1.heap.size + 1 + 1, rfl, by omega, by omega, by omega, ?_, ?_, ?_, (X1.alloc _).alloc _⟩
    · exact ((Ext.refl _).alloc _).block (((Ext.refl _).alloc _).block (World.alloc_heap_new w1 _))
    · exact m1.keep (D := fun _ => True) (Keep.of_ext ((Ext.refl _).alloc _)) trivial
    · have := World.alloc_heap_new ((w1.alloc (.cells #[.slice none 0 0] 32)).alloc (.map #[] 0)) (.cells #[.map (some (w1.heap.size + 1))] 70)
      rwa [s2] at this
  case rest =>
    obtain ⟨bm, B, rfl, hm1, hB1, hmB, HBA, HBS, HBB, HX2⟩ := hcut
    obtain ⟨d0, d1, d2, d3, d4⟩ : _ ∧ _ ∧ _ ∧ _ ∧ _ := TBox.five5 (HX2.out.block HTB1.out)
    have hbc : bm < wc.heap.size := HBS.out.lt
    have hBc : B < wc.heap.size := (Array.getElem?_eq_some_iff.1 HBB.out).1
    have hac : w1.heap.size < wc.heap.size := (Array.getElem?_eq_some_iff.1 HBA.out).1
    go_wp2_with fail
    clear d0 d1 d2 d3 d4
    refine (readings_any t wc).mono ?_
    rintro e w3 ⟨rfl, hx3, hB3, hs3⟩
    have HX3 : Hid (Ext wc w3) := hx3
    have HB3 := Lib.hid hB3
    have HXw : Hid (Ext w w3) := HX1.out.trans (HX2.out.trans hx3)
    have HB3' : Hid (w3.heap[B]? = some (.cells #[.map (some bm)] 70 (0, 0))) := hx3.block HBB.out
    have HJ3 : Hid (∀ S, AllJ w1.heap.size bm S w3 []) := fun S => ⟨CollS.nil (hx3.block HBA.out), HBS.out.keep (D := fun _ => True) (Keep.of_ext hx3) trivial⟩
    have HT3 : Hid (TBox w3 w.heap.size t) := hx3.block (HX2.out.block HTB1.out)
    have HR3 : Hid (w3.heap[w.heap.size + 1]? = some (.cells #[.slice none 0 0] 32 (0, 0)) ∧ w3.heap[w.heap.size + 1 + 1]? = some (.cells #[.int .i64 0] 33 (0, 0))) := ⟨hx3.block (HX2.out.block HBx.out.1), hx3.block (HX2.out.block HBx.out.2)⟩
    have HN : Hid (w.heap.size + 3 ≤ w1.heap.size ∧ w1.heap.size < bm ∧ w1.heap.size < B ∧ bm ≠ B ∧ bm < wc.heap.size ∧ B < wc.heap.size ∧ w1.heap.size < wc.heap.size ∧ w3.heap.size = wc.heap.size + 1) := ⟨HLt.out, hm1, hB1, hmB, hbc, hBc, hac, hs3⟩
    clear hx3 hB3 hs3 hm1 hB1 hmB hbc hBc hac hlt1
    go_wp2_with fail
    refine (wpIn_wide (n := 3)).1 ?_
    refine wp_rangeFuncTH (a₁ := ?a1) rfl enters_71 (readings1_gives t wc.heap.size w w3 (fun k => k ≠ w1.heap.size ∧ k ≠ bm ∧ k ≠ w.heap.size + 1 ∧ k ≠ w.heap.size + 1 + 1) HT.out HK.out HXw.out HB3.out (fun k h => by have := HN.out; omega) (by have := HN.out; omega)) rfl
      (fun hi pre W => AllJ w1.heap.size bm (fun k => hi ≤ k) W (accOf t pre) ∧ (accOf t pre).length ≤ 200 ∧ Keep (fun k => k < w3.heap.size ∧ k ≠ w1.heap.size ∧ k ≠ bm) w3 W)
      (fun hi c pre W => AllX t (w.heap.size + 1) (w.heap.size + 1 + 1) c W ∧ Keep (fun k => k < w3.heap.size ∧ k ≠ w1.heap.size ∧ k ≠ bm ∧ k ≠ w.heap.size + 1 ∧ k ≠ w.heap.size + 1 + 1) w3 W)
      ?_ ?_ ?_ ?assign ?body ?done ?stop
    case assign =>
      intro l s W K hK
      gi_wp2
      exact hK
    · intro hi s A B' hh h hk
      have := HN.out
      exact ⟨h.1.keep hk (.inl (by omega)) (.inl (by omega)) (fun i _ hi' => .inr hi'), h.2.1, h.2.2.trans (hk.mono (fun k _ h => .inl h.1))⟩
    · intro c hi s A B' hh h hk
      have := HN.out
      exact ⟨h.1.keep hk (.inl (by omega)) (.inl (by omega)), h.2.trans (hk.mono (fun k _ h => .inl h.1))⟩
    · intro hi hh
      exact ⟨HJ3.out _, Nat.zero_le _, Keep.refl _ _⟩
    case body =>
      rintro l hi pre s W hh hhW ⟨hJ, hlen, hKp⟩ hpre hsl hown ⟨r0, hr0⟩ hl1 hl2
      have hN := HN.out
      have HXW : Hid (Ext w W) := ext_keep HXw.out hKp (fun i hi => ⟨by omega, by omega, by omega⟩)
      have HTW : Hid (TBox W w.heap.size t) := hKp.heap HT3.out ⟨by omega, by omega, by omega⟩
      have HRd := Lib.hid (allR_rd HK.out (mem_of_prefix hpre))
      have HIs := Lib.hid (own_sl hown hsl)
      have HPre := Lib.hid hpre
      have HJ := Lib.hid hJ
      have HLen := Lib.hid hlen
      have HKp := Lib.hid hKp
      have HR0 := Lib.hid hr0
      clear hpre hown hsl hJ hlen hKp hr0
      obtain ⟨d0, d1, d2, d3, d4⟩ : _ ∧ _ ∧ _ ∧ _ ∧ _ := TBox.five5 HTW.out
      gi_wp2_with (first
        | (refine ⟨trivial, ?_⟩; gi_at_call 33; refine (CallsIn.inRound l (callsIn_wide.2 (read_any t s W (HT.out.ext HXW.out) HK.out HIs.out HRd.out))).mono ?_; rintro e v1 ⟨p, rfl, hw1, hx1⟩; have HW1 := Lib.hid hw1; have HY1 : Hid (Ext W v1) := hx1; clear hw1 hx1)
        | (refine ⟨trivial, ?_⟩; gi_at_call 34; refine (CallsIn.inRound l (callsIn_wide.2 (lines_any p v1))).mono ?_; rintro e v2 ⟨rfl, hx2, hc2, hs2⟩; have HY2 : Hid (Ext v1 v2) := hx2; have HC2 := Lib.hid hc2; have HS2 : Hid (v2.heap.size = v1.heap.size + 1) := hs2; clear hx2 hc2 hs2))
      clear d0 d1 d2 d3 d4
      have HPb : Hid (∃ cs : Array Value, v1.heap[p]? = some (.cells cs 113 (0, 0))) := by obtain ⟨cs, q1, _⟩ := HW1.out; exact ⟨cs, q1⟩
      have hpl : p < v1.heap.size := by obtain ⟨cs, q1⟩ := HPb.out; exact (Array.getElem?_eq_some_iff.1 q1).1
      have HPn : Hid (p ≠ w1.heap.size ∧ p ≠ bm ∧ p ≠ w.heap.size + 1 ∧ p ≠ w.heap.size + 1 + 1) := by
        obtain ⟨cs, q1⟩ := HPb.out
        refine ⟨?_, ?_, ?_, ?_⟩
        · rintro rfl
          obtain ⟨a, c, rows, h1, -⟩ := HJ.out.1
          rw [HY1.out.block h1] at q1; simp at q1
        · rintro rfl
          obtain ⟨es, clock, h1, -⟩ := HJ.out.2
          rw [HY1.out.block h1] at q1; simp at q1
        · rintro rfl
          have := HY1.out.block (HKp.out.heap HR3.out.1 ⟨by omega, by omega, by omega⟩)
          rw [this] at q1; simp at q1
        · rintro rfl
          have := HY1.out.block (HKp.out.heap HR3.out.2 ⟨by omega, by omega, by omega⟩)
          rw [this] at q1; simp at q1
      have HSt : Hid (AllJ w1.heap.size bm (fun k => hi ≤ k ∧ k < v1.heap.size ∧ k ≠ p) v2 (accOf t pre)) := by
        obtain ⟨cs, q1⟩ := HPb.out
        have h1 := HJ.out.ext HY1.out
        exact AllJ.ext ⟨h1.1.avoid q1 (by decide) (by decide), h1.2⟩ HY2.out
      have hW1 : W.heap.size ≤ v1.heap.size := HY1.out.size
      have HWv : Hid (Ext W v2) := HY1.out.trans HY2.out
      have hs2a : v2.heap.size ≤ v1.heap.size + 1 := Nat.le_of_eq HS2.out
      have hs2b : v1.heap.size + 1 ≤ v2.heap.size := Nat.le_of_eq HS2.out.symm
      refine wp_rangeFuncTN (l₀ := l) (r₀ := r0) (HWv.out.block HR0.out) (a₁ := ?a2) rfl enters_77 (lines1_gives t (leadsOf t s.l) p v1.heap.size w v2 (fun k => k ≠ w1.heap.size ∧ k ≠ bm ∧ k ≠ w.heap.size + 1 ∧ k ≠ w.heap.size + 1 + 1 ∧ ¬ (hi ≤ k ∧ k < v1.heap.size ∧ k ≠ p)) HK.out HT.out.starts (HXW.out.trans HWv.out) (HW1.out.ext HY2.out) HC2.out
          (fun k h => by omega) (by have := HPn.out; omega) (by omega)) rfl
        (fun hi2 pre2 W2 => AllJ w1.heap.size bm (fun k => (hi ≤ k ∧ k < v1.heap.size ∧ k ≠ p) ∨ hi2 ≤ k) W2 (addLs (accOf t pre) pre2) ∧ (addLs (accOf t pre) pre2).length ≤ 200 ∧ Keep (fun k => k < v2.heap.size ∧ k ≠ w1.heap.size ∧ k ≠ bm ∧ ¬ (hi ≤ k ∧ k < v1.heap.size ∧ k ≠ p)) v2 W2)
        (fun hi2 c pre2 W2 => AllX t (w.heap.size + 1) (w.heap.size + 1 + 1) c W2 ∧ Keep (fun k => k < v2.heap.size ∧ k ≠ w1.heap.size ∧ k ≠ bm ∧ k ≠ w.heap.size + 1 ∧ k ≠ w.heap.size + 1 + 1 ∧ ¬ (hi ≤ k ∧ k < v1.heap.size ∧ k ≠ p)) v2 W2)
        ?_ ?_ ?_ ?assign2 ?body2 ?done2 ?stop2
      case assign2 =>
        intro l2 s2 W2 K hK
        gi_wp2
        exact hK
      · intro hi2 s2 A B' hh2 h hk
        refine ⟨h.1.keep hk (.inl (by omega)) (.inl (by omega)) (fun i _ hi' => ?_), h.2.1, h.2.2.trans (hk.mono (fun k _ h => .inl h.1))⟩
        rcases hi' with h' | h'
        · exact .inl (by omega)
        · exact .inr h'
      · intro c hi2 s2 A B' hh2 h hk
        exact ⟨h.1.keep hk (.inl (by omega)) (.inl (by omega)), h.2.trans (hk.mono (fun k _ h => .inl h.1))⟩
      · intro hi2 hh2
        exact ⟨⟨HSt.out.1.mono (fun i _ h => .inl h), HSt.out.2⟩, HLen.out, Keep.refl _ _⟩
      case body2 =>
        rintro l2 hi2 pre2 x W2 hh2 hhW2 ⟨hJ2, hlen2, hKp2⟩ hpre2 hsl2 hown2
        have hx1 := lines_lt HK.out.start.1 (mem_of_prefix hpre2)
        have hP := HK.out.p2
        have hlg := HK.out.legs
        have HIx := Lib.hid (own_sl hown2 hsl2)
        have HX100 : Hid (∀ y ∈ x.l, y < 100) := fun y hy => by have := hx1.2 y hy; omega
        have hxl : x.l.length ≤ 100 := by have := hx1.1; omega
        have HAcc : Hid (∀ l ∈ addLs (accOf t pre) pre2, ∀ y ∈ l, y < 100) := fun l hl y hy => by have := acc_lt HK.out.start.1 (pre := pre) ((List.prefix_append pre2 [x.l]).trans hpre2) l hl y hy; omega
        have HMem := Lib.hid (mem_txtB HX100.out HAcc.out)
        have HSn : Hid (addLs (accOf t pre) (pre2 ++ [x.l]) = addL (addLs (accOf t pre) pre2) x.l) := by show _ = _; rw [addLs_append]; rfl
        have HLb := Lib.hid (len_by HPre.out hpre2)
        have HTb := txtB_len HX100.out
        have HB2 : Hid (W2.heap[B]? = some (.cells #[.map (some bm)] 70 (0, 0))) := hKp2.heap (HWv.out.block (HKp.out.heap HB3'.out ⟨by omega, by omega, by omega⟩)) ⟨by omega, by omega, by omega, by omega⟩
        have HR2 : Hid (W2.heap[w.heap.size + 1]? = some (.cells #[.slice none 0 0] 32 (0, 0)) ∧ W2.heap[w.heap.size + 1 + 1]? = some (.cells #[.int .i64 0] 33 (0, 0))) :=
          ⟨hKp2.heap (HWv.out.block (HKp.out.heap HR3.out.1 ⟨by omega, by omega, by omega⟩)) ⟨by omega, by omega, by omega, by omega⟩, hKp2.heap (HWv.out.block (HKp.out.heap HR3.out.2 ⟨by omega, by omega, by omega⟩)) ⟨by omega, by omega, by omega, by omega⟩⟩
        obtain ⟨a, c, rows, g1, g2, g3, g4, g5⟩ := hJ2.1
        have hrl : rows.length = (addLs (accOf t pre) pre2).length := by rw [← g5, List.length_map]
        have G1 := Lib.hid g1
        have G2' := Lib.hid g2
        have G3 := Lib.hid g3
        have G4 := Lib.hid g4
        have G5 := Lib.hid g5
        have HSA := Lib.hid hJ2.2
        have HKp2 := Lib.hid hKp2
        have HOx := Lib.hid hown2
        have HSx := Lib.hid hsl2
        clear hJ2 hKp2 hpre2 hown2 hsl2 g1 g2 g3 g4 g5 hx1
        generalize hacc : addLs (accOf t pre) pre2 = acc at *
        have HAe := Lib.hid hacc; clear hacc
        by_cases hin : x.l ∈ acc
        · have HD : Hid (decide ((⟨(txtB x.l).toArray⟩ : ByteArray).data.toList ∈ acc.map txtB) = true) := decide_eq_true (HMem.out.2 hin)
          have HIn := Lib.hid hin; clear hin
          gi_wp2_with (first
            | (refine ⟨trivial, ?_⟩; gi_at_call 35; refine (CallsIn.inRound l2 (callsIn_wide.2 (textOf_any x W2 HIx.out HX100.out hxl))).mono ?_; rintro e W3 ⟨rfl, hx3⟩; have HY3 : Hid (Ext W2 W3) := hx3; have cb := cell_at (hx3.block HB2.out) 0; simp only [List.getElem?_toArray, List.getElem?_cons_zero] at cb; clear hx3)
            | (gi_at_lookup; refine wpListIn_lookup_set _ rfl _ _ 70 rfl 9 4 Tryz.underlying9 Tryz.underlying70 Tryz.underlying4 (zero4 _) bm (acc.map txtB) rfl (HSA.out.keep (D := fun _ => True) (Keep.of_ext HY3.out) trivial) ⟨(txtB x.l).toArray⟩ rfl (by show (txtB x.l).length ≤ maxLen; unfold maxLen; omega) ?_; rw [HD.out]))
          have HJ3 : AllJ w1.heap.size bm (fun k => (hi ≤ k ∧ k < v1.heap.size ∧ k ≠ p) ∨ hi2 ≤ k) W3 acc := AllJ.ext ⟨⟨a, c, rows, G1.out, G2'.out, G3.out, G4.out, G5.out⟩, HSA.out⟩ HY3.out
          refine ⟨Keep.of_ext HY3.out, ?_, ?_, HKp2.out.ext HY3.out⟩
          · rw [HSn.out, addL_in HIn.out]; exact HJ3
          · rw [HSn.out, addL_in HIn.out]; exact hlen2
        · have HD : Hid (decide ((⟨(txtB x.l).toArray⟩ : ByteArray).data.toList ∈ acc.map txtB) = false) := decide_eq_false (fun h => hin (HMem.out.1 h))
          have HIn := Lib.hid hin; clear hin
          by_cases h200 : rows.length = 200
          · have hlong : 200 < (allD t).length := by
              have h1 := HLb.out
              rw [addL_out HIn.out, List.length_append, List.length_singleton] at h1
              omega
            have HLong := Lib.hid hlong; clear hlong
            have d200 : ((rows.length : Int) == 200) = true := by rw [h200]; rfl
            clear h200 hrl
            gi_wp2_with (first
              | (refine ⟨trivial, ?_⟩; gi_at_call 35; refine (CallsIn.inRound l2 (callsIn_wide.2 (textOf_any x W2 HIx.out HX100.out hxl))).mono ?_; rintro e W3 ⟨rfl, hx3⟩; have HY3 : Hid (Ext W2 W3) := hx3; have cb := cell_at (hx3.block HB2.out) 0; simp only [List.getElem?_toArray, List.getElem?_cons_zero] at cb; have ca : W3.cell? ⟨w1.heap.size, 0, none⟩ = some (.slice a rows.length c) := (cell_at (hx3.block G1.out) 0).trans rfl; have hB4 := hx3.block HR2.out.1; have hB5 := hx3.block HR2.out.2; have hc4 : W3.cell? ⟨w.heap.size + 1, 0, none⟩ = some (.slice none 0 0) := (cell_at hB4 0).trans rfl; have hc5 : W3.cell? ⟨w.heap.size + 1 + 1, 0, none⟩ = some (.int .i64 0) := (cell_at hB5 0).trans rfl; have hf4 : W3.frozen? ⟨w.heap.size + 1, 0, none⟩ = false := (by simp [World.frozen?, hB4]); have hf5 : W3.frozen? ⟨w.heap.size + 1 + 1, 0, none⟩ = false := (by simp [World.frozen?, hB5]); have HB4 := Lib.hid hB4; have HB5 := Lib.hid hB5; clear hx3 hB4 hB5)
              | (gi_at_lookup; refine wpListIn_lookup_set _ rfl _ _ 70 rfl 9 4 Tryz.underlying9 Tryz.underlying70 Tryz.underlying4 (zero4 _) bm (acc.map txtB) rfl (HSA.out.keep (D := fun _ => True) (Keep.of_ext HY3.out) trivial) ⟨(txtB x.l).toArray⟩ rfl (by show (txtB x.l).length ≤ maxLen; unfold maxLen; omega) ?_; rw [HD.out]))
            have b4 : (W3.setCell ⟨w.heap.size + 1, 0, none⟩ (.slice none 0 0)).heap[w.heap.size + 1]? = some (.cells #[.slice none 0 0] 32 (0, 0)) := heap_setCell_same HB4.out _
            have b5 : (W3.setCell ⟨w.heap.size + 1, 0, none⟩ (.slice none 0 0)).heap[w.heap.size + 1 + 1]? = some (.cells #[.int .i64 0] 33 (0, 0)) := (Below.heap_setCell _ _ _ _ (by show w.heap.size + 1 + 1 ≠ w.heap.size + 1; omega)).trans HB5.out
            have K1 : Keep (fun k => k ≠ w.heap.size + 1 ∧ k ≠ w.heap.size + 1 + 1) W2 ((W3.setCell ⟨w.heap.size + 1, 0, none⟩ (.slice none 0 0)).setCell ⟨w.heap.size + 1 + 1, 0, none⟩ (.int .i64 11)) :=
              ((Keep.of_ext HY3.out).setCell _ _ (fun _ h => h.1 rfl)).setCell _ _ (fun _ h => h.2 rfl)
            refine ⟨K1.mono (fun k hk h => ?_), ⟨rfl, HLong.out, (Below.heap_setCell _ _ _ _ (by show w.heap.size + 1 ≠ w.heap.size + 1 + 1; omega)).trans b4, heap_setCell_same b5 _⟩, (HKp2.out.mono (fun k _ h => ⟨h.1, h.2.1, h.2.2.1, h.2.2.2.2.2⟩)).trans (K1.mono (fun k _ h => ⟨h.2.2.2.1, h.2.2.2.2.1⟩))⟩
            rcases h with h | h <;> omega
          · have hrl2 : rows.length < 200 := by omega
            have d200 : ((rows.length : Int) == 200) = false := by rw [beq_eq_false_iff_ne]; omega
            have HRl := Lib.hid hrl
            clear h200 hrl
            have hm1 : rows.length + 1 ≤ maxLen := by unfold maxLen; omega
            obtain ⟨i0, hi0, hz0, hz1, hz2⟩ := info_parts info25
            gi_wp2_with (first
              | (refine ⟨trivial, ?_⟩; gi_at_call 35; refine (CallsIn.inRound l2 (callsIn_wide.2 (textOf_any x W2 HIx.out HX100.out hxl))).mono ?_; rintro e W3 ⟨rfl, hx3⟩; have HY3 : Hid (Ext W2 W3) := hx3; have cb := cell_at (hx3.block HB2.out) 0; simp only [List.getElem?_toArray, List.getElem?_cons_zero] at cb; have ca : W3.cell? ⟨w1.heap.size, 0, none⟩ = some (.slice a rows.length c) := (cell_at (hx3.block G1.out) 0).trans rfl; clear hx3)
              | (gi_at_lookup; refine wpListIn_lookup_set _ rfl _ _ 70 rfl 9 4 Tryz.underlying9 Tryz.underlying70 Tryz.underlying4 (zero4 _) bm (acc.map txtB) rfl (HSA.out.keep (D := fun _ => True) (Keep.of_ext HY3.out) trivial) ⟨(txtB x.l).toArray⟩ rfl (by show (txtB x.l).length ≤ maxLen; unfold maxLen; omega) ?_; rw [HD.out])
              | (gi_at_mapUpdate; refine wpListIn_put_set _ rfl _ _ _ 70 rfl 9 4 Tryz.underlying9 Tryz.underlying70 Tryz.underlying4 bm (acc.map txtB) rfl (HSA.out.keep (D := fun _ => True) (Keep.of_ext HY3.out) trivial) (by rw [List.length_map]; have := HRl.out; unfold maxLen; omega) ⟨(txtB x.l).toArray⟩ rfl rfl (by show (txtB x.l).length ≤ maxLen; unfold maxLen; omega) ?_; intro W4 hs4 hg4; have HS4 := Lib.hid hs4; have k4 : Keep (fun k => k ≠ bm) W2 W4 := (Keep.of_ext HY3.out).grown hg4 (fun k e _ h => h (by cases e; rfl)); have K4 := Lib.hid k4; have b4 := k4.heap G1.out (by omega); have B4 := Lib.hid b4; have O4 := Lib.hid (own_blocks G2'.out (fun g hg => k4.block g (own_in G2'.out hg) (by have := G3.out g hg; omega))); have R4 : Hid (∀ r ∈ rows, r.l.length ≤ 1000000 ∧ W4.ownsRow 0 3 1 r.v r.l.length (nums r.l) ∧ ∀ i, r.v.ownBlock = some i → (hi ≤ i ∧ i < v1.heap.size ∧ i ≠ p) ∨ hi2 ≤ i) := (fun r hr => ⟨(G4.out r hr).1, own_blocks (G4.out r hr).2.1 (fun g hg => k4.block g (own_in (G4.out r hr).2.1 hg) (by have := (G4.out r hr).2.2 g hg; omega)), (G4.out r hr).2.2⟩); have X4 : Hid (W4.ownsRow 0 3 1 x.v x.l.length (nums x.l)) := own_mono (own_blocks HOx.out (fun g hg => k4.block g (own_in HOx.out hg) (by have := (HOx.out.lt g hg).1; omega))) (Nat.zero_le _); have ca : W4.cell? ⟨w1.heap.size, 0, none⟩ = some (.slice a rows.length c) := (cell_at b4 0).trans rfl; have hsz4 : W2.heap.size ≤ W4.heap.size := k4.size; clear hs4 hg4 k4 b4)
              | (gi_at_builtin; refine wpListIn_append_own_at _ rfl _ _ 32 rfl 0 25 i0 (.slice none 0 0) 1 24 Tryz.underlying32 hi0 hz0 hz1 hz2 rfl (by decide) _ rows.length (rows.map fun r => r.v) rfl (O4.out.alloc _) ⟨W4.heap.size, 0, none⟩ 1 1 [x.v] rfl rfl (cell_one_new _ _ _) (by simp [Value.oneCell']) hm1 (by omega) (Nat.zero_le _) ?_; intro v' w5 hown5 hgrow5 _ hloc5;
                 obtain ⟨q1, q2, q3⟩ := CollS.append (S := fun k => (hi ≤ k ∧ k < v1.heap.size ∧ k ≠ p) ∨ hi2 ≤ k) B4.out O4.out G3.out R4.out ⟨HSx.out, X4.out, fun i hi' => .inr (HOx.out.lt i hi').1⟩ (by right; omega) hown5 hgrow5 hloc5;
                 obtain ⟨g', cap', rfl⟩ := ownsRow_succ hown5; have hcb5 : w5.cell? ⟨w1.heap.size, 0, none⟩ = some (.slice a rows.length c) := (cell_at q1 0).trans rfl; have hfb5 : w5.frozen? ⟨w1.heap.size, 0, none⟩ = false := (by simp [World.frozen?, q1]); have Q2 := Lib.hid q2; have Q3 := Lib.hid q3; clear q1 q2 q3 hown5 hgrow5 hloc5))
            have KF := K4.out.mono (D' := fun k => k ≠ w1.heap.size ∧ k ≠ bm ∧ (Value.slice a rows.length c).ownBlock ≠ some k) (fun k _ h => h.2.1)
            have KF2 := KF.trans (Q3.out.mono (fun k _ h => ⟨h.1, h.2.2⟩))
            have hob : ∀ k, (k < v2.heap.size ∧ ¬ (hi ≤ k ∧ k < v1.heap.size ∧ k ≠ p)) ∨ (v2.heap.size ≤ k ∧ k < hi2) → (Value.slice a rows.length c).ownBlock ≠ some k := fun k h e => by
              have h3 := G3.out k e
              omega
            refine ⟨KF2.mono (fun k hk h => ?_), ⟨?_, ?_⟩, ?_, (HKp2.out.trans (KF2.mono (fun k _ h => ⟨h.2.1, h.2.2.1, hob k (.inl ⟨h.1, h.2.2.2⟩)⟩))).mono (fun k _ h => ?_)⟩
            · exact ⟨by omega, by omega, hob k (by omega)⟩
            · rw [HSn.out, addL_out HIn.out]
              have := Q2.out
              rw [List.map_append, G5.out] at this
              exact this
            · rw [HSn.out, addL_out HIn.out, List.map_append]
              exact HS4.out.keep Q3.out ⟨by omega, fun e => by have h3 := G3.out bm e; omega⟩
            · rw [HSn.out, addL_out HIn.out, List.length_append, List.length_singleton]
              have := HRl.out
              omega
            · exact ⟨by omega, by omega, by omega, by omega⟩
      case done2 =>
        rintro hi2 W2 hh2 ⟨hJ2, hlen2, hKp2⟩
        have KW : Keep (Inn w3.heap.size (fun k => k ≠ w1.heap.size ∧ k ≠ bm ∧ k ≠ w.heap.size + 1 ∧ k ≠ w.heap.size + 1 + 1) w3.heap.size hi) W W2 :=
          (Keep.of_ext HWv.out).trans (hKp2.mono fun k hk h => by rcases h with h | h <;> omega)
        refine ⟨KW, ?_, ?_, HKp.out.trans ?_⟩
        · rw [accOf_snoc]
          exact ⟨hJ2.1.mono (fun i _ h => by rcases h with h | h <;> omega), hJ2.2⟩
        · rw [accOf_snoc]; exact hlen2
        · exact (Keep.of_ext HWv.out).trans (hKp2.mono fun k hk h => by omega)
      case stop2 =>
        rintro hi2 c pre2 W2 hh2 hp2 ⟨hX, hKp2⟩
        obtain rfl := hX.1
        apply wpIn_ret
        refine ⟨(Keep.of_ext HWv.out).trans (hKp2.mono fun k hk h => by rcases h with h | h <;> omega), hX, ?_⟩
        exact (HKp.out.mono (fun k _ h => ⟨h.1, h.2.1, h.2.2.1⟩)).trans ((Keep.of_ext HWv.out).trans (hKp2.mono fun k hk h => by omega))
    case stop =>
      rintro hi c pre W hh hp ⟨⟨rfl, q1, q2, q3⟩, q4⟩ hD
      have hN := HN.out
      have hXw2 : Ext w (W.putObj w3.heap.size (.deferred none)) := ext_keep (ext_keep HXw.out q4 (fun i hi => ⟨by omega, by omega, by omega, by omega, by omega⟩)) ((Keep.refl (fun k => k ≠ w3.heap.size) W).putObj _ _ (fun h => h rfl)) (fun i hi => by omega)
      have f4 : (W.putObj w3.heap.size (.deferred none)).cell? ⟨w.heap.size + 1, 0, none⟩ = some (.slice none 0 0) := (cell_at ((World.putObj_heap_other (by omega)).trans q2) 0).trans rfl
      have f5 : (W.putObj w3.heap.size (.deferred none)).cell? ⟨w.heap.size + 1 + 1, 0, none⟩ = some (.int .i64 11) := (cell_at ((World.putObj_heap_other (by omega)).trans q3) 0).trans rfl
      apply wpIn_ret
      simp only [Exit.inBlock, Exit.then]
      refine ⟨by simp, .inl ⟨_, _, rfl, run_takeDeferred hD, ?_⟩⟩
      exact ⟨_, res2 rfl _ _ ⟨w.heap.size + 1, 0, none⟩ ⟨w.heap.size + 1 + 1, 0, none⟩ rfl rfl _ _ (load41 _ _ _ f4) (load38 _ _ _ f5), none, 0, [], 11, rfl, ⟨by simp, World.ownsRow_nil _ _ _ _, (fun g hg => by cases hg), (fun r hr => by simp at hr)⟩, .inr ⟨rfl, rfl, q1⟩, hXw2⟩
    case done =>
      rintro hi W hh ⟨hJ, hlen, hKp⟩ hD
      have hN := HN.out
      obtain ⟨a, c, rows, g1, g2, g3, g4, g5⟩ := hJ.1
      have g5' : rows.map (fun r => r.l) = allD t := g5
      have hlen' : (allD t).length ≤ 200 := hlen
      have hnd : (rows.map fun r => r.l).Nodup := by rw [g5']; exact nodup_allD t
      have hrl : rows.length ≤ 200 := by have := congrArg List.length g5'; rw [List.length_map] at this; omega
      have HSort := Lib.hid (sort_lines a c rows W g2 (fun r hr W' hk => own_sl (own_blocks (g4 r hr).2.1 (fun g hg => hk g (own_in (g4 r hr).2.1 hg) (fun e => by
        rcases own_apart g2 (g4 r hr).2.1 (by decide) with h | h
        · rw [h] at e; cases e
        · exact h (e.trans hg.symm)))) (g4 r hr).1) hnd (by omega))
      have h4W : W.heap[w.heap.size + 1]? = some (.cells #[.slice none 0 0] 32 (0, 0)) := hKp.heap HR3.out.1 ⟨by omega, by omega, by omega⟩
      have h5W : W.heap[w.heap.size + 1 + 1]? = some (.cells #[.int .i64 0] 33 (0, 0)) := hKp.heap HR3.out.2 ⟨by omega, by omega, by omega⟩
      have hca : W.cell? ⟨w1.heap.size, 0, none⟩ = some (.slice a rows.length c) := (cell_at g1 0).trans rfl
      have G1 := Lib.hid g1
      have G2 := Lib.hid g2
      have G3 := Lib.hid g3
      have G4 := Lib.hid g4
      have G5 := Lib.hid g5'
      have HLen := Lib.hid hlen'
      have H4W := Lib.hid h4W
      have H5W := Lib.hid h5W
      have HD := Lib.hid hD
      have HKp := Lib.hid hKp
      have e12 : ¬ w.heap.size + 1 = w.heap.size + 1 + 1 := by omega
      have e21 : ¬ w.heap.size + 1 + 1 = w.heap.size + 1 := by omega
      clear hJ hlen hKp g1 g2 g3 g4 g5 g5' hlen' hnd h4W h5W hD hN
      simp only [Exit.inBlock, Exit.then]
      go_wp2_with (go_at_call 36; refine HSort.out.mono ?_; rintro e W2 ⟨rfl, rows', hp, hso, hown, hg⟩; have hN := HN.out; have HP := Lib.hid hp; have HSo := Lib.hid hso; have HOw := Lib.hid hown; have k2 : Keep (fun k => (Value.slice a rows.length c).ownBlock ≠ some k) W W2 := (Keep.refl _ W).grown hg (fun k e _ h => h e); have K2 := Lib.hid k2; have hob : ∀ k, k < hi → (Value.slice a rows.length c).ownBlock ≠ some k := (fun k h e => by have := G3.out k e; omega); have HOb := Lib.hid hob; have b1 := k2.heap G1.out (hob _ (by omega)); have b4 := k2.heap H4W.out (hob _ (by omega)); have b5 := k2.heap H5W.out (hob _ (by omega)); have ca2 : W2.cell? ⟨w1.heap.size, 0, none⟩ = some (.slice a rows.length c) := (cell_at b1 0).trans rfl; have hc4 : W2.cell? ⟨w.heap.size + 1, 0, none⟩ = some (.slice none 0 0) := (cell_at b4 0).trans rfl; have hc5 : W2.cell? ⟨w.heap.size + 1 + 1, 0, none⟩ = some (.int .i64 0) := (cell_at b5 0).trans rfl; have hf4 : W2.frozen? ⟨w.heap.size + 1, 0, none⟩ = false := (by simp [World.frozen?, b4]); have hf5 : W2.frozen? ⟨w.heap.size + 1 + 1, 0, none⟩ = false := (by simp [World.frozen?, b5]); have B4 := Lib.hid b4; have B5 := Lib.hid b5; clear hp hso hown hg k2 hob b1 b4 b5 hN)
      have hN := HN.out
      have hrl' : rows'.length = rows.length := HP.out.length_eq
      have e1 : ((W2.setCell ⟨w.heap.size + 1, 0, none⟩ (.slice a rows.length c)).setCell ⟨w.heap.size + 1 + 1, 0, none⟩ (.int .i64 0)).heap[w3.heap.size]? = some (.deferred (some [])) := by
        rw [Below.heap_setCell _ _ _ _ (by show w3.heap.size ≠ w.heap.size + 1 + 1; omega), Below.heap_setCell _ _ _ _ (by show w3.heap.size ≠ w.heap.size + 1; omega)]; exact K2.out.heap HD.out (HOb.out _ (by omega))
      have b4 : (W2.setCell ⟨w.heap.size + 1, 0, none⟩ (.slice a rows.length c)).heap[w.heap.size + 1]? = some (.cells #[.slice a rows.length c] 32 (0, 0)) := heap_setCell_same B4.out _
      have b4' : ((W2.setCell ⟨w.heap.size + 1, 0, none⟩ (.slice a rows.length c)).setCell ⟨w.heap.size + 1 + 1, 0, none⟩ (.int .i64 0)).heap[w.heap.size + 1]? = some (.cells #[.slice a rows.length c] 32 (0, 0)) := by
        rw [Below.heap_setCell _ _ _ _ (by show w.heap.size + 1 ≠ w.heap.size + 1 + 1; omega)]; exact b4
      have b5 : (W2.setCell ⟨w.heap.size + 1, 0, none⟩ (.slice a rows.length c)).heap[w.heap.size + 1 + 1]? = some (.cells #[.int .i64 0] 33 (0, 0)) := by
        rw [Below.heap_setCell _ _ _ _ (by show w.heap.size + 1 + 1 ≠ w.heap.size + 1; omega)]; exact B5.out
      have b5' : ((W2.setCell ⟨w.heap.size + 1, 0, none⟩ (.slice a rows.length c)).setCell ⟨w.heap.size + 1 + 1, 0, none⟩ (.int .i64 0)).heap[w.heap.size + 1 + 1]? = some (.cells #[.int .i64 0] 33 (0, 0)) := heap_setCell_same b5 _
      have KD : Keep (fun k => k ≠ w.heap.size + 1 ∧ k ≠ w.heap.size + 1 + 1 ∧ k ≠ w3.heap.size) W2 (((W2.setCell ⟨w.heap.size + 1, 0, none⟩ (.slice a rows.length c)).setCell ⟨w.heap.size + 1 + 1, 0, none⟩ (.int .i64 0)).putObj w3.heap.size (.deferred none)) :=
        (((Keep.refl _ W2).setCell _ _ (fun _ h => h.1 rfl)).setCell _ _ (fun _ h => h.2.1 rfl)).putObj _ _ (fun h => h.2.2 rfl)
      have o2 := own_blocks HOw.out (fun g hg => KD.block g (own_in HOw.out hg) (by have := G3.out g hg; exact ⟨by omega, by omega, by omega⟩))
      have hf : flat 1 slC rows' = rows'.map fun r => r.v := by simp [flat, slC, List.range_succ, ← List.map_eq_flatMap]
      have o2' := o2
      rw [← hf] at o2'
      have conv : ∀ X : World, X.ownsRow 0 25 1 (.slice a rows.length c) rows.length (flat 1 slC rows') → X.ownsRow 0 25 1 (.slice a rows'.length c) rows'.length (flat 1 slC rows') := fun X h => by rw [hrl']; exact h
      refine ⟨by simp, .inl ⟨_, _, rfl, run_takeDeferred e1, ?_⟩⟩
      refine ⟨_, res2 rfl _ _ ⟨w.heap.size + 1, 0, none⟩ ⟨w.heap.size + 1 + 1, 0, none⟩ rfl rfl _ _ (load41 _ _ _ ((cell_at ((World.putObj_heap_other (by omega)).trans b4') 0).trans rfl)) (load38 _ _ _ ((cell_at ((World.putObj_heap_other (by omega)).trans b5') 0).trans rfl)),
        a, c, rows', 0, by rw [hrl']; rfl, ⟨by omega, conv _ o2', (fun g hg => by rw [hrl'] at hg; have := G3.out g hg; omega), fun r hr => ?_⟩, .inl ⟨rfl, ⟨?_, HSo.out⟩, HLen.out⟩, ?_⟩
      · have hr' := HP.out.mem_iff.1 hr
        have o3 := own_blocks (G4.out r hr').2.1 (fun g hg => K2.out.block g (own_in (G4.out r hr').2.1 hg) (fun e => by
          rcases own_apart G2.out (G4.out r hr').2.1 (by decide) with h | h
          · rw [h] at e; cases e
          · exact h (e.trans hg.symm)))
        exact ⟨(G4.out r hr').1, own_blocks o3 (fun g hg => KD.block g (own_in o3 hg) (by have := (G4.out r hr').2.2 g hg; exact ⟨by omega, by omega, by omega⟩)), (fun g hg => by have := (G4.out r hr').2.2 g hg; omega)⟩
      · have := HP.out.map (fun r => r.l)
        rwa [G5.out] at this
      · exact ext_keep (ext_keep (ext_keep HXw.out HKp.out (fun i hi => ⟨by omega, by omega, by omega⟩)) K2.out (fun i hi => HOb.out i (by omega))) KD (fun i hi => ⟨by omega, by omega, by omega⟩)
theorem All_any (t : TV) (w : World) (ht : IsT w t) (hk : OkT t) :
    Calls Tryz.prog 8 #[t.v] w fun e w' => ∃ (a : Option Addr) (c : Nat) (rows : List (SL Nat)) (er : Nat), e = .returned (.tuple #[.slice a rows.length c, .int .i64 (er : Int)]) ∧ IsSl 1 slC w' ⟨a, c, rows⟩ ∧ (∀ r ∈ rows, IsSl 1 num w' r) ∧
      (er = 0 ∧ AllL t (rows.map fun r => r.l) ∧ (allD t).length ≤ 200 ∨ er = 11 ∧ rows = [] ∧ 200 < (allD t).length) ∧ Ext w w' := by
  refine (All_own t w ht hk).mono ?_
  rintro e w' ⟨a, c, rows, er, h1, h2, h3, h4⟩
  exact ⟨a, c, rows, er, h1, h2.is.1, h2.is.2, h3, h4⟩
end Go.Proofs.YtopjjcgmcieboaaGreatDoor

namespace Go.Proofs.YtopjjcgmcieboaaGreatDoor
open Go.RowKit

/-- A function value answers a question of lists, and draws at most. -/
def AsksQ (g : Nat) (cap : Array Value) (D : SL Nat → Prop) (p : SL Nat → Bool) (w : World) : Prop :=
  ∀ x : SL Nat, D x → ∀ w' : World, Dr w w' → Calls Tryz.prog g (#[.slice x.a x.l.length x.c] ++ cap) w' fun e w'' => e = .returned (.bool (p x)) ∧ Dr w' w''

set_option maxHeartbeats 400000 in
theorem indexRow_q (g : Nat) (cap : Array Value) (D : SL Nat → Prop) (p : SL Nat → Bool) (a : Option Addr) (n c : Nat) (l : List (SL Nat)) (w : World) (hE : Enters Tryz.prog g) (hn : l.length = n) (hv : IsSl 1 slC w ⟨a, c, l⟩)
    (hp : AsksQ g cap D p w) (hD : ∀ x ∈ l, D x) :
    Calls Tryz.prog 47 #[.slice a n c, .func (.func g) #[] cap] w fun e w' => (∃ r : Int, e = .returned (.int .i64 r) ∧ ((r = -1 ∧ l.any p = false) ∨ (0 ≤ r ∧ l.any p = true))) ∧ Dr w w' := by
  subst hn
  obtain ⟨h1, h2, h3⟩ := hv
  dsimp only at h1 h2 h3
  have H3 := Lib.hid h3; clear h3
  have HP := Lib.hid hp; clear hp
  have HD := Lib.hid hD; clear hD
  have HE : ∀ args w, (callFunc g args).run Tryz.prog w = .ok (.enter g args) w := hE; clear hE
  go_enter Tryz.func47, Tryz.ntmps47
  go_wp2
  go_loopw [8] (fun i wr => ∃ k : Nat, k ≤ l.length ∧ i = .int .i64 k ∧ Hid ((l.take k).all (fun x => !p x) = true) ∧ Dr w wr) (fun i _ => l.length - (intOf i).toNat)
  case atStart => exact ⟨0, Nat.zero_le _, rfl, by simp [Hid], Dr.refl _⟩
  case round =>
    obtain ⟨k, hk, rfl, HA, hext⟩ := hrel
    by_cases hlt : k < l.length
    · obtain ⟨b, off, rfl, hc⟩ := H3.out.resolve_left (by omega)
      have hcell : wr.cell? ⟨b, off + k, none⟩ = some (.slice l[k].a l[k].l.length l[k].c) := by have := hext.cell (hc k (by simpa using hlt) 0 (by omega)); simpa [slC] using this
      clear hc
      have HDy := Lib.hid (HD.out _ (List.getElem_mem hlt))
      have HAn : Hid ((l.take (k + 1)).all (fun x => !p x) = ((l.take k).all (fun x => !p x) && !p l[k])) := all_take_succ _ _ _ hlt
      have HMy : Hid (l[k] ∈ l) := List.getElem_mem _
      generalize l[k] = y at *
      have HX := Lib.hid hext; clear hext
      go_wp2_with fail
      refine (HP.out y HDy.out wr HX.out).mono ?_
      rintro e w1 ⟨rfl, hx1⟩
      have HX1 := Lib.hid (HX.out.trans hx1); clear hx1
      cases hpx : p y
      · have Hpx := Lib.hid hpx; clear hpx
        go_wp2
        go_roundw
        case rel => exact ⟨k + 1, by omega, by go_num, by show _ = true; rw [HAn.out, HA.out, Hpx.out]; rfl, HX1.out⟩
        case measure => simp [intOf]; omega
      · have Hpx := Lib.hid hpx; clear hpx
        go_wp2
        go_ret
        exact ⟨⟨k, rfl, .inr ⟨by omega, List.any_eq_true.2 ⟨y, HMy.out, Hpx.out⟩⟩⟩, HX1.out⟩
    · have HX := Lib.hid hext; clear hext
      go_wp2
      go_ret
      refine ⟨⟨-1, rfl, .inl ⟨rfl, ?_⟩⟩, HX.out⟩
      have := HA.out
      rw [List.take_of_length_le (by omega)] at this
      rw [List.any_eq_false]; intro x hx; have := List.all_eq_true.1 this x hx; simpa using this

set_option maxHeartbeats 400000 in
theorem containsRow_q (g : Nat) (cap : Array Value) (D : SL Nat → Prop) (p : SL Nat → Bool) (a : Option Addr) (n c : Nat) (l : List (SL Nat)) (w : World) (hE : Enters Tryz.prog g) (hn : l.length = n) (hv : IsSl 1 slC w ⟨a, c, l⟩)
    (hp : AsksQ g cap D p w) (hD : ∀ x ∈ l, D x) :
    Calls Tryz.prog 14 #[.slice a n c, .func (.func g) #[] cap] w fun e w' => e = .returned (.bool (l.any p)) ∧ Dr w w' := by
  have HI := Lib.hid (indexRow_q g cap D p a n c l w hE hn hv hp hD)
  clear hE hn hv hp hD
  go_enter Tryz.func14, Tryz.ntmps14
  go_wp2_with fail
  refine HI.out.mono ?_
  rintro e w' ⟨⟨r, rfl, hr⟩, hx⟩
  have HR := Lib.hid hr; clear hr
  have HX := Lib.hid hx; clear hx
  go_wp2
  go_ret
  refine ⟨?_, HX.out⟩
  rcases HR.out with ⟨rfl, hall⟩ | ⟨h0, hall⟩
  · rw [hall]; rfl
  · rw [hall]
    have h0' : decide ((0 : Int) ≤ r) = true := by simpa using h0
    show Ending.returned (.bool (decide ((0 : Int) ≤ r))) = _
    rw [h0']

theorem listed1_q (b : Nat) (x y : SL Nat) (w : World) (hc : w.heap[b]? = some (.cells #[.slice x.a x.l.length x.c] 25 (0, 0))) (hx : IsSl 1 num w x) (hy : IsSl 1 num w y) :
    Calls Tryz.prog 22 #[.slice y.a y.l.length y.c, .pointer (some ⟨b, 0, none⟩)] w fun e w' => e = .returned (.bool (decide (y.l = x.l))) ∧ Dr w w' := by
  have HE := Lib.hid (equal_any y x w hy hx)
  have c0 : w.cell? ⟨b, 0, none⟩ = some (.slice x.a x.l.length x.c) := (cell_at hc 0).trans rfl
  clear hc hx hy
  generalize decide (y.l = x.l) = r at *
  go_enter Tryz.func22, Tryz.ntmps22
  go_wp2_with fail
  refine HE.out.mono ?_
  rintro e w' ⟨rfl, hx⟩
  have HX : Hid (Dr w w') := hx
  clear hx
  go_wp2
  go_ret
  exact ⟨rfl, HX.out⟩
theorem listed2_q (b : Nat) (x y : SL Nat) (w : World) (hc : w.heap[b]? = some (.cells #[.slice x.a x.l.length x.c] 25 (0, 0))) (hx : IsSl 1 num w x) (hy : IsSl 1 num w y) :
    Calls Tryz.prog 23 #[.slice y.a y.l.length y.c, .pointer (some ⟨b, 0, none⟩)] w fun e w' => e = .returned (.bool (decide (y.l = x.l))) ∧ Dr w w' := by
  have HE := Lib.hid (equal_any y x w hy hx)
  have c0 : w.cell? ⟨b, 0, none⟩ = some (.slice x.a x.l.length x.c) := (cell_at hc 0).trans rfl
  clear hc hx hy
  generalize decide (y.l = x.l) = r at *
  go_enter Tryz.func23, Tryz.ntmps23
  go_wp2_with fail
  refine HE.out.mono ?_
  rintro e w' ⟨rfl, hx⟩
  have HX : Hid (Dr w w') := hx
  clear hx
  go_wp2
  go_ret
  exact ⟨rfl, HX.out⟩
theorem enters_22 : Enters Tryz.prog 22 := fun args w => Proofs.enters_of Tryz.func22 (by kernel_rfl) rfl args w
theorem enters_23 : Enters Tryz.prog 23 := fun args w => Proofs.enters_of Tryz.func23 (by kernel_rfl) rfl args w
/-- A line is among those listed. -/
theorem listed1_in (b : Nat) (x : SL Nat) (aa : Option Addr) (ca : Nat) (la : List (SL Nat)) (w : World) (hc : w.heap[b]? = some (.cells #[.slice x.a x.l.length x.c] 25 (0, 0))) (hx : IsSl 1 num w x) (ha : IsSl 1 slC w ⟨aa, ca, la⟩) (hr : ∀ r ∈ la, IsSl 1 num w r) (hall : la.any (fun y => decide (y.l = x.l)) = true) (n : Nat) :
    Calls Tryz.prog 14 #[.slice aa la.length ca, .func (.func 22) #[] #[.pointer (some ⟨b, 0, none⟩)]] (w.drewN n) fun e w'' => e = .returned (.bool true) ∧ ∃ m, w'' = w.drewN m := by
  have hx0 : Ext w (w.drewN n) := (Ext.refl w).drewN n
  refine (containsRow_q 22 #[.pointer (some ⟨b, 0, none⟩)] (fun r => r ∈ la) (fun y => decide (y.l = x.l)) aa la.length ca la _ enters_22 rfl (ha.ext hx0) ?_ (fun x hx => hx)).mono ?_
  · intro r hr' w' hw'
    exact listed1_q b x r w' ((hx0.trans hw'.ext).block hc) (hx.ext (hx0.trans hw'.ext)) ((hr r hr').ext (hx0.trans hw'.ext))
  · rintro e w'' ⟨rfl, m, rfl⟩
    rw [hall]
    exact ⟨rfl, n + m, (drewN_add w n m).symm ▸ rfl⟩
theorem listed2_in (b : Nat) (x : SL Nat) (aa : Option Addr) (ca : Nat) (la : List (SL Nat)) (w : World) (hc : w.heap[b]? = some (.cells #[.slice x.a x.l.length x.c] 25 (0, 0))) (hx : IsSl 1 num w x) (ha : IsSl 1 slC w ⟨aa, ca, la⟩) (hr : ∀ r ∈ la, IsSl 1 num w r) (hall : la.any (fun y => decide (y.l = x.l)) = true) (n : Nat) :
    Calls Tryz.prog 14 #[.slice aa la.length ca, .func (.func 23) #[] #[.pointer (some ⟨b, 0, none⟩)]] (w.drewN n) fun e w'' => e = .returned (.bool true) ∧ ∃ m, w'' = w.drewN m := by
  have hx0 : Ext w (w.drewN n) := (Ext.refl w).drewN n
  refine (containsRow_q 23 #[.pointer (some ⟨b, 0, none⟩)] (fun r => r ∈ la) (fun y => decide (y.l = x.l)) aa la.length ca la _ enters_23 rfl (ha.ext hx0) ?_ (fun x hx => hx)).mono ?_
  · intro r hr' w' hw'
    exact listed2_q b x r w' ((hx0.trans hw'.ext).block hc) (hx.ext (hx0.trans hw'.ext)) ((hr r hr').ext (hx0.trans hw'.ext))
  · rintro e w'' ⟨rfl, m, rfl⟩
    rw [hall]
    exact ⟨rfl, n + m, (drewN_add w n m).symm ▸ rfl⟩
end Go.Proofs.YtopjjcgmcieboaaGreatDoor

namespace Go.Proofs.YtopjjcgmcieboaaGreatDoor
open Go.RowKit

theorem info38 : (Tryz.prog.info? 38).map (fun i => (i.zero, i.size, i.bytes)) = some (some (.slice none 0 0), 1, 24) := by kernel_rfl
theorem info4b : (Tryz.prog.info? 4).map (fun i => (i.zero, i.size, i.bytes)) = some (some (.bool false), 1, 1) := by kernel_rfl

/-- A table of marks: block E holds n slices, of which the first m are rows of P marks each, in blocks of their own. -/
structure EB (w : World) (base E n P m : Nat) (rb : Nat → Nat) (M : Nat → Nat → Bool) : Prop where
  hd : ∃ cur : Array Value, w.heap[E]? = some (.cells cur 38 (0, 0)) ∧ cur.size = n ∧ ∀ i, i < n → cur[i]? = some (if i < m then .slice (some ⟨rb i, 0, none⟩) P P else .slice none 0 0)
  low : base ≤ E
  row : ∀ i, i < m → ∃ cs : Array Value, w.heap[rb i]? = some (.cells cs 4 (0, 0)) ∧ cs.size = P ∧ ∀ p, p < P → cs[p]? = some (.bool (M i p))
  rlow : ∀ i, i < m → base ≤ rb i
  apart : ∀ i j, i < m → j < m → rb i = rb j → i = j

theorem EB.ne {w : World} {base E n P m : Nat} {rb : Nat → Nat} {M : Nat → Nat → Bool} (h : EB w base E n P m rb M) {i : Nat} (hi : i < m) : rb i ≠ E := by
  intro e
  obtain ⟨cur, h1, _⟩ := h.hd
  obtain ⟨cs, h2, _⟩ := h.row i hi
  rw [e, h1] at h2
  simp at h2
theorem EB.keep {D : Nat → Prop} {w w' : World} {base E n P m : Nat} {rb : Nat → Nat} {M : Nat → Nat → Bool} (h : EB w base E n P m rb M) (k : Keep D w w') (hd : ∀ i, base ≤ i → D i) : EB w' base E n P m rb M := by
  obtain ⟨⟨cur, h1, h2⟩, h3, h4, h5, h6⟩ := h
  refine ⟨⟨cur, k.heap h1 (hd E h3), h2⟩, h3, fun i hi => ?_, h5, h6⟩
  obtain ⟨cs, q1, q2⟩ := h4 i hi
  exact ⟨cs, k.heap q1 (hd _ (h5 i hi)), q2⟩
theorem EB.ext {w w' : World} {base E n P m : Nat} {rb : Nat → Nat} {M : Nat → Nat → Bool} (h : EB w base E n P m rb M) (k : Ext w w') : EB w' base E n P m rb M :=
  h.keep (D := fun _ => True) (Keep.of_ext k) (fun _ _ => trivial)
theorem EB.congr {w : World} {base E n P m : Nat} {rb : Nat → Nat} {M M' : Nat → Nat → Bool} (h : EB w base E n P m rb M) (he : ∀ i p, i < m → p < P → M i p = M' i p) : EB w base E n P m rb M' := by
  obtain ⟨h1, h3, h4, h5, h6⟩ := h
  refine ⟨h1, h3, fun i hi => ?_, h5, h6⟩
  obtain ⟨cs, q1, q2, q3⟩ := h4 i hi
  exact ⟨cs, q1, q2, fun p hp => by rw [q3 p hp, he i p hi hp]⟩
theorem EB.cellE {w : World} {base E n P m : Nat} {rb : Nat → Nat} {M : Nat → Nat → Bool} (h : EB w base E n P m rb M) (i : Nat) (hi : i < n) (hm : i < m) : w.cell? ⟨E, i, none⟩ = some (.slice (some ⟨rb i, 0, none⟩) P P) := by
  obtain ⟨cur, h1, _, h3⟩ := h.hd
  rw [cell_at h1, h3 i hi, if_pos hm]
theorem EB.cellN {w : World} {base E n P m : Nat} {rb : Nat → Nat} {M : Nat → Nat → Bool} (h : EB w base E n P m rb M) (i : Nat) (hi : i < n) (hm : m ≤ i) : w.cell? ⟨E, i, none⟩ = some (.slice none 0 0) := by
  obtain ⟨cur, h1, _, h3⟩ := h.hd
  rw [cell_at h1, h3 i hi, if_neg (by omega)]
theorem EB.cellM {w : World} {base E n P m : Nat} {rb : Nat → Nat} {M : Nat → Nat → Bool} (h : EB w base E n P m rb M) (i p : Nat) (hi : i < m) (hp : p < P) : w.cell? ⟨rb i, p, none⟩ = some (.bool (M i p)) := by
  obtain ⟨cs, h1, _, h3⟩ := h.row i hi
  rw [cell_at h1, h3 p hp]
theorem EB.frozenE {w : World} {base E n P m : Nat} {rb : Nat → Nat} {M : Nat → Nat → Bool} (h : EB w base E n P m rb M) (i : Nat) : w.frozen? ⟨E, i, none⟩ = false := by
  obtain ⟨cur, h1, _⟩ := h.hd; simp [World.frozen?, h1]
theorem EB.frozenM {w : World} {base E n P m : Nat} {rb : Nat → Nat} {M : Nat → Nat → Bool} (h : EB w base E n P m rb M) (i p : Nat) (hi : i < m) : w.frozen? ⟨rb i, p, none⟩ = false := by
  obtain ⟨cs, h1, _⟩ := h.row i hi; simp [World.frozen?, h1]
/-- A mark is set. -/
theorem EB.set {w : World} {base E n P m : Nat} {rb : Nat → Nat} {M : Nat → Nat → Bool} (h : EB w base E n P m rb M) (i p : Nat) (hi : i < m) (hp : p < P) : EB (w.setCell ⟨rb i, p, none⟩ (.bool true)) base E n P m rb (upd M i p true) := by
  have hne := h.ne hi
  obtain ⟨⟨cur, h1, h2⟩, h3, h4, h5, h6⟩ := h
  refine ⟨⟨cur, heap_set_other _ _ _ _ h1 (fun e => hne e.symm), h2⟩, h3, fun j hj => ?_, h5, h6⟩
  obtain ⟨cs, q1, q2, q3⟩ := h4 j hj
  by_cases e : j = i
  · subst e
    refine ⟨_, heap_setCell_same q1 _, by simpa using q2, fun q hq => ?_⟩
    unfold upd
    rw [Array.getElem?_setIfInBounds]
    by_cases e2 : q = p
    · subst e2
      rw [if_pos rfl, if_pos (by omega), if_pos ⟨rfl, rfl⟩]
    · rw [if_neg (fun e => e2 e.symm), if_neg (fun e => e2 e.2)]; exact q3 q hq
  · refine ⟨cs, heap_set_other _ _ _ _ q1 (fun e' => e (h6 j i hj hi e')), q2, fun q hq => ?_⟩
    unfold upd
    rw [if_neg (fun e' => e e'.1)]; exact q3 q hq
/-- A row more. -/
theorem EB.make {w w1 : World} {base E n P m g : Nat} {rb : Nat → Nat} {mc : Array Value} (h : EB w base E n P m rb (fun _ _ => false)) (hx : Ext w w1) (hm : m < n) (hg : w1.heap[g]? = some (.cells mc 4 (0, 0))) (hgl : w.heap.size ≤ g) (hbase : base ≤ w.heap.size) (hms : mc.size = P) (hmc : ∀ p, p < P → mc[p]? = some (.bool false)) :
    EB (w1.setCell ⟨E, m, none⟩ (.slice (some ⟨g, 0, none⟩) P P)) base E n P (m + 1) (fun i => if i = m then g else rb i) (fun _ _ => false) := by
  have hE : E < w.heap.size := by obtain ⟨cur, h1, _⟩ := h.hd; exact (Array.getElem?_eq_some_iff.1 h1).1
  have hR : ∀ i, i < m → rb i < w.heap.size := fun i hi => by obtain ⟨cs, h1, _⟩ := h.row i hi; exact (Array.getElem?_eq_some_iff.1 h1).1
  have hN : ∀ i, i < m → rb i ≠ E := fun i hi => h.ne hi
  obtain ⟨⟨cur, h1, h2, h2'⟩, h3, h4, h5, h6⟩ := h
  constructor
  · refine ⟨_, heap_setCell_same (hx.block h1) _, by simpa using h2, fun i hi => ?_⟩
    rw [Array.getElem?_setIfInBounds]
    by_cases e : i = m
    · subst e
      rw [if_pos rfl, if_pos (by omega), if_pos (by omega), if_pos rfl]
    · rw [if_neg (fun e' => e e'.symm), h2' i hi]
      by_cases e2 : i < m
      · rw [if_pos e2, if_pos (by omega), if_neg e]
      · rw [if_neg e2, if_neg (by omega)]
  · exact h3
  · intro i hi
    show ∃ cs : Array Value, (w1.setCell ⟨E, m, none⟩ (.slice (some ⟨g, 0, none⟩) P P)).heap[if i = m then g else rb i]? = some (.cells cs 4 (0, 0)) ∧ cs.size = P ∧ ∀ p, p < P → cs[p]? = some (.bool false)
    by_cases e : i = m
    · rw [if_pos e]
      exact ⟨mc, heap_set_other _ _ _ _ hg (by omega), hms, hmc⟩
    · rw [if_neg e]
      obtain ⟨cs, q1, q2⟩ := h4 i (by omega)
      exact ⟨cs, heap_set_other _ _ _ _ (hx.block q1) (hN i (by omega)), q2⟩
  · intro i hi
    show base ≤ if i = m then g else rb i
    by_cases e : i = m
    · rw [if_pos e]; omega
    · rw [if_neg e]; exact h5 i (by omega)
  · intro i j hi hj
    show ((if i = m then g else rb i) = if j = m then g else rb j) → i = j
    by_cases e : i = m
    · by_cases e2 : j = m
      · intro _; omega
      · rw [if_pos e, if_neg e2]
        intro e3
        have := hR j (by omega)
        omega
    · by_cases e2 : j = m
      · rw [if_neg e, if_pos e2]
        intro e3
        have := hR i (by omega)
        omega
      · rw [if_neg e, if_neg e2]
        exact h6 i j (by omega) (by omega)

theorem num_cells {w : World} {a : Option Addr} {c : Nat} {l : List Nat} (h : IsSl 1 num w ⟨a, c, l⟩) (hl : 0 < l.length) : ∃ b off, a = some ⟨b, off, none⟩ ∧ l.length ≤ c ∧ ∀ i, i < l.length → w.cell? ⟨b, off + i, none⟩ = some (.int .i64 (gt l i : Int)) := by
  obtain ⟨h1, h2, h3⟩ := h
  obtain ⟨b, off, h4, h5⟩ := h3.resolve_left (by dsimp only; omega)
  refine ⟨b, off, h4, h1, fun i hi => ?_⟩
  have := h5 i hi 0 (by omega)
  unfold gt
  rw [List.getElem?_eq_getElem hi]
  simpa [num] using this

theorem agreed1_q (b : Nat) (x y : SL Nat) (w : World) (hc : w.heap[b]? = some (.cells #[.slice x.a x.l.length x.c] 25 (0, 0))) (hx : IsSl 1 num w x) (hy : IsSl 1 num w y) :
    Calls Tryz.prog 15 #[.slice y.a y.l.length y.c, .pointer (some ⟨b, 0, none⟩)] w fun e w' => e = .returned (.bool (decide (y.l = x.l))) ∧ Dr w w' := by
  have HE := Lib.hid (equal_any y x w hy hx)
  have c0 : w.cell? ⟨b, 0, none⟩ = some (.slice x.a x.l.length x.c) := (cell_at hc 0).trans rfl
  clear hc hx hy
  generalize decide (y.l = x.l) = r at *
  go_enter Tryz.func15, Tryz.ntmps15
  go_wp2_with fail
  refine HE.out.mono ?_
  rintro e w' ⟨rfl, hx⟩
  have HX : Hid (Dr w w') := hx
  clear hx
  go_wp2
  go_ret
  exact ⟨rfl, HX.out⟩
theorem agreed2_q (b : Nat) (x y : SL Nat) (w : World) (hc : w.heap[b]? = some (.cells #[.slice x.a x.l.length x.c] 25 (0, 0))) (hx : IsSl 1 num w x) (hy : IsSl 1 num w y) :
    Calls Tryz.prog 18 #[.slice y.a y.l.length y.c, .pointer (some ⟨b, 0, none⟩)] w fun e w' => e = .returned (.bool (decide (y.l = x.l))) ∧ Dr w w' := by
  have HE := Lib.hid (equal_any y x w hy hx)
  have c0 : w.cell? ⟨b, 0, none⟩ = some (.slice x.a x.l.length x.c) := (cell_at hc 0).trans rfl
  clear hc hx hy
  generalize decide (y.l = x.l) = r at *
  go_enter Tryz.func18, Tryz.ntmps18
  go_wp2_with fail
  refine HE.out.mono ?_
  rintro e w' ⟨rfl, hx⟩
  have HX : Hid (Dr w w') := hx
  clear hx
  go_wp2
  go_ret
  exact ⟨rfl, HX.out⟩
theorem enters_15 : Enters Tryz.prog 15 := fun args w => Proofs.enters_of Tryz.func15 (by kernel_rfl) rfl args w
theorem enters_18 : Enters Tryz.prog 18 := fun args w => Proofs.enters_of Tryz.func18 (by kernel_rfl) rfl args w
/-- Whether a list is among lists, asked by TreatyAgreed's function values. -/
theorem agreed1_in (b : Nat) (x : SL Nat) (aa : Option Addr) (ca : Nat) (la : List (SL Nat)) (w : World) (r : Bool) (hc : w.heap[b]? = some (.cells #[.slice x.a x.l.length x.c] 25 (0, 0))) (hx : IsSl 1 num w x) (ha : IsSl 1 slC w ⟨aa, ca, la⟩) (hr : ∀ r ∈ la, IsSl 1 num w r) (hall : la.any (fun y => decide (y.l = x.l)) = r) (n : Nat) :
    Calls Tryz.prog 14 #[.slice aa la.length ca, .func (.func 15) #[] #[.pointer (some ⟨b, 0, none⟩)]] (w.drewN n) fun e w'' => e = .returned (.bool r) ∧ ∃ m, w'' = w.drewN m := by
  have hx0 : Ext w (w.drewN n) := (Ext.refl w).drewN n
  refine (containsRow_q 15 #[.pointer (some ⟨b, 0, none⟩)] (fun r => r ∈ la) (fun y => decide (y.l = x.l)) aa la.length ca la _ enters_15 rfl (ha.ext hx0) ?_ (fun x hx => hx)).mono ?_
  · intro r hr' w' hw'
    exact agreed1_q b x r w' ((hx0.trans hw'.ext).block hc) (hx.ext (hx0.trans hw'.ext)) ((hr r hr').ext (hx0.trans hw'.ext))
  · rintro e w'' ⟨rfl, m, rfl⟩
    rw [hall]
    exact ⟨rfl, n + m, (drewN_add w n m).symm ▸ rfl⟩
theorem agreed2_in (b : Nat) (x : SL Nat) (aa : Option Addr) (ca : Nat) (la : List (SL Nat)) (w : World) (r : Bool) (hc : w.heap[b]? = some (.cells #[.slice x.a x.l.length x.c] 25 (0, 0))) (hx : IsSl 1 num w x) (ha : IsSl 1 slC w ⟨aa, ca, la⟩) (hr : ∀ r ∈ la, IsSl 1 num w r) (hall : la.any (fun y => decide (y.l = x.l)) = r) (n : Nat) :
    Calls Tryz.prog 14 #[.slice aa la.length ca, .func (.func 18) #[] #[.pointer (some ⟨b, 0, none⟩)]] (w.drewN n) fun e w'' => e = .returned (.bool r) ∧ ∃ m, w'' = w.drewN m := by
  have hx0 : Ext w (w.drewN n) := (Ext.refl w).drewN n
  refine (containsRow_q 18 #[.pointer (some ⟨b, 0, none⟩)] (fun r => r ∈ la) (fun y => decide (y.l = x.l)) aa la.length ca la _ enters_18 rfl (ha.ext hx0) ?_ (fun x hx => hx)).mono ?_
  · intro r hr' w' hw'
    exact agreed2_q b x r w' ((hx0.trans hw'.ext).block hc) (hx.ext (hx0.trans hw'.ext)) ((hr r hr').ext (hx0.trans hw'.ext))
  · rintro e w'' ⟨rfl, m, rfl⟩
    rw [hall]
    exact ⟨rfl, n + m, (drewN_add w n m).symm ▸ rfl⟩
end Go.Proofs.YtopjjcgmcieboaaGreatDoor
