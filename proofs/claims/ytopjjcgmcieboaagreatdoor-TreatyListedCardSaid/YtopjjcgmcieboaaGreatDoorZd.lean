/-
  TreatyListed answers true for every input, and each argument reads afterwards as it read before: what is listed for one reading agrees in it, and is among all lines; and each of all is among those of the first reading in which it agrees. The package-level variables that its row lists start as the program's text lays them.
-/
import Derived.Test.YtopjjcgmcieboaaGreatDoorIh
import Derived.Test.YtopjjcgmcieboaaGreatDoorZc
import Derived.Test.YtopjjcgmcieboaaGreatDoorZb
import Derived.Test.YtopjjcgmcieboaaGreatDoorIn
import Derived.Test.YtopjjcgmcieboaaGreatDoorZe
import Derived.Test.YtopjjcgmcieboaaGreatDoorIj
import Derived.Test.YtopjjcgmcieboaaGreatDoorIi
import Derived.Test.YtopjjcgmcieboaaGreatDoorJe
import Derived.Deep.CutBlock
import Derived.Deep.RegionHeld3
import Derived.Deep.QuietTactic
import Derived.BigQuiet
import Derived.Test.YtopjjcgmcieboaaGreatDoorJn
import Derived.Test.YtopjjcgmcieboaaGreatDoorJi
import Derived.Test.YtopjjcgmcieboaaGreatDoorRows
import Derived.Test.YtopjjcgmcieboaaGreatDoorCards
import Derived.Test.YtopjjcgmcieboaaGreatDoorTie
import Derived.WalkKit
import Derived.ProofKit
import Derived.OpenShut
import Derived.ShutString
import Derived.ChangeOld
import Derived.Below
import Derived.SizedLaws
import Derived.LaidMore
import Derived.Stop.Joined
import Derived.SevenTiedAt
namespace Go.Proofs.YtopjjcgmcieboaaGreatDoor
open Go.RowKit
attribute [local go_sem] Oper.semAt_some

/-- What All has listed by then: a slice of lines in a box, and their texts in a map. -/
def AllJ (ball bm : Nat) (S : Nat → Prop) (W : World) (acc : List (List Nat)) : Prop :=
  CollS S W ball acc ∧ SetAt Tryz.prog 9 4 W bm (acc.map txtB)
/-- All has told that there are too many. -/
def AllX (t : TV) (r1 r2 : Nat) (c : Code) (W : World) : Prop :=
  c = .ret ∧ 200 < (allD t).length ∧ W.heap[r1]? = some (.cells #[.slice none 0 0] 32 (0, 0)) ∧ W.heap[r2]? = some (.cells #[.int .i64 11] 33 (0, 0))
theorem AllJ.keep {ball bm : Nat} {S D : Nat → Prop} {W W' : World} {acc : List (List Nat)} (h : AllJ ball bm S W acc) (k : Keep D W W') (hb : D ball) (hm : D bm) (hd : ∀ i, i < W.heap.size → S i → D i) : AllJ ball bm S W' acc :=
  ⟨h.1.keep k hb hd, h.2.keep k hm⟩
theorem AllX.keep {t : TV} {r1 r2 : Nat} {c : Code} {D : Nat → Prop} {W W' : World} (h : AllX t r1 r2 c W) (k : Keep D W W') (h1 : D r1) (h2 : D r2) : AllX t r1 r2 c W' :=
  ⟨h.1, h.2.1, k.heap h.2.2.1 h1, k.heap h.2.2.2 h2⟩
theorem AllJ.ext {ball bm : Nat} {S : Nat → Prop} {W W' : World} {acc : List (List Nat)} (h : AllJ ball bm S W acc) (k : Ext W W') : AllJ ball bm S W' acc :=
  h.keep (D := fun _ => True) (Keep.of_ext k) trivial trivial (fun _ _ _ => trivial)

/-- A box holds an empty map, another one an empty slice of lists. -/
def MapBox (w1 : World) (s6 : Value) (wx : World) : Prop :=
  ∃ bm B : Nat, s6 = .pointer (some ⟨B, 0, none⟩) ∧ w1.heap.size < bm ∧ w1.heap.size < B ∧ bm ≠ B ∧ Hid (wx.heap[w1.heap.size]? = some (.cells #[.slice none 0 0] 32 (0, 0))) ∧ Hid (SetAt Tryz.prog 9 4 wx bm []) ∧
    Hid (wx.heap[B]? = some (.cells #[.map (some bm)] 70 (0, 0))) ∧ Hid (Ext w1 wx)

theorem TBox.five5 {W : World} {b : Nat} {t : TV} (h : TBox W b t) : W.cell? ⟨b, 0, none⟩ = some (.int .i64 (t.P : Int)) ∧ W.cell? ⟨b, 1, none⟩ = some (.slice t.ways.a t.ways.l.length t.ways.c) ∧ W.cell? ⟨b, 2, none⟩ = some (.slice t.words.a t.words.l.length t.words.c) ∧
    W.cell? ⟨b, 3, none⟩ = some (.slice t.starts.a t.starts.l.length t.starts.c) ∧ W.cell? ⟨b, 4, none⟩ = some (.slice t.legs.a t.legs.l.length t.legs.c) :=
  ⟨(cell_at h 0).trans rfl, (cell_at h 1).trans rfl, (cell_at h 2).trans rfl, (cell_at h 3).trans rfl, (cell_at h 4).trans rfl⟩
theorem zero4 (w : World) : (zeroValue 4).run Tryz.prog w = .ok (.bool false) w := by kernel_rfl

set_option maxRecDepth 100000 in
set_option maxHeartbeats 2000000 in
theorem All_any (t : TV) (w : World) (ht : IsT w t) (hk : OkT t) :
    Calls Tryz.prog 8 #[t.v] w fun e w' => ∃ (a : Option Addr) (c : Nat) (rows : List (SL Nat)) (er : Nat), e = .returned (.tuple #[.slice a rows.length c, .int .i64 (er : Int)]) ∧ IsSl 1 slC w' ⟨a, c, rows⟩ ∧ (∀ r ∈ rows, IsSl 1 num w' r) ∧
      (er = 0 ∧ AllL t (rows.map fun r => r.l) ∧ (allD t).length ≤ 200 ∨ er = 11 ∧ rows = [] ∧ 200 < (allD t).length) ∧ Ext w w' := by
  have HT := Lib.hid ht; clear ht
  have HK := Lib.hid hk; clear hk
  refine callsIn_wide.1 (callsIn_of_wp_marks (n := 3) Tryz.func8 rfl trivial ?_ rfl)
  simp only [Tryz.ntmps8, List.size_toArray, List.length_cons, List.length_nil, Nat.reduceAdd, Nat.reduceSub, Array.replicate_succ, Array.replicate_zero, List.push_toArray, List.append_toArray, List.nil_append, List.cons_append]
  refine wpIn_wide.2 ?_
  obtain ⟨W0, hW0⟩ : ∃ W0, (((w.alloc (.cells #[.int .i64 (t.P : Int), .slice t.ways.a t.ways.l.length t.ways.c, .slice t.words.a t.words.l.length t.words.c, .slice t.starts.a t.starts.l.length t.starts.c, .slice t.legs.a t.legs.l.length t.legs.c] 28)).alloc (.cells #[.slice none 0 0] 32)).alloc (.cells #[.int .i64 0] 33)) = W0 := ⟨_, rfl⟩
  have hX0 : Ext w W0 := by rw [← hW0]; exact (((Ext.refl w).alloc _).alloc _).alloc _
  have hT0 : TBox W0 w.heap.size t := by rw [← hW0]; exact (((Ext.refl _).alloc _).alloc _).block (World.alloc_heap_new w _)
  have h40 : W0.heap[w.heap.size + 1]? = some (.cells #[.slice none 0 0] 32 (0, 0)) := by rw [← hW0]; exact ((Ext.refl _).alloc _).block (new2 w _ _)
  have h50 : W0.heap[w.heap.size + 1 + 1]? = some (.cells #[.int .i64 0] 33 (0, 0)) := by
    rw [← hW0]; have := new2 (w.alloc (.cells #[.int .i64 (t.P : Int), .slice t.ways.a t.ways.l.length t.ways.c, .slice t.words.a t.words.l.length t.words.c, .slice t.starts.a t.starts.l.length t.starts.c, .slice t.legs.a t.legs.l.length t.legs.c] 28)) (.cells #[.slice none 0 0] 32) (.cells #[.int .i64 0] 33)
    rw [World.size_alloc] at this; exact this
  have hs0 : W0.heap.size = w.heap.size + 3 := by rw [← hW0]; simp
  have HW0 := Lib.hid hW0; clear hW0
  go_wp2_with fail
  rw [HW0.out]
  clear HW0
  refine (check_ok t W0 (HT.out.ext hX0) HK.out).mono ?_
  rintro e w1 ⟨rfl, hx1⟩
  have HX1 : Hid (Ext w w1) := hX0.trans hx1
  have HTB1 : Hid (TBox w1 w.heap.size t) := hx1.block hT0
  have HBx : Hid (w1.heap[w.heap.size + 1]? = some (.cells #[.slice none 0 0] 32 (0, 0)) ∧ w1.heap[w.heap.size + 1 + 1]? = some (.cells #[.int .i64 0] 33 (0, 0))) := ⟨hx1.block h40, hx1.block h50⟩
  have HLt : Hid (w.heap.size + 3 ≤ w1.heap.size) := by have := hx1.size; show _ ≤ _; omega
  have hlt1 : w.heap.size < w1.heap.size := by have := hx1.size; omega
  clear hX0 hT0 h40 h50 hs0 hx1
  have c0 := cell_at HTB1.out 0
  have c1 := cell_at HTB1.out 1
  have c2 := cell_at HTB1.out 2
  have c3 := cell_at HTB1.out 3
  have c4 := cell_at HTB1.out 4
  simp only [List.getElem?_toArray, List.getElem?_cons_succ, List.getElem?_cons_zero] at c0 c1 c2 c3 c4
  go_upto_region 5 with (fail)
  clear c0 c1 c2 c3 c4
  go_cut [6] from 15 to 15 (fun s6 wx => MapBox w1 s6 wx)
  case first =>
    have hmm := @run_makeMap Tryz.prog
    go_wp2_with fail
    all_goals go_meet
    have X1 : Ext w1 (w1.alloc (.cells #[.slice none 0 0] 32)) := (Ext.refl w1).alloc _
    have s1 : (w1.alloc (.cells #[.slice none 0 0] 32)).heap.size = w1.heap.size + 1 := World.size_alloc _ _
    have s2 : ((w1.alloc (.cells #[.slice none 0 0] 32)).alloc (.map #[] 0)).heap.size = w1.heap.size + 1 + 1 := by rw [World.size_alloc, s1]
    have m1 : SetAt Tryz.prog 9 4 ((w1.alloc (.cells #[.slice none 0 0] 32)).alloc (.map #[] 0)) (w1.heap.size + 1) [] := by have := SetAt.made (P := Tryz.prog) (K := 9) (E := 4) (w1.alloc (.cells #[.slice none 0 0] 32)); rwa [s1] at this
    refine ⟨w1.heap.size + 1, w1.heap.size + 1 + 1, rfl, by omega, by omega, by omega, ?_, ?_, ?_, (X1.alloc _).alloc _⟩
    · exact ((Ext.refl _).alloc _).block (((Ext.refl _).alloc _).block (World.alloc_heap_new w1 _))
    · exact m1.keep (D := fun _ => True) (Keep.of_ext ((Ext.refl _).alloc _)) trivial
    · have := World.alloc_heap_new ((w1.alloc (.cells #[.slice none 0 0] 32)).alloc (.map #[] 0)) (.cells #[.map (some (w1.heap.size + 1))] 70)
      rwa [s2] at this
  case rest =>
    obtain ⟨bm, B, rfl, hm1, hB1, hmB, HBA, HBS, HBB, HX2⟩ := hcut
    obtain ⟨d0, d1, d2, d3, d4⟩ : _ ∧ _ ∧ _ ∧ _ ∧ _ := TBox.five5 (HX2.out.block HTB1.out)
    have hbc : bm < wc.heap.size := HBS.out.lt
    have hBc : B < wc.heap.size := (Array.getElem?_eq_some_iff.1 HBB.out).1
    have hac : w1.heap.size < wc.heap.size := (Array.getElem?_eq_some_iff.1 HBA.out).1
    go_wp2_with fail
    clear d0 d1 d2 d3 d4
    refine (readings_any t wc).mono ?_
    rintro e w3 ⟨rfl, hx3, hB3, hs3⟩
    have HX3 : Hid (Ext wc w3) := hx3
    have HB3 := Lib.hid hB3
    have HXw : Hid (Ext w w3) := HX1.out.trans (HX2.out.trans hx3)
    have HB3' : Hid (w3.heap[B]? = some (.cells #[.map (some bm)] 70 (0, 0))) := hx3.block HBB.out
    have HJ3 : Hid (∀ S, AllJ w1.heap.size bm S w3 []) := fun S => ⟨CollS.nil (hx3.block HBA.out), HBS.out.keep (D := fun _ => True) (Keep.of_ext hx3) trivial⟩
    have HT3 : Hid (TBox w3 w.heap.size t) := hx3.block (HX2.out.block HTB1.out)
    have HR3 : Hid (w3.heap[w.heap.size + 1]? = some (.cells #[.slice none 0 0] 32 (0, 0)) ∧ w3.heap[w.heap.size + 1 + 1]? = some (.cells #[.int .i64 0] 33 (0, 0))) := ⟨hx3.block (HX2.out.block HBx.out.1), hx3.block (HX2.out.block HBx.out.2)⟩
    have HN : Hid (w.heap.size + 3 ≤ w1.heap.size ∧ w1.heap.size < bm ∧ w1.heap.size < B ∧ bm ≠ B ∧ bm < wc.heap.size ∧ B < wc.heap.size ∧ w1.heap.size < wc.heap.size ∧ w3.heap.size = wc.heap.size + 1) := ⟨HLt.out, hm1, hB1, hmB, hbc, hBc, hac, hs3⟩
    clear hx3 hB3 hs3 hm1 hB1 hmB hbc hBc hac hlt1
    go_wp2_with fail
    refine (wpIn_wide (n := 3)).1 ?_
    refine wp_rangeFuncTH (a₁ := ?a1) rfl enters_71 (readings1_gives t wc.heap.size w w3 (fun k => k ≠ w1.heap.size ∧ k ≠ bm ∧ k ≠ w.heap.size + 1 ∧ k ≠ w.heap.size + 1 + 1) HT.out HK.out HXw.out HB3.out (fun k h => by have := HN.out; omega) (by have := HN.out; omega)) rfl
      (fun hi pre W => AllJ w1.heap.size bm (fun k => hi ≤ k) W (accOf t pre) ∧ (accOf t pre).length ≤ 200 ∧ Keep (fun k => k < w3.heap.size ∧ k ≠ w1.heap.size ∧ k ≠ bm) w3 W)
      (fun hi c pre W => AllX t (w.heap.size + 1) (w.heap.size + 1 + 1) c W ∧ Keep (fun k => k < w3.heap.size ∧ k ≠ w1.heap.size ∧ k ≠ bm ∧ k ≠ w.heap.size + 1 ∧ k ≠ w.heap.size + 1 + 1) w3 W)
      ?_ ?_ ?_ ?assign ?body ?done ?stop
    case assign =>
      intro l s W K hK
      gi_wp2
      exact hK
    · intro hi s A B' hh h hk
      have := HN.out
      exact ⟨h.1.keep hk (.inl (by omega)) (.inl (by omega)) (fun i _ hi' => .inr hi'), h.2.1, h.2.2.trans (hk.mono (fun k _ h => .inl h.1))⟩
    · intro c hi s A B' hh h hk
      have := HN.out
      exact ⟨h.1.keep hk (.inl (by omega)) (.inl (by omega)), h.2.trans (hk.mono (fun k _ h => .inl h.1))⟩
    · intro hi hh
      exact ⟨HJ3.out _, Nat.zero_le _, Keep.refl _ _⟩
    case body =>
      rintro l hi pre s W hh hhW ⟨hJ, hlen, hKp⟩ hpre hsl hown ⟨r0, hr0⟩ hl1 hl2
      have hN := HN.out
      have HXW : Hid (Ext w W) := ext_keep HXw.out hKp (fun i hi => ⟨by omega, by omega, by omega⟩)
      have HTW : Hid (TBox W w.heap.size t) := hKp.heap HT3.out ⟨by omega, by omega, by omega⟩
      have HRd := Lib.hid (allR_rd HK.out (mem_of_prefix hpre))
      have HIs := Lib.hid (own_sl hown hsl)
      have HPre := Lib.hid hpre
      have HJ := Lib.hid hJ
      have HLen := Lib.hid hlen
      have HKp := Lib.hid hKp
      have HR0 := Lib.hid hr0
      clear hpre hown hsl hJ hlen hKp hr0
      obtain ⟨d0, d1, d2, d3, d4⟩ : _ ∧ _ ∧ _ ∧ _ ∧ _ := TBox.five5 HTW.out
      gi_wp2_with (first
        | (refine ⟨trivial, ?_⟩; gi_at_call 33; refine (CallsIn.inRound l (callsIn_wide.2 (read_any t s W (HT.out.ext HXW.out) HK.out HIs.out HRd.out))).mono ?_; rintro e v1 ⟨p, rfl, hw1, hx1⟩; have HW1 := Lib.hid hw1; have HY1 : Hid (Ext W v1) := hx1; clear hw1 hx1)
        | (refine ⟨trivial, ?_⟩; gi_at_call 34; refine (CallsIn.inRound l (callsIn_wide.2 (lines_any p v1))).mono ?_; rintro e v2 ⟨rfl, hx2, hc2, hs2⟩; have HY2 : Hid (Ext v1 v2) := hx2; have HC2 := Lib.hid hc2; have HS2 : Hid (v2.heap.size = v1.heap.size + 1) := hs2; clear hx2 hc2 hs2))
      clear d0 d1 d2 d3 d4
      have HPb : Hid (∃ cs : Array Value, v1.heap[p]? = some (.cells cs 113 (0, 0))) := by obtain ⟨cs, q1, _⟩ := HW1.out; exact ⟨cs, q1⟩
      have hpl : p < v1.heap.size := by obtain ⟨cs, q1⟩ := HPb.out; exact (Array.getElem?_eq_some_iff.1 q1).1
      have HPn : Hid (p ≠ w1.heap.size ∧ p ≠ bm ∧ p ≠ w.heap.size + 1 ∧ p ≠ w.heap.size + 1 + 1) := by
        obtain ⟨cs, q1⟩ := HPb.out
        refine ⟨?_, ?_, ?_, ?_⟩
        · rintro rfl
          obtain ⟨a, c, rows, h1, -⟩ := HJ.out.1
          rw [HY1.out.block h1] at q1; simp at q1
        · rintro rfl
          obtain ⟨es, clock, h1, -⟩ := HJ.out.2
          rw [HY1.out.block h1] at q1; simp at q1
        · rintro rfl
          have := HY1.out.block (HKp.out.heap HR3.out.1 ⟨by omega, by omega, by omega⟩)
          rw [this] at q1; simp at q1
        · rintro rfl
          have := HY1.out.block (HKp.out.heap HR3.out.2 ⟨by omega, by omega, by omega⟩)
          rw [this] at q1; simp at q1
      have HSt : Hid (AllJ w1.heap.size bm (fun k => hi ≤ k ∧ k < v1.heap.size ∧ k ≠ p) v2 (accOf t pre)) := by
        obtain ⟨cs, q1⟩ := HPb.out
        have h1 := HJ.out.ext HY1.out
        exact AllJ.ext ⟨h1.1.avoid q1 (by decide) (by decide), h1.2⟩ HY2.out
      have hW1 : W.heap.size ≤ v1.heap.size := HY1.out.size
      have HWv : Hid (Ext W v2) := HY1.out.trans HY2.out
      have hs2a : v2.heap.size ≤ v1.heap.size + 1 := Nat.le_of_eq HS2.out
      have hs2b : v1.heap.size + 1 ≤ v2.heap.size := Nat.le_of_eq HS2.out.symm
      refine wp_rangeFuncTN (l₀ := l) (r₀ := r0) (HWv.out.block HR0.out) (a₁ := ?a2) rfl enters_77 (lines1_gives t (leadsOf t s.l) p v1.heap.size w v2 (fun k => k ≠ w1.heap.size ∧ k ≠ bm ∧ k ≠ w.heap.size + 1 ∧ k ≠ w.heap.size + 1 + 1 ∧ ¬ (hi ≤ k ∧ k < v1.heap.size ∧ k ≠ p)) HK.out HT.out.starts (HXW.out.trans HWv.out) (HW1.out.ext HY2.out) HC2.out
          (fun k h => by omega) (by have := HPn.out; omega) (by omega)) rfl
        (fun hi2 pre2 W2 => AllJ w1.heap.size bm (fun k => (hi ≤ k ∧ k < v1.heap.size ∧ k ≠ p) ∨ hi2 ≤ k) W2 (addLs (accOf t pre) pre2) ∧ (addLs (accOf t pre) pre2).length ≤ 200 ∧ Keep (fun k => k < v2.heap.size ∧ k ≠ w1.heap.size ∧ k ≠ bm ∧ ¬ (hi ≤ k ∧ k < v1.heap.size ∧ k ≠ p)) v2 W2)
        (fun hi2 c pre2 W2 => AllX t (w.heap.size + 1) (w.heap.size + 1 + 1) c W2 ∧ Keep (fun k => k < v2.heap.size ∧ k ≠ w1.heap.size ∧ k ≠ bm ∧ k ≠ w.heap.size + 1 ∧ k ≠ w.heap.size + 1 + 1 ∧ ¬ (hi ≤ k ∧ k < v1.heap.size ∧ k ≠ p)) v2 W2)
        ?_ ?_ ?_ ?assign2 ?body2 ?done2 ?stop2
      case assign2 =>
        intro l2 s2 W2 K hK
        gi_wp2
        exact hK
      · intro hi2 s2 A B' hh2 h hk
        refine ⟨h.1.keep hk (.inl (by omega)) (.inl (by omega)) (fun i _ hi' => ?_), h.2.1, h.2.2.trans (hk.mono (fun k _ h => .inl h.1))⟩
        rcases hi' with h' | h'
        · exact .inl (by omega)
        · exact .inr h'
      · intro c hi2 s2 A B' hh2 h hk
        exact ⟨h.1.keep hk (.inl (by omega)) (.inl (by omega)), h.2.trans (hk.mono (fun k _ h => .inl h.1))⟩
      · intro hi2 hh2
        exact ⟨⟨HSt.out.1.mono (fun i _ h => .inl h), HSt.out.2⟩, HLen.out, Keep.refl _ _⟩
      case body2 =>
        rintro l2 hi2 pre2 x W2 hh2 hhW2 ⟨hJ2, hlen2, hKp2⟩ hpre2 hsl2 hown2
        have hx1 := lines_lt HK.out.start.1 (mem_of_prefix hpre2)
        have hP := HK.out.p2
        have hlg := HK.out.legs
        have HIx := Lib.hid (own_sl hown2 hsl2)
        have HX100 : Hid (∀ y ∈ x.l, y < 100) := fun y hy => by have := hx1.2 y hy; omega
        have hxl : x.l.length ≤ 100 := by have := hx1.1; omega
        have HAcc : Hid (∀ l ∈ addLs (accOf t pre) pre2, ∀ y ∈ l, y < 100) := fun l hl y hy => by have := acc_lt HK.out.start.1 (pre := pre) ((List.prefix_append pre2 [x.l]).trans hpre2) l hl y hy; omega
        have HMem := Lib.hid (mem_txtB HX100.out HAcc.out)
        have HSn : Hid (addLs (accOf t pre) (pre2 ++ [x.l]) = addL (addLs (accOf t pre) pre2) x.l) := by show _ = _; rw [addLs_append]; rfl
        have HLb := Lib.hid (len_by HPre.out hpre2)
        have HTb := txtB_len HX100.out
        have HB2 : Hid (W2.heap[B]? = some (.cells #[.map (some bm)] 70 (0, 0))) := hKp2.heap (HWv.out.block (HKp.out.heap HB3'.out ⟨by omega, by omega, by omega⟩)) ⟨by omega, by omega, by omega, by omega⟩
        have HR2 : Hid (W2.heap[w.heap.size + 1]? = some (.cells #[.slice none 0 0] 32 (0, 0)) ∧ W2.heap[w.heap.size + 1 + 1]? = some (.cells #[.int .i64 0] 33 (0, 0))) :=
          ⟨hKp2.heap (HWv.out.block (HKp.out.heap HR3.out.1 ⟨by omega, by omega, by omega⟩)) ⟨by omega, by omega, by omega, by omega⟩, hKp2.heap (HWv.out.block (HKp.out.heap HR3.out.2 ⟨by omega, by omega, by omega⟩)) ⟨by omega, by omega, by omega, by omega⟩⟩
        obtain ⟨a, c, rows, g1, g2, g3, g4, g5⟩ := hJ2.1
        have hrl : rows.length = (addLs (accOf t pre) pre2).length := by rw [← g5, List.length_map]
        have G1 := Lib.hid g1
        have G2' := Lib.hid g2
        have G3 := Lib.hid g3
        have G4 := Lib.hid g4
        have G5 := Lib.hid g5
        have HSA := Lib.hid hJ2.2
        have HKp2 := Lib.hid hKp2
        have HOx := Lib.hid hown2
        have HSx := Lib.hid hsl2
        clear hJ2 hKp2 hpre2 hown2 hsl2 g1 g2 g3 g4 g5 hx1
        generalize hacc : addLs (accOf t pre) pre2 = acc at *
        have HAe := Lib.hid hacc; clear hacc
        by_cases hin : x.l ∈ acc
        · have HD : Hid (decide ((⟨(txtB x.l).toArray⟩ : ByteArray).data.toList ∈ acc.map txtB) = true) := decide_eq_true (HMem.out.2 hin)
          have HIn := Lib.hid hin; clear hin
          gi_wp2_with (first
            | (refine ⟨trivial, ?_⟩; gi_at_call 35; refine (CallsIn.inRound l2 (callsIn_wide.2 (textOf_any x W2 HIx.out HX100.out hxl))).mono ?_; rintro e W3 ⟨rfl, hx3⟩; have HY3 : Hid (Ext W2 W3) := hx3; have cb := cell_at (hx3.block HB2.out) 0; simp only [List.getElem?_toArray, List.getElem?_cons_zero] at cb; clear hx3)
            | (gi_at_lookup; refine wpListIn_lookup_set _ rfl _ _ 70 rfl 9 4 Tryz.underlying9 Tryz.underlying70 Tryz.underlying4 (zero4 _) bm (acc.map txtB) rfl (HSA.out.keep (D := fun _ => True) (Keep.of_ext HY3.out) trivial) ⟨(txtB x.l).toArray⟩ rfl (by show (txtB x.l).length ≤ maxLen; unfold maxLen; omega) ?_; rw [HD.out]))
          have HJ3 : AllJ w1.heap.size bm (fun k => (hi ≤ k ∧ k < v1.heap.size ∧ k ≠ p) ∨ hi2 ≤ k) W3 acc := AllJ.ext ⟨⟨a, c, rows, G1.out, G2'.out, G3.out, G4.out, G5.out⟩, HSA.out⟩ HY3.out
          refine ⟨Keep.of_ext HY3.out, ?_, ?_, HKp2.out.ext HY3.out⟩
          · rw [HSn.out, addL_in HIn.out]; exact HJ3
          · rw [HSn.out, addL_in HIn.out]; exact hlen2
        · have HD : Hid (decide ((⟨(txtB x.l).toArray⟩ : ByteArray).data.toList ∈ acc.map txtB) = false) := decide_eq_false (fun h => hin (HMem.out.1 h))
          have HIn := Lib.hid hin; clear hin
          by_cases h200 : rows.length = 200
          · have hlong : 200 < (allD t).length := by
              have h1 := HLb.out
              rw [addL_out HIn.out, List.length_append, List.length_singleton] at h1
              omega
            have HLong := Lib.hid hlong; clear hlong
            have d200 : ((rows.length : Int) == 200) = true := by rw [h200]; rfl
            clear h200 hrl
            gi_wp2_with (first
              | (refine ⟨trivial, ?_⟩; gi_at_call 35; refine (CallsIn.inRound l2 (callsIn_wide.2 (textOf_any x W2 HIx.out HX100.out hxl))).mono ?_; rintro e W3 ⟨rfl, hx3⟩; have HY3 : Hid (Ext W2 W3) := hx3; have cb := cell_at (hx3.block HB2.out) 0; simp only [List.getElem?_toArray, List.getElem?_cons_zero] at cb; have ca : W3.cell? ⟨w1.heap.size, 0, none⟩ = some (.slice a rows.length c) := (cell_at (hx3.block G1.out) 0).trans rfl; have hB4 := hx3.block HR2.out.1; have hB5 := hx3.block HR2.out.2; have hc4 : W3.cell? ⟨w.heap.size + 1, 0, none⟩ = some (.slice none 0 0) := (cell_at hB4 0).trans rfl; have hc5 : W3.cell? ⟨w.heap.size + 1 + 1, 0, none⟩ = some (.int .i64 0) := (cell_at hB5 0).trans rfl; have hf4 : W3.frozen? ⟨w.heap.size + 1, 0, none⟩ = false := (by simp [World.frozen?, hB4]); have hf5 : W3.frozen? ⟨w.heap.size + 1 + 1, 0, none⟩ = false := (by simp [World.frozen?, hB5]); have HB4 := Lib.hid hB4; have HB5 := Lib.hid hB5; clear hx3 hB4 hB5)
              | (gi_at_lookup; refine wpListIn_lookup_set _ rfl _ _ 70 rfl 9 4 Tryz.underlying9 Tryz.underlying70 Tryz.underlying4 (zero4 _) bm (acc.map txtB) rfl (HSA.out.keep (D := fun _ => True) (Keep.of_ext HY3.out) trivial) ⟨(txtB x.l).toArray⟩ rfl (by show (txtB x.l).length ≤ maxLen; unfold maxLen; omega) ?_; rw [HD.out]))
            have b4 : (W3.setCell ⟨w.heap.size + 1, 0, none⟩ (.slice none 0 0)).heap[w.heap.size + 1]? = some (.cells #[.slice none 0 0] 32 (0, 0)) := heap_setCell_same HB4.out _
            have b5 : (W3.setCell ⟨w.heap.size + 1, 0, none⟩ (.slice none 0 0)).heap[w.heap.size + 1 + 1]? = some (.cells #[.int .i64 0] 33 (0, 0)) := (Below.heap_setCell _ _ _ _ (by show w.heap.size + 1 + 1 ≠ w.heap.size + 1; omega)).trans HB5.out
            have K1 : Keep (fun k => k ≠ w.heap.size + 1 ∧ k ≠ w.heap.size + 1 + 1) W2 ((W3.setCell ⟨w.heap.size + 1, 0, none⟩ (.slice none 0 0)).setCell ⟨w.heap.size + 1 + 1, 0, none⟩ (.int .i64 11)) :=
              ((Keep.of_ext HY3.out).setCell _ _ (fun _ h => h.1 rfl)).setCell _ _ (fun _ h => h.2 rfl)
            refine ⟨K1.mono (fun k hk h => ?_), ⟨rfl, HLong.out, (Below.heap_setCell _ _ _ _ (by show w.heap.size + 1 ≠ w.heap.size + 1 + 1; omega)).trans b4, heap_setCell_same b5 _⟩, (HKp2.out.mono (fun k _ h => ⟨h.1, h.2.1, h.2.2.1, h.2.2.2.2.2⟩)).trans (K1.mono (fun k _ h => ⟨h.2.2.2.1, h.2.2.2.2.1⟩))⟩
            rcases h with h | h <;> omega
          · have hrl2 : rows.length < 200 := by omega
            have d200 : ((rows.length : Int) == 200) = false := by rw [beq_eq_false_iff_ne]; omega
            have HRl := Lib.hid hrl
            clear h200 hrl
            have hm1 : rows.length + 1 ≤ maxLen := by unfold maxLen; omega
            obtain ⟨i0, hi0, hz0, hz1, hz2⟩ := info_parts info25
            gi_wp2_with (first
              | (refine ⟨trivial, ?_⟩; gi_at_call 35; refine (CallsIn.inRound l2 (callsIn_wide.2 (textOf_any x W2 HIx.out HX100.out hxl))).mono ?_; rintro e W3 ⟨rfl, hx3⟩; have HY3 : Hid (Ext W2 W3) := hx3; have cb := cell_at (hx3.block HB2.out) 0; simp only [List.getElem?_toArray, List.getElem?_cons_zero] at cb; have ca : W3.cell? ⟨w1.heap.size, 0, none⟩ = some (.slice a rows.length c) := (cell_at (hx3.block G1.out) 0).trans rfl; clear hx3)
              | (gi_at_lookup; refine wpListIn_lookup_set _ rfl _ _ 70 rfl 9 4 Tryz.underlying9 Tryz.underlying70 Tryz.underlying4 (zero4 _) bm (acc.map txtB) rfl (HSA.out.keep (D := fun _ => True) (Keep.of_ext HY3.out) trivial) ⟨(txtB x.l).toArray⟩ rfl (by show (txtB x.l).length ≤ maxLen; unfold maxLen; omega) ?_; rw [HD.out])
              | (gi_at_mapUpdate; refine wpListIn_put_set _ rfl _ _ _ 70 rfl 9 4 Tryz.underlying9 Tryz.underlying70 Tryz.underlying4 bm (acc.map txtB) rfl (HSA.out.keep (D := fun _ => True) (Keep.of_ext HY3.out) trivial) (by rw [List.length_map]; have := HRl.out; unfold maxLen; omega) ⟨(txtB x.l).toArray⟩ rfl rfl (by show (txtB x.l).length ≤ maxLen; unfold maxLen; omega) ?_; intro W4 hs4 hg4; have HS4 := Lib.hid hs4; have k4 : Keep (fun k => k ≠ bm) W2 W4 := (Keep.of_ext HY3.out).grown hg4 (fun k e _ h => h (by cases e; rfl)); have K4 := Lib.hid k4; have b4 := k4.heap G1.out (by omega); have B4 := Lib.hid b4; have O4 := Lib.hid (own_blocks G2'.out (fun g hg => k4.block g (own_in G2'.out hg) (by have := G3.out g hg; omega))); have R4 : Hid (∀ r ∈ rows, r.l.length ≤ 1000000 ∧ W4.ownsRow 0 3 1 r.v r.l.length (nums r.l) ∧ ∀ i, r.v.ownBlock = some i → (hi ≤ i ∧ i < v1.heap.size ∧ i ≠ p) ∨ hi2 ≤ i) := (fun r hr => ⟨(G4.out r hr).1, own_blocks (G4.out r hr).2.1 (fun g hg => k4.block g (own_in (G4.out r hr).2.1 hg) (by have := (G4.out r hr).2.2 g hg; omega)), (G4.out r hr).2.2⟩); have X4 : Hid (W4.ownsRow 0 3 1 x.v x.l.length (nums x.l)) := own_mono (own_blocks HOx.out (fun g hg => k4.block g (own_in HOx.out hg) (by have := (HOx.out.lt g hg).1; omega))) (Nat.zero_le _); have ca : W4.cell? ⟨w1.heap.size, 0, none⟩ = some (.slice a rows.length c) := (cell_at b4 0).trans rfl; have hsz4 : W2.heap.size ≤ W4.heap.size := k4.size; clear hs4 hg4 k4 b4)
              | (gi_at_builtin; refine wpListIn_append_own_at _ rfl _ _ 32 rfl 0 25 i0 (.slice none 0 0) 1 24 Tryz.underlying32 hi0 hz0 hz1 hz2 rfl (by decide) _ rows.length (rows.map fun r => r.v) rfl (O4.out.alloc _) ⟨W4.heap.size, 0, none⟩ 1 1 [x.v] rfl rfl (cell_one_new _ _ _) (by simp [Value.oneCell']) hm1 (by omega) (Nat.zero_le _) ?_; intro v' w5 hown5 hgrow5 _ hloc5;
                 obtain ⟨q1, q2, q3⟩ := CollS.append (S := fun k => (hi ≤ k ∧ k < v1.heap.size ∧ k ≠ p) ∨ hi2 ≤ k) B4.out O4.out G3.out R4.out ⟨HSx.out, X4.out, fun i hi' => .inr (HOx.out.lt i hi').1⟩ (by right; omega) hown5 hgrow5 hloc5;
                 obtain ⟨g', cap', rfl⟩ := ownsRow_succ hown5; have hcb5 : w5.cell? ⟨w1.heap.size, 0, none⟩ = some (.slice a rows.length c) := (cell_at q1 0).trans rfl; have hfb5 : w5.frozen? ⟨w1.heap.size, 0, none⟩ = false := (by simp [World.frozen?, q1]); have Q2 := Lib.hid q2; have Q3 := Lib.hid q3; clear q1 q2 q3 hown5 hgrow5 hloc5))
            have KF := K4.out.mono (D' := fun k => k ≠ w1.heap.size ∧ k ≠ bm ∧ (Value.slice a rows.length c).ownBlock ≠ some k) (fun k _ h => h.2.1)
            have KF2 := KF.trans (Q3.out.mono (fun k _ h => ⟨h.1, h.2.2⟩))
            have hob : ∀ k, (k < v2.heap.size ∧ ¬ (hi ≤ k ∧ k < v1.heap.size ∧ k ≠ p)) ∨ (v2.heap.size ≤ k ∧ k < hi2) → (Value.slice a rows.length c).ownBlock ≠ some k := fun k h e => by
              have h3 := G3.out k e
              omega
            refine ⟨KF2.mono (fun k hk h => ?_), ⟨?_, ?_⟩, ?_, (HKp2.out.trans (KF2.mono (fun k _ h => ⟨h.2.1, h.2.2.1, hob k (.inl ⟨h.1, h.2.2.2⟩)⟩))).mono (fun k _ h => ?_)⟩
            · exact ⟨by omega, by omega, hob k (by omega)⟩
            · rw [HSn.out, addL_out HIn.out]
              have := Q2.out
              rw [List.map_append, G5.out] at this
              exact this
            · rw [HSn.out, addL_out HIn.out, List.map_append]
              exact HS4.out.keep Q3.out ⟨by omega, fun e => by have h3 := G3.out bm e; omega⟩
            · rw [HSn.out, addL_out HIn.out, List.length_append, List.length_singleton]
              have := HRl.out
              omega
            · exact ⟨by omega, by omega, by omega, by omega⟩
      case done2 =>
        rintro hi2 W2 hh2 ⟨hJ2, hlen2, hKp2⟩
        have KW : Keep (Inn w3.heap.size (fun k => k ≠ w1.heap.size ∧ k ≠ bm ∧ k ≠ w.heap.size + 1 ∧ k ≠ w.heap.size + 1 + 1) w3.heap.size hi) W W2 :=
          (Keep.of_ext HWv.out).trans (hKp2.mono fun k hk h => by rcases h with h | h <;> omega)
        refine ⟨KW, ?_, ?_, HKp.out.trans ?_⟩
        · rw [accOf_snoc]
          exact ⟨hJ2.1.mono (fun i _ h => by rcases h with h | h <;> omega), hJ2.2⟩
        · rw [accOf_snoc]; exact hlen2
        · exact (Keep.of_ext HWv.out).trans (hKp2.mono fun k hk h => by omega)
      case stop2 =>
        rintro hi2 c pre2 W2 hh2 hp2 ⟨hX, hKp2⟩
        obtain rfl := hX.1
        apply wpIn_ret
        refine ⟨(Keep.of_ext HWv.out).trans (hKp2.mono fun k hk h => by rcases h with h | h <;> omega), hX, ?_⟩
        exact (HKp.out.mono (fun k _ h => ⟨h.1, h.2.1, h.2.2.1⟩)).trans ((Keep.of_ext HWv.out).trans (hKp2.mono fun k hk h => by omega))
    case stop =>
      rintro hi c pre W hh hp ⟨⟨rfl, q1, q2, q3⟩, q4⟩ hD
      have hN := HN.out
      have hXw2 : Ext w (W.putObj w3.heap.size (.deferred none)) := ext_keep (ext_keep HXw.out q4 (fun i hi => ⟨by omega, by omega, by omega, by omega, by omega⟩)) ((Keep.refl (fun k => k ≠ w3.heap.size) W).putObj _ _ (fun h => h rfl)) (fun i hi => by omega)
      have f4 : (W.putObj w3.heap.size (.deferred none)).cell? ⟨w.heap.size + 1, 0, none⟩ = some (.slice none 0 0) := (cell_at ((World.putObj_heap_other (by omega)).trans q2) 0).trans rfl
      have f5 : (W.putObj w3.heap.size (.deferred none)).cell? ⟨w.heap.size + 1 + 1, 0, none⟩ = some (.int .i64 11) := (cell_at ((World.putObj_heap_other (by omega)).trans q3) 0).trans rfl
      apply wpIn_ret
      simp only [Exit.inBlock, Exit.then]
      refine ⟨by simp, .inl ⟨_, _, rfl, run_takeDeferred hD, ?_⟩⟩
      exact ⟨_, res2 rfl _ _ ⟨w.heap.size + 1, 0, none⟩ ⟨w.heap.size + 1 + 1, 0, none⟩ rfl rfl _ _ (load41 _ _ _ f4) (load38 _ _ _ f5), none, 0, [], 11, rfl, ⟨Nat.le_refl _, by simp, .inl rfl⟩, by simp, .inr ⟨rfl, rfl, q1⟩, hXw2⟩
    case done =>
      rintro hi W hh ⟨hJ, hlen, hKp⟩ hD
      have hN := HN.out
      obtain ⟨a, c, rows, g1, g2, g3, g4, g5⟩ := hJ.1
      have g5' : rows.map (fun r => r.l) = allD t := g5
      have hlen' : (allD t).length ≤ 200 := hlen
      have hnd : (rows.map fun r => r.l).Nodup := by rw [g5']; exact nodup_allD t
      have hrl : rows.length ≤ 200 := by have := congrArg List.length g5'; rw [List.length_map] at this; omega
      have HSort := Lib.hid (sort_lines a c rows W g2 (fun r hr W' hk => own_sl (own_blocks (g4 r hr).2.1 (fun g hg => hk g (own_in (g4 r hr).2.1 hg) (fun e => by
        rcases own_apart g2 (g4 r hr).2.1 (by decide) with h | h
        · rw [h] at e; cases e
        · exact h (e.trans hg.symm)))) (g4 r hr).1) hnd (by omega))
      have h4W : W.heap[w.heap.size + 1]? = some (.cells #[.slice none 0 0] 32 (0, 0)) := hKp.heap HR3.out.1 ⟨by omega, by omega, by omega⟩
      have h5W : W.heap[w.heap.size + 1 + 1]? = some (.cells #[.int .i64 0] 33 (0, 0)) := hKp.heap HR3.out.2 ⟨by omega, by omega, by omega⟩
      have hca : W.cell? ⟨w1.heap.size, 0, none⟩ = some (.slice a rows.length c) := (cell_at g1 0).trans rfl
      have G1 := Lib.hid g1
      have G2 := Lib.hid g2
      have G3 := Lib.hid g3
      have G4 := Lib.hid g4
      have G5 := Lib.hid g5'
      have HLen := Lib.hid hlen'
      have H4W := Lib.hid h4W
      have H5W := Lib.hid h5W
      have HD := Lib.hid hD
      have HKp := Lib.hid hKp
      have e12 : ¬ w.heap.size + 1 = w.heap.size + 1 + 1 := by omega
      have e21 : ¬ w.heap.size + 1 + 1 = w.heap.size + 1 := by omega
      clear hJ hlen hKp g1 g2 g3 g4 g5 g5' hlen' hnd h4W h5W hD hN
      simp only [Exit.inBlock, Exit.then]
      go_wp2_with (go_at_call 36; refine HSort.out.mono ?_; rintro e W2 ⟨rfl, rows', hp, hso, hown, hg⟩; have hN := HN.out; have HP := Lib.hid hp; have HSo := Lib.hid hso; have HOw := Lib.hid hown; have k2 : Keep (fun k => (Value.slice a rows.length c).ownBlock ≠ some k) W W2 := (Keep.refl _ W).grown hg (fun k e _ h => h e); have K2 := Lib.hid k2; have hob : ∀ k, k < hi → (Value.slice a rows.length c).ownBlock ≠ some k := (fun k h e => by have := G3.out k e; omega); have HOb := Lib.hid hob; have b1 := k2.heap G1.out (hob _ (by omega)); have b4 := k2.heap H4W.out (hob _ (by omega)); have b5 := k2.heap H5W.out (hob _ (by omega)); have ca2 : W2.cell? ⟨w1.heap.size, 0, none⟩ = some (.slice a rows.length c) := (cell_at b1 0).trans rfl; have hc4 : W2.cell? ⟨w.heap.size + 1, 0, none⟩ = some (.slice none 0 0) := (cell_at b4 0).trans rfl; have hc5 : W2.cell? ⟨w.heap.size + 1 + 1, 0, none⟩ = some (.int .i64 0) := (cell_at b5 0).trans rfl; have hf4 : W2.frozen? ⟨w.heap.size + 1, 0, none⟩ = false := (by simp [World.frozen?, b4]); have hf5 : W2.frozen? ⟨w.heap.size + 1 + 1, 0, none⟩ = false := (by simp [World.frozen?, b5]); have B4 := Lib.hid b4; have B5 := Lib.hid b5; clear hp hso hown hg k2 hob b1 b4 b5 hN)
      have hN := HN.out
      have hrl' : rows'.length = rows.length := HP.out.length_eq
      have e1 : ((W2.setCell ⟨w.heap.size + 1, 0, none⟩ (.slice a rows.length c)).setCell ⟨w.heap.size + 1 + 1, 0, none⟩ (.int .i64 0)).heap[w3.heap.size]? = some (.deferred (some [])) := by
        rw [Below.heap_setCell _ _ _ _ (by show w3.heap.size ≠ w.heap.size + 1 + 1; omega), Below.heap_setCell _ _ _ _ (by show w3.heap.size ≠ w.heap.size + 1; omega)]; exact K2.out.heap HD.out (HOb.out _ (by omega))
      have b4 : (W2.setCell ⟨w.heap.size + 1, 0, none⟩ (.slice a rows.length c)).heap[w.heap.size + 1]? = some (.cells #[.slice a rows.length c] 32 (0, 0)) := heap_setCell_same B4.out _
      have b4' : ((W2.setCell ⟨w.heap.size + 1, 0, none⟩ (.slice a rows.length c)).setCell ⟨w.heap.size + 1 + 1, 0, none⟩ (.int .i64 0)).heap[w.heap.size + 1]? = some (.cells #[.slice a rows.length c] 32 (0, 0)) := by
        rw [Below.heap_setCell _ _ _ _ (by show w.heap.size + 1 ≠ w.heap.size + 1 + 1; omega)]; exact b4
      have b5 : (W2.setCell ⟨w.heap.size + 1, 0, none⟩ (.slice a rows.length c)).heap[w.heap.size + 1 + 1]? = some (.cells #[.int .i64 0] 33 (0, 0)) := by
        rw [Below.heap_setCell _ _ _ _ (by show w.heap.size + 1 + 1 ≠ w.heap.size + 1; omega)]; exact B5.out
      have b5' : ((W2.setCell ⟨w.heap.size + 1, 0, none⟩ (.slice a rows.length c)).setCell ⟨w.heap.size + 1 + 1, 0, none⟩ (.int .i64 0)).heap[w.heap.size + 1 + 1]? = some (.cells #[.int .i64 0] 33 (0, 0)) := heap_setCell_same b5 _
      have KD : Keep (fun k => k ≠ w.heap.size + 1 ∧ k ≠ w.heap.size + 1 + 1 ∧ k ≠ w3.heap.size) W2 (((W2.setCell ⟨w.heap.size + 1, 0, none⟩ (.slice a rows.length c)).setCell ⟨w.heap.size + 1 + 1, 0, none⟩ (.int .i64 0)).putObj w3.heap.size (.deferred none)) :=
        (((Keep.refl _ W2).setCell _ _ (fun _ h => h.1 rfl)).setCell _ _ (fun _ h => h.2.1 rfl)).putObj _ _ (fun h => h.2.2 rfl)
      have o2 := own_blocks HOw.out (fun g hg => KD.block g (own_in HOw.out hg) (by have := G3.out g hg; exact ⟨by omega, by omega, by omega⟩))
      have hf : flat 1 slC rows' = rows'.map fun r => r.v := by simp [flat, slC, List.range_succ, ← List.map_eq_flatMap]
      have o2' := o2
      rw [← hf] at o2'
      have conv : ∀ X : World, X.ownsRow 0 25 1 (.slice a rows.length c) rows.length (flat 1 slC rows') → X.ownsRow 0 25 1 (.slice a rows'.length c) rows'.length (flat 1 slC rows') := fun X h => by rw [hrl']; exact h
      refine ⟨by simp, .inl ⟨_, _, rfl, run_takeDeferred e1, ?_⟩⟩
      refine ⟨_, res2 rfl _ _ ⟨w.heap.size + 1, 0, none⟩ ⟨w.heap.size + 1 + 1, 0, none⟩ rfl rfl _ _ (load41 _ _ _ ((cell_at ((World.putObj_heap_other (by omega)).trans b4') 0).trans rfl)) (load38 _ _ _ ((cell_at ((World.putObj_heap_other (by omega)).trans b5') 0).trans rfl)),
        a, c, rows', 0, by rw [hrl']; rfl, own_slG (conv _ o2') (by omega), fun r hr => ?_, .inl ⟨rfl, ⟨?_, HSo.out⟩, HLen.out⟩, ?_⟩
      · have hr' := HP.out.mem_iff.1 hr
        have o3 := own_blocks (G4.out r hr').2.1 (fun g hg => K2.out.block g (own_in (G4.out r hr').2.1 hg) (fun e => by
          rcases own_apart G2.out (G4.out r hr').2.1 (by decide) with h | h
          · rw [h] at e; cases e
          · exact h (e.trans hg.symm)))
        exact own_sl (own_blocks o3 (fun g hg => KD.block g (own_in o3 hg) (by have := (G4.out r hr').2.2 g hg; exact ⟨by omega, by omega, by omega⟩))) (G4.out r hr').1
      · have := HP.out.map (fun r => r.l)
        rwa [G5.out] at this
      · exact ext_keep (ext_keep (ext_keep HXw.out HKp.out (fun i hi => ⟨by omega, by omega, by omega⟩)) K2.out (fun i hi => HOb.out i (by omega))) KD (fun i hi => ⟨by omega, by omega, by omega⟩)
end Go.Proofs.YtopjjcgmcieboaaGreatDoor

namespace Go.Proofs.YtopjjcgmcieboaaGreatDoor
open Go.RowKit

/-- A function value answers a question of lists, and draws at most. -/
def AsksQ (g : Nat) (cap : Array Value) (D : SL Nat → Prop) (p : SL Nat → Bool) (w : World) : Prop :=
  ∀ x : SL Nat, D x → ∀ w' : World, Dr w w' → Calls Tryz.prog g (#[.slice x.a x.l.length x.c] ++ cap) w' fun e w'' => e = .returned (.bool (p x)) ∧ Dr w' w''

set_option maxHeartbeats 400000 in
theorem indexRow_q (g : Nat) (cap : Array Value) (D : SL Nat → Prop) (p : SL Nat → Bool) (a : Option Addr) (n c : Nat) (l : List (SL Nat)) (w : World) (hE : Enters Tryz.prog g) (hn : l.length = n) (hv : IsSl 1 slC w ⟨a, c, l⟩)
    (hp : AsksQ g cap D p w) (hD : ∀ x ∈ l, D x) :
    Calls Tryz.prog 47 #[.slice a n c, .func (.func g) #[] cap] w fun e w' => (∃ r : Int, e = .returned (.int .i64 r) ∧ ((r = -1 ∧ l.any p = false) ∨ (0 ≤ r ∧ l.any p = true))) ∧ Dr w w' := by
  subst hn
  obtain ⟨h1, h2, h3⟩ := hv
  dsimp only at h1 h2 h3
  have H3 := Lib.hid h3; clear h3
  have HP := Lib.hid hp; clear hp
  have HD := Lib.hid hD; clear hD
  have HE : ∀ args w, (callFunc g args).run Tryz.prog w = .ok (.enter g args) w := hE; clear hE
  go_enter Tryz.func47, Tryz.ntmps47
  go_wp2
  go_loopw [8] (fun i wr => ∃ k : Nat, k ≤ l.length ∧ i = .int .i64 k ∧ Hid ((l.take k).all (fun x => !p x) = true) ∧ Dr w wr) (fun i _ => l.length - (intOf i).toNat)
  case atStart => exact ⟨0, Nat.zero_le _, rfl, by simp [Hid], Dr.refl _⟩
  case round =>
    obtain ⟨k, hk, rfl, HA, hext⟩ := hrel
    by_cases hlt : k < l.length
    · obtain ⟨b, off, rfl, hc⟩ := H3.out.resolve_left (by omega)
      have hcell : wr.cell? ⟨b, off + k, none⟩ = some (.slice l[k].a l[k].l.length l[k].c) := by have := hext.cell (hc k (by simpa using hlt) 0 (by omega)); simpa [slC] using this
      clear hc
      have HDy := Lib.hid (HD.out _ (List.getElem_mem hlt))
      have HAn : Hid ((l.take (k + 1)).all (fun x => !p x) = ((l.take k).all (fun x => !p x) && !p l[k])) := all_take_succ _ _ _ hlt
      have HMy : Hid (l[k] ∈ l) := List.getElem_mem _
      generalize l[k] = y at *
      have HX := Lib.hid hext; clear hext
      go_wp2_with fail
      refine (HP.out y HDy.out wr HX.out).mono ?_
      rintro e w1 ⟨rfl, hx1⟩
      have HX1 := Lib.hid (HX.out.trans hx1); clear hx1
      cases hpx : p y
      · have Hpx := Lib.hid hpx; clear hpx
        go_wp2
        go_roundw
        case rel => exact ⟨k + 1, by omega, by go_num, by show _ = true; rw [HAn.out, HA.out, Hpx.out]; rfl, HX1.out⟩
        case measure => simp [intOf]; omega
      · have Hpx := Lib.hid hpx; clear hpx
        go_wp2
        go_ret
        exact ⟨⟨k, rfl, .inr ⟨by omega, List.any_eq_true.2 ⟨y, HMy.out, Hpx.out⟩⟩⟩, HX1.out⟩
    · have HX := Lib.hid hext; clear hext
      go_wp2
      go_ret
      refine ⟨⟨-1, rfl, .inl ⟨rfl, ?_⟩⟩, HX.out⟩
      have := HA.out
      rw [List.take_of_length_le (by omega)] at this
      rw [List.any_eq_false]; intro x hx; have := List.all_eq_true.1 this x hx; simpa using this

set_option maxHeartbeats 400000 in
theorem containsRow_q (g : Nat) (cap : Array Value) (D : SL Nat → Prop) (p : SL Nat → Bool) (a : Option Addr) (n c : Nat) (l : List (SL Nat)) (w : World) (hE : Enters Tryz.prog g) (hn : l.length = n) (hv : IsSl 1 slC w ⟨a, c, l⟩)
    (hp : AsksQ g cap D p w) (hD : ∀ x ∈ l, D x) :
    Calls Tryz.prog 14 #[.slice a n c, .func (.func g) #[] cap] w fun e w' => e = .returned (.bool (l.any p)) ∧ Dr w w' := by
  have HI := Lib.hid (indexRow_q g cap D p a n c l w hE hn hv hp hD)
  clear hE hn hv hp hD
  go_enter Tryz.func14, Tryz.ntmps14
  go_wp2_with fail
  refine HI.out.mono ?_
  rintro e w' ⟨⟨r, rfl, hr⟩, hx⟩
  have HR := Lib.hid hr; clear hr
  have HX := Lib.hid hx; clear hx
  go_wp2
  go_ret
  refine ⟨?_, HX.out⟩
  rcases HR.out with ⟨rfl, hall⟩ | ⟨h0, hall⟩
  · rw [hall]; rfl
  · rw [hall]
    have h0' : decide ((0 : Int) ≤ r) = true := by simpa using h0
    show Ending.returned (.bool (decide ((0 : Int) ≤ r))) = _
    rw [h0']

theorem listed1_q (b : Nat) (x y : SL Nat) (w : World) (hc : w.heap[b]? = some (.cells #[.slice x.a x.l.length x.c] 25 (0, 0))) (hx : IsSl 1 num w x) (hy : IsSl 1 num w y) :
    Calls Tryz.prog 22 #[.slice y.a y.l.length y.c, .pointer (some ⟨b, 0, none⟩)] w fun e w' => e = .returned (.bool (decide (y.l = x.l))) ∧ Dr w w' := by
  have HE := Lib.hid (equal_any y x w hy hx)
  have c0 : w.cell? ⟨b, 0, none⟩ = some (.slice x.a x.l.length x.c) := (cell_at hc 0).trans rfl
  clear hc hx hy
  generalize decide (y.l = x.l) = r at *
  go_enter Tryz.func22, Tryz.ntmps22
  go_wp2_with fail
  refine HE.out.mono ?_
  rintro e w' ⟨rfl, hx⟩
  have HX : Hid (Dr w w') := hx
  clear hx
  go_wp2
  go_ret
  exact ⟨rfl, HX.out⟩
theorem listed2_q (b : Nat) (x y : SL Nat) (w : World) (hc : w.heap[b]? = some (.cells #[.slice x.a x.l.length x.c] 25 (0, 0))) (hx : IsSl 1 num w x) (hy : IsSl 1 num w y) :
    Calls Tryz.prog 23 #[.slice y.a y.l.length y.c, .pointer (some ⟨b, 0, none⟩)] w fun e w' => e = .returned (.bool (decide (y.l = x.l))) ∧ Dr w w' := by
  have HE := Lib.hid (equal_any y x w hy hx)
  have c0 : w.cell? ⟨b, 0, none⟩ = some (.slice x.a x.l.length x.c) := (cell_at hc 0).trans rfl
  clear hc hx hy
  generalize decide (y.l = x.l) = r at *
  go_enter Tryz.func23, Tryz.ntmps23
  go_wp2_with fail
  refine HE.out.mono ?_
  rintro e w' ⟨rfl, hx⟩
  have HX : Hid (Dr w w') := hx
  clear hx
  go_wp2
  go_ret
  exact ⟨rfl, HX.out⟩
theorem enters_22 : Enters Tryz.prog 22 := fun args w => Proofs.enters_of Tryz.func22 (by kernel_rfl) rfl args w
theorem enters_23 : Enters Tryz.prog 23 := fun args w => Proofs.enters_of Tryz.func23 (by kernel_rfl) rfl args w
/-- A line is among those listed. -/
theorem listed1_in (b : Nat) (x : SL Nat) (aa : Option Addr) (ca : Nat) (la : List (SL Nat)) (w : World) (hc : w.heap[b]? = some (.cells #[.slice x.a x.l.length x.c] 25 (0, 0))) (hx : IsSl 1 num w x) (ha : IsSl 1 slC w ⟨aa, ca, la⟩) (hr : ∀ r ∈ la, IsSl 1 num w r) (hall : la.any (fun y => decide (y.l = x.l)) = true) (n : Nat) :
    Calls Tryz.prog 14 #[.slice aa la.length ca, .func (.func 22) #[] #[.pointer (some ⟨b, 0, none⟩)]] (w.drewN n) fun e w'' => e = .returned (.bool true) ∧ ∃ m, w'' = w.drewN m := by
  have hx0 : Ext w (w.drewN n) := (Ext.refl w).drewN n
  refine (containsRow_q 22 #[.pointer (some ⟨b, 0, none⟩)] (fun r => r ∈ la) (fun y => decide (y.l = x.l)) aa la.length ca la _ enters_22 rfl (ha.ext hx0) ?_ (fun x hx => hx)).mono ?_
  · intro r hr' w' hw'
    exact listed1_q b x r w' ((hx0.trans hw'.ext).block hc) (hx.ext (hx0.trans hw'.ext)) ((hr r hr').ext (hx0.trans hw'.ext))
  · rintro e w'' ⟨rfl, m, rfl⟩
    rw [hall]
    exact ⟨rfl, n + m, (drewN_add w n m).symm ▸ rfl⟩
theorem listed2_in (b : Nat) (x : SL Nat) (aa : Option Addr) (ca : Nat) (la : List (SL Nat)) (w : World) (hc : w.heap[b]? = some (.cells #[.slice x.a x.l.length x.c] 25 (0, 0))) (hx : IsSl 1 num w x) (ha : IsSl 1 slC w ⟨aa, ca, la⟩) (hr : ∀ r ∈ la, IsSl 1 num w r) (hall : la.any (fun y => decide (y.l = x.l)) = true) (n : Nat) :
    Calls Tryz.prog 14 #[.slice aa la.length ca, .func (.func 23) #[] #[.pointer (some ⟨b, 0, none⟩)]] (w.drewN n) fun e w'' => e = .returned (.bool true) ∧ ∃ m, w'' = w.drewN m := by
  have hx0 : Ext w (w.drewN n) := (Ext.refl w).drewN n
  refine (containsRow_q 23 #[.pointer (some ⟨b, 0, none⟩)] (fun r => r ∈ la) (fun y => decide (y.l = x.l)) aa la.length ca la _ enters_23 rfl (ha.ext hx0) ?_ (fun x hx => hx)).mono ?_
  · intro r hr' w' hw'
    exact listed2_q b x r w' ((hx0.trans hw'.ext).block hc) (hx.ext (hx0.trans hw'.ext)) ((hr r hr').ext (hx0.trans hw'.ext))
  · rintro e w'' ⟨rfl, m, rfl⟩
    rw [hall]
    exact ⟨rfl, n + m, (drewN_add w n m).symm ▸ rfl⟩
end Go.Proofs.YtopjjcgmcieboaaGreatDoor

namespace Go.Proofs.YtopjjcgmcieboaaGreatDoor
open Go.RowKit

/-- What Lines returns: all lines, or the error where there are too many. -/
def LinesH (t : TV) (r : List Nat) (w : World) (e : Ending) (w' : World) : Prop :=
  ∃ (a : Option Addr) (c : Nat) (l : List (SL Nat)) (er : Int), e = .returned (.tuple #[.slice a l.length c, .int .i64 er]) ∧ Hid (IsSl 1 slC w' ⟨a, c, l⟩ ∧ ∀ r ∈ l, IsSl 1 num w' r) ∧ ((er = 0 ∧ l.map (fun r => r.l) = linesR t (leadsOf t r) ∧ (linesR t (leadsOf t r)).length ≤ 200) ∨ (er = 11 ∧ l = [] ∧ 200 < (linesR t (leadsOf t r)).length)) ∧ Ext w w'
theorem Lines_h (t : TV) (r : SL Nat) (w : World) (ht : IsT w t) (hk : OkT t) (hr : IsSl 1 num w r) (hR : RdOk t r.l) : Calls Tryz.prog 21 #[t.v, .slice r.a r.l.length r.c] w (LinesH t r.l w) := by
  refine (Lines_any t r w ht hk hr hR).mono ?_
  rintro e w' ⟨⟨h1, a, c, rows, rfl, h2, h3, h4⟩ | ⟨h1, rfl⟩, hx⟩
  · exact ⟨a, c, rows, 0, rfl, ⟨h2, h3⟩, .inl ⟨rfl, h4, h1⟩, hx⟩
  · exact ⟨none, 0, [], 11, rfl, ⟨⟨Nat.le_refl _, by simp, .inl rfl⟩, fun r hr => by simp at hr⟩, .inr ⟨rfl, rfl, h1⟩, hx⟩
/-- What All returns likewise. -/
def AllH (t : TV) (w : World) (e : Ending) (w' : World) : Prop :=
  ∃ (a : Option Addr) (c : Nat) (l : List (SL Nat)) (er : Int), e = .returned (.tuple #[.slice a l.length c, .int .i64 er]) ∧ Hid (IsSl 1 slC w' ⟨a, c, l⟩ ∧ ∀ r ∈ l, IsSl 1 num w' r) ∧ ((er = 0 ∧ AllL t (l.map fun r => r.l) ∧ (allD t).length ≤ 200) ∨ (er = 11 ∧ l = [] ∧ 200 < (allD t).length)) ∧ Ext w w'
theorem All_h (t : TV) (w : World) (ht : IsT w t) (hk : OkT t) : Calls Tryz.prog 8 #[t.v] w (AllH t w) := by
  refine (All_any t w ht hk).mono ?_
  rintro e w' ⟨a, c, rows, er, rfl, h1, h2, h3, h4⟩
  refine ⟨a, c, rows, er, rfl, ⟨h1, h2⟩, ?_, h4⟩
  rcases h3 with ⟨rfl, h3⟩ | ⟨rfl, h3⟩
  · exact .inl ⟨rfl, h3⟩
  · exact .inr ⟨rfl, h3⟩

/-- The code from region n on. -/
def tailM (n : Nat) : Code → Option Code
  | .seq (.region k o d) b => if k = n then some (.seq (.region k o d) b) else tailM n b
  | .seq (.seq (.region k o d) c) b => if k = n then some (.seq (.seq (.region k o d) c) b) else tailM n b
  | .seq _ b => tailM n b
  | .block _ c => tailM n c
  | .scope c => tailM n c
  | _ => none
/-- TreatyListed from where it asks for all lines. -/
noncomputable def tailL : Code := ((Tryz.f4.body.bind (tailM 4)).getD .skip)

set_option maxRecDepth 1000000 in
set_option maxHeartbeats 8000000 in
theorem listed_tail {u0 u2 u3 u4 u5 u8 u9 u10 u11 u12 u13 u14 u15 u16 u17 u18 u19 u20 u21 u22 u23 u24 u25 u26 u27 u28 u29 u30 u31 u32 u33 u34 u35 u36 u37 u38 u39 u40 u41 u42 u43 u44 u45 u46 u47 u48 u49 u50 u51 u52 u53 u54 u55 u56 u57 u58 u59 u60 u61 u62 u63 u64 u65 u66 u67 u68 u69 u70 u71 u72 u73 u74 u75 u76 u77 u78 u79 u80 u81 u82 u83 u84 u85 u86 u87 u88 u89 u90 u91 u92 u93 u94 u95 u96 u97 u98 u99 u100 u101 u102 u103 u104 u105 u106 u107 u108 u109 u110 u111 u112 u113 u114 u115 u116 u117 u118 u119 u120 u121 u122 u123 u124 u125 u126 u127 u128 u129 u130 u131 u132 u133 u134 u135 : Value} (w v0 : World) (T which : Nat) (t : TV) (ar : Option Addr) (cr : Nat) (lr : List Nat) (hwh : which < 256)
    (HK : Hid (OkT t)) (HR : Hid (RdOk t lr)) (HTt : Hid (IsT v0 t)) (HBt : Hid (TBox v0 T t)) (HSr : Hid (IsSl 1 num v0 ⟨ar, cr, lr⟩)) (EV : Hid (Ext w v0)) :
    Code.wp Tryz.prog tailL (bodyPost Tryz.prog Tryz.f4 fun e w' => e = .returned (.bool true) ∧ Ext w w') ⟨#[u0, .int .u8 (which : Int), u2, u3, u4, u5, .pointer (some ⟨T, 0, none⟩), .slice ar lr.length cr, u8, u9, u10, u11, u12, u13, u14, u15, u16, u17, u18, u19, u20, u21, u22, u23, u24, u25, u26, u27, u28, u29, u30, u31, u32, u33, u34, u35, u36, u37, u38, u39, u40, u41, u42, u43, u44, u45, u46, u47, u48, u49, u50, u51, u52, u53, u54, u55, u56, u57, u58, u59, u60, u61, u62, u63, u64, u65, u66, u67, u68, u69, u70, u71, u72, u73, u74, u75, u76, u77, u78, u79, u80, u81, u82, u83, u84, u85, u86, u87, u88, u89, u90, u91, u92, u93, u94, u95, u96, u97, u98, u99, u100, u101, u102, u103, u104, u105, u106, u107, u108, u109, u110, u111, u112, u113, u114, u115, u116, u117, u118, u119, u120, u121, u122, u123, u124, u125, u126, u127, u128, u129, u130, u131, u132, u133, u134, u135], []⟩ v0 := by
  conv => arg 2; whnf
  obtain ⟨f0, f1, f2, f3, f4⟩ := TBox.five5 HBt.out
  go_wp2_with fail
  clear f0 f1 f2 f3 f4
  refine (All_h t v0 HTt.out HK.out).mono ?_
  rintro e v1 ⟨aa, ca, la, ea, rfl, HA, hca, hx1⟩
  have HX1 : Hid (Ext v0 v1) := hx1
  have HCa := Lib.hid hca
  clear hx1 hca
  obtain ⟨f0, f1, f2, f3, f4⟩ := TBox.five5 (HX1.out.block HBt.out)
  go_wp2_with fail
  clear f0 f1 f2 f3 f4
  refine (Lines_h t ⟨ar, cr, lr⟩ v1 (HTt.out.ext HX1.out) HK.out (HSr.out.ext HX1.out) HR.out).mono ?_
  rintro e v2 ⟨ab, cb, lb, eb, rfl, HL, hcb, hx2⟩
  have HX2 : Hid (Ext v0 v2) := HX1.out.trans hx2
  have HA2 : Hid (IsSl 1 slC v2 ⟨aa, ca, la⟩ ∧ ∀ r ∈ la, IsSl 1 num v2 r) := ⟨HA.out.1.ext hx2, fun r hr => (HA.out.2 r hr).ext hx2⟩
  have HCb := Lib.hid hcb
  clear hx2 hcb HA
  rcases HCa.out with ⟨rfl, hal, ha200⟩ | ⟨rfl, rfl, ha200⟩
  · -- all lines are told, and so those of the reading
    have hone := len_one (HK.out.start.2.imp fun h => Nat.ne_of_lt h) (rd_all HK.out HR.out)
    have hb : eb = 0 ∧ lb.map (fun r => r.l) = linesR t (leadsOf t lr) := by
      rcases HCb.out with ⟨h1, h2, _⟩ | ⟨_, _, h3⟩
      · exact ⟨h1, h2⟩
      · dsimp only at h3; omega
    obtain ⟨rfl, hbl⟩ := hb
    have HAL := Lib.hid hal
    have HBL := Lib.hid hbl
    clear hal hbl hone HCa HCb
    go_wp2_with fail
    go_loopw [55] (fun iv wr => ∃ k : Nat, k ≤ lb.length ∧ iv = .int .i64 (k : Int) ∧ Hid (Ext v2 wr)) (fun iv _ => lb.length - (intOf iv).toNat)
    case atStart => exact ⟨0, Nat.zero_le _, rfl, Ext.refl _⟩
    case round =>
      obtain ⟨wo, rfl⟩ : ∃ wo : World, wo = wr := ⟨_, rfl⟩
      obtain ⟨k, hk, rfl, HXk⟩ := hrel
      have hl6 : lb.length ≤ 1000000 := HL.out.1.2.1
      by_cases hlt : k < lb.length
      · have dk : decide ((k : Int) < (lb.length : Int)) = true := by simpa using hlt
        obtain ⟨bl, ol, hla, hlc⟩ := HL.out.1.2.2.resolve_left (by show ¬ lb.length = 0; omega)
        dsimp only at hla hlc
        have HLc : Hid (∀ i (h : i < lb.length), v2.cell? ⟨bl, ol + i, none⟩ = some (.slice lb[i].a lb[i].l.length lb[i].c)) := fun i h => by have := hlc i h 0 (by omega); simpa [slC] using this
        have cx : wo.cell? ⟨bl, ol + k, none⟩ = some (.slice lb[k].a lb[k].l.length lb[k].c) := HXk.out.cell (HLc.out k hlt)
        have hin : lb[k].l ∈ linesR t (leadsOf t lr) := by rw [← HBL.out]; exact List.mem_map.2 ⟨_, List.getElem_mem hlt, rfl⟩
        have hlo := (mem_linesR t _ HK.out.start.1 _).1 hin
        have hbk : brkTo (leadsOf t lr) lb[k].l t.legs.l.length = [] := by
          unfold brkTo
          rw [List.filter_eq_nil_iff]
          intro j hj
          rw [List.mem_range] at hj
          have := hlo.2.2.2 j hj
          simpa [gt] using this
        have HIx : Hid (IsSl 1 num v2 lb[k]) := HL.out.2 _ (List.getElem_mem hlt)
        have hall : la.any (fun y => decide (y.l = lb[k].l)) = true := by
          have h1 : lb[k].l ∈ la.map (fun r => r.l) := HAL.out.mem.2 ⟨lr, rd_all HK.out HR.out, hin⟩
          obtain ⟨y, hy, he⟩ := List.mem_map.1 h1
          exact List.any_eq_true.2 ⟨y, hy, by simp [he]⟩
        have HSo : Hid (∀ m (h : m + 1 < lb.length), cmpL lb[m].l lb[m + 1].l < 0) := by
          intro m h
          have h1 := sorted_linesR t (leadsOf t lr) HK.out.start.2
          rw [← HBL.out, List.pairwise_map] at h1
          exact List.pairwise_iff_getElem.1 h1 m (m + 1) (by omega) h (by omega)
        have HAll := Lib.hid hall
        have HBk := Lib.hid hbk
        have HLo : Hid (lb[k].l.length = t.legs.l.length + 1 ∧ (∀ y ∈ lb[k].l, y < t.P) ∧ ((lb[k].l)[0]?).getD 0 ∈ t.starts.l) := ⟨(lines_lt HK.out.start.1 hin).1, (lines_lt HK.out.start.1 hin).2, hlo.2.1⟩
        clear hlc hin hlo hbk hall
        have HLa := Lib.hid hla; clear hla
        rw [HLa.out]
        have k0 : (0 : Int) ≤ (k : Int) := by omega
        have k1 : (k : Int) < (lb.length : Int) := by omega
        by_cases hk0 : k = 0
        · have d0 : decide ((0 : Int) < (k : Int)) = false := by simp; omega
          have d0n : decide (0 < k) = false := by simp; omega
          generalize hxx : lb[k] = x at *
          have HXx := Lib.hid hxx; clear hxx hk0
          go_upto_region 13 with (fail)
          obtain ⟨wb, hwb⟩ : ∃ wb, wo.alloc (.cells #[.slice x.a x.l.length x.c] 25) = wb := ⟨_, rfl⟩
          have HXb : Hid (Ext v2 wb) := by rw [← hwb]; exact HXk.out.alloc _
          have HBx : Hid (wb.heap[wo.heap.size]? = some (.cells #[.slice x.a x.l.length x.c] 25 (0, 0))) := by rw [← hwb]; exact World.alloc_heap_new wo _
          rw [hwb]
          clear hwb cx
          obtain ⟨f0, f1, f2, f3, f4⟩ := TBox.five5 ((HX2.out.trans HXb.out).block HBt.out)
          have cb := (cell_at HBx.out 0).trans rfl
          simp only [List.getElem?_toArray, List.getElem?_cons_zero] at cb
          have HBr := Lib.hid (Breaks_ok t ⟨ar, cr, lr⟩ x wb (HTt.out.ext (HX2.out.trans HXb.out)) HK.out (HSr.out.ext (HX2.out.trans HXb.out)) HR.out (HIx.out.ext HXb.out) HLo.out.1 HLo.out.2.1 HLo.out.2.2)
          dsimp only at HBr
          rw [HBk.out] at HBr
          go_wp2_with (go_at_call 13; refine HBr.out.mono ?_; rintro e wd ⟨ad, cd, rfl, hd1, hd2⟩; have HXd : Hid (Ext wb wd) := hd2; have cb2 := hd2.cell cb; clear hd1 hd2)
          clear f0 f1 f2 f3 f4
          have HCon := Lib.hid (listed1_in wo.heap.size x aa ca la wd (HXd.out.block HBx.out) (HIx.out.ext (HXb.out.trans HXd.out)) (HA2.out.1.ext (HXb.out.trans HXd.out)) (fun r hr => (HA2.out.2 r hr).ext (HXb.out.trans HXd.out)) HAll.out)
          go_quiet ((go_at_call 14; exact HCon.out _))
          go_wp2
          exact ⟨⟨k + 1, by omega, by simp, HXb.out.trans (HXd.out.drewN nq)⟩, by simp [intOf]; omega⟩
        · obtain ⟨m, rfl⟩ : ∃ m, k = m + 1 := ⟨k - 1, by omega⟩
          have d0 : decide ((0 : Int) < (m : Int) + 1) = true := decide_eq_true (by omega)
          have i0 : (0 : Int) ≤ (m : Int) := by omega
          have i1 : (m : Int) < (lb.length : Int) := by omega
          have i2 : (0 : Int) ≤ (m : Int) + 1 := by omega
          have i3 : (m : Int) + 1 < (lb.length : Int) := by omega
          have i4 : IntKind.i64.wrap (m : Int) = (m : Int) := IntWalk.i64_in _ (by omega)
          have i5 : (0 : Int) < (m : Int) + 1 := by omega
          have dk' : decide ((m : Int) + 1 < (lb.length : Int)) = true := decide_eq_true (by omega)
          clear dk k0 k1
          rw [Int.natCast_add, Int.natCast_one]
          have hcy := HLc.out m (by omega)
          have HIy : Hid (IsSl 1 num v2 lb[m]) := HL.out.2 _ (List.getElem_mem (by omega))
          have hz := HSo.out m hlt
          generalize hxx : lb[m + 1] = x at *
          generalize hyy : lb[m] = y at *
          have HXx := Lib.hid hxx; clear hxx hk0
          have HYy := Lib.hid hyy; clear hyy
          go_upto_region 13 with (fail)
          obtain ⟨wb, hwb⟩ : ∃ wb, wo.alloc (.cells #[.slice x.a x.l.length x.c] 25) = wb := ⟨_, rfl⟩
          have HXb : Hid (Ext v2 wb) := by rw [← hwb]; exact HXk.out.alloc _
          have HBx : Hid (wb.heap[wo.heap.size]? = some (.cells #[.slice x.a x.l.length x.c] 25 (0, 0))) := by rw [← hwb]; exact World.alloc_heap_new wo _
          rw [hwb]
          clear hwb cx
          obtain ⟨f0, f1, f2, f3, f4⟩ := TBox.five5 ((HX2.out.trans HXb.out).block HBt.out)
          have cy := HXb.out.cell hcy
          have cb := (cell_at HBx.out 0).trans rfl
          simp only [List.getElem?_toArray, List.getElem?_cons_zero] at cb
          have HBr := Lib.hid (Breaks_ok t ⟨ar, cr, lr⟩ x wb (HTt.out.ext (HX2.out.trans HXb.out)) HK.out (HSr.out.ext (HX2.out.trans HXb.out)) HR.out (HIx.out.ext HXb.out) HLo.out.1 HLo.out.2.1 HLo.out.2.2)
          dsimp only at HBr
          rw [HBk.out] at HBr
          go_wp2_with (go_at_call 13; refine HBr.out.mono ?_; rintro e wd ⟨ad, cd, rfl, hd1, hd2⟩; have HXd : Hid (Ext wb wd) := hd2; have cb2 := hd2.cell cb; have cy2 := hd2.cell cy; clear hd1 hd2)
          clear f0 f1 f2 f3 f4
          have HCon := Lib.hid (listed1_in wo.heap.size x aa ca la wd (HXd.out.block HBx.out) (HIx.out.ext (HXb.out.trans HXd.out)) (HA2.out.1.ext (HXb.out.trans HXd.out)) (fun r hr => (HA2.out.2 r hr).ext (HXb.out.trans HXd.out)) HAll.out)
          have HCmp : Hid (∀ n, Calls Tryz.prog 11 #[.slice y.a y.l.length y.c, .slice x.a x.l.length x.c] (wd.drewN n) fun e w' => e = .returned (.int .i64 (cmpL y.l x.l)) ∧ wd.drewN n = w') := fun n =>
            compare_any y x (wd.drewN n) ((HIy.out.ext (HXb.out.trans HXd.out)).ext ((Ext.refl wd).drewN n)) ((HIx.out.ext (HXb.out.trans HXd.out)).ext ((Ext.refl wd).drewN n))
          generalize cmpL y.l x.l = z at *
          have dz : decide ((0 : Int) ≤ z) = false := decide_eq_false (by omega)
          have dz2 : ¬ (0 : Int) ≤ z := by omega
          clear hz
          go_quiet ((first | (go_at_call 14; exact HCon.out _) | (go_at_call 11; exact quiet_same (HCmp.out _))))
          go_wp2
          exact ⟨⟨m + 1 + 1, by omega, by simp, HXb.out.trans (HXd.out.drewN nq)⟩, by simp [intOf]; omega⟩
      · have dk : decide ((k : Int) < (lb.length : Int)) = false := decide_eq_false (by omega)
        have hlen : la.length = (allD t).length := by have := HAL.out.length; simpa using this
        have hblen : lb.length = (linesR t (leadsOf t lr)).length := by have := congrArg List.length HBL.out; simpa using this
        by_cases h0 : la.length = 0
        · have hb0 : lb.length = 0 := by
            have := len_one (HK.out.start.2.imp fun h => Nat.ne_of_lt h) (rd_all HK.out HR.out)
            omega
          have e1 : ((la.length : Int) == 0) = true := by rw [h0]; rfl
          have e2 : ((lb.length : Int) == 0) = true := by rw [hb0]; rfl
          clear h0 hb0 hlen hblen
          go_wp2_with (go_at_call 10; refine (awake_ok wo).mono ?_; rintro e v3 ⟨rfl, hx3⟩; have HX3 : Hid (Ext wo v3) := hx3; clear hx3)
          go_ret
          exact ⟨rfl, EV.out.trans (HX2.out.trans (HXk.out.trans HX3.out))⟩
        · have e1 : ((la.length : Int) == 0) = false := by rw [beq_eq_false_iff_ne]; omega
          have hla6 : la.length ≤ 1000000 := HA2.out.1.2.1
          have hq : which % la.length < la.length := Nat.mod_lt _ (by omega)
          have htm : ((which : Int)).tmod (la.length : Int) = ((which % la.length : Nat) : Int) := by
            rw [Int.tmod_eq_emod_of_nonneg (by omega)]; rfl
          obtain ⟨bm, om, hma, hmc⟩ := HA2.out.1.2.2.resolve_left (by show ¬ la.length = 0; omega)
          dsimp only at hma hmc
          have cx : wo.cell? ⟨bm, om + which % la.length, none⟩ = some (.slice (la[which % la.length]).a (la[which % la.length]).l.length (la[which % la.length]).c) := HXk.out.cell (by have := hmc (which % la.length) hq 0 (by omega); simpa [slC] using this)
          have hin : (la[which % la.length]).l ∈ la.map fun r => r.l := List.mem_map.2 ⟨_, List.getElem_mem hq, rfl⟩
          have HIx : Hid (IsSl 1 num v2 (la[which % la.length])) := HA2.out.2 _ (List.getElem_mem hq)
          generalize la[which % la.length] = x at *
          obtain ⟨r1, hr1, hx1⟩ := HAL.out.mem.1 hin
          have hlo := (mem_linesR t _ HK.out.start.1 _).1 hx1
          have hag : agB t x.l r1 = true := by
            unfold agB
            rw [List.all_eq_true]
            intro j hj
            rw [List.mem_range] at hj
            exact hlo.2.2.2 j hj
          obtain ⟨r0, hf⟩ : ∃ r0, (allR (cntR t)).find? (agB t x.l) = some r0 := by
            cases hfd : (allR (cntR t)).find? (agB t x.l) with
            | some r0 => exact ⟨r0, rfl⟩
            | none => exact absurd hag (by simpa using List.find?_eq_none.1 hfd r1 hr1)
          have hr0 : r0 ∈ allR (cntR t) := List.mem_of_find?_eq_some hf
          have hag0 : agB t x.l r0 = true := List.find?_some hf
          have hx0 : x.l ∈ linesR t (leadsOf t r0) := by
            refine (mem_linesR t _ HK.out.start.1 _).2 ⟨hlo.1, hlo.2.1, hlo.2.2.1, fun i hi => ?_⟩
            unfold agB at hag0
            rw [List.all_eq_true] at hag0
            exact hag0 i (List.mem_range.2 hi)
          have HLo : Hid (x.l.length = t.legs.l.length + 1 ∧ (∀ y ∈ x.l, y < t.P) ∧ ((x.l)[0]?).getD 0 ∈ t.starts.l) := ⟨(lines_lt HK.out.start.1 hx1).1, (lines_lt HK.out.start.1 hx1).2, hlo.2.1⟩
          have HF := Lib.hid hf
          have HX0 := Lib.hid hx0
          have HR0 := Lib.hid hr0
          have HMa := Lib.hid hma
          clear hin hr1 hx1 hlo hag hf hr0 hag0 hx0 hmc hma hlen hblen
          rw [HMa.out]
          generalize which % la.length = q at *
          have q0 : (0 : Int) ≤ (q : Int) := by omega
          have q1 : (q : Int) < (la.length : Int) := by omega
          have hne : ¬ la.length = 0 := h0
          go_upto_region 20 with (fail)
          obtain ⟨wb, hwb⟩ : ∃ wb, wo.alloc (.cells #[.slice x.a x.l.length x.c] 25) = wb := ⟨_, rfl⟩
          have HXb : Hid (Ext v2 wb) := by rw [← hwb]; exact HXk.out.alloc _
          have HBx : Hid (wb.heap[wo.heap.size]? = some (.cells #[.slice x.a x.l.length x.c] 25 (0, 0))) := by rw [← hwb]; exact World.alloc_heap_new wo _
          rw [hwb]
          clear hwb cx
          obtain ⟨f0, f1, f2, f3, f4⟩ := TBox.five5 ((HX2.out.trans HXb.out).block HBt.out)
          have cb := (cell_at HBx.out 0).trans rfl
          simp only [List.getElem?_toArray, List.getElem?_cons_zero] at cb
          have HAg := Lib.hid (Agrees_ok t x wb r0 (HTt.out.ext (HX2.out.trans HXb.out)) HK.out (HIx.out.ext HXb.out) HLo.out.1 HLo.out.2.1 HLo.out.2.2 HF.out)
          go_wp2_with (go_at_call 12; refine HAg.out.mono ?_; rintro e wd ⟨ag, cg, rfl, hg1, hg2⟩; have HG1 := Lib.hid hg1; have HXd : Hid (Ext wb wd) := hg2; obtain ⟨p0, p1, p2, p3, p4⟩ := TBox.five5 ((HX2.out.trans (HXb.out.trans hg2)).block HBt.out); clear hg1 hg2 f0 f1 f2 f3 f4 cb)
          clear p0 p1 p2 p3 p4
          refine (Lines_h t ⟨ag, cg, r0⟩ wd (HTt.out.ext (HX2.out.trans (HXb.out.trans HXd.out))) HK.out HG1.out (allR_rd HK.out HR0.out)).mono ?_
          rintro e we ⟨ac, cc, lc, ec, rfl, HC, hcc, hxe⟩
          have HXe : Hid (Ext wd we) := hxe
          have hec : ec = 0 ∧ lc.map (fun r => r.l) = linesR t (leadsOf t r0) := by
            rcases hcc with ⟨h1, h2, _⟩ | ⟨_, _, h3⟩
            · exact ⟨h1, h2⟩
            · have := len_one (HK.out.start.2.imp fun h => Nat.ne_of_lt h) HR0.out
              dsimp only at h3
              omega
          obtain ⟨rfl, hlc⟩ := hec
          have hall : lc.any (fun y => decide (y.l = x.l)) = true := by
            have h1 : x.l ∈ lc.map (fun r => r.l) := by rw [hlc]; exact HX0.out
            obtain ⟨y, hy, he⟩ := List.mem_map.1 h1
            exact List.any_eq_true.2 ⟨y, hy, by simp [he]⟩
          have HCon := Lib.hid (listed2_in wo.heap.size x ac cc lc we ((HXd.out.trans HXe.out).block HBx.out) (HIx.out.ext (HXb.out.trans (HXd.out.trans HXe.out))) HC.out.1 HC.out.2 hall)
          clear hcc hxe hlc hall
          go_wp2_with (first
            | (go_at_call 14; refine (HCon.out 0).mono ?_; rintro e wf ⟨rfl, nf, rfl⟩)
            | (go_at_call 10; refine (awake_ok _).mono ?_; rintro e v3 ⟨rfl, hx3⟩; have HX3 : Hid (Ext _ v3) := hx3; clear hx3))
          go_ret
          exact ⟨rfl, EV.out.trans (HX2.out.trans (HXb.out.trans (HXd.out.trans (HXe.out.trans (((Ext.refl we).drewN nf).trans HX3.out)))))⟩
  · -- there are too many lines
    have he : eb = 0 ∨ eb = 11 := by
      rcases HCb.out with ⟨h1, _⟩ | ⟨h1, _⟩
      · exact .inl h1
      · exact .inr h1
    clear HCa HCb
    rcases he with rfl | rfl
    · go_wp2_with (go_at_call 10; refine (awake_ok v2).mono ?_; rintro e v3 ⟨rfl, hx3⟩; have HX3 : Hid (Ext v2 v3) := hx3; clear hx3)
      go_ret
      exact ⟨rfl, EV.out.trans (HX2.out.trans HX3.out)⟩
    · go_wp2_with (go_at_call 10; refine (awake_ok v2).mono ?_; rintro e v3 ⟨rfl, hx3⟩; have HX3 : Hid (Ext v2 v3) := hx3; clear hx3)
      go_ret
      exact ⟨rfl, EV.out.trans (HX2.out.trans HX3.out)⟩
end Go.Proofs.YtopjjcgmcieboaaGreatDoor

namespace Go.Proofs.YtopjjcgmcieboaaGreatDoor
open Go.RowKit

set_option maxRecDepth 1000000 in
set_option maxHeartbeats 8000000 in
theorem listed_any (a1 : Option Addr) (n1 c1 which : Nat) (w : World) (h1 : IsBytes w a1 n1 c1) (hwh : which < 256) :
    Calls Tryz.prog 4 #[.slice a1 n1 c1, .int .u8 (which : Int)] w fun e w' => e = .returned (.bool true) ∧ Ext w w' := by
  have H1 := Lib.hid h1; clear h1
  go_enter Tryz.func4, Tryz.ntmps4
  go_wp2_with fail
  refine (of_any a1 n1 c1 w H1.out).mono ?_
  rintro e w1 ⟨rfl, hd1, hx1⟩
  go_wp2_with fail
  have HX1 : Hid (Ext w w1) := hx1
  have HMd := made_any w.heap.size a1 n1 c1 0 4 w1 hd1 (bytes_lt (deck_bytes hd1)) (by omega) (by omega)
  clear hd1 hx1
  refine HMd.mono ?_
  clear HMd
  rintro e w2 ⟨t, k2, rfl, hT2, hK, hl4, hd2, hk2, hx2⟩
  have HK := Lib.hid hK
  have HT2 := Lib.hid hT2
  have HD2 := Lib.hid hd2
  have EW2 : Hid (Ext w w2) := ((Ext.refl w).trans HX1.out).dext hx2 (Nat.le_refl _)
  have hw2 : w.heap.size < w2.heap.size := by have := hd2.lt; exact this
  clear hT2 hK hd2 hx2 HX1
  go_upto_region 3 with (fail)
  obtain ⟨wb, hwb⟩ : ∃ wb, w2.alloc (.cells #[.int .i64 (t.P : Int), .slice t.ways.a t.ways.l.length t.ways.c, .slice t.words.a t.words.l.length t.words.c, .slice t.starts.a t.starts.l.length t.starts.c, .slice t.legs.a t.legs.l.length t.legs.c] 28) = wb := ⟨_, rfl⟩
  have HBb : Hid (TBox wb w2.heap.size t) := by rw [← hwb]; exact World.alloc_heap_new w2 _
  have hxb : Ext w2 wb := by rw [← hwb]; exact (Ext.refl w2).alloc _
  have hxd : DExt w.heap.size w2 wb := (DExt.refl _ w2).ext hxb
  rw [hwb]
  clear hwb
  have HTb : Hid (IsTo w.heap.size wb t) := HT2.out.dext hxd
  have HDb : Hid (IsDeck wb w.heap.size a1 n1 c1 k2) := HD2.out.ext hxb
  have EWb : Hid (Ext w wb) := EW2.out.trans hxb
  have h2b : w2.heap.size < wb.heap.size := (Array.getElem?_eq_some_iff.1 HBb.out).1
  clear hxb hxd HT2 HD2 EW2
  have hDb : w.heap.size < wb.heap.size := by omega
  have hbb : Hid (∀ b off, a1 = some ⟨b, off, none⟩ → 0 < n1 → b < wb.heap.size) := bytes_lt (deck_bytes HDb.out)
  have KB : Hid (∀ V, DExt w.heap.size wb V → TBox V w2.heap.size t) := fun V h => (h.block w2.heap.size h2b (by simp; omega)).trans HBb.out
  obtain ⟨f0, f1, f2, f3, f4⟩ := TBox.five5 HBb.out
  go_wp2_with fail
  clear f0 f1 f2 f3 f4
  refine (readDeal_any w.heap.size a1 n1 c1 k2 t wb HDb.out hbb.out (by omega) HTb.out HK.out).mono ?_
  rintro e x1 ⟨ar, cr, lr, k3, rfl, hO3, hR3, hd3, hk3, hx3⟩
  have GX1 : Hid (DExt w.heap.size wb x1) := hx3
  have HR := Lib.hid hR3
  have HSr : Hid (IsSl 1 num x1 ⟨ar, cr, lr⟩) := own_sl hO3 (by have := hR3.1; have := HK.out.words; omega)
  have HT3 : Hid (IsT x1 t) := (HTb.out.dext hx3).at
  have HB3 : Hid (TBox x1 w2.heap.size t) := KB.out x1 hx3
  have EW3 : Hid (Ext w x1) := EWb.out.dext hx3 (Nat.le_refl _)
  clear hO3 hR3 hd3 hx3
  dsimp only
  repeat (first
    | exact listed_tail w x1 w2.heap.size which t ar cr lr hwh HK HR HT3 HB3 HSr EW3
    | go_step)
end Go.Proofs.YtopjjcgmcieboaaGreatDoor

namespace Go.Proofs.YtopjjcgmcieboaaGreatDoor.treatyListed
open Go.ChangeShapes Go.WideShapes Go.ChangeAt Go.RowKit
open Go.ChangeMaps (open_string shut_string)
set_option linter.unusedVariables false

theorem own : ownKnob Tryz.prog.godebug = none := by kernel_rfl
theorem laidOut : laidOutB Tryz.prog = true := by kernel_rfl

/-- A slice of integers that came in: it is nil, or it leads to a row of cap cells, the numbers zs, each of which fits its kind. -/
def IsRow (k : IntKind) (w : World) (a : Option Addr) (len cap : Nat) (zs : List Int) : Prop :=
  (a = none ∧ len = 0 ∧ cap = 0 ∧ zs = []) ∨
  ∃ x, a = some x ∧ len ≤ cap ∧ cap ≤ maxLen ∧ zs.length = cap ∧ (∀ i, i < zs.length → w.cell? (x.add i) = some (.int k (zs.getD i 0))) ∧ ∀ n ∈ zs, (Lit.int k n).wf = true

/-- Bytes that came in lie in memory as told. -/
theorem bytes_of {w : World} {a : Option Addr} {n c : Nat} {zs : List Int} (h : IsRow .u8 w a n c zs) (hn : n ≤ 140737488351232) : IsBytes w a n c := by
  rcases h with ⟨rfl, rfl, rfl, rfl⟩ | ⟨x, rfl, hl, hm, hz, hc, hw⟩
  · exact ⟨Nat.le_refl _, by omega, .inl rfl⟩
  · refine ⟨hl, hn, ?_⟩
    by_cases hn0 : n = 0
    · exact .inl hn0
    · right
      have h0 := hc 0 (by omega)
      obtain ⟨b, off, sp⟩ := x
      have hsp : sp = none := by
        cases sp with
        | none => rfl
        | some s =>
          exfalso
          unfold World.cell? at h0
          split at h0
          · simp [Addr.add] at h0
          · cases h0
      subst hsp
      refine ⟨b, off, rfl, fun i hi => ?_⟩
      have h1 := hc i (by omega)
      rw [Addr.add_lit] at h1
      have h2 := hw (zs.getD i 0) (by rw [List.getD_eq_getElem?_getD, List.getElem?_eq_getElem (show i < zs.length by omega)]; exact List.getElem_mem _)
      have h3 : 0 ≤ zs.getD i 0 ∧ zs.getD i 0 < 256 := by
        have h4 : IntKind.u8.min = 0 := by kernel_rfl
        have h5 : IntKind.u8.max = 255 := by kernel_rfl
        generalize zs.getD i 0 = z at h2 ⊢
        simp [Lit.wf, h4, h5] at h2
        omega
      exact ⟨(zs.getD i 0).toNat, by omega, by rw [h1, Int.toNat_of_nonneg h3.1]⟩

theorem cells5 : Tryz.prog.bytesOf 5 = 1 := by kernel_rfl

theorem walk (a0 : Option Addr) (len0 cap0 : Nat) (z0 : List Int) (b1 : Nat) (w : World) (w0 : IsRow .u8 w a0 len0 cap0 z0) (n0 : len0 ≤ 140737488351232) (hb : b1 < 256) :
    Calls Tryz.prog 4 #[.slice a0 len0 cap0, .int .u8 (b1 : Int)] w fun e w' => e = .returned (.bool true) ∧ Below w.heap.size w w' := by
  exact listed_any a0 len0 cap0 b1 w (bytes_of w0 n0) hb

def laid3 {H : Type} : List (String × DataW H) := [("math/bits.deBruijn32tab", Rows.laid_math_bits_deBruijn32tab), ("math/bits.deBruijn64tab", Rows.laid_math_bits_deBruijn64tab), ("internal/strconv.uint64pow10", Rows.laid_internal_strconv_uint64pow10)]

/-- The door's own heap meets the condition. -/
theorem door_met (os : Os) (args : Array Value) : laidMetH Tryz.prog laid3 ((World.doorLaid Tryz.prog 4000 os).forCall (fun _ _ => 0) ⟨#[], args, []⟩).memory :=
  laidMetH_of_parts3 (fuel := 8) (laidMet_of_run' 8 (by kernel_rfl) (by kernel_rfl)) (by kernel_rfl) (by kernel_rfl)

set_option maxRecDepth 100000 in
theorem lifted (os : Os) (started : os.Started) (H : Type) (enc : TypeId × Value → H) :
    ReturnsInHanded {} Tryz.checked os 4 .any (fun w args => (Rows.treatyListedSpec.pre enc Tryz.prog Tryz.f4 [] false w args ∧ laidMetH Tryz.prog laid3 w) ∧ sizedMet enc Tryz.prog Tryz.f4 (OpenSpec.ofChange Rows.treatyListedSpec) false w args)
      (Rows.treatyListedSpec.post enc Tryz.prog Tryz.f4 false true false false) := by
  refine returnsInHanded_of_change_and (C := Tryz.checked) (X := fun w _ => laidMetH Tryz.prog laid3 w) (fun _ _ _ hh h => h.of_heap hh) own started (by kernel_rfl) Tryz.func4
    (ChangeSpec.witness_shaped (enc := enc) (C := Tryz.checked) (os := os) (X := fun w _ => laidMetH Tryz.prog laid3 w) false (World.doorLaid Tryz.prog 4000 os) #[.slice none 0 0, .int .u8 0] 8 rfl (World.shaped_of_RefB (by kernel_rfl) (by kernel_rfl)) (by kernel_rfl) (by kernel_rfl) (by kernel_rfl) (door_met os _)) ?_
  intro W base args ds gs before hval0 hW hcnd hsz0 hL _
  have hsz : (DataW.weightsEach Tryz.prog (Tryz.f4.params.toList ++ Rows.treatyListedSpec.plain.varTypes Tryz.prog) (ds ++ gs)).all (· ≤ reachBytes) = true := hsz0
  clear hsz0
  have hval : ∀ (j : Nat) t v, Tryz.f4.params[j]? = some t → args[j]? = some v → Value.okWide Tryz.prog W .any base t v := hval0
  have hW' := hW
  obtain ⟨p, q, hA0, hV, rfl, hfz, hnd⟩ := hW
  have hA : DataW.TrodAll enc Tryz.prog W 0 (fun _ => true) true Tryz.f4.params.toList args.toList ds p := hA0
  rw [Tryz.params4] at hA hval hsz
  obtain ⟨v0, vs0, d0, ds0, p0, q0, hargs, rfl, rfl, h0, r0⟩ := trodAll_cons hA
  obtain ⟨v1, vs1, d1, ds1, p1, q1, rfl, rfl, rfl, h1, r1⟩ := trodAll_cons r0
  obtain ⟨rfl, rfl, rfl⟩ := trodAll_nil r1
  obtain rfl : args = #[v0, v1] := by cases args; simp_all
  obtain ⟨rfl, rfl⟩ := trodVars_none hV
  obtain ⟨a0, len0, cap0, rfl⟩ := okWide_slice Tryz.underlying22 (hval 0 22 v0 rfl rfl)
  have k0 := h0
  have lt0 : ∀ x ∈ p0, x.block < W.heap.size := by obtain ⟨m, hm⟩ := k0; exact DataW.trod_lt m _ _ _ hm
  obtain ⟨z0, w0, n0⟩ : ∃ zs, IsRow .u8 W a0 len0 cap0 zs ∧ len0 ≤ 140737488351232 := by
    obtain ⟨fuel, hf⟩ := h0
    rcases open_ints Tryz.underlying22 Tryz.underlying5 (by kernel_rfl) hf with ⟨hcs, _⟩ | ⟨x, l, c, zs, hcs, _, hl, hm, hz, hx, hcell, hwz⟩
    · simp [Value.cells] at hcs
      obtain ⟨rfl, rfl, rfl⟩ := hcs
      exact ⟨[], .inl ⟨rfl, rfl, rfl, rfl⟩, Nat.zero_le _⟩
    · simp [Value.cells] at hcs
      obtain ⟨rfl, rfl, rfl⟩ := hcs
      simp only [Prod.mk.injEq] at hx
      have hr := sized_slice hsz (j := 0) (t := 22) (e := 5) rfl (by rw [hx.1]; rfl) Tryz.underlying22
      rw [cells5] at hr
      simp only [lits, List.length_map, List.length_take, List.length_drop] at hr
      simp only [if_true] at hz
      have hb : reachBytes = 140737488351232 := rfl
      exact ⟨zs, .inr ⟨_, rfl, hl, hm, hz, hcell, hwz⟩, by omega⟩
  have k1 := h1
  have lt1 : ∀ x ∈ p1, x.block < W.heap.size := by obtain ⟨m, hm⟩ := k1; exact DataW.trod_lt m _ _ _ hm
  obtain ⟨i1, rfl, hi1⟩ : ∃ i1 : Int, v1 = .int .u8 i1 ∧ (Lit.int .u8 i1).wf = true := by
    obtain ⟨i1, rfl, _, _, h⟩ := open_int Tryz.underlying5 (hval 1 5 v1 rfl rfl) h1
    exact ⟨i1, rfl, h⟩
  obtain ⟨b1, rfl, hb1⟩ : ∃ b1 : Nat, i1 = (b1 : Int) ∧ b1 < 256 := by
    have h4 : IntKind.u8.min = 0 := by kernel_rfl
    have h5 : IntKind.u8.max = 255 := by kernel_rfl
    simp [Lit.wf, h4, h5] at hi1
    exact ⟨i1.toNat, by omega, by omega⟩
  clear hA0 hval0
  refine (walk a0 len0 cap0 z0 b1 W w0 n0 hb1).mono fun e W' ⟨he, bel⟩ => ?_
  subst he
  exact ⟨_, rfl, _, _, _, [], _, [], hW', trodAll_mk1 (shut_bool Tryz.underlying4 _), (trodAll_cons_mk (Below.trod laidOut (by kernel_rfl) (of_decide_eq_true (by kernel_rfl)) k0 bel lt0) (trodAll_cons_mk (Below.trod laidOut (by kernel_rfl) (of_decide_eq_true (by kernel_rfl)) k1 bel lt1) trodAll_mk0)), rfl, bel.frame _, fun h => by cases h⟩

theorem over : Rows.treatyListedRow.holds Tryz.pinned (OpenSpec.ofChange Rows.treatyListedSpec) :=
  OpenClaim.holds_of_wide 4 Tryz.f4 rfl rfl rfl rfl rfl rfl rfl ⟨rfl, rfl, rfl, rfl, rfl⟩ rfl rfl rfl rfl rfl (by kernel_rfl) Tryz.func4 (by kernel_rfl)
    (of_decide_eq_true (by kernel_rfl)) (by unfold Func.isWrapper; first | (rw [if_pos (by decide +kernel)]; kernel_rfl) | (rw [if_neg (by decide +kernel)]; exact ⟨rfl, rfl⟩))
    (fun os started H enc _ => lifted os started H enc)

/-- The statement: the card. -/
theorem proved : Rows.TreatyListedCardSaid :=
  Claim7.holds_tied_plain_at .later [] [.data, .data, .data] true (true, "675616953653c96e79d33d017fbd5d78d0e19dbd499f3e1abc353706bf1d378f") false
    over (fun _ h => by cases h) (by kernel_rfl) (fun _ h => by cases h) treatyListed_row_tie rfl ⟨rfl, rfl⟩ (by kernel_rfl) rfl
    (fun f fn hf hfn => by
      obtain rfl : f = 4 := Option.some.inj ((show Tryz.prog.funcNamed "limitrophe/limitrophelaw01.TreatyListed" = some 4 by kernel_rfl).symm.trans hf) |>.symm
      obtain rfl : fn = Tryz.f4 := (Option.some.inj (Tryz.func4.symm.trans hfn)).symm
      exact ⟨by kernel_rfl, fun j t ht => by
        rw [Tryz.params4] at ht
        have h3 : t = 22 ∨ t = 5 := by
          rcases j with _ | _ | j
          · left; simpa using ht.symm
          · right; simpa using ht.symm
          · simp at ht
        rcases h3 with rfl | rfl
        · exact (show Tryz.prog.wantsStandIn 22 = false by kernel_rfl)
        · exact (show Tryz.prog.wantsStandIn 5 = false by kernel_rfl)⟩)
    (by kernel_rfl)
#print axioms proved
end Go.Proofs.YtopjjcgmcieboaaGreatDoor.treatyListed
