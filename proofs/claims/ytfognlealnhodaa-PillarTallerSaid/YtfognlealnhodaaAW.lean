/-
  awake, of the statements on pillars, answers true: the examples of the chapter; nothing that was there is turned.
-/
import Derived.Test.YtfognlealnhodaaWR
import Derived.Test.YtfognlealnhodaaY
import Derived.Test.YtfognlealnhodaaW
import Derived.Test.YtfognlealnhodaaD
namespace Go.Proofs.Ytfognlealnhodaa
open Go.RowKit

def hillP (h : Nat) : Prof := ⟨[0, 100, 200, 300], [(100, 100), (150, h), (120, 120), (100, 100)], 50, 0, 0⟩
theorem hill_okP (h : Nat) (h1 : 150 ≤ h) (h2 : h ≤ 1000) : OkP (hillP h) where
  n1 := by simp [hillP]
  n2 := by simp [hillP]
  gl := rfl
  ab := by intro x hx; simp [hillP] at hx; omega
  gb := by intro s hs; simp only [hillP, List.mem_cons, List.not_mem_nil, or_false] at hs; rcases hs with rfl | rfl | rfl | rfl <;> dsimp only <;> omega
  tb := by simp [hillP]
  bb := by simp [hillP]
  inc := by simp [hillP]
/-- A profile in memory that is a hill. -/
structure IsHill (w : World) (v : PV) (h : Nat) : Prop where
  is : IsP w v
  eq : v.p = hillP h
theorem IsHill.len {w : World} {v : PV} {h : Nat} (k : IsHill w v h) : v.at'.l.length = 4 := by
  have e : v.at'.l = (hillP h).A := by rw [← k.eq]
  rw [e]; rfl
theorem IsHill.ok {w : World} {v : PV} {h : Nat} (k : IsHill w v h) (h1 : 150 ≤ h) (h2 : h ≤ 1000) : OkP v.p := by rw [k.eq]; exact hill_okP h h1 h2
theorem hill160 (w : World) : Calls Try.prog 52 #[.int .i64 160] w fun e w' => ∃ v : PV, e = .returned v.v ∧ IsHill w' v 160 ∧ Ext w w' := by
  refine Calls.mono (hill_any 160 w) ?_
  rintro e w' ⟨v, rfl, h1, h2, h3⟩
  exact ⟨v, rfl, ⟨h2, h1⟩, h3⟩
theorem hill159 (w : World) : Calls Try.prog 52 #[.int .i64 159] w fun e w' => ∃ v : PV, e = .returned v.v ∧ IsHill w' v 159 ∧ Ext w w' := by
  refine Calls.mono (hill_any 159 w) ?_
  rintro e w' ⟨v, rfl, h1, h2, h3⟩
  exact ⟨v, rfl, ⟨h2, h1⟩, h3⟩
theorem hill_sees (v : PV) (w : World) (k : IsHill w v 160) (i j : Nat) (b1 b2 : Bool) (hi : i < 4) (hj : j < 4) (hne : i ≠ j) (h1 : seeF false (hillP 160) i j = b1) (h2 : seeF true (hillP 160) i j = b2) :
    Calls Try.prog 21 #[v.v, .int .i64 (i : Int), .int .i64 (j : Int)] w fun e w' => e = .returned (.tuple #[.bool b1, .bool b2, .int .i64 0]) ∧ Ext w w' := by
  have h := sees_ok v i j w k.is (k.ok (by omega) (by omega)) (by rw [k.len]; exact hi) (by rw [k.len]; exact hj) hne
  rw [k.eq, h1, h2] at h
  exact h
theorem hill_tall (v : PV) (w : World) (k : IsHill w v 160) (i j t : Nat) (hi : i < 4) (hj : j < 4) (hne : i ≠ j) (h1 : tallF true (hillP 160) i j = t) (ht : t ≤ 2000) :
    Calls Try.prog 22 #[v.v, .int .i64 (i : Int), .int .i64 (j : Int)] w fun e w' => e = .returned (.tuple #[.int .i64 (t : Int), .int .i64 0]) ∧ Ext w w' := by
  have h := tall_ok v i j w k.is (k.ok (by omega) (by omega)) (by rw [k.len]; exact hi) (by rw [k.len]; exact hj) hne (by rw [k.eq, h1]; exact ht)
  rw [k.eq, h1] at h
  exact h
theorem hill_fewest (v : PV) (w : World) (k : IsHill w v 160) : Calls Try.prog 12 #[v.v] w fun e w' => ∃ (a : Option Addr) (c : Nat) (L : List Nat), e = .returned (.tuple #[.slice a L.length c, .int .i64 0]) ∧ L = [0, 1, 3] ∧ IsSl 1 num w' ⟨a, c, L⟩ ∧ Ext w w' := by
  have hL : fewF (needsF (allF true v.p) v.at'.l.length (v.at'.l.length - 1) (-1)) (allF true v.p) v.at'.l.length 0 = [0, 1, 3] := by rw [k.len, k.eq]; kernel_rfl
  refine Calls.mono (fewest_ok v w k.is (k.ok (by omega) (by omega)) [0, 1, 3] hL) ?_
  rintro e w' ⟨a, c, rfl, ho, hx⟩
  exact ⟨a, c, [0, 1, 3], rfl, rfl, own_sl ho (by simp), hx⟩
theorem lit_sl (w : World) (l : List Nat) (hl : l.length ≤ 1000000) : IsSl 1 num (w.alloc (.cells (nums l).toArray 3)) ⟨some ⟨w.heap.size, 0, none⟩, l.length, l⟩ := isNum (alloc_new rfl) rfl (Nat.le_refl _) hl
theorem hill_proves (v : PV) (w : World) (k : IsHill w v 160) : Calls Try.prog 15 #[v.v, .slice (some ⟨w.heap.size, 0, none⟩) 4 4] (w.alloc (.cells #[.int .i64 0, .int .i64 1, .int .i64 2, .int .i64 2] 3)) fun e w' => e = .returned (.tuple #[.int .i64 3, .int .i64 0]) ∧ Ext w w' := by
  have hx : Ext w (w.alloc (.cells #[.int .i64 0, .int .i64 1, .int .i64 2, .int .i64 2] 3)) := (Ext.refl w).alloc _
  have h := proves_ok v ⟨some ⟨w.heap.size, 0, none⟩, 4, [0, 1, 2, 2]⟩ (w.alloc (.cells #[.int .i64 0, .int .i64 1, .int .i64 2, .int .i64 2] 3)) (k.is.ext hx) (k.ok (by omega) (by omega)) (lit_sl w [0, 1, 2, 2] (by simp)) (by rw [k.len]; rfl) (by intro x hx; simp at hx; omega) true (by rw [k.eq]; kernel_rfl) 3 (by rfl)
  refine Calls.mono h ?_
  rintro e w' ⟨rfl, h2⟩
  exact ⟨rfl, hx.trans h2⟩
theorem mend_h (v : PV) (w : World) (hh : Nat) (k : IsHill w v hh) (h1 : 150 ≤ hh) (h2 : hh ≤ 1000) (M R : List Nat) (hM : fewF (needsF (allF true (hillP hh)) 4 ([0, 1, 3][0 + 2]?.getD 0) (([0, 1, 3][0 + 1]?.getD 0 : Nat) : Int)) (allF true (hillP hh)) 4 ([0, 1, 3][0]?.getD 0) = M) (hR : (if M.length = 0 then [] else [0, 1, 3].take 0 ++ (M ++ [0, 1, 3].drop (0 + 3))) = R) (hl : R.length ≤ 1000000) (ho : holdsF (allF true (hillP hh)) 4 [0, 1, 3] = true) :
    Calls Try.prog 30 #[v.v, .slice (some ⟨w.heap.size, 0, none⟩) 3 3, .int .i64 1] (w.alloc (.cells #[.int .i64 0, .int .i64 1, .int .i64 3] 3)) fun e w' => ∃ a c, e = .returned (.tuple #[.slice a R.length c, .int .i64 (if R.length = 0 then 7 else 0)]) ∧ IsSl 1 num w' ⟨a, c, R⟩ ∧ Ext w w' := by
  have hx : Ext w (w.alloc (.cells #[.int .i64 0, .int .i64 1, .int .i64 3] 3)) := (Ext.refl w).alloc _
  have h := mend_ok v ⟨some ⟨w.heap.size, 0, none⟩, 3, [0, 1, 3]⟩ 0 (w.alloc (.cells #[.int .i64 0, .int .i64 1, .int .i64 3] 3)) (k.is.ext hx) (k.ok h1 h2) (lit_sl w [0, 1, 3] (by simp)) (by rw [k.len]; intro x hx; simp at hx; omega) (by rw [k.eq, k.len]; exact ho) (by simp) (by simp) M (by rw [k.eq, k.len]; exact hM) R hR
  refine Calls.mono h ?_
  rintro e w' ⟨a, c, rfl, ho, h2⟩
  exact ⟨a, c, rfl, own_sl ho hl, hx.trans h2⟩
theorem mend160 (v : PV) (w : World) (k : IsHill w v 160) : Calls Try.prog 30 #[v.v, .slice (some ⟨w.heap.size, 0, none⟩) 3 3, .int .i64 1] (w.alloc (.cells #[.int .i64 0, .int .i64 1, .int .i64 3] 3)) fun e w' => ∃ v, e = .returned (.tuple #[v, .int .i64 7]) ∧ Ext w w' := by
  refine Calls.mono (mend_h v w 160 k (by omega) (by omega) [] [] (by kernel_rfl) rfl (by simp) (by kernel_rfl)) ?_
  rintro e w' ⟨a, c, rfl, _, h2⟩
  exact ⟨_, rfl, h2⟩
theorem mend159 (v : PV) (w : World) (k : IsHill w v 159) : Calls Try.prog 30 #[v.v, .slice (some ⟨w.heap.size, 0, none⟩) 3 3, .int .i64 1] (w.alloc (.cells #[.int .i64 0, .int .i64 1, .int .i64 3] 3)) fun e w' => ∃ (a : Option Addr) (c : Nat) (R : List Nat), e = .returned (.tuple #[.slice a R.length c, .int .i64 0]) ∧ R = [0, 2, 3] ∧ IsSl 1 num w' ⟨a, c, R⟩ ∧ Ext w w' := by
  refine Calls.mono (mend_h v w 159 k (by omega) (by omega) [0, 2, 3] [0, 2, 3] (by kernel_rfl) rfl (by simp) (by kernel_rfl)) ?_
  rintro e w' ⟨a, c, rfl, h1, h2⟩
  exact ⟨a, c, [0, 2, 3], rfl, rfl, h1, h2⟩
/-- Two lists that are alike. -/
theorem equal_lit (a : Option Addr) (c : Nat) (L l : List Nat) (w : World) (h : IsSl 1 num w ⟨a, c, L⟩) (hl : l.length ≤ 1000000) (he : L = l) :
    Calls Try.prog 26 #[.slice a L.length c, .slice (some ⟨w.heap.size, 0, none⟩) l.length l.length] (w.alloc (.cells (nums l).toArray 3)) fun e w' => e = .returned (.bool true) ∧ Ext w w' := by
  have hx : Ext w (w.alloc (.cells (nums l).toArray 3)) := (Ext.refl w).alloc _
  have q := equal_any ⟨a, c, L⟩ ⟨some ⟨w.heap.size, 0, none⟩, l.length, l⟩ (w.alloc (.cells (nums l).toArray 3)) (h.ext hx) (lit_sl w l hl)
  refine Calls.mono q ?_
  rintro e w' ⟨rfl, ⟨m, rfl⟩⟩
  exact ⟨by rw [decide_eq_true he], hx.drewN m⟩
theorem book_r (w : World) : Calls Try.prog 53 #[] w fun e w' => ∃ s : SL (Nat × Nat), e = .returned (.agg #[.slice s.a s.l.length s.c]) ∧ Hid (s.l = [(100, 110), (50, 50), (100, 100)] ∧ IsSl 2 spC w' s) ∧ Ext w w' := by
  refine Calls.mono (book_any w) ?_
  rintro e w' ⟨s, rfl, h1, h2, h3⟩
  exact ⟨s, rfl, ⟨h1, h2⟩, h3⟩
theorem okSt_book (gp : List (Nat × Nat)) (nm : List Int) (h1 : gp.length + 1 = nm.length) (h2 : nm.length ≤ 3) (h3 : ∀ x ∈ gp, 1 ≤ x.1 ∧ x.1 ≤ x.2 ∧ x.2 ≤ 20000) (h4 : ∀ x ∈ nm, -1 ≤ x ∧ x ≤ 3) : OkSt [(100, 110), (50, 50), (100, 100)] gp nm where
  r1 := by simp
  r2 := by simp
  n1 := by omega
  n2 := by omega
  gl := h1
  rb := by intro x hx; simp only [List.mem_cons, List.not_mem_nil, or_false] at hx; rcases hx with rfl | rfl | rfl <;> simp
  gb := h3
  nb := h4
theorem book_numbers (s : SL (Nat × Nat)) (f : FV) (w : World) (hs : s.l = [(100, 110), (50, 50), (100, 100)]) (hs2 : IsSl 2 spC w s) (hg : f.gp.l = [(150, 155)]) (hn : f.nm.l = [-1, -1]) (hf : IsF w f) :
    Calls Try.prog 34 #[.agg #[.slice s.a s.l.length s.c], f.v] w fun e w' => ∃ r : SL (SL Nat), e = .returned (.tuple #[.slice r.a r.l.length r.c, .int .i64 0]) ∧ Hid (r.l.map (fun r => r.l) = [[0, 1], [2, 3]] ∧ IsSl 1 slC w' r ∧ (∀ x ∈ r.l, IsSl 1 num w' x)) ∧ Ext w w' := by
  have hk : OkSt s.l f.gp.l f.nm.l := by
    rw [hs, hg, hn]
    exact okSt_book _ _ rfl (by simp) (by intro x hx; simp at hx; subst hx; simp) (by intro x hx; simp at hx; omega)
  refine Calls.mono (Numbers_ok s f w hs2 hf hk (by rw [hs, hg, hn]; exact Nat.lt_of_lt_of_eq (show 0 < 2 by omega) (by kernel_rfl))) ?_
  rintro e w' ⟨r, rfl, h1, h2, h3, h4⟩
  exact ⟨r, rfl, ⟨by rw [h1, hs, hg, hn]; kernel_rfl, h2, h3⟩, h4⟩
theorem book_readings (s : SL (Nat × Nat)) (f : FV) (w : World) (hs : s.l = [(100, 110), (50, 50), (100, 100)]) (hs2 : IsSl 2 spC w s) (hg : f.gp.l = [(150, 155)]) (hn : f.nm.l = [-1, 3]) (hf : IsF w f) :
    Calls Try.prog 33 #[.agg #[.slice s.a s.l.length s.c], f.v] w fun e w' => e = .returned (.tuple #[.int .i64 1, .int .i64 0]) ∧ Ext w w' := by
  have hk : OkSt s.l f.gp.l f.nm.l := by
    rw [hs, hg, hn]
    exact okSt_book _ _ rfl (by simp) (by intro x hx; simp at hx; subst hx; simp) (by intro x hx; simp at hx; omega)
  have h := Readings_ok s f w hs2 hf hk
  have e : readsF s.l f.gp.l f.nm.l = 1 := by rw [hs, hg, hn]; kernel_rfl
  rw [e] at h
  exact h
theorem book_wrong (s : SL (Nat × Nat)) (f : FV) (w : World) (hs : s.l = [(100, 110), (50, 50), (100, 100)]) (hs2 : IsSl 2 spC w s) (hg : f.gp.l = [(120, 130), (30, 40)]) (hn : f.nm.l = [-1, -1, -1]) (hf : IsF w f) :
    Calls Try.prog 35 #[.agg #[.slice s.a s.l.length s.c], f.v] w fun e w' => ∃ (a : Option Addr) (c : Nat) (L : List Nat), e = .returned (.tuple #[.slice a L.length c, .int .i64 0]) ∧ L = [1] ∧ IsSl 1 num w' ⟨a, c, L⟩ ∧ Ext w w' := by
  have hk : OkSt s.l f.gp.l f.nm.l := by
    rw [hs, hg, hn]
    exact okSt_book _ _ rfl (by simp) (by intro x hx; simp at hx; rcases hx with rfl | rfl <;> simp) (by intro x hx; simp at hx; omega)
  have e : wrongF s.l f.gp.l f.nm.l = [1] := by rw [hs, hg, hn]; kernel_rfl
  refine Calls.mono (Wrong_ok s f w hs2 hf hk (by rw [hs, hg, hn]; kernel_rfl) (by rw [hn]; simp) (by rw [hn]; simp)) ?_
  rintro e2 w' ⟨a, c, l, rfl, h1, h2, h3⟩
  rw [e] at h1
  subst h1
  exact ⟨a, c, [1], rfl, rfl, own_sl h2 (by simp), h3⟩
theorem wrong_w (s : SL (Nat × Nat)) (w : World) (hs : s.l = [(100, 110), (50, 50), (100, 100)]) (hs2 : IsSl 2 spC w s) :
    Calls Try.prog 35 #[.agg #[.slice s.a s.l.length s.c], .agg #[.slice (some ⟨w.heap.size + 1 + 1, 0, none⟩) 2 2, .slice (some ⟨w.heap.size + 1 + 1 + 1, 0, none⟩) 3 3]]
      ((((w.alloc (.cells #[.int .i64 120, .int .i64 130] 28)).alloc (.cells #[.int .i64 30, .int .i64 40] 28)).alloc (.cells #[.int .i64 120, .int .i64 130, .int .i64 30, .int .i64 40] 28)).alloc (.cells #[.int .i64 (-1), .int .i64 (-1), .int .i64 (-1)] 3))
      fun e w' => ∃ (a : Option Addr) (c : Nat) (L : List Nat), e = .returned (.tuple #[.slice a L.length c, .int .i64 0]) ∧ L = [1] ∧ IsSl 1 num w' ⟨a, c, L⟩ ∧ Ext w w' := by
  have hx : Ext w ((((w.alloc (.cells #[.int .i64 120, .int .i64 130] 28)).alloc (.cells #[.int .i64 30, .int .i64 40] 28)).alloc (.cells #[.int .i64 120, .int .i64 130, .int .i64 30, .int .i64 40] 28)).alloc (.cells #[.int .i64 (-1), .int .i64 (-1), .int .i64 (-1)] 3)) := ((((Ext.refl w).alloc _).alloc _).alloc _).alloc _
  refine Calls.mono (book_wrong s ⟨⟨some ⟨w.heap.size + 1 + 1, 0, none⟩, 2, [(120, 130), (30, 40)]⟩, ⟨some ⟨w.heap.size + 1 + 1 + 1, 0, none⟩, 3, [-1, -1, -1]⟩⟩ _ hs (hs2.ext hx) rfl rfl ⟨?_, ?_⟩) ?_
  · refine sp_block (l := [(120, 130), (30, 40)]) (b := w.heap.size + 1 + 1) (cs := #[.int .i64 120, .int .i64 130, .int .i64 30, .int .i64 40]) (T := 28) (fr := (0, 0)) ?_ ?_ (show 2 ≤ 1000000 by omega)
    · exact (alloc_old (by simp only [World.size_alloc]; omega)).trans (alloc_new (by simp only [World.size_alloc]))
    · intro i hi'
      have hi4 : i < 2 := hi'
      rcases (show i = 0 ∨ i = 1 by omega) with rfl | rfl <;> exact ⟨rfl, rfl⟩
  · refine ints_block (l := [-1, -1, -1]) (b := w.heap.size + 1 + 1 + 1) (cs := #[.int .i64 (-1), .int .i64 (-1), .int .i64 (-1)]) (T := 3) (fr := (0, 0)) ?_ ?_ (show 3 ≤ 1000000 by omega)
    · exact alloc_new (by simp only [World.size_alloc])
    · intro i hi'
      have hi4 : i < 3 := hi'
      rcases (show i = 0 ∨ i = 1 ∨ i = 2 by omega) with rfl | rfl | rfl <;> rfl
  · rintro e w' ⟨a, c, L, rfl, h1, h2, h3⟩
    exact ⟨a, c, L, rfl, h1, h2, hx.trans h3⟩
theorem all_w (r : SL (SL Nat)) (w : World) (hr : r.l.map (fun r => r.l) = [[0, 1], [2, 3]]) (h1 : IsSl 1 slC w r) (h2 : ∀ x ∈ r.l, IsSl 1 num w x) :
    Calls Try.prog 55 #[.slice r.a r.l.length r.c, .slice (some ⟨w.heap.size + 1 + 1, 0, none⟩) 2 2]
      (((w.alloc (.cells #[.int .i64 0, .int .i64 1] 3)).alloc (.cells #[.int .i64 2, .int .i64 3] 3)).alloc (.cells #[.slice (some ⟨w.heap.size, 0, none⟩) 2 2, .slice (some ⟨w.heap.size + 1, 0, none⟩) 2 2] 25))
      fun e w' => e = .returned (.bool true) ∧ Ext w w' := by
  have x1 : Ext w (w.alloc (.cells #[.int .i64 0, .int .i64 1] 3)) := (Ext.refl w).alloc _
  have x2 : Ext (w.alloc (.cells #[.int .i64 0, .int .i64 1] 3)) ((w.alloc (.cells #[.int .i64 0, .int .i64 1] 3)).alloc (.cells #[.int .i64 2, .int .i64 3] 3)) := (Ext.refl _).alloc _
  have x3 : Ext ((w.alloc (.cells #[.int .i64 0, .int .i64 1] 3)).alloc (.cells #[.int .i64 2, .int .i64 3] 3)) (((w.alloc (.cells #[.int .i64 0, .int .i64 1] 3)).alloc (.cells #[.int .i64 2, .int .i64 3] 3)).alloc (.cells #[.slice (some ⟨w.heap.size, 0, none⟩) 2 2, .slice (some ⟨w.heap.size + 1, 0, none⟩) 2 2] 25)) := (Ext.refl _).alloc _
  have hx := (x1.trans x2).trans x3
  have s1 := ((lit_sl w [0, 1] (by simp)).ext x2).ext x3
  have s2 := (lit_sl (w.alloc (.cells #[.int .i64 0, .int .i64 1] 3)) [2, 3] (by simp)).ext x3
  rw [World.size_alloc] at s2
  refine Calls.mono (equalAll_any r ⟨some ⟨w.heap.size + 1 + 1, 0, none⟩, 2, [⟨some ⟨w.heap.size, 0, none⟩, 2, [0, 1]⟩, ⟨some ⟨w.heap.size + 1, 0, none⟩, 2, [2, 3]⟩]⟩ _ (h1.ext hx) ⟨Nat.le_refl _, (show 2 ≤ 1000000 by omega), .inr ⟨w.heap.size + 1 + 1, 0, rfl, fun i hi j hj => ?_⟩⟩ (fun x h => (h2 x h).ext hx) (fun x h => ?_)) ?_
  · obtain rfl : j = 0 := by omega
    have hi2 : i < 2 := hi
    rw [cell_at (alloc_new (by simp only [World.size_alloc]))]
    rcases (show i = 0 ∨ i = 1 by omega) with rfl | rfl <;> rfl
  · simp only [List.mem_cons, List.not_mem_nil, or_false] at h
    rcases h with rfl | rfl
    · exact s1
    · exact s2
  · rintro e w' ⟨rfl, ⟨m, rfl⟩⟩
    exact ⟨by rw [hr]; rfl, hx.drewN m⟩
end Go.Proofs.Ytfognlealnhodaa
