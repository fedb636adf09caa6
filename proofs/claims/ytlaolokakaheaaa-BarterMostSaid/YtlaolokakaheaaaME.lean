/-
  Made, of the statements on barters, makes a land of a deck: right, in new memory of its own; the deck alone is turned.
-/
import Derived.Test.YtlaolokakaheaaaMD
namespace Go.Proofs.Ytlaolokakaheaaa
open Go.RowKit

theorem info41 : (Try.prog.info? 41).map (fun i => (i.zero, i.size, i.bytes)) = some (some (.agg #[.int .i64 0, .int .i64 0, .int .i64 0, .int .i64 0]), 4, 32) := by kernel_rfl
theorem st_one (l : List St) : ∀ u ∈ flat 4 stC l, u.oneCell' = true := by
  intro u hu
  obtain ⟨x, -, hx⟩ := List.mem_flatMap.1 hu
  obtain ⟨j, -, rfl⟩ := List.mem_map.1 hx
  unfold stC
  split
  · rfl
  split
  · rfl
  split <;> rfl
/-- A stretch as Made makes it. -/
structure SOk (v : List Nat) (x : St) : Prop where
  o : x.o ≤ 1
  n : 1 ≤ x.n ∧ x.n ≤ 59
  s : 1 ≤ x.s ∧ x.s ≤ 59
  w : x.w = -1 ∨ ∃ k : Nat, x.w = (k : Int) ∧ k < v.length ∧ v[k]?.getD 0 = x.o
def frE2 (D most R p cnt j : Nat) (X : Nat → Value) : Array Value := #[.pointer (some ⟨D, 0, none⟩), .int .i64 (most : Int), X 2, X 3, .pointer (some ⟨R, 0, none⟩), .pointer (some ⟨p, 0, none⟩), X 6, X 7, X 8, X 9, X 10, X 11, X 12, X 13, X 14, X 15, X 16, X 17, X 18, X 19, X 20, X 21, .int .i64 (cnt : Int), .int .i64 (j : Int), X 24, X 25, X 26, X 27, X 28, X 29, X 30, X 31, X 32, X 33, X 34, X 35, X 36, X 37, X 38, X 39, X 40, X 41, X 42, X 43, X 44, X 45, X 46, X 47, X 48, X 49, X 50, X 51, X 52, X 53, X 54]
def InvV (w : World) (D : Nat) (a : Option Addr) (n c k most R p cnt : Nat) (ac : Act) (wr : World) : Prop :=
  ∃ (X : Nat → Value) (i k' vc : Nat) (va : Option Addr) (vl : List Nat), ac = { tmps := frD4 D most R p cnt i X, defers := [] } ∧ i ≤ cnt ∧ k' ≤ k + 1 + i ∧ Hid (vl.length = i ∧ ∀ x ∈ vl, x ≤ 1) ∧ Hid (Held w D a n c k' [⟨3, 1, .slice va i vc, i, nums vl⟩, ⟨41, 4, .slice none 0 0, 0, flat 4 stC []⟩] [(R, .cells #[.slice none 0 0, .slice none 0 0] 26), (p, .cells #[.slice none 0 0, .slice va i vc] 26)] wr)
theorem InvV.of {w : World} {D : Nat} {a : Option Addr} {n c k most R p cnt : Nat} {t : Array Value} {wr : World} (i k' vc : Nat) (va : Option Addr) (vl : List Nat) (ht : t = frD4 D most R p cnt i (fun j => t.getD j undef)) (h1 : i ≤ cnt) (h2 : k' ≤ k + 1 + i) (h3 : vl.length = i ∧ ∀ x ∈ vl, x ≤ 1) (h4 : Held w D a n c k' [⟨3, 1, .slice va i vc, i, nums vl⟩, ⟨41, 4, .slice none 0 0, 0, flat 4 stC []⟩] [(R, .cells #[.slice none 0 0, .slice none 0 0] 26), (p, .cells #[.slice none 0 0, .slice va i vc] 26)] wr) : InvV w D a n c k most R p cnt { tmps := t, defers := [] } wr :=
  ⟨_, i, k', vc, va, vl, by rw [← ht], h1, h2, h3, h4⟩
def InvS (w : World) (D : Nat) (a : Option Addr) (n c k most R p cnt m vc : Nat) (va : Option Addr) (vl : List Nat) (ac : Act) (wr : World) : Prop :=
  ∃ (X : Nat → Value) (j k' sc : Nat) (sa : Option Addr) (sl : List St), ac = { tmps := frE2 D most R p cnt j X, defers := [] } ∧ j ≤ cnt ∧ k' ≤ k + 4 * j ∧ Hid (sl.length = j ∧ ∀ x ∈ sl, SOk vl x) ∧ Hid (Held w D a n c k' [⟨3, 1, .slice va m vc, m, nums vl⟩, ⟨41, 4, .slice sa j sc, j, flat 4 stC sl⟩] [(R, .cells #[.slice none 0 0, .slice none 0 0] 26), (p, .cells #[.slice sa j sc, .slice va m vc] 26)] wr)
theorem InvS.of {w : World} {D : Nat} {a : Option Addr} {n c k most R p cnt m vc : Nat} {va : Option Addr} {vl : List Nat} {t : Array Value} {wr : World} (j k' sc : Nat) (sa : Option Addr) (sl : List St) (ht : t = frE2 D most R p cnt j (fun j => t.getD j undef)) (h1 : j ≤ cnt) (h2 : k' ≤ k + 4 * j) (h3 : sl.length = j ∧ ∀ x ∈ sl, SOk vl x) (h4 : Held w D a n c k' [⟨3, 1, .slice va m vc, m, nums vl⟩, ⟨41, 4, .slice sa j sc, j, flat 4 stC sl⟩] [(R, .cells #[.slice none 0 0, .slice none 0 0] 26), (p, .cells #[.slice sa j sc, .slice va m vc] 26)] wr) : InvS w D a n c k most R p cnt m vc va vl { tmps := t, defers := [] } wr :=
  ⟨_, j, k', sc, sa, sl, by rw [← ht], h1, h2, h3, h4⟩

set_option maxRecDepth 1000000 in
set_option maxHeartbeats 4000000 in
theorem made_any (D : Nat) (a : Option Addr) (n c k most : Nat) (w : World) (hd : IsDeck w D a n c k) (hk : k ≤ 500) (hm : 1 ≤ most) (hm2 : most ≤ 16) :
    Calls Try.prog 8 #[.pointer (some ⟨D, 0, none⟩), .int .i64 (most : Int)] w fun e w' => ∃ (va sa : Option Addr) (vc sc m j k' : Nat) (vl : List Nat) (sl : List St), e = .returned (.agg #[.slice sa j sc, .slice va m vc]) ∧ vl.length = m ∧ m ≤ 4 ∧ (∀ x ∈ vl, x ≤ 1) ∧ sl.length = j ∧ 1 ≤ j ∧ j ≤ most ∧ (∀ x ∈ sl, SOk vl x) ∧ k' ≤ k + 6 + 4 * most ∧ Held w D a n c k' [⟨3, 1, .slice va m vc, m, nums vl⟩, ⟨41, 4, .slice sa j sc, j, flat 4 stC sl⟩] [] w' := by
  have HD0 := Lib.hid (Held.start hd)
  clear hd
  have H1 : Hid (Held w D a n c k [⟨3, 1, .slice none 0 0, 0, nums []⟩, ⟨41, 4, .slice none 0 0, 0, flat 4 stC []⟩] [(w.heap.size, .cells #[.slice none 0 0, .slice none 0 0] 26), (w.heap.size + 1, .cells #[.slice none 0 0, .slice none 0 0] 26)] ((w.alloc (.cells #[.slice none 0 0, .slice none 0 0] 26)).alloc (.cells #[.slice none 0 0, .slice none 0 0] 26))) := by
    have h := (((HD0.out.nilRow 3 1).nilRow 41 4).new (.cells #[.slice none 0 0, .slice none 0 0] 26)).new (.cells #[.slice none 0 0, .slice none 0 0] 26)
    simp only [World.size_alloc] at h
    exact h
  clear HD0
  have HMo : Hid (1 ≤ most ∧ most ≤ 16 ∧ k ≤ 500) := ⟨hm, hm2, hk⟩
  clear hm hm2 hk
  go_enter Try.func8, Try.ntmps8
  go_wp2_with fail
  generalize (w.alloc (.cells #[.slice none 0 0, .slice none 0 0] 26)).alloc (.cells #[.slice none 0 0, .slice none 0 0] 26) = w1 at *
  generalize w.heap.size + 1 = p at *
  generalize w.heap.size = R at *
  refine (draw_any D a n c k 5 _ H1.out.deck (by have := HMo.out; omega) (by omega)).mono ?_
  rintro e w2 ⟨cnt, k1, hc, hk1, rfl, hD1, hg1⟩
  have H2 := Lib.hid (H1.out.dealt hD1 hg1)
  have HCn : Hid (cnt ≤ 4 ∧ k1 ≤ k + 1) := by show _ ∧ _; omega
  clear hD1 hg1 hc hk1 H1
  go_wp2_with fail
  refine wp_loop (InvV w D a n c k most R p cnt) (fun a _ => cnt - (intOf (a.tmps.getD 10 undef)).toNat) (InvV.of 0 k1 0 none [] rfl (Nat.zero_le _) (by have := HCn.out; omega) ⟨rfl, by simp⟩ H2.out) ?_
  clear H2
  rintro ac wr ⟨X, i, k', vc, va, vl, rfl, hi, hk', HVl, HH⟩
  have HKa : Hid (k' ≤ k + 1 + i ∧ i ≤ cnt) := ⟨hk', hi⟩
  clear hk' hi
  conv => arg 4; dsimp only [frD4]
  by_cases hlt : i < cnt
  · have di : decide ((i : Int) < (cnt : Int)) = true := decide_eq_true (by omega)
    have hwi : IntKind.i64.wrap ((i : Int) + 1) = ((i + 1 : Nat) : Int) := by have := HCn.out; rw [IntWalk.i64_in _ (by omega)]; omega
    go_upto_region 4 with (fail)
    refine made_r4 _ w wr D n c k' most R p cnt i vc a va vl _ rfl HH (by have := HKa.out; have := HCn.out; have := HMo.out; show _ ∧ _; omega) (Lib.hid ?_)
    intro t W k4 d1 g1 c1 ht hd1 hk4 H4
    obtain ⟨X2, hX2⟩ : ∃ X2, t = frD4 D most R p cnt i X2 := ⟨_, ht⟩
    clear ht
    subst hX2
    have HVn : Hid ((vl ++ [d1]).length = i + 1 ∧ ∀ x ∈ vl ++ [d1], x ≤ 1) := ⟨by rw [List.length_append, HVl.out.1]; rfl, fun x hx => by rcases List.mem_append.1 hx with h | h; exact HVl.out.2 x h; simp at h; omega⟩
    have HK4 : Hid (k4 ≤ k + 1 + (i + 1)) := by have := HKa.out; show _ ≤ _; omega
    clear hd1 hk4 HH
    dsimp only [frD4]
    go_wp2_with fail
    refine ⟨InvV.of (i + 1) k4 c1 (some ⟨g1, 0, none⟩) (vl ++ [d1]) ?_ (by omega) HK4.out HVn.out H4.out, ?_⟩
    · simp [frD4]
    · simp [intOf, frD4]; omega
  · have di : decide ((i : Int) < (cnt : Int)) = false := decide_eq_false (by omega)
    obtain rfl : i = cnt := by have := HKa.out; omega
    clear hlt
    go_wp2_with fail
    refine (dbetween_any D a n c k' 1 (most : Int) _ HH.out.deck (by have := HMo.out; have := HCn.out; have := HKa.out; omega) (by omega) (by have := HMo.out; omega) (by have := HMo.out; omega)).mono ?_
    rintro e w3 ⟨cI, k3, hc1, hc2, hk3, rfl, hD3, hg3⟩
    obtain ⟨cn, rfl⟩ : ∃ cn : Nat, cI = (cn : Int) := ⟨cI.toNat, by omega⟩
    have H3 := Lib.hid (HH.out.dealt hD3 hg3)
    have HC2 : Hid (1 ≤ cn ∧ cn ≤ most ∧ k3 ≤ k + 6) := by have := HMo.out; have := HCn.out; have := HKa.out; show _ ∧ _ ∧ _; omega
    clear hD3 hg3 hc1 hc2 hk3 HH
    go_wp2_with fail
    refine wp_loop (InvS w D a n c k3 most R p cn i vc va vl) (fun a _ => cn - (intOf (a.tmps.getD 23 undef)).toNat) (InvS.of 0 k3 0 none [] rfl (Nat.zero_le _) (by omega) ⟨rfl, by simp⟩ H3.out) ?_
    clear H3
    rintro ac wr2 ⟨Y, j, k5, sc, sa, sl, rfl, hj, hk5, HSl, HH⟩
    have HKb : Hid (k5 ≤ k3 + 4 * j ∧ j ≤ cn) := ⟨hk5, hj⟩
    clear hk5 hj
    conv => arg 4; dsimp only [frE2]
    by_cases hlt : j < cn
    · have dj : decide ((j : Int) < (cn : Int)) = true := decide_eq_true (by omega)
      have hwj : IntKind.i64.wrap ((j : Int) + 1) = ((j + 1 : Nat) : Int) := by have := HC2.out; have := HMo.out; rw [IntWalk.i64_in _ (by omega)]; omega
      go_wp2_with fail
      refine (draw_any D a n c k5 2 _ HH.out.deck (by have := HKb.out; have := HC2.out; have := HMo.out; omega) (by omega)).mono ?_
      rintro e w5 ⟨ow, k6, ho, hk6, rfl, hD5, hg5⟩
      have H5 := Lib.hid (HH.out.dealt hD5 hg5)
      have HOw : Hid (ow ≤ 1 ∧ k6 ≤ k5 + 1) := by show _ ∧ _; omega
      clear hD5 hg5 ho hk6 HH
      go_wp2_with fail
      refine (dbetween_any D a n c k6 1 59 _ H5.out.deck (by have := HKb.out; have := HC2.out; have := HMo.out; have := HOw.out; omega) (by omega) (by omega) (by omega)).mono ?_
      rintro e w6 ⟨nI, k7, hn1, hn2, hk7, rfl, hD6, hg6⟩
      obtain ⟨nn, rfl⟩ : ∃ nn : Nat, nI = (nn : Int) := ⟨nI.toNat, by omega⟩
      have H6 := Lib.hid (H5.out.dealt hD6 hg6)
      have HNn : Hid (1 ≤ nn ∧ nn ≤ 59 ∧ k7 ≤ k6 + 1) := by show _ ∧ _ ∧ _; omega
      clear hD6 hg6 hn1 hn2 hk7 H5
      go_wp2_with fail
      refine (dbetween_any D a n c k7 1 59 _ H6.out.deck (by have := HKb.out; have := HC2.out; have := HMo.out; have := HOw.out; have := HNn.out; omega) (by omega) (by omega) (by omega)).mono ?_
      rintro e w7 ⟨sI, k8, hn1, hn2, hk8, rfl, hD7, hg7⟩
      obtain ⟨ss, rfl⟩ : ∃ ss : Nat, sI = (ss : Int) := ⟨sI.toNat, by omega⟩
      have H7 := Lib.hid (H6.out.dealt hD7 hg7)
      have HSs : Hid (1 ≤ ss ∧ ss ≤ 59 ∧ k8 ≤ k7 + 1) := by show _ ∧ _ ∧ _; omega
      clear hD7 hg7 hn1 hn2 hk8 H6
      go_wp2_with fail
      obtain ⟨SB, hSB⟩ : ∃ SB, w7.heap.size = SB := ⟨_, rfl⟩
      have H8 : Hid (Held w D a n c k8 [⟨3, 1, .slice va i vc, i, nums vl⟩, ⟨41, 4, .slice sa j sc, j, flat 4 stC sl⟩] [(R, .cells #[.slice none 0 0, .slice none 0 0] 26), (p, .cells #[.slice sa j sc, .slice va i vc] 26), (SB, .cells #[.int .i64 (ow : Int), .int .i64 (nn : Int), .int .i64 (ss : Int), .int .i64 (-1)] 41)] (w7.alloc (.cells #[.int .i64 (ow : Int), .int .i64 (nn : Int), .int .i64 (ss : Int), .int .i64 (-1)] 41))) := by
        have h := H7.out.new (.cells #[.int .i64 (ow : Int), .int .i64 (nn : Int), .int .i64 (ss : Int), .int .i64 (-1)] 41)
        rw [hSB] at h
        exact h
      rw [hSB]
      clear H7 hSB
      generalize w7.alloc (.cells #[.int .i64 (ow : Int), .int .i64 (nn : Int), .int .i64 (ss : Int), .int .i64 (-1)] 41) = w8 at *
      have HK8 : Hid (k8 ≤ k5 + 3 ∧ k8 ≤ 700) := by have := HKb.out; have := HC2.out; have := HMo.out; have := HOw.out; have := HNn.out; have := HSs.out; show _ ∧ _; omega
      refine (draw_any D a n c k8 20 _ H8.out.deck (by have := HK8.out; omega) (by omega)).mono ?_
      rintro e w9 ⟨dv, k10, hdv, hk10, rfl, hD9, hg9⟩
      have H9 := Lib.hid (H8.out.dealt hD9 hg9)
      have HK10 : Hid (k10 ≤ k5 + 4 ∧ dv ≤ 20) := by have := HK8.out; show _ ∧ _; omega
      have HJs : Hid (j ≤ 100) := by have := HKb.out; have := HC2.out; have := HMo.out; show _ ≤ _; omega
      clear hD9 hg9 hdv hk10 H8
      have l1 := H9.out.cell 1 (j := 1) rfl rfl
      by_cases hvi : dv < i
      · have dvi : decide ((dv : Int) < (i : Int)) = true := decide_eq_true (by omega)
        obtain ⟨gv, rfl, -, hvc⟩ := own_place (H9.out.row 0 _ rfl) (show 0 < i by omega)
        have cv := H9.out.num 0 rfl HVl.out.1 (by have := HCn.out; omega) hvi
        have s0 := H9.out.cell 2 (j := 0) rfl rfl
        have s3 := H9.out.cell 2 (j := 3) rfl rfl
        have f0 := H9.out.frozen 2 (j := 0) rfl
        have f3 := H9.out.frozen 2 (j := 3) rfl
        have i1 : (0 : Int) ≤ (dv : Int) := by omega
        have i2 : (dv : Int) < (i : Int) := by omega
        have HOv : Hid (vl[dv]?.getD 0 ≤ 1 ∧ dv < vl.length) := by
          have := HVl.out.1
          refine ⟨HVl.out.2 _ ?_, by omega⟩
          rw [List.getElem?_eq_getElem (by omega), Option.getD_some]
          exact List.getElem_mem _
        obtain ⟨ov, hov⟩ : ∃ ov, vl[dv]?.getD 0 = ov := ⟨_, rfl⟩
        rw [hov] at cv HOv
        have HOe := Lib.hid hov
        clear hov
        have nsb : gv ≠ SB := fun e => H9.out.off 2 _ rfl 0 _ rfl (by rw [← e]; rfl)
        have psb : p ≠ SB := H9.out.dis 1 2 _ _ (by decide) rfl rfl
        go_upto_region 11 with (fail)
        go_region
        have H10 : Hid (Held w D a n c k10 [⟨3, 1, .slice (some ⟨gv, 0, none⟩) i vc, i, nums vl⟩, ⟨41, 4, .slice sa j sc, j, flat 4 stC sl⟩] [(R, .cells #[.slice none 0 0, .slice none 0 0] 26), (p, .cells #[.slice sa j sc, .slice (some ⟨gv, 0, none⟩) i vc] 26), (SB, .cells #[.int .i64 (ov : Int), .int .i64 (nn : Int), .int .i64 (ss : Int), .int .i64 ((dv : Int))] 41)] ((w9.setCell ⟨SB, 3, none⟩ (.int .i64 (dv : Int))).setCell ⟨SB, 0, none⟩ (.int .i64 (ov : Int))).drew) :=
          ((H9.out.cellPut (j := 3) 2 rfl (.int .i64 (dv : Int))).cellPut (j := 0) 2 rfl (.int .i64 (ov : Int))).ext (Ext.refl _).drew
        clear l1 cv s0 s3 f0 f3 nsb psb H9
        generalize ((w9.setCell ⟨SB, 3, none⟩ (.int .i64 (dv : Int))).setCell ⟨SB, 0, none⟩ (.int .i64 (ov : Int))).drew = w10 at *
        obtain ⟨i41, hi41, hz⟩ := Option.map_eq_some_iff.1 info41
        simp only [Prod.mk.injEq] at hz
        obtain ⟨hz41, hs41, hb41⟩ := hz
        have H11 := Lib.hid (H10.out.new (.cells #[.int .i64 (ov : Int), .int .i64 (nn : Int), .int .i64 (ss : Int), .int .i64 ((dv : Int))] 41))
        have l0 := H10.out.cell 1 (j := 0) rfl rfl
        have s0 := H10.out.cell 2 (j := 0) rfl rfl
        have s1 := H10.out.cell 2 (j := 1) rfl rfl
        have s2 := H10.out.cell 2 (j := 2) rfl rfl
        have s3 := H10.out.cell 2 (j := 3) rfl rfl
        clear H10
        go_wp2_with (at_builtin; go_must (refine wpList_append_lies _ rfl _ _ 23 rfl w.heap.size 41 i41 (.agg #[.int .i64 0, .int .i64 0, .int .i64 0, .int .i64 0]) 4 32 Try.underlying23 hi41 hz41 hs41 hb41 rfl (by decide) _ j (flat 4 stC sl) rfl (H11.out.row 1 _ rfl) ⟨_, 0, none⟩ 1 1 (flat 4 stC [⟨ov, nn, ss, (dv : Int)⟩]) rfl rfl (World.news_of_block (H11.out.heap 3 rfl)) (st_one _) (by decide) (by have := HJs.out; unfold maxLen; omega) (by have := HJs.out; omega) H11.out.keep.size _ rfl ?_); intro g cap wm hown hgrow hat hlt5; rw [← flat_append] at hown; have H12 := Lib.hid (H11.out.grown (i := 1) rfl hown hgrow hat); clear hown hgrow hat hlt5 H11 l0 s0 s1 s2 s3; have y0 := H12.out.cell 1 (j := 0) rfl rfl; have f0 := H12.out.frozen 1 (j := 0) rfl)
        have H13 := (H12.out.cellPut (j := 0) 1 rfl (.slice (some ⟨g, 0, none⟩) (j + 1) cap)).drop (blks := [(R, .cells #[.slice none 0 0, .slice none 0 0] 26), (p, .cells #[.slice (some ⟨g, 0, none⟩) (j + 1) cap, .slice (some ⟨gv, 0, none⟩) i vc] 26)]) [_, _]
        refine ⟨InvS.of (j + 1) k10 cap (some ⟨g, 0, none⟩) (sl ++ [(⟨ov, nn, ss, (dv : Int)⟩ : St)]) ?_ (by omega) (by have := HK10.out; have := HKb.out; omega) ⟨by rw [List.length_append, HSl.out.1]; rfl, fun x hx => ?_⟩ H13, ?_⟩
        · simp [frE2]
        · rcases List.mem_append.1 hx with h | h
          · exact HSl.out.2 x h
          · simp only [List.mem_singleton] at h
            subst h
            exact ⟨HOv.out.1, HNn.out.1 |> fun h => ⟨h, HNn.out.2.1⟩, ⟨HSs.out.1, HSs.out.2.1⟩, .inr ⟨dv, rfl, HOv.out.2, HOe.out⟩⟩
        · simp [intOf, frE2]; omega
      · have dvi : decide ((dv : Int) < (i : Int)) = false := decide_eq_false (by omega)
        have hvi2 : ¬ (dv : Int) < (i : Int) := by omega
        clear hvi
        go_upto_region 12 with (fail)
        clear l1
        obtain ⟨i41, hi41, hz⟩ := Option.map_eq_some_iff.1 info41
        simp only [Prod.mk.injEq] at hz
        obtain ⟨hz41, hs41, hb41⟩ := hz
        have H11 := Lib.hid (H9.out.new (.cells #[.int .i64 (ow : Int), .int .i64 (nn : Int), .int .i64 (ss : Int), .int .i64 (-1)] 41))
        have l0 := H9.out.cell 1 (j := 0) rfl rfl
        have s0 := H9.out.cell 2 (j := 0) rfl rfl
        have s1 := H9.out.cell 2 (j := 1) rfl rfl
        have s2 := H9.out.cell 2 (j := 2) rfl rfl
        have s3 := H9.out.cell 2 (j := 3) rfl rfl
        clear H9
        go_wp2_with (at_builtin; go_must (refine wpList_append_lies _ rfl _ _ 23 rfl w.heap.size 41 i41 (.agg #[.int .i64 0, .int .i64 0, .int .i64 0, .int .i64 0]) 4 32 Try.underlying23 hi41 hz41 hs41 hb41 rfl (by decide) _ j (flat 4 stC sl) rfl (H11.out.row 1 _ rfl) ⟨_, 0, none⟩ 1 1 (flat 4 stC [⟨ow, nn, ss, -1⟩]) rfl rfl (World.news_of_block (H11.out.heap 3 rfl)) (st_one _) (by decide) (by have := HJs.out; unfold maxLen; omega) (by have := HJs.out; omega) H11.out.keep.size _ rfl ?_); intro g cap wm hown hgrow hat hlt5; rw [← flat_append] at hown; have H12 := Lib.hid (H11.out.grown (i := 1) rfl hown hgrow hat); clear hown hgrow hat hlt5 H11 l0 s0 s1 s2 s3; have y0 := H12.out.cell 1 (j := 0) rfl rfl; have f0 := H12.out.frozen 1 (j := 0) rfl)
        have H13 := (H12.out.cellPut (j := 0) 1 rfl (.slice (some ⟨g, 0, none⟩) (j + 1) cap)).drop (blks := [(R, .cells #[.slice none 0 0, .slice none 0 0] 26), (p, .cells #[.slice (some ⟨g, 0, none⟩) (j + 1) cap, .slice va i vc] 26)]) [_, _]
        refine ⟨InvS.of (j + 1) k10 cap (some ⟨g, 0, none⟩) (sl ++ [(⟨ow, nn, ss, -1⟩ : St)]) ?_ (by omega) (by have := HK10.out; have := HKb.out; omega) ⟨by rw [List.length_append, HSl.out.1]; rfl, fun x hx => ?_⟩ H13, ?_⟩
        · simp [frE2]
        · rcases List.mem_append.1 hx with h | h
          · exact HSl.out.2 x h
          · simp only [List.mem_singleton] at h
            subst h
            exact ⟨HOw.out.1, HNn.out.1 |> fun h => ⟨h, HNn.out.2.1⟩, ⟨HSs.out.1, HSs.out.2.1⟩, .inl rfl⟩
        · simp [intOf, frE2]; omega
    · have dj : decide ((j : Int) < (cn : Int)) = false := decide_eq_false (by omega)
      obtain rfl : j = cn := by have := HKb.out; omega
      have p0 := HH.out.cell 1 (j := 0) rfl rfl
      have p1 := HH.out.cell 1 (j := 1) rfl rfl
      have r0 := HH.out.cell 0 (j := 0) rfl rfl
      have r1 := HH.out.cell 0 (j := 1) rfl rfl
      have z0 := HH.out.frozen 0 (j := 0) rfl
      have z1 := HH.out.frozen 0 (j := 1) rfl
      have n1 : p ≠ R := HH.out.dis 1 0 _ _ (by decide) rfl rfl
      have HF : Hid (Held w D a n c k5 [⟨3, 1, .slice va i vc, i, nums vl⟩, ⟨41, 4, .slice sa j sc, j, flat 4 stC sl⟩] [(R, .cells #[.slice sa j sc, .slice va i vc] 26), (p, .cells #[.slice sa j sc, .slice va i vc] 26)] ((wr2.setCell ⟨R, 0, none⟩ (.slice sa j sc)).setCell ⟨R, 1, none⟩ (.slice va i vc))) := (HH.out.cellPut (j := 0) 0 rfl (.slice sa j sc)).cellPut (j := 1) 0 rfl (.slice va i vc)
      go_wp2_with fail
      clear p0 p1 r0 r1 z0 z1 HH
      generalize ((wr2.setCell ⟨R, 0, none⟩ (.slice sa j sc)).setCell ⟨R, 1, none⟩ (.slice va i vc)) = WF at *
      have m0 := HF.out.cell 0 (j := 0) rfl rfl
      have m1 := HF.out.cell 0 (j := 1) rfl rfl
      simp only [bodyPost]
      refine ⟨trivial, _, ?_, va, sa, vc, sc, i, j, k5, vl, sl, rfl, HVl.out.1, by have := HCn.out; omega, HVl.out.2, HSl.out.1, HC2.out.1, HC2.out.2.1, HSl.out.2, ?_, HF.out.drop (blks := []) _⟩
      · simp [results, Try.f8, go_sem, m0, m1]
      · have := HKb.out; have := HC2.out; omega
end Go.Proofs.Ytlaolokakaheaaa
