/-
  Tried, of the statements on barters, makes an allowed exchange of a land of a deck, in new memory; the deck alone is turned.
-/
import Derived.Test.YtlaolokakaheaaaME
import Derived.Test.YtlaolokakaheaaaAP
import Derived.Deep.RegionHeld3
namespace Go.Proofs.Ytlaolokakaheaaa
open Go.RowKit

def frT (D R p b off ln sc i : Nat) (X : Nat → Value) : Array Value := #[.pointer (some ⟨D, 0, none⟩), X 1, X 2, X 3, .pointer (some ⟨R, 0, none⟩), .pointer (some ⟨p, 0, none⟩), X 6, X 7, X 8, X 9, X 10, X 11, X 12, .slice (some ⟨b, off, none⟩) ln sc, .int .i64 (ln : Int), .int .i64 (i : Int), X 16, X 17, X 18, X 19, X 20, X 21, X 22, X 23, X 24, X 25, X 26, X 27, X 28, X 29, X 30, X 31, X 32, X 33, X 34, X 35, X 36, X 37, X 38, X 39, X 40, X 41, X 42, X 43, X 44, X 45, X 46, X 47]
/-- A part as Tried makes it. -/
def POk (L : List St) (W : Nat) (i z : Nat) : Prop := z ≤ W ∧ ((at' L i).free = false → z = W * nowF (at' L i))
def InvT (w : World) (D : Nat) (a : Option Addr) (n c k R p b off sc W : Nat) (L : List St) (ac : Act) (wr : World) : Prop :=
  ∃ (X : Nat → Value) (i k' pc : Nat) (pa : Option Addr) (P : List Nat), ac = { tmps := frT D R p b off L.length sc i X, defers := [] } ∧ i ≤ L.length ∧ k' ≤ k + 3 * i ∧ Hid (P.length = i ∧ ∀ q, q < i → POk L W q (pt P q)) ∧ Hid (Held w D a n c k' [⟨3, 1, .slice pa i pc, i, nums P⟩] [(R, .cells #[.int .i64 0, .slice none 0 0] 31), (p, .cells #[.int .i64 (W : Int), .slice pa i pc] 31)] wr)
theorem InvT.of {w : World} {D : Nat} {a : Option Addr} {n c k R p b off sc W : Nat} {L : List St} {t : Array Value} {wr : World} (i k' pc : Nat) (pa : Option Addr) (P : List Nat) (ht : t = frT D R p b off L.length sc i (fun j => t.getD j undef)) (h1 : i ≤ L.length) (h2 : k' ≤ k + 3 * i) (h3 : P.length = i ∧ ∀ q, q < i → POk L W q (pt P q)) (h4 : Hid (Held w D a n c k' [⟨3, 1, .slice pa i pc, i, nums P⟩] [(R, .cells #[.int .i64 0, .slice none 0 0] 31), (p, .cells #[.int .i64 (W : Int), .slice pa i pc] 31)] wr)) : InvT w D a n c k R p b off sc W L { tmps := t, defers := [] } wr :=
  ⟨_, i, k', pc, pa, P, by rw [← ht], h1, h2, h3, h4⟩
theorem parts_more {L : List St} {W i z : Nat} {P : List Nat} (h : P.length = i ∧ ∀ q, q < i → POk L W q (pt P q)) (hz : POk L W i z) : (P ++ [z]).length = i + 1 ∧ ∀ q, q < i + 1 → POk L W q (pt (P ++ [z]) q) := by
  obtain ⟨h1, h2⟩ := h
  refine ⟨by rw [List.length_append, h1]; rfl, fun q hq => ?_⟩
  by_cases e : q < i
  · have : pt (P ++ [z]) q = pt P q := by unfold pt; rw [List.getElem?_append_left (by omega)]
    rw [this]
    exact h2 q e
  · obtain rfl : q = i := by omega
    have : pt (P ++ [z]) q = z := by unfold pt; rw [List.getElem?_append_right (by omega), h1]; simp
    rw [this]
    exact hz
theorem parts_allow {L : List St} {W : Nat} {P : List Nat} (h : ∀ q, q < L.length → POk L W q (pt P q)) : allowsF L W P = true := by
  simp only [allowsF, List.all_eq_true, List.mem_range, Bool.or_eq_true, decide_eq_true_eq]
  intro q hq
  cases e : (at' L q).free with
  | true => exact .inl rfl
  | false => exact .inr ((h q hq).2 e)

set_option maxRecDepth 1000000 in
set_option maxHeartbeats 4000000 in
theorem tried_any (x : Ld) (D : Nat) (a : Option Addr) (n c k : Nat) (w : World) (hd : IsDeck w D a n c k) (hk : k ≤ 2000) (hs : StL w x.s) (hin : InB (fun b => b ≠ D) x.s) (hok : OkL x.s.l x.v.l) :
    Calls Try.prog 16 #[.pointer (some ⟨D, 0, none⟩), x.val] w fun e w' => ∃ (pa : Option Addr) (pc W k' : Nat) (P : List Nat), e = .returned (.agg #[.int .i64 (W : Int), .slice pa P.length pc]) ∧ P.length = x.s.l.length ∧ 1 ≤ W ∧ W ≤ 12 ∧ (∀ q, q < x.s.l.length → POk x.s.l W q (pt P q)) ∧ k' ≤ k + 1 + 3 * x.s.l.length ∧ Held w D a n c k' [⟨3, 1, .slice pa P.length pc, P.length, nums P⟩] [] w' := by
  obtain ⟨⟨sa, sc, L⟩, ⟨va, vc, vl⟩⟩ := x
  obtain ⟨b, off, ha, -⟩ := hs.cells (show 0 < L.length from hok.l1)
  dsimp only at ha hok ⊢
  subst ha
  have HC : Hid (∀ V, Keep (fun b => b ≠ D) w V → ∀ i, i < L.length → V.cell? ⟨b, off + i * 4, none⟩ = some (.int .i64 ((at' L i).o : Int)) ∧ V.cell? ⟨b, off + i * 4 + 1, none⟩ = some (.int .i64 ((at' L i).n : Int)) ∧ V.cell? ⟨b, off + i * 4 + 2, none⟩ = some (.int .i64 ((at' L i).s : Int)) ∧ V.cell? ⟨b, off + i * 4 + 3, none⟩ = some (.int .i64 (at' L i).w)) := by
    intro V hV i hi
    obtain ⟨b', off', ha, h⟩ := (hs.keep hV hin).cells hi
    cases ha
    exact h
  have HLn : Hid (1 ≤ L.length ∧ L.length ≤ 16 ∧ k ≤ 2000) := ⟨hok.l1, hok.l2, hk⟩
  have HOb : Hid (∀ i, i < L.length → (at' L i).o ≤ 1) := fun i hi => hok.ob _ (at_mem hi)
  have HD0 := Lib.hid (Held.start hd)
  clear hd hs hin hok hk
  have H1 : Hid (Held w D a n c k [⟨3, 1, .slice none 0 0, 0, nums []⟩] [(w.heap.size + 1, .cells #[.int .i64 0, .slice none 0 0] 31)] ((w.alloc (.cells #[.slice (some ⟨b, off, none⟩) L.length sc, .slice va vl.length vc] 26)).alloc (.cells #[.int .i64 0, .slice none 0 0] 31))) := by
    have h := ((HD0.out.nilRow 3 1).ext ((Ext.refl _).alloc (.cells #[.slice (some ⟨b, off, none⟩) L.length sc, .slice va vl.length vc] 26))).new (.cells #[.int .i64 0, .slice none 0 0] 31)
    simp only [World.size_alloc] at h
    exact h
  have hlx : (w.alloc (.cells #[.slice (some ⟨b, off, none⟩) L.length sc, .slice va vl.length vc] 26)).heap[w.heap.size]? = some (.cells #[.slice (some ⟨b, off, none⟩) L.length sc, .slice va vl.length vc] 26 (0, 0)) := alloc_new rfl
  have HLb : Hid (((w.alloc (.cells #[.slice (some ⟨b, off, none⟩) L.length sc, .slice va vl.length vc] 26)).alloc (.cells #[.int .i64 0, .slice none 0 0] 31)).heap[w.heap.size]? = some (.cells #[.slice (some ⟨b, off, none⟩) L.length sc, .slice va vl.length vc] 26 (0, 0))) := ((Ext.refl _).alloc _).block hlx
  have HDl : Hid (D < w.heap.size) := HD0.out.dlt
  clear HD0 hlx
  go_enter Try.func16, Try.ntmps16
  go_wp2_with fail
  generalize (w.alloc (.cells #[.slice (some ⟨b, off, none⟩) L.length sc, .slice va vl.length vc] 26)).alloc (.cells #[.int .i64 0, .slice none 0 0] 31) = w1 at *
  generalize w.heap.size + 1 = R at *
  refine (dbetween_any D a n c k 1 12 _ H1.out.deck (by have := HLn.out; omega) (by omega) (by omega) (by omega)).mono ?_
  rintro e w2 ⟨WI, k1, hw1, hw2, hk1, rfl, hD1, hg1⟩
  obtain ⟨W, rfl⟩ : ∃ W : Nat, WI = (W : Int) := ⟨WI.toNat, by omega⟩
  have H2 := Lib.hid (H1.out.dealt hD1 hg1)
  have HW : Hid (1 ≤ W ∧ W ≤ 12 ∧ k1 ≤ k + 1) := by show _ ∧ _ ∧ _; omega
  have cL : w2.heap[w.heap.size]? = some (.cells #[.slice (some ⟨b, off, none⟩) L.length sc, .slice va vl.length vc] 26 (0, 0)) := blk_grown hg1 HLb.out (fun e => by have := HDl.out; cases e; omega)
  clear hD1 hg1 hw1 hw2 hk1 H1 HLb
  obtain ⟨p, hp⟩ : ∃ p, w2.heap.size = p := ⟨_, rfl⟩
  have H3 : Hid (Held w D a n c k1 [⟨3, 1, .slice none 0 0, 0, nums []⟩] [(R, .cells #[.int .i64 0, .slice none 0 0] 31), (p, .cells #[.int .i64 (W : Int), .slice none 0 0] 31)] (w2.alloc (.cells #[.int .i64 (W : Int), .slice none 0 0] 31))) := by
    have h := H2.out.new (.cells #[.int .i64 (W : Int), .slice none 0 0] 31)
    rw [hp] at h
    exact h
  have c0 : (w2.alloc (.cells #[.int .i64 (W : Int), .slice none 0 0] 31)).cell? ⟨w.heap.size, 0, none⟩ = some (.slice (some ⟨b, off, none⟩) L.length sc) := cell_at (((Ext.refl _).alloc _).block cL) 0
  clear cL H2
  go_wp2_with fail
  try rw [hp]
  clear hp c0
  generalize w2.alloc (.cells #[.int .i64 (W : Int), .slice none 0 0] 31) = w3 at *
  refine wp_loop (InvT w D a n c k1 R p b off sc W L) (fun a _ => L.length - (intOf (a.tmps.getD 15 undef)).toNat) (InvT.of 0 k1 0 none [] rfl (Nat.zero_le _) (by omega) ⟨rfl, fun q hq => by omega⟩ H3) ?_
  clear H3
  rintro ac wr ⟨X, i, k', pc, pa, P, rfl, hi, hk', HP, HH⟩
  have HKa : Hid (k' ≤ k1 + 3 * i ∧ i ≤ L.length) := ⟨hk', hi⟩
  clear hk' hi
  conv => arg 4; dsimp only [frT]
  by_cases hlt : i < L.length
  · have di : decide ((i : Int) < (L.length : Int)) = true := decide_eq_true (by omega)
    have hwi : IntKind.i64.wrap ((i : Int) + 1) = ((i + 1 : Nat) : Int) := by have := HLn.out; rw [IntWalk.i64_in _ (by omega)]; omega
    have hwW : IntKind.i64.wrap ((W : Int) + 1) = ((W + 1 : Nat) : Int) := by have := HW.out; rw [IntWalk.i64_in _ (by omega)]; omega
    have i1 : (0 : Int) ≤ (i : Int) := by omega
    have i2 : (i : Int) < (L.length : Int) := by omega
    obtain ⟨c0, c1, c2, c3⟩ := HC.out wr HH.out.keep i hlt
    have HOi := Lib.hid (HOb.out i hlt)
    have HFr := Lib.hid (show (at' L i).free = decide ((at' L i).w = -1) from rfl)
    have HNw := Lib.hid (show nowF (at' L i) = (if (at' L i).o = 0 then 1 else 0) from rfl)
    have HKq : Hid (k' ≤ 2060 ∧ i ≤ 16) := by have := HKa.out; have := HLn.out; have := HW.out; show _ ∧ _; omega
    generalize (at' L i).o = oo at *
    generalize (at' L i).n = nn at *
    generalize (at' L i).s = ss at *
    generalize (at' L i).w = ww at *
    obtain ⟨SB, hSB⟩ : ∃ SB, wr.heap.size = SB := ⟨_, rfl⟩
    have H4 : Hid (Held w D a n c k' [⟨3, 1, .slice pa i pc, i, nums P⟩] [(R, .cells #[.int .i64 0, .slice none 0 0] 31), (p, .cells #[.int .i64 (W : Int), .slice pa i pc] 31), (SB, .cells #[.int .i64 (oo : Int), .int .i64 (nn : Int), .int .i64 (ss : Int), .int .i64 ww] 41)] (wr.alloc (.cells #[.int .i64 (oo : Int), .int .i64 (nn : Int), .int .i64 (ss : Int), .int .i64 ww] 41))) := by
      have h := HH.out.new (.cells #[.int .i64 (oo : Int), .int .i64 (nn : Int), .int .i64 (ss : Int), .int .i64 ww] 41)
      rw [hSB] at h
      exact h
    have w0 := H4.out.cell 1 (j := 0) rfl rfl
    clear HH HC HOb
    go_wp2_with fail
    try rw [hSB]
    clear hSB c0 c1 c2 c3 w0
    generalize wr.alloc (.cells #[.int .i64 (oo : Int), .int .i64 (nn : Int), .int .i64 (ss : Int), .int .i64 ww] 41) = w4 at *
    refine (draw_any D a n c k' (W + 1) _ H4.out.deck (by have := HKq.out; omega) (by have := HW.out; omega)).mono ?_
    rintro e w5 ⟨d1, k5, hd1, hk5, rfl, hD5, hg5⟩
    have H5 := Lib.hid (H4.out.dealt hD5 hg5)
    have HD1 : Hid (d1 ≤ W ∧ k5 ≤ k' + 1) := by show _ ∧ _; omega
    clear hd1 hk5 hD5 hg5 H4 i1 i2 hwW
    go_wp2_with fail
    refine (coin_any D a n c k5 2 _ H5.out.deck (by have := HKq.out; have := HD1.out; omega) (by omega)).mono ?_
    rintro e w6 ⟨cb, k6, hk6, rfl, hD6, hg6⟩
    have H6 := Lib.hid (H5.out.dealt hD6 hg6)
    have HK6 : Hid (k6 ≤ k' + 2) := by have := HD1.out; show _ ≤ _; omega
    clear hk6 hD6 hg6 H5
    cases cb with
    | true =>
      go_upto_region 7 with (fail)
      have HMul : Hid (∀ d : Nat, d < 2 ∨ d = 0 → W * d ≤ W ∧ IntKind.i64.wrap ((W : Int) * (d : Int)) = ((W * d : Nat) : Int)) := by
        intro d hd
        have h1 : W * d ≤ W := by have := Nat.mul_le_mul_left W (show d ≤ 1 by omega); omega
        refine ⟨h1, ?_⟩
        rw [← Int.natCast_mul]
        exact IntWalk.i64_in _ (by have := HW.out; omega)
      go_region_held3 (fun v => v.cell? ⟨p, 0, none⟩ = some (.int .i64 (W : Int)))
        (first | exact ((H6.out.ext (Ext.refl _).drew).cell 1 (j := 0) rfl rfl) | exact ((H6.out.dealt hD7 hg7).cell 1 (j := 0) rfl rfl) | exact (((H6.out.ext (Ext.refl _).drew).dealt hD7 hg7).cell 1 (j := 0) rfl rfl))
        ((go_at_call 22; refine (draw_any D a n c k6 2 _ (H6.out.ext (Ext.refl _).drew).deck (by have := HKq.out; have := HK6.out; omega) (by omega)).mono ?_; rintro e w7 ⟨d2, k7, hd2, hk7, rfl, hD7, hg7⟩))
      have H7 := Lib.hid ((H6.out.ext (Ext.refl _).drew).dealt hD7 hg7)
      have HK7 : Hid (k7 ≤ k' + 3) := by have := HK6.out; show _ ≤ _; omega
      obtain ⟨hm1, hm2⟩ := HMul.out d2 hd2
      rw [hm2]
      obtain ⟨z7, hz7⟩ : ∃ z7, W * d2 = z7 := ⟨_, rfl⟩
      rw [hz7]
      have HZ7 : Hid (z7 ≤ W) := by rw [← hz7]; exact hm1
      clear hm1 hm2 hz7 hd2 hk7 hD7 hg7 H6 HMul
      go_upto_region 8 with (fail)
      have s3 := H7.out.cell 2 (j := 3) rfl rfl
      by_cases hww : ww = -1
      · subst hww
        have HZ : Hid (z7 ≤ W) := HZ7
        have HFt : Hid ((at' L i).free = true) := by rw [HFr.out]; rfl
        go_upto_region 10 with (fail)
        clear s3
        obtain ⟨i3, hi3, hz3, hs3, hb3⟩ := info_parts info3
        have H11 := Lib.hid (H7.out.new (.cells #[.int .i64 (z7 : Int)] 3))
        have l1 := H7.out.cell 1 (j := 1) rfl rfl
        clear H7
        go_wp2_with (at_builtin; go_must (refine wpList_append_lies _ rfl _ _ 24 rfl w.heap.size 3 i3 (.int .i64 0) 1 8 Try.underlying24 hi3 hz3 hs3 hb3 rfl (by decide) _ i (nums P) rfl (H11.out.row 0 _ rfl) ⟨_, 0, none⟩ 1 1 (nums [z7]) rfl rfl (World.news_of_block (H11.out.heap 3 rfl)) (nums_one _) (by decide) (by have := HKq.out; unfold maxLen; omega) (by have := HKq.out; omega) H11.out.keep.size _ rfl ?_); intro g cap wm hown hgrow hat hlt5; rw [← nums_append] at hown; have H12 := Lib.hid (H11.out.grown (i := 0) rfl hown hgrow hat); clear hown hgrow hat hlt5 H11 l1; have y0 := H12.out.cell 1 (j := 1) rfl rfl; have f0 := H12.out.frozen 1 (j := 1) rfl)
        have H13 := (H12.out.cellPut (j := 1) 1 rfl (.slice (some ⟨g, 0, none⟩) (i + 1) cap)).drop (blks := [(R, .cells #[.int .i64 0, .slice none 0 0] 31), (p, .cells #[.int .i64 (W : Int), .slice (some ⟨g, 0, none⟩) (i + 1) cap] 31)]) [_, _]
        refine ⟨InvT.of (i + 1) k7 cap (some ⟨g, 0, none⟩) (P ++ [z7]) ?_ (by omega) (by have := HK7.out; have := HKa.out; omega) (parts_more HP.out ?_) (Lib.hid H13), ?_⟩
        · simp [frT]
        · exact ⟨HZ.out, fun e => by rw [HFt.out] at e; cases e⟩
        · simp [intOf, frT]; omega
      · have dw : decide (ww = -1) = false := decide_eq_false hww
        have s0 := H7.out.cell 2 (j := 0) rfl rfl
        have w0 := H7.out.cell 1 (j := 0) rfl rfl
        obtain ⟨q1, hq1⟩ : ∃ q1 : Nat, (1 : Int) - (oo : Int) = (q1 : Int) := ⟨1 - oo, by have := HOi.out; omega⟩
        have hq2 : q1 = nowF (at' L i) ∧ q1 ≤ 1 := by rw [HNw.out]; have := HOi.out; refine ⟨?_, by omega⟩; split <;> omega
        have hqm : W * q1 ≤ W := by have := Nat.mul_le_mul_left W hq2.2; omega
        obtain ⟨z2, hz2⟩ : ∃ z2, W * q1 = z2 := ⟨_, rfl⟩
        have ho1 : IntKind.i64.wrap ((1 : Int) - (oo : Int)) = (q1 : Int) := by rw [hq1, IntWalk.i64_in _ (by omega)]
        have ho2 : IntKind.i64.wrap ((W : Int) * (q1 : Int)) = (z2 : Int) := by rw [← Int.natCast_mul, hz2]; exact IntWalk.i64_in _ (by have := HW.out; omega)
        have HZ2 : Hid (z2 ≤ W ∧ z2 = W * nowF (at' L i)) := ⟨by omega, by rw [← hz2, hq2.1]⟩
        clear hq1 hq2 hqm hz2
        go_upto_region 10 with (fail)
        clear s3 s0 w0 ho1 ho2
        obtain ⟨i3, hi3, hz3, hs3, hb3⟩ := info_parts info3
        have H11 := Lib.hid (H7.out.new (.cells #[.int .i64 (z2 : Int)] 3))
        have l1 := H7.out.cell 1 (j := 1) rfl rfl
        clear H7
        go_wp2_with (at_builtin; go_must (refine wpList_append_lies _ rfl _ _ 24 rfl w.heap.size 3 i3 (.int .i64 0) 1 8 Try.underlying24 hi3 hz3 hs3 hb3 rfl (by decide) _ i (nums P) rfl (H11.out.row 0 _ rfl) ⟨_, 0, none⟩ 1 1 (nums [z2]) rfl rfl (World.news_of_block (H11.out.heap 3 rfl)) (nums_one _) (by decide) (by have := HKq.out; unfold maxLen; omega) (by have := HKq.out; omega) H11.out.keep.size _ rfl ?_); intro g cap wm hown hgrow hat hlt5; rw [← nums_append] at hown; have H12 := Lib.hid (H11.out.grown (i := 0) rfl hown hgrow hat); clear hown hgrow hat hlt5 H11 l1; have y0 := H12.out.cell 1 (j := 1) rfl rfl; have f0 := H12.out.frozen 1 (j := 1) rfl)
        have H13 := (H12.out.cellPut (j := 1) 1 rfl (.slice (some ⟨g, 0, none⟩) (i + 1) cap)).drop (blks := [(R, .cells #[.int .i64 0, .slice none 0 0] 31), (p, .cells #[.int .i64 (W : Int), .slice (some ⟨g, 0, none⟩) (i + 1) cap] 31)]) [_, _]
        refine ⟨InvT.of (i + 1) k7 cap (some ⟨g, 0, none⟩) (P ++ [z2]) ?_ (by omega) (by have := HK7.out; have := HKa.out; omega) (parts_more HP.out ?_) (Lib.hid H13), ?_⟩
        · simp [frT]
        · exact ⟨HZ2.out.1, fun _ => HZ2.out.2⟩
        · simp [intOf, frT]; omega
    | false =>
      go_upto_region 8 with (fail)
      have s3 := H6.out.cell 2 (j := 3) rfl rfl
      by_cases hww : ww = -1
      · subst hww
        have HZ : Hid (d1 ≤ W) := HD1.out.1
        have HFt : Hid ((at' L i).free = true) := by rw [HFr.out]; rfl
        go_upto_region 10 with (fail)
        clear s3
        obtain ⟨i3, hi3, hz3, hs3, hb3⟩ := info_parts info3
        have H11 := Lib.hid (H6.out.new (.cells #[.int .i64 (d1 : Int)] 3))
        have l1 := H6.out.cell 1 (j := 1) rfl rfl
        clear H6
        go_wp2_with (at_builtin; go_must (refine wpList_append_lies _ rfl _ _ 24 rfl w.heap.size 3 i3 (.int .i64 0) 1 8 Try.underlying24 hi3 hz3 hs3 hb3 rfl (by decide) _ i (nums P) rfl (H11.out.row 0 _ rfl) ⟨_, 0, none⟩ 1 1 (nums [d1]) rfl rfl (World.news_of_block (H11.out.heap 3 rfl)) (nums_one _) (by decide) (by have := HKq.out; unfold maxLen; omega) (by have := HKq.out; omega) H11.out.keep.size _ rfl ?_); intro g cap wm hown hgrow hat hlt5; rw [← nums_append] at hown; have H12 := Lib.hid (H11.out.grown (i := 0) rfl hown hgrow hat); clear hown hgrow hat hlt5 H11 l1; have y0 := H12.out.cell 1 (j := 1) rfl rfl; have f0 := H12.out.frozen 1 (j := 1) rfl)
        have H13 := (H12.out.cellPut (j := 1) 1 rfl (.slice (some ⟨g, 0, none⟩) (i + 1) cap)).drop (blks := [(R, .cells #[.int .i64 0, .slice none 0 0] 31), (p, .cells #[.int .i64 (W : Int), .slice (some ⟨g, 0, none⟩) (i + 1) cap] 31)]) [_, _]
        refine ⟨InvT.of (i + 1) k6 cap (some ⟨g, 0, none⟩) (P ++ [d1]) ?_ (by omega) (by have := HK6.out; have := HKa.out; omega) (parts_more HP.out ?_) (Lib.hid H13), ?_⟩
        · simp [frT]
        · exact ⟨HZ.out, fun e => by rw [HFt.out] at e; cases e⟩
        · simp [intOf, frT]; omega
      · have dw : decide (ww = -1) = false := decide_eq_false hww
        have s0 := H6.out.cell 2 (j := 0) rfl rfl
        have w0 := H6.out.cell 1 (j := 0) rfl rfl
        obtain ⟨q1, hq1⟩ : ∃ q1 : Nat, (1 : Int) - (oo : Int) = (q1 : Int) := ⟨1 - oo, by have := HOi.out; omega⟩
        have hq2 : q1 = nowF (at' L i) ∧ q1 ≤ 1 := by rw [HNw.out]; have := HOi.out; refine ⟨?_, by omega⟩; split <;> omega
        have hqm : W * q1 ≤ W := by have := Nat.mul_le_mul_left W hq2.2; omega
        obtain ⟨z2, hz2⟩ : ∃ z2, W * q1 = z2 := ⟨_, rfl⟩
        have ho1 : IntKind.i64.wrap ((1 : Int) - (oo : Int)) = (q1 : Int) := by rw [hq1, IntWalk.i64_in _ (by omega)]
        have ho2 : IntKind.i64.wrap ((W : Int) * (q1 : Int)) = (z2 : Int) := by rw [← Int.natCast_mul, hz2]; exact IntWalk.i64_in _ (by have := HW.out; omega)
        have HZ2 : Hid (z2 ≤ W ∧ z2 = W * nowF (at' L i)) := ⟨by omega, by rw [← hz2, hq2.1]⟩
        clear hq1 hq2 hqm hz2
        go_upto_region 10 with (fail)
        clear s3 s0 w0 ho1 ho2
        obtain ⟨i3, hi3, hz3, hs3, hb3⟩ := info_parts info3
        have H11 := Lib.hid (H6.out.new (.cells #[.int .i64 (z2 : Int)] 3))
        have l1 := H6.out.cell 1 (j := 1) rfl rfl
        clear H6
        go_wp2_with (at_builtin; go_must (refine wpList_append_lies _ rfl _ _ 24 rfl w.heap.size 3 i3 (.int .i64 0) 1 8 Try.underlying24 hi3 hz3 hs3 hb3 rfl (by decide) _ i (nums P) rfl (H11.out.row 0 _ rfl) ⟨_, 0, none⟩ 1 1 (nums [z2]) rfl rfl (World.news_of_block (H11.out.heap 3 rfl)) (nums_one _) (by decide) (by have := HKq.out; unfold maxLen; omega) (by have := HKq.out; omega) H11.out.keep.size _ rfl ?_); intro g cap wm hown hgrow hat hlt5; rw [← nums_append] at hown; have H12 := Lib.hid (H11.out.grown (i := 0) rfl hown hgrow hat); clear hown hgrow hat hlt5 H11 l1; have y0 := H12.out.cell 1 (j := 1) rfl rfl; have f0 := H12.out.frozen 1 (j := 1) rfl)
        have H13 := (H12.out.cellPut (j := 1) 1 rfl (.slice (some ⟨g, 0, none⟩) (i + 1) cap)).drop (blks := [(R, .cells #[.int .i64 0, .slice none 0 0] 31), (p, .cells #[.int .i64 (W : Int), .slice (some ⟨g, 0, none⟩) (i + 1) cap] 31)]) [_, _]
        refine ⟨InvT.of (i + 1) k6 cap (some ⟨g, 0, none⟩) (P ++ [z2]) ?_ (by omega) (by have := HK6.out; have := HKa.out; omega) (parts_more HP.out ?_) (Lib.hid H13), ?_⟩
        · simp [frT]
        · exact ⟨HZ2.out.1, fun _ => HZ2.out.2⟩
        · simp [intOf, frT]; omega
  · have di : decide ((i : Int) < (L.length : Int)) = false := decide_eq_false (by omega)
    obtain rfl : i = L.length := by have := HKa.out; omega
    have p0 := HH.out.cell 1 (j := 0) rfl rfl
    have p1 := HH.out.cell 1 (j := 1) rfl rfl
    have r0 := HH.out.cell 0 (j := 0) rfl rfl
    have r1 := HH.out.cell 0 (j := 1) rfl rfl
    have z0 := HH.out.frozen 0 (j := 0) rfl
    have z1 := HH.out.frozen 0 (j := 1) rfl
    have n1 : p ≠ R := HH.out.dis 1 0 _ _ (by decide) rfl rfl
    have HF : Hid (Held w D a n c k' [⟨3, 1, .slice pa L.length pc, L.length, nums P⟩] [(R, .cells #[.int .i64 (W : Int), .slice pa L.length pc] 31), (p, .cells #[.int .i64 (W : Int), .slice pa L.length pc] 31)] ((wr.setCell ⟨R, 0, none⟩ (.int .i64 (W : Int))).setCell ⟨R, 1, none⟩ (.slice pa L.length pc))) := (HH.out.cellPut (j := 0) 0 rfl (.int .i64 (W : Int))).cellPut (j := 1) 0 rfl (.slice pa L.length pc)
    go_wp2_with fail
    clear p0 p1 r0 r1 z0 z1 HH
    generalize ((wr.setCell ⟨R, 0, none⟩ (.int .i64 (W : Int))).setCell ⟨R, 1, none⟩ (.slice pa L.length pc)) = WF at *
    have m0 := HF.out.cell 0 (j := 0) rfl rfl
    have m1 := HF.out.cell 0 (j := 1) rfl rfl
    have HPl := Lib.hid HP.out.1
    simp only [bodyPost]
    refine ⟨trivial, _, ?_, pa, pc, W, k', P, rfl, HPl.out, HW.out.1, HW.out.2.1, HP.out.2, ?_, ?_⟩
    · simp [results, Try.f16, go_sem, m0, m1, HPl.out]
    · have := HKa.out; have := HW.out; omega
    · rw [HPl.out]; exact HF.out.drop (blks := []) _
end Go.Proofs.Ytlaolokakaheaaa
