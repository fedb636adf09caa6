/-
  Made, of the statements on pillars, makes a profile that is right, with a truth of it, of a deck: in new memory; the deck alone is turned.
-/
import Derived.Test.YtfognlealnhodaaMB
import Derived.Test.YtfognlealnhodaaD
namespace Go.Proofs.Ytfognlealnhodaa
open Go.RowKit

/-- What stands beside the lists while a profile is made. -/
structure MS (w : World) (D : Nat) (a : Option Addr) (n c R p : Nat) (bc : Array Value) (k : Nat) (wr : World) : Prop where
  deck : IsDeck wr D a n c k
  keep : Keep (fun b => b ≠ D) w wr
  res : wr.heap[R]? = some (.cells #[.slice none 0 0, .slice none 0 0, .int .i64 0, .int .i64 0, .int .i64 0] 30 (0, 0))
  box : wr.heap[p]? = some (.cells bc 30 (0, 0))
section
variable {w : World} {D : Nat} {a : Option Addr} {n c R p : Nat} {bc : Array Value} {k : Nat} {wr : World}
theorem MS.ext (h : MS w D a n c R p bc k wr) {w' : World} (x : Ext wr w') : MS w D a n c R p bc k w' := ⟨h.deck.ext x, h.keep.ext x, x.block h.res, x.block h.box⟩
theorem MS.dealt (h : MS w D a n c R p bc k wr) (hR : D ≠ R) (hp : D ≠ p) {w' : World} {k' : Nat} (hd : IsDeck w' D a n c k') (g : wr.grownBy w' (some D)) : MS w D a n c R p bc k' w' :=
  ⟨hd, h.keep.grown g (fun _ e _ hn => by cases e; exact hn rfl), blk_grown g h.res (fun e => hR (by cases e; rfl)), blk_grown g h.box (fun e => hp (by cases e; rfl))⟩
end
theorem Keep.transD {D D' : Nat → Prop} {a b c : World} (h : Keep D a b) (k : Keep D' b c) (hd : ∀ i, i < a.heap.size → D i → D' i) : Keep D a c :=
  ⟨k.os.trans h.os, k.tape.trans h.tape, k.output.trans h.output, Nat.le_trans h.size k.size, fun i hi h' => (k.block i (Nat.lt_of_lt_of_le hi h.size) (hd i hi h')).trans (h.block i hi h')⟩
theorem IsDeck.keepD {w w' : World} {D : Nat} {a : Option Addr} {n c k : Nat} {E : Nat → Prop} (h : IsDeck w D a n c k) (g : Keep E w w') (hD : E D) (hb : ∀ b off, a = some ⟨b, off, none⟩ → 0 < n → E b) : IsDeck w' D a n c k := by
  obtain ⟨s, hs, hh, ⟨h1, h2, h3⟩, hne⟩ := h
  refine ⟨s, hs, g.heap hh hD, ⟨h1, h2, ?_⟩, hne⟩
  rcases h3 with h3 | ⟨b, off, ha, hc⟩
  · exact .inl h3
  · by_cases h0 : n = 0
    · exact .inl h0
    · exact .inr ⟨b, off, ha, fun i hi => by obtain ⟨v, hv, hx⟩ := hc i hi; exact ⟨v, hv, g.cell hx (hb b off ha (by omega))⟩⟩
/-- The lists while a profile is made. -/
structure ML (i at' : Nat) (A : List Nat) (G : List (Nat × Nat)) (T : List Nat) : Prop where
  la : A.length = i
  lg : G.length = i
  lt : T.length = i
  inc : A.Pairwise (· < ·)
  below : ∀ x ∈ A, x < at'
  atb : at' ≤ 50 + 400 * i
  gb : ∀ s ∈ G, s.1 ≤ s.2 ∧ s.2 ≤ 100
  tr : truthTo T G i = true
theorem ML.more {i at' : Nat} {A : List Nat} {G : List (Nat × Nat)} {T : List Nat} (h : ML i at' A G T) {s : Nat × Nat} {x r : Nat} (hs : s.1 ≤ s.2 ∧ s.2 ≤ 100) (hx : inB x s = true) (hr : 1 ≤ r ∧ r ≤ 400) : ML (i + 1) (at' + r) (A ++ [at']) (G ++ [s]) (T ++ [x]) := by
  refine ⟨by simp [h.la], by simp [h.lg], by simp [h.lt], ?_, fun y hy => ?_, by have := h.atb; omega, fun y hy => ?_, ?_⟩
  · rw [List.pairwise_append]
    exact ⟨h.inc, by simp, fun y hy z hz => by simp at hz; rw [hz]; exact h.below y hy⟩
  · rcases List.mem_append.1 hy with hy | hy
    · have := h.below y hy; omega
    · simp at hy; omega
  · rcases List.mem_append.1 hy with hy | hy
    · exact h.gb y hy
    · simp at hy; rw [hy]; exact hs
  · refine truthTo_snoc h.lt ?_ (sp := s) ?_ hx
    · rw [truthTo_true]
      intro k hk
      have := truthTo_true.1 h.tr k hk
      rw [List.getElem?_append_left (by rw [h.lg]; exact hk)]
      exact this
    · rw [List.getElem?_append_right (by rw [h.lg]; exact Nat.le_refl _), h.lg, Nat.sub_self]; rfl
theorem own_keepB {w w' : World} {base : Nat} {e : TypeId} {size : Nat} {u : Value} {n : Nat} {xs : List Value} {D : Nat → Prop} (h : w.ownsRow base e size u n xs) (g : Keep D w w') (hr : ∀ k, u.ownBlock = some k → D k) : w'.ownsRow base e size u n xs := by
  obtain ⟨h1, h2⟩ := h
  refine ⟨h1, ?_⟩
  rcases h2 with h2 | ⟨b, cap, cur, rfl, hb, hh, r⟩
  · exact .inl h2
  · exact .inr ⟨b, cap, cur, rfl, hb, g.heap hh (hr b rfl), r⟩
/-- The three lists in memory of their own. -/
def RS3 (p : Nat) (A T : SL Nat) (G : SL (Nat × Nat)) (wr : World) : Prop := wr.ownsRow (p + 1) 3 1 A.v A.l.length (nums A.l) ∧ wr.ownsRow (p + 1) 28 2 G.v G.l.length (flat 2 spC G.l) ∧ wr.ownsRow (p + 1) 3 1 T.v T.l.length (nums T.l)
theorem RS3.ext {p : Nat} {A T : SL Nat} {G : SL (Nat × Nat)} {w w' : World} (h : RS3 p A T G w) (k : Ext w w') : RS3 p A T G w' := ⟨own_ext h.1 k, own_ext h.2.1 k, own_ext h.2.2 k⟩
theorem RS3.dealt {p D : Nat} {A T : SL Nat} {G : SL (Nat × Nat)} {w w' : World} (h : RS3 p A T G w) (g : w.grownBy w' (some D)) (hD : D < p) : RS3 p A T G w' :=
  ⟨own_grown h.1 g (fun k e e2 => by cases e2; have := (own_type h.1 e).1; omega), own_grown h.2.1 g (fun k e e2 => by cases e2; have := (own_type h.2.1 e).1; omega), own_grown h.2.2 g (fun k e e2 => by cases e2; have := (own_type h.2.2 e).1; omega)⟩
/-- The slots at the loop. -/
def fr11 (D most R p at' cnt i : Nat) (T : SL Nat) (X : Nat → Value) : Array Value := #[.pointer (some ⟨D, 0, none⟩), .int .i64 (most : Int), X 2, X 3, .pointer (some ⟨R, 0, none⟩), .slice none 0 0, .pointer (some ⟨p, 0, none⟩), X 7, .int .i64 (at' : Int), .slice T.a T.l.length T.c, X 10, X 11, X 12, X 13, X 14, X 15, X 16, X 17, X 18, X 19, X 20, X 21, X 22, X 23, X 24, X 25, X 26, X 27, .int .i64 (cnt : Int), .int .i64 (i : Int), X 30, X 31, X 32, X 33, X 34, X 35, X 36, X 37, X 38, X 39, X 40, X 41, X 42, X 43, X 44, X 45, X 46, X 47, X 48, X 49, X 50, X 51, X 52, X 53, X 54, X 55, X 56, X 57, X 58, X 59, X 60, X 61, X 62, X 63, X 64, X 65, X 66, X 67, X 68, X 69, X 70]
def Inv11 (w : World) (D : Nat) (a : Option Addr) (n c R p most cnt T0 B0 B1 k : Nat) (ac : Act) (wr : World) : Prop :=
  ∃ (X : Nat → Value) (i at' k' : Nat) (A T : SL Nat) (G : SL (Nat × Nat)), ac = { tmps := fr11 D most R p at' cnt i T X, defers := [] } ∧ i ≤ cnt ∧ k' ≤ k + 5 * i ∧ Hid (MS w D a n c R p #[.slice A.a A.l.length A.c, .slice G.a G.l.length G.c, .int .i64 (T0 : Int), .int .i64 (B0 : Int), .int .i64 (B1 : Int)] k' wr) ∧
    Hid (ML i at' A.l G.l T.l) ∧ Hid (RS3 p A T G wr) ∧ Hid (∀ j, A.v.ownBlock = some j → T.v.ownBlock ≠ some j)
theorem Inv11.of {w : World} {D : Nat} {a : Option Addr} {n c R p most cnt T0 B0 B1 k : Nat} {t : Array Value} {wr : World} (i at' k' : Nat) (A T : SL Nat) (G : SL (Nat × Nat)) (ht : t = fr11 D most R p at' cnt i T (fun j => t.getD j undef)) (hi : i ≤ cnt) (hk : k' ≤ k + 5 * i)
    (h1 : Hid (MS w D a n c R p #[.slice A.a A.l.length A.c, .slice G.a G.l.length G.c, .int .i64 (T0 : Int), .int .i64 (B0 : Int), .int .i64 (B1 : Int)] k' wr)) (h2 : Hid (ML i at' A.l G.l T.l)) (h3 : Hid (RS3 p A T G wr)) (h4 : Hid (∀ j, A.v.ownBlock = some j → T.v.ownBlock ≠ some j)) :
    Inv11 w D a n c R p most cnt T0 B0 B1 k { tmps := t, defers := [] } wr := ⟨_, i, at', k', A, T, G, by rw [← ht], hi, hk, h1, h2, h3, h4⟩

set_option maxRecDepth 1000000 in
set_option maxHeartbeats 16000000 in
theorem made_anyB (D : Nat) (a : Option Addr) (n c k most : Nat) (w : World) (hd : IsDeck w D a n c k) (hk : k ≤ 1000) (hm : 2 ≤ most) (hm2 : most ≤ 40) :
    Calls Try.prog 11 #[.pointer (some ⟨D, 0, none⟩), .int .i64 (most : Int)] w fun e w' => ∃ (v : PV) (T : SL Nat) (k' : Nat), e = .returned (.tuple #[v.v, .slice T.a T.l.length T.c]) ∧ OkP v.p ∧ ((∀ x ∈ v.at'.l, x ≤ 50 + 400 * most) ∧ v.T ≤ 30 ∧ v.hi ≤ 400) ∧ v.at'.l.length ≤ most ∧ v.gr.l.length = v.at'.l.length ∧ v.hi ≤ 1000 ∧ (∀ s ∈ v.gr.l, s.1 ≤ s.2 ∧ s.2 ≤ 100) ∧ T.l.length = v.at'.l.length ∧ truthTo T.l v.gr.l v.at'.l.length = true ∧
      w'.ownsRow w.heap.size 3 1 v.at'.v v.at'.l.length (nums v.at'.l) ∧ w'.ownsRow w.heap.size 28 2 v.gr.v v.gr.l.length (flat 2 spC v.gr.l) ∧ w'.ownsRow w.heap.size 3 1 T.v T.l.length (nums T.l) ∧ IsDeck w' D a n c k' ∧ k' ≤ k + 5 + 5 * most ∧ Keep (fun x => x ≠ D) w w' := by
  have HDl : Hid (D < w.heap.size) := hd.lt
  have HBy := Lib.hid hd.bytes
  have HD0 := Lib.hid (hd.ext ((Ext.refl w).alloc (.cells #[.slice none 0 0, .slice none 0 0, .int .i64 0, .int .i64 0, .int .i64 0] 30)))
  clear hd
  go_enter Try.func11, Try.ntmps11
  go_wp2_with fail
  refine (draw_any D a n c k 30 _ HD0.out (by omega) (by omega)).mono ?_
  rintro e w1 ⟨T0, k1, hT0, hk1, rfl, hd1, hg1⟩
  have hDl := HDl.out
  have hs1 : w.heap.size + 1 ≤ w1.heap.size := by have := hg1.size; rw [World.size_alloc] at this; exact this
  have HMS1 : Hid (MS w D a n c w.heap.size w1.heap.size #[.slice none 0 0, .slice none 0 0, .int .i64 (T0 : Int), .int .i64 0, .int .i64 0] k1 (w1.alloc (.cells #[.slice none 0 0, .slice none 0 0, .int .i64 (T0 : Int), .int .i64 0, .int .i64 0] 30))) :=
    ⟨hd1.ext ((Ext.refl w1).alloc _), ((Keep.of_ext ((Ext.refl w).alloc _)).grown hg1 (fun _ e _ hn => by cases e; exact hn rfl)).alloc _, ((Ext.refl w1).alloc _).block (blk_grown hg1 (World.alloc_heap_new _ _) (fun e => by cases e; omega)), alloc_new rfl⟩
  have HT0 := Lib.hid hT0
  have HK1 := Lib.hid hk1
  clear hd1 hg1 hT0 hk1 HD0
  obtain ⟨p, hp⟩ : ∃ p, w1.heap.size = p := ⟨_, rfl⟩
  rw [hp] at HMS1 hs1
  have HPe := Lib.hid hp
  go_wp2_with fail
  clear hp
  have hDp : D ≠ p := by omega
  have hDR : D ≠ w.heap.size := by omega
  refine (draw_any D a n c k1 200 _ HMS1.out.deck (by have := HK1.out; omega) (by omega)).mono ?_
  rintro e w2 ⟨B0, k2, hB0, hk2, rfl, hd2, hg2⟩
  have HMS2 := Lib.hid (HMS1.out.dealt hDR hDp hd2 hg2)
  have HB0 : Hid (B0 < 200) := by show _ < _; omega
  have HK2 : Hid (k2 ≤ k + 2) := by have := HK1.out; show _ ≤ _; omega
  clear hd2 hg2 hB0 hk2 HMS1
  go_wp2_with fail
  refine (draw_any D a n c k2 200 _ HMS2.out.deck (by have := HK2.out; omega) (by omega)).mono ?_
  rintro e w3 ⟨r3, k3, hr3, hk3, rfl, hd3, hg3⟩
  have HMS3 := Lib.hid (HMS2.out.dealt hDR hDp hd3 hg3)
  obtain ⟨B1, hB1⟩ : ∃ B1, B0 + r3 = B1 := ⟨_, rfl⟩
  have hb0 := HB0.out
  have hwr : IntKind.i64.wrap ((B0 : Int) + (r3 : Int)) = (B1 : Int) := by rw [IntWalk.i64_in _ (by omega)]; omega
  have HB1 : Hid (B0 ≤ B1 ∧ B1 ≤ 400) := by show _ ∧ _; omega
  have HK3 : Hid (k3 ≤ k + 3) := by have := HK2.out; show _ ≤ _; omega
  have HMS4 := Lib.hid (HMS3.out.ext ((Ext.refl w3).alloc (.cells #[.int .i64 (B0 : Int), .int .i64 (B1 : Int)] 28)))
  have q3 : (w3.alloc (.cells #[.int .i64 (B0 : Int), .int .i64 (B1 : Int)] 28)).cell? ⟨p, 3, none⟩ = some (.int .i64 0) := (cell_at HMS4.out.box 3).trans rfl
  have q4 : (w3.alloc (.cells #[.int .i64 (B0 : Int), .int .i64 (B1 : Int)] 28)).cell? ⟨p, 4, none⟩ = some (.int .i64 0) := (cell_at HMS4.out.box 4).trans rfl
  have f3 : (w3.alloc (.cells #[.int .i64 (B0 : Int), .int .i64 (B1 : Int)] 28)).frozen? ⟨p, 3, none⟩ = false := by simp [World.frozen?, HMS4.out.box]
  have f4 : (w3.alloc (.cells #[.int .i64 (B0 : Int), .int .i64 (B1 : Int)] 28)).frozen? ⟨p, 4, none⟩ = false := by simp [World.frozen?, HMS4.out.box]
  have HMS5 : Hid (MS w D a n c w.heap.size p #[.slice none 0 0, .slice none 0 0, .int .i64 (T0 : Int), .int .i64 (B0 : Int), .int .i64 (B1 : Int)] k3 (((w3.alloc (.cells #[.int .i64 (B0 : Int), .int .i64 (B1 : Int)] 28)).setCell ⟨p, 3, none⟩ (.int .i64 (B0 : Int))).setCell ⟨p, 4, none⟩ (.int .i64 (B1 : Int)))) := by
    have hb := heap_setCell_same (i := 4) (heap_setCell_same (i := 3) HMS4.out.box (.int .i64 (B0 : Int))) (.int .i64 (B1 : Int))
    have hkp : Keep (fun b => b ≠ p) (w3.alloc (.cells #[.int .i64 (B0 : Int), .int .i64 (B1 : Int)] 28)) (((w3.alloc (.cells #[.int .i64 (B0 : Int), .int .i64 (B1 : Int)] 28)).setCell ⟨p, 3, none⟩ (.int .i64 (B0 : Int))).setCell ⟨p, 4, none⟩ (.int .i64 (B1 : Int))) := ((Keep.refl _ _).setCell _ _ (fun _ h => h rfl)).setCell _ _ (fun _ h => h rfl)
    exact ⟨HMS4.out.deck.keepD hkp hDp (fun b off ha hn => by have := HBy.out b off ha hn; omega), HMS4.out.keep.transD hkp (fun i hi _ => by omega), hkp.heap HMS4.out.res (show w.heap.size ≠ p by omega), hb⟩
  clear hd3 hg3 hr3 hk3 HMS2 HMS3 hB1 hb0
  go_wp2_with fail
  refine (span_any _ _ _).mono ?_
  rintro e w' ⟨rfl, rfl⟩
  go_wp2_with fail
  clear q3 q4 f3 f4 HMS4 hwr
  generalize ((w3.alloc (.cells #[.int .i64 (B0 : Int), .int .i64 (B1 : Int)] 28)).setCell ⟨p, 3, none⟩ (.int .i64 (B0 : Int))).setCell ⟨p, 4, none⟩ (.int .i64 (B1 : Int)) = W5 at *
  refine (draw_any D a n c k3 50 _ HMS5.out.deck (by have := HK3.out; omega) (by omega)).mono ?_
  rintro e w6 ⟨at', k6, hat, hk6, rfl, hd6, hg6⟩
  have HMS6 := Lib.hid (HMS5.out.dealt hDR hDp hd6 hg6)
  have HK6 : Hid (k6 ≤ k + 4) := by have := HK3.out; show _ ≤ _; omega
  have HAt : Hid (at' ≤ 50) := by show _ ≤ _; omega
  clear hd6 hg6 hat hk6 HMS5
  go_wp2_with fail
  refine (dbetween_any D a n c k6 2 (most : Int) _ HMS6.out.deck (by have := HK6.out; omega) (by omega) (by omega) (by omega)).mono ?_
  rintro e w7 ⟨cnI, k7, hc1, hc2, hk7, rfl, hd7, hg7⟩
  obtain ⟨cnt, rfl⟩ : ∃ cnt : Nat, cnI = (cnt : Int) := ⟨cnI.toNat, by omega⟩
  have HMS7 := Lib.hid (HMS6.out.dealt hDR hDp hd7 hg7)
  have HK7 : Hid (k7 ≤ k + 5) := by have := HK6.out; show _ ≤ _; omega
  have HCn : Hid (2 ≤ cnt ∧ cnt ≤ most) := by show _ ∧ _; omega
  clear hd7 hg7 hk7 HMS6 hc1 hc2
  go_wp2_with fail
  refine wp_loop (Inv11 w D a n c w.heap.size p most cnt T0 B0 B1 k7) (fun a _ => cnt - (intOf (a.tmps.getD 29 undef)).toNat) (Inv11.of 0 at' k7 ⟨none, 0, []⟩ ⟨none, 0, []⟩ ⟨none, 0, []⟩ rfl (Nat.zero_le _) (by omega) HMS7 ⟨rfl, rfl, rfl, List.Pairwise.nil, by simp, by have := HAt.out; omega, by simp, rfl⟩ ⟨World.ownsRow_nil _ _ _ _, World.ownsRow_nil _ _ _ _, World.ownsRow_nil _ _ _ _⟩ (fun j h => by cases h)) ?_
  clear HMS7 HAt HK6 HK3 HK2 HK1
  rintro ac wr ⟨X, i, at', k', A, T, G, rfl, hi, hk', HMS, HML, HO, HAp⟩
  conv => arg 4; dsimp only [fr11]
  by_cases hlt : i < cnt
  · have di : decide ((i : Int) < (cnt : Int)) = true := decide_eq_true (by omega)
    go_wp2_with fail
    refine (draw_any D a n c k' 60 _ HMS.out.deck (by have := HK7.out; have := HCn.out; omega) (by omega)).mono ?_
    rintro e wa ⟨h, ka, hh, hka, rfl, hda, hga⟩
    have HMSa := Lib.hid (HMS.out.dealt hDR hDp hda hga)
    have HOa := Lib.hid (HO.out.dealt hga (by omega))
    have hh60 : h < 60 := by omega
    have HKa : Hid (ka ≤ k7 + 5 * i + 1) := by show _ ≤ _; omega
    clear hda hga hka HMS HO hk' hh
    go_wp2_with fail
    refine (span_any _ _ _).mono ?_
    rintro e w' ⟨rfl, rfl⟩
    have hxb : Ext wa ((wa.alloc (.cells #[.int .i64 (h : Int), .int .i64 (h : Int)] 28)).alloc (.cells #[.int .i64 (h : Int), .int .i64 (h : Int)] 28)) := ((Ext.refl wa).alloc _).alloc _
    have HMSb := Lib.hid (HMSa.out.ext hxb)
    have HOb := Lib.hid (HOa.out.ext hxb)
    have HSBb : Hid (((wa.alloc (.cells #[.int .i64 (h : Int), .int .i64 (h : Int)] 28)).alloc (.cells #[.int .i64 (h : Int), .int .i64 (h : Int)] 28)).heap[wa.heap.size + 1]? = some (.cells #[.int .i64 (h : Int), .int .i64 (h : Int)] 28 (0, 0))) := alloc_new (by simp only [World.size_alloc])
    have hpa : p < wa.heap.size := (Array.getElem?_eq_some_iff.1 HMSa.out.box).1
    obtain ⟨sB, hsB⟩ : ∃ sB, wa.heap.size + 1 = sB := ⟨_, rfl⟩
    rw [hsB] at HSBb
    have hsBp : p + 1 < sB := by omega
    have HNs : Hid ((∀ k, A.v.ownBlock = some k → k ≠ sB) ∧ (∀ k, G.v.ownBlock = some k → k ≠ sB) ∧ (∀ k, T.v.ownBlock = some k → k ≠ sB)) := ⟨fun k e => by have := (own_type HOa.out.1 e).2.1; omega, fun k e => by have := (own_type HOa.out.2.1 e).2.1; omega, fun k e => by have := (own_type HOa.out.2.2 e).2.1; omega⟩
    clear HMSa HOa hxb hpa
    go_wp2_with fail
    clear hsB
    generalize (wa.alloc (.cells #[.int .i64 (h : Int), .int .i64 (h : Int)] 28)).alloc (.cells #[.int .i64 (h : Int), .int .i64 (h : Int)] 28) = wb at *
    refine (coin_any D a n c ka 2 _ HMSb.out.deck (by have := HKa.out; have := HK7.out; have := HCn.out; omega) (by omega)).mono ?_
    rintro e wc ⟨bb, kc, hkc, rfl, hdc, hgc⟩
    have HMSc := Lib.hid (HMSb.out.dealt hDR hDp hdc hgc)
    have HOc := Lib.hid (HOb.out.dealt hgc (by omega))
    have HSBc : Hid (wc.heap[sB]? = some (.cells #[.int .i64 (h : Int), .int .i64 (h : Int)] 28 (0, 0))) := blk_grown hgc HSBb.out (fun e => by cases e; omega)
    have HKc : Hid (kc ≤ k7 + 5 * i + 2) := by have := HKa.out; show _ ≤ _; omega
    clear hdc hgc hkc HMSb HOb HSBb
    cases bb
    · have HMSw := HMSc
      have HOw := HOc
      have HSB := HSBc
      have HKK : Hid (kc ≤ k7 + 5 * i + 4 ∧ kc ≤ 100000) := by have := HKc.out; have := HK7.out; have := HCn.out; show _ ∧ _; omega
      have HLH : Hid (h ≤ h ∧ h ≤ h ∧ h ≤ 100) := by show _ ∧ _ ∧ _; omega
      clear HMSc HOc HSBc
      go_upto_region 12 with (fail)
      have hsz12 : p + 1 ≤ wc.heap.size := (Array.getElem?_eq_some_iff.1 HMSw.out.box).1
      have hln := HML.out
      refine made_r12 ⟨p + 1, p, sB, at', h, h, h, T0, B0, B1, A, T, G⟩ D most w.heap.size cnt i _ wc _ rfl rfl (Nat.lt_succ_self p) hsz12 HMSw.out.box HSB.out HOw.out.1 HOw.out.2.1 HOw.out.2.2 HAp.out ⟨by have := hln.la; have := HCn.out; show A.l.length ≤ 1000; omega, by have := hln.lg; have := HCn.out; show G.l.length ≤ 1000; omega, by have := hln.lt; have := HCn.out; show T.l.length ≤ 1000; omega⟩ ?_
      intro X2 x W2 L hL hI
      obtain ⟨g4, c4, x4, o4, -, ap4⟩ := hI.rA1 (hL 4 (by omega))
      obtain ⟨g9, c9, x9, o9⟩ := hI.rG1 (hL 9 (by omega))
      obtain ⟨g13, c13, x13, o13⟩ := hI.rT1 (hL 13 (by omega))
      have x18 := hI.fin (hL 18 (by omega))
      have x2' := hI.sim 2 (by unfold smp; omega) (hL 2 (by omega))
      obtain ⟨u0, u1, hbx, -, hu0, -, hu1⟩ := hI.box
      have e0 := hu0 (hL 15 (by omega))
      have e1 := hu1 (hL 17 (by omega))
      rw [x4] at e0
      rw [x9] at e1
      subst e0
      subst e1
      have hap2 := ap4 (hL 13 (by omega))
      rw [x13] at hap2 x18
      dsimp only at o4 o9 o13 hbx x4 x9 x13 x18
      have hkp : Keep (fun b => b < p + 1 ∧ b ≠ p) wc W2 := hI.keep
      have HMS2 : Hid (MS w D a n c w.heap.size p #[.slice (some ⟨g4, 0, none⟩) (A.l.length + 1) c4, .slice (some ⟨g9, 0, none⟩) (G.l.length + 1) c9, .int .i64 (T0 : Int), .int .i64 (B0 : Int), .int .i64 (B1 : Int)] kc W2) :=
        ⟨HMSw.out.deck.keepD hkp (by refine ⟨?_, ?_⟩ <;> omega) (fun b off ha hn => by have := HBy.out b off ha hn; refine ⟨?_, ?_⟩ <;> omega), HMSw.out.keep.transD hkp (fun i hi _ => by refine ⟨?_, ?_⟩ <;> omega), hkp.heap HMSw.out.res (by refine ⟨?_, ?_⟩ <;> omega), hbx⟩
      have HO2 : Hid (RS3 p ⟨some ⟨g4, 0, none⟩, c4, A.l ++ [at']⟩ ⟨some ⟨g13, 0, none⟩, c13, T.l ++ [h]⟩ ⟨some ⟨g9, 0, none⟩, c9, G.l ++ [(h, h)]⟩ W2) := by
        refine ⟨?_, ?_, ?_⟩
        · have e : (A.l ++ [at']).length = A.l.length + 1 := by rw [List.length_append]; rfl
          show W2.ownsRow (p + 1) 3 1 (.slice (some ⟨g4, 0, none⟩) (A.l ++ [at']).length c4) (A.l ++ [at']).length _
          rw [e]; exact o4
        · have e : (G.l ++ [(h, h)]).length = G.l.length + 1 := by rw [List.length_append]; rfl
          show W2.ownsRow (p + 1) 28 2 (.slice (some ⟨g9, 0, none⟩) (G.l ++ [(h, h)]).length c9) (G.l ++ [(h, h)]).length _
          rw [e]; exact o9
        · have e : (T.l ++ [h]).length = T.l.length + 1 := by rw [List.length_append]; rfl
          show W2.ownsRow (p + 1) 3 1 (.slice (some ⟨g13, 0, none⟩) (T.l ++ [h]).length c13) (T.l ++ [h]).length _
          rw [e]; exact o13
      have HAp2 : Hid (∀ j, (⟨some ⟨g4, 0, none⟩, c4, A.l ++ [at']⟩ : SL Nat).v.ownBlock = some j → (⟨some ⟨g13, 0, none⟩, c13, T.l ++ [h]⟩ : SL Nat).v.ownBlock ≠ some j) := by
        intro j e e2
        cases e
        cases e2
        exact hap2 rfl
      have hatb := hln.atb
      have hcn := HCn.out
      have X18 := Lib.hid x18
      clear hkp hI hL o4 o9 o13 hbx hu0 hu1 hap2 ap4 x4 x9 x13 x2'
      dsimp only [fr12]
      rw [x18]
      clear x18
      go_wp2_with fail
      refine (dbetween_any D a n c kc 1 400 _ HMS2.out.deck (by have := HKK.out; omega) (by omega) (by omega) (by omega)).mono ?_
      rintro e w9 ⟨rI, k9, hr1, hr2, hk9, rfl, hd9, hg9⟩
      obtain ⟨r9, rfl⟩ : ∃ r9 : Nat, rI = (r9 : Int) := ⟨rI.toNat, by omega⟩
      obtain ⟨at2, hat2⟩ : ∃ at2, at' + r9 = at2 := ⟨_, rfl⟩
      have hwr9 : IntKind.i64.wrap ((at' : Int) + (r9 : Int)) = (at2 : Int) := by rw [IntWalk.i64_in _ (by omega)]; omega
      have HMS9 := Lib.hid (HMS2.out.dealt hDR hDp hd9 hg9)
      have HO9 := Lib.hid (HO2.out.dealt hg9 (by omega))
      have HML9 : Hid (ML (i + 1) at2 (A.l ++ [at']) (G.l ++ [(h, h)]) (T.l ++ [h])) := by rw [← hat2]; exact HML.out.more (s := (h, h)) (by have := HLH.out; dsimp only; omega) (by have := HLH.out; simp only [inB, Bool.and_eq_true, decide_eq_true_eq]; omega) (by omega)
      have HM9b : Hid (MS w D a n c w.heap.size p #[.slice (some ⟨g4, 0, none⟩) (A.l ++ [at']).length c4, .slice (some ⟨g9, 0, none⟩) (G.l ++ [(h, h)]).length c9, .int .i64 (T0 : Int), .int .i64 (B0 : Int), .int .i64 (B1 : Int)] k9 w9) := by
        rw [show (A.l ++ [at']).length = A.l.length + 1 by rw [List.length_append]; rfl, show (G.l ++ [(h, h)]).length = G.l.length + 1 by rw [List.length_append]; rfl]
        exact HMS9
      have HK9 : Hid (k9 ≤ k7 + 5 * (i + 1)) := by have := HKK.out; show _ ≤ _; omega
      clear hd9 hg9 hat2 hr1 hr2 hk9 HMS2 HO2
      go_wp2_with fail
      refine ⟨Inv11.of (i + 1) at2 k9 ⟨some ⟨g4, 0, none⟩, c4, A.l ++ [at']⟩ ⟨some ⟨g13, 0, none⟩, c13, T.l ++ [h]⟩ ⟨some ⟨g9, 0, none⟩, c9, G.l ++ [(h, h)]⟩ ?_ (by omega) HK9.out HM9b HML9 HO9 HAp2, ?_⟩
      · simp [fr11]
      · simp [intOf, fr11]; omega
    · go_wp2_with fail
      refine (draw_any D a n c kc 9 _ HMSc.out.deck (by have := HKc.out; have := HK7.out; have := HCn.out; omega) (by omega)).mono ?_
      rintro e wd ⟨d1, kd, hd1, hkd, rfl, hdd, hgd⟩
      have HMSd := Lib.hid (HMSc.out.dealt hDR hDp hdd hgd)
      have HOd := Lib.hid (HOc.out.dealt hgd (by omega))
      have HSBd : Hid (wd.heap[sB]? = some (.cells #[.int .i64 (h : Int), .int .i64 (h : Int)] 28 (0, 0))) := blk_grown hgd HSBc.out (fun e => by cases e; omega)
      have HKd : Hid (kd ≤ k7 + 5 * i + 3) := by have := HKc.out; show _ ≤ _; omega
      have hd9 : d1 < 9 := by omega
      clear hdd hgd hkd hd1 HMSc HOc HSBc
      obtain ⟨lo, hlo⟩ : ∃ lo, h - d1 = lo := ⟨_, rfl⟩
      have hwrA : IntKind.i64.wrap ((h : Int) - (d1 : Int)) = (h : Int) - (d1 : Int) := IntWalk.i64_in _ (by omega)
      have hmxA : (if (0 : Int) < (h : Int) - (d1 : Int) then (h : Int) - (d1 : Int) else 0) = (lo : Int) := by split <;> omega
      have hmxB : (if d1 < h then (h : Int) - (d1 : Int) else 0) = (lo : Int) := by split <;> omega
      go_wp2_with fail
      refine (draw_any D a n c kd 9 _ HMSd.out.deck (by have := HKd.out; have := HK7.out; have := HCn.out; omega) (by omega)).mono ?_
      rintro e we0 ⟨d2, ke, hd2, hke, rfl, hde, hge⟩
      have HMSe := Lib.hid (HMSd.out.dealt hDR hDp hde hge)
      have HOe := Lib.hid (HOd.out.dealt hge (by omega))
      have HSBe : Hid (we0.heap[sB]? = some (.cells #[.int .i64 (h : Int), .int .i64 (h : Int)] 28 (0, 0))) := blk_grown hge HSBd.out (fun e => by cases e; omega)
      have HKK : Hid (ke ≤ k7 + 5 * i + 4 ∧ ke ≤ 100000) := by have := HKd.out; have := HK7.out; have := HCn.out; show _ ∧ _; omega
      obtain ⟨hi, hhi⟩ : ∃ hi, h + d2 = hi := ⟨_, rfl⟩
      have hwrB : IntKind.i64.wrap ((h : Int) + (d2 : Int)) = (hi : Int) := by rw [IntWalk.i64_in _ (by omega)]; omega
      have HLH : Hid (lo ≤ h ∧ h ≤ hi ∧ hi ≤ 100) := by show _ ∧ _ ∧ _; omega
      clear hde hge hke hd2 HMSd HOd HSBd hlo hhi
      go_wp2_with fail
      refine (span_any _ _ _).mono ?_
      rintro e w' ⟨rfl, rfl⟩
      have hxf : Ext we0 (we0.alloc (.cells #[.int .i64 (lo : Int), .int .i64 (hi : Int)] 28)) := (Ext.refl we0).alloc _
      obtain ⟨s0, s1, f0, f1⟩ := box2 (hxf.block HSBe.out)
      have hst := heap_setCell_same (i := 1) (heap_setCell_same (i := 0) (hxf.block HSBe.out) (.int .i64 (lo : Int))) (.int .i64 (hi : Int))
      have hkp : Keep (fun b => b ≠ sB) (we0.alloc (.cells #[.int .i64 (lo : Int), .int .i64 (hi : Int)] 28)) (((we0.alloc (.cells #[.int .i64 (lo : Int), .int .i64 (hi : Int)] 28)).setCell ⟨sB, 0, none⟩ (.int .i64 (lo : Int))).setCell ⟨sB, 1, none⟩ (.int .i64 (hi : Int))) := ((Keep.refl _ _).setCell _ _ (fun _ h => h rfl)).setCell _ _ (fun _ h => h rfl)
      have HMSf := HMSe.out.ext hxf
      have HOf := HOe.out.ext hxf
      have HMSw : Hid (MS w D a n c w.heap.size p #[.slice A.a A.l.length A.c, .slice G.a G.l.length G.c, .int .i64 (T0 : Int), .int .i64 (B0 : Int), .int .i64 (B1 : Int)] ke (((we0.alloc (.cells #[.int .i64 (lo : Int), .int .i64 (hi : Int)] 28)).setCell ⟨sB, 0, none⟩ (.int .i64 (lo : Int))).setCell ⟨sB, 1, none⟩ (.int .i64 (hi : Int)))) :=
        ⟨HMSf.deck.keepD hkp (by omega) (fun b off ha hn => by have := HBy.out b off ha hn; omega), HMSf.keep.transD hkp (fun i hi _ => by omega), hkp.heap HMSf.res (show w.heap.size ≠ sB by omega), hkp.heap HMSf.box (show p ≠ sB by omega)⟩
      have HOw : Hid (RS3 p A T G (((we0.alloc (.cells #[.int .i64 (lo : Int), .int .i64 (hi : Int)] 28)).setCell ⟨sB, 0, none⟩ (.int .i64 (lo : Int))).setCell ⟨sB, 1, none⟩ (.int .i64 (hi : Int)))) := ⟨own_keepB HOf.1 hkp HNs.out.1, own_keepB HOf.2.1 hkp HNs.out.2.1, own_keepB HOf.2.2 hkp HNs.out.2.2⟩
      have HSB : Hid ((((we0.alloc (.cells #[.int .i64 (lo : Int), .int .i64 (hi : Int)] 28)).setCell ⟨sB, 0, none⟩ (.int .i64 (lo : Int))).setCell ⟨sB, 1, none⟩ (.int .i64 (hi : Int))).heap[sB]? = some (.cells #[.int .i64 (lo : Int), .int .i64 (hi : Int)] 28 (0, 0))) := hst
      clear HMSe HOe HSBe hxf hst hkp HMSf HOf
      go_upto_region 12 with (fail)
      clear s0 s1 f0 f1 hwrA hwrB hmxA hmxB
      generalize ((we0.alloc (.cells #[.int .i64 (lo : Int), .int .i64 (hi : Int)] 28)).setCell ⟨sB, 0, none⟩ (.int .i64 (lo : Int))).setCell ⟨sB, 1, none⟩ (.int .i64 (hi : Int)) = we at *
      have hsz12 : p + 1 ≤ we.heap.size := (Array.getElem?_eq_some_iff.1 HMSw.out.box).1
      have hln := HML.out
      refine made_r12 ⟨p + 1, p, sB, at', h, lo, hi, T0, B0, B1, A, T, G⟩ D most w.heap.size cnt i _ we _ rfl rfl (Nat.lt_succ_self p) hsz12 HMSw.out.box HSB.out HOw.out.1 HOw.out.2.1 HOw.out.2.2 HAp.out ⟨by have := hln.la; have := HCn.out; show A.l.length ≤ 1000; omega, by have := hln.lg; have := HCn.out; show G.l.length ≤ 1000; omega, by have := hln.lt; have := HCn.out; show T.l.length ≤ 1000; omega⟩ ?_
      intro X2 x W2 L hL hI
      obtain ⟨g4, c4, x4, o4, -, ap4⟩ := hI.rA1 (hL 4 (by omega))
      obtain ⟨g9, c9, x9, o9⟩ := hI.rG1 (hL 9 (by omega))
      obtain ⟨g13, c13, x13, o13⟩ := hI.rT1 (hL 13 (by omega))
      have x18 := hI.fin (hL 18 (by omega))
      have x2' := hI.sim 2 (by unfold smp; omega) (hL 2 (by omega))
      obtain ⟨u0, u1, hbx, -, hu0, -, hu1⟩ := hI.box
      have e0 := hu0 (hL 15 (by omega))
      have e1 := hu1 (hL 17 (by omega))
      rw [x4] at e0
      rw [x9] at e1
      subst e0
      subst e1
      have hap2 := ap4 (hL 13 (by omega))
      rw [x13] at hap2 x18
      dsimp only at o4 o9 o13 hbx x4 x9 x13 x18
      have hkp : Keep (fun b => b < p + 1 ∧ b ≠ p) we W2 := hI.keep
      have HMS2 : Hid (MS w D a n c w.heap.size p #[.slice (some ⟨g4, 0, none⟩) (A.l.length + 1) c4, .slice (some ⟨g9, 0, none⟩) (G.l.length + 1) c9, .int .i64 (T0 : Int), .int .i64 (B0 : Int), .int .i64 (B1 : Int)] ke W2) :=
        ⟨HMSw.out.deck.keepD hkp (by refine ⟨?_, ?_⟩ <;> omega) (fun b off ha hn => by have := HBy.out b off ha hn; refine ⟨?_, ?_⟩ <;> omega), HMSw.out.keep.transD hkp (fun i hi _ => by refine ⟨?_, ?_⟩ <;> omega), hkp.heap HMSw.out.res (by refine ⟨?_, ?_⟩ <;> omega), hbx⟩
      have HO2 : Hid (RS3 p ⟨some ⟨g4, 0, none⟩, c4, A.l ++ [at']⟩ ⟨some ⟨g13, 0, none⟩, c13, T.l ++ [h]⟩ ⟨some ⟨g9, 0, none⟩, c9, G.l ++ [(lo, hi)]⟩ W2) := by
        refine ⟨?_, ?_, ?_⟩
        · have e : (A.l ++ [at']).length = A.l.length + 1 := by rw [List.length_append]; rfl
          show W2.ownsRow (p + 1) 3 1 (.slice (some ⟨g4, 0, none⟩) (A.l ++ [at']).length c4) (A.l ++ [at']).length _
          rw [e]; exact o4
        · have e : (G.l ++ [(lo, hi)]).length = G.l.length + 1 := by rw [List.length_append]; rfl
          show W2.ownsRow (p + 1) 28 2 (.slice (some ⟨g9, 0, none⟩) (G.l ++ [(lo, hi)]).length c9) (G.l ++ [(lo, hi)]).length _
          rw [e]; exact o9
        · have e : (T.l ++ [h]).length = T.l.length + 1 := by rw [List.length_append]; rfl
          show W2.ownsRow (p + 1) 3 1 (.slice (some ⟨g13, 0, none⟩) (T.l ++ [h]).length c13) (T.l ++ [h]).length _
          rw [e]; exact o13
      have HAp2 : Hid (∀ j, (⟨some ⟨g4, 0, none⟩, c4, A.l ++ [at']⟩ : SL Nat).v.ownBlock = some j → (⟨some ⟨g13, 0, none⟩, c13, T.l ++ [h]⟩ : SL Nat).v.ownBlock ≠ some j) := by
        intro j e e2
        cases e
        cases e2
        exact hap2 rfl
      have hatb := hln.atb
      have hcn := HCn.out
      have X18 := Lib.hid x18
      clear hkp hI hL o4 o9 o13 hbx hu0 hu1 hap2 ap4 x4 x9 x13 x2'
      dsimp only [fr12]
      rw [x18]
      clear x18
      go_wp2_with fail
      refine (dbetween_any D a n c ke 1 400 _ HMS2.out.deck (by have := HKK.out; omega) (by omega) (by omega) (by omega)).mono ?_
      rintro e w9 ⟨rI, k9, hr1, hr2, hk9, rfl, hd9, hg9⟩
      obtain ⟨r9, rfl⟩ : ∃ r9 : Nat, rI = (r9 : Int) := ⟨rI.toNat, by omega⟩
      obtain ⟨at2, hat2⟩ : ∃ at2, at' + r9 = at2 := ⟨_, rfl⟩
      have hwr9 : IntKind.i64.wrap ((at' : Int) + (r9 : Int)) = (at2 : Int) := by rw [IntWalk.i64_in _ (by omega)]; omega
      have HMS9 := Lib.hid (HMS2.out.dealt hDR hDp hd9 hg9)
      have HO9 := Lib.hid (HO2.out.dealt hg9 (by omega))
      have HML9 : Hid (ML (i + 1) at2 (A.l ++ [at']) (G.l ++ [(lo, hi)]) (T.l ++ [h])) := by rw [← hat2]; exact HML.out.more (s := (lo, hi)) (by have := HLH.out; dsimp only; omega) (by have := HLH.out; simp only [inB, Bool.and_eq_true, decide_eq_true_eq]; omega) (by omega)
      have HM9b : Hid (MS w D a n c w.heap.size p #[.slice (some ⟨g4, 0, none⟩) (A.l ++ [at']).length c4, .slice (some ⟨g9, 0, none⟩) (G.l ++ [(lo, hi)]).length c9, .int .i64 (T0 : Int), .int .i64 (B0 : Int), .int .i64 (B1 : Int)] k9 w9) := by
        rw [show (A.l ++ [at']).length = A.l.length + 1 by rw [List.length_append]; rfl, show (G.l ++ [(lo, hi)]).length = G.l.length + 1 by rw [List.length_append]; rfl]
        exact HMS9
      have HK9 : Hid (k9 ≤ k7 + 5 * (i + 1)) := by have := HKK.out; show _ ≤ _; omega
      clear hd9 hg9 hat2 hr1 hr2 hk9 HMS2 HO2
      go_wp2_with fail
      refine ⟨Inv11.of (i + 1) at2 k9 ⟨some ⟨g4, 0, none⟩, c4, A.l ++ [at']⟩ ⟨some ⟨g13, 0, none⟩, c13, T.l ++ [h]⟩ ⟨some ⟨g9, 0, none⟩, c9, G.l ++ [(lo, hi)]⟩ ?_ (by omega) HK9.out HM9b HML9 HO9 HAp2, ?_⟩
      · simp [fr11]
      · simp [intOf, fr11]; omega
  · have di : decide ((i : Int) < (cnt : Int)) = false := decide_eq_false (by omega)
    obtain rfl : i = cnt := by omega
    have q0 : wr.cell? ⟨p, 0, none⟩ = some (.slice A.a A.l.length A.c) := (cell_at HMS.out.box 0).trans rfl
    have q1 : wr.cell? ⟨p, 1, none⟩ = some (.slice G.a G.l.length G.c) := (cell_at HMS.out.box 1).trans rfl
    have q2 : wr.cell? ⟨p, 2, none⟩ = some (.int .i64 (T0 : Int)) := (cell_at HMS.out.box 2).trans rfl
    have q3 : wr.cell? ⟨p, 3, none⟩ = some (.int .i64 (B0 : Int)) := (cell_at HMS.out.box 3).trans rfl
    have q4 : wr.cell? ⟨p, 4, none⟩ = some (.int .i64 (B1 : Int)) := (cell_at HMS.out.box 4).trans rfl
    have r0 : wr.cell? ⟨w.heap.size, 0, none⟩ = some (.slice none 0 0) := (cell_at HMS.out.res 0).trans rfl
    have r1 : wr.cell? ⟨w.heap.size, 1, none⟩ = some (.slice none 0 0) := (cell_at HMS.out.res 1).trans rfl
    have r2 : wr.cell? ⟨w.heap.size, 2, none⟩ = some (.int .i64 0) := (cell_at HMS.out.res 2).trans rfl
    have r3 : wr.cell? ⟨w.heap.size, 3, none⟩ = some (.int .i64 0) := (cell_at HMS.out.res 3).trans rfl
    have r4 : wr.cell? ⟨w.heap.size, 4, none⟩ = some (.int .i64 0) := (cell_at HMS.out.res 4).trans rfl
    have fz : ∀ j, wr.frozen? ⟨w.heap.size, j, none⟩ = false := fun j => by simp [World.frozen?, HMS.out.res]
    have z0 := fz 0
    have z1 := fz 1
    have z2 := fz 2
    have z3 := fz 3
    have z4 := fz 4
    have HRs := Lib.hid HMS.out.res
    clear fz
    go_wp2_with fail
    simp only [bodyPost]
    have h5 := heap_setCell_same (i := 4) (heap_setCell_same (i := 3) (heap_setCell_same (i := 2) (heap_setCell_same (i := 1) (heap_setCell_same (i := 0) HRs.out (.slice A.a A.l.length A.c)) (.slice G.a G.l.length G.c)) (.int .i64 (T0 : Int))) (.int .i64 (B0 : Int))) (.int .i64 (B1 : Int))
    have hk5 : Keep (fun x => x ≠ w.heap.size) wr (((((wr.setCell ⟨w.heap.size, 0, none⟩ (.slice A.a A.l.length A.c)).setCell ⟨w.heap.size, 1, none⟩ (.slice G.a G.l.length G.c)).setCell ⟨w.heap.size, 2, none⟩ (.int .i64 (T0 : Int))).setCell ⟨w.heap.size, 3, none⟩ (.int .i64 (B0 : Int))).setCell ⟨w.heap.size, 4, none⟩ (.int .i64 (B1 : Int))) := by
      refine Keep.setCell (Keep.setCell (Keep.setCell (Keep.setCell (Keep.setCell (Keep.refl _ wr) _ _ ?_) _ _ ?_) _ _ ?_) _ _ ?_) _ _ ?_ <;> exact fun _ h => h rfl
    generalize (((((wr.setCell ⟨w.heap.size, 0, none⟩ (.slice A.a A.l.length A.c)).setCell ⟨w.heap.size, 1, none⟩ (.slice G.a G.l.length G.c)).setCell ⟨w.heap.size, 2, none⟩ (.int .i64 (T0 : Int))).setCell ⟨w.heap.size, 3, none⟩ (.int .i64 (B0 : Int))).setCell ⟨w.heap.size, 4, none⟩ (.int .i64 (B1 : Int))) = WF at *
    have m0 : WF.cell? ⟨w.heap.size, 0, none⟩ = some (.slice A.a A.l.length A.c) := (cell_at h5 0).trans rfl
    have m1 : WF.cell? ⟨w.heap.size, 1, none⟩ = some (.slice G.a G.l.length G.c) := (cell_at h5 1).trans rfl
    have m2 : WF.cell? ⟨w.heap.size, 2, none⟩ = some (.int .i64 (T0 : Int)) := (cell_at h5 2).trans rfl
    have m3 : WF.cell? ⟨w.heap.size, 3, none⟩ = some (.int .i64 (B0 : Int)) := (cell_at h5 3).trans rfl
    have m4 : WF.cell? ⟨w.heap.size, 4, none⟩ = some (.int .i64 (B1 : Int)) := (cell_at h5 4).trans rfl
    have hml := HML.out
    have hcn := HCn.out
    have hb1 := HB1.out
    have ht0 := HT0.out
    have hk7 := HK7.out
    have hla := hml.la
    have hlg := hml.lg
    have hlt2 := hml.lt
    have hatb := hml.atb
    refine ⟨trivial, _, ?_, ⟨A, G, T0, B0, B1⟩, T, k', rfl, ⟨?_, ?_, ?_, fun x hx => ?_, fun s hs => ?_, ?_, ?_, hml.inc⟩, ⟨fun x hx => ?_, ?_, ?_⟩, ?_, ?_, ?_, hml.gb, ?_, ?_, own_mono (own_keep HO.out.1 hk5 (fun j hj => by omega)) (by omega), own_mono (own_keep HO.out.2.1 hk5 (fun j hj => by omega)) (by omega), own_mono (own_keep HO.out.2.2 hk5 (fun j hj => by omega)) (by omega), HMS.out.deck.keepD hk5 (by omega) (fun b off ha hn => by have := HBy.out b off ha hn; omega), ?_, HMS.out.keep.transD hk5 (fun j hj _ => by omega)⟩
    · simp [results, Try.f11, go_sem, m0, m1, m2, m3, m4]
    · show 2 ≤ A.l.length; omega
    · show A.l.length ≤ 40; omega
    · show G.l.length = A.l.length; omega
    · have := hml.below x hx; omega
    · have := hml.gb s hs; omega
    · show T0 ≤ 2000; omega
    · show B0 ≤ B1 ∧ B1 ≤ 1000; omega
    · have := hml.below x hx; have : 400 * i ≤ 400 * most := Nat.mul_le_mul_left 400 (by omega); omega
    · show T0 ≤ 30; omega
    · show B1 ≤ 400; omega
    · show A.l.length ≤ most; omega
    · show G.l.length = A.l.length; omega
    · show B1 ≤ 1000; omega
    · show T.l.length = A.l.length; omega
    · show truthTo T.l G.l A.l.length = true; rw [hla]; exact hml.tr
    · omega
theorem made_any (D : Nat) (a : Option Addr) (n c k most : Nat) (w : World) (hd : IsDeck w D a n c k) (hk : k ≤ 1000) (hm : 2 ≤ most) (hm2 : most ≤ 40) :
    Calls Try.prog 11 #[.pointer (some ⟨D, 0, none⟩), .int .i64 (most : Int)] w fun e w' => ∃ (v : PV) (T : SL Nat) (k' : Nat), e = .returned (.tuple #[v.v, .slice T.a T.l.length T.c]) ∧ OkP v.p ∧ v.at'.l.length ≤ most ∧ v.gr.l.length = v.at'.l.length ∧ v.hi ≤ 1000 ∧ (∀ s ∈ v.gr.l, s.1 ≤ s.2 ∧ s.2 ≤ 100) ∧ T.l.length = v.at'.l.length ∧ truthTo T.l v.gr.l v.at'.l.length = true ∧
      w'.ownsRow w.heap.size 3 1 v.at'.v v.at'.l.length (nums v.at'.l) ∧ w'.ownsRow w.heap.size 28 2 v.gr.v v.gr.l.length (flat 2 spC v.gr.l) ∧ w'.ownsRow w.heap.size 3 1 T.v T.l.length (nums T.l) ∧ IsDeck w' D a n c k' ∧ k' ≤ k + 5 + 5 * most ∧ Keep (fun x => x ≠ D) w w' := by
  refine (made_anyB D a n c k most w hd hk hm hm2).mono ?_
  rintro e w' ⟨v, T, k', h0, h1, -, h2⟩
  exact ⟨v, T, k', h0, h1, h2⟩
end Go.Proofs.Ytfognlealnhodaa
