/-
  open of package pillar puts a roll to work: how far each pillar is from each later one lies in a table of its book, in new memory; nothing that was there is turned. The roll must lie in memory as told and be right.
-/
import Derived.Test.YtfognlealnhodaaSM
import Derived.RegionTactic
namespace Go.Proofs.Ytfognlealnhodaa
open Go.RowKit

/-- The block of a book, without its lists. -/
def BkB (w : World) (B : Nat) (f : FV) (P : Nat) (ap : Nat → Nat → Nat × Nat) (wy : Nat → Nat → Nat) : Prop := ∃ cs : Array Value, w.heap[B]? = some (.cells cs 128 (0, 0)) ∧ BkC cs f P ap wy
theorem BkB.bk {w : World} {B P : Nat} {f : FV} {ap : Nat → Nat → Nat × Nat} {wy : Nat → Nat → Nat} (h : BkB w B f P ap wy) (hf : IsF w f) : Bk w B f P ap wy := ⟨hf, h⟩
theorem BkB.keep {a b : World} {B P : Nat} {f : FV} {ap : Nat → Nat → Nat × Nat} {wy : Nat → Nat → Nat} {D : Nat → Prop} (h : BkB a B f P ap wy) (k : Keep D a b) (hd : D B) : BkB b B f P ap wy := by
  obtain ⟨cs, h1, h2⟩ := h; exact ⟨cs, k.heap h1 hd, h2⟩
theorem BkB.ext {a b : World} {B P : Nat} {f : FV} {ap : Nat → Nat → Nat × Nat} {wy : Nat → Nat → Nat} (h : BkB a B f P ap wy) (k : Ext a b) : BkB b B f P ap wy := by
  obtain ⟨cs, h1, h2⟩ := h; exact ⟨cs, k.block h1, h2⟩
theorem BkB.lt {w : World} {B P : Nat} {f : FV} {ap : Nat → Nat → Nat × Nat} {wy : Nat → Nat → Nat} (h : BkB w B f P ap wy) : B < w.heap.size := by
  obtain ⟨cs, h1, h2⟩ := h; exact (Array.getElem?_eq_some_iff.1 h1).1
theorem BkB.c0 {w : World} {B P : Nat} {f : FV} {ap : Nat → Nat → Nat × Nat} {wy : Nat → Nat → Nat} (h : BkB w B f P ap wy) : w.cell? ⟨B, 0, none⟩ = some (.slice f.gp.a f.gp.l.length f.gp.c) := by
  obtain ⟨cs, h1, h2⟩ := h; exact (cell_at h1 0).trans h2.c0
theorem BkB.c1 {w : World} {B P : Nat} {f : FV} {ap : Nat → Nat → Nat × Nat} {wy : Nat → Nat → Nat} (h : BkB w B f P ap wy) : w.cell? ⟨B, 1, none⟩ = some (.slice f.nm.a f.nm.l.length f.nm.c) := by
  obtain ⟨cs, h1, h2⟩ := h; exact (cell_at h1 1).trans h2.c1
theorem BkB.c2 {w : World} {B P : Nat} {f : FV} {ap : Nat → Nat → Nat × Nat} {wy : Nat → Nat → Nat} (h : BkB w B f P ap wy) : w.cell? ⟨B, 2, none⟩ = some (.int .i64 (P : Int)) := by
  obtain ⟨cs, h1, h2⟩ := h; exact (cell_at h1 2).trans h2.c2
theorem BkB.ap {w : World} {B P : Nat} {f : FV} {ap : Nat → Nat → Nat × Nat} {wy : Nat → Nat → Nat} (h : BkB w B f P ap wy) {i j : Nat} (hi : i < 40) (hj : j < 40) : w.cell? ⟨B, 3 + i * 80 + j * 2, none⟩ = some (.int .i64 ((ap i j).1 : Int)) ∧ w.cell? ⟨B, 3 + i * 80 + j * 2 + 1, none⟩ = some (.int .i64 ((ap i j).2 : Int)) := by
  obtain ⟨cs, h1, h2⟩ := h
  exact ⟨(cell_at h1 _).trans (h2.ca i j hi hj).1, (cell_at h1 _).trans (h2.ca i j hi hj).2⟩
theorem BkB.way {w : World} {B P : Nat} {f : FV} {ap : Nat → Nat → Nat × Nat} {wy : Nat → Nat → Nat} (h : BkB w B f P ap wy) {i j : Nat} (hi : i < 40) (hj : j < 40) : w.cell? ⟨B, 3203 + i * 40 + j, none⟩ = some (.int .i64 (wy i j : Int)) := by
  obtain ⟨cs, h1, h2⟩ := h
  exact (cell_at h1 _).trans (h2.cw i j hi hj)
theorem BkB.frozen {w : World} {B P : Nat} {f : FV} {ap : Nat → Nat → Nat × Nat} {wy : Nat → Nat → Nat} (h : BkB w B f P ap wy) (i : Nat) : w.frozen? ⟨B, i, none⟩ = false := by
  obtain ⟨cs, h1, h2⟩ := h; simp [World.frozen?, h1]
theorem BkB.congr {w : World} {B P : Nat} {f : FV} {ap ap' : Nat → Nat → Nat × Nat} {wy wy' : Nat → Nat → Nat} (h : BkB w B f P ap wy) (e1 : ap = ap') (e2 : wy = wy') : BkB w B f P ap' wy' := by subst e1; subst e2; exact h
theorem BkB.setA {w : World} {B P : Nat} {f : FV} {ap : Nat → Nat → Nat × Nat} {wy : Nat → Nat → Nat} (h : BkB w B f P ap wy) (i j : Nat) (hi : i < 40) (hj : j < 40) (x : Nat × Nat) :
    BkB ((w.setCell ⟨B, 3 + i * 80 + j * 2, none⟩ (.int .i64 (x.1 : Int))).setCell ⟨B, 3 + i * 80 + j * 2 + 1, none⟩ (.int .i64 (x.2 : Int))) B f P (updA ap i j x) wy := by
  obtain ⟨cs, h1, h2⟩ := h
  refine ⟨_, heap_setCell_same (heap_setCell_same h1 _) _, ?_⟩
  have hq : ∀ k, (k < 3 ∨ 3203 ≤ k) → ((cs.setIfInBounds (3 + i * 80 + j * 2) (.int .i64 (x.1 : Int))).setIfInBounds (3 + i * 80 + j * 2 + 1) (.int .i64 (x.2 : Int)))[k]? = cs[k]? := fun k hk => by
    rw [Array.getElem?_setIfInBounds, if_neg (by omega), Array.getElem?_setIfInBounds, if_neg (by omega)]
  have hsz := h2.sz
  refine ⟨by simpa using h2.sz, by rw [hq 0 (by omega), h2.c0], by rw [hq 1 (by omega), h2.c1], by rw [hq 2 (by omega), h2.c2], fun i' j' hi' hj' => ?_, fun i' j' hi' hj' => by rw [hq _ (by omega), h2.cw i' j' hi' hj']⟩
  unfold updA
  by_cases e : i' = i ∧ j' = j
  · obtain ⟨rfl, rfl⟩ := e
    rw [if_pos ⟨rfl, rfl⟩]
    constructor
    · rw [Array.getElem?_setIfInBounds, if_neg (by omega), Array.getElem?_setIfInBounds, if_pos rfl, if_pos (by omega)]
    · rw [Array.getElem?_setIfInBounds, if_pos rfl, if_pos (by simp; omega)]
  · rw [if_neg e]
    obtain ⟨g1, g2⟩ := h2.ca i' j' hi' hj'
    constructor
    · rw [Array.getElem?_setIfInBounds, if_neg (by omega), Array.getElem?_setIfInBounds, if_neg (by omega), g1]
    · rw [Array.getElem?_setIfInBounds, if_neg (by omega), Array.getElem?_setIfInBounds, if_neg (by omega), g2]
theorem BkB.setW {w : World} {B P : Nat} {f : FV} {ap : Nat → Nat → Nat × Nat} {wy : Nat → Nat → Nat} (h : BkB w B f P ap wy) (i j : Nat) (hi : i < 40) (hj : j < 40) (x : Nat) :
    BkB (w.setCell ⟨B, 3203 + i * 40 + j, none⟩ (.int .i64 (x : Int))) B f P ap (updN wy i j x) := by
  obtain ⟨cs, h1, h2⟩ := h
  refine ⟨_, heap_setCell_same h1 _, ?_⟩
  have hq : ∀ k, k < 3203 → (cs.setIfInBounds (3203 + i * 40 + j) (.int .i64 (x : Int)))[k]? = cs[k]? := fun k hk => by
    rw [Array.getElem?_setIfInBounds, if_neg (by omega)]
  have hsz := h2.sz
  refine ⟨by simpa using h2.sz, by rw [hq 0 (by omega), h2.c0], by rw [hq 1 (by omega), h2.c1], by rw [hq 2 (by omega), h2.c2], fun i' j' hi' hj' => ?_, fun i' j' hi' hj' => ?_⟩
  · rw [hq _ (by omega), hq _ (by omega)]; exact h2.ca i' j' hi' hj'
  · unfold updN
    rw [Array.getElem?_setIfInBounds]
    by_cases e : i' = i ∧ j' = j
    · obtain ⟨rfl, rfl⟩ := e; rw [if_pos rfl, if_pos (by omega), if_pos ⟨rfl, rfl⟩]
    · rw [if_neg e, if_neg (by omega)]; exact h2.cw i' j' hi' hj'
theorem zeroBk : (Try.zeroCells128.toList.drop 3).take 4800 = List.replicate 4800 (.int .i64 0) := by kernel_rfl
theorem zeroBkH : (Try.zeroCells128.toList).take 2 = List.replicate 2 (.slice none 0 0) := by kernel_rfl
theorem zeroBkC (P : Nat) : BkC (Try.zeroCells128.setIfInBounds 2 (.int .i64 (P : Int))) ⟨⟨none, 0, []⟩, ⟨none, 0, []⟩⟩ P (fun _ _ => (0, 0)) (fun _ _ => 0) := by
  have hsz : Try.zeroCells128.size = 4803 := Try.zeroCells128_size
  have hz := zeroBk
  have hh := zeroBkH
  have h1 : ∀ k, k < 4800 → Try.zeroCells128[3 + k]? = some (.int .i64 0) := fun k hk => by
    have h1 : ((Try.zeroCells128.toList.drop 3).take 4800)[k]? = some (.int .i64 0) := by rw [hz, List.getElem?_replicate, if_pos hk]
    rw [List.getElem?_take, if_pos hk, List.getElem?_drop] at h1
    rw [← Array.getElem?_toList, ← h1]
  have h0 : ∀ k, k < 2 → Try.zeroCells128[k]? = some (.slice none 0 0) := fun k hk => by
    have h1 : ((Try.zeroCells128.toList).take 2)[k]? = some (.slice none 0 0) := by rw [hh, List.getElem?_replicate, if_pos hk]
    rw [List.getElem?_take, if_pos hk] at h1
    rw [← Array.getElem?_toList, ← h1]
  refine ⟨by simp [hsz], ?_, ?_, ?_, fun i j hi hj => ?_, fun i j hi hj => ?_⟩
  · rw [Array.getElem?_setIfInBounds, if_neg (by omega)]; exact h0 0 (by omega)
  · rw [Array.getElem?_setIfInBounds, if_neg (by omega)]; exact h0 1 (by omega)
  · rw [Array.getElem?_setIfInBounds, if_pos rfl, if_pos (by omega)]
  · rw [Array.getElem?_setIfInBounds, if_neg (by omega), Array.getElem?_setIfInBounds, if_neg (by omega)]
    exact ⟨by rw [show 3 + i * 80 + j * 2 = 3 + (i * 80 + j * 2) by omega]; exact h1 _ (by omega), by rw [show 3 + i * 80 + j * 2 + 1 = 3 + (i * 80 + j * 2 + 1) by omega]; exact h1 _ (by omega)⟩
  · rw [Array.getElem?_setIfInBounds, if_neg (by omega), show 3203 + i * 40 + j = 3 + (3200 + i * 40 + j) by omega]
    exact h1 _ (by omega)
theorem sp_sub {w : World} {b off c i m : Nat} {l : List (Nat × Nat)} (h : IsSl 2 spC w ⟨some ⟨b, off, none⟩, c, l⟩) (him : i + m ≤ l.length) : IsSl 2 spC w ⟨some ⟨b, off + i * 2, none⟩, c - i, (l.drop i).take m⟩ := by
  obtain ⟨h1, h2, h3⟩ := h
  dsimp only at h1 h2 h3
  have hl : ((l.drop i).take m).length = m := by simp; omega
  refine ⟨by dsimp only; omega, by dsimp only; omega, ?_⟩
  rcases h3 with h3 | ⟨b', off', ha, hc⟩
  · exact .inl (by dsimp only; omega)
  · simp only [Option.some.injEq, Addr.mk.injEq, and_true] at ha
    obtain ⟨rfl, rfl⟩ := ha
    refine .inr ⟨b, off + i * 2, rfl, fun k hk j hj => ?_⟩
    dsimp only at hk ⊢
    rw [hl] at hk
    have q := hc (i + k) (by omega) j hj
    rw [List.getElem_take, List.getElem_drop, show off + i * 2 + k * 2 + j = off + (i + k) * 2 + j by omega]
    exact q

set_option maxRecDepth 100000 in
set_option maxHeartbeats 4000000 in
theorem open_any (s : SL (Nat × Nat)) (w : World) (hs : IsSl 2 spC w s) (hl1 : 1 ≤ s.l.length) (hl : s.l.length ≤ 39) (hb : ∀ x ∈ s.l, x.1 ≤ 1000000 ∧ x.2 ≤ 1000000) :
    Calls Try.prog 63 #[.agg #[.slice s.a s.l.length s.c]] w fun e w' => ∃ B, e = .returned (.pointer (some ⟨B, 0, none⟩)) ∧ w.heap.size ≤ B ∧ BkB w' B ⟨⟨none, 0, []⟩, ⟨none, 0, []⟩⟩ (s.l.length + 1) (apart s.l) (fun _ _ => 0) ∧ Ext w w' := by
  obtain ⟨sa, sc, l⟩ := s
  have HS := Lib.hid hs
  have HBd := Lib.hid hb
  obtain ⟨h1, h2, h3⟩ := hs
  dsimp only at h1 h2 h3 hl1 hl hb HS HBd ⊢
  obtain ⟨b, off, rfl, hc⟩ := h3.resolve_left (by omega)
  obtain ⟨P, hP⟩ : ∃ P, l.length + 1 = P := ⟨_, rfl⟩
  have HP := Lib.hid hP
  have w1 : IntKind.i64.wrap ((l.length : Int) + 1) = (P : Int) := by rw [IntWalk.i64_in _ (by omega)]; omega
  have cx : (w.alloc (.cells #[.slice (some ⟨b, off, none⟩) l.length sc] 64)).cell? ⟨w.heap.size, 0, none⟩ = some (.slice (some ⟨b, off, none⟩) l.length sc) := (cell_at (World.alloc_heap_new _ _) 0).trans rfl
  clear hc h3 hb
  rw [hP]
  have hp2 : 2 ≤ P := by omega
  have hp40 : P ≤ 40 := by omega
  clear hP
  go_enter Try.func63, Try.ntmps63
  go_wp2_with fail
  have HB0 : Hid (BkB ((w.alloc (.cells #[.slice (some ⟨b, off, none⟩) l.length sc] 64)).alloc (.cells (Try.zeroCells128.setIfInBounds 2 (.int .i64 (P : Int))) 128)) (w.heap.size + 1) ⟨⟨none, 0, []⟩, ⟨none, 0, []⟩⟩ P (tabA l 0 0) (fun _ _ => 0)) := by
    rw [tabA_zero l 0 (by omega)]
    exact ⟨_, alloc_new (by simp only [World.size_alloc]), zeroBkC P⟩
  have HX0 : Hid (Ext w ((w.alloc (.cells #[.slice (some ⟨b, off, none⟩) l.length sc] 64)).alloc (.cells (Try.zeroCells128.setIfInBounds 2 (.int .i64 (P : Int))) 128))) := ((Ext.refl w).alloc _).alloc _
  have HC0 : Hid (((w.alloc (.cells #[.slice (some ⟨b, off, none⟩) l.length sc] 64)).alloc (.cells (Try.zeroCells128.setIfInBounds 2 (.int .i64 (P : Int))) 128)).cell? ⟨w.heap.size, 0, none⟩ = some (.slice (some ⟨b, off, none⟩) l.length sc)) := ((Ext.refl _).alloc _).cell cx
  clear cx
  generalize (w.alloc (.cells #[.slice (some ⟨b, off, none⟩) l.length sc] 64)).alloc (.cells (Try.zeroCells128.setIfInBounds 2 (.int .i64 (P : Int))) 128) = V0 at *
  go_loopw [16] (fun i wr => ∃ q : Nat, q ≤ P ∧ i = .int .i64 (q : Int) ∧ Hid (BkB wr (w.heap.size + 1) ⟨⟨none, 0, []⟩, ⟨none, 0, []⟩⟩ P (tabA l q 0) (fun _ _ => 0)) ∧ Hid (wr.cell? ⟨w.heap.size, 0, none⟩ = some (.slice (some ⟨b, off, none⟩) l.length sc)) ∧ Hid (Ext w wr)) (fun i _ => P - (intOf i).toNat)
  case atStart => exact ⟨0, Nat.zero_le _, rfl, HB0, HC0, HX0⟩
  case round =>
    clear HB0 HC0 HX0
    obtain ⟨wo, rfl⟩ : ∃ wo : World, wo = wr := ⟨_, rfl⟩
    obtain ⟨q, hq, rfl, HB, HC, HX⟩ := hrel
    by_cases hlt : q < P
    · have dq : decide ((q : Int) < (P : Int)) = true := decide_eq_true (by omega)
      have c2 := HB.out.c2
      have HB1 : Hid (BkB wo (w.heap.size + 1) ⟨⟨none, 0, []⟩, ⟨none, 0, []⟩⟩ P (tabA l q (q + 1)) (fun _ _ => 0)) := HB.out.congr (by funext f t; unfold tabA; by_cases h : (f < q ∨ (f = q ∧ t < 0)) ∧ f < t ∧ t < l.length + 1; rw [if_pos h, if_pos (by omega)]; rw [if_neg h, if_neg (by omega)]) rfl
      clear HB
      go_wp2_with fail
      go_loopw [5] (fun i wr => ∃ j : Nat, q < j ∧ j ≤ P ∧ i = .int .i64 (j : Int) ∧ Hid (BkB wr (w.heap.size + 1) ⟨⟨none, 0, []⟩, ⟨none, 0, []⟩⟩ P (tabA l q j) (fun _ _ => 0)) ∧ Hid (wr.cell? ⟨w.heap.size, 0, none⟩ = some (.slice (some ⟨b, off, none⟩) l.length sc)) ∧ Hid (Ext w wr)) (fun i _ => P - (intOf i).toNat)
      case atStart => exact ⟨q + 1, by omega, by omega, by go_num, HB1, HC, HX⟩
      case round =>
        clear HB1 HC HX c2
        obtain ⟨wi, rfl⟩ : ∃ wi : World, wi = wr := ⟨_, rfl⟩
        obtain ⟨j, hqj, hj, rfl, HB, HC, HX⟩ := hrel
        have c2 := HB.out.c2
        by_cases hltj : j < P
        · have dj : decide ((j : Int) < (P : Int)) = true := decide_eq_true (by omega)
          have cx := HC.out
          have HSub : Hid (IsSl 2 spC wi ⟨some ⟨b, off + q * 2, none⟩, sc - q, (l.drop q).take (j - q)⟩) := sp_sub (HS.out.ext HX.out) (by have := HP.out; omega)
          have HLen : Hid (((l.drop q).take (j - q)).length = j - q) := by show _ = _; simp; have := HP.out; omega
          have hp := HP.out
          have HSum : Hid (∀ w', Ext wi w' → Calls Try.prog 80 #[.slice (some ⟨b, off + q * 2, none⟩) (j - q) (sc - q)] w' fun e w2 => e = .returned (.agg #[.int .i64 ((apF l q j).1 : Int), .int .i64 ((apF l q j).2 : Int)]) ∧ Ext w' w2) := fun w' h => by
            have q1 := sum_any ⟨some ⟨b, off + q * 2, none⟩, sc - q, (l.drop q).take (j - q)⟩ w' (HSub.out.ext h) (by dsimp only; rw [HLen.out]; omega) (fun x hx => HBd.out x (List.drop_subset _ _ (List.take_subset _ _ hx)))
            dsimp only at q1
            rw [HLen.out] at q1
            exact q1
          have HFx : Hid (∀ w', Ext wi w' → w'.cell? ⟨w.heap.size + 1, 3 + q * 80 + j * 2, none⟩ = some (.int .i64 ((tabA l q j q j).1 : Int)) ∧ w'.cell? ⟨w.heap.size + 1, 3 + q * 80 + j * 2 + 1, none⟩ = some (.int .i64 ((tabA l q j q j).2 : Int)) ∧ w'.frozen? ⟨w.heap.size + 1, 3 + q * 80 + j * 2, none⟩ = false ∧ w'.frozen? ⟨w.heap.size + 1, 3 + q * 80 + j * 2 + 1, none⟩ = false) := fun w' h => by
            have hb := HB.out.ext h
            obtain ⟨k1, k2⟩ := hb.ap (i := q) (j := j) (by omega) (by omega)
            exact ⟨k1, k2, hb.frozen _, hb.frozen _⟩
          have HTab : Hid (updA (tabA l q j) q j (apF l q j) = tabA l q (j + 1)) := tabA_step hqj (by omega)
          generalize tabA l q j q j = told at HFx
          have hq0 : (0 : Int) ≤ (q : Int) := by omega
          have hq1 : (q : Int) < 40 := by omega
          have hj0 : (0 : Int) ≤ (j : Int) := by omega
          have hj1 : (j : Int) < 40 := by omega
          have hqj2 : (q : Int) ≤ (j : Int) := by omega
          have hjs : (j : Int) ≤ (sc : Int) := by omega
          have hjs2 : j ≤ sc := by omega
          have hqj3 : q ≤ j := by omega
          have hne : ¬ sc = q := by omega
          have hblt : w.heap.size + 1 < wi.heap.size := HB.out.lt
          clear HSub HLen hp
          generalize apF l q j = sm at *
          go_wp2_with fail
          go_region_with (first
            | (go_at_call 80; refine (HSum.out _ ?_).mono ?_; (repeat (first | exact Ext.refl _ | refine Ext.drew ?_)); rintro e we ⟨rfl, hxe⟩; have hx2 : Ext wi we := (Ext.refl wi).drew.trans hxe; obtain ⟨k1, k2, k3, k4⟩ := HFx.out _ hx2))
          have HBe := Lib.hid ((HB.out.ext hx2).setA q j (by omega) (by omega) sm)
          rw [HTab.out] at HBe
          have HCe : Hid (((we.setCell ⟨w.heap.size + 1, 3 + q * 80 + j * 2, none⟩ (.int .i64 (sm.1 : Int))).setCell ⟨w.heap.size + 1, 3 + q * 80 + j * 2 + 1, none⟩ (.int .i64 (sm.2 : Int))).cell? ⟨w.heap.size, 0, none⟩ = some (.slice (some ⟨b, off, none⟩) l.length sc)) :=
            (((Keep.refl (fun k => k ≠ w.heap.size + 1) we).setCell _ _ (fun _ h => h rfl)).setCell _ _ (fun _ h => h rfl)).cell (hx2.cell cx) (show w.heap.size ≠ w.heap.size + 1 by omega)
          have HXe : Hid (Ext w ((we.setCell ⟨w.heap.size + 1, 3 + q * 80 + j * 2, none⟩ (.int .i64 (sm.1 : Int))).setCell ⟨w.heap.size + 1, 3 + q * 80 + j * 2 + 1, none⟩ (.int .i64 (sm.2 : Int)))) :=
            ((HX.out.trans hx2).setCell (show w.heap.size ≤ w.heap.size + 1 by omega) _).setCell (show w.heap.size ≤ w.heap.size + 1 by omega) _
          clear k1 k2 k3 k4 hxe hx2 HSum HFx HB HC HX c2 cx
          generalize (we.setCell ⟨w.heap.size + 1, 3 + q * 80 + j * 2, none⟩ (.int .i64 (sm.1 : Int))).setCell ⟨w.heap.size + 1, 3 + q * 80 + j * 2 + 1, none⟩ (.int .i64 (sm.2 : Int)) = W at *
          go_wp2
          go_roundw
          case rel => exact ⟨j + 1, by omega, by omega, by go_num, HBe, HCe, HXe⟩
          case measure => simp [intOf]; omega
        · have dj : decide ((j : Int) < (P : Int)) = false := decide_eq_false (by omega)
          have HRow : Hid (tabA l q j = tabA l (q + 1) 0) := tabA_row l q j 0 (by have := HP.out; omega) (by omega)
          rw [HRow.out] at HB
          clear HRow
          go_wp2
          go_roundw
          case rel => exact ⟨q + 1, by omega, by go_num, HB, HC, HX⟩
          case measure => simp [intOf]; omega
    · have dq : decide ((q : Int) < (P : Int)) = false := decide_eq_false (by omega)
      have HAll : Hid (tabA l q 0 = apart l) := by show _ = _; rw [show q = l.length + 1 by have := HP.out; omega]; exact tabA_all l 0
      rw [HAll.out] at HB
      clear HAll
      go_wp2
      go_ret
      exact ⟨_, rfl, by omega, HB.out, HX.out⟩
end Go.Proofs.Ytfognlealnhodaa
