/-
  read of package pillar counts the readings of finds by a book, whose table of ways it fills anew; nothing else that was there is turned. The book and the finds must lie in memory as told, the finds not in the book.
-/
import Derived.Test.YtfognlealnhodaaRC
namespace Go.Proofs.Ytfognlealnhodaa
open Go.RowKit
attribute [local go_sem] Oper.semAt_some

/-- The slots while stones are looped over, and pillars. -/
def fr2 (B ws len k : Nat) (X : Nat → Value) : Array Value := #[.pointer (some ⟨B, 0, none⟩), X 1, .pointer (some ⟨ws, 0, none⟩), .pointer (some ⟨ws + 1, 0, none⟩), .int .i64 0, X 5, X 6, X 7, X 8, X 9, X 10, X 11, X 12, X 13, X 14, X 15, X 16, X 17, X 18, X 19, X 20, X 21, X 22, X 23, X 24, X 25, X 26, X 27, X 28, X 29, X 30, X 31, X 32, X 33, X 34, X 35, X 36, X 37, X 38, X 39, .int .i64 (len : Int), .int .i64 (k : Int), X 42, X 43, X 44, X 45, X 46, X 47, X 48, X 49, X 50, X 51, X 52, X 53, X 54, X 55, X 56, X 57, X 58, X 59, X 60, X 61, X 62, X 63, X 64, X 65, X 66, X 67, X 68, X 69, X 70, X 71, X 72, X 73, X 74, X 75, X 76, X 77, X 78, X 79, X 80, X 81, X 82, X 83, X 84, X 85, X 86, X 87, X 88, X 89, X 90, X 91]
def fr3 (B ws len k sb p : Nat) (cs : List Value) (X : Nat → Value) : Array Value := #[.pointer (some ⟨B, 0, none⟩), X 1, .pointer (some ⟨ws, 0, none⟩), .pointer (some ⟨ws + 1, 0, none⟩), .int .i64 0, X 5, .pointer (some ⟨sb, 0, none⟩), X 7, X 8, X 9, X 10, X 11, X 12, X 13, X 14, X 15, X 16, X 17, X 18, X 19, X 20, X 21, X 22, X 23, X 24, X 25, X 26, X 27, X 28, X 29, X 30, X 31, X 32, X 33, X 34, X 35, X 36, X 37, X 38, X 39, .int .i64 (len : Int), .int .i64 (k : Int), X 42, X 43, X 44, X 45, X 46, X 47, X 48, .agg cs.toArray, .int .i64 (p : Int), X 51, X 52, X 53, X 54, X 55, X 56, X 57, X 58, X 59, X 60, X 61, X 62, X 63, X 64, X 65, X 66, X 67, X 68, X 69, X 70, X 71, X 72, X 73, X 74, X 75, X 76, X 77, X 78, X 79, X 80, X 81, X 82, X 83, X 84, X 85, X 86, X 87, X 88, X 89, X 90, X 91]
def fr4 (cs : List Value) (sm q : Nat) (X : Nat → Value) : Array Value := #[X 0, X 1, X 2, X 3, .int .i64 0, X 5, X 6, X 7, X 8, X 9, .int .i64 (sm : Int), X 11, X 12, X 13, X 14, X 15, X 16, X 17, X 18, X 19, X 20, X 21, X 22, X 23, X 24, X 25, X 26, X 27, X 28, X 29, X 30, X 31, X 32, X 33, X 34, X 35, X 36, X 37, X 38, X 39, X 40, X 41, X 42, X 43, X 44, X 45, X 46, X 47, X 48, X 49, X 50, X 51, X 52, X 53, X 54, X 55, X 56, X 57, X 58, X 59, X 60, X 61, X 62, X 63, X 64, X 65, X 66, X 67, X 68, X 69, X 70, X 71, X 72, X 73, X 74, X 75, X 76, X 77, X 78, X 79, X 80, X 81, X 82, .agg cs.toArray, .int .i64 (q : Int), X 85, X 86, X 87, X 88, X 89, X 90, X 91]
def Inv4 (cs : List Value) (g : Nat → Nat) (ds : List Deferred) (w0 : World) (a : Act) (wr : World) : Prop := ∃ (X : Nat → Value) (q : Nat), a = { tmps := fr4 cs (sumN g q) q X, defers := ds } ∧ q ≤ 40 ∧ wr = w0
theorem Inv4.of {cs : List Value} {g : Nat → Nat} {ds : List Deferred} {w0 : World} {t : Array Value} {wr : World} (q : Nat) (ht : t = fr4 cs (sumN g q) q (fun i => t.getD i undef)) (hq : q ≤ 40) (h : wr = w0) : Inv4 cs g ds w0 { tmps := t, defers := ds } wr := ⟨_, q, by rw [← ht], hq, h⟩
/-- What stands while stones are looped over. -/
structure St2 (B P : Nat) (f : FV) (ap : Nat → Nat → Nat × Nat) (w : World) (ds : List Deferred) (k p : Nat) (wr : World) : Prop where
  coll : Coll w.heap.size wr.heap.size ds wr
  bk : BkB wr B f P ap (tabW f.gp.l f.nm.l ap P k p [])
  keep : Keep (fun k => k ≠ B) w wr
  b1 : wr.heap[w.heap.size]? = some (.cells #[.pointer (some ⟨B, 0, none⟩)] 100 (0, 0))
  b2 : wr.heap[w.heap.size + 1]? = some (.cells #[.slice f.gp.a f.gp.l.length f.gp.c, .slice f.nm.a f.nm.l.length f.nm.c] 66 (0, 0))
def Inv2 (B P : Nat) (f : FV) (ap : Nat → Nat → Nat × Nat) (w : World) (a : Act) (wr : World) : Prop := ∃ (X : Nat → Value) (ds : List Deferred) (k : Nat), a = { tmps := fr2 B w.heap.size f.gp.l.length k X, defers := ds } ∧ k ≤ f.gp.l.length ∧ Hid (St2 B P f ap w ds k 0 wr)
theorem Inv2.of {B P : Nat} {f : FV} {ap : Nat → Nat → Nat × Nat} {w : World} {t : Array Value} {ds : List Deferred} {wr : World} (k : Nat) (ht : t = fr2 B w.heap.size f.gp.l.length k (fun i => t.getD i undef)) (hk : k ≤ f.gp.l.length) (h : Hid (St2 B P f ap w ds k 0 wr)) : Inv2 B P f ap w { tmps := t, defers := ds } wr := ⟨_, ds, k, by rw [← ht], hk, h⟩
def Inv3 (B P : Nat) (f : FV) (ap : Nat → Nat → Nat × Nat) (w : World) (k sb : Nat) (cs : List Value) (a : Act) (wr : World) : Prop := ∃ (X : Nat → Value) (ds : List Deferred) (p : Nat), a = { tmps := fr3 B w.heap.size f.gp.l.length k sb p cs X, defers := ds } ∧ p ≤ 40 ∧ Hid (St2 B P f ap w ds k p wr) ∧ Hid (IBox wr sb (k : Int))
theorem Inv3.of {B P : Nat} {f : FV} {ap : Nat → Nat → Nat × Nat} {w : World} {k sb : Nat} {cs : List Value} {t : Array Value} {ds : List Deferred} {wr : World} (p : Nat) (ht : t = fr3 B w.heap.size f.gp.l.length k sb p cs (fun i => t.getD i undef)) (hp : p ≤ 40) (h : Hid (St2 B P f ap w ds k p wr)) (hs : Hid (IBox wr sb (k : Int))) : Inv3 B P f ap w k sb cs { tmps := t, defers := ds } wr := ⟨_, ds, p, by rw [← ht], hp, h, hs⟩

set_option maxRecDepth 100000 in
set_option maxHeartbeats 8000000 in
theorem read_any (B P : Nat) (f0 f : FV) (ap : Nat → Nat → Nat × Nat) (wy0 : Nat → Nat → Nat) (w : World) (hw : BkB w B f0 P ap wy0) (hf : IsF w f) (hO : FIn (fun k => k ≠ B) f) (hn : f.nm.l.length = f.gp.l.length + 1) (hg : f.gp.l.length ≤ 39) (hP : P ≤ 40) :
    Calls Try.prog 64 #[.pointer (some ⟨B, 0, none⟩), f.v] w fun e w' => e = .returned (.int .i64 (readF f.gp.l f.nm.l ap P : Int)) ∧ BkB w' B f P ap (tabW f.gp.l f.nm.l ap P f.gp.l.length 0 []) ∧ Keep (fun k => k ≠ B) w w' := by
  obtain ⟨V1, hV1⟩ : ∃ V1, (w.alloc (.cells #[.pointer (some ⟨B, 0, none⟩)] 100)).alloc (.cells #[.slice f.gp.a f.gp.l.length f.gp.c, .slice f.nm.a f.nm.l.length f.nm.c] 66) = V1 := ⟨_, rfl⟩
  have hX1 : Ext w V1 := by rw [← hV1]; exact ((Ext.refl w).alloc _).alloc _
  have HXa := Lib.hid hX1
  have HN := Lib.hid hn
  clear hn
  have HBlt : Hid (B < w.heap.size) := hw.lt
  have HO := Lib.hid hO
  have HFw := Lib.hid hf
  have b1 : V1.heap[w.heap.size]? = some (.cells #[.pointer (some ⟨B, 0, none⟩)] 100 (0, 0)) := by rw [← hV1]; exact (alloc_old (by simp only [World.size_alloc]; omega)).trans (alloc_new rfl)
  have b2 : V1.heap[w.heap.size + 1]? = some (.cells #[.slice f.gp.a f.gp.l.length f.gp.c, .slice f.nm.a f.nm.l.length f.nm.c] 66 (0, 0)) := by rw [← hV1]; exact alloc_new (by simp only [World.size_alloc])
  have HB1 := Lib.hid (hw.ext hX1)
  have HB2 := Lib.hid (HB1.out.setF f)
  have hK2 : Keep (fun k => k ≠ B) V1 ((V1.setCell ⟨B, 0, none⟩ (.slice f.gp.a f.gp.l.length f.gp.c)).setCell ⟨B, 1, none⟩ (.slice f.nm.a f.nm.l.length f.nm.c)) := ((Keep.refl _ V1).setCell _ _ (fun _ h => h rfl)).setCell _ _ (fun _ h => h rfl)
  have HK2 := Lib.hid hK2
  have hbl := hw.lt
  have f0' := HB1.out.frozen 0
  have f1' := HB1.out.frozen 1
  have d0 := HB1.out.c0
  have d1 := HB1.out.c1
  have c0 : V1.cell? ⟨w.heap.size, 0, none⟩ = some (.pointer (some ⟨B, 0, none⟩)) := (cell_at b1 0).trans rfl
  have c1 : V1.cell? ⟨w.heap.size + 1, 0, none⟩ = some (.slice f.gp.a f.gp.l.length f.gp.c) := (cell_at b2 0).trans rfl
  have c2 : V1.cell? ⟨w.heap.size + 1, 1, none⟩ = some (.slice f.nm.a f.nm.l.length f.nm.c) := (cell_at b2 1).trans rfl
  have Hb1 := Lib.hid b1
  have Hb2 := Lib.hid b2
  clear hw hf hO hX1 hK2 b1 b2
  refine callsIn_wide.1 (callsIn_of_wp_marks (n := 3) Try.func64 rfl trivial ?_ rfl)
  simp only [Try.ntmps64, List.size_toArray, List.length_cons, List.length_nil, Nat.reduceAdd, Nat.reduceSub, Array.replicate_succ, Array.replicate_zero, List.push_toArray, List.append_toArray, List.nil_append, List.cons_append]
  refine wpIn_wide.2 ?_
  have hne : w.heap.size ≠ B := by omega
  have hcl : ∀ ty, (Builtin.clear_ #[130] ty #[.slice (some ⟨B, 3203, none⟩) 40 40]).run Try.prog ((V1.setCell ⟨B, 0, none⟩ (.slice f.gp.a f.gp.l.length f.gp.c)).setCell ⟨B, 1, none⟩ (.slice f.nm.a f.nm.l.length f.nm.c)) = .ok (.tuple #[]) (((V1.setCell ⟨B, 0, none⟩ (.slice f.gp.a f.gp.l.length f.gp.c)).setCell ⟨B, 1, none⟩ (.slice f.nm.a f.nm.l.length f.nm.c)).setCells B 3203 zW) := fun ty => clear_ways HB2.out ty
  have HB3 := Lib.hid (HB2.out.clear)
  have HK3 := Lib.hid (keep_setCells (a := V1) B (fun _ h => h rfl) zW 3203 _ HK2.out)
  have e0 := HK3.out.cell c0 (show w.heap.size ≠ B from hne)

  have p2 := HB3.out.c2
  have HKw : Hid (Keep (fun k => k ≠ B) w (((V1.setCell ⟨B, 0, none⟩ (.slice f.gp.a f.gp.l.length f.gp.c)).setCell ⟨B, 1, none⟩ (.slice f.nm.a f.nm.l.length f.nm.c)).setCells B 3203 zW)) := Keep.trans (Keep.of_ext HXa.out) HK3.out
  have H1 : Hid ((((V1.setCell ⟨B, 0, none⟩ (.slice f.gp.a f.gp.l.length f.gp.c)).setCell ⟨B, 1, none⟩ (.slice f.nm.a f.nm.l.length f.nm.c)).setCells B 3203 zW).heap[w.heap.size]? = some (.cells #[.pointer (some ⟨B, 0, none⟩)] 100 (0, 0))) := HK3.out.heap Hb1.out hne
  have H2 : Hid ((((V1.setCell ⟨B, 0, none⟩ (.slice f.gp.a f.gp.l.length f.gp.c)).setCell ⟨B, 1, none⟩ (.slice f.nm.a f.nm.l.length f.nm.c)).setCells B 3203 zW).heap[w.heap.size + 1]? = some (.cells #[.slice f.gp.a f.gp.l.length f.gp.c, .slice f.nm.a f.nm.l.length f.nm.c] 66 (0, 0))) := HK3.out.heap Hb2.out (show w.heap.size + 1 ≠ B by omega)
  go_wp2_with fail
  clear hcl hV1 d0 d1 c0 c1 c2 f0' f1' e0 p2 HK2 HK3 HB1 HB2 Hb1 Hb2 HXa
  generalize ((V1.setCell ⟨B, 0, none⟩ (.slice f.gp.a f.gp.l.length f.gp.c)).setCell ⟨B, 1, none⟩ (.slice f.nm.a f.nm.l.length f.nm.c)).setCells B 3203 zW = V3 at *

  have HB30 : Hid (BkB V3 B f P ap (tab0 f.gp.l f.nm.l ap P 0)) := by rw [tab0_zero]; exact HB3.out
  have HFV : Hid (IsF V3 f) := HFw.out.keep HKw.out HO.out
  clear HB3
  go_loopw [25] (fun i wr => ∃ m : Nat, m ≤ P ∧ i = .int .i64 (m : Int) ∧ Hid (BkB wr B f P ap (tab0 f.gp.l f.nm.l ap P m)) ∧ Hid (Keep (fun k => k ≠ B) V3 wr)) (fun i _ => P - (intOf i).toNat)
  case atStart => exact ⟨0, Nat.zero_le _, rfl, HB30, Keep.refl _ _⟩
  case round =>
    clear HB30
    obtain ⟨wo, rfl⟩ : ∃ wo : World, wo = wr := ⟨_, rfl⟩
    obtain ⟨m, hm, rfl, HB, HK⟩ := hrel
    have e0 := (cell_at (HK.out.heap H1.out hne) 0).trans rfl
    by_cases hlt : m < P
    · have dm : decide ((m : Int) < (P : Int)) = true := decide_eq_true (by omega)
      have HSy : Hid (Calls Try.prog 81 #[.pointer (some ⟨B, 0, none⟩), .int .i64 0, .int .i64 (m : Int)] wo fun e w' => e = .returned (.bool (saysF f.nm.l 0 m)) ∧ wo = w') := says_bkb B P f ap _ 0 m wo HB.out (HFV.out.keep HK.out HO.out) (by rw [HN.out]; omega)
      have i1 : (0 : Int) ≤ (m : Int) := by omega
      have i2 : (m : Int) < 40 := by omega
      cases hs : saysF f.nm.l 0 m
      · rw [hs] at HSy
        have HT : Hid (tab0 f.gp.l f.nm.l ap P m = tab0 f.gp.l f.nm.l ap P (m + 1)) := tab0_no hs
        rw [HT.out] at HB
        clear hs HT
        go_wp2_with (go_at_call 81; refine HSy.out.mono ?_; rintro e w' ⟨rfl, rfl⟩)
        go_roundw
        case rel => exact ⟨m + 1, by omega, by go_num, HB, HK⟩
        case measure => simp [intOf]; omega
      · rw [hs] at HSy
        have HT : Hid (updN (tab0 f.gp.l f.nm.l ap P m) 0 m 1 = tab0 f.gp.l f.nm.l ap P (m + 1)) := tab0_yes hlt hs
        have hst := HB.out.setW 0 m (by omega) (by omega) 1
        rw [HT.out, show 3203 + 0 * 40 + m = 3203 + m by omega] at hst
        have HSt : Hid (BkB (wo.setCell ⟨B, 3203 + m, none⟩ (.int .i64 1)) B f P ap (tab0 f.gp.l f.nm.l ap P (m + 1))) := hst
        have ct := HB.out.way (i := 0) (j := m) (by omega) (by omega)
        rw [show 3203 + 0 * 40 + m = 3203 + m by omega] at ct
        have ft := HB.out.frozen (3203 + m)
        have hbl2 := HB.out.lt
        generalize tab0 f.gp.l f.nm.l ap P m 0 m = told at ct
        clear hs HT hst
        go_wp2_with (go_at_call 81; refine HSy.out.mono ?_; rintro e w' ⟨rfl, rfl⟩)
        go_roundw
        case rel => exact ⟨m + 1, by omega, by go_num, HSt, HK.out.setCell _ _ (fun _ h => h rfl)⟩
        case measure => simp [intOf]; omega
    · have dm : decide ((m : Int) < (P : Int)) = false := decide_eq_false (by omega)
      have HT : Hid (tab0 f.gp.l f.nm.l ap P m = tabW f.gp.l f.nm.l ap P 0 0 []) := by show _ = _; rw [show m = P by omega]; exact tab0_tabW _ _ _ _
      rw [HT.out] at HB
      have HKo : Hid (Keep (fun k => k ≠ B) w wo) := Keep.trans HKw.out HK.out
      have H1o : Hid (wo.heap[w.heap.size]? = some (.cells #[.pointer (some ⟨B, 0, none⟩)] 100 (0, 0))) := HK.out.heap H1.out hne
      have H2o : Hid (wo.heap[w.heap.size + 1]? = some (.cells #[.slice f.gp.a f.gp.l.length f.gp.c, .slice f.nm.a f.nm.l.length f.nm.c] 66 (0, 0))) := HK.out.heap H2.out (show w.heap.size + 1 ≠ B by omega)
      have q1 : wo.cell? ⟨w.heap.size + 1, 0, none⟩ = some (.slice f.gp.a f.gp.l.length f.gp.c) := (cell_at H2o.out 0).trans rfl
      clear HT e0 HK HKw H1 H2 HFV
      go_wp2_with fail
      clear q1
      clear dm hlt hm
      have HSt : Hid (St2 B P f ap w [] 0 0 wo) := ⟨trivial, HB.out, HKo.out, H1o.out, H2o.out⟩
      refine wp_loop (Inv2 B P f ap w) (fun a _ => f.gp.l.length - (intOf (a.tmps.getD 41 undef)).toNat) (Inv2.of 0 rfl (Nat.zero_le _) HSt) ?_
      clear HB HKo H1o H2o HSt
      rintro a wr ⟨X, ds, k, rfl, hk, HSt⟩
      conv => arg 4; dsimp only [fr2]
      by_cases hltk : k < f.gp.l.length
      · have dk : decide ((k : Int) < (f.gp.l.length : Int)) = true := decide_eq_true (by omega)
        have i1 : (0 : Int) ≤ (k : Int) := by omega
        have i2 : (k : Int) < 40 := by omega
        have e0 : (wr.alloc (.cells #[.int .i64 (k : Int)] 3)).cell? ⟨w.heap.size, 0, none⟩ = some (.pointer (some ⟨B, 0, none⟩)) := ((Ext.refl wr).alloc _).cell ((cell_at HSt.out.b1 0).trans rfl)
        have hsb : (wr.alloc (.cells #[.int .i64 (k : Int)] 3)).cell? ⟨wr.heap.size, 0, none⟩ = some (.int .i64 (k : Int)) := (ibox_new _ _).cell
        go_wp2_with fail
        have hrg := row_range (HSt.out.bk.ext ((Ext.refl wr).alloc (.cells #[.int .i64 (k : Int)] 3))) k (by omega)
        have hcl := rowA_len (tabW f.gp.l f.nm.l ap P k 0 []) k
        have HArr : Hid (∀ p, p < 40 → (rowA (tabW f.gp.l f.nm.l ap P k 0 []) k)[p]? = some (.int .i64 (wayR f.gp.l f.nm.l ap P k p : Int))) := fun p hp => by rw [← List.getElem?_toArray, rowA_get _ _ _ hp, tabW_row]
        generalize rowA (tabW f.gp.l f.nm.l ap P k 0 []) k = cs at *
        have hu := Try.underlying125
        have hi : (Try.prog.info? 125).map (·.size) = some cs.length := by rw [hcl]; exact info125
        have HS : Hid (∀ w1, Ext (wr.alloc (.cells #[.int .i64 (k : Int)] 3)) w1 → w1.cell? ⟨w.heap.size, 0, none⟩ = some (.pointer (some ⟨B, 0, none⟩)) ∧ w1.cell? ⟨wr.heap.size, 0, none⟩ = some (.int .i64 (k : Int)) ∧ w1.rangeAt B (3203 + k * 40) cs) := fun w1 h => ⟨h.cell e0, h.cell hsb, fun j v hv => h.cell (hrg j v hv)⟩
        go_region_held3 (fun w1 => w1.cell? ⟨w.heap.size, 0, none⟩ = some (.pointer (some ⟨B, 0, none⟩)) ∧ w1.cell? ⟨wr.heap.size, 0, none⟩ = some (.int .i64 (k : Int)) ∧ w1.rangeAt B (3203 + k * 40) cs) (refine HS.out _ ?_ <;> (repeat (first | exact Ext.refl _ | refine Ext.drew ?_))) (fail)
        go_wp2_with fail
        have HSt0 : Hid (St2 B P f ap w ds k 0 (wr.alloc (.cells #[.int .i64 (k : Int)] 3)).drew) := by
          have hx : Ext wr (wr.alloc (.cells #[.int .i64 (k : Int)] 3)).drew := ((Ext.refl wr).alloc _).drew
          exact ⟨(HSt.out.coll.ext hx).mono hx.size, HSt.out.bk.ext hx, HSt.out.keep.ext hx, hx.block HSt.out.b1, hx.block HSt.out.b2⟩
        have HSb : Hid (IBox (wr.alloc (.cells #[.int .i64 (k : Int)] 3)).drew wr.heap.size (k : Int)) := (ibox_new _ _).ext (Ext.refl _).drew
        have HLw : Hid (w.heap.size + 1 < wr.heap.size) := (Array.getElem?_eq_some_iff.1 HSt.out.b2).1
        refine wp_loop (Inv3 B P f ap w k wr.heap.size cs) (fun a _ => 40 - (intOf (a.tmps.getD 50 undef)).toNat) (Inv3.of 0 rfl (by omega) HSt0 HSb) ?_
        clear HSt HSt0 HSb HS hrg e0 hsb hi hu
        obtain ⟨sb, hsbe⟩ : ∃ sb, wr.heap.size = sb := ⟨_, rfl⟩
        rw [hsbe] at HLw ⊢
        clear hsbe
        rintro a w3 ⟨X3, ds3, p, rfl, hp, HSt, HSb⟩
        conv => arg 4; dsimp only [fr3]
        by_cases hltp : p < 40
        · have dp : decide ((p : Int) < 40) = true := decide_eq_true (by omega)
          have j1 : (0 : Int) ≤ (p : Int) := by omega
          have j2 : (p : Int) < 40 := by omega
          have hix := HArr.out p hltp
          have HWl := Lib.hid (wayR_le f.gp.l f.nm.l ap P k p (by omega))
          generalize hway : wayR f.gp.l f.nm.l ap P k p = ways at *
          have HWay := Lib.hid hway
          clear hway
          have HXa : Hid (Ext w3 (w3.alloc (.cells #[.int .i64 (ways : Int)] 3))) := (Ext.refl w3).alloc _
          have g0 : (w3.alloc (.cells #[.int .i64 (ways : Int)] 3)).cell? ⟨w.heap.size, 0, none⟩ = some (.pointer (some ⟨B, 0, none⟩)) := HXa.out.cell ((cell_at HSt.out.b1 0).trans rfl)
          have g1 : (w3.alloc (.cells #[.int .i64 (ways : Int)] 3)).cell? ⟨sb, 0, none⟩ = some (.int .i64 (k : Int)) := HXa.out.cell HSb.out.cell
          have HBe := Lib.hid (behind_gives B P k p f ap (w3.alloc (.cells #[.int .i64 (ways : Int)] 3)) ((HFw.out.keep (HSt.out.keep.alloc _) HO.out)) hP hltp hltk (by rw [HN.out]; omega))
          have hidx := run_index125 cs.toArray p _ hltp (by rw [List.getElem?_toArray]; exact hix) w3
          clear hix
          go_wp2_with fail
          clear g0 g1 hidx
          refine HBe.out.mono ?_
          rintro e w2 ⟨pb, wb, sb2, rfl, hpb, hwb, hsb2, hx2, hG⟩
          rw [World.size_alloc] at hpb hwb hsb2
          have HX2 : Hid (Ext w3 w2) := HXa.out.trans hx2
          have HWb : Hid (IBox w2 w3.heap.size (ways : Int)) := (ibox_new w3 (ways : Int)).ext hx2
          have HSz : Hid (B < w.heap.size ∧ w.heap.size + 1 < w3.heap.size ∧ w3.heap.size < w2.heap.size ∧ sb < w3.heap.size ∧ w.heap.size + 1 < sb) := ⟨HBlt.out, (Array.getElem?_eq_some_iff.1 HSt.out.b2).1, HWb.out.lt, HSb.out.lt, HLw.out⟩
          have HG := Lib.hid (hG w2 (fun x => x ≠ B) (Ext.refl _) (by have := HSz.out; refine ⟨?_, ?_, ?_⟩ <;> omega) HO.out)
          clear hG hx2 HBe hpb hwb hsb2 HXa
          go_wp2_with fail
          refine (wpIn_wide (n := 3)).1 ?_
          refine wp_rangeFuncR (a₁ := ?a1) rfl enters_90 HG.out rfl
            (fun hi pre W => BkB W B f P ap (tabW f.gp.l f.nm.l ap P k p pre) ∧ Keep (fun x => x < w2.heap.size ∧ x ≠ B) w2 W)
            (fun hi c pre W => False)
            ?_ ?_ ?_ ?keeps ?assign ?body ?done ?stop
          case assign =>
            intro l s W K hK
            gi_wp2
            exact hK
          case keeps =>
            intro hi s A hh h
            exact ⟨_, h.1⟩
          · intro hi s A B' hh h hk
            have := HSz.out
            exact ⟨h.1.keep hk (.inl (by omega)), h.2.trans (hk.mono (fun k _ h => .inl h.1))⟩
          · intro c hi s A B' hh h hk
            exact h
          · intro hi hh
            exact ⟨HSt.out.bk.ext HX2.out, Keep.refl _ _⟩
          case stop =>
            intro hi c pre W hh hp h
            exact h.elim
          case body =>
            rintro l hi pre q W hh hhW ⟨hB, hKp⟩ hpre
            have hSz := HSz.out
            have hq := (behF_mem.1 (hpre.subset (List.mem_append_right _ (List.mem_singleton.2 rfl)))).1
            have HFr := Lib.hid (behF_fresh hpre)
            have c1 : W.cell? ⟨w.heap.size, 0, none⟩ = some (.pointer (some ⟨B, 0, none⟩)) := (cell_at (hKp.heap (HX2.out.block HSt.out.b1) ⟨by omega, by omega⟩) 0).trans rfl
            have c2 := (show IBox W sb (k : Int) from hKp.heap (HSb.out.ext HX2.out) ⟨by omega, by omega⟩).cell
            have c3 := (show IBox W w3.heap.size (ways : Int) from hKp.heap HWb.out ⟨by omega, by omega⟩).cell
            have cq := hB.way (i := k + 1) (j := q) (by omega) (by omega)
            have fq := hB.frozen (3203 + (k + 1) * 40 + q)
            have hbt := part_fin f.gp.l f.nm.l ap P k p q pre (by omega) (by omega)
            have hset := hB.setW (k + 1) q (by omega) (by omega) (tabW f.gp.l f.nm.l ap P k p pre (k + 1) q + ways)
            rw [← HWay.out, tabW_step HFr.out, HWay.out] at hset
            have hWl := HWl.out
            generalize tabW f.gp.l f.nm.l ap P k p pre (k + 1) q = old at *
            obtain ⟨k1, hk1⟩ : ∃ k1 : Nat, k + 1 = k1 := ⟨_, rfl⟩
            rw [hk1] at cq fq hset
            have hwr : IntKind.i64.wrap ((k : Int) + 1) = (k1 : Int) := by rw [IntWalk.i64_in _ (by omega)]; omega
            have hwr2 : IntKind.i64.wrap ((old : Int) + (ways : Int)) = ((old + ways : Nat) : Int) := by rw [IntWalk.i64_in _ (by omega)]; omega
            have j3 : (0 : Int) ≤ (k1 : Int) := by omega
            have j4 : (k1 : Int) < 40 := by omega
            have j5 : (0 : Int) ≤ (q : Int) := by omega
            have j6 : (q : Int) < 40 := by omega
            have hmx : Try.prog.follows .mixedOrders = true := by kernel_rfl
            have HSet := Lib.hid hset
            have HKp := Lib.hid hKp
            have HBW := Lib.hid hB.lt
            have HK1 := Lib.hid hk1
            clear hset hKp hB hpre hk1 hbt
            generalize hsum : old + ways = sm at *
            have HSum := Lib.hid hsum
            clear hsum
            gi_wp2_with fail
            refine round_tail 15 hmx (by kernel_rfl) (by kernel_rfl) ?_
            simp only [List.take_succ_cons, List.take_zero, List.drop_succ_cons, List.drop_zero]
            change wpStill _ _ W.drew _ _ _
            repeat still_step
            refine wpStill_nil ?_
            change wpListIn _ _ _ _ _ _ _ W.drew
            gi_wp2_with fail
            refine ⟨(Keep.refl _ W).drew.setCell _ _ (fun _ h => ?_), HSet.out.ext (Ext.refl _).drew, HKp.out.drew.setCell _ _ (fun _ h => h.2 rfl)⟩
            rcases h with h | h
            · exact h.2 rfl
            · have := h.1; simp only at this; omega
          case done =>
            rintro hi W hh ⟨hB, hKp⟩ hD
            have hSz := HSz.out
            have hnB : ∀ b, w2.heap[b]? = some (.deferred (some [])) → b ≠ B := fun b hb e => by
              obtain ⟨cur, hc, _⟩ := HSt.out.bk.ext HX2.out
              rw [e, hc] at hb; cases hb
            have HStW : Hid (St2 B P f ap w ({ target := .collected w2.heap.size, args := #[] } :: ds3) k (p + 1) W) := by
              refine ⟨Coll.cons (((HSt.out.coll.ext HX2.out).mono (show w3.heap.size ≤ w2.heap.size by omega)).keepD hKp (fun b _ h hb => ⟨h, hnB b hb⟩)) (by omega) (Array.getElem?_eq_some_iff.1 hD).1 hD, ?_, ?_, hKp.heap (HX2.out.block HSt.out.b1) ⟨by omega, by omega⟩, hKp.heap (HX2.out.block HSt.out.b2) ⟨by omega, by omega⟩⟩
              · rw [← tabW_next]; exact hB
              · exact (HSt.out.keep.ext HX2.out).trans' hKp (fun i h1 h2 => ⟨by omega, h2⟩)
            have HSbW : Hid (IBox W sb (k : Int)) := hKp.heap (HSb.out.ext HX2.out) ⟨by omega, by omega⟩
            clear hB hKp hD hnB
            simp only [Exit.inBlock, Exit.then]
            go_wp2_with fail
            refine ⟨Inv3.of (p + 1) rfl (by omega) HStW HSbW, ?_⟩
            simp [intOf, fr3]; omega
        · have dp : decide ((p : Int) < 40) = false := decide_eq_false (by omega)
          have hpe : p = 40 := by omega
          have HSt2 : Hid (St2 B P f ap w ds3 (k + 1) 0 w3) := by
            have h := HSt.out
            rw [hpe] at h
            exact ⟨h.coll, by rw [← tabW_done]; exact h.bk, h.keep, h.b1, h.b2⟩
          clear hpe HSt
          go_wp2_with fail
          refine ⟨Inv2.of (k + 1) rfl (by omega) HSt2, ?_⟩
          simp [intOf, fr2]; omega
      · have dk : decide ((k : Int) < (f.gp.l.length : Int)) = false := decide_eq_false (by omega)
        have hke : k = f.gp.l.length := by omega
        have HSt2 : Hid (St2 B P f ap w ds f.gp.l.length 0 wr) := by rw [← hke]; exact HSt.out
        clear HSt
        go_wp2_with fail
        clear hke dk
        generalize hln : f.gp.l.length = ln at *
        have HLn := Lib.hid hln
        have i1 : (0 : Int) ≤ (ln : Int) := by omega
        have i2 : (ln : Int) < 40 := by omega
        have e0 : wr.cell? ⟨w.heap.size, 0, none⟩ = some (.pointer (some ⟨B, 0, none⟩)) := (cell_at HSt2.out.b1 0).trans rfl
        have e1 : wr.cell? ⟨w.heap.size + 1, 0, none⟩ = some (.slice f.gp.a ln f.gp.c) := by rw [← hln]; exact (cell_at HSt2.out.b2 0).trans rfl
        clear hln
        have hrg := row_range HSt2.out.bk ln (by omega)
        have hcl := rowA_len (tabW f.gp.l f.nm.l ap P ln 0 []) ln
        have HArr : Hid (∀ p, p < 40 → (rowA (tabW f.gp.l f.nm.l ap P ln 0 []) ln)[p]? = some (.int .i64 (wayR f.gp.l f.nm.l ap P ln p : Int))) := fun p hp => by rw [← List.getElem?_toArray, rowA_get _ _ _ hp, tabW_row]
        generalize rowA (tabW f.gp.l f.nm.l ap P ln 0 []) ln = cs at *
        have hu := Try.underlying125
        have hi : (Try.prog.info? 125).map (·.size) = some cs.length := by rw [hcl]; exact info125
        have HS : Hid (∀ w1, Ext wr w1 → w1.cell? ⟨w.heap.size, 0, none⟩ = some (.pointer (some ⟨B, 0, none⟩)) ∧ w1.cell? ⟨w.heap.size + 1, 0, none⟩ = some (.slice f.gp.a ln f.gp.c) ∧ w1.rangeAt B (3203 + ln * 40) cs) := fun w1 h => ⟨h.cell e0, h.cell e1, fun j v hv => h.cell (hrg j v hv)⟩
        go_region_held3 (fun w1 => w1.cell? ⟨w.heap.size, 0, none⟩ = some (.pointer (some ⟨B, 0, none⟩)) ∧ w1.cell? ⟨w.heap.size + 1, 0, none⟩ = some (.slice f.gp.a ln f.gp.c) ∧ w1.rangeAt B (3203 + ln * 40) cs) (refine HS.out _ ?_ <;> (repeat (first | exact Ext.refl _ | refine Ext.drew ?_))) (fail)
        go_wp2_with fail
        clear HS hrg e0 e1 hi hu
        have HSt3 : Hid (St2 B P f ap w ds ln 0 wr.drew) := by
          have h := HSt2.out
          have hx : Ext wr wr.drew := (Ext.refl wr).drew
          exact ⟨h.coll.ext hx, h.bk.ext hx, h.keep.ext hx, hx.block h.b1, hx.block h.b2⟩
        clear HSt2
        have HGb : Hid (∀ q, q ≤ 40 → wayR f.gp.l f.nm.l ap P ln q ≤ 1099511627776) := fun q hq => wayR_le _ _ _ _ _ _ hq
        have HRd : Hid (sumN (wayR f.gp.l f.nm.l ap P ln) 40 = readF f.gp.l f.nm.l ap P) := by show _ = _; unfold readF; rw [HLn.out]
        generalize hgg : wayR f.gp.l f.nm.l ap P ln = g at *
        clear hgg
        refine wp_loop (Inv4 cs g ds wr.drew) (fun a _ => 40 - (intOf (a.tmps.getD 84 undef)).toNat) (Inv4.of 0 rfl (by omega) rfl) ?_
        rintro a w4 ⟨X4, q, rfl, hq, rfl⟩
        conv => arg 4; dsimp only [fr4]
        by_cases hltq : q < 40
        · have dq : decide ((q : Int) < 40) = true := decide_eq_true (by omega)
          have hidx := run_index125 cs.toArray q _ hltq (by rw [List.getElem?_toArray]; exact HArr.out q hltq) wr.drew
          have hb1 := sumN_le (f := g) (b := 1099511627776) q (fun x hx => HGb.out x (by omega))
          have hb2 := HGb.out q (by omega)
          have hwr : IntKind.i64.wrap ((sumN g q : Int) + (g q : Int)) = ((sumN g (q + 1) : Nat) : Int) := by rw [IntWalk.i64_in _ (by omega)]; simp only [sumN]; omega
          go_wp2_with fail
          refine ⟨Inv4.of (q + 1) rfl (by omega) rfl, ?_⟩
          simp [intOf, fr4]; omega
        · have dq : decide ((q : Int) < 40) = false := decide_eq_false (by omega)
          have hqe : q = 40 := by omega
          have HR4 : Hid (sumN g q = readF f.gp.l f.nm.l ap P) := by show _ = _; rw [hqe]; exact HRd.out
          clear hqe
          go_wp2_with fail
          simp only [bodyPostM]
          refine leaves_coll (hi := wr.drew.heap.size) (lo := w.heap.size) HSt3.out.coll fun w' hs => ?_
          refine ⟨_, results_tmp rfl _ _ _, ?_, ?_, Shut.keepD HSt3.out.keep hs (Nat.le_refl _)⟩
          · show Ending.returned (.int .i64 ((sumN g q : Nat) : Int)) = _
            rw [HR4.out]
          · rw [HLn.out]; exact hs.bkb HSt3.out.bk
end Go.Proofs.Ytfognlealnhodaa
