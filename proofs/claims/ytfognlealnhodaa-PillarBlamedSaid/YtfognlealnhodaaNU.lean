/-
  numbers of package pillar returns, for each stone of the finds that were read last, the pillars that it is in some reading, in new memory; nothing that was there is turned. The book must lie in memory as told.
-/
import Derived.Test.YtfognlealnhodaaRD
import Derived.Deep.OwnRows
namespace Go.Proofs.Ytfognlealnhodaa
open Go.RowKit

/-- Block G holds n slices. -/
def LB (w : World) (G n : Nat) (rows : Nat → SL Nat) : Prop := ∃ cs : Array Value, w.heap[G]? = some (.cells cs 25 (0, 0)) ∧ cs.size = n ∧ ∀ i, i < n → cs[i]? = some (rows i).v
theorem LB.keep {a b : World} {G n : Nat} {rows : Nat → SL Nat} {D : Nat → Prop} (h : LB a G n rows) (k : Keep D a b) (hd : D G) : LB b G n rows := by
  obtain ⟨cs, h1, h2⟩ := h; exact ⟨cs, k.heap h1 hd, h2⟩
theorem LB.ext {a b : World} {G n : Nat} {rows : Nat → SL Nat} (h : LB a G n rows) (k : Ext a b) : LB b G n rows := h.keep (Keep.of_ext (D := fun _ => True) k) trivial
theorem LB.cell {w : World} {G n : Nat} {rows : Nat → SL Nat} (h : LB w G n rows) {i : Nat} (hi : i < n) : w.cell? ⟨G, i, none⟩ = some (rows i).v := by
  obtain ⟨cs, h1, h2, h3⟩ := h; exact (cell_at h1 i).trans (h3 i hi)
theorem LB.frozen {w : World} {G n : Nat} {rows : Nat → SL Nat} (h : LB w G n rows) (i : Nat) : w.frozen? ⟨G, i, none⟩ = false := by
  obtain ⟨cs, h1, h2⟩ := h; simp [World.frozen?, h1]
theorem LB.lt {w : World} {G n : Nat} {rows : Nat → SL Nat} (h : LB w G n rows) : G < w.heap.size := by
  obtain ⟨cs, h1, h2⟩ := h; exact (Array.getElem?_eq_some_iff.1 h1).1
def updR (rows : Nat → SL Nat) (st : Nat) (s : SL Nat) : Nat → SL Nat := fun i => if i = st then s else rows i
theorem LB.set {w : World} {G n : Nat} {rows : Nat → SL Nat} (h : LB w G n rows) (st : Nat) (s : SL Nat) : LB (w.setCell ⟨G, st, none⟩ s.v) G n (updR rows st s) := by
  obtain ⟨cs, h1, h2, h3⟩ := h
  refine ⟨_, heap_setCell_same h1 _, by simpa using h2, fun i hi => ?_⟩
  unfold updR
  rw [Array.getElem?_setIfInBounds]
  by_cases e : i = st
  · subst e; rw [if_pos rfl, if_pos (by omega), if_pos rfl]
  · rw [if_neg (fun h => e h.symm), if_neg e]; exact h3 i hi
theorem LB.congr {w : World} {G n : Nat} {rows rows' : Nat → SL Nat} (h : LB w G n rows) (e : ∀ i, i < n → rows i = rows' i) : LB w G n rows' := by
  obtain ⟨cs, h1, h2, h3⟩ := h; exact ⟨cs, h1, h2, fun i hi => by rw [← e i hi]; exact h3 i hi⟩
theorem info25 : (Try.prog.info? 25).map (fun i => (i.zero, i.size, i.bytes)) = some (some (.slice none 0 0), 1, 24) := by kernel_rfl
theorem LB.made (w : World) (n : Nat) : LB (w.alloc (.cells (madeCells #[.slice none 0 0] n) 25)) w.heap.size n (fun _ => ⟨none, 0, []⟩) := by
  refine ⟨_, World.alloc_heap_new _ _, by simp [madeCells], fun i hi => ?_⟩
  simp [madeCells, hi, Nat.mod_one]

/-- Which pillars count for stone last - k. -/
def cnd (gp : List (Nat × Nat)) (nm : List Int) (ap : Nat → Nat → Nat × Nat) (P last k p : Nat) : Bool :=
  decide (0 < wayR gp nm ap P (last - k) p) && (decide (k = 0) || (behF gp nm ap P (last - k) p).any fun q => (numK gp nm ap P last (k - 1)).contains q)
theorem numK_cnd (gp : List (Nat × Nat)) (nm : List Int) (ap : Nat → Nat → Nat × Nat) (P last k : Nat) : (List.range 40).filter (cnd gp nm ap P last k) = numK gp nm ap P last k := by
  cases k with
  | zero => show List.filter _ _ = List.filter _ _; congr 1; funext p; simp [cnd]
  | succ k => show List.filter _ _ = List.filter _ _; congr 1
theorem range_filter_succ (c : Nat → Bool) (p : Nat) : (List.range (p + 1)).filter c = (List.range p).filter c ++ (if c p then [p] else []) := by
  rw [List.range_succ, List.filter_append]
  cases h : c p <;> simp [h]
/-- The rows behind k stones. -/
structure Rws (gp : List (Nat × Nat)) (nm : List Int) (ap : Nat → Nat → Nat × Nat) (P n k G : Nat) (rows : Nat → SL Nat) (w : World) : Prop where
  old : ∀ i, i + k < n → rows i = ⟨none, 0, []⟩
  new : ∀ i, i < n → n ≤ i + k → (rows i).l = numK gp nm ap P (n - 1) (n - 1 - i) ∧ IsSl 1 num w (rows i) ∧ ∀ g off, (rows i).a = some ⟨g, off, none⟩ → 0 < (rows i).l.length → g ≠ G

/-- The slots while stones are looped over, and pillars. -/
def fr5 (B last G n : Nat) (i : Int) (X : Nat → Value) : Array Value := #[.pointer (some ⟨B, 0, none⟩), X 1, .slice none 0 0, .int .i64 (last : Int), .slice (some ⟨G, 0, none⟩) n n, .int .i64 i, X 6, X 7, X 8, X 9, X 10, X 11, X 12, X 13, X 14, X 15, X 16, X 17, X 18, X 19, X 20, X 21, X 22, X 23, X 24, X 25, X 26, X 27, X 28, X 29, X 30, X 31, X 32, X 33, X 34, X 35, X 36, X 37, X 38, X 39, X 40, X 41, X 42, X 43, X 44, X 45, X 46, X 47, X 48, X 49, X 50, X 51, X 52, X 53, X 54, X 55, X 56, X 57, X 58, X 59, X 60, X 61, X 62, X 63, X 64, X 65, X 66]
def fr6 (B last G n st p : Nat) (cs : List Value) (X : Nat → Value) : Array Value := #[.pointer (some ⟨B, 0, none⟩), X 1, .slice none 0 0, .int .i64 (last : Int), .slice (some ⟨G, 0, none⟩) n n, .int .i64 (st : Int), X 6, X 7, X 8, X 9, X 10, X 11, X 12, X 13, X 14, X 15, X 16, X 17, X 18, X 19, X 20, X 21, X 22, X 23, X 24, X 25, X 26, X 27, X 28, X 29, X 30, X 31, .agg cs.toArray, .int .i64 (p : Int), X 34, X 35, X 36, X 37, X 38, X 39, X 40, X 41, X 42, X 43, X 44, X 45, X 46, X 47, X 48, X 49, X 50, X 51, X 52, X 53, X 54, X 55, X 56, X 57, X 58, X 59, X 60, X 61, X 62, X 63, X 64, X 65, X 66]
def Inv5 (gp : List (Nat × Nat)) (nm : List Int) (ap : Nat → Nat → Nat × Nat) (B P n G : Nat) (w : World) (a : Act) (wr : World) : Prop :=
  ∃ (X : Nat → Value) (k : Nat) (i : Int) (rows : Nat → SL Nat), a = { tmps := fr5 B (n - 1) G n i X, defers := [] } ∧ k ≤ n ∧ i + k = n - 1 ∧ Hid (LB wr G n rows) ∧ Hid (Rws gp nm ap P n k G rows wr) ∧ Hid (Ext w wr)
theorem Inv5.of {gp : List (Nat × Nat)} {nm : List Int} {ap : Nat → Nat → Nat × Nat} {B P n G : Nat} {w : World} {t : Array Value} {wr : World} (k : Nat) (i : Int) (rows : Nat → SL Nat) (ht : t = fr5 B (n - 1) G n i (fun j => t.getD j undef)) (hk : k ≤ n) (hi : i + k = n - 1) (h1 : Hid (LB wr G n rows)) (h2 : Hid (Rws gp nm ap P n k G rows wr)) (h3 : Hid (Ext w wr)) :
    Inv5 gp nm ap B P n G w { tmps := t, defers := [] } wr := ⟨_, k, i, rows, by rw [← ht], hk, hi, h1, h2, h3⟩
def Inv6 (c : Nat → Bool) (B n G st : Nat) (cs : List Value) (rows : Nat → SL Nat) (w0 : World) (a : Act) (wr : World) : Prop :=
  ∃ (X : Nat → Value) (p : Nat) (s : SL Nat), a = { tmps := fr6 B (n - 1) G n st p cs X, defers := [] } ∧ p ≤ 40 ∧ Hid (LB wr G n (updR rows st s)) ∧ Hid (s.l = (List.range p).filter c) ∧ Hid (wr.ownsRow w0.heap.size 3 1 s.v s.l.length (nums s.l)) ∧ Hid (Keep (fun x => x ≠ G) w0 wr)
theorem Inv6.of {c : Nat → Bool} {B n G st : Nat} {cs : List Value} {rows : Nat → SL Nat} {w0 : World} {t : Array Value} {wr : World} (p : Nat) (s : SL Nat) (ht : t = fr6 B (n - 1) G n st p cs (fun j => t.getD j undef)) (hp : p ≤ 40) (h1 : Hid (LB wr G n (updR rows st s))) (h2 : Hid (s.l = (List.range p).filter c)) (h3 : Hid (wr.ownsRow w0.heap.size 3 1 s.v s.l.length (nums s.l))) (h4 : Hid (Keep (fun x => x ≠ G) w0 wr)) :
    Inv6 c B n G st cs rows w0 { tmps := t, defers := [] } wr := ⟨_, p, s, by rw [← ht], hp, h1, h2, h3, h4⟩

set_option maxRecDepth 100000 in
set_option maxHeartbeats 8000000 in
theorem numbers_any (B P : Nat) (f : FV) (ap : Nat → Nat → Nat × Nat) (wy : Nat → Nat → Nat) (w : World) (hw : BkB w B f P ap wy) (hf : IsF w f) (hn : f.nm.l.length = f.gp.l.length + 1) (hg : f.gp.l.length ≤ 39) (hP : P ≤ 40)
    (hwy : ∀ r p, r ≤ f.gp.l.length → p < 40 → wy r p = wayR f.gp.l f.nm.l ap P r p) :
    Calls Try.prog 65 #[.pointer (some ⟨B, 0, none⟩)] w fun e w' => ∃ s : SL (SL Nat), e = .returned (.slice s.a s.l.length s.c) ∧ s.l.map (fun r => r.l) = numbersF f.gp.l f.nm.l ap P ∧ IsSl 1 slC w' s ∧ (∀ r ∈ s.l, IsSl 1 num w' r) ∧ Ext w w' := by
  obtain ⟨n, hnn⟩ : ∃ n, f.nm.l.length = n := ⟨_, rfl⟩
  have HNn := Lib.hid hnn
  have hn1 : 1 ≤ n := by omega
  have hn40 : n ≤ 40 := by omega
  have hgn : f.gp.l.length + 1 = n := by omega
  have HGn := Lib.hid hgn
  have c1 := hw.c1
  rw [hnn] at c1
  have HB := Lib.hid hw
  have HF := Lib.hid hf
  have HW := Lib.hid hwy
  have hBl := hw.lt
  have hmk := run_make_row' (P := Try.prog) 70 25 (.slice none 0 0) 24 Try.underlying70 info25 rfl .i64 .i64 n (by omega) (by omega)
  have hwr : IntKind.i64.wrap ((n : Int) - 1) = ((n - 1 : Nat) : Int) := by rw [IntWalk.i64_in _ (by omega)]; omega
  have n0 : (0 : Int) ≤ (n : Int) := by omega
  obtain ⟨i0, hi, hz0, hz1, hz2⟩ := info_parts info3
  clear hw hf hn hg hnn hwy hgn
  go_enter Try.func65, Try.ntmps65
  go_wp2_with fail
  have HLB0 := Lib.hid (LB.made w n)
  have HX0 : Hid (Ext w (w.alloc (.cells (madeCells #[.slice none 0 0] n) 25))) := (Ext.refl w).alloc _
  have HR0 : Hid (Rws f.gp.l f.nm.l ap P n 0 w.heap.size (fun _ => ⟨none, 0, []⟩) (w.alloc (.cells (madeCells #[.slice none 0 0] n) 25))) := ⟨fun i _ => rfl, fun i h1 h2 => by omega⟩
  refine wp_loop (Inv5 f.gp.l f.nm.l ap B P n w.heap.size w) (fun a _ => (intOf (a.tmps.getD 5 undef) + 1).toNat) (Inv5.of 0 ((n - 1 : Nat) : Int) _ rfl (Nat.zero_le _) (by omega) HLB0 HR0 HX0) ?_
  clear HLB0 HX0 HR0 hmk c1 hwr
  obtain ⟨G, hG⟩ : ∃ G, w.heap.size = G := ⟨_, rfl⟩
  have HGw : Hid (w.heap.size ≤ G) := Nat.le_of_eq hG
  rw [hG]
  clear hG
  rintro a wr ⟨X, k, i, rows, rfl, hk, hik, HLB, HR, HX⟩
  conv => arg 4; dsimp only [fr5]
  by_cases hkn : k < n
  · obtain ⟨st, hst⟩ : ∃ st, n - 1 - k = st := ⟨_, rfl⟩
    obtain rfl : i = (st : Int) := by omega
    have HSt : Hid (st + k = n - 1) := by show _ = _; omega
    clear hst hik
    have d1 : decide ((0 : Int) ≤ (st : Int)) = true := decide_eq_true (by omega)
    have i1 : (0 : Int) ≤ (st : Int) := by omega
    have i2 : (st : Int) < 40 := by have := HSt.out; omega
    have hsn : st < n := by have := HSt.out; omega
    have HGl : Hid (G < wr.heap.size) := HLB.out.lt
    have hrg := row_range (HB.out.ext HX.out) st (by have := HSt.out; omega)
    have hcl := rowA_len wy st
    have HArr : Hid (∀ p, p < 40 → (rowA wy st)[p]? = some (.int .i64 (wayR f.gp.l f.nm.l ap P st p : Int))) := fun p hp => by rw [← List.getElem?_toArray, rowA_get _ _ _ hp, HW.out st p (by have := HSt.out; have := HGn.out; omega) hp]
    generalize rowA wy st = cs at *
    have hi2 : (Try.prog.info? 125).map (·.size) = some cs.length := by rw [hcl]; exact info125
    have HI2 := Lib.hid hi2
    have HRg := Lib.hid hrg
    have hBw : B < wr.heap.size := Nat.lt_of_lt_of_le hBl HX.out.size
    clear hi2 hrg hcl
    go_wp2_with (refine wpList_load_mid rfl 125 (.tmp 31) rfl B (3203 + st * 40) rfl cs _ HRg.out Try.underlying125 rfl HI2.out ?_)
    have HS0 : Hid (LB wr G n (updR rows st ⟨none, 0, []⟩)) := HLB.out.congr (fun i hi => by unfold updR; by_cases e : i = st; rw [if_pos e, HR.out.old i (by have := HSt.out; omega)]; rw [if_neg e])
    refine wp_loop (Inv6 (cnd f.gp.l f.nm.l ap P (n - 1) k) B n G st cs rows wr) (fun a _ => 40 - (intOf (a.tmps.getD 33 undef)).toNat) (Inv6.of 0 ⟨none, 0, []⟩ rfl (by omega) HS0 rfl (World.ownsRow_nil _ _ _ _) (Keep.refl _ _)) ?_
    clear HS0 HLB
    rintro a w6 ⟨X6, p, s, rfl, hp, HLB, HSl, HO, HKp⟩
    conv => arg 4; dsimp only [fr6]
    by_cases hltp : p < 40
    · have dp : decide ((p : Int) < 40) = true := decide_eq_true (by omega)
      have hidx := run_index125 cs.toArray p _ hltp (by rw [List.getElem?_toArray]; exact HArr.out p hltp) w6
      have HCd : Hid (cnd f.gp.l f.nm.l ap P (n - 1) k p = (decide (0 < wayR f.gp.l f.nm.l ap P st p) && (decide (k = 0) || (behF f.gp.l f.nm.l ap P st p).any fun q => (numK f.gp.l f.nm.l ap P (n - 1) (k - 1)).contains q))) := by show _ = _; unfold cnd; rw [show n - 1 - k = st by have := HSt.out; omega]
      generalize wayR f.gp.l f.nm.l ap P st p = ways at *
      by_cases hw0 : 0 < ways
      · have dw : decide ((0 : Int) < (ways : Int)) = true := decide_eq_true (by omega)
        by_cases hk0 : k = 0
        · have HCt : Hid (cnd f.gp.l f.nm.l ap P (n - 1) k p = true) := by show _ = _; rw [HCd.out, decide_eq_true hw0, decide_eq_true hk0]; rfl
          obtain rfl : st = n - 1 := by have := HSt.out; omega
          clear HCd hk0
          generalize hlst : n - 1 = lst at *
          have HLst := Lib.hid hlst
          clear hlst
          have HXW : Hid (Ext w6 w6) := Ext.refl _
          go_upto_region 10 with (fail)
          clear hidx
          have HLW : Hid (LB w6 G n (updR rows lst s)) := HLB.out.ext HXW.out
          have HOW := Lib.hid (own_ext HO.out HXW.out)
          have HKW := Lib.hid (HKp.out.ext HXW.out)
          have cg : w6.cell? ⟨G, lst, none⟩ = some s.v := by have := HLW.out.cell (i := lst) (by omega); simpa [updR] using this
          have HNw := Lib.hid (new_cells w6 (nums [p]) 3)
          have hW0 := HKW.out.size
          have hl40 : s.l.length ≤ 40 := by rw [HSl.out]; exact Nat.le_trans (List.length_filter_le _ _) (by rw [List.length_range]; exact hp)
          have hmx : s.l.length + 1 ≤ maxLen := by unfold maxLen; omega
          have hmb : (s.l.length + 1) * 8 ≤ 140737488355328 := by omega
          have hb6 : wr.heap.size ≤ (w6.alloc (.cells (nums [p]).toArray 3)).heap.size := by rw [World.size_alloc]; omega
          have HP := Lib.hid hp
          have HL40 := Lib.hid hl40
          clear hl40 HO HLB HKp
          have HAf : Hid (∀ w5, (w6.alloc (.cells (nums [p]).toArray 3)).grownBy w5 s.v.ownBlock → LB w5 G n (updR rows lst s) ∧ Keep (fun x => x ≠ G) wr w5) := fun w5 hg => by
            have hgl := HGl.out
            exact ⟨(HLW.out.ext ((Ext.refl w6).alloc _)).keep (D := fun x => x < wr.heap.size) ((Keep.refl _ _).grown hg (fun k e _ h => by have := own_lt HOW.out k e; omega)) hgl, (HKW.out.alloc _).grown hg (fun k e h => by have := own_lt HOW.out k e; omega)⟩
          go_wp2_with (at_builtin; go_must (refine wpList_append_own _ rfl _ _ 25 rfl wr.heap.size 3 i0 (.int .i64 0) 1 8 Try.underlying25 hi hz0 hz1 hz2 rfl (by decide) _ s.l.length (nums s.l) rfl (own_ext HOW.out ((Ext.refl w6).alloc _)) ⟨w6.heap.size, 0, none⟩ 1 1 (nums [p]) rfl rfl HNw.out (nums_one [p]) hmx hmb hb6 ?_); intro v' w5 hown hgrow _; obtain ⟨a5, c5, rfl⟩ := own_form hown; obtain ⟨hL5, hK5⟩ := HAf.out w5 hgrow; have g5 := hL5.cell (i := lst) (by omega); have f5 := hL5.frozen lst; have hl5 := hL5.lt; have HL5 := Lib.hid hL5; have HK5 := Lib.hid hK5; have HO5 := Lib.hid hown; clear hL5 hK5 hown hgrow)
          have HS6 : Hid (LB (w5.setCell ⟨G, lst, none⟩ (.slice a5 (s.l.length + 1) c5)) G n (updR rows lst ⟨a5, c5, s.l ++ [p]⟩)) := by
            have h := HL5.out.set lst ⟨a5, c5, s.l ++ [p]⟩
            rw [show (SL.v ⟨a5, c5, s.l ++ [p]⟩) = Value.slice a5 (s.l.length + 1) c5 by simp [SL.v]] at h
            exact h.congr (fun i _ => by unfold updR; by_cases e : i = lst <;> simp [e])
          have HK6 : Hid (Keep (fun x => x ≠ G) wr (w5.setCell ⟨G, lst, none⟩ (.slice a5 (s.l.length + 1) c5))) := HK5.out.setCell _ _ (fun _ h => h rfl)
          have HO6 : Hid ((w5.setCell ⟨G, lst, none⟩ (.slice a5 (s.l.length + 1) c5)).ownsRow wr.heap.size 3 1 (SL.v ⟨a5, c5, s.l ++ [p]⟩) (s.l ++ [p]).length (nums (s.l ++ [p]))) := by
            have h := HO5.out
            rw [← nums_append] at h
            have hgl := HGl.out
            have h2 := own_keep h (D := fun x => x ≠ G) ((Keep.refl _ w5).setCell ⟨G, lst, none⟩ (.slice a5 (s.l.length + 1) c5) (fun _ h => h rfl)) (fun i hi => by omega)
            exact Lib.hid (by simpa [SL.v] using h2)
          have HSl6 : Hid ((s.l ++ [p]) = (List.range (p + 1)).filter (cnd f.gp.l f.nm.l ap P lst k)) := by show _ = _; rw [range_filter_succ, HCt.out, HSl.out]; simp
          clear g5 f5 hl5 cg
          refine ⟨Inv6.of (p + 1) ⟨a5, c5, s.l ++ [p]⟩ (by rw [HLst.out]; rfl) (by have := HP.out; omega) HS6 HSl6 HO6 HK6, ?_⟩
          have := HP.out
          simp [intOf, fr6]; omega
        · obtain ⟨st1, hst1⟩ : ∃ st1, st + 1 = st1 := ⟨_, rfl⟩
          have hb : ((st : Int) == ((n - 1 : Nat) : Int)) = false := by rw [beq_eq_false_iff_ne]; have := HSt.out; omega
          have hwr1 : IntKind.i64.wrap ((st : Int) + 1) = (st1 : Int) := by rw [IntWalk.i64_in _ (by omega)]; omega
          have j1 : (0 : Int) ≤ (st1 : Int) := by omega
          have j2 : (st1 : Int) < (n : Int) := by have := HSt.out; omega
          obtain ⟨hr1, hr2, hr3⟩ := HR.out.new st1 (by omega) (by have := HSt.out; omega)
          have hgl := HGl.out
          have hgw := HGw.out
          have HFw6 : Hid (IsF w6 f) := (HF.out.ext HX.out).keep HKp.out (HF.out.lt.mono (fun x hx => by have : x < w.heap.size := hx; omega))
          have HBw6 : Hid (BkB w6 B f P ap wy) := (HB.out.ext HX.out).keep HKp.out (by omega)
          have HLe := Lib.hid (leads_any B P st p f ap wy (rows st1) w6 HBw6.out HFw6.out (hr2.keep HKp.out hr3) hP hltp (by have := HSt.out; have := HGn.out; omega) (by have := HSt.out; rw [HNn.out]; omega))
          have cg1 : w6.cell? ⟨G, st1, none⟩ = some (rows st1).v := by have := HLB.out.cell (i := st1) (by omega); rw [this]; unfold updR; rw [if_neg (by omega)]
          have HCd2 : Hid (cnd f.gp.l f.nm.l ap P (n - 1) k p = (behF f.gp.l f.nm.l ap P st p).any fun q => (rows st1).l.contains q) := by
            show _ = _
            rw [HCd.out, decide_eq_true hw0, decide_eq_false hk0, hr1, show n - 1 - st1 = k - 1 by have := HSt.out; omega]; simp
          have HSt1 : Hid (st + 1 = st1) := hst1
          generalize rows st1 = rs at *
          clear HCd hst1 hr1 hr2 hr3 hgl hgw hk0
          cases hL : ((behF f.gp.l f.nm.l ap P st p).any fun q => rs.l.contains q)
          · rw [hL] at HLe
            have HSl2 : Hid (s.l = (List.range (p + 1)).filter (cnd f.gp.l f.nm.l ap P (n - 1) k)) := by show _ = _; rw [range_filter_succ, HCd2.out, hL, HSl.out]; simp
            clear hL HCd2
            go_wp2_with (go_at_call 83; refine HLe.out.mono ?_; rintro e W ⟨rfl, hxW⟩)
            refine ⟨Inv6.of (p + 1) s rfl (by omega) (HLB.out.ext hxW) HSl2 (own_ext HO.out hxW) (HKp.out.ext hxW), ?_⟩
            simp [intOf, fr6]; omega
          · rw [hL] at HLe
            have HCt : Hid (cnd f.gp.l f.nm.l ap P (n - 1) k p = true) := by show _ = _; rw [HCd2.out, hL]
            clear hL HCd2
            go_upto_region 10 with (go_at_call 83; refine HLe.out.mono ?_; rintro e W ⟨rfl, hxW⟩)
            have HXW : Hid (Ext w6 W) := hxW
            clear hidx hxW cg1
            have HLW : Hid (LB W G n (updR rows st s)) := HLB.out.ext HXW.out
            have HOW := Lib.hid (own_ext HO.out HXW.out)
            have HKW := Lib.hid (HKp.out.ext HXW.out)
            have cg : W.cell? ⟨G, st, none⟩ = some s.v := by have := HLW.out.cell (i := st) (by omega); simpa [updR] using this
            have HNw := Lib.hid (new_cells W (nums [p]) 3)
            have hW0 := HKW.out.size
            have hl40 : s.l.length ≤ 40 := by rw [HSl.out]; exact Nat.le_trans (List.length_filter_le _ _) (by rw [List.length_range]; exact hp)
            have hmx : s.l.length + 1 ≤ maxLen := by unfold maxLen; omega
            have hmb : (s.l.length + 1) * 8 ≤ 140737488355328 := by omega
            have hb6 : wr.heap.size ≤ (W.alloc (.cells (nums [p]).toArray 3)).heap.size := by rw [World.size_alloc]; omega
            have HP := Lib.hid hp
            have HL40 := Lib.hid hl40
            clear hl40 HO HLB HKp
            have HAf : Hid (∀ w5, (W.alloc (.cells (nums [p]).toArray 3)).grownBy w5 s.v.ownBlock → LB w5 G n (updR rows st s) ∧ Keep (fun x => x ≠ G) wr w5) := fun w5 hg => by
              have hgl := HGl.out
              exact ⟨(HLW.out.ext ((Ext.refl W).alloc _)).keep (D := fun x => x < wr.heap.size) ((Keep.refl _ _).grown hg (fun k e _ h => by have := own_lt HOW.out k e; omega)) hgl, (HKW.out.alloc _).grown hg (fun k e h => by have := own_lt HOW.out k e; omega)⟩
            go_wp2_with (at_builtin; go_must (refine wpList_append_own _ rfl _ _ 25 rfl wr.heap.size 3 i0 (.int .i64 0) 1 8 Try.underlying25 hi hz0 hz1 hz2 rfl (by decide) _ s.l.length (nums s.l) rfl (own_ext HOW.out ((Ext.refl W).alloc _)) ⟨W.heap.size, 0, none⟩ 1 1 (nums [p]) rfl rfl HNw.out (nums_one [p]) hmx hmb hb6 ?_); intro v' w5 hown hgrow _; obtain ⟨a5, c5, rfl⟩ := own_form hown; obtain ⟨hL5, hK5⟩ := HAf.out w5 hgrow; have g5 := hL5.cell (i := st) (by omega); have f5 := hL5.frozen st; have hl5 := hL5.lt; have HL5 := Lib.hid hL5; have HK5 := Lib.hid hK5; have HO5 := Lib.hid hown; clear hL5 hK5 hown hgrow)
            have HS6 : Hid (LB (w5.setCell ⟨G, st, none⟩ (.slice a5 (s.l.length + 1) c5)) G n (updR rows st ⟨a5, c5, s.l ++ [p]⟩)) := by
              have h := HL5.out.set st ⟨a5, c5, s.l ++ [p]⟩
              rw [show (SL.v ⟨a5, c5, s.l ++ [p]⟩) = Value.slice a5 (s.l.length + 1) c5 by simp [SL.v]] at h
              exact h.congr (fun i _ => by unfold updR; by_cases e : i = st <;> simp [e])
            have HK6 : Hid (Keep (fun x => x ≠ G) wr (w5.setCell ⟨G, st, none⟩ (.slice a5 (s.l.length + 1) c5))) := HK5.out.setCell _ _ (fun _ h => h rfl)
            have HO6 : Hid ((w5.setCell ⟨G, st, none⟩ (.slice a5 (s.l.length + 1) c5)).ownsRow wr.heap.size 3 1 (SL.v ⟨a5, c5, s.l ++ [p]⟩) (s.l ++ [p]).length (nums (s.l ++ [p]))) := by
              have h := HO5.out
              rw [← nums_append] at h
              have hgl := HGl.out
              have h2 := own_keep h (D := fun x => x ≠ G) ((Keep.refl _ w5).setCell ⟨G, st, none⟩ (.slice a5 (s.l.length + 1) c5) (fun _ h => h rfl)) (fun i hi => by omega)
              exact Lib.hid (by simpa [SL.v] using h2)
            have HSl6 : Hid ((s.l ++ [p]) = (List.range (p + 1)).filter (cnd f.gp.l f.nm.l ap P (n - 1) k)) := by show _ = _; rw [range_filter_succ, HCt.out, HSl.out]; simp
            clear g5 f5 hl5 cg
            refine ⟨Inv6.of (p + 1) ⟨a5, c5, s.l ++ [p]⟩ rfl (by have := HP.out; omega) HS6 HSl6 HO6 HK6, ?_⟩
            have := HP.out
            simp [intOf, fr6]; omega
      · have dw : decide ((0 : Int) < (ways : Int)) = false := decide_eq_false (by omega)
        have HCf : Hid (cnd f.gp.l f.nm.l ap P (n - 1) k p = false) := by show _ = _; rw [HCd.out, decide_eq_false hw0]; rfl
        have HSl2 : Hid (s.l = (List.range (p + 1)).filter (cnd f.gp.l f.nm.l ap P (n - 1) k)) := by show _ = _; rw [range_filter_succ, HCf.out, HSl.out]; simp
        clear HCd HCf
        go_wp2_with fail
        refine ⟨Inv6.of (p + 1) s rfl (by omega) HLB HSl2 HO HKp, ?_⟩
        simp [intOf, fr6]; omega
    · have dp : decide ((p : Int) < 40) = false := decide_eq_false (by omega)
      have hgl := HGl.out
      have hgw := HGw.out
      have HSn : Hid (s.l = numK f.gp.l f.nm.l ap P (n - 1) k) := by show _ = _; rw [HSl.out, show p = 40 by omega]; exact numK_cnd _ _ _ _ _ _
      have hsl : s.l.length ≤ 1000000 := by rw [HSl.out]; exact Nat.le_trans (List.length_filter_le _ _) (by rw [List.length_range]; omega)
      have HX6 : Hid (Ext w w6) := ext_keep HX.out HKp.out (fun i hi => by omega)
      have HR6 : Hid (Rws f.gp.l f.nm.l ap P n (k + 1) G (updR rows st s) w6) := by
        have hst := HSt.out
        refine ⟨fun i hi => by unfold updR; rw [if_neg (by omega)]; exact HR.out.old i (by omega), fun i h1 h2 => ?_⟩
        by_cases e : i = st
        · have e2 : updR rows st s i = s := by unfold updR; rw [if_pos e]
          rw [e2]
          refine ⟨by rw [HSn.out, show n - 1 - i = k by omega], own_sl HO.out hsl, fun g off ha hn => ?_⟩
          have := own_lt HO.out g (by rw [show s.v = .slice s.a s.l.length s.c from rfl, ha]; rfl)
          omega
        · have e2 : updR rows st s i = rows i := by unfold updR; rw [if_neg e]
          rw [e2]
          obtain ⟨q1, q2, q3⟩ := HR.out.new i h1 (by omega)
          exact ⟨q1, q2.keep HKp.out q3, q3⟩
      have hwr2 : IntKind.i64.wrap ((st : Int) - 1) = (st : Int) - 1 := IntWalk.i64_in _ (by omega)
      clear hgl hgw hsl
      go_wp2_with fail
      refine ⟨Inv5.of (k + 1) ((st : Int) - 1) (updR rows st s) rfl (by omega) (by have := HSt.out; omega) HLB HR6 HX6, ?_⟩
      simp [intOf, fr5]
  · have hke : k = n := by omega
    have hi1 : i = -1 := by omega
    have HRn : Hid (Rws f.gp.l f.nm.l ap P n n G rows wr) := by have h := HR.out; rw [hke] at h; exact h
    clear hke HR hik hk hkn
    subst hi1
    go_wp2_with fail
    go_ret
    refine ⟨⟨some ⟨G, 0, none⟩, n, (List.range n).map rows⟩, by simp, ?_, ?_, ?_, HX.out⟩
    · simp only [List.map_map]
      unfold numbersF
      rw [HNn.out]
      apply List.map_congr_left
      intro i hi
      exact (HRn.out.new i (List.mem_range.1 hi) (by omega)).1
    · refine ⟨by simp, by simp; omega, .inr ⟨G, 0, rfl, fun i hi j hj => ?_⟩⟩
      have hin : i < n := by simpa using hi
      obtain rfl : j = 0 := by omega
      have := HLB.out.cell hin
      simpa [slC] using this
    · intro r hr
      obtain ⟨i, hi, rfl⟩ := List.mem_map.1 hr
      exact (HRn.out.new i (List.mem_range.1 hi) (by omega)).2.1
end Go.Proofs.Ytfognlealnhodaa
