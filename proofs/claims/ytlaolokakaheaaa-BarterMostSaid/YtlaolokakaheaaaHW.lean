/-
  has of package barter: what both sides have by an exchange. The land and the exchange must lie in memory as told.
-/
import Derived.Test.YtlaolokakaheaaaNW
import Derived.StillTailTactics
import Derived.Deep.QuietTactic
import Derived.BigQuiet
import Derived.Deep.DeepCutAuto
namespace Go.Proofs.Ytlaolokakaheaaa
open Go.RowKit

/-- The bounds of a land's worths. -/
structure Wb (L : List St) : Prop where
  l2 : L.length ≤ 16
  n : ∀ i, i < L.length → (at' L i).n ≤ 1000
  s : ∀ i, i < L.length → (at' L i).s ≤ 1000
/-- What the North has of the first k stretches, and what the South. -/
def hasNk (L : List St) (P : List Nat) (k : Nat) : Nat := sumF (fun i => (at' L i).n * pt P i) k
def hasSk (L : List St) (W : Nat) (P : List Nat) (k : Nat) : Nat := sumF (fun i => (at' L i).s * (W - pt P i)) k
theorem sumF_le (f : Nat → Nat) (c m : Nat) (h : ∀ i, i < m → f i ≤ c) : sumF f m ≤ m * c := by
  induction m with
  | zero => simp [sumF]
  | succ m ih =>
    have h1 := ih fun i hi => h i (by omega)
    have h2 := h m (by omega)
    simp only [sumF, Nat.succ_mul]; omega
theorem part_cell {w : World} {a : Option Addr} {c : Nat} {l : List Nat} (h : IsSl 1 num w ⟨a, c, l⟩) {i : Nat} (hi : i < l.length) : ∃ b off, a = some ⟨b, off, none⟩ ∧ w.cell? ⟨b, off + i, none⟩ = some (.int .i64 (pt l i : Int)) := by
  obtain ⟨h1, h2, h3⟩ := h
  obtain ⟨b, off, ha, hc⟩ := h3.resolve_left (by dsimp only; omega)
  refine ⟨b, off, ha, ?_⟩
  have e : pt l i = l[i] := by unfold pt; rw [List.getElem?_eq_getElem hi]; rfl
  rw [e]
  simpa [num] using hc i hi 0 (by omega)

set_option maxRecDepth 100000 in
set_option maxHeartbeats 1000000 in
theorem has_any (x : Ld) (W : Nat) (a c : _) (l : List Nat) (w : World) (h : StL w x.s) (hb : Wb x.s.l) (hp : IsSl 1 num w ⟨a, c, l⟩) (hl : l.length = x.s.l.length) (hW : W ≤ 2000) (hle : ∀ i, i < l.length → pt l i ≤ W) :
    Calls Try.prog 37 #[x.val, .agg #[.int .i64 (W : Int), .slice a l.length c]] w fun e w' => e = .returned (.agg #[.int .i64 (hasN x.s.l l : Int), .int .i64 (hasS x.s.l W l : Int)]) ∧ Ext w w' := by
  obtain ⟨h1, h2⟩ := h.le
  obtain ⟨hp1, hp2, -⟩ := id hp
  dsimp only at hp1 hp2
  have HS := Lib.hid h; clear h
  have HP := Lib.hid hp; clear hp
  have HB := Lib.hid hb; clear hb
  have HLe := Lib.hid hle; clear hle
  obtain ⟨⟨sa, sc, L⟩, ⟨va, vc, vl⟩⟩ := x
  dsimp only at h1 h2 HS HB hl ⊢
  have HLn := Lib.hid hl; clear hl
  go_enter Try.func37, Try.ntmps37
  go_wp2
  go_loopw [11] (fun s wr => ∃ k : Nat, k ≤ L.length ∧ s = .int .i64 (k : Int) ∧ Hid (Ext w wr) ∧ Hid (wr.heap[w.heap.size + 1]? = some (.cells #[.int .i64 (W : Int), .slice a l.length c] 31 (0, 0))) ∧ Hid (wr.heap[w.heap.size + 1 + 1]? = some (.cells #[.int .i64 0, .int .i64 0] 64 (0, 0))) ∧ Hid (wr.heap[w.heap.size + 1 + 1 + 1]? = some (.cells #[.int .i64 (hasNk L l k : Int), .int .i64 (hasSk L W l k : Int)] 64 (0, 0)))) (fun s _ => L.length - (intOf s).toNat)
  case atStart =>
    refine ⟨0, Nat.zero_le _, rfl, (((((Ext.refl w).alloc _).alloc _).alloc _).alloc _), ?_, ?_, ?_⟩
    · refine (alloc_old ?_).trans ((alloc_old ?_).trans (alloc_new ?_)) <;> simp only [World.size_alloc] <;> omega
    · refine (alloc_old ?_).trans (alloc_new ?_) <;> simp only [World.size_alloc] <;> omega
    · refine alloc_new ?_; simp only [World.size_alloc]
  case round =>
    obtain ⟨wo, rfl⟩ : ∃ wo : World, wo = wr := ⟨_, rfl⟩
    obtain ⟨k, hk, rfl, HX, HE, HR, HH⟩ := hrel
    by_cases hlt : k < L.length
    · have dk : decide ((k : Int) < (L.length : Int)) = true := decide_eq_true (by omega)
      obtain ⟨b, off, ha, c0, c1, c2, c3⟩ := (HS.out.ext HX.out).cells hlt
      dsimp only at ha c0 c1 c2 c3
      subst ha
      have k1 : (0 : Int) ≤ k := by omega
      have k2 : (k : Int) < (L.length : Int) := by omega
      have HA : Hid (Ext wo (wo.alloc (.cells #[.int .i64 ((at' L k).o : Int), .int .i64 ((at' L k).n : Int), .int .i64 ((at' L k).s : Int), .int .i64 (at' L k).w] 41))) := (Ext.refl wo).alloc _
      have HN : Hid ((wo.alloc (.cells #[.int .i64 ((at' L k).o : Int), .int .i64 ((at' L k).n : Int), .int .i64 ((at' L k).s : Int), .int .i64 (at' L k).w] 41)).heap[wo.heap.size]? = some (.cells #[.int .i64 ((at' L k).o : Int), .int .i64 ((at' L k).n : Int), .int .i64 ((at' L k).s : Int), .int .i64 (at' L k).w] 41 (0, 0))) := alloc_new rfl
      have HSz : Hid ((wo.alloc (.cells #[.int .i64 ((at' L k).o : Int), .int .i64 ((at' L k).n : Int), .int .i64 ((at' L k).s : Int), .int .i64 (at' L k).w] 41)).heap.size = wo.heap.size + 1) := World.size_alloc _ _
      go_upto_region 5 with (fail)
      clear c0 c1 c2 c3
      generalize wo.alloc (.cells #[.int .i64 ((at' L k).o : Int), .int .i64 ((at' L k).n : Int), .int .i64 ((at' L k).s : Int), .int .i64 (at' L k).w] 41) = W1 at *
      have n0 := HB.out.n k hlt
      have s0 := HB.out.s k hlt
      have p0 := HLe.out k (by have := HLn.out; omega)
      have hx := HX.out.size
      obtain ⟨pb, po, rfl, cp⟩ := part_cell (HP.out.ext (HX.out.trans HA.out)) (show k < l.length by have := HLn.out; omega)
      have cn := (cell_at HN.out 1)
      have ce0 := (cell_at (HA.out.block HE.out) 0)
      have ce1 := (cell_at (HA.out.block HE.out) 1)
      have ch0 := (cell_at (HA.out.block HH.out) 0)
      dsimp at cn ce0 ce1 ch0
      have HM : Hid ((at' L k).n * pt l k ≤ 2000000) := Nat.mul_le_mul n0 (Nat.le_trans p0 hW)
      have HNl : Hid (hasNk L l k ≤ 32000000) := by
        refine Nat.le_trans (sumF_le _ 2000000 k fun i hi => Nat.mul_le_mul (HB.out.n i (by omega)) (Nat.le_trans (HLe.out i (by have := HLn.out; omega)) hW)) ?_
        have := HB.out.l2; omega
      have HNs : Hid (hasNk L l (k + 1) = hasNk L l k + (at' L k).n * pt l k) := rfl
      have hm1 : ((at' L k).n : Int) * (pt l k : Int) = (((at' L k).n * pt l k : Nat) : Int) := (Int.natCast_mul _ _).symm
      have HM' := HM.out
      have HNl' := HNl.out
      generalize (at' L k).n * pt l k = mN at *
      generalize hasNk L l k = sN at *
      have f0 : W1.frozen? ⟨w.heap.size + 1 + 1 + 1, 0, none⟩ = false := by simp [World.frozen?, HA.out.block HH.out]
      have k3 : k < l.length := by have := HLn.out; omega
      have k4 : (k : Int) < (l.length : Int) := by omega
      go_region
      have hcw : (W1.setCell ⟨w.heap.size + 1 + 1 + 1, 0, none⟩ (.int .i64 ((sN : Int) + (mN : Int)))).drew.heap = (W1.setCell ⟨w.heap.size + 1 + 1 + 1, 0, none⟩ (.int .i64 ((sN : Int) + (mN : Int)))).heap := rfl
      have HX2 : Hid (Ext w (W1.setCell ⟨w.heap.size + 1 + 1 + 1, 0, none⟩ (.int .i64 ((sN : Int) + (mN : Int)))).drew) := ((HX.out.trans HA.out).setCell (by simp only []; omega) _).drew
      have HN2 : Hid ((W1.setCell ⟨w.heap.size + 1 + 1 + 1, 0, none⟩ (.int .i64 ((sN : Int) + (mN : Int)))).drew.heap[wo.heap.size]? = _) := (congrArg (fun h => h[wo.heap.size]?) hcw).trans (heap_set_other _ _ _ _ HN.out (by have := (Array.getElem?_eq_some_iff.1 HH.out).1; omega))
      have HE2 : Hid ((W1.setCell ⟨w.heap.size + 1 + 1 + 1, 0, none⟩ (.int .i64 ((sN : Int) + (mN : Int)))).drew.heap[w.heap.size + 1]? = _) := (congrArg (fun h => h[w.heap.size + 1]?) hcw).trans (heap_set_other _ _ _ _ (HA.out.block HE.out) (by omega))
      have HR2 : Hid ((W1.setCell ⟨w.heap.size + 1 + 1 + 1, 0, none⟩ (.int .i64 ((sN : Int) + (mN : Int)))).drew.heap[w.heap.size + 1 + 1]? = _) := (congrArg (fun h => h[w.heap.size + 1 + 1]?) hcw).trans (heap_set_other _ _ _ _ (HA.out.block HR.out) (by omega))
      have HH2 : Hid ((W1.setCell ⟨w.heap.size + 1 + 1 + 1, 0, none⟩ (.int .i64 ((sN : Int) + (mN : Int)))).drew.heap[w.heap.size + 1 + 1 + 1]? = some (.cells #[.int .i64 ((sN : Int) + (mN : Int)), .int .i64 (hasSk L W l k : Int)] 64 (0, 0))) := (congrArg (fun h => h[w.heap.size + 1 + 1 + 1]?) hcw).trans (heap_setCell_same (HA.out.block HH.out) _)
      clear hcw cn ce0 ce1 ch0 f0 cp HE HR HH HN
      generalize (W1.setCell ⟨w.heap.size + 1 + 1 + 1, 0, none⟩ (.int .i64 ((sN : Int) + (mN : Int)))).drew = W2 at *
      go_upto_region 6 with (fail)
      obtain ⟨pb', po', hpe, cp⟩ := part_cell (HP.out.ext HX2.out) k3
      cases hpe
      have cs := cell_at HN2.out 2
      have ce0 := cell_at HE2.out 0
      have ce1 := cell_at HE2.out 1
      have ch1 := cell_at HH2.out 1
      dsimp at cs ce0 ce1 ch1
      have f1 : W2.frozen? ⟨w.heap.size + 1 + 1 + 1, 1, none⟩ = false := by simp [World.frozen?, HH2.out]
      have HM2 : Hid ((at' L k).s * (W - pt l k) ≤ 2000000) := Nat.mul_le_mul s0 (show W - pt l k ≤ 2000 by omega)
      have HSl : Hid (hasSk L W l k ≤ 32000000) := by
        refine Nat.le_trans (sumF_le _ 2000000 k fun i hi => Nat.mul_le_mul (HB.out.s i (by omega)) (show W - pt l i ≤ 2000 by omega)) ?_
        have := HB.out.l2; omega
      have HSs : Hid (hasSk L W l (k + 1) = hasSk L W l k + (at' L k).s * (W - pt l k)) := rfl
      have hd1 : (W : Int) - (pt l k : Int) = ((W - pt l k : Nat) : Int) := by omega
      have hm2 : ((at' L k).s : Int) * ((W - pt l k : Nat) : Int) = (((at' L k).s * (W - pt l k) : Nat) : Int) := (Int.natCast_mul _ _).symm
      have HM2' := HM2.out
      have HSl' := HSl.out
      have hd2 : W - pt l k ≤ 2000 := by omega
      generalize (at' L k).s * (W - pt l k) = mS at *
      generalize hasSk L W l k = sS at *
      generalize hdd : W - pt l k = dd at *
      clear hdd
      go_region
      have hcw : (W2.setCell ⟨w.heap.size + 1 + 1 + 1, 1, none⟩ (.int .i64 ((sS : Int) + (mS : Int)))).drew.heap = (W2.setCell ⟨w.heap.size + 1 + 1 + 1, 1, none⟩ (.int .i64 ((sS : Int) + (mS : Int)))).heap := rfl
      have HX3 : Hid (Ext w (W2.setCell ⟨w.heap.size + 1 + 1 + 1, 1, none⟩ (.int .i64 ((sS : Int) + (mS : Int)))).drew) := (HX2.out.setCell (by simp only []; omega) _).drew
      have HE3 : Hid ((W2.setCell ⟨w.heap.size + 1 + 1 + 1, 1, none⟩ (.int .i64 ((sS : Int) + (mS : Int)))).drew.heap[w.heap.size + 1]? = _) := (congrArg (fun h => h[w.heap.size + 1]?) hcw).trans (heap_set_other _ _ _ _ HE2.out (by omega))
      have HR3 : Hid ((W2.setCell ⟨w.heap.size + 1 + 1 + 1, 1, none⟩ (.int .i64 ((sS : Int) + (mS : Int)))).drew.heap[w.heap.size + 1 + 1]? = _) := (congrArg (fun h => h[w.heap.size + 1 + 1]?) hcw).trans (heap_set_other _ _ _ _ HR2.out (by omega))
      have HH3 : Hid ((W2.setCell ⟨w.heap.size + 1 + 1 + 1, 1, none⟩ (.int .i64 ((sS : Int) + (mS : Int)))).drew.heap[w.heap.size + 1 + 1 + 1]? = some (.cells #[.int .i64 ((sN : Int) + (mN : Int)), .int .i64 ((sS : Int) + (mS : Int))] 64 (0, 0))) := (congrArg (fun h => h[w.heap.size + 1 + 1 + 1]?) hcw).trans (heap_setCell_same HH2.out _)
      clear hcw cs ce0 ce1 ch1 f1 cp HE2 HR2 HH2 HN2
      generalize (W2.setCell ⟨w.heap.size + 1 + 1 + 1, 1, none⟩ (.int .i64 ((sS : Int) + (mS : Int)))).drew = W3 at *
      go_wp2
      go_roundw
      case rel => exact ⟨k + 1, by omega, by go_num, HX3, HE3, HR3, by show _ = _; rw [HNs.out, HSs.out, Int.natCast_add, Int.natCast_add]; exact HH3.out⟩
      case measure => simp [intOf]; omega
    · have dk : decide ((k : Int) < (L.length : Int)) = false := decide_eq_false (by omega)
      have hke : k = L.length := by omega
      subst hke
      have c0 := cell_at HH.out 0
      have c1 := cell_at HH.out 1
      have r0 := cell_at HR.out 0
      have r1 := cell_at HR.out 1
      have f0 : wo.frozen? ⟨w.heap.size + 1 + 1, 0, none⟩ = false := by simp [World.frozen?, HR.out]
      have f1 : wo.frozen? ⟨w.heap.size + 1 + 1, 1, none⟩ = false := by simp [World.frozen?, HR.out]
      dsimp at c0 c1 r0 r1
      have hx := HX.out.size
      go_wp2
      have hb := heap_setCell_same (i := 1) (heap_setCell_same (i := 0) HR.out (.int .i64 (hasNk L l L.length : Int))) (.int .i64 (hasSk L W l L.length : Int))
      refine bodyPost_ret (results_cell_row rfl _ _ (w.heap.size + 1 + 1) 64 _ (0, 0) _ rfl hb Try.underlying64 rfl (by kernel_rfl)) rfl ?_
      exact ⟨rfl, (HX.out.setCell (by simp only []; omega) _).setCell (by simp only []; omega) _⟩
end Go.Proofs.Ytlaolokakaheaaa
