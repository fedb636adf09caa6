/-
  PillarRead's walk from where it narrows the gaps, to its end. The roll, the finds and the copy of the finds must lie in memory as told.
  PillarRead's walk from where it narrows the gaps, to its end, where the finds are of one stone alone: there is no gap. The roll, the finds and the copy of the finds must lie in memory as told.
  Wrong of package pillar, where there is a reading: it says that nothing is wrong, by its error. The finds must lie in memory as told.
-/
import Derived.Test.YtfognlealnhodaaZ1
import Derived.Test.YtfognlealnhodaaRP
import Derived.Test.YtfognlealnhodaaZ0
import Derived.Test.YtfognlealnhodaaZ2
import Derived.Test.YtfognlealnhodaaRS
namespace Go.Proofs.Ytfognlealnhodaa
open Go.RowKit

noncomputable def tail8_29 : Code := ((Try.f8.body.bind (tailT 29)).getD .skip)
def frY29 (D2 rB fB xB rn : Nat) (X : Nat → Value) : Array Value := #[X 0, X 1, X 2, X 3, X 4, X 5, X 6, X 7, .pointer (some ⟨D2, 0, none⟩), .pointer (some ⟨rB, 0, none⟩), .pointer (some ⟨fB, 0, none⟩), X 11, .int .i64 (rn : Int), X 13, X 14, X 15, X 16, X 17, X 18, X 19, X 20, X 21, X 22, X 23, X 24, X 25, X 26, .pointer (some ⟨xB, 0, none⟩), X 28, X 29, X 30, X 31, X 32, X 33, X 34, X 35, X 36, X 37, X 38, X 39, X 40, X 41, X 42, X 43, X 44, X 45, X 46, X 47, X 48, X 49, X 50, X 51, X 52, X 53, X 54, X 55, X 56, X 57, X 58, X 59, X 60, X 61, X 62, X 63, X 64, X 65, X 66, X 67, X 68, X 69, X 70, X 71, X 72, X 73, X 74, X 75, X 76, X 77, X 78, X 79, X 80, X 81, X 82, X 83, X 84, X 85, X 86, X 87, X 88, X 89, X 90, X 91, X 92, X 93, X 94, X 95, X 96, X 97, X 98, X 99, X 100, X 101, X 102, X 103, X 104, X 105, X 106, X 107, X 108, X 109, X 110, X 111, X 112, X 113, X 114, X 115, X 116, X 117, X 118, X 119, X 120, X 121, X 122, X 123, X 124, X 125, X 126, X 127, X 128, X 129, X 130, X 131, X 132, X 133, X 134, X 135, X 136, X 137, X 138, X 139, X 140, X 141, X 142, X 143, X 144, X 145, X 146, X 147, X 148, X 149, X 150, X 151, X 152, X 153, X 154, X 155, X 156, X 157, X 158, X 159, X 160, X 161, X 162, X 163, X 164, X 165, X 166, X 167, X 168, X 169, X 170, X 171, X 172, X 173, X 174, X 175, X 176, X 177, X 178, X 179, X 180, X 181, X 182, X 183, X 184, X 185, X 186, X 187]
def frY30 (D2 rB xB rn gb gq gc m k : Nat) (X : Nat → Value) : Array Value := #[X 0, X 1, X 2, X 3, X 4, X 5, X 6, X 7, .pointer (some ⟨D2, 0, none⟩), .pointer (some ⟨rB, 0, none⟩), X 10, X 11, .int .i64 (rn : Int), X 13, X 14, X 15, X 16, X 17, X 18, X 19, X 20, X 21, X 22, X 23, X 24, X 25, X 26, .pointer (some ⟨xB, 0, none⟩), X 28, X 29, X 30, X 31, X 32, X 33, X 34, X 35, X 36, X 37, X 38, X 39, X 40, X 41, X 42, X 43, X 44, X 45, X 46, X 47, X 48, X 49, X 50, X 51, X 52, X 53, X 54, X 55, X 56, X 57, X 58, X 59, X 60, X 61, X 62, X 63, X 64, X 65, X 66, X 67, X 68, X 69, X 70, X 71, X 72, X 73, X 74, X 75, X 76, X 77, X 78, X 79, X 80, X 81, X 82, X 83, X 84, X 85, X 86, X 87, X 88, X 89, X 90, X 91, X 92, X 93, X 94, X 95, X 96, X 97, X 98, X 99, X 100, X 101, X 102, X 103, X 104, X 105, X 106, X 107, X 108, X 109, X 110, X 111, X 112, X 113, X 114, X 115, X 116, X 117, X 118, X 119, X 120, X 121, X 122, X 123, X 124, X 125, X 126, X 127, X 128, X 129, X 130, X 131, X 132, X 133, X 134, X 135, X 136, X 137, X 138, X 139, X 140, X 141, X 142, X 143, X 144, X 145, X 146, .slice (some ⟨gb, gq, none⟩) m gc, .int .i64 (m : Int), .int .i64 (k : Int), X 150, X 151, X 152, X 153, X 154, X 155, X 156, X 157, X 158, X 159, X 160, X 161, X 162, X 163, X 164, X 165, X 166, X 167, X 168, X 169, X 170, X 171, X 172, X 173, X 174, X 175, X 176, X 177, X 178, X 179, X 180, X 181, X 182, X 183, X 184, X 185, X 186, X 187]
def InvY (D2 rB xB rn gb gq gc m xr xq : Nat) (a1 : Option Addr) (n1 c1 : Nat) (G : List (Nat × Nat)) (V0 : World) (ac : Act) (wr : World) : Prop :=
  ∃ (X : Nat → Value) (k K : Nat) (L : List (Nat × Nat)), ac = { tmps := frY30 D2 rB xB rn gb gq gc m k X, defers := [] } ∧ k ≤ m ∧ K ≤ 100 + 2 * k ∧ Hid (IsDeck wr D2 a1 n1 c1 K) ∧ Hid (Keep (fun b => b ≠ D2 ∧ b ≠ xr) V0 wr) ∧ Hid (NarL G L) ∧ Hid (RowP wr xr L xq)
theorem InvY.of {D2 rB xB rn gb gq gc m xr xq : Nat} {a1 : Option Addr} {n1 c1 : Nat} {G : List (Nat × Nat)} {V0 : World} {t : Array Value} {wr : World} (k K : Nat) (L : List (Nat × Nat)) (ht : t = frY30 D2 rB xB rn gb gq gc m k (fun j => t.getD j undef)) (h1 : k ≤ m) (h2 : K ≤ 100 + 2 * k) (h3 : Hid (IsDeck wr D2 a1 n1 c1 K)) (h4 : Hid (Keep (fun b => b ≠ D2 ∧ b ≠ xr) V0 wr)) (h5 : Hid (NarL G L)) (h6 : Hid (RowP wr xr L xq)) :
    InvY D2 rB xB rn gb gq gc m xr xq a1 n1 c1 G V0 { tmps := t, defers := [] } wr := ⟨_, k, K, L, by rw [← ht], h1, h2, h3, h4, h5, h6⟩

set_option maxRecDepth 1000000 in
set_option maxHeartbeats 16000000 in
theorem read_tail29 (X : Nat → Value) (D2 rB fB xB rn gb gq gc m xr xq nc : Nat) (na : Option Addr) (a1 : Option Addr) (n1 c1 K0 : Nat) (s : SL (Nat × Nat)) (gl : List (Nat × Nat)) (nl : List Int) (w V0 : World) (HM : Hid (gl.length = m)) (HOk : Hid (OkSt s.l gl nl)) (Hn : Hid (readsF s.l gl nl = rn)) (HRo : Hid (∀ u, Keep (fun b => b ≠ D2 ∧ b ≠ xr) V0 u → u.cell? ⟨rB, 0, none⟩ = some (.slice s.a s.l.length s.c) ∧ IsSl 2 spC u s)) (HFi : Hid (∀ u, Keep (fun b => b ≠ D2 ∧ b ≠ xr) V0 u → u.cell? ⟨xB, 0, none⟩ = some (.slice (some ⟨xr, 0, none⟩) m xq) ∧ u.cell? ⟨xB, 1, none⟩ = some (.slice na nl.length nc) ∧ IsSl 1 numI u ⟨na, nc, nl⟩))
    (HGc : Hid (∀ u, Keep (fun b => b ≠ D2 ∧ b ≠ xr) V0 u → u.cell? ⟨fB, 0, none⟩ = some (.slice (some ⟨gb, gq, none⟩) m gc) ∧ ∀ q, q < m → u.cell? ⟨gb, gq + q * 2, none⟩ = some (.int .i64 (((gl[q]?.getD (0, 0)).1 : Nat) : Int)) ∧ u.cell? ⟨gb, gq + q * 2 + 1, none⟩ = some (.int .i64 (((gl[q]?.getD (0, 0)).2 : Nat) : Int)))) (HRw : Hid (RowP V0 xr gl xq)) (HDk : Hid (IsDeck V0 D2 a1 n1 c1 K0 ∧ K0 ≤ 100)) (HBy : Hid (∀ b off, a1 = some ⟨b, off, none⟩ → 0 < n1 → b ≠ xr)) (Hne : Hid (xr ≠ D2 ∧ D2 < V0.heap.size)) (hgb : Hid (∀ x ∈ gl, x.2 ≤ 1000)) (hm1 : 0 < m) (hm40 : m ≤ 40) (HX : Hid (Ext w V0)) (HD0 : Hid (w.heap.size ≤ D2 ∧ w.heap.size ≤ xr)) :
    Code.wp Try.prog tail8_29 (bodyPost Try.prog Try.f8 fun e w' => e = .returned (.bool true) ∧ Ext w w') ⟨frY29 D2 rB fB xB rn X, []⟩ V0 := by
  conv => arg 2; whnf
  conv => arg 4; dsimp only [frY29]
  obtain ⟨t0, -⟩ := HGc.out V0 (Keep.refl _ _)
  have hk0 := HDk.out.2
  go_wp2_with fail
  refine wp_loop (InvY D2 rB xB rn gb gq gc m xr xq a1 n1 c1 gl V0) (fun a _ => m - (intOf (a.tmps.getD 149 undef)).toNat) (InvY.of 0 K0 gl rfl (Nat.zero_le _) (by omega) HDk.out.1 (Keep.refl _ _) (NarL.start fun s' hs => (HOk.out.gb s' hs).2.1) HRw.out) ?_
  clear t0 HDk hk0 HRw
  rintro ac wr ⟨X1, k, K, L, rfl, hk, hK, HDk, HK, HNar, HRw⟩
  conv => arg 4; dsimp only [frY30]
  by_cases hlt : k < m
  · have dk : decide ((k : Int) < (m : Int)) = true := decide_eq_true (by omega)
    have hwk : IntKind.i64.wrap ((k : Int) + 1) = ((k + 1 : Nat) : Int) := by rw [IntWalk.i64_in _ (by omega)]; omega
    obtain ⟨ck0, ck1⟩ := (HGc.out wr HK.out).2 k hlt
    have hmem := getD_mem (show k < gl.length by rw [HM.out]; exact hlt)
    have hsb2 := hgb.out _ hmem
    have hsb1 := (HOk.out.gb _ hmem).2.1
    obtain ⟨s', hs⟩ : ∃ s', gl[k]?.getD (0, 0) = s' := ⟨_, rfl⟩
    have HSg := Lib.hid hs
    rw [hs] at ck0 ck1 hsb1 hsb2
    obtain ⟨lo, hi'⟩ := s'
    dsimp only at ck0 ck1 hsb1 hsb2
    clear hs hmem
    have i0 : (0 : Int) ≤ (k : Int) := by omega
    have i1 : (k : Int) < (m : Int) := by omega
    have hD := HDk.out.lt
    have HHx := (Ext.refl wr).alloc (.cells #[.int .i64 (lo : Int), .int .i64 (hi' : Int)] 28)
    have hnw := World.alloc_heap_new wr (.cells #[.int .i64 (lo : Int), .int .i64 (hi' : Int)] 28)
    have hq0 := (cell_at hnw 0).trans rfl
    have hq1 := (cell_at hnw 1).trans rfl
    have HSb : Hid (wr.heap.size ≠ D2 ∧ wr.heap.size ≠ xr) := by have := HRw.out.lt; show _ ∧ _; omega
    have HDk1 := Lib.hid (HDk.out.ext HHx)
    have HK1 := Lib.hid (HK.out.ext HHx)
    have HR1 := Lib.hid (HRw.out.ext HHx)
    go_upto_region 32 with (fail)
    clear ck0 ck1 HDk HK HRw hnw HHx hD
    generalize wr.alloc (.cells #[.int .i64 (lo : Int), .int .i64 (hi' : Int)] 28) = wq at *
    generalize wr.heap.size = sb at *
    have HB := Lib.hid (btw_keep D2 n1 c1 a1 wq wq K lo hi' HDk1.out (Keep.refl _ _) (by omega) hsb1 (by omega))
    go_wp2_with fail
    refine HB.out.mono ?_
    rintro e wc ⟨r1, K1, rfl, hr1, hK1, hd1, hk1⟩
    have HS : Hid (∀ u, Keep (fun b => b ≠ D2 ∧ b ≠ xr) wc u → u.cell? ⟨xB, 0, none⟩ = some (.slice (some ⟨xr, 0, none⟩) m xq) ∧ u.cell? ⟨sb, 1, none⟩ = some (.int .i64 (hi' : Int))) := fun u hu =>
      ⟨(HFi.out u ((HK1.out.trans' hk1 (fun _ _ h => h.1)).trans' hu (fun _ _ h => h))).1, hu.cell (hk1.cell hq1 HSb.out.1) HSb.out⟩
    have hL : k < L.length := by rw [HNar.out.1, HM.out]; exact hlt
    have HY : Hid (∀ u, Keep (fun b => b ≠ D2) wc u → ∃ y0 y1, u.cell? ⟨xr, k * 2, none⟩ = some y0 ∧ u.cell? ⟨xr, k * 2 + 1, none⟩ = some y1 ∧ u.frozen? ⟨xr, k * 2, none⟩ = false ∧ u.frozen? ⟨xr, k * 2 + 1, none⟩ = false) := fun u hu => by
      have h := (HR1.out.keep hk1 Hne.out.1).keep hu Hne.out.1
      exact ⟨_, _, h.cell k hL 0 (by omega), h.cell k hL 1 (by omega), h.frozen _, h.frozen _⟩
    have HKM : Hid (∀ u, Keep (fun b => b ≠ D2) wc u → Keep (fun b => b ≠ D2 ∧ b ≠ xr) wc u) := fun u hu => hu.mono fun _ _ h => h.1
    have HBt := Lib.hid (btw_keep D2 n1 c1 a1 wc)
    have HSp := Lib.hid (span_keep D2 n1 c1 a1 wc)
    have HK2 := Lib.hid (HK1.out.trans' hk1 (fun _ _ h => h.1))
    have HR2 := Lib.hid (HR1.out.keep hk1 Hne.out.1)
    have hkq : Keep (fun b => b ≠ D2) wc wc := Keep.refl _ _
    obtain ⟨s1, s2⟩ := HS.out wc (Keep.refl _ _)
    clear hk1 HK1 HR1 HDk1 HB hq0 hq1 hL
    go_upto_region 33 with (fail)
    go_region_held3 (fun u => u.cell? ⟨xB, 0, none⟩ = some (.slice (some ⟨xr, 0, none⟩) m xq) ∧ u.cell? ⟨sb, 1, none⟩ = some (.int .i64 (hi' : Int)))
      ((refine HS.out _ ?_; (repeat (first | assumption | exact Keep.refl _ _ | refine Keep.drew ?_ | refine Keep.setCell ?_ _ _ (fun _ h => h.2 rfl)))))
      (first
        | (go_at_call 24; refine (HSp.out _ K2 _ _ ?_ ?_).mono ?_; (first | assumption | (refine IsDeck.ext ?_ (Ext.refl _).drew; assumption)); (first | assumption | (refine Keep.drew ?_; assumption)); rintro e we ⟨rfl, hd3, hk3⟩; have hm3 := HKM.out _ hk3; obtain ⟨y0, y1, g0, g1, g2, g3⟩ := HY.out _ hk3)
        | (go_at_call 25; refine (HBt.out _ K1 _ _ ?_ ?_ ?_ ?_ ?_).mono ?_; (first | assumption | (refine IsDeck.ext ?_ (Ext.refl _).drew; assumption)); (first | assumption | (refine Keep.drew ?_; assumption)); omega; omega; omega; rintro e wd ⟨r2, K2, rfl, hr2, hK2, hd2, hk2⟩; have hm2 := HKM.out _ hk2))
    have hR3 := (HR2.out.keep hk3 Hne.out.1).put k (r1, r2) (by rw [HNar.out.1, HM.out]; exact hlt)
    have HR3 : Hid (RowP ((we.setCell ⟨xr, k * 2, none⟩ (.int .i64 (r1 : Int))).setCell ⟨xr, k * 2 + 1, none⟩ (.int .i64 (r2 : Int))) xr (L.set k (r1, r2)) xq) := hR3
    have HNar2 : Hid (NarL gl (L.set k (r1, r2))) := HNar.out.set k (lo, hi') (r1, r2) HSg.out hr1.1 hr2.1 hr2.2
    have HK3 : Hid (Keep (fun b => b ≠ D2 ∧ b ≠ xr) V0 ((we.setCell ⟨xr, k * 2, none⟩ (.int .i64 (r1 : Int))).setCell ⟨xr, k * 2 + 1, none⟩ (.int .i64 (r2 : Int)))) := HK2.out.trans' ((hm3.setCell _ _ (fun _ h => h.2 rfl)).setCell _ _ (fun _ h => h.2 rfl)) (fun _ _ h => h)
    have HD3 : Hid (IsDeck ((we.setCell ⟨xr, k * 2, none⟩ (.int .i64 (r1 : Int))).setCell ⟨xr, k * 2 + 1, none⟩ (.int .i64 (r2 : Int))) D2 a1 n1 c1 K2) := (hd3.set _ _ (Ne.symm Hne.out.1) HBy.out).set _ _ (Ne.symm Hne.out.1) HBy.out
    have hK3 : K2 ≤ 100 + 2 * (k + 1) := by omega
    clear hR3 hd1 hd2 hk2 hm2 hd3 hk3 hm3 g0 g1 g2 g3 s1 s2 hkq HBt HSp HKM HS HY HK2 HR2 HNar hK1 hK2 hK hr1 hr2
    rename_i hHeld
    clear hHeld
    generalize (we.setCell ⟨xr, k * 2, none⟩ (.int .i64 (r1 : Int))).setCell ⟨xr, k * 2 + 1, none⟩ (.int .i64 (r2 : Int)) = wA at *
    go_wp2_with fail
    refine ⟨InvY.of (k + 1) K2 (L.set k (r1, r2)) ?_ (by omega) hK3 HD3 HK3 HNar2 HR3, ?_⟩
    · rfl
    · simp [intOf, frY30]; omega
  · obtain rfl : k = m := by omega
    have dk : decide ((k : Int) < (k : Int)) = false := decide_eq_false (by omega)
    obtain ⟨q0, hs0⟩ := HRo.out wr HK.out
    obtain ⟨x0, x1, hn0⟩ := HFi.out wr HK.out
    have hLm : L.length = k := HNar.out.1.trans HM.out
    have HXw : Hid (Ext w wr) := ext_keep HX.out HK.out (fun q hq => by have := HD0.out; exact ⟨by omega, by omega⟩)
    have hle := reads_narrow HOk.out (HNar.out.1) (fun q hq => HNar.out.2 q hq)
    rw [Hn.out] at hle
    have hrd := Readings_ok s ⟨⟨some ⟨xr, 0, none⟩, xq, L⟩, ⟨na, nc, nl⟩⟩ wr hs0 ⟨HRw.out.sl (by omega), hn0⟩ (HOk.out.narrow HNar.out.1 (fun q hq => HNar.out.2 q hq))
    dsimp only [FV.v] at hrd hle
    rw [hLm] at hrd
    generalize readsF s.l L nl = rm at *
    have HRd := Lib.hid hrd
    have dl : decide ((rm : Int) ≤ (rn : Int)) = true := decide_eq_true (by omega)
    clear hrd hLm hs0 hn0 HDk HK HNar HRw
    go_wp2_with fail
    refine HRd.out.mono ?_
    rintro e w5 ⟨rfl, hx5⟩
    have HX5 : Hid (Ext w w5) := HXw.out.trans hx5
    clear hx5
    go_wp2_with (go_at_call 19; refine (awake_ok _).mono ?_; rintro e w7 ⟨rfl, hx7⟩; have HX7 : Hid (Ext w w7) := HX5.out.trans hx7; clear hx7)
    go_ret
    exact ⟨rfl, HX7.out⟩
end Go.Proofs.Ytfognlealnhodaa

namespace Go.Proofs.Ytfognlealnhodaa
open Go.RowKit

def frZ30 (D2 rB xB rn gc : Nat) (ga : Option Addr) (X : Nat → Value) : Array Value := #[X 0, X 1, X 2, X 3, X 4, X 5, X 6, X 7, .pointer (some ⟨D2, 0, none⟩), .pointer (some ⟨rB, 0, none⟩), X 10, X 11, .int .i64 (rn : Int), X 13, X 14, X 15, X 16, X 17, X 18, X 19, X 20, X 21, X 22, X 23, X 24, X 25, X 26, .pointer (some ⟨xB, 0, none⟩), X 28, X 29, X 30, X 31, X 32, X 33, X 34, X 35, X 36, X 37, X 38, X 39, X 40, X 41, X 42, X 43, X 44, X 45, X 46, X 47, X 48, X 49, X 50, X 51, X 52, X 53, X 54, X 55, X 56, X 57, X 58, X 59, X 60, X 61, X 62, X 63, X 64, X 65, X 66, X 67, X 68, X 69, X 70, X 71, X 72, X 73, X 74, X 75, X 76, X 77, X 78, X 79, X 80, X 81, X 82, X 83, X 84, X 85, X 86, X 87, X 88, X 89, X 90, X 91, X 92, X 93, X 94, X 95, X 96, X 97, X 98, X 99, X 100, X 101, X 102, X 103, X 104, X 105, X 106, X 107, X 108, X 109, X 110, X 111, X 112, X 113, X 114, X 115, X 116, X 117, X 118, X 119, X 120, X 121, X 122, X 123, X 124, X 125, X 126, X 127, X 128, X 129, X 130, X 131, X 132, X 133, X 134, X 135, X 136, X 137, X 138, X 139, X 140, X 141, X 142, X 143, X 144, X 145, X 146, .slice ga 0 gc, .int .i64 0, .int .i64 0, X 150, X 151, X 152, X 153, X 154, X 155, X 156, X 157, X 158, X 159, X 160, X 161, X 162, X 163, X 164, X 165, X 166, X 167, X 168, X 169, X 170, X 171, X 172, X 173, X 174, X 175, X 176, X 177, X 178, X 179, X 180, X 181, X 182, X 183, X 184, X 185, X 186, X 187]
def InvZ (D2 rB xB rn gc : Nat) (ga : Option Addr) (V0 : World) (ac : Act) (wr : World) : Prop :=
  ∃ X : Nat → Value, ac = { tmps := frZ30 D2 rB xB rn gc ga X, defers := [] } ∧ wr = V0
theorem InvZ.of {D2 rB xB rn gc : Nat} {ga : Option Addr} {V0 : World} {t : Array Value} (ht : t = frZ30 D2 rB xB rn gc ga (fun j => t.getD j undef)) : InvZ D2 rB xB rn gc ga V0 { tmps := t, defers := [] } V0 := ⟨_, by rw [← ht], rfl⟩

set_option maxRecDepth 1000000 in
set_option maxHeartbeats 16000000 in
theorem read_tail29z (X : Nat → Value) (D2 rB fB xB rn gc xq nc : Nat) (ga xa na : Option Addr) (s : SL (Nat × Nat)) (nl : List Int) (w V0 : World) (HOk : Hid (OkSt s.l [] nl)) (Hn : Hid (readsF s.l [] nl = rn)) (HRo : Hid (V0.cell? ⟨rB, 0, none⟩ = some (.slice s.a s.l.length s.c) ∧ IsSl 2 spC V0 s)) (HFi : Hid (V0.cell? ⟨xB, 0, none⟩ = some (.slice xa 0 xq) ∧ V0.cell? ⟨xB, 1, none⟩ = some (.slice na nl.length nc) ∧ IsF V0 ⟨⟨xa, xq, []⟩, ⟨na, nc, nl⟩⟩)) (HGc : Hid (V0.cell? ⟨fB, 0, none⟩ = some (.slice ga 0 gc))) (HX : Hid (Ext w V0)) :
    Code.wp Try.prog tail8_29 (bodyPost Try.prog Try.f8 fun e w' => e = .returned (.bool true) ∧ Ext w w') ⟨frY29 D2 rB fB xB rn X, []⟩ V0 := by
  conv => arg 2; whnf
  conv => arg 4; dsimp only [frY29]
  have t0 := HGc.out
  go_wp2_with fail
  refine wp_loop (InvZ D2 rB xB rn gc ga V0) (fun _ _ => 0) (InvZ.of rfl) ?_
  clear t0
  rintro ac wr ⟨X1, rfl, rfl⟩
  conv => arg 4; dsimp only [frZ30]
  have dk : decide ((0 : Int) < 0) = false := by decide
  obtain ⟨q0, hs0⟩ := HRo.out
  obtain ⟨x0, x1, hn0⟩ := HFi.out
  have hrd := Readings_ok s ⟨⟨xa, xq, []⟩, ⟨na, nc, nl⟩⟩ wr hs0 hn0 HOk.out
  dsimp only [FV.v, List.length_nil] at hrd
  rw [Hn.out] at hrd
  have HRd := Lib.hid hrd
  have dl : decide ((rn : Int) ≤ (rn : Int)) = true := decide_eq_true (by omega)
  clear hrd hs0 hn0
  go_wp2_with fail
  refine HRd.out.mono ?_
  rintro e w5 ⟨rfl, hx5⟩
  have HX5 : Hid (Ext w w5) := HX.out.trans hx5
  clear hx5
  go_wp2_with (go_at_call 19; refine (awake_ok _).mono ?_; rintro e w7 ⟨rfl, hx7⟩; have HX7 : Hid (Ext w w7) := HX5.out.trans hx7; clear hx7)
  go_ret
  exact ⟨rfl, HX7.out⟩
end Go.Proofs.Ytfognlealnhodaa

namespace Go.Proofs.Ytfognlealnhodaa
open Go.RowKit

set_option maxRecDepth 100000 in
set_option maxHeartbeats 4000000 in
theorem Wrong_no (s : SL (Nat × Nat)) (f : FV) (w : World) (hs : IsSl 2 spC w s) (hf : IsF w f) (hk : OkSt s.l f.gp.l f.nm.l) (hr : 0 < readsF s.l f.gp.l f.nm.l) :
    Calls Try.prog 35 #[.agg #[.slice s.a s.l.length s.c], f.v] w fun e w' => e = .returned (.tuple #[.slice none 0 0, .int .i64 10]) ∧ Ext w w' := by
  have HT := Lib.hid (two_new w s f)
  have HX : Hid (Ext w ((w.alloc (.cells #[.slice s.a s.l.length s.c] 64)).alloc (.cells #[.slice f.gp.a f.gp.l.length f.gp.c, .slice f.nm.a f.nm.l.length f.nm.c] 66))) := ((Ext.refl w).alloc _).alloc _
  have HSl := Lib.hid hs
  have HF := Lib.hid hf
  have HK := Lib.hid hk
  have HSz : Hid (((w.alloc (.cells #[.slice s.a s.l.length s.c] 64)).alloc (.cells #[.slice f.gp.a f.gp.l.length f.gp.c, .slice f.nm.a f.nm.l.length f.nm.c] 66)).heap.size = w.heap.size + 2) := by show _ = _; simp only [World.size_alloc]
  clear hs hf hk
  obtain ⟨c0, c1, c2⟩ := HT.out
  have HCk := Lib.hid (checkStones_ok s f _ (HSl.out.ext HX.out) (HF.out.ext HX.out) HK.out)
  have HOp := Lib.hid (open_h s f _ HSl.out HK.out)
  have HRd := Lib.hid (read_s s f w HF.out HK.out)
  generalize readsF s.l f.gp.l f.nm.l = rd at *
  have dr : decide ((0 : Int) < (rd : Int)) = true := decide_eq_true (by omega)
  go_enter Try.func35, Try.ntmps35
  go_wp2_with fail
  generalize (w.alloc (.cells #[.slice s.a s.l.length s.c] 64)).alloc (.cells #[.slice f.gp.a f.gp.l.length f.gp.c, .slice f.nm.a f.nm.l.length f.nm.c] 66) = V at *
  refine HCk.out.mono ?_
  rintro e V1 ⟨rfl, hx1⟩
  have HX1 : Hid (Ext w V1) := HX.out.trans hx1
  obtain ⟨c0', c1', c2'⟩ := HT.out.ext hx1
  have HT1 := Lib.hid (HT.out.ext hx1)
  have HSz1 : Hid (w.heap.size + 2 ≤ V1.heap.size) := by have := hx1.size; rw [HSz.out] at this; exact this
  clear c0 c1 c2 hx1 HT
  go_wp2_with fail
  refine (HOp.out _ HX1.out).mono ?_
  rintro e V2 ⟨B, rfl, hB, hBk, hx2⟩
  obtain ⟨d0, d1, d2⟩ := HT1.out.ext hx2
  have HBk := Lib.hid hBk
  have HX12 := Lib.hid hx2
  have HX2 : Hid (Ext w V2) := HX1.out.trans hx2
  have hBw := Nat.le_trans HX1.out.size hB
  clear hBk hx2 c0' c1' c2'
  go_wp2_with fail
  refine (HRd.out B _ _ V2 hBw HBk.out HX2.out).mono ?_
  rintro e V3 ⟨rfl, hb3, hx3, hk3⟩
  have HX3 := Lib.hid hx3
  clear hb3 hx3 d0 d1 d2 hk3
  go_wp2
  go_ret2
  exact ⟨rfl, HX3.out⟩
end Go.Proofs.Ytfognlealnhodaa
