/-
  TreatyParted's walk: it answers true, and turns nothing that was there. The bytes must lie in memory as told.
-/
import Derived.Test.YtdejaliegbmgaaaGreatJn
import Derived.Test.YtdejaliegbmgaaaGreatYp
import Derived.Deep.CutBlock
import Derived.Deep.RegionHeld3
namespace Go.Proofs.YtdejaliegbmgaaaGreat
open Go.RowKit

set_option maxRecDepth 100000 in
set_option maxHeartbeats 8000000 in
theorem parted_any (a1 : Option Addr) (n1 c1 x : Nat) (w : World) (h1 : IsBytes w a1 n1 c1) (hx : x < 256) :
    Calls Tryz.prog 8 #[.slice a1 n1 c1, .int .u8 (x : Int)] w fun e w' => e = .returned (.bool true) ∧ Ext w w' := by
  have H1 := Lib.hid h1; clear h1
  go_enter Tryz.func8, Tryz.ntmps8
  go_wp2_with fail
  refine (of_any a1 n1 c1 w H1.out).mono ?_
  rintro e w1 ⟨rfl, hd1, hx1⟩
  go_wp2_with fail
  have HX1 : Hid (Ext w w1) := hx1
  have HMd := made_any w.heap.size a1 n1 c1 0 6 w1 hd1 (bytes_lt (deck_bytes hd1)) (by omega) (by omega)
  clear hd1 hx1
  refine HMd.mono ?_
  clear HMd
  rintro e w2 ⟨t, k2, rfl, hT2, hK, hl6, hd2, hk2, hx2⟩
  have HK := Lib.hid hK
  have HT2 := Lib.hid hT2
  have HD2 := Lib.hid hd2
  have EW2 : Hid (Ext w w2) := ((Ext.refl w).trans HX1.out).dext hx2 (Nat.le_refl _)
  have hw2 : w.heap.size < w2.heap.size := by have := hd2.lt; exact this
  clear hT2 hK hd2 hx2 HX1
  go_upto_region 3 with (fail)
  obtain ⟨wb, hwb⟩ : ∃ wb, w2.alloc (.cells #[.int .i64 (t.P : Int), .slice t.ways.a t.ways.l.length t.ways.c, .slice t.words.a t.words.l.length t.words.c, .slice t.starts.a t.starts.l.length t.starts.c, .slice t.legs.a t.legs.l.length t.legs.c] 27) = wb := ⟨_, rfl⟩
  have HBb : Hid (TBox wb w2.heap.size t) := by rw [← hwb]; exact World.alloc_heap_new w2 _
  have hxb : Ext w2 wb := by rw [← hwb]; exact (Ext.refl w2).alloc _
  have hxd : DExt w.heap.size w2 wb := (DExt.refl _ w2).ext hxb
  rw [hwb]
  clear hwb
  have HTb : Hid (IsTo w.heap.size wb t) := HT2.out.dext hxd
  have HDb : Hid (IsDeck wb w.heap.size a1 n1 c1 k2) := HD2.out.ext hxb
  have EWb : Hid (Ext w wb) := EW2.out.trans hxb
  have h2b : w2.heap.size < wb.heap.size := (Array.getElem?_eq_some_iff.1 HBb.out).1
  clear hxb hxd HT2 HD2 EW2
  obtain ⟨f0, f1, f2, f3, f4⟩ := HBb.out.five
  go_wp2_with fail
  clear f0 f1 f2 f3 f4
  refine (readDeal_any w.heap.size a1 n1 c1 k2 t wb HDb.out (bytes_lt (deck_bytes HDb.out)) (by omega) HTb.out HK.out).mono ?_
  rintro e w3 ⟨ar, cr, lr, k3, rfl, hO3, hR3, hd3, hk3, hx3⟩
  have HR : Hid (RdOk t lr) := hR3
  have hlr : lr.length ≤ 6 := by have := HR.out.1; have := HK.out.words; omega
  have HRS : Hid (IsSl 1 num w3 ⟨ar, cr, lr⟩) := own_sl hO3 (by omega)
  have HT3 : Hid (IsT w3 t) := (HTb.out.dext hx3).at
  have HB3 : Hid (TBox w3 w2.heap.size t) := (hx3.block w2.heap.size h2b (by simp; omega)).trans HBb.out
  have EW3 : Hid (Ext w w3) := EWb.out.dext hx3 (Nat.le_refl _)
  clear hO3 hR3 hd3 hx3 hk3 HDb HTb HBb EWb
  have hln := HK.out.legs
  obtain ⟨k, hk, hkm⟩ : ∃ k : Nat, k ≤ t.legs.l.length ∧ ((x : Int)).tmod ((t.legs.l.length : Int) + 1) = (k : Int) := by
    refine ⟨x % (t.legs.l.length + 1), by have := Nat.mod_lt x (show 0 < t.legs.l.length + 1 by omega); omega, ?_⟩
    rw [Int.tmod_eq_emod_of_nonneg (by omega)]
    exact_mod_cast rfl
  have hw4 : IntKind.i64.wrap ((t.legs.l.length : Int) + 1) = (t.legs.l.length : Int) + 1 := IntWalk.i64_in _ (by omega)
  have hw5 : IntKind.i64.wrap (x : Int) = (x : Int) := IntWalk.i64_in _ (by omega)
  have hw6 : IntKind.i64.wrap (k : Int) = (k : Int) := IntWalk.i64_in _ (by omega)
  have hne : ¬ ((t.legs.l.length : Int) + 1 = 0) := by omega
  obtain ⟨-, -, -, -, f4⟩ := HB3.out.five
  go_upto_region 5 with (fail)
  clear f4 hw4 hw5 hw6 hne hkm
  have KF : Hid (∀ V', Ext w3 V' → V'.cell? ⟨w2.heap.size, 0, none⟩ = some (.int .i64 (t.P : Int)) ∧ V'.cell? ⟨w2.heap.size, 1, none⟩ = some (.slice t.ways.a t.ways.l.length t.ways.c) ∧ V'.cell? ⟨w2.heap.size, 2, none⟩ = some (.slice t.words.a t.words.l.length t.words.c) ∧ V'.cell? ⟨w2.heap.size, 3, none⟩ = some (.slice t.starts.a t.starts.l.length t.starts.c) ∧ V'.cell? ⟨w2.heap.size, 4, none⟩ = some (.slice t.legs.a t.legs.l.length t.legs.c)) := fun V' h => TBox.five (show TBox V' w2.heap.size t from h.block HB3.out)
  go_cut [9, 10] (fun s9 s10 wx => TwoOf t w3 s9 s10 wx)
  case first =>
    rename_i hbig J0 K0 hJ hK0
    clear hbig
    have HJ := Lib.hid hJ
    have HK0 := Lib.hid hK0
    clear hJ hK0
    go_region_held3 (fun V' => V'.cell? ⟨w2.heap.size, 0, none⟩ = some (.int .i64 (t.P : Int)) ∧ V'.cell? ⟨w2.heap.size, 1, none⟩ = some (.slice t.ways.a t.ways.l.length t.ways.c) ∧ V'.cell? ⟨w2.heap.size, 2, none⟩ = some (.slice t.words.a t.words.l.length t.words.c) ∧ V'.cell? ⟨w2.heap.size, 3, none⟩ = some (.slice t.starts.a t.starts.l.length t.starts.c) ∧ V'.cell? ⟨w2.heap.size, 4, none⟩ = some (.slice t.legs.a t.legs.l.length t.legs.c))
      ((refine KF.out _ ?_; (with_reducible repeat (first | exact Ext.refl _ | exact X2.out | exact X1.out | refine Ext.drew ?_ | refine Ext.alloc ?_ _ | refine Ext.setCell ?_ (by first | exact Nat.le_refl _ | (have h1 := X1.out.size; have h2 := X2.out.size; dsimp only; omega)) _))))
      (first
        | (go_at_call 11; have hX1 := X1.out; clear hX1; refine (cloneT_any t _ (HT3.out.ext (by (with_reducible repeat (first | exact Ext.refl _ | exact X2.out | exact X1.out | refine Ext.drew ?_ | refine Ext.alloc ?_ _)))) HK.out).mono ?_; rintro e v2 ⟨tb, rfl, htb, hsb, hx2⟩; obtain ⟨lo2, hlo2, hle2, HKb⟩ := istk_at htb hx2; have X12 : Hid (Ext v1 v2) := (Ext.trans (by (with_reducible repeat (first | exact Ext.refl _ | refine Ext.drew ?_ | refine Ext.alloc ?_ _))) hx2); have X2 : Hid (Ext w3 v2) := X1.out.trans X12.out; have HSb := Lib.hid hsb; (try (have Hza : Hid (ZB v2 w3.heap.size) := (Za1.out.ext X12.out))); (try (obtain ⟨y1, y2⟩ := Zab1.out; have Hza : Hid (ZB v2 w3.heap.size) := (y1.ext X12.out); have Hzb : Hid (ZB v2 (w3.heap.size + 1)) := (y2.ext X12.out); clear y1 y2)); (try (have Zx : ZB v2 v1.heap.size := (zb_new (by with_reducible exact hx2)); have Hzc := Lib.hid Zx; clear Zx)); (try (have Zz : ZB v2 v1.heap.size ∧ ZB v2 (v1.heap.size + 1) := (zb_new2 (by with_reducible exact hx2)); obtain ⟨Zx, Zy⟩ := Zz; have Hzc := Lib.hid Zx; have Hzd := Lib.hid Zy; clear Zx Zy)); (try (have l1 : w3.heap.size < v1.heap.size := (by first | exact Zab1.out.1.lt | exact Za1.out.lt); have l2 : ¬ w3.heap.size = v1.heap.size := (by omega); have l3 : ¬ v1.heap.size = w3.heap.size := (by omega); clear l1)); (try (have l1 : w3.heap.size < v2.heap.size := Hza.out.lt; have mza : ¬ w3.heap.size = v2.heap.size := (by omega); have nza : ¬ v2.heap.size = w3.heap.size := (by omega); clear l1)); (try (have l1 : w3.heap.size + 1 < v2.heap.size := Hzb.out.lt; have mzb : ¬ w3.heap.size + 1 = v2.heap.size := (by omega); have nzb : ¬ v2.heap.size = w3.heap.size + 1 := (by omega); clear l1)); (try (have l1 : v1.heap.size < v2.heap.size := Hzc.out.lt; have mzc : ¬ v1.heap.size = v2.heap.size := (by omega); have nzc : ¬ v2.heap.size = v1.heap.size := (by omega); clear l1)); (try (have l1 : v1.heap.size + 1 < v2.heap.size := Hzd.out.lt; have mzd : ¬ v1.heap.size + 1 = v2.heap.size := (by omega); have nzd : ¬ v2.heap.size = v1.heap.size + 1 := (by omega); clear l1)); clear hsb htb hx2)
        | (go_at_call 11; refine (cloneT_any t _ (HT3.out.ext (by (with_reducible repeat (first | exact Ext.refl _ | exact X2.out | exact X1.out | refine Ext.drew ?_ | refine Ext.alloc ?_ _)))) HK.out).mono ?_; rintro e v1 ⟨ta, rfl, hta, hsa, hx1⟩; obtain ⟨lo1, hlo1, hle1, HKa⟩ := istk_at hta hx1; have X1 : Hid (Ext w3 v1) := (Ext.trans (by (with_reducible repeat (first | exact Ext.refl _ | refine Ext.drew ?_ | refine Ext.alloc ?_ _))) hx1); have HSa := Lib.hid hsa; (try (have Za1 : Hid (ZB v1 w3.heap.size) := (zb_call (by with_reducible exact hx1)))); (try (have Zab1 : Hid (ZB v1 w3.heap.size ∧ ZB v1 (w3.heap.size + 1)) := (zb_call2 (by with_reducible exact hx1)))); clear hsa hta hx1)
        | (go_simp; (fail_if_success unfold Oper.upon))
        | (obtain ⟨q0, q1, q2, q3, q4, qf⟩ := Hza.out.five; go_simp; (fail_if_success unfold Oper.upon))
        | (obtain ⟨q0, q1, q2, q3, q4, qf⟩ := (Hza.out.al boxZ).five; go_simp; (fail_if_success unfold Oper.upon))
        | (obtain ⟨q0, q1, q2, q3, q4, qf⟩ := (Hza.out.al (.cells #[.int .i64 (ta.P : Int), .slice ta.ways.a ta.ways.l.length ta.ways.c, .slice ta.words.a ta.words.l.length ta.words.c, .slice ta.starts.a ta.starts.l.length ta.starts.c, .slice ta.legs.a ta.legs.l.length ta.legs.c] 27)).five; go_simp; (fail_if_success unfold Oper.upon))
        | (obtain ⟨q0, q1, q2, q3, q4, qf⟩ := Hzb.out.five; go_simp; (fail_if_success unfold Oper.upon))
        | (obtain ⟨q0, q1, q2, q3, q4, qf⟩ := (Hzb.out.al boxZ).five; go_simp; (fail_if_success unfold Oper.upon))
        | (obtain ⟨q0, q1, q2, q3, q4, qf⟩ := (Hzb.out.al (.cells #[.int .i64 (ta.P : Int), .slice ta.ways.a ta.ways.l.length ta.ways.c, .slice ta.words.a ta.words.l.length ta.words.c, .slice ta.starts.a ta.starts.l.length ta.starts.c, .slice ta.legs.a ta.legs.l.length ta.legs.c] 27)).five; go_simp; (fail_if_success unfold Oper.upon))
        | (obtain ⟨q0, q1, q2, q3, q4, qf⟩ := Hzc.out.five; go_simp; (fail_if_success unfold Oper.upon))
        | (obtain ⟨q0, q1, q2, q3, q4, qf⟩ := (Hzc.out.al boxZ).five; go_simp; (fail_if_success unfold Oper.upon))
        | (obtain ⟨q0, q1, q2, q3, q4, qf⟩ := (Hzc.out.al (.cells #[.int .i64 (ta.P : Int), .slice ta.ways.a ta.ways.l.length ta.ways.c, .slice ta.words.a ta.words.l.length ta.words.c, .slice ta.starts.a ta.starts.l.length ta.starts.c, .slice ta.legs.a ta.legs.l.length ta.legs.c] 27)).five; go_simp; (fail_if_success unfold Oper.upon))
        | (obtain ⟨q0, q1, q2, q3, q4, qf⟩ := Hzd.out.five; go_simp; (fail_if_success unfold Oper.upon))
        | (obtain ⟨q0, q1, q2, q3, q4, qf⟩ := (Hzd.out.al boxZ).five; go_simp; (fail_if_success unfold Oper.upon))
        | (obtain ⟨q0, q1, q2, q3, q4, qf⟩ := (Hzd.out.al (.cells #[.int .i64 (ta.P : Int), .slice ta.ways.a ta.ways.l.length ta.ways.c, .slice ta.words.a ta.words.l.length ta.words.c, .slice ta.starts.a ta.starts.l.length ta.starts.c, .slice ta.legs.a ta.legs.l.length ta.legs.c] 27)).five; go_simp; (fail_if_success unfold Oper.upon)))
    all_goals (have hJ := HJ.out; have hK0 := HK0.out; clear HJ HK0)
    all_goals go_wp2_with fail
    all_goals go_meet
    all_goals (try (have e1 : lo1 = w3.heap.size := (by with_reducible exact (hlo1.trans (sz0d w3)))))
    all_goals (try (have e1 : lo1 = w3.heap.size + 1 := (by with_reducible exact (hlo1.trans (sz1d w3 _)))))
    all_goals (try (have e1 : lo1 = w3.heap.size + 2 := (by with_reducible exact (hlo1.trans (sz2d w3 _ _)))))
    all_goals (try (have e2 : lo2 = v1.heap.size + 1 := (by with_reducible exact (hlo2.trans (sz1 v1 _)))))
    all_goals (try (have e2 : lo2 = v1.heap.size + 2 := (by with_reducible exact (hlo2.trans (sz2 v1 _ _)))))
    all_goals (try (have e2 : lo2 = v1.heap.size := (by with_reducible exact hlo2)))
    all_goals clear hlo1 hlo2
    all_goals (have g1 := X1.out.size; have g2 := X12.out.size)
    all_goals
      refine two_fin (lo1 := lo1) (lo2 := lo2) ?_ ?_ ?_ HKa.out HKb.out X1.out X12.out ?_ ?_ ?_ ?_ HSa.out HSb.out ?_ ?_ ?_
      · omega
      · omega
      · omega
      · omega
      · omega
      · omega
      · omega
      · (with_reducible repeat (first | exact G2.refl _ _ _ | refine G2.al ?_ _ | refine G2.setA ?_ _ _ | refine G2.setB ?_ _ _))
      · (with_reducible repeat (first | exact mkt_new _ _ _ _ _ _ | exact mkt_new1 _ _ _ _ _ _ _ | exact zb_at _ | exact zb_at1 _ _ | exact Hza.out | exact Hzb.out | exact Hzc.out | exact Hzd.out | refine zb_set ?_ | refine MkT.ne ?_ (by omega) | refine MkT.al ?_ _ | refine ZB.ne ?_ (by omega) | refine ZB.al ?_ _))
      · (with_reducible repeat (first | exact mkt_new _ _ _ _ _ _ | exact mkt_new1 _ _ _ _ _ _ _ | exact zb_at _ | exact zb_at1 _ _ | exact Hza.out | exact Hzb.out | exact Hzc.out | exact Hzd.out | refine zb_set ?_ | refine MkT.ne ?_ (by omega) | refine MkT.al ?_ _ | refine ZB.ne ?_ (by omega) | refine ZB.al ?_ _))
  case rest =>
    obtain ⟨A, B, ta, tb, rfl, rfl, hAB, hA0, hB0, hAl, hBl, HMA, HMB, HG, HSa, HSb, HX⟩ := hcut
    clear KF
    have hBA : ¬ B = A := fun e => hAB e.symm
    obtain ⟨-, -, -, -, c4⟩ := HMA.out.five
    obtain ⟨-, -, -, -, d4⟩ := HMB.out.five
    have f4 := HMA.out.frozen 4
    have g4 := HMB.out.frozen 4
    have la : ta.legs.l.length = t.legs.l.length := by rw [HSa.out.legs]
    have lb : tb.legs.l.length = t.legs.l.length := by rw [HSb.out.legs]
    have ca := (HG.out wc (G2.refl _ _ _)).1.legs.1
    have cb := (HG.out wc (G2.refl _ _ _)).2.legs.1
    have k0 : (0 : Int) ≤ (k : Int) := by omega
    have k1 : (k : Int) ≤ (ta.legs.c : Int) := by omega
    have k2 : (k : Int) ≤ (tb.legs.l.length : Int) := by omega
    clear la lb ca cb
    go_upto_region 6 with (fail)
    obtain ⟨wq, rfl⟩ : ∃ wq : World, wq = wc := ⟨_, rfl⟩
    go_cut [] (fun wx => Cut6 t k A B w3 wx)
    case first =>
      by_cases hck : tb.legs.c = k
      · go_region
        all_goals go_wp2_with fail
        all_goals go_meet
        all_goals
          refine cut6_mk HG.out HSa.out HSb.out hk HX.out hA0 hB0 (((G2.refl A B wq).setA 4 _).setB 4 _).dr ((HMA.out.set4 _).ne hBA).dr ?_
          rw [if_pos hck, hck, Nat.sub_self]
          exact ((HMB.out.ne hAB).set4 _).dr
      · go_region
        all_goals go_wp2_with fail
        all_goals go_meet
        all_goals
          refine cut6_mk HG.out HSa.out HSb.out hk HX.out hA0 hB0 (((G2.refl A B wq).setA 4 _).setB 4 _).dr ((HMA.out.set4 _).ne hBA).dr ?_
          rw [if_neg hck]
          exact ((HMB.out.ne hAB).set4 _).dr
    case rest =>
      have hAl6 := hAl
      have hBl6 := hBl
      clear HMA HMB HG HSa HSb HX c4 d4 f4 g4 k0 k1 k2 hAl hBl
      obtain ⟨ta, tb, HMA, HMB, HG, HSa, HSb, Has, Hal, Hbl, HX⟩ := hcut
      have hAl : A < wc.heap.size := (Array.getElem?_eq_some_iff.1 HMA.out).1
      have hBl : B < wc.heap.size := (Array.getElem?_eq_some_iff.1 HMB.out).1
      obtain ⟨-, -, -, d3, -⟩ := HMB.out.five
      have g3 := HMB.out.frozen 3
      have HG7 : Hid (G2 A B wc (wc.setCell ⟨B, 3, none⟩ (.slice none 0 0))) := (G2.refl A B wc).setB 3 _
      have HM7 : Hid (MkT (wc.setCell ⟨B, 3, none⟩ (.slice none 0 0)) B tb.P tb.ways.v tb.words.v (.slice none 0 0) tb.legs.v) := HMB.out.set3 _
      have HA7 : Hid (MkT (wc.setCell ⟨B, 3, none⟩ (.slice none 0 0)) A ta.P ta.ways.v ta.words.v ta.starts.v ta.legs.v) := HMA.out.ne hBA
      have HX7 : Hid (Ext w3 (wc.setCell ⟨B, 3, none⟩ (.slice none 0 0))) := ext_g2 HX.out HG7.out hA0 hB0
      go_upto_region 8 with (fail)
      generalize wc.setCell ⟨B, 3, none⟩ (.slice none 0 0) = W7 at *
      have hA7 : A < W7.heap.size := (Array.getElem?_eq_some_iff.1 HA7.out).1
      have hB7 : B < W7.heap.size := (Array.getElem?_eq_some_iff.1 HM7.out).1
      clear d3 g3 hAl hBl
      obtain ⟨f0, -⟩ := (TBox.five (HX7.out.block HB3.out))
      go_wp2_with fail
      clear f0
      obtain ⟨i3, hi3, hz3, hs3, hb3⟩ := info_parts info3
      go_loopw [59] (fun iv wr => ∃ (j : Nat) (s : SL Nat), j ≤ t.P ∧ iv = .int .i64 (j : Int) ∧ Hid (s.l = List.range j) ∧ Hid (wr.ownsRow W7.heap.size 3 1 (.slice s.a s.l.length s.c) s.l.length (nums s.l)) ∧ Hid (MkT wr B tb.P tb.ways.v tb.words.v (.slice s.a s.l.length s.c) tb.legs.v) ∧ Hid (MkT wr A ta.P ta.ways.v ta.words.v ta.starts.v ta.legs.v) ∧ Hid (G2 A B W7 wr)) (fun iv _ => t.P - (intOf iv).toNat)
      case atStart => exact ⟨0, ⟨none, 0, []⟩, Nat.zero_le _, rfl, rfl, World.ownsRow_nil _ _ _ _, HM7.out, HA7.out, G2.refl _ _ _⟩
      case round =>
        obtain ⟨wo, rfl⟩ : ∃ wo : World, wo = wr := ⟨_, rfl⟩
        obtain ⟨j, s, hj, rfl, HSr, HO, HMo, HAo, HGo⟩ := hrel
        have hsl : s.l.length = j := by rw [HSr.out]; simp
        have hP := HK.out.p2
        by_cases hlt : j < t.P
        · have dj : decide ((j : Int) < (t.P : Int)) = true := by simpa using hlt
          obtain ⟨-, -, -, d3, -⟩ := HMo.out.five
          have hm6 : s.l.length + 1 ≤ maxLen := by unfold maxLen; omega
          have hs12 : s.l.length ≤ 12 := by omega
          have hb1 : W7.heap.size ≤ wo.heap.size + 1 := by have := HGo.out.size; omega
          have HSl := Lib.hid hsl
          clear hsl
          go_wp2_with (at_builtin; go_must (refine wpList_append_own _ rfl _ _ 24 rfl W7.heap.size 3 i3 (.int .i64 0) 1 8 Tryz.underlying24 hi3 hz3 hs3 hb3 rfl (by decide) _ s.l.length (nums s.l) rfl (HO.out.alloc _) ⟨wo.heap.size, 0, none⟩ 1 1 (nums [j]) rfl rfl (new_cells wo (nums [j]) 3) (nums_one [j]) hm6 (by omega) (by simp; omega) ?_); intro v' w9 hown hgrow _; obtain ⟨g, cap, rfl⟩ := ownsRow_succ hown; obtain ⟨⟨cv, fv⟩, hA, hC, hD, hE⟩ := start_leaf hA7 hB7 hAB rfl HO.out HMo.out HAo.out HGo.out hown hgrow; clear hown hgrow)
          go_roundw
          case rel => exact ⟨j + 1, ⟨some ⟨g, 0, none⟩, cap, s.l ++ [j]⟩, by omega, by go_num, by show s.l ++ [j] = _; rw [HSr.out, List.range_succ], hA, hC, hD, hE⟩
          case measure => simp [intOf]; omega
        · have hje : j = t.P := by omega
          have dj : decide ((j : Int) < (t.P : Int)) = false := decide_eq_false (by omega)
          have HPs : Hid (s.l = List.range t.P) := by show _ = _; rw [HSr.out, hje]
          have HXo : Hid (Ext w3 wo) := ext_g2 HX7.out HGo.out hA0 hB0
          have hI := HG.out wo (HG7.out.trans HGo.out)
          have HTa : Hid (IsT wo ta) := hI.1
          have hTc : IsT wo ⟨tb.P, tb.ways, tb.words, s, tb.legs⟩ := ⟨hI.2.ways, hI.2.words, hI.2.word, own_sl HO.out (by omega), hI.2.legs⟩
          have hBc : TBox wo B ⟨tb.P, tb.ways, tb.words, s, tb.legs⟩ := HMo.out
          have hpc := part_of (b := ⟨tb.P, tb.ways, tb.words, s, tb.legs⟩) HK.out lr k hk HSa.out ⟨HSb.out.P, HSb.out.ways, HSb.out.words⟩ Has.out HPs.out Hal.out Hbl.out
          have hRc : RdOk ⟨tb.P, tb.ways, tb.words, s, tb.legs⟩ lr := RdOk.same ⟨HSb.out.P, HSb.out.ways, HSb.out.words⟩ HR.out
          have HRa : Hid (RdOk ta lr) := RdOk.same HSa.out HR.out
          clear hI hje
          generalize (⟨tb.P, tb.ways, tb.words, s, tb.legs⟩ : TV) = tc at *
          obtain ⟨hpt, hoka, hokc⟩ := hpc
          have HPT := Lib.hid hpt
          have HKa := Lib.hid hoka
          have HKc := Lib.hid hokc
          have HRc := Lib.hid hRc
          have HTc := Lib.hid hTc
          have HBc := Lib.hid hBc
          have HBa : Hid (TBox wo A ta) := HAo.out
          have HBt : Hid (TBox wo w2.heap.size t) := HXo.out.block HB3.out
          have HTt : Hid (IsT wo t) := HT3.out.ext HXo.out
          have HRs : Hid (IsSl 1 num wo ⟨ar, cr, lr⟩) := HRS.out.ext HXo.out
          have EWo : Hid (Ext w wo) := EW3.out.trans HXo.out
          have hle : (yieldL (leadsOf ta lr) ta.P ta.starts.l ta.legs.l.length).length + (yieldL (leadsOf tc lr) tc.P tc.starts.l tc.legs.l.length).length ≤ (yieldL (leadsOf t lr) t.P t.starts.l t.legs.l.length).length := by
            rw [yl_few ta HKa.out lr, yl_few tc HKc.out lr, yl_few t HK.out lr]
            exact part_least hpt HK.out.start.1 HK.out.starts1 HK.out.legs
          have hx10 : (yieldL (leadsOf t lr) t.P t.starts.l t.legs.l.length).length ≤ 10 := by
            rw [yl_few t HK.out lr]; exact Nat.le_trans (few_le t HK.out lr) HK.out.legs
          have HLE := Lib.hid hle
          have HX10 := Lib.hid hx10
          clear hpt hoka hokc hRc hTc hBc hle hx10 HO HMo HAo HGo HSr HG HG7 HM7 HA7 HX7 HSa HSb HMA HMB HT3 HB3 HRS EW3 HX HXo HPs
          obtain ⟨f0, f1, f2, f3, f4⟩ := HBt.out.five
          go_wp2_with fail
          clear f0 f1 f2 f3 f4
          refine (Yield_ok t ⟨ar, cr, lr⟩ wo HTt.out HK.out HRs.out HR.out).mono ?_
          rintro e wd ⟨ax, cx, rfl, -, hxd⟩
          generalize yieldL (leadsOf t lr) t.P t.starts.l t.legs.l.length = yx at *
          have HD : Hid (Ext wo wd) := hxd
          clear hxd
          obtain ⟨f0, f1, f2, f3, f4⟩ := TBox.five (HD.out.block HBa.out)
          go_wp2_with fail
          clear f0 f1 f2 f3 f4
          refine (Yield_ok ta ⟨ar, cr, lr⟩ wd (HTa.out.ext HD.out) HKa.out (HRs.out.ext HD.out) HRa.out).mono ?_
          rintro e we ⟨ay, cy, rfl, -, hxe⟩
          generalize yieldL (leadsOf ta lr) ta.P ta.starts.l ta.legs.l.length = yy at *
          have HE : Hid (Ext wo we) := HD.out.trans hxe
          clear hxe HD
          obtain ⟨f0, f1, f2, f3, f4⟩ := TBox.five (HE.out.block HBc.out)
          go_wp2_with fail
          clear f0 f1 f2 f3 f4
          refine (Yield_ok tc ⟨ar, cr, lr⟩ we (HTc.out.ext HE.out) HKc.out (HRs.out.ext HE.out) HRc.out).mono ?_
          rintro e wf ⟨az, cz, rfl, -, hxf⟩
          generalize yieldL (leadsOf tc lr) tc.P tc.starts.l tc.legs.l.length = yz at *
          have HF : Hid (Ext wo wf) := HE.out.trans hxf
          clear hxf HE
          go_upto_region 16 with (fail)
          go_cut [106] (fun s106 wx => s106 = .bool false ∧ wx = wf)
          case first =>
            have n1 : yx.length ≤ 10 := HX10.out
            have n2 : yy.length + yz.length ≤ yx.length := HLE.out
            have m1 : decide ((yx.length : Int) < (yy.length : Int) + (yz.length : Int)) = false := decide_eq_false (by omega)
            have m2 : decide (yx.length < yy.length + yz.length) = false := decide_eq_false (by omega)
            go_wp2_with fail
            all_goals first
              | (exfalso; omega)
              | (go_meet; exact ⟨by simp, rfl⟩)
          case rest =>
            obtain ⟨rfl, rfl⟩ := hcut
            go_step
            go_step
            go_step
            go_step
            go_step
            exact parted_tail w _ w2.heap.size A B k t ta tc ar cr lr hk hln HK HKa HKc HR HRa HRc HPT (HTt.out.ext HF.out) (HTa.out.ext HF.out) (HTc.out.ext HF.out) (HF.out.block HBt.out) (HF.out.block HBa.out) (HF.out.block HBc.out) (HRs.out.ext HF.out) (EWo.out.trans HF.out)
end Go.Proofs.YtdejaliegbmgaaaGreat
