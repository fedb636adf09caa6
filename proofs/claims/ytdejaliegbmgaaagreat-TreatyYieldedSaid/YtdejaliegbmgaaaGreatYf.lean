/-
  TreatyYielded's walk: it answers true, and turns nothing that was there. The bytes must lie in memory as told.
-/
import Derived.Test.YtdejaliegbmgaaaGreatJn
import Derived.Test.YtdejaliegbmgaaaGreatYa
import Derived.Test.YtdejaliegbmgaaaGreatYg
import Derived.Deep.CutBlock
import Derived.Deep.RegionHeld3
namespace Go.Proofs.YtdejaliegbmgaaaGreat
open Go.RowKit

/-- A list that lies in memory, whatever the deck does. -/
def SlO (D : Nat) (w : World) (s : SL Nat) : Prop := ∀ w', DExt D w w' → IsSl 1 num w' s
theorem SlO.dext {D : Nat} {w w' : World} {s : SL Nat} (h : SlO D w s) (k : DExt D w w') : SlO D w' s := fun w'' k' => h w'' (k.trans k')
theorem SlO.ext {D : Nat} {w w' : World} {s : SL Nat} (h : SlO D w s) (k : Ext w w') : SlO D w' s := h.dext ((DExt.refl D w).ext k)
theorem SlO.at {D : Nat} {w : World} {s : SL Nat} (h : SlO D w s) : IsSl 1 num w s := h w (DExt.refl D w)
theorem SlO.own {D base : Nat} {w : World} {a : Option Addr} {c : Nat} {l : List Nat} (h : w.ownsRow base 3 1 (.slice a l.length c) l.length (nums l)) (hD : D < base) (hl : l.length ≤ 1000000) : SlO D w ⟨a, c, l⟩ :=
  fun _w' k => own_sl (G2.own h ((G2.refl D D w).dext k) hD hD) hl

set_option maxRecDepth 100000 in
set_option maxHeartbeats 4000000 in
theorem yielded_any (a1 a2 : Option Addr) (n1 c1 n2 c2 : Nat) (w : World) (h1 : IsBytes w a1 n1 c1) (h2 : IsBytes w a2 n2 c2) :
    Calls Tryz.prog 5 #[.slice a1 n1 c1, .slice a2 n2 c2] w fun e w' => e = .returned (.bool true) ∧ Ext w w' := by
  have H1 := Lib.hid h1; clear h1
  have H2 := Lib.hid h2; clear h2
  go_enter Tryz.func5, Tryz.ntmps5
  go_wp2_with fail
  refine (of_any a1 n1 c1 w H1.out).mono ?_
  rintro e w1 ⟨rfl, hd1, hx1⟩
  go_wp2_with fail
  have HX1 : Hid (Ext w w1) := hx1
  have HMd := made_any w.heap.size a1 n1 c1 0 10 w1 hd1 (bytes_lt (deck_bytes hd1)) (by omega) (by omega)
  clear hd1 hx1
  refine HMd.mono ?_
  clear HMd
  rintro e w2 ⟨t, k2, rfl, hT2, hK, hl10, hd2, hk2, hx2⟩
  have HK := Lib.hid hK
  have EW2 : Hid (Ext w w2) := ((Ext.refl w).trans HX1.out).dext hx2 (Nat.le_refl _)
  have H2b : Hid (IsBytes (w2.alloc (.cells #[.int .i64 (t.P : Int), .slice t.ways.a t.ways.l.length t.ways.c, .slice t.words.a t.words.l.length t.words.c, .slice t.starts.a t.starts.l.length t.starts.c, .slice t.legs.a t.legs.l.length t.legs.c] 27)) a2 n2 c2) := H2.out.ext (EW2.out.alloc _)
  have HBb : Hid (TBox (w2.alloc (.cells #[.int .i64 (t.P : Int), .slice t.ways.a t.ways.l.length t.ways.c, .slice t.words.a t.words.l.length t.words.c, .slice t.starts.a t.starts.l.length t.starts.c, .slice t.legs.a t.legs.l.length t.legs.c] 27)) w2.heap.size t) := World.alloc_heap_new w2 _
  have HTb : Hid (IsT (w2.alloc (.cells #[.int .i64 (t.P : Int), .slice t.ways.a t.ways.l.length t.ways.c, .slice t.words.a t.words.l.length t.words.c, .slice t.starts.a t.starts.l.length t.starts.c, .slice t.legs.a t.legs.l.length t.legs.c] 27)) t) := hT2.at.ext ((Ext.refl w2).alloc _)
  have EWb : Hid (Ext w (w2.alloc (.cells #[.int .i64 (t.P : Int), .slice t.ways.a t.ways.l.length t.ways.c, .slice t.words.a t.words.l.length t.words.c, .slice t.starts.a t.starts.l.length t.starts.c, .slice t.legs.a t.legs.l.length t.legs.c] 27))) := EW2.out.alloc _
  have hsb : w2.heap.size < (w2.alloc (.cells #[.int .i64 (t.P : Int), .slice t.ways.a t.ways.l.length t.ways.c, .slice t.words.a t.words.l.length t.words.c, .slice t.starts.a t.starts.l.length t.starts.c, .slice t.legs.a t.legs.l.length t.legs.c] 27)).heap.size := by simp
  clear hT2 hK hd2 hx2 hl10 HX1 EW2
  go_upto_region 2 with (fail)
  generalize w2.alloc (.cells #[.int .i64 (t.P : Int), .slice t.ways.a t.ways.l.length t.ways.c, .slice t.words.a t.words.l.length t.words.c, .slice t.starts.a t.starts.l.length t.starts.c, .slice t.legs.a t.legs.l.length t.legs.c] 27) = wb at *
  go_wp2_with fail
  refine (of_any a2 n2 c2 wb H2b.out).mono ?_
  rintro e w3 ⟨rfl, hd3, hx3⟩
  have HD3 := Lib.hid hd3
  have HX3 : Hid (Ext wb w3) := hx3
  have hb3 : wb.heap.size < w3.heap.size := hd3.lt
  have hbb : Hid (∀ b off, a2 = some ⟨b, off, none⟩ → 0 < n2 → b < wb.heap.size) := bytes_lt H2b.out
  clear hd3 hx3
  have KB : Hid (∀ V', Ext wb V' → TBox V' w2.heap.size t) := fun V' h => h.block HBb.out
  have KT : Hid (∀ V', Ext wb V' → IsT V' t) := fun V' h => HTb.out.ext h
  obtain ⟨f0, f1, f2, f3, f4⟩ := (KB.out w3 HX3.out).five
  go_wp2_with fail
  clear f0 f1 f2 f3 f4
  refine (Fewest_own t w3 (KT.out w3 HX3.out) HK.out).mono ?_
  rintro e w4 ⟨ab, cb, rfl, hs4, hx4⟩
  obtain ⟨hbR, hb2, hbm⟩ := best_few t HK.out
  have hrm := readings_many t HK.out
  have hmN : (bestR t (allR (cntR t))).2 ≤ t.legs.l.length := by rw [hb2]; exact few_le t HK.out _
  have hN10 := HK.out.legs
  generalize (bestR t (allR (cntR t))).1 = bl at *
  generalize (bestR t (allR (cntR t))).2 = many at *
  have HE4 : Hid (Ext wb w4) := HX3.out.trans hx4
  have hs34 : w3.heap.size ≤ w4.heap.size := hx4.size
  have HD4 : Hid (IsDeck w4 wb.heap.size a2 n2 c2 0) := HD3.out.ext hx4
  have HO4 := Lib.hid hs4
  have HBR := Lib.hid hbR
  have HB2 := Lib.hid hb2
  have HBM := Lib.hid hbm
  have HRM := Lib.hid hrm
  clear hs4 hbR hb2 hbm hrm hx4 HD3 HX3
  obtain ⟨f0, f1, f2, f3, f4⟩ := (KB.out w4 HE4.out).five
  have m0 : (0 : Int) ≤ (many : Int) := by omega
  have m1 : (many : Int) ≤ (t.legs.l.length : Int) := by omega
  have m2 : decide ((many : Int) < 0) = false := decide_eq_false (by omega)
  have m3 : decide (t.legs.l.length < many) = false := decide_eq_false (by omega)
  have m4 : ¬ t.legs.l.length < many := by omega
  go_wp2_with fail
  clear f0 f1 f2 f3 f4
  clear m0 m1 m2 m3 m4
  have hsz4 : wb.heap.size ≤ w4.heap.size := HE4.out.size
  go_loopw [46] (fun iv wr => ∃ (j k : Nat), j ≤ 5 ∧ iv = .int .i64 (j : Int) ∧ k ≤ 30 * j ∧ Hid (DExt wb.heap.size w4 wr) ∧ Hid (IsDeck wr wb.heap.size a2 n2 c2 k)) (fun iv _ => 5 - (intOf iv).toNat)
  case atStart => exact ⟨0, 0, Nat.zero_le _, rfl, Nat.le_refl _, DExt.refl _ _, HD4.out⟩
  case round =>
    obtain ⟨wo, rfl⟩ : ∃ wo : World, wo = wr := ⟨_, rfl⟩
    obtain ⟨j, k, hj, rfl, hk, HX, HDk⟩ := hrel
    have EXo : Hid (Ext wb wo) := HE4.out.dext HX.out (Nat.le_refl _)
    have hlo : wb.heap.size ≤ wo.heap.size := EXo.out.size
    have h3o : w3.heap.size ≤ wo.heap.size := Nat.le_trans hs34 HX.out.size
    by_cases hlt : j < 5
    · have dj : decide ((j : Int) < 5) = true := decide_eq_true (by omega)
      have KO : Hid (∀ V', Ext wb V' → IsTo wb.heap.size V' t) := fun V' h w'' h' => KT.out w'' (h.dext h' (Nat.le_refl _))
      obtain ⟨f0, f1, f2, f3, f4⟩ := (KB.out wo EXo.out).five
      go_wp2_with fail
      clear f0 f1 f2 f3 f4
      refine (readDeal_any wb.heap.size a2 n2 c2 k t wo HDk.out (fun b off e1 e2 => Nat.lt_of_lt_of_le (hbb.out b off e1 e2) hlo) (by omega) (KO.out wo EXo.out) HK.out).mono ?_
      rintro e wa ⟨al, cl, ll, ka, rfl, hol, hrl, hda, hka, hxa⟩
      have HOl := Lib.hid hol
      have HRl := Lib.hid hrl
      have HDa := Lib.hid hda
      have HXa : Hid (DExt wb.heap.size w4 wa) := HX.out.trans hxa
      have EXa : Hid (Ext wb wa) := HE4.out.dext HXa.out (Nat.le_refl _)
      have HSb : Hid (SlO wb.heap.size wa ⟨ab, cb, bl⟩) := (SlO.own HO4.out hb3 (by have := HBR.out.1; have := HK.out.words; omega)).dext HXa.out
      clear hol hrl hda hxa
      go_upto_if 53 with (fail)
      go_cut [11] (fun s11 wx => wx = wa ∧ ∃ r : SL Nat, s11 = .slice r.a r.l.length r.c ∧ Hid (SlO wb.heap.size wa r) ∧ Hid (RdOk t r.l) ∧ Hid (j = 0 → fewR t r.l = many) ∧ Hid (many ≤ fewR t r.l))
      case first =>
        by_cases h0 : j = 0
        · have d0 : ((j : Int) == 0) = true := by simp [h0]
          clear h0
          go_wp2_with fail
          go_meet
          exact ⟨rfl, ⟨ab, cb, bl⟩, rfl, HSb, HBR, fun _ => HB2.out.symm, by show _ ≤ _; rw [← HB2.out]; exact Nat.le_refl _⟩
        · have d0 : ((j : Int) == 0) = false := by rw [beq_eq_false_iff_ne]; omega
          have HN0 : Hid (¬ j = 0) := h0
          clear h0
          go_wp2_with fail
          go_meet
          exact ⟨rfl, ⟨al, cl, ll⟩, rfl, SlO.own HOl.out (Nat.lt_of_lt_of_le hb3 h3o) (by have := HRl.out.1; have := HK.out.words; omega), HRl, fun e => absurd e HN0.out, HBM.out _ HRl.out⟩
      case rest =>
        obtain ⟨rfl, r, rfl, HSr, HRr, Hj0, Hmr⟩ := hcut
        obtain ⟨y1, y2, y3, y4, y5⟩ := yield_facts t HK.out r.l
        have ypw := yieldL_pw (leadsOf t r.l) t.P t.starts.l t.legs.l.length
        have ylt := yieldL_lt (leadsOf t r.l) t.P t.starts.l t.legs.l.length
        obtain ⟨f0, f1, f2, f3, f4⟩ := (KB.out wc EXa.out).five
        have HY1 := Lib.hid y1
        have HY2 := Lib.hid y2
        have HY3 := Lib.hid y3
        have HY4 := Lib.hid y4
        have HY5 := Lib.hid y5
        have HYp := Lib.hid ypw
        have HYl := Lib.hid ylt
        clear y1 y2 y3 y4 y5 ypw ylt
        go_wp2_with fail
        clear f0 f1 f2 f3 f4
        refine (Yield_ok t r wc (KT.out wc EXa.out) HK.out HSr.out.at HRr.out).mono ?_
        rintro e wd ⟨ay, cy, rfl, hsy, hxd⟩
        generalize yieldL (leadsOf t r.l) t.P t.starts.l t.legs.l.length = yl at *
        have EXd : Hid (Ext wb wd) := EXa.out.trans hxd
        have HXd : Hid (DExt wb.heap.size w4 wd) := HXa.out.ext hxd
        have HDd : Hid (IsDeck wd wb.heap.size a2 n2 c2 ka) := HDa.out.ext hxd
        have HSd : Hid (SlO wb.heap.size wd r) := HSr.out.ext hxd
        have HSy := Lib.hid hsy
        clear hxd hsy HDa HXa EXa HSr HSb HOl
        obtain ⟨f0, f1, f2, f3, f4⟩ := (KB.out wd EXd.out).five
        go_wp2_with fail
        clear f0 f1 f2 f3 f4
        refine (Enough_ok t r ⟨ay, cy, yl⟩ wd (KT.out wd EXd.out) HK.out HSd.out.at HRr.out HSy.out HYl.out HYp.out).mono ?_
        rintro e we ⟨rfl, hxe⟩
        rw [HY2.out]
        have EXe : Hid (Ext wb we) := EXd.out.trans hxe
        have HXe : Hid (DExt wb.heap.size w4 we) := HXd.out.ext hxe
        have HDe : Hid (IsDeck we wb.heap.size a2 n2 c2 ka) := HDd.out.ext hxe
        have HSe : Hid (SlO wb.heap.size we r) := HSd.out.ext hxe
        have HSz : Hid (IsSl 1 num we ⟨ay, cy, yl⟩) := HSy.out.ext hxe
        clear hxe HDd HXd EXd HSd HSy
        go_upto_region 14 with (fail)
        go_cut [93] (fun s93 wx => s93 = .bool false ∧ wx = we)
        case first =>
          have m2 : decide (yl.length < many) = false := decide_eq_false (by have := HY1.out; have := Hmr.out; omega)
          have m3 : ¬ yl.length < many := by have := HY1.out; have := Hmr.out; omega
          by_cases h0 : j = 0
          · have d0 : ((j : Int) == 0) = true := by simp [h0]
            have d1 : ((yl.length : Int) != (many : Int)) = false := by have := HY1.out; have := Hj0.out h0; simp; omega
            clear h0
            go_wp2_with fail
            all_goals first
              | (exfalso; omega)
              | (go_meet; exact ⟨by simp, rfl⟩)
          · have d0 : ((j : Int) == 0) = false := by rw [beq_eq_false_iff_ne]; omega
            clear h0
            go_wp2_with fail
            all_goals first
              | (exfalso; omega)
              | (go_meet; exact ⟨by simp, rfl⟩)
        case rest =>
          obtain ⟨rfl, rfl⟩ := hcut
          go_wp2_with fail
          have hyN : yl.length ≤ 10 := by have := HY1.out; have := few_le t HK.out r.l; omega
          go_loopw [96] (fun iv wr => ∃ i : Nat, i ≤ yl.length ∧ iv = .int .i64 (i : Int) ∧ Hid (Ext wc wr)) (fun iv _ => yl.length - (intOf iv).toNat)
          case atStart => exact ⟨0, Nat.zero_le _, rfl, Ext.refl _⟩
          case round =>
            obtain ⟨wp, rfl⟩ : ∃ wp : World, wp = wr := ⟨_, rfl⟩
            obtain ⟨i, hi, rfl, HXi⟩ := hrel
            by_cases hil : i < yl.length
            · have di : decide ((i : Int) < (yl.length : Int)) = true := by simpa using hil
              have EXp : Hid (Ext wb wp) := EXe.out.trans HXi.out
              have hw1 : IntKind.i64.wrap ((i : Int) + 1) = (i : Int) + 1 := IntWalk.i64_in _ (by omega)
              have KF : Hid (∀ V', Ext wp V' → V'.cell? ⟨w2.heap.size, 0, none⟩ = some (.int .i64 (t.P : Int)) ∧ V'.cell? ⟨w2.heap.size, 1, none⟩ = some (.slice t.ways.a t.ways.l.length t.ways.c) ∧ V'.cell? ⟨w2.heap.size, 2, none⟩ = some (.slice t.words.a t.words.l.length t.words.c) ∧ V'.cell? ⟨w2.heap.size, 3, none⟩ = some (.slice t.starts.a t.starts.l.length t.starts.c) ∧ V'.cell? ⟨w2.heap.size, 4, none⟩ = some (.slice t.legs.a t.legs.l.length t.legs.c)) := fun V' h => (KB.out V' (EXp.out.trans h)).five
              go_wp2_with fail
              go_region_held3 (fun V' => V'.cell? ⟨w2.heap.size, 0, none⟩ = some (.int .i64 (t.P : Int)) ∧ V'.cell? ⟨w2.heap.size, 1, none⟩ = some (.slice t.ways.a t.ways.l.length t.ways.c) ∧ V'.cell? ⟨w2.heap.size, 2, none⟩ = some (.slice t.words.a t.words.l.length t.words.c) ∧ V'.cell? ⟨w2.heap.size, 3, none⟩ = some (.slice t.starts.a t.starts.l.length t.starts.c) ∧ V'.cell? ⟨w2.heap.size, 4, none⟩ = some (.slice t.legs.a t.legs.l.length t.legs.c))
                (first | exact KF.out _ (Ext.refl _) | exact KF.out _ (Ext.refl _).drew | exact KF.out _ E1.out | exact KF.out _ E2.out | exact KF.out _ E3.out)
                (first
                  | (go_at_call 12; refine (kitClone_any ay yl.length cy yl _ rfl (HSz.out.ext HXi.out.drew)).mono ?_; rintro e x1 ⟨ag, cg, rfl, hg1, hx1⟩; have E1 : Hid (Ext wp x1) := ((Ext.refl wp).drew).trans hx1; obtain ⟨g, rfl, hrow, hgb, hcm⟩ := own_is_row hg1 (by omega); have HRow := Lib.hid hrow; have HGB : Hid (wp.heap.size ≤ g) := hgb; clear hx1 hg1 hrow hgb)
                  | (go_at_call 38; refine (delete_any wp.heap.size g cg i yl x1 HRow.out HGB.out (by omega) hcm hil).mono ?_; rintro e x2 ⟨rfl, hrow2, hbel⟩; have E2 : Hid (Ext wp x2) := Ext.of (Below.trans E1.out hbel); have HRow2 := Lib.hid hrow2; clear hrow2 hbel)
                  | (go_at_call 31; refine (Enough_ok t r ⟨some ⟨g, 0, none⟩, cg, yl.eraseIdx i⟩ x2 (KT.out x2 (EXp.out.trans E2.out)) HK.out (HSe.out.ext (HXi.out.trans E2.out)).at HRr.out (HRow2.out.sl (by rw [List.length_eraseIdx]; split <;> omega)) (fun x hx => HYl.out x (List.mem_of_mem_eraseIdx hx)) (HYp.out.sublist (List.eraseIdx_sublist _ _))).mono ?_; rintro e x3 ⟨rfl, hx3⟩; rw [HY3.out i hil]; have E3 : Hid (Ext wp x3) := E2.out.trans hx3; clear hx3))
              go_wp2_with fail
              go_roundw
              case rel => exact ⟨i + 1, by omega, by go_num, HXi.out.trans E3.out⟩
              case measure => simp [intOf]; omega
            · have hiy : i = yl.length := by omega
              have di : decide ((i : Int) < (yl.length : Int)) = false := decide_eq_false (by omega)
              clear hiy
              have EXp : Hid (Ext wb wp) := EXe.out.trans HXi.out
              have HXp : Hid (DExt wb.heap.size w4 wp) := HXe.out.ext HXi.out
              have HDp : Hid (IsDeck wp wb.heap.size a2 n2 c2 ka) := HDe.out.ext HXi.out
              have HSp : Hid (SlO wb.heap.size wp r) := HSe.out.ext HXi.out
              have hlp : wb.heap.size ≤ wp.heap.size := EXp.out.size
              have KG : Hid (∀ V', DExt wb.heap.size wp V' → V'.cell? ⟨w2.heap.size, 0, none⟩ = some (.int .i64 (t.P : Int)) ∧ V'.cell? ⟨w2.heap.size, 1, none⟩ = some (.slice t.ways.a t.ways.l.length t.ways.c) ∧ V'.cell? ⟨w2.heap.size, 2, none⟩ = some (.slice t.words.a t.words.l.length t.words.c) ∧ V'.cell? ⟨w2.heap.size, 3, none⟩ = some (.slice t.starts.a t.starts.l.length t.starts.c) ∧ V'.cell? ⟨w2.heap.size, 4, none⟩ = some (.slice t.legs.a t.legs.l.length t.legs.c)) := fun V' h => (KB.out V' (EXp.out.dext h (Nat.le_refl _))).five
              clear HXi EXe HXe HDe HSe
              go_wp2_with fail
              go_region_held3 (fun V' => V'.cell? ⟨w2.heap.size, 0, none⟩ = some (.int .i64 (t.P : Int)) ∧ V'.cell? ⟨w2.heap.size, 1, none⟩ = some (.slice t.ways.a t.ways.l.length t.ways.c) ∧ V'.cell? ⟨w2.heap.size, 2, none⟩ = some (.slice t.words.a t.words.l.length t.words.c) ∧ V'.cell? ⟨w2.heap.size, 3, none⟩ = some (.slice t.starts.a t.starts.l.length t.starts.c) ∧ V'.cell? ⟨w2.heap.size, 4, none⟩ = some (.slice t.legs.a t.legs.l.length t.legs.c))
                (first | exact KG.out _ (DExt.refl _ _) | exact KG.out _ (DExt.refl _ _).drew' | exact KG.out _ GX1.out | exact KG.out _ GX2.out)
                (first
                  | (go_at_call 39; refine (gone_any wb.heap.size a2 n2 c2 ka t _ (HDp.out.ext (Ext.refl wp).drew) (fun b off e1 e2 => Nat.lt_of_lt_of_le (hbb.out b off e1 e2) hlp) (by omega) (KO.out _ EXp.out.drew) HK.out).mono ?_; rintro e x1 ⟨ag, cg, ln, kb, rfl, hol, hlen, hlnP, hln0, hdb, hkb, hxb⟩; have GX1 : Hid (DExt wb.heap.size wp x1) := ((DExt.refl _ wp).drew').trans hxb; have HDb := Lib.hid hdb; have HOn := Lib.hid hol; have HLe := Lib.hid hlen; have HLP := Lib.hid hlnP; have HL0 := Lib.hid hln0; clear hol hlen hlnP hln0 hdb hxb)
                  | (go_at_call 19; refine (Breaks_ok t r ⟨ag, cg, ln⟩ x1 (KT.out x1 (EXp.out.dext GX1.out (Nat.le_refl _))) HK.out (HSp.out.dext GX1.out).at HRr.out (own_sl HOn.out (by have := HLe.out; omega)) HLe.out HLP.out HL0.out).mono ?_; rintro e x2 ⟨ak, ck, rfl, hsk, hxk⟩; have GX2 : Hid (DExt wb.heap.size wp x2) := GX1.out.ext hxk; have HD2 : Hid (IsDeck x2 wb.heap.size a2 n2 c2 kb) := HDb.out.ext hxk; clear hsk hxk))
              have HBk : Hid (fewR t r.l ≤ (brkTo (leadsOf t r.l) ln t.legs.l.length).length) := HY5.out ln HLe.out HLP.out HL0.out
              generalize (brkTo (leadsOf t r.l) ln t.legs.l.length).length = nb at *
              have EX2 : Hid (Ext wb x2) := EXp.out.dext GX2.out (Nat.le_refl _)
              have hl2 : wb.heap.size ≤ x2.heap.size := EX2.out.size
              obtain ⟨f0, f1, f2, f3, f4⟩ := (KB.out x2 EX2.out).five
              go_wp2_with fail
              clear f0 f1 f2 f3 f4
              refine (some_any wb.heap.size a2 n2 c2 kb t.legs.l.length 2 x2 HD2.out (fun b off e1 e2 => Nat.lt_of_lt_of_le (hbb.out b off e1 e2) hl2) (by omega) (by omega) (by omega)).mono ?_
              rintro e x3 ⟨ao, co, lo, kc, rfl, hoo, hpo, hlo3, hdc, hkc, hxc⟩
              have GX3 : Hid (DExt wb.heap.size wp x3) := GX2.out.trans hxc
              have EX3 : Hid (Ext wb x3) := EXp.out.dext GX3.out (Nat.le_refl _)
              have HD3 := Lib.hid hdc
              have HOo := Lib.hid hoo
              have HPo := Lib.hid hpo
              have HLo := Lib.hid hlo3
              have hlol : lo.length ≤ 1000000 := by have := pw_len lo 0 (Nat.zero_le _) hpo (fun x hx => ⟨Nat.zero_le _, hlo3 x hx⟩); omega
              clear hdc hoo hpo hlo3 hxc GX2 HD2 EX2
              obtain ⟨f0, f1, f2, f3, f4⟩ := (KB.out x3 EX3.out).five
              go_wp2_with fail
              clear f0 f1 f2 f3 f4
              refine (Enough_ok t r ⟨ao, co, lo⟩ x3 (KT.out x3 EX3.out) HK.out (HSp.out.dext GX3.out).at HRr.out (own_sl HOo.out hlol) HLo.out HPo.out).mono ?_
              rintro e x4 ⟨rfl, hx4⟩
              have HEn : Hid (hasB t (yieldsL lo (leadsOf t r.l)) = true → fewR t r.l ≤ lo.length) := HY4.out lo
              simp only []
              generalize hasB t (yieldsL lo (leadsOf t r.l)) = bb at *
              have GX4 : Hid (DExt wb.heap.size wp x4) := GX3.out.ext hx4
              have HD4' : Hid (IsDeck x4 wb.heap.size a2 n2 c2 kc) := HD3.out.ext hx4
              clear hx4 GX3 HD3 EX3
              go_upto_region 26 with (fail)
              go_cut [160] (fun s160 wx => s160 = .bool false ∧ wx = x4)
              case first =>
                have m4 : decide (nb < yl.length) = false := decide_eq_false (by have := HY1.out; have := HBk.out; omega)
                have m5 : ¬ nb < yl.length := by have := HY1.out; have := HBk.out; omega
                cases bb with
                | false =>
                  go_wp2_with fail
                  all_goals first
                    | (exfalso; omega)
                    | (go_meet; exact ⟨by simp, rfl⟩)
                | true =>
                  have m6 : decide (lo.length < yl.length) = false := decide_eq_false (by have := HY1.out; have := HEn.out rfl; omega)
                  have m7 : ¬ lo.length < yl.length := by have := HY1.out; have := HEn.out rfl; omega
                  go_wp2_with fail
                  all_goals first
                    | (exfalso; omega)
                    | (go_meet; exact ⟨by simp, rfl⟩)
              case rest =>
                obtain ⟨rfl, rfl⟩ := hcut
                go_wp2_with fail
                go_roundw
                case rel => exact ⟨j + 1, kc, by omega, by go_num, by omega, HXp.out.trans GX4.out, HD4'⟩
                case measure => simp [intOf]; omega
    · have hj5 : j = 5 := by omega
      have dj : decide ((j : Int) < 5) = false := decide_eq_false (by omega)
      clear hj5
      obtain ⟨f0, f1, f2, f3, f4⟩ := (KB.out wo EXo.out).five
      go_wp2_with fail
      clear f0 f1 f2 f3 f4
      refine (Readings_ok t wo (KT.out wo EXo.out) HK.out).mono ?_
      rintro e wy ⟨aq, cq, rq, rfl, hsq, hrq, hmq, hxq⟩
      have hlen : rq.length = ((allR (cntR t)).filter (fun r => hasB t (leadsOf t r))).length := by rw [← hmq]; simp
      have HIff : Hid (0 < rq.length ↔ many = 0) := by show _ ↔ _; rw [hlen]; exact HRM.out
      have EXy : Hid (Ext w wy) := (EWb.out.trans EXo.out).trans hxq
      clear hsq hrq hmq hxq hlen
      by_cases hm0 : many = 0
      · have hp : 0 < rq.length := HIff.out.2 hm0
        have e1 : ((many : Int) == 0) = true := by simp [hm0]
        have e2 : decide ((0 : Int) < (rq.length : Int)) = true := decide_eq_true (by omega)
        have e3 : decide (0 < rq.length) = true := decide_eq_true hp
        clear hm0
        go_wp2_with fail
        refine (awake_ok _).mono ?_
        rintro e wz ⟨rfl, hxz⟩
        have EXz : Hid (Ext w wz) := EXy.out.trans hxz
        clear hxz
        go_wp2_with fail
        go_ret
        exact ⟨rfl, EXz.out⟩
      · have hp : ¬ 0 < rq.length := fun h => hm0 (HIff.out.1 h)
        have e1 : ((many : Int) == 0) = false := by rw [beq_eq_false_iff_ne]; omega
        have e2 : decide ((0 : Int) < (rq.length : Int)) = false := decide_eq_false (by omega)
        have e3 : decide (0 < rq.length) = false := decide_eq_false hp
        clear hm0
        go_wp2_with fail
        refine (awake_ok _).mono ?_
        rintro e wz ⟨rfl, hxz⟩
        have EXz : Hid (Ext w wz) := EXy.out.trans hxz
        clear hxz
        go_wp2_with fail
        go_ret
        exact ⟨rfl, EXz.out⟩
end Go.Proofs.YtdejaliegbmgaaaGreat
