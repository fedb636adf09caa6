/-
  TreatyProved answers true, and turns nothing that was there. The bytes must lie in memory as told.
-/
import Derived.Test.YtdejaliegbmgaaaGreatJn
import Derived.Test.YtdejaliegbmgaaaGreatJe
import Derived.Test.YtdejaliegbmgaaaGreatJg
import Derived.Test.YtdejaliegbmgaaaGreatJoa
import Derived.Deep.CutBlock
import Derived.Deep.RegionLaw
namespace Go.Proofs.YtdejaliegbmgaaaGreat
open Go.RowKit

set_option maxRecDepth 100000 in
set_option maxHeartbeats 4000000 in
theorem proved_any (a1 a2 : Option Addr) (n1 c1 n2 c2 : Nat) (w : World) (h1 : IsBytes w a1 n1 c1) (h2 : IsBytes w a2 n2 c2) :
    Calls Tryz.prog 6 #[.slice a1 n1 c1, .slice a2 n2 c2] w fun e w' => e = .returned (.bool true) ∧ Ext w w' := by
  have H1 := Lib.hid h1; clear h1
  have H2 := Lib.hid h2; clear h2
  go_enter Tryz.func6, Tryz.ntmps6
  go_wp2_with fail
  refine (of_any a1 n1 c1 w H1.out).mono ?_
  rintro e w1 ⟨rfl, hd1, hx1⟩
  go_wp2_with fail
  have HX1 : Hid (Ext w w1) := hx1
  have hs1 : w.heap.size < w1.heap.size := hd1.lt
  have HM := made_any w.heap.size a1 n1 c1 0 10 w1 hd1 (bytes_lt (deck_bytes hd1)) (by omega) (by omega)
  clear hd1 hx1
  refine HM.mono ?_
  clear HM
  rintro e w2 ⟨t, k2, rfl, hT2, hK, hl10, hd2, hk2, hx2⟩
  have HT2 := Lib.hid hT2
  have HK := Lib.hid hK
  have HD2 := Lib.hid hd2
  have HX2 := Lib.hid hx2
  clear hT2 hK hd2 hx2 hl10
  go_wp2_with fail
  have hxa : DExt w.heap.size w2 (w2.alloc (.cells #[.int .i64 (t.P : Int), .slice t.ways.a t.ways.l.length t.ways.c, .slice t.words.a t.words.l.length t.words.c, .slice t.starts.a t.starts.l.length t.starts.c, .slice t.legs.a t.legs.l.length t.legs.c] 27)) := (DExt.refl _ w2).ext ((Ext.refl w2).alloc _)
  refine (readDeal_any w.heap.size a1 n1 c1 k2 t _ (HD2.out.ext ((Ext.refl w2).alloc _)) (bytes_lt (deck_bytes (HD2.out.ext ((Ext.refl w2).alloc _)))) (by omega) (HT2.out.dext hxa) HK.out).mono ?_
  rintro e w3 ⟨ar, cr, lr, k3, rfl, hO3, hR3, hd3, hk3, hx3⟩
  have HX3 : Hid (DExt w.heap.size w w3) := ((((DExt.refl _ w).ext HX1.out).trans HX2.out).trans hxa).trans hx3
  have HT3 : Hid (IsTo w.heap.size w3 t) := HT2.out.dext (hxa.trans hx3)
  have HO3 := Lib.hid hO3
  have HR3 := Lib.hid hR3
  have HB3 : Hid (w3.heap[w2.heap.size]? = some (.cells #[.int .i64 (t.P : Int), .slice t.ways.a t.ways.l.length t.ways.c, .slice t.words.a t.words.l.length t.words.c, .slice t.starts.a t.starts.l.length t.starts.c, .slice t.legs.a t.legs.l.length t.legs.c] 27)) := (hx3.block w2.heap.size (by simp) (by have := HX2.out.size; simp; omega)).trans (World.alloc_heap_new w2 _)
  have H23 : Hid (IsBytes w3 a2 n2 c2) := bytes_dext H2.out HX3.out (Nat.le_refl _)
  clear hO3 hR3 hd3 hx3 hxa
  go_wp2_with fail
  refine (of_any a2 n2 c2 w3 H23.out).mono ?_
  rintro e w4 ⟨rfl, hd4, hx4⟩
  have HX4 := Lib.hid hx4
  have HD4 := Lib.hid hd4
  have HB4 : Hid (TBox w4 w2.heap.size t) := hx4.block HB3.out
  clear hd4 hx4
  obtain ⟨f0, f1, f2, f3, f4⟩ := HB4.out.five
  go_wp2_with fail
  clear f0 f1 f2 f3 f4
  have hT4 : IsT w4 t := HT3.out.at.ext HX4.out
  have hlr : lr.length ≤ 6 := by have := HR3.out.1; have := HK.out.words; omega
  have hr4 : IsSl 1 num w4 ⟨ar, cr, lr⟩ := (own_sl HO3.out (by omega)).ext HX4.out
  have HR4 := Lib.hid hr4
  have HT4 := Lib.hid hT4
  refine (Floors_ok t ⟨ar, cr, lr⟩ w4 hT4 HK.out hr4 HR3.out).mono ?_
  clear hT4 hr4
  rintro e w5 ⟨B, rows, rfl, hTb, hrows, hx5⟩
  have HTb := Lib.hid hTb
  have HRows := Lib.hid hrows
  have HX5 := Lib.hid hx5
  have HB5 : Hid (TBox w5 w2.heap.size t) := hx5.block HB4.out
  clear hTb hrows hx5
  obtain ⟨f0, f1, f2, f3, f4⟩ := HB5.out.five
  go_wp2_with fail
  clear f0 f1 f2 f3 f4
  refine (Yield_ok t ⟨ar, cr, lr⟩ w5 (HT4.out.ext HX5.out) HK.out (HR4.out.ext HX5.out) HR3.out).mono ?_
  rintro e w6 ⟨ay, cy, rfl, hy, hx6⟩
  have HX6 := Lib.hid hx6
  have HB6 : Hid (TBox w6 w2.heap.size t) := hx6.block HB5.out
  have HTb6 := Lib.hid (HTb.out.ext hx6)
  clear hy hx6
  have hrl : rows.length = t.legs.l.length + 1 := by have := congrArg List.length HRows.out; simpa [flrT] using this
  have hrP : ∀ r ∈ rows, r.l.length = t.P ∧ ∀ x ∈ r.l, x ≤ 11 := by
    intro r hr
    have : r.l ∈ flrT (leadsOf t lr) t.P t.starts.l t.legs.l.length := by rw [← HRows.out]; exact List.mem_map.2 ⟨r, hr, rfl⟩
    unfold flrT at this
    obtain ⟨k, _, hk⟩ := List.mem_map.1 this
    rw [← hk]
    refine ⟨by simp, fun x hx => ?_⟩
    obtain ⟨i, _, rfl⟩ := List.mem_map.1 hx
    exact flr_le _ _ _ _ _
  have hl10 := HK.out.legs
  have hp12 := HK.out.p2
  have hTS : IsTbl w6 (tblS B (t.legs.l.length + 1) rows) := HTb6.out.is (by omega) (by omega) (fun r hr => by have := (hrP r hr).1; omega)
  have hmm : (tblS B (t.legs.l.length + 1) rows).l.map (fun r => r.l) = flrT (leadsOf t lr) t.P t.starts.l t.legs.l.length := by rw [← HRows.out]; simp
  have HPr := Proves_ok t ⟨ar, cr, lr⟩ (tblS B (t.legs.l.length + 1) rows) w6 ((HT4.out.ext HX5.out).ext HX6.out) HK.out ((HR4.out.ext HX5.out).ext HX6.out) HR3.out hTS (by simp [hrl])
    (fun r hr => by obtain ⟨q, hq, rfl⟩ := List.mem_map.1 hr; exact (hrP q hq).1) (fun r hr => by obtain ⟨q, hq, rfl⟩ := List.mem_map.1 hr; exact (hrP q hq).2)
  simp only [List.length_map, hrl] at HPr
  have HPR := Lib.hid HPr
  have HRl := Lib.hid hrl
  have HRP := Lib.hid hrP
  have HMm := Lib.hid hmm
  clear HPr hrl hrP hTS hmm
  obtain ⟨f0, f1, f2, f3, f4⟩ := HB6.out.five
  go_wp2_with fail
  clear f0 f1 f2 f3 f4
  refine HPR.out.mono ?_
  rintro e w7 ⟨⟨hh, m, rfl, hm⟩ | ⟨hh, rfl⟩, hx7⟩
  case inr => exact absurd (floors_hold t HK.out _ _ HMm.out) hh
  have hm' : LeastOf ((flrT (leadsOf t lr) t.P t.starts.l t.legs.l.length)[t.legs.l.length]?.getD []) m := by rw [← HMm.out]; exact hm
  have hst : ∃ x ∈ t.starts.l, x < t.P := by
    have h1 := HK.out.starts1
    exact ⟨t.starts.l[0], List.getElem_mem (by omega), HK.out.start.1 _ (List.getElem_mem (by omega))⟩
  have hym := yield_len (leadsOf t lr) t.P t.starts.l t.legs.l.length m hst hl10 hm'
  have HM := Lib.hid hm'
  have HX7 := Lib.hid hx7
  have HTb7 := Lib.hid (HTb6.out.ext hx7)
  have HB7 : Hid (TBox w7 w2.heap.size t) := hx7.block HB6.out
  have hm10 : m ≤ 11 := by
    have := hm'.1
    rw [flrT_row _ _ _ _ _ (Nat.le_refl _)] at this
    obtain ⟨i, _, rfl⟩ := List.mem_map.1 this
    exact flr_le _ _ _ _ _
  clear hh hm hm' hst hx7
  rw [hym]
  clear hym
  obtain ⟨-, -, -, -, f4⟩ := HB7.out.five
  have hwl : IntKind.i64.wrap ((t.legs.l.length : Int) + 1) = (t.legs.l.length : Int) + 1 := IntWalk.i64_in _ (by omega)
  go_wp2_with fail
  have HD7 : Hid (IsDeck w7 w3.heap.size a2 n2 c2 0) := ((HD4.out.ext HX5.out).ext HX6.out).ext HX7.out
  have E37 : Hid (Ext w3 w7) := ((HX4.out.trans HX5.out).trans HX6.out).trans HX7.out
  have hs34 : w3.heap.size < w4.heap.size := HD4.out.lt
  have hs47 : w4.heap.size ≤ w7.heap.size := ((HX5.out.trans HX6.out).trans HX7.out).size
  have hs23 : w2.heap.size < w3.heap.size := (Array.getElem?_eq_some_iff.1 HB3.out).1
  have EW3 : Hid (Ext w w3) := (Ext.refl w).dext HX3.out (Nat.le_refl _)
  have hsw3 : w.heap.size ≤ w3.heap.size := EW3.out.size
  have HBy : Hid (∀ x off, a2 = some ⟨x, off, none⟩ → 0 < n2 → x < w.heap.size) := bytes_lt H2.out
  have HPV : Hid (∀ (wr : World) (s : SL (SL Nat)), Ext w3 wr → IsTbl wr s → s.l.length = t.legs.l.length + 1 → (∀ r ∈ s.l, r.l.length = t.P) → (∀ r ∈ s.l, ∀ x ∈ r.l, x ≤ 11) → Calls Tryz.prog 34 #[t.v, .slice ar lr.length cr, .slice s.a s.l.length s.c] wr fun e w' => ((HoldP t (leadsOf t lr) s.l ∧ ∃ m : Nat, e = .returned (.tuple #[.int .i64 (m : Int), .int .i64 0]) ∧ LeastOf ((s.l.map (·.l))[t.legs.l.length]?.getD []) m) ∨ (¬ HoldP t (leadsOf t lr) s.l ∧ e = .returned (.tuple #[.int .i64 0, .int .i64 9]))) ∧ Ext wr w') :=
    fun wr s hx hs e1 e2 e3 => Proves_ok t ⟨ar, cr, lr⟩ s wr (HT3.out.at.ext hx) HK.out ((own_sl HO3.out (by omega)).ext hx) HR3.out hs e1 e2 e3
  have hp1 := HK.out.p1
  clear HPR HMm HX1 HX2 HX4 HX5 HX6 HX7 HB4 HB5 HB6 HT4 HR4 HTb HTb6 HRows HD2 HT2 HD4 HB7 H1 H23 hwl f4
  go_loopw [72] (fun iv wr => ∃ (j k : Nat), j ≤ 8 ∧ iv = .int .i64 (j : Int) ∧ k ≤ 20 * j ∧ Hid (DExt w3.heap.size w7 wr) ∧ Hid (IsDeck wr w3.heap.size a2 n2 c2 k)) (fun iv _ => 8 - (intOf iv).toNat)
  case atStart => exact ⟨0, 0, Nat.zero_le _, rfl, Nat.le_refl _, DExt.refl _ _, HD7.out⟩
  case round =>
    obtain ⟨wo, rfl⟩ : ∃ wo : World, wo = wr := ⟨_, rfl⟩
    obtain ⟨j, k, hj, rfl, hk, HX, HDk⟩ := hrel
    have EXo : Hid (Ext w3 wo) := E37.out.dext HX.out (Nat.le_refl _)
    have HTo : Hid (Tbl wo w4.heap.size B (t.legs.l.length + 1) rows) := HTb7.out.dext HX.out hs34
    have hs7o : w7.heap.size ≤ wo.heap.size := HX.out.size
    by_cases hlt : j < 8
    · have dj : decide ((j : Int) < 8) = true := decide_eq_true (by omega)
      have hC := cloneAll_any (tblS B (t.legs.l.length + 1) rows) wo (HTo.out.is (by have := HRl.out; omega) (by have := HRl.out; omega) (fun r hr => by have := (HRP.out r hr).1; omega)) (by have := HRl.out; simp; omega) (by have := HRl.out; simp; omega)
        (fun r hr => by obtain ⟨q, hq, rfl⟩ := List.mem_map.1 hr; have := (HRP.out q hq).1; show 0 < q.l.length; omega)
      simp only [List.length_map, HRl.out] at hC
      have HC := Lib.hid hC; clear hC
      go_wp2_with fail
      refine HC.out.mono ?_
      clear HC
      rintro e wa ⟨B', c', rs, rfl, hT', hc', hmap, hxa⟩
      have hmap' : rs.map (fun r => r.l) = rows.map (fun r => r.l) := hmap.trans (by simp)
      have HMr := Lib.hid hmap'
      have HRs : Hid (∀ r ∈ rs, r.l.length = t.P ∧ ∀ x ∈ r.l, x ≤ 11) := mrows_of hmap' HRP.out
      have hM0 : rs.length = t.legs.l.length + 1 := (mrows_len hmap').trans HRl.out
      obtain ⟨M, hM⟩ : ∃ M, rs.length = M := ⟨_, rfl⟩
      rw [hM] at hT' hc' ⊢
      have hMN : M = t.legs.l.length + 1 := hM.symm.trans hM0
      have HMN := Lib.hid hMN
      have hM1 : 1 ≤ M := by omega
      have hM11 : M ≤ 11 := by omega
      have HMl := Lib.hid hM
      have HTa := Lib.hid hT'
      have HXa := Lib.hid hxa
      clear hmap hmap' hM0 hMN hM hT' hxa
      go_wp2_with fail
      refine (dbetween_any w3.heap.size a2 n2 c2 k 1 4 wa (HDk.out.ext HXa.out) (by omega) (by omega) (by omega) (by omega)).mono ?_
      rintro e wb ⟨r, kb, hr1, hr2, hkb, rfl, hdb, hgb⟩
      obtain ⟨q, rfl⟩ : ∃ q : Nat, r = (q : Int) := ⟨r.toNat, by omega⟩
      have hq4 : q ≤ 4 := by omega
      clear hr1 hr2
      have hs3o : w3.heap.size < wo.heap.size := by omega
      have HTb : Hid (Tbl wb wo.heap.size B' M rs) := HTa.out.dext hgb hs3o
      have HDb := Lib.hid hdb
      have HXb : Hid (DExt w3.heap.size wo wb) := ((DExt.refl w3.heap.size wo).ext HXa.out).trans hgb
      clear hdb hgb HTa HXa
      go_wp2_with fail
      go_loopw [78] (fun iv wr => ∃ (i k' : Nat) (qs : List RW), i ≤ q ∧ iv = .int .i64 (i : Int) ∧ k' ≤ kb + 3 * i ∧ Hid (Tbl wr wo.heap.size B' M qs) ∧ Hid (qs.length = M) ∧ Hid (∀ r ∈ qs, r.l.length = t.P ∧ ∀ x ∈ r.l, x ≤ 11) ∧ Hid (DExt w3.heap.size wo wr) ∧ Hid (IsDeck wr w3.heap.size a2 n2 c2 k')) (fun iv _ => q - (intOf iv).toNat)
      case atStart => exact ⟨0, kb, rs, Nat.zero_le _, rfl, Nat.le_refl _, HTb, HMl, HRs, HXb, HDb⟩
      case round =>
        obtain ⟨wx, rfl⟩ : ∃ wx : World, wx = wr := ⟨_, rfl⟩
        obtain ⟨i, k', qs, hi, rfl, hk', HTx, HLx, HPx, HXx, HDx⟩ := hrel
        have HBx : Hid (TBox wx w2.heap.size t) := (EXo.out.dext HXx.out (Nat.le_refl _)).block HB3.out
        by_cases hil : i < q
        · have di : decide ((i : Int) < (q : Int)) = true := by simpa using hil
          go_wp2_with fail
          refine (draw_any w3.heap.size a2 n2 c2 k' M wx HDx.out (by omega) (by omega)).mono ?_
          rintro e wy ⟨x, ky, hx, hky, rfl, hdy, hgy⟩
          have hxM : x < M := by omega
          clear hx
          have HTy : Hid (Tbl wy wo.heap.size B' M qs) := HTx.out.dext hgy hs3o
          have HXy : Hid (DExt w3.heap.size wo wy) := HXx.out.trans hgy
          have HDy := Lib.hid hdy
          have HBy2 : Hid (TBox wy w2.heap.size t) := (EXo.out.dext HXy.out (Nat.le_refl _)).block HB3.out
          clear hdy hgy
          have hxq : x < qs.length := by have := HLx.out; omega
          have cR := HTy.out.hd.cell x hxq
          have hPq := (HPx.out _ (List.getElem_mem hxq)).1
          simp only [RW.v, hPq] at cR
          have HPq := Lib.hid hPq; clear hPq
          obtain ⟨f0, -, -, -, -⟩ := HBy2.out.five
          have x0 : (0 : Int) ≤ (x : Int) := by omega
          have x1 : (x : Int) < (M : Int) := by omega
          go_wp2_with fail
          clear cR f0
          refine (draw_any w3.heap.size a2 n2 c2 ky t.P wy HDy.out (by omega) (by omega)).mono ?_
          rintro e wz ⟨y, kz, hy, hkz, rfl, hdz, hgz⟩
          have hyP : y < t.P := by omega
          clear hy
          have HTz : Hid (Tbl wz wo.heap.size B' M qs) := HTy.out.dext hgz hs3o
          have HXz : Hid (DExt w3.heap.size wo wz) := HXy.out.trans hgz
          have HDz := Lib.hid hdz
          clear hdz hgz
          go_wp2_with fail
          refine (draw_any w3.heap.size a2 n2 c2 kz 12 wz HDz.out (by omega) (by omega)).mono ?_
          rintro e wv ⟨z, kv, hz, hkv, rfl, hdv, hgv⟩
          have hz11 : z ≤ 11 := by omega
          clear hz
          have HTv : Hid (Tbl wv wo.heap.size B' M qs) := HTz.out.dext hgv hs3o
          have HXv : Hid (DExt w3.heap.size wo wv) := HXz.out.trans hgv
          have HDv := Lib.hid hdv
          clear hdv hgv
          have hrow := HTv.out.row _ (List.getElem_mem hxq)
          have hyl : y < qs[x].l.length := by have := HPq.out; omega
          have cV := hrow.1.cell y hyl
          have fV := hrow.1.frozen y
          have hbl : wo.heap.size ≤ qs[x].b := hrow.2.1
          have hbw : ∀ b' off, a2 = some ⟨b', off, none⟩ → 0 < n2 → b' ≠ qs[x].b := fun b' off h1 h2 => by have := HBy.out b' off h1 h2; omega
          clear hrow
          have y0 : (0 : Int) ≤ (y : Int) := by omega
          have y1 : (y : Int) < (t.P : Int) := by omega
          have HTn : Hid (Tbl (wv.setCell ⟨qs[x].b, y, none⟩ (.int .i64 (z : Int))) wo.heap.size B' M (qs.set x ⟨qs[x].b, qs[x].l.set y z, qs[x].c⟩)) := HTv.out.set x y z hxq hyl
          have HLn : Hid ((qs.set x ⟨qs[x].b, qs[x].l.set y z, qs[x].c⟩).length = M) := (List.length_set).trans HLx.out
          have HPn : Hid (∀ r ∈ qs.set x ⟨qs[x].b, qs[x].l.set y z, qs[x].c⟩, r.l.length = t.P ∧ ∀ x ∈ r.l, x ≤ 11) := mrows_set HPx.out x y z hxq hz11
          have HXn : Hid (DExt w3.heap.size wo (wv.setCell ⟨qs[x].b, y, none⟩ (.int .i64 (z : Int)))) := HXv.out.set _ _ _ hbl
          have HDn : Hid (IsDeck (wv.setCell ⟨qs[x].b, y, none⟩ (.int .i64 (z : Int))) w3.heap.size a2 n2 c2 kv) := HDv.out.set _ _ _ (by omega) hbw
          clear hbw hbl
          go_wp2_with fail
          go_roundw
          case rel => exact ⟨i + 1, kv, _, by omega, by go_num, by omega, HTn, HLn, HPn, HXn, HDn⟩
          case measure => simp [intOf]; omega
        · have hiq : i = q := by omega
          have di : decide ((i : Int) < (q : Int)) = false := decide_eq_false (by omega)
          clear hiq
          have HQ := HPV.out wx (tblS B' c' qs) (EXo.out.dext HXx.out (Nat.le_refl _)) (HTx.out.is (by have := HLx.out; omega) (by have := HLx.out; omega) (fun r hr => by have := (HPx.out r hr).1; omega)) (by have := HLx.out; have := HMN.out; simp; omega)
            (fun r hr => by obtain ⟨q, hq, rfl⟩ := List.mem_map.1 hr; exact (HPx.out q hq).1) (fun r hr => by obtain ⟨q, hq, rfl⟩ := List.mem_map.1 hr; exact (HPx.out q hq).2)
          have HLe : Hid (∀ m', HoldP t (leadsOf t lr) (tblS B' c' qs).l → LeastOf (((tblS B' c' qs).l.map (fun r => r.l))[t.legs.l.length]?.getD []) m' → m' ≤ m) := fun m' e1 e2 =>
            least_le e1 (fun k i => at2_le (fun r hr => by obtain ⟨q, hq, rfl⟩ := List.mem_map.1 hr; exact (HPx.out q hq).2) k i) (by have := HLx.out; have := HMN.out; simp; omega) (fun r hr => by obtain ⟨q, hq, rfl⟩ := List.mem_map.1 hr; exact (HPx.out q hq).1) e2 HM.out
          simp only [List.length_map, HLx.out] at HQ
          have HQQ := Lib.hid HQ; clear HQ
          obtain ⟨f0, f1, f2, f3, f4⟩ := HBx.out.five
          go_wp2_with fail
          clear f0 f1 f2 f3 f4
          refine HQQ.out.mono ?_
          clear HQQ
          rintro e wq ⟨⟨hh, m', rfl, hm'⟩ | ⟨hh, rfl⟩, hxq⟩
          · have hle := HLe.out m' hh hm'
            have dm : decide ((m : Int) < (m' : Int)) = false := decide_eq_false (by omega)
            have HXq : Hid (DExt w3.heap.size w7 wq) := (HX.out.trans HXx.out).ext hxq
            have HDq : Hid (IsDeck wq w3.heap.size a2 n2 c2 k') := HDx.out.ext hxq
            clear hh hm' hxq HLe
            go_wp2_with fail
            go_roundw
            case rel => exact ⟨j + 1, k', by omega, by go_num, by omega, HXq, HDq⟩
            case measure => simp [intOf]; omega
          · have HXq : Hid (DExt w3.heap.size w7 wq) := (HX.out.trans HXx.out).ext hxq
            have HDq : Hid (IsDeck wq w3.heap.size a2 n2 c2 k') := HDx.out.ext hxq
            clear hh hxq HLe
            go_wp2_with fail
            go_roundw
            case rel => exact ⟨j + 1, k', by omega, by go_num, by omega, HXq, HDq⟩
            case measure => simp [intOf]; omega
    · have hj8 : j = 8 := by omega
      have dj : decide ((j : Int) < 8) = false := decide_eq_false (by omega)
      clear hj8
      have hR0 : 0 < rows.length := by have := HRl.out; omega
      have cB := HTo.out.hd.cell 0 hR0
      have HBo : Hid (TBox wo w2.heap.size t) := EXo.out.block HB3.out
      obtain ⟨-, -, -, cS, -⟩ := HBo.out.five
      have hst1 := HK.out.starts1
      have hst2 := HK.out.starts2
      obtain ⟨b, off, hsa, hsc⟩ := (HT3.out.at.starts).2.2.resolve_left (by omega)
      have hbw3 : b < w3.heap.size := by have := hsc 0 (by omega) 0 (by omega); exact lt_of_cell this
      rw [hsa] at cS
      have hPR0 : rows[0].l.length = t.P := (HRP.out _ (List.getElem_mem hR0)).1
      simp only [RW.v, hPR0] at cB
      obtain ⟨sf, hsf⟩ : ∃ sf : Nat → Nat, ∀ i (h : i < t.starts.l.length), t.starts.l[i] = sf i := ⟨fun i => (t.starts.l[i]?).getD 0, fun i h => by simp [h]⟩
      have HSF := Lib.hid hsf; clear hsf
      have HSC := Lib.hid hsc
      have HSA := Lib.hid hsa
      have HPR0 := Lib.hid hPR0
      clear hsa hsc hPR0
      have hB3 : w3.heap.size < B := by have := HTo.out.low; omega
      have KS : Hid (∀ V', DExt w3.heap.size wo V' → V'.cell? ⟨B, 0, none⟩ = some (.slice (some ⟨rows[0].b, 0, none⟩) t.P rows[0].c) ∧ V'.cell? ⟨w2.heap.size, 3, none⟩ = some (.slice (some ⟨b, off, none⟩) t.starts.l.length t.starts.c) ∧ ∀ i, i < t.starts.l.length → V'.cell? ⟨b, off + i, none⟩ = some (.int .i64 (sf i : Int))) :=
        fun V' h => ⟨h.cell cB (by show B ≠ _; omega), h.cell cS (by show w2.heap.size ≠ _; omega), fun i hi => h.cell (by have := EXo.out.cell (HSC.out i hi 0 (by omega)); rw [← HSF.out i hi]; simpa [num] using this) (by show b ≠ _; omega)⟩
      clear cB cS
      have HXd : Hid (DExt w3.heap.size wo wo.drew) := (DExt.refl _ wo).drew'
      go_upto_region 24 with (fail)
      go_region_held3 (fun V' => V'.cell? ⟨B, 0, none⟩ = some (.slice (some ⟨rows[0].b, 0, none⟩) t.P rows[0].c) ∧ V'.cell? ⟨w2.heap.size, 3, none⟩ = some (.slice (some ⟨b, off, none⟩) t.starts.l.length t.starts.c) ∧ ∀ i, i < t.starts.l.length → V'.cell? ⟨b, off + i, none⟩ = some (.int .i64 (sf i : Int)))
        (first | exact KS.out _ HXd.out | exact KS.out _ (DExt.refl _ _) | exact KS.out _ HX1.out | exact KSn.out)
        (first
          | (go_at_call 43; refine (draw_any w3.heap.size a2 n2 c2 k t.starts.l.length _ (HDk.out.ext (Ext.refl wo).drew) (by omega) (by omega)).mono ?_; rintro e v1 ⟨y, k1, hy, hk1, rfl, hd1, hg1⟩; have hyS : y < t.starts.l.length := (by omega); have HX1 : Hid (DExt w3.heap.size wo v1) := HXd.out.trans hg1; have HE1 : Hid (Ext w3 v1) := EXo.out.dext HX1.out (Nat.le_refl _); have HT1 : Hid (Tbl v1 w4.heap.size B (t.legs.l.length + 1) rows) := HTo.out.dext HX1.out hs34; have hsm : sf y ∈ t.starts.l := HSF.out y hyS ▸ List.getElem_mem hyS; have hsP : sf y < t.P := HK.out.start.1 (sf y) hsm; have hsl : sf y < rows[0].l.length := (by rw [HPR0.out]; exact hsP); obtain ⟨vv, cV⟩ : ∃ vv, v1.cell? ⟨rows[0].b, sf y, none⟩ = some vv := ⟨_, (HT1.out.row _ (List.getElem_mem hR0)).1.cell (sf y) hsl⟩; have fV := (HT1.out.row _ (List.getElem_mem hR0)).1.frozen (sf y); have hbl : w4.heap.size ≤ rows[0].b := (HT1.out.row _ (List.getElem_mem hR0)).2.1; have HE2 : Hid (Ext w3 (v1.setCell ⟨rows[0].b, sf y, none⟩ (.int .i64 1))) := HE1.out.setCell (by show w3.heap.size ≤ rows[0].b; omega) _; have HT2 : Hid (Tbl (v1.setCell ⟨rows[0].b, sf y, none⟩ (.int .i64 1)) w4.heap.size B (t.legs.l.length + 1) (rows.set 0 ⟨rows[0].b, rows[0].l.set (sf y) 1, rows[0].c⟩)) := HT1.out.set 0 (sf y) 1 hR0 hsl; have y0 : (0 : Int) ≤ (y : Int) := (by omega); have y1 : (y : Int) < (t.starts.l.length : Int) := (by omega); have s0 : (0 : Int) ≤ (sf y : Int) := (by omega); have s1 : (sf y : Int) < (t.P : Int) := (by omega); have HSM := Lib.hid hsm; have HSL := Lib.hid hsl; have KSn : Hid ((v1.setCell ⟨rows[0].b, sf y, none⟩ (.int .i64 1)).cell? ⟨B, 0, none⟩ = some (.slice (some ⟨rows[0].b, 0, none⟩) t.P rows[0].c) ∧ (v1.setCell ⟨rows[0].b, sf y, none⟩ (.int .i64 1)).cell? ⟨w2.heap.size, 3, none⟩ = some (.slice (some ⟨b, off, none⟩) t.starts.l.length t.starts.c) ∧ ∀ i, i < t.starts.l.length → (v1.setCell ⟨rows[0].b, sf y, none⟩ (.int .i64 1)).cell? ⟨b, off + i, none⟩ = some (.int .i64 (sf i : Int))) := ⟨DExt.cell (grown_cell _ _ _ _) (KS.out v1 HX1.out).1 (Ne.symm (HT1.out.row _ (List.getElem_mem hR0)).2.2), DExt.cell (grown_cell _ _ _ _) (KS.out v1 HX1.out).2.1 (by show w2.heap.size ≠ rows[0].b; omega), fun i hi => DExt.cell (grown_cell _ _ _ _) ((KS.out v1 HX1.out).2.2 i hi) (by show b ≠ rows[0].b; omega)⟩; clear hy hd1 hg1 hsm hbl hsl))
      clear cV fV
      have HB2 : Hid (TBox (v1.setCell ⟨rows[0].b, sf y, none⟩ (.int .i64 1)) w2.heap.size t) := HE2.out.block HB3.out
      have HNot : Hid (¬ HoldP t (leadsOf t lr) (tblS B (t.legs.l.length + 1) (rows.set 0 ⟨rows[0].b, rows[0].l.set (sf y) 1, rows[0].c⟩)).l) :=
        not_hold t _ _ (sf y) HSM.out (by have := HSL.out; simp [at2, hR0, this])
      have HQ := HPV.out _ (tblS B (t.legs.l.length + 1) (rows.set 0 ⟨rows[0].b, rows[0].l.set (sf y) 1, rows[0].c⟩)) HE2.out (HT2.out.is (by have := HRl.out; simp; omega) (by have := HRl.out; have := HK.out.legs; simp; omega) (fun r hr => by have := (mrows_set HRP.out 0 (sf y) 1 hR0 (by omega) r hr).1; have := HK.out.p2; omega)) (by have := HRl.out; simp; omega)
        (fun r hr => by obtain ⟨q, hq, rfl⟩ := List.mem_map.1 hr; exact (mrows_set HRP.out 0 (sf y) 1 hR0 (by omega) q hq).1) (fun r hr => by obtain ⟨q, hq, rfl⟩ := List.mem_map.1 hr; exact (mrows_set HRP.out 0 (sf y) 1 hR0 (by omega) q hq).2)
      simp only [List.length_map, List.length_set, HRl.out] at HQ
      have HQQ := Lib.hid HQ; clear HQ
      obtain ⟨f0, f1, f2, f3, f4⟩ := HB2.out.five
      go_wp2_with fail
      clear f0 f1 f2 f3 f4
      have HQ3 := HQQ.out
      unfold TV.v at HQ3
      rw [HSA.out] at HQ3
      refine HQ3.mono ?_
      clear HQ3 HQQ
      rintro e wq ⟨⟨hh, m', rfl, hm'⟩ | ⟨hh, rfl⟩, hxq⟩
      · exact absurd hh HNot.out
      · clear hh
        have HEq : Hid (Ext w wq) := (EW3.out.trans HE2.out).trans hxq
        clear hxq
        go_wp2_with fail
        refine (awake_ok _).mono ?_
        rintro e wz ⟨rfl, hxz⟩
        have HEz : Hid (Ext w wz) := HEq.out.trans hxz
        clear hxz
        go_wp2_with fail
        go_ret
        exact ⟨rfl, HEz.out⟩
end Go.Proofs.YtdejaliegbmgaaaGreat
