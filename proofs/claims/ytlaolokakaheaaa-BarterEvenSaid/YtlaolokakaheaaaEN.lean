/-
  BarterEven answers true for every input: the exchange that is returned is fair and best, both gain alike, a price proves it, one stretch is cut at most, wells stay where they were; and of exchanges that are tried none gives both more.
-/
import Derived.Test.YtlaolokakaheaaaBI
import Derived.Test.YtlaolokakaheaaaAK
namespace Go.Proofs.Ytlaolokakaheaaa
open Go.RowKit

theorem mul_small {x : Int} {n : Nat} (h : -70000000 ≤ x ∧ x ≤ 70000000) (hn : n ≤ 2000) : -140000000000 ≤ x * (n : Int) ∧ x * (n : Int) ≤ 140000000000 := by
  have h1 : x * (n : Int) ≤ 70000000 * (n : Int) := Int.mul_le_mul_of_nonneg_right h.2 (by omega)
  have h2 : -70000000 * (n : Int) ≤ x * (n : Int) := Int.mul_le_mul_of_nonneg_right h.1 (by omega)
  omega

set_option maxRecDepth 1000000 in
set_option maxHeartbeats 8000000 in
theorem even_all (a0 a1 : Option Addr) (n0 c0 n1 c1 : Nat) (w : World) (h0 : IsBytes w a0 n0 c0) (h1 : IsBytes w a1 n1 c1) :
    Calls Try.prog 3 #[.slice a0 n0 c0, .slice a1 n1 c1] w fun e w' => e = .returned (.bool true) ∧ Ext w w' := by
  have H1 := Lib.hid h1
  have H0 := Lib.hid h0
  clear h0 h1
  go_enter Try.func3, Try.ntmps3
  go_wp2_with fail
  refine (of_any a0 n0 c0 w H0.out).mono ?_
  rintro e w1 ⟨rfl, hd1, hx1⟩
  have hb1 : ∀ b off, a1 = some ⟨b, off, none⟩ → 0 < n1 → b < w.heap.size := fun b off ha hn => by
    obtain ⟨_, _, h3⟩ := H1.out
    obtain ⟨b', off', ha', hc⟩ := h3.resolve_left (by omega)
    rw [ha] at ha'
    cases ha'
    obtain ⟨x, _, hx⟩ := hc 0 hn
    exact lt_of_cell hx
  have HB1 := Lib.hid hb1
  have HDa := Lib.hid hd1
  have HX1 := Lib.hid hx1
  have HD1l : Hid (w.heap.size < w1.heap.size) := HDa.out.lt
  clear hd1 hx1 hb1
  go_wp2_with fail
  refine (made_any w.heap.size a0 n0 c0 0 16 w1 HDa.out (by omega) (by omega) (by omega)).mono ?_
  rintro e w2 ⟨va, sa, vc, sc, m, j, k3, vl, L, rfl, rfl, hm4, hv1, rfl, hj1, hj2, hso, -, hH⟩
  have HX2 : Hid (Ext w w2) := ext_keep HX1.out hH.keep (fun i hi => by omega)
  have hok : OkL L vl := OkL.of hj1 (by omega) hm4 hv1 hso
  have hrv := hH.row 0 _ rfl
  have hrs := hH.row 1 _ rfl
  have hli : LIn w2 ⟨⟨sa, sc, L⟩, ⟨va, vc, vl⟩⟩ := ⟨own_slG hrs (by omega), own_sl hrv (by omega), hok⟩
  have hsb : ∀ g off, sa = some ⟨g, off, none⟩ → w1.heap.size ≤ g ∧ g < w2.heap.size := fun g off e => by have := own_type hrs (k := g) (by dsimp only; subst e; rfl); exact ⟨this.1, this.2.1⟩
  have hvb : ∀ g off, va = some ⟨g, off, none⟩ → w1.heap.size ≤ g ∧ g < w2.heap.size := fun g off e => by have := own_type hrv (k := g) (by dsimp only; subst e; rfl); exact ⟨this.1, this.2.1⟩
  have HLi := Lib.hid hli
  have HSb := Lib.hid hsb
  have HVb := Lib.hid hvb
  have HOk := Lib.hid hok
  have HSo := Lib.hid hso
  have HLn : Hid (1 ≤ L.length ∧ L.length ≤ 16) := ⟨hj1, by omega⟩
  have HW2 : Hid (w.heap.size < w2.heap.size) := Nat.lt_of_lt_of_le HD1l.out hH.keep.size
  clear hH hok hrv hrs hli hsb hvb hm4 hv1 hj1 hj2 hso HDa HX1
  go_wp2_with fail
  obtain ⟨LB, hLB⟩ : ∃ LB, w2.heap.size = LB := ⟨_, rfl⟩
  have hlb : (w2.alloc (.cells #[.slice sa L.length sc, .slice va vl.length vc] 26)).heap[LB]? = some (.cells #[.slice sa L.length sc, .slice va vl.length vc] 26 (0, 0)) := by rw [← hLB]; exact alloc_new rfl
  have HLb := Lib.hid hlb
  have HX3 : Hid (Ext w2 (w2.alloc (.cells #[.slice sa L.length sc, .slice va vl.length vc] 26))) := (Ext.refl _).alloc _
  have HSz : Hid ((w2.alloc (.cells #[.slice sa L.length sc, .slice va vl.length vc] 26)).heap.size = LB + 1 ∧ w2.heap.size = LB) := ⟨by rw [← hLB]; simp only [World.size_alloc], hLB⟩
  try rw [hLB]
  clear hlb hLB
  generalize w2.alloc (.cells #[.slice sa L.length sc, .slice va vl.length vc] 26) = w3 at *
  refine (of_any a1 n1 c1 w3 (H1.out.ext (HX2.out.trans HX3.out))).mono ?_
  rintro e w4 ⟨rfl, hd2, hx4⟩
  obtain ⟨D, hD⟩ : ∃ D, w3.heap.size = D := ⟨_, rfl⟩
  have hlt : LB < D := by have := HSz.out.1; omega
  have HB : Hid (BS w D a1 n1 c1 0 ⟨⟨sa, sc, L⟩, ⟨va, vc, vl⟩⟩ LB w4) := by
    rw [hD] at hd2
    refine ⟨(HX2.out.trans HX3.out).trans hx4, hd2, hx4.block HLb.out, HLi.out.ext (HX3.out.trans hx4), fun g off e _ => ?_, fun g off e _ => ?_, by omega, ?_⟩
    · have := HSb.out g off e; have := HSz.out.2; omega
    · have := HVb.out g off e; have := HSz.out.2; omega
    · have := HW2.out; have := HSz.out.2; omega
  try rw [hD]
  clear hd2 hx4 hD hlt HLi HSb HVb HX2 HX3 HLb HSz HW2 HB1 HD1l H0 H1
  have l0 := HB.out.c0
  have l1 := HB.out.c1
  dsimp only at l0 l1
  obtain ⟨W, P, hbo⟩ := even_some (L := L) (b := true)
  obtain ⟨pa, pb, hE⟩ := even_math HOk.out hbo
  have HE := Lib.hid hE
  clear hE
  go_wp2_with fail
  refine (Even_ok (⟨⟨sa, sc, L⟩, ⟨va, vc, vl⟩⟩ : Ld) w4 HB.out.li W P hbo).mono ?_
  rintro e w5 ⟨g, cap, rfl, hro, hg, hx⟩
  dsimp only at *
  have HB5 := Lib.hid (HB.out.ext hx)
  have HD5 : Hid (D < w4.heap.size ∧ w4.heap.size ≤ w5.heap.size) := ⟨HB.out.dk.lt, hx.size⟩
  have HX5 : Hid (XS D (⟨⟨sa, sc, L⟩, ⟨va, vc, vl⟩⟩ : Ld) W P (some ⟨g, 0, none⟩) cap w5.heap.size (w5.alloc (.cells #[.int .i64 (W : Int), .slice (some ⟨g, 0, none⟩) L.length cap] 31))) := by
    refine XS.new ⟨HB5.out.li.st, HB5.out.li.vi, HOk.out, hro.sl (by have := HE.out.is.len; have := HLn.out; omega), HE.out.is.len, HE.out.is.w1, HE.out.is.w2, fun i hi => HE.out.is.le i (by have := HE.out.is.len; omega)⟩ (by have := HD5.out; omega) (fun g' off e _ => ?_)
    cases e
    have := HD5.out
    omega
  have HB6 := Lib.hid (HB5.out.ext ((Ext.refl w5).alloc (.cells #[.int .i64 (W : Int), .slice (some ⟨g, 0, none⟩) L.length cap] 31)))
  clear hro hg hx hbo HB HB5 HD5 l0 l1
  have l0 := HB6.out.c0
  have l1 := HB6.out.c1
  have x0 := HX5.out.c0
  have x1 := HX5.out.c1
  dsimp only at l0 l1 x0 x1
  obtain ⟨z, hz⟩ : ∃ z, gainN L W P = z := ⟨_, rfl⟩
  have HZ := Lib.hid hz
  have HZb : Hid (0 ≤ z ∧ z ≤ 70000000) := ⟨by rw [← hz]; exact HE.out.pos, by rw [← hz]; exact (gain_small HOk.out HE.out.is.w2 HE.out.is.le).2.1⟩
  clear hz
  go_wp2_with fail
  generalize w5.alloc (.cells #[.int .i64 (W : Int), .slice (some ⟨g, 0, none⟩) L.length cap] 31) = v0 at *
  generalize w5.heap.size = XB at *
  have q := Gains_l HX5.out.e
  (try dsimp only at q)
  rw [HE.out.alike, HZ.out] at q
  refine q.mono ?_
  rintro e v1 ⟨rfl, hx⟩
  have HBv1 := Lib.hid (HB6.out.ext hx)
  have HXv1 := Lib.hid (HX5.out.ext hx)
  clear hx q l0 l1 x0 x1 HB6 HX5
  have l0 := HBv1.out.c0
  have l1 := HBv1.out.c1
  have x0 := HXv1.out.c0
  have x1 := HXv1.out.c1
  dsimp only at l0 l1 x0 x1
  go_wp2_with fail
  have q := Fair_l HXv1.out.e HE.out.is.al (by have := HZ.out; have := HZb.out; dsimp only; omega) (by have := HZ.out; have := HZb.out; have := HE.out.alike; dsimp only; omega)
  (try dsimp only at q)
  refine q.mono ?_
  rintro e v2 ⟨rfl, hx⟩
  have HBv2 := Lib.hid (HBv1.out.ext hx)
  have HXv2 := Lib.hid (HXv1.out.ext hx)
  clear hx q l0 l1 x0 x1 HBv1 HXv1
  have l0 := HBv2.out.c0
  have l1 := HBv2.out.c1
  have x0 := HXv2.out.c0
  have x1 := HXv2.out.c1
  dsimp only at l0 l1 x0 x1
  go_wp2_with fail
  have q := Best_l HXv2.out.e
  (try dsimp only at q)
  rw [HE.out.is.best] at q
  refine q.mono ?_
  rintro e v3 ⟨rfl, hx⟩
  have HBv3 := Lib.hid (HBv2.out.ext hx)
  have HXv3 := Lib.hid (HXv2.out.ext hx)
  clear hx q l0 l1 x0 x1 HBv2 HXv2
  have l0 := HBv3.out.c0
  have l1 := HBv3.out.c1
  have x0 := HXv3.out.c0
  have x1 := HXv3.out.c1
  dsimp only at l0 l1 x0 x1
  go_wp2_with fail
  have q := Price_l HXv3.out.e HE.out.is
  (try dsimp only at q)
  refine q.mono ?_
  rintro e v4 ⟨rfl, hx⟩
  have HBv4 := Lib.hid (HBv3.out.ext hx)
  have HXv4 := Lib.hid (HXv3.out.ext hx)
  clear hx q l0 l1 x0 x1 HBv3 HXv3
  have l0 := HBv4.out.c0
  have l1 := HBv4.out.c1
  have x0 := HXv4.out.c0
  have x1 := HXv4.out.c1
  dsimp only at l0 l1 x0 x1
  have dz : decide (z < 0) = false := decide_eq_false (by have := HZb.out; omega)
  have dz2 : ¬ z < 0 := by have := HZb.out; omega
  go_wp2_with fail
  clear dz dz2
  have q := Holds_l (pa := pa) (pb := pb) HXv4.out.e (by have := HE.out.is.pb; omega) (by have := HE.out.is.pb; omega)
  (try dsimp only at q)
  rw [HE.out.is.holds] at q
  refine q.mono ?_
  rintro e v5 ⟨rfl, hx⟩
  have HBv5 := Lib.hid (HBv4.out.ext hx)
  have HXv5 := Lib.hid (HXv4.out.ext hx)
  clear hx q l0 l1 x0 x1 HBv4 HXv4
  have l0 := HBv5.out.c0
  have l1 := HBv5.out.c1
  have x0 := HXv5.out.c0
  have x1 := HXv5.out.c1
  dsimp only at l0 l1 x0 x1
  go_wp2_with fail
  clear l0 l1 x0 x1
  go_loopw [21, 132] (fun s t wr => ∃ k : Nat, k ≤ L.length ∧ s = .int .i64 (sumF (cutF W P) k : Int) ∧ t = .int .i64 (k : Int) ∧ Hid (BS w D a1 n1 c1 0 (⟨⟨sa, sc, L⟩, ⟨va, vc, vl⟩⟩ : Ld) LB wr) ∧ Hid (XS D (⟨⟨sa, sc, L⟩, ⟨va, vc, vl⟩⟩ : Ld) W P (some ⟨g, 0, none⟩) cap XB wr)) (fun _ t _ => L.length - (intOf t).toNat)
  case atStart => exact ⟨0, Nat.zero_le _, rfl, rfl, HBv5.out, HXv5.out⟩
  case round =>
    clear HBv5 HXv5
    obtain ⟨wo, rfl⟩ : ∃ wo : World, wo = wr := ⟨_, rfl⟩
    obtain ⟨k, hk, rfl, rfl, HB, HX⟩ := hrel
    have HCk := Lib.hid (HE.out.cut1 k hk)
    by_cases hlt : k < L.length
    · have dk : decide ((k : Int) < (L.length : Int)) = true := decide_eq_true (by omega)
      have i1 : (0 : Int) ≤ (k : Int) := by omega
      have i2 : (k : Int) < (L.length : Int) := by omega
      have hwk : IntKind.i64.wrap ((k : Int) + 1) = ((k + 1 : Nat) : Int) := by have := HLn.out; rw [IntWalk.i64_in _ (by omega)]; omega
      have cP : wo.cell? ⟨g, k, none⟩ = some (.int .i64 (pt P k : Int)) := by
        obtain ⟨b, off, ha, hc⟩ := part_cell HX.out.e.pa (show k < P.length by have := HE.out.is.len; omega)
        cases ha
        rw [Nat.zero_add] at hc
        exact hc
      have hcap : L.length ≤ cap := by have h1 := HX.out.e.pa.1; have h2 := HE.out.is.len; dsimp only at h1; omega
      obtain ⟨b, off, ha, s0, s1, s2, s3⟩ := HB.out.li.st.cells hlt
      have HBd := HE.out.bound k hlt
      have HOb := HOk.out.ob _ (at_mem hlt)
      have HFr : (at' L k).free = decide ((at' L k).w = -1) := rfl
      have HNw : nowF (at' L k) = (if (at' L k).o = 0 then 1 else 0) := rfl
      have HSum : sumF (cutF W P) (k + 1) = sumF (cutF W P) k + cutF W P k := rfl
      have HCu : cutF W P k = (if 0 < pt P k ∧ pt P k < W then 1 else 0) := rfl
      have l0 := HB.out.c0
      have x0 := HX.out.c0
      have hwc : IntKind.i64.wrap ((sumF (cutF W P) k : Int) + 1) = ((sumF (cutF W P) k + 1 : Nat) : Int) := by have := HCk.out; rw [IntWalk.i64_in _ (by omega)]; omega
      have HPl : Hid (pt P k ≤ W ∧ W ≤ 2000) := ⟨HE.out.is.le k hlt, HE.out.is.w2⟩
      dsimp only at ha l0 x0 s0 s1 s2 s3
      subst ha
      generalize sumF (cutF W P) k = C at *
      generalize cutF W P k = cc at *
      generalize pt P k = pp at *
      generalize nowF (at' L k) = nw at *
      generalize (at' L k).free = fr at *
      generalize (at' L k).o = oo at *
      generalize (at' L k).n = nn at *
      generalize (at' L k).s = ss at *
      generalize (at' L k).w = ww at *
      have hX2 : Ext wo (wo.alloc (.cells #[.int .i64 (oo : Int), .int .i64 (nn : Int), .int .i64 (ss : Int), .int .i64 ww] 41)) := (Ext.refl _).alloc _
      have HX2 := Lib.hid hX2
      have x2 := (HX.out.ext hX2).c0
      try dsimp only at x2
      clear hX2
      have hq1 : ∃ q1 : Nat, (1 : Int) - (oo : Int) = (q1 : Int) ∧ q1 = nw := ⟨1 - oo, by omega, by rw [HNw]; split <;> omega⟩
      obtain ⟨q1, hq1, hq2⟩ := hq1
      have ho1 : IntKind.i64.wrap ((1 : Int) - (oo : Int)) = (q1 : Int) := by rw [hq1, IntWalk.i64_in _ (by omega)]
      have HBf := Lib.hid HBd
      have HFw := Lib.hid HFr
      have HS2 := Lib.hid HSum
      have HC2 := Lib.hid HCu
      have HQ2 := Lib.hid hq2
      clear HBd HFr HSum HCu hq1 hq2 HNw HOb
      by_cases hp0 : 0 < pp
      · have d1 : decide ((0 : Int) < (pp : Int)) = true := decide_eq_true (by omega)
        have p1 : (0 : Int) < (pp : Int) := by omega
        by_cases hpw : pp < W
        · have d2 : decide ((pp : Int) < (W : Int)) = true := decide_eq_true (by omega)
          have p2 : (pp : Int) < (W : Int) := by omega
          have HC3 : Hid (sumF (cutF W P) (k + 1) = C + 1) := by rw [HS2.out, HC2.out, if_pos ⟨hp0, hpw⟩]; rfl
          clear hp0 hpw
          by_cases hww : ww = -1
          · subst hww
            go_wp2_with fail
            go_roundw
            case rel => exact ⟨k + 1, by omega, by rw [HC3.out]; go_num, by go_num, HB.out.ext HX2.out, HX.out.ext HX2.out⟩
            case measure => simp [intOf]; omega
          · have dw : decide (ww = -1) = false := decide_eq_false hww
            have hpp : pp = W * q1 := by rw [HQ2.out]; exact HBf.out (by rw [HFw.out]; exact dw)
            have ho2 : IntKind.i64.wrap ((W : Int) * (q1 : Int)) = (pp : Int) := by rw [← Int.natCast_mul, ← hpp]; exact IntWalk.i64_in _ (by have := HPl.out; omega)
            clear hpp
            go_wp2_with fail
            go_roundw
            case rel => exact ⟨k + 1, by omega, by rw [HC3.out]; go_num, by go_num, HB.out.ext HX2.out, HX.out.ext HX2.out⟩
            case measure => simp [intOf]; omega

        · have d2 : decide ((pp : Int) < (W : Int)) = false := decide_eq_false (by omega)
          have p2 : ¬ (pp : Int) < (W : Int) := by omega
          have HC3 : Hid (sumF (cutF W P) (k + 1) = C) := by rw [HS2.out, HC2.out, if_neg (by omega)]; rfl
          clear hp0 hpw
          by_cases hww : ww = -1
          · subst hww
            go_wp2_with fail
            go_roundw
            case rel => exact ⟨k + 1, by omega, by rw [HC3.out], by go_num, HB.out.ext HX2.out, HX.out.ext HX2.out⟩
            case measure => simp [intOf]; omega
          · have dw : decide (ww = -1) = false := decide_eq_false hww
            have hpp : pp = W * q1 := by rw [HQ2.out]; exact HBf.out (by rw [HFw.out]; exact dw)
            have ho2 : IntKind.i64.wrap ((W : Int) * (q1 : Int)) = (pp : Int) := by rw [← Int.natCast_mul, ← hpp]; exact IntWalk.i64_in _ (by have := HPl.out; omega)
            clear hpp
            go_wp2_with fail
            go_roundw
            case rel => exact ⟨k + 1, by omega, by rw [HC3.out], by go_num, HB.out.ext HX2.out, HX.out.ext HX2.out⟩
            case measure => simp [intOf]; omega

      · have d1 : decide ((0 : Int) < (pp : Int)) = false := decide_eq_false (by omega)
        have p1 : ¬ (0 : Int) < (pp : Int) := by omega
        have HC3 : Hid (sumF (cutF W P) (k + 1) = C) := by rw [HS2.out, HC2.out, if_neg (by omega)]; rfl
        clear hp0
        by_cases hww : ww = -1
        · subst hww
          go_wp2_with fail
          go_roundw
          case rel => exact ⟨k + 1, by omega, by rw [HC3.out], by go_num, HB.out.ext HX2.out, HX.out.ext HX2.out⟩
          case measure => simp [intOf]; omega
        · have dw : decide (ww = -1) = false := decide_eq_false hww
          have hpp : pp = W * q1 := by rw [HQ2.out]; exact HBf.out (by rw [HFw.out]; exact dw)
          have ho2 : IntKind.i64.wrap ((W : Int) * (q1 : Int)) = (pp : Int) := by rw [← Int.natCast_mul, ← hpp]; exact IntWalk.i64_in _ (by have := HPl.out; omega)
          clear hpp
          go_wp2_with fail
          go_roundw
          case rel => exact ⟨k + 1, by omega, by rw [HC3.out], by go_num, HB.out.ext HX2.out, HX.out.ext HX2.out⟩
          case measure => simp [intOf]; omega

    · have dk : decide ((k : Int) < (L.length : Int)) = false := decide_eq_false (by omega)
      obtain rfl : k = L.length := by omega
      clear hlt hk
      have hC1 := HE.out.cut1 L.length (Nat.le_refl _)
      have hC0 := HE.out.cut0
      have x0 := HX.out.c0
      have hW1 := HE.out.is.w1
      try dsimp only at x0
      go_upto_region 23 with (fail)
      generalize sumF (cutF W P) L.length = C at *
      go_cut [176] (fun s176 wx => s176 = .bool false ∧ wx = wo)
      case first =>
        have dC1 : decide ((1 : Int) < (C : Int)) = false := decide_eq_false (by omega)
        have pC1 : ¬ (1 : Int) < (C : Int) := by omega
        by_cases hC : C = 0
        · have dC0 : decide ((C : Int) = 0) = true := decide_eq_true (by omega)
          have bC0 : ((C : Int) == 0) = true := by simp [hC]
          have hW := hC0 hC
          have dW : decide ((W : Int) = 1) = true := decide_eq_true (by omega)
          clear hC0 hC
          subst hW
          go_wp2_with fail
          go_meet
          exact ⟨rfl, rfl⟩
        · have dC0 : decide ((C : Int) = 0) = false := decide_eq_false (by omega)
          have bC0 : ((C : Int) == 0) = false := by simp [hC]
          have pC0 : ¬ (C : Int) = 0 := by omega
          clear hC0
          go_wp2_with fail
          go_meet
          exact ⟨rfl, rfl⟩
      case rest =>
        obtain ⟨rfl, rfl⟩ := hcut
        clear hC1 hC0 x0 hW1
        go_wp2_with fail
        go_loopw [177] (fun t wr => ∃ i k' : Nat, i ≤ 8 ∧ t = .int .i64 (i : Int) ∧ k' ≤ 49 * i ∧ Hid (BS w D a1 n1 c1 k' (⟨⟨sa, sc, L⟩, ⟨va, vc, vl⟩⟩ : Ld) LB wr) ∧ Hid (XS D (⟨⟨sa, sc, L⟩, ⟨va, vc, vl⟩⟩ : Ld) W P (some ⟨g, 0, none⟩) cap XB wr)) (fun t _ => 8 - (intOf t).toNat)
        case atStart => exact ⟨0, 0, Nat.zero_le _, rfl, Nat.zero_le _, HB.out, HX.out⟩
        case round =>
          clear HB HX
          obtain ⟨wp, rfl⟩ : ∃ wp : World, wp = wr := ⟨_, rfl⟩
          obtain ⟨i, k', hi, rfl, hk', HB, HX⟩ := hrel
          have HKk : Hid (k' ≤ 49 * i ∧ i ≤ 8) := ⟨hk', hi⟩
          clear hk'
          by_cases hlt : i < 8
          · have dk : decide ((i : Int) < 8) = true := decide_eq_true (by omega)
            have hwi : IntKind.i64.wrap ((i : Int) + 1) = ((i + 1 : Nat) : Int) := by rw [IntWalk.i64_in _ (by omega)]; omega
            have l0 := HB.out.c0
            have l1 := HB.out.c1
            try dsimp only at l0 l1
            go_wp2_with fail
            refine (Tried_l HB.out (by have := HKk.out; omega)).mono ?_
            rintro e y1 ⟨V, Q, qa, qc, k2, rfl, hT⟩
            have HT := Lib.hid hT
            have HB1 := Lib.hid (HB.out.turn hT.q hT.dk)
            have HX1 := Lib.hid (HX.out.turn hT.q HB.out.ds HB.out.dv)
            have HY2 := Lib.hid (XS.new hT.e HB1.out.dk.lt hT.da)
            have hxa : Ext y1 (y1.alloc (.cells #[.int .i64 (V : Int), .slice qa L.length qc] 31)) := (Ext.refl _).alloc _
            have HB2 := Lib.hid (HB1.out.ext hxa)
            have HX2 := Lib.hid (HX1.out.ext hxa)
            clear hT hxa l0 l1 HB HX HB1 HX1
            have l0 := HB2.out.c0
            have l1 := HB2.out.c1
            have y0 := HY2.out.c0
            have y1c := HY2.out.c1
            have x0 := HX2.out.c0
            try dsimp only at l0 l1 y0 y1c x0
            go_wp2_with fail
            try dsimp only at HY2
            generalize y1.alloc (.cells #[.int .i64 (V : Int), .slice qa L.length qc] 31) = y2 at *
            generalize y1.heap.size = YB at *
            have hgs := gain_small HOk.out HT.out.e.w2 (le_of HT.out.e)
            have hbo := HE.out.is.both HT.out.al (le_of HT.out.e)
            have q := Gains_l HY2.out.e
            rw [HE.out.alike, HZ.out] at hbo
            try dsimp only at hgs hbo q
            have HV : Hid (1 ≤ V ∧ V ≤ 12) := ⟨HT.out.e.w1, HT.out.w12⟩
            have HWb : Hid (1 ≤ W ∧ W ≤ 2000) := ⟨HE.out.is.w1, HE.out.is.w2⟩
            generalize gainN L V Q = gp at *
            generalize gainS L V Q = gq at *
            refine q.mono ?_
            rintro e y3 ⟨rfl, hx⟩
            have HB3 := Lib.hid (HB2.out.ext hx)
            have HX3 := Lib.hid (HX2.out.ext hx)
            have HY3 := Lib.hid (HY2.out.ext hx)
            clear hx q l0 l1 y0 y1c x0 HB2 HX2 HY2
            have l0 := HB3.out.c0
            have l1 := HB3.out.c1
            have y0 := HY3.out.c0
            have y1c := HY3.out.c1
            have x0 := HX3.out.c0
            have x1 := HX3.out.c1
            try dsimp only at l0 l1 y0 y1c x0 x1
            have w1 : -140000000000 ≤ gp * (W : Int) ∧ gp * (W : Int) ≤ 140000000000 := mul_small (by omega) (by have := HWb.out; omega)
            have w2 : -140000000000 ≤ gq * (W : Int) ∧ gq * (W : Int) ≤ 140000000000 := mul_small (by omega) (by have := HWb.out; omega)
            have w3 : -140000000000 ≤ z * (V : Int) ∧ z * (V : Int) ≤ 140000000000 := mul_small (by have := HZb.out; omega) (by have := HV.out; omega)
            obtain ⟨m1, hm1⟩ : ∃ m1, gp * (W : Int) = m1 := ⟨_, rfl⟩
            obtain ⟨m2, hm2⟩ : ∃ m2, gq * (W : Int) = m2 := ⟨_, rfl⟩
            obtain ⟨m3, hm3⟩ : ∃ m3, z * (V : Int) = m3 := ⟨_, rfl⟩
            have r1 : IntKind.i64.wrap (gp * (W : Int)) = m1 := by rw [IntWalk.i64_in _ (by omega), hm1]
            have r2 : IntKind.i64.wrap (gq * (W : Int)) = m2 := by rw [IntWalk.i64_in _ (by omega), hm2]
            have r3 : IntKind.i64.wrap (z * (V : Int)) = m3 := by rw [IntWalk.i64_in _ (by omega), hm3]
            rw [hm1, hm2, hm3] at hbo
            clear w1 w2 w3 hm1 hm2 hm3 hgs
            go_upto_region 29 with (fail)
            go_cut [212] from 189 to 212 (fun s212 wx => s212 = .bool false ∧ wx = y3)
            case first =>
              by_cases h1 : m3 < m1
              · have d1 : decide (m3 < m1) = true := decide_eq_true h1
                have h2 : ¬ m3 < m2 := fun h => hbo ⟨h1, h⟩
                have d2 : decide (m3 < m2) = false := decide_eq_false h2
                clear hbo
                go_wp2_with fail
                go_meet
                exact ⟨rfl, rfl⟩
              · have d1 : decide (m3 < m1) = false := decide_eq_false h1
                clear hbo
                go_wp2_with fail
                go_meet
                exact ⟨rfl, rfl⟩
            case rest =>
              obtain ⟨rfl, rfl⟩ := hcut
              clear r1 r2 r3 hbo
              have q := Has_l HY3.out.e
              try dsimp only at q
              have hu := has_small HOk.out HT.out.e.w2 (le_of HT.out.e)
              have hm := has_small HOk.out HE.out.is.w2 HE.out.is.le
              have hmo := HE.out.is.most HT.out.al (le_of HT.out.e)
              try dsimp only at hu hmo
              go_wp2_with fail
              refine q.mono ?_
              rintro e y4 ⟨rfl, hx⟩
              have HB4 := Lib.hid (HB3.out.ext hx)
              have HX4 := Lib.hid (HX3.out.ext hx)
              have HY4 := Lib.hid (HY3.out.ext hx)
              clear hx q l0 l1 y0 y1c x0 x1 HB3 HX3 HY3
              have l0 := HB4.out.c0
              have l1 := HB4.out.c1
              have x0 := HX4.out.c0
              have x1 := HX4.out.c1
              try dsimp only at l0 l1 x0 x1
              go_wp2_with fail
              have q := Has_l HX4.out.e
              try dsimp only at q
              refine q.mono ?_
              rintro e y5 ⟨rfl, hx⟩
              have HB5 := Lib.hid (HB4.out.ext hx)
              have HX5 := Lib.hid (HX4.out.ext hx)
              have HY5 := Lib.hid (HY4.out.ext hx)
              clear hx q l0 l1 x0 x1 HB4 HX4 HY4
              have x0 := HX5.out.c0
              have y0 := HY5.out.c0
              try dsimp only at x0 y0
              have hpb := HE.out.is.pb
              have hV := HV.out
              have hW := HWb.out
              generalize hasN L Q = u at *
              generalize hasS L V Q = v at *
              generalize hasN L P = mn at *
              generalize hasS L W P = ms at *
              obtain ⟨A1, h1⟩ : ∃ x, u * pa = x := ⟨_, rfl⟩
              obtain ⟨A2, h2⟩ : ∃ x, v * pb = x := ⟨_, rfl⟩
              obtain ⟨A3, h3⟩ : ∃ x, A1 + A2 = x := ⟨_, rfl⟩
              obtain ⟨A4, h4⟩ : ∃ x, A3 * W = x := ⟨_, rfl⟩
              have g1 : u * pa ≤ 32000000 * 1000 := Nat.mul_le_mul (by omega) (by omega)
              have g2 : v * pb ≤ 32000000 * 1000 := Nat.mul_le_mul (by omega) (by omega)
              have g4 : A3 * W ≤ 64000000000 * 2000 := Nat.mul_le_mul (by omega) (by omega)
              have rA1 : IntKind.i64.wrap ((u : Int) * (pa : Int)) = (A1 : Int) := by rw [← Int.natCast_mul, h1]; exact IntWalk.i64_in _ (by omega)
              have rA2 : IntKind.i64.wrap ((v : Int) * (pb : Int)) = (A2 : Int) := by rw [← Int.natCast_mul, h2]; exact IntWalk.i64_in _ (by omega)
              have rA3 : IntKind.i64.wrap ((A1 : Int) + (A2 : Int)) = (A3 : Int) := by rw [IntWalk.i64_in _ (by omega)]; omega
              have rA4 : IntKind.i64.wrap ((A3 : Int) * (W : Int)) = (A4 : Int) := by rw [← Int.natCast_mul, h4]; exact IntWalk.i64_in _ (by omega)
              rw [h1, h2, h3, h4] at hmo
              clear h1 h2 h3 h4 g1 g2 g4
              obtain ⟨B1, h1⟩ : ∃ x, mn * pa = x := ⟨_, rfl⟩
              obtain ⟨B2, h2⟩ : ∃ x, ms * pb = x := ⟨_, rfl⟩
              obtain ⟨B3, h3⟩ : ∃ x, B1 + B2 = x := ⟨_, rfl⟩
              obtain ⟨B4, h4⟩ : ∃ x, B3 * V = x := ⟨_, rfl⟩
              have g1 : mn * pa ≤ 32000000 * 1000 := Nat.mul_le_mul (by omega) (by omega)
              have g2 : ms * pb ≤ 32000000 * 1000 := Nat.mul_le_mul (by omega) (by omega)
              have g4 : B3 * V ≤ 64000000000 * 2000 := Nat.mul_le_mul (by omega) (by omega)
              have rB1 : IntKind.i64.wrap ((mn : Int) * (pa : Int)) = (B1 : Int) := by rw [← Int.natCast_mul, h1]; exact IntWalk.i64_in _ (by omega)
              have rB2 : IntKind.i64.wrap ((ms : Int) * (pb : Int)) = (B2 : Int) := by rw [← Int.natCast_mul, h2]; exact IntWalk.i64_in _ (by omega)
              have rB3 : IntKind.i64.wrap ((B1 : Int) + (B2 : Int)) = (B3 : Int) := by rw [IntWalk.i64_in _ (by omega)]; omega
              have rB4 : IntKind.i64.wrap ((B3 : Int) * (V : Int)) = (B4 : Int) := by rw [← Int.natCast_mul, h4]; exact IntWalk.i64_in _ (by omega)
              rw [h1, h2, h3, h4] at hmo
              clear h1 h2 h3 h4 g1 g2 g4
              have dA : decide ((B4 : Int) < (A4 : Int)) = false := decide_eq_false (by omega)
              have pA : ¬ (B4 : Int) < (A4 : Int) := by omega
              clear hmo hu hm hpb hV hW
              go_wp2_with fail
              go_roundw
              case rel => exact ⟨i + 1, k2, by omega, by go_num, by have := HT.out.kk; have := HKk.out; omega, HB5.out, HX5.out⟩
              case measure => simp [intOf]; omega
          · have dk : decide ((i : Int) < 8) = false := decide_eq_false (by omega)
            clear hlt
            go_wp2_with fail
            refine (awake_ok _).mono ?_
            rintro e wz ⟨rfl, hx⟩
            go_wp2_with fail
            go_ret
            exact ⟨rfl, HB.out.x0.trans hx⟩
end Go.Proofs.Ytlaolokakaheaaa
