/-
  BarterBest answers true for every input: an exchange that is tried is best just if a price holds for it; else there is a waste, and with a little of it exchanged neither side has less, and one has more.
-/
import Derived.Test.YtlaolokakaheaaaBI
import Derived.Test.YtlaolokakaheaaaAK
namespace Go.Proofs.Ytlaolokakaheaaa
open Go.RowKit

theorem Mm.frow {w0 V : World} {rows : List Rw} {blks : List (Nat × Obj)} (h : Mm w0 rows blks V) (i : Nat) {g m cap : Nat} {l : List Nat} (hr : rows[i]? = some ⟨3, 1, .slice (some ⟨g, 0, none⟩) m cap, m, nums l⟩) (hl : l.length = m) : Row V g l cap := by
  subst hl
  exact (Row.of_own (h.row i _ hr)).1
theorem Mm.rowSet {w0 V : World} {rows : List Rw} {blks : List (Nat × Obj)} (h : Mm w0 rows blks V) (i : Nat) {g m cap : Nat} {l : List Nat} (hr : rows[i]? = some ⟨3, 1, .slice (some ⟨g, 0, none⟩) m cap, m, nums l⟩) (hl : l.length = m) (hc : cap ≤ maxLen) {q : Nat} (x : Nat) (hq : q < m) : Mm w0 (rows.set i ⟨3, 1, .slice (some ⟨g, 0, none⟩) m cap, m, nums (l.set q x)⟩) blks (V.setCell ⟨g, q, none⟩ (.int .i64 (x : Int))) := by
  subst hl
  obtain ⟨h1, h2⟩ := Row.of_own (h.row i _ hr)
  have h3 := (h1.set q x hq).own h2 hc
  rw [List.length_set] at h3
  exact h.turned hr ((Keep.refl _ V).setCell ⟨g, q, none⟩ (.int .i64 (x : Int)) (fun _ h => h rfl)) h3 (fun b hb => .inl hb)
theorem turn_of {V V' : World} {D : Nat} (g : V.grownBy V' (some D)) : Keep (fun b => b ≠ D) V V' := (Keep.refl _ V).grown g (fun _ e _ hn => by cases e; exact hn rfl)
theorem cells_of {w V : World} {D dn dc k LB XB W c : Nat} {da a : Option Addr} {x : Ld} {P : List Nat} (h : BS w D da dn dc k x LB V) (q : XS D x W P a c XB V) : V.cell? ⟨LB, 0, none⟩ = some (.slice x.s.a x.s.l.length x.s.c) ∧ V.cell? ⟨LB, 1, none⟩ = some (.slice x.v.a x.v.l.length x.v.c) ∧ V.cell? ⟨XB, 0, none⟩ = some (.int .i64 (W : Int)) ∧ V.cell? ⟨XB, 1, none⟩ = some (.slice a x.s.l.length c) := ⟨h.c0, h.c1, q.c0, q.c1⟩

set_option maxRecDepth 1000000 in
set_option maxHeartbeats 8000000 in
theorem best_all (a0 a1 : Option Addr) (n0 c0 n1 c1 : Nat) (w : World) (h0 : IsBytes w a0 n0 c0) (h1 : IsBytes w a1 n1 c1) :
    Calls Try.prog 4 #[.slice a0 n0 c0, .slice a1 n1 c1] w fun e w' => e = .returned (.bool true) ∧ Ext w w' := by
  have H1 := Lib.hid h1
  have H0 := Lib.hid h0
  clear h0 h1
  go_enter Try.func4, Try.ntmps4
  go_wp2_with fail
  refine (of_any a0 n0 c0 w H0.out).mono ?_
  rintro e w1 ⟨rfl, hd1, hx1⟩
  have hb1 : ∀ b off, a1 = some ⟨b, off, none⟩ → 0 < n1 → b < w.heap.size := fun b off ha hn => by
    obtain ⟨_, _, h3⟩ := H1.out
    obtain ⟨b', off', ha', hc⟩ := h3.resolve_left (by omega)
    rw [ha] at ha'
    cases ha'
    obtain ⟨x, _, hx⟩ := hc 0 hn
    exact lt_of_cell hx
  have HB1 := Lib.hid hb1
  have HDa := Lib.hid hd1
  have HX1 := Lib.hid hx1
  have HD1l : Hid (w.heap.size < w1.heap.size) := HDa.out.lt
  clear hd1 hx1 hb1
  go_wp2_with fail
  refine (made_any w.heap.size a0 n0 c0 0 10 w1 HDa.out (by omega) (by omega) (by omega)).mono ?_
  rintro e w2 ⟨va, sa, vc, sc, m, j, k3, vl, L, rfl, rfl, hm4, hv1, rfl, hj1, hj2, hso, -, hH⟩
  have HX2 : Hid (Ext w w2) := ext_keep HX1.out hH.keep (fun i hi => by omega)
  have hok : OkL L vl := OkL.of hj1 (by omega) hm4 hv1 hso
  have hrv := hH.row 0 _ rfl
  have hrs := hH.row 1 _ rfl
  have hli : LIn w2 ⟨⟨sa, sc, L⟩, ⟨va, vc, vl⟩⟩ := ⟨own_slG hrs (by omega), own_sl hrv (by omega), hok⟩
  have hsb : ∀ g off, sa = some ⟨g, off, none⟩ → w1.heap.size ≤ g ∧ g < w2.heap.size := fun g off e => by have := own_type hrs (k := g) (by dsimp only; subst e; rfl); exact ⟨this.1, this.2.1⟩
  have hvb : ∀ g off, va = some ⟨g, off, none⟩ → w1.heap.size ≤ g ∧ g < w2.heap.size := fun g off e => by have := own_type hrv (k := g) (by dsimp only; subst e; rfl); exact ⟨this.1, this.2.1⟩
  have HLi := Lib.hid hli
  have HSb := Lib.hid hsb
  have HVb := Lib.hid hvb
  have HOk := Lib.hid hok
  have HSo := Lib.hid hso
  have HLn : Hid (1 ≤ L.length ∧ L.length ≤ 10) := ⟨hj1, by omega⟩
  have HW2 : Hid (w.heap.size < w2.heap.size) := Nat.lt_of_lt_of_le HD1l.out hH.keep.size
  clear hH hok hrv hrs hli hsb hvb hm4 hv1 hj1 hj2 hso HDa HX1
  go_wp2_with fail
  obtain ⟨LB, hLB⟩ : ∃ LB, w2.heap.size = LB := ⟨_, rfl⟩
  have hlb : (w2.alloc (.cells #[.slice sa L.length sc, .slice va vl.length vc] 26)).heap[LB]? = some (.cells #[.slice sa L.length sc, .slice va vl.length vc] 26 (0, 0)) := by rw [← hLB]; exact alloc_new rfl
  have HLb := Lib.hid hlb
  have HX3 : Hid (Ext w2 (w2.alloc (.cells #[.slice sa L.length sc, .slice va vl.length vc] 26))) := (Ext.refl _).alloc _
  have HSz : Hid ((w2.alloc (.cells #[.slice sa L.length sc, .slice va vl.length vc] 26)).heap.size = LB + 1 ∧ w2.heap.size = LB) := ⟨by rw [← hLB]; simp only [World.size_alloc], hLB⟩
  try rw [hLB]
  clear hlb hLB
  generalize w2.alloc (.cells #[.slice sa L.length sc, .slice va vl.length vc] 26) = w3 at *
  refine (of_any a1 n1 c1 w3 (H1.out.ext (HX2.out.trans HX3.out))).mono ?_
  rintro e w4 ⟨rfl, hd2, hx4⟩
  obtain ⟨D, hD⟩ : ∃ D, w3.heap.size = D := ⟨_, rfl⟩
  have hlt : LB < D := by have := HSz.out.1; omega
  have HB : Hid (BS w D a1 n1 c1 0 ⟨⟨sa, sc, L⟩, ⟨va, vc, vl⟩⟩ LB w4) := by
    rw [hD] at hd2
    refine ⟨(HX2.out.trans HX3.out).trans hx4, hd2, hx4.block HLb.out, HLi.out.ext (HX3.out.trans hx4), fun g off e _ => ?_, fun g off e _ => ?_, by omega, ?_⟩
    · have := HSb.out g off e; have := HSz.out.2; omega
    · have := HVb.out g off e; have := HSz.out.2; omega
    · have := HW2.out; have := HSz.out.2; omega
  try rw [hD]
  clear hd2 hx4 hD hlt HLi HSb HVb HX2 HX3 HLb HSz HW2 HB1 HD1l H0 H1
  have l0 := HB.out.c0
  have l1 := HB.out.c1
  try dsimp only at l0 l1
  go_wp2_with fail
  go_loopw [32] (fun t wr => ∃ i k' : Nat, i ≤ 6 ∧ t = .int .i64 (i : Int) ∧ k' ≤ 60 * i ∧ Hid (BS w D a1 n1 c1 k' (⟨⟨sa, sc, L⟩, ⟨va, vc, vl⟩⟩ : Ld) LB wr)) (fun t _ => 6 - (intOf t).toNat)
  case atStart => exact ⟨0, 0, Nat.zero_le _, rfl, Nat.zero_le _, HB.out⟩
  case round =>
    clear HB l0 l1
    obtain ⟨wp, rfl⟩ : ∃ wp : World, wp = wr := ⟨_, rfl⟩
    obtain ⟨i, k', hi, rfl, hk', HB⟩ := hrel
    have HKk : Hid (k' ≤ 60 * i ∧ i ≤ 6) := ⟨hk', hi⟩
    clear hk'
    by_cases hlt : i < 6
    · have dk : decide ((i : Int) < 6) = true := decide_eq_true (by omega)
      have hwi : IntKind.i64.wrap ((i : Int) + 1) = ((i + 1 : Nat) : Int) := by rw [IntWalk.i64_in _ (by omega)]; omega
      have l0 := HB.out.c0
      have l1 := HB.out.c1
      try dsimp only at l0 l1
      go_wp2_with fail
      refine (Tried_l HB.out (by have := HKk.out; omega)).mono ?_
      rintro e y1 ⟨V, Q, qa, qc, k2, rfl, hT⟩
      have HT := Lib.hid hT
      have HB1 := Lib.hid (HB.out.turn hT.q hT.dk)
      have HX1 := Lib.hid (XS.new hT.e HB1.out.dk.lt hT.da)
      have HB2 := Lib.hid (HB1.out.ext ((Ext.refl y1).alloc (.cells #[.int .i64 (V : Int), .slice qa L.length qc] 31)))
      have HKt : Hid (k2 ≤ k' + 49) := hT.kk
      have HVb : Hid (1 ≤ V ∧ V ≤ 12) := ⟨hT.e.w1, hT.w12⟩
      clear hT l0 l1 HB HB1
      have l0 := HB2.out.c0
      have l1 := HB2.out.c1
      have x0 := HX1.out.c0
      have x1 := HX1.out.c1
      try dsimp only at l0 l1 x0 x1
      go_wp2_with fail
      try dsimp only at HX1
      generalize y1.alloc (.cells #[.int .i64 (V : Int), .slice qa L.length qc] 31) = y2 at *
      generalize y1.heap.size = XB at *
      have hal := HT.out.al
      have hle := le_of HT.out.e
      have hln := HT.out.e.ln
      try dsimp only at hal hle hln
      cases hw : wasteF L V Q with
      | none =>
        have hbest : bestF L V Q = true := by unfold bestF; rw [hal, hw]; rfl
        obtain ⟨pa, pb, hM⟩ := best_math HOk.out hln HVb.out.1 (by have := HVb.out; omega) hle hbest
        have HM := Lib.hid hM
        have HAl := Lib.hid hal
        have HW := Lib.hid hw
        clear hM hal hle hln hw hbest
        have q := Best_l HX1.out.e
        try dsimp only at q
        rw [HM.out.best] at q
        refine q.mono ?_
        rintro e z1 ⟨rfl, hx⟩
        have HBz1 := Lib.hid (HB2.out.ext hx)
        have HXz1 := Lib.hid (HX1.out.ext hx)
        clear hx q l0 l1 x0 x1 HB2 HX1
        have l0 := HBz1.out.c0
        have l1 := HBz1.out.c1
        have x0 := HXz1.out.c0
        have x1 := HXz1.out.c1
        try dsimp only at l0 l1 x0 x1
        go_wp2_with fail
        have q := Waste_l HXz1.out.e HAl.out
        try dsimp only at q
        rw [HW.out] at q
        try dsimp only [wasteV] at q
        refine q.mono ?_
        rintro e z2 ⟨rfl, hx⟩
        have HBz2 := Lib.hid (HBz1.out.ext hx)
        have HXz2 := Lib.hid (HXz1.out.ext hx)
        clear hx q l0 l1 x0 x1 HBz1 HXz1
        have l0 := HBz2.out.c0
        have l1 := HBz2.out.c1
        have x0 := HXz2.out.c0
        have x1 := HXz2.out.c1
        try dsimp only at l0 l1 x0 x1
        go_wp2_with fail
        have q := Price_l HXz2.out.e HM.out
        try dsimp only at q
        refine q.mono ?_
        rintro e z3 ⟨rfl, hx⟩
        have HBz3 := Lib.hid (HBz2.out.ext hx)
        have HXz3 := Lib.hid (HXz2.out.ext hx)
        clear hx q l0 l1 x0 x1 HBz2 HXz2
        have l0 := HBz3.out.c0
        have l1 := HBz3.out.c1
        have x0 := HXz3.out.c0
        have x1 := HXz3.out.c1
        try dsimp only at l0 l1 x0 x1
        go_wp2_with fail
        have q := Holds_l (pa := pa) (pb := pb) HXz3.out.e (by have := HM.out.pb; omega) (by have := HM.out.pb; omega)
        try dsimp only at q
        rw [HM.out.holds] at q
        refine q.mono ?_
        rintro e z4 ⟨rfl, hx⟩
        have HBz4 := Lib.hid (HBz3.out.ext hx)
        have HXz4 := Lib.hid (HXz3.out.ext hx)
        clear hx q l0 l1 x0 x1 HBz3 HXz3
        have l0 := HBz4.out.c0
        have l1 := HBz4.out.c1
        have x0 := HXz4.out.c0
        have x1 := HXz4.out.c1
        try dsimp only at l0 l1 x0 x1
        go_wp2_with fail
        go_roundw
        case rel => exact ⟨i + 1, k2, by omega, by go_num, by have := HKt.out; have := HKk.out; omega, HBz4.out⟩
        case measure => simp [intOf]; omega
      | some wv =>
        obtain ⟨wa, wb⟩ := wv
        have hbest : bestF L V Q = false := by unfold bestF; rw [hal, hw]; rfl
        have htr := trade HOk.out hw hln hle (fun x hx => by have := (HSo.out x hx).s; omega)
        have HTr := Lib.hid htr
        have HAl := Lib.hid hal
        have HW := Lib.hid hw
        have HLe := Lib.hid hle
        have HLq := Lib.hid hln
        have HBe := Lib.hid hbest
        clear htr hal hle hln hw hbest
        have q := Best_l HX1.out.e
        try dsimp only at q
        rw [HBe.out] at q
        refine q.mono ?_
        rintro e z1 ⟨rfl, hx⟩
        have HBz1 := Lib.hid (HB2.out.ext hx)
        have HXz1 := Lib.hid (HX1.out.ext hx)
        clear hx q l0 l1 x0 x1 HB2 HX1
        have l0 := HBz1.out.c0
        have l1 := HBz1.out.c1
        have x0 := HXz1.out.c0
        have x1 := HXz1.out.c1
        try dsimp only at l0 l1 x0 x1
        go_wp2_with fail
        have q := Waste_l HXz1.out.e HAl.out
        try dsimp only at q
        rw [HW.out] at q
        try dsimp only [wasteV] at q
        refine q.mono ?_
        rintro e z2 ⟨rfl, hx⟩
        have HBz2 := Lib.hid (HBz1.out.ext hx)
        have HXz2 := Lib.hid (HXz1.out.ext hx)
        clear hx q l0 l1 x0 x1 HBz1 HXz1
        have l0 := HBz2.out.c0
        have l1 := HBz2.out.c1
        have x0 := HXz2.out.c0
        have x1 := HXz2.out.c1
        try dsimp only at l0 l1 x0 x1
        go_wp2_with fail
        have q := Price_no HXz2.out.e HBe.out
        try dsimp only at q
        refine q.mono ?_
        rintro e z3 ⟨rfl, hx⟩
        have HBz3 := Lib.hid (HBz2.out.ext hx)
        have HXz3 := Lib.hid (HXz2.out.ext hx)
        clear hx q l0 l1 x0 x1 HBz2 HXz2
        have l0 := HBz3.out.c0
        have l1 := HBz3.out.c1
        have x0 := HXz3.out.c0
        have x1 := HXz3.out.c1
        try dsimp only at l0 l1 x0 x1
        have hOne : True := trivial
        have HK3 : Hid (k2 ≤ 2000) := by have := HKt.out; have := HKk.out; show _ ≤ _; omega
        have HB4 := Lib.hid (HBz3.out.ext (Ext.refl _).drew)
        have HX4 := Lib.hid (HXz3.out.ext (Ext.refl _).drew)
        go_upto_region 15 with (fail)
        clear l0 l1 x0 x1
        go_region_held3 (fun v => v.cell? ⟨LB, 0, none⟩ = some (.slice sa L.length sc) ∧ v.cell? ⟨LB, 1, none⟩ = some (.slice va vl.length vc) ∧ v.cell? ⟨XB, 0, none⟩ = some (.int .i64 (V : Int)) ∧ v.cell? ⟨XB, 1, none⟩ = some (.slice qa L.length qc))
          (first | exact cells_of HB7.out HX7.out | exact cells_of HB6.out HX6.out | exact cells_of HB5.out HX5.out | exact cells_of HB4.out HX4.out)
          (first
            | ((go_at_call 15; refine (Holds_l (pa := pn) (pb := ps) HX6.out.e (by have := Hpn.out; omega) (by have := Hps.out; omega)).mono ?_; rintro e w7 ⟨rfl, hx⟩; have HB7 := Lib.hid (HB6.out.ext hx); have HX7 := Lib.hid (HX6.out.ext hx); clear hx))
            | ((clear hOne; go_at_call 20; refine (dbetween_any D a1 n1 c1 k2 1 70 _ HB4.out.dk (by have := HK3.out; omega) (by omega) (by omega) (by omega)).mono ?_; rintro e w5 ⟨pI, k5, hp1, hp2, hk5, rfl, hD5, hg5⟩; obtain ⟨pn, rfl⟩ : ∃ pn : Nat, pI = (pn : Int) := ⟨pI.toNat, by omega⟩; have Hpn : Hid (1 ≤ pn ∧ pn ≤ 70 ∧ k5 ≤ k2 + 1) := (by show _ ∧ _ ∧ _; omega); have HB5 := Lib.hid (HB4.out.turn (turn_of hg5) hD5); have HX5 := Lib.hid (HX4.out.turn (turn_of hg5) HB4.out.ds HB4.out.dv); clear hp1 hp2 hk5 hD5 hg5))
            | ((go_at_call 20; refine (dbetween_any D a1 n1 c1 k5 1 70 _ HB5.out.dk (by have := HK3.out; have := Hpn.out; omega) (by omega) (by omega) (by omega)).mono ?_; rintro e w6 ⟨pI, k6, hp1, hp2, hk6, rfl, hD6, hg6⟩; obtain ⟨ps, rfl⟩ : ∃ ps : Nat, pI = (ps : Int) := ⟨pI.toNat, by omega⟩; have Hps : Hid (1 ≤ ps ∧ ps ≤ 70 ∧ k6 ≤ k5 + 1) := (by show _ ∧ _ ∧ _; omega); have HB6 := Lib.hid (HB5.out.turn (turn_of hg6) hD6); have HX6 := Lib.hid (HX5.out.turn (turn_of hg6) HB5.out.ds HB5.out.dv); clear hp1 hp2 hk6 hD6 hg6)))
        have hno : holdsF L V Q pn ps = false := no_price HOk.out HW.out Hpn.out.1 Hps.out.1
        rw [hno]
        obtain ⟨hta, htb, htn, -⟩ := HTr.out
        have HKf : Hid (k6 ≤ 60 * (i + 1)) := by have := Hpn.out; have := Hps.out; have := HKt.out; have := HKk.out; show _ ≤ _; omega
        clear hno HB4 HX4 HB5 HX5 HB6 HX6 HBz3 HXz3 HK3 Hpn Hps

        have l0 := HB7.out.c0
        have l1 := HB7.out.c1
        have x0 := HX7.out.c0
        have x1 := HX7.out.c1
        try dsimp only at l0 l1 x0 x1
        have d1 : decide ((wa : Int) < 0) = false := decide_eq_false (by omega)
        have e1 : ¬ (wa : Int) < 0 := by omega
        have d2 : decide ((L.length : Int) ≤ (wa : Int)) = false := decide_eq_false (by omega)
        have e2 : ¬ (L.length : Int) ≤ (wa : Int) := by omega
        have d3 : decide ((wb : Int) < 0) = false := decide_eq_false (by omega)
        have e3 : ¬ (wb : Int) < 0 := by omega
        have d4 : decide ((L.length : Int) ≤ (wb : Int)) = false := decide_eq_false (by omega)
        have e4 : ¬ (L.length : Int) ≤ (wb : Int) := by omega
        have e5 : ¬ (wa : Int) = (wb : Int) := by omega
        have d5 : decide ((wa : Int) = (wb : Int)) = false := decide_eq_false e5
        have b5 : ((wa : Int) == (wb : Int)) = false := by rw [beq_eq_false_iff_ne]; exact e5
        go_upto_region 18 with (fail)
        clear d1 e1 d2 e2 d3 e3 d4 e4 e5 d5 b5
        obtain ⟨V6, hV6⟩ : ∃ V6, 60 * V = V6 := ⟨_, rfl⟩
        have hw6 : IntKind.i64.wrap ((60 : Int) * (V : Int)) = (V6 : Int) := by have := HVb.out; rw [IntWalk.i64_in _ (by omega)]; omega
        have HV6 := Lib.hid hV6
        clear hV6
        obtain ⟨YB, hYB⟩ : ∃ YB, w7.heap.size = YB := ⟨_, rfl⟩
        have HM : Hid (Mm w7 [⟨3, 1, .slice none 0 0, 0, nums []⟩] [(YB, .cells #[.int .i64 (V6 : Int), .slice none 0 0] 31)] (w7.alloc (.cells #[.int .i64 (V6 : Int), .slice none 0 0] 31))) := by
          have h := ((Mm.start (w0 := w7)).nilRow 3 1).new (.cells #[.int .i64 (V6 : Int), .slice none 0 0] 31)
          rw [hYB] at h
          exact h
        have x2 := (HX7.out.ext HM.out.to_ext).c1
        try dsimp only at x2
        go_upto_region 20 with (fail)
        try rw [hYB]
        clear hYB hw6 l0 l1 x0 x1 x2
        generalize w7.alloc (.cells #[.int .i64 (V6 : Int), .slice none 0 0] 31) = w8 at *
        go_loopw [139] (fun t wr => ∃ (q yc : Nat) (ya : Option Addr), q ≤ L.length ∧ t = .int .i64 (q : Int) ∧ Hid (Mm w7 [⟨3, 1, .slice ya q yc, q, nums ((Q.take q).map (60 * ·))⟩] [(YB, .cells #[.int .i64 (V6 : Int), .slice ya q yc] 31)] wr)) (fun t _ => L.length - (intOf t).toNat)
        case atStart => exact ⟨0, 0, none, Nat.zero_le _, rfl, HM.out⟩
        case round =>
          clear HM
          obtain ⟨wo, rfl⟩ : ∃ wo : World, wo = wr := ⟨_, rfl⟩
          obtain ⟨q, yc, ya, hq, rfl, HM⟩ := hrel
          by_cases hql : q < L.length
          · have dq : decide ((q : Int) < (L.length : Int)) = true := decide_eq_true (by omega)
            have j1 : (0 : Int) ≤ (q : Int) := by omega
            have j2 : (q : Int) < (L.length : Int) := by omega
            have hwq : IntKind.i64.wrap ((q : Int) + 1) = ((q + 1 : Nat) : Int) := by have := HLn.out; rw [IntWalk.i64_in _ (by omega)]; omega
            have hqQ : q < Q.length := by have := HLq.out; omega
            obtain ⟨qb, qoff, hqa, cq⟩ := part_cell (HX7.out.e.pa.ext HM.out.to_ext) hqQ
            have hcap : L.length ≤ qc := by have h1 := HX7.out.e.pa.1; have h2 := HLq.out; dsimp only at h1; omega
            try dsimp only at hqa
            subst hqa
            have HTk : Hid ((Q.take (q + 1)).map (60 * ·) = (Q.take q).map (60 * ·) ++ [60 * pt Q q]) := by
              have e : pt Q q = Q[q] := by unfold pt; rw [List.getElem?_eq_getElem hqQ]; rfl
              show _ = _
              rw [e, List.take_succ_eq_append_getElem hqQ, List.map_append]
              rfl
            have hpq := HLe.out q hql
            generalize pt Q q = pq at *
            obtain ⟨z6, hz6⟩ : ∃ z6, 60 * pq = z6 := ⟨_, rfl⟩
            have hwz : IntKind.i64.wrap ((60 : Int) * (pq : Int)) = (z6 : Int) := by have := HVb.out; rw [IntWalk.i64_in _ (by omega)]; omega
            rw [hz6] at HTk
            have HNq : Hid (q ≤ 16) := by have := HLn.out; show _ ≤ _; omega
            clear hz6 hpq hqQ hql
            obtain ⟨i3, hi3, hz3, hs3, hb3⟩ := info_parts info3
            have H11 := Lib.hid (HM.out.new (.cells #[.int .i64 (z6 : Int)] 3))
            have l1 := HM.out.cell 0 (j := 1) rfl rfl
            clear HM
            go_wp2_with (at_builtin; go_must (refine wpList_append_lies _ rfl _ _ 24 rfl w7.heap.size 3 i3 (.int .i64 0) 1 8 Try.underlying24 hi3 hz3 hs3 hb3 rfl (by decide) _ q (nums ((Q.take q).map (60 * ·))) rfl (H11.out.row 0 _ rfl) ⟨_, 0, none⟩ 1 1 (nums [z6]) rfl rfl (World.news_of_block (H11.out.heap 1 rfl)) (nums_one _) (by decide) (by have := HNq.out; unfold maxLen; omega) (by have := HNq.out; omega) H11.out.to_ext.size _ rfl ?_); intro g cap wm hown hgrow hat hlt5; rw [← nums_append, ← HTk.out] at hown; have H12 := Lib.hid (H11.out.grown (i := 0) rfl hown hgrow hat); clear hown hgrow hat hlt5 H11 l1; have y0 := H12.out.cell 0 (j := 1) rfl rfl; have f0 := H12.out.frozen 0 (j := 1) rfl)
            have H13 := Lib.hid (Mm.drop [_] (blks := [_]) (H12.out.cellPut (j := 1) 0 rfl (.slice (some ⟨g, 0, none⟩) (q + 1) cap)))
            clear y0 f0 H12
            go_roundw
            case rel => exact ⟨q + 1, cap, some ⟨g, 0, none⟩, by omega, by go_num, H13.out⟩
            case measure => simp [intOf]; omega
          · have dq : decide ((q : Int) < (L.length : Int)) = false := decide_eq_false (by omega)
            obtain rfl : q = L.length := by omega
            clear hq hql
            obtain ⟨gy, rfl, -, hyc⟩ := own_place (HM.out.row 0 _ rfl) (show 0 < L.length from HLn.out.1)
            have HMy : Hid (Mm w7 [⟨3, 1, .slice (some ⟨gy, 0, none⟩) L.length yc, L.length, nums (Q.map (60 * ·))⟩] [(YB, .cells #[.int .i64 (V6 : Int), .slice (some ⟨gy, 0, none⟩) L.length yc] 31)] wo) := by
              have h := HM.out
              rw [List.take_of_length_le (by have := HLq.out; omega)] at h
              exact h
            have HYc := Lib.hid hyc
            clear HM hyc
            have HLm : Hid ((Q.map (60 * ·)).length = L.length) := by show _ = _; rw [List.length_map]; exact HLq.out
            obtain ⟨ha1, ha2⟩ : (0 : Int) ≤ (wa : Int) ∧ (wa : Int) < (L.length : Int) := by omega
            obtain ⟨hb1, hb2⟩ : (0 : Int) ≤ (wb : Int) ∧ (wb : Int) < (L.length : Int) := by omega
            have hT5 := HTr.out.2.2.2
            have hsa := (HOk.out.sb _ (at_mem hta)).2
            have hsb := (HOk.out.sb _ (at_mem htb)).2
            have hqa2 := HLe.out wa hta
            have hqb2 := HLe.out wb htb
            obtain ⟨b, off, ha, -, -, s2, -⟩ := (HB7.out.ext HMy.out.to_ext).li.st.cells htb
            dsimp only at ha s2
            subst ha
            have HSt : Hid (∀ W', Ext w7 W' → W'.cell? ⟨b, off + wa * 4 + 2, none⟩ = some (.int .i64 ((at' L wa).s : Int))) := by
              intro W' hW'
              obtain ⟨b', off', ha, -, -, s2, -⟩ := (HB7.out.ext hW').li.st.cells hta
              cases ha
              exact s2
            have c1 : wo.cell? ⟨gy, wa, none⟩ = some (.int .i64 ((60 * pt Q wa : Nat) : Int)) := by
              have h := HMy.out.num 0 rfl HLm.out (by have := HLn.out; omega) hta
              rw [show (Q.map (60 * ·))[wa]?.getD 0 = 60 * pt Q wa from pt_map Q 60 wa] at h
              exact h
            have f1 := (HMy.out.frow 0 rfl HLm.out).frozen wa
            have l0 := (HB7.out.ext HMy.out.to_ext).c0
            have y1 := HMy.out.cell 0 (j := 1) rfl rfl
            try dsimp only at l0
            have hpb : pt (((Q.map (60 * ·)).set wa (60 * pt Q wa + (at' L wb).s))) wb = 60 * pt Q wb := by rw [pt_set (by rw [HLm.out]; exact hta), if_neg (fun h => htn h.symm), pt_map]
            obtain ⟨v0, hv0⟩ : ∃ v, 60 * pt Q wa = v := ⟨_, rfl⟩
            obtain ⟨u0, hu0⟩ : ∃ v, 60 * pt Q wb = v := ⟨_, rfl⟩
            obtain ⟨sA, hsA⟩ : ∃ v, (at' L wa).s = v := ⟨_, rfl⟩
            obtain ⟨sB, hsB⟩ : ∃ v, (at' L wb).s = v := ⟨_, rfl⟩
            obtain ⟨v1, hv1⟩ : ∃ v, v0 + sB = v := ⟨_, rfl⟩
            obtain ⟨u1, hu1⟩ : ∃ v, u0 - sA = v := ⟨_, rfl⟩
            rw [hv0, hsB, hv1] at hpb
            rw [hu0] at hpb
            rw [hv0, hu0, hsA, hsB, hv1, hu1] at hT5
            rw [hv0] at c1
            rw [hsA] at HSt hsa
            rw [hsB] at s2 hsb
            have hvb := HVb.out
            have hwv : IntKind.i64.wrap ((v0 : Int) + (sB : Int)) = (v1 : Int) := by rw [IntWalk.i64_in _ (by omega)]; omega
            have hwu : IntKind.i64.wrap ((u0 : Int) - (sA : Int)) = (u1 : Int) := by rw [IntWalk.i64_in _ (by omega)]; omega
            have HT5 := Lib.hid hT5
            have HV1 : Hid (v1 ≤ V6 ∧ u1 ≤ V6 ∧ V6 ≤ 720) := by have := HV6.out; show _ ∧ _ ∧ _; omega
            have HPb := Lib.hid hpb
            clear hv0 hu0 hsA hsB hv1 hu1 hT5 hsa hsb hqa2 hqb2 hvb hpb
            go_upto_region 24 with (fail)
            go_region
            have HM9 : Hid (Mm w7 [⟨3, 1, .slice (some ⟨gy, 0, none⟩) L.length yc, L.length, nums ((Q.map (60 * ·)).set wa v1)⟩] [(YB, .cells #[.int .i64 (V6 : Int), .slice (some ⟨gy, 0, none⟩) L.length yc] 31)] (wo.setCell ⟨gy, wa, none⟩ (.int .i64 (v1 : Int))).drew) := (HMy.out.rowSet 0 rfl HLm.out HYc.out v1 hta).ext (Ext.refl _).drew
            clear c1 f1 l0 y1 s2 hwv HMy
            generalize (wo.setCell ⟨gy, wa, none⟩ (.int .i64 (v1 : Int))).drew = w9 at *
            have HLm2 : Hid (((Q.map (60 * ·)).set wa v1).length = L.length) := by show _ = _; rw [List.length_set]; exact HLm.out
            have c1 : w9.cell? ⟨gy, wb, none⟩ = some (.int .i64 (u0 : Int)) := by
              have h := HM9.out.num 0 rfl HLm2.out (by have := HLn.out; omega) htb
              rw [show ((Q.map (60 * ·)).set wa v1)[wb]?.getD 0 = u0 from HPb.out] at h
              exact h
            have f1 := (HM9.out.frow 0 rfl HLm2.out).frozen wb
            have l0 := (HB7.out.ext HM9.out.to_ext).c0
            have y1 := HM9.out.cell 0 (j := 1) rfl rfl
            have s2 := HSt.out _ HM9.out.to_ext
            try dsimp only at l0
            go_upto_region 25 with (fail)
            go_region
            have HM10 : Hid (Mm w7 [⟨3, 1, .slice (some ⟨gy, 0, none⟩) L.length yc, L.length, nums (((Q.map (60 * ·)).set wa v1).set wb u1)⟩] [(YB, .cells #[.int .i64 (V6 : Int), .slice (some ⟨gy, 0, none⟩) L.length yc] 31)] (w9.setCell ⟨gy, wb, none⟩ (.int .i64 (u1 : Int))).drew) := (HM9.out.rowSet 0 rfl HLm2.out HYc.out u1 htb).ext (Ext.refl _).drew
            clear c1 f1 l0 y1 s2 hwu HSt
            generalize (w9.setCell ⟨gy, wb, none⟩ (.int .i64 (u1 : Int))).drew = w10 at *
            have HLm3 : Hid ((((Q.map (60 * ·)).set wa v1).set wb u1).length = L.length) := by show _ = _; rw [List.length_set]; exact HLm2.out
            have HB10 := Lib.hid (HB7.out.ext HM10.out.to_ext)
            have HX10 := Lib.hid (HX7.out.ext HM10.out.to_ext)
            have HYe : Hid (EIn w10 (⟨⟨some ⟨b, off, none⟩, sc, L⟩, ⟨va, vc, vl⟩⟩ : Ld) V6 (some ⟨gy, 0, none⟩) yc (((Q.map (60 * ·)).set wa v1).set wb u1)) := by
              refine ⟨HB10.out.li.st, HB10.out.li.vi, HOk.out, (HM10.out.frow 0 rfl HLm3.out).sl (by rw [HLm3.out]; have := HLn.out; omega), HLm3.out, by have := HVb.out; have := HV6.out; omega, by have := HV1.out; omega, fun j hj => ?_⟩
              rw [HLm3.out] at hj
              have hv := HV1.out
              rw [pt_set (by rw [HLm2.out]; exact htb)]
              split
              · exact hv.2.1
              rw [pt_set (by rw [HLm.out]; exact hta)]
              split
              · exact hv.1
              rw [pt_map]
              have h1 := HLe.out j hj
              have h2 := HV6.out
              omega
            have l0 := HB10.out.c0
            have l1 := HB10.out.c1
            have x0 := HX10.out.c0
            have x1 := HX10.out.c1
            have HYb := Lib.hid (HM10.out.heap 0 rfl)
            try dsimp only at l0 l1 x0 x1
            clear HM9 HM10 HB7 HX7 HLm HLm2 HPb ha1 ha2 hb1 hb2
            go_wp2_with fail
            have q := Has_l HX10.out.e
            try dsimp only at q
            refine q.mono ?_
            rintro e w11 ⟨rfl, hx⟩
            have HB11 := Lib.hid (HB10.out.ext hx)
            have HY11 := Lib.hid (HYe.out.ext hx)
            have HYb11 := Lib.hid (hx.block HYb.out)
            clear hx q l0 l1 x0 x1 HB10 HX10 HYe HYb
            have l0 := HB11.out.c0
            have l1 := HB11.out.c1
            have y0 := cell_at HYb11.out 0
            have y1 := cell_at HYb11.out 1
            try dsimp only at l0 l1
            dsimp at y0 y1
            go_wp2_with fail
            have q := Has_l HY11.out
            try dsimp only at q
            have hT := HT5.out.2.2
            have hs1 := has_small HOk.out (show V ≤ 2000 by have := HVb.out; omega) HLe.out
            have HV6s : V6 = 60 * V := HV6.out.symm
            rw [← HV6s] at hT
            refine q.mono ?_
            rintro e w12 ⟨rfl, hx⟩
            have HB12 := Lib.hid (HB11.out.ext hx)
            clear hx q l0 l1 y0 y1 HB11 HY11 HYb11
            generalize hasN L (((Q.map (60 * ·)).set wa v1).set wb u1) = nu at *
            generalize hasS L V6 (((Q.map (60 * ·)).set wa v1).set wb u1) = su at *
            generalize hasN L Q = np at *
            generalize hasS L V Q = sp at *
            obtain ⟨n6, hn6⟩ : ∃ x, 60 * np = x := ⟨_, rfl⟩
            obtain ⟨s6, hs6⟩ : ∃ x, 60 * sp = x := ⟨_, rfl⟩
            have r1 : IntKind.i64.wrap ((60 : Int) * (np : Int)) = (n6 : Int) := by rw [IntWalk.i64_in _ (by omega)]; omega
            have r2 : IntKind.i64.wrap ((60 : Int) * (sp : Int)) = (s6 : Int) := by rw [IntWalk.i64_in _ (by omega)]; omega
            have g1 : decide ((nu : Int) < (n6 : Int)) = false := decide_eq_false (by omega)
            have g2 : ¬ (nu : Int) < (n6 : Int) := by omega
            have g3 : decide ((su : Int) < (s6 : Int)) = false := decide_eq_false (by omega)
            have g4 : ¬ (su : Int) < (s6 : Int) := by omega
            have g5 : ¬ (nu : Int) = (n6 : Int) := by omega
            have g6 : decide ((nu : Int) = (n6 : Int)) = false := decide_eq_false g5
            have g7 : ((nu : Int) == (n6 : Int)) = false := by rw [beq_eq_false_iff_ne]; exact g5
            clear hn6 hs6 hT HV6s hs1
            go_wp2_with fail
            go_roundw
            case rel => exact ⟨i + 1, k6, by omega, by go_num, HKf.out, HB12.out⟩
            case measure => simp [intOf]; omega
    · have dk : decide ((i : Int) < 6) = false := decide_eq_false (by omega)
      clear hlt
      go_wp2_with fail
      refine (awake_ok _).mono ?_
      rintro e wz ⟨rfl, hx⟩
      go_wp2_with fail
      go_ret
      exact ⟨rfl, HB.out.x0.trans hx⟩
end Go.Proofs.Ytlaolokakaheaaa
