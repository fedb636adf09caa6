/-
  BarterMost answers true for every input: the exchange that is returned gives the North so much at least and is best, and of exchanges that are tried none that gives the North as much gives the South more; for a greater gain the South has no more.
  BarterMost answers true for every input, and each argument reads afterwards as it read before: the exchange that is returned gives the North so much at least and is best, and of exchanges that are tried none that gives the North as much gives the South more. No condition beyond the statement's own.
-/
import Derived.Test.YtlaolokakaheaaaBI
import Derived.Test.YtlaolokakaheaaaAK
import Derived.Test.YtlaolokakaheaaaBT
import Derived.RegionTactic
import Derived.Deep.CutBlock
import Derived.Deep.AppendLies
import Derived.Test.YtlaolokakaheaaaRows
import Derived.WalkKit
import Derived.ProofKit
import Derived.OpenShut
import Derived.ShutString
import Derived.ChangeOld
import Derived.Below
import Derived.SizedLaws
namespace Go.Proofs.Ytlaolokakaheaaa
open Go.RowKit

/-- What Most answers, in one. -/
def MostR (L : List St) (gain : Int) (W m : Nat) (P : List Nat) (er : Int) : Prop := (byOrderF L false gain = none ∧ er = 7) ∨ (byOrderF L false gain = some (W, P) ∧ er = 0 ∧ m = L.length)
def MostP (V : World) (L : List St) (gain : Int) (e : Ending) (w' : World) : Prop :=
  ∃ (W : Nat) (a : Option Addr) (m c : Nat) (er : Int) (P : List Nat), e = .returned (.tuple #[.agg #[.int .i64 (W : Int), .slice a m c], .int .i64 er]) ∧ Ext V w' ∧ IsSl 1 num w' ⟨a, c, P⟩ ∧ (∀ g off, a = some ⟨g, off, none⟩ → V.heap.size ≤ g ∧ g < w'.heap.size) ∧ MostR L gain W m P er
theorem most_any (x : Ld) (gain : Int) (V : World) (h : LIn V x) (hg : -10000 ≤ gain ∧ gain ≤ 50000) : Calls Try.prog 21 #[x.val, .int .i64 gain] V (MostP V x.s.l gain) := by
  cases hb : byOrderF x.s.l false gain with
  | none =>
    refine (Most_none x gain V h hg hb).mono ?_
    rintro e w' ⟨rfl, hx⟩
    exact ⟨0, none, 0, 0, 7, [], rfl, hx, ⟨Nat.le_refl _, Nat.zero_le _, .inl rfl⟩, (fun g off e => by cases e), .inl ⟨hb, rfl⟩⟩
  | some q =>
    obtain ⟨W, P⟩ := q
    obtain ⟨f, r, hB⟩ := most_by h.ok.oks h.ok.ob hb
    refine (Most_some x gain V h hg W P hb).mono ?_
    rintro e w' ⟨g, cap, rfl, hro, hg2, hx⟩
    have hl := h.ok.l2
    exact ⟨W, some ⟨g, 0, none⟩, x.s.l.length, cap, 0, P, rfl, hx, hro.sl (by rw [hB.len]; omega), (fun g' off e => by cases e; exact ⟨hg2, hro.lt⟩), .inr ⟨hb, rfl, rfl⟩⟩
theorem mul_smallM {x : Int} {n : Nat} (h : -70000000 ≤ x ∧ x ≤ 70000000) (hn : n ≤ 2000) : -140000000000 ≤ x * (n : Int) ∧ x * (n : Int) ≤ 140000000000 := by
  have h1 : x * (n : Int) ≤ 70000000 * (n : Int) := Int.mul_le_mul_of_nonneg_right h.2 (by omega)
  have h2 : -70000000 * (n : Int) ≤ x * (n : Int) := Int.mul_le_mul_of_nonneg_right h.1 (by omega)
  omega
/-- An exchange that Most returns is best. -/
structure MoM (L : List St) (want : Int) (W : Nat) (P : List Nat) (a b : Nat) : Prop where
  is : BestM L W P a b
  gain : want * (W : Int) ≤ gainN L W P
  least : ∀ V Q, allowsF L V Q = true → want * (V : Int) ≤ gainN L V Q → hasN L P * V ≤ hasN L Q * W
theorem mo_math {L : List St} {v : List Nat} {want : Int} {W : Nat} {P : List Nat} (hk : OkL L v) (hb : byOrderF L false want = some (W, P)) : ∃ a b, MoM L want W P a b := by
  obtain ⟨f, r, hB⟩ := most_by hk.oks hk.ob hb
  obtain ⟨a, b, hM⟩ := best_math hk hB.len hB.w1 hB.wb (fun i hi => hB.le hi) (hB.best hk.oks)
  exact ⟨a, b, hM, most_gain hB, fun V Q hQ hw => most_least hB hQ hw⟩
/-- An allowed exchange that gives the North as much gives the South no more. -/
theorem MoM.south {L : List St} {want : Int} {W V : Nat} {P Q : List Nat} {a b : Nat} (h : MoM L want W P a b) (hQ : allowsF L V Q = true) (hq : ∀ i, i < L.length → pt Q i ≤ V) (hw : want * (V : Int) ≤ gainN L V Q) : ¬ gainS L W P * (V : Int) < gainS L V Q * (W : Int) ∧ ¬ gainN L V Q * (W : Int) < gainN L W P * (V : Int) := by
  have h1 := h.least V Q hQ hw
  have h2 := price_south h.is.holds h.is.pb.2.1 hQ hq h.is.le h1
  rw [gainS_less, gainN_less]
  omega

set_option maxRecDepth 1000000 in
set_option maxHeartbeats 8000000 in
theorem most_all (a0 a1 : Option Addr) (n0 c0 n1 c1 : Nat) (n2 : Int) (w : World) (h0 : IsBytes w a0 n0 c0) (h1 : IsBytes w a1 n1 c1) (h2 : 0 ≤ n2 ∧ n2 ≤ 65535) :
    Calls Try.prog 5 #[.slice a0 n0 c0, .slice a1 n1 c1, .int .u16 n2] w fun e w' => e = .returned (.bool true) ∧ Ext w w' := by
  obtain ⟨rr, hrr⟩ : ∃ rr, n2.tmod 800 = rr := ⟨_, rfl⟩
  have hrb : 0 ≤ rr ∧ rr < 800 := by rw [← hrr, Int.tmod_eq_emod_of_nonneg h2.1]; omega
  have hcv : IntKind.i64.wrap n2 = n2 := IntWalk.i64_in _ (by omega)
  have hcr : IntKind.i64.wrap rr = rr := IntWalk.i64_in _ (by omega)
  obtain ⟨want, hwant⟩ : ∃ z, rr - 300 = z := ⟨_, rfl⟩
  have hcw : IntKind.i64.wrap (rr - 300) = want := by rw [IntWalk.i64_in _ (by omega), hwant]
  have HWt : Hid (-300 ≤ want ∧ want ≤ 499) := by show _ ∧ _; omega
  clear hwant h2 hrb
  have H1 := Lib.hid h1
  have H0 := Lib.hid h0
  clear h0 h1
  go_enter Try.func5, Try.ntmps5
  go_wp2_with fail
  refine (of_any a0 n0 c0 w H0.out).mono ?_
  rintro e w1 ⟨rfl, hd1, hx1⟩
  have hb1 : ∀ b off, a1 = some ⟨b, off, none⟩ → 0 < n1 → b < w.heap.size := fun b off ha hn => by
    obtain ⟨_, _, h3⟩ := H1.out
    obtain ⟨b', off', ha', hc⟩ := h3.resolve_left (by omega)
    rw [ha] at ha'
    cases ha'
    obtain ⟨x, _, hx⟩ := hc 0 hn
    exact lt_of_cell hx
  have HB1 := Lib.hid hb1
  have HDa := Lib.hid hd1
  have HX1 := Lib.hid hx1
  have HD1l : Hid (w.heap.size < w1.heap.size) := HDa.out.lt
  clear hd1 hx1 hb1
  go_wp2_with fail
  refine (made_any w.heap.size a0 n0 c0 0 12 w1 HDa.out (by omega) (by omega) (by omega)).mono ?_
  rintro e w2 ⟨va, sa, vc, sc, m, j, k3, vl, L, rfl, rfl, hm4, hv1, rfl, hj1, hj2, hso, -, hH⟩
  have HX2 : Hid (Ext w w2) := ext_keep HX1.out hH.keep (fun i hi => by omega)
  have hok : OkL L vl := OkL.of hj1 (by omega) hm4 hv1 hso
  have hrv := hH.row 0 _ rfl
  have hrs := hH.row 1 _ rfl
  have hli : LIn w2 ⟨⟨sa, sc, L⟩, ⟨va, vc, vl⟩⟩ := ⟨own_slG hrs (by omega), own_sl hrv (by omega), hok⟩
  have hsb : ∀ g off, sa = some ⟨g, off, none⟩ → w1.heap.size ≤ g ∧ g < w2.heap.size := fun g off e => by have := own_type hrs (k := g) (by dsimp only; subst e; rfl); exact ⟨this.1, this.2.1⟩
  have hvb : ∀ g off, va = some ⟨g, off, none⟩ → w1.heap.size ≤ g ∧ g < w2.heap.size := fun g off e => by have := own_type hrv (k := g) (by dsimp only; subst e; rfl); exact ⟨this.1, this.2.1⟩
  have HLi := Lib.hid hli
  have HSb := Lib.hid hsb
  have HVb := Lib.hid hvb
  have HOk := Lib.hid hok
  have HSo := Lib.hid hso
  have HLn : Hid (1 ≤ L.length ∧ L.length ≤ 12) := ⟨hj1, by omega⟩
  have HW2 : Hid (w.heap.size < w2.heap.size) := Nat.lt_of_lt_of_le HD1l.out hH.keep.size
  clear hH hok hrv hrs hli hsb hvb hm4 hv1 hj1 hj2 hso HDa HX1
  go_wp2_with fail
  obtain ⟨LB, hLB⟩ : ∃ LB, w2.heap.size = LB := ⟨_, rfl⟩
  have hlb : (w2.alloc (.cells #[.slice sa L.length sc, .slice va vl.length vc] 26)).heap[LB]? = some (.cells #[.slice sa L.length sc, .slice va vl.length vc] 26 (0, 0)) := by rw [← hLB]; exact alloc_new rfl
  have HLb := Lib.hid hlb
  have HX3 : Hid (Ext w2 (w2.alloc (.cells #[.slice sa L.length sc, .slice va vl.length vc] 26))) := (Ext.refl _).alloc _
  have HSz : Hid ((w2.alloc (.cells #[.slice sa L.length sc, .slice va vl.length vc] 26)).heap.size = LB + 1 ∧ w2.heap.size = LB) := ⟨by rw [← hLB]; simp only [World.size_alloc], hLB⟩
  try rw [hLB]
  clear hlb hLB
  generalize w2.alloc (.cells #[.slice sa L.length sc, .slice va vl.length vc] 26) = w3 at *
  refine (of_any a1 n1 c1 w3 (H1.out.ext (HX2.out.trans HX3.out))).mono ?_
  rintro e w4 ⟨rfl, hd2, hx4⟩
  obtain ⟨D, hD⟩ : ∃ D, w3.heap.size = D := ⟨_, rfl⟩
  have hlt : LB < D := by have := HSz.out.1; omega
  have HB : Hid (BS w D a1 n1 c1 0 ⟨⟨sa, sc, L⟩, ⟨va, vc, vl⟩⟩ LB w4) := by
    rw [hD] at hd2
    refine ⟨(HX2.out.trans HX3.out).trans hx4, hd2, hx4.block HLb.out, HLi.out.ext (HX3.out.trans hx4), fun g off e _ => ?_, fun g off e _ => ?_, by omega, ?_⟩
    · have := HSb.out g off e; have := HSz.out.2; omega
    · have := HVb.out g off e; have := HSz.out.2; omega
    · have := HW2.out; have := HSz.out.2; omega
  try rw [hD]
  clear hd2 hx4 hD hlt HLi HSb HVb HX2 HX3 HLb HSz HW2 HB1 HD1l H0 H1
  have l0 := HB.out.c0
  have l1 := HB.out.c1
  try dsimp only at l0 l1
  have HMo : Hid (∀ (V : World) (gain : Int), LIn V (⟨⟨sa, sc, L⟩, ⟨va, vc, vl⟩⟩ : Ld) → -10000 ≤ gain ∧ gain ≤ 50000 → Calls Try.prog 21 #[.agg #[.slice sa L.length sc, .slice va vl.length vc], .int .i64 gain] V (MostP V L gain)) := fun V gain h hg => most_any (⟨⟨sa, sc, L⟩, ⟨va, vc, vl⟩⟩ : Ld) gain V h hg
  go_wp2_with fail
  refine (HMo.out _ want HB.out.li (by have := HWt.out; omega)).mono ?_
  rintro e w5 ⟨W, xa, m1, xc, er, P, rfl, hx, hro, hgn, hR⟩
  have HBm := Lib.hid (HB.out.ext hx)
  have HGn := Lib.hid hgn
  have HRo := Lib.hid hro
  clear hgn
  have HR := Lib.hid hR
  have HDn : Hid (D < w4.heap.size) := HB.out.dk.lt
  have HXb : Hid ((w5.alloc (.cells #[.int .i64 (W : Int), .slice xa m1 xc] 31)).heap[w5.heap.size]? = some (.cells #[.int .i64 (W : Int), .slice xa m1 xc] 31 (0, 0))) := alloc_new rfl
  have HB6 := Lib.hid (HBm.out.ext ((Ext.refl w5).alloc (.cells #[.int .i64 (W : Int), .slice xa m1 xc] 31)))
  have HRo6 := Lib.hid (HRo.out.ext ((Ext.refl w5).alloc (.cells #[.int .i64 (W : Int), .slice xa m1 xc] 31)))
  have HD6 : Hid (D ≠ w5.heap.size) := by have := HBm.out.dk.lt; show _ ≠ _; omega
  clear hx hro hR HB HBm HRo l0 l1 hrr hcv hcr hcw
  go_upto_region 5 with (fail)
  generalize w5.alloc (.cells #[.int .i64 (W : Int), .slice xa m1 xc] 31) = v1 at *
  generalize w5.heap.size = XB at *
  go_cut [12, 13] (fun s12 s13 wx => ∃ (YB W2 m2 c2 d k : Nat) (a2 : Option Addr) (e2 : Int) (P2 : List Nat), s12 = .pointer (some ⟨YB, 0, none⟩) ∧ s13 = .int .i64 e2 ∧ Hid (d ≤ 40 ∧ k ≤ 1) ∧ Hid (MostR L (want + 1 + (d : Int)) W2 m2 P2 e2) ∧ Hid (IsSl 1 num wx ⟨a2, c2, P2⟩ ∧ ∀ g off, a2 = some ⟨g, off, none⟩ → g ≠ D) ∧ Hid (Held v1 D a1 n1 c1 k [] [(YB, .cells #[.int .i64 (W2 : Int), .slice a2 m2 c2] 31)] wx))
  case first =>
    rename_i J' K'' hJ hM
    have HG : Hid (∀ d : Nat, d ≤ 40 → IntKind.i64.wrap (IntKind.i64.wrap (want + 1) + (d : Int)) = want + 1 + (d : Int)) := by
      intro d hd
      have := HWt.out
      rw [IntWalk.i64_in (want + 1) (by omega), IntWalk.i64_in _ (by omega)]
    have HLI : Hid (∀ k rows blks V, Held v1 D a1 n1 c1 k rows blks V → LIn V (⟨⟨sa, sc, L⟩, ⟨va, vc, vl⟩⟩ : Ld) ∧ V.cell? ⟨LB, 0, none⟩ = some (.slice sa L.length sc) ∧ V.cell? ⟨LB, 1, none⟩ = some (.slice va vl.length vc)) := fun k rows blks V h => by
      have q := HB6.out.turn h.keep h.deck
      exact ⟨q.li, q.c0, q.c1⟩
    have H0 := Lib.hid ((Held.start HB6.out.dk).ext (Ext.refl v1).drew)
    refine wp_region_noPanic ?_
    refine wp_region_last [] (fun v => v.cell? ⟨LB, 0, none⟩ = some (.slice sa L.length sc) ∧ v.cell? ⟨LB, 1, none⟩ = some (.slice va vl.length vc)) (by kernel_rfl) (HLI.out _ _ _ _ H0.out).2 (fun hHeld => ?_)
    generalize v1.drew = V0 at *
    refine wpAnyF_take [6, 7, 8, 9, 11, 12] (i := 0) (v := ?_) rfl (by kernel_rfl) (by kernel_rfl) (by kernel_rfl) (by kernel_rfl) (fun _ _ _ h => h) (Or.inl ⟨by rfl, ?_⟩) (by assumption) ?_
    rotate_left
    · intro wS hSw
      (try dsimp only at hSw)
      go_simp
      try with_reducible rfl
    try simp only [Act.put, List.setIfInBounds_toArray]
    refine wpAnyF_take [2, 5, 6, 7, 8, 9, 11, 12] (i := 1) (v := ?_) rfl (by kernel_rfl) (by kernel_rfl) (by kernel_rfl) (by kernel_rfl) (fun _ _ _ h => h) (Or.inl ⟨by rfl, ?_⟩) (by assumption) ?_
    rotate_left
    · intro wS hSw
      (try dsimp only at hSw)
      go_simp
      try with_reducible rfl
    try simp only [Act.put]
    refine wpAnyF_take [5, 6, 7, 8, 9, 11, 12] (i := 2) (v := ?_) rfl (by kernel_rfl) (by kernel_rfl) (by kernel_rfl) (by kernel_rfl) (fun _ _ _ h => h) (Or.inl ⟨by rfl, ?_⟩) (by assumption) ?_
    rotate_left
    · intro wS hSw
      (try dsimp only at hSw)
      go_simp
      try with_reducible rfl
    try simp only [Act.put]
    refine wpAnyF_take [4, 5, 6, 7, 8, 9, 11, 12] (i := 3) (v := ?_) rfl (by kernel_rfl) (by kernel_rfl) (by kernel_rfl) (by kernel_rfl) (fun _ _ _ h => h) (Or.inl ⟨by rfl, ?_⟩) (by assumption) ?_
    rotate_left
    · intro wS hSw
      (try dsimp only at hSw)
      go_simp
      try with_reducible rfl
    try simp only [Act.put]
    refine wpAnyF_ready (rs := [4, 10]) (by kernel_rfl) rfl (AllReadyF.cons rfl (fun K hK => ?_) (AllReadyF.cons rfl (fun K hK => ?_) AllReadyF.nil))
    · -- 4
      go_simp
      go_at_call 22
      refine (draw_any D a1 n1 c1 0 40 _ H0.out.deck (by omega) (by omega)).mono ?_
      rintro e V1 ⟨d1, k1, hd1, hk1, rfl, hD1, hg1⟩
      have H2 := Lib.hid (H0.out.dealt hD1 hg1)
      have Hd1 : Hid (d1 ≤ 40 ∧ k1 ≤ 1) := by show _ ∧ _; omega
      clear hD1 hg1 hd1 hk1 H0
      refine hK.out _ _ ((HLI.out _ _ _ _ H2.out).2) (fun hHeld => ?_)
      clear hK K
      try simp only [Act.put, List.setIfInBounds_toArray, List.set_cons_zero, List.set_cons_succ]
      refine wpAnyF_take [6, 7, 8, 9, 11, 12] (i := 5) (v := ?_) rfl (by kernel_rfl) (by kernel_rfl) (by kernel_rfl) (by kernel_rfl) (fun _ _ _ h => h) (Or.inl ⟨by rfl, ?_⟩) (by assumption) ?_
      rotate_left
      · intro wS hSw
        (try dsimp only at hSw)
        go_simp
        try with_reducible rfl
      try simp only [Act.put, List.setIfInBounds_toArray]
      refine wpAnyF_ready (rs := [6, 10]) (by kernel_rfl) rfl (AllReadyF.cons rfl (fun K hK => ?_) (AllReadyF.cons rfl (fun K hK => ?_) AllReadyF.nil))
      · -- 6
        go_simp
        rw [HG.out d1 Hd1.out.1]
        go_at_call 21
        refine (HMo.out _ _ (HLI.out _ _ _ _ H2.out).1 (by have := HWt.out; have := Hd1.out; omega)).mono ?_
        rintro e V3 ⟨W2, a2, m2, c2, e2, P2, rfl, hx, hro, hgn, hR⟩
        have H4 := Lib.hid (H2.out.ext hx)
        have HR2 := Lib.hid hR
        have HIH4 := Lib.hid hro
        have HNd : Hid (∀ g off, a2 = some ⟨g, off, none⟩ → g ≠ D) := fun g off e => by have := (hgn g off e).1; have := H2.out.deck.lt; omega
        have HNg : Hid (∀ g off, a2 = some ⟨g, off, none⟩ → g < V3.heap.size) := fun g off e => (hgn g off e).2
        clear hx hro hgn hR H2
        refine hK.out _ _ ((HLI.out _ _ _ _ H4.out).2) (fun hHeld => ?_)
        clear hK K
        try simp only [Act.put, List.setIfInBounds_toArray, List.set_cons_zero, List.set_cons_succ]
        refine wpAnyF_take [8, 9, 11, 12] (i := 7) (v := ?_) rfl (by kernel_rfl) (by kernel_rfl) (by kernel_rfl) (by kernel_rfl) (fun _ _ _ h => h) (Or.inl ⟨by rfl, ?_⟩) (by assumption) ?_
        rotate_left
        · intro wS hSw
          (try dsimp only at hSw)
          go_simp
          try with_reducible rfl
        try simp only [Act.put, List.setIfInBounds_toArray]
        refine wpAnyF_take [11, 12] (i := 8) (v := ?_) rfl (by kernel_rfl) (by kernel_rfl) (by kernel_rfl) (by kernel_rfl) (fun _ _ _ h => h) (Or.inl ⟨by rfl, ?_⟩) (by assumption) ?_
        rotate_left
        · intro wS hSw
          (try dsimp only at hSw)
          go_simp
          try with_reducible rfl
        try simp only [Act.put]
        refine wpAnyF_take [12] (i := 9) (v := ?_) rfl (by kernel_rfl) (by kernel_rfl) (by kernel_rfl) (by kernel_rfl) (fun _ _ _ h => h) (Or.inl ⟨by rfl, ?_⟩) (by assumption) ?_
        rotate_left
        · intro wS hSw
          (try dsimp only at hSw)
          go_simp
          try with_reducible rfl
        try simp only [Act.put]
        refine wpAnyF_ready (rs := [10]) (by kernel_rfl) rfl (AllReadyF.cons rfl (fun K hK => ?_) AllReadyF.nil)
        go_simp
        have H6 := Lib.hid (H4.out.new (.cells #[.int .i64 0, .slice none 0 0] 31))
        have HIH6 := Lib.hid (HIH4.out.ext ((Ext.refl _).alloc (.cells #[.int .i64 0, .slice none 0 0] 31)))
        have HNy : Hid (∀ g off, a2 = some ⟨g, off, none⟩ → g ≠ V3.heap.size) := fun g off e => by have := HNg.out g off e; omega
        clear HNg HIH4
        clear H4
        generalize hz : V3.heap.size = YB at *
        clear hz
        generalize hw : V3.alloc _ = V5 at *
        clear hw
        refine hK.out _ _ ((HLI.out _ _ _ _ H6.out).2) (fun hHeld => ?_)
        clear hK K
        try simp only [Act.put, List.setIfInBounds_toArray, List.set_cons_zero, List.set_cons_succ]
        refine wpAnyF_ready (rs := [11]) (by kernel_rfl) rfl (AllReadyF.cons rfl (fun K hK => ?_) AllReadyF.nil)
        have y0 := H6.out.cell 0 (j := 0) rfl rfl
        have y1 := H6.out.cell 0 (j := 1) rfl rfl
        have z0 := H6.out.frozen 0 (j := 0) rfl
        have z1 := H6.out.frozen 0 (j := 1) rfl
        go_simp
        have H8 := Lib.hid ((H6.out.cellPut (j := 0) 0 rfl (.int .i64 (W2 : Int))).cellPut (j := 1) 0 rfl (.slice a2 m2 c2))
        have HIH8 := Lib.hid (HIH6.out.keep (((Keep.refl (fun b => b ≠ YB) V5).setCell ⟨YB, 0, none⟩ (.int .i64 (W2 : Int)) (fun _ h => h rfl)).setCell ⟨YB, 1, none⟩ (.slice a2 m2 c2) (fun _ h => h rfl)) (fun g off e _ => HNy.out g off e))
        clear H6 y0 y1 z0 z1 HIH6
        generalize (V5.setCell ⟨YB, 0, none⟩ (.int .i64 (W2 : Int))).setCell ⟨YB, 1, none⟩ (.slice a2 m2 c2) = V7 at *
        refine hK.out _ _ ((HLI.out _ _ _ _ H8.out).2) (fun hHeld => ?_)
        clear hK K
        try simp only [Act.put, List.setIfInBounds_toArray, List.set_cons_zero, List.set_cons_succ]
        refine wpAnyF_ready (rs := [12]) (by kernel_rfl) rfl (AllReadyF.cons rfl (fun K hK => ?_) AllReadyF.nil)
        go_simp
        refine hK.out _ _ ((HLI.out _ _ _ _ H8.out).2) (fun hHeld => ?_)
        clear hK K
        try simp only [Act.put, List.setIfInBounds_toArray, List.set_cons_zero, List.set_cons_succ]
        refine wpAnyF_done (by kernel_rfl) ?_
        refine hM _ _ (Met.intro (hJ _ _ ?_))
        (repeat apply Exists.intro)
        refine ⟨?rel, rfl⟩
        case rel => exact ⟨YB, W2, m2, c2, d1, k1, a2, e2, P2, rfl, rfl, Hd1, HR2, ⟨HIH8.out, HNd.out⟩, H8⟩
      · -- 10
        go_simp
        have H4 := Lib.hid (H2.out.new (.cells #[.int .i64 0, .slice none 0 0] 31))
        
        clear H2
        generalize hz : V1.heap.size = YB at *
        clear hz
        generalize hw : V1.alloc _ = V3 at *
        clear hw
        refine hK.out _ _ ((HLI.out _ _ _ _ H4.out).2) (fun hHeld => ?_)
        clear hK K
        try simp only [Act.put, List.setIfInBounds_toArray, List.set_cons_zero, List.set_cons_succ]
        refine wpAnyF_ready (rs := [6]) (by kernel_rfl) rfl (AllReadyF.cons rfl (fun K hK => ?_) AllReadyF.nil)
        go_simp
        rw [HG.out d1 Hd1.out.1]
        go_at_call 21
        refine (HMo.out _ _ (HLI.out _ _ _ _ H4.out).1 (by have := HWt.out; have := Hd1.out; omega)).mono ?_
        rintro e V5 ⟨W2, a2, m2, c2, e2, P2, rfl, hx, hro, hgn, hR⟩
        have H6 := Lib.hid (H4.out.ext hx)
        have HR2 := Lib.hid hR
        have HIH6 := Lib.hid hro
        have HNd : Hid (∀ g off, a2 = some ⟨g, off, none⟩ → g ≠ D) := fun g off e => by have := (hgn g off e).1; have := H4.out.deck.lt; omega
        have HNy : Hid (∀ g off, a2 = some ⟨g, off, none⟩ → g ≠ YB) := fun g off e => by have := (hgn g off e).1; have : YB < _ := H4.out.blt (i := 0) rfl; omega
        clear hx hro hgn hR H4
        refine hK.out _ _ ((HLI.out _ _ _ _ H6.out).2) (fun hHeld => ?_)
        clear hK K
        try simp only [Act.put, List.setIfInBounds_toArray, List.set_cons_zero, List.set_cons_succ]
        refine wpAnyF_take [8, 9, 11, 12] (i := 7) (v := ?_) rfl (by kernel_rfl) (by kernel_rfl) (by kernel_rfl) (by kernel_rfl) (fun _ _ _ h => h) (Or.inl ⟨by rfl, ?_⟩) (by assumption) ?_
        rotate_left
        · intro wS hSw
          (try dsimp only at hSw)
          go_simp
          try with_reducible rfl
        try simp only [Act.put, List.setIfInBounds_toArray]
        refine wpAnyF_take [11, 12] (i := 8) (v := ?_) rfl (by kernel_rfl) (by kernel_rfl) (by kernel_rfl) (by kernel_rfl) (fun _ _ _ h => h) (Or.inl ⟨by rfl, ?_⟩) (by assumption) ?_
        rotate_left
        · intro wS hSw
          (try dsimp only at hSw)
          go_simp
          try with_reducible rfl
        try simp only [Act.put]
        refine wpAnyF_take [12] (i := 9) (v := ?_) rfl (by kernel_rfl) (by kernel_rfl) (by kernel_rfl) (by kernel_rfl) (fun _ _ _ h => h) (Or.inl ⟨by rfl, ?_⟩) (by assumption) ?_
        rotate_left
        · intro wS hSw
          (try dsimp only at hSw)
          go_simp
          try with_reducible rfl
        try simp only [Act.put]
        refine wpAnyF_ready (rs := [11]) (by kernel_rfl) rfl (AllReadyF.cons rfl (fun K hK => ?_) AllReadyF.nil)
        have y0 := H6.out.cell 0 (j := 0) rfl rfl
        have y1 := H6.out.cell 0 (j := 1) rfl rfl
        have z0 := H6.out.frozen 0 (j := 0) rfl
        have z1 := H6.out.frozen 0 (j := 1) rfl
        go_simp
        have H8 := Lib.hid ((H6.out.cellPut (j := 0) 0 rfl (.int .i64 (W2 : Int))).cellPut (j := 1) 0 rfl (.slice a2 m2 c2))
        have HIH8 := Lib.hid (HIH6.out.keep (((Keep.refl (fun b => b ≠ YB) V5).setCell ⟨YB, 0, none⟩ (.int .i64 (W2 : Int)) (fun _ h => h rfl)).setCell ⟨YB, 1, none⟩ (.slice a2 m2 c2) (fun _ h => h rfl)) (fun g off e _ => HNy.out g off e))
        clear H6 y0 y1 z0 z1 HIH6
        generalize (V5.setCell ⟨YB, 0, none⟩ (.int .i64 (W2 : Int))).setCell ⟨YB, 1, none⟩ (.slice a2 m2 c2) = V7 at *
        refine hK.out _ _ ((HLI.out _ _ _ _ H8.out).2) (fun hHeld => ?_)
        clear hK K
        try simp only [Act.put, List.setIfInBounds_toArray, List.set_cons_zero, List.set_cons_succ]
        refine wpAnyF_ready (rs := [12]) (by kernel_rfl) rfl (AllReadyF.cons rfl (fun K hK => ?_) AllReadyF.nil)
        go_simp
        refine hK.out _ _ ((HLI.out _ _ _ _ H8.out).2) (fun hHeld => ?_)
        clear hK K
        try simp only [Act.put, List.setIfInBounds_toArray, List.set_cons_zero, List.set_cons_succ]
        refine wpAnyF_done (by kernel_rfl) ?_
        refine hM _ _ (Met.intro (hJ _ _ ?_))
        (repeat apply Exists.intro)
        refine ⟨?rel, rfl⟩
        case rel => exact ⟨YB, W2, m2, c2, d1, k1, a2, e2, P2, rfl, rfl, Hd1, HR2, ⟨HIH8.out, HNd.out⟩, H8⟩
    · -- 10
      go_simp
      have H2 := Lib.hid (H0.out.new (.cells #[.int .i64 0, .slice none 0 0] 31))
      
      clear H0
      generalize hz : V0.heap.size = YB at *
      clear hz
      generalize hw : V0.alloc _ = V1 at *
      clear hw
      refine hK.out _ _ ((HLI.out _ _ _ _ H2.out).2) (fun hHeld => ?_)
      clear hK K
      try simp only [Act.put, List.setIfInBounds_toArray, List.set_cons_zero, List.set_cons_succ]
      refine wpAnyF_ready (rs := [4]) (by kernel_rfl) rfl (AllReadyF.cons rfl (fun K hK => ?_) AllReadyF.nil)
      go_simp
      go_at_call 22
      refine (draw_any D a1 n1 c1 0 40 _ H2.out.deck (by omega) (by omega)).mono ?_
      rintro e V3 ⟨d1, k1, hd1, hk1, rfl, hD1, hg1⟩
      have H4 := Lib.hid (H2.out.dealt hD1 hg1)
      have Hd1 : Hid (d1 ≤ 40 ∧ k1 ≤ 1) := by show _ ∧ _; omega
      clear hD1 hg1 hd1 hk1 H2
      refine hK.out _ _ ((HLI.out _ _ _ _ H4.out).2) (fun hHeld => ?_)
      clear hK K
      try simp only [Act.put, List.setIfInBounds_toArray, List.set_cons_zero, List.set_cons_succ]
      refine wpAnyF_take [6, 7, 8, 9, 11, 12] (i := 5) (v := ?_) rfl (by kernel_rfl) (by kernel_rfl) (by kernel_rfl) (by kernel_rfl) (fun _ _ _ h => h) (Or.inl ⟨by rfl, ?_⟩) (by assumption) ?_
      rotate_left
      · intro wS hSw
        (try dsimp only at hSw)
        go_simp
        try with_reducible rfl
      try simp only [Act.put, List.setIfInBounds_toArray]
      refine wpAnyF_ready (rs := [6]) (by kernel_rfl) rfl (AllReadyF.cons rfl (fun K hK => ?_) AllReadyF.nil)
      go_simp
      rw [HG.out d1 Hd1.out.1]
      go_at_call 21
      refine (HMo.out _ _ (HLI.out _ _ _ _ H4.out).1 (by have := HWt.out; have := Hd1.out; omega)).mono ?_
      rintro e V5 ⟨W2, a2, m2, c2, e2, P2, rfl, hx, hro, hgn, hR⟩
      have H6 := Lib.hid (H4.out.ext hx)
      have HR2 := Lib.hid hR
      have HIH6 := Lib.hid hro
      have HNd : Hid (∀ g off, a2 = some ⟨g, off, none⟩ → g ≠ D) := fun g off e => by have := (hgn g off e).1; have := H4.out.deck.lt; omega
      have HNy : Hid (∀ g off, a2 = some ⟨g, off, none⟩ → g ≠ YB) := fun g off e => by have := (hgn g off e).1; have : YB < _ := H4.out.blt (i := 0) rfl; omega
      clear hx hro hgn hR H4
      refine hK.out _ _ ((HLI.out _ _ _ _ H6.out).2) (fun hHeld => ?_)
      clear hK K
      try simp only [Act.put, List.setIfInBounds_toArray, List.set_cons_zero, List.set_cons_succ]
      refine wpAnyF_take [8, 9, 11, 12] (i := 7) (v := ?_) rfl (by kernel_rfl) (by kernel_rfl) (by kernel_rfl) (by kernel_rfl) (fun _ _ _ h => h) (Or.inl ⟨by rfl, ?_⟩) (by assumption) ?_
      rotate_left
      · intro wS hSw
        (try dsimp only at hSw)
        go_simp
        try with_reducible rfl
      try simp only [Act.put, List.setIfInBounds_toArray]
      refine wpAnyF_take [11, 12] (i := 8) (v := ?_) rfl (by kernel_rfl) (by kernel_rfl) (by kernel_rfl) (by kernel_rfl) (fun _ _ _ h => h) (Or.inl ⟨by rfl, ?_⟩) (by assumption) ?_
      rotate_left
      · intro wS hSw
        (try dsimp only at hSw)
        go_simp
        try with_reducible rfl
      try simp only [Act.put]
      refine wpAnyF_take [12] (i := 9) (v := ?_) rfl (by kernel_rfl) (by kernel_rfl) (by kernel_rfl) (by kernel_rfl) (fun _ _ _ h => h) (Or.inl ⟨by rfl, ?_⟩) (by assumption) ?_
      rotate_left
      · intro wS hSw
        (try dsimp only at hSw)
        go_simp
        try with_reducible rfl
      try simp only [Act.put]
      refine wpAnyF_ready (rs := [11]) (by kernel_rfl) rfl (AllReadyF.cons rfl (fun K hK => ?_) AllReadyF.nil)
      have y0 := H6.out.cell 0 (j := 0) rfl rfl
      have y1 := H6.out.cell 0 (j := 1) rfl rfl
      have z0 := H6.out.frozen 0 (j := 0) rfl
      have z1 := H6.out.frozen 0 (j := 1) rfl
      go_simp
      have H8 := Lib.hid ((H6.out.cellPut (j := 0) 0 rfl (.int .i64 (W2 : Int))).cellPut (j := 1) 0 rfl (.slice a2 m2 c2))
      have HIH8 := Lib.hid (HIH6.out.keep (((Keep.refl (fun b => b ≠ YB) V5).setCell ⟨YB, 0, none⟩ (.int .i64 (W2 : Int)) (fun _ h => h rfl)).setCell ⟨YB, 1, none⟩ (.slice a2 m2 c2) (fun _ h => h rfl)) (fun g off e _ => HNy.out g off e))
      clear H6 y0 y1 z0 z1 HIH6
      generalize (V5.setCell ⟨YB, 0, none⟩ (.int .i64 (W2 : Int))).setCell ⟨YB, 1, none⟩ (.slice a2 m2 c2) = V7 at *
      refine hK.out _ _ ((HLI.out _ _ _ _ H8.out).2) (fun hHeld => ?_)
      clear hK K
      try simp only [Act.put, List.setIfInBounds_toArray, List.set_cons_zero, List.set_cons_succ]
      refine wpAnyF_ready (rs := [12]) (by kernel_rfl) rfl (AllReadyF.cons rfl (fun K hK => ?_) AllReadyF.nil)
      go_simp
      refine hK.out _ _ ((HLI.out _ _ _ _ H8.out).2) (fun hHeld => ?_)
      clear hK K
      try simp only [Act.put, List.setIfInBounds_toArray, List.set_cons_zero, List.set_cons_succ]
      refine wpAnyF_done (by kernel_rfl) ?_
      refine hM _ _ (Met.intro (hJ _ _ ?_))
      (repeat apply Exists.intro)
      refine ⟨?rel, rfl⟩
      case rel => exact ⟨YB, W2, m2, c2, d1, k1, a2, e2, P2, rfl, rfl, Hd1, HR2, ⟨HIH8.out, HNd.out⟩, H8⟩
  case rest =>
    obtain ⟨YB, W2, m2, c2, d, k, a2, e2, P2, rfl, rfl, HDk, HR2, HI2, HH⟩ := hcut
    have HBc := Lib.hid (HB6.out.turn HH.out.keep HH.out.deck)
    have HXk := Lib.hid (HH.out.keep.heap HXb.out (show XB ≠ D from fun h => HD6.out h.symm))
    have HXr := Lib.hid (HRo6.out.keep HH.out.keep (fun g off e _ => by have := (HGn.out g off e).1; have := HDn.out; omega))
    have HXd : Hid (∀ g off, xa = some ⟨g, off, none⟩ → g ≠ D) := fun g off e => by have := (HGn.out g off e).1; have := HDn.out; omega
    have HYk := Lib.hid (HH.out.heap 0 rfl)
    have HYd : Hid (YB ≠ D) := by have h1 := (HH.out.blk 0 _ rfl).1; have h2 := HB6.out.dk.lt; dsimp only at h1; show _ ≠ _; omega
    clear HB6 HH HRo6 HXb HGn HDn
    rcases HR.out with ⟨hb, rfl⟩ | ⟨hb, rfl, rfl⟩
    · have hb2 : byOrderF L false (want + 1 + (d : Int)) = none := most_more hb (by omega)
      rcases HR2.out with ⟨-, rfl⟩ | ⟨hb3, -⟩
      case inr => rw [hb2] at hb3; cases hb3
      have HBy := Lib.hid hb
      clear hb hb2
      go_wp2_with fail
      go_loopw [63] (fun t wr => ∃ i k' : Nat, i ≤ 4 ∧ t = .int .i64 (i : Int) ∧ k' ≤ 1 + 49 * i ∧ Hid (BS w D a1 n1 c1 k' (⟨⟨sa, sc, L⟩, ⟨va, vc, vl⟩⟩ : Ld) LB wr)) (fun t _ => 4 - (intOf t).toNat)
      case atStart => exact ⟨0, k, Nat.zero_le _, rfl, by have := HDk.out; omega, HBc.out⟩
      case round =>
        clear HBc
        obtain ⟨wp, rfl⟩ : ∃ wp : World, wp = wr := ⟨_, rfl⟩
        obtain ⟨i, k', hi, rfl, hk', HB⟩ := hrel
        have HKk : Hid (k' ≤ 1 + 49 * i ∧ i ≤ 4) := ⟨hk', hi⟩
        clear hk'
        by_cases hlt : i < 4
        · skip
          have dk : decide ((i : Int) < 4) = true := decide_eq_true (by omega)
          have hwi : IntKind.i64.wrap ((i : Int) + 1) = ((i + 1 : Nat) : Int) := by rw [IntWalk.i64_in _ (by omega)]; omega
          have l0 := HB.out.c0
          have l1 := HB.out.c1
          try dsimp only at l0 l1
          go_wp2_with fail
          refine (Tried_l HB.out (by have := HKk.out; omega)).mono ?_
          rintro e y1 ⟨V, Q, qa, qc, k2, rfl, hT⟩
          have HT := Lib.hid hT
          have HB1 := Lib.hid (HB.out.turn hT.q hT.dk)
          have HY2 := Lib.hid (XS.new hT.e HB1.out.dk.lt hT.da)
          have hxa : Ext y1 (y1.alloc (.cells #[.int .i64 (V : Int), .slice qa L.length qc] 31)) := (Ext.refl _).alloc _
          have HB2 := Lib.hid (HB1.out.ext hxa)
          clear hT hxa l0 l1 HB HB1
          have l0 := HB2.out.c0
          have l1 := HB2.out.c1
          have y0 := HY2.out.c0
          have y1c := HY2.out.c1
          try dsimp only at l0 l1 y0 y1c
          go_wp2_with fail
          try dsimp only at HY2
          generalize y1.alloc (.cells #[.int .i64 (V : Int), .slice qa L.length qc] 31) = y2 at *
          generalize y1.heap.size = ZB at *
          have hgs := gain_small HOk.out HT.out.e.w2 (le_of HT.out.e)
          have hal := HT.out.al
          have hle := le_of HT.out.e
          have q := Gains_l HY2.out.e
          try dsimp only at hgs hal hle q
          have HV : Hid (1 ≤ V ∧ V ≤ 12) := ⟨HT.out.e.w1, HT.out.w12⟩
          have hmn := most_none HOk.out.ob HBy.out HV.out.1 hal hle
          have hgn : gainN L V Q < want * (V : Int) := hmn
          generalize gainN L V Q = gp at *
          generalize gainS L V Q = gq at *
          refine q.mono ?_
          rintro e y3 ⟨rfl, hx⟩
          have HB3 := Lib.hid (HB2.out.ext hx)
          have HY3 := Lib.hid (HY2.out.ext hx)
          clear hx q l0 l1 y0 y1c HB2 HY2
          have y0 := HY3.out.c0
          try dsimp only at y0
          have w1 : -140000000000 ≤ want * (V : Int) ∧ want * (V : Int) ≤ 140000000000 := mul_smallM (by have := HWt.out; omega) (by have := HV.out; omega)
          obtain ⟨mw, hmw⟩ : ∃ mw, want * (V : Int) = mw := ⟨_, rfl⟩
          have r1 : IntKind.i64.wrap (want * (V : Int)) = mw := by rw [IntWalk.i64_in _ (by omega), hmw]
          rw [hmw] at hgn
          have dA : decide (mw ≤ gp) = false := decide_eq_false (by omega)
          have pA : ¬ mw ≤ gp := by omega
          clear w1 hmw hmn hgn hgs hal hle
          go_wp2_with fail
          go_roundw
          case rel => exact ⟨i + 1, k2, by omega, by go_num, by have := HT.out.kk; have := HKk.out; omega, HB3.out⟩
          case measure => simp [intOf]; omega
        · have dk : decide ((i : Int) < 4) = false := decide_eq_false (by omega)
          clear hlt
          go_wp2_with fail
          refine (awake_ok _).mono ?_
          rintro e wz ⟨rfl, hx⟩
          go_wp2_with fail
          go_ret
          exact ⟨rfl, HB.out.x0.trans hx⟩
    · obtain ⟨pa, pb, hM⟩ := mo_math HOk.out hb
      have HM := Lib.hid hM
      have HXc : Hid (XS D (⟨⟨sa, sc, L⟩, ⟨va, vc, vl⟩⟩ : Ld) W P xa xc XB wc) := ⟨HXk.out, ⟨HBc.out.li.st, HBc.out.li.vi, HOk.out, HXr.out, hM.is.len, hM.is.w1, hM.is.w2, fun j hj => hM.is.le j (by have := hM.is.len; omega)⟩, fun h => HD6.out h.symm, fun g off e _ => HXd.out g off e⟩
      have HGs := Lib.hid (gain_small HOk.out hM.is.w2 hM.is.le)
      have HWb : Hid (1 ≤ W ∧ W ≤ 2000) := ⟨hM.is.w1, hM.is.w2⟩
      have hgw := hM.gain
      clear hb hM HXk HXr HXd
      have l0 := HBc.out.c0
      have l1 := HBc.out.c1
      have x0 := HXc.out.c0
      have x1 := HXc.out.c1
      try dsimp only at l0 l1 x0 x1
      go_wp2_with fail
      have q := Gains_l HXc.out.e
      try dsimp only at q
      refine q.mono ?_
      rintro e v2 ⟨rfl, hx⟩
      have HB2 := Lib.hid (HBc.out.ext hx)
      have HX2 := Lib.hid (HXc.out.ext hx)
      have HYk2 := Lib.hid (hx.block HYk.out)
      have HI3 := Lib.hid (HI2.out.1.ext hx)
      clear hx q l0 l1 x0 x1 HBc HXc HYk
      have l0 := HB2.out.c0
      have l1 := HB2.out.c1
      have x0 := HX2.out.c0
      have x1 := HX2.out.c1
      try dsimp only at l0 l1 x0 x1
      go_wp2_with fail
      have q := Best_l HX2.out.e
      try dsimp only at q
      rw [HM.out.is.best] at q
      refine q.mono ?_
      rintro e v3 ⟨rfl, hx⟩
      have HBc := Lib.hid (HB2.out.ext hx)
      have HXc := Lib.hid (HX2.out.ext hx)
      have HYk := Lib.hid (hx.block HYk2.out)
      have HI4 := Lib.hid (HI3.out.ext hx)
      clear hx q l0 l1 x0 x1 HB2 HX2 HYk2 HI3
      have l0 := HBc.out.c0
      have l1 := HBc.out.c1
      have x0 := HXc.out.c0
      have x1 := HXc.out.c1
      try dsimp only at l0 l1 x0 x1
      have w1 : -140000000000 ≤ want * (W : Int) ∧ want * (W : Int) ≤ 140000000000 := mul_smallM (by have := HWt.out; omega) (by have := HWb.out; omega)
      obtain ⟨mw, hmw⟩ : ∃ mw, want * (W : Int) = mw := ⟨_, rfl⟩
      have r1 : IntKind.i64.wrap (want * (W : Int)) = mw := by rw [IntWalk.i64_in _ (by omega), hmw]
      rw [hmw] at hgw
      have HSo2 : Hid (∀ V Q, allowsF L V Q = true → (∀ j, j < L.length → pt Q j ≤ V) → want * (V : Int) ≤ gainN L V Q → ¬ gainS L W P * (V : Int) < gainS L V Q * (W : Int) ∧ ¬ gainN L V Q * (W : Int) < gainN L W P * (V : Int)) := fun V Q h1 h2 h3 => HM.out.south h1 h2 h3
      obtain ⟨gn, hgn⟩ : ∃ z, gainN L W P = z := ⟨_, rfl⟩
      obtain ⟨gs, hgs⟩ : ∃ z, gainS L W P = z := ⟨_, rfl⟩
      rw [hgn, hgs] at HSo2 HGs
      rw [hgn] at hgw
      rw [hgn, hgs]
      have dA : decide (gn < mw) = false := decide_eq_false (by omega)
      have pA : ¬ gn < mw := by omega
      clear w1 hmw hgw hgn hgs
      go_upto_if 119 with (fail)
      clear r1 dA pA
      go_cut [] (fun wx => Hid (BS w D a1 n1 c1 k (⟨⟨sa, sc, L⟩, ⟨va, vc, vl⟩⟩ : Ld) LB wx) ∧ Hid (XS D (⟨⟨sa, sc, L⟩, ⟨va, vc, vl⟩⟩ : Ld) W P xa xc XB wx))
      case first =>
        rcases HR2.out with ⟨-, rfl⟩ | ⟨hb2, rfl, rfl⟩
        · go_wp2_with fail
          go_meet
          exact ⟨HBc, HXc⟩
        · obtain ⟨pa2, pb2, hM2⟩ := mo_math HOk.out hb2
          have HY : Hid (XS D (⟨⟨sa, sc, L⟩, ⟨va, vc, vl⟩⟩ : Ld) W2 P2 a2 c2 YB v3) := ⟨HYk.out, ⟨HBc.out.li.st, HBc.out.li.vi, HOk.out, HI4.out, hM2.is.len, hM2.is.w1, hM2.is.w2, fun j hj => hM2.is.le j (by have := hM2.is.len; omega)⟩, HYd.out, fun g off e _ => HI2.out.2 g off e⟩
          have hgs := gain_small HOk.out hM2.is.w2 hM2.is.le
          have hso := HSo2.out W2 P2 hM2.is.al hM2.is.le (Int.le_trans (Int.mul_le_mul_of_nonneg_right (by omega) (by omega)) hM2.gain)
          have HWc : Hid (1 ≤ W2 ∧ W2 ≤ 2000) := ⟨hM2.is.w1, hM2.is.w2⟩
          clear hM2 hb2
          have y0 := HY.out.c0
          have y1 := HY.out.c1
          try dsimp only at y0 y1
          go_wp2_with fail
          have q := Gains_l HY.out.e
          try dsimp only at q
          refine q.mono ?_
          rintro e v4 ⟨rfl, hx⟩
          have HBd := Lib.hid (HBc.out.ext hx)
          have HXd := Lib.hid (HXc.out.ext hx)
          have HYe := Lib.hid (HY.out.ext hx)
          clear hx q l0 l1 x0 x1 y0 y1 HBc HXc HY
          have x0 := HXd.out.c0
          have y0 := HYe.out.c0
          try dsimp only at x0 y0
          generalize gainN L W2 P2 = gp at *
          generalize gainS L W2 P2 = gq at *
          have w1 : -140000000000 ≤ gp * (W : Int) ∧ gp * (W : Int) ≤ 140000000000 := mul_smallM (by omega) (by have := HWb.out; omega)
          have w2 : -140000000000 ≤ gq * (W : Int) ∧ gq * (W : Int) ≤ 140000000000 := mul_smallM (by omega) (by have := HWb.out; omega)
          have w3 : -140000000000 ≤ gn * (W2 : Int) ∧ gn * (W2 : Int) ≤ 140000000000 := mul_smallM (by have := HGs.out; omega) (by have := HWc.out; omega)
          have w4 : -140000000000 ≤ gs * (W2 : Int) ∧ gs * (W2 : Int) ≤ 140000000000 := mul_smallM (by have := HGs.out; omega) (by have := HWc.out; omega)
          obtain ⟨m1, hm1⟩ : ∃ m1, gp * (W : Int) = m1 := ⟨_, rfl⟩
          obtain ⟨m2, hm2⟩ : ∃ m2, gq * (W : Int) = m2 := ⟨_, rfl⟩
          obtain ⟨m3, hm3⟩ : ∃ m3, gn * (W2 : Int) = m3 := ⟨_, rfl⟩
          obtain ⟨m4, hm4⟩ : ∃ m4, gs * (W2 : Int) = m4 := ⟨_, rfl⟩
          have r1 : IntKind.i64.wrap (gp * (W : Int)) = m1 := by rw [IntWalk.i64_in _ (by omega), hm1]
          have r2 : IntKind.i64.wrap (gq * (W : Int)) = m2 := by rw [IntWalk.i64_in _ (by omega), hm2]
          have r3 : IntKind.i64.wrap (gn * (W2 : Int)) = m3 := by rw [IntWalk.i64_in _ (by omega), hm3]
          have r4 : IntKind.i64.wrap (gs * (W2 : Int)) = m4 := by rw [IntWalk.i64_in _ (by omega), hm4]
          rw [hm1, hm2, hm3, hm4] at hso
          obtain ⟨p1, p2⟩ := hso
          have d1 : decide (m4 < m2) = false := decide_eq_false (by omega)
          have d2 : decide (m1 < m3) = false := decide_eq_false (by omega)
          clear w1 w2 w3 w4 hm1 hm2 hm3 hm4 hgs
          go_wp2_with fail
          go_meet
          exact ⟨HBd, HXd⟩
      case rest =>
        clear HBc HXc HYk HI4 l0 l1 x0 x1
        obtain ⟨HBc, HXc⟩ := hcut
        go_wp2_with fail
        go_loopw [153] (fun t wr => ∃ i k' : Nat, i ≤ 6 ∧ t = .int .i64 (i : Int) ∧ k' ≤ 1 + 49 * i ∧ Hid (BS w D a1 n1 c1 k' (⟨⟨sa, sc, L⟩, ⟨va, vc, vl⟩⟩ : Ld) LB wr) ∧ Hid (XS D (⟨⟨sa, sc, L⟩, ⟨va, vc, vl⟩⟩ : Ld) W P xa xc XB wr)) (fun t _ => 6 - (intOf t).toNat)
        case atStart => exact ⟨0, k, Nat.zero_le _, rfl, by have := HDk.out; omega, HBc.out, HXc.out⟩
        case round =>
          clear HBc HXc
          obtain ⟨wp, rfl⟩ : ∃ wp : World, wp = wr := ⟨_, rfl⟩
          obtain ⟨i, k', hi, rfl, hk', HB, HX⟩ := hrel
          have HKk : Hid (k' ≤ 1 + 49 * i ∧ i ≤ 6) := ⟨hk', hi⟩
          clear hk'
          by_cases hlt : i < 6
          · skip
            have dk : decide ((i : Int) < 6) = true := decide_eq_true (by omega)
            have hwi : IntKind.i64.wrap ((i : Int) + 1) = ((i + 1 : Nat) : Int) := by rw [IntWalk.i64_in _ (by omega)]; omega
            have l0 := HB.out.c0
            have l1 := HB.out.c1
            try dsimp only at l0 l1
            go_wp2_with fail
            refine (Tried_l HB.out (by have := HKk.out; omega)).mono ?_
            rintro e y1 ⟨V, Q, qa, qc, k2, rfl, hT⟩
            have HT := Lib.hid hT
            have HB1 := Lib.hid (HB.out.turn hT.q hT.dk)
            have HX1 := Lib.hid (HX.out.turn hT.q HB.out.ds HB.out.dv)
            have HY2 := Lib.hid (XS.new hT.e HB1.out.dk.lt hT.da)
            have hxa : Ext y1 (y1.alloc (.cells #[.int .i64 (V : Int), .slice qa L.length qc] 31)) := (Ext.refl _).alloc _
            have HB2 := Lib.hid (HB1.out.ext hxa)
            have HX2 := Lib.hid (HX1.out.ext hxa)
            clear hT hxa l0 l1 HB HB1 HX HX1
            have l0 := HB2.out.c0
            have l1 := HB2.out.c1
            have y0 := HY2.out.c0
            have y1c := HY2.out.c1
            have x0 := HX2.out.c0
            try dsimp only at x0
            try dsimp only at l0 l1 y0 y1c
            go_wp2_with fail
            try dsimp only at HY2
            generalize y1.alloc (.cells #[.int .i64 (V : Int), .slice qa L.length qc] 31) = y2 at *
            generalize y1.heap.size = ZB at *
            have hgs := gain_small HOk.out HT.out.e.w2 (le_of HT.out.e)
            have hal := HT.out.al
            have hle := le_of HT.out.e
            have q := Gains_l HY2.out.e
            try dsimp only at hgs hal hle q
            have HV : Hid (1 ≤ V ∧ V ≤ 12) := ⟨HT.out.e.w1, HT.out.w12⟩
            have hso := HSo2.out V Q hal hle
            generalize gainN L V Q = gp at *
            generalize gainS L V Q = gq at *
            refine q.mono ?_
            rintro e y3 ⟨rfl, hx⟩
            have HB3 := Lib.hid (HB2.out.ext hx)
            have HY3 := Lib.hid (HY2.out.ext hx)
            have HX3 := Lib.hid (HX2.out.ext hx)
            clear hx q l0 l1 y0 y1c x0 HB2 HY2 HX2
            have y0 := HY3.out.c0
            try dsimp only at y0
            have x0 := HX3.out.c0
            try dsimp only at x0
            have w1 : -140000000000 ≤ want * (V : Int) ∧ want * (V : Int) ≤ 140000000000 := mul_smallM (by have := HWt.out; omega) (by have := HV.out; omega)
            have w2 : -140000000000 ≤ gq * (W : Int) ∧ gq * (W : Int) ≤ 140000000000 := mul_smallM (by omega) (by have := HWb.out; omega)
            have w4 : -140000000000 ≤ gs * (V : Int) ∧ gs * (V : Int) ≤ 140000000000 := mul_smallM (by have := HGs.out; omega) (by have := HV.out; omega)
            obtain ⟨m1, hm1⟩ : ∃ m1, want * (V : Int) = m1 := ⟨_, rfl⟩
            obtain ⟨m2, hm2⟩ : ∃ m2, gq * (W : Int) = m2 := ⟨_, rfl⟩
            obtain ⟨m4, hm4⟩ : ∃ m4, gs * (V : Int) = m4 := ⟨_, rfl⟩
            have r1 : IntKind.i64.wrap (want * (V : Int)) = m1 := by rw [IntWalk.i64_in _ (by omega), hm1]
            have r2 : IntKind.i64.wrap (gq * (W : Int)) = m2 := by rw [IntWalk.i64_in _ (by omega), hm2]
            have r4 : IntKind.i64.wrap (gs * (V : Int)) = m4 := by rw [IntWalk.i64_in _ (by omega), hm4]
            rw [hm1, hm2, hm4] at hso
            clear w1 w2 w4 hm1 hm2 hm4 hgs hal hle
            go_upto_region 31 with (fail)
            go_cut [185] from 165 to 185 (fun s185 wx => s185 = .bool false ∧ wx = y3)
            case first =>
              by_cases h1 : m1 ≤ gp
              · have d1 : decide (m1 ≤ gp) = true := decide_eq_true h1
                have h2 := (hso h1).1
                have d2 : decide (m4 < m2) = false := decide_eq_false (by omega)
                clear hso
                go_wp2_with fail
                go_meet
                exact ⟨rfl, rfl⟩
              · have d1 : decide (m1 ≤ gp) = false := decide_eq_false h1
                clear hso
                go_wp2_with fail
                go_meet
                exact ⟨rfl, rfl⟩
            case rest =>
              obtain ⟨rfl, rfl⟩ := hcut
              clear r1 r2 r4 hso
              go_wp2_with fail
              go_roundw
              case rel => exact ⟨i + 1, k2, by omega, by go_num, by have := HT.out.kk; have := HKk.out; omega, HB3.out, HX3.out⟩
              case measure => simp [intOf]; omega
          · have dk : decide ((i : Int) < 6) = false := decide_eq_false (by omega)
            clear hlt
            go_wp2_with fail
            refine (awake_ok _).mono ?_
            rintro e wz ⟨rfl, hx⟩
            go_wp2_with fail
            go_ret
            exact ⟨rfl, HB.out.x0.trans hx⟩
end Go.Proofs.Ytlaolokakaheaaa

namespace Go.Proofs.Ytlaolokakaheaaa.barterMost
open Go.ChangeShapes Go.WideShapes Go.ChangeAt Go.RowKit
open Go.ChangeMaps (open_string shut_string)
set_option linter.unusedVariables false

theorem own : ownKnob Try.prog.godebug = none := by kernel_rfl
theorem laidOut : laidOutB Try.prog = true := by kernel_rfl

/-- A slice of integers that came in: it is nil, or it leads to a row of cap cells, the numbers zs, each of which fits its kind. -/
def IsRow (k : IntKind) (w : World) (a : Option Addr) (len cap : Nat) (zs : List Int) : Prop :=
  (a = none ∧ len = 0 ∧ cap = 0 ∧ zs = []) ∨
  ∃ x, a = some x ∧ len ≤ cap ∧ cap ≤ maxLen ∧ zs.length = cap ∧ (∀ i, i < zs.length → w.cell? (x.add i) = some (.int k (zs.getD i 0))) ∧ ∀ n ∈ zs, (Lit.int k n).wf = true

/-- Bytes that came in lie in memory as told. -/
theorem bytes_of {w : World} {a : Option Addr} {n c : Nat} {zs : List Int} (h : IsRow .u8 w a n c zs) (hn : n ≤ 140737488351232) : IsBytes w a n c := by
  rcases h with ⟨rfl, rfl, rfl, rfl⟩ | ⟨x, rfl, hl, hm, hz, hc, hw⟩
  · exact ⟨Nat.le_refl _, by omega, .inl rfl⟩
  · refine ⟨hl, hn, ?_⟩
    by_cases hn0 : n = 0
    · exact .inl hn0
    · right
      have h0 := hc 0 (by omega)
      obtain ⟨b, off, sp⟩ := x
      have hsp : sp = none := by
        cases sp with
        | none => rfl
        | some s =>
          exfalso
          unfold World.cell? at h0
          split at h0
          · simp [Addr.add] at h0
          · cases h0
      subst hsp
      refine ⟨b, off, rfl, fun i hi => ?_⟩
      have h1 := hc i (by omega)
      rw [Addr.add_lit] at h1
      have h2 := hw (zs.getD i 0) (by rw [List.getD_eq_getElem?_getD, List.getElem?_eq_getElem (show i < zs.length by omega)]; exact List.getElem_mem _)
      have h3 : 0 ≤ zs.getD i 0 ∧ zs.getD i 0 < 256 := by
        have h4 : IntKind.u8.min = 0 := by kernel_rfl
        have h5 : IntKind.u8.max = 255 := by kernel_rfl
        generalize zs.getD i 0 = z at h2 ⊢
        simp [Lit.wf, h4, h5] at h2
        omega
      exact ⟨(zs.getD i 0).toNat, by omega, by rw [h1, Int.toNat_of_nonneg h3.1]⟩

theorem cells5 : Try.prog.bytesOf 5 = 1 := by kernel_rfl

theorem u16_of {n : Int} (h : (Lit.int .u16 n).wf = true) : 0 ≤ n ∧ n ≤ 65535 := by
  have e1 : IntKind.u16.min = 0 := by decide
  have e2 : IntKind.u16.max = 65535 := by decide
  simp [Lit.wf, e1, e2] at h
  omega

theorem walk (a0 : Option Addr) (len0 cap0 : Nat) (z0 : List Int) (a1 : Option Addr) (len1 cap1 : Nat) (z1 : List Int) (n2 : Int) (hn2 : 0 ≤ n2 ∧ n2 ≤ 65535) (w : World) (w0 : IsRow .u8 w a0 len0 cap0 z0) (w1 : IsRow .u8 w a1 len1 cap1 z1) (n0 : len0 ≤ 140737488351232) (n1 : len1 ≤ 140737488351232) :
    Calls Try.prog 5 #[.slice a0 len0 cap0, .slice a1 len1 cap1, .int .u16 n2] w fun e w' => e = .returned (.bool true) ∧ Below w.heap.size w w' := by
  exact most_all a0 a1 len0 cap0 len1 cap1 n2 w (bytes_of w0 n0) (bytes_of w1 n1) hn2

set_option maxRecDepth 100000 in
theorem lifted (os : Os) (started : os.Started) (H : Type) (enc : TypeId × Value → H) :
    ReturnsInHanded {} Try.checked os 5 .any (Rows.barterMostSpec.pre6 enc Try.prog Try.f5 Rows.barterMostRow.domain false) (Rows.barterMostSpec.post enc Try.prog Try.f5 false true false false) := by
  refine returnsInHanded_of_change_sized (C := Try.checked) own started (by kernel_rfl) Try.func5
    (ChangeSpec.witness6 (enc := enc) (C := Try.checked) false ⟨#[], #[.slice none 0 0, .slice none 0 0, .int .u16 0], []⟩ 8 (by kernel_rfl) (by kernel_rfl) (by kernel_rfl) (by kernel_rfl)) ?_
  intro W base args ds gs before hval0 hW hcnd hsz0 _
  have hsz : (DataW.weightsEach Try.prog (Try.f5.params.toList ++ Rows.barterMostSpec.plain.varTypes Try.prog) (ds ++ gs)).all (· ≤ reachBytes) = true := hsz0
  clear hsz0
  have hval : ∀ (j : Nat) t v, Try.f5.params[j]? = some t → args[j]? = some v → Value.okWide Try.prog W .any base t v := hval0
  have hW' := hW
  obtain ⟨p, q, hA0, hV, rfl, hfz, hnd⟩ := hW
  have hA : DataW.TrodAll enc Try.prog W 0 (fun _ => true) true Try.f5.params.toList args.toList ds p := hA0
  rw [Try.params5] at hA hval hsz
  obtain ⟨v0, vs0, d0, ds0, p0, q0, hargs, rfl, rfl, h0, r0⟩ := trodAll_cons hA
  obtain ⟨v1, vs1, d1, ds1, p1, q1, rfl, rfl, rfl, h1, r1⟩ := trodAll_cons r0
  obtain ⟨v2, vs2, d2, ds2, p2, q2, rfl, rfl, rfl, h2, r2⟩ := trodAll_cons r1
  obtain ⟨rfl, rfl, rfl⟩ := trodAll_nil r2
  obtain rfl : args = #[v0, v1, v2] := by cases args; simp_all
  obtain ⟨rfl, rfl⟩ := trodVars_none hV
  obtain ⟨a0, len0, cap0, rfl⟩ := okWide_slice Try.underlying22 (hval 0 22 v0 rfl rfl)
  have k0 := h0
  have lt0 : ∀ x ∈ p0, x.block < W.heap.size := by obtain ⟨m, hm⟩ := k0; exact DataW.trod_lt m _ _ _ hm
  obtain ⟨z0, w0, n0⟩ : ∃ zs, IsRow .u8 W a0 len0 cap0 zs ∧ len0 ≤ 140737488351232 := by
    obtain ⟨fuel, hf⟩ := h0
    rcases open_ints Try.underlying22 Try.underlying5 (by kernel_rfl) hf with ⟨hcs, _⟩ | ⟨x, l, c, zs, hcs, _, hl, hm, hz, hx, hcell, hwz⟩
    · simp [Value.cells] at hcs
      obtain ⟨rfl, rfl, rfl⟩ := hcs
      exact ⟨[], .inl ⟨rfl, rfl, rfl, rfl⟩, Nat.zero_le _⟩
    · simp [Value.cells] at hcs
      obtain ⟨rfl, rfl, rfl⟩ := hcs
      simp only [Prod.mk.injEq] at hx
      have hr := sized_slice hsz (j := 0) (t := 22) (e := 5) rfl (by rw [hx.1]; rfl) Try.underlying22
      rw [cells5] at hr
      simp only [lits, List.length_map, List.length_take, List.length_drop] at hr
      simp only [if_true] at hz
      have hb : reachBytes = 140737488351232 := rfl
      exact ⟨zs, .inr ⟨_, rfl, hl, hm, hz, hcell, hwz⟩, by omega⟩
  obtain ⟨a1, len1, cap1, rfl⟩ := okWide_slice Try.underlying22 (hval 1 22 v1 rfl rfl)
  have k1 := h1
  have lt1 : ∀ x ∈ p1, x.block < W.heap.size := by obtain ⟨m, hm⟩ := k1; exact DataW.trod_lt m _ _ _ hm
  obtain ⟨z1, w1, n1⟩ : ∃ zs, IsRow .u8 W a1 len1 cap1 zs ∧ len1 ≤ 140737488351232 := by
    obtain ⟨fuel, hf⟩ := h1
    rcases open_ints Try.underlying22 Try.underlying5 (by kernel_rfl) hf with ⟨hcs, _⟩ | ⟨x, l, c, zs, hcs, _, hl, hm, hz, hx, hcell, hwz⟩
    · simp [Value.cells] at hcs
      obtain ⟨rfl, rfl, rfl⟩ := hcs
      exact ⟨[], .inl ⟨rfl, rfl, rfl, rfl⟩, Nat.zero_le _⟩
    · simp [Value.cells] at hcs
      obtain ⟨rfl, rfl, rfl⟩ := hcs
      simp only [Prod.mk.injEq] at hx
      have hr := sized_slice hsz (j := 1) (t := 22) (e := 5) rfl (by rw [hx.1]; rfl) Try.underlying22
      rw [cells5] at hr
      simp only [lits, List.length_map, List.length_take, List.length_drop] at hr
      simp only [if_true] at hz
      have hb : reachBytes = 140737488351232 := rfl
      exact ⟨zs, .inr ⟨_, rfl, hl, hm, hz, hcell, hwz⟩, by omega⟩
  obtain ⟨n2, rfl, rfl, rfl, hw2⟩ := open_int Try.underlying46 (hval 2 46 v2 rfl rfl) h2
  clear hA0 hval0
  refine (walk a0 len0 cap0 z0 a1 len1 cap1 z1 n2 (u16_of hw2) W w0 w1 n0 n1).mono fun e W' ⟨he, bel⟩ => ?_
  subst he
  exact ⟨_, rfl, _, _, _, [], _, [], hW', trodAll_mk1 (shut_bool Try.underlying4 _), (trodAll_cons_mk (Below.trod laidOut (by kernel_rfl) (of_decide_eq_true (by kernel_rfl)) k0 bel lt0) (trodAll_cons_mk (Below.trod laidOut (by kernel_rfl) (of_decide_eq_true (by kernel_rfl)) k1 bel lt1) (trodAll_cons_mk (shut_int Try.underlying46 hw2) trodAll_mk0))), rfl, bel.frame _, fun h => by cases h⟩

theorem over : Rows.barterMostRow.holds Try.pinned (OpenSpec.ofChange Rows.barterMostSpec) :=
  OpenClaim.holds_of_wide 5 Try.f5 rfl rfl rfl rfl rfl rfl rfl ⟨rfl, rfl, rfl, rfl, rfl⟩ rfl rfl rfl rfl rfl (by kernel_rfl) Try.func5 (by kernel_rfl)
    (of_decide_eq_true (by kernel_rfl)) (by unfold Func.isWrapper; first | (rw [if_pos (by decide +kernel)]; kernel_rfl) | (rw [if_neg (by decide +kernel)]; exact ⟨rfl, rfl⟩))
    (fun os started H enc _ => lifted os started H enc)

/-- The statement. -/
theorem proved : Rows.BarterMostSaid := over
#print axioms proved
end Go.Proofs.Ytlaolokakaheaaa.barterMost
