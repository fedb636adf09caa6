/-
  slices.Sort of a list of at most 12 numbers in memory of the call's own sorts it there, and turns nothing else that was there before.
  Shuffle deals the numbers less than n in some order, in memory of its own; renamed gives each number of a list its new one, in memory of its own. Nothing else that was there before is turned, but the deck. The deck must lie in memory as told, and the lists read as told.
  slices.Sort of a list of at most 12 numbers in memory of the call's own sorts it there, and turns nothing but the list's own block.
-/
import Derived.Test.YtdejaliegbmgaaaGreatJ
import Derived.Test.YtdejaliegbmgaaaGreatZa
import Derived.RegionTactic
import Derived.BigRegion
import Derived.Test.YtdejaliegbmgaaaGreatJi
import Derived.Test.YtdejaliegbmgaaaGreatJl
import Derived.Test.YtdejaliegbmgaaaGreatJoa
import Derived.Deep.OwnRows
namespace Go.Proofs.YtdejaliegbmgaaaGreat
open Go.RowKit

/-- The list with two neighbours changed. -/
def swp (L : List Nat) (m : Nat) : List Nat := (L.set (m + 1) (gt L m)).set m (gt L (m + 1))
theorem swp_cons (x : Nat) (L : List Nat) (m : Nat) : swp (x :: L) (m + 1) = x :: swp L m := by simp [swp, gt]
theorem swp_perm : ∀ (L : List Nat) (m : Nat), m + 1 < L.length → (swp L m).Perm L
  | [], m, h => by simp at h
  | [x], m, h => by simp at h
  | x :: y :: r, 0, _ => by
    have : swp (x :: y :: r) 0 = y :: x :: r := by simp [swp, gt]
    rw [this]; exact List.Perm.swap x y r
  | x :: L, m + 1, h => by
    rw [swp_cons]; exact (swp_perm L m (by simpa using h)).cons x
theorem swp_length (L : List Nat) (m : Nat) : (swp L m).length = L.length := by simp [swp]
theorem swp_at (L : List Nat) (m i : Nat) (h : m + 1 < L.length) : gt (swp L m) i = if i = m then gt L (m + 1) else if i = m + 1 then gt L m else gt L i := by
  unfold swp
  have e : ∀ (l : List Nat) (a v : Nat), a < l.length → gt (l.set a v) i = if i = a then v else gt l i := by
    intro l a v ha
    unfold gt
    rw [List.getElem?_set]
    by_cases hi : a = i
    · subst hi; simp [ha]
    · rw [if_neg hi, if_neg (fun e => hi e.symm)]
  rw [e _ _ _ (by rw [List.length_set]; omega), e _ _ _ h]
/-- The first i are sorted. -/
def Srt (L : List Nat) (i : Nat) : Prop := ∀ p q, p < q → q < i → gt L p ≤ gt L q
/-- The first i + 1 are sorted, but for that at j, which those ahead of it may exceed. -/
def SrtBut (L : List Nat) (i j : Nat) : Prop := ∀ p q, p < q → q ≤ i → q ≠ j → gt L p ≤ gt L q
theorem srtBut_start {L : List Nat} {i : Nat} (h : Srt L i) : SrtBut L i i := fun p q hpq hq hne => h p q hpq (by omega)
theorem srtBut_swp {L : List Nat} {i m : Nat} (h : SrtBut L i (m + 1)) (hl : m + 1 < L.length) (hi : m + 1 ≤ i) (hlt : gt L (m + 1) < gt L m) : SrtBut (swp L m) i m := by
  intro p q hpq hq hne
  rw [swp_at L m p hl, swp_at L m q hl, if_neg hne]
  by_cases e1 : q = m + 1
  · subst e1
    rw [if_pos rfl]
    by_cases e2 : p = m
    · rw [if_pos e2]; omega
    · rw [if_neg e2, if_neg (by omega)]; exact h p m (by omega) (by omega) (by omega)
  · rw [if_neg e1]
    by_cases e2 : p = m
    · rw [if_pos e2]; exact h (m + 1) q (by omega) hq e1
    · rw [if_neg e2]
      by_cases e3 : p = m + 1
      · rw [if_pos e3]; exact h m q (by omega) hq e1
      · rw [if_neg e3]; exact h p q hpq hq e1
theorem srtBut_zero {L : List Nat} {i : Nat} (h : SrtBut L i 0) : Srt L (i + 1) := fun p q hpq hq => h p q hpq (by omega) (by omega)
theorem srtBut_end {L : List Nat} {i m : Nat} (h : SrtBut L i (m + 1)) (hle : gt L m ≤ gt L (m + 1)) : Srt L (i + 1) := by
  intro p q hpq hq
  by_cases e : q = m + 1
  · subst e
    by_cases e2 : p = m
    · rw [e2]; exact hle
    · exact Nat.le_trans (h p m (by omega) (by omega) (by omega)) hle
  · exact h p q hpq (by omega) e
theorem srt_pairwise {L : List Nat} (h : Srt L L.length) (hn : L.Nodup) : L.Pairwise (· < ·) := by
  rw [List.pairwise_iff_getElem]
  intro i j hi hj hij
  have h1 := h i j hij hj
  have h2 := List.pairwise_iff_getElem.1 hn i j hi hj hij
  unfold gt at h1
  rw [List.getElem?_eq_getElem hi, List.getElem?_eq_getElem hj] at h1
  simp only [Option.getD_some] at h1
  omega

theorem less_lt (x y : Int) (w : World) (h : x < y) : Calls Tryz.prog 131 #[.int .i64 x, .int .i64 y] w fun e w' => e = .returned (.bool true) ∧ w = w' := by
  have hd2 : decide (x < y) = true := decide_eq_true h
  go_enter Tryz.func131, Tryz.ntmps131
  go_wp2_with (go_at_call 149; refine (isNaN_any _ _).mono ?_; rintro e w' ⟨rfl, rfl⟩)
  go_ret
  simp

/-- A row was sorted in its place. -/
def SortOf (base g c : Nat) (l : List Nat) (w : World) (w' : World) : Prop := ∃ L : List Nat, Row w' g L c ∧ L.Perm l ∧ L.length = l.length ∧ Srt L l.length ∧ Below base w w'

theorem Row.gt {w : World} {g : Nat} {L : List Nat} {cap : Nat} (h : Row w g L cap) (i : Nat) (hi : i < L.length) : w.cell? ⟨g, i, none⟩ = some (.int .i64 (gt L i : Int)) := by
  rw [h.cell i hi]; unfold YtdejaliegbmgaaaGreat.gt; rw [List.getElem?_eq_getElem hi]; rfl
theorem Row.drN {w : World} {g : Nat} {L : List Nat} {cap n : Nat} (h : Row w g L cap) : Row (w.drewN n) g L cap := h.ext ((Ext.refl w).drewN n)
theorem Row.dr {w : World} {g : Nat} {L : List Nat} {cap : Nat} (h : Row w g L cap) : Row w.drew g L cap := h.ext (Ext.refl w).drew
theorem Row.swp {w : World} {g : Nat} {L : List Nat} {cap m : Nat} (h : Row w g L cap) (hm : m + 1 < L.length) :
    Row ((w.setCell ⟨g, m + 1, none⟩ (.int .i64 (YtdejaliegbmgaaaGreat.gt L m : Int))).setCell ⟨g, m, none⟩ (.int .i64 (YtdejaliegbmgaaaGreat.gt L (m + 1) : Int))) g (YtdejaliegbmgaaaGreat.swp L m) cap ∧
    Row ((w.setCell ⟨g, m, none⟩ (.int .i64 (YtdejaliegbmgaaaGreat.gt L (m + 1) : Int))).setCell ⟨g, m + 1, none⟩ (.int .i64 (YtdejaliegbmgaaaGreat.gt L m : Int))) g (YtdejaliegbmgaaaGreat.swp L m) cap := by
  refine ⟨(h.set (m + 1) _ hm).set m _ (by rw [List.length_set]; omega), ?_⟩
  have := (h.set m (YtdejaliegbmgaaaGreat.gt L (m + 1)) (by omega)).set (m + 1) (YtdejaliegbmgaaaGreat.gt L m) (by rw [List.length_set]; omega)
  rw [List.set_comm _ _ (by omega)] at this
  exact this
theorem Below.setG {B g i : Nat} {a w : World} {v : Value} (h : Below B a w) (hg : B ≤ g) : Below B a (w.setCell ⟨g, i, none⟩ v) := Below.setCell h hg v

set_option maxRecDepth 100000 in
set_option maxHeartbeats 2000000 in
theorem insertion_any (base g c : Nat) (l : List Nat) (w : World) (hrow : Row w g l c) (hb : base ≤ g) (hl : l.length ≤ 1000) :
    Calls Tryz.prog 125 #[.slice (some ⟨g, 0, none⟩) l.length c, .int .i64 0, .int .i64 (l.length : Int)] w fun e w' => (∃ v, e = .returned v) ∧ SortOf base g c l w w' := by
  have HR := Lib.hid hrow; clear hrow
  go_enter Tryz.func125, Tryz.ntmps125
  go_wp2
  go_loopw [6] (fun i wr => ∃ (j : Nat) (L : List Nat), i = .int .i64 ((j : Int) + 1) ∧ (j = 0 ∨ j + 1 ≤ l.length) ∧ Hid (Row wr g L c) ∧ Hid (L.Perm l) ∧ L.length = l.length ∧ Hid (Srt L (j + 1)) ∧ Hid (Below base w wr)) (fun i _ => l.length + 1 - (intOf i).toNat)
  case atStart => exact ⟨0, l, rfl, .inl rfl, HR.out, List.Perm.refl _, rfl, fun p q h1 h2 => by omega, Below.refl _ _⟩
  case round =>
    obtain ⟨wo, rfl⟩ : ∃ wo : World, wo = wr := ⟨_, rfl⟩
    obtain ⟨j, L, rfl, hj, HRo, HP, hLl, HS, HB⟩ := hrel
    have HLl := Lib.hid hLl; clear hLl
    by_cases hlt : j + 1 < l.length
    · have hd : decide ((j : Int) + 1 < (l.length : Int)) = true := decide_eq_true (by omega)
      clear hj
      go_wp2
      go_loopw [7] (fun s wx => ∃ (m : Nat) (M : List Nat), s = .int .i64 (m : Int) ∧ m ≤ j + 1 ∧ Hid (Row wx g M c) ∧ Hid (M.Perm l) ∧ Hid (M.length = l.length) ∧ Hid (SrtBut M (j + 1) m) ∧ Hid (Below base w wx)) (fun s _ => (intOf s).toNat)
      case atStart => exact ⟨j + 1, L, by go_num, Nat.le_refl _, HRo, HP, HLl, srtBut_start HS.out, HB⟩
      case round =>
        obtain ⟨wi, rfl⟩ : ∃ wi : World, wi = wr := ⟨_, rfl⟩
        obtain ⟨m, M, rfl, hm, HRi, HPi, HMl, HSi, HBi⟩ := hrel
        cases m with
        | zero =>
          have d0 : decide ((0 : Int) < ((0 : Nat) : Int)) = false := by simp
          go_wp2_with fail
          go_quiet (fail)
          go_wp2
          exact ⟨⟨j + 1, M, by simp, .inr (by omega), HRi.out.drN, HPi, HMl.out, srtBut_zero HSi.out, below_drewN HBi.out⟩, by simp [intOf]; omega⟩
        | succ m =>
          have hMl := HMl.out
          have c0 := HRi.out.gt m (by omega)
          have c1 := HRi.out.gt (m + 1) (by omega)
          have i1 : (0 : Int) ≤ (m : Int) := by omega
          have i2 : (m : Int) < (l.length : Int) := by omega
          have i3 : (m : Int) + 1 < (l.length : Int) := by omega
          have i4 : decide ((0 : Int) < (m : Int) + 1) = true := decide_eq_true (by omega)
          have i5 : (0 : Int) < (m : Int) + 1 := by omega
          have i6 : (0 : Int) ≤ (m : Int) + 1 := by omega
          have i9 : IntKind.i64.wrap (m : Int) = (m : Int) := IntWalk.i64_in _ (by omega)
          clear hMl
          rw [Int.natCast_add, Int.natCast_one]
          by_cases hxy : gt M (m + 1) < gt M m
          · have HSn : Hid (SrtBut (swp M m) (j + 1) m) := srtBut_swp HSi.out (by have := HMl.out; omega) hm hxy
            have HPn : Hid ((swp M m).Perm l) := (swp_perm M m (by have := HMl.out; omega)).trans HPi.out
            have hlt2 : ((gt M (m + 1) : Nat) : Int) < ((gt M m : Nat) : Int) := by omega
            clear hxy
            obtain ⟨y, hy⟩ : ∃ y, gt M (m + 1) = y := ⟨_, rfl⟩
            obtain ⟨x, hx⟩ : ∃ x, gt M m = x := ⟨_, rfl⟩
            rw [hx] at c0 hlt2
            rw [hy] at c1 hlt2
            have HX := Lib.hid hx
            have HY := Lib.hid hy
            clear hx hy
            go_wp2_with fail
            go_quiet ((go_at_call 131; exact quiet_same (less_lt (y : Int) (x : Int) _ hlt2)))
            go_upto_region 6 with (fail)
            obtain ⟨wd, hwd, HRd, HBd⟩ : ∃ wd, wi.drewN _ = wd ∧ Hid (Row wd g M c) ∧ Hid (Below base w wd) := ⟨_, rfl, HRi.out.drN, below_drewN HBi.out⟩
            rw [hwd]
            clear hwd c0 c1
            have c0 := HRd.out.gt m (by have := HMl.out; omega)
            have c1 := HRd.out.gt (m + 1) (by have := HMl.out; omega)
            rw [HX.out] at c0
            rw [HY.out] at c1
            have f0 := HRd.out.frozen m
            have f1 := HRd.out.frozen (m + 1)
            have HRn := Lib.hid (HRd.out.swp (m := m) (by have := HMl.out; omega))
            rw [HX.out, HY.out] at HRn
            go_region
            all_goals go_wp2_with fail
            all_goals exact ⟨⟨m, swp M m, rfl, by omega, HRn.out.1.dr, HPn, by show _ = _; rw [swp_length]; exact HMl.out, HSn, Below.drew (Below.setG (Below.setG HBd.out hb) hb)⟩, by simp [intOf]⟩
          · have HSn : Hid (Srt M (j + 1 + 1)) := srtBut_end HSi.out (by omega)
            have hge2 : ((gt M m : Nat) : Int) ≤ ((gt M (m + 1) : Nat) : Int) := by omega
            clear hxy
            generalize gt M (m + 1) = y at *
            generalize gt M m = x at *
            go_wp2_with fail
            go_quiet ((go_at_call 131; exact quiet_same (less_ge (y : Int) (x : Int) _ hge2)))
            go_wp2
            exact ⟨⟨j + 1, M, by simp, .inr (by omega), HRi.out.drN, HPi, HMl.out, HSn, below_drewN HBi.out⟩, by simp [intOf]; omega⟩
    · have hd : decide ((j : Int) + 1 < (l.length : Int)) = false := decide_eq_false (by omega)
      have HSn : Hid (Srt L l.length) := fun p q h1 h2 => HS.out p q h1 (by omega)
      clear hj
      go_wp2
      go_end0
      exact ⟨⟨_, rfl⟩, L, HRo.out, HP.out, HLl.out, HSn, HB.out⟩

set_option maxRecDepth 100000 in
set_option maxHeartbeats 1000000 in
theorem pdq_any (base g c : Nat) (l : List Nat) (k : Int) (w : World) (hrow : Row w g l c) (hb : base ≤ g) (hl : l.length ≤ 12) :
    Calls Tryz.prog 96 #[.slice (some ⟨g, 0, none⟩) l.length c, .int .i64 0, .int .i64 (l.length : Int), .int .i64 k] w fun e w' => (∃ v, e = .returned v) ∧ SortOf base g c l w w' := by
  have HI := Lib.hid (insertion_any base g c l w hrow hb (by omega)); clear hrow
  have h12 : (l.length : Int) ≤ 12 := by omega
  go_enter Tryz.func96, Tryz.ntmps96
  go_wp2
  go_loopw [1, 2] (fun s1 s wx => s1 = .int .i64 0 ∧ s = .int .i64 (l.length : Int) ∧ wx = w) (fun _ _ _ => 0)
  case atStart => exact ⟨rfl, rfl, rfl⟩
  case round =>
    obtain ⟨rfl, rfl, rfl⟩ := hrel
    go_wp2_with fail
    refine HI.out.mono ?_
    rintro e w' ⟨⟨v, rfl⟩, hx⟩
    have HX := Lib.hid hx; clear hx
    go_wp2
    refine bodyPost_ret (results_none rfl _ _ _) rfl ?_
    exact ⟨⟨_, rfl⟩, HX.out⟩

set_option maxHeartbeats 1000000 in
theorem sort_any (base g c : Nat) (l : List Nat) (w : World) (hrow : Row w g l c) (hb : base ≤ g) (hl : l.length ≤ 12) :
    Calls Tryz.prog 47 #[.slice (some ⟨g, 0, none⟩) l.length c] w fun e w' => (∃ v, e = .returned v) ∧ SortOf base g c l w w' := by
  have HI : ∀ k, Hid (Calls Tryz.prog 96 #[.slice (some ⟨g, 0, none⟩) l.length c, .int .i64 0, .int .i64 (l.length : Int), .int .i64 k] w fun e w' => (∃ v, e = .returned v) ∧ SortOf base g c l w w') := fun k => pdq_any base g c l k w hrow hb hl
  clear hrow
  go_enter Tryz.func47, Tryz.ntmps47
  go_wp2_with fail
  refine (len_any l.length _ hl).mono ?_
  rintro e w' ⟨⟨k, rfl⟩, rfl⟩
  go_wp2_with fail
  refine (HI k).out.mono ?_
  rintro e w' ⟨⟨v, rfl⟩, hx⟩
  have HX := Lib.hid hx; clear hx
  go_wp2
  go_end0
  exact ⟨⟨_, rfl⟩, HX.out⟩

/-- sorted: a list of the call's own that was sorted in its place. -/
def SortedOf (base : Nat) (a : Option Addr) (c : Nat) (l : List Nat) (w : World) (e : Ending) (w' : World) : Prop :=
  ∃ L : List Nat, e = .returned (.slice a L.length c) ∧ L.length = l.length ∧ L.Perm l ∧ Srt L l.length ∧ w'.ownsRow base 3 1 (.slice a L.length c) L.length (nums L) ∧ Below base w w'
theorem own_rowC {w : World} {base c : Nat} {a : Option Addr} {l : List Nat} (h : w.ownsRow base 3 1 (.slice a l.length c) l.length (nums l)) (hl : 0 < l.length) : ∃ g, a = some ⟨g, 0, none⟩ ∧ Row w g l c ∧ base ≤ g ∧ c ≤ maxLen := by
  have h0 := h
  obtain ⟨h1, h2⟩ := h
  rcases h2 with ⟨h2, h3⟩ | ⟨g', cap, cur, h2, hb, hh, hn, hm, hs, ht⟩
  · omega
  · simp only [Value.slice.injEq] at h2
    obtain ⟨rfl, _, rfl⟩ := h2
    exact ⟨g', rfl, (Row.of_own h0).1, hb, hm⟩
set_option maxHeartbeats 1000000 in
theorem sorted_any (base c : Nat) (a : Option Addr) (l : List Nat) (w : World) (hown : w.ownsRow base 3 1 (.slice a l.length c) l.length (nums l)) (hl : l.length ≤ 12) (hbs : base ≤ w.heap.size) :
    Calls Tryz.prog 46 #[.slice a l.length c] w (SortedOf base a c l w) := by
  by_cases h0 : l.length = 0
  · have hn : l = [] := List.eq_nil_of_length_eq_zero h0
    subst hn
    have HO := Lib.hid hown; clear hown h0
    have HS := Lib.hid (sort_sorted a 0 c [] w rfl (by omega) (own_sl (l := []) HO.out (by simp)) List.Pairwise.nil)
    go_enter Tryz.func46, Tryz.ntmps46
    go_wp2_with fail
    refine HS.out.mono ?_
    rintro e w' ⟨⟨v, rfl⟩, hx⟩
    have HX := Lib.hid hx; clear hx
    go_wp2
    go_ret
    exact ⟨[], rfl, rfl, List.Perm.refl _, fun p q h1 h2 => by simp at h2, own_ext HO.out HX.out, Below.mono HX.out hbs⟩
  · obtain ⟨g, rfl, hrow, hg, hm⟩ := own_rowC hown (by omega)
    have HS := Lib.hid (sort_any base g c l w hrow hg hl)
    clear hown hrow h0
    go_enter Tryz.func46, Tryz.ntmps46
    go_wp2_with fail
    refine HS.out.mono ?_
    rintro e w' ⟨⟨v, rfl⟩, L, hR, hP, hL, hS, hB⟩
    have HR := Lib.hid (hR.own hg hm)
    have HL := Lib.hid hL
    clear hR hL
    go_wp2
    go_ret
    exact ⟨L, by rw [HL.out]; rfl, HL.out, hP, hS, HR.out, hB⟩
end Go.Proofs.YtdejaliegbmgaaaGreat

namespace Go.Proofs.YtdejaliegbmgaaaGreat
open Go.RowKit

/-- A list in memory of the call's own was returned. -/
def RowOf (l : List Nat) (w : World) (e : Ending) (w' : World) : Prop :=
  ∃ (a : Option Addr) (c : Nat), e = .returned (.slice a l.length c) ∧ w'.ownsRow w.heap.size 3 1 (.slice a l.length c) l.length (nums l) ∧ Ext w w'

theorem num_of {w : World} {s : SL Nat} (h : IsSl 1 num w s) (hl : 0 < s.l.length) : ∃ b off, s.a = some ⟨b, off, none⟩ ∧ ∀ i, i < s.l.length → w.cell? ⟨b, off + i, none⟩ = some (.int .i64 (gt s.l i : Int)) := by
  obtain ⟨h1, h2, h3⟩ := h
  obtain ⟨b, off, h4, h5⟩ := h3.resolve_left (by omega)
  refine ⟨b, off, h4, fun i hi => ?_⟩
  have := h5 i hi 0 (by omega)
  unfold gt
  rw [List.getElem?_eq_getElem hi]
  simpa [num] using this

set_option maxRecDepth 100000 in
set_option maxHeartbeats 2000000 in
theorem renamed_any (s q : SL Nat) (w : World) (hs : IsSl 1 num w s) (hq : IsSl 1 num w q) (hlt : ∀ x ∈ s.l, x < q.l.length) :
    Calls Tryz.prog 45 #[.slice s.a s.l.length s.c, .slice q.a q.l.length q.c] w (RowOf (s.l.map (gt q.l)) w) := by
  obtain ⟨i0, hi, hz0, hz1, hz2⟩ := info_parts info3
  have hsl := hs.2.1
  have HSl := Lib.hid hs; clear hs
  have HQ := Lib.hid hq; clear hq
  have HL := Lib.hid hlt; clear hlt
  obtain ⟨sa, sc, sl⟩ := s
  obtain ⟨qa, qc, ql⟩ := q
  dsimp only at hsl ⊢
  go_enter Tryz.func45, Tryz.ntmps45
  go_wp2
  go_loopw [5, 10] (fun v i wr => ∃ (k : Nat) (o : SL Nat), k ≤ sl.length ∧ i = .int .i64 (k : Int) ∧ v = .slice o.a o.l.length o.c ∧ Hid (o.l = (sl.take k).map (gt ql)) ∧ Hid (wr.ownsRow w.heap.size 3 1 (.slice o.a o.l.length o.c) o.l.length (nums o.l)) ∧ Hid (Ext w wr)) (fun _ i _ => sl.length - (intOf i).toNat)
  case atStart => exact ⟨0, ⟨none, 0, []⟩, Nat.zero_le _, rfl, rfl, rfl, World.ownsRow_nil _ _ _ _, Ext.refl _⟩
  case round =>
    obtain ⟨wo, rfl⟩ : ∃ wo : World, wo = wr := ⟨_, rfl⟩
    obtain ⟨k, o, hk, rfl, rfl, HOl, HO, HX⟩ := hrel
    have hol : o.l.length = k := by rw [HOl.out, List.length_map, List.length_take]; omega
    by_cases hlt : k < sl.length
    · have dk : decide ((k : Int) < (sl.length : Int)) = true := decide_eq_true (by omega)
      obtain ⟨bs, os, rfl, hcs⟩ := num_of (HSl.out.ext HX.out) (by dsimp only; omega)
      have c1 : wo.cell? ⟨bs, os + k, none⟩ = some (.int .i64 (gt sl k : Int)) := hcs k hlt
      have hxq : gt sl k < ql.length := HL.out _ (by unfold gt; rw [List.getElem?_eq_getElem hlt]; exact List.getElem_mem hlt)
      obtain ⟨bq, oq, rfl, hcq⟩ := num_of (HQ.out.ext HX.out) (by dsimp only; omega)
      have c2 : wo.cell? ⟨bq, oq + gt sl k, none⟩ = some (.int .i64 (gt ql (gt sl k) : Int)) := hcq _ hxq
      have HOn : Hid ((sl.take (k + 1)).map (gt ql) = (sl.take k).map (gt ql) ++ [gt ql (gt sl k)]) := by
        show _ = _
        rw [List.take_succ_eq_append_getElem hlt, List.map_append]
        congr 1
        unfold gt; rw [List.getElem?_eq_getElem hlt]; rfl
      clear hcs hcq
      generalize gt ql (gt sl k) = y at *
      generalize gt sl k = x at *
      have x0 : (0 : Int) ≤ (x : Int) := by omega
      have x1 : (x : Int) < (ql.length : Int) := by omega
      have k0 : (0 : Int) ≤ (k : Int) := by omega
      have hm6 : o.l.length + 1 ≤ maxLen := by unfold maxLen; omega
      have ho6 : o.l.length ≤ 1000000 := by omega
      have hb1 : w.heap.size ≤ wo.heap.size + 1 := by have := HX.out.size; omega
      have HOL := Lib.hid hol; clear hol
      go_wp2_with (at_builtin; go_must (refine wpList_append_own _ rfl _ _ 24 rfl w.heap.size 3 i0 (.int .i64 0) 1 8 Tryz.underlying24 hi hz0 hz1 hz2 rfl (by decide) _ o.l.length (nums o.l) rfl (HO.out.alloc _) ⟨wo.heap.size, 0, none⟩ 1 1 (nums [y]) rfl rfl (new_cells wo (nums [y]) 3) (nums_one [y]) hm6 (by omega) (by simp; omega) ?_); intro v' w9 hown hgrow _; obtain ⟨g, cap, rfl⟩ := ownsRow_succ hown; have HX9 : Hid (Ext w w9) := ext_grown_of (HX.out.alloc _) hgrow (fun i hi => own_lt HO.out i hi); have HO9 := Lib.hid hown; clear hown hgrow)
      go_roundw
      case rel => exact ⟨k + 1, ⟨some ⟨g, 0, none⟩, cap, o.l ++ [y]⟩, by omega, by go_num, by simp, by show _ = _; rw [HOn.out, HOl.out], by show World.ownsRow _ _ _ _ (.slice _ (o.l ++ [y]).length _) (o.l ++ [y]).length (nums (o.l ++ [y])); rw [nums_append, List.length_append]; exact HO9.out, HX9⟩
      case measure => simp [intOf]; omega
    · have hke : k = sl.length := by omega
      have dk : decide ((k : Int) < (sl.length : Int)) = false := decide_eq_false (by omega)
      have HOe : Hid (o.l = sl.map (gt ql)) := by
        have := HOl.out
        rwa [List.take_of_length_le (by omega)] at this
      clear HOl hke hol
      go_wp2
      go_ret
      refine ⟨o.a, o.c, ?_, ?_, HX.out⟩
      · rw [← HOe.out]; rfl
      · rw [← HOe.out]; exact HO.out

theorem DExt.setG {D g i : Nat} {w x : World} {v : Value} (h : DExt D w x) (hg : w.heap.size ≤ g) : DExt D w (x.setCell ⟨g, i, none⟩ v) :=
  h.grown (row := some g) ⟨rfl, rfl, rfl, by simp [World.setCell], fun k _ hne => Below.heap_setCell _ _ _ _ (fun e => hne (by rw [e]))⟩ (fun i e => by cases e; exact hg)
/-- Two numbers of a row were changed. -/
theorem Row.swq {w : World} {g : Nat} {L : List Nat} {cap i r : Nat} (h : Row w g L cap) (hi : i < L.length) (hr : r < L.length) :
    ∃ L' : List Nat, L'.Perm L ∧ L'.length = L.length ∧ Row ((w.setCell ⟨g, i, none⟩ (.int .i64 (YtdejaliegbmgaaaGreat.gt L r : Int))).setCell ⟨g, r, none⟩ (.int .i64 (YtdejaliegbmgaaaGreat.gt L i : Int))) g L' cap := by
  refine ⟨(L.set i (YtdejaliegbmgaaaGreat.gt L r)).set r (YtdejaliegbmgaaaGreat.gt L i), ?_, by simp, (h.set i _ hi).set r _ (by rw [List.length_set]; exact hr)⟩
  have e1 : YtdejaliegbmgaaaGreat.gt L r = L[r] := by unfold YtdejaliegbmgaaaGreat.gt; rw [List.getElem?_eq_getElem hr]; rfl
  have e2 : YtdejaliegbmgaaaGreat.gt L i = L[i] := by unfold YtdejaliegbmgaaaGreat.gt; rw [List.getElem?_eq_getElem hi]; rfl
  rw [e1, e2]; exact List.set_set_perm hi hr

/-- Some order of the numbers less than n was dealt. -/
def ShufOf (D : Nat) (a : Option Addr) (nn c k n : Nat) (w : World) (e : Ending) (w' : World) : Prop :=
  ∃ (a' : Option Addr) (c' : Nat) (L : List Nat) (k' : Nat), e = .returned (.slice a' L.length c') ∧ w'.ownsRow w.heap.size 3 1 (.slice a' L.length c') L.length (nums L) ∧ L.length = n ∧ L.Perm (List.range n) ∧ IsDeck w' D a nn c k' ∧ k' ≤ k + n ∧ DExt D w w'

set_option maxRecDepth 100000 in
set_option maxHeartbeats 2000000 in
theorem shuffle_any (D : Nat) (a : Option Addr) (nn c k n : Nat) (w : World) (hd : IsDeck w D a nn c k) (hb : ∀ b off, a = some ⟨b, off, none⟩ → 0 < nn → b < w.heap.size) (hk : k + n ≤ 1000000) (hn : n ≤ 1000) :
    Calls Tryz.prog 44 #[.pointer (some ⟨D, 0, none⟩), .int .i64 (n : Int)] w (ShufOf D a nn c k n w) := by
  obtain ⟨i0, hi, hz0, hz1, hz2⟩ := info_parts info3
  have hDl := hd.lt
  have HD := Lib.hid hd; clear hd
  have HB := Lib.hid hb; clear hb
  have hmk : ∀ w, (Instr.makeSlice 24 (.int .i64 0) (.int .i64 (n : Int))).run Tryz.prog w = .ok (.slice (some ⟨w.heap.size, 0, none⟩) 0 n) (w.alloc (.cells (madeCells #[.int .i64 0] (n * 1)) 3)) := by
    intro w
    have := run_make (P := Tryz.prog) (w := w) 24 3 i0 (.int .i64 0) Tryz.underlying24 hi hz0 .i64 .i64 0 (n : Int) (by omega) (by omega) (by rw [hz2]; omega) (by omega)
    rw [hz1, show (Value.int IntKind.i64 0).cells = #[.int .i64 0] from rfl] at this
    simpa using this
  have hmx : (if (0 : Int) < (n : Int) then (n : Int) else 0) = (n : Int) := by split <;> omega
  have hmx2 : (if 0 < n then (n : Int) else 0) = (n : Int) := by split <;> omega
  have hmsz := size_madeCells #[Value.int .i64 0] (n * 1)
  generalize madeCells #[Value.int .i64 0] (n * 1) = mc at *
  have HO0 : Hid ((w.alloc (.cells mc 3)).ownsRow w.heap.size 3 1 (.slice (some ⟨w.heap.size, 0, none⟩) 0 n) 0 []) := World.ownsRow_made w mc n (Nat.le_refl _) (by unfold maxLen; omega) (by rw [hmsz])
  have HX0 : Hid (Ext w (w.alloc (.cells mc 3))) := (Ext.refl w).alloc _
  clear hmsz
  go_enter Tryz.func44, Tryz.ntmps44
  go_wp2
  clear hmk
  generalize w.alloc (.cells mc 3) = v0 at *
  go_loopw [5, 14] (fun v i wr => ∃ (j : Nat) (o : SL Nat), j ≤ n ∧ i = .int .i64 (j : Int) ∧ v = .slice o.a o.l.length o.c ∧ Hid (o.l = List.range j) ∧ Hid (wr.ownsRow w.heap.size 3 1 (.slice o.a o.l.length o.c) o.l.length (nums o.l)) ∧ Hid (Ext w wr)) (fun _ i _ => n - (intOf i).toNat)
  case atStart => exact ⟨0, ⟨some ⟨w.heap.size, 0, none⟩, n, []⟩, Nat.zero_le _, rfl, rfl, rfl, HO0.out, HX0.out⟩
  case round =>
    obtain ⟨wo, rfl⟩ : ∃ wo : World, wo = wr := ⟨_, rfl⟩
    obtain ⟨j, o, hj, rfl, rfl, HOl, HO, HX⟩ := hrel
    have hol : o.l.length = j := by rw [HOl.out, List.length_range]
    by_cases hlt : j < n
    · have dj : decide ((j : Int) < (n : Int)) = true := decide_eq_true (by omega)
      have hm6 : o.l.length + 1 ≤ maxLen := by unfold maxLen; omega
      have ho6 : o.l.length ≤ 1000000 := by omega
      have hb1 : w.heap.size ≤ wo.heap.size + 1 := by have := HX.out.size; omega
      have HOL := Lib.hid hol; clear hol
      go_wp2_with (at_builtin; go_must (refine wpList_append_own _ rfl _ _ 24 rfl w.heap.size 3 i0 (.int .i64 0) 1 8 Tryz.underlying24 hi hz0 hz1 hz2 rfl (by decide) _ o.l.length (nums o.l) rfl (HO.out.alloc _) ⟨wo.heap.size, 0, none⟩ 1 1 (nums [j]) rfl rfl (new_cells wo (nums [j]) 3) (nums_one [j]) hm6 (by omega) (by simp; omega) ?_); intro v' w9 hown hgrow _; obtain ⟨g, cap, rfl⟩ := ownsRow_succ hown; have HX9 : Hid (Ext w w9) := ext_grown_of (HX.out.alloc _) hgrow (fun i hi => own_lt HO.out i hi); have HO9 := Lib.hid hown; clear hown hgrow)
      go_roundw
      case rel => exact ⟨j + 1, ⟨some ⟨g, 0, none⟩, cap, o.l ++ [j]⟩, by omega, by go_num, by simp, by show _ = _; rw [HOl.out, List.range_succ], by show World.ownsRow _ _ _ _ (.slice _ (o.l ++ [j]).length _) (o.l ++ [j]).length (nums (o.l ++ [j])); rw [nums_append, List.length_append]; exact HO9.out, HX9⟩
      case measure => simp [intOf]; omega
    · have hje : j = n := by omega
      have dj : decide ((j : Int) < (n : Int)) = false := decide_eq_false (by omega)
      obtain ⟨oa, oc, ol⟩ := o
      dsimp only at HOl HO hol
      have HOn : Hid (ol.Perm (List.range n)) := by show List.Perm _ _; rw [HOl.out, hje]
      have HDo : Hid (IsDeck wo D a nn c k) := HD.out.ext HX.out
      dsimp only
      have hon : ol.length = n := by omega
      rw [hon]
      have HO2 : Hid (wo.ownsRow w.heap.size 3 1 (.slice oa n oc) n (nums ol)) := by show World.ownsRow _ _ _ _ _ _ _; rw [← hon]; exact HO.out
      have HON := Lib.hid hon
      clear hje hol hon HO HOl HD
      go_wp2
      go_loopw [7] (fun iv wr => ∃ (m k' : Nat) (L : List Nat), iv = .int .i64 (m : Int) ∧ m ≤ n ∧ Hid (L.length = n) ∧ Hid (L.Perm (List.range n)) ∧ Hid (wr.ownsRow w.heap.size 3 1 (.slice oa n oc) n (nums L)) ∧ Hid (IsDeck wr D a nn c k') ∧ k' + m ≤ k + n ∧ Hid (DExt D w wr)) (fun iv _ => (intOf iv).toNat)
      case atStart => exact ⟨n, k, ol, rfl, Nat.le_refl _, HON, HOn, HO2, HDo, by omega, (DExt.refl D w).ext HX.out⟩
      case round =>
        obtain ⟨wi, rfl⟩ : ∃ wi : World, wi = wr := ⟨_, rfl⟩
        obtain ⟨m, k', L, rfl, hm, HLn, HLp, HLo, HDi, hk', HXi⟩ := hrel
        by_cases hm1 : 1 < m
        · obtain ⟨p, rfl⟩ : ∃ p, m = p + 1 := ⟨m - 1, by omega⟩
          rw [Int.natCast_add, Int.natCast_one]
          have dm : decide ((1 : Int) < (p : Int) + 1) = true := decide_eq_true (by omega)
          have dm2 : decide ((0 : Int) < (p : Int)) = true := decide_eq_true (by omega)
          have dm3 : decide (0 < p) = true := decide_eq_true (by omega)
          have hLn := HLn.out
          obtain ⟨g, rfl, hrow, hg, hcm⟩ := own_rowC (base := w.heap.size) (l := L) (a := oa) (c := oc) (by rw [hLn]; exact HLo.out) (by omega)
          have HRw := Lib.hid hrow
          have HDr := draw_any D a nn c k' (p + 1) wi HDi.out (by omega) (by omega)
          rw [Int.natCast_add, Int.natCast_one] at HDr
          clear hrow hLn
          go_wp2_with fail
          refine HDr.mono ?_
          clear HDr
          rintro e w1 ⟨r, k2, hr, hk2, rfl, hd1, hg1⟩
          have hrm : r < p + 1 := by omega
          have HD1 := Lib.hid hd1
          have HX1 : Hid (DExt D w w1) := HXi.out.trans hg1
          have hgD : g ≠ D := by omega
          have HR1 : Hid (Row w1 g L oc) := HRw.out.dext hg1 hgD
          obtain ⟨L', hp', hl', hr'⟩ := HR1.out.swq (i := p) (r := r) (by have := HLn.out; omega) (by have := HLn.out; omega)
          have HP' := Lib.hid hp'
          have HL' := Lib.hid hl'
          have HR' := Lib.hid hr'
          have c0 := HR1.out.gt p (by have := HLn.out; omega)
          have c1 := HR1.out.gt r (by have := HLn.out; omega)
          have f0 := HR1.out.frozen p
          have f1 := HR1.out.frozen r
          have i1 : (0 : Int) ≤ (p : Int) := by omega
          have i2 : (p : Int) < (n : Int) := by omega
          have i3 : (0 : Int) ≤ (r : Int) := by omega
          have i4 : (r : Int) < (n : Int) := by omega
          have i5 : IntKind.i64.wrap (p : Int) = (p : Int) := IntWalk.i64_in _ (by omega)
          have HBg : Hid (∀ b off, a = some ⟨b, off, none⟩ → 0 < nn → b < g) := fun b off e1 e2 => Nat.lt_of_lt_of_le (HB.out b off e1 e2) hg
          have HLn' : Hid (L'.length = n) := HL'.out.trans HLn.out
          have HPn : Hid (L'.Perm (List.range n)) := HP'.out.trans HLp.out
          have hon' := HR'.out.own hg hcm
          rw [HLn'.out] at hon'
          have HOn' := Lib.hid hon'
          clear hd1 hg1 hr HLo HRw hp' hl' hr' dm dm2 dm3 hon'
          go_upto_region 11 with (fail)
          by_cases hrp : r = p
          · subst hrp
            generalize gt L r = x at *
            go_region
            all_goals go_wp2_with fail
            all_goals exact ⟨⟨r, k2, L', rfl, by omega, HLn', HPn, own_ext HOn' (Ext.refl _).drew, (deck_setB (deck_setB HD1.out hgD HBg.out) hgD HBg.out).ext (Ext.refl _).drew, by omega, ((HX1.out.setG hg).setG hg).ext (Ext.refl _).drew⟩, by simp [intOf]⟩
          · have hpr : ¬ p = r := fun e => hrp e.symm
            generalize gt L r = x at *
            generalize gt L p = y at *
            go_region
            all_goals go_wp2_with fail
            all_goals exact ⟨⟨p, k2, L', rfl, by omega, HLn', HPn, own_ext HOn' (Ext.refl _).drew, (deck_setB (deck_setB HD1.out hgD HBg.out) hgD HBg.out).ext (Ext.refl _).drew, by omega, ((HX1.out.setG hg).setG hg).ext (Ext.refl _).drew⟩, by simp [intOf]⟩
        · have dm : decide ((1 : Int) < (m : Int)) = false := decide_eq_false (by omega)
          go_wp2
          go_ret
          exact ⟨oa, oc, L, k', by rw [HLn.out]; rfl, by rw [HLn.out]; exact HLo.out, HLn.out, HLp.out, HDi.out, by omega, HXi.out⟩
end Go.Proofs.YtdejaliegbmgaaaGreat

namespace Go.Proofs.YtdejaliegbmgaaaGreat
open Go.RowKit

/-- A row was sorted in its place. -/
def SortG (g c : Nat) (l : List Nat) (w : World) (w' : World) : Prop := ∃ L : List Nat, Row w' g L c ∧ L.Perm l ∧ L.length = l.length ∧ Srt L l.length ∧ DExt g w w'


set_option maxRecDepth 100000 in
set_option maxHeartbeats 2000000 in
theorem insertion_g (g c : Nat) (l : List Nat) (w : World) (hrow : Row w g l c) (hl : l.length ≤ 1000) :
    Calls Tryz.prog 125 #[.slice (some ⟨g, 0, none⟩) l.length c, .int .i64 0, .int .i64 (l.length : Int)] w fun e w' => (∃ v, e = .returned v) ∧ SortG g c l w w' := by
  have HR := Lib.hid hrow; clear hrow
  go_enter Tryz.func125, Tryz.ntmps125
  go_wp2
  go_loopw [6] (fun i wr => ∃ (j : Nat) (L : List Nat), i = .int .i64 ((j : Int) + 1) ∧ (j = 0 ∨ j + 1 ≤ l.length) ∧ Hid (Row wr g L c) ∧ Hid (L.Perm l) ∧ L.length = l.length ∧ Hid (Srt L (j + 1)) ∧ Hid (DExt g w wr)) (fun i _ => l.length + 1 - (intOf i).toNat)
  case atStart => exact ⟨0, l, rfl, .inl rfl, HR.out, List.Perm.refl _, rfl, fun p q h1 h2 => by omega, DExt.refl _ _⟩
  case round =>
    obtain ⟨wo, rfl⟩ : ∃ wo : World, wo = wr := ⟨_, rfl⟩
    obtain ⟨j, L, rfl, hj, HRo, HP, hLl, HS, HB⟩ := hrel
    have HLl := Lib.hid hLl; clear hLl
    by_cases hlt : j + 1 < l.length
    · have hd : decide ((j : Int) + 1 < (l.length : Int)) = true := decide_eq_true (by omega)
      clear hj
      go_wp2
      go_loopw [7] (fun s wx => ∃ (m : Nat) (M : List Nat), s = .int .i64 (m : Int) ∧ m ≤ j + 1 ∧ Hid (Row wx g M c) ∧ Hid (M.Perm l) ∧ Hid (M.length = l.length) ∧ Hid (SrtBut M (j + 1) m) ∧ Hid (DExt g w wx)) (fun s _ => (intOf s).toNat)
      case atStart => exact ⟨j + 1, L, by go_num, Nat.le_refl _, HRo, HP, HLl, srtBut_start HS.out, HB⟩
      case round =>
        obtain ⟨wi, rfl⟩ : ∃ wi : World, wi = wr := ⟨_, rfl⟩
        obtain ⟨m, M, rfl, hm, HRi, HPi, HMl, HSi, HBi⟩ := hrel
        cases m with
        | zero =>
          have d0 : decide ((0 : Int) < ((0 : Nat) : Int)) = false := by simp
          go_wp2_with fail
          go_quiet (fail)
          go_wp2
          exact ⟨⟨j + 1, M, by simp, .inr (by omega), HRi.out.drN, HPi, HMl.out, srtBut_zero HSi.out, HBi.out.ext ((Ext.refl _).drewN _)⟩, by simp [intOf]; omega⟩
        | succ m =>
          have hMl := HMl.out
          have c0 := HRi.out.gt m (by omega)
          have c1 := HRi.out.gt (m + 1) (by omega)
          have i1 : (0 : Int) ≤ (m : Int) := by omega
          have i2 : (m : Int) < (l.length : Int) := by omega
          have i3 : (m : Int) + 1 < (l.length : Int) := by omega
          have i4 : decide ((0 : Int) < (m : Int) + 1) = true := decide_eq_true (by omega)
          have i5 : (0 : Int) < (m : Int) + 1 := by omega
          have i6 : (0 : Int) ≤ (m : Int) + 1 := by omega
          have i9 : IntKind.i64.wrap (m : Int) = (m : Int) := IntWalk.i64_in _ (by omega)
          clear hMl
          rw [Int.natCast_add, Int.natCast_one]
          by_cases hxy : gt M (m + 1) < gt M m
          · have HSn : Hid (SrtBut (swp M m) (j + 1) m) := srtBut_swp HSi.out (by have := HMl.out; omega) hm hxy
            have HPn : Hid ((swp M m).Perm l) := (swp_perm M m (by have := HMl.out; omega)).trans HPi.out
            have hlt2 : ((gt M (m + 1) : Nat) : Int) < ((gt M m : Nat) : Int) := by omega
            clear hxy
            obtain ⟨y, hy⟩ : ∃ y, gt M (m + 1) = y := ⟨_, rfl⟩
            obtain ⟨x, hx⟩ : ∃ x, gt M m = x := ⟨_, rfl⟩
            rw [hx] at c0 hlt2
            rw [hy] at c1 hlt2
            have HX := Lib.hid hx
            have HY := Lib.hid hy
            clear hx hy
            go_wp2_with fail
            go_quiet ((go_at_call 131; exact quiet_same (less_lt (y : Int) (x : Int) _ hlt2)))
            go_upto_region 6 with (fail)
            obtain ⟨wd, hwd, HRd, HBd⟩ : ∃ wd, wi.drewN _ = wd ∧ Hid (Row wd g M c) ∧ Hid (DExt g w wd) := ⟨_, rfl, HRi.out.drN, HBi.out.ext ((Ext.refl _).drewN _)⟩
            rw [hwd]
            clear hwd c0 c1
            have c0 := HRd.out.gt m (by have := HMl.out; omega)
            have c1 := HRd.out.gt (m + 1) (by have := HMl.out; omega)
            rw [HX.out] at c0
            rw [HY.out] at c1
            have f0 := HRd.out.frozen m
            have f1 := HRd.out.frozen (m + 1)
            have HRn := Lib.hid (HRd.out.swp (m := m) (by have := HMl.out; omega))
            rw [HX.out, HY.out] at HRn
            go_region
            all_goals go_wp2_with fail
            all_goals exact ⟨⟨m, swp M m, rfl, by omega, HRn.out.1.dr, HPn, by show _ = _; rw [swp_length]; exact HMl.out, HSn, ((HBd.out.setD _ _).setD _ _).ext (Ext.refl _).drew⟩, by simp [intOf]⟩
          · have HSn : Hid (Srt M (j + 1 + 1)) := srtBut_end HSi.out (by omega)
            have hge2 : ((gt M m : Nat) : Int) ≤ ((gt M (m + 1) : Nat) : Int) := by omega
            clear hxy
            generalize gt M (m + 1) = y at *
            generalize gt M m = x at *
            go_wp2_with fail
            go_quiet ((go_at_call 131; exact quiet_same (less_ge (y : Int) (x : Int) _ hge2)))
            go_wp2
            exact ⟨⟨j + 1, M, by simp, .inr (by omega), HRi.out.drN, HPi, HMl.out, HSn, HBi.out.ext ((Ext.refl _).drewN _)⟩, by simp [intOf]; omega⟩
    · have hd : decide ((j : Int) + 1 < (l.length : Int)) = false := decide_eq_false (by omega)
      have HSn : Hid (Srt L l.length) := fun p q h1 h2 => HS.out p q h1 (by omega)
      clear hj
      go_wp2
      go_end0
      exact ⟨⟨_, rfl⟩, L, HRo.out, HP.out, HLl.out, HSn, HB.out⟩

set_option maxRecDepth 100000 in
set_option maxHeartbeats 1000000 in
theorem pdq_g (g c : Nat) (l : List Nat) (k : Int) (w : World) (hrow : Row w g l c) (hl : l.length ≤ 12) :
    Calls Tryz.prog 96 #[.slice (some ⟨g, 0, none⟩) l.length c, .int .i64 0, .int .i64 (l.length : Int), .int .i64 k] w fun e w' => (∃ v, e = .returned v) ∧ SortG g c l w w' := by
  have HI := Lib.hid (insertion_g g c l w hrow (by omega)); clear hrow
  have h12 : (l.length : Int) ≤ 12 := by omega
  go_enter Tryz.func96, Tryz.ntmps96
  go_wp2
  go_loopw [1, 2] (fun s1 s wx => s1 = .int .i64 0 ∧ s = .int .i64 (l.length : Int) ∧ wx = w) (fun _ _ _ => 0)
  case atStart => exact ⟨rfl, rfl, rfl⟩
  case round =>
    obtain ⟨rfl, rfl, rfl⟩ := hrel
    go_wp2_with fail
    refine HI.out.mono ?_
    rintro e w' ⟨⟨v, rfl⟩, hx⟩
    have HX := Lib.hid hx; clear hx
    go_wp2
    refine bodyPost_ret (results_none rfl _ _ _) rfl ?_
    exact ⟨⟨_, rfl⟩, HX.out⟩

set_option maxHeartbeats 1000000 in
theorem sort_g (g c : Nat) (l : List Nat) (w : World) (hrow : Row w g l c) (hl : l.length ≤ 12) :
    Calls Tryz.prog 47 #[.slice (some ⟨g, 0, none⟩) l.length c] w fun e w' => (∃ v, e = .returned v) ∧ SortG g c l w w' := by
  have HI : ∀ k, Hid (Calls Tryz.prog 96 #[.slice (some ⟨g, 0, none⟩) l.length c, .int .i64 0, .int .i64 (l.length : Int), .int .i64 k] w fun e w' => (∃ v, e = .returned v) ∧ SortG g c l w w') := fun k => pdq_g g c l k w hrow hl
  clear hrow
  go_enter Tryz.func47, Tryz.ntmps47
  go_wp2_with fail
  refine (len_any l.length _ hl).mono ?_
  rintro e w' ⟨⟨k, rfl⟩, rfl⟩
  go_wp2_with fail
  refine (HI k).out.mono ?_
  rintro e w' ⟨⟨v, rfl⟩, hx⟩
  have HX := Lib.hid hx; clear hx
  go_wp2
  go_end0
  exact ⟨⟨_, rfl⟩, HX.out⟩

/-- sorted: a list of the call's own that was sorted in its place; nothing but its own block was turned. -/
def SortedG (base : Nat) (a : Option Addr) (c : Nat) (l : List Nat) (w : World) (e : Ending) (w' : World) : Prop :=
  ∃ L : List Nat, e = .returned (.slice a L.length c) ∧ L.length = l.length ∧ L.Perm l ∧ Srt L l.length ∧ w'.ownsRow base 3 1 (.slice a L.length c) L.length (nums L) ∧ w.grownBy w' (Value.slice a l.length c).ownBlock
set_option maxHeartbeats 1000000 in
theorem sorted_g (base c : Nat) (a : Option Addr) (l : List Nat) (w : World) (hown : w.ownsRow base 3 1 (.slice a l.length c) l.length (nums l)) (hl : l.length ≤ 12) :
    Calls Tryz.prog 46 #[.slice a l.length c] w (SortedG base a c l w) := by
  by_cases h0 : l.length = 0
  · have hn : l = [] := List.eq_nil_of_length_eq_zero h0
    subst hn
    have HO := Lib.hid hown; clear hown h0
    have HS := Lib.hid (sort_sorted a 0 c [] w rfl (by omega) (own_sl (l := []) HO.out (by simp)) List.Pairwise.nil)
    go_enter Tryz.func46, Tryz.ntmps46
    go_wp2_with fail
    refine HS.out.mono ?_
    rintro e w' ⟨⟨v, rfl⟩, hx⟩
    have HX := Lib.hid hx; clear hx
    go_wp2
    go_ret
    exact ⟨[], rfl, rfl, List.Perm.refl _, fun p q h1 h2 => by simp at h2, own_ext HO.out HX.out, ⟨Below.os HX.out, Below.tape HX.out, Below.output HX.out, Below.size HX.out, fun i hi _ => Below.block HX.out i hi⟩⟩
  · obtain ⟨g, rfl, hrow, hg, hm⟩ := own_rowC hown (by omega)
    have HS := Lib.hid (sort_g g c l w hrow hl)
    clear hown hrow h0
    go_enter Tryz.func46, Tryz.ntmps46
    go_wp2_with fail
    refine HS.out.mono ?_
    rintro e w' ⟨⟨v, rfl⟩, L, hR, hP, hL, hS, hB⟩
    have HR := Lib.hid (hR.own hg hm)
    have HL := Lib.hid hL
    clear hR hL
    go_wp2
    go_ret
    exact ⟨L, by rw [HL.out]; rfl, HL.out, hP, hS, HR.out, hB⟩
end Go.Proofs.YtdejaliegbmgaaaGreat
