/-
  Made deals a treaty that is valid, in new memory; but for the deck it turns nothing that was there.
-/
import Derived.Test.YtopjjcgmcieboaaGreatDoorJl
import Derived.Deep.RegionHeld3
import Derived.Deep.AppendLies
import Derived.Deep.CutBlock
import Derived.Deep.RegionLaw
namespace Go.Proofs.YtopjjcgmcieboaaGreatDoor
open Go.RowKit

/-- A way that is valid in a ground of P places. -/
def WayOk (P : Nat) (x : Nat × Nat × Nat) : Prop := x.1 < P ∧ x.2.1 < P ∧ x.1 ≠ x.2.1 ∧ x.2.2 ≤ 7

/-- A treaty was dealt. -/
def MadeOf (D : Nat) (a : Option Addr) (n c _k N : Nat) (w : World) (e : Ending) (w' : World) : Prop :=
  ∃ (t : TV) (k' : Nat), e = .returned t.v ∧ IsTo D w' t ∧ OkT t ∧ t.legs.l.length ≤ N ∧ IsDeck w' D a n c k' ∧ k' ≤ 2000 ∧ DExt D w w'

theorem way_mod (x b P : Nat) (hx : x < P) (h1 : 1 ≤ b) (h2 : b + 1 ≤ P) : ∃ m : Nat, m < P ∧ x ≠ m ∧ ((x : Int) + (b : Int)).tmod (P : Int) = (m : Int) := by
  refine ⟨(x + b) % P, Nat.mod_lt _ (by omega), fun e => ?_, ?_⟩
  · by_cases h : x + b < P
    · rw [Nat.mod_eq_of_lt h] at e; omega
    · rw [Nat.mod_eq_sub_mod (by omega), Nat.mod_eq_of_lt (by omega)] at e; omega
  · rw [Int.tmod_eq_emod_of_nonneg (by omega)]
    exact_mod_cast rfl

/-- A way was appended, and is stored. -/
theorem way_leaf {D B base P j k2 k5 n c : Nat} {a : Option Addr} {w2 v2 v3 : World} {s : SL (Nat × Nat × Nat)} {q : Nat × Nat × Nat} {tmp : Obj} {g cap : Nat} (hDb : D < base) (hBb : B < base) (hbase : w2.heap.size = base) (hBt : ∀ b off, a = some ⟨b, off, none⟩ → 0 < n → b < B)
    (HL : s.l.length = j) (HO : v2.ownsRow base 59 3 (.slice s.a s.l.length s.c) s.l.length (flat 3 wayC s.l)) (HW : ∀ x ∈ s.l, WayOk P x) (HD : IsDeck v2 D a n c k5) (HM : MkT v2 B P s.v (.slice none 0 0) (.slice none 0 0) (.slice none 0 0)) (HG : G2 D B w2 v2)
    (hown : v3.ownsRow base 59 3 (.slice (some ⟨g, 0, none⟩) (s.l.length + 1) cap) (s.l.length + 1) (flat 3 wayC s.l ++ flat 3 wayC [q])) (hgrow : (v2.alloc tmp).grownBy v3 (Value.slice s.a s.l.length s.c).ownBlock) (hq : WayOk P q) (hk : k5 ≤ k2 + 3 * (j + 1)) :
    (v3.cell? ⟨B, 1, none⟩ = some (.slice s.a s.l.length s.c) ∧ v3.frozen? ⟨B, 1, none⟩ = false) ∧
      ∃ (s' : SL (Nat × Nat × Nat)) (k5 : Nat), Hid (s'.l.length = j + 1) ∧ Hid ((v3.setCell ⟨B, 1, none⟩ (.slice (some ⟨g, 0, none⟩) (s.l.length + 1) cap)).ownsRow base 59 3 (.slice s'.a s'.l.length s'.c) s'.l.length (flat 3 wayC s'.l)) ∧ Hid (∀ x ∈ s'.l, WayOk P x) ∧ Hid (IsDeck (v3.setCell ⟨B, 1, none⟩ (.slice (some ⟨g, 0, none⟩) (s.l.length + 1) cap)) D a n c k5) ∧ k5 ≤ k2 + 3 * (j + 1) ∧ Hid (MkT (v3.setCell ⟨B, 1, none⟩ (.slice (some ⟨g, 0, none⟩) (s.l.length + 1) cap)) B P s'.v (.slice none 0 0) (.slice none 0 0) (.slice none 0 0)) ∧ Hid (G2 D B w2 (v3.setCell ⟨B, 1, none⟩ (.slice (some ⟨g, 0, none⟩) (s.l.length + 1) cap))) := by
  have hrow : ∀ i, (Value.slice s.a s.l.length s.c).ownBlock = some i → base ≤ i := fun i hi => own_lt HO i hi
  have HMa : MkT (v2.alloc tmp) B P s.v (.slice none 0 0) (.slice none 0 0) (.slice none 0 0) := ((Ext.refl v2).alloc tmp).block HM
  have HM3 : MkT v3 B P s.v (.slice none 0 0) (.slice none 0 0) (.slice none 0 0) := HMa.grown hgrow (fun i hi => by have := hrow i hi; omega)
  have HD3 : IsDeck v3 D a n c k5 := (HD.ext ((Ext.refl v2).alloc tmp)).step hgrow (fun i hi => ⟨by have := hrow i hi; omega, fun b off h1 h2 => by have := hrow i hi; have := hBt b off h1 h2; omega⟩)
  have HG3 : G2 D B w2 v3 := (HG.ext ((Ext.refl v2).alloc tmp)).step hgrow (fun i hi => .inr (.inr (by have := hrow i hi; omega)))
  have hlen : (s.l ++ [q]).length = s.l.length + 1 := by simp
  refine ⟨⟨HM3.five.2.1, HM3.frozen 1⟩, ⟨some ⟨g, 0, none⟩, cap, s.l ++ [q]⟩, k5, ?_, ?_, ?_, ?_, hk, ?_, HG3.setB 1 _⟩
  · show _ = _; rw [hlen, HL]
  · show World.ownsRow _ base 59 3 (.slice _ (s.l ++ [q]).length cap) (s.l ++ [q]).length (flat 3 wayC (s.l ++ [q]))
    rw [flat_append, hlen]
    exact G2.own hown ((G2.refl D B v3).setB 1 _) hDb hBb
  · intro x hx
    rcases List.mem_append.1 hx with hx | hx
    · exact HW x hx
    · simp only [List.mem_singleton] at hx; subst hx; exact hq
  · exact HD3.step (row := some B) ⟨rfl, rfl, rfl, by simp [World.setCell], fun k _ hne => Below.heap_setCell _ _ _ _ (fun e => hne (by rw [e]))⟩ (fun i e => by
      cases e
      refine ⟨?_, fun b off h1 h2 => Nat.ne_of_lt (hBt b off h1 h2)⟩
      intro e
      obtain ⟨st, _, hh, _⟩ := HD3
      rw [← e] at hh
      unfold MkT at HM3
      rw [HM3] at hh; simp at hh)
  · show MkT _ B P (.slice _ (s.l ++ [q]).length cap) _ _ _
    rw [hlen]; exact HM3.set1 _
theorem way_one (q : Nat × Nat × Nat) : ∀ u ∈ flat 3 wayC [q], u.oneCell' = true := by
  intro u hu
  simp only [flat, List.flatMap_cons, List.flatMap_nil, List.append_nil, List.mem_map, List.mem_range] at hu
  obtain ⟨j, hj, rfl⟩ := hu
  unfold wayC
  split
  · rfl
  · split <;> rfl

set_option maxRecDepth 100000 in
set_option maxHeartbeats 40000000 in
theorem made_any (D : Nat) (a : Option Addr) (n c k N : Nat) (w : World) (hd : IsDeck w D a n c k) (hb : ∀ b off, a = some ⟨b, off, none⟩ → 0 < n → b < w.heap.size) (hk : k ≤ 1000) (hN : N ≤ 10) :
    Calls Tryz.prog 6 #[.pointer (some ⟨D, 0, none⟩), .int .i64 (N : Int)] w (MadeOf D a n c k N w) := by
  have hDl := hd.lt
  have HD := Lib.hid hd; clear hd
  have HB := Lib.hid hb; clear hb
  go_enter Tryz.func6, Tryz.ntmps6
  go_wp2_with fail
  refine (dbetween_any D a n c k 2 8 _ (HD.out.ext ((Ext.refl w).alloc _)) (by omega) (by omega) (by omega) (by omega)).mono ?_
  rintro e w1 ⟨r, k1, hr1, hr2, hk1, rfl, hd1, hg1⟩
  obtain ⟨P, rfl⟩ : ∃ P : Nat, r = (P : Int) := ⟨r.toNat, by omega⟩
  have hP2 : 2 ≤ P := by omega
  have hP8 : P ≤ 8 := by omega
  clear hr1 hr2
  have HX1 : Hid (DExt D w w1) := ((DExt.refl D w).ext ((Ext.refl w).alloc _)).trans hg1
  have hs1 : w.heap.size < w1.heap.size := by have := hg1.size; rw [World.size_alloc] at this; omega
  have HD1 := Lib.hid hd1; clear hd1
  have HR1 : Hid (w1.heap[w.heap.size]? = some (.cells #[.int .i64 0, .slice none 0 0, .slice none 0 0, .slice none 0 0, .slice none 0 0] 28)) := (hg1.block w.heap.size (by simp) (by simp; omega)).trans (World.alloc_heap_new w _)
  clear hg1
  go_wp2_with fail
  obtain ⟨B, hB⟩ : ∃ B, B = w1.heap.size := ⟨_, rfl⟩
  refine (dbetween_any D a n c k1 2 16 _ (HD1.out.ext ((Ext.refl w1).alloc _)) (by omega) (by omega) (by omega) (by omega)).mono ?_
  rintro e w2 ⟨r, k2, hr1, hr2, hk2, rfl, hd2, hg2⟩
  obtain ⟨nA, rfl⟩ : ∃ nA : Nat, r = (nA : Int) := ⟨r.toNat, by omega⟩
  have hA16 : nA ≤ 16 := by omega
  clear hr1 hr2
  rw [← hB]
  have hs2 : B < w2.heap.size := by have := hg2.size; rw [World.size_alloc] at this; omega
  have hBD : B ≠ D := by omega
  have hDB : D < B := by omega
  have hwB : w.heap.size < B := by omega
  have HM2 : Hid (MkT w2 B P (.slice none 0 0) (.slice none 0 0) (.slice none 0 0) (.slice none 0 0)) := by
    subst hB; exact (hg2.block w1.heap.size (by simp) (by simp; omega)).trans (World.alloc_heap_new w1 _)
  have HX2 : Hid (DExt D w w2) := (HX1.out.ext ((Ext.refl w1).alloc _)).trans hg2
  have HR2 : Hid (w2.heap[w.heap.size]? = some (.cells #[.int .i64 0, .slice none 0 0, .slice none 0 0, .slice none 0 0, .slice none 0 0] 28)) := (hg2.block w.heap.size (by simp; omega) (by simp; omega)).trans (((Ext.refl w1).alloc _).block HR1.out)
  have HD2 := Lib.hid hd2; clear hd2 hg2 HR1 HX1 HD1
  have HBs := Lib.hid hB; clear hB
  have HBt : Hid (∀ b off, a = some ⟨b, off, none⟩ → 0 < n → b < B) := fun b off h1 h2 => by have := HB.out b off h1 h2; omega
  clear hs1
  obtain ⟨i81, hi81, hz81, hs81, hb81⟩ := info_parts info59
  have hP0 : (0 : Int) ≤ (P : Int) := by omega
  go_wp2
  go_loopw [13] (fun i wr => ∃ (j : Nat) (s : SL (Nat × Nat × Nat)) (k' : Nat), j ≤ nA ∧ i = .int .i64 j ∧ Hid (s.l.length = j) ∧ Hid (wr.ownsRow w2.heap.size 59 3 (.slice s.a s.l.length s.c) s.l.length (flat 3 wayC s.l)) ∧ Hid (∀ x ∈ s.l, WayOk P x) ∧ Hid (IsDeck wr D a n c k') ∧ k' ≤ k2 + 3 * j ∧ Hid (MkT wr B P s.v (.slice none 0 0) (.slice none 0 0) (.slice none 0 0)) ∧ Hid (G2 D B w2 wr)) (fun i _ => nA - (intOf i).toNat)
  case atStart => exact ⟨0, ⟨none, 0, []⟩, k2, Nat.zero_le _, rfl, rfl, World.ownsRow_nil _ _ _ _, fun x hx => by simp at hx, HD2.out, by omega, HM2.out, G2.refl _ _ _⟩
  case round =>
    obtain ⟨wo, rfl⟩ : ∃ wo : World, wo = wr := ⟨_, rfl⟩
    obtain ⟨j, s, k', hj, rfl, HL, HO, HW, HDk, hk', HM, HG⟩ := hrel
    by_cases hlt : j < nA
    · have dj : decide ((j : Int) < (nA : Int)) = true := by simpa using hlt
      have hwP0 : IntKind.i64.wrap ((P : Int) - 1) = (P : Int) - 1 := IntWalk.i64_in _ (by omega)
      have HWP := Lib.hid hwP0; clear hwP0
      go_upto_block 1 with (fail)
      go_cut [] (fun wx => ∃ (s' : SL (Nat × Nat × Nat)) (k5 : Nat), Hid (s'.l.length = j + 1) ∧ Hid (wx.ownsRow w2.heap.size 59 3 (.slice s'.a s'.l.length s'.c) s'.l.length (flat 3 wayC s'.l)) ∧ Hid (∀ x ∈ s'.l, WayOk P x) ∧ Hid (IsDeck wx D a n c k5) ∧ k5 ≤ k2 + 3 * (j + 1) ∧ Hid (MkT wx B P s'.v (.slice none 0 0) (.slice none 0 0) (.slice none 0 0)) ∧ Hid (G2 D B w2 wx))
      case first =>
        obtain ⟨c0, c1, -, -, -⟩ := HM.out.five
        go_wp2_with fail
        clear c0 c1
        refine (draw_any D a n c k' P wo HDk.out (by omega) (by omega)).mono ?_
        rintro e w3 ⟨x, k3, hx, hk3, rfl, hd3, hg3⟩
        have hxP : x < P := by omega
        clear hx
        have HD3 := Lib.hid hd3
        have HM3 : Hid (MkT w3 B P s.v (.slice none 0 0) (.slice none 0 0) (.slice none 0 0)) := HM.out.dext hg3 hBD
        have HG3 : Hid (G2 D B w2 w3) := HG.out.dext hg3
        have HO3 : Hid (w3.ownsRow w2.heap.size 59 3 (.slice s.a s.l.length s.c) s.l.length (flat 3 wayC s.l)) := G2.own HO.out ((G2.refl D B wo).dext hg3) (by omega) (by omega)
        clear hd3 hg3 HM HG HO HDk
        go_wp2_with fail
        obtain ⟨c0, c1, -, -, -⟩ := HM3.out.five
        have hDw : D < w2.heap.size := by omega
        have hk3' : k3 + 5 ≤ 1000000 := by omega
        have hlen : s.l.length ≤ 16 := by have := HL.out; omega
        have H63 : Hid (s.l.length + 1 ≤ maxLen) := by show _ ≤ _; unfold maxLen; omega
        have HBY : Hid ((s.l.length + 1) * 24 ≤ 140737488355328) := by show _ ≤ _; omega
        have hPne : ¬ P = 0 := by omega
        have hwP := HWP.out
        go_region_law (first
          | (go_simp; go_at_call 30; refine (dbetween_any D a n c k3 1 ((P : Int) - 1) _ (HD3.out.ext (Ext.refl w3).drew) (by omega) (by omega) (by omega) (by omega)).mono ?_; rintro e v1 ⟨r, k4, hr1, hr2, hk4, rfl, hd4, hg4⟩; obtain ⟨b, rfl⟩ : ∃ b : Nat, r = (b : Int) := ⟨r.toNat, by omega⟩; obtain ⟨m, hm1, hm2, hm3⟩ := way_mod x b P hxP (by omega) (by omega); have HD4 := Lib.hid hd4; have hq4 : DExt D w3 v1 := ((DExt.refl D w3).drew').trans hg4; have HM4 : Hid (MkT v1 B P s.v (.slice none 0 0) (.slice none 0 0) (.slice none 0 0)) := HM3.out.dext hq4 hBD; have HG4 : Hid (G2 D B w2 v1) := HG3.out.dext hq4; have HO4 : Hid (v1.ownsRow w2.heap.size 59 3 (.slice s.a s.l.length s.c) s.l.length (flat 3 wayC s.l)) := G2.own HO3.out ((G2.refl D B w3).dext hq4) hDw hs2; have HK4 : Hid (k4 ≤ k3 + 1 ∧ k4 ≤ 1000000) := ⟨hk4, by omega⟩; have hw28 : IntKind.i64.wrap ((x : Int) + (b : Int)) = (x : Int) + (b : Int) := IntWalk.i64_in _ (by omega); have hwm : IntKind.i64.wrap (m : Int) = (m : Int) := IntWalk.i64_in _ (by omega); have HMm : Hid (m < P ∧ x ≠ m) := ⟨hm1, hm2⟩; obtain ⟨c0', c1', -, -, -⟩ := HM4.out.five; clear hd4 hg4 hq4 hr1 hr2 hm1 hm2 hk4)
          | (go_simp; go_at_call 26; refine (draw_any D a n c k4 4 v1 HD4.out HK4.out.2 (by decide)).mono ?_; rintro e v2 ⟨y, k5, hy, hk5, rfl, hd5, hg5⟩; have HD5 := Lib.hid hd5; have HM5 : Hid (MkT v2 B P s.v (.slice none 0 0) (.slice none 0 0) (.slice none 0 0)) := HM4.out.dext hg5 hBD; have HG5 : Hid (G2 D B w2 v2) := HG4.out.dext hg5; have HO5 : Hid (v2.ownsRow w2.heap.size 59 3 (.slice s.a s.l.length s.c) s.l.length (flat 3 wayC s.l)) := G2.own HO4.out ((G2.refl D B v1).dext hg5) hDw hs2; have HY : Hid ((y < 4 ∨ y = 0) ∧ k5 ≤ k4 + 1) := ⟨hy, hk5⟩; obtain ⟨c0'', c1'', -, -, -⟩ := HM5.out.five; have c1a : (v2.alloc (.cells #[.int .i64 (x : Int), .int .i64 (m : Int), .int .i64 (y : Int)] 59)).cell? ⟨B, 1, none⟩ = some (.slice s.a s.l.length s.c) := ((Ext.refl v2).alloc _).cell c1''; have HOne := Lib.hid (way_one (x, m, y)); have HBs5 : Hid (w2.heap.size ≤ v2.heap.size) := HG5.out.size; clear hd5 hg5 hy hk5)
          | (refine step_append_lies _ rfl (.tmp 20) (.tmp 35) 23 rfl w2.heap.size 59 i81 (.agg #[.int .i64 0, .int .i64 0, .int .i64 0]) 3 24 Tryz.underlying23 hi81 hz81 hs81 hb81 rfl (by decide) (.slice s.a s.l.length s.c) s.l.length (flat 3 wayC s.l) ?_ (HO5.out.alloc _) ⟨v2.heap.size, 0, none⟩ 1 1 (flat 3 wayC [(x, m, y)]) ?_ rfl (new_cells v2 (flat 3 wayC [(x, m, y)]) 59) HOne.out (by decide) H63.out HBY.out ?_ _ rfl ?_; (simp [Act.eval]); (simp [Act.eval]); (rw [World.size_alloc]; exact Nat.le_succ_of_le HBs5.out); intro g cap v3 hown hgrow hwh hgl; obtain ⟨⟨cv, fv⟩, HR⟩ := way_leaf (k2 := k2) hDw hs2 rfl HBt.out HL.out HO5.out HW.out HD5.out HM5.out HG5.out hown hgrow (show WayOk P (x, m, y) from ⟨hxP, HMm.out.1, HMm.out.2, by have := HY.out.1; clear hw28 hwm hm3 hwP; show y ≤ 7; omega⟩) (by have := HK4.out.1; have := HY.out.2; clear hw28 hwm hm3 hwP; omega); have HRR := Lib.hid HR; clear hown hgrow hwh hgl HR))
        all_goals
          go_wp2_with fail
          go_meet
          exact HRR.out
      case rest =>
        obtain ⟨s', k5, HL', HO', HW', HD', hk5, HM', HG'⟩ := hcut
        go_wp2
        go_roundw
        case rel => exact ⟨j + 1, s', k5, by omega, by go_num, HL', HO', HW', HD', hk5, HM', HG'⟩
        case measure => simp [intOf]; omega
    · have hje : j = nA := by omega
      have dj : decide ((j : Int) < (nA : Int)) = false := decide_eq_false (by omega)
      clear hje
      go_wp2_with fail
      refine (dbetween_any D a n c k' 1 3 wo HDk.out (by omega) (by omega) (by omega) (by omega)).mono ?_
      rintro e w4 ⟨r, k4, hr1, hr2, hk4, rfl, hd4, hg4⟩
      obtain ⟨nW, rfl⟩ : ∃ nW : Nat, r = (nW : Int) := ⟨r.toNat, by omega⟩
      have hW3 : nW ≤ 3 := by omega
      have hW1 : 1 ≤ nW := by omega
      clear hr1 hr2
      have HD4 := Lib.hid hd4
      have HM4 : Hid (MkT w4 B P s.v (.slice none 0 0) (.slice none 0 0) (.slice none 0 0)) := HM.out.dext hg4 hBD
      have HG4 : Hid (G2 D B w2 w4) := HG.out.dext hg4
      have HO4 : Hid (w4.ownsRow w2.heap.size 59 3 (.slice s.a s.l.length s.c) s.l.length (flat 3 wayC s.l)) := G2.own HO.out ((G2.refl D B wo).dext hg4) (by omega) (by omega)
      have hs4 : B < w4.heap.size := by have := HG4.out.size; omega
      have hk4' : k4 ≤ 1100 := by omega
      clear hd4 hg4 HM HG HO HDk
      obtain ⟨i84, hi84, hz84, hs84, hb84⟩ := info_parts info57
      obtain ⟨i82, hi82, hz82, hs82, hb82⟩ := info_parts info54
      go_wp2
      go_loopw [41] (fun i wr => ∃ (j : Nat) (q : SL (SL MV)) (k' : Nat), j ≤ nW ∧ i = .int .i64 j ∧ Hid (q.l.length = j) ∧ Hid (WordsO w4.heap.size wr P q) ∧ Hid (IsDeck wr D a n c k') ∧ k' ≤ k4 + 40 * j ∧ Hid (MkT wr B P s.v q.v (.slice none 0 0) (.slice none 0 0)) ∧ Hid (G2 D B w4 wr)) (fun i _ => nW - (intOf i).toNat)
      case atStart => exact ⟨0, ⟨none, 0, []⟩, k4, Nat.zero_le _, rfl, rfl, ⟨World.ownsRow_nil _ _ _ _, fun x hx => by simp at hx⟩, HD4.out, by omega, HM4.out, G2.refl _ _ _⟩
      case round =>
        obtain ⟨wp, rfl⟩ : ∃ wp : World, wp = wr := ⟨_, rfl⟩
        obtain ⟨jj, q, kk, hjj, rfl, HQL, HQ, HDq, hkk, HMq, HGq⟩ := hrel
        by_cases hlt2 : jj < nW
        · have djj : decide ((jj : Int) < (nW : Int)) = true := by simpa using hlt2
          go_wp2_with fail
          refine (dbetween_any D a n c kk 1 3 wp HDq.out (by omega) (by omega) (by omega) (by omega)).mono ?_
          rintro e v0 ⟨r, k5, hr1, hr2, hk5, rfl, hd5, hg5⟩
          obtain ⟨nM, rfl⟩ : ∃ nM : Nat, r = (nM : Int) := ⟨r.toNat, by omega⟩
          have hM3 : nM ≤ 3 := by omega
          have hM1 : 1 ≤ nM := by omega
          clear hr1 hr2
          have HD5 := Lib.hid hd5
          have HM5 : Hid (MkT v0 B P s.v q.v (.slice none 0 0) (.slice none 0 0)) := HMq.out.dext hg5 hBD
          have HG5 : Hid (G2 D B w4 v0) := HGq.out.dext hg5
          have HQ5 : Hid (WordsO w4.heap.size v0 P q) := HQ.out.g2 ((G2.refl D B wp).dext hg5) (by omega) (by omega)
          have hs5 : B < v0.heap.size := by have := HG5.out.size; omega
          have hDs5 : D < v0.heap.size := by omega
          have hk5' : k5 ≤ 1300 := by omega
          have hkj : k5 ≤ k4 + 40 * jj + 1 := by omega
          clear hd5 hg5 HMq HGq HDq HQ hkk hk5
          go_wp2
          go_loopw [7, 45] (fun v i wr => ∃ (y : Nat) (m : SL MV) (k' : Nat), y ≤ nM ∧ i = .int .i64 y ∧ v = .slice m.a m.l.length m.c ∧ Hid (m.l.length = y) ∧ Hid (WordO v0.heap.size wr P m) ∧ Hid (IsDeck wr D a n c k') ∧ k' ≤ k5 + 12 * y ∧ Hid (MkT wr B P s.v q.v (.slice none 0 0) (.slice none 0 0)) ∧ Hid (G2 D B v0 wr)) (fun _ i _ => nM - (intOf i).toNat)
          case atStart => exact ⟨0, ⟨none, 0, []⟩, k5, Nat.zero_le _, rfl, rfl, rfl, ⟨World.ownsRow_nil _ _ _ _, fun x hx => by simp at hx⟩, HD5.out, by omega, HM5.out, G2.refl _ _ _⟩
          case round =>
            obtain ⟨wq, rfl⟩ : ∃ wq : World, wq = wr := ⟨_, rfl⟩
            obtain ⟨y, m, km, hy, rfl, rfl, HML, HMW, HDm, hkm, HMm, HGm⟩ := hrel
            by_cases hlt3 : y < nM
            · have dy : decide ((y : Int) < (nM : Int)) = true := by simpa using hlt3
              have c0 := HMm.out.five.1
              have hlen : m.l.length ≤ 3 := by have := HML.out; omega
              have H63 : Hid (m.l.length + 1 ≤ maxLen) := by show _ ≤ _; unfold maxLen; omega
              have HBY : Hid ((m.l.length + 1) * 48 ≤ 140737488355328) := by show _ ≤ _; omega
              have HBq : Hid (∀ b off, a = some ⟨b, off, none⟩ → 0 < n → b < wq.heap.size) := fun b off h1 h2 => by have := HBt.out b off h1 h2; have := HGm.out.size; omega
              go_wp2_with fail
              go_region_law (first
                  | (go_simp; go_at_call_of 27 (Value.int IntKind.i64 4); refine (some_any D a n c km 4 2 wq.drew (HDm.out.ext (Ext.refl wq).drew) HBq.out (by omega) (by omega) (by omega)).mono ?_; intro e x1 hS; obtain ⟨lk, kk1, rfl, hL1, hd1, hk1, hx1⟩ := ListO.of hS; have hq6 : G2 D B wq x1 := (G2.refl D B wq).dext (((DExt.refl D wq).drew').trans hx1); have HLk : Hid (ListO v0.heap.size x1 4 lk) := hL1.base HGm.out.size; have HD6 := Lib.hid hd1; have HM6 : Hid (MkT x1 B P s.v q.v (.slice none 0 0) (.slice none 0 0)) := HMm.out.dext (((DExt.refl D wq).drew').trans hx1) hBD; have HG6 : Hid (G2 D B v0 x1) := HGm.out.trans hq6; have HW6 : Hid (WordO v0.heap.size x1 P m) := HMW.out.g2 hq6 hDs5 hs5; have HX6 : Hid (wq.heap.size ≤ x1.heap.size) := hq6.size; have c0' := HM6.out.five.1; clear hS hL1 hd1 hx1 hq6)
                  | (go_simp; go_at_call_of 27 (Value.int IntKind.i64 (P : Int)); refine (some_any D a n c kk1 P 2 x1 HD6.out (fun b off h1 h2 => Nat.lt_of_lt_of_le (HBq.out b off h1 h2) HX6.out) (by omega) (by omega) (by omega)).mono ?_; intro e x2 hS; obtain ⟨le, kk2, rfl, hL2, hd2, hk2, hx2⟩ := ListO.of hS; have hq7 : G2 D B x1 x2 := (G2.refl D B x1).dext hx2; have HLe : Hid (ListO v0.heap.size x2 P le) := hL2.base HG6.out.size; have HLk7 : Hid (ListO v0.heap.size x2 4 lk) := HLk.out.g2 hq7 hDs5 hs5; have HD7 := Lib.hid hd2; have HM7 : Hid (MkT x2 B P s.v q.v (.slice none 0 0) (.slice none 0 0)) := HM6.out.dext hx2 hBD; have HG7 : Hid (G2 D B v0 x2) := HG6.out.trans hq7; have HW7 : Hid (WordO v0.heap.size x2 P m) := HW6.out.g2 hq7 hDs5 hs5; clear hS hL2 hd2 hx2 hq7)
                  | (refine step_append_lies _ rfl (.tmp 47) (.tmp 55) 54 rfl v0.heap.size 57 i84 (.agg #[.slice none 0 0, .slice none 0 0]) 2 48 Tryz.underlying54 hi84 hz84 hs84 hb84 rfl (by decide) (.slice m.a m.l.length m.c) m.l.length (flat 2 meanC m.l) ?_ (HW7.out.1.alloc _) ⟨x2.heap.size, 0, none⟩ 1 1 (flat 2 meanC [⟨lk, le⟩]) ?_ rfl (new_cells x2 (flat 2 meanC [⟨lk, le⟩]) 57) (mean_one _) (by decide) H63.out HBY.out ?_ _ rfl ?_; (simp [Act.eval]); (simp [Act.eval]); (rw [World.size_alloc]; exact Nat.le_succ_of_le HG7.out.size); intro g cap x3 hown hgrow hwh hgl; have hx := (Ext.refl x2).alloc (.cells (flat 2 meanC [⟨lk, le⟩]).toArray 57); have hrow : ∀ i, (Value.slice m.a m.l.length m.c).ownBlock = some i → v0.heap.size ≤ i := fun i hi => own_lt HW7.out.1 i hi; have HW8 : Hid (WordO v0.heap.size x3 P ⟨some ⟨g, 0, none⟩, cap, m.l ++ [⟨lk, le⟩]⟩) := (HW7.out.ext hx).append (HLk7.out.ext hx) (HLe.out.ext hx) hown hgrow; have HM8 : Hid (MkT x3 B P s.v q.v (.slice none 0 0) (.slice none 0 0)) := MkT.grown (hx.block HM7.out) hgrow (fun i hi => by have := hrow i hi; omega); have HD8 : Hid (IsDeck x3 D a n c kk2) := (HD7.out.ext hx).step hgrow (fun i hi => ⟨by have := hrow i hi; omega, fun b off h1 h2 => by have := hrow i hi; have := HBt.out b off h1 h2; omega⟩); have HG8 : Hid (G2 D B v0 x3) := (HG7.out.ext hx).step hgrow (fun i hi => .inr (.inr (hrow i hi))); clear hx hrow hown hgrow hwh hgl))
              all_goals
                go_wp2
                refine ⟨⟨y + 1, ⟨some ⟨g, 0, none⟩, cap, m.l ++ [⟨lk, le⟩]⟩, kk2, by omega, by go_num, by simp, by show _ = _; have := HML.out; simp; omega, HW8, HD8, by omega, HM8, HG8⟩, ?_⟩
                simp [intOf]; omega
            · have hye : y = nM := by omega
              have dy : decide ((y : Int) < (nM : Int)) = false := decide_eq_false (by omega)
              have HYe := Lib.hid hye; clear hye
              have c2 := HMm.out.five.2.2.1
              have hlq : q.l.length ≤ 3 := by have := HQL.out; omega
              have hm6 : q.l.length + 1 ≤ maxLen := by unfold maxLen; omega
              have HQ6 : Hid (WordsO w4.heap.size wq P q) := HQ5.out.g2 HGm.out (by omega) (by omega)
              have hb4 : w4.heap.size ≤ wq.heap.size + 1 := by have := HG5.out.size; have := HGm.out.size; omega
              have HWm : Hid (WordO w4.heap.size wq P m) := HMW.out.base HG5.out.size
              have HG6 : Hid (G2 D B w4 wq) := HG5.out.trans HGm.out
              have HDs4 : Hid (D < w4.heap.size) := by show _ < _; omega
              have HM31 : Hid (1 ≤ m.l.length ∧ m.l.length ≤ 3) := ⟨by have := HML.out; have := HYe.out; omega, by have := HML.out; omega⟩
              have HQn : Hid (q.l.length = jj) := HQL.out
              have hkf : km ≤ k4 + 40 * (jj + 1) := by omega
              clear HQL
              go_wp2_with (at_builtin; go_must (refine wpList_append_own _ rfl _ _ 24 rfl w4.heap.size 54 i82 (.slice none 0 0) 1 24 Tryz.underlying24 hi82 hz82 hs82 hb82 rfl (by decide) _ q.l.length (flat 1 slC q.l) rfl (HQ6.out.1.alloc _) ⟨wq.heap.size, 0, none⟩ 1 1 (flat 1 slC [m]) rfl rfl (new_cells wq (flat 1 slC [m]) 54) (word_one m) hm6 (by omega) (by simp; omega) ?_); intro v' w9 hown hgrow _; obtain ⟨g, cap, rfl⟩ := ownsRow_succ hown; obtain ⟨⟨cv, fv⟩, hA, hBd, hC, hDg⟩ := words_leaf HDs4.out hs4 hBD rfl HBt.out HQ6.out HWm.out HM31.out.1 HM31.out.2 HDm.out HMm.out HG6.out hown hgrow; have HA := Lib.hid hA; have HBd := Lib.hid hBd; have HC := Lib.hid hC; have HDg := Lib.hid hDg; clear hA hBd hC hDg hown hgrow)
              refine ⟨⟨jj + 1, ⟨some ⟨g, 0, none⟩, cap, q.l ++ [m]⟩, km, by omega, by go_num, by show _ = _; have := HQn.out; simp; omega, HA, HBd, hkf, ?_, HDg⟩, ?_⟩
              · show MkT _ B P _ (.slice _ (q.l ++ [m]).length cap) _ _
                rw [List.length_append]; exact HC.out
              · simp [intOf]; omega
        · have hje2 : jj = nW := by omega
          have djj : decide ((jj : Int) < (nW : Int)) = false := decide_eq_false (by omega)
          have HQe : Hid (jj = nW) := hje2
          clear hje2
          have c0 := HMq.out.five.1
          go_wp2_with fail
          have hbp : Hid (∀ b off, a = some ⟨b, off, none⟩ → 0 < n → b < wp.heap.size) := fun b off h1 h2 => by have := HBt.out b off h1 h2; have := HGq.out.size; omega
          refine (some_any D a n c kk P 3 wp HDq.out hbp.out (by omega) (by omega) (by omega)).mono ?_
          intro e x5 hS
          obtain ⟨st, k6, rfl, hL5, hd5, hk6, hx5⟩ := ListO.of hS
          clear hS
          have HL5 := Lib.hid hL5
          have HD5 := Lib.hid hd5
          have HM5 : Hid (MkT x5 B P s.v q.v (.slice none 0 0) (.slice none 0 0)) := HMq.out.dext hx5 hBD
          have HG5 : Hid (G2 D B wp x5) := (G2.refl D B wp).dext hx5
          have hsp : B < wp.heap.size := by have := HGq.out.size; omega
          have hDsp : D < wp.heap.size := by omega
          have hk6' : k6 ≤ 1300 := by omega
          clear hL5 hd5 hx5 c0
          obtain ⟨-, -, -, c3, -⟩ := HM5.out.five
          have f3 := HM5.out.frozen 3
          have HM6 : Hid (MkT (x5.setCell ⟨B, 3, none⟩ (.slice st.a st.l.length st.c)) B P s.v q.v (.slice st.a st.l.length st.c) (.slice none 0 0)) := HM5.out.set3 _
          have HG6 : Hid (G2 D B wp (x5.setCell ⟨B, 3, none⟩ (.slice st.a st.l.length st.c))) := HG5.out.setB 3 _
          have HD6 : Hid (IsDeck (x5.setCell ⟨B, 3, none⟩ (.slice st.a st.l.length st.c)) D a n c k6) := deck_setB HD5.out hBD HBt.out
          have HL6 : Hid (ListO wp.heap.size (x5.setCell ⟨B, 3, none⟩ (.slice st.a st.l.length st.c)) P st) := HL5.out.g2 ((G2.refl D B x5).setB 3 _) hDsp hsp
          go_upto_if 73 with (fail)
          generalize x5.setCell ⟨B, 3, none⟩ (.slice st.a st.l.length st.c) = y5 at *
          clear c3 f3
          go_cut [] (fun wx => ∃ (st' : SL Nat) (k7 : Nat), Hid (ListO wp.heap.size wx P st') ∧ Hid (1 ≤ st'.l.length) ∧ Hid (IsDeck wx D a n c k7) ∧ k7 ≤ 1301 ∧ Hid (MkT wx B P s.v q.v st'.v (.slice none 0 0)) ∧ Hid (G2 D B wp wx))
          case first =>
            by_cases he : st.l.length = 0
            · have d0 : ((st.l.length : Int) == 0) = true := by simp [he]
              have d1 : (st.l.length == 0) = true := by simp [he]
              have c0 := HM6.out.five.1
              clear he
              go_wp2_with fail
              refine (draw_any D a n c k6 P y5 HD6.out (by omega) (by omega)).mono ?_
              rintro e y6 ⟨r, k7, hr, hk7, rfl, hd7, hg7⟩
              have hrP : r < P := by omega
              have HM7 : Hid (MkT y6 B P s.v q.v (.slice st.a st.l.length st.c) (.slice none 0 0)) := HM6.out.dext hg7 hBD
              have HG7 : Hid (G2 D B wp y6) := HG6.out.dext hg7
              have HD7 := Lib.hid hd7
              have hM8 : MkT (y6.alloc (.cells #[.int .i64 (r : Int)] 3)) B P s.v q.v (.slice st.a st.l.length st.c) (.slice none 0 0) := ((Ext.refl y6).alloc _).block HM7.out
              have HM8 := Lib.hid hM8
              have c3 := hM8.five.2.2.2.1
              have f3 := hM8.frozen 3
              clear hd7 hg7 c0 hM8
              go_wp2_with fail
              go_meet
              have hown := World.ownsRow_lit (base := wp.heap.size) (e := 3) (size := 1) y6 #[.int .i64 (r : Int)] 1 HG7.out.size (by decide) rfl
              refine ⟨⟨some ⟨y6.heap.size, 0, none⟩, 1, [r]⟩, k7, ⟨G2.own hown ((G2.refl D B _).setB 3 _) hDsp hsp, by simp, by simpa using hrP⟩, by simp [Hid], deck_setB (HD7.out.ext ((Ext.refl y6).alloc _)) hBD HBt.out, by omega, HM8.out.set3 _, (HG7.out.ext ((Ext.refl y6).alloc _)).setB 3 _⟩
            · have d0 : ((st.l.length : Int) == 0) = false := by simpa using he
              have d1 : (st.l.length == 0) = false := by simpa using he
              have HE : Hid (1 ≤ st.l.length) := by show _ ≤ _; omega
              clear he
              go_wp2
              go_meet
              exact ⟨st, k6, HL6, HE, HD6, by omega, HM6, HG6⟩
          case rest =>
            obtain ⟨st', k7, HL7, HL1, HD7, hk7, HM7, HG7⟩ := hcut
            have HDr := draw_any D a n c k7 (N + 1) wc HD7.out (by omega) (by omega)
            rw [Int.natCast_add, Int.natCast_one] at HDr
            go_wp2_with fail
            refine HDr.mono ?_
            clear HDr
            rintro e y8 ⟨nC, k8, hr, hk8, rfl, hd8, hg8⟩
            have hC : nC ≤ N := by omega
            clear hr
            have HM8 : Hid (MkT y8 B P s.v q.v st'.v (.slice none 0 0)) := HM7.out.dext hg8 hBD
            have HG8 : Hid (G2 D B wc y8) := (G2.refl D B wc).dext hg8
            have HD8 := Lib.hid hd8
            have hs8 : B < y8.heap.size := by have := HG8.out.size; have := HG7.out.size; omega
            have hDs8 : D < y8.heap.size := by omega
            clear hd8 hg8
            obtain ⟨i86, hi86, hz86, hs86, hb86⟩ := info_parts info63
            go_wp2
            go_loopw [84] (fun i wr => ∃ (x : Nat) (gl : SL (Nat × Int)) (k' : Nat), x ≤ nC ∧ i = .int .i64 x ∧ Hid (gl.l.length = x) ∧ Hid (wr.ownsRow y8.heap.size 63 2 (.slice gl.a gl.l.length gl.c) gl.l.length (flat 2 legC gl.l)) ∧ Hid (∀ z ∈ gl.l, LegOk q.l.length z) ∧ Hid (IsDeck wr D a n c k') ∧ k' ≤ k8 + 2 * x ∧ Hid (MkT wr B P s.v q.v st'.v gl.v) ∧ Hid (G2 D B y8 wr)) (fun i _ => nC - (intOf i).toNat)
            case atStart => exact ⟨0, ⟨none, 0, []⟩, k8, Nat.zero_le _, rfl, rfl, World.ownsRow_nil _ _ _ _, fun x hx => by simp at hx, HD8.out, by omega, HM8.out, G2.refl _ _ _⟩
            case round =>
              obtain ⟨wl, rfl⟩ : ∃ wl : World, wl = wr := ⟨_, rfl⟩
              obtain ⟨x, gl, kl, hx, rfl, HLL, HLO, HLW, HLD, hkl, HLM, HLG⟩ := hrel
              by_cases hlt4 : x < nC
              · have dx : decide ((x : Int) < (nC : Int)) = true := by simpa using hlt4
                have hq1 : 1 ≤ q.l.length := by have := HQL.out; have := HQe.out; omega
                have hq3 : q.l.length ≤ 3 := by have := HQL.out; omega
                have hgl : gl.l.length ≤ 10 := by have := HLL.out; omega
                go_upto_block 7 with (fail)
                go_cut [] (fun wx => ∃ (gl' : SL (Nat × Int)) (k' : Nat), Hid (gl'.l.length = gl.l.length + 1) ∧ Hid (wx.ownsRow y8.heap.size 63 2 (.slice gl'.a gl'.l.length gl'.c) gl'.l.length (flat 2 legC gl'.l)) ∧ Hid (∀ z ∈ gl'.l, LegOk q.l.length z) ∧ Hid (IsDeck wx D a n c k') ∧ k' ≤ k8 + 2 * (x + 1) ∧ Hid (MkT wx B P s.v q.v st'.v gl'.v) ∧ Hid (G2 D B y8 wx))
                case first =>
                  obtain ⟨-, -, c2, -, c4⟩ := HLM.out.five
                  have H63 : Hid (gl.l.length + 1 ≤ maxLen) := by show _ ≤ _; unfold maxLen; omega
                  have HBY : Hid ((gl.l.length + 1) * 16 ≤ 140737488355328) := by show _ ≤ _; omega
                  have hkl' : kl ≤ 1400 := by omega
                  have hwq : IntKind.i64.wrap ((q.l.length : Int) - 1) = (q.l.length : Int) - 1 := IntWalk.i64_in _ (by omega)
                  have HWQ := Lib.hid hwq; clear hwq
                  go_wp2_with fail
                  have hwq := HWQ.out
                  go_region_law (first
                    | (go_simp; go_at_call 26; refine (draw_any D a n c kl q.l.length wl.drew (HLD.out.ext (Ext.refl wl).drew) (by clear hwq; omega) (by clear hwq; omega)).mono ?_; rintro e v1 ⟨r, k9, hr, hk9, rfl, hd9, hg9⟩; have hq9 : DExt D wl v1 := ((DExt.refl D wl).drew').trans hg9; have HD9 := Lib.hid hd9; have HM9 : Hid (MkT v1 B P s.v q.v st'.v gl.v) := HLM.out.dext hq9 hBD; have HG9 : Hid (G2 D B y8 v1) := HLG.out.dext hq9; have HO9 : Hid (v1.ownsRow y8.heap.size 63 2 (.slice gl.a gl.l.length gl.c) gl.l.length (flat 2 legC gl.l)) := G2.own HLO.out ((G2.refl D B wl).dext hq9) hDs8 hs8; have HR9 : Hid (r < q.l.length ∧ k9 ≤ kl + 1 ∧ k9 ≤ 1000000) := ⟨by clear hwq; omega, hk9, by clear hwq; omega⟩; obtain ⟨-, -, c2', -, c4'⟩ := HM9.out.five; clear hd9 hg9 hq9 hr hk9)
                    | (go_simp; go_at_call 30; refine (dbetween_any D a n c k9 (-1) ((q.l.length : Int) - 1) v1 HD9.out HR9.out.2.2 (by decide) (by clear hwq; omega) (by clear hwq; omega)).mono ?_; rintro e v2 ⟨z, k10, hz1, hz2, hk10, rfl, hd10, hg10⟩; have HD10 := Lib.hid hd10; have HM10 : Hid (MkT v2 B P s.v q.v st'.v gl.v) := HM9.out.dext hg10 hBD; have HG10 : Hid (G2 D B y8 v2) := HG9.out.dext hg10; have HO10 : Hid (v2.ownsRow y8.heap.size 63 2 (.slice gl.a gl.l.length gl.c) gl.l.length (flat 2 legC gl.l)) := G2.own HO9.out ((G2.refl D B v1).dext hg10) hDs8 hs8; have HZ : Hid (LegOk q.l.length (r, z) ∧ k10 ≤ k8 + 2 * (x + 1)) := ⟨⟨HR9.out.1, by show z = -1 ∨ (0 ≤ z ∧ z < q.l.length); clear hwq; omega⟩, by have := HR9.out.2.1; clear hwq; omega⟩; obtain ⟨-, -, c2'', -, c4''⟩ := HM10.out.five; have c4a : (v2.alloc (.cells #[.int .i64 (r : Int), .int .i64 z] 63)).cell? ⟨B, 4, none⟩ = some (.slice gl.a gl.l.length gl.c) := ((Ext.refl v2).alloc _).cell c4''; have HOne := Lib.hid (leg_one (r, z)); clear hd10 hg10 hz1 hz2 hk10)
                    | (refine step_append_lies _ rfl (.tmp 87) (.tmp 100) 26 rfl y8.heap.size 63 i86 (.agg #[.int .i64 0, .int .i64 0]) 2 16 Tryz.underlying26 hi86 hz86 hs86 hb86 rfl (by decide) (.slice gl.a gl.l.length gl.c) gl.l.length (flat 2 legC gl.l) ?_ (HO10.out.alloc _) ⟨v2.heap.size, 0, none⟩ 1 1 (flat 2 legC [(r, z)]) ?_ rfl (new_cells v2 (flat 2 legC [(r, z)]) 63) HOne.out (by decide) H63.out HBY.out ?_ _ rfl ?_; (simp [Act.eval]); (simp [Act.eval]); (rw [World.size_alloc]; exact Nat.le_succ_of_le HG10.out.size); intro g cap v3 hown hgrow hwh hgl'; obtain ⟨⟨cv, fv⟩, gl', h1, h2, h3, h4, h5, h6⟩ := leg_leaf (nw := q.l.length) hDs8 hs8 hBD rfl HBt.out HO10.out HLW.out HZ.out.1 HD10.out HM10.out HG10.out hown hgrow; clear hown hgrow hwh hgl'))
                  all_goals
                    go_wp2_with fail
                    go_meet
                    exact ⟨gl', k10, h1, h2, h3, h4, HZ.out.2, h5, h6⟩
                case rest =>
                  obtain ⟨gl', k', h1, h2, h3, h4, h5, h6, h7⟩ := hcut
                  go_wp2
                  go_roundw
                  case rel => exact ⟨x + 1, gl', k', by omega, by go_num, by show _ = _; have := h1.out; have := HLL.out; omega, h2, h3, h4, h5, h6, h7⟩
                  case measure => simp [intOf]; omega
              · have hxe : x = nC := by omega
                have dx : decide ((x : Int) < (nC : Int)) = false := decide_eq_false (by omega)
                have HXe := Lib.hid hxe; clear hxe
                obtain ⟨c0, c1, c2, c3, c4⟩ := HLM.out.five
                have HGc : Hid (G2 D B wc wl) := HG8.out.trans HLG.out
                have HGp : Hid (G2 D B wp wl) := HG7.out.trans HGc.out
                have HG4l : Hid (G2 D B w4 wl) := HGq.out.trans HGp.out
                have HG2l : Hid (G2 D B w2 wl) := HG4.out.trans HG4l.out
                have HRl : Hid (wl.heap[w.heap.size]? = some (.cells #[.int .i64 0, .slice none 0 0, .slice none 0 0, .slice none 0 0, .slice none 0 0] 28)) := (HG2l.out.block w.heap.size (by omega) (by omega) (by omega)).trans HR2.out
                have e0 : wl.cell? ⟨w.heap.size, 0, none⟩ = some (.int .i64 0) := (cell_at HRl.out 0).trans rfl
                have e1 : wl.cell? ⟨w.heap.size, 1, none⟩ = some (.slice none 0 0) := (cell_at HRl.out 1).trans rfl
                have e2 : wl.cell? ⟨w.heap.size, 2, none⟩ = some (.slice none 0 0) := (cell_at HRl.out 2).trans rfl
                have e3 : wl.cell? ⟨w.heap.size, 3, none⟩ = some (.slice none 0 0) := (cell_at HRl.out 3).trans rfl
                have e4 : wl.cell? ⟨w.heap.size, 4, none⟩ = some (.slice none 0 0) := (cell_at HRl.out 4).trans rfl
                have g0 : ∀ i, wl.frozen? ⟨w.heap.size, i, none⟩ = false := fun i => by have := HRl.out; simp [World.frozen?, this]
                go_wp2
                refine bodyPost_ret (v := (TV.v ⟨P, s, q, st', gl⟩)) (results_cell_row rfl _ _ w.heap.size 28 #[.int .i64 (P : Int), .slice s.a s.l.length s.c, .slice q.a q.l.length q.c, .slice st'.a st'.l.length st'.c, .slice gl.a gl.l.length gl.c] (0, 0) _ rfl ?_ Tryz.underlying28 rfl (by kernel_rfl)) rfl ?_
                · exact heap_setCell_same (heap_setCell_same (heap_setCell_same (heap_setCell_same (heap_setCell_same HRl.out _) _) _) _) _
                · have hGr : G2 D w.heap.size wl (((((wl.setCell ⟨w.heap.size, 0, none⟩ (.int .i64 (P : Int))).setCell ⟨w.heap.size, 1, none⟩ (.slice s.a s.l.length s.c)).setCell ⟨w.heap.size, 2, none⟩ (.slice q.a q.l.length q.c)).setCell ⟨w.heap.size, 3, none⟩ (.slice st'.a st'.l.length st'.c)).setCell ⟨w.heap.size, 4, none⟩ (.slice gl.a gl.l.length gl.c)) :=
                    (((((G2.refl D w.heap.size wl).setB 0 _).setB 1 _).setB 2 _).setB 3 _).setB 4 _
                  have hrD : w.heap.size ≠ D := by omega
                  have a2 : D < w2.heap.size ∧ B < w2.heap.size ∧ w.heap.size < w2.heap.size := by omega
                  have a4 : D < w4.heap.size ∧ w.heap.size < w4.heap.size := by omega
                  have ap : w.heap.size < wp.heap.size := by omega
                  have a8 : w.heap.size < y8.heap.size := by omega
                  have hways := G2.own HO4.out HG4l.out a2.1 a2.2.1
                  have hwords := HQ.out.g2 HGp.out a4.1 hs4
                  have hst := HL7.out.g2 HGc.out hDsp hsp
                  have l1 : s.l.length ≤ 16 := by have := HL.out; omega
                  have l2 : q.l.length ≤ 3 := by have := HQL.out; omega
                  have l3 : gl.l.length ≤ 10 := by have := HLL.out; omega
                  refine ⟨⟨P, s, q, st', gl⟩, kl, rfl, fun w'' hw'' => ?_, ?_, ?_, ?_, by omega, ?_⟩
                  · have hG := hGr.dext hw''
                    have hq := hwords.g2 hG a4.1 a4.2
                    exact ⟨own_slG (G2.own hways hG a2.1 a2.2.2) (by omega), own_slG hq.1 (by omega), fun z hz => (hq.2 z hz).1.is (by have := (hq.2 z hz).2.2; omega) (by omega), (hst.g2 hG hDsp ap).is (by omega), own_slG (G2.own HLO.out hG hDs8 a8) (by omega)⟩
                  · exact { p1 := by show 1 ≤ P; omega, p2 := by show P ≤ 12; omega, ways := by show s.l.length ≤ 40; omega, words := by show q.l.length ≤ 6; omega, starts1 := HL1.out, starts2 := HL7.out.len, legs := l3,
                            word := fun z hz => ⟨(hwords.2 z hz).2.1, Nat.le_trans (hwords.2 z hz).2.2 (by decide)⟩, way := HW.out,
                            kinds := fun z hz m hm => ⟨fun k hk => by have := ((hwords.2 z hz).1.2 m hm).1.2.2 k hk; omega, ((hwords.2 z hz).1.2 m hm).1.2.1⟩,
                            ends := fun z hz m hm => ⟨((hwords.2 z hz).1.2 m hm).2.2.2, ((hwords.2 z hz).1.2 m hm).2.2.1⟩,
                            start := ⟨hst.2.2, hst.2.1⟩, leg := HLW.out,
                            many := by
                              have h1 := prod3_le (q.l.map (·.l.length)) 1 (fun x hx => by obtain ⟨z, hz, rfl⟩ := List.mem_map.1 hx; exact (hwords.2 z hz).2.2)
                              have h2 : 3 ^ (q.l.map (·.l.length)).length ≤ 3 ^ 3 := Nat.pow_le_pow_right (by decide) (by simpa using l2)
                              show (q.l.map (·.l.length)).foldl (· * ·) 1 ≤ 256
                              omega }
                  · show gl.l.length ≤ N
                    have := HLL.out; omega
                  · exact deck_setB (deck_setB (deck_setB (deck_setB (deck_setB HLD.out hrD HB.out) hrD HB.out) hrD HB.out) hrD HB.out) hrD HB.out
                  · exact dext_of (dext_of HX2.out HG2l.out (by omega)) hGr (Nat.le_refl _)
end Go.Proofs.YtopjjcgmcieboaaGreatDoor
