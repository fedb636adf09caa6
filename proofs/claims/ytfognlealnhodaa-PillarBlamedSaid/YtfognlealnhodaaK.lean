/-
  seen of package pillar yields the later places that are seen from one, in increasing order. The profile at work must lie in memory as told, and the loop's body must keep it.
-/
import Derived.Test.YtfognlealnhodaaI
import Derived.Test.YtfognlealnhodaaG
import Derived.TacticsInMore
import Derived.OwnWalkIn
import Derived.LoopIn
import Derived.LoopN
import Derived.Deep.DeepCutAuto
namespace Go.Proofs.Ytfognlealnhodaa
open Go.RowKit
attribute [local go_sem] Oper.semAt_some

/-- The later places that are seen from one, of the first m. -/
def seenTo (S : Nat → Nat → Bool) (p m : Nat) : List Nat := (List.range m).filter fun q => decide (p < q) && S p q
theorem seenTo_succ (S : Nat → Nat → Bool) (p m : Nat) : seenTo S p (m + 1) = seenTo S p m ++ (if decide (p < m) && S p m then [m] else []) := by
  unfold seenTo
  rw [List.range_succ, List.filter_append]
  cases h : (decide (p < m) && S p m) <;> simp [h]
theorem seenTo_first (S : Nat → Nat → Bool) (p m : Nat) (h : m ≤ p + 1) : seenTo S p m = [] := by
  unfold seenTo
  rw [List.filter_eq_nil_iff]
  intro q hq
  simp only [List.mem_range] at hq
  simp; omega
theorem seenTo_prefix (S : Nat → Nat → Bool) (p m m' : Nat) (h : m ≤ m') : seenTo S p m <+: seenTo S p m' := by
  obtain ⟨d, rfl⟩ := Nat.exists_eq_add_of_le h
  induction d with
  | zero => exact List.prefix_refl _
  | succ d ih => exact (ih (by omega)).trans (by rw [show m + (d + 1) = (m + d) + 1 by omega, seenTo_succ]; exact List.prefix_append _ _)
theorem seenTo_mem {S : Nat → Nat → Bool} {p m q : Nat} : q ∈ seenTo S p m ↔ q < m ∧ p < q ∧ S p q = true := by
  simp [seenTo]

theorem Wk.keep {a b : World} {B : Nat} {d : Bool} {v : PV} {S : Nat → Nat → Bool} {D : Nat → Prop} (h : Wk a B d v S) (k : Keep D a b) (hd : D B) (hp : IsP b v) : Wk b B d v S := by
  obtain ⟨cs, h1, h2⟩ := h.blk
  exact ⟨hp, cs, k.heap h1 hd, h2⟩
/-- The block of a profile at work, without its lists. -/
def WB (w : World) (B : Nat) (d : Bool) (v : PV) (S : Nat → Nat → Bool) : Prop := ∃ cs : Array Value, w.heap[B]? = some (.cells cs 115 (0, 0)) ∧ WC cs d v S
theorem Wk.wb {w : World} {B : Nat} {d : Bool} {v : PV} {S : Nat → Nat → Bool} (h : Wk w B d v S) : WB w B d v S := h.blk
theorem WB.keep {a b : World} {B : Nat} {d : Bool} {v : PV} {S : Nat → Nat → Bool} {D : Nat → Prop} (h : WB a B d v S) (k : Keep D a b) (hd : D B) : WB b B d v S := by
  obtain ⟨cs, h1, h2⟩ := h; exact ⟨cs, k.heap h1 hd, h2⟩
theorem WB.ext {a b : World} {B : Nat} {d : Bool} {v : PV} {S : Nat → Nat → Bool} (h : WB a B d v S) (k : Ext a b) : WB b B d v S := by
  obtain ⟨cs, h1, h2⟩ := h; exact ⟨cs, k.block h1, h2⟩
theorem WB.lt {w : World} {B : Nat} {d : Bool} {v : PV} {S : Nat → Nat → Bool} (h : WB w B d v S) : B < w.heap.size := by
  obtain ⟨cs, h1, h2⟩ := h; exact (Array.getElem?_eq_some_iff.1 h1).1
theorem WB.c0 {w : World} {B : Nat} {d : Bool} {v : PV} {S : Nat → Nat → Bool} (h : WB w B d v S) : w.cell? ⟨B, 0, none⟩ = some (.slice v.at'.a v.at'.l.length v.at'.c) := by
  obtain ⟨cs, h1, h2⟩ := h; rw [cell_at h1, h2.c0]
theorem WB.cell {w : World} {B : Nat} {d : Bool} {v : PV} {S : Nat → Nat → Bool} (h : WB w B d v S) (f t : Nat) (hf : f < 40) (ht : t < 40) : w.cell? ⟨B, 7 + f * 40 + t, none⟩ = some (.bool (S f t)) := by
  obtain ⟨cs, h1, h2⟩ := h; rw [cell_at h1, h2.ct f t hf ht]

theorem sees_wb (B : Nat) (d : Bool) (v : PV) (S : Nat → Nat → Bool) (i j : Nat) (w : World) (hw : WB w B d v S) (hi : i < 40) (hj : j < 40) :
    Calls Try.prog 77 #[.pointer (some ⟨B, 0, none⟩), .int .i64 (i : Int), .int .i64 (j : Int)] w fun e w' => e = .returned (.bool (S i j)) ∧ w = w' := by
  have c := hw.cell i j hi hj
  have hlt := hw.lt
  generalize S i j = b at *
  clear hw
  have i1 : (0 : Int) ≤ i := by omega
  have i2 : (i : Int) < 40 := by omega
  have i3 : (0 : Int) ≤ j := by omega
  have i4 : (j : Int) < 40 := by omega
  go_enter Try.func77, Try.ntmps77
  go_wp2
  go_ret
  exact ⟨rfl, rfl⟩

theorem enters_88 : Enters Try.prog 88 := fun args w => Proofs.enters_of Try.func88 (by kernel_rfl) rfl args w
abbrev intV (n : Nat) : Value := .int .i64 (n : Int)

set_option maxRecDepth 100000 in
set_option maxHeartbeats 2000000 in
theorem seen1_gives (B pb wb place : Nat) (d : Bool) (v : PV) (S : Nat → Nat → Bool) (w0 : World) (M : Nat → Prop) (hW : WB w0 B d v S) (hn : v.at'.l.length ≤ 40) (hpl : place < v.at'.l.length)
    (hp : w0.cell? ⟨pb, 0, none⟩ = some (.int .i64 (place : Int))) (hw : w0.cell? ⟨wb, 0, none⟩ = some (.pointer (some ⟨B, 0, none⟩))) (hM : M B ∧ M pb ∧ M wb) :
    Gives intV Try.prog 88 #[.pointer (some ⟨pb, 0, none⟩), .pointer (some ⟨wb, 0, none⟩)] M (seenTo S place v.at'.l.length) w0 := by
  intro l J Jx W hx hJ hJx hY h0
  have HJ := Lib.hid hJ; clear hJ
  have HJx := Lib.hid hJx; clear hJx
  have HY := Lib.hid hY; clear hY
  have H0 := Lib.hid (h0 W.heap.size (Nat.le_refl _)); clear h0
  have HM := Lib.hid hM; clear hM
  have HWB := Lib.hid (hW.ext hx)
  have HPc := Lib.hid (hx.cell hp)
  have HWc := Lib.hid (hx.cell hw)
  have hl1 := hW.lt
  have hl2 := lt_of_cell hp
  have hl3 := lt_of_cell hw
  dsimp only at hl2 hl3
  have HL : Hid (B < w0.heap.size ∧ pb < w0.heap.size ∧ wb < w0.heap.size) := ⟨hl1, hl2, hl3⟩
  have cp := HPc.out
  clear hW hp hw hl1 hl2 hl3 hx
  go_enter Try.func88, Try.ntmps88
  go_wp2_with fail
  clear cp
  go_loopw [4] (fun s wr => ∃ (m : Nat) (pre : List Nat), s = .int .i64 (m : Int) ∧ place < m ∧ m ≤ v.at'.l.length ∧ Hid (pre = seenTo S place m) ∧ Hid (J W.heap.size pre wr) ∧ Hid (WB wr B d v S) ∧ Hid (wr.cell? ⟨pb, 0, none⟩ = some (.int .i64 (place : Int))) ∧ Hid (wr.cell? ⟨wb, 0, none⟩ = some (.pointer (some ⟨B, 0, none⟩))) ∧ Hid (W.heap.size ≤ wr.heap.size)) (fun s _ => v.at'.l.length - (intOf s).toNat)
  case atStart => exact ⟨place + 1, [], rfl, by omega, by omega, (seenTo_first S place (place + 1) (Nat.le_refl _)).symm, H0, HWB, HPc, HWc, Nat.le_refl _⟩
  case round =>
    clear HWB HPc HWc H0
    obtain ⟨wo, rfl⟩ : ∃ wo : World, wo = wr := ⟨_, rfl⟩
    obtain ⟨m, pre, rfl, hpm, hm, HPre, HJm, HWB, HPc, HWc, HSz⟩ := hrel
    have c0 := HWB.out.c0
    have cp := HPc.out
    have cw := HWc.out
    have hl1 := HWB.out.lt
    by_cases hlt : m < v.at'.l.length
    · have dm : decide ((m : Int) < (v.at'.l.length : Int)) = true := decide_eq_true (by omega)
      have HS := Lib.hid (sees_wb B d v S place m wo HWB.out (by omega) (by omega))
      have HT := Lib.hid (seenTo_succ S place m)
      cases hs : S place m
      · rw [hs] at HS
        have HPre2 : Hid (pre = seenTo S place (m + 1)) := by show _ = _; rw [HT.out, hs, HPre.out]; simp
        clear hs HT HPre
        go_wp2_with (go_at_call 77; refine HS.out.mono ?_; rintro e w' ⟨rfl, rfl⟩)
        go_roundw
        case rel => exact ⟨m + 1, pre, by go_num, by omega, by omega, HPre2, HJm, HWB, HPc, HWc, HSz⟩
        case measure => simp [intOf]; omega
      · rw [hs] at HS
        have HPre2 : Hid (pre ++ [m] = seenTo S place (m + 1)) := by show _ = _; rw [HT.out, hs, HPre.out]; simp; omega
        clear hs HT
        have hpf : (pre ++ [m]) <+: seenTo S place v.at'.l.length := by rw [HPre2.out]; exact seenTo_prefix S place _ _ (by omega)
        have hy1 := yield_wide (HY.out W.heap.size pre m wo (Nat.le_refl _) HSz.out HJm.out hpf)
        obtain ⟨fn, tm, ac, bc, hy, hR⟩ := hy1
        have HRn := Lib.hid hR
        clear hR hpf
        go_upto_region 3 with (fail)
        refine (wpIn_wide (n := 3)).1 ?_
        gi_wp2_with (first
          | (refine ⟨trivial, ?_⟩; gi_at_call 77; refine (callsIn_wide.2 HS.out).mono ?_; rintro e w' ⟨rfl, rfl⟩)
          | (refine (HRn.out _).mono ?_; clear HRn hy; rintro e w2 (⟨rfl, hJ2, hk2⟩ | ⟨rfl, hx2⟩)))
        · have HK2 := Lib.hid hk2
          have HJ2 := Lib.hid hJ2
          clear hk2 hJ2
          go_wp2
          go_roundw
          case rel => exact ⟨m + 1, pre ++ [m], by go_num, by omega, by omega, HPre2, HJ2, HWB.out.keep HK2.out (.inl ⟨HL.out.1, HM.out.1⟩), HK2.out.cell HPc.out (.inl ⟨HL.out.2.1, HM.out.2.1⟩), HK2.out.cell HWc.out (.inl ⟨HL.out.2.2, HM.out.2.2⟩), Nat.le_trans HSz.out HK2.out.size⟩
          case measure => simp [intOf]; omega
        · have HX2 := Lib.hid hx2
          clear hx2
          go_wp2
          refine bodyPost_ret (results_none rfl _ _ _) rfl ?_
          exact ⟨⟨_, rfl⟩, W.heap.size, Nat.le_refl _, .inr ⟨pre ++ [m], by rw [HPre2.out]; exact seenTo_prefix S place _ _ (by omega), HX2.out⟩⟩
    · have dm : decide ((m : Int) < (v.at'.l.length : Int)) = false := decide_eq_false (by omega)
      have hme : m = v.at'.l.length := by omega
      have HMe := Lib.hid hme; clear hme
      go_wp2
      go_end0
      refine ⟨⟨_, rfl⟩, W.heap.size, Nat.le_refl _, .inl ?_⟩
      have := HJm.out
      rw [HPre.out, HMe.out] at this
      exact this

/-- seen of package pillar: a function value that yields the later places that are seen. -/
theorem seen_any (B place : Nat) (w : World) :
    Calls Try.prog 76 #[.pointer (some ⟨B, 0, none⟩), .int .i64 (place : Int)] w fun e w' => e = .returned (.func (.func 88) #[] #[.pointer (some ⟨w.heap.size + 1, 0, none⟩), .pointer (some ⟨w.heap.size, 0, none⟩)]) ∧
      w' = (w.alloc (.cells #[.pointer (some ⟨B, 0, none⟩)] 82)).alloc (.cells #[.int .i64 (place : Int)] 3) := by
  go_enter Try.func76, Try.ntmps76
  go_wp2
  go_ret
  exact ⟨rfl, rfl⟩

/-- The same, with what the function value gives. -/
theorem seen_gives (B place : Nat) (d : Bool) (v : PV) (S : Nat → Nat → Bool) (w : World) (hW : WB w B d v S) (hn : v.at'.l.length ≤ 40) (hpl : place < v.at'.l.length) :
    Calls Try.prog 76 #[.pointer (some ⟨B, 0, none⟩), .int .i64 (place : Int)] w fun e w' => ∃ pb wb, e = .returned (.func (.func 88) #[] #[.pointer (some ⟨pb, 0, none⟩), .pointer (some ⟨wb, 0, none⟩)]) ∧ w.heap.size ≤ pb ∧ w.heap.size ≤ wb ∧ Ext w w' ∧
      (∀ (w0 : World) (M : Nat → Prop), Keep (fun k => k = B ∨ k = pb ∨ k = wb) w' w0 → M B ∧ M pb ∧ M wb → Gives intV Try.prog 88 #[.pointer (some ⟨pb, 0, none⟩), .pointer (some ⟨wb, 0, none⟩)] M (seenTo S place v.at'.l.length) w0) := by
  refine (seen_any B place w).mono ?_
  rintro e w' ⟨rfl, rfl⟩
  have hx : Ext w ((w.alloc (.cells #[.pointer (some ⟨B, 0, none⟩)] 82)).alloc (.cells #[.int .i64 (place : Int)] 3)) := ((Ext.refl w).alloc _).alloc _
  refine ⟨_, _, rfl, by omega, by omega, hx, fun w0 M hk hM => ?_⟩
  refine seen1_gives B _ _ place d v S w0 M ((hW.ext hx).keep hk (.inl rfl)) hn hpl (hk.cell ?_ (.inr (.inl rfl))) (hk.cell ?_ (.inr (.inr rfl))) hM
  · exact (cell_at (alloc_new (by simp only [World.size_alloc])) 0).trans rfl
  · exact (cell_at ((alloc_old (by simp only [World.size_alloc]; omega)).trans (alloc_new rfl)) 0).trans rfl
end Go.Proofs.Ytfognlealnhodaa
