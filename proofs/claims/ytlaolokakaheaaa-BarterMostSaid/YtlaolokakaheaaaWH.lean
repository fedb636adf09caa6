/-
  which and free of package barter yield the stretches of which something is so, in increasing order. The land must lie in memory as told, and the loop's body must keep it.
-/
import Derived.Test.YtlaolokakaheaaaLN
import Derived.Test.YtlaolokakaheaaaG
import Derived.TacticsInMore
import Derived.OwnWalkIn
import Derived.LoopIn
import Derived.LoopN
import Derived.Deep.DeepCutAuto
namespace Go.Proofs.Ytlaolokakaheaaa
open Go.RowKit
attribute [local go_sem] Oper.semAt_some

/-- The numbers below m for which something is so. -/
def whichF (p : Nat → Bool) (m : Nat) : List Nat := (List.range m).filter p
theorem whichF_succ (p : Nat → Bool) (m : Nat) : whichF p (m + 1) = whichF p m ++ (if p m then [m] else []) := by
  unfold whichF
  rw [List.range_succ, List.filter_append]
  cases h : p m <;> simp [h]
theorem whichF_prefix (p : Nat → Bool) (m m' : Nat) (h : m ≤ m') : whichF p m <+: whichF p m' := by
  obtain ⟨d, rfl⟩ := Nat.exists_eq_add_of_le h
  induction d with
  | zero => exact List.prefix_refl _
  | succ d ih => exact (ih (by omega)).trans (by rw [show m + (d + 1) = (m + d) + 1 by omega, whichF_succ]; exact List.prefix_append _ _)
theorem whichF_mem {p : Nat → Bool} {m q : Nat} : q ∈ whichF p m ↔ q < m ∧ p q = true := by simp [whichF]
theorem freeF_which (L : List St) : freeF L = whichF (fun i => (at' L i).free) L.length := rfl

theorem enters_71 : Enters Try.prog 71 := fun args w => Proofs.enters_of Try.func71 (by kernel_rfl) rfl args w
abbrev intV (n : Nat) : Value := .int .i64 (n : Int)

set_option maxRecDepth 100000 in
set_option maxHeartbeats 2000000 in
theorem which1_gives60 (a : Option Addr) (n c : Nat) (pre : Value) (p : Nat → Bool) (pb ib : Nat) (w0 : World) (M : Nat → Prop) (hn : n ≤ 1000000) (hA : AsksB 60 #[pre] p n M w0)
    (hp : w0.cell? ⟨pb, 0, none⟩ = some (.slice a n c)) (hi : w0.cell? ⟨ib, 0, none⟩ = some (.func (.func 60) #[pre] #[])) (hM : M ib) :
    Gives intV Try.prog 71 #[.pointer (some ⟨pb, 0, none⟩), .pointer (some ⟨ib, 0, none⟩)] M (whichF p n) w0 := by
  intro l J Jx W hx hJ hJx hY h0
  have HJ := Lib.hid hJ; clear hJ
  clear hJx
  have HY := Lib.hid hY; clear hY
  have H0 := Lib.hid (h0 W.heap.size (Nat.le_refl _)); clear h0
  have HA := Lib.hid hA; clear hA
  have HM := Lib.hid hM; clear hM
  have HIc := Lib.hid (hx.cell hi)
  have HXx := Lib.hid (Keep.of_ext (D := M) hx)
  have hl2 := lt_of_cell hi
  dsimp only at hl2
  have HL := Lib.hid hl2
  have cp := hx.cell hp
  clear hp hi hl2 hx
  go_enter Try.func71, Try.ntmps71
  go_wp2_with fail
  clear cp
  go_loopw [8] (fun s wr => ∃ (m : Nat) (pr : List Nat), s = .int .i64 (m : Int) ∧ m ≤ n ∧ Hid (pr = whichF p m) ∧ Hid (J W.heap.size pr wr) ∧ Hid (Keep M w0 wr) ∧ Hid (wr.cell? ⟨ib, 0, none⟩ = some (.func (.func 60) #[pre] #[])) ∧ Hid (W.heap.size ≤ wr.heap.size)) (fun s _ => n - (intOf s).toNat)
  case atStart => exact ⟨0, [], rfl, by omega, rfl, H0, HXx, HIc, Nat.le_refl _⟩
  case round =>
    clear HIc H0 HXx
    obtain ⟨wo, rfl⟩ : ∃ wo : World, wo = wr := ⟨_, rfl⟩
    obtain ⟨m, pr, rfl, hm, HPre, HJm, HK, HIc, HSz⟩ := hrel
    have ci := HIc.out
    by_cases hlt : m < n
    · have dm : decide ((m : Int) < (n : Int)) = true := decide_eq_true (by omega)
      have HS := Lib.hid (HA.out m hlt wo HK.out)
      have HT := Lib.hid (whichF_succ p m)
      cases hs : p m
      · rw [hs] at HS
        have HPre2 : Hid (pr = whichF p (m + 1)) := by show _ = _; rw [HT.out, hs, HPre.out]; simp
        clear hs HT HPre
        go_wp2_with (go_at_call 60; refine HS.out.mono ?_; rintro e w1 ⟨rfl, hx1⟩; have HX1 := Lib.hid hx1; clear hx1)
        go_roundw
        case rel => exact ⟨m + 1, pr, by go_num, by omega, HPre2, HJ.out _ _ _ _ (Nat.le_refl _) HJm.out (Keep.of_ext HX1.out), HK.out.ext HX1.out, HX1.out.cell HIc.out, Nat.le_trans HSz.out HX1.out.size⟩
        case measure => simp [intOf]; omega
      · rw [hs] at HS
        have HPre2 : Hid (pr ++ [m] = whichF p (m + 1)) := by show _ = _; rw [HT.out, hs, HPre.out]; simp
        clear hs HT
        have HPf : Hid ((pr ++ [m]) <+: whichF p n) := by show _ <+: _; rw [HPre2.out]; exact whichF_prefix p _ _ (by omega)
        go_upto_region 3 with (fail)
        refine (wpIn_wide (n := 3)).1 ?_
        gi_wp2_with (first
          | (refine ⟨trivial, ?_⟩; gi_at_call 60; refine (callsIn_wide.2 HS.out).mono ?_; rintro e w1 ⟨rfl, hx1⟩; obtain ⟨fn, tm, ac, bc, hy, hR⟩ := yield_wide (HY.out W.heap.size pr m w1 (Nat.le_refl _) (Nat.le_trans HSz.out hx1.size) (HJ.out _ _ _ _ (Nat.le_refl _) HJm.out (Keep.of_ext hx1)) HPf.out); have HRn := Lib.hid hR; have HX1 := Lib.hid hx1; clear hR hx1)
          | (refine (HRn.out _).mono ?_; clear HRn hy; rintro e w2 (⟨rfl, hJ2, hk2⟩ | ⟨rfl, hx2⟩)))
        · have HK2 := Lib.hid ((Keep.of_ext HX1.out).trans hk2)
          have HJ2 := Lib.hid hJ2
          clear hk2 hJ2
          go_wp2
          go_roundw
          case rel => exact ⟨m + 1, pr ++ [m], by go_num, by omega, HPre2, HJ2, (Keep.trans (HK.out.mono (D' := fun k => k < w0.heap.size ∧ M k) fun k _ h => h.2) (HK2.out.mono fun k _ h => .inl h)).mono fun k hk h => ⟨hk, h⟩, HK2.out.cell HIc.out (.inl ⟨HL.out, HM.out⟩), Nat.le_trans HSz.out HK2.out.size⟩
          case measure => simp [intOf]; omega
        · have HX2 := Lib.hid hx2
          clear hx2
          go_wp2
          refine bodyPost_ret (results_none rfl _ _ _) rfl ?_
          exact ⟨⟨_, rfl⟩, W.heap.size, Nat.le_refl _, .inr ⟨pr ++ [m], by rw [HPre2.out]; exact whichF_prefix p _ _ (by omega), HX2.out⟩⟩
    · have dm : decide ((m : Int) < (n : Int)) = false := decide_eq_false (by omega)
      have hmn : m = n := by omega
      subst hmn
      have HQ : Hid (J W.heap.size (whichF p m) wo) := by show J _ _ _; rw [← HPre.out]; exact HJm.out
      go_wp2
      go_end0
      exact ⟨⟨_, rfl⟩, W.heap.size, Nat.le_refl _, .inl HQ.out⟩

set_option maxRecDepth 100000 in
set_option maxHeartbeats 2000000 in
theorem which1_gives65 (a : Option Addr) (n c : Nat) (pre : Value) (p : Nat → Bool) (pb ib : Nat) (w0 : World) (M : Nat → Prop) (hn : n ≤ 1000000) (hA : AsksB 65 #[pre] p n M w0)
    (hp : w0.cell? ⟨pb, 0, none⟩ = some (.slice a n c)) (hi : w0.cell? ⟨ib, 0, none⟩ = some (.func (.func 65) #[pre] #[])) (hM : M ib) :
    Gives intV Try.prog 71 #[.pointer (some ⟨pb, 0, none⟩), .pointer (some ⟨ib, 0, none⟩)] M (whichF p n) w0 := by
  intro l J Jx W hx hJ hJx hY h0
  have HJ := Lib.hid hJ; clear hJ
  clear hJx
  have HY := Lib.hid hY; clear hY
  have H0 := Lib.hid (h0 W.heap.size (Nat.le_refl _)); clear h0
  have HA := Lib.hid hA; clear hA
  have HM := Lib.hid hM; clear hM
  have HIc := Lib.hid (hx.cell hi)
  have HXx := Lib.hid (Keep.of_ext (D := M) hx)
  have hl2 := lt_of_cell hi
  dsimp only at hl2
  have HL := Lib.hid hl2
  have cp := hx.cell hp
  clear hp hi hl2 hx
  go_enter Try.func71, Try.ntmps71
  go_wp2_with fail
  clear cp
  go_loopw [8] (fun s wr => ∃ (m : Nat) (pr : List Nat), s = .int .i64 (m : Int) ∧ m ≤ n ∧ Hid (pr = whichF p m) ∧ Hid (J W.heap.size pr wr) ∧ Hid (Keep M w0 wr) ∧ Hid (wr.cell? ⟨ib, 0, none⟩ = some (.func (.func 65) #[pre] #[])) ∧ Hid (W.heap.size ≤ wr.heap.size)) (fun s _ => n - (intOf s).toNat)
  case atStart => exact ⟨0, [], rfl, by omega, rfl, H0, HXx, HIc, Nat.le_refl _⟩
  case round =>
    clear HIc H0 HXx
    obtain ⟨wo, rfl⟩ : ∃ wo : World, wo = wr := ⟨_, rfl⟩
    obtain ⟨m, pr, rfl, hm, HPre, HJm, HK, HIc, HSz⟩ := hrel
    have ci := HIc.out
    by_cases hlt : m < n
    · have dm : decide ((m : Int) < (n : Int)) = true := decide_eq_true (by omega)
      have HS := Lib.hid (HA.out m hlt wo HK.out)
      have HT := Lib.hid (whichF_succ p m)
      cases hs : p m
      · rw [hs] at HS
        have HPre2 : Hid (pr = whichF p (m + 1)) := by show _ = _; rw [HT.out, hs, HPre.out]; simp
        clear hs HT HPre
        go_wp2_with (go_at_call 65; refine HS.out.mono ?_; rintro e w1 ⟨rfl, hx1⟩; have HX1 := Lib.hid hx1; clear hx1)
        go_roundw
        case rel => exact ⟨m + 1, pr, by go_num, by omega, HPre2, HJ.out _ _ _ _ (Nat.le_refl _) HJm.out (Keep.of_ext HX1.out), HK.out.ext HX1.out, HX1.out.cell HIc.out, Nat.le_trans HSz.out HX1.out.size⟩
        case measure => simp [intOf]; omega
      · rw [hs] at HS
        have HPre2 : Hid (pr ++ [m] = whichF p (m + 1)) := by show _ = _; rw [HT.out, hs, HPre.out]; simp
        clear hs HT
        have HPf : Hid ((pr ++ [m]) <+: whichF p n) := by show _ <+: _; rw [HPre2.out]; exact whichF_prefix p _ _ (by omega)
        go_upto_region 3 with (fail)
        refine (wpIn_wide (n := 3)).1 ?_
        gi_wp2_with (first
          | (refine ⟨trivial, ?_⟩; gi_at_call 65; refine (callsIn_wide.2 HS.out).mono ?_; rintro e w1 ⟨rfl, hx1⟩; obtain ⟨fn, tm, ac, bc, hy, hR⟩ := yield_wide (HY.out W.heap.size pr m w1 (Nat.le_refl _) (Nat.le_trans HSz.out hx1.size) (HJ.out _ _ _ _ (Nat.le_refl _) HJm.out (Keep.of_ext hx1)) HPf.out); have HRn := Lib.hid hR; have HX1 := Lib.hid hx1; clear hR hx1)
          | (refine (HRn.out _).mono ?_; clear HRn hy; rintro e w2 (⟨rfl, hJ2, hk2⟩ | ⟨rfl, hx2⟩)))
        · have HK2 := Lib.hid ((Keep.of_ext HX1.out).trans hk2)
          have HJ2 := Lib.hid hJ2
          clear hk2 hJ2
          go_wp2
          go_roundw
          case rel => exact ⟨m + 1, pr ++ [m], by go_num, by omega, HPre2, HJ2, (Keep.trans (HK.out.mono (D' := fun k => k < w0.heap.size ∧ M k) fun k _ h => h.2) (HK2.out.mono fun k _ h => .inl h)).mono fun k hk h => ⟨hk, h⟩, HK2.out.cell HIc.out (.inl ⟨HL.out, HM.out⟩), Nat.le_trans HSz.out HK2.out.size⟩
          case measure => simp [intOf]; omega
        · have HX2 := Lib.hid hx2
          clear hx2
          go_wp2
          refine bodyPost_ret (results_none rfl _ _ _) rfl ?_
          exact ⟨⟨_, rfl⟩, W.heap.size, Nat.le_refl _, .inr ⟨pr ++ [m], by rw [HPre2.out]; exact whichF_prefix p _ _ (by omega), HX2.out⟩⟩
    · have dm : decide ((m : Int) < (n : Int)) = false := decide_eq_false (by omega)
      have hmn : m = n := by omega
      subst hmn
      have HQ : Hid (J W.heap.size (whichF p m) wo) := by show J _ _ _; rw [← HPre.out]; exact HJm.out
      go_wp2
      go_end0
      exact ⟨⟨_, rfl⟩, W.heap.size, Nat.le_refl _, .inl HQ.out⟩

/-- which of package barter: a function value that asks of the stretches. -/
theorem which_any (x : Ld) (g : Nat) (pr : Array Value) (w : World) :
    Calls Try.prog 59 #[x.val, .func (.func g) pr #[]] w fun e w' => e = .returned (.func (.func 71) #[] #[.pointer (some ⟨w.heap.size, 0, none⟩), .pointer (some ⟨w.heap.size + 1, 0, none⟩)]) ∧
      w' = (w.alloc (.cells #[.slice x.s.a x.s.l.length x.s.c, .slice x.v.a x.v.l.length x.v.c] 26)).alloc (.cells #[.func (.func g) pr #[]] 72) := by
  go_enter Try.func59, Try.ntmps59
  go_wp2
  go_ret
  exact ⟨rfl, rfl⟩
/-- What which answers when it has boxed the land and the question. -/
def IsWhich (w : World) (x : Ld) (f : Value) (pb ib : Nat) : Prop := w.cell? ⟨pb, 0, none⟩ = some (.slice x.s.a x.s.l.length x.s.c) ∧ w.cell? ⟨ib, 0, none⟩ = some f
theorem IsWhich.ext {w w' : World} {x : Ld} {f : Value} {pb ib : Nat} (h : IsWhich w x f pb ib) (k : Ext w w') : IsWhich w' x f pb ib := ⟨k.cell h.1, k.cell h.2⟩
theorem which_new (x : Ld) (f : Value) (w : World) : IsWhich ((w.alloc (.cells #[.slice x.s.a x.s.l.length x.s.c, .slice x.v.a x.v.l.length x.v.c] 26)).alloc (.cells #[f] 72)) x f w.heap.size (w.heap.size + 1) := by
  constructor
  · exact (cell_at ((alloc_old (by simp only [World.size_alloc]; omega)).trans (alloc_new rfl)) 0).trans rfl
  · exact (cell_at (alloc_new (by simp only [World.size_alloc])) 0).trans rfl
theorem which_ans (x : Ld) (g : Nat) (pr : Array Value) (w : World) :
    Calls Try.prog 59 #[x.val, .func (.func g) pr #[]] w fun e w' => ∃ pb ib, e = .returned (.func (.func 71) #[] #[.pointer (some ⟨pb, 0, none⟩), .pointer (some ⟨ib, 0, none⟩)]) ∧ w.heap.size ≤ pb ∧ w.heap.size ≤ ib ∧ Ext w w' ∧ IsWhich w' x (.func (.func g) pr #[]) pb ib := by
  refine (which_any x g pr w).mono ?_
  rintro e w' ⟨rfl, rfl⟩
  exact ⟨_, _, rfl, by omega, by omega, ((Ext.refl w).alloc _).alloc _, which_new x _ w⟩
theorem bound_gives {w : World} {x : Ld} {pb ib : Nat} {M : Nat → Prop} (hw : IsWhich w x (.func (.func 60) #[x.val] #[]) pb ib) (h : StL w x.s) (hd : InB M x.s) (hM : M ib) :
    Gives intV Try.prog 71 #[.pointer (some ⟨pb, 0, none⟩), .pointer (some ⟨ib, 0, none⟩)] M (whichF (fun i => !(at' x.s.l i).free) x.s.l.length) w :=
  which1_gives60 x.s.a x.s.l.length x.s.c x.val _ pb ib w M h.le.2 (isBound_asks x M w h hd) hw.1 hw.2 hM
theorem free_gives {w : World} {x : Ld} {pb ib : Nat} {M : Nat → Prop} (hw : IsWhich w x (.func (.func 65) #[x.val] #[]) pb ib) (h : StL w x.s) (hd : InB M x.s) (hM : M ib) :
    Gives intV Try.prog 71 #[.pointer (some ⟨pb, 0, none⟩), .pointer (some ⟨ib, 0, none⟩)] M (freeF x.s.l) w :=
  which1_gives65 x.s.a x.s.l.length x.s.c x.val _ pb ib w M h.le.2 (isFree_asks x M w h hd) hw.1 hw.2 hM
/-- free of package barter. -/
theorem free_any (x : Ld) (w : World) :
    Calls Try.prog 50 #[x.val] w fun e w' => ∃ pb ib, e = .returned (.func (.func 71) #[] #[.pointer (some ⟨pb, 0, none⟩), .pointer (some ⟨ib, 0, none⟩)]) ∧ w.heap.size ≤ pb ∧ w.heap.size ≤ ib ∧ Ext w w' ∧ IsWhich w' x (.func (.func 65) #[x.val] #[]) pb ib := by
  have HC := Lib.hid (fun (W : World) => which_ans x 65 #[x.val] W)
  obtain ⟨⟨a, c, l⟩, ⟨a2, c2, l2⟩⟩ := x
  go_enter Try.func50, Try.ntmps50
  go_wp2_with (go_at_call 59; refine (HC.out _).mono ?_; rintro e w1 ⟨pb, ib, rfl, h1, h2, hx, hI⟩)
  go_ret
  have e1 := World.size_alloc w
  exact ⟨pb, ib, rfl, by simp only [World.size_alloc] at h1; omega, by simp only [World.size_alloc] at h2; omega, hx.unlaid, hI⟩
end Go.Proofs.Ytlaolokakaheaaa
