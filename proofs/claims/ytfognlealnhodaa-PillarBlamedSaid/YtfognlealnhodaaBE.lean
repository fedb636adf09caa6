/-
  behind of package pillar yields the pillars that the stone behind one can be, if this is a pillar, in increasing order. The book must lie in memory as told, and the loop's body must keep it and the finds.
-/
import Derived.Test.YtfognlealnhodaaOP
import Derived.Test.YtfognlealnhodaaGR
import Derived.TacticsInMore
import Derived.OwnWalkIn
import Derived.LoopIn
import Derived.LoopN
import Derived.Deep.DeepCutAuto
namespace Go.Proofs.Ytfognlealnhodaa
open Go.RowKit
attribute [local go_sem] Oper.semAt_some

/-- Where a list of finds lies D speaks of. -/
def FIn (D : Nat → Prop) (f : FV) : Prop := (∀ g off, f.gp.a = some ⟨g, off, none⟩ → 0 < f.gp.l.length → D g) ∧ (∀ g off, f.nm.a = some ⟨g, off, none⟩ → 0 < f.nm.l.length → D g)
theorem IsF.keep {a b : World} {f : FV} {D : Nat → Prop} (h : IsF a f) (k : Keep D a b) (hd : FIn D f) : IsF b f := ⟨h.gp.keep k hd.1, h.nm.keep k hd.2⟩
theorem FIn.mono {D D' : Nat → Prop} {f : FV} (h : FIn D f) (k : ∀ x, D x → D' x) : FIn D' f := ⟨fun g off ha hn => k g (h.1 g off ha hn), fun g off ha hn => k g (h.2 g off ha hn)⟩
theorem isSl_lt {α : Type} {sz : Nat} {cs : α → Nat → Value} {w : World} {s : SL α} (h : IsSl sz cs w s) (hsz : 0 < sz) : ∀ g off, s.a = some ⟨g, off, none⟩ → 0 < s.l.length → g < w.heap.size := by
  intro g off ha hn
  obtain ⟨_, _, h3⟩ := h
  obtain ⟨b, o, hb, hc⟩ := h3.resolve_left (by omega)
  rw [ha] at hb
  simp only [Option.some.injEq, Addr.mk.injEq, and_true] at hb
  obtain ⟨rfl, rfl⟩ := hb
  exact lt_of_cell (hc 0 hn 0 hsz)
theorem IsF.lt {w : World} {f : FV} (h : IsF w f) : FIn (fun k => k < w.heap.size) f := ⟨isSl_lt h.gp (by omega), isSl_lt h.nm (by omega)⟩
theorem says_bkb (B P : Nat) (f : FV) (ap : Nat → Nat → Nat × Nat) (wy : Nat → Nat → Nat) (st p : Nat) (w : World) (hw : BkB w B f P ap wy) (hf : IsF w f) (hs : st < f.nm.l.length) :
    Calls Try.prog 81 #[.pointer (some ⟨B, 0, none⟩), .int .i64 (st : Int), .int .i64 (p : Int)] w fun e w' => e = .returned (.bool (saysF f.nm.l st p)) ∧ w = w' := says_any B P f ap wy st p w (hw.bk hf) hs
theorem enters_90 : Enters Try.prog 90 := fun args w => Proofs.enters_of Try.func90 (by kernel_rfl) rfl args w
theorem com_neq (c : Nat × Nat) : (!((c.1 : Int) == 0 && (c.2 : Int) == 0)) = !decide (c = (0, 0)) := by
  obtain ⟨a, b⟩ := c
  simp only [Prod.mk.injEq]
  by_cases h1 : a = 0 <;> by_cases h2 : b = 0 <;> simp [h1, h2] <;> omega

set_option maxRecDepth 100000 in
set_option maxHeartbeats 4000000 in
theorem beh1_gives (B pb wb sb P place st : Nat) (f : FV) (ap : Nat → Nat → Nat × Nat) (w0 : World) (M : Nat → Prop) (hf : IsF w0 f) (hP : P ≤ 40) (hpl : place < 40) (hst : st < f.gp.l.length) (hst2 : st + 1 < f.nm.l.length)
    (hp : w0.cell? ⟨pb, 0, none⟩ = some (.int .i64 (place : Int))) (hw : w0.cell? ⟨wb, 0, none⟩ = some (.pointer (some ⟨B, 0, none⟩))) (hs : w0.cell? ⟨sb, 0, none⟩ = some (.int .i64 (st : Int))) (hM : M pb ∧ M wb ∧ M sb) (hMF : FIn M f) :
    GivesR intV Try.prog 90 #[.pointer (some ⟨pb, 0, none⟩), .pointer (some ⟨wb, 0, none⟩), .pointer (some ⟨sb, 0, none⟩)] M (fun W => ∃ wy, BkB W B f P ap wy) (behF f.gp.l f.nm.l ap P st place) w0 := by
  intro l J Jx W hx hJ hJx hY h0 hR0
  have HJ := Lib.hid hJ; clear hJ
  have HJx := Lib.hid hJx; clear hJx
  have HY := Lib.hid hY; clear hY
  have HRr := Lib.hid hR0; clear hR0
  have H0 := Lib.hid (h0 W.heap.size (Nat.le_refl _)); clear h0
  have HM := Lib.hid hM; clear hM
  have HMF := Lib.hid hMF; clear hMF
  have HF := Lib.hid (hf.ext hx)
  have HFl := Lib.hid hf.lt
  have HPc := Lib.hid (hx.cell hp)
  have HWc := Lib.hid (hx.cell hw)
  have HSc := Lib.hid (hx.cell hs)
  have hl2 := lt_of_cell hp
  have hl3 := lt_of_cell hw
  have hl4 := lt_of_cell hs
  dsimp only at hl2 hl3 hl4
  have HL : Hid (pb < w0.heap.size ∧ wb < w0.heap.size ∧ sb < w0.heap.size) := ⟨hl2, hl3, hl4⟩
  have HX0 : Hid (w0.heap.size ≤ W.heap.size) := hx.size
  have cp := HPc.out
  obtain ⟨bg, og, hga, hgc⟩ := hf.gp.2.2.resolve_left (by omega)
  have HGa := Lib.hid hga
  clear hp hw hs hl2 hl3 hl4 hx hf hga hgc
  go_enter Try.func90, Try.ntmps90
  go_wp2_with fail
  clear cp
  go_loopw [5] (fun s wr => ∃ (m : Nat) (pre : List Nat), s = .int .i64 (m : Int) ∧ place < m ∧ m ≤ max (place + 1) P ∧ Hid (pre = seenTo (fitF f.gp.l f.nm.l ap st) place m) ∧ Hid (J W.heap.size pre wr) ∧ Hid (IsF wr f) ∧ Hid (wr.cell? ⟨pb, 0, none⟩ = some (.int .i64 (place : Int))) ∧ Hid (wr.cell? ⟨wb, 0, none⟩ = some (.pointer (some ⟨B, 0, none⟩))) ∧ Hid (wr.cell? ⟨sb, 0, none⟩ = some (.int .i64 (st : Int))) ∧ Hid (W.heap.size ≤ wr.heap.size)) (fun s _ => P - (intOf s).toNat)
  case atStart => exact ⟨place + 1, [], rfl, by omega, by omega, (seenTo_first _ place (place + 1) (Nat.le_refl _)).symm, H0, HF, HPc, HWc, HSc, Nat.le_refl _⟩
  case round =>
    clear HF HPc HWc HSc H0
    obtain ⟨wo, rfl⟩ : ∃ wo : World, wo = wr := ⟨_, rfl⟩
    obtain ⟨m, pre, rfl, hpm, hm, HPre, HJm, HF, HPc, HWc, HSc, HSz⟩ := hrel
    obtain ⟨wy, hBk⟩ := HRr.out W.heap.size pre wo (Nat.le_refl _) HJm.out
    have HBk := Lib.hid hBk; clear hBk
    have c2 := HBk.out.c2
    have cp := HPc.out
    have cw := HWc.out
    have cs := HSc.out
    have hl1 := HBk.out.lt
    by_cases hlt : m < P
    · have dm : decide ((m : Int) < (P : Int)) = true := decide_eq_true (by omega)
      have c0 := HBk.out.c0
      obtain ⟨ca1, ca2⟩ := HBk.out.ap (i := place) (j := m) hpl (by omega)
      obtain ⟨bg', og', hga', hgc⟩ := HF.out.gp.2.2.resolve_left (by omega)
      have e1 := HGa.out
      rw [e1] at hga'
      simp only [Option.some.injEq, Addr.mk.injEq, and_true] at hga'
      obtain ⟨rfl, rfl⟩ := hga'
      have cg1 : wo.cell? ⟨bg, og + st * 2, none⟩ = some (Value.int .i64 (f.gp.l[st].1 : Int)) := by have := hgc st hst 0 (by omega); simpa [spC] using this
      have cg2 : wo.cell? ⟨bg, og + st * 2 + 1, none⟩ = some (Value.int .i64 (f.gp.l[st].2 : Int)) := by have := hgc st hst 1 (by omega); simpa [spC] using this
      rw [e1] at c0
      have HSay := Lib.hid (says_bkb B P f ap wy (st + 1) m wo HBk.out HF.out hst2)
      have HFit : Hid (fitF f.gp.l f.nm.l ap st place m = (!decide (comF (ap place m) f.gp.l[st] = (0, 0)) && saysF f.nm.l (st + 1) m)) := by show _ = _; unfold fitF; rw [List.getElem?_eq_getElem hst]; rfl
      have HT := Lib.hid (seenTo_succ (fitF f.gp.l f.nm.l ap st) place m)
      clear hgc e1
      generalize f.gp.l[st] = gs at *
      generalize ap place m = am at *
      go_wp2_with fail
      have i1 : (0 : Int) ≤ (place : Int) := by omega
      have i2 : (place : Int) < 40 := by omega
      have i3 : (0 : Int) ≤ (m : Int) := by omega
      have i4 : (m : Int) < 40 := by omega
      have i5 : (0 : Int) ≤ (st : Int) := by omega
      have i6 : (st : Int) < (f.gp.l.length : Int) := by omega
      have HCs : Hid (∀ w1, Ext wo w1 → w1.cell? ⟨wb, 0, none⟩ = some (.pointer (some ⟨B, 0, none⟩)) ∧ w1.cell? ⟨pb, 0, none⟩ = some (.int .i64 (place : Int)) ∧ w1.cell? ⟨sb, 0, none⟩ = some (.int .i64 (st : Int)) ∧ w1.cell? ⟨B, 0, none⟩ = some (.slice (some ⟨bg, og, none⟩) f.gp.l.length f.gp.c) ∧ w1.cell? ⟨B, 3 + place * 80 + m * 2, none⟩ = some (.int .i64 (am.1 : Int)) ∧ w1.cell? ⟨B, 3 + place * 80 + m * 2 + 1, none⟩ = some (.int .i64 (am.2 : Int)) ∧ w1.cell? ⟨bg, og + st * 2, none⟩ = some (.int .i64 (gs.1 : Int)) ∧ w1.cell? ⟨bg, og + st * 2 + 1, none⟩ = some (.int .i64 (gs.2 : Int))) := fun w1 h => ⟨h.cell cw, h.cell cp, h.cell cs, h.cell c0, h.cell ca1, h.cell ca2, h.cell cg1, h.cell cg2⟩
      clear c2
      have HCom := Lib.hid (common_any am gs wo.drew)
      generalize comF am gs = cm at *
      obtain ⟨x, y⟩ := cm
      dsimp only at HCom
      by_cases hxy : x = 0 ∧ y = 0
      · have hx : ((x : Int) == 0) = true := by rw [beq_iff_eq]; omega
        have hy : ((y : Int) == 0) = true := by rw [beq_iff_eq]; omega
        have HFi : Hid (fitF f.gp.l f.nm.l ap st place m = false) := by show _ = _; rw [HFit.out, decide_eq_true (by rw [hxy.1, hxy.2])]; rfl
        have HPre2 : Hid (pre = seenTo (fitF f.gp.l f.nm.l ap st) place (m + 1)) := by show _ = _; rw [HT.out, HFi.out, HPre.out]; simp
        clear hxy HFit HFi HT HPre
        go_region_held3 (fun w1 => w1.cell? ⟨wb, 0, none⟩ = some (.pointer (some ⟨B, 0, none⟩)) ∧ w1.cell? ⟨pb, 0, none⟩ = some (.int .i64 (place : Int)) ∧ w1.cell? ⟨sb, 0, none⟩ = some (.int .i64 (st : Int)) ∧ w1.cell? ⟨B, 0, none⟩ = some (.slice (some ⟨bg, og, none⟩) f.gp.l.length f.gp.c) ∧ w1.cell? ⟨B, 3 + place * 80 + m * 2, none⟩ = some (.int .i64 (am.1 : Int)) ∧ w1.cell? ⟨B, 3 + place * 80 + m * 2 + 1, none⟩ = some (.int .i64 (am.2 : Int)) ∧ w1.cell? ⟨bg, og + st * 2, none⟩ = some (.int .i64 (gs.1 : Int)) ∧ w1.cell? ⟨bg, og + st * 2 + 1, none⟩ = some (.int .i64 (gs.2 : Int)))
          ((refine HCs.out _ ?_ <;> (repeat (first | exact Ext.refl _ | refine Ext.trans ?_ (by assumption) | refine Ext.drew ?_ | refine Ext.alloc ?_ _))))
          (first
            | (go_at_call 91; refine HCom.out.mono ?_; rintro e we ⟨rfl, hx'⟩))
        have hXe : Ext wo we := (Ext.refl wo).drew.trans hx'
        have HXe := Lib.hid hXe
        clear hx' hXe
        go_wp2_with fail
        go_roundw
        case rel => exact ⟨m + 1, pre, by go_num, by omega, by omega, HPre2, HJ.out _ _ _ _ (Nat.le_refl _) HJm.out (Keep.of_ext HXe.out), HF.out.ext HXe.out, HXe.out.cell cp, HXe.out.cell cw, HXe.out.cell cs, Nat.le_trans HSz.out HXe.out.size⟩
        case measure => simp [intOf]; omega
      · have HFi : Hid (fitF f.gp.l f.nm.l ap st place m = saysF f.nm.l (st + 1) m) := by show _ = _; rw [HFit.out, decide_eq_false (by simp only [Prod.mk.injEq]; exact hxy)]; rfl
        have HSay2 : Hid (∀ we, Ext wo we → Calls Try.prog 81 #[.pointer (some ⟨B, 0, none⟩), .int .i64 ((st : Int) + 1), .int .i64 (m : Int)] we fun e w' => e = .returned (.bool (saysF f.nm.l (st + 1) m)) ∧ we = w') := fun we h => says_bkb B P f ap wy (st + 1) m we (HBk.out.ext h) (HF.out.ext h) hst2
        have hwr : IntKind.i64.wrap ((st : Int) + 1) = (st : Int) + 1 := IntWalk.i64_in _ (by have := HF.out.gp.2.1; omega)
        have hcase : ((x : Int) == 0) = false ∨ (((x : Int) == 0) = true ∧ ((y : Int) == 0) = false) := by
          by_cases h : x = 0
          · right; exact ⟨by rw [beq_iff_eq]; omega, by rw [beq_eq_false_iff_ne]; omega⟩
          · left; rw [beq_eq_false_iff_ne]; omega
        clear hxy HFit HSay
        rcases hcase with hx | ⟨hx, hy⟩
        all_goals
          go_region_held3 (fun w1 => w1.cell? ⟨wb, 0, none⟩ = some (.pointer (some ⟨B, 0, none⟩)) ∧ w1.cell? ⟨pb, 0, none⟩ = some (.int .i64 (place : Int)) ∧ w1.cell? ⟨sb, 0, none⟩ = some (.int .i64 (st : Int)) ∧ w1.cell? ⟨B, 0, none⟩ = some (.slice (some ⟨bg, og, none⟩) f.gp.l.length f.gp.c) ∧ w1.cell? ⟨B, 3 + place * 80 + m * 2, none⟩ = some (.int .i64 (am.1 : Int)) ∧ w1.cell? ⟨B, 3 + place * 80 + m * 2 + 1, none⟩ = some (.int .i64 (am.2 : Int)) ∧ w1.cell? ⟨bg, og + st * 2, none⟩ = some (.int .i64 (gs.1 : Int)) ∧ w1.cell? ⟨bg, og + st * 2 + 1, none⟩ = some (.int .i64 (gs.2 : Int)))
            ((refine HCs.out _ ?_ <;> (repeat (first | exact Ext.refl _ | refine Ext.trans ?_ (by assumption) | refine Ext.drew ?_ | refine Ext.alloc ?_ _))))
            (first
              | (go_at_call 91; refine HCom.out.mono ?_; rintro e we ⟨rfl, hx'⟩))
          have hXe : Ext wo we := (Ext.refl wo).drew.trans hx'
          have HXe := Lib.hid hXe
          clear hx' hXe
          have HSy := Lib.hid (HSay2.out we HXe.out)
          obtain ⟨q1, q2, q3, -⟩ := HCs.out _ HXe.out
          cases hs : saysF f.nm.l (st + 1) m
          · rw [hs] at HSy
            have HPre2 : Hid (pre = seenTo (fitF f.gp.l f.nm.l ap st) place (m + 1)) := by show _ = _; rw [HT.out, HFi.out, hs, HPre.out]; simp
            clear hs HT HPre HFi HSay2
            go_wp2_with (go_at_call 81; refine HSy.out.mono ?_; rintro e w' ⟨rfl, rfl⟩)
            go_roundw
            case rel => exact ⟨m + 1, pre, by go_num, by omega, by omega, HPre2, HJ.out _ _ _ _ (Nat.le_refl _) HJm.out (Keep.of_ext HXe.out), HF.out.ext HXe.out, q2, q1, q3, Nat.le_trans HSz.out HXe.out.size⟩
            case measure => simp [intOf]; omega
          · rw [hs] at HSy
            have HPre2 : Hid (pre ++ [m] = seenTo (fitF f.gp.l f.nm.l ap st) place (m + 1)) := by show _ = _; rw [HT.out, HFi.out, hs, HPre.out]; simp; omega
            clear hs HT HFi HSay2
            have hpf : (pre ++ [m]) <+: behF f.gp.l f.nm.l ap P st place := by rw [HPre2.out]; exact seenTo_prefix _ place _ _ (by omega)
            have hy1 := yield_wide (HY.out W.heap.size pre m we (Nat.le_refl _) (Nat.le_trans HSz.out HXe.out.size) (HJ.out _ _ _ _ (Nat.le_refl _) HJm.out (Keep.of_ext HXe.out)) hpf)
            obtain ⟨fn, tm, ac, bc, hy9, hR⟩ := hy1
            have HRn := Lib.hid hR
            clear hR hpf
            go_upto_region 4 with (fail)
            refine (wpIn_wide (n := 3)).1 ?_
            gi_wp2_with (first
              | (refine ⟨trivial, ?_⟩; gi_at_call 81; refine (callsIn_wide.2 HSy.out).mono ?_; rintro e w' ⟨rfl, rfl⟩)
              | (refine (HRn.out _).mono ?_; clear HRn hy9; rintro e w2 (⟨rfl, hJ2, hk2⟩ | ⟨rfl, hx2⟩)))
            · have HK2 := Lib.hid hk2
              have HJ2 := Lib.hid hJ2
              clear hk2 hJ2
              go_wp2
              go_roundw
              case rel => exact ⟨m + 1, pre ++ [m], by go_num, by omega, by omega, HPre2, HJ2, (HF.out.ext HXe.out).keep HK2.out ⟨fun g off ha hn => .inl ⟨HFl.out.1 g off ha hn, HMF.out.1 g off ha hn⟩, fun g off ha hn => .inl ⟨HFl.out.2 g off ha hn, HMF.out.2 g off ha hn⟩⟩, HK2.out.cell q2 (.inl ⟨HL.out.1, HM.out.1⟩), HK2.out.cell q1 (.inl ⟨HL.out.2.1, HM.out.2.1⟩), HK2.out.cell q3 (.inl ⟨HL.out.2.2, HM.out.2.2⟩), Nat.le_trans HSz.out (Nat.le_trans HXe.out.size HK2.out.size)⟩
              case measure => simp [intOf]; omega
            · have HX2 := Lib.hid hx2
              clear hx2
              go_wp2
              refine bodyPost_ret (results_none rfl _ _ _) rfl ?_
              exact ⟨⟨_, rfl⟩, W.heap.size, Nat.le_refl _, .inr ⟨pre ++ [m], by rw [HPre2.out]; exact seenTo_prefix _ place _ _ (by omega), HX2.out⟩⟩
    · have dm : decide ((m : Int) < (P : Int)) = false := decide_eq_false (by omega)
      have HMe : Hid (seenTo (fitF f.gp.l f.nm.l ap st) place m = behF f.gp.l f.nm.l ap P st place) := by
        show _ = _
        unfold behF
        by_cases h : P ≤ place + 1
        · rw [seenTo_first _ place P h, seenTo_first _ place m (by omega)]
        · rw [show m = P by omega]
      go_wp2
      go_end0
      refine ⟨⟨_, rfl⟩, W.heap.size, Nat.le_refl _, .inl ?_⟩
      have := HJm.out
      rw [HPre.out, HMe.out] at this
      exact this

/-- behind of package pillar: a function value that yields the pillars that the stone behind one can be. -/
theorem behind_any (B st place : Nat) (w : World) :
    Calls Try.prog 82 #[.pointer (some ⟨B, 0, none⟩), .int .i64 (st : Int), .int .i64 (place : Int)] w fun e w' => e = .returned (.func (.func 90) #[] #[.pointer (some ⟨w.heap.size + 2, 0, none⟩), .pointer (some ⟨w.heap.size, 0, none⟩), .pointer (some ⟨w.heap.size + 1, 0, none⟩)]) ∧
      w' = ((w.alloc (.cells #[.pointer (some ⟨B, 0, none⟩)] 100)).alloc (.cells #[.int .i64 (st : Int)] 3)).alloc (.cells #[.int .i64 (place : Int)] 3) := by
  go_enter Try.func82, Try.ntmps82
  go_wp2
  go_ret
  exact ⟨rfl, rfl⟩

/-- The same, with what the function value gives. -/
theorem behind_gives (B P st place : Nat) (f : FV) (ap : Nat → Nat → Nat × Nat) (w : World) (hf : IsF w f) (hP : P ≤ 40) (hpl : place < 40) (hst : st < f.gp.l.length) (hst2 : st + 1 < f.nm.l.length) :
    Calls Try.prog 82 #[.pointer (some ⟨B, 0, none⟩), .int .i64 (st : Int), .int .i64 (place : Int)] w fun e w' => ∃ pb wb sb, e = .returned (.func (.func 90) #[] #[.pointer (some ⟨pb, 0, none⟩), .pointer (some ⟨wb, 0, none⟩), .pointer (some ⟨sb, 0, none⟩)]) ∧ w.heap.size ≤ pb ∧ w.heap.size ≤ wb ∧ w.heap.size ≤ sb ∧ Ext w w' ∧
      (∀ (w0 : World) (M : Nat → Prop), Ext w' w0 → M pb ∧ M wb ∧ M sb → FIn M f → GivesR intV Try.prog 90 #[.pointer (some ⟨pb, 0, none⟩), .pointer (some ⟨wb, 0, none⟩), .pointer (some ⟨sb, 0, none⟩)] M (fun W => ∃ wy, BkB W B f P ap wy) (behF f.gp.l f.nm.l ap P st place) w0) := by
  refine (behind_any B st place w).mono ?_
  rintro e w' ⟨rfl, rfl⟩
  have hx : Ext w (((w.alloc (.cells #[.pointer (some ⟨B, 0, none⟩)] 100)).alloc (.cells #[.int .i64 (st : Int)] 3)).alloc (.cells #[.int .i64 (place : Int)] 3)) := (((Ext.refl w).alloc _).alloc _).alloc _
  refine ⟨_, _, _, rfl, by omega, by omega, by omega, hx, fun w0 M hk hM hMF => ?_⟩
  refine beh1_gives B _ _ _ P place st f ap w0 M ((hf.ext hx).ext hk) hP hpl hst hst2 (hk.cell ?_) (hk.cell ?_) (hk.cell ?_) hM hMF
  · exact (cell_at (alloc_new (by simp only [World.size_alloc])) 0).trans rfl
  · exact (cell_at ((alloc_old (by simp only [World.size_alloc]; omega)).trans ((alloc_old (by simp only [World.size_alloc]; omega)).trans (alloc_new rfl))) 0).trans rfl
  · exact (cell_at ((alloc_old (by simp only [World.size_alloc]; omega)).trans (alloc_new (by simp only [World.size_alloc]))) 0).trans rfl
end Go.Proofs.Ytfognlealnhodaa
