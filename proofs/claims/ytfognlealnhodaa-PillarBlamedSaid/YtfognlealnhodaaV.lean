/-
  holds of package pillar tells whether pillars hold; Holds, Levels and Proves return what they say. The profile must lie in memory as told and be right.
-/
import Derived.Test.YtfognlealnhodaaU
import Derived.Test.YtfognlealnhodaaI
import Derived.BigQuiet
namespace Go.Proofs.Ytfognlealnhodaa
open Go.RowKit

/-- Pillars hold. -/
def holdsF (S : Nat → Nat → Bool) (n : Nat) (l : List Nat) : Bool :=
  decide (0 < l.length) && (decide (l[0]?.getD 0 = 0) && (decide (l[l.length - 1]?.getD 0 + 1 = n) && nextB S l (l.length - 1)))

/-- A method value that answers for two numbers, and turns nothing. -/
def Asks2R (P : Program) (g : Nat) (rc : Value) (D : Nat → Nat → Prop) (p : Nat → Nat → Bool) (w : World) : Prop :=
  ∀ (x y : Nat), D x y → ∀ (w' : World), Ext w w' → Calls P g #[rc, .int .i64 (x : Int), .int .i64 (y : Int)] w' fun e w'' => e = .returned (.bool (p x y)) ∧ w' = w''

set_option maxHeartbeats 1000000 in
theorem everyNext_recv (g : Nat) (rc : Value) (D : Nat → Nat → Prop) (p : Nat → Nat → Bool) (s : SL Nat) (w : World) (hE : Enters Try.prog g) (hv : IsSl 1 num w s)
    (hD : ∀ k, k + 1 < s.l.length → D ((s.l[k]?).getD 0) ((s.l[k + 1]?).getD 0)) (hp : Asks2R Try.prog g rc D p w) :
    Calls Try.prog 70 #[.slice s.a s.l.length s.c, .func (.func g) #[rc] #[]] w fun e w' => e = .returned (.bool (nextB p s.l (s.l.length - 1))) ∧ Dr w w' := by
  obtain ⟨a, c, l⟩ := s
  obtain ⟨h1, h2, h3⟩ := hv
  dsimp only at h1 h2 h3 hD ⊢
  have H3 := Lib.hid h3; clear h3
  have HP := Lib.hid hp; clear hp
  have HD := Lib.hid hD; clear hD
  have HE : ∀ args w, (callFunc g args).run Try.prog w = .ok (.enter g args) w := hE; clear hE
  go_enter Try.func70, Try.ntmps70
  go_wp2
  go_loopw [5] (fun i wr => ∃ j : Nat, i = .int .i64 ((j : Int) + 1) ∧ (j = 0 ∨ j + 1 ≤ l.length) ∧ Hid (nextB p l j = true) ∧ Hid (Dr w wr)) (fun i _ => l.length + 1 - (intOf i).toNat)
  case atStart => exact ⟨0, rfl, .inl rfl, rfl, ⟨0, rfl⟩⟩
  case round =>
    obtain ⟨wo, rfl⟩ : ∃ wo : World, wo = wr := ⟨_, rfl⟩
    obtain ⟨j, rfl, hj, HN, HD2⟩ := hrel
    have HX : Hid (Ext w wo) := by obtain ⟨m, rfl⟩ := HD2.out; exact (Ext.refl w).drewN m
    have HDn : Hid (∀ q, Dr w (wo.drewN q)) := fun q => by obtain ⟨m, rfl⟩ := HD2.out; exact ⟨m + q, by rw [World.drewN_drewN]⟩
    by_cases hlt : j + 1 < l.length
    · obtain ⟨b, off, rfl, hc⟩ := H3.out.resolve_left (by omega)
      have hcell0 : wo.cell? ⟨b, off + j, none⟩ = some (.int .i64 (((l[j]?).getD 0 : Nat) : Int)) := by have := HX.out.cell (hc j (by omega) 0 (by omega)); rw [List.getElem?_eq_getElem (show j < l.length by omega)]; simpa [num] using this
      have hcell1 : wo.cell? ⟨b, off + (j + 1), none⟩ = some (.int .i64 (((l[j + 1]?).getD 0 : Nat) : Int)) := by have := HX.out.cell (hc (j + 1) (by omega) 0 (by omega)); rw [List.getElem?_eq_getElem hlt]; simpa [num] using this
      have HC := Lib.hid (fun n => HP.out _ _ (HD.out j hlt) (wo.drewN n) (HX.out.drewN n))
      have HS : Hid (nextB p l (j + 1) = p ((l[j]?).getD 0) ((l[j + 1]?).getD 0)) := by show _ = _; simp only [nextB]; rw [HN.out]; rfl
      clear hc
      generalize (l[j]?).getD 0 = x at *
      generalize (l[j + 1]?).getD 0 = y at *
      have hj2 : j + 1 ≤ 1000000 := by omega
      clear hj
      have hd : decide ((j : Int) + 1 < (l.length : Int)) = true := by simp; omega
      have i1 : (0 : Int) ≤ j := by omega
      have i2 : (j : Int) < (l.length : Int) := by omega
      have i3 : (j : Int) + 1 < (l.length : Int) := by omega
      cases hpx : p x y
      · rw [hpx] at HC HS
        clear hpx
        go_wp2_with fail
        go_quiet (exact quiet_same (HC.out _))
        go_wp2
        go_ret
        exact ⟨by rw [nextB_false HS.out (by omega)]; rfl, HDn.out _⟩
      · rw [hpx] at HC HS
        clear hpx
        go_wp2_with fail
        go_quiet (exact quiet_same (HC.out _))
        go_wp2
        go_roundw
        case rel => exact ⟨j + 1, by simp, .inr (by omega), HS, HDn.out _⟩
        case measure => simp [intOf]; omega
    · have hd : decide ((j : Int) + 1 < (l.length : Int)) = false := by simp; omega
      have hj2 : j + 1 ≤ 1000000 + 1 := by omega
      have HL : Hid (nextB p l (l.length - 1) = true) := by
        have := HN.out
        rcases hj with rfl | hj
        · rw [show l.length - 1 = 0 by omega]; rfl
        · rw [show l.length - 1 = j by omega]; exact this
      clear hj
      go_wp2
      go_ret
      exact ⟨by rw [HL.out]; rfl, HD2.out⟩

theorem enters_77 : Enters Try.prog 77 := fun args w => Proofs.enters_of Try.func77 (by kernel_rfl) rfl args w

set_option maxRecDepth 100000 in
set_option maxHeartbeats 2000000 in
theorem holds_any (B : Nat) (d : Bool) (v : PV) (S : Nat → Nat → Bool) (s : SL Nat) (w : World) (hw : Wk w B d v S) (hn : v.at'.l.length ≤ 40) (hn1 : 1 ≤ v.at'.l.length) (hs : IsSl 1 num w s) (hl : ∀ x ∈ s.l, x < v.at'.l.length) :
    Calls Try.prog 43 #[.pointer (some ⟨B, 0, none⟩), .slice s.a s.l.length s.c] w fun e w' => e = .returned (.bool (holdsF S v.at'.l.length s.l)) ∧ Ext w w' := by
  have HE : Hid (∀ n, Calls Try.prog 70 #[.slice s.a s.l.length s.c, .func (.func 77) #[.pointer (some ⟨B, 0, none⟩)] #[]] (w.drewN n) fun e w' => e = .returned (.bool (nextB S s.l (s.l.length - 1))) ∧ ∃ m, w' = w.drewN m) := fun n => by
    refine Calls.mono (everyNext_recv 77 _ (fun x y => x < 40 ∧ y < 40) S s _ enters_77 (hs.ext ((Ext.refl w).drewN n)) ?_ ?_) (fun e w' h => ⟨h.1, by obtain ⟨m, hm⟩ := h.2; exact ⟨n + m, by rw [hm, World.drewN_drewN]⟩⟩)
    · intro k hk
      rw [List.getElem?_eq_getElem (show k < s.l.length by omega), List.getElem?_eq_getElem hk]
      have := hl _ (List.getElem_mem (show k < s.l.length by omega))
      have := hl _ (List.getElem_mem hk)
      exact ⟨by simp only [Option.getD_some]; omega, by simp only [Option.getD_some]; omega⟩
    · intro x y hxy w' hx
      exact sees_any B d v S x y w' ((hw.ext ((Ext.refl w).drewN n)).ext hx) hxy.1 hxy.2
  have HC0 : Hid (∀ w', Ext w w' → w'.cell? ⟨B, 0, none⟩ = some (.slice v.at'.a v.at'.l.length v.at'.c)) := fun w' h => (hw.ext h).wb.c0
  have hBlt := hw.lt
  obtain ⟨n, hnn⟩ : ∃ n, v.at'.l.length = n := ⟨_, rfl⟩
  rw [hnn] at HC0 hn hl hn1 ⊢
  clear hw hnn
  obtain ⟨sa, sc, l⟩ := s
  obtain ⟨h1, h2, h3⟩ := hs
  dsimp only at h1 h2 h3 hl HE ⊢
  clear hl
  by_cases hz : l.length = 0
  · have HQ : Hid (holdsF S n l = false) := by show _ = _; simp [holdsF, hz]
    clear HE h3
    go_enter Try.func43, Try.ntmps43
    have c0 := HC0.out w (Ext.refl w)
    have d1 : decide ((0 : Int) ≤ (l.length : Int) - 1) = false := decide_eq_false (by omega)
    go_wp2_with fail
    go_quiet (fail)
    go_wp2
    go_ret
    exact ⟨by rw [HQ.out]; rfl, (Ext.refl w).drewN _⟩
  · obtain ⟨b, off, rfl, hc⟩ := h3.resolve_left hz
    have HCf : Hid (∀ w', Ext w w' → w'.cell? ⟨b, off, none⟩ = some (.int .i64 ((l[0]?.getD 0 : Nat) : Int))) := fun w' h => by
      have := h.cell (hc 0 (by omega) 0 (by omega)); rw [List.getElem?_eq_getElem (show 0 < l.length by omega)]; simpa [num] using this
    obtain ⟨m, hm⟩ : ∃ m, l.length = m + 1 := ⟨l.length - 1, by omega⟩
    have HCl : Hid (∀ w', Ext w w' → w'.cell? ⟨b, off + m, none⟩ = some (.int .i64 ((l[l.length - 1]?.getD 0 : Nat) : Int))) := fun w' h => by
      have := h.cell (hc m (by omega) 0 (by omega)); rw [List.getElem?_eq_getElem (show l.length - 1 < l.length by omega)]; simpa [num, hm] using this
    clear hc
    have HQ : Hid (holdsF S n l = (decide (l[0]?.getD 0 = 0) && (decide (l[l.length - 1]?.getD 0 + 1 = n) && nextB S l (l.length - 1)))) := by
      show _ = _; simp only [holdsF]; rw [decide_eq_true (show 0 < l.length by omega)]; rfl
    generalize l[0]?.getD 0 = x at *
    generalize l[l.length - 1]?.getD 0 = y at *
    have hm1 : ((l.length : Nat) : Int) - 1 = (m : Int) := by omega
    generalize nextB S l (l.length - 1) = bl at *
    have hm0 : (0 : Int) ≤ (m : Int) := by omega
    have hm2 : (m : Int) < (l.length : Int) := by omega
    clear hm hz
    have hxn : Hid (holdsF S n l = (decide (x = 0) && (decide (y + 1 = n) && bl))) := HQ
    by_cases hx : x = 0
    · by_cases hy : y + 1 = n
      · have d1 : decide ((0 : Int) ≤ (l.length : Int) - 1) = true := decide_eq_true (by rw [hm1]; exact hm0)
        have d3 : ((y : Int) == (n : Int) - 1) = true := by rw [beq_iff_eq]; omega
        subst hx
        have hR : holdsF S n l = bl := by rw [HQ.out, decide_eq_true hy]; simp
        rw [hR]
        clear hR HQ hxn
        have cf := HCf.out w (Ext.refl w)
        have cl := HCl.out w (Ext.refl w)
        have c0 := HC0.out w (Ext.refl w)
        go_enter Try.func43, Try.ntmps43
        go_wp2_with fail
        go_quiet (exact HE.out _)
        go_wp2
        go_ret
        exact ⟨rfl, (Ext.refl w).drewN _⟩
      · have d1 : decide ((0 : Int) ≤ (l.length : Int) - 1) = true := decide_eq_true (by rw [hm1]; exact hm0)
        have d3 : ((y : Int) == (n : Int) - 1) = false := by rw [beq_eq_false_iff_ne]; omega
        subst hx
        have hR : holdsF S n l = false := by rw [HQ.out, decide_eq_false hy]; simp
        rw [hR]
        clear hR HQ hxn
        have cf := HCf.out w (Ext.refl w)
        have cl := HCl.out w (Ext.refl w)
        have c0 := HC0.out w (Ext.refl w)
        go_enter Try.func43, Try.ntmps43
        go_wp2_with fail
        go_quiet (fail)
        go_wp2
        go_ret
        exact ⟨rfl, (Ext.refl w).drewN _⟩
    · have d1 : decide ((0 : Int) ≤ (l.length : Int) - 1) = true := decide_eq_true (by omega)
      have d2 : ((x : Int) == 0) = false := by rw [beq_eq_false_iff_ne]; omega
      have hR : holdsF S n l = false := by rw [HQ.out, decide_eq_false hx]; simp
      rw [hR]
      clear hR HQ hxn
      have cf := HCf.out w (Ext.refl w)
      go_enter Try.func43, Try.ntmps43
      go_wp2_with fail
      go_quiet (fail)
      go_wp2
      go_ret
      exact ⟨rfl, (Ext.refl w).drewN _⟩

set_option maxRecDepth 100000 in
set_option maxHeartbeats 1000000 in
theorem holds_ok (v : PV) (s : SL Nat) (w : World) (hp : IsP w v) (hk : OkP v.p) (hs : IsSl 1 num w s) (hl : ∀ x ∈ s.l, x < v.at'.l.length) :
    Calls Try.prog 13 #[v.v, .slice s.a s.l.length s.c] w fun e w' => e = .returned (.tuple #[.bool (holdsF (allF true v.p) v.at'.l.length s.l), .int .i64 0]) ∧ Ext w w' := by
  have HF := Lib.hid (five_new w v)
  have HX := Lib.hid ((Ext.refl w).alloc (.cells #[.slice v.at'.a v.at'.l.length v.at'.c, .slice v.gr.a v.gr.l.length v.gr.c, .int .i64 (v.T : Int), .int .i64 (v.lo : Int), .int .i64 (v.hi : Int)] 30))
  have HP := Lib.hid hp
  have HK := Lib.hid hk
  have HC := Lib.hid (fun w1 (h : Ext w w1) => checkPillars_ok v s w1 (hp.ext h) hk (hs.ext h) hl)
  have hn1 := hk.n1
  have hn2 := hk.n2
  dsimp only at hn1 hn2
  have HH := Lib.hid (fun (B : Nat) (w1 : World) (h : Wk w1 B true v (allF true v.p)) (hx : Ext w w1) => holds_any B true v _ s w1 h (by omega) (by omega) (hs.ext hx) hl)
  clear hn1 hn2
  generalize holdsF (allF true v.p) v.at'.l.length s.l = r at *
  clear hp hk hs hl
  obtain ⟨c0, c1, c2, c3, c4⟩ := HF.out
  go_enter Try.func13, Try.ntmps13
  go_wp2_with fail
  clear c0 c1 c2 c3 c4
  refine (HC.out _ HX.out).mono ?_
  rintro e w1 ⟨rfl, hx1⟩
  have HX1 : Hid (Ext w w1) := HX.out.trans hx1
  have HF1 := Lib.hid (HF.out.ext hx1)
  clear hx1 HX HF HC
  obtain ⟨c0, c1, c2, c3, c4⟩ := HF1.out
  go_wp2_with fail
  clear c0 c1 c2 c3 c4
  refine (inDark_any v _ (HP.out.ext HX1.out) HK.out).mono ?_
  rintro e w2 ⟨B, rfl, hW, hle, hx2⟩
  have HX2 : Hid (Ext w w2) := HX1.out.trans hx2
  have HW := Lib.hid hW
  have HLe := Lib.hid hle
  clear hx2 hW hle
  go_wp2_with fail
  refine (HH.out _ _ HW.out HX2.out).mono ?_
  rintro e w3 ⟨rfl, hx3⟩
  have HX3 : Hid (Ext w w3) := HX2.out.trans hx3
  clear hx3
  go_wp2
  go_ret2
  exact ⟨rfl, HX3.out⟩

set_option maxRecDepth 100000 in
set_option maxHeartbeats 1000000 in
theorem levels_ok (v : PV) (w : World) (hp : IsP w v) (hk : OkP v.p) :
    Calls Try.prog 14 #[v.v] w fun e w' => ∃ b, e = .returned (.tuple #[.slice (some ⟨b, 0, none⟩) v.at'.l.length v.at'.l.length, .int .i64 0]) ∧ Row w' b (levelsF (allF true v.p) v.at'.l.length) v.at'.l.length ∧ w.heap.size ≤ b ∧ Ext w w' := by
  have HF := Lib.hid (five_new w v)
  have HX := Lib.hid ((Ext.refl w).alloc (.cells #[.slice v.at'.a v.at'.l.length v.at'.c, .slice v.gr.a v.gr.l.length v.gr.c, .int .i64 (v.T : Int), .int .i64 (v.lo : Int), .int .i64 (v.hi : Int)] 30))
  have HP := Lib.hid hp
  have HK := Lib.hid hk
  have HC := Lib.hid (fun w1 (h : Ext w w1) => check_ok v w1 (hp.ext h) hk)
  have hn1 := hk.n1
  have hn2 := hk.n2
  dsimp only at hn1 hn2
  have HH := Lib.hid (fun (B : Nat) (w1 : World) (h : Wk w1 B true v (allF true v.p)) => levels_any B true v _ w1 h (by omega) (by omega))
  clear hn1 hn2
  generalize levelsF (allF true v.p) v.at'.l.length = r at *
  clear hp hk
  obtain ⟨c0, c1, c2, c3, c4⟩ := HF.out
  go_enter Try.func14, Try.ntmps14
  go_wp2_with fail
  clear c0 c1 c2 c3 c4
  refine (HC.out _ HX.out).mono ?_
  rintro e w1 ⟨rfl, hx1⟩
  have HX1 : Hid (Ext w w1) := HX.out.trans hx1
  have HF1 := Lib.hid (HF.out.ext hx1)
  clear hx1 HX HF HC
  obtain ⟨c0, c1, c2, c3, c4⟩ := HF1.out
  go_wp2_with fail
  clear c0 c1 c2 c3 c4
  refine (inDark_any v _ (HP.out.ext HX1.out) HK.out).mono ?_
  rintro e w2 ⟨B, rfl, hW, hle, hx2⟩
  have HX2 : Hid (Ext w w2) := HX1.out.trans hx2
  have HW := Lib.hid hW
  have HLe := Lib.hid hle
  clear hx2 hW hle
  go_wp2_with fail
  refine (HH.out _ _ HW.out).mono ?_
  rintro e w3 ⟨rfl, hr3, hx3⟩
  have HR3 := Lib.hid hr3
  have HX3 : Hid (Ext w w3) := HX2.out.trans hx3
  clear hx3 hr3
  have HS2 : Hid (w.heap.size ≤ w2.heap.size) := HX2.out.size
  go_wp2
  go_ret2
  exact ⟨_, rfl, HR3.out, HS2.out, HX3.out⟩
end Go.Proofs.Ytfognlealnhodaa
