/-
  awake, of the statements on pillars, answers true: the examples of the chapter; nothing that was there is turned.
-/
import Derived.Test.YtfognlealnhodaaAW
namespace Go.Proofs.Ytfognlealnhodaa
open Go.RowKit

set_option maxRecDepth 100000 in
set_option maxHeartbeats 16000000 in
theorem awake_ok (w : World) : Calls Try.prog 19 #[] w fun e w' => e = .returned (.bool true) ∧ Ext w w' := by
  go_enter Try.func19, Try.ntmps19
  go_wp2_with fail
  refine (hill160 w).mono ?_
  rintro e x1 ⟨v, rfl, hv, hx⟩
  have X1 : Hid (Ext w x1) := hx
  have HV := Lib.hid hv
  clear hv
  clear hx
  go_wp2_with fail
  refine (hill_sees v x1 HV.out 0 2 true false (by omega) (by omega) (by omega) (by kernel_rfl) (by kernel_rfl)).mono ?_
  rintro e x2 ⟨rfl, hx⟩
  have X2 : Hid (Ext w x2) := X1.out.trans hx
  clear hx
  clear HV
  go_wp2_with fail
  refine (hill160 x2).mono ?_
  rintro e x3 ⟨v, rfl, hv, hx⟩
  have X3 : Hid (Ext w x3) := X2.out.trans hx
  have HV := Lib.hid hv
  clear hv
  clear hx
  go_wp2_with fail
  refine (hill_sees v x3 HV.out 1 3 true true (by omega) (by omega) (by omega) (by kernel_rfl) (by kernel_rfl)).mono ?_
  rintro e x4 ⟨rfl, hx⟩
  have X4 : Hid (Ext w x4) := X3.out.trans hx
  clear hx
  clear HV
  go_wp2_with fail
  refine (hill160 x4).mono ?_
  rintro e x5 ⟨v, rfl, hv, hx⟩
  have X5 : Hid (Ext w x5) := X4.out.trans hx
  have HV := Lib.hid hv
  clear hv
  clear hx
  go_wp2_with fail
  refine (hill_sees v x5 HV.out 0 3 false false (by omega) (by omega) (by omega) (by kernel_rfl) (by kernel_rfl)).mono ?_
  rintro e x6 ⟨rfl, hx⟩
  have X6 : Hid (Ext w x6) := X5.out.trans hx
  clear hx
  clear HV
  go_wp2_with fail
  refine (hill160 x6).mono ?_
  rintro e x7 ⟨v, rfl, hv, hx⟩
  have X7 : Hid (Ext w x7) := X6.out.trans hx
  have HV := Lib.hid hv
  clear hv
  clear hx
  go_wp2_with fail
  refine (hill_fewest v x7 HV.out).mono ?_
  rintro e x8 ⟨a1, c1, L1, rfl, hL1, hs1, hx⟩
  have X8 : Hid (Ext w x8) := X7.out.trans hx
  have HL1 := Lib.hid hL1
  have HS1 := Lib.hid hs1
  clear hL1 hs1
  clear hx
  clear HV
  go_wp2_with fail
  refine (hill160 x8).mono ?_
  rintro e x9 ⟨v, rfl, hv, hx⟩
  have X9 : Hid (Ext w x9) := X8.out.trans hx
  replace HS1 := Lib.hid (HS1.out.ext hx)
  have HV := Lib.hid hv
  clear hv
  clear hx
  go_wp2_with fail
  refine (hill_proves v x9 HV.out).mono ?_
  rintro e x10 ⟨rfl, hx⟩
  have X10 : Hid (Ext w x10) := X9.out.trans hx
  replace HS1 := Lib.hid (HS1.out.ext hx)
  clear hx
  clear HV
  go_wp2_with fail
  refine (equal_lit a1 c1 L1 [0, 1, 3] x10 HS1.out (by simp) HL1.out).mono ?_
  rintro e x11 ⟨rfl, hx⟩
  have X11 : Hid (Ext w x11) := X10.out.trans hx
  replace HS1 := Lib.hid (HS1.out.ext hx)
  clear hx
  clear HS1 HL1
  go_wp2_with fail
  refine (hill160 x11).mono ?_
  rintro e x12 ⟨v, rfl, hv, hx⟩
  have X12 : Hid (Ext w x12) := X11.out.trans hx
  have HV := Lib.hid hv
  clear hv
  clear hx
  go_wp2_with fail
  refine (hill_tall v x12 HV.out 0 2 51 (by omega) (by omega) (by omega) (by kernel_rfl) (by omega)).mono ?_
  rintro e x13 ⟨rfl, hx⟩
  have X13 : Hid (Ext w x13) := X12.out.trans hx
  clear hx
  clear HV
  go_wp2_with fail
  refine (hill160 x13).mono ?_
  rintro e x14 ⟨v, rfl, hv, hx⟩
  have X14 : Hid (Ext w x14) := X13.out.trans hx
  have HV := Lib.hid hv
  clear hv
  clear hx
  go_wp2_with fail
  refine (hill_tall v x14 HV.out 0 3 61 (by omega) (by omega) (by omega) (by kernel_rfl) (by omega)).mono ?_
  rintro e x15 ⟨rfl, hx⟩
  have X15 : Hid (Ext w x15) := X14.out.trans hx
  clear hx
  clear HV
  go_wp2_with fail
  refine (hill159 x15).mono ?_
  rintro e x16 ⟨v, rfl, hv, hx⟩
  have X16 : Hid (Ext w x16) := X15.out.trans hx
  have HV := Lib.hid hv
  clear hv
  clear hx
  go_wp2_with fail
  refine (mend159 v x16 HV.out).mono ?_
  rintro e x17 ⟨a1, c1, L1, rfl, hL1, hs1, hx⟩
  have X17 : Hid (Ext w x17) := X16.out.trans hx
  have HL1 := Lib.hid hL1
  have HS1 := Lib.hid hs1
  clear hL1 hs1
  clear hx
  clear HV
  go_wp2_with fail
  refine (hill160 x17).mono ?_
  rintro e x18 ⟨v, rfl, hv, hx⟩
  have X18 : Hid (Ext w x18) := X17.out.trans hx
  replace HS1 := Lib.hid (HS1.out.ext hx)
  have HV := Lib.hid hv
  clear hv
  clear hx
  go_wp2_with fail
  refine (mend160 v x18 HV.out).mono ?_
  rintro e x19 ⟨vv, rfl, hx⟩
  have X19 : Hid (Ext w x19) := X18.out.trans hx
  replace HS1 := Lib.hid (HS1.out.ext hx)
  clear hx
  clear HV
  go_wp2_with fail
  refine (equal_lit a1 c1 L1 [0, 2, 3] x19 HS1.out (by simp) HL1.out).mono ?_
  rintro e x20 ⟨rfl, hx⟩
  have X20 : Hid (Ext w x20) := X19.out.trans hx
  replace HS1 := Lib.hid (HS1.out.ext hx)
  clear hx
  clear HS1 HL1
  go_wp2_with fail
  refine (book_r x20).mono ?_
  rintro e x21 ⟨s, rfl, HB, hx⟩
  have X21 : Hid (Ext w x21) := X20.out.trans hx
  clear hx
  go_wp2_with fail
  refine (found_any 150 155 (-1) x21).mono ?_
  rintro e x22 ⟨f, rfl, hg, hn, hf, hx⟩
  have X22 : Hid (Ext w x22) := X21.out.trans hx
  replace HB := Lib.hid (And.intro HB.out.1 (HB.out.2.ext hx))
  have HG := Lib.hid hg
  have HN := Lib.hid hn
  have HF := Lib.hid hf
  clear hg hn hf
  clear hx
  go_wp2_with fail
  refine (book_numbers s f x22 HB.out.1 HB.out.2 HG.out HN.out HF.out).mono ?_
  rintro e x23 ⟨r, rfl, HR, hx⟩
  have X23 : Hid (Ext w x23) := X22.out.trans hx
  replace HB := Lib.hid (And.intro HB.out.1 (HB.out.2.ext hx))
  clear hx
  clear HB
  clear HG HN HF
  go_wp2_with fail
  refine (book_r x23).mono ?_
  rintro e x24 ⟨s, rfl, HB, hx⟩
  have X24 : Hid (Ext w x24) := X23.out.trans hx
  replace HR := Lib.hid (And.intro HR.out.1 (And.intro (HR.out.2.1.ext hx) (fun x hx9 => (HR.out.2.2 x hx9).ext hx)))
  clear hx
  go_wp2_with fail
  refine (found_any 150 155 3 x24).mono ?_
  rintro e x25 ⟨f, rfl, hg, hn, hf, hx⟩
  have X25 : Hid (Ext w x25) := X24.out.trans hx
  replace HR := Lib.hid (And.intro HR.out.1 (And.intro (HR.out.2.1.ext hx) (fun x hx9 => (HR.out.2.2 x hx9).ext hx)))
  replace HB := Lib.hid (And.intro HB.out.1 (HB.out.2.ext hx))
  have HG := Lib.hid hg
  have HN := Lib.hid hn
  have HF := Lib.hid hf
  clear hg hn hf
  clear hx
  go_wp2_with fail
  refine (book_readings s f x25 HB.out.1 HB.out.2 HG.out HN.out HF.out).mono ?_
  rintro e x26 ⟨rfl, hx⟩
  have X26 : Hid (Ext w x26) := X25.out.trans hx
  replace HR := Lib.hid (And.intro HR.out.1 (And.intro (HR.out.2.1.ext hx) (fun x hx9 => (HR.out.2.2 x hx9).ext hx)))
  replace HB := Lib.hid (And.intro HB.out.1 (HB.out.2.ext hx))
  clear hx
  clear HB
  clear HG HN HF
  go_wp2_with fail
  refine (book_r x26).mono ?_
  rintro e x27 ⟨s, rfl, HB, hx⟩
  have X27 : Hid (Ext w x27) := X26.out.trans hx
  replace HR := Lib.hid (And.intro HR.out.1 (And.intro (HR.out.2.1.ext hx) (fun x hx9 => (HR.out.2.2 x hx9).ext hx)))
  clear hx
  go_wp2_with (go_at_call 24; refine (span_any _ _ _).mono ?_; rintro e w' ⟨rfl, rfl⟩)
  refine (wrong_w s x27 HB.out.1 HB.out.2).mono ?_
  rintro e y1 ⟨a3, c3, L3, rfl, hL3, hs3, hx⟩
  have Y1 : Hid (Ext w y1) := X27.out.trans hx
  replace HR := Lib.hid (And.intro HR.out.1 (And.intro (HR.out.2.1.ext hx) (fun x hx9 => (HR.out.2.2 x hx9).ext hx)))
  have HL3 := Lib.hid hL3
  have HS3 := Lib.hid hs3
  clear hx hL3 hs3 HB
  go_wp2_with fail
  refine (all_w r y1 HR.out.1 HR.out.2.1 HR.out.2.2).mono ?_
  rintro e y2 ⟨rfl, hx⟩
  have Y2 : Hid (Ext w y2) := Y1.out.trans hx
  replace HS3 := Lib.hid (HS3.out.ext hx)
  clear hx HR
  go_wp2_with fail
  refine (equal_lit a3 c3 L3 [1] y2 HS3.out (by simp) HL3.out).mono ?_
  rintro e y3 ⟨rfl, hx⟩
  have Y3 : Hid (Ext w y3) := Y2.out.trans hx
  clear hx
  go_wp2
  go_ret
  exact ⟨rfl, Y3.out⟩
end Go.Proofs.Ytfognlealnhodaa
