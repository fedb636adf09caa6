/-
  PillarBlamed's walk from where it reads the finds whose stone was moved, to its end.
  Stoned, of the statements on pillars, makes a roll, finds of some of its pillars, and which these are, of a deck: true and right ones, in new memory; the deck alone is turned.
  PillarBlamed answers true, whatever it is asked.
-/
import Derived.Test.YtfognlealnhodaaY5
import Derived.Test.YtfognlealnhodaaY0
import Derived.Test.YtfognlealnhodaaY2
import Derived.Test.YtfognlealnhodaaY4
import Derived.Test.YtfognlealnhodaaY1
import Derived.Test.YtfognlealnhodaaWO
import Derived.Test.YtfognlealnhodaaFO
namespace Go.Proofs.Ytfognlealnhodaa
open Go.RowKit

noncomputable def tail9_17 : Code := ((Try.f9.body.bind (tailT 17)).getD .skip)
def frT9 (rB fB k : Nat) (X : Nat → Value) : Array Value := #[X 0, X 1, X 2, X 3, X 4, X 5, X 6, .pointer (some ⟨rB, 0, none⟩), .pointer (some ⟨fB, 0, none⟩), X 9, .int .i64 (k : Int), X 11, X 12, X 13, X 14, X 15, X 16, X 17, X 18, X 19, X 20, X 21, X 22, X 23, X 24, X 25, X 26, X 27, X 28, X 29, X 30, X 31, X 32, X 33, X 34, X 35, X 36, X 37, X 38, X 39, X 40, X 41, X 42, X 43, X 44, X 45, X 46, X 47, X 48, X 49, X 50, X 51, X 52, X 53, X 54, X 55, X 56, X 57, X 58, X 59, X 60, X 61, X 62, X 63, X 64, X 65, X 66, X 67, X 68, X 69, X 70, X 71, X 72, X 73, X 74, X 75, X 76, X 77, X 78, X 79, X 80, X 81, X 82, X 83, X 84, X 85, X 86, X 87, X 88, X 89, X 90, X 91, X 92, X 93, X 94, X 95, X 96, X 97, X 98, X 99, X 100, X 101, X 102, X 103, X 104, X 105, X 106, X 107, X 108, X 109, X 110, X 111, X 112, X 113, X 114, X 115, X 116, X 117, X 118, X 119, X 120, X 121, X 122, X 123, X 124, X 125, X 126, X 127, X 128, X 129, X 130, X 131, X 132, X 133, X 134, X 135, X 136, X 137, X 138, X 139, X 140, X 141, X 142, X 143, X 144, X 145, X 146, X 147, X 148, X 149, X 150, X 151, X 152, X 153, X 154, X 155, X 156, X 157, X 158, X 159, X 160, X 161, X 162, X 163, X 164, X 165, X 166, X 167, X 168, X 169, X 170, X 171, X 172, X 173, X 174, X 175, X 176, X 177, X 178, X 179, X 180, X 181, X 182, X 183, X 184, X 185, X 186, X 187, X 188, X 189, X 190, X 191, X 192, X 193, X 194, X 195, X 196, X 197, X 198, X 199, X 200, X 201, X 202, X 203, X 204, X 205, X 206, X 207, X 208, X 209, X 210, X 211, X 212, X 213, X 214, X 215, X 216, X 217, X 218, X 219, X 220, X 221, X 222, X 223, X 224, X 225, X 226, X 227, X 228, X 229, X 230, X 231, X 232, X 233, X 234, X 235, X 236, X 237, X 238, X 239, X 240, X 241, X 242, X 243, X 244, X 245, X 246, X 247, X 248, X 249, X 250, X 251, X 252, X 253, X 254, X 255, X 256, X 257, X 258, X 259, X 260, X 261, X 262]
def frT26 (rB fB k ln lc q : Nat) (la : Option Addr) (X : Nat → Value) : Array Value := #[X 0, X 1, X 2, X 3, X 4, X 5, X 6, .pointer (some ⟨rB, 0, none⟩), .pointer (some ⟨fB, 0, none⟩), X 9, .int .i64 (k : Int), X 11, X 12, X 13, X 14, X 15, X 16, X 17, X 18, X 19, X 20, X 21, X 22, X 23, X 24, X 25, X 26, X 27, X 28, X 29, X 30, X 31, X 32, X 33, X 34, X 35, X 36, X 37, X 38, X 39, X 40, X 41, X 42, X 43, X 44, X 45, X 46, X 47, X 48, X 49, X 50, X 51, X 52, X 53, X 54, X 55, X 56, X 57, X 58, X 59, X 60, X 61, X 62, X 63, X 64, X 65, X 66, X 67, X 68, X 69, X 70, X 71, X 72, X 73, X 74, X 75, X 76, X 77, X 78, X 79, X 80, X 81, X 82, X 83, X 84, X 85, X 86, X 87, X 88, X 89, X 90, X 91, X 92, X 93, X 94, X 95, X 96, X 97, X 98, X 99, X 100, X 101, X 102, X 103, X 104, X 105, X 106, X 107, X 108, X 109, X 110, X 111, X 112, X 113, X 114, X 115, X 116, X 117, X 118, X 119, X 120, X 121, X 122, X 123, X 124, X 125, X 126, X 127, X 128, X 129, X 130, X 131, X 132, X 133, X 134, X 135, X 136, X 137, X 138, X 139, X 140, X 141, X 142, X 143, X 144, X 145, X 146, X 147, X 148, X 149, X 150, X 151, X 152, X 153, X 154, X 155, X 156, X 157, X 158, X 159, X 160, X 161, X 162, .slice la ln lc, .int .i64 (ln : Int), .int .i64 (q : Int), X 166, X 167, X 168, X 169, X 170, X 171, X 172, X 173, X 174, X 175, X 176, X 177, X 178, X 179, X 180, X 181, X 182, X 183, X 184, X 185, X 186, X 187, X 188, X 189, X 190, X 191, X 192, X 193, X 194, X 195, X 196, X 197, X 198, X 199, X 200, X 201, X 202, X 203, X 204, X 205, X 206, X 207, X 208, X 209, X 210, X 211, X 212, X 213, X 214, X 215, X 216, X 217, X 218, X 219, X 220, X 221, X 222, X 223, X 224, X 225, X 226, X 227, X 228, X 229, X 230, X 231, X 232, X 233, X 234, X 235, X 236, X 237, X 238, X 239, X 240, X 241, X 242, X 243, X 244, X 245, X 246, X 247, X 248, X 249, X 250, X 251, X 252, X 253, X 254, X 255, X 256, X 257, X 258, X 259, X 260, X 261, X 262]
def InvBT (V : World) (rB fB k ln lc : Nat) (la : Option Addr) (ac : Act) (wr : World) : Prop :=
  ∃ (X : Nat → Value) (q : Nat), ac = { tmps := frT26 rB fB k ln lc q la X, defers := [] } ∧ q ≤ ln ∧ Hid (Ext V wr)
theorem InvBT.of {V : World} {rB fB k ln lc : Nat} {la : Option Addr} {t : Array Value} {wr : World} (q : Nat) (ht : t = frT26 rB fB k ln lc q la (fun j => t.getD j undef)) (h1 : q ≤ ln) (h2 : Ext V wr) : InvBT V rB fB k ln lc la { tmps := t, defers := [] } wr := ⟨_, q, by rw [← ht], h1, h2⟩

set_option maxRecDepth 1000000 in
set_option maxHeartbeats 16000000 in
theorem blamed_tail17 (X : Nat → Value) (w V : World) (rB fB g mg gc fn fc n0 nc k : Nat) (ga na : Option Addr) (gl L : List (Nat × Nat)) (nl : List Int) (HW : Hid (BW w V rB fB g mg gc fn fc n0 nc ga na gl L nl)) (HK : Hid (k < n0 ∧ 2 ≤ n0)) (HNm : Hid (k ∈ wrongF gl L nl)) :
    Code.wp Try.prog tail9_17 (bodyPost Try.prog Try.f9 fun e w' => e = .returned (.bool true) ∧ Ext w w') ⟨frT9 rB fB k X, []⟩ V := by
  conv => arg 2; whnf
  conv => arg 4; dsimp only [frT9]
  have b0 := HW.out.b0
  have b1 := HW.out.b1
  have b2 := HW.out.b2
  go_wp2_with fail
  refine HW.out.readings.mono ?_
  rintro e V1 ⟨rfl, hx1⟩
  have HW1 := Lib.hid (HW.out.ext hx1)
  clear b0 b1 b2 hx1 HW
  have b0 := HW1.out.b0
  have b1 := HW1.out.b1
  have b2 := HW1.out.b2
  obtain ⟨rn, hrn⟩ : ∃ rn, readsF gl L nl = rn := ⟨_, rfl⟩
  rw [hrn]
  have HRn := Lib.hid hrn
  clear hrn
  go_wp2_with fail
  rcases Nat.eq_zero_or_pos rn with h0 | h0
  · subst h0
    refine (HW1.out.wrongOk HRn.out HK.out.2).mono ?_
    rintro e V2 ⟨la, lc, l, rfl, rfl, ho, hx2⟩
    have HW2 := Lib.hid (HW1.out.ext hx2)
    clear b0 b1 b2 hx2 HW1
    have hl40 : (wrongF gl L nl).length ≤ 40 := by
      unfold wrongF
      refine Nat.le_trans (List.length_filter_le _ _) ?_
      rw [List.length_range, HW2.out.l3]
      exact HW2.out.len.2.1
    have hsl := own_sl ho (by omega)
    have hct : (wrongF gl L nl).contains k = true := by simpa using HNm.out
    have HMem : Hid (∀ i ∈ wrongF gl L nl, i < n0 ∧ 0 < readsF gl (lessG L n0 i) (nl.eraseIdx i)) := fun i hi => wrong_mem HW2.out.l3 hi
    generalize wrongF gl L nl = l at *
    obtain ⟨ln, hln⟩ : ∃ ln, l.length = ln := ⟨_, rfl⟩
    rw [hln] at hl40 ⊢
    have HSl := Lib.hid hsl
    have HCt := Lib.hid hct
    have HLn : Hid (l.length = ln ∧ ln ≤ 40) := ⟨hln, hl40⟩
    clear hsl hct hln hl40 ho HNm
    go_wp2_with fail
    refine (contains_any la ln lc l k V2 HLn.out.1 HSl.out).mono ?_
    rintro e w' ⟨rfl, rfl⟩
    rw [HCt.out]
    go_wp2_with fail
    refine wp_loop (InvBT V2 rB fB k ln lc la) (fun a _ => ln - (intOf (a.tmps.getD 165 undef)).toNat) (InvBT.of 0 rfl (Nat.zero_le _) (Ext.refl _)) ?_
    rintro ac wr ⟨X1, q, rfl, hq, HX⟩
    conv => arg 4; dsimp only [frT26]
    by_cases hlt : q < ln
    · have dq : decide ((q : Int) < (ln : Int)) = true := decide_eq_true (by omega)
      have hql : q < l.length := by rw [HLn.out.1]; exact hlt
      have hwq : IntKind.i64.wrap ((q : Int) + 1) = ((q + 1 : Nat) : Int) := by have := HLn.out.2; rw [IntWalk.i64_in _ (by omega)]; omega
      obtain ⟨-, -, hs⟩ := HSl.out
      dsimp only at hs
      obtain ⟨lb, lo, rfl, hcs⟩ : ∃ lb lo, la = some ⟨lb, lo, none⟩ ∧ ∀ i (h : i < l.length) j, j < 1 → V2.cell? ⟨lb, lo + i * 1 + j, none⟩ = some (num l[i] j) := by
        rcases hs with hs | hs
        · omega
        · exact hs
      have hc0 := hcs q hql 0 (by omega)
      obtain ⟨hi, hpos⟩ := HMem.out _ (List.getElem_mem hql)
      obtain ⟨i, hie⟩ : ∃ i, l[q] = i := ⟨_, rfl⟩
      rw [hie] at hc0 hi hpos
      have hcq : wr.cell? ⟨lb, lo + q, none⟩ = some (.int .i64 (i : Int)) := HX.out.cell (by simpa [num] using hc0)
      have HI : Hid (i < n0) := hi
      have HPos := Lib.hid hpos
      have HWr := Lib.hid (HW2.out.ext HX.out)
      have j0 : (0 : Int) ≤ (q : Int) := by omega
      have j1 : (q : Int) < (ln : Int) := by omega
      have d0 : decide ((i : Int) < 0) = false := decide_eq_false (by omega)
      have d1 : decide ((i : Int) ≥ (n0 : Int)) = false := decide_eq_false (by omega)
      have d2 : decide ((n0 : Int) ≤ (i : Int)) = false := decide_eq_false (by omega)
      have d3 : decide (n0 ≤ i) = false := decide_eq_false (by omega)
      have d4 : ¬ n0 ≤ i := by omega
      have b2 := HWr.out.b2
      clear hc0 hie hi hpos hcs hs hql
      go_upto_region 30 with (fail)
      clear hcq j0 j1 d0 d1 d2 d3 d4 b2
      have HFn : Hid (1 ≤ fn ∧ fn + 1 = n0 ∧ n0 ≤ 40) := by have := HWr.out.len; have := HK.out; show _ ∧ _ ∧ _; omega
      refine blamed_r30 _ rB fB k i ln lc q fn fc n0 nc (some ⟨lb, lo, none⟩) (some ⟨g, 0, none⟩) na L nl wr _ rfl (fun u hu => ⟨hu.cell HWr.out.b1, hu.cell HWr.out.b2⟩) ?_ (fun u hu => kitClone_anyI na n0 nc nl u HWr.out.l3 (HWr.out.ns.ext hu)) HWr.out.l3 HI.out HFn.out.2.2 (Lib.hid ?_)
      · intro u hu
        have h := kitCloneS_any ⟨some ⟨g, 0, none⟩, fc, L⟩ u ((HWr.out.gs.ext hu).sl (by have := HWr.out.l2; have := HFn.out; omega))
        dsimp only at h
        rw [HWr.out.l2] at h
        exact h
      intro t a1 c1 g2 c2 xB W ht hc2 HM
      obtain ⟨X2, hX2⟩ : ∃ X2, t = frB33 rB fB k i ln lc q xB (some ⟨lb, lo, none⟩) X2 := ⟨_, ht⟩
      clear ht
      subst hX2
      have HW5 := Lib.hid (HWr.out.ext HM.out.to_ext)
      obtain ⟨g1, rfl, hg1, hc1⟩ := own_place (HM.out.row 0 _ rfl) HFn.out.1
      have HXg : Hid (g1 ≠ xB ∧ g2 ≠ xB) := ⟨fun e => HM.out.off 0 _ rfl 0 _ rfl (by rw [e]; rfl), fun e => HM.out.off 0 _ rfl 1 _ rfl (by rw [e]; rfl)⟩
      have HRG : Hid (RowP W g1 L c1) := by
        have h := HM.out.row 0 _ rfl
        dsimp only at h
        rw [← HWr.out.l2] at h
        exact (RowP.of_own h).1
      have hcl1 := HRG.out.le
      rw [HWr.out.l2] at hcl1
      have HFn2 := HFn
      have HFn : Hid (1 ≤ fn ∧ fn + 1 = n0 ∧ n0 ≤ 40 ∧ fn ≤ c1 ∧ c1 ≤ maxLen ∧ wr.heap.size ≤ g1) := ⟨HFn2.out.1, HFn2.out.2.1, HFn2.out.2.2, hcl1, hc1, hg1⟩
      have HRN : Hid (IsSl 1 numI W ⟨some ⟨g2, 0, none⟩, c2, nl.eraseIdx i⟩) := by
        have h := HM.out.row 1 _ rfl
        dsimp only at h
        have e : (nl.eraseIdx i).length = n0 - 1 := by rw [List.length_eraseIdx, if_pos (by rw [HWr.out.l3]; exact HI.out), HWr.out.l3]
        rw [← e] at h
        exact own_slI h (by have := HFn.out; omega)
      clear hcl1 hc1 hg1 HFn2 hc2
      dsimp only [frB33]
      by_cases hi0 : i = 0
      · obtain rfl : i = 0 := hi0
        obtain ⟨Z, hZ⟩ : ∃ Z, (if c1 = 1 then (some ⟨g1, 0, none⟩ : Option Addr) else some ⟨g1, 2, none⟩) = Z := ⟨_, rfl⟩
        have hdr := HRG.out.drop (by have := HWr.out.l2; have := HFn.out; omega) 1 (by have := HWr.out.l2; have := HFn.out; omega)
        have HZ : Hid (IsSl 2 spC W ⟨Z, c1 - 1, lessG L n0 0⟩) := by
          rw [← hZ]
          have e : lessG L n0 0 = L.drop 1 := by unfold lessG; rw [if_pos rfl]
          rw [e]
          exact hdr
        have HZb : Hid (∀ b off, Z = some ⟨b, off, none⟩ → b = g1) := fun b off e => by rw [← hZ] at e; split at e <;> cases e <;> rfl
        have HZe := Lib.hid hZ
        have j1 : 1 ≤ fn := HFn.out.1
        have j2 : 1 ≤ c1 := by have := HFn.out; omega
        have y0 := HM.out.cell 0 (j := 0) rfl rfl
        have z0 := HM.out.frozen 0 (j := 0) rfl
        have q1 := HW5.out.b1
        clear hdr
        go_upto_region 37 with (fail)
        have HM6 := Lib.hid (HM.out.cellPut (j := 0) 0 rfl (.slice Z (fn - 1) (c1 - 1)))
        have hk6 : Keep (fun b => b ≠ xB) W (W.setCell ⟨xB, 0, none⟩ (.slice Z (fn - 1) (c1 - 1))) := (Keep.refl _ _).setCell _ _ (fun _ h => h rfl)
        have HG6 : Hid (IsSl 2 spC (W.setCell ⟨xB, 0, none⟩ (.slice Z (fn - 1) (c1 - 1))) ⟨Z, c1 - 1, lessG L n0 0⟩) := HZ.out.keep hk6 (fun b off e _ => by rw [HZb.out b off e]; exact HXg.out.1)
        have HN6 : Hid (IsSl 1 numI (W.setCell ⟨xB, 0, none⟩ (.slice Z (fn - 1) (c1 - 1))) ⟨some ⟨g2, 0, none⟩, c2, nl.eraseIdx 0⟩) := HRN.out.keep hk6 (fun b off e _ => by cases e; exact HXg.out.2)
        clear y0 z0 q1 hk6
        generalize W.setCell ⟨xB, 0, none⟩ (.slice Z (fn - 1) (c1 - 1)) = W6 at *
        have HE : Hid (Ext wr W6) := HM6.out.to_ext
        have HE2 := HE
        have x0 := HM6.out.cell 0 (j := 0) rfl rfl
        have x1 := HM6.out.cell 0 (j := 1) rfl rfl
        have HW6 := Lib.hid (HWr.out.ext HE.out)
        have b0 := HW6.out.b0
        have hn2 := HK.out.2
        have hpos := HPos.out
        clear HE
        go_wp2_with fail
        refine (HW6.out.few hn2 HI.out HG6.out HN6.out).mono ?_
        rintro e W7 ⟨rfl, hx7⟩
        have HX7 := Lib.hid (HX.out.trans (HE2.out.trans hx7))
        clear x0 x1 b0 HG6 HN6 HW6 HE2 hx7 hn2
        generalize readsF gl (lessG L n0 0) (nl.eraseIdx 0) = v at *
        have dv : decide ((v : Int) < 1) = false := decide_eq_false (by omega)
        have dv2 : decide (v < 1) = false := decide_eq_false (by omega)
        have dv3 : ¬ v = 0 := by omega
        clear hpos
        go_wp2_with fail
        refine ⟨InvBT.of (q + 1) ?_ (by omega) HX7.out, ?_⟩
        · rfl
        · show ln - (((q + 1 : Nat) : Int)).toNat < ln - ((q : Nat) : Int).toNat
          omega
      · by_cases hi1 : i = fn
        · have hz0 : ((i : Int) == 0) = false := by rw [beq_eq_false_iff_ne]; omega
          have hz1 : decide ((i : Int) = 0) = false := decide_eq_false (by omega)
          have hz2 : ¬ i = 0 := by omega
          obtain rfl : i = fn := hi1
          obtain ⟨r, hr⟩ : ∃ r, i - 1 = r := ⟨_, rfl⟩
          have wr1 : IntKind.i64.wrap ((i : Int) - 1) = (r : Int) := by have := HFn.out; rw [IntWalk.i64_in _ (by omega)]; omega
          have j0 : (0 : Int) ≤ (r : Int) := by omega
          have j1 : r ≤ c1 := by have := HFn.out; omega
          have y0 := HM.out.cell 0 (j := 0) rfl rfl
          have z0 := HM.out.frozen 0 (j := 0) rfl
          have q1 := HW5.out.b1
          have HZ : Hid (IsSl 2 spC W ⟨some ⟨g1, 0, none⟩, c1, lessG L n0 i⟩) := by
            have e : lessG L n0 i = L.take r := by
              have := HFn.out
              unfold lessG
              simp only [if_neg (show ¬ i = 0 by omega), if_pos (show i = n0 - 1 by omega)]
              rw [show n0 - 2 = r by omega]
            rw [e]
            exact (HRG.out.take r).sl (by rw [List.length_take]; have := HFn.out; have := HWr.out.l2; omega)
          have HRr : Hid (r = i - 1) := hr.symm
          clear hr
          go_upto_region 37 with (fail)
          rw [HRr.out]
          have HM6 := Lib.hid (HM.out.cellPut (j := 0) 0 rfl (.slice (some ⟨g1, 0, none⟩) (i - 1) c1))
          have hk6 : Keep (fun b => b ≠ xB) W (W.setCell ⟨xB, 0, none⟩ (.slice (some ⟨g1, 0, none⟩) (i - 1) c1)) := (Keep.refl _ _).setCell _ _ (fun _ h => h rfl)
          have HG6 : Hid (IsSl 2 spC (W.setCell ⟨xB, 0, none⟩ (.slice (some ⟨g1, 0, none⟩) (i - 1) c1)) ⟨some ⟨g1, 0, none⟩, c1, lessG L n0 i⟩) := HZ.out.keep hk6 (fun b off e _ => by cases e; exact HXg.out.1)
          have HN6 : Hid (IsSl 1 numI (W.setCell ⟨xB, 0, none⟩ (.slice (some ⟨g1, 0, none⟩) (i - 1) c1)) ⟨some ⟨g2, 0, none⟩, c2, nl.eraseIdx i⟩) := HRN.out.keep hk6 (fun b off e _ => by cases e; exact HXg.out.2)
          clear y0 z0 q1 hk6
          generalize W.setCell ⟨xB, 0, none⟩ (.slice (some ⟨g1, 0, none⟩) (i - 1) c1) = W6 at *
          have HE : Hid (Ext wr W6) := HM6.out.to_ext
          have HE2 := HE
          have x0 := HM6.out.cell 0 (j := 0) rfl rfl
          have x1 := HM6.out.cell 0 (j := 1) rfl rfl
          have HW6 := Lib.hid (HWr.out.ext HE.out)
          have b0 := HW6.out.b0
          have hn2 := HK.out.2
          have hpos := HPos.out
          clear HE
          go_wp2_with fail
          refine (HW6.out.few hn2 HI.out HG6.out HN6.out).mono ?_
          rintro e W7 ⟨rfl, hx7⟩
          have HX7 := Lib.hid (HX.out.trans (HE2.out.trans hx7))
          clear x0 x1 b0 HG6 HN6 HW6 HE2 hx7 hn2
          generalize readsF gl (lessG L n0 i) (nl.eraseIdx i) = v at *
          have dv : decide ((v : Int) < 1) = false := decide_eq_false (by omega)
          have dv2 : decide (v < 1) = false := decide_eq_false (by omega)
          have dv3 : ¬ v = 0 := by omega
          clear hpos
          go_wp2_with fail
          refine ⟨InvBT.of (q + 1) ?_ (by omega) HX7.out, ?_⟩
          · rfl
          · show ln - (((q + 1 : Nat) : Int)).toNat < ln - ((q : Nat) : Int).toNat
            omega
        · have hz0 : ((i : Int) == 0) = false := by rw [beq_eq_false_iff_ne]; omega
          have hz1 : decide ((i : Int) = 0) = false := decide_eq_false (by omega)
          have hz2 : ¬ i = 0 := by omega
          have hy0 : ((i : Int) == (fn : Int)) = false := by rw [beq_eq_false_iff_ne]; omega
          have hy1 : decide ((i : Int) = (fn : Int)) = false := decide_eq_false (by omega)
          have hy2 : ¬ i = fn := by omega
          obtain ⟨r, hr⟩ : ∃ r, i - 1 = r := ⟨_, rfl⟩
          have HIr : Hid (r + 1 = i ∧ i < fn) := by have := HI.out; have := HFn.out; show _ ∧ _; omega
          have wr1 : IntKind.i64.wrap ((i : Int) - 1) = (r : Int) := by have := HFn.out; have := HIr.out; rw [IntWalk.i64_in _ (by omega)]; omega
          have wr2 : IntKind.i64.wrap ((i : Int) + 1) = (i : Int) + 1 := by have := HFn.out; have := HI.out; have := HIr.out; exact IntWalk.i64_in _ (by omega)
          have hrl : r < L.length := by have := HWr.out.l2; have := HIr.out; omega
          have hil : i < L.length := by have := HWr.out.l2; have := HIr.out; omega
          have u1 := HW5.out.gs.cell r hrl 0 (by omega)
          have u2 := HW5.out.gs.cell r hrl 1 (by omega)
          have u3 := HW5.out.gs.cell i hil 0 (by omega)
          have u4 := HW5.out.gs.cell i hil 1 (by omega)
          have v1 := HWr.out.ok.gb _ (List.getElem_mem hrl)
          have v2 := HWr.out.ok.gb _ (List.getElem_mem hil)
          have v3 := HWr.out.bd _ (List.getElem_mem hrl)
          have v4 := HWr.out.bd _ (List.getElem_mem hil)
          have hxs : ((L[r]?.getD (0, 0)) = L[r] ∧ (L[i]?.getD (0, 0)) = L[i]) := ⟨by rw [List.getElem?_eq_getElem hrl, Option.getD_some], by rw [List.getElem?_eq_getElem hil, Option.getD_some]⟩
          obtain ⟨s1, hs1⟩ : ∃ s1, L[r] = s1 := ⟨_, rfl⟩
          obtain ⟨s2, hs2⟩ : ∃ s2, L[i] = s2 := ⟨_, rfl⟩
          rw [hs1] at u1 u2 v1 v3 hxs
          rw [hs2] at u3 u4 v2 v4 hxs
          have HXs := Lib.hid hxs
          simp only [spC, if_true, Nat.add_zero, if_neg (show ¬ (1 : Nat) = 0 by omega)] at u1 u2 u3 u4
          obtain ⟨lo', hlo⟩ : ∃ lo', s1.1 + s2.1 = lo' := ⟨_, rfl⟩
          obtain ⟨hi', hhi⟩ : ∃ hi', s1.2 + s2.2 = hi' := ⟨_, rfl⟩
          have wa : IntKind.i64.wrap ((s1.1 : Int) + (s2.1 : Int)) = (lo' : Int) := by rw [IntWalk.i64_in _ (by omega)]; omega
          have wb : IntKind.i64.wrap ((s1.2 : Int) + (s2.2 : Int)) = (hi' : Int) := by rw [IntWalk.i64_in _ (by omega)]; omega
          have HLh : Hid (s1.1 + s2.1 = lo' ∧ s1.2 + s2.2 = hi') := ⟨hlo, hhi⟩
          have HRs : Hid ((L.set (i - 1) (lo', hi')).eraseIdx i = lessG L n0 i) := set_erase L n0 i (lo', hi') (by have := HWr.out.l2; have := HFn.out; omega) (by have := HIr.out; omega) (by have := HIr.out; have := HFn.out; omega) (by rw [show i - 1 = r from hr, hxs.1, hxs.2, hlo, hhi])
          rw [hr] at HRs
          have k0 : (0 : Int) ≤ (r : Int) := by omega
          have k1 : (r : Int) < (fn : Int) := by have := HIr.out; omega
          have k2 : (0 : Int) ≤ (i : Int) := by omega
          have k3 : (i : Int) < (fn : Int) := by have := HIr.out; omega
          have hfB : fB < wr.heap.size := lt_of_cell HWr.out.b1
          have hgB : g < wr.heap.size := HWr.out.gs.lt
          have HNe : Hid (xB ≠ g1 ∧ fB ≠ g1 ∧ g ≠ g1) := ⟨fun e => HXg.out.1 e.symm, by have := HFn.out; omega, by have := HFn.out; omega⟩
          have HS : Hid (∀ u, Keep (fun b => b ≠ g1) W u → u.cell? ⟨xB, 0, none⟩ = some (.slice (some ⟨g1, 0, none⟩) fn c1) ∧ u.cell? ⟨fB, 0, none⟩ = some (.slice (some ⟨g, 0, none⟩) fn fc) ∧ u.cell? ⟨g, r * 2, none⟩ = some (.int .i64 (s1.1 : Int)) ∧ u.cell? ⟨g, r * 2 + 1, none⟩ = some (.int .i64 (s1.2 : Int)) ∧ u.cell? ⟨g, i * 2, none⟩ = some (.int .i64 (s2.1 : Int)) ∧ u.cell? ⟨g, i * 2 + 1, none⟩ = some (.int .i64 (s2.2 : Int))) := fun u hu =>
            ⟨hu.cell (HM.out.cell 0 (j := 0) rfl rfl) HNe.out.1, hu.cell HW5.out.b1 HNe.out.2.1, hu.cell u1 HNe.out.2.2, hu.cell u2 HNe.out.2.2, hu.cell u3 HNe.out.2.2, hu.cell u4 HNe.out.2.2⟩
          have HY : Hid (∀ u, Ext W u → ∃ y0 y1, u.cell? ⟨g1, r * 2, none⟩ = some y0 ∧ u.cell? ⟨g1, r * 2 + 1, none⟩ = some y1 ∧ u.frozen? ⟨g1, r * 2, none⟩ = false ∧ u.frozen? ⟨g1, r * 2 + 1, none⟩ = false) := fun u hu =>
            ⟨_, _, (HRG.out.ext hu).cell r hrl 0 (by omega), (HRG.out.ext hu).cell r hrl 1 (by omega), (HRG.out.ext hu).frozen _, (HRG.out.ext hu).frozen _⟩
          have HSp : Hid (∀ u, Ext W u → Calls Try.prog 24 #[.int .i64 (lo' : Int), .int .i64 (hi' : Int)] u fun e w' => e = .returned (.agg #[.int .i64 (lo' : Int), .int .i64 (hi' : Int)]) ∧ Ext W w' ∧ Keep (fun b => b ≠ g1) W w') := fun u hu => by
            refine (span_any _ _ u).mono ?_
            rintro e w' ⟨rfl, rfl⟩
            have h := hu.trans ((Ext.refl u).alloc (.cells #[.int .i64 (lo' : Int), .int .i64 (hi' : Int)] 28))
            exact ⟨rfl, h, Keep.of_ext h⟩
          have HRl : Hid (r < L.length ∧ i < L.length) := ⟨hrl, hil⟩
          obtain ⟨e1, e2, e3, e4, e5, e6⟩ := HS.out W (Keep.refl _ _)
          clear hr hs1 hs2 hxs hlo hhi v1 v2 v3 v4 u1 u2 u3 u4 hfB hgB hrl hil
          go_upto_region 31 with (fail)
          go_region_held3 (fun u => u.cell? ⟨xB, 0, none⟩ = some (.slice (some ⟨g1, 0, none⟩) fn c1) ∧ u.cell? ⟨fB, 0, none⟩ = some (.slice (some ⟨g, 0, none⟩) fn fc) ∧ u.cell? ⟨g, r * 2, none⟩ = some (.int .i64 (s1.1 : Int)) ∧ u.cell? ⟨g, r * 2 + 1, none⟩ = some (.int .i64 (s1.2 : Int)) ∧ u.cell? ⟨g, i * 2, none⟩ = some (.int .i64 (s2.1 : Int)) ∧ u.cell? ⟨g, i * 2 + 1, none⟩ = some (.int .i64 (s2.2 : Int)))
            ((refine HS.out _ ?_; (repeat (first | assumption | exact Keep.refl _ _ | refine Keep.drew ?_ | refine Keep.alloc ?_ _ | refine Keep.setCell ?_ _ _ (fun _ h => h rfl)))))
            (first
              | (go_at_call 24; refine (HSp.out _ (Ext.refl _).drew).mono ?_; rintro e we ⟨rfl, hxe, hke⟩; obtain ⟨y0, y1, h0, h1, h2, h3⟩ := HY.out we hxe))
          have HR4 : Hid (RowP ((we.setCell ⟨g1, r * 2, none⟩ (.int .i64 (lo' : Int))).setCell ⟨g1, r * 2 + 1, none⟩ (.int .i64 (hi' : Int))) g1 (L.set r (lo', hi')) c1) := (HRG.out.ext hxe).put r (lo', hi') HRl.out.1
          have HK4 : Hid (Keep (fun b => b ≠ g1) W ((we.setCell ⟨g1, r * 2, none⟩ (.int .i64 (lo' : Int))).setCell ⟨g1, r * 2 + 1, none⟩ (.int .i64 (hi' : Int)))) := (hke.setCell _ _ (fun _ h => h rfl)).setCell _ _ (fun _ h => h rfl)
          have HG12 : Hid (g2 ≠ g1) := fun e => HM.out.apart 0 1 _ _ (by decide) rfl rfl g1 rfl (by rw [e]; rfl)
          clear h0 h1 h2 h3 hxe hke e1 e2 e3 e4 e5 e6 wr1 wa wb k0 k1 k2 k3 HS HY HSp
          generalize (we.setCell ⟨g1, r * 2, none⟩ (.int .i64 (lo' : Int))).setCell ⟨g1, r * 2 + 1, none⟩ (.int .i64 (hi' : Int)) = W4 at *
          have HD : Hid (Calls Try.prog 37 #[.slice (some ⟨g1, 0, none⟩) fn c1, .int .i64 (i : Int), .int .i64 ((i : Int) + 1)] W4 fun e w' => e = .returned (.slice (some ⟨g1, 0, none⟩) (fn - 1) c1) ∧ RowP w' g1 (lessG L n0 i) c1 ∧ Keep (fun k => k ≠ g1) W4 w') := by
            have h := delete_anyS g1 c1 i (L.set r (lo', hi')) W4 HR4.out (by rw [List.length_set]; have := HWr.out.l2; have := HFn.out; omega) HFn.out.2.2.2.2.1 (by rw [List.length_set]; exact HRl.out.2)
            rw [List.length_set, HWr.out.l2, HRs.out] at h
            exact h
          have x0 := HK4.out.cell (HM.out.cell 0 (j := 0) rfl rfl) HNe.out.1
          go_upto_region 37 with (go_at_call 37; refine HD.out.mono ?_; rintro e W5 ⟨rfl, hrd, hkd⟩; have hb5 := (HK4.out.trans hkd).heap (HM.out.heap 0 rfl) HNe.out.1; have y5 := (cell_at hb5 0).trans rfl; have z5 : W5.frozen? ⟨xB, 0, none⟩ = false := (by simp [World.frozen?, hb5]))
          have hk6 : Keep (fun b => b ≠ xB) W5 (W5.setCell ⟨xB, 0, none⟩ (.slice (some ⟨g1, 0, none⟩) (fn - 1) c1)) := (Keep.refl _ _).setCell _ _ (fun _ h => h rfl)
          have HG6 : Hid (IsSl 2 spC (W5.setCell ⟨xB, 0, none⟩ (.slice (some ⟨g1, 0, none⟩) (fn - 1) c1)) ⟨some ⟨g1, 0, none⟩, c1, lessG L n0 i⟩) := (hrd.sl (by have := lessG_lenM L n0 i HK.out.2 (by have := HWr.out.l2; have := HFn.out; omega) HI.out; have := HFn.out; omega)).keep hk6 (fun b off e _ => by cases e; exact HXg.out.1)
          have HN6 : Hid (IsSl 1 numI (W5.setCell ⟨xB, 0, none⟩ (.slice (some ⟨g1, 0, none⟩) (fn - 1) c1)) ⟨some ⟨g2, 0, none⟩, c2, nl.eraseIdx i⟩) := (HRN.out.keep (HK4.out.trans hkd) (fun b off e _ => by cases e; exact HG12.out)).keep hk6 (fun b off e _ => by cases e; exact HXg.out.2)
          have hxb := (HM.out.blk 0 _ rfl).1
          dsimp only at hxb
          have HE : Hid (Ext wr (W5.setCell ⟨xB, 0, none⟩ (.slice (some ⟨g1, 0, none⟩) (fn - 1) c1))) := ((HM.out.keep.transD (HK4.out.trans hkd) (fun b hb _ => by have := HFn.out; omega)).transD hk6 (fun b hb _ => by omega)).to_ext (fun _ _ => trivial)
          have HE2 := HE
          have hb6 := heap_setCell_same (i := 0) hb5 (.slice (some ⟨g1, 0, none⟩) (fn - 1) c1)
          have x0' := (cell_at hb6 0).trans rfl
          have x1 := (cell_at hb6 1).trans rfl
          clear hb5 y5 z5 hrd hkd hk6 hb6 x0 hxb HD
          have x0 := x0'
          clear x0'
          generalize W5.setCell ⟨xB, 0, none⟩ (.slice (some ⟨g1, 0, none⟩) (fn - 1) c1) = W6 at *
          have HW6 := Lib.hid (HWr.out.ext HE.out)
          have b0 := HW6.out.b0
          have hn2 := HK.out.2
          have hpos := HPos.out
          clear HE
          go_wp2_with fail
          refine (HW6.out.few hn2 HI.out HG6.out HN6.out).mono ?_
          rintro e W7 ⟨rfl, hx7⟩
          have HX7 := Lib.hid (HX.out.trans (HE2.out.trans hx7))
          clear x0 x1 b0 HG6 HN6 HW6 HE2 hx7 hn2
          generalize readsF gl (lessG L n0 i) (nl.eraseIdx i) = v at *
          have dv : decide ((v : Int) < 1) = false := decide_eq_false (by omega)
          have dv2 : decide (v < 1) = false := decide_eq_false (by omega)
          have dv3 : ¬ v = 0 := by omega
          clear hpos
          go_wp2_with fail
          refine ⟨InvBT.of (q + 1) ?_ (by omega) HX7.out, ?_⟩
          · rfl
          · show ln - (((q + 1 : Nat) : Int)).toNat < ln - ((q : Nat) : Int).toNat
            omega
    · have dq : decide ((q : Int) < (ln : Int)) = false := decide_eq_false (by omega)
      have HXE : Hid (Ext w wr) := HW2.out.hx.trans HX.out
      go_wp2_with (go_at_call 19; refine (awake_ok _).mono ?_; rintro e w7 ⟨rfl, hx7⟩; have HX7 : Hid (Ext w w7) := HXE.out.trans hx7; clear hx7)
      go_ret
      exact ⟨rfl, HX7.out⟩
  · refine (HW1.out.wrongNo (by rw [HRn.out]; exact h0)).mono ?_
    rintro e V2 ⟨rfl, hx2⟩
    have HXE : Hid (Ext w V2) := HW1.out.hx.trans hx2
    have dr : decide ((0 : Int) < (rn : Int)) = true := decide_eq_true (by omega)
    have dr2 : decide (0 < rn) = true := decide_eq_true h0
    clear hx2 b0 b1 b2 HW1
    go_wp2_with (go_at_call 19; refine (awake_ok _).mono ?_; rintro e w7 ⟨rfl, hx7⟩; have HX7 : Hid (Ext w w7) := HXE.out.trans hx7; clear hx7)
    go_ret
    exact ⟨rfl, HX7.out⟩
end Go.Proofs.Ytfognlealnhodaa

namespace Go.Proofs.Ytfognlealnhodaa
open Go.RowKit

def frA (D most R1 R2 p cnt i tc : Nat) (ta : Option Addr) (X : Nat → Value) : Array Value := #[.pointer (some ⟨D, 0, none⟩), .int .i64 (most : Int), X 2, X 3, .pointer (some ⟨R1, 0, none⟩), .pointer (some ⟨R2, 0, none⟩), X 6, .pointer (some ⟨p, 0, none⟩), .slice ta i tc, X 9, X 10, X 11, X 12, X 13, X 14, X 15, X 16, X 17, X 18, X 19, .int .i64 (cnt : Int), .int .i64 (i : Int), X 22, X 23, X 24, X 25, X 26, X 27, X 28, X 29, X 30, X 31, X 32, X 33, X 34, X 35, X 36, X 37, X 38, X 39, X 40, X 41, X 42, X 43, X 44, X 45, X 46, X 47, X 48, X 49, X 50, X 51, X 52, X 53, X 54, X 55, X 56, X 57, X 58, X 59, X 60, X 61, X 62, X 63, X 64, X 65, X 66, X 67, X 68, X 69, X 70, X 71, X 72, X 73, X 74, X 75, X 76, X 77, X 78, X 79, X 80, X 81, X 82, X 83, X 84, X 85, X 86, X 87, X 88, X 89, X 90, X 91, X 92, X 93, X 94, X 95, X 96, X 97, X 98, X 99, X 100, X 101, X 102, X 103, X 104, X 105, X 106, X 107, X 108, X 109, X 110, X 111, X 112, X 113, X 114, X 115, X 116, X 117]
def frB (D most R1 R2 p pf cnt k0 m tc n0 rc : Nat) (ta ra : Option Addr) (X : Nat → Value) : Array Value := #[.pointer (some ⟨D, 0, none⟩), .int .i64 (most : Int), X 2, X 3, .pointer (some ⟨R1, 0, none⟩), .pointer (some ⟨R2, 0, none⟩), X 6, .pointer (some ⟨p, 0, none⟩), .slice ta m tc, X 9, .pointer (some ⟨pf, 0, none⟩), .slice ra n0 rc, X 12, X 13, X 14, X 15, X 16, X 17, X 18, X 19, X 20, X 21, X 22, X 23, X 24, X 25, X 26, X 27, X 28, X 29, X 30, X 31, X 32, X 33, X 34, X 35, X 36, X 37, X 38, X 39, X 40, X 41, X 42, X 43, X 44, X 45, X 46, .int .i64 (cnt : Int), .int .i64 (k0 : Int), X 49, X 50, X 51, X 52, X 53, X 54, X 55, X 56, X 57, X 58, X 59, X 60, X 61, X 62, X 63, X 64, X 65, X 66, X 67, X 68, X 69, X 70, X 71, X 72, X 73, X 74, X 75, X 76, X 77, X 78, X 79, X 80, X 81, X 82, X 83, X 84, X 85, X 86, X 87, X 88, X 89, X 90, X 91, X 92, X 93, X 94, X 95, X 96, X 97, X 98, X 99, X 100, X 101, X 102, X 103, X 104, X 105, X 106, X 107, X 108, X 109, X 110, X 111, X 112, X 113, X 114, X 115, X 116, X 117]
def frC (D most R1 R2 p pf cnt k0 m tc n0 rc S tb r ln lc q : Nat) (ta ra : Option Addr) (X : Nat → Value) : Array Value := #[.pointer (some ⟨D, 0, none⟩), .int .i64 (most : Int), X 2, X 3, .pointer (some ⟨R1, 0, none⟩), .pointer (some ⟨R2, 0, none⟩), X 6, .pointer (some ⟨p, 0, none⟩), .slice ta m tc, X 9, .pointer (some ⟨pf, 0, none⟩), .slice ra n0 rc, .int .i64 (k0 : Int), .int .i64 (n0 : Int), .int .i64 (S : Int), X 15, X 16, X 17, X 18, X 19, X 20, X 21, X 22, X 23, X 24, X 25, X 26, X 27, X 28, X 29, X 30, X 31, X 32, X 33, X 34, X 35, X 36, X 37, X 38, X 39, X 40, X 41, X 42, X 43, X 44, X 45, X 46, .int .i64 (cnt : Int), .int .i64 (k0 : Int), X 49, X 50, X 51, X 52, X 53, X 54, X 55, X 56, X 57, X 58, X 59, X 60, X 61, X 62, X 63, X 64, X 65, X 66, X 67, X 68, X 69, X 70, X 71, X 72, X 73, X 74, X 75, .slice (some ⟨tb, r, none⟩) ln lc, .int .i64 (ln : Int), .int .i64 (q : Int), X 79, X 80, X 81, X 82, X 83, X 84, X 85, X 86, X 87, X 88, X 89, X 90, X 91, X 92, X 93, X 94, X 95, X 96, X 97, X 98, X 99, X 100, X 101, X 102, X 103, X 104, X 105, X 106, X 107, X 108, X 109, X 110, X 111, X 112, X 113, X 114, X 115, X 116, X 117]
def InvA (w : World) (D : Nat) (a : Option Addr) (n c k most R1 R2 p cnt : Nat) (ac : Act) (wr : World) : Prop :=
  ∃ (X : Nat → Value) (i k' gc tc : Nat) (ga ta : Option Addr) (gl : List (Nat × Nat)) (tl : List Nat), ac = { tmps := frA D most R1 R2 p cnt i tc ta X, defers := [] } ∧ i ≤ cnt ∧ k' ≤ k + 1 + 3 * i ∧ Hid (gl.length = i) ∧ Hid (RollM gl tl) ∧ Hid (Held w D a n c k' [⟨28, 2, .slice ga i gc, i, flat 2 spC gl⟩, ⟨3, 1, .slice ta i tc, i, nums tl⟩] [(R1, .cells #[.slice none 0 0] 64), (R2, .cells #[.slice none 0 0, .slice none 0 0] 66), (p, .cells #[.slice ga i gc] 64)] wr)
theorem InvA.of {w : World} {D : Nat} {a : Option Addr} {n c k most R1 R2 p cnt : Nat} {t : Array Value} {wr : World} (i k' gc tc : Nat) (ga ta : Option Addr) (gl : List (Nat × Nat)) (tl : List Nat) (ht : t = frA D most R1 R2 p cnt i tc ta (fun j => t.getD j undef)) (h1 : i ≤ cnt) (h2 : k' ≤ k + 1 + 3 * i) (h3 : gl.length = i) (h4 : RollM gl tl) (h5 : Held w D a n c k' [⟨28, 2, .slice ga i gc, i, flat 2 spC gl⟩, ⟨3, 1, .slice ta i tc, i, nums tl⟩] [(R1, .cells #[.slice none 0 0] 64), (R2, .cells #[.slice none 0 0, .slice none 0 0] 66), (p, .cells #[.slice ga i gc] 64)] wr) : InvA w D a n c k most R1 R2 p cnt { tmps := t, defers := [] } wr := ⟨_, i, k', gc, tc, ga, ta, gl, tl, by rw [← ht], h1, h2, h3, h4, h5⟩
/-- What is told of the second loop. -/
structure InB (gl fl : List (Nat × Nat)) (tl rl : List Nat) (nl : List Int) (m1 j fn n0 : Nat) : Prop where
  real : RealM gl tl j fl nl rl
  fn' : fl.length = fn
  nn : nl.length = n0
  rn : rl.length = n0
  le : n0 ≤ j
  ne : j = m1 → n0 ≠ 0
  gb : ∀ x ∈ fl, x.2 ≤ 1000
def InvB (w : World) (D : Nat) (a : Option Addr) (n c k most R1 R2 p pf m m1 tc gc : Nat) (ga ta : Option Addr) (gl : List (Nat × Nat)) (tl : List Nat) (ac : Act) (wr : World) : Prop :=
  ∃ (X : Nat → Value) (k0 k' fn fc n0 nc rc : Nat) (fa na ra : Option Addr) (fl : List (Nat × Nat)) (rl : List Nat) (nl : List Int), ac = { tmps := frB D most R1 R2 p pf m1 k0 m tc n0 rc ta ra X, defers := [] } ∧ k0 ≤ m1 ∧ k' ≤ k + 4 * k0 ∧ Hid (InB gl fl tl rl nl m1 k0 fn n0) ∧ Hid (Held w D a n c k' [⟨28, 2, .slice ga m gc, m, flat 2 spC gl⟩, ⟨3, 1, .slice ta m tc, m, nums tl⟩, ⟨28, 2, .slice fa fn fc, fn, flat 2 spC fl⟩, ⟨3, 1, .slice na n0 nc, n0, intsV nl⟩, ⟨3, 1, .slice ra n0 rc, n0, nums rl⟩] [(R1, .cells #[.slice none 0 0] 64), (R2, .cells #[.slice none 0 0, .slice none 0 0] 66), (p, .cells #[.slice ga m gc] 64), (pf, .cells #[.slice fa fn fc, .slice na n0 nc] 66)] wr)
theorem InvB.of {w : World} {D : Nat} {a : Option Addr} {n c k most R1 R2 p pf m m1 tc gc : Nat} {ga ta : Option Addr} {gl : List (Nat × Nat)} {tl : List Nat} {t : Array Value} {wr : World} (k0 k' fn fc n0 nc rc : Nat) (fa na ra : Option Addr) (fl : List (Nat × Nat)) (rl : List Nat) (nl : List Int) (ht : t = frB D most R1 R2 p pf m1 k0 m tc n0 rc ta ra (fun j => t.getD j undef)) (h1 : k0 ≤ m1) (h2 : k' ≤ k + 4 * k0) (h3 : InB gl fl tl rl nl m1 k0 fn n0) (h4 : Held w D a n c k' [⟨28, 2, .slice ga m gc, m, flat 2 spC gl⟩, ⟨3, 1, .slice ta m tc, m, nums tl⟩, ⟨28, 2, .slice fa fn fc, fn, flat 2 spC fl⟩, ⟨3, 1, .slice na n0 nc, n0, intsV nl⟩, ⟨3, 1, .slice ra n0 rc, n0, nums rl⟩] [(R1, .cells #[.slice none 0 0] 64), (R2, .cells #[.slice none 0 0, .slice none 0 0] 66), (p, .cells #[.slice ga m gc] 64), (pf, .cells #[.slice fa fn fc, .slice na n0 nc] 66)] wr) : InvB w D a n c k most R1 R2 p pf m m1 tc gc ga ta gl tl { tmps := t, defers := [] } wr :=
  ⟨_, k0, k', fn, fc, n0, nc, rc, fa, na, ra, fl, rl, nl, by rw [← ht], h1, h2, h3, h4⟩
def InvC (w7 : World) (D most R1 R2 p pf m1 j i tc n0 rc tb rb r ln lc : Nat) (tl : List Nat) (ac : Act) (wr : World) : Prop :=
  ∃ (X : Nat → Value) (q S : Nat), ac = { tmps := frC D most R1 R2 p pf m1 j i tc n0 rc S tb r ln lc q (some ⟨tb, 0, none⟩) (some ⟨rb, 0, none⟩) X, defers := [] } ∧ q ≤ ln ∧ Hid (sumN (fun m => tl[r + m]?.getD 0) q = S) ∧ w7 = wr
theorem InvC.of {w7 : World} {D most R1 R2 p pf m1 j i tc n0 rc tb rb r ln lc : Nat} {tl : List Nat} {t : Array Value} (q S : Nat) (ht : t = frC D most R1 R2 p pf m1 j i tc n0 rc S tb r ln lc q (some ⟨tb, 0, none⟩) (some ⟨rb, 0, none⟩) (fun j => t.getD j undef)) (h1 : q ≤ ln) (h2 : sumN (fun m => tl[r + m]?.getD 0) q = S) : InvC w7 D most R1 R2 p pf m1 j i tc n0 rc tb rb r ln lc tl { tmps := t, defers := [] } w7 := ⟨_, q, S, by rw [← ht], h1, h2, rfl⟩

set_option maxRecDepth 1000000 in
set_option maxHeartbeats 16000000 in
theorem stoned_any (D : Nat) (a : Option Addr) (n c k most : Nat) (w : World) (hd : IsDeck w D a n c k) (hk : k ≤ 500) (hm : 1 ≤ most) (hm2 : most ≤ 9) :
    Calls Try.prog 32 #[.pointer (some ⟨D, 0, none⟩), .int .i64 (most : Int)] w fun e w' => ∃ (ga fa na ra ta : Option Addr) (gc fc nc rc m fn n0 k' : Nat) (gl fl : List (Nat × Nat)) (tl rl : List Nat) (nl : List Int) (tc : Nat), e = .returned (.tuple #[.agg #[.slice ga m gc], .agg #[.slice fa fn fc, .slice na n0 nc], .slice ra n0 rc]) ∧ RollM gl tl ∧ InB gl fl tl rl nl (m + 1) (m + 1) fn n0 ∧ gl.length = m ∧ 1 ≤ m ∧ m ≤ most ∧ k' ≤ k + 5 + 7 * most ∧ Held w D a n c k' [⟨28, 2, .slice ga m gc, m, flat 2 spC gl⟩, ⟨3, 1, .slice ta m tc, m, nums tl⟩, ⟨28, 2, .slice fa fn fc, fn, flat 2 spC fl⟩, ⟨3, 1, .slice na n0 nc, n0, intsV nl⟩, ⟨3, 1, .slice ra n0 rc, n0, nums rl⟩] [] w' := by
  have HD0 := Lib.hid (Held.start hd)
  clear hd
  have H1 : Hid (Held w D a n c k [⟨28, 2, .slice none 0 0, 0, flat 2 spC []⟩, ⟨3, 1, .slice none 0 0, 0, nums []⟩] [(w.heap.size, .cells #[.slice none 0 0] 64), (w.heap.size + 1, .cells #[.slice none 0 0, .slice none 0 0] 66), (w.heap.size + 2, .cells #[.slice none 0 0] 64)] (((w.alloc (.cells #[.slice none 0 0] 64)).alloc (.cells #[.slice none 0 0, .slice none 0 0] 66)).alloc (.cells #[.slice none 0 0] 64))) := by
    have h := ((((HD0.out.nilRow 28 2).nilRow 3 1).new (.cells #[.slice none 0 0] 64)).new (.cells #[.slice none 0 0, .slice none 0 0] 66)).new (.cells #[.slice none 0 0] 64)
    simp only [World.size_alloc] at h
    exact h
  clear HD0
  have HMo : Hid (1 ≤ most ∧ most ≤ 9 ∧ k ≤ 500) := ⟨hm, hm2, hk⟩
  clear hm hm2 hk
  go_enter Try.func32, Try.ntmps32
  go_wp2_with fail
  generalize ((w.alloc (.cells #[.slice none 0 0] 64)).alloc (.cells #[.slice none 0 0, .slice none 0 0] 66)).alloc (.cells #[.slice none 0 0] 64) = w1 at *
  generalize w.heap.size + 2 = p at *
  generalize w.heap.size + 1 = R2 at *
  generalize w.heap.size = R1 at *
  refine (dbetween_any D a n c k 1 (most : Int) _ H1.out.deck (by have := HMo.out; omega) (by omega) (by have := HMo.out; omega) (by have := HMo.out; omega)).mono ?_
  rintro e w2 ⟨cI, k1, hc1, hc2, hk1, rfl, hD1, hg1⟩
  obtain ⟨cnt, rfl⟩ : ∃ cnt : Nat, cI = (cnt : Int) := ⟨cI.toNat, by omega⟩
  have H2 := Lib.hid (H1.out.dealt hD1 hg1)
  have HCn : Hid (1 ≤ cnt ∧ cnt ≤ most ∧ k1 ≤ k + 1) := by have := HMo.out; show _ ∧ _ ∧ _; omega
  clear hD1 hg1 hc1 hc2 hk1 H1
  go_wp2_with fail
  refine wp_loop (InvA w D a n c k most R1 R2 p cnt) (fun a _ => cnt - (intOf (a.tmps.getD 21 undef)).toNat) (InvA.of 0 k1 0 0 none none [] [] rfl (Nat.zero_le _) (by have := HCn.out; omega) rfl RollM.nil H2.out) ?_
  clear H2
  rintro ac wr ⟨X, i, k', gc, tc, ga, ta, gl, tl, rfl, hi, hk', HGl, HRo, HH⟩
  have HKa : Hid (k' ≤ k + 1 + 3 * i ∧ i ≤ cnt) := ⟨hk', hi⟩
  clear hk' hi
  conv => arg 4; dsimp only [frA]
  by_cases hlt : i < cnt
  · have di : decide ((i : Int) < (cnt : Int)) = true := decide_eq_true (by omega)
    have hwi : IntKind.i64.wrap ((i : Int) + 1) = ((i + 1 : Nat) : Int) := by have := HCn.out; have := HMo.out; rw [IntWalk.i64_in _ (by omega)]; omega
    go_wp2_with fail
    refine (dbetween_any D a n c k' 5 60 _ HH.out.deck (by have := HKa.out; have := HMo.out; have := HCn.out; omega) (by omega) (by omega) (by omega)).mono ?_
    rintro e w3 ⟨rI, k3, hr1, hr2, hk3, rfl, hD3, hg3⟩
    obtain ⟨x, rfl⟩ : ∃ x : Nat, rI = (x : Int) := ⟨rI.toNat, by omega⟩
    have H3 := Lib.hid (HH.out.dealt hD3 hg3)
    have HX : Hid (5 ≤ x ∧ x ≤ 60 ∧ k3 ≤ k' + 1) := by show _ ∧ _ ∧ _; omega
    clear hr1 hr2 hk3 hD3 hg3 HH
    go_upto_region 6 with (fail)
    refine stoned_r6 _ w w3 D n c k3 most R1 R2 p x cnt i i tc gc a ta ga gl tl _ rfl H3 (by have := HX.out; have := HKa.out; have := HCn.out; have := HMo.out; show _ ∧ _ ∧ _ ∧ _; omega) (Lib.hid ?_)
    intro t W k4 d1 d2 g1 c1 g2 c2 ht hd1 hd2 hk4 H4
    obtain ⟨X2, hX2⟩ : ∃ X2, t = frD6 D most R1 R2 p x cnt i (i + 1) c2 (some ⟨g2, 0, none⟩) X2 := ⟨_, ht⟩
    clear ht
    subst hX2
    have HRn := Lib.hid (HRo.out.more HX.out.1 HX.out.2.1 (a := d1) hd2)
    have HK4 : Hid (k4 ≤ k + 1 + 3 * (i + 1)) := by have := HX.out; have := HKa.out; show _ ≤ _; omega
    clear hd1 hd2 hk4 H3
    dsimp only [frD6]
    go_wp2_with fail
    refine ⟨InvA.of (i + 1) k4 c1 c2 (some ⟨g1, 0, none⟩) (some ⟨g2, 0, none⟩) (gl ++ [(max 1 (x - d1), x + d2)]) (tl ++ [x]) ?_ (by omega) HK4.out (by rw [List.length_append, HGl.out]; rfl) HRn.out H4.out, ?_⟩
    · simp [frA]
    · simp [intOf, frA]; omega
  · have di : decide ((i : Int) < (cnt : Int)) = false := decide_eq_false (by omega)
    obtain rfl : i = cnt := by have := HKa.out; omega
    clear hlt
    have HMi : Hid (1 ≤ i ∧ i ≤ 9 ∧ i ≤ most) := by have := HCn.out; have := HMo.out; show _ ∧ _ ∧ _; omega
    obtain ⟨tb, rfl, -, htc⟩ := own_place (HH.out.row 1 _ rfl) (show 0 < i from HMi.out.1)
    obtain ⟨m1, hm1⟩ : ∃ m1, i + 1 = m1 := ⟨_, rfl⟩
    have hwm : IntKind.i64.wrap ((i : Int) + 1) = (m1 : Int) := by have := HMi.out; rw [IntWalk.i64_in _ (by omega)]; omega
    have HM1 := Lib.hid hm1
    clear hm1
    have H5 : Hid (Held w D a n c k' [⟨28, 2, .slice ga i gc, i, flat 2 spC gl⟩, ⟨3, 1, .slice (some ⟨tb, 0, none⟩) i tc, i, nums tl⟩, ⟨28, 2, .slice none 0 0, 0, flat 2 spC []⟩, ⟨3, 1, .slice none 0 0, 0, intsV []⟩, ⟨3, 1, .slice none 0 0, 0, nums []⟩] [(R1, .cells #[.slice none 0 0] 64), (R2, .cells #[.slice none 0 0, .slice none 0 0] 66), (p, .cells #[.slice ga i gc] 64), (wr.heap.size, .cells #[.slice none 0 0, .slice none 0 0] 66)] (wr.alloc (.cells #[.slice none 0 0, .slice none 0 0] 66))) := (((HH.out.nilRow 28 2).nilRow 3 1).nilRow 3 1).new _
    clear HH
    go_wp2_with fail
    clear hwm
    generalize wr.alloc (.cells #[.slice none 0 0, .slice none 0 0] 66) = w5 at *
    generalize wr.heap.size = pf at *
    refine wp_loop (InvB w D a n c k' most R1 R2 p pf i m1 tc gc ga (some ⟨tb, 0, none⟩) gl tl) (fun a _ => m1 - (intOf (a.tmps.getD 48 undef)).toNat) (InvB.of 0 k' 0 0 0 0 0 none none none [] [] [] rfl (Nat.zero_le _) (by omega) ⟨RealM.nil, rfl, rfl, rfl, Nat.le_refl _, fun h => by have := HM1.out; omega, fun x hx => by simp at hx⟩ H5.out) ?_
    clear H5
    rintro ac w6 ⟨X, j, k6, fn, fc, n0, nc, rc, fa, na, ra, fl, rl, nl, rfl, hj, hk6, HI, HJ⟩
    have HKb : Hid (k6 ≤ k' + 4 * j ∧ k' ≤ 600 ∧ j ≤ 10 ∧ j ≤ m1) := by have := HKa.out; have := HMo.out; have := HCn.out; have := HM1.out; show _ ∧ _ ∧ _ ∧ _; omega
    clear hj hk6
    conv => arg 4; dsimp only [frB]
    by_cases hlt : j < m1
    · have dj : decide ((j : Int) < (m1 : Int)) = true := decide_eq_true (by omega)
      have hwj : IntKind.i64.wrap ((j : Int) + 1) = ((j + 1 : Nat) : Int) := by have := HKb.out; rw [IntWalk.i64_in _ (by omega)]; omega
      go_wp2_with fail
      refine (draw_any D a n c k6 3 _ HJ.out.deck (by have := HKb.out; omega) (by omega)).mono ?_
      rintro e w7 ⟨dd, k7, hdd, hk7, rfl, hD7, hg7⟩
      have H7 := Lib.hid (HJ.out.dealt hD7 hg7)
      have HKk7 : Hid (k7 ≤ k' + 4 * j + 1 ∧ k7 ≤ 900) := by have := HKb.out; show _ ∧ _; omega
      clear hD7 hg7 hk7 HJ hdd
      have hji : decide ((j : Int) < (i : Int)) = decide (j < i) := by by_cases e : j < i <;> simp [e]
      rcases Nat.eq_zero_or_pos dd with rfl | hd0
      · by_cases hjl : j < i
        · have dji : decide ((j : Int) < (i : Int)) = true := decide_eq_true (by omega)
          have hji2 : (j : Int) < (i : Int) := by omega
          go_wp2_with fail
          refine ⟨InvB.of (j + 1) k7 fn fc n0 nc rc fa na ra fl rl nl ?_ (by omega) (by have := HKk7.out; omega) ⟨HI.out.real.skip, HI.out.fn', HI.out.nn, HI.out.rn, by have := HI.out.le; omega, fun e => by have := HM1.out; omega, HI.out.gb⟩ H7.out, ?_⟩
          · simp [frB]
          · simp [intOf, frB]; omega
        · have dji : decide ((j : Int) < (i : Int)) = false := decide_eq_false (by omega)
          rcases Nat.eq_zero_or_pos n0 with hn0 | hn0
          · obtain rfl : n0 = 0 := hn0
            have HRe : Hid (∀ x : Int, x = -1 ∨ x = (j : Int) → RealM gl tl (j + 1) fl (nl ++ [x]) (rl ++ [j])) := fun x hx => HI.out.real.first (List.length_eq_zero_iff.1 HI.out.rn) hx
            have HN0 : Hid (0 ≤ 100) := Nat.zero_le _
            have HGbn : Hid (∀ x ∈ fl, x.2 ≤ 1000) := HI.out.gb
            go_wp2_with fail
            refine (coin_any D a n c k7 4 _ H7.out.deck (by have := HKk7.out; omega) (by omega)).mono ?_
            rintro e w9 ⟨bb, k9, hk9, rfl, hD9, hg9⟩
            have H9 := Lib.hid (H7.out.dealt hD9 hg9)
            have HK9 : Hid (k9 ≤ k' + 4 * (j + 1) ∧ k9 ≤ 1000) := by have := HKk7.out; show _ ∧ _; omega
            clear hD9 hg9 hk9 H7
            cases bb
            · go_upto_region 26 with (fail)
              refine stoned_r26 _ w w9 D n c k9 most R1 R2 p pf m1 j i tc gc fn fc 0 nc rc a (some ⟨tb, 0, none⟩) ga fa na ra gl fl tl rl nl (-1) _ rfl H9 (by have := HK9.out; have := HN0.out; show _ ∧ _; omega) (Lib.hid ?_)
              intro t W g3 c3 g4 c4 ht H10
              obtain ⟨X2, hX2⟩ : ∃ X2, t = frD26 D most R1 R2 p pf m1 j i tc (0 + 1) c3 (some ⟨tb, 0, none⟩) (some ⟨g3, 0, none⟩) (-1) X2 := ⟨_, ht⟩
              clear ht
              subst hX2
              have HI2 := Lib.hid (HRe.out (-1) (.inl rfl))
              clear H9
              dsimp only [frD26]
              go_wp2_with fail
              refine ⟨InvB.of (j + 1) k9 fn fc (0 + 1) c4 c3 fa (some ⟨g4, 0, none⟩) (some ⟨g3, 0, none⟩) (fl) (rl ++ [j]) (nl ++ [(-1)]) ?_ (by omega) (by have := HK9.out; omega) ⟨HI2.out, HI.out.fn', by rw [List.length_append, HI.out.nn]; rfl, by rw [List.length_append, HI.out.rn]; rfl, by have := HI.out.le; omega, fun _ => by omega, HGbn.out⟩ H10.out, ?_⟩
              · simp [frB]
              · simp [intOf, frB]; omega
            · go_upto_region 26 with (fail)
              refine stoned_r26 _ w w9 D n c k9 most R1 R2 p pf m1 j i tc gc fn fc 0 nc rc a (some ⟨tb, 0, none⟩) ga fa na ra gl fl tl rl nl (j : Int) _ rfl H9 (by have := HK9.out; have := HN0.out; show _ ∧ _; omega) (Lib.hid ?_)
              intro t W g3 c3 g4 c4 ht H10
              obtain ⟨X2, hX2⟩ : ∃ X2, t = frD26 D most R1 R2 p pf m1 j i tc (0 + 1) c3 (some ⟨tb, 0, none⟩) (some ⟨g3, 0, none⟩) (j : Int) X2 := ⟨_, ht⟩
              clear ht
              subst hX2
              have HI2 := Lib.hid (HRe.out (j : Int) (.inr rfl))
              clear H9
              dsimp only [frD26]
              go_wp2_with fail
              refine ⟨InvB.of (j + 1) k9 fn fc (0 + 1) c4 c3 fa (some ⟨g4, 0, none⟩) (some ⟨g3, 0, none⟩) (fl) (rl ++ [j]) (nl ++ [(j : Int)]) ?_ (by omega) (by have := HK9.out; omega) ⟨HI2.out, HI.out.fn', by rw [List.length_append, HI.out.nn]; rfl, by rw [List.length_append, HI.out.rn]; rfl, by have := HI.out.le; omega, fun _ => by omega, HGbn.out⟩ H10.out, ?_⟩
              · simp [frB]
              · simp [intOf, frB]; omega
          · have dn0 : decide ((0 : Int) < (n0 : Int)) = true := decide_eq_true (by omega)
            have dn1 : decide (0 < n0) = true := decide_eq_true hn0
            go_wp2_with fail
            refine ⟨InvB.of (j + 1) k7 fn fc n0 nc rc fa na ra fl rl nl ?_ (by omega) (by have := HKk7.out; omega) ⟨HI.out.real.skip, HI.out.fn', HI.out.nn, HI.out.rn, by have := HI.out.le; omega, fun _ => by omega, HI.out.gb⟩ H7.out, ?_⟩
            · simp [frB]
            · simp [intOf, frB]; omega
      · have dz : ((dd : Int) == 0) = false := by rw [beq_eq_false_iff_ne]; omega
        have dz2 : decide ((dd : Int) = 0) = false := decide_eq_false (by omega)
        have dz3 : ¬ dd = 0 := by omega
        rcases Nat.eq_zero_or_pos n0 with hn0 | hn0
        · obtain rfl : n0 = 0 := hn0
          have HRe : Hid (∀ x : Int, x = -1 ∨ x = (j : Int) → RealM gl tl (j + 1) fl (nl ++ [x]) (rl ++ [j])) := fun x hx => HI.out.real.first (List.length_eq_zero_iff.1 HI.out.rn) hx
          have HN0 : Hid (0 ≤ 100) := Nat.zero_le _
          have HGbn : Hid (∀ x ∈ fl, x.2 ≤ 1000) := HI.out.gb
          go_wp2_with fail
          refine (coin_any D a n c k7 4 _ H7.out.deck (by have := HKk7.out; omega) (by omega)).mono ?_
          rintro e w9 ⟨bb, k9, hk9, rfl, hD9, hg9⟩
          have H9 := Lib.hid (H7.out.dealt hD9 hg9)
          have HK9 : Hid (k9 ≤ k' + 4 * (j + 1) ∧ k9 ≤ 1000) := by have := HKk7.out; show _ ∧ _; omega
          clear hD9 hg9 hk9 H7
          cases bb
          · go_upto_region 26 with (fail)
            refine stoned_r26 _ w w9 D n c k9 most R1 R2 p pf m1 j i tc gc fn fc 0 nc rc a (some ⟨tb, 0, none⟩) ga fa na ra gl fl tl rl nl (-1) _ rfl H9 (by have := HK9.out; have := HN0.out; show _ ∧ _; omega) (Lib.hid ?_)
            intro t W g3 c3 g4 c4 ht H10
            obtain ⟨X2, hX2⟩ : ∃ X2, t = frD26 D most R1 R2 p pf m1 j i tc (0 + 1) c3 (some ⟨tb, 0, none⟩) (some ⟨g3, 0, none⟩) (-1) X2 := ⟨_, ht⟩
            clear ht
            subst hX2
            have HI2 := Lib.hid (HRe.out (-1) (.inl rfl))
            clear H9
            dsimp only [frD26]
            go_wp2_with fail
            refine ⟨InvB.of (j + 1) k9 fn fc (0 + 1) c4 c3 fa (some ⟨g4, 0, none⟩) (some ⟨g3, 0, none⟩) (fl) (rl ++ [j]) (nl ++ [(-1)]) ?_ (by omega) (by have := HK9.out; omega) ⟨HI2.out, HI.out.fn', by rw [List.length_append, HI.out.nn]; rfl, by rw [List.length_append, HI.out.rn]; rfl, by have := HI.out.le; omega, fun _ => by omega, HGbn.out⟩ H10.out, ?_⟩
            · simp [frB]
            · simp [intOf, frB]; omega
          · go_upto_region 26 with (fail)
            refine stoned_r26 _ w w9 D n c k9 most R1 R2 p pf m1 j i tc gc fn fc 0 nc rc a (some ⟨tb, 0, none⟩) ga fa na ra gl fl tl rl nl (j : Int) _ rfl H9 (by have := HK9.out; have := HN0.out; show _ ∧ _; omega) (Lib.hid ?_)
            intro t W g3 c3 g4 c4 ht H10
            obtain ⟨X2, hX2⟩ : ∃ X2, t = frD26 D most R1 R2 p pf m1 j i tc (0 + 1) c3 (some ⟨tb, 0, none⟩) (some ⟨g3, 0, none⟩) (j : Int) X2 := ⟨_, ht⟩
            clear ht
            subst hX2
            have HI2 := Lib.hid (HRe.out (j : Int) (.inr rfl))
            clear H9
            dsimp only [frD26]
            go_wp2_with fail
            refine ⟨InvB.of (j + 1) k9 fn fc (0 + 1) c4 c3 fa (some ⟨g4, 0, none⟩) (some ⟨g3, 0, none⟩) (fl) (rl ++ [j]) (nl ++ [(j : Int)]) ?_ (by omega) (by have := HK9.out; omega) ⟨HI2.out, HI.out.fn', by rw [List.length_append, HI.out.nn]; rfl, by rw [List.length_append, HI.out.rn]; rfl, by have := HI.out.le; omega, fun _ => by omega, HGbn.out⟩ H10.out, ?_⟩
            · simp [frB]
            · simp [intOf, frB]; omega
        · obtain ⟨n1, hn1⟩ : ∃ n1, n0 = n1 + 1 := ⟨n0 - 1, by omega⟩
          have HN0 : Hid (n0 ≤ 10 ∧ n0 = n1 + 1) := by have := HI.out.le; have := HKb.out; show _ ∧ _; omega
          have hwn : IntKind.i64.wrap ((n0 : Int) - 1) = (n1 : Int) := by have := HN0.out; rw [IntWalk.i64_in _ (by omega)]; omega
          have dn0 : decide ((0 : Int) < (n0 : Int)) = true := decide_eq_true (by omega)
          have dn1 : decide (0 < n0) = true := decide_eq_true hn0
          obtain ⟨rb, rfl, -, hrc⟩ := own_place (H7.out.row 4 _ rfl) hn0
          obtain ⟨r, hr⟩ : ∃ r, rl[n1]?.getD 0 = r := ⟨_, rfl⟩
          have hcr := H7.out.num 4 rfl HI.out.rn (by have := HN0.out; omega) (show n1 < n0 by omega)
          rw [hr] at hcr
          have hrj := HI.out.real.lt n1 (by have := HI.out.rn; omega)
          rw [hr] at hrj
          have HTl : Hid (tl.length = i) := HRo.out.tl.trans HGl.out
          have hcap := H7.out.cap 1 rfl HTl.out (by have := HMi.out; omega)
          have HRj : Hid (r < j ∧ j ≤ i ∧ i ≤ tc) := by have := HM1.out; show _ ∧ _ ∧ _; omega
          have HRr := Lib.hid hr
          have i0 : (0 : Int) ≤ (r : Int) := by omega
          have i1 : (r : Int) ≤ (j : Int) := by omega
          have i2 : (j : Int) ≤ (tc : Int) := by have := HRj.out; omega
          have i3 : (0 : Int) ≤ (n1 : Int) := by omega
          have i4 : (n1 : Int) < (n0 : Int) := by omega
          have i5 : (0 : Int) ≤ (j : Int) := by omega
          have i6 : (if tc = r then (⟨tb, 0, none⟩ : Addr) else ⟨tb, r, none⟩) = ⟨tb, r, none⟩ := by have := HRj.out; rw [if_neg (by omega)]
          have i7 : ¬ tc = r := by have := HRj.out; omega
          clear hn1 hr hcap hrc
          go_wp2_with fail
          clear i1 i2 i3 i4 i5 i6 i7 hwn hcr
          obtain ⟨ln, hln⟩ : ∃ ln, j - r = ln := ⟨_, rfl⟩
          obtain ⟨lc, hlc⟩ : ∃ lc, tc - r = lc := ⟨_, rfl⟩
          rw [hln, hlc]
          have HLn : Hid (r + ln = j ∧ r + lc = tc) := by have := HRj.out; show _ ∧ _; omega
          have HLj := Lib.hid hln
          clear hln hlc
          refine wp_loop (InvC w7 D most R1 R2 p pf m1 j i tc n0 rc tb rb r ln lc tl) (fun a _ => ln - (intOf (a.tmps.getD 78 undef)).toNat) (InvC.of 0 0 rfl (Nat.zero_le _) rfl) ?_
          rintro ac wq ⟨X3, q, S, rfl, hq, HS, rfl⟩
          conv => arg 4; dsimp only [frC]
          have hS6 : S ≤ q * 60 := by
            rw [← HS.out]
            exact sumN_le q fun m hm => (HRo.out.ti (r + m) (by rw [HGl.out]; have := HRj.out; have := HLn.out; omega)).2.2.2.2.1
          by_cases hlq : q < ln
          · have dq : decide ((q : Int) < (ln : Int)) = true := decide_eq_true (by omega)
            have hwq : IntKind.i64.wrap ((q : Int) + 1) = ((q + 1 : Nat) : Int) := by have := HLn.out; have := HKb.out; rw [IntWalk.i64_in _ (by omega)]; omega
            have hcq := H7.out.num 1 rfl HTl.out (by have := HMi.out; omega) (show r + q < i by have := HRj.out; have := HLn.out; omega)
            have ht6 := (HRo.out.ti (r + q) (by rw [HGl.out]; have := HRj.out; have := HLn.out; omega)).2.2.2.2.1
            have hsum : sumN (fun m => tl[r + m]?.getD 0) (q + 1) = S + tl[r + q]?.getD 0 := by rw [← HS.out]; rfl
            obtain ⟨x, hx⟩ : ∃ x, tl[r + q]?.getD 0 = x := ⟨_, rfl⟩
            rw [hx] at hcq ht6 hsum
            obtain ⟨S2, hS2⟩ : ∃ S2, S + x = S2 := ⟨_, rfl⟩
            rw [hS2] at hsum
            have hws : IntKind.i64.wrap ((S : Int) + (x : Int)) = (S2 : Int) := by have := HLn.out; have := HKb.out; rw [IntWalk.i64_in _ (by omega)]; omega
            have j0 : (0 : Int) ≤ (q : Int) := by omega
            have j1 : (q : Int) < (ln : Int) := by omega
            have HSm := Lib.hid hsum
            clear hx hS2 hsum hS6 ht6 HS
            go_wp2_with fail
            refine ⟨InvC.of (q + 1) S2 ?_ (by omega) HSm.out, ?_⟩
            · simp [frC]
            · simp [intOf, frC]; omega
          · have dq : decide ((q : Int) < (ln : Int)) = false := decide_eq_false (by omega)
            obtain rfl : q = ln := by omega
            have hL : longF tl (rl[n1]?.getD 0) j = S := by rw [HRr.out, ← HS.out]; unfold longF; rw [HLj.out]
            have HLL := Lib.hid hL
            have HS6 := Lib.hid hS6
            clear hL hS6 HS
            go_upto_region 22 with (fail)
            refine stoned_r22 _ w w7 D n c k7 most R1 R2 p pf m1 j i tc gc fn fc n0 nc rc a (some ⟨tb, 0, none⟩) ga fa na (some ⟨rb, 0, none⟩) gl fl tl rl nl S _ rfl H7 (by have := HI.out.fn'; have := HI.out.real.gl; have := HI.out.rn; have := HN0.out; have := HKk7.out; have := HS6.out; have := HLn.out; have := HKb.out; show _ ∧ _ ∧ _; omega) (Lib.hid ?_)
            intro t W k8 d1 d2 g1 c1 ht hd1 hd2 hk8 H8
            obtain ⟨X2, hX2⟩ : ∃ X2, t = frD22 D most R1 R2 p pf m1 j i tc n0 rc S (some ⟨tb, 0, none⟩) (some ⟨rb, 0, none⟩) X2 := ⟨_, ht⟩
            clear ht
            subst hX2
            have HKk8 : Hid (k8 ≤ k' + 4 * j + 3 ∧ k8 ≤ 990) := by have := HKk7.out; show _ ∧ _; omega
            have HRe : Hid (∀ x : Int, x = -1 ∨ x = (j : Int) → RealM gl tl (j + 1) (fl ++ [(max 1 (S - d1), S + d2)]) (nl ++ [x]) (rl ++ [j])) := fun x hx => HI.out.real.more HRo.out (by rw [HGl.out]; exact HRj.out.2.1) (by rw [HGl.out]; have := HMi.out; omega) (n := n1) (by have := HI.out.rn; have := HN0.out; omega) HLL.out (by omega) hx
            have HGbn : Hid (∀ x ∈ fl ++ [(max 1 (S - d1), S + d2)], x.2 ≤ 1000) := fun x hx => by
              rcases List.mem_append.1 hx with hx | hx
              · exact HI.out.gb x hx
              · simp only [List.mem_singleton] at hx
                subst hx
                have := HS6.out
                have := HLn.out
                have := HKb.out
                dsimp only
                omega
            clear hd1 hd2 hk8 H7
            dsimp only [frD22]
            go_wp2_with fail
            refine (coin_any D a n c k8 4 _ H8.out.deck (by have := HKk8.out; omega) (by omega)).mono ?_
            rintro e w9 ⟨bb, k9, hk9, rfl, hD9, hg9⟩
            have H9 := Lib.hid (H8.out.dealt hD9 hg9)
            have HK9 : Hid (k9 ≤ k' + 4 * (j + 1) ∧ k9 ≤ 1000) := by have := HKk8.out; show _ ∧ _; omega
            clear hD9 hg9 hk9 H8
            cases bb
            · go_upto_region 26 with (fail)
              refine stoned_r26 _ w w9 D n c k9 most R1 R2 p pf m1 j i tc gc (fn + 1) c1 n0 nc rc a (some ⟨tb, 0, none⟩) ga (some ⟨g1, 0, none⟩) na (some ⟨rb, 0, none⟩) gl (fl ++ [(max 1 (S - d1), S + d2)]) tl rl nl (-1) _ rfl H9 (by have := HK9.out; have := HN0.out; show _ ∧ _; omega) (Lib.hid ?_)
              intro t W g3 c3 g4 c4 ht H10
              obtain ⟨X2, hX2⟩ : ∃ X2, t = frD26 D most R1 R2 p pf m1 j i tc (n0 + 1) c3 (some ⟨tb, 0, none⟩) (some ⟨g3, 0, none⟩) (-1) X2 := ⟨_, ht⟩
              clear ht
              subst hX2
              have HI2 := Lib.hid (HRe.out (-1) (.inl rfl))
              clear H9
              dsimp only [frD26]
              go_wp2_with fail
              refine ⟨InvB.of (j + 1) k9 (fn + 1) c1 (n0 + 1) c4 c3 (some ⟨g1, 0, none⟩) (some ⟨g4, 0, none⟩) (some ⟨g3, 0, none⟩) ((fl ++ [(max 1 (S - d1), S + d2)])) (rl ++ [j]) (nl ++ [(-1)]) ?_ (by omega) (by have := HK9.out; omega) ⟨HI2.out, (by rw [List.length_append, HI.out.fn']; rfl), by rw [List.length_append, HI.out.nn]; rfl, by rw [List.length_append, HI.out.rn]; rfl, by have := HI.out.le; omega, fun _ => by omega, HGbn.out⟩ H10.out, ?_⟩
              · simp [frB]
              · simp [intOf, frB]; omega
            · go_upto_region 26 with (fail)
              refine stoned_r26 _ w w9 D n c k9 most R1 R2 p pf m1 j i tc gc (fn + 1) c1 n0 nc rc a (some ⟨tb, 0, none⟩) ga (some ⟨g1, 0, none⟩) na (some ⟨rb, 0, none⟩) gl (fl ++ [(max 1 (S - d1), S + d2)]) tl rl nl (j : Int) _ rfl H9 (by have := HK9.out; have := HN0.out; show _ ∧ _; omega) (Lib.hid ?_)
              intro t W g3 c3 g4 c4 ht H10
              obtain ⟨X2, hX2⟩ : ∃ X2, t = frD26 D most R1 R2 p pf m1 j i tc (n0 + 1) c3 (some ⟨tb, 0, none⟩) (some ⟨g3, 0, none⟩) (j : Int) X2 := ⟨_, ht⟩
              clear ht
              subst hX2
              have HI2 := Lib.hid (HRe.out (j : Int) (.inr rfl))
              clear H9
              dsimp only [frD26]
              go_wp2_with fail
              refine ⟨InvB.of (j + 1) k9 (fn + 1) c1 (n0 + 1) c4 c3 (some ⟨g1, 0, none⟩) (some ⟨g4, 0, none⟩) (some ⟨g3, 0, none⟩) ((fl ++ [(max 1 (S - d1), S + d2)])) (rl ++ [j]) (nl ++ [(j : Int)]) ?_ (by omega) (by have := HK9.out; omega) ⟨HI2.out, (by rw [List.length_append, HI.out.fn']; rfl), by rw [List.length_append, HI.out.nn]; rfl, by rw [List.length_append, HI.out.rn]; rfl, by have := HI.out.le; omega, fun _ => by omega, HGbn.out⟩ H10.out, ?_⟩
              · simp [frB]
              · simp [intOf, frB]; omega
    · have dj : decide ((j : Int) < (m1 : Int)) = false := decide_eq_false (by omega)
      obtain rfl : j = m1 := by have := HKb.out; omega
      have p0 := HJ.out.cell 2 (j := 0) rfl rfl
      have p1 := HJ.out.cell 3 (j := 0) rfl rfl
      have p2 := HJ.out.cell 3 (j := 1) rfl rfl
      have r0 := HJ.out.cell 0 (j := 0) rfl rfl
      have r1 := HJ.out.cell 1 (j := 0) rfl rfl
      have r2 := HJ.out.cell 1 (j := 1) rfl rfl
      have z0 := HJ.out.frozen 0 (j := 0) rfl
      have z1 := HJ.out.frozen 1 (j := 0) rfl
      have z2 := HJ.out.frozen 1 (j := 1) rfl
      have n1 : p ≠ R1 := HJ.out.dis 2 0 _ _ (by decide) rfl rfl
      have n2 : pf ≠ R1 := HJ.out.dis 3 0 _ _ (by decide) rfl rfl
      have n3 : p ≠ R2 := HJ.out.dis 2 1 _ _ (by decide) rfl rfl
      have n4 : pf ≠ R2 := HJ.out.dis 3 1 _ _ (by decide) rfl rfl
      have n5 : R1 ≠ R2 := HJ.out.dis 0 1 _ _ (by decide) rfl rfl
      go_upto_region 28 with (fail)
      go_region
      have HF : Hid (Held w D a n c k6 [⟨28, 2, .slice ga i gc, i, flat 2 spC gl⟩, ⟨3, 1, .slice (some ⟨tb, 0, none⟩) i tc, i, nums tl⟩, ⟨28, 2, .slice fa fn fc, fn, flat 2 spC fl⟩, ⟨3, 1, .slice na n0 nc, n0, intsV nl⟩, ⟨3, 1, .slice ra n0 rc, n0, nums rl⟩] [(R1, .cells #[.slice ga i gc] 64), (R2, .cells #[.slice fa fn fc, .slice na n0 nc] 66), (p, .cells #[.slice ga i gc] 64), (pf, .cells #[.slice fa fn fc, .slice na n0 nc] 66)] (((w6.setCell ⟨R1, 0, none⟩ (.slice ga i gc)).setCell ⟨R2, 0, none⟩ (.slice fa fn fc)).setCell ⟨R2, 1, none⟩ (.slice na n0 nc)).drew) :=
        (((HJ.out.cellPut (j := 0) 0 rfl (.slice ga i gc)).cellPut (j := 0) 1 rfl (.slice fa fn fc)).cellPut (j := 1) 1 rfl (.slice na n0 nc)).ext (Ext.refl _).drew
      clear p0 p1 p2 r0 r1 r2 z0 z1 z2 HJ
      generalize (((w6.setCell ⟨R1, 0, none⟩ (.slice ga i gc)).setCell ⟨R2, 0, none⟩ (.slice fa fn fc)).setCell ⟨R2, 1, none⟩ (.slice na n0 nc)).drew = WF at *
      go_wp2_with fail
      have m0 := HF.out.cell 0 (j := 0) rfl rfl
      have m1 := HF.out.cell 1 (j := 0) rfl rfl
      have m2 := HF.out.cell 1 (j := 1) rfl rfl
      simp only [bodyPost]
      refine ⟨trivial, _, ?_, ga, fa, na, ra, some ⟨tb, 0, none⟩, gc, fc, nc, rc, i, fn, n0, k6, gl, fl, tl, rl, nl, tc, rfl, HRo.out, by rw [HM1.out]; exact HI.out, HGl.out, HMi.out.1, HMi.out.2.2, ?_, HF.out.drop (blks := []) _⟩
      · simp [results, Try.f32, go_sem, m0, m1, m2]
      · have := HKb.out; have := HKa.out; have := HM1.out; have := HMi.out; omega
end Go.Proofs.Ytfognlealnhodaa

namespace Go.Proofs.Ytfognlealnhodaa
open Go.RowKit

theorem blamed_tail17' (t : Array Value) (w V : World) (rB fB g mg gc fn fc n0 nc k : Nat) (ga na : Option Addr) (gl L : List (Nat × Nat)) (nl : List Int) (HW : Hid (BW w V rB fB g mg gc fn fc n0 nc ga na gl L nl)) (HK : Hid (k < n0 ∧ 2 ≤ n0)) (HNm : Hid (k ∈ wrongF gl L nl)) (ht : t = frT9 rB fB k (fun j => t.getD j undef)) :
    Code.wp Try.prog tail9_17 (bodyPost Try.prog Try.f9 fun e w' => e = .returned (.bool true) ∧ Ext w w') ⟨t, []⟩ V := by
  rw [ht]
  exact blamed_tail17 _ w V rB fB g mg gc fn fc n0 nc k ga na gl L nl HW HK HNm

set_option maxRecDepth 1000000 in
set_option maxHeartbeats 16000000 in
theorem blamed_any (a0 : Option Addr) (n0' c0 : Nat) (z1 z2 : Int) (w : World) (h0 : IsBytes w a0 n0' c0) :
    Calls Try.prog 9 #[.slice a0 n0' c0, .int .i64 z1, .int .i64 z2] w fun e w' => e = .returned (.bool true) ∧ Ext w w' := by
  have H0 := Lib.hid h0
  clear h0
  go_enter Try.func9, Try.ntmps9
  go_wp2_with fail
  refine (of_any a0 n0' c0 w H0.out).mono ?_
  rintro e w1 ⟨rfl, hd1, hx1⟩
  have HDa := Lib.hid hd1
  have HX1 := Lib.hid hx1
  have hw1 : w.heap.size < w1.heap.size := HDa.out.lt
  clear hd1 hx1
  go_wp2_with fail
  refine (stoned_any w.heap.size a0 n0' c0 0 9 w1 HDa.out (by omega) (by omega) (by omega)).mono ?_
  rintro e W ⟨ga, fa, na, ra, ta, gc, fc, nc, rc, m, fn, n0, k', gl, fl, tl, rl, nl, tc, rfl, hRo, hIn, hgl, hm1, hm9, -, hHd⟩
  have hk := hHd.keep
  have hne := hIn.ne rfl
  have hrl : rl ≠ [] := fun e => by subst e; have := hIn.rn; simp at this; omega
  have hre : RealM gl tl (gl.length + 1) fl nl rl := by rw [hgl]; exact hIn.real
  have hle := hIn.le
  have hok : OkSt gl fl nl := hre.ok hRo hrl (by omega) (by omega) (by have := hIn.rn; omega)
  have hl1 := hgl
  have hl2 := hIn.fn'
  have hl3 := hIn.nn
  have hog := hok.gl
  have hxw : Ext w W := ((Keep.of_ext (D := fun b => b ≠ w.heap.size) HX1.out).trans hk).to_ext (fun i hi => by omega)
  have HRe : Hid (Real gl fl nl rl tl) := hre.done hRo hrl
  have HBd : Hid (1 ≤ n0 ∧ n0 ≤ 10 ∧ fn + 1 = n0 ∧ gl.length + 1 ≤ 40) := ⟨by omega, by omega, by omega, by omega⟩
  have HHd := Lib.hid hHd
  have HOk := Lib.hid hok
  have HIn := Lib.hid hIn
  have HXw := Lib.hid hxw
  have HL : Hid (gl.length = m ∧ fl.length = fn ∧ nl.length = n0 ∧ 1 ≤ m ∧ m ≤ 9) := ⟨hl1, hl2, hl3, hm1, hm9⟩
  have HWs : Hid (w.heap.size < w1.heap.size) := hw1
  clear hHd hk hne hrl hre hle hok hl1 hl2 hl3 hog hxw hRo hIn hgl hm1 hm9 hw1 HDa HX1 H0
  go_wp2_with fail
  have hxa := (Ext.refl W).alloc (.cells #[.slice ga m gc] 64)
  have hxb := hxa.alloc (.cells #[.slice fa fn fc, .slice na n0 nc] 66)
  have hA := (((Ext.refl (W.alloc (.cells #[.slice ga m gc] 64))).alloc (.cells #[.slice fa fn fc, .slice na n0 nc] 66)).block (World.alloc_heap_new W (.cells #[.slice ga m gc] 64)))
  have hB : ((W.alloc (.cells #[.slice ga m gc] 64)).alloc (.cells #[.slice fa fn fc, .slice na n0 nc] 66)).heap[W.heap.size + 1]? = some (.cells #[.slice fa fn fc, .slice na n0 nc] 66 (0, 0)) := alloc_new (by simp only [World.size_alloc])
  have HXb : Hid (Ext W ((W.alloc (.cells #[.slice ga m gc] 64)).alloc (.cells #[.slice fa fn fc, .slice na n0 nc] 66))) := hxb
  have HA := Lib.hid hA
  have HB := Lib.hid hB
  obtain ⟨rB, hrB⟩ : ∃ rB, W.heap.size = rB := ⟨_, rfl⟩
  have HrB := Lib.hid hrB
  rw [hrB] at HA HB ⊢
  clear hxa hxb hA hB hrB
  generalize (W.alloc (.cells #[.slice ga m gc] 64)).alloc (.cells #[.slice fa fn fc, .slice na n0 nc] 66) = W2 at *
  refine (fold_any z1 n0 _ HBd.out.1 (by have := HBd.out; omega)).mono ?_
  rintro e w' ⟨k, hkn, rfl, rfl⟩
  have hsz := HrB.out
  have HKn : Hid (k < n0) := hkn
  clear hkn
  by_cases hn1 : n0 = 1
  · have t1 : ((n0 : Int) == 1) = true := by rw [beq_iff_eq]; omega
    have HXE : Hid (Ext w w') := HXw.out.trans HXb.out
    go_wp2_with (go_at_call 19; refine (awake_ok _).mono ?_; rintro e w7 ⟨rfl, hx7⟩; have HX7 : Hid (Ext w w7) := HXE.out.trans hx7; clear hx7)
    go_ret
    exact ⟨rfl, HX7.out⟩
  · have t1 : ((n0 : Int) == 1) = false := by rw [beq_eq_false_iff_ne]; omega
    have HK : Hid (k < n0 ∧ 2 ≤ n0) := ⟨HKn.out, by have := HBd.out; omega⟩
    obtain ⟨g, rfl, hg1, -⟩ := own_place (HHd.out.row 2 _ rfl) (show 0 < fn by have := HBd.out; omega)
    have hw1 := HWs.out
    have hgW := HHd.out.rlt (i := 2) rfl (b := g) rfl
    have HW : Hid (BW w w' rB (rB + 1) g m gc fn fc n0 nc ga na gl fl nl) := by
      refine ⟨HXw.out.trans HXb.out, (cell_at HA.out 0).trans rfl, (cell_at HB.out 0).trans rfl, (cell_at HB.out 1).trans rfl, ?_, ?_, ?_, HL.out.1, HL.out.2.1, HL.out.2.2.1, by omega, ⟨by omega, by omega⟩, ?_, HOk.out, fun x hx => by have := HIn.out.gb x hx; omega⟩
      · have h := HHd.out.row 0 _ rfl
        dsimp only at h
        rw [← HL.out.1] at h
        exact (own_slG h (by have := HL.out; omega)).ext HXb.out
      · have h := HHd.out.row 2 _ rfl
        dsimp only at h
        rw [← HL.out.2.1] at h
        exact (RowP.of_own h).1.ext HXb.out
      · have h := HHd.out.row 3 _ rfl
        dsimp only at h
        rw [← HL.out.2.2.1] at h
        exact (own_slI h (by have := HL.out; have := HBd.out; omega)).ext HXb.out
      · rintro b off (e | e)
        · subst e
          obtain ⟨g', e, -⟩ := own_place (HHd.out.row 0 _ rfl) (show 0 < m from HL.out.2.2.2.1)
          simp only [Option.some.injEq, Addr.mk.injEq, and_true] at e
          obtain ⟨rfl, rfl⟩ := e
          exact fun e => HHd.out.apart 0 2 _ _ (by decide) rfl rfl b rfl (by rw [e]; rfl)
        · subst e
          obtain ⟨g', e, -⟩ := own_place (HHd.out.row 3 _ rfl) (show 0 < n0 from HBd.out.1)
          simp only [Option.some.injEq, Addr.mk.injEq, and_true] at e
          obtain ⟨rfl, rfl⟩ := e
          exact fun e => HHd.out.apart 3 2 _ _ (by decide) rfl rfl b rfl (by rw [e]; rfl)
    obtain ⟨fB, hfB⟩ : ∃ fB, rB + 1 = fB := ⟨_, rfl⟩
    rw [hfB] at HW ⊢
    have HGb : Hid (∀ x ∈ fl, 1 ≤ x.1 ∧ x.1 ≤ x.2 ∧ x.2 ≤ 1000) := fun x hx => ⟨(HOk.out.gb x hx).1, (HOk.out.gb x hx).2.1, HIn.out.gb x hx⟩
    have HW0 := HW
    clear hfB hg1 hgW hw1 hsz HA HB HHd HIn HXw HXb HrB HWs
    go_wp2_with fail
    refine (fold_any z2 80 _ (by omega) (by omega)).mono ?_
    rintro e w3 ⟨zr, hzr, rfl, rfl⟩
    obtain ⟨mv, hmv⟩ : ∃ mv : Int, (zr : Int) - 40 = mv := ⟨_, rfl⟩
    have hwm : IntKind.i64.wrap ((zr : Int) - 40) = mv := by rw [IntWalk.i64_in _ (by omega)]; exact hmv
    have HMv : Hid (-40 ≤ mv ∧ mv ≤ 39) := by show _ ∧ _; omega
    clear hmv hzr
    go_upto_region 6 with (fail)
    clear hwm
    generalize w3 = W2 at *
    rcases Nat.eq_zero_or_pos k with hk0 | hk0
    · have HJ : Hid (k < fn) := by have := HBd.out; show _ < _; omega
      have d1 : decide ((0 : Int) < (k : Int)) = false := decide_eq_false (by omega)
      have d2 : decide (0 < k) = false := decide_eq_false (by omega)
      have d3 : decide ((k : Int) < (fn : Int)) = true := decide_eq_true (by have := HJ.out; omega)
      have d4 : ((k : Int) == 0) = true := by rw [beq_iff_eq]; omega
      have d5 : (k : Int) < (fn : Int) := by have := HJ.out; omega
      have d6 : (0 : Int) ≤ (k : Int) := by omega
      have d7 : ¬ 0 < k := by omega
      have HK0 : Hid (k = 0) := hk0
      clear hk0
      have hjl : k < (fl).length := by rw [HW.out.l2]; exact HJ.out
      have u1 := HW.out.gs.cell k hjl 0 (by omega)
      have u2 := HW.out.gs.cell k hjl 1 (by omega)
      have vb := HW.out.ok.gb _ (List.getElem_mem hjl)
      have vd := HW.out.bd _ (List.getElem_mem hjl)
      have HXs : Hid (((fl)[k]?.getD (0, 0)) = (fl)[k]) := by show _ = _; rw [List.getElem?_eq_getElem hjl, Option.getD_some]
      obtain ⟨sx, hsx⟩ : ∃ sx, (fl)[k] = sx := ⟨_, rfl⟩
      rw [hsx] at u1 u2 vb vd HXs
      obtain ⟨lo, hi⟩ := sx
      dsimp only at vb vd
      simp only [spC, if_true, Nat.add_zero, if_neg (show ¬ (1 : Nat) = 0 by omega)] at u1 u2
      clear hsx hjl
      have b1 := HW.out.b1
      have hnw := World.alloc_heap_new W2 (.cells #[.int .i64 (lo : Int), .int .i64 (hi : Int)] 28)
      have s0 := (cell_at hnw 0).trans rfl
      have s1 := (cell_at hnw 1).trans rfl
      have HW3 := Lib.hid (HW.out.ext ((Ext.refl W2).alloc (.cells #[.int .i64 (lo : Int), .int .i64 (hi : Int)] 28)))
      have HSb : Hid (W2.heap.size ≠ g) := by have := HW.out.gs.lt; show _ ≠ _; omega
      go_upto_region 12 with (fail)
      clear u1 u2 b1 hnw
      generalize W2.alloc (.cells #[.int .i64 (lo : Int), .int .i64 (hi : Int)] 28) = W3 at *
      generalize W2.heap.size = sb at *
      have wa : IntKind.i64.wrap ((lo : Int) + mv) = (lo : Int) + mv := by have := HMv.out; exact IntWalk.i64_in _ (by omega)
      have wb : IntKind.i64.wrap ((hi : Int) + mv) = (hi : Int) + mv := by have := HMv.out; exact IntWalk.i64_in _ (by omega)
      by_cases hlow : (lo : Int) + mv < 1
      · have t1 : decide ((lo : Int) + mv < 1) = true := decide_eq_true hlow
        have HXE : Hid (Ext w W3) := HW3.out.hx
        go_wp2_with (go_at_call 19; refine (awake_ok _).mono ?_; rintro e w7 ⟨rfl, hx7⟩; have HX7 : Hid (Ext w w7) := HXE.out.trans hx7; clear hx7)
        go_ret
        exact ⟨rfl, HX7.out⟩
      · have t1 : decide ((lo : Int) + mv < 1) = false := decide_eq_false hlow
        obtain ⟨a, ha⟩ : ∃ a : Nat, (lo : Int) + mv = (a : Int) := ⟨((lo : Int) + mv).toNat, by omega⟩
        obtain ⟨b, hb⟩ : ∃ b : Nat, (hi : Int) + mv = (b : Int) := ⟨((hi : Int) + mv).toNat, by omega⟩
        have HAb : Hid (1 ≤ a ∧ a ≤ b ∧ b ≤ 2000) := by have := HMv.out; have hh := HGb.out (fl[k]?.getD (0, 0)) (by rw [List.getElem?_eq_getElem (by rw [HW0.out.l2]; exact HJ.out), Option.getD_some]; exact List.getElem_mem _); rw [HXs.out] at hh; dsimp only at hh; show _ ∧ _ ∧ _; omega
        have HWa : Hid (IntKind.i64.wrap ((lo : Int) + mv) = (a : Int)) := by show _ = _; rw [wa]; exact ha
        have HWb : Hid (IntKind.i64.wrap ((hi : Int) + mv) = (b : Int)) := by show _ = _; rw [wb]; exact hb
        clear ha hb hlow
        go_upto_region 14 with (fail)
        clear t1 wa wb
        have wa := HWa.out
        have wb := HWb.out
        have HS : Hid (∀ v, Keep (fun b => b ≠ g) W3 v → v.cell? ⟨fB, 0, none⟩ = some (.slice (some ⟨g, 0, none⟩) fn fc) ∧ v.cell? ⟨sb, 0, none⟩ = some (.int .i64 (lo : Int)) ∧ v.cell? ⟨sb, 1, none⟩ = some (.int .i64 (hi : Int))) := fun v hv => ⟨hv.cell HW3.out.b1 HW3.out.ne.2, hv.cell s0 HSb.out, hv.cell s1 HSb.out⟩
        have HSp : Hid (∀ v, Ext W3 v → Calls Try.prog 24 #[.int .i64 (a : Int), .int .i64 (b : Int)] v fun e w' => e = .returned (.agg #[.int .i64 (a : Int), .int .i64 (b : Int)]) ∧ Ext W3 w' ∧ Keep (fun b => b ≠ g) W3 w') := fun v hv => by
          refine (span_any _ _ v).mono ?_
          rintro e w' ⟨rfl, rfl⟩
          have h := hv.trans ((Ext.refl v).alloc (.cells #[.int .i64 (a : Int), .int .i64 (b : Int)] 28))
          exact ⟨rfl, h, Keep.of_ext h⟩
        have HY : Hid (∀ v, Ext W3 v → ∃ y0 y1, v.cell? ⟨g, k * 2, none⟩ = some y0 ∧ v.cell? ⟨g, k * 2 + 1, none⟩ = some y1 ∧ v.frozen? ⟨g, k * 2, none⟩ = false ∧ v.frozen? ⟨g, k * 2 + 1, none⟩ = false) := fun v hv =>
          ⟨_, _, (HW3.out.gs.ext hv).cell k (by rw [HW3.out.l2]; exact HJ.out) 0 (by omega), (HW3.out.gs.ext hv).cell k (by rw [HW3.out.l2]; exact HJ.out) 1 (by omega), (HW3.out.gs.ext hv).frozen _, (HW3.out.gs.ext hv).frozen _⟩
        have b1 := HW3.out.b1
        go_upto_region 16 with (fail)
        clear b1
        go_region_held3 (fun v => v.cell? ⟨fB, 0, none⟩ = some (.slice (some ⟨g, 0, none⟩) fn fc) ∧ v.cell? ⟨sb, 0, none⟩ = some (.int .i64 (lo : Int)) ∧ v.cell? ⟨sb, 1, none⟩ = some (.int .i64 (hi : Int)))
          ((refine HS.out _ ?_; (repeat (first | assumption | exact Keep.refl _ _ | refine Keep.drew ?_ | refine Keep.alloc ?_ _ | refine Keep.setCell ?_ _ _ (fun _ h => h rfl)))))
          (first
            | (go_at_call 24; refine (HSp.out _ (Ext.refl _).drew).mono ?_; rintro e we ⟨rfl, hxe, hke⟩; obtain ⟨y0, y1, h0, h1, h2, h3⟩ := HY.out we hxe))
        have HW4 := Lib.hid ((HW3.out.ext hxe).put HJ.out (a, b) HAb.out)
        clear h0 h1 h2 h3 hxe hke HS HSp HY s0 s1
        generalize (we.setCell ⟨g, k * 2, none⟩ (.int .i64 (a : Int))).setCell ⟨g, k * 2 + 1, none⟩ (.int .i64 (b : Int)) = W4 at *
        clear wa wb
        have HNm : Hid (k ∈ wrongF gl (fl.set k (a, b)) nl) := named HRe.out (by have := HBd.out; omega) HW0.out.l3 HK.out.2 HK.out.1 (by rw [HK0.out]; exact lessG_first fl n0 (a, b))
        repeat (first | exact blamed_tail17' _ w W4 rB fB g m gc fn fc n0 nc k ga na gl (fl.set k (a, b)) nl HW4 HK HNm rfl | go_step)
    · obtain ⟨r, hr⟩ : ∃ r, k - 1 = r := ⟨_, rfl⟩
      have HR : Hid (r + 1 = k) := by show _ = _; omega
      have HJ : Hid (r < fn) := by have := HBd.out; have := HK.out; show _ < _; omega
      have wr1 : IntKind.i64.wrap ((k : Int) - 1) = (r : Int) := by have := HK.out; have := HBd.out; rw [IntWalk.i64_in _ (by omega)]; omega
      have d1 : decide ((0 : Int) < (k : Int)) = true := decide_eq_true (by omega)
      have d2 : decide (0 < k) = true := decide_eq_true (by omega)
      have d4 : ((k : Int) == 0) = false := by rw [beq_eq_false_iff_ne]; omega
      have d7 : 0 < k := by omega
      have r0 : (0 : Int) ≤ (r : Int) := by omega
      have r1 : (r : Int) < (fn : Int) := by have := HJ.out; omega
      clear hk0 hr
      have hjl : r < (fl).length := by rw [HW.out.l2]; exact HJ.out
      have u1 := HW.out.gs.cell r hjl 0 (by omega)
      have u2 := HW.out.gs.cell r hjl 1 (by omega)
      have vb := HW.out.ok.gb _ (List.getElem_mem hjl)
      have vd := HW.out.bd _ (List.getElem_mem hjl)
      have HXs : Hid (((fl)[r]?.getD (0, 0)) = (fl)[r]) := by show _ = _; rw [List.getElem?_eq_getElem hjl, Option.getD_some]
      obtain ⟨sx, hsx⟩ : ∃ sx, (fl)[r] = sx := ⟨_, rfl⟩
      rw [hsx] at u1 u2 vb vd HXs
      obtain ⟨lo, hi⟩ := sx
      dsimp only at vb vd
      simp only [spC, if_true, Nat.add_zero, if_neg (show ¬ (1 : Nat) = 0 by omega)] at u1 u2
      clear hsx hjl
      have b1 := HW.out.b1
      have hnw := World.alloc_heap_new W2 (.cells #[.int .i64 (lo : Int), .int .i64 (hi : Int)] 28)
      have s0 := (cell_at hnw 0).trans rfl
      have s1 := (cell_at hnw 1).trans rfl
      have HW3 := Lib.hid (HW.out.ext ((Ext.refl W2).alloc (.cells #[.int .i64 (lo : Int), .int .i64 (hi : Int)] 28)))
      have HSb : Hid (W2.heap.size ≠ g) := by have := HW.out.gs.lt; show _ ≠ _; omega
      go_upto_region 8 with (fail)
      clear u1 u2 b1 hnw
      generalize W2.alloc (.cells #[.int .i64 (lo : Int), .int .i64 (hi : Int)] 28) = W3 at *
      generalize W2.heap.size = sb at *
      have wc : IntKind.i64.wrap ((1 : Int) - (lo : Int)) = (1 : Int) - (lo : Int) := IntWalk.i64_in _ (by omega)
      obtain ⟨m2, hm2⟩ : ∃ m2 : Int, (if mv < 1 - (lo : Int) then 1 - (lo : Int) else mv) = m2 := ⟨_, rfl⟩
      have HM2 : Hid (1 - (lo : Int) ≤ m2 ∧ -40 ≤ m2 ∧ m2 ≤ 40) := by have := HMv.out; have h := hm2; split at h <;> (show _ ∧ _ ∧ _; omega)
      have wa : IntKind.i64.wrap ((lo : Int) + m2) = (lo : Int) + m2 := by have := HM2.out; exact IntWalk.i64_in _ (by omega)
      have wb : IntKind.i64.wrap ((hi : Int) + m2) = (hi : Int) + m2 := by have := HM2.out; exact IntWalk.i64_in _ (by omega)
      obtain ⟨a, ha⟩ : ∃ a : Nat, (lo : Int) + m2 = (a : Int) := ⟨((lo : Int) + m2).toNat, by have := HM2.out; omega⟩
      obtain ⟨b, hb⟩ : ∃ b : Nat, (hi : Int) + m2 = (b : Int) := ⟨((hi : Int) + m2).toNat, by have := HM2.out; omega⟩
      have HAb : Hid (1 ≤ a ∧ a ≤ b ∧ b ≤ 2000) := by have := HM2.out; have hh := HGb.out (fl[r]?.getD (0, 0)) (by rw [List.getElem?_eq_getElem (by rw [HW0.out.l2]; exact HJ.out), Option.getD_some]; exact List.getElem_mem _); rw [HXs.out] at hh; dsimp only at hh; show _ ∧ _ ∧ _; omega
      have HWa : Hid (IntKind.i64.wrap ((lo : Int) + m2) = (a : Int)) := by show _ = _; rw [wa]; exact ha
      have HWb : Hid (IntKind.i64.wrap ((hi : Int) + m2) = (b : Int)) := by show _ = _; rw [wb]; exact hb
      clear wa wb
      have wa := HWa.out
      have wb := HWb.out
      have HA1 := Lib.hid ha
      have HB1 := Lib.hid hb
      have HXr := HXs
      clear ha hb HXs vb vd
      have HS : Hid (∀ v, Keep (fun b => b ≠ g) W3 v → v.cell? ⟨fB, 0, none⟩ = some (.slice (some ⟨g, 0, none⟩) fn fc) ∧ v.cell? ⟨sb, 0, none⟩ = some (.int .i64 (lo : Int)) ∧ v.cell? ⟨sb, 1, none⟩ = some (.int .i64 (hi : Int))) := fun v hv => ⟨hv.cell HW3.out.b1 HW3.out.ne.2, hv.cell s0 HSb.out, hv.cell s1 HSb.out⟩
      have HSp : Hid (∀ v, Ext W3 v → Calls Try.prog 24 #[.int .i64 (a : Int), .int .i64 (b : Int)] v fun e w' => e = .returned (.agg #[.int .i64 (a : Int), .int .i64 (b : Int)]) ∧ Ext W3 w' ∧ Keep (fun b => b ≠ g) W3 w') := fun v hv => by
        refine (span_any _ _ v).mono ?_
        rintro e w' ⟨rfl, rfl⟩
        have h := hv.trans ((Ext.refl v).alloc (.cells #[.int .i64 (a : Int), .int .i64 (b : Int)] 28))
        exact ⟨rfl, h, Keep.of_ext h⟩
      have HY : Hid (∀ v, Ext W3 v → ∃ y0 y1, v.cell? ⟨g, r * 2, none⟩ = some y0 ∧ v.cell? ⟨g, r * 2 + 1, none⟩ = some y1 ∧ v.frozen? ⟨g, r * 2, none⟩ = false ∧ v.frozen? ⟨g, r * 2 + 1, none⟩ = false) := fun v hv =>
        ⟨_, _, (HW3.out.gs.ext hv).cell r (by rw [HW3.out.l2]; exact HJ.out) 0 (by omega), (HW3.out.gs.ext hv).cell r (by rw [HW3.out.l2]; exact HJ.out) 1 (by omega), (HW3.out.gs.ext hv).frozen _, (HW3.out.gs.ext hv).frozen _⟩
      have b1 := HW3.out.b1
      go_upto_region 9 with (fail)
      clear b1
      go_region_held3 (fun v => v.cell? ⟨fB, 0, none⟩ = some (.slice (some ⟨g, 0, none⟩) fn fc) ∧ v.cell? ⟨sb, 0, none⟩ = some (.int .i64 (lo : Int)) ∧ v.cell? ⟨sb, 1, none⟩ = some (.int .i64 (hi : Int)))
        ((refine HS.out _ ?_; (repeat (first | assumption | exact Keep.refl _ _ | refine Keep.drew ?_ | refine Keep.alloc ?_ _ | refine Keep.setCell ?_ _ _ (fun _ h => h rfl)))))
        (first
          | (go_at_call 24; refine (HSp.out _ (Ext.refl _).drew).mono ?_; rintro e we ⟨rfl, hxe, hke⟩; obtain ⟨y0, y1, h0, h1, h2, h3⟩ := HY.out we hxe))
      have HW4 := Lib.hid ((HW3.out.ext hxe).put HJ.out (a, b) HAb.out)
      clear h0 h1 h2 h3 hxe hke HS HSp HY s0 s1
      generalize (we.setCell ⟨g, r * 2, none⟩ (.int .i64 (a : Int))).setCell ⟨g, r * 2 + 1, none⟩ (.int .i64 (b : Int)) = W4 at *
      clear wa wb wc hm2
      by_cases hkf : k < fn
      · have HJ2 := HJ
        have HJ : Hid (k < fn) := hkf
        have d3 : decide ((k : Int) < (fn : Int)) = true := decide_eq_true (by omega)
        have d5 : (k : Int) < (fn : Int) := by omega
        have d6 : (0 : Int) ≤ (k : Int) := by omega
        clear hkf HSb
        have hjl : k < (fl.set r (a, b)).length := by rw [HW4.out.l2]; exact HJ.out
        have u1 := HW4.out.gs.cell k hjl 0 (by omega)
        have u2 := HW4.out.gs.cell k hjl 1 (by omega)
        have vb := HW4.out.ok.gb _ (List.getElem_mem hjl)
        have vd := HW4.out.bd _ (List.getElem_mem hjl)
        have HXs : Hid (((fl.set r (a, b))[k]?.getD (0, 0)) = (fl.set r (a, b))[k]) := by show _ = _; rw [List.getElem?_eq_getElem hjl, Option.getD_some]
        obtain ⟨sx, hsx⟩ : ∃ sx, (fl.set r (a, b))[k] = sx := ⟨_, rfl⟩
        rw [hsx] at u1 u2 vb vd HXs
        obtain ⟨lo2, hi2⟩ := sx
        dsimp only at vb vd
        simp only [spC, if_true, Nat.add_zero, if_neg (show ¬ (1 : Nat) = 0 by omega)] at u1 u2
        clear hsx hjl
        have b1 := HW4.out.b1
        have hnw := World.alloc_heap_new W4 (.cells #[.int .i64 (lo2 : Int), .int .i64 (hi2 : Int)] 28)
        have s0 := (cell_at hnw 0).trans rfl
        have s1 := (cell_at hnw 1).trans rfl
        have HW5 := Lib.hid (HW4.out.ext ((Ext.refl W4).alloc (.cells #[.int .i64 (lo2 : Int), .int .i64 (hi2 : Int)] 28)))
        have HSb : Hid (W4.heap.size ≠ g) := by have := HW4.out.gs.lt; show _ ≠ _; omega
        go_upto_region 12 with (fail)
        clear u1 u2 b1 hnw
        generalize W4.alloc (.cells #[.int .i64 (lo2 : Int), .int .i64 (hi2 : Int)] 28) = W5 at *
        generalize W4.heap.size = sc at *
        have wa : IntKind.i64.wrap ((lo2 : Int) - m2) = (lo2 : Int) - m2 := by have := HM2.out; exact IntWalk.i64_in _ (by omega)
        have wb : IntKind.i64.wrap ((hi2 : Int) - m2) = (hi2 : Int) - m2 := by have := HM2.out; exact IntWalk.i64_in _ (by omega)
        by_cases hlow : (lo2 : Int) - m2 < 1
        · have t1 : decide ((lo2 : Int) - m2 < 1) = true := decide_eq_true hlow
          have HXE : Hid (Ext w W5) := HW5.out.hx
          go_wp2_with (go_at_call 19; refine (awake_ok _).mono ?_; rintro e w7 ⟨rfl, hx7⟩; have HX7 : Hid (Ext w w7) := HXE.out.trans hx7; clear hx7)
          go_ret
          exact ⟨rfl, HX7.out⟩
        · have t1 : decide ((lo2 : Int) - m2 < 1) = false := decide_eq_false hlow
          obtain ⟨a2, ha⟩ : ∃ a2 : Nat, (lo2 : Int) - m2 = (a2 : Int) := ⟨((lo2 : Int) - m2).toNat, by omega⟩
          obtain ⟨b2, hb⟩ : ∃ b2 : Nat, (hi2 : Int) - m2 = (b2 : Int) := ⟨((hi2 : Int) - m2).toNat, by omega⟩
          have HX2 : Hid ((fl[k]?.getD (0, 0)) = (lo2, hi2)) := by show _ = _; rw [← HXs.out, List.getElem?_set_ne (by have := HR.out; omega)]
          have HAb2 : Hid (1 ≤ a2 ∧ a2 ≤ b2 ∧ b2 ≤ 2000) := by have := HM2.out; have hh := HGb.out (fl[k]?.getD (0, 0)) (by rw [List.getElem?_eq_getElem (by rw [HW0.out.l2]; exact HJ.out), Option.getD_some]; exact List.getElem_mem _); rw [HX2.out] at hh; dsimp only at hh; show _ ∧ _ ∧ _; omega
          have HA2 := Lib.hid ha
          have HB2 := Lib.hid hb
          have HWa : Hid (IntKind.i64.wrap ((lo2 : Int) - m2) = (a2 : Int)) := by show _ = _; rw [wa]; exact ha
          have HWb : Hid (IntKind.i64.wrap ((hi2 : Int) - m2) = (b2 : Int)) := by show _ = _; rw [wb]; exact hb
          clear ha hb hlow
          go_upto_region 14 with (fail)
          clear t1 wa wb
          have wa := HWa.out
          have wb := HWb.out
          have HS : Hid (∀ v, Keep (fun b => b ≠ g) W5 v → v.cell? ⟨fB, 0, none⟩ = some (.slice (some ⟨g, 0, none⟩) fn fc) ∧ v.cell? ⟨sc, 0, none⟩ = some (.int .i64 (lo2 : Int)) ∧ v.cell? ⟨sc, 1, none⟩ = some (.int .i64 (hi2 : Int))) := fun v hv => ⟨hv.cell HW5.out.b1 HW5.out.ne.2, hv.cell s0 HSb.out, hv.cell s1 HSb.out⟩
          have HSp : Hid (∀ v, Ext W5 v → Calls Try.prog 24 #[.int .i64 (a2 : Int), .int .i64 (b2 : Int)] v fun e w' => e = .returned (.agg #[.int .i64 (a2 : Int), .int .i64 (b2 : Int)]) ∧ Ext W5 w' ∧ Keep (fun b => b ≠ g) W5 w') := fun v hv => by
            refine (span_any _ _ v).mono ?_
            rintro e w' ⟨rfl, rfl⟩
            have h := hv.trans ((Ext.refl v).alloc (.cells #[.int .i64 (a2 : Int), .int .i64 (b2 : Int)] 28))
            exact ⟨rfl, h, Keep.of_ext h⟩
          have HY : Hid (∀ v, Ext W5 v → ∃ y0 y1, v.cell? ⟨g, k * 2, none⟩ = some y0 ∧ v.cell? ⟨g, k * 2 + 1, none⟩ = some y1 ∧ v.frozen? ⟨g, k * 2, none⟩ = false ∧ v.frozen? ⟨g, k * 2 + 1, none⟩ = false) := fun v hv =>
            ⟨_, _, (HW5.out.gs.ext hv).cell k (by rw [HW5.out.l2]; exact HJ.out) 0 (by omega), (HW5.out.gs.ext hv).cell k (by rw [HW5.out.l2]; exact HJ.out) 1 (by omega), (HW5.out.gs.ext hv).frozen _, (HW5.out.gs.ext hv).frozen _⟩
          have b1 := HW5.out.b1
          go_upto_region 15 with (fail)
          clear b1
          go_region_held3 (fun v => v.cell? ⟨fB, 0, none⟩ = some (.slice (some ⟨g, 0, none⟩) fn fc) ∧ v.cell? ⟨sc, 0, none⟩ = some (.int .i64 (lo2 : Int)) ∧ v.cell? ⟨sc, 1, none⟩ = some (.int .i64 (hi2 : Int)))
            ((refine HS.out _ ?_; (repeat (first | assumption | exact Keep.refl _ _ | refine Keep.drew ?_ | refine Keep.alloc ?_ _ | refine Keep.setCell ?_ _ _ (fun _ h => h rfl)))))
            (first
              | (go_at_call 24; refine (HSp.out _ (Ext.refl _).drew).mono ?_; rintro e we ⟨rfl, hxe, hke⟩; obtain ⟨y0, y1, h0, h1, h2, h3⟩ := HY.out we hxe))
          have HW6 := Lib.hid ((HW5.out.ext hxe).put HJ.out (a2, b2) HAb2.out)
          clear h0 h1 h2 h3 hxe hke HS HSp HY s0 s1
          generalize (we.setCell ⟨g, k * 2, none⟩ (.int .i64 (a2 : Int))).setCell ⟨g, k * 2 + 1, none⟩ (.int .i64 (b2 : Int)) = W6 at *
          clear wa wb
          have HNm : Hid (k ∈ wrongF gl ((fl.set r (a, b)).set k (a2, b2)) nl) := named HRe.out (by have := HBd.out; omega) HW0.out.l3 HK.out.2 HK.out.1 (by have hR := HR.out; obtain rfl : r = k - 1 := (by omega); exact lessG_mid fl n0 k (a, b) (a2, b2) (by omega) (by have := HJ.out; have := HBd.out; omega) (by rw [HW0.out.l2]; exact HBd.out.2.2.1) (by rw [HXr.out, HX2.out]; have := HA1.out; have := HA2.out; dsimp only; omega) (by rw [HXr.out, HX2.out]; have := HB1.out; have := HB2.out; dsimp only; omega))
          repeat (first | exact blamed_tail17' _ w W6 rB fB g m gc fn fc n0 nc k ga na gl ((fl.set r (a, b)).set k (a2, b2)) nl HW6 HK HNm rfl | go_step)
      · have d3 : decide ((k : Int) < (fn : Int)) = false := decide_eq_false (by omega)
        have d5 : ¬ (k : Int) < (fn : Int) := by omega
        have b1 := HW4.out.b1
        have HNm : Hid (k ∈ wrongF gl (fl.set r (a, b)) nl) := named HRe.out (by have := HBd.out; omega) HW0.out.l3 HK.out.2 HK.out.1 (by have hR := HR.out; obtain rfl : r = k - 1 := (by omega); exact lessG_end fl n0 k (a, b) (by omega) (by have := HBd.out; have := HK.out; omega))
        repeat (first | exact blamed_tail17' _ w W4 rB fB g m gc fn fc n0 nc k ga na gl (fl.set r (a, b)) nl HW4 HK HNm rfl | go_step)
end Go.Proofs.Ytfognlealnhodaa
