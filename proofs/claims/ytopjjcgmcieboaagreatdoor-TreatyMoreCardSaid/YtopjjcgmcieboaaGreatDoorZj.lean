/-
  TreatyMore answers true for every input, and each argument reads afterwards as it read before: a meaning more, a way more, kinds and ends that are wider take no line away and make no more legs yield; a second word for a leg adds no line. The package-level variables that its row lists start as the program's text lays them.
-/
import Derived.Test.YtopjjcgmcieboaaGreatDoorZf
import Derived.Test.YtopjjcgmcieboaaGreatDoorZd
import Derived.Test.YtopjjcgmcieboaaGreatDoorZh
import Derived.Deep.CutBlock
import Derived.Deep.RegionHeld3
import Derived.Deep.QuietTactic
import Derived.BigQuiet
import Derived.Test.YtopjjcgmcieboaaGreatDoorZi
import Derived.Test.YtopjjcgmcieboaaGreatDoorIe
import Derived.Deep.DeepCutAuto
import Derived.Test.YtopjjcgmcieboaaGreatDoorJn
import Derived.Test.YtopjjcgmcieboaaGreatDoorMq
import Derived.Test.YtopjjcgmcieboaaGreatDoorJi
import Derived.Test.YtopjjcgmcieboaaGreatDoorRows
import Derived.Test.YtopjjcgmcieboaaGreatDoorCards
import Derived.Test.YtopjjcgmcieboaaGreatDoorTie
import Derived.WalkKit
import Derived.ProofKit
import Derived.OpenShut
import Derived.ShutString
import Derived.ChangeOld
import Derived.Below
import Derived.SizedLaws
import Derived.LaidMore
import Derived.Stop.Joined
import Derived.SevenTiedAt
namespace Go.Proofs.YtopjjcgmcieboaaGreatDoor
open Go.RowKit

/-- The code from region n on. -/
def tailA (n : Nat) : Code → Option Code
  | .seq (.region k o d) b => if k = n then some (.seq (.region k o d) b) else tailA n b
  | .seq (.seq (.region k o d) c) b => if k = n then some (.seq (.seq (.region k o d) c) b) else tailA n b
  | .seq _ b => tailA n b
  | .block _ c => tailA n c
  | .scope c => tailA n c
  | _ => none
/-- What Ends returns where some line agrees. -/
def EndsH (t : TV) (w : World) (e : Ending) (w' : World) : Prop :=
  ∃ (a : Option Addr) (c : Nat) (l : List (SL Nat)), e = .returned (.tuple #[.slice a (t.legs.l.length + 1) c, .int .i64 0]) ∧ Hid (l.length = t.legs.l.length + 1) ∧ Hid (IsSl 1 slC w' ⟨a, c, l⟩ ∧ ∀ r ∈ l, IsSl 1 num w' r) ∧ Hid (l.map (fun r => r.l) = endsR t) ∧ Ext w w'
theorem Ends_h (t : TV) (w : World) (ht : IsT w t) (hk : OkT t) (hne : ∃ x, x < 12 ∧ metR t (allR (cntR t)) 0 x = true) : Calls Tryz.prog 19 #[t.v] w (EndsH t w) := by
  refine (Ends_ok t w ht hk hne).mono ?_
  rintro e w' ⟨a, c, l, rfl, h1, h2, h3, h4⟩
  have hl : l.length = t.legs.l.length + 1 := by
    have := congrArg List.length h3
    simpa [endsR] using this
  refine ⟨a, c, l, ?_, hl, ⟨h1, h2⟩, h3, h4⟩
  rw [hl]
noncomputable def tail48 : Code := ((Tryz.f3.body.bind (tailA 48)).getD .skip)

set_option maxRecDepth 1000000 in
set_option maxHeartbeats 8000000 in
theorem agreed_tailE {u0 u1 u2 u3 u4 u6 u8 u9 u10 u12 u13 u14 u15 u16 u17 u18 u19 u20 u21 u22 u23 u24 u25 u26 u27 u28 u29 u30 u31 u32 u33 u34 u35 u36 u37 u38 u39 u40 u41 u42 u43 u44 u45 u46 u47 u48 u49 u50 u51 u52 u53 u54 u55 u56 u57 u58 u59 u60 u61 u62 u63 u64 u65 u66 u67 u68 u69 u70 u71 u72 u73 u74 u75 u76 u77 u78 u79 u80 u81 u82 u83 u84 u85 u86 u87 u88 u89 u90 u91 u92 u93 u94 u95 u96 u97 u98 u99 u100 u101 u102 u103 u104 u105 u106 u107 u108 u109 u110 u111 u112 u113 u114 u115 u116 u117 u118 u119 u120 u121 u122 u123 u124 u125 u126 u127 u128 u129 u130 u131 u132 u133 u134 u135 u136 u137 u138 u139 u140 u141 u142 u143 u144 u145 u146 u147 u148 u149 u150 u151 u152 u153 u154 u155 u156 u157 u158 u159 u160 u161 u162 u163 u164 u165 u166 u167 u168 u169 u170 u171 u172 u173 u174 u175 u176 u177 u178 u179 u180 u181 u182 u183 u184 u185 u186 u187 u188 u189 u190 u191 u192 u193 u194 u195 u196 u197 u198 u199 u200 u201 u202 u203 u204 u205 u206 u207 u208 u209 u210 u211 u212 u213 u214 u215 u216 u217 u218 u219 u220 u221 u222 u223 u224 u225 u226 u227 u228 u229 u230 u231 u232 u233 u234 u235 u236 u237 u238 u239 u240 u241 u242 u243 u244 u245 u246 u247 u248 u249 u250 u251 u252 u253 u254 u255 u256 u257 u258 u259 u260 u261 u262 u263 u264 u265 u266 u267 u268 u269 u270 u271 u272 u273 u274 u275 u276 u277 : Value} (w v : World) (T E base : Nat) (t : TV) (aa : Option Addr) (ca : Nat) (la : List (SL Nat)) (rb : Nat → Nat)
    (HK : Hid (OkT t)) (HT : Hid (IsT v t)) (HB : Hid (TBox v T t)) (HAl : Hid (la.length = (allD t).length)) (HE : Hid (EB v base E (t.legs.l.length + 1) t.P (t.legs.l.length + 1) rb (metR t (allR (cntR t))))) (EV : Hid (Ext w v)) :
    Code.wp Tryz.prog tail48 (bodyPost Tryz.prog Tryz.f3 fun e w' => e = .returned (.bool true) ∧ Ext w w') ⟨#[u0, u1, u2, u3, u4, .pointer (some ⟨T, 0, none⟩), u6, .slice aa la.length ca, u8, u9, u10, .slice (some ⟨E, 0, none⟩) (t.legs.l.length + 1) (t.legs.l.length + 1), u12, u13, u14, u15, u16, u17, u18, u19, u20, u21, u22, u23, u24, u25, u26, u27, u28, u29, u30, u31, u32, u33, u34, u35, u36, u37, u38, u39, u40, u41, u42, u43, u44, u45, u46, u47, u48, u49, u50, u51, u52, u53, u54, u55, u56, u57, u58, u59, u60, u61, u62, u63, u64, u65, u66, u67, u68, u69, u70, u71, u72, u73, u74, u75, u76, u77, u78, u79, u80, u81, u82, u83, u84, u85, u86, u87, u88, u89, u90, u91, u92, u93, u94, u95, u96, u97, u98, u99, u100, u101, u102, u103, u104, u105, u106, u107, u108, u109, u110, u111, u112, u113, u114, u115, u116, u117, u118, u119, u120, u121, u122, u123, u124, u125, u126, u127, u128, u129, u130, u131, u132, u133, u134, u135, u136, u137, u138, u139, u140, u141, u142, u143, u144, u145, u146, u147, u148, u149, u150, u151, u152, u153, u154, u155, u156, u157, u158, u159, u160, u161, u162, u163, u164, u165, u166, u167, u168, u169, u170, u171, u172, u173, u174, u175, u176, u177, u178, u179, u180, u181, u182, u183, u184, u185, u186, u187, u188, u189, u190, u191, u192, u193, u194, u195, u196, u197, u198, u199, u200, u201, u202, u203, u204, u205, u206, u207, u208, u209, u210, u211, u212, u213, u214, u215, u216, u217, u218, u219, u220, u221, u222, u223, u224, u225, u226, u227, u228, u229, u230, u231, u232, u233, u234, u235, u236, u237, u238, u239, u240, u241, u242, u243, u244, u245, u246, u247, u248, u249, u250, u251, u252, u253, u254, u255, u256, u257, u258, u259, u260, u261, u262, u263, u264, u265, u266, u267, u268, u269, u270, u271, u272, u273, u274, u275, u276, u277], []⟩ v := by
  conv => arg 2; whnf
  have hN10 := HK.out.legs
  have hP12 := HK.out.p2
  obtain ⟨f0, f1, f2, f3, f4⟩ := TBox.five5 HB.out
  by_cases h0 : la.length = 0
  · have hd : allD t = [] := List.eq_nil_of_length_eq_zero (by rw [← HAl.out]; exact h0)
    have HN := Lib.hid (Ends_none t v HT.out HK.out (fun x hx => met_none HK.out.start.1 hd x))
    have e1 : ((la.length : Int) == 0) = true := by rw [h0]; rfl
    clear h0 hd
    go_wp2_with fail
    clear f0 f1 f2 f3 f4
    refine HN.out.mono ?_
    rintro e v1 ⟨rfl, hx1⟩
    have HX1 : Hid (Ext v v1) := hx1
    clear hx1
    go_wp2_with (go_at_call 10; refine (awake_ok v1).mono ?_; rintro e v3 ⟨rfl, hx3⟩; have HX3 : Hid (Ext v1 v3) := hx3; clear hx3)
    go_ret
    exact ⟨rfl, EV.out.trans (HX1.out.trans HX3.out)⟩
  · have hd : allD t ≠ [] := fun e => h0 (by rw [HAl.out, e]; rfl)
    have HN := Lib.hid (Ends_h t v HT.out HK.out (met_some HK.out hd))
    have e1 : ((la.length : Int) == 0) = false := by rw [beq_eq_false_iff_ne]; omega
    obtain ⟨i0, hi0, hz0, hz1, hz2⟩ := info_parts info3
    clear h0 hd
    go_wp2_with fail
    clear f0 f1 f2 f3 f4
    refine HN.out.mono ?_
    rintro e v1 ⟨ab, cb, lb, rfl, HLb, HL, HM, hx1⟩
    have HX1 : Hid (Ext v v1) := hx1
    clear hx1 HN
    go_wp2_with fail
    go_loopw [251] (fun iv wr => ∃ k : Nat, k ≤ t.legs.l.length + 1 ∧ iv = .int .i64 (k : Int) ∧ Hid (Ext v1 wr)) (fun iv _ => t.legs.l.length + 1 - (intOf iv).toNat)
    case atStart => exact ⟨0, Nat.zero_le _, rfl, Ext.refl _⟩
    case round =>
      obtain ⟨wo, rfl⟩ : ∃ wo : World, wo = wr := ⟨_, rfl⟩
      obtain ⟨k, hk, rfl, HXk⟩ := hrel
      by_cases hlt : k < t.legs.l.length + 1
      · have dk : decide ((k : Int) < (t.legs.l.length : Int) + 1) = true := decide_eq_true (by omega)
        obtain ⟨bl, ol, hla, hlc⟩ := HL.out.1.2.2.resolve_left (by show ¬ lb.length = 0; rw [HLb.out]; omega)
        dsimp only at hla hlc
        have hkl : k < lb.length := by rw [HLb.out]; exact hlt
        have cx : wo.cell? ⟨bl, ol + k, none⟩ = some (.slice lb[k].a lb[k].l.length lb[k].c) := HXk.out.cell (by have := hlc k hkl 0 (by omega); simpa [slC] using this)
        have cE := (HE.out.ext (HX1.out.trans HXk.out)).cellE k hlt hlt
        have hlk : lb[k].l = placeR t k := by
          have := congrArg (fun l => l[k]?) HM.out
          simpa [endsR, hkl, hlt] using this
        have HIx : Hid (IsSl 1 num v1 lb[k]) := HL.out.2 _ (List.getElem_mem hkl)
        have HLk := Lib.hid hlk
        clear hlk hlc
        generalize lb[k] = x at *
        clear hkl
        have HLa := Lib.hid hla; clear hla
        rw [HLa.out]
        have k0 : (0 : Int) ≤ (k : Int) := by omega
        have k1 : (k : Int) < (t.legs.l.length : Int) + 1 := by omega
        go_wp2_with fail
        clear cx
        go_loopw [32, 261] (fun v i wr => ∃ (m : Nat) (s : SL Nat), m ≤ t.P ∧ i = .int .i64 (m : Int) ∧ v = .slice s.a s.l.length s.c ∧ Hid (s.l = (List.range m).filter fun p => metR t (allR (cntR t)) k p) ∧ Hid (wr.ownsRow wo.heap.size 3 1 (.slice s.a s.l.length s.c) s.l.length (nums s.l)) ∧ Hid (Ext wo wr)) (fun _ i _ => t.P - (intOf i).toNat)
        case atStart => exact ⟨0, ⟨none, 0, []⟩, Nat.zero_le _, rfl, rfl, rfl, World.ownsRow_nil _ _ _ _, Ext.refl _⟩
        case round =>
          obtain ⟨wx, rfl⟩ : ∃ wx : World, wx = wr := ⟨_, rfl⟩
          obtain ⟨m, s, hm, rfl, rfl, HSl, HO, HX⟩ := hrel
          have hsl12 : s.l.length ≤ 12 := by
            have h1 := congrArg List.length HSl.out
            have h2 := List.length_filter_le (fun p => metR t (allR (cntR t)) k p) (List.range m)
            rw [List.length_range] at h2; omega
          by_cases hltm : m < t.P
          · have dm : decide ((m : Int) < (t.P : Int)) = true := decide_eq_true (by omega)
            have cM := (HE.out.ext (HX1.out.trans (HXk.out.trans HX.out))).cellM k m hlt hltm
            have i3 : (0 : Int) ≤ m := by omega
            have i4 : (m : Int) < (t.P : Int) := by omega
            have HSu : Hid (((List.range (m + 1)).filter fun p => metR t (allR (cntR t)) k p) = s.l ++ if metR t (allR (cntR t)) k m then [m] else []) := by
              show _ = _; rw [List.range_succ, List.filter_append, ← HSl.out]; cases hbb : metR t (allR (cntR t)) k m <;> simp [hbb]
            cases hb : metR t (allR (cntR t)) k m
            · rw [hb] at cM
              have HSn : Hid (s.l = (List.range (m + 1)).filter fun p => metR t (allR (cntR t)) k p) := by have := HSu.out; rw [hb] at this; show _ = _; rw [this]; simp
              clear hb
              go_wp2_with fail
              go_roundw
              case rel => exact ⟨m + 1, s, by omega, by go_num, rfl, HSn, HO, HX⟩
              case measure => simp [intOf]; omega
            · rw [hb] at cM
              have HSn : Hid (s.l ++ [m] = (List.range (m + 1)).filter fun p => metR t (allR (cntR t)) k p) := by have := HSu.out; rw [hb] at this; show _ = _; rw [this]; simp
              clear hb
              have hnw := new_cells wx (nums [m]) 3
              have HN := Lib.hid hnw; clear hnw
              have hb6 : wo.heap.size ≤ wx.heap.size + 1 := by have := HX.out.size; omega
              have hm6 : s.l.length + 1 ≤ maxLen := by unfold maxLen; omega
              go_wp2_with (at_builtin; go_must (refine wpList_append_own _ rfl _ _ 25 rfl wo.heap.size 3 i0 (.int .i64 0) 1 8 Tryz.underlying25 hi0 hz0 hz1 hz2 rfl (by decide) _ s.l.length (nums s.l) rfl (HO.out.alloc _) ⟨wx.heap.size, 0, none⟩ 1 1 (nums [m]) rfl rfl HN.out (nums_one [m]) hm6 (by omega) (by simp; omega) ?_); intro v' w5 hown hgrow _)
              obtain ⟨a3, c3, rfl⟩ := own_form hown
              have QX : Hid (Ext wo w5) := ext_grown_of (HX.out.alloc _) hgrow (fun i hi => own_lt HO.out i hi)
              clear hgrow
              rw [← nums_append, show s.l.length + 1 = (s.l ++ [m]).length by simp] at hown
              have HO4 := Lib.hid hown; clear hown
              have hlen3 : (s.l ++ [m]).length = s.l.length + 1 := by simp
              generalize s.l ++ [m] = l3 at *
              rw [← hlen3]
              have HLe := Lib.hid hlen3; clear hlen3
              go_wp2
              go_roundw
              case rel => exact ⟨m + 1, ⟨a3, c3, l3⟩, by omega, by go_num, rfl, HSn, HO4, QX⟩
              case measure => simp [intOf]; omega
          · have hme : m = t.P := by omega
            have dm : decide ((m : Int) < (t.P : Int)) = false := decide_eq_false (by omega)
            have hxs : decide (x.l = s.l) = true := decide_eq_true (by rw [HLk.out, HSl.out, hme]; rfl)
            have HEq := Lib.hid (equal_any x ⟨s.a, s.c, s.l⟩ wx (HIx.out.ext (HXk.out.trans HX.out)) (own_sl HO.out (by omega)))
            rw [hxs] at HEq
            clear hxs hme
            go_wp2_with fail
            refine HEq.out.mono ?_
            rintro e w2 ⟨rfl, hx2⟩
            have HX2 : Hid (Ext wx w2) := hx2.ext
            clear hx2
            go_wp2
            go_roundw
            case rel => exact ⟨k + 1, by omega, by go_num, HXk.out.trans (HX.out.trans HX2.out)⟩
            case measure => simp [intOf]; omega
      · have dk : decide ((k : Int) < (t.legs.l.length : Int) + 1) = false := decide_eq_false (by omega)
        go_wp2_with (go_at_call 10; refine (awake_ok wo).mono ?_; rintro e v3 ⟨rfl, hx3⟩; have HX3 : Hid (Ext wo v3) := hx3; clear hx3)
        go_ret
        exact ⟨rfl, EV.out.trans (HX1.out.trans (HXk.out.trans HX3.out))⟩
end Go.Proofs.YtopjjcgmcieboaaGreatDoor

namespace Go.Proofs.YtopjjcgmcieboaaGreatDoor
open Go.RowKit

/-- What Fewest returns. -/
def FewH (t : TV) (w : World) (e : Ending) (w' : World) : Prop :=
  ∃ (a : Option Addr) (c n : Nat), e = .returned (.tuple #[.slice a n c, .int .i64 ((bestR t (allR (cntR t))).2 : Int), .int .i64 0]) ∧ Ext w w'
theorem Few_h (t : TV) (w : World) (ht : IsT w t) (hk : OkT t) : Calls Tryz.prog 24 #[t.v] w (FewH t w) := by
  refine (Fewest_ok t w ht hk).mono ?_
  rintro e w' ⟨a, c, rfl, _, hx⟩
  exact ⟨a, c, _, rfl, hx⟩
/-- What All returns. -/
def AllM (t : TV) (w : World) (e : Ending) (w' : World) : Prop :=
  ∃ (a : Option Addr) (c : Nat) (l : List (SL Nat)) (er : Int), e = .returned (.tuple #[.slice a l.length c, .int .i64 er]) ∧ Hid (IsSl 1 slC w' ⟨a, c, l⟩ ∧ ∀ r ∈ l, IsSl 1 num w' r) ∧ Hid ((er = 0 ∧ AllL t (l.map fun r => r.l) ∧ (allD t).length ≤ 200) ∨ (er = 11 ∧ l = [] ∧ 200 < (allD t).length)) ∧ Ext w w'
theorem All_m (t : TV) (w : World) (ht : IsT w t) (hk : OkT t) : Calls Tryz.prog 8 #[t.v] w (AllM t w) := by
  refine (All_any t w ht hk).mono ?_
  rintro e w' ⟨a, c, rows, er, rfl, h1, h2, h3, h4⟩
  refine ⟨a, c, rows, er, rfl, ⟨h1, h2⟩, ?_, h4⟩
  rcases h3 with ⟨rfl, h3⟩ | ⟨rfl, h3⟩
  · exact .inl ⟨rfl, h3⟩
  · exact .inr ⟨rfl, h3⟩
theorem among_true {A B : List (SL Nat)} (h : ∀ x ∈ A.map (fun r => r.l), x ∈ B.map (fun r => r.l)) : (A.all fun x => B.any fun y => decide (x.l = y.l)) = true := by
  rw [List.all_eq_true]
  intro x hx
  obtain ⟨y, hy, he⟩ := List.mem_map.1 (h x.l (List.mem_map.2 ⟨x, hx, rfl⟩))
  exact List.any_eq_true.2 ⟨y, hy, by simp [he]⟩
theorem among_ok (s t : SL (SL Nat)) (w : World) (hs : IsSl 1 slC w s ∧ ∀ r ∈ s.l, IsSl 1 num w r) (ht : IsSl 1 slC w t ∧ ∀ r ∈ t.l, IsSl 1 num w r) (h : ∀ x ∈ s.l.map (fun r => r.l), x ∈ t.l.map (fun r => r.l)) :
    Calls Tryz.prog 29 #[.slice s.a s.l.length s.c, .slice t.a t.l.length t.c] w fun e w' => e = .returned (.bool true) ∧ Ext w w' := by
  have := among_any s t w hs.1 ht.1 hs.2 ht.2
  rw [among_true h] at this
  exact this
noncomputable def tail5_29 : Code := ((Tryz.f5.body.bind (tailA 29)).getD .skip)

set_option maxRecDepth 1000000 in
set_option maxHeartbeats 8000000 in
theorem more_tailA {u0 u1 u2 u3 u4 u5 u6 u9 u11 u15 u16 u17 u18 u19 u20 u21 u22 u23 u24 u25 u26 u27 u28 u29 u30 u31 u32 u33 u34 u35 u36 u37 u38 u39 u40 u41 u42 u43 u44 u45 u46 u47 u48 u49 u50 u51 u52 u53 u54 u55 u56 u57 u58 u59 u60 u61 u62 u63 u64 u65 u66 u67 u68 u69 u70 u71 u72 u73 u74 u75 u76 u77 u78 u79 u80 u81 u82 u83 u84 u85 u86 u87 u88 u89 u90 u91 u92 u93 u94 u95 u96 u97 u98 u99 u100 u101 u102 u103 u104 u105 u106 u107 u108 u109 u110 u111 u112 u113 u114 u115 u116 u117 u118 u119 u120 u121 u122 u123 u124 u125 u126 u127 u128 u129 u130 u131 u132 u133 u134 u135 u136 u137 u138 u139 u140 u141 u142 u143 u144 u145 u146 u147 u148 u149 u150 u151 u152 u153 u154 u155 u156 u157 u158 u159 u160 u161 u162 u163 u164 u165 u166 u167 u168 u169 u170 u171 u172 u173 u174 u175 u176 u177 u178 u179 u180 u181 u182 u183 u184 u185 u186 u187 u188 u189 u190 u191 u192 u193 u194 u195 u196 u197 u198 u199 u200 u201 u202 u203 u204 u205 u206 u207 u208 u209 u210 u211 u212 u213 u214 u215 u216 u217 u218 u219 u220 u221 u222 u223 u224 u225 u226 u227 u228 u229 u230 u231 u232 u233 u234 u235 u236 u237 u238 u239 u240 u241 u242 u243 u244 u245 u246 u247 u248 u249 u250 u251 u252 : Value} (w v : World) (B0 B1 B2 : Nat) (t tt tw ts : TV) (aa : Option Addr) (ca many : Nat) (ea : Int) (la : List (SL Nat))
    (HK : Hid (OkT t)) (HK1 : Hid (OkT tt)) (HK2 : Hid (OkT tw)) (HK3 : Hid (OkT ts)) (HT1 : Hid (IsT v tt)) (HT2 : Hid (IsT v tw)) (HT3 : Hid (IsT v ts)) (HB0 : Hid (TBox v B0 tt)) (HB1 : Hid (TBox v B1 tw)) (HB2 : Hid (TBox v B2 ts))
    (HM1 : Hid (MoreT t tt)) (HM2 : Hid (MoreT t tw)) (HM3 : Hid (StrictT t ts)) (HL : Hid (IsSl 1 slC v ⟨aa, ca, la⟩ ∧ ∀ r ∈ la, IsSl 1 num v r))
    (HA : Hid ((ea = 0 ∧ AllL t (la.map fun r => r.l) ∧ (allD t).length ≤ 200) ∨ (ea = 11 ∧ la = [] ∧ 200 < (allD t).length))) (HMany : Hid (many = (bestR t (allR (cntR t))).2)) (EV : Hid (Ext w v)) :
    Code.wp Tryz.prog tail5_29 (bodyPost Tryz.prog Tryz.f5 fun e w' => e = .returned (.bool true) ∧ Ext w w') ⟨#[u0, u1, u2, u3, u4, u5, u6, .slice aa la.length ca, .int .i64 ea, u9, .int .i64 (many : Int), u11, .pointer (some ⟨B0, 0, none⟩), .pointer (some ⟨B1, 0, none⟩), .pointer (some ⟨B2, 0, none⟩), u15, u16, u17, u18, u19, u20, u21, u22, u23, u24, u25, u26, u27, u28, u29, u30, u31, u32, u33, u34, u35, u36, u37, u38, u39, u40, u41, u42, u43, u44, u45, u46, u47, u48, u49, u50, u51, u52, u53, u54, u55, u56, u57, u58, u59, u60, u61, u62, u63, u64, u65, u66, u67, u68, u69, u70, u71, u72, u73, u74, u75, u76, u77, u78, u79, u80, u81, u82, u83, u84, u85, u86, u87, u88, u89, u90, u91, u92, u93, u94, u95, u96, u97, u98, u99, u100, u101, u102, u103, u104, u105, u106, u107, u108, u109, u110, u111, u112, u113, u114, u115, u116, u117, u118, u119, u120, u121, u122, u123, u124, u125, u126, u127, u128, u129, u130, u131, u132, u133, u134, u135, u136, u137, u138, u139, u140, u141, u142, u143, u144, u145, u146, u147, u148, u149, u150, u151, u152, u153, u154, u155, u156, u157, u158, u159, u160, u161, u162, u163, u164, u165, u166, u167, u168, u169, u170, u171, u172, u173, u174, u175, u176, u177, u178, u179, u180, u181, u182, u183, u184, u185, u186, u187, u188, u189, u190, u191, u192, u193, u194, u195, u196, u197, u198, u199, u200, u201, u202, u203, u204, u205, u206, u207, u208, u209, u210, u211, u212, u213, u214, u215, u216, u217, u218, u219, u220, u221, u222, u223, u224, u225, u226, u227, u228, u229, u230, u231, u232, u233, u234, u235, u236, u237, u238, u239, u240, u241, u242, u243, u244, u245, u246, u247, u248, u249, u250, u251, u252], []⟩ v := by
  conv => arg 2; whnf
  obtain ⟨f0, f1, f2, f3, f4⟩ := TBox.five5 HB0.out
  go_wp2_with fail
  clear f0 f1 f2 f3 f4
  refine (Few_h tt v HT1.out HK1.out).mono ?_
  rintro e x1 ⟨a1, c1, n1, rfl, hx1⟩
  have X1 : Hid (Ext v x1) := hx1
  clear hx1
  have hm1 : (bestR tt (allR (cntR tt))).2 ≤ many := by rw [HMany.out]; exact HM1.out.best HK.out HK1.out
  generalize (bestR tt (allR (cntR tt))).2 = y1 at *
  obtain ⟨f0, f1, f2, f3, f4⟩ := TBox.five5 (X1.out.block HB1.out)
  go_wp2_with fail
  clear f0 f1 f2 f3 f4
  refine (Few_h tw x1 (HT2.out.ext X1.out) HK2.out).mono ?_
  rintro e x2 ⟨a2, c2, n2, rfl, hx2⟩
  have X2 : Hid (Ext v x2) := X1.out.trans hx2
  clear hx2
  have hm2 : (bestR tw (allR (cntR tw))).2 ≤ many := by rw [HMany.out]; exact HM2.out.best HK.out HK2.out
  generalize (bestR tw (allR (cntR tw))).2 = y2 at *
  have d1 : decide ((many : Int) < (y1 : Int)) = false := decide_eq_false (by omega)
  have d2 : decide ((many : Int) < (y2 : Int)) = false := decide_eq_false (by omega)
  have d3 : decide (many < y1) = false := decide_eq_false (by omega)
  have d4 : decide (many < y2) = false := decide_eq_false (by omega)
  obtain ⟨f0, f1, f2, f3, f4⟩ := TBox.five5 (X2.out.block HB0.out)
  go_wp2_with fail
  clear f0 f1 f2 f3 f4
  refine (All_m tt x2 (HT1.out.ext X2.out) HK1.out).mono ?_
  rintro e x3 ⟨a3, c3, l3, e3, rfl, HL3, HA3, hx3⟩
  have X23 : Hid (Ext x2 x3) := hx3
  have X3 : Hid (Ext v x3) := X2.out.trans hx3
  clear hx3
  obtain ⟨f0, f1, f2, f3, f4⟩ := TBox.five5 (X3.out.block HB2.out)
  go_wp2_with fail
  clear f0 f1 f2 f3 f4
  refine (All_m ts x3 (HT3.out.ext X3.out) HK3.out).mono ?_
  rintro e x4 ⟨a4, c4, l4, e4, rfl, HL4, HA4, hx4⟩
  have X34 : Hid (Ext x3 x4) := hx4
  have X4 : Hid (Ext v x4) := X3.out.trans hx4
  clear hx4
  have hle1 := all_le (HM1.out.all HK.out HK1.out)
  have hle3 := all_le (HM3.out.all HK.out HK3.out)
  rcases HA.out with ⟨rfl, hal, h200⟩ | ⟨rfl, rfl, h200⟩
  · obtain ⟨rfl, hal4, -⟩ : e4 = 0 ∧ AllL ts (l4.map fun r => r.l) ∧ (allD ts).length ≤ 200 := by
      rcases HA4.out with h | ⟨-, -, h⟩
      · exact h
      · omega
    have HQ4 : Hid (∀ x ∈ l4.map (fun r => r.l), x ∈ la.map (fun r => r.l)) := fun x hx => hal.1.mem_iff.2 (HM3.out.all HK.out HK3.out x (hal4.1.mem_iff.1 hx))
    have HS4 : Hid (IsSl 1 slC x4 ⟨aa, ca, la⟩ ∧ ∀ r ∈ la, IsSl 1 num x4 r) := ⟨HL.out.1.ext X4.out, fun r hr => (HL.out.2 r hr).ext X4.out⟩
    rcases HA3.out with ⟨rfl, hal3, -⟩ | ⟨rfl, -, -⟩
    · have HQ3 : Hid (∀ x ∈ la.map (fun r => r.l), x ∈ l3.map (fun r => r.l)) := fun x hx => hal3.1.mem_iff.2 (HM1.out.all HK.out HK1.out x (hal.1.mem_iff.1 hx))
      have HS3 : Hid (IsSl 1 slC x4 ⟨a3, c3, l3⟩ ∧ ∀ r ∈ l3, IsSl 1 num x4 r) := ⟨HL3.out.1.ext X34.out, fun r hr => (HL3.out.2 r hr).ext X34.out⟩
      clear hal hal3 hal4 h200 hle1 hle3 HA HA3 HA4
      go_wp2_with fail
      refine (among_ok ⟨aa, ca, la⟩ ⟨a3, c3, l3⟩ x4 HS4.out HS3.out HQ3.out).mono ?_
      rintro e x5 ⟨rfl, hx5⟩
      have X5 : Hid (Ext x4 x5) := hx5
      clear hx5
      go_wp2_with fail
      refine (among_ok ⟨a4, c4, l4⟩ ⟨aa, ca, la⟩ x5 ⟨HL4.out.1.ext X5.out, fun r hr => (HL4.out.2 r hr).ext X5.out⟩ ⟨HS4.out.1.ext X5.out, fun r hr => (HS4.out.2 r hr).ext X5.out⟩ HQ4.out).mono ?_
      rintro e x6 ⟨rfl, hx6⟩
      have X6 : Hid (Ext x4 x6) := X5.out.trans hx6
      clear hx6
      go_wp2_with (go_at_call 10; refine (awake_ok _).mono ?_; rintro e v3 ⟨rfl, hx3⟩; have HX3 : Hid (Ext x6 v3) := hx3; clear hx3)
      go_ret
      exact ⟨rfl, EV.out.trans (X4.out.trans (X6.out.trans HX3.out))⟩
    · clear hal hal4 h200 hle1 hle3 HA HA3 HA4
      go_wp2_with fail
      refine (among_ok ⟨a4, c4, l4⟩ ⟨aa, ca, la⟩ x4 HL4.out HS4.out HQ4.out).mono ?_
      rintro e x6 ⟨rfl, hx6⟩
      have X6 : Hid (Ext x4 x6) := hx6
      clear hx6
      go_wp2_with (go_at_call 10; refine (awake_ok _).mono ?_; rintro e v3 ⟨rfl, hx3⟩; have HX3 : Hid (Ext x6 v3) := hx3; clear hx3)
      go_ret
      exact ⟨rfl, EV.out.trans (X4.out.trans (X6.out.trans HX3.out))⟩
  · obtain rfl : e3 = 11 := by
      rcases HA3.out with ⟨-, -, h⟩ | ⟨h, -, -⟩
      · omega
      · exact h
    have he4 : e4 = 0 ∨ e4 = 11 := by
      rcases HA4.out with ⟨h, -⟩ | ⟨h, -⟩
      · exact .inl h
      · exact .inr h
    clear h200 hle1 hle3 HA HA3 HA4
    rcases he4 with rfl | rfl
    · go_wp2_with (go_at_call 10; refine (awake_ok _).mono ?_; rintro e v3 ⟨rfl, hx3⟩; have HX3 : Hid (Ext x4 v3) := hx3; clear hx3)
      go_ret
      exact ⟨rfl, EV.out.trans (X4.out.trans HX3.out)⟩
    · go_wp2_with (go_at_call 10; refine (awake_ok _).mono ?_; rintro e v3 ⟨rfl, hx3⟩; have HX3 : Hid (Ext x4 v3) := hx3; clear hx3)
      go_ret
      exact ⟨rfl, EV.out.trans (X4.out.trans HX3.out)⟩
end Go.Proofs.YtopjjcgmcieboaaGreatDoor

namespace Go.Proofs.YtopjjcgmcieboaaGreatDoor
open Go.RowKit

noncomputable def tail5_23 : Code := ((Tryz.f5.body.bind (tailA 23)).getD .skip)
/-- What is there while the last copy is changed. -/
structure RestB (v3 : World) (D B0 B1 B2 : Nat) (S0 S1 : Nat → Prop) (tt tw ts : TV) (w : World) : Prop where
  told : OwnS S0 w tt
  box0 : TBox w B0 tt
  wide : OwnS S1 w tw
  box1 : TBox w B1 tw
  box2 : TBox w B2 ts
  old : DExt D v3 w
/-- Blocks that are apart. -/
structure FarB (v3 : World) (D B0 B1 B2 : Nat) (S0 S1 S2 : Nat → Prop) : Prop where
  s2 : ∀ g, S2 g → v3.heap.size ≤ g ∧ ¬ S0 g ∧ ¬ S1 g ∧ g ≠ B0 ∧ g ≠ B1 ∧ g ≠ B2
  d0 : ¬ S0 D
  d1 : ¬ S1 D
  d2 : D < v3.heap.size
  b0 : v3.heap.size ≤ B0
  b1 : v3.heap.size ≤ B1
  b2 : v3.heap.size ≤ B2
theorem RestB.keep {v3 w w' : World} {D B0 B1 B2 : Nat} {S0 S1 S2 : Nat → Prop} {tt tw ts : TV} (h : RestB v3 D B0 B1 B2 S0 S1 tt tw ts w) (F : FarB v3 D B0 B1 B2 S0 S1 S2) (k : Keep (fun g => g ≠ D ∧ ¬ S2 g) w w') : RestB v3 D B0 B1 B2 S0 S1 tt tw ts w' := by
  have hD := F.d2
  have hb0 := F.b0
  have hb1 := F.b1
  have hb2 := F.b2
  refine ⟨h.told.keep k (fun g _ hg => ⟨fun e => F.d0 (e ▸ hg), fun h2 => (F.s2 g h2).2.1 hg⟩), k.heap h.box0 ⟨by omega, fun h2 => (F.s2 _ h2).2.2.2.1 rfl⟩, h.wide.keep k (fun g _ hg => ⟨fun e => F.d1 (e ▸ hg), fun h2 => (F.s2 g h2).2.2.1 hg⟩), k.heap h.box1 ⟨by omega, fun h2 => (F.s2 _ h2).2.2.2.2.1 rfl⟩, k.heap h.box2 ⟨by omega, fun h2 => (F.s2 _ h2).2.2.2.2.2 rfl⟩, ?_⟩
  refine ⟨k.os.trans h.old.os, k.tape.trans h.old.tape, k.output.trans h.old.output, Nat.le_trans h.old.size k.size, fun g hg hne => ?_⟩
  have h1 := h.old.size
  refine (k.block g (by omega) ⟨fun e => hne (by rw [e]), fun h2 => ?_⟩).trans (h.old.block g hg hne)
  have := (F.s2 g h2).1
  omega
theorem keep_dext {D : Nat} {S : Nat → Prop} {w w' : World} (h : DExt D w w') : Keep (fun g => g ≠ D ∧ ¬ S g) w w' := (Keep.refl _ w).grown h (fun i e _ h => h.1 (by cases e; rfl))
/-- The legs by then. -/
structure LegsB (n : Nat) (l0 L : List (Nat × Int)) (k : Nat) : Prop where
  len : L.length = l0.length
  told : ∀ j (h : j < l0.length) (h' : j < L.length), L[j] = l0[j] ∨ (l0[j].2 = -1 ∧ L[j].1 = l0[j].1 ∧ 0 ≤ L[j].2 ∧ L[j].2 < n)
  rest : ∀ j (h : j < l0.length) (h' : j < L.length), k ≤ j → L[j] = l0[j]
theorem LegsB.set {n : Nat} {l0 L : List (Nat × Int)} {k y : Nat} (h : LegsB n l0 L k) (hk : k < l0.length) (hk' : k < L.length) (h1 : l0[k].2 = -1) (hy : y < n) : LegsB n l0 (L.set k (L[k].1, (y : Int))) (k + 1) := by
  have hr := h.rest k hk hk' (Nat.le_refl _)
  refine ⟨by rw [List.length_set]; exact h.len, fun j hj hj' => ?_, fun j hj hj' hle => ?_⟩
  · have hj2 : j < L.length := by simpa using hj'
    by_cases e : k = j
    · subst e
      right
      simp only [List.getElem_set_self]
      exact ⟨h1, by rw [hr], by omega, by omega⟩
    · rw [List.getElem_set_ne e]; exact h.told j hj hj2
  · have hj2 : j < L.length := by simpa using hj'
    rw [List.getElem_set_ne (by omega)]
    exact h.rest j hj hj2 (by omega)
theorem LegsB.next {n : Nat} {l0 L : List (Nat × Int)} {k : Nat} (h : LegsB n l0 L k) : LegsB n l0 L (k + 1) := ⟨h.len, h.told, fun j hj hj' hle => h.rest j hj hj' (by omega)⟩
/-- A copy with other legs. -/
abbrev withLegs (t : TV) (L : List (Nat × Int)) : TV := ⟨t.P, t.ways, t.words, t.starts, ⟨t.legs.a, t.legs.c, L⟩⟩
theorem LegsB.ok {t : TV} {L : List (Nat × Int)} {k : Nat} (h : LegsB t.words.l.length t.legs.l L k) (hk : OkT t) : OkT (withLegs t L) := by
  refine ⟨hk.p1, hk.p2, hk.ways, hk.words, hk.starts1, hk.starts2, by show L.length ≤ 10; rw [h.len]; exact hk.legs, hk.word, hk.way, hk.kinds, hk.ends, hk.start, fun g hg => ?_, hk.many⟩
  obtain ⟨j, hj, rfl⟩ := List.getElem_of_mem hg
  have hj2 : j < t.legs.l.length := by have := h.len; have hj' : j < L.length := hj; omega
  have h1 := hk.leg _ (List.getElem_mem hj2)
  rcases h.told j hj2 hj with e | ⟨e1, e2, e3, e4⟩
  · show (L[j]).1 < _ ∧ _
    rw [e]; exact h1
  · show (L[j]).1 < _ ∧ _
    rw [e2]; exact ⟨h1.1, .inr ⟨e3, e4⟩⟩
theorem LegsB.strict {t0 t : TV} {L : List (Nat × Int)} {k : Nat} (hs : SameT t0 t) (h : LegsB t.words.l.length t.legs.l L k) : StrictT t0 (withLegs t L) := by
  refine ⟨⟨hs.P, hs.ways, hs.words⟩, hs.starts, by show L.length = _; rw [h.len, hs.legs], fun j hj hj' => ?_⟩
  have hj2 : j < t.legs.l.length := by rw [hs.legs]; exact hj
  have e0 : t.legs.l[j] = t0.legs.l[j] := by simp only [hs.legs]
  have := h.told j hj2 hj'
  rw [e0] at this
  rcases this with e | ⟨e1, e2, e3, _⟩
  · exact .inl e
  · exact .inr ⟨e1, e2, e3⟩

set_option maxRecDepth 1000000 in
set_option maxHeartbeats 8000000 in
theorem more_tailB {u0 u1 u2 u3 u4 u9 u11 u15 u16 u17 u18 u19 u20 u21 u22 u23 u24 u25 u26 u27 u28 u29 u30 u31 u32 u33 u34 u35 u36 u37 u38 u39 u40 u41 u42 u43 u44 u45 u46 u47 u48 u49 u50 u51 u52 u53 u54 u55 u56 u57 u58 u59 u60 u61 u62 u63 u64 u65 u66 u67 u68 u69 u70 u71 u72 u73 u74 u75 u76 u77 u78 u79 u80 u81 u82 u83 u84 u85 u86 u87 u88 u89 u90 u91 u92 u93 u94 u95 u96 u97 u98 u99 u100 u101 u102 u103 u104 u105 u106 u107 u108 u109 u110 u111 u112 u113 u114 u115 u116 u117 u118 u119 u120 u121 u122 u123 u124 u125 u126 u127 u128 u129 u130 u131 u132 u133 u134 u135 u136 u137 u138 u139 u140 u141 u142 u143 u144 u145 u146 u147 u148 u149 u150 u151 u152 u153 u154 u155 u156 u157 u158 u159 u160 u161 u162 u163 u164 u165 u166 u167 u168 u169 u170 u171 u172 u173 u174 u175 u176 u177 u178 u179 u180 u181 u182 u183 u184 u185 u186 u187 u188 u189 u190 u191 u192 u193 u194 u195 u196 u197 u198 u199 u200 u201 u202 u203 u204 u205 u206 u207 u208 u209 u210 u211 u212 u213 u214 u215 u216 u217 u218 u219 u220 u221 u222 u223 u224 u225 u226 u227 u228 u229 u230 u231 u232 u233 u234 u235 u236 u237 u238 u239 u240 u241 u242 u243 u244 u245 u246 u247 u248 u249 u250 u251 u252 : Value} (w v3 v : World) (T D B0 B1 B2 : Nat) (S0 S1 S2 : Nat → Prop) (t tt tw ts : TV) (aa a2 : Option Addr) (ca many n2 c2 k2 : Nat) (ea : Int) (la : List (SL Nat))
    (HK : Hid (OkT t)) (HK1 : Hid (OkT tt)) (HK2 : Hid (OkT tw)) (HK3 : Hid (OkT ts)) (HT : Hid (IsTo D v3 t)) (HB : Hid (TBox v3 T t)) (hTD : T ≠ D) (HTb : Hid (TblO (D + 1) v3 aa ca la))
    (HF : Hid (FarB v3 D B0 B1 B2 S0 S1 S2)) (HR : Hid (RestB v3 D B0 B1 B2 S0 S1 tt tw ts v)) (HO : Hid (OwnS S2 v ts)) (HSs : Hid (SameT t ts))
    (HM1 : Hid (MoreT t tt)) (HM2 : Hid (MoreT t tw)) (HD : Hid (IsDeck v D a2 n2 c2 k2)) (hk2 : k2 ≤ 1300) (HBy : Hid (∀ b off, a2 = some ⟨b, off, none⟩ → 0 < n2 → b < v3.heap.size)) (hwD : w.heap.size ≤ D)
    (HA : Hid ((ea = 0 ∧ AllL t (la.map fun r => r.l) ∧ (allD t).length ≤ 200) ∨ (ea = 11 ∧ la = [] ∧ 200 < (allD t).length))) (HMany : Hid (many = (bestR t (allR (cntR t))).2)) (EV : Hid (Ext w v3)) :
    Code.wp Tryz.prog tail5_23 (bodyPost Tryz.prog Tryz.f5 fun e w' => e = .returned (.bool true) ∧ Ext w w') ⟨#[u0, u1, u2, u3, u4, .pointer (some ⟨T, 0, none⟩), .pointer (some ⟨D, 0, none⟩), .slice aa la.length ca, .int .i64 ea, u9, .int .i64 (many : Int), u11, .pointer (some ⟨B0, 0, none⟩), .pointer (some ⟨B1, 0, none⟩), .pointer (some ⟨B2, 0, none⟩), u15, u16, u17, u18, u19, u20, u21, u22, u23, u24, u25, u26, u27, u28, u29, u30, u31, u32, u33, u34, u35, u36, u37, u38, u39, u40, u41, u42, u43, u44, u45, u46, u47, u48, u49, u50, u51, u52, u53, u54, u55, u56, u57, u58, u59, u60, u61, u62, u63, u64, u65, u66, u67, u68, u69, u70, u71, u72, u73, u74, u75, u76, u77, u78, u79, u80, u81, u82, u83, u84, u85, u86, u87, u88, u89, u90, u91, u92, u93, u94, u95, u96, u97, u98, u99, u100, u101, u102, u103, u104, u105, u106, u107, u108, u109, u110, u111, u112, u113, u114, u115, u116, u117, u118, u119, u120, u121, u122, u123, u124, u125, u126, u127, u128, u129, u130, u131, u132, u133, u134, u135, u136, u137, u138, u139, u140, u141, u142, u143, u144, u145, u146, u147, u148, u149, u150, u151, u152, u153, u154, u155, u156, u157, u158, u159, u160, u161, u162, u163, u164, u165, u166, u167, u168, u169, u170, u171, u172, u173, u174, u175, u176, u177, u178, u179, u180, u181, u182, u183, u184, u185, u186, u187, u188, u189, u190, u191, u192, u193, u194, u195, u196, u197, u198, u199, u200, u201, u202, u203, u204, u205, u206, u207, u208, u209, u210, u211, u212, u213, u214, u215, u216, u217, u218, u219, u220, u221, u222, u223, u224, u225, u226, u227, u228, u229, u230, u231, u232, u233, u234, u235, u236, u237, u238, u239, u240, u241, u242, u243, u244, u245, u246, u247, u248, u249, u250, u251, u252], []⟩ v := by
  conv => arg 2; whnf
  have hN10 := HK3.out.legs
  have hW6 := HK.out.words
  have HTl : Hid (T < v3.heap.size) := (Array.getElem?_eq_some_iff.1 HB.out).1
  have hnw : ts.words.l.length = t.words.l.length := by have := congrArg List.length HSs.out.words; simpa using this
  have HNw := Lib.hid hnw
  clear hnw
  obtain ⟨f0, f1, f2, f3, f4⟩ := TBox.five5 HR.out.box2
  go_wp2_with fail
  clear f0 f1 f2 f3 f4
  go_loopw [154] (fun i wr => ∃ (k k' : Nat) (L : List (Nat × Int)), k ≤ ts.legs.l.length ∧ i = .int .i64 (k : Int) ∧ Hid (LegsB ts.words.l.length ts.legs.l L k) ∧ Hid (RestB v3 D B0 B1 B2 S0 S1 tt tw ts wr) ∧ Hid (OwnS S2 wr (withLegs ts L)) ∧ Hid (IsDeck wr D a2 n2 c2 k') ∧ k' ≤ 1300 + k) (fun i _ => ts.legs.l.length - (intOf i).toNat)
  case atStart => exact ⟨0, k2, ts.legs.l, Nat.zero_le _, rfl, ⟨rfl, fun j _ _ => .inl rfl, fun j _ _ _ => rfl⟩, HR, HO, HD, by omega⟩
  case round =>
    obtain ⟨wo, rfl⟩ : ∃ wo : World, wo = wr := ⟨_, rfl⟩
    obtain ⟨k, k', L, hk, rfl, HLg, HRo, HOo, HDo, hk'⟩ := hrel
    by_cases hlt : k < ts.legs.l.length
    · have dk : decide ((k : Int) < (ts.legs.l.length : Int)) = true := by simpa using hlt
      have hLl : L.length = ts.legs.l.length := HLg.out.len
      have hkL : k < L.length := by omega
      obtain ⟨g, cur, hga, hSg, hgB, hgc, hgx⟩ := HOo.out.legs.at (by show 0 < L.length; omega)
      dsimp only at hga hgc hgx
      have cz : wo.cell? ⟨g, k * 2 + 1, none⟩ = some (.int .i64 L[k].2) := by
        have := hgx (k * 2 + 1) _ (flat_get 2 legC L k 1 hkL (by omega))
        simpa [legC] using this
      have hre := HLg.out.rest k hlt hkL (Nat.le_refl _)
      have HGB : Hid (S2 g ∧ wo.heap[g]? = some (.cells cur 63 (0, 0)) ∧ ts.legs.a = some ⟨g, 0, none⟩) := ⟨hSg, hgB, hga⟩
      have hwl : 0 < ts.words.l.length := by have := (HK3.out.leg _ (List.getElem_mem hlt)).1; omega
      have HCz : Hid (cur[k * 2 + 1]? = some (.int .i64 L[k].2)) := by show _ = _; rw [← cz, cell_at hgB]
      rw [hre] at cz
      have HRe := Lib.hid hre
      clear hgx hgB hSg hre
      have HGa := Lib.hid hga; clear hga
      have HLL := Lib.hid hLl; clear hLl
      obtain ⟨f0, f1, f2, f3, f4⟩ := TBox.five5 HRo.out.box2
      rw [HGa.out] at f4
      have k0 : (0 : Int) ≤ (k : Int) := by omega
      have k1 : (k : Int) < (ts.legs.l.length : Int) := by omega
      by_cases hm1 : ts.legs.l[k].2 = -1
      · have em : (ts.legs.l[k].2 == -1) = true := by rw [hm1]; rfl
        have HM1' := Lib.hid hm1; clear hm1
        go_upto_region 27 with (fail)
        clear f0 f1 f2 f3 cz em
        have HDF : Hid (∀ V', DExt D wo V' → V'.cell? ⟨B2, 4, none⟩ = some (.slice (some ⟨g, 0, none⟩) ts.legs.l.length ts.legs.c) ∧ V'.cell? ⟨T, 2, none⟩ = some (.slice t.words.a t.words.l.length t.words.c)) := by
          intro V' h
          have hb2 := HF.out.b2
          have hd2 := HF.out.d2
          have h1 : TBox V' T t := (HRo.out.old.trans h).block T HTl.out (by simp; omega) |>.trans HB.out
          exact ⟨h.cell f4 (by simp; omega), (cell_at h1 2).trans rfl⟩
        have HDG : Hid (∀ V' u, DExt D wo V' → (V'.setCell ⟨g, k * 2 + 1, none⟩ u).cell? ⟨B2, 4, none⟩ = some (.slice (some ⟨g, 0, none⟩) ts.legs.l.length ts.legs.c) ∧ (V'.setCell ⟨g, k * 2 + 1, none⟩ u).cell? ⟨T, 2, none⟩ = some (.slice t.words.a t.words.l.length t.words.c)) := by
          intro V' u h
          have h2 := HF.out.s2 g HGB.out.1
          have hT := HTl.out
          obtain ⟨q1, q2⟩ := HDF.out V' h
          exact ⟨(World.cell?_of_block (Below.heap_setCell _ _ _ B2 (fun e => h2.2.2.2.2.2 e.symm))).trans q1, (World.cell?_of_block (Below.heap_setCell _ _ _ T (fun e => by have e : T = g := e; omega))).trans q2⟩
        clear f4
        have HX0 : Hid (DExt D wo wo.drew) := (DExt.refl D wo).drew'
        have hnw := HNw.out
        go_region_held3 (fun V' => V'.cell? ⟨B2, 4, none⟩ = some (.slice (some ⟨g, 0, none⟩) ts.legs.l.length ts.legs.c) ∧ V'.cell? ⟨T, 2, none⟩ = some (.slice t.words.a t.words.l.length t.words.c))
          (first | exact HDF.out _ HX0.out | exact HDF.out _ HX1.out | exact HDG.out _ _ HX1.out)
          (first
            | (go_at_call 26; refine (draw_any D a2 n2 c2 k' t.words.l.length _ (HDo.out.ext (Ext.refl wo).drew) (by omega) (by omega)).mono ?_; rintro e v1 ⟨y, k1', hy, hk1, rfl, hd1, hg1⟩; have hyW : y < ts.words.l.length := (by omega); have HX1 : Hid (DExt D wo v1) := HX0.out.trans hg1; have HD1 := Lib.hid hd1; have hR1 : Hid (RestB v3 D B0 B1 B2 S0 S1 tt tw ts v1) := HRo.out.keep HF.out (keep_dext HX1.out); have hO1 : Hid (OwnS S2 v1 (withLegs ts L)) := HOo.out.keep (keep_dext (S := fun _ => False) HX1.out) (fun g _ hg => ⟨(fun e => by have := (HF.out.s2 g hg).1; have := HF.out.d2; omega), fun h => h⟩); have hB1 : Hid (v1.heap[g]? = some (.cells cur 63 (0, 0))) := (HX1.out.block g (Array.getElem?_eq_some_iff.1 HGB.out.2.1).1 (by have := (HF.out.s2 g HGB.out.1).1; have := HF.out.d2; simp; omega)).trans HGB.out.2.1; have cst : v1.cell? ⟨g, k * 2 + 1, none⟩ = some (.int .i64 L[k].2) := (cell_at hB1.out _).trans HCz.out; have fst : v1.frozen? ⟨g, k * 2 + 1, none⟩ = false := (by simp [World.frozen?, hB1.out]); clear hy hd1 hg1))
        go_wp2_with fail
        have hO2 : Hid (OwnS S2 (v1.setCell ⟨g, k * 2 + 1, none⟩ (.int .i64 (y : Int))) (withLegs ts (L.set k (L[k].1, (y : Int))))) := hO1.out.setLeg k hkL (y : Int) HGa.out
        have hR2 : Hid (RestB v3 D B0 B1 B2 S0 S1 tt tw ts (v1.setCell ⟨g, k * 2 + 1, none⟩ (.int .i64 (y : Int)))) := hR1.out.keep HF.out ((Keep.refl _ v1).setCell _ _ (fun _ h => h.2 HGB.out.1))
        have hD2 : Hid (IsDeck (v1.setCell ⟨g, k * 2 + 1, none⟩ (.int .i64 (y : Int))) D a2 n2 c2 k1') := HD1.out.set g _ _ (by have := (HF.out.s2 g HGB.out.1).1; have := HF.out.d2; omega) (fun x off h1 h2 => by have := HBy.out x off h1 h2; have := (HF.out.s2 g HGB.out.1).1; omega)
        have hL2 := Lib.hid (HLg.out.set hlt hkL HM1'.out hyW)
        go_roundw
        case rel => exact ⟨k + 1, k1', L.set k (L[k].1, (y : Int)), by omega, by go_num, hL2, hR2, hO2, hD2, by omega⟩
        case measure => simp [intOf]; omega
      · have em : (ts.legs.l[k].2 == -1) = false := by rw [beq_eq_false_iff_ne]; exact hm1
        clear hm1
        go_wp2_with fail
        go_roundw
        case rel => exact ⟨k + 1, k', L, by omega, by go_num, HLg.out.next, HRo, HOo, HDo, by omega⟩
        case measure => simp [intOf]; omega
    · have dk : decide ((k : Int) < (ts.legs.l.length : Int)) = false := decide_eq_false (by omega)
      have HK3' : Hid (OkT (withLegs ts L)) := HLg.out.ok HK3.out
      have HM3 : Hid (StrictT t (withLegs ts L)) := LegsB.strict HSs.out HLg.out
      have HB2' : Hid (TBox wo B2 (withLegs ts L)) := by
        have h1 := HRo.out.box2
        have h2 : L.length = ts.legs.l.length := HLg.out.len
        show wo.heap[B2]? = some (.cells #[.int .i64 (ts.P : Int), .slice ts.ways.a ts.ways.l.length ts.ways.c, .slice ts.words.a ts.words.l.length ts.words.c, .slice ts.starts.a ts.starts.l.length ts.starts.c, .slice ts.legs.a L.length ts.legs.c] 28 (0, 0))
        rw [h2]; exact h1
      have HTo : Hid (IsTo D wo t) := HT.out.dext HRo.out.old
      have HI1 : Hid (IsT wo tt) := HRo.out.told.is HK1.out
      have HI2 : Hid (IsT wo tw) := HRo.out.wide.is HK2.out
      have HI3 : Hid (IsT wo (withLegs ts L)) := HOo.out.is HK3'.out
      have HL : Hid (IsSl 1 slC wo ⟨aa, ca, la⟩ ∧ ∀ r ∈ la, IsSl 1 num wo r) :=
        (HTb.out.keep (D := fun i => i ≠ D) ((Keep.refl _ v3).grown HRo.out.old (fun i e _ h => h (by cases e; rfl))) (fun i hi => by omega)).is
      have EO : Hid (Ext w wo) := EV.out.dext HRo.out.old hwD
      have HB0' : Hid (TBox wo B0 tt) := HRo.out.box0
      have HB1' : Hid (TBox wo B1 tw) := HRo.out.box1
      repeat (first
        | exact more_tailA w wo B0 B1 B2 t tt tw (withLegs ts L) aa ca many ea la HK HK1 HK2 HK3' HI1 HI2 HI3 HB0' HB1' HB2' HM1 HM2 HM3 HL HA HMany EO
        | go_step)
end Go.Proofs.YtopjjcgmcieboaaGreatDoor

namespace Go.Proofs.YtopjjcgmcieboaaGreatDoor
open Go.RowKit

/-- A region by its number. -/
def regA (n : Nat) : Code → Option Code
  | .region k o d => if k = n then some (.region k o d) else none
  | .seq a b => match regA n a with | some c => some c | none => regA n b
  | .cond _ a b => match regA n a with | some c => some c | none => regA n b
  | .block _ c => regA n c
  | .loop c => regA n c
  | .scope c => regA n c
  | _ => none
noncomputable def reg5_20 : Code := ((Tryz.f5.body.bind (regA 20)).getD .skip)
theorem mean_cells {S : Nat → Prop} {w : World} {t : TV} {q : List (SL MV)} {k j g : Nat} {a : Option Addr} {c : Nat} {l : List MV} {m1 : MV} (h : OwnS S w (withWords t (putM q k j a c l m1))) (hk : k < q.length) (hj : j < l.length) (hg : a = some ⟨g, 0, none⟩) :
    w.cell? ⟨g, j * 2, none⟩ = some (.slice m1.k.a m1.k.l.length m1.k.c) ∧ w.cell? ⟨g, j * 2 + 1, none⟩ = some (.slice m1.e.a m1.e.l.length m1.e.c) ∧ w.frozen? ⟨g, j * 2, none⟩ = false ∧ w.frozen? ⟨g, j * 2 + 1, none⟩ = false := by
  have h1 := (h.word ⟨a, c, l.set j m1⟩ (List.mem_set hk _)).1
  have hl : j < (l.set j m1).length := by rw [List.length_set]; exact hj
  obtain ⟨g', cur, ha, -, hB, -, hx⟩ := RowS.at (S := S) (w := w) (a := a) (c := c) (n := (l.set j m1).length) (e := 57) (size := 2) (xs := flat 2 meanC (l.set j m1)) h1 (by omega)
  rw [hg] at ha; cases ha
  have q0 := hx (j * 2 + 0) _ (flat_get 2 meanC (l.set j m1) j 0 hl (by omega))
  have q1 := hx (j * 2 + 1) _ (flat_get 2 meanC (l.set j m1) j 1 hl (by omega))
  rw [List.getElem_set_self] at q0 q1
  exact ⟨q0, q1, by simp [World.frozen?, hB], by simp [World.frozen?, hB]⟩

set_option maxRecDepth 1000000 in
set_option maxHeartbeats 8000000 in
theorem more_region20 {u0 u1 u2 u3 u4 u5 u6 u7 u8 u9 u10 u11 u12 u13 u14 u15 u16 u19 u20 u22 u23 u24 u25 u26 u27 u28 u29 u30 u31 u32 u33 u34 u35 u36 u37 u38 u39 u40 u41 u42 u43 u44 u45 u46 u47 u48 u49 u50 u51 u52 u53 u54 u55 u56 u57 u58 u59 u60 u61 u62 u63 u64 u65 u66 u67 u68 u69 u70 u71 u72 u73 u74 u75 u76 u77 u78 u79 u80 u81 u82 u83 u84 u85 u86 u87 u88 u89 u90 u91 u92 u93 u94 u95 u96 u97 u98 u99 u100 u101 u102 u103 u104 u105 u106 u107 u108 u109 u110 u111 u112 u113 u114 u115 u116 u117 u118 u119 u120 u121 u122 u123 u124 u125 u126 u127 u128 u129 u130 u131 u132 u133 u134 u135 u136 u137 u138 u139 u140 u141 u142 u143 u144 u145 u146 u147 u148 u149 u150 u151 u152 u153 u154 u155 u156 u157 u158 u159 u160 u161 u162 u163 u164 u165 u166 u167 u168 u169 u170 u171 u172 u173 u174 u175 u176 u177 u178 u179 u180 u181 u182 u183 u184 u185 u186 u187 u188 u189 u190 u191 u192 u193 u194 u195 u196 u197 u198 u199 u200 u201 u202 u203 u204 u205 u206 u207 u208 u209 u210 u211 u212 u213 u214 u215 u216 u217 u218 u219 u220 u221 u222 u223 u224 u225 u226 u227 u228 u229 u230 u231 u232 u233 u234 u235 u236 u237 u238 u239 u240 u241 u242 u243 u244 u245 u246 u247 u248 u249 u250 u251 u252 : Value} {Q : Exit → Act → World → Prop} (v : World) (R : World → Prop) (S1 : Nat → Prop) (n : Nat) (tw : TV) (q : List (SL MV)) (k j g x1 x2 : Nat) (hk : k < q.length) (hj : j < q[k].l.length) (hg : q[k].a = some ⟨g, 0, none⟩)
    (HR : Hid (R v)) (HO : Hid (OwnS S1 v (withWords tw q))) (HRX : Hid (∀ V V', R V → Ext V V' → R V')) (HRS : Hid (∀ V i u, R V → R (V.setCell ⟨g, i, none⟩ u))) (HN : Hid (∀ V, R V → n ≤ V.heap.size)) (HS : Hid (∀ b, n ≤ b → S1 b))
    (HKs : Hid (q[k].l[j].k.l.Pairwise (· < ·) ∧ q[k].l[j].k.l.length ≤ 100)) (HEs : Hid (q[k].l[j].e.l.Pairwise (· < ·) ∧ q[k].l[j].e.l.length ≤ 100))
    (HQ : Hid (∀ (x : Nat → Value) (m1 : MV) (V : World), R V → OwnS S1 V (withWords tw (putM q k j q[k].a q[k].c q[k].l m1)) → JP q[k].l[j].k.l x1 m1.k.l → JP q[k].l[j].e.l x2 m1.e.l → Q .normal ⟨#[u0, u1, u2, u3, u4, u5, u6, u7, u8, u9, u10, u11, u12, u13, u14, u15, u16, .int .i64 (x1 : Int), .int .i64 (x2 : Int), u19, u20, .pointer (some ⟨g, j * 2, none⟩), u22, u23, u24, u25, u26, u27, u28, u29, u30, u31, u32, u33, u34, u35, u36, u37, u38, u39, u40, u41, u42, u43, u44, u45, u46, u47, u48, u49, u50, u51, u52, u53, u54, u55, u56, u57, u58, u59, u60, u61, u62, u63, u64, u65, u66, u67, u68, u69, u70, u71, u72, u73, u74, u75, u76, u77, u78, u79, u80, u81, u82, u83, u84, u85, u86, u87, u88, u89, u90, u91, u92, u93, u94, u95, u96, u97, u98, u99, u100, u101, u102, u103, u104, u105, u106, u107, u108, u109, u110, u111, u112, u113, u114, u115, u116, u117, u118, u119, u120, u121, u122, u123, u124, u125, u126, u127, u128, u129, u130, x 0, x 1, x 2, x 3, x 4, x 5, x 6, x 7, x 8, x 9, x 10, x 11, x 12, x 13, x 14, x 15, x 17, x 18, u149, u150, u151, u152, u153, u154, u155, u156, u157, u158, u159, u160, u161, u162, u163, u164, u165, u166, u167, u168, u169, u170, u171, u172, u173, u174, u175, u176, u177, u178, u179, u180, u181, u182, u183, u184, u185, u186, u187, u188, u189, u190, u191, u192, u193, u194, u195, u196, u197, u198, u199, u200, u201, u202, u203, u204, u205, u206, u207, u208, u209, u210, u211, u212, u213, u214, u215, u216, u217, u218, u219, u220, u221, u222, u223, u224, u225, u226, u227, u228, u229, u230, u231, u232, u233, u234, u235, u236, u237, u238, u239, u240, u241, u242, u243, u244, u245, u246, u247, u248, u249, u250, u251, u252], []⟩ V)) :
    Code.wp Tryz.prog reg5_20 Q ⟨#[u0, u1, u2, u3, u4, u5, u6, u7, u8, u9, u10, u11, u12, u13, u14, u15, u16, .int .i64 (x1 : Int), .int .i64 (x2 : Int), u19, u20, .pointer (some ⟨g, j * 2, none⟩), u22, u23, u24, u25, u26, u27, u28, u29, u30, u31, u32, u33, u34, u35, u36, u37, u38, u39, u40, u41, u42, u43, u44, u45, u46, u47, u48, u49, u50, u51, u52, u53, u54, u55, u56, u57, u58, u59, u60, u61, u62, u63, u64, u65, u66, u67, u68, u69, u70, u71, u72, u73, u74, u75, u76, u77, u78, u79, u80, u81, u82, u83, u84, u85, u86, u87, u88, u89, u90, u91, u92, u93, u94, u95, u96, u97, u98, u99, u100, u101, u102, u103, u104, u105, u106, u107, u108, u109, u110, u111, u112, u113, u114, u115, u116, u117, u118, u119, u120, u121, u122, u123, u124, u125, u126, u127, u128, u129, u130, u131, u132, u133, u134, u135, u136, u137, u138, u139, u140, u141, u142, u143, u144, u145, u146, u147, u148, u149, u150, u151, u152, u153, u154, u155, u156, u157, u158, u159, u160, u161, u162, u163, u164, u165, u166, u167, u168, u169, u170, u171, u172, u173, u174, u175, u176, u177, u178, u179, u180, u181, u182, u183, u184, u185, u186, u187, u188, u189, u190, u191, u192, u193, u194, u195, u196, u197, u198, u199, u200, u201, u202, u203, u204, u205, u206, u207, u208, u209, u210, u211, u212, u213, u214, u215, u216, u217, u218, u219, u220, u221, u222, u223, u224, u225, u226, u227, u228, u229, u230, u231, u232, u233, u234, u235, u236, u237, u238, u239, u240, u241, u242, u243, u244, u245, u246, u247, u248, u249, u250, u251, u252], []⟩ v := by
  conv => arg 2; whnf
  have HSt : Hid (Inv20 R S1 tw q k j g q[k].a q[k].c q[k].l x1 x2 q[k].l[j] (fun _ => False) (fun n => if n = 0 then u131 else if n = 1 then u132 else if n = 2 then u133 else if n = 3 then u134 else if n = 4 then u135 else if n = 5 then u136 else if n = 6 then u137 else if n = 7 then u138 else if n = 8 then u139 else if n = 9 then u140 else if n = 10 then u141 else if n = 11 then u142 else if n = 12 then u143 else if n = 13 then u144 else if n = 14 then u145 else if n = 15 then u146 else if n = 17 then u147 else u148) q[k].l[j] v.drew) := by
    refine ⟨fun _ _ _ _ _ h => h.elim, HRX.out _ _ HR.out (Ext.refl v).drew, ?_, fun _ => rfl, fun _ => rfl, fun h => h.elim, fun h => h.elim⟩
    rw [putM_self hk hj]
    exact HO.out.ext (Ext.refl v).drew
  generalize hm0 : q[k].l[j] = m0 at *
  generalize ha0 : q[k].a = a at *
  generalize hc0 : q[k].c = c at *
  generalize hl0 : q[k].l = l at *
  clear hm0 ha0 hc0 hl0
  have HK := Lib.hid hk
  have HJ := Lib.hid hj
  have HG := Lib.hid hg
  clear hk hj hg
  refine wp_region_inv2 (by kernel_rfl) (by kernel_rfl) (fun L a w => ∃ (x : Nat → Value) (m1 : MV), a = ⟨#[u0, u1, u2, u3, u4, u5, u6, u7, u8, u9, u10, u11, u12, u13, u14, u15, u16, .int .i64 (x1 : Int), .int .i64 (x2 : Int), u19, u20, .pointer (some ⟨g, j * 2, none⟩), u22, u23, u24, u25, u26, u27, u28, u29, u30, u31, u32, u33, u34, u35, u36, u37, u38, u39, u40, u41, u42, u43, u44, u45, u46, u47, u48, u49, u50, u51, u52, u53, u54, u55, u56, u57, u58, u59, u60, u61, u62, u63, u64, u65, u66, u67, u68, u69, u70, u71, u72, u73, u74, u75, u76, u77, u78, u79, u80, u81, u82, u83, u84, u85, u86, u87, u88, u89, u90, u91, u92, u93, u94, u95, u96, u97, u98, u99, u100, u101, u102, u103, u104, u105, u106, u107, u108, u109, u110, u111, u112, u113, u114, u115, u116, u117, u118, u119, u120, u121, u122, u123, u124, u125, u126, u127, u128, u129, u130, x 0, x 1, x 2, x 3, x 4, x 5, x 6, x 7, x 8, x 9, x 10, x 11, x 12, x 13, x 14, x 15, x 17, x 18, u149, u150, u151, u152, u153, u154, u155, u156, u157, u158, u159, u160, u161, u162, u163, u164, u165, u166, u167, u168, u169, u170, u171, u172, u173, u174, u175, u176, u177, u178, u179, u180, u181, u182, u183, u184, u185, u186, u187, u188, u189, u190, u191, u192, u193, u194, u195, u196, u197, u198, u199, u200, u201, u202, u203, u204, u205, u206, u207, u208, u209, u210, u211, u212, u213, u214, u215, u216, u217, u218, u219, u220, u221, u222, u223, u224, u225, u226, u227, u228, u229, u230, u231, u232, u233, u234, u235, u236, u237, u238, u239, u240, u241, u242, u243, u244, u245, u246, u247, u248, u249, u250, u251, u252], []⟩ ∧ Inv20 R S1 tw q k j g ‹Option Addr› c l x1 x2 m0 L x m1 w) ?_ ?_ ?_
  · exact ⟨_, _, rfl, HSt.out⟩
  · rintro L b V i o ⟨x, m1, rfl, hI⟩ hcl hn ho hwait
    have hi : i < 20 := (Array.getElem?_eq_some_iff.1 ho).1
    have HI := Lib.hid hI
    have HNo := Lib.hid hn
    have HCl := Lib.hid hcl
    obtain ⟨y0, y1, z0, z1⟩ := mean_cells hI.own HK.out HJ.out HG.out
    have HY : Hid (V.cell? ⟨g, j * 2, none⟩ = some (.slice m1.k.a m1.k.l.length m1.k.c) ∧ V.cell? ⟨g, j * 2 + 1, none⟩ = some (.slice m1.e.a m1.e.l.length m1.e.c) ∧ V.frozen? ⟨g, j * 2, none⟩ = false ∧ V.frozen? ⟨g, j * 2 + 1, none⟩ = false) := ⟨y0, y1, z0, z1⟩
    clear hI hn hcl y0 y1 z0 z1
    obtain rfl | rfl | rfl | rfl | rfl | rfl | rfl | rfl | rfl | rfl | rfl | rfl | rfl | rfl | rfl | rfl | rfl | rfl | rfl | rfl : i = 0 ∨ i = 1 ∨ i = 2 ∨ i = 3 ∨ i = 4 ∨ i = 5 ∨ i = 6 ∨ i = 7 ∨ i = 8 ∨ i = 9 ∨ i = 10 ∨ i = 11 ∨ i = 12 ∨ i = 13 ∨ i = 14 ∨ i = 15 ∨ i = 16 ∨ i = 17 ∨ i = 18 ∨ i = 19 := by omega
    all_goals (simp only [List.getElem?_toArray, List.getElem?_cons_zero, List.getElem?_cons_succ, Option.some.injEq] at ho)
    · subst ho
      clear hwait
      refine wpOp_step rfl (fun K' hK => ?_)
      have HKK := Lib.hid hK
      clear hK
      go_simp
      refine HKK.out _ _ ⟨updV x 0 (simE g j x1 x2 m0 0), m1, rfl, ?_⟩
      exact HI.out.simple 0 (by omega) (by omega) (by omega) (by omega)
    · subst ho
      clear hwait
      refine wpOp_step rfl (fun K' hK => ?_)
      have HKK := Lib.hid hK
      clear hK
      go_simp
      refine HKK.out _ _ ⟨updV x 1 (simE g j x1 x2 m0 1), m1, rfl, ?_⟩
      exact HI.out.simple 1 (by omega) (by omega) (by omega) (by omega)
    · subst ho
      clear hwait
      refine wpOp_step rfl (fun K' hK => ?_)
      have HKK := Lib.hid hK
      clear hK
      go_simp
      refine HKK.out _ _ ⟨updV x 2 (simE g j x1 x2 m0 2), m1, rfl, ?_⟩
      exact HI.out.simple 2 (by omega) (by omega) (by omega) (by omega)
    · subst ho
      have l2 : L 2 := hwait { on := 2, ground := Ground.data } (by simp) rfl
      have e2 : x 2 = .pointer (some ⟨g, j * 2, none⟩) := HI.out.sim 2 (by omega) (by omega) (by omega) (by omega) l2
      have E2 := Lib.hid e2
      have L2 := Lib.hid l2
      clear l2 hwait
      refine wpOp_step rfl (fun K' hK => ?_)
      have HKK := Lib.hid hK
      clear hK
      rw [e2]
      clear e2
      go_simp
      refine HKK.out _ _ ⟨updV (updV x 2 (.pointer (some ⟨g, j * 2, none⟩))) 3 (simE g j x1 x2 m0 3), m1, rfl, ?_⟩
      rw [updV_self E2.out]
      exact HI.out.simple 3 (by omega) (by omega) (by omega) (by omega)
    · subst ho
      have l3 : L 3 := hwait { on := 3, ground := Ground.data } (by simp) rfl
      have e3 : x 3 = .pointer (some ⟨g, j * 2, none⟩) := HI.out.sim 3 (by omega) (by omega) (by omega) (by omega) l3
      have E3 := Lib.hid e3
      have L3 := Lib.hid l3
      clear l3 hwait
      refine wpOp_step rfl (fun K' hK => ?_)
      have HKK := Lib.hid hK
      clear hK
      rw [e3]
      clear e3
      go_simp
      refine HKK.out _ _ ⟨updV (updV x 3 (.pointer (some ⟨g, j * 2, none⟩))) 4 (simE g j x1 x2 m0 4), m1, rfl, ?_⟩
      rw [updV_self E3.out]
      exact HI.out.simple 4 (by omega) (by omega) (by omega) (by omega)
    · subst ho
      have l4 : L 4 := hwait { on := 4, ground := Ground.data } (by simp) rfl
      have e4 : x 4 = .pointer (some ⟨g, j * 2, none⟩) := HI.out.sim 4 (by omega) (by omega) (by omega) (by omega) l4
      have E4 := Lib.hid e4
      have L4 := Lib.hid l4
      clear l4 hwait
      refine wpOp_step rfl (fun K' hK => ?_)
      have HKK := Lib.hid hK
      clear hK
      have l7 : ¬ L 7 := fun h => HNo.out (HCl.out 7 _ h rfl { on := 5, ground := Ground.data } (by simp) rfl)
      have hM : m1.k = m0.k := HI.out.k0 (fun h => l7 (HCl.out 16 _ h rfl { on := 7, ground := Ground.data } (by simp) rfl))
      clear l7
      obtain ⟨y0, y1, z0, z1⟩ := HY.out
      rw [hM] at y0
      clear hM
      rw [e4]
      clear e4
      go_simp
      refine HKK.out _ _ ⟨updV (updV x 4 (.pointer (some ⟨g, j * 2, none⟩))) 5 (simE g j x1 x2 m0 5), m1, rfl, ?_⟩
      rw [updV_self E4.out]
      exact HI.out.simple 5 (by omega) (by omega) (by omega) (by omega)
    · subst ho
      clear hwait
      refine wpOp_step rfl (fun K' hK => ?_)
      have HKK := Lib.hid hK
      clear hK
      go_simp
      refine HKK.out _ _ ⟨updV x 6 (simE g j x1 x2 m0 6), m1, rfl, ?_⟩
      exact HI.out.simple 6 (by omega) (by omega) (by omega) (by omega)
    · subst ho
      have l5 : L 5 := hwait { on := 5, ground := Ground.data } (by simp) rfl
      have l6 : L 6 := hwait { on := 6, ground := Ground.data } (by simp) rfl
      have e5 : x 5 = .slice m0.k.a m0.k.l.length m0.k.c := HI.out.sim 5 (by omega) (by omega) (by omega) (by omega) l5
      have E5 := Lib.hid e5
      have e6 : x 6 = .int .i64 (x1 : Int) := HI.out.sim 6 (by omega) (by omega) (by omega) (by omega) l6
      have E6 := Lib.hid e6
      have L5 := Lib.hid l5
      have L6 := Lib.hid l6
      clear l5 l6 hwait
      refine wpOp_step rfl (fun K' hK => ?_)
      have HKK := Lib.hid hK
      clear hK
      rw [e5, e6]
      clear e5 e6
      have hN16 : ¬ L 16 := fun h => HNo.out (HCl.out 16 _ h rfl { on := 7, ground := Ground.data } (by simp) rfl)
      have HM : Hid (m1.k = m0.k) := HI.out.k0 hN16
      clear hN16
      have HSl : Hid (IsSl 1 num V m0.k) := by
        have h1 := (Inv20.rows HI.out.own HK.out HJ.out).1
        rw [HM.out] at h1
        exact own_sl h1.1 (show m0.k.l.length ≤ 1000000 by have := HKs.out.2; omega)
      go_simp
      go_at_call 28
      refine (joined_any m0.k x1 V HSl.out HKs.out.1 HKs.out.2).mono ?_
      rintro e w' ⟨sa, sc, sl, rfl, ho, hj, -, hx⟩
      have hrow : RowS S1 w' 3 1 (⟨sa, sc, sl⟩ : SL Nat).v sl.length (nums sl) := (RowS.of ho.out).mono (fun b _ hb => HS.out b (Nat.le_trans (HN.out V HI.out.rest) hb.1))
      refine HKK.out _ _ ⟨updV (updV (updV x 5 (.slice m0.k.a m0.k.l.length m0.k.c)) 6 (.int .i64 (x1 : Int))) 7 (.slice sa sl.length sc), m1, rfl, ?_⟩
      rw [updV_self E5.out, updV_self E6.out]
      exact HI.out.call7 (fun h => HCl.out 16 _ h rfl { on := 7, ground := Ground.data } (by simp) rfl) HNo.out hx (fun h => HRX.out _ _ h hx) (s := ⟨sa, sc, sl⟩) hrow hj.out
    · subst ho
      clear hwait
      refine wpOp_step rfl (fun K' hK => ?_)
      have HKK := Lib.hid hK
      clear hK
      go_simp
      refine HKK.out _ _ ⟨updV x 8 (simE g j x1 x2 m0 8), m1, rfl, ?_⟩
      exact HI.out.simple 8 (by omega) (by omega) (by omega) (by omega)
    · subst ho
      have l8 : L 8 := hwait { on := 8, ground := Ground.data } (by simp) rfl
      have e8 : x 8 = .pointer (some ⟨g, j * 2, none⟩) := HI.out.sim 8 (by omega) (by omega) (by omega) (by omega) l8
      have E8 := Lib.hid e8
      have L8 := Lib.hid l8
      clear l8 hwait
      refine wpOp_step rfl (fun K' hK => ?_)
      have HKK := Lib.hid hK
      clear hK
      rw [e8]
      clear e8
      go_simp
      refine HKK.out _ _ ⟨updV (updV x 8 (.pointer (some ⟨g, j * 2, none⟩))) 9 (simE g j x1 x2 m0 9), m1, rfl, ?_⟩
      rw [updV_self E8.out]
      exact HI.out.simple 9 (by omega) (by omega) (by omega) (by omega)
    · subst ho
      have l9 : L 9 := hwait { on := 9, ground := Ground.data } (by simp) rfl
      have e9 : x 9 = .pointer (some ⟨g, j * 2, none⟩) := HI.out.sim 9 (by omega) (by omega) (by omega) (by omega) l9
      have E9 := Lib.hid e9
      have L9 := Lib.hid l9
      clear l9 hwait
      refine wpOp_step rfl (fun K' hK => ?_)
      have HKK := Lib.hid hK
      clear hK
      rw [e9]
      clear e9
      go_simp
      refine HKK.out _ _ ⟨updV (updV x 9 (.pointer (some ⟨g, j * 2, none⟩))) 10 (simE g j x1 x2 m0 10), m1, rfl, ?_⟩
      rw [updV_self E9.out]
      exact HI.out.simple 10 (by omega) (by omega) (by omega) (by omega)
    · subst ho
      have l10 : L 10 := hwait { on := 10, ground := Ground.data } (by simp) rfl
      have e10 : x 10 = .pointer (some ⟨g, j * 2 + 1, none⟩) := HI.out.sim 10 (by omega) (by omega) (by omega) (by omega) l10
      have E10 := Lib.hid e10
      have L10 := Lib.hid l10
      clear l10 hwait
      refine wpOp_step rfl (fun K' hK => ?_)
      have HKK := Lib.hid hK
      clear hK
      have l7 : ¬ L 13 := fun h => HNo.out (HCl.out 13 _ h rfl { on := 11, ground := Ground.data } (by simp) rfl)
      have hM : m1.e = m0.e := HI.out.e0 (fun h => l7 (HCl.out 19 _ h rfl { on := 13, ground := Ground.data } (by simp) rfl))
      clear l7
      obtain ⟨y0, y1, z0, z1⟩ := HY.out
      rw [hM] at y1
      clear hM
      rw [e10]
      clear e10
      go_simp
      refine HKK.out _ _ ⟨updV (updV x 10 (.pointer (some ⟨g, j * 2 + 1, none⟩))) 11 (simE g j x1 x2 m0 11), m1, rfl, ?_⟩
      rw [updV_self E10.out]
      exact HI.out.simple 11 (by omega) (by omega) (by omega) (by omega)
    · subst ho
      clear hwait
      refine wpOp_step rfl (fun K' hK => ?_)
      have HKK := Lib.hid hK
      clear hK
      go_simp
      refine HKK.out _ _ ⟨updV x 12 (simE g j x1 x2 m0 12), m1, rfl, ?_⟩
      exact HI.out.simple 12 (by omega) (by omega) (by omega) (by omega)
    · subst ho
      have l11 : L 11 := hwait { on := 11, ground := Ground.data } (by simp) rfl
      have l12 : L 12 := hwait { on := 12, ground := Ground.data } (by simp) rfl
      have e11 : x 11 = .slice m0.e.a m0.e.l.length m0.e.c := HI.out.sim 11 (by omega) (by omega) (by omega) (by omega) l11
      have E11 := Lib.hid e11
      have e12 : x 12 = .int .i64 (x2 : Int) := HI.out.sim 12 (by omega) (by omega) (by omega) (by omega) l12
      have E12 := Lib.hid e12
      have L11 := Lib.hid l11
      have L12 := Lib.hid l12
      clear l11 l12 hwait
      refine wpOp_step rfl (fun K' hK => ?_)
      have HKK := Lib.hid hK
      clear hK
      rw [e11, e12]
      clear e11 e12
      have hN19 : ¬ L 19 := fun h => HNo.out (HCl.out 19 _ h rfl { on := 13, ground := Ground.data } (by simp) rfl)
      have HM : Hid (m1.e = m0.e) := HI.out.e0 hN19
      clear hN19
      have HSl : Hid (IsSl 1 num V m0.e) := by
        have h1 := (Inv20.rows HI.out.own HK.out HJ.out).2
        rw [HM.out] at h1
        exact own_sl h1.1 (show m0.e.l.length ≤ 1000000 by have := HEs.out.2; omega)
      go_simp
      go_at_call 28
      refine (joined_any m0.e x2 V HSl.out HEs.out.1 HEs.out.2).mono ?_
      rintro e w' ⟨sa, sc, sl, rfl, ho, hj, -, hx⟩
      have hrow : RowS S1 w' 3 1 (⟨sa, sc, sl⟩ : SL Nat).v sl.length (nums sl) := (RowS.of ho.out).mono (fun b _ hb => HS.out b (Nat.le_trans (HN.out V HI.out.rest) hb.1))
      refine HKK.out _ _ ⟨updV (updV (updV x 11 (.slice m0.e.a m0.e.l.length m0.e.c)) 12 (.int .i64 (x2 : Int))) 13 (.slice sa sl.length sc), m1, rfl, ?_⟩
      rw [updV_self E11.out, updV_self E12.out]
      exact HI.out.call13 (fun h => HCl.out 19 _ h rfl { on := 13, ground := Ground.data } (by simp) rfl) HNo.out hx (fun h => HRX.out _ _ h hx) (s := ⟨sa, sc, sl⟩) hrow hj.out
    · subst ho
      have l0 : L 0 := hwait { on := 0, ground := Ground.data } (by simp) rfl
      have e0 : x 0 = .pointer (some ⟨g, j * 2, none⟩) := HI.out.sim 0 (by omega) (by omega) (by omega) (by omega) l0
      have E0 := Lib.hid e0
      have L0 := Lib.hid l0
      clear l0 hwait
      refine wpOp_step rfl (fun K' hK => ?_)
      have HKK := Lib.hid hK
      clear hK
      rw [e0]
      clear e0
      go_simp
      refine HKK.out _ _ ⟨updV (updV x 0 (.pointer (some ⟨g, j * 2, none⟩))) 14 (simE g j x1 x2 m0 14), m1, rfl, ?_⟩
      rw [updV_self E0.out]
      exact HI.out.simple 14 (by omega) (by omega) (by omega) (by omega)
    · subst ho
      have l14 : L 14 := hwait { on := 14, ground := Ground.data } (by simp) rfl
      have e14 : x 14 = .pointer (some ⟨g, j * 2, none⟩) := HI.out.sim 14 (by omega) (by omega) (by omega) (by omega) l14
      have E14 := Lib.hid e14
      have L14 := Lib.hid l14
      clear l14 hwait
      refine wpOp_step rfl (fun K' hK => ?_)
      have HKK := Lib.hid hK
      clear hK
      rw [e14]
      clear e14
      go_simp
      refine HKK.out _ _ ⟨updV (updV x 14 (.pointer (some ⟨g, j * 2, none⟩))) 15 (simE g j x1 x2 m0 15), m1, rfl, ?_⟩
      rw [updV_self E14.out]
      exact HI.out.simple 15 (by omega) (by omega) (by omega) (by omega)
    · subst ho
      have l15 : L 15 := hwait { on := 15, ground := Ground.data } (by simp) rfl
      have l7 : L 7 := hwait { on := 7, ground := Ground.data } (by simp) rfl
      have e15 : x 15 = .pointer (some ⟨g, j * 2, none⟩) := HI.out.sim 15 (by omega) (by omega) (by omega) (by omega) l15
      have E15 := Lib.hid e15
      have L15 := Lib.hid l15
      have L7 := Lib.hid l7
      clear l15 l7 hwait
      refine wpOp_step rfl (fun K' hK => ?_)
      have HKK := Lib.hid hK
      clear hK
      obtain ⟨s, hs, -⟩ := HI.out.kn L7.out
      obtain ⟨s2, hs2, -, hI2⟩ := HI.out.put16 HNo.out L7.out HK.out HJ.out HG.out hs (fun h => HRS.out _ _ _ h)
      have HI2 := Lib.hid hI2
      have HS2 := Lib.hid hs2
      clear hI2 hs
      rw [e15, hs2]
      clear e15 hs2
      obtain ⟨y0, y1, z0, z1⟩ := HY.out
      go_simp
      refine HKK.out _ _ ⟨updV (updV x 15 (.pointer (some ⟨g, j * 2, none⟩))) 7 (.slice s2.a s2.l.length s2.c), ⟨s2, m1.e⟩, rfl, ?_⟩
      rw [updV_self E15.out, updV_self HS2.out]
      exact HI2.out
    · subst ho
      have l1 : L 1 := hwait { on := 1, ground := Ground.data } (by simp) rfl
      have e1 : x 1 = .pointer (some ⟨g, j * 2, none⟩) := HI.out.sim 1 (by omega) (by omega) (by omega) (by omega) l1
      have E1 := Lib.hid e1
      have L1 := Lib.hid l1
      clear l1 hwait
      refine wpOp_step rfl (fun K' hK => ?_)
      have HKK := Lib.hid hK
      clear hK
      rw [e1]
      clear e1
      go_simp
      refine HKK.out _ _ ⟨updV (updV x 1 (.pointer (some ⟨g, j * 2, none⟩))) 17 (simE g j x1 x2 m0 17), m1, rfl, ?_⟩
      rw [updV_self E1.out]
      exact HI.out.simple 17 (by omega) (by omega) (by omega) (by omega)
    · subst ho
      have l17 : L 17 := hwait { on := 17, ground := Ground.data } (by simp) rfl
      have e17 : x 17 = .pointer (some ⟨g, j * 2, none⟩) := HI.out.sim 17 (by omega) (by omega) (by omega) (by omega) l17
      have E17 := Lib.hid e17
      have L17 := Lib.hid l17
      clear l17 hwait
      refine wpOp_step rfl (fun K' hK => ?_)
      have HKK := Lib.hid hK
      clear hK
      rw [e17]
      clear e17
      go_simp
      refine HKK.out _ _ ⟨updV (updV x 17 (.pointer (some ⟨g, j * 2, none⟩))) 18 (simE g j x1 x2 m0 18), m1, rfl, ?_⟩
      rw [updV_self E17.out]
      exact HI.out.simple 18 (by omega) (by omega) (by omega) (by omega)
    · subst ho
      have l18 : L 18 := hwait { on := 18, ground := Ground.data } (by simp) rfl
      have l13 : L 13 := hwait { on := 13, ground := Ground.data } (by simp) rfl
      have e18 : x 18 = .pointer (some ⟨g, j * 2 + 1, none⟩) := HI.out.sim 18 (by omega) (by omega) (by omega) (by omega) l18
      have E18 := Lib.hid e18
      have L18 := Lib.hid l18
      have L13 := Lib.hid l13
      clear l18 l13 hwait
      refine wpOp_step rfl (fun K' hK => ?_)
      have HKK := Lib.hid hK
      clear hK
      obtain ⟨s, hs, -⟩ := HI.out.en L13.out
      obtain ⟨s2, hs2, -, hI2⟩ := HI.out.put19 HNo.out L13.out HK.out HJ.out HG.out hs (fun h => HRS.out _ _ _ h)
      have HI2 := Lib.hid hI2
      have HS2 := Lib.hid hs2
      clear hI2 hs
      rw [e18, hs2]
      clear e18 hs2
      obtain ⟨y0, y1, z0, z1⟩ := HY.out
      go_simp
      refine HKK.out _ _ ⟨updV (updV x 18 (.pointer (some ⟨g, j * 2 + 1, none⟩))) 13 (.slice s2.a s2.l.length s2.c), ⟨m1.k, s2⟩, rfl, ?_⟩
      rw [updV_self E18.out, updV_self HS2.out]
      exact HI2.out
  · rintro L b V ⟨x, m1, rfl, hI⟩ hL
    obtain ⟨s, -, -, r3, r4⟩ := hI.kn (hL 7 (by decide))
    obtain ⟨s', -, -, r3', r4'⟩ := hI.en (hL 13 (by decide))
    have h1 := r4 (hL 16 (by decide))
    have h2 := r4' (hL 19 (by decide))
    exact HQ.out x m1 V hI.rest hI.own (by rw [h1]; exact r3) (by rw [h2]; exact r3')
end Go.Proofs.YtopjjcgmcieboaaGreatDoor

namespace Go.Proofs.YtopjjcgmcieboaaGreatDoor
open Go.RowKit

/-- Blocks that are apart, the copies' below n. -/
structure FarC (v3 : World) (n D B0 B1 B2 : Nat) (S0 S1 S2 : Nat → Prop) : Prop where
  s0 : ∀ g, S0 g → v3.heap.size ≤ g ∧ g < n ∧ ¬ S1 g ∧ ¬ S2 g ∧ g ≠ B0 ∧ g ≠ B1 ∧ g ≠ B2
  s1 : ∀ g, S1 g → v3.heap.size ≤ g ∧ g < n ∧ ¬ S2 g ∧ g ≠ B0 ∧ g ≠ B1 ∧ g ≠ B2
  s2 : ∀ g, S2 g → v3.heap.size ≤ g ∧ g < n ∧ g ≠ B0 ∧ g ≠ B1 ∧ g ≠ B2
  d2 : D < v3.heap.size
  b0 : v3.heap.size ≤ B0 ∧ B0 < n
  b1 : v3.heap.size ≤ B1 ∧ B1 < n
  b2 : v3.heap.size ≤ B2 ∧ B2 < n
  bb : B0 ≠ B1 ∧ B0 ≠ B2 ∧ B1 ≠ B2
theorem FarC.w {v3 : World} {n D B0 B1 B2 : Nat} {S0 S1 S2 : Nat → Prop} (h : FarC v3 n D B0 B1 B2 S0 S1 S2) : FarB v3 D B0 B2 B1 S0 S2 (fun g => S1 g ∨ n ≤ g) := by
  have hb0 := h.b0
  have hb1 := h.b1
  have hb2 := h.b2
  have hd := h.d2
  refine ⟨fun g hg => ?_, fun h0 => ?_, fun h0 => ?_, hd, hb0.1, hb2.1, hb1.1⟩
  · rcases hg with hg | hg
    · obtain ⟨q1, q2, q3, q4, q5, q6⟩ := h.s1 g hg
      exact ⟨q1, fun h0 => (h.s0 g h0).2.2.1 hg, q3, q4, q6, q5⟩
    · exact ⟨by omega, fun h0 => by have := (h.s0 g h0).2.1; omega, fun h0 => by have := (h.s2 g h0).2.1; omega, by omega, by omega, by omega⟩
  · have := (h.s0 D h0).1; omega
  · have := (h.s2 D h0).1; omega
theorem FarC.s {v3 : World} {n D B0 B1 B2 : Nat} {S0 S1 S2 : Nat → Prop} (h : FarC v3 n D B0 B1 B2 S0 S1 S2) : FarB v3 D B0 B1 B2 S0 (fun g => S1 g ∨ n ≤ g) S2 := by
  have hb0 := h.b0
  have hb1 := h.b1
  have hb2 := h.b2
  have hd := h.d2
  refine ⟨fun g hg => ?_, fun h0 => ?_, fun h0 => ?_, hd, hb0.1, hb1.1, hb2.1⟩
  · obtain ⟨q1, q2, q3, q4, q5⟩ := h.s2 g hg
    exact ⟨q1, fun h0 => (h.s0 g h0).2.2.2.1 hg, fun h0 => h0.elim (fun h1 => (h.s1 g h1).2.2.1 hg) (fun h1 => by omega), q3, q4, q5⟩
  · have := (h.s0 D h0).1; omega
  · rcases h0 with h0 | h0
    · have := (h.s1 D h0).1; omega
    · omega
noncomputable def tail5_13 : Code := ((Tryz.f5.body.bind (tailA 13)).getD .skip)
/-- What is there while the wider copy is changed. -/
def RestC (v3 : World) (n D B0 B1 B2 : Nat) (S0 S2 : Nat → Prop) (tt ts tw : TV) (a2 : Option Addr) (n2 c2 k2 : Nat) (V : World) : Prop :=
  RestB v3 D B0 B2 B1 S0 S2 tt ts tw V ∧ IsDeck V D a2 n2 c2 k2 ∧ n ≤ V.heap.size
section
variable {v3 V V' : World} {n D B0 B1 B2 n2 c2 k2 : Nat} {S0 S1 S2 : Nat → Prop} {tt ts tw : TV} {a2 : Option Addr}
theorem RestC.ext (F : FarC v3 n D B0 B1 B2 S0 S1 S2) (h : RestC v3 n D B0 B1 B2 S0 S2 tt ts tw a2 n2 c2 k2 V) (hx : Ext V V') : RestC v3 n D B0 B1 B2 S0 S2 tt ts tw a2 n2 c2 k2 V' :=
  ⟨h.1.keep F.w (Keep.of_ext hx), h.2.1.ext hx, Nat.le_trans h.2.2 hx.size⟩
theorem RestC.set (F : FarC v3 n D B0 B1 B2 S0 S1 S2) (h : RestC v3 n D B0 B1 B2 S0 S2 tt ts tw a2 n2 c2 k2 V) (hby : ∀ b off, a2 = some ⟨b, off, none⟩ → 0 < n2 → b < v3.heap.size) {g : Nat} (hg : S1 g ∨ n ≤ g) (i : Nat) (u : Value) : RestC v3 n D B0 B1 B2 S0 S2 tt ts tw a2 n2 c2 k2 (V.setCell ⟨g, i, none⟩ u) := by
  have hs := (F.w.s2 g hg).1
  have hd := F.d2
  have hk : Keep (fun b => b ≠ D ∧ ¬ (S1 b ∨ n ≤ b)) V (V.setCell ⟨g, i, none⟩ u) := (Keep.refl _ V).setCell _ _ (fun _ h => h.2 hg)
  exact ⟨h.1.keep F.w hk, h.2.1.set g i u (by omega) (fun x off h1 h2 => by have := hby x off h1 h2; omega), Nat.le_trans h.2.2 hk.size⟩
end

set_option maxRecDepth 1000000 in
set_option maxHeartbeats 8000000 in
theorem more_tailC {u0 u1 u2 u3 u4 u9 u11 u15 u16 u19 u20 u21 u22 u23 u24 u25 u26 u27 u28 u29 u30 u31 u32 u33 u34 u35 u36 u37 u38 u39 u40 u41 u42 u43 u44 u45 u46 u47 u48 u49 u50 u51 u52 u53 u54 u55 u56 u57 u58 u59 u60 u61 u62 u63 u64 u65 u66 u67 u68 u69 u70 u71 u72 u73 u74 u75 u76 u77 u78 u79 u80 u81 u82 u83 u84 u85 u86 u87 u88 u89 u90 u91 u92 u93 u94 u95 u96 u97 u98 u99 u100 u101 u102 u103 u104 u105 u106 u107 u108 u109 u110 u111 u112 u113 u114 u115 u116 u117 u118 u119 u120 u121 u122 u123 u124 u125 u126 u127 u128 u129 u130 u131 u132 u133 u134 u135 u136 u137 u138 u139 u140 u141 u142 u143 u144 u145 u146 u147 u148 u149 u150 u151 u152 u153 u154 u155 u156 u157 u158 u159 u160 u161 u162 u163 u164 u165 u166 u167 u168 u169 u170 u171 u172 u173 u174 u175 u176 u177 u178 u179 u180 u181 u182 u183 u184 u185 u186 u187 u188 u189 u190 u191 u192 u193 u194 u195 u196 u197 u198 u199 u200 u201 u202 u203 u204 u205 u206 u207 u208 u209 u210 u211 u212 u213 u214 u215 u216 u217 u218 u219 u220 u221 u222 u223 u224 u225 u226 u227 u228 u229 u230 u231 u232 u233 u234 u235 u236 u237 u238 u239 u240 u241 u242 u243 u244 u245 u246 u247 u248 u249 u250 u251 u252 : Value} (w v3 v : World) (T D B0 B1 B2 : Nat) (S0 S1 S2 : Nat → Prop) (t tt tw ts : TV) (aa a2 : Option Addr) (ca many n2 c2 k2 x1 x2 : Nat) (ea : Int) (la : List (SL Nat))
    (HK : Hid (OkT t)) (HK1 : Hid (OkT tt)) (HK2 : Hid (OkT tw)) (HK3 : Hid (OkT ts)) (HT : Hid (IsTo D v3 t)) (HB : Hid (TBox v3 T t)) (hTD : T ≠ D) (HTb : Hid (TblO (D + 1) v3 aa ca la))
    (HF : Hid (FarC v3 v.heap.size D B0 B1 B2 S0 S1 S2)) (HR : Hid (RestB v3 D B0 B2 B1 S0 S2 tt ts tw v)) (HO : Hid (OwnS S1 v tw)) (HSs : Hid (SameT t ts))
    (HM1 : Hid (MoreT t tt)) (HM2 : Hid (MoreT t tw)) (HD : Hid (IsDeck v D a2 n2 c2 k2)) (hk2 : k2 ≤ 1300) (HBy : Hid (∀ b off, a2 = some ⟨b, off, none⟩ → 0 < n2 → b < v3.heap.size)) (hwD : w.heap.size ≤ D) (hx1 : x1 ≤ 7) (hx2 : x2 < tw.P)
    (HA : Hid ((ea = 0 ∧ AllL t (la.map fun r => r.l) ∧ (allD t).length ≤ 200) ∨ (ea = 11 ∧ la = [] ∧ 200 < (allD t).length))) (HMany : Hid (many = (bestR t (allR (cntR t))).2)) (EV : Hid (Ext w v3)) :
    Code.wp Tryz.prog tail5_13 (bodyPost Tryz.prog Tryz.f5 fun e w' => e = .returned (.bool true) ∧ Ext w w') ⟨#[u0, u1, u2, u3, u4, .pointer (some ⟨T, 0, none⟩), .pointer (some ⟨D, 0, none⟩), .slice aa la.length ca, .int .i64 ea, u9, .int .i64 (many : Int), u11, .pointer (some ⟨B0, 0, none⟩), .pointer (some ⟨B1, 0, none⟩), .pointer (some ⟨B2, 0, none⟩), u15, u16, .int .i64 (x1 : Int), .int .i64 (x2 : Int), u19, u20, u21, u22, u23, u24, u25, u26, u27, u28, u29, u30, u31, u32, u33, u34, u35, u36, u37, u38, u39, u40, u41, u42, u43, u44, u45, u46, u47, u48, u49, u50, u51, u52, u53, u54, u55, u56, u57, u58, u59, u60, u61, u62, u63, u64, u65, u66, u67, u68, u69, u70, u71, u72, u73, u74, u75, u76, u77, u78, u79, u80, u81, u82, u83, u84, u85, u86, u87, u88, u89, u90, u91, u92, u93, u94, u95, u96, u97, u98, u99, u100, u101, u102, u103, u104, u105, u106, u107, u108, u109, u110, u111, u112, u113, u114, u115, u116, u117, u118, u119, u120, u121, u122, u123, u124, u125, u126, u127, u128, u129, u130, u131, u132, u133, u134, u135, u136, u137, u138, u139, u140, u141, u142, u143, u144, u145, u146, u147, u148, u149, u150, u151, u152, u153, u154, u155, u156, u157, u158, u159, u160, u161, u162, u163, u164, u165, u166, u167, u168, u169, u170, u171, u172, u173, u174, u175, u176, u177, u178, u179, u180, u181, u182, u183, u184, u185, u186, u187, u188, u189, u190, u191, u192, u193, u194, u195, u196, u197, u198, u199, u200, u201, u202, u203, u204, u205, u206, u207, u208, u209, u210, u211, u212, u213, u214, u215, u216, u217, u218, u219, u220, u221, u222, u223, u224, u225, u226, u227, u228, u229, u230, u231, u232, u233, u234, u235, u236, u237, u238, u239, u240, u241, u242, u243, u244, u245, u246, u247, u248, u249, u250, u251, u252], []⟩ v := by
  conv => arg 2; whnf
  have hW6 := HK2.out.words
  have hP12 := HK2.out.p2
  have HRX := Lib.hid (fun (V V' : World) (h : (RestC v3 v.heap.size D B0 B1 B2 S0 S2 tt ts tw a2 n2 c2 k2) V) (hx : Ext V V') => RestC.ext HF.out h hx)
  have HRN := Lib.hid (fun (V : World) (h : (RestC v3 v.heap.size D B0 B1 B2 S0 S2 tt ts tw a2 n2 c2 k2) V) => h.2.2)
  have HR0 : Hid ((RestC v3 v.heap.size D B0 B1 B2 S0 S2 tt ts tw a2 n2 c2 k2) v) := ⟨HR.out, HD.out, Nat.le_refl _⟩
  have HO0 : Hid (OwnS (fun g => S1 g ∨ v.heap.size ≤ g) v (withWords tw tw.words.l)) := HO.out.mono (fun _ _ h => .inl h)
  have HSB := Lib.hid (fun (b : Nat) (h : v.heap.size ≤ b) => (Or.inr h : S1 b ∨ v.heap.size ≤ b))
  obtain ⟨f0, f1, f2, f3, f4⟩ := TBox.five5 HR.out.box2
  clear HR HO HD
  go_wp2_with fail
  clear f0 f1 f2 f3 f4
  go_loopw [112] (fun iv wr => ∃ (i : Nat) (q : List (SL MV)), i ≤ tw.words.l.length ∧ iv = .int .i64 (i : Int) ∧ Hid (WideQ tw.P tw.words.l q) ∧ Hid ((RestC v3 v.heap.size D B0 B1 B2 S0 S2 tt ts tw a2 n2 c2 k2) wr) ∧ Hid (OwnS (fun g => S1 g ∨ v.heap.size ≤ g) wr (withWords tw q))) (fun iv _ => tw.words.l.length - (intOf iv).toNat)
  case atStart => exact ⟨0, tw.words.l, Nat.zero_le _, rfl, WideQ.start HK2.out, HR0, HO0⟩
  case round =>
    obtain ⟨wo, rfl⟩ : ∃ wo : World, wo = wr := ⟨_, rfl⟩
    obtain ⟨i, q, hi, rfl, HWq, HRo, HOo⟩ := hrel
    by_cases hlt : i < tw.words.l.length
    · have di : decide ((i : Int) < (tw.words.l.length : Int)) = true := by simpa using hlt
      have hql : i < q.length := by have := HWq.out.len; omega
      obtain ⟨gw, curw, hgwa, -, hgwB, -, hgwx⟩ := HOo.out.words.at (by show 0 < q.length; omega)
      dsimp only at hgwa hgwx
      obtain ⟨ea1, ec1, el1⟩ := HWq.out.word i hlt hql
      have HL4 := Lib.hid (HK2.out.word _ (List.getElem_mem hlt))
      have cw : wo.cell? ⟨gw, i, none⟩ = some (.slice tw.words.l[i].a tw.words.l[i].l.length tw.words.l[i].c) := by
        have := hgwx (i * 1 + 0) _ (flat_get 1 slC q i 0 hql (by omega))
        rw [← ea1, ← ec1, ← el1]
        simpa [slC] using this
      have HGW := Lib.hid hgwa
      clear hgwx hgwB ea1 ec1 el1 hgwa
      obtain ⟨f0, f1, f2, f3, f4⟩ := TBox.five5 HRo.out.1.box2
      rw [HGW.out] at f2
      have i0 : (0 : Int) ≤ (i : Int) := by omega
      have i1 : (i : Int) < (tw.words.l.length : Int) := by omega
      generalize hsw : tw.words.l[i] = sw at *
      have HSW := Lib.hid hsw
      clear hsw
      have hs4 := HL4.out.2
      go_wp2_with fail
      clear f0 f1 f2 f3 f4 cw
      go_loopw [121] (fun jv wr => ∃ (j : Nat) (q : List (SL MV)), j ≤ sw.l.length ∧ jv = .int .i64 (j : Int) ∧ Hid (WideQ tw.P tw.words.l q) ∧ Hid ((RestC v3 v.heap.size D B0 B1 B2 S0 S2 tt ts tw a2 n2 c2 k2) wr) ∧ Hid (OwnS (fun g => S1 g ∨ v.heap.size ≤ g) wr (withWords tw q))) (fun jv _ => sw.l.length - (intOf jv).toNat)
      case atStart => exact ⟨0, q, Nat.zero_le _, rfl, HWq, HRo, HOo⟩
      case round =>
        obtain ⟨wy, rfl⟩ : ∃ wy : World, wy = wr := ⟨_, rfl⟩
        clear HWq HRo HOo
        clear hql q
        obtain ⟨j, q, hj, rfl, HWq, HRo, HOo⟩ := hrel
        by_cases hlj : j < sw.l.length
        · have dj : decide ((j : Int) < (sw.l.length : Int)) = true := by simpa using hlj
          have hql : i < q.length := by have := HWq.out.len; omega
          obtain ⟨gw', curw, hgwa, -, hgwB, -, hgwx⟩ := HOo.out.words.at (by show 0 < q.length; omega)
          dsimp only at hgwa hgwx
          obtain rfl : gw = gw' := by have := HGW.out.symm.trans hgwa; cases this; rfl
          obtain ⟨ea1, ec1, el1⟩ := HWq.out.word i hlt hql
          rw [HSW.out] at ea1 ec1 el1
          have hjq : j < q[i].l.length := by omega
          obtain ⟨g, cur, hga, hSg, -, -, -⟩ := (HOo.out.word q[i] (List.getElem_mem hql)).1.at (by omega)
          have hga2 : sw.a = some ⟨g, 0, none⟩ := by rw [← ea1]; exact hga
          have HGA := Lib.hid hga
          have HSG := Lib.hid hSg
          have cw : wy.cell? ⟨gw, i, none⟩ = some (.slice (some ⟨g, 0, none⟩) sw.l.length sw.c) := by
            have := hgwx (i * 1 + 0) _ (flat_get 1 slC q i 0 hql (by omega))
            rw [← hga2, ← ea1, ← ec1, ← el1]
            simpa [slC] using this
          have HM0 : Hid ((∀ x ∈ q[i].l[j].k.l, x ≤ 7) ∧ q[i].l[j].k.l.Pairwise (· < ·)) := (HWq.out.mean i hlt hql j (by rw [HSW.out]; exact hlj) hjq).2.2.1
          have HM3 : Hid ((∀ x ∈ q[i].l[j].e.l, x < tw.P) ∧ q[i].l[j].e.l.Pairwise (· < ·)) := (HWq.out.mean i hlt hql j (by rw [HSW.out]; exact hlj) hjq).2.2.2
          have HKs : Hid (q[i].l[j].k.l.Pairwise (· < ·) ∧ q[i].l[j].k.l.length ≤ 100) := ⟨HM0.out.2, by have := len_sorted HM0.out.2 8 (fun x hx => by have := HM0.out.1 x hx; omega); omega⟩
          have HEs : Hid (q[i].l[j].e.l.Pairwise (· < ·) ∧ q[i].l[j].e.l.length ≤ 100) := ⟨HM3.out.2, by have := len_sorted HM3.out.2 tw.P HM3.out.1; omega⟩
          clear hgwx hgwB ea1 ec1 el1 hgwa hga hSg hga2
          obtain ⟨f0, f1, f2, f3, f4⟩ := TBox.five5 HRo.out.1.box2
          rw [HGW.out] at f2
          have j0 : (0 : Int) ≤ (j : Int) := by omega
          have j1 : (j : Int) < (sw.l.length : Int) := by omega
          go_upto_region 20 with (fail)
          clear f0 f1 f2 f3 f4 cw
          have HRS := Lib.hid (fun (V : World) (p : Nat) (u : Value) (h : (RestC v3 v.heap.size D B0 B1 B2 S0 S2 tt ts tw a2 n2 c2 k2) V) => RestC.set HF.out h HBy.out HSG.out p u)
          refine more_region20 wy (RestC v3 v.heap.size D B0 B1 B2 S0 S2 tt ts tw a2 n2 c2 k2) (fun g => S1 g ∨ v.heap.size ≤ g) v.heap.size tw q i j g x1 x2 hql hjq HGA.out HRo HOo HRX HRS HRN HSB HKs HEs ?_
          intro x m1 wz h1 h2 h3 h4
          have HR1 := Lib.hid h1
          have HO1 := Lib.hid h2
          have HJ1 := Lib.hid h3
          have HJ2 := Lib.hid h4
          clear h1 h2 h3 h4
          have HW1 : Hid (WideQ tw.P tw.words.l (putM q i j q[i].a q[i].c q[i].l m1)) := by
            refine HWq.out.set hlt hql hjq m1 ⟨HJ1.out.1, HJ2.out.1, ⟨fun x hx => ?_, HJ1.out.2.2⟩, ⟨fun x hx => ?_, HJ2.out.2.2⟩⟩
            · rcases HJ1.out.2.1 x hx with h | h
              · exact HM0.out.1 x h
              · omega
            · rcases HJ2.out.2.1 x hx with h | h
              · exact HM3.out.1 x h
              · omega
          go_wp2_with fail
          go_roundw
          case rel => exact ⟨j + 1, putM q i j q[i].a q[i].c q[i].l m1, by omega, by go_num, HW1, HR1, HO1⟩
          case measure => simp [intOf]; omega
        · have dj : decide ((j : Int) < (sw.l.length : Int)) = false := decide_eq_false (by omega)
          go_wp2_with fail
          go_roundw
          case rel => exact ⟨i + 1, q, by omega, by go_num, HWq, HRo, HOo⟩
          case measure => simp [intOf]; omega
    · have di : decide ((i : Int) < (tw.words.l.length : Int)) = false := decide_eq_false (by omega)
      have HK2' : Hid (OkT (withWords tw q)) := HWq.out.ok HK2.out
      have HM2' : Hid (MoreT t (withWords tw q)) := HWq.out.more HM2.out
      have HF2 := Lib.hid HF.out.s
      have HR2 : Hid (RestB v3 D B0 B1 B2 S0 (fun g => S1 g ∨ v.heap.size ≤ g) tt (withWords tw q) ts wo) := by
        have hb := HRo.out.1.box2
        have hlq := HWq.out.len
        refine ⟨HRo.out.1.told, HRo.out.1.box0, HOo.out, ?_, HRo.out.1.box1, HRo.out.1.old⟩
        show wo.heap[B1]? = some (.cells #[.int .i64 (tw.P : Int), .slice tw.ways.a tw.ways.l.length tw.ways.c, .slice tw.words.a q.length tw.words.c, .slice tw.starts.a tw.starts.l.length tw.starts.c, .slice tw.legs.a tw.legs.l.length tw.legs.c] 28 (0, 0))
        rw [hlq]
        exact hb
      have HO2 : Hid (OwnS S2 wo ts) := HRo.out.1.wide
      have HD2 : Hid (IsDeck wo D a2 n2 c2 k2) := HRo.out.2.1
      repeat (first
        | exact more_tailB w v3 wo T D B0 B1 B2 S0 (fun g => S1 g ∨ v.heap.size ≤ g) S2 t tt (withWords tw q) ts aa a2 ca many n2 c2 k2 ea la HK HK1 HK2' HK3 HT HB hTD HTb HF2 HR2 HO2 HSs HM1 HM2' HD2 hk2 HBy hwD HA HMany EV
        | go_step)
end Go.Proofs.YtopjjcgmcieboaaGreatDoor

namespace Go.Proofs.YtopjjcgmcieboaaGreatDoor
open Go.RowKit

theorem MoreT.same {t t' : TV} (h : SameT t t') : MoreT t t' := by
  have hl : t'.words.l.length = t.words.l.length := by have := congrArg List.length h.words; simpa using this
  refine ⟨h.P, h.starts, h.legs, fun x hx => by rw [h.ways]; exact hx, hl, fun k hk hk' j hj => ?_⟩
  have e : listsOf t'.words.l[k] = listsOf t.words.l[k] := by
    have := congrArg (fun l => l[k]?) h.words
    simpa [hk, hk'] using this
  have el : t'.words.l[k].l.length = t.words.l[k].l.length := by have := congrArg List.length e; simpa [listsOf] using this
  have hj' : j < t'.words.l[k].l.length := by omega
  have ej : (t'.words.l[k].l[j].k.l, t'.words.l[k].l[j].e.l) = (t.words.l[k].l[j].k.l, t.words.l[k].l[j].e.l) := by
    have := congrArg (fun l => l[j]?) e
    simpa [listsOf, hj, hj'] using this
  simp only [Prod.mk.injEq] at ej
  exact ⟨hj', fun x hx => by rw [ej.1]; exact hx, fun x hx => by rw [ej.2]; exact hx⟩
theorem SameT.ok {t t' : TV} (h : SameT t t') (hk : OkT t) : OkT t' := by
  have hl : t'.words.l.length = t.words.l.length := by have := congrArg List.length h.words; simpa using this
  have hw : ∀ s' ∈ t'.words.l, ∃ s ∈ t.words.l, listsOf s' = listsOf s := fun s' hs' => by
    have : listsOf s' ∈ t.words.l.map listsOf := by rw [← h.words]; exact List.mem_map.2 ⟨s', hs', rfl⟩
    obtain ⟨s, hs, e⟩ := List.mem_map.1 this
    exact ⟨s, hs, e.symm⟩
  have hm : ∀ s' ∈ t'.words.l, ∀ m' ∈ s'.l, ∃ s ∈ t.words.l, ∃ m ∈ s.l, m'.k.l = m.k.l ∧ m'.e.l = m.e.l := fun s' hs' m' hm' => by
    obtain ⟨s, hs, e⟩ := hw s' hs'
    have : (m'.k.l, m'.e.l) ∈ listsOf s := by rw [← e]; exact List.mem_map.2 ⟨m', hm', rfl⟩
    obtain ⟨m, hm, e2⟩ := List.mem_map.1 this
    simp only [Prod.mk.injEq] at e2
    exact ⟨s, hs, m, hm, e2.1.symm, e2.2.symm⟩
  have hmap : t'.words.l.map (·.l.length) = t.words.l.map (·.l.length) := by
    have := congrArg (List.map List.length) h.words
    simpa [List.map_map, Function.comp_def, listsOf] using this
  have hP := h.P
  refine ⟨by rw [hP]; exact hk.p1, by rw [hP]; exact hk.p2, by rw [h.ways]; exact hk.ways, by rw [hl]; exact hk.words, by rw [h.starts]; exact hk.starts1, by rw [h.starts, hP]; exact hk.starts2, by rw [h.legs]; exact hk.legs, fun s' hs' => ?_, by rw [h.ways, hP]; exact hk.way, fun s' hs' m' hm' => ?_, fun s' hs' m' hm' => ?_, by rw [h.starts, hP]; exact hk.start, by rw [h.legs, hl]; exact hk.leg, by rw [hmap]; exact hk.many⟩
  · obtain ⟨s, hs, e⟩ := hw s' hs'
    have el : s'.l.length = s.l.length := by have := congrArg List.length e; simpa [listsOf] using this
    rw [el]; exact hk.word s hs
  · obtain ⟨s, hs, m, hmm, e1, -⟩ := hm s' hs' m' hm'
    rw [e1]; exact hk.kinds s hs m hmm
  · obtain ⟨s, hs, m, hmm, -, e2⟩ := hm s' hs' m' hm'
    rw [e2, hP]; exact hk.ends s hs m hmm
/-- A treaty with a way more. -/
abbrev withWay (t : TV) (a : Option Addr) (c : Nat) (q : Nat × Nat × Nat) : TV := ⟨t.P, ⟨a, c, t.ways.l ++ [q]⟩, t.words, t.starts, t.legs⟩
theorem MoreT.addWay {t t' : TV} (h : MoreT t t') (a : Option Addr) (c : Nat) (q : Nat × Nat × Nat) : MoreT t (withWay t' a c q) :=
  ⟨h.P, h.starts, h.legs, fun x hx => List.mem_append_left _ (h.ways x hx), h.many, h.word⟩
theorem OkT.addWay {t : TV} (h : OkT t) (hl : t.ways.l.length ≤ 39) (a : Option Addr) (c : Nat) {q : Nat × Nat × Nat} (hq : WayOk t.P q) : OkT (withWay t a c q) := by
  refine ⟨h.p1, h.p2, by show (t.ways.l ++ [q]).length ≤ 40; simp; omega, h.words, h.starts1, h.starts2, h.legs, h.word, fun x hx => ?_, h.kinds, h.ends, h.start, h.leg, h.many⟩
  rcases List.mem_append.1 hx with hx | hx
  · exact h.way x hx
  · rw [List.mem_singleton] at hx; subst hx; exact hq
theorem OwnS.addWay {S S' : Nat → Prop} {w w' : World} {t : TV} {q : Nat × Nat × Nat} {g cap : Nat} (h : OwnS S w t) (hS : ∀ b, S b → S' b) (hg : S' g)
    (hown : w'.ownsRow 0 59 3 (.slice (some ⟨g, 0, none⟩) (t.ways.l.length + 1) cap) (t.ways.l.length + 1) (flat 3 wayC t.ways.l ++ flat 3 wayC [q])) (hgrow : w.grownBy w' (Value.slice t.ways.a t.ways.l.length t.ways.c).ownBlock) : OwnS S' w' (withWay t (some ⟨g, 0, none⟩) cap q) := by
  refine ⟨?_, (h.words.grown hgrow (ne_type h.words h.ways (by decide))).mono (fun b _ => hS b), fun x hx => ⟨((h.word x hx).1.grown hgrow (ne_type (h.word x hx).1 h.ways (by decide))).mono (fun b _ => hS b), fun m hm => ⟨((((h.word x hx).2 m hm).1).grown hgrow (ne_type ((h.word x hx).2 m hm).1 h.ways (by decide))).mono (fun b _ => hS b), ((((h.word x hx).2 m hm).2).grown hgrow (ne_type ((h.word x hx).2 m hm).2 h.ways (by decide))).mono (fun b _ => hS b)⟩⟩, h.apart, (h.starts.grown hgrow (ne_type h.starts h.ways (by decide))).mono (fun b _ => hS b), (h.legs.grown hgrow (ne_type h.legs h.ways (by decide))).mono (fun b _ => hS b)⟩
  show RowS S' w' 59 3 (.slice (some ⟨g, 0, none⟩) (t.ways.l ++ [q]).length cap) (t.ways.l ++ [q]).length (flat 3 wayC (t.ways.l ++ [q]))
  rw [flat_append, List.length_append]
  exact ⟨hown, fun b hb => by cases hb; exact hg⟩

/-- Blocks that stay: below n, not the deck's, not the box's, not of S. -/
def Off (n D B : Nat) (S : Nat → Prop) (g : Nat) : Prop := g < n ∧ g ≠ D ∧ g ≠ B ∧ ¬ S g
/-- Two copies that stay while the third one is changed. -/
structure RestD (v3 : World) (n D Ba Bb : Nat) (Sa Sb : Nat → Prop) (ta tb : TV) (V : World) : Prop where
  owna : OwnS Sa V ta
  boxa : TBox V Ba ta
  ownb : OwnS Sb V tb
  boxb : TBox V Bb tb
  old : DExt D v3 V
  size : n ≤ V.heap.size
structure FarD (v3 : World) (n D B Ba Bb : Nat) (S Sa Sb : Nat → Prop) : Prop where
  sa : ∀ g, Sa g → Off n D B S g
  sb : ∀ g, Sb g → Off n D B S g
  ba : Off n D B S Ba
  bb : Off n D B S Bb
  old : ∀ g, g < v3.heap.size → g ≠ D → Off n D B S g
theorem RestD.keep {v3 V V' : World} {n D B Ba Bb : Nat} {S Sa Sb : Nat → Prop} {ta tb : TV} (h : RestD v3 n D Ba Bb Sa Sb ta tb V) (F : FarD v3 n D B Ba Bb S Sa Sb) (k : Keep (Off n D B S) V V') : RestD v3 n D Ba Bb Sa Sb ta tb V' := by
  refine ⟨h.owna.keep k (fun g _ hg => F.sa g hg), k.heap h.boxa F.ba, h.ownb.keep k (fun g _ hg => F.sb g hg), k.heap h.boxb F.bb, ?_, Nat.le_trans h.size k.size⟩
  refine ⟨k.os.trans h.old.os, k.tape.trans h.old.tape, k.output.trans h.old.output, Nat.le_trans h.old.size k.size, fun g hg hne => ?_⟩
  have hne' : g ≠ D := fun e => hne (by rw [e])
  have h1 := h.old.size
  exact (k.block g (by omega) (F.old g hg hne')).trans (h.old.block g hg hne)
theorem off_dext {n D B : Nat} {S : Nat → Prop} {V V' : World} (h : DExt D V V') : Keep (Off n D B S) V V' := (Keep.refl _ V).grown h (fun i e _ h => h.2.1 (by cases e; rfl))
theorem FarC.dw {v3 : World} {n D B0 B1 B2 : Nat} {S0 S1 S2 : Nat → Prop} (h : FarC v3 n D B0 B1 B2 S0 S1 S2) : FarD v3 n D B1 B0 B2 S1 S0 S2 := by
  have hb0 := h.b0
  have hb1 := h.b1
  have hb2 := h.b2
  have hd := h.d2
  have hbb := h.bb
  refine ⟨fun g hg => ?_, fun g hg => ?_, ⟨hb0.2, by omega, hbb.1, fun h1 => (h.s1 _ h1).2.2.2.1 rfl⟩, ⟨hb2.2, by omega, fun e => hbb.2.2 e.symm, fun h1 => (h.s1 _ h1).2.2.2.2.2 rfl⟩, fun g hg hne => ⟨by omega, hne, by omega, fun h1 => by have := (h.s1 g h1).1; omega⟩⟩
  · obtain ⟨q1, q2, q3, q4, q5, q6, q7⟩ := h.s0 g hg
    exact ⟨q2, by omega, q6, q3⟩
  · obtain ⟨q1, q2, q3, q4, q5⟩ := h.s2 g hg
    exact ⟨q2, by omega, q4, fun h1 => (h.s1 g h1).2.2.1 hg⟩
theorem FarC.dt {v3 : World} {n D B0 B1 B2 : Nat} {S0 S1 S2 : Nat → Prop} (h : FarC v3 n D B0 B1 B2 S0 S1 S2) : FarD v3 n D B0 B1 B2 S0 S1 S2 := by
  have hb0 := h.b0
  have hb1 := h.b1
  have hb2 := h.b2
  have hd := h.d2
  have hbb := h.bb
  refine ⟨fun g hg => ?_, fun g hg => ?_, ⟨hb1.2, by omega, fun e => hbb.1 e.symm, fun h1 => (h.s0 _ h1).2.2.2.2.2.1 rfl⟩, ⟨hb2.2, by omega, fun e => hbb.2.1 e.symm, fun h1 => (h.s0 _ h1).2.2.2.2.2.2 rfl⟩, fun g hg hne => ⟨by omega, hne, by omega, fun h1 => by have := (h.s0 g h1).1; omega⟩⟩
  · obtain ⟨q1, q2, q3, q4, q5, q6⟩ := h.s1 g hg
    exact ⟨q2, by omega, q4, fun h0 => (h.s0 g h0).2.2.1 hg⟩
  · obtain ⟨q1, q2, q3, q4, q5⟩ := h.s2 g hg
    exact ⟨q2, by omega, q3, fun h0 => (h.s0 g h0).2.2.2.1 hg⟩
theorem FarC.growW {v3 : World} {n n' D B0 B1 B2 : Nat} {S0 S1 S2 : Nat → Prop} (h : FarC v3 n D B0 B1 B2 S0 S1 S2) (hn : n ≤ n') : FarC v3 n' D B0 B1 B2 S0 (fun g => S1 g ∨ (n ≤ g ∧ g < n')) S2 := by
  have hb0 := h.b0
  have hb1 := h.b1
  have hb2 := h.b2
  refine ⟨fun g hg => ?_, fun g hg => ?_, fun g hg => ?_, h.d2, ⟨hb0.1, by omega⟩, ⟨hb1.1, by omega⟩, ⟨hb2.1, by omega⟩, h.bb⟩
  · obtain ⟨q1, q2, q3, q4, q5⟩ := h.s0 g hg
    exact ⟨q1, by omega, fun h1 => h1.elim q3 (fun h1 => by omega), q4, q5⟩
  · rcases hg with hg | hg
    · obtain ⟨q1, q2, q3⟩ := h.s1 g hg
      exact ⟨q1, by omega, q3⟩
    · exact ⟨by omega, hg.2, fun h2 => by have := (h.s2 g h2).2.1; omega, by omega, by omega, by omega⟩
  · obtain ⟨q1, q2, q3⟩ := h.s2 g hg
    exact ⟨q1, by omega, q3⟩
theorem FarC.growT {v3 : World} {n n' D B0 B1 B2 : Nat} {S0 S1 S2 : Nat → Prop} (h : FarC v3 n D B0 B1 B2 S0 S1 S2) (hn : n ≤ n') : FarC v3 n' D B0 B1 B2 (fun g => S0 g ∨ (n ≤ g ∧ g < n')) S1 S2 := by
  have hb0 := h.b0
  have hb1 := h.b1
  have hb2 := h.b2
  refine ⟨fun g hg => ?_, fun g hg => ?_, fun g hg => ?_, h.d2, ⟨hb0.1, by omega⟩, ⟨hb1.1, by omega⟩, ⟨hb2.1, by omega⟩, h.bb⟩
  · rcases hg with hg | hg
    · obtain ⟨q1, q2, q3⟩ := h.s0 g hg
      exact ⟨q1, by omega, q3⟩
    · exact ⟨by omega, hg.2, fun h1 => by have := (h.s1 g h1).2.1; omega, fun h2 => by have := (h.s2 g h2).2.1; omega, by omega, by omega, by omega⟩
  · obtain ⟨q1, q2, q3⟩ := h.s1 g hg
    exact ⟨q1, by omega, q3⟩
  · obtain ⟨q1, q2, q3⟩ := h.s2 g hg
    exact ⟨q1, by omega, q3⟩
end Go.Proofs.YtopjjcgmcieboaaGreatDoor

namespace Go.Proofs.YtopjjcgmcieboaaGreatDoor
open Go.RowKit

noncomputable def reg5_11 : Code := ((Tryz.f5.body.bind (regA 11)).getD .skip)
noncomputable def reg5_12 : Code := ((Tryz.f5.body.bind (regA 12)).getD .skip)
/-- Simple operations of region 11: what they yield. -/
def sim11 (tw : TV) (T D B xa m : Nat) (i : Nat) : Value :=
  if i = 1 then .slice tw.ways.a tw.ways.l.length tw.ways.c else if i = 2 ∨ i = 3 then .int .i64 (xa : Int) else if i = 4 then .int .i64 ((xa : Int) + 1) else if i = 5 then .pointer (some ⟨T, 0, none⟩) else if i = 6 then .int .i64 (tw.P : Int) else if i = 7 then .int .i64 (m : Int) else if i = 8 then .pointer (some ⟨D, 0, none⟩) else .pointer (some ⟨B, 1, none⟩)
structure Inv11 (R : World → Prop) (S S' : Nat → Prop) (tw : TV) (T D B xa m : Nat) (a2 : Option Addr) (n2 c2 k2 : Nat) (y b g cap k' : Nat) (L : Nat → Prop) (x : Nat → Value) (V : World) : Prop where
  sim : ∀ i, i ≠ 9 → i ≠ 10 → i ≠ 11 → i ≠ 12 → i ≠ 14 → L i → x i = sim11 tw T D B xa m i
  rest : R V
  deck : IsDeck V D a2 n2 c2 k' ∧ k' ≤ k2 + 1 ∧ (¬ L 9 → k' ≤ k2)
  d9 : L 9 → x 9 = .int .i64 (y : Int) ∧ y ≤ 7
  d10 : L 10 → x 10 = .agg #[.int .i64 (xa : Int), .int .i64 (m : Int), .int .i64 (y : Int)]
  d11 : L 11 → x 11 = .slice (some ⟨b, 0, none⟩) 1 1
  blk : L 11 → ¬ L 12 → V.heap[b]? = some (.cells #[.int .i64 (xa : Int), .int .i64 (m : Int), .int .i64 (y : Int)] 59)
  own : ¬ L 12 → OwnS S V tw
  d12 : L 12 → x 12 = .slice (some ⟨g, 0, none⟩) (tw.ways.l.length + 1) cap ∧ OwnS S' V (withWay tw (some ⟨g, 0, none⟩) cap (xa, m, y))
  box : ¬ L 14 → TBox V B tw
  d14 : L 14 → TBox V B (withWay tw (some ⟨g, 0, none⟩) cap (xa, m, y))
section
variable {R : World → Prop} {S S' : Nat → Prop} {tw : TV} {T D B xa m : Nat} {a2 : Option Addr} {n2 c2 k2 y b g cap k' : Nat} {L : Nat → Prop} {x : Nat → Value} {V V' : World}
theorem Inv11.simple (h : Inv11 R S S' tw T D B xa m a2 n2 c2 k2 y b g cap k' L x V) (i : Nat) (h9 : i ≠ 9) (h10 : i ≠ 10) (h11 : i ≠ 11) (h12 : i ≠ 12) (h14 : i ≠ 14) : Inv11 R S S' tw T D B xa m a2 n2 c2 k2 y b g cap k' (fun n => n = i ∨ L n) (updV x i (sim11 tw T D B xa m i)) V := by
  have hu : ∀ n, n ≠ i → updV x i (sim11 tw T D B xa m i) n = x n := fun n hn => by unfold updV; rw [if_neg hn]
  have hl : ∀ n, n ≠ i → (n = i ∨ L n) → L n := fun n hn h => h.resolve_left hn
  refine ⟨fun n q1 q2 q3 q4 q5 hL => ?_, h.rest, ⟨h.deck.1, h.deck.2.1, fun hn => h.deck.2.2 (fun hh => hn (.inr hh))⟩, fun hL => ?_, fun hL => ?_, fun hL => ?_, fun hL hn => h.blk (hl _ (Ne.symm h11) hL) (fun hh => hn (.inr hh)), fun hn => h.own (fun hh => hn (.inr hh)), fun hL => ?_, fun hn => h.box (fun hh => hn (.inr hh)), fun hL => h.d14 (hl _ (Ne.symm h14) hL)⟩
  · by_cases e : n = i
    · subst e; unfold updV; rw [if_pos rfl]
    · rw [hu n e]; exact h.sim n q1 q2 q3 q4 q5 (hl n e hL)
  · rw [hu _ (Ne.symm h9)]; exact h.d9 (hl _ (Ne.symm h9) hL)
  · rw [hu _ (Ne.symm h10)]; exact h.d10 (hl _ (Ne.symm h10) hL)
  · rw [hu _ (Ne.symm h11)]; exact h.d11 (hl _ (Ne.symm h11) hL)
  · rw [hu _ (Ne.symm h12)]; exact h.d12 (hl _ (Ne.symm h12) hL)
theorem Inv11.draw (h : Inv11 R S S' tw T D B xa m a2 n2 c2 k2 y b g cap k' L x V) (n9 : ¬ L 9) (n10 : ¬ L 10) (n11 : ¬ L 11) (n12 : ¬ L 12) (n14 : ¬ L 14) {y' k'' : Nat} (hy : y' ≤ 7) (hd : IsDeck V' D a2 n2 c2 k'') (hk : k'' ≤ k' + 1) (hR : R V') (hO : OwnS S V' tw) (hB : TBox V' B tw) : Inv11 R S S' tw T D B xa m a2 n2 c2 k2 y' b g cap k'' (fun n => n = 9 ∨ L n) (updV x 9 (.int .i64 (y' : Int))) V' := by
  have hu : ∀ n, n ≠ 9 → updV x 9 (.int .i64 (y' : Int)) n = x n := fun n hn => by unfold updV; rw [if_neg hn]
  have := h.deck.2.2 n9
  refine ⟨fun n q1 q2 q3 q4 q5 hL => ?_, hR, ⟨hd, by omega, fun hn => (hn (.inl rfl)).elim⟩, fun hL => ⟨by unfold updV; rw [if_pos rfl], hy⟩, fun hL => (n10 (hL.resolve_left (by omega))).elim, fun hL => (n11 (hL.resolve_left (by omega))).elim, fun hL => (n11 (hL.resolve_left (by omega))).elim, fun _ => hO, fun hL => (n12 (hL.resolve_left (by omega))).elim, fun _ => hB, fun hL => (n14 (hL.resolve_left (by omega))).elim⟩
  rw [hu n q1]; exact h.sim n q1 q2 q3 q4 q5 (hL.resolve_left q1)
theorem Inv11.agg (h : Inv11 R S S' tw T D B xa m a2 n2 c2 k2 y b g cap k' L x V) (n11 : ¬ L 11) (n12 : ¬ L 12) (n14 : ¬ L 14) (l9 : L 9) : Inv11 R S S' tw T D B xa m a2 n2 c2 k2 y b g cap k' (fun n => n = 10 ∨ L n) (updV x 10 (.agg #[.int .i64 (xa : Int), .int .i64 (m : Int), .int .i64 (y : Int)])) V := by
  have hu : ∀ n, n ≠ 10 → updV x 10 (.agg #[.int .i64 (xa : Int), .int .i64 (m : Int), .int .i64 (y : Int)]) n = x n := fun n hn => by unfold updV; rw [if_neg hn]
  refine ⟨fun n q1 q2 q3 q4 q5 hL => ?_, h.rest, ⟨h.deck.1, h.deck.2.1, fun hn => (hn (.inr l9)).elim⟩, fun _ => ?_, fun _ => by unfold updV; rw [if_pos rfl], fun hL => (n11 (hL.resolve_left (by omega))).elim, fun hL => (n11 (hL.resolve_left (by omega))).elim, fun _ => h.own n12, fun hL => (n12 (hL.resolve_left (by omega))).elim, fun _ => h.box n14, fun hL => (n14 (hL.resolve_left (by omega))).elim⟩
  · rw [hu n q2]; exact h.sim n q1 q2 q3 q4 q5 (hL.resolve_left q2)
  · rw [hu 9 (by omega)]; exact h.d9 l9
theorem Inv11.new (h : Inv11 R S S' tw T D B xa m a2 n2 c2 k2 y b g cap k' L x V) (n12 : ¬ L 12) (n14 : ¬ L 14) (l9 : L 9) (l10 : L 10) (hR : R (V.alloc (.cells #[.int .i64 (xa : Int), .int .i64 (m : Int), .int .i64 (y : Int)] 59))) :
    Inv11 R S S' tw T D B xa m a2 n2 c2 k2 y V.heap.size g cap k' (fun n => n = 11 ∨ L n) (updV x 11 (.slice (some ⟨V.heap.size, 0, none⟩) 1 1)) (V.alloc (.cells #[.int .i64 (xa : Int), .int .i64 (m : Int), .int .i64 (y : Int)] 59)) := by
  have hu : ∀ n, n ≠ 11 → updV x 11 (.slice (some ⟨V.heap.size, 0, none⟩) 1 1) n = x n := fun n hn => by unfold updV; rw [if_neg hn]
  have hx : Ext V (V.alloc (.cells #[.int .i64 (xa : Int), .int .i64 (m : Int), .int .i64 (y : Int)] 59)) := (Ext.refl V).alloc _
  refine ⟨fun n q1 q2 q3 q4 q5 hL => ?_, hR, ⟨h.deck.1.ext hx, h.deck.2.1, fun hn => (hn (.inr l9)).elim⟩, fun _ => ?_, fun _ => ?_, fun _ => by unfold updV; rw [if_pos rfl], fun _ _ => World.alloc_heap_new V _, fun _ => (h.own n12).ext hx, fun hL => (n12 (hL.resolve_left (by omega))).elim, fun _ => hx.block (h.box n14), fun hL => (n14 (hL.resolve_left (by omega))).elim⟩
  · rw [hu n q3]; exact h.sim n q1 q2 q3 q4 q5 (hL.resolve_left q3)
  · rw [hu 9 (by omega)]; exact h.d9 l9
  · rw [hu 10 (by omega)]; exact h.d10 l10
theorem Inv11.app (h : Inv11 R S S' tw T D B xa m a2 n2 c2 k2 y b g cap k' L x V) (n14 : ¬ L 14) (l9 : L 9) (l10 : L 10) (l11 : L 11) {g' cap' : Nat} (hR : R V') (hD : IsDeck V' D a2 n2 c2 k') (hO : OwnS S' V' (withWay tw (some ⟨g', 0, none⟩) cap' (xa, m, y))) (hB : TBox V' B tw) :
    Inv11 R S S' tw T D B xa m a2 n2 c2 k2 y b g' cap' k' (fun n => n = 12 ∨ L n) (updV x 12 (.slice (some ⟨g', 0, none⟩) (tw.ways.l.length + 1) cap')) V' := by
  have hu : ∀ n, n ≠ 12 → updV x 12 (.slice (some ⟨g', 0, none⟩) (tw.ways.l.length + 1) cap') n = x n := fun n hn => by unfold updV; rw [if_neg hn]
  refine ⟨fun n q1 q2 q3 q4 q5 hL => ?_, hR, ⟨hD, h.deck.2.1, fun hn => (hn (.inr l9)).elim⟩, fun _ => ?_, fun _ => ?_, fun _ => ?_, fun _ hn => (hn (.inl rfl)).elim, fun hn => (hn (.inl rfl)).elim, fun _ => ⟨by unfold updV; rw [if_pos rfl], hO⟩, fun _ => hB, fun hL => (n14 (hL.resolve_left (by omega))).elim⟩
  · rw [hu n q4]; exact h.sim n q1 q2 q3 q4 q5 (hL.resolve_left q4)
  · rw [hu 9 (by omega)]; exact h.d9 l9
  · rw [hu 10 (by omega)]; exact h.d10 l10
  · rw [hu 11 (by omega)]; exact h.d11 l11
theorem Inv11.put (h : Inv11 R S S' tw T D B xa m a2 n2 c2 k2 y b g cap k' L x V) (l9 : L 9) (l10 : L 10) (l11 : L 11) (l12 : L 12) (n14 : ¬ L 14) (hne : B ≠ D) (hby : ∀ z off, a2 = some ⟨z, off, none⟩ → 0 < n2 → z ≠ B) (hR : R (V.setCell ⟨B, 1, none⟩ (.slice (some ⟨g, 0, none⟩) (tw.ways.l.length + 1) cap))) :
    Inv11 R S S' tw T D B xa m a2 n2 c2 k2 y b g cap k' (fun n => n = 14 ∨ L n) x (V.setCell ⟨B, 1, none⟩ (.slice (some ⟨g, 0, none⟩) (tw.ways.l.length + 1) cap)) := by
  have hb := h.box n14
  obtain ⟨r1, r2⟩ := h.d12 l12
  refine ⟨fun n q1 q2 q3 q4 q5 hL => h.sim n q1 q2 q3 q4 q5 (hL.resolve_left q5), hR, ⟨h.deck.1.set B 1 _ hne hby, h.deck.2.1, fun hn => (hn (.inr l9)).elim⟩, fun _ => h.d9 l9, fun _ => h.d10 l10, fun _ => h.d11 l11, fun _ hn => (hn (.inr l12)).elim, fun hn => (hn (.inr l12)).elim, fun _ => ⟨r1, ?_⟩, fun hn => (hn (.inl rfl)).elim, fun _ => ?_⟩
  · exact ⟨r2.ways.other hb (by decide), r2.words.other hb (by decide), fun z hz => ⟨(r2.word z hz).1.other hb (by decide), fun u hu => ⟨((r2.word z hz).2 u hu).1.other hb (by decide), ((r2.word z hz).2 u hu).2.other hb (by decide)⟩⟩, r2.apart, r2.starts.other hb (by decide), r2.legs.other hb (by decide)⟩
  · have := heap_setCell_same hb (i := 1) (.slice (some ⟨g, 0, none⟩) (tw.ways.l.length + 1) cap)
    show _ = some (Obj.cells #[.int .i64 (tw.P : Int), .slice (some ⟨g, 0, none⟩) (tw.ways.l ++ [(xa, m, y)]).length cap, .slice tw.words.a tw.words.l.length tw.words.c, .slice tw.starts.a tw.starts.l.length tw.starts.c, .slice tw.legs.a tw.legs.l.length tw.legs.c] 28 (0, 0))
    rw [List.length_append]
    exact this
end

set_option maxRecDepth 1000000 in
set_option maxHeartbeats 8000000 in
theorem more_region11 {u0 u1 u2 u3 u4 u7 u8 u9 u10 u11 u12 u14 u15 u17 u18 u19 u20 u21 u22 u23 u24 u25 u26 u27 u28 u29 u30 u31 u32 u33 u34 u35 u36 u37 u38 u39 u40 u41 u42 u43 u44 u45 u46 u47 u48 u49 u50 u51 u52 u53 u54 u55 u56 u57 u58 u59 u60 u61 u62 u63 u64 u65 u66 u67 u68 u69 u70 u71 u72 u73 u74 u75 u76 u77 u78 u79 u80 u81 u82 u83 u84 u85 u86 u87 u88 u89 u90 u91 u92 u93 u94 u95 u96 u97 u98 u99 u100 u101 u102 u103 u104 u105 u106 u107 u108 u109 u110 u111 u112 u113 u114 u115 u116 u117 u118 u119 u120 u121 u122 u123 u124 u125 u126 u127 u128 u129 u130 u131 u132 u133 u134 u135 u136 u137 u138 u139 u140 u141 u142 u143 u144 u145 u146 u147 u148 u149 u150 u151 u152 u153 u154 u155 u156 u157 u158 u159 u160 u161 u162 u163 u164 u165 u166 u167 u168 u169 u170 u171 u172 u173 u174 u175 u176 u177 u178 u179 u180 u181 u182 u183 u184 u185 u186 u187 u188 u189 u190 u191 u192 u193 u194 u195 u196 u197 u198 u199 u200 u201 u202 u203 u204 u205 u206 u207 u208 u209 u210 u211 u212 u213 u214 u215 u216 u217 u218 u219 u220 u221 u222 u223 u224 u225 u226 u227 u228 u229 u230 u231 u232 u233 u234 u235 u236 u237 u238 u239 u240 u241 u242 u243 u244 u245 u246 u247 u248 u249 u250 u251 u252 : Value} {Q : Exit → Act → World → Prop} (v : World) (R : World → Prop) (T D B1 n : Nat) (S1 S1' : Nat → Prop) (tw : TV) (xa m : Nat) (a2 : Option Addr) (n2 c2 k2 : Nat)
    (HR : Hid (R v)) (HRX : Hid (∀ V V', R V → Keep (Off n D B1 S1) V V' → R V')) (HRT : Hid (∀ V, R V → V.cell? ⟨T, 0, none⟩ = some (.int .i64 (tw.P : Int)) ∧ n ≤ V.heap.size)) (HO : Hid (OwnS S1 v tw)) (HB : Hid (TBox v B1 tw)) (HD : Hid (IsDeck v D a2 n2 c2 k2)) (hk2 : k2 ≤ 1300)
    (HS : Hid ((∀ z, S1 z → S1' z) ∧ (∀ z, n ≤ z → S1' z) ∧ ∀ z, S1 z → n > z ∧ z ≠ D ∧ z ≠ B1 ∧ ∀ z' off, a2 = some ⟨z', off, none⟩ → 0 < n2 → z' ≠ z)) (HBD : Hid (B1 ≠ D ∧ B1 < n ∧ ∀ z off, a2 = some ⟨z, off, none⟩ → 0 < n2 → z ≠ B1 ∧ z < n)) (hx : xa < tw.P) (hP : tw.P ≤ 12) (hP1 : 1 ≤ tw.P) (hm : m < tw.P) (HMd : Hid (((xa : Int) + ((1 : Nat) : Int)).tmod (tw.P : Int) = (m : Int))) (hw : tw.ways.l.length ≤ 39)
    (HQ : Hid (∀ (x : Nat → Value) (y g cap k' : Nat) (V : World), R V → OwnS S1' V (withWay tw (some ⟨g, 0, none⟩) cap (xa, m, y)) → TBox V B1 (withWay tw (some ⟨g, 0, none⟩) cap (xa, m, y)) → IsDeck V D a2 n2 c2 k' → k' ≤ k2 + 1 → y ≤ 7 → Q .normal ⟨#[u0, u1, u2, u3, u4, .pointer (some ⟨T, 0, none⟩), .pointer (some ⟨D, 0, none⟩), u7, u8, u9, u10, u11, u12, .pointer (some ⟨B1, 0, none⟩), u14, u15, .int .i64 (xa : Int), u17, u18, u19, u20, u21, u22, u23, u24, u25, u26, u27, u28, u29, u30, u31, u32, u33, u34, u35, u36, u37, u38, u39, u40, u41, u42, u43, u44, u45, u46, u47, u48, u49, u50, u51, u52, u53, u54, u55, u56, u57, u58, u59, u60, u61, u62, u63, u64, u65, u66, u67, u68, u69, u70, u71, u72, u73, u74, u75, u76, u77, u78, u79, u80, u81, u82, u83, u84, u85, u86, u87, u88, x 0, x 1, x 2, x 3, x 4, x 5, x 6, x 7, x 8, x 9, x 10, x 11, x 12, x 13, u103, u104, u105, u106, u107, u108, u109, u110, u111, u112, u113, u114, u115, u116, u117, u118, u119, u120, u121, u122, u123, u124, u125, u126, u127, u128, u129, u130, u131, u132, u133, u134, u135, u136, u137, u138, u139, u140, u141, u142, u143, u144, u145, u146, u147, u148, u149, u150, u151, u152, u153, u154, u155, u156, u157, u158, u159, u160, u161, u162, u163, u164, u165, u166, u167, u168, u169, u170, u171, u172, u173, u174, u175, u176, u177, u178, u179, u180, u181, u182, u183, u184, u185, u186, u187, u188, u189, u190, u191, u192, u193, u194, u195, u196, u197, u198, u199, u200, u201, u202, u203, u204, u205, u206, u207, u208, u209, u210, u211, u212, u213, u214, u215, u216, u217, u218, u219, u220, u221, u222, u223, u224, u225, u226, u227, u228, u229, u230, u231, u232, u233, u234, u235, u236, u237, u238, u239, u240, u241, u242, u243, u244, u245, u246, u247, u248, u249, u250, u251, u252], []⟩ V)) :
    Code.wp Tryz.prog reg5_11 Q ⟨#[u0, u1, u2, u3, u4, .pointer (some ⟨T, 0, none⟩), .pointer (some ⟨D, 0, none⟩), u7, u8, u9, u10, u11, u12, .pointer (some ⟨B1, 0, none⟩), u14, u15, .int .i64 (xa : Int), u17, u18, u19, u20, u21, u22, u23, u24, u25, u26, u27, u28, u29, u30, u31, u32, u33, u34, u35, u36, u37, u38, u39, u40, u41, u42, u43, u44, u45, u46, u47, u48, u49, u50, u51, u52, u53, u54, u55, u56, u57, u58, u59, u60, u61, u62, u63, u64, u65, u66, u67, u68, u69, u70, u71, u72, u73, u74, u75, u76, u77, u78, u79, u80, u81, u82, u83, u84, u85, u86, u87, u88, u89, u90, u91, u92, u93, u94, u95, u96, u97, u98, u99, u100, u101, u102, u103, u104, u105, u106, u107, u108, u109, u110, u111, u112, u113, u114, u115, u116, u117, u118, u119, u120, u121, u122, u123, u124, u125, u126, u127, u128, u129, u130, u131, u132, u133, u134, u135, u136, u137, u138, u139, u140, u141, u142, u143, u144, u145, u146, u147, u148, u149, u150, u151, u152, u153, u154, u155, u156, u157, u158, u159, u160, u161, u162, u163, u164, u165, u166, u167, u168, u169, u170, u171, u172, u173, u174, u175, u176, u177, u178, u179, u180, u181, u182, u183, u184, u185, u186, u187, u188, u189, u190, u191, u192, u193, u194, u195, u196, u197, u198, u199, u200, u201, u202, u203, u204, u205, u206, u207, u208, u209, u210, u211, u212, u213, u214, u215, u216, u217, u218, u219, u220, u221, u222, u223, u224, u225, u226, u227, u228, u229, u230, u231, u232, u233, u234, u235, u236, u237, u238, u239, u240, u241, u242, u243, u244, u245, u246, u247, u248, u249, u250, u251, u252], []⟩ v := by
  conv => arg 2; whnf
  obtain ⟨i81, hi81, hz81, hs81, hb81⟩ := info_parts info59
  have hw1 : IntKind.i64.wrap ((xa : Int) + 1) = (xa : Int) + 1 := IntWalk.i64_in _ (by omega)
  have hw2 : IntKind.i64.wrap (m : Int) = (m : Int) := IntWalk.i64_in _ (by omega)
  have hm3 : ((xa : Int) + 1).tmod (tw.P : Int) = (m : Int) := HMd.out
  have hPne : ¬ tw.P = 0 := by omega
  have hDne : ∀ V V' : World, DExt D V V' → Keep (Off n D B1 S1) V V' := fun V V' h => off_dext h
  have HDn := Lib.hid hDne; clear hDne
  have HW1 := Lib.hid hw1
  have HW2 := Lib.hid hw2
  have HM3 := Lib.hid hm3
  clear hw1 hw2 hm3
  refine wp_region_inv2 (by kernel_rfl) (by kernel_rfl) (fun L a w => ∃ (x : Nat → Value) (y b g cap k' : Nat), a = ⟨#[u0, u1, u2, u3, u4, .pointer (some ⟨T, 0, none⟩), .pointer (some ⟨D, 0, none⟩), u7, u8, u9, u10, u11, u12, .pointer (some ⟨B1, 0, none⟩), u14, u15, .int .i64 (xa : Int), u17, u18, u19, u20, u21, u22, u23, u24, u25, u26, u27, u28, u29, u30, u31, u32, u33, u34, u35, u36, u37, u38, u39, u40, u41, u42, u43, u44, u45, u46, u47, u48, u49, u50, u51, u52, u53, u54, u55, u56, u57, u58, u59, u60, u61, u62, u63, u64, u65, u66, u67, u68, u69, u70, u71, u72, u73, u74, u75, u76, u77, u78, u79, u80, u81, u82, u83, u84, u85, u86, u87, u88, x 0, x 1, x 2, x 3, x 4, x 5, x 6, x 7, x 8, x 9, x 10, x 11, x 12, x 13, u103, u104, u105, u106, u107, u108, u109, u110, u111, u112, u113, u114, u115, u116, u117, u118, u119, u120, u121, u122, u123, u124, u125, u126, u127, u128, u129, u130, u131, u132, u133, u134, u135, u136, u137, u138, u139, u140, u141, u142, u143, u144, u145, u146, u147, u148, u149, u150, u151, u152, u153, u154, u155, u156, u157, u158, u159, u160, u161, u162, u163, u164, u165, u166, u167, u168, u169, u170, u171, u172, u173, u174, u175, u176, u177, u178, u179, u180, u181, u182, u183, u184, u185, u186, u187, u188, u189, u190, u191, u192, u193, u194, u195, u196, u197, u198, u199, u200, u201, u202, u203, u204, u205, u206, u207, u208, u209, u210, u211, u212, u213, u214, u215, u216, u217, u218, u219, u220, u221, u222, u223, u224, u225, u226, u227, u228, u229, u230, u231, u232, u233, u234, u235, u236, u237, u238, u239, u240, u241, u242, u243, u244, u245, u246, u247, u248, u249, u250, u251, u252], []⟩ ∧ Inv11 R S1 S1' tw T D B1 xa m a2 n2 c2 k2 y b g cap k' L x w) ?_ ?_ ?_
  · refine ⟨fun n => if n = 0 then u89 else if n = 1 then u90 else if n = 2 then u91 else if n = 3 then u92 else if n = 4 then u93 else if n = 5 then u94 else if n = 6 then u95 else if n = 7 then u96 else if n = 8 then u97 else if n = 9 then u98 else if n = 10 then u99 else if n = 11 then u100 else if n = 12 then u101 else u102, 0, 0, 0, 0, k2, rfl, fun _ _ _ _ _ _ h => h.elim, HRX.out _ _ HR.out (Keep.of_ext (Ext.refl v).drew), ⟨HD.out.ext (Ext.refl v).drew, by omega, fun _ => Nat.le_refl _⟩, fun h => h.elim, fun h => h.elim, fun h => h.elim, fun h => h.elim, fun _ => HO.out.ext (Ext.refl v).drew, fun h => h.elim, fun _ => (Ext.refl v).drew.block HB.out, fun h => h.elim⟩
  · rintro L act V i o ⟨x, y, b, g, cap, k', rfl, hI⟩ hcl hn ho hwait
    have hi : i < 15 := (Array.getElem?_eq_some_iff.1 ho).1
    have HI := Lib.hid hI
    have HNo := Lib.hid hn
    have HCl := Lib.hid hcl
    clear hI hn hcl
    obtain rfl | rfl | rfl | rfl | rfl | rfl | rfl | rfl | rfl | rfl | rfl | rfl | rfl | rfl | rfl : i = 0 ∨ i = 1 ∨ i = 2 ∨ i = 3 ∨ i = 4 ∨ i = 5 ∨ i = 6 ∨ i = 7 ∨ i = 8 ∨ i = 9 ∨ i = 10 ∨ i = 11 ∨ i = 12 ∨ i = 13 ∨ i = 14 := by omega
    all_goals (simp only [List.getElem?_toArray, List.getElem?_cons_zero, List.getElem?_cons_succ, Option.some.injEq] at ho)
    · subst ho
      clear hwait
      refine wpOp_step rfl (fun K' hK => ?_)
      have HKK := Lib.hid hK
      clear hK
      go_simp
      refine HKK.out _ _ ⟨updV x 0 (sim11 tw T D B1 xa m 0), y, b, g, cap, k', rfl, ?_⟩
      exact HI.out.simple 0 (by omega) (by omega) (by omega) (by omega) (by omega)
    · subst ho
      have l0 : L 0 := hwait { on := 0, ground := Ground.data } (by simp) rfl
      have e0 : x 0 = .pointer (some ⟨B1, 1, none⟩) := HI.out.sim 0 (by omega) (by omega) (by omega) (by omega) (by omega) l0
      have E0 := Lib.hid e0
      have L0 := Lib.hid l0
      clear hwait l0
      refine wpOp_step rfl (fun K' hK => ?_)
      have HKK := Lib.hid hK
      clear hK
      rw [e0]
      clear e0
      obtain ⟨f0, f1, f2, f3, f4⟩ := TBox.five5 (HI.out.box (fun h => HNo.out (HCl.out 12 _ (HCl.out 14 _ h rfl { on := 12, ground := Ground.data } (by simp) rfl) rfl { on := 1, ground := Ground.data } (by simp) rfl)))
      go_simp
      refine HKK.out _ _ ⟨updV (updV x 0 (.pointer (some ⟨B1, 1, none⟩))) 1 (sim11 tw T D B1 xa m 1), y, b, g, cap, k', rfl, ?_⟩
      rw [updV_self E0.out]
      exact HI.out.simple 1 (by omega) (by omega) (by omega) (by omega) (by omega)
    · subst ho
      clear hwait
      refine wpOp_step rfl (fun K' hK => ?_)
      have HKK := Lib.hid hK
      clear hK
      go_simp
      refine HKK.out _ _ ⟨updV x 2 (sim11 tw T D B1 xa m 2), y, b, g, cap, k', rfl, ?_⟩
      exact HI.out.simple 2 (by omega) (by omega) (by omega) (by omega) (by omega)
    · subst ho
      clear hwait
      refine wpOp_step rfl (fun K' hK => ?_)
      have HKK := Lib.hid hK
      clear hK
      go_simp
      refine HKK.out _ _ ⟨updV x 3 (sim11 tw T D B1 xa m 3), y, b, g, cap, k', rfl, ?_⟩
      exact HI.out.simple 3 (by omega) (by omega) (by omega) (by omega) (by omega)
    · subst ho
      have l3 : L 3 := hwait { on := 3, ground := Ground.data } (by simp) rfl
      have e3 : x 3 = .int .i64 (xa : Int) := HI.out.sim 3 (by omega) (by omega) (by omega) (by omega) (by omega) l3
      have E3 := Lib.hid e3
      have L3 := Lib.hid l3
      clear hwait l3
      refine wpOp_step rfl (fun K' hK => ?_)
      have HKK := Lib.hid hK
      clear hK
      rw [e3]
      clear e3
      have hw1 := HW1.out
      go_simp
      refine HKK.out _ _ ⟨updV (updV x 3 (.int .i64 (xa : Int))) 4 (sim11 tw T D B1 xa m 4), y, b, g, cap, k', rfl, ?_⟩
      rw [updV_self E3.out]
      exact HI.out.simple 4 (by omega) (by omega) (by omega) (by omega) (by omega)
    · subst ho
      clear hwait
      refine wpOp_step rfl (fun K' hK => ?_)
      have HKK := Lib.hid hK
      clear hK
      go_simp
      refine HKK.out _ _ ⟨updV x 5 (sim11 tw T D B1 xa m 5), y, b, g, cap, k', rfl, ?_⟩
      exact HI.out.simple 5 (by omega) (by omega) (by omega) (by omega) (by omega)
    · subst ho
      have l5 : L 5 := hwait { on := 5, ground := Ground.data } (by simp) rfl
      have e5 : x 5 = .pointer (some ⟨T, 0, none⟩) := HI.out.sim 5 (by omega) (by omega) (by omega) (by omega) (by omega) l5
      have E5 := Lib.hid e5
      have L5 := Lib.hid l5
      clear hwait l5
      refine wpOp_step rfl (fun K' hK => ?_)
      have HKK := Lib.hid hK
      clear hK
      rw [e5]
      clear e5
      have cP := (HRT.out V HI.out.rest).1
      go_simp
      refine HKK.out _ _ ⟨updV (updV x 5 (.pointer (some ⟨T, 0, none⟩))) 6 (sim11 tw T D B1 xa m 6), y, b, g, cap, k', rfl, ?_⟩
      rw [updV_self E5.out]
      exact HI.out.simple 6 (by omega) (by omega) (by omega) (by omega) (by omega)
    · subst ho
      have l4 : L 4 := hwait { on := 4, ground := Ground.data } (by simp) rfl
      have l6 : L 6 := hwait { on := 6, ground := Ground.data } (by simp) rfl
      have e4 : x 4 = .int .i64 ((xa : Int) + 1) := HI.out.sim 4 (by omega) (by omega) (by omega) (by omega) (by omega) l4
      have e6 : x 6 = .int .i64 (tw.P : Int) := HI.out.sim 6 (by omega) (by omega) (by omega) (by omega) (by omega) l6
      have E4 := Lib.hid e4
      have L4 := Lib.hid l4
      have E6 := Lib.hid e6
      have L6 := Lib.hid l6
      clear hwait l4 l6
      refine wpOp_step rfl (fun K' hK => ?_)
      have HKK := Lib.hid hK
      clear hK
      rw [e4]
      clear e4
      rw [e6]
      clear e6
      have hm3 := HM3.out
      have hw2 := HW2.out
      go_simp
      refine HKK.out _ _ ⟨updV (updV (updV x 4 (.int .i64 ((xa : Int) + 1))) 6 (.int .i64 (tw.P : Int))) 7 (sim11 tw T D B1 xa m 7), y, b, g, cap, k', rfl, ?_⟩
      rw [updV_self E4.out, updV_self E6.out]
      exact HI.out.simple 7 (by omega) (by omega) (by omega) (by omega) (by omega)
    · subst ho
      clear hwait
      refine wpOp_step rfl (fun K' hK => ?_)
      have HKK := Lib.hid hK
      clear hK
      go_simp
      refine HKK.out _ _ ⟨updV x 8 (sim11 tw T D B1 xa m 8), y, b, g, cap, k', rfl, ?_⟩
      exact HI.out.simple 8 (by omega) (by omega) (by omega) (by omega) (by omega)
    · subst ho
      have l8 : L 8 := hwait { on := 8, ground := Ground.data } (by simp) rfl
      have e8 : x 8 = .pointer (some ⟨D, 0, none⟩) := HI.out.sim 8 (by omega) (by omega) (by omega) (by omega) (by omega) l8
      have E8 := Lib.hid e8
      have L8 := Lib.hid l8
      have N9 : Hid (¬ L 9) := HNo.out
      have N10 : Hid (¬ L 10) := fun h => N9.out (HCl.out 10 _ h rfl { on := 9, ground := Ground.data } (by simp) rfl)
      have N11 : Hid (¬ L 11) := fun h => N10.out (HCl.out 11 _ h rfl { on := 10, ground := Ground.data } (by simp) rfl)
      have N12 : Hid (¬ L 12) := fun h => N11.out (HCl.out 12 _ h rfl { on := 11, ground := Ground.data } (by simp) rfl)
      have N14 : Hid (¬ L 14) := fun h => N12.out (HCl.out 14 _ h rfl { on := 12, ground := Ground.data } (by simp) rfl)
      clear hwait l8
      refine wpOp_step rfl (fun K' hK => ?_)
      have HKK := Lib.hid hK
      clear hK
      rw [e8]
      clear e8
      go_simp
      go_at_call 26
      refine (draw_any D a2 n2 c2 k' 4 V HI.out.deck.1 (by have := HI.out.deck.2.1; omega) (by omega)).mono ?_
      rintro e V2 ⟨r, k1, hr, hk1, rfl, hd1, hg1⟩
      have hx1 : DExt D V V2 := hg1
      have hB1 := HBD.out.1
      refine HKK.out _ _ ⟨updV (updV x 8 (.pointer (some ⟨D, 0, none⟩))) 9 (.int .i64 (r : Int)), r, b, g, cap, k1, rfl, ?_⟩
      rw [updV_self E8.out]
      refine HI.out.draw N9.out N10.out N11.out N12.out N14.out (by omega) hd1 hk1 (HRX.out _ _ HI.out.rest (HDn.out _ _ hx1)) ((HI.out.own N12.out).keep (keep_dext (S := fun _ => False) hx1) (fun z _ hz => ⟨(HS.out.2.2 z hz).2.1, fun h => h⟩)) ?_
      have h1 := HI.out.box N14.out
      exact (hx1.block B1 (Array.getElem?_eq_some_iff.1 h1).1 (by simp; exact hB1)).trans h1
    · subst ho
      have l2 : L 2 := hwait { on := 2, ground := Ground.data } (by simp) rfl
      have l7 : L 7 := hwait { on := 7, ground := Ground.data } (by simp) rfl
      have l9 : L 9 := hwait { on := 9, ground := Ground.data } (by simp) rfl
      have e2 : x 2 = .int .i64 (xa : Int) := HI.out.sim 2 (by omega) (by omega) (by omega) (by omega) (by omega) l2
      have e7 : x 7 = .int .i64 (m : Int) := HI.out.sim 7 (by omega) (by omega) (by omega) (by omega) (by omega) l7
      have e9 : x 9 = .int .i64 (y : Int) := (HI.out.d9 l9).1
      have E2 := Lib.hid e2
      have L2 := Lib.hid l2
      have E7 := Lib.hid e7
      have L7 := Lib.hid l7
      have E9 := Lib.hid e9
      have L9 := Lib.hid l9
      have N10 : Hid (¬ L 10) := HNo.out
      have N11 : Hid (¬ L 11) := fun h => N10.out (HCl.out 11 _ h rfl { on := 10, ground := Ground.data } (by simp) rfl)
      have N12 : Hid (¬ L 12) := fun h => N11.out (HCl.out 12 _ h rfl { on := 11, ground := Ground.data } (by simp) rfl)
      have N14 : Hid (¬ L 14) := fun h => N12.out (HCl.out 14 _ h rfl { on := 12, ground := Ground.data } (by simp) rfl)
      clear hwait l2 l7 l9
      refine wpOp_step rfl (fun K' hK => ?_)
      have HKK := Lib.hid hK
      clear hK
      rw [e2]
      clear e2
      rw [e7]
      clear e7
      rw [e9]
      clear e9
      go_simp
      refine HKK.out _ _ ⟨updV (updV (updV (updV x 2 (.int .i64 (xa : Int))) 7 (.int .i64 (m : Int))) 9 (.int .i64 (y : Int))) 10 (.agg #[.int .i64 (xa : Int), .int .i64 (m : Int), .int .i64 (y : Int)]), y, b, g, cap, k', rfl, ?_⟩
      rw [updV_self E2.out, updV_self E7.out, updV_self E9.out]
      exact HI.out.agg N11.out N12.out N14.out L9.out
    · subst ho
      have l10 : L 10 := hwait { on := 10, ground := Ground.data } (by simp) rfl
      have e10 : x 10 = .agg #[.int .i64 (xa : Int), .int .i64 (m : Int), .int .i64 (y : Int)] := HI.out.d10 l10
      have E10 := Lib.hid e10
      have L10 := Lib.hid l10
      have N11 : Hid (¬ L 11) := HNo.out
      have N12 : Hid (¬ L 12) := fun h => N11.out (HCl.out 12 _ h rfl { on := 11, ground := Ground.data } (by simp) rfl)
      have N14 : Hid (¬ L 14) := fun h => N12.out (HCl.out 14 _ h rfl { on := 12, ground := Ground.data } (by simp) rfl)
      have L9 : Hid (L 9) := HCl.out 10 _ L10.out rfl { on := 9, ground := Ground.data } (by simp) rfl
      clear hwait l10
      refine wpOp_step rfl (fun K' hK => ?_)
      have HKK := Lib.hid hK
      clear hK
      rw [e10]
      clear e10
      go_simp
      refine HKK.out _ _ ⟨updV (updV x 10 (.agg #[.int .i64 (xa : Int), .int .i64 (m : Int), .int .i64 (y : Int)])) 11 (.slice (some ⟨V.heap.size, 0, none⟩) 1 1), y, V.heap.size, g, cap, k', rfl, ?_⟩
      rw [updV_self E10.out]
      exact HI.out.new N12.out N14.out L9.out L10.out (HRX.out _ _ HI.out.rest (Keep.of_ext ((Ext.refl V).alloc _)))
    · subst ho
      have l1 : L 1 := hwait { on := 1, ground := Ground.data } (by simp) rfl
      have l11 : L 11 := hwait { on := 11, ground := Ground.data } (by simp) rfl
      have e1 : x 1 = .slice tw.ways.a tw.ways.l.length tw.ways.c := HI.out.sim 1 (by omega) (by omega) (by omega) (by omega) (by omega) l1
      have e11 : x 11 = .slice (some ⟨b, 0, none⟩) 1 1 := HI.out.d11 l11
      have E1 := Lib.hid e1
      have L1 := Lib.hid l1
      have E11 := Lib.hid e11
      have L11 := Lib.hid l11
      have N12 : Hid (¬ L 12) := HNo.out
      have N14 : Hid (¬ L 14) := fun h => N12.out (HCl.out 14 _ h rfl { on := 12, ground := Ground.data } (by simp) rfl)
      have L10 : Hid (L 10) := HCl.out 11 _ L11.out rfl { on := 10, ground := Ground.data } (by simp) rfl
      have L9 : Hid (L 9) := HCl.out 10 _ L10.out rfl { on := 9, ground := Ground.data } (by simp) rfl
      clear hwait l1 l11
      refine wpOp_step rfl (fun K' hK => ?_)
      have HKK := Lib.hid hK
      clear hK
      rw [e1]
      clear e1
      rw [e11]
      clear e11
      have hown := HI.out.own N12.out
      have hblk := HI.out.blk L11.out N12.out
      have hV := (HRT.out V HI.out.rest).2
      refine step_append_lies _ rfl (.tmp 90) (.tmp 100) 23 rfl 0 59 i81 (.agg #[.int .i64 0, .int .i64 0, .int .i64 0]) 3 24 Tryz.underlying23 hi81 hz81 hs81 hb81 rfl (by decide) (.slice tw.ways.a tw.ways.l.length tw.ways.c) tw.ways.l.length (flat 3 wayC tw.ways.l) ?_ hown.ways.1 ⟨b, 0, none⟩ 1 1 (flat 3 wayC [(xa, m, y)]) ?_ rfl (World.news_of_block hblk) (way_one _) (by decide) (by unfold maxLen; omega) (by omega) (Nat.zero_le _) _ rfl ?_
      · rfl
      · rfl
      · intro g1 cap1 V2 hown2 hgrow hwh hgl
        have hrow : ∀ z, (Value.slice tw.ways.a tw.ways.l.length tw.ways.c).ownBlock = some z → S1 z := hown.ways.2
        have hkp : Keep (Off n D B1 S1) V V2 := (Keep.refl _ V).grown hgrow (fun z e _ h => h.2.2.2 (hrow z e))
        have hg1 : S1' g1 := by
          rcases hwh with h | h
          · exact HS.out.1 g1 (hrow g1 h)
          · exact HS.out.2.1 g1 (by omega)
        refine HKK.out _ _ ⟨updV (updV (updV x 1 (.slice tw.ways.a tw.ways.l.length tw.ways.c)) 11 (.slice (some ⟨b, 0, none⟩) 1 1)) 12 (.slice (some ⟨g1, 0, none⟩) (tw.ways.l.length + 1) cap1), y, b, g1, cap1, k', rfl, ?_⟩
        rw [updV_self E1.out, updV_self E11.out]
        refine HI.out.app N14.out L9.out L10.out L11.out (HRX.out _ _ HI.out.rest hkp) ?_ (hown.addWay HS.out.1 hg1 hown2 hgrow) ?_
        · exact HI.out.deck.1.step hgrow (fun z e => ⟨(HS.out.2.2 z (hrow z e)).2.1, (HS.out.2.2 z (hrow z e)).2.2.2⟩)
        · have h1 := HI.out.box N14.out
          exact (hgrow.block B1 (Array.getElem?_eq_some_iff.1 h1).1 (fun e => (HS.out.2.2 B1 (hrow B1 e.symm)).2.2.1 rfl)).trans h1
    · subst ho
      clear hwait
      refine wpOp_step rfl (fun K' hK => ?_)
      have HKK := Lib.hid hK
      clear hK
      go_simp
      refine HKK.out _ _ ⟨updV x 13 (sim11 tw T D B1 xa m 13), y, b, g, cap, k', rfl, ?_⟩
      exact HI.out.simple 13 (by omega) (by omega) (by omega) (by omega) (by omega)
    · subst ho
      have l13 : L 13 := hwait { on := 13, ground := Ground.data } (by simp) rfl
      have l12 : L 12 := hwait { on := 12, ground := Ground.data } (by simp) rfl
      have e13 : x 13 = .pointer (some ⟨B1, 1, none⟩) := HI.out.sim 13 (by omega) (by omega) (by omega) (by omega) (by omega) l13
      have e12 : x 12 = .slice (some ⟨g, 0, none⟩) (tw.ways.l.length + 1) cap := (HI.out.d12 l12).1
      have E13 := Lib.hid e13
      have L13 := Lib.hid l13
      have E12 := Lib.hid e12
      have L12 := Lib.hid l12
      have L11 : Hid (L 11) := HCl.out 12 _ L12.out rfl { on := 11, ground := Ground.data } (by simp) rfl
      have L10 : Hid (L 10) := HCl.out 11 _ L11.out rfl { on := 10, ground := Ground.data } (by simp) rfl
      have L9 : Hid (L 9) := HCl.out 10 _ L10.out rfl { on := 9, ground := Ground.data } (by simp) rfl
      clear hwait l13 l12
      refine wpOp_step rfl (fun K' hK => ?_)
      have HKK := Lib.hid hK
      clear hK
      rw [e13]
      clear e13
      rw [e12]
      clear e12
      have hbx := HI.out.box HNo.out
      obtain ⟨f0, f1, f2, f3, f4⟩ := TBox.five5 hbx
      have fz : V.frozen? ⟨B1, 1, none⟩ = false := by simp [World.frozen?, show V.heap[B1]? = _ from hbx]
      clear hbx
      have hR1 := Lib.hid (HRX.out V (V.setCell ⟨B1, 1, none⟩ (.slice (some ⟨g, 0, none⟩) (tw.ways.l.length + 1) cap)) HI.out.rest ((Keep.refl _ V).setCell _ _ (fun _ h => h.2.2.1 rfl)))
      go_simp
      refine HKK.out _ _ ⟨(updV (updV x 13 (.pointer (some ⟨B1, 1, none⟩))) 12 (.slice (some ⟨g, 0, none⟩) (tw.ways.l.length + 1) cap)), y, b, g, cap, k', rfl, ?_⟩
      rw [updV_self E13.out, updV_self E12.out]
      exact HI.out.put L9.out L10.out L11.out L12.out HNo.out HBD.out.1 (fun z off h1 h2 => (HBD.out.2.2 z off h1 h2).1) hR1.out
  · rintro L act V ⟨x, y, b, g, cap, k', rfl, hI⟩ hL
    exact HQ.out x y g cap k' V hI.rest (hI.d12 (hL 12 (by decide))).2 (hI.d14 (hL 14 (by decide))) hI.deck.1 hI.deck.2.1 (hI.d9 (hL 9 (by decide))).2
end Go.Proofs.YtopjjcgmcieboaaGreatDoor

namespace Go.Proofs.YtopjjcgmcieboaaGreatDoor
open Go.RowKit

noncomputable def tail5_11 : Code := ((Tryz.f5.body.bind (tailA 11)).getD .skip)
def sim12 (P T D : Nat) (i : Nat) : Value := if i = 3 then .pointer (some ⟨T, 0, none⟩) else if i = 4 then .int .i64 (P : Int) else .pointer (some ⟨D, 0, none⟩)
structure Inv12 (v : World) (P T D : Nat) (a2 : Option Addr) (n2 c2 k2 : Nat) (y z k' : Nat) (L : Nat → Prop) (x : Nat → Value) (V : World) : Prop where
  sim : ∀ i, i ≠ 1 → i ≠ 5 → i ≠ 6 → i ≠ 7 → L i → x i = sim12 P T D i
  ext : DExt D v V
  deck : IsDeck V D a2 n2 c2 k'
  kk : k' ≤ k2 + 2 ∧ (¬ L 1 → k' ≤ k2 + 1) ∧ (¬ L 5 → k' ≤ k2 + 1) ∧ (¬ L 1 → ¬ L 5 → k' ≤ k2)
  d1 : L 1 → x 1 = .int .i64 (y : Int) ∧ y ≤ 7
  d5 : L 5 → x 5 = .int .i64 (z : Int) ∧ z < P
  d6 : L 6 → x 6 = .int .i64 (y : Int)
  d7 : L 7 → x 7 = .int .i64 (z : Int)
section
variable {v : World} {P T D : Nat} {a2 : Option Addr} {n2 c2 k2 y z k' : Nat} {L : Nat → Prop} {x : Nat → Value} {V V' : World}
theorem Inv12.put (h : Inv12 v P T D a2 n2 c2 k2 y z k' L x V) (i : Nat) (h1 : i ≠ 1) (h5 : i ≠ 5) (u : Value) (hs : i ≠ 6 → i ≠ 7 → u = sim12 P T D i) (h6 : i = 6 → u = .int .i64 (y : Int)) (h7 : i = 7 → u = .int .i64 (z : Int)) : Inv12 v P T D a2 n2 c2 k2 y z k' (fun n => n = i ∨ L n) (updV x i u) V := by
  have hu : ∀ n, n ≠ i → updV x i u n = x n := fun n hn => by unfold updV; rw [if_neg hn]
  have hi : updV x i u i = u := by unfold updV; rw [if_pos rfl]
  refine ⟨fun n q1 q2 q3 q4 hL => ?_, h.ext, h.deck, ⟨h.kk.1, fun hn => h.kk.2.1 (fun hh => hn (.inr hh)), fun hn => h.kk.2.2.1 (fun hh => hn (.inr hh)), fun hn hn2 => h.kk.2.2.2 (fun hh => hn (.inr hh)) (fun hh => hn2 (.inr hh))⟩, fun hL => ?_, fun hL => ?_, fun hL => ?_, fun hL => ?_⟩
  · by_cases e : n = i
    · subst e; rw [hi]; exact hs q3 q4
    · rw [hu n e]; exact h.sim n q1 q2 q3 q4 (hL.resolve_left e)
  · rw [hu _ (Ne.symm h1)]; exact h.d1 (hL.resolve_left (Ne.symm h1))
  · rw [hu _ (Ne.symm h5)]; exact h.d5 (hL.resolve_left (Ne.symm h5))
  · by_cases e : 6 = i
    · subst e; rw [hi]; exact h6 rfl
    · rw [hu _ e]; exact h.d6 (hL.resolve_left e)
  · by_cases e : 7 = i
    · subst e; rw [hi]; exact h7 rfl
    · rw [hu _ e]; exact h.d7 (hL.resolve_left e)
theorem Inv12.draw1 (h : Inv12 v P T D a2 n2 c2 k2 y z k' L x V) (n1 : ¬ L 1) (n6 : ¬ L 6) {y' k'' : Nat} (hy : y' ≤ 7) (hd : IsDeck V' D a2 n2 c2 k'') (hk : k'' ≤ k' + 1) (hx : DExt D V V') : Inv12 v P T D a2 n2 c2 k2 y' z k'' (fun n => n = 1 ∨ L n) (updV x 1 (.int .i64 (y' : Int))) V' := by
  have hu : ∀ n, n ≠ 1 → updV x 1 (.int .i64 (y' : Int)) n = x n := fun n hn => by unfold updV; rw [if_neg hn]
  have k1 := h.kk.2.1 n1
  refine ⟨fun n q1 q2 q3 q4 hL => ?_, h.ext.trans hx, hd, ⟨by omega, fun hn => (hn (.inl rfl)).elim, fun hn => ?_, fun hn => (hn (.inl rfl)).elim⟩, fun _ => ⟨by unfold updV; rw [if_pos rfl], hy⟩, fun hL => ?_, fun hL => (n6 (hL.resolve_left (by omega))).elim, fun hL => ?_⟩
  · rw [hu n q1]; exact h.sim n q1 q2 q3 q4 (hL.resolve_left q1)
  · have := h.kk.2.2.2 n1 (fun hh => hn (.inr hh)); omega
  · rw [hu 5 (by omega)]; exact h.d5 (hL.resolve_left (by omega))
  · rw [hu 7 (by omega)]; exact h.d7 (hL.resolve_left (by omega))
theorem Inv12.draw5 (h : Inv12 v P T D a2 n2 c2 k2 y z k' L x V) (n5 : ¬ L 5) (n7 : ¬ L 7) {z' k'' : Nat} (hz : z' < P) (hd : IsDeck V' D a2 n2 c2 k'') (hk : k'' ≤ k' + 1) (hx : DExt D V V') : Inv12 v P T D a2 n2 c2 k2 y z' k'' (fun n => n = 5 ∨ L n) (updV x 5 (.int .i64 (z' : Int))) V' := by
  have hu : ∀ n, n ≠ 5 → updV x 5 (.int .i64 (z' : Int)) n = x n := fun n hn => by unfold updV; rw [if_neg hn]
  have k1 := h.kk.2.2.1 n5
  refine ⟨fun n q1 q2 q3 q4 hL => ?_, h.ext.trans hx, hd, ⟨by omega, fun hn => ?_, fun hn => (hn (.inl rfl)).elim, fun _ hn => (hn (.inl rfl)).elim⟩, fun hL => ?_, fun _ => ⟨by unfold updV; rw [if_pos rfl], hz⟩, fun hL => ?_, fun hL => (n7 (hL.resolve_left (by omega))).elim⟩
  · rw [hu n q2]; exact h.sim n q1 q2 q3 q4 (hL.resolve_left q2)
  · have := h.kk.2.2.2 (fun hh => hn (.inr hh)) n5; omega
  · rw [hu 1 (by omega)]; exact h.d1 (hL.resolve_left (by omega))
  · rw [hu 6 (by omega)]; exact h.d6 (hL.resolve_left (by omega))
end

set_option maxRecDepth 1000000 in
set_option maxHeartbeats 8000000 in
theorem more_region12 {u0 u1 u2 u3 u4 u7 u8 u9 u10 u11 u12 u13 u14 u15 u16 u17 u18 u19 u20 u21 u22 u23 u24 u25 u26 u27 u28 u29 u30 u31 u32 u33 u34 u35 u36 u37 u38 u39 u40 u41 u42 u43 u44 u45 u46 u47 u48 u49 u50 u51 u52 u53 u54 u55 u56 u57 u58 u59 u60 u61 u62 u63 u64 u65 u66 u67 u68 u69 u70 u71 u72 u73 u74 u75 u76 u77 u78 u79 u80 u81 u82 u83 u84 u85 u86 u87 u88 u89 u90 u91 u92 u93 u94 u95 u96 u97 u98 u99 u100 u101 u102 u103 u104 u105 u106 u107 u108 u109 u110 u111 u112 u113 u114 u115 u116 u117 u118 u119 u120 u121 u122 u123 u124 u125 u126 u127 u128 u129 u130 u131 u132 u133 u134 u135 u136 u137 u138 u139 u140 u141 u142 u143 u144 u145 u146 u147 u148 u149 u150 u151 u152 u153 u154 u155 u156 u157 u158 u159 u160 u161 u162 u163 u164 u165 u166 u167 u168 u169 u170 u171 u172 u173 u174 u175 u176 u177 u178 u179 u180 u181 u182 u183 u184 u185 u186 u187 u188 u189 u190 u191 u192 u193 u194 u195 u196 u197 u198 u199 u200 u201 u202 u203 u204 u205 u206 u207 u208 u209 u210 u211 u212 u213 u214 u215 u216 u217 u218 u219 u220 u221 u222 u223 u224 u225 u226 u227 u228 u229 u230 u231 u232 u233 u234 u235 u236 u237 u238 u239 u240 u241 u242 u243 u244 u245 u246 u247 u248 u249 u250 u251 u252 : Value} {Q : Exit → Act → World → Prop} (v : World) (P T D : Nat) (a2 : Option Addr) (n2 c2 k2 : Nat) (HT : Hid (∀ V, DExt D v V → V.cell? ⟨T, 0, none⟩ = some (.int .i64 (P : Int)))) (HD : Hid (IsDeck v D a2 n2 c2 k2)) (hk2 : k2 ≤ 1300) (hP1 : 1 ≤ P) (hP : P ≤ 12)
    (HQ : Hid (∀ (x : Nat → Value) (y z k' : Nat) (V : World), x 6 = .int .i64 (y : Int) → x 7 = .int .i64 (z : Int) → y ≤ 7 → z < P → DExt D v V → IsDeck V D a2 n2 c2 k' → k' ≤ k2 + 2 → Q .normal ⟨#[u0, u1, u2, u3, u4, .pointer (some ⟨T, 0, none⟩), .pointer (some ⟨D, 0, none⟩), u7, u8, u9, u10, u11, u12, u13, u14, u15, u16, x 6, x 7, u19, u20, u21, u22, u23, u24, u25, u26, u27, u28, u29, u30, u31, u32, u33, u34, u35, u36, u37, u38, u39, u40, u41, u42, u43, u44, u45, u46, u47, u48, u49, u50, u51, u52, u53, u54, u55, u56, u57, u58, u59, u60, u61, u62, u63, u64, u65, u66, u67, u68, u69, u70, u71, u72, u73, u74, u75, u76, u77, u78, u79, u80, u81, u82, u83, u84, u85, u86, u87, u88, u89, u90, u91, u92, u93, u94, u95, u96, u97, u98, u99, u100, u101, u102, x 0, x 1, x 2, x 3, x 4, x 5, u109, u110, u111, u112, u113, u114, u115, u116, u117, u118, u119, u120, u121, u122, u123, u124, u125, u126, u127, u128, u129, u130, u131, u132, u133, u134, u135, u136, u137, u138, u139, u140, u141, u142, u143, u144, u145, u146, u147, u148, u149, u150, u151, u152, u153, u154, u155, u156, u157, u158, u159, u160, u161, u162, u163, u164, u165, u166, u167, u168, u169, u170, u171, u172, u173, u174, u175, u176, u177, u178, u179, u180, u181, u182, u183, u184, u185, u186, u187, u188, u189, u190, u191, u192, u193, u194, u195, u196, u197, u198, u199, u200, u201, u202, u203, u204, u205, u206, u207, u208, u209, u210, u211, u212, u213, u214, u215, u216, u217, u218, u219, u220, u221, u222, u223, u224, u225, u226, u227, u228, u229, u230, u231, u232, u233, u234, u235, u236, u237, u238, u239, u240, u241, u242, u243, u244, u245, u246, u247, u248, u249, u250, u251, u252], []⟩ V)) :
    Code.wp Tryz.prog reg5_12 Q ⟨#[u0, u1, u2, u3, u4, .pointer (some ⟨T, 0, none⟩), .pointer (some ⟨D, 0, none⟩), u7, u8, u9, u10, u11, u12, u13, u14, u15, u16, u17, u18, u19, u20, u21, u22, u23, u24, u25, u26, u27, u28, u29, u30, u31, u32, u33, u34, u35, u36, u37, u38, u39, u40, u41, u42, u43, u44, u45, u46, u47, u48, u49, u50, u51, u52, u53, u54, u55, u56, u57, u58, u59, u60, u61, u62, u63, u64, u65, u66, u67, u68, u69, u70, u71, u72, u73, u74, u75, u76, u77, u78, u79, u80, u81, u82, u83, u84, u85, u86, u87, u88, u89, u90, u91, u92, u93, u94, u95, u96, u97, u98, u99, u100, u101, u102, u103, u104, u105, u106, u107, u108, u109, u110, u111, u112, u113, u114, u115, u116, u117, u118, u119, u120, u121, u122, u123, u124, u125, u126, u127, u128, u129, u130, u131, u132, u133, u134, u135, u136, u137, u138, u139, u140, u141, u142, u143, u144, u145, u146, u147, u148, u149, u150, u151, u152, u153, u154, u155, u156, u157, u158, u159, u160, u161, u162, u163, u164, u165, u166, u167, u168, u169, u170, u171, u172, u173, u174, u175, u176, u177, u178, u179, u180, u181, u182, u183, u184, u185, u186, u187, u188, u189, u190, u191, u192, u193, u194, u195, u196, u197, u198, u199, u200, u201, u202, u203, u204, u205, u206, u207, u208, u209, u210, u211, u212, u213, u214, u215, u216, u217, u218, u219, u220, u221, u222, u223, u224, u225, u226, u227, u228, u229, u230, u231, u232, u233, u234, u235, u236, u237, u238, u239, u240, u241, u242, u243, u244, u245, u246, u247, u248, u249, u250, u251, u252], []⟩ v := by
  conv => arg 2; whnf
  refine wp_region_inv2 (by kernel_rfl) (by kernel_rfl) (fun L a w => ∃ (x : Nat → Value) (y z k' : Nat), a = ⟨#[u0, u1, u2, u3, u4, .pointer (some ⟨T, 0, none⟩), .pointer (some ⟨D, 0, none⟩), u7, u8, u9, u10, u11, u12, u13, u14, u15, u16, x 6, x 7, u19, u20, u21, u22, u23, u24, u25, u26, u27, u28, u29, u30, u31, u32, u33, u34, u35, u36, u37, u38, u39, u40, u41, u42, u43, u44, u45, u46, u47, u48, u49, u50, u51, u52, u53, u54, u55, u56, u57, u58, u59, u60, u61, u62, u63, u64, u65, u66, u67, u68, u69, u70, u71, u72, u73, u74, u75, u76, u77, u78, u79, u80, u81, u82, u83, u84, u85, u86, u87, u88, u89, u90, u91, u92, u93, u94, u95, u96, u97, u98, u99, u100, u101, u102, x 0, x 1, x 2, x 3, x 4, x 5, u109, u110, u111, u112, u113, u114, u115, u116, u117, u118, u119, u120, u121, u122, u123, u124, u125, u126, u127, u128, u129, u130, u131, u132, u133, u134, u135, u136, u137, u138, u139, u140, u141, u142, u143, u144, u145, u146, u147, u148, u149, u150, u151, u152, u153, u154, u155, u156, u157, u158, u159, u160, u161, u162, u163, u164, u165, u166, u167, u168, u169, u170, u171, u172, u173, u174, u175, u176, u177, u178, u179, u180, u181, u182, u183, u184, u185, u186, u187, u188, u189, u190, u191, u192, u193, u194, u195, u196, u197, u198, u199, u200, u201, u202, u203, u204, u205, u206, u207, u208, u209, u210, u211, u212, u213, u214, u215, u216, u217, u218, u219, u220, u221, u222, u223, u224, u225, u226, u227, u228, u229, u230, u231, u232, u233, u234, u235, u236, u237, u238, u239, u240, u241, u242, u243, u244, u245, u246, u247, u248, u249, u250, u251, u252], []⟩ ∧ Inv12 v P T D a2 n2 c2 k2 y z k' L x w) ?_ ?_ ?_
  · refine ⟨fun n => if n = 0 then u103 else if n = 1 then u104 else if n = 2 then u105 else if n = 3 then u106 else if n = 4 then u107 else if n = 5 then u108 else if n = 6 then u17 else u18, 0, 0, k2, rfl, fun _ _ _ _ _ h => h.elim, (DExt.refl D v).drew', HD.out.ext (Ext.refl v).drew, ⟨by omega, fun _ => by omega, fun _ => by omega, fun _ _ => Nat.le_refl _⟩, fun h => h.elim, fun h => h.elim, fun h => h.elim, fun h => h.elim⟩
  · rintro L act V i o ⟨x, y, z, k', rfl, hI⟩ hcl hn ho hwait
    have hi : i < 8 := (Array.getElem?_eq_some_iff.1 ho).1
    have HI := Lib.hid hI
    have HNo := Lib.hid hn
    have HCl := Lib.hid hcl
    clear hI hn hcl
    obtain rfl | rfl | rfl | rfl | rfl | rfl | rfl | rfl : i = 0 ∨ i = 1 ∨ i = 2 ∨ i = 3 ∨ i = 4 ∨ i = 5 ∨ i = 6 ∨ i = 7 := by omega
    all_goals (simp only [List.getElem?_toArray, List.getElem?_cons_zero, List.getElem?_cons_succ, Option.some.injEq] at ho)
    · subst ho
      clear hwait
      refine wpOp_step rfl (fun K' hK => ?_)
      have HKK := Lib.hid hK
      clear hK
      go_simp
      refine HKK.out _ _ ⟨updV x 0 (.pointer (some ⟨D, 0, none⟩)), y, z, k', rfl, ?_⟩
      exact HI.out.put 0 (by omega) (by omega) _ (fun _ _ => rfl) (fun h => by first | rfl | omega) (fun h => by first | rfl | omega)
    · subst ho
      have l0 : L 0 := hwait { on := 0, ground := Ground.data } (by simp) rfl
      have e0 : x 0 = .pointer (some ⟨D, 0, none⟩) := HI.out.sim 0 (by omega) (by omega) (by omega) (by omega) l0
      have E0 := Lib.hid e0
      have N6 : Hid (¬ L 6) := fun h => HNo.out (HCl.out 6 _ h rfl { on := 1, ground := Ground.data } (by simp) rfl)
      clear hwait l0
      refine wpOp_step rfl (fun K' hK => ?_)
      have HKK := Lib.hid hK
      clear hK
      rw [e0]
      clear e0
      go_simp
      go_at_call 26
      refine (draw_any D a2 n2 c2 k' 4 V HI.out.deck (by have := HI.out.kk.1; omega) (by omega)).mono ?_
      rintro e V2 ⟨r, k1, hr, hk1, rfl, hd1, hg1⟩
      refine HKK.out _ _ ⟨updV (updV x 0 (.pointer (some ⟨D, 0, none⟩))) 1 (.int .i64 (r : Int)), r, z, k1, rfl, ?_⟩
      rw [updV_self E0.out]
      exact HI.out.draw1 HNo.out N6.out (by omega) hd1 hk1 hg1
    · subst ho
      clear hwait
      refine wpOp_step rfl (fun K' hK => ?_)
      have HKK := Lib.hid hK
      clear hK
      go_simp
      refine HKK.out _ _ ⟨updV x 2 (.pointer (some ⟨D, 0, none⟩)), y, z, k', rfl, ?_⟩
      exact HI.out.put 2 (by omega) (by omega) _ (fun _ _ => rfl) (fun h => by first | rfl | omega) (fun h => by first | rfl | omega)
    · subst ho
      clear hwait
      refine wpOp_step rfl (fun K' hK => ?_)
      have HKK := Lib.hid hK
      clear hK
      go_simp
      refine HKK.out _ _ ⟨updV x 3 (.pointer (some ⟨T, 0, none⟩)), y, z, k', rfl, ?_⟩
      exact HI.out.put 3 (by omega) (by omega) _ (fun _ _ => rfl) (fun h => by first | rfl | omega) (fun h => by first | rfl | omega)
    · subst ho
      have l3 : L 3 := hwait { on := 3, ground := Ground.data } (by simp) rfl
      have e3 : x 3 = .pointer (some ⟨T, 0, none⟩) := HI.out.sim 3 (by omega) (by omega) (by omega) (by omega) l3
      have E3 := Lib.hid e3
      clear hwait l3
      refine wpOp_step rfl (fun K' hK => ?_)
      have HKK := Lib.hid hK
      clear hK
      rw [e3]
      clear e3
      have cP := HT.out V HI.out.ext
      go_simp
      refine HKK.out _ _ ⟨updV (updV x 3 (.pointer (some ⟨T, 0, none⟩))) 4 (.int .i64 (P : Int)), y, z, k', rfl, ?_⟩
      rw [updV_self E3.out]
      exact HI.out.put 4 (by omega) (by omega) _ (fun _ _ => rfl) (fun h => by first | rfl | omega) (fun h => by first | rfl | omega)
    · subst ho
      have l2 : L 2 := hwait { on := 2, ground := Ground.data } (by simp) rfl
      have l4 : L 4 := hwait { on := 4, ground := Ground.data } (by simp) rfl
      have e2 : x 2 = .pointer (some ⟨D, 0, none⟩) := HI.out.sim 2 (by omega) (by omega) (by omega) (by omega) l2
      have e4 : x 4 = .int .i64 (P : Int) := HI.out.sim 4 (by omega) (by omega) (by omega) (by omega) l4
      have E2 := Lib.hid e2
      have E4 := Lib.hid e4
      have N7 : Hid (¬ L 7) := fun h => HNo.out (HCl.out 7 _ h rfl { on := 5, ground := Ground.data } (by simp) rfl)
      clear hwait l2 l4
      refine wpOp_step rfl (fun K' hK => ?_)
      have HKK := Lib.hid hK
      clear hK
      rw [e2]
      clear e2
      rw [e4]
      clear e4
      go_simp
      go_at_call 26
      refine (draw_any D a2 n2 c2 k' P V HI.out.deck (by have := HI.out.kk.1; omega) (by omega)).mono ?_
      rintro e V2 ⟨r, k1, hr, hk1, rfl, hd1, hg1⟩
      refine HKK.out _ _ ⟨updV (updV (updV x 2 (.pointer (some ⟨D, 0, none⟩))) 4 (.int .i64 (P : Int))) 5 (.int .i64 (r : Int)), y, r, k1, rfl, ?_⟩
      rw [updV_self E2.out, updV_self E4.out]
      exact HI.out.draw5 HNo.out N7.out (by omega) hd1 hk1 hg1
    · subst ho
      have l1 : L 1 := hwait { on := 1, ground := Ground.data } (by simp) rfl
      have e1 : x 1 = .int .i64 (y : Int) := (HI.out.d1 l1).1
      have E1 := Lib.hid e1
      clear hwait l1
      refine wpOp_step rfl (fun K' hK => ?_)
      have HKK := Lib.hid hK
      clear hK
      rw [e1]
      clear e1
      go_simp
      refine HKK.out _ _ ⟨updV (updV x 1 (.int .i64 (y : Int))) 6 (.int .i64 (y : Int)), y, z, k', rfl, ?_⟩
      rw [updV_self E1.out]
      exact HI.out.put 6 (by omega) (by omega) _ (fun h1 h2 => by omega) (fun h => by first | rfl | omega) (fun h => by first | rfl | omega)
    · subst ho
      have l5 : L 5 := hwait { on := 5, ground := Ground.data } (by simp) rfl
      have e5 : x 5 = .int .i64 (z : Int) := (HI.out.d5 l5).1
      have E5 := Lib.hid e5
      clear hwait l5
      refine wpOp_step rfl (fun K' hK => ?_)
      have HKK := Lib.hid hK
      clear hK
      rw [e5]
      clear e5
      go_simp
      refine HKK.out _ _ ⟨updV (updV x 5 (.int .i64 (z : Int))) 7 (.int .i64 (z : Int)), y, z, k', rfl, ?_⟩
      rw [updV_self E5.out]
      exact HI.out.put 7 (by omega) (by omega) _ (fun h1 h2 => by omega) (fun h => by first | rfl | omega) (fun h => by first | rfl | omega)
  · rintro L act V ⟨x, y, z, k', rfl, hI⟩ hL
    exact HQ.out x y z k' V (hI.d6 (hL 6 (by decide))) (hI.d7 (hL 7 (by decide))) (hI.d1 (hL 1 (by decide))).2 (hI.d5 (hL 5 (by decide))).2 hI.ext hI.deck hI.kk.1

set_option maxRecDepth 1000000 in
set_option maxHeartbeats 8000000 in
theorem more_tailD {u0 u1 u2 u3 u4 u9 u11 u15 u17 u18 u19 u20 u21 u22 u23 u24 u25 u26 u27 u28 u29 u30 u31 u32 u33 u34 u35 u36 u37 u38 u39 u40 u41 u42 u43 u44 u45 u46 u47 u48 u49 u50 u51 u52 u53 u54 u55 u56 u57 u58 u59 u60 u61 u62 u63 u64 u65 u66 u67 u68 u69 u70 u71 u72 u73 u74 u75 u76 u77 u78 u79 u80 u81 u82 u83 u84 u85 u86 u87 u88 u89 u90 u91 u92 u93 u94 u95 u96 u97 u98 u99 u100 u101 u102 u103 u104 u105 u106 u107 u108 u109 u110 u111 u112 u113 u114 u115 u116 u117 u118 u119 u120 u121 u122 u123 u124 u125 u126 u127 u128 u129 u130 u131 u132 u133 u134 u135 u136 u137 u138 u139 u140 u141 u142 u143 u144 u145 u146 u147 u148 u149 u150 u151 u152 u153 u154 u155 u156 u157 u158 u159 u160 u161 u162 u163 u164 u165 u166 u167 u168 u169 u170 u171 u172 u173 u174 u175 u176 u177 u178 u179 u180 u181 u182 u183 u184 u185 u186 u187 u188 u189 u190 u191 u192 u193 u194 u195 u196 u197 u198 u199 u200 u201 u202 u203 u204 u205 u206 u207 u208 u209 u210 u211 u212 u213 u214 u215 u216 u217 u218 u219 u220 u221 u222 u223 u224 u225 u226 u227 u228 u229 u230 u231 u232 u233 u234 u235 u236 u237 u238 u239 u240 u241 u242 u243 u244 u245 u246 u247 u248 u249 u250 u251 u252 : Value} (w v3 v : World) (T D B0 B1 B2 : Nat) (S0 S1 S2 : Nat → Prop) (t tt tw ts : TV) (aa a2 : Option Addr) (ca many n2 c2 k2 xa : Nat) (ea : Int) (la : List (SL Nat))
    (HK : Hid (OkT t)) (HK1 : Hid (OkT tt)) (HK3 : Hid (OkT ts)) (HT : Hid (IsTo D v3 t)) (HB : Hid (TBox v3 T t)) (hTD : T ≠ D) (HTb : Hid (TblO (D + 1) v3 aa ca la))
    (HF : Hid (FarC v3 v.heap.size D B0 B1 B2 S0 S1 S2)) (HR : Hid (RestD v3 v.heap.size D B0 B2 S0 S2 tt ts v)) (HO : Hid (OwnS S1 v tw)) (HBw : Hid (TBox v B1 tw)) (HSw : Hid (SameT t tw)) (HSs : Hid (SameT t ts))
    (HM1 : Hid (MoreT t tt)) (HD : Hid (IsDeck v D a2 n2 c2 k2)) (hk2 : k2 ≤ 1000) (HBy : Hid (∀ b off, a2 = some ⟨b, off, none⟩ → 0 < n2 → b < v3.heap.size)) (hwD : w.heap.size ≤ D) (hxa : xa < t.P) (hP2 : 2 ≤ t.P) (hw16 : t.ways.l.length ≤ 16)
    (HA : Hid ((ea = 0 ∧ AllL t (la.map fun r => r.l) ∧ (allD t).length ≤ 200) ∨ (ea = 11 ∧ la = [] ∧ 200 < (allD t).length))) (HMany : Hid (many = (bestR t (allR (cntR t))).2)) (EV : Hid (Ext w v3)) :
    Code.wp Tryz.prog tail5_11 (bodyPost Tryz.prog Tryz.f5 fun e w' => e = .returned (.bool true) ∧ Ext w w') ⟨#[u0, u1, u2, u3, u4, .pointer (some ⟨T, 0, none⟩), .pointer (some ⟨D, 0, none⟩), .slice aa la.length ca, .int .i64 ea, u9, .int .i64 (many : Int), u11, .pointer (some ⟨B0, 0, none⟩), .pointer (some ⟨B1, 0, none⟩), .pointer (some ⟨B2, 0, none⟩), u15, .int .i64 (xa : Int), u17, u18, u19, u20, u21, u22, u23, u24, u25, u26, u27, u28, u29, u30, u31, u32, u33, u34, u35, u36, u37, u38, u39, u40, u41, u42, u43, u44, u45, u46, u47, u48, u49, u50, u51, u52, u53, u54, u55, u56, u57, u58, u59, u60, u61, u62, u63, u64, u65, u66, u67, u68, u69, u70, u71, u72, u73, u74, u75, u76, u77, u78, u79, u80, u81, u82, u83, u84, u85, u86, u87, u88, u89, u90, u91, u92, u93, u94, u95, u96, u97, u98, u99, u100, u101, u102, u103, u104, u105, u106, u107, u108, u109, u110, u111, u112, u113, u114, u115, u116, u117, u118, u119, u120, u121, u122, u123, u124, u125, u126, u127, u128, u129, u130, u131, u132, u133, u134, u135, u136, u137, u138, u139, u140, u141, u142, u143, u144, u145, u146, u147, u148, u149, u150, u151, u152, u153, u154, u155, u156, u157, u158, u159, u160, u161, u162, u163, u164, u165, u166, u167, u168, u169, u170, u171, u172, u173, u174, u175, u176, u177, u178, u179, u180, u181, u182, u183, u184, u185, u186, u187, u188, u189, u190, u191, u192, u193, u194, u195, u196, u197, u198, u199, u200, u201, u202, u203, u204, u205, u206, u207, u208, u209, u210, u211, u212, u213, u214, u215, u216, u217, u218, u219, u220, u221, u222, u223, u224, u225, u226, u227, u228, u229, u230, u231, u232, u233, u234, u235, u236, u237, u238, u239, u240, u241, u242, u243, u244, u245, u246, u247, u248, u249, u250, u251, u252], []⟩ v := by
  conv => arg 2; whnf
  conv => arg 4; dsimp only
  have hPw := HSw.out.P
  have hP12 := HK.out.p2
  have hWw : tw.ways.l.length ≤ 39 := by rw [HSw.out.ways]; omega
  have HPw := Lib.hid hPw; clear hPw
  have hPw1 : 1 ≤ tw.P := by have := HPw.out; omega
  have hPw2 : tw.P ≤ 12 := by have := HPw.out; omega
  have hxw : xa < tw.P := by have := HPw.out; omega
  obtain ⟨m, hm1, hm2, hm3⟩ := way_mod xa 1 t.P hxa (by omega) (by omega)
  have HMd : Hid (((xa : Int) + ((1 : Nat) : Int)).tmod (tw.P : Int) = (m : Int)) := by rw [HPw.out]; exact hm3
  have hmw : m < tw.P := by have := HPw.out; omega
  have HMx := Lib.hid hm2
  clear hm1 hm2 hm3
  have HKw : Hid (OkT tw) := HSw.out.ok HK.out
  have HTl : Hid (T < v3.heap.size) := (Array.getElem?_eq_some_iff.1 HB.out).1
  have HTP : Hid (∀ V, DExt D v3 V → V.cell? ⟨T, 0, none⟩ = some (.int .i64 (tw.P : Int))) := by
    intro V h
    have h1 : TBox V T t := (h.block T HTl.out (by simp; omega)).trans HB.out
    rw [HPw.out]
    exact (cell_at h1 0).trans rfl
  go_upto_region 11 with (fail)
  go_cut [] (fun wx => ∃ y g cap k' : Nat, Hid (RestD v3 v.heap.size D B0 B2 S0 S2 tt ts wx) ∧ Hid (OwnS (fun g => S1 g ∨ v.heap.size ≤ g) wx (withWay tw (some ⟨g, 0, none⟩) cap (xa, m, y))) ∧ Hid (TBox wx B1 (withWay tw (some ⟨g, 0, none⟩) cap (xa, m, y))) ∧ Hid (IsDeck wx D a2 n2 c2 k') ∧ k' ≤ k2 + 1 ∧ y ≤ 7)
  case first =>
    refine more_region11 v (RestD v3 v.heap.size D B0 B2 S0 S2 tt ts) T D B1 v.heap.size S1 (fun g => S1 g ∨ v.heap.size ≤ g) tw xa m a2 n2 c2 k2 HR ?_ ?_ HO HBw HD (by omega) ?_ ?_ hxw hPw2 hPw1 hmw HMd hWw ?_
    · exact fun V V' h k => h.keep HF.out.dw k
    · exact fun V h => ⟨HTP.out V h.old, h.size⟩
    · refine ⟨fun z h => .inl h, fun z h => .inr h, fun z h => ?_⟩
      obtain ⟨q1, q2, q3, q4, q5, q6⟩ := HF.out.s1 z h
      have hd := HF.out.d2
      exact ⟨q2, by omega, q5, fun z' off h1 h2 => by have := HBy.out z' off h1 h2; omega⟩
    · have hd := HF.out.d2
      have hb := HF.out.b1
      exact ⟨by omega, hb.2, fun z off h1 h2 => by have := HBy.out z off h1 h2; exact ⟨by omega, by omega⟩⟩
    · intro x y g cap k' V h1 h2 h3 h4 h5 h6
      have H1 := Lib.hid h1
      have H2 := Lib.hid h2
      have H3 := Lib.hid h3
      have H4 := Lib.hid h4
      clear h1 h2 h3 h4
      go_wp2_with fail
      go_meet
      exact ⟨y, g, cap, k', H1, H2, H3, H4, h5, h6⟩
  case rest =>
    obtain ⟨y, g, cap, k', HR1, HO1, HB1, HD1, hk', hy⟩ := hcut
    obtain ⟨wo, rfl⟩ : ∃ wo : World, wo = wc := ⟨_, rfl⟩
    go_upto_region 12 with (fail)
    go_cut [17, 18] (fun s17 s18 wx => ∃ y z k'' : Nat, s17 = .int .i64 (y : Int) ∧ s18 = .int .i64 (z : Int) ∧ y ≤ 7 ∧ z < tw.P ∧ Hid (DExt D wo wx) ∧ Hid (IsDeck wx D a2 n2 c2 k'') ∧ k'' ≤ k' + 2)
    case first =>
      refine more_region12 wo tw.P T D a2 n2 c2 k' ?_ HD1 (by omega) hPw1 hPw2 ?_
      · exact fun V h => HTP.out V (HR1.out.old.trans h)
      · intro x y z k'' V h1 h2 h3 h4 h5 h6 h7
        have H1 := Lib.hid h1
        have H2 := Lib.hid h2
        have H5 := Lib.hid h5
        have H6 := Lib.hid h6
        clear h1 h2 h5 h6
        go_wp2_with fail
        go_meet
        exact ⟨y, z, k'', H1.out, H2.out, h3, h4, H5, H6, h7⟩
    case rest =>
      obtain ⟨x1, x2, k'', rfl, rfl, hx1, hx2, HX, HD2, hk''⟩ := hcut
      obtain ⟨wz, rfl⟩ : ∃ wz : World, wz = wc := ⟨_, rfl⟩
      have HR2 : Hid (RestD v3 v.heap.size D B0 B2 S0 S2 tt ts wz) := HR1.out.keep HF.out.dw (off_dext HX.out)
      have HFn := Lib.hid (HF.out.growW HR2.out.size)
      have HO2 : Hid (OwnS (fun g => S1 g ∨ (v.heap.size ≤ g ∧ g < wz.heap.size)) wz (withWay tw (some ⟨g, 0, none⟩) cap (xa, m, y))) := by
        refine (HO1.out.keep (keep_dext (S := fun _ => False) HX.out) (fun b _ hb => ⟨?_, fun h => h⟩)).mono (fun b hb h => h.imp (fun h => h) (fun h => ⟨h, hb⟩))
        have hd := HF.out.d2
        have hb1 := HF.out.b1
        rcases hb with hb | hb
        · have := (HF.out.s1 b hb).1; omega
        · omega
      have HB2 : Hid (TBox wz B1 (withWay tw (some ⟨g, 0, none⟩) cap (xa, m, y))) := by
        have hd := HF.out.d2
        have hb1 := HF.out.b1
        exact (HX.out.block B1 (Array.getElem?_eq_some_iff.1 HB1.out).1 (by simp; omega)).trans HB1.out
      have HRB : Hid (RestB v3 D B0 B2 B1 S0 S2 tt ts (withWay tw (some ⟨g, 0, none⟩) cap (xa, m, y)) wz) := ⟨HR2.out.owna, HR2.out.boxa, HR2.out.ownb, HR2.out.boxb, HB2.out, HR2.out.old⟩
      have HK2 : Hid (OkT (withWay tw (some ⟨g, 0, none⟩) cap (xa, m, y))) := HKw.out.addWay hWw _ _ ⟨hxw, hmw, HMx.out, hy⟩
      have HM2 : Hid (MoreT t (withWay tw (some ⟨g, 0, none⟩) cap (xa, m, y))) := (MoreT.same HSw.out).addWay _ _ _
      repeat (first
        | exact more_tailC w v3 wz T D B0 B1 B2 S0 (fun g => S1 g ∨ (v.heap.size ≤ g ∧ g < wz.heap.size)) S2 t tt (withWay tw (some ⟨g, 0, none⟩) cap (xa, m, y)) ts aa a2 ca many n2 c2 k'' x1 x2 ea la HK HK1 HK2 HK3 HT HB hTD HTb HFn HRB HO2 HSs HM1 HM2 HD2 (by omega) HBy hwD hx1 hx2 HA HMany EV
        | go_step)
end Go.Proofs.YtopjjcgmcieboaaGreatDoor

namespace Go.Proofs.YtopjjcgmcieboaaGreatDoor
open Go.RowKit

noncomputable def reg5_9 : Code := ((Tryz.f5.body.bind (regA 9)).getD .skip)
theorem prod4_le : ∀ (l : List Nat) (a : Nat), (∀ x ∈ l, x ≤ 4) → l.foldl (· * ·) a ≤ a * 4 ^ l.length
  | [], a, _ => by simp
  | x :: r, a, h => by
    have h1 := prod4_le r (a * x) (fun y hy => h y (by simp [hy]))
    have h2 := h x (by simp)
    simp only [List.foldl_cons, List.length_cons]
    refine Nat.le_trans h1 ?_
    have h3 : a * x * 4 ^ r.length ≤ a * 4 * 4 ^ r.length := Nat.mul_le_mul_right _ (Nat.mul_le_mul_left _ h2)
    refine Nat.le_trans h3 (Nat.le_of_eq ?_)
    rw [Nat.pow_succ, Nat.mul_assoc, Nat.mul_comm 4]
/-- A treaty in memory of its own, but for the row of word k. -/
structure OwnX (S : Nat → Prop) (w : World) (t : TV) (k : Nat) : Prop where
  ways : RowS S w 59 3 (.slice t.ways.a t.ways.l.length t.ways.c) t.ways.l.length (flat 3 wayC t.ways.l)
  words : RowS S w 54 1 (.slice t.words.a t.words.l.length t.words.c) t.words.l.length (flat 1 slC t.words.l)
  word : ∀ i (h : i < t.words.l.length), i ≠ k → RowS S w 57 2 t.words.l[i].v t.words.l[i].l.length (flat 2 meanC t.words.l[i].l)
  mean : ∀ x ∈ t.words.l, ∀ m ∈ x.l, RowS S w 3 1 m.k.v m.k.l.length (nums m.k.l) ∧ RowS S w 3 1 m.e.v m.e.l.length (nums m.e.l)
  apart : t.words.l.Pairwise apB
  starts : RowS S w 3 1 (.slice t.starts.a t.starts.l.length t.starts.c) t.starts.l.length (nums t.starts.l)
  legs : RowS S w 63 2 (.slice t.legs.a t.legs.l.length t.legs.c) t.legs.l.length (flat 2 legC t.legs.l)
theorem OwnS.toX {S : Nat → Prop} {w w' : World} {t : TV} {k : Nat} (h : OwnS S w t) (hk : k < t.words.l.length) (hg : w.grownBy w' t.words.l[k].v.ownBlock) : OwnX S w' t k := by
  have hr := (h.word _ (List.getElem_mem hk)).1
  refine ⟨h.ways.grown hg (ne_type h.ways hr (by decide)), h.words.grown hg (ne_type h.words hr (by decide)), fun i hi hne => (h.word _ (List.getElem_mem hi)).1.grown hg ?_, fun x hx m hm => ⟨((h.word x hx).2 m hm).1.grown hg (ne_type ((h.word x hx).2 m hm).1 hr (by decide)), ((h.word x hx).2 m hm).2.grown hg (ne_type ((h.word x hx).2 m hm).2 hr (by decide))⟩, h.apart, h.starts.grown hg (ne_type h.starts hr (by decide)), h.legs.grown hg (ne_type h.legs hr (by decide))⟩
  cases hb : t.words.l[i].v.ownBlock with
  | none => exact .inl rfl
  | some g' =>
    right
    intro e
    exact apart_ne h.apart hk hi hne e.symm g' hb rfl
theorem apart_put {l : List (SL MV)} (h : l.Pairwise apB) {k g : Nat} {x' : SL MV} (hx : x'.v.ownBlock = some g) (hne : ∀ i (hi : i < l.length), i ≠ k → l[i].v.ownBlock ≠ some g) : (l.set k x').Pairwise apB := by
  rw [List.pairwise_iff_getElem] at h ⊢
  intro i j hi hj hij
  have hi' : i < l.length := by simpa using hi
  have hj' : j < l.length := by simpa using hj
  by_cases e1 : k = i
  · subst e1
    rw [List.getElem_set_self, List.getElem_set_ne (by omega)]
    right
    rw [hx]
    exact fun e => hne j hj' (by omega) e.symm
  · rw [List.getElem_set_ne e1]
    by_cases e2 : k = j
    · subst e2
      rw [List.getElem_set_self]
      right
      rw [hx]
      exact hne i hi' (by omega)
    · rw [List.getElem_set_ne e2]
      exact h i j hi' hj' hij
/-- A word with other meanings. -/
abbrev setW (t : TV) (k : Nat) (a : Option Addr) (c : Nat) (l : List MV) : TV := withWords t (t.words.l.set k ⟨a, c, l⟩)
theorem OwnX.put {S S' : Nat → Prop} {w : World} {t : TV} {k gw g cap : Nat} {l : List MV} (h : OwnX S w t k) (hk : k < t.words.l.length) (hS : ∀ b, S b → S' b) (hga : t.words.a = some ⟨gw, 0, none⟩)
    (hr : RowS S' w 57 2 (.slice (some ⟨g, 0, none⟩) l.length cap) l.length (flat 2 meanC l)) (hm : ∀ m ∈ l, RowS S' w 3 1 m.k.v m.k.l.length (nums m.k.l) ∧ RowS S' w 3 1 m.e.v m.e.l.length (nums m.e.l)) (hap : ∀ i (hi : i < t.words.l.length), i ≠ k → t.words.l[i].v.ownBlock ≠ some g) :
    OwnS S' (w.setCell ⟨gw, k, none⟩ (.slice (some ⟨g, 0, none⟩) l.length cap)) (setW t k (some ⟨g, 0, none⟩) cap l) := by
  obtain ⟨g', cur, ha, -, hB, -⟩ := h.words.at (by omega)
  rw [hga] at ha
  cases ha
  have hmo : ∀ {w : World} {e : TypeId} {size : Nat} {v : Value} {n : Nat} {xs : List Value}, RowS S w e size v n xs → RowS S' w e size v n xs := fun h => h.mono (fun b _ => hS b)
  refine ⟨hmo (h.ways.other hB (by decide)), ?_, fun x hx => ?_, apart_put h.apart rfl hap, hmo (h.starts.other hB (by decide)), hmo (h.legs.other hB (by decide))⟩
  · have h1 := h.words.setAt hga (k * 1 + 0) (.slice (some ⟨g, 0, none⟩) l.length cap)
    rw [flat_set (cs := slC) (sz := 1) k 0 hk (by omega) ⟨some ⟨g, 0, none⟩, cap, l⟩ (.slice (some ⟨g, 0, none⟩) l.length cap) (fun j' hj' => by
      have : j' = 0 := by omega
      subst this
      rw [if_pos rfl]; rfl), Nat.mul_one, Nat.add_zero] at h1
    show RowS S' _ 54 1 (.slice t.words.a (t.words.l.set k _).length t.words.c) (t.words.l.set k _).length _
    rw [List.length_set]
    exact hmo h1
  · obtain ⟨i, hi, rfl⟩ := List.getElem_of_mem hx
    have hi' : i < t.words.l.length := by simpa using hi
    by_cases e : k = i
    · subst e
      simp only [List.getElem_set_self]
      exact ⟨hr.other hB (by decide), fun m hm' => ⟨(hm m hm').1.other hB (by decide), (hm m hm').2.other hB (by decide)⟩⟩
    · simp only [List.getElem_set_ne e]
      exact ⟨hmo ((h.word i hi' (fun h => e h.symm)).other hB (by decide)), fun m hm' => ⟨hmo ((h.mean _ (List.getElem_mem hi') m hm').1.other hB (by decide)), hmo ((h.mean _ (List.getElem_mem hi') m hm').2.other hB (by decide))⟩⟩
theorem OkT.setW {t : TV} (h : OkT t) {k : Nat} (hk : k < t.words.l.length) (h3 : t.words.l.length ≤ 3 ∧ ∀ z ∈ t.words.l, z.l.length ≤ 3) (a : Option Addr) (c : Nat) (m : MV) (hm : ((∀ x ∈ m.k.l, x ≤ 7) ∧ m.k.l.Pairwise (· < ·)) ∧ ((∀ x ∈ m.e.l, x < t.P) ∧ m.e.l.Pairwise (· < ·))) : OkT (setW t k a c (t.words.l[k].l ++ [m])) := by
  have hk1 := h.word _ (List.getElem_mem hk)
  have hk3 := h3.2 _ (List.getElem_mem hk)
  have hw : ∀ s ∈ t.words.l.set k ⟨a, c, t.words.l[k].l ++ [m]⟩, (1 ≤ s.l.length ∧ s.l.length ≤ 4) ∧ ∀ m' ∈ s.l, ((∀ x ∈ m'.k.l, x ≤ 7) ∧ m'.k.l.Pairwise (· < ·)) ∧ ((∀ x ∈ m'.e.l, x < t.P) ∧ m'.e.l.Pairwise (· < ·)) := by
    intro s hs
    rcases List.mem_or_eq_of_mem_set hs with hs | rfl
    · exact ⟨h.word s hs, fun m' hm' => ⟨h.kinds s hs m' hm', h.ends s hs m' hm'⟩⟩
    · refine ⟨by simp; omega, fun m' hm' => ?_⟩
      rcases List.mem_append.1 hm' with hm' | hm'
      · exact ⟨h.kinds _ (List.getElem_mem hk) m' hm', h.ends _ (List.getElem_mem hk) m' hm'⟩
      · rw [List.mem_singleton] at hm'; subst hm'; exact hm
  refine ⟨h.p1, h.p2, h.ways, by show (t.words.l.set k _).length ≤ 6; rw [List.length_set]; exact h.words, h.starts1, h.starts2, h.legs, fun s hs => (hw s hs).1, h.way, fun s hs m' hm' => ((hw s hs).2 m' hm').1, fun s hs m' hm' => ((hw s hs).2 m' hm').2, h.start, fun g hg => ?_, ?_⟩
  · have := h.leg g hg
    show g.1 < (t.words.l.set k _).length ∧ (g.2 = -1 ∨ (0 ≤ g.2 ∧ g.2 < (t.words.l.set k _).length))
    rw [List.length_set]; exact this
  · have h1 := prod4_le ((t.words.l.set k ⟨a, c, t.words.l[k].l ++ [m]⟩).map (·.l.length)) 1 (fun x hx => by obtain ⟨z, hz, rfl⟩ := List.mem_map.1 hx; exact (hw z hz).1.2)
    have h2 : 4 ^ ((t.words.l.set k ⟨a, c, t.words.l[k].l ++ [m]⟩).map (·.l.length)).length ≤ 4 ^ 3 := Nat.pow_le_pow_right (by decide) (by simpa using h3.1)
    show ((t.words.l.set k ⟨a, c, t.words.l[k].l ++ [m]⟩).map (·.l.length)).foldl (· * ·) 1 ≤ 256
    omega
theorem MoreT.setW {t t' : TV} (h : MoreT t t') {k : Nat} (hk : k < t'.words.l.length) (a : Option Addr) (c : Nat) (m : MV) : MoreT t (setW t' k a c (t'.words.l[k].l ++ [m])) := by
  refine ⟨h.P, h.starts, h.legs, h.ways, by show (t'.words.l.set k _).length = _; rw [List.length_set]; exact h.many, fun i hi hi' j hj => ?_⟩
  have hi2 : i < t'.words.l.length := by rw [h.many]; assumption
  obtain ⟨q1, q2, q3⟩ := h.word i hi hi2 j hj
  by_cases e : k = i
  · subst e
    simp only [List.getElem_set_self]
    refine ⟨by simp; omega, ?_⟩
    simp only [List.getElem_append_left q1]
    exact ⟨q2, q3⟩
  · simp only [List.getElem_set_ne e]
    exact ⟨q1, q2, q3⟩

/-- Simple operations of region 9: what they yield. -/
def sim9 (tt : TV) (z : SL MV) (T D B gw kw : Nat) (i : Nat) : Value :=
  if i = 0 ∨ i = 3 then .pointer (some ⟨B, 2, none⟩) else if i = 1 ∨ i = 4 then .slice (some ⟨gw, 0, none⟩) tt.words.l.length tt.words.c else if i = 2 ∨ i = 5 then .int .i64 (kw : Int) else if i = 7 then .slice z.a z.l.length z.c else if i = 8 ∨ i = 10 then .pointer (some ⟨D, 0, none⟩) else if i = 11 then .pointer (some ⟨T, 0, none⟩) else if i = 12 then .int .i64 (tt.P : Int) else .pointer (some ⟨gw, kw, none⟩)
/-- A dealt list. -/
def Lst (S : Nat → Prop) (w : World) (m : Nat) (s : SL Nat) : Prop := RowS S w 3 1 s.v s.l.length (nums s.l) ∧ s.l.Pairwise (· < ·) ∧ ∀ x ∈ s.l, x < m
theorem Lst.keep {S D : Nat → Prop} {w w' : World} {m : Nat} {s : SL Nat} (h : Lst S w m s) (k : Keep D w w') (hd : ∀ g, g < w.heap.size → S g → D g) : Lst S w' m s := ⟨h.1.keep k hd, h.2⟩
abbrev mCells (s1 s2 : SL Nat) : Array Value := #[.slice s1.a s1.l.length s1.c, .slice s2.a s2.l.length s2.c]
structure Inv9 (R : World → Prop) (S S' : Nat → Prop) (tt : TV) (z : SL MV) (T D B gw kw : Nat) (a2 : Option Addr) (n2 c2 k2 : Nat) (s1 s2 : SL Nat) (b g cap k' : Nat) (L : Nat → Prop) (x : Nat → Value) (V : World) : Prop where
  sim : ∀ i, i ≠ 9 → i ≠ 13 → i ≠ 14 → i ≠ 15 → i ≠ 16 → i ≠ 18 → L i → x i = sim9 tt z T D B gw kw i
  rest : R V
  box : TBox V B tt
  deck : IsDeck V D a2 n2 c2 k'
  kk : k' ≤ k2 + 16 ∧ (¬ L 9 → k' ≤ k2 + 12) ∧ (¬ L 13 → k' ≤ k2 + 4) ∧ (¬ L 9 → ¬ L 13 → k' ≤ k2)
  d9 : L 9 → x 9 = .slice s1.a s1.l.length s1.c ∧ Lst S' V 4 s1
  d13 : L 13 → x 13 = .slice s2.a s2.l.length s2.c ∧ Lst S' V tt.P s2
  d14 : L 14 → x 14 = .agg (mCells s1 s2)
  d15 : L 15 → x 15 = .slice (some ⟨b, 0, none⟩) 1 1
  blk : L 15 → ¬ L 16 → V.heap[b]? = some (.cells (mCells s1 s2) 57)
  own : ¬ L 16 → OwnS S V tt
  d16 : L 16 → x 16 = .slice (some ⟨g, 0, none⟩) (z.l.length + 1) cap ∧ (¬ L 18 → OwnX S V tt kw ∧ RowS S' V 57 2 (.slice (some ⟨g, 0, none⟩) (z.l.length + 1) cap) (z.l.length + 1) (flat 2 meanC (z.l ++ [⟨s1, s2⟩])) ∧ ∀ i (hi : i < tt.words.l.length), i ≠ kw → tt.words.l[i].v.ownBlock ≠ some g)
  d18 : L 18 → OwnS S' V (setW tt kw (some ⟨g, 0, none⟩) cap (z.l ++ [⟨s1, s2⟩]))
section
variable {R : World → Prop} {S S' : Nat → Prop} {tt : TV} {z : SL MV} {T D B gw kw : Nat} {a2 : Option Addr} {n2 c2 k2 : Nat} {s1 s2 : SL Nat} {b g cap k' : Nat} {L : Nat → Prop} {x : Nat → Value} {V V' : World}
theorem updV_ne {x : Nat → Value} {k : Nat} {u : Value} {n : Nat} (h : n ≠ k) : updV x k u n = x n := by unfold updV; rw [if_neg h]
theorem updV_eq {x : Nat → Value} {k : Nat} {u : Value} : updV x k u k = u := by unfold updV; rw [if_pos rfl]
theorem Inv9.simple (h : Inv9 R S S' tt z T D B gw kw a2 n2 c2 k2 s1 s2 b g cap k' L x V) (i : Nat) (h9 : i ≠ 9) (h13 : i ≠ 13) (h14 : i ≠ 14) (h15 : i ≠ 15) (h16 : i ≠ 16) (h18 : i ≠ 18) : Inv9 R S S' tt z T D B gw kw a2 n2 c2 k2 s1 s2 b g cap k' (fun n => n = i ∨ L n) (updV x i (sim9 tt z T D B gw kw i)) V := by
  have hl : ∀ n, n ≠ i → (n = i ∨ L n) → L n := fun n hn h => h.resolve_left hn
  refine ⟨fun n q1 q2 q3 q4 q5 q6 hL => ?_, h.rest, h.box, h.deck, ⟨h.kk.1, fun hn => h.kk.2.1 (fun hh => hn (.inr hh)), fun hn => h.kk.2.2.1 (fun hh => hn (.inr hh)), fun hn hn2 => h.kk.2.2.2 (fun hh => hn (.inr hh)) (fun hh => hn2 (.inr hh))⟩, fun hL => ?_, fun hL => ?_, fun hL => ?_, fun hL => ?_, fun hL hn => h.blk (hl _ (Ne.symm h15) hL) (fun hh => hn (.inr hh)), fun hn => h.own (fun hh => hn (.inr hh)), fun hL => ?_, fun hL => h.d18 (hl _ (Ne.symm h18) hL)⟩
  · by_cases e : n = i
    · subst e; exact updV_eq
    · rw [updV_ne e]; exact h.sim n q1 q2 q3 q4 q5 q6 (hl n e hL)
  · rw [updV_ne (Ne.symm h9)]; exact h.d9 (hl _ (Ne.symm h9) hL)
  · rw [updV_ne (Ne.symm h13)]; exact h.d13 (hl _ (Ne.symm h13) hL)
  · rw [updV_ne (Ne.symm h14)]; exact h.d14 (hl _ (Ne.symm h14) hL)
  · rw [updV_ne (Ne.symm h15)]; exact h.d15 (hl _ (Ne.symm h15) hL)
  · rw [updV_ne (Ne.symm h16)]
    have := h.d16 (hl _ (Ne.symm h16) hL)
    exact ⟨this.1, fun hn => this.2 (fun hh => hn (.inr hh))⟩
theorem Inv9.deal9 (h : Inv9 R S S' tt z T D B gw kw a2 n2 c2 k2 s1 s2 b g cap k' L x V) (n9 : ¬ L 9) (n14 : ¬ L 14) (n15 : ¬ L 15) (n16 : ¬ L 16) (n18 : ¬ L 18) {s : SL Nat} {k'' : Nat} (hs : Lst S' V' 4 s) (hd : IsDeck V' D a2 n2 c2 k'') (hk : k'' ≤ k' + 4) (hx : DExt D V V') (hS : ∀ u, S u → u ≠ D) (hS' : ∀ u, S' u → u ≠ D) (hBD : B ≠ D) (hR : R V') :
    Inv9 R S S' tt z T D B gw kw a2 n2 c2 k2 s s2 b g cap k'' (fun n => n = 9 ∨ L n) (updV x 9 (.slice s.a s.l.length s.c)) V' := by
  have k1 := h.kk.2.1 n9
  refine ⟨fun n q1 q2 q3 q4 q5 q6 hL => ?_, hR, (hx.block B (Array.getElem?_eq_some_iff.1 h.box).1 (by simp; exact hBD)).trans h.box, hd, ⟨by omega, fun hn => (hn (.inl rfl)).elim, fun hn => ?_, fun hn => (hn (.inl rfl)).elim⟩, fun _ => ⟨updV_eq, hs⟩, fun hL => ?_, fun hL => (n14 (hL.resolve_left (by omega))).elim, fun hL => (n15 (hL.resolve_left (by omega))).elim, fun hL => (n15 (hL.resolve_left (by omega))).elim, fun _ => (h.own n16).keep (keep_dext (S := fun _ => False) hx) (fun u _ hu => ⟨hS u hu, fun h => h⟩), fun hL => (n16 (hL.resolve_left (by omega))).elim, fun hL => (n18 (hL.resolve_left (by omega))).elim⟩
  · rw [updV_ne q1]; exact h.sim n q1 q2 q3 q4 q5 q6 (hL.resolve_left q1)
  · have := h.kk.2.2.2 n9 (fun hh => hn (.inr hh)); omega
  · rw [updV_ne (by omega)]
    have := h.d13 (hL.resolve_left (by omega))
    exact ⟨this.1, this.2.keep (keep_dext (S := fun _ => False) hx) (fun u _ hu => ⟨hS' u hu, fun h => h⟩)⟩
theorem Inv9.deal13 (h : Inv9 R S S' tt z T D B gw kw a2 n2 c2 k2 s1 s2 b g cap k' L x V) (n13 : ¬ L 13) (n14 : ¬ L 14) (n15 : ¬ L 15) (n16 : ¬ L 16) (n18 : ¬ L 18) {s : SL Nat} {k'' : Nat} (hs : Lst S' V' tt.P s) (hd : IsDeck V' D a2 n2 c2 k'') (hk : k'' ≤ k' + tt.P) (hP : tt.P ≤ 12) (hx : DExt D V V') (hS : ∀ u, S u → u ≠ D) (hS' : ∀ u, S' u → u ≠ D) (hBD : B ≠ D) (hR : R V') :
    Inv9 R S S' tt z T D B gw kw a2 n2 c2 k2 s1 s b g cap k'' (fun n => n = 13 ∨ L n) (updV x 13 (.slice s.a s.l.length s.c)) V' := by
  have k1 := h.kk.2.2.1 n13
  refine ⟨fun n q1 q2 q3 q4 q5 q6 hL => ?_, hR, (hx.block B (Array.getElem?_eq_some_iff.1 h.box).1 (by simp; exact hBD)).trans h.box, hd, ⟨by omega, fun hn => ?_, fun hn => (hn (.inl rfl)).elim, fun _ hn => (hn (.inl rfl)).elim⟩, fun hL => ?_, fun _ => ⟨updV_eq, hs⟩, fun hL => (n14 (hL.resolve_left (by omega))).elim, fun hL => (n15 (hL.resolve_left (by omega))).elim, fun hL => (n15 (hL.resolve_left (by omega))).elim, fun _ => (h.own n16).keep (keep_dext (S := fun _ => False) hx) (fun u _ hu => ⟨hS u hu, fun h => h⟩), fun hL => (n16 (hL.resolve_left (by omega))).elim, fun hL => (n18 (hL.resolve_left (by omega))).elim⟩
  · rw [updV_ne q2]; exact h.sim n q1 q2 q3 q4 q5 q6 (hL.resolve_left q2)
  · have := h.kk.2.2.2 (fun hh => hn (.inr hh)) n13; omega
  · rw [updV_ne (by omega)]
    have := h.d9 (hL.resolve_left (by omega))
    exact ⟨this.1, this.2.keep (keep_dext (S := fun _ => False) hx) (fun u _ hu => ⟨hS' u hu, fun h => h⟩)⟩
theorem Inv9.agg (h : Inv9 R S S' tt z T D B gw kw a2 n2 c2 k2 s1 s2 b g cap k' L x V) (n15 : ¬ L 15) (n16 : ¬ L 16) (n18 : ¬ L 18) (l9 : L 9) (l13 : L 13) : Inv9 R S S' tt z T D B gw kw a2 n2 c2 k2 s1 s2 b g cap k' (fun n => n = 14 ∨ L n) (updV x 14 (.agg (mCells s1 s2))) V := by
  refine ⟨fun n q1 q2 q3 q4 q5 q6 hL => ?_, h.rest, h.box, h.deck, ⟨h.kk.1, fun hn => (hn (.inr l9)).elim, fun hn => (hn (.inr l13)).elim, fun hn => (hn (.inr l9)).elim⟩, fun _ => ?_, fun _ => ?_, fun _ => updV_eq, fun hL => (n15 (hL.resolve_left (by omega))).elim, fun hL => (n15 (hL.resolve_left (by omega))).elim, fun _ => h.own n16, fun hL => (n16 (hL.resolve_left (by omega))).elim, fun hL => (n18 (hL.resolve_left (by omega))).elim⟩
  · rw [updV_ne q3]; exact h.sim n q1 q2 q3 q4 q5 q6 (hL.resolve_left q3)
  · rw [updV_ne (by omega)]; exact h.d9 l9
  · rw [updV_ne (by omega)]; exact h.d13 l13
theorem Inv9.new (h : Inv9 R S S' tt z T D B gw kw a2 n2 c2 k2 s1 s2 b g cap k' L x V) (n16 : ¬ L 16) (n18 : ¬ L 18) (l9 : L 9) (l13 : L 13) (l14 : L 14) (hR : R (V.alloc (.cells (mCells s1 s2) 57))) : Inv9 R S S' tt z T D B gw kw a2 n2 c2 k2 s1 s2 V.heap.size g cap k' (fun n => n = 15 ∨ L n) (updV x 15 (.slice (some ⟨V.heap.size, 0, none⟩) 1 1)) (V.alloc (.cells (mCells s1 s2) 57)) := by
  have hx : Ext V (V.alloc (.cells (mCells s1 s2) 57)) := (Ext.refl V).alloc _
  refine ⟨fun n q1 q2 q3 q4 q5 q6 hL => ?_, hR, hx.block h.box, h.deck.ext hx, ⟨h.kk.1, fun hn => (hn (.inr l9)).elim, fun hn => (hn (.inr l13)).elim, fun hn => (hn (.inr l9)).elim⟩, fun _ => ?_, fun _ => ?_, fun _ => ?_, fun _ => updV_eq, fun _ _ => World.alloc_heap_new V _, fun _ => (h.own n16).ext hx, fun hL => (n16 (hL.resolve_left (by omega))).elim, fun hL => (n18 (hL.resolve_left (by omega))).elim⟩
  · rw [updV_ne q4]; exact h.sim n q1 q2 q3 q4 q5 q6 (hL.resolve_left q4)
  · rw [updV_ne (by omega)]; exact ⟨(h.d9 l9).1, (h.d9 l9).2.keep (D := fun _ => True) (Keep.of_ext hx) (fun _ _ _ => trivial)⟩
  · rw [updV_ne (by omega)]; exact ⟨(h.d13 l13).1, (h.d13 l13).2.keep (D := fun _ => True) (Keep.of_ext hx) (fun _ _ _ => trivial)⟩
  · rw [updV_ne (by omega)]; exact h.d14 l14
theorem Inv9.app (h : Inv9 R S S' tt z T D B gw kw a2 n2 c2 k2 s1 s2 b g cap k' L x V) (n18 : ¬ L 18) (l9 : L 9) (l13 : L 13) (l14 : L 14) (l15 : L 15) {g' cap' : Nat} (hR : R V') (hB : TBox V' B tt) (hD : IsDeck V' D a2 n2 c2 k') (hs1 : Lst S' V' 4 s1) (hs2 : Lst S' V' tt.P s2) (hX : OwnX S V' tt kw ∧ RowS S' V' 57 2 (.slice (some ⟨g', 0, none⟩) (z.l.length + 1) cap') (z.l.length + 1) (flat 2 meanC (z.l ++ [⟨s1, s2⟩])) ∧ ∀ i (hi : i < tt.words.l.length), i ≠ kw → tt.words.l[i].v.ownBlock ≠ some g') :
    Inv9 R S S' tt z T D B gw kw a2 n2 c2 k2 s1 s2 b g' cap' k' (fun n => n = 16 ∨ L n) (updV x 16 (.slice (some ⟨g', 0, none⟩) (z.l.length + 1) cap')) V' := by
  refine ⟨fun n q1 q2 q3 q4 q5 q6 hL => ?_, hR, hB, hD, ⟨h.kk.1, fun hn => (hn (.inr l9)).elim, fun hn => (hn (.inr l13)).elim, fun hn => (hn (.inr l9)).elim⟩, fun _ => ?_, fun _ => ?_, fun _ => ?_, fun _ => ?_, fun _ hn => (hn (.inl rfl)).elim, fun hn => (hn (.inl rfl)).elim, fun _ => ⟨updV_eq, fun _ => hX⟩, fun hL => (n18 (hL.resolve_left (by omega))).elim⟩
  · rw [updV_ne q5]; exact h.sim n q1 q2 q3 q4 q5 q6 (hL.resolve_left q5)
  · rw [updV_ne (by omega)]; exact ⟨(h.d9 l9).1, hs1⟩
  · rw [updV_ne (by omega)]; exact ⟨(h.d13 l13).1, hs2⟩
  · rw [updV_ne (by omega)]; exact h.d14 l14
  · rw [updV_ne (by omega)]; exact h.d15 l15
theorem Inv9.put (h : Inv9 R S S' tt z T D B gw kw a2 n2 c2 k2 s1 s2 b g cap k' L x V) (l9 : L 9) (l13 : L 13) (l14 : L 14) (l15 : L 15) (l16 : L 16) (n18 : ¬ L 18) (hz : ∃ hk : kw < tt.words.l.length, tt.words.l[kw] = z) (hS : ∀ u, S u → S' u) (hga : tt.words.a = some ⟨gw, 0, none⟩) (hgB : gw ≠ B) (hgD : gw ≠ D) (hby : ∀ y off, a2 = some ⟨y, off, none⟩ → 0 < n2 → y ≠ gw) (hR : R (V.setCell ⟨gw, kw, none⟩ (.slice (some ⟨g, 0, none⟩) (z.l.length + 1) cap))) :
    Inv9 R S S' tt z T D B gw kw a2 n2 c2 k2 s1 s2 b g cap k' (fun n => n = 18 ∨ L n) x (V.setCell ⟨gw, kw, none⟩ (.slice (some ⟨g, 0, none⟩) (z.l.length + 1) cap)) := by
  obtain ⟨r1, r2⟩ := h.d16 l16
  obtain ⟨r3, r4, r5⟩ := r2 n18
  obtain ⟨hk, hz⟩ := hz
  obtain ⟨g', cur, ha, -, hB, -⟩ := r3.words.at (by omega)
  rw [hga] at ha
  cases ha
  have hlen : (z.l ++ [(⟨s1, s2⟩ : MV)]).length = z.l.length + 1 := by simp
  refine ⟨fun n q1 q2 q3 q4 q5 q6 hL => h.sim n q1 q2 q3 q4 q5 q6 (hL.resolve_left q6), hR, (Below.heap_setCell _ _ _ B (fun e => hgB e.symm)).trans h.box, h.deck.set gw kw _ hgD hby, ⟨h.kk.1, fun hn => (hn (.inr l9)).elim, fun hn => (hn (.inr l13)).elim, fun hn => (hn (.inr l9)).elim⟩, fun _ => ⟨(h.d9 l9).1, (h.d9 l9).2.1.other hB (by decide), (h.d9 l9).2.2⟩, fun _ => ⟨(h.d13 l13).1, (h.d13 l13).2.1.other hB (by decide), (h.d13 l13).2.2⟩, fun _ => h.d14 l14, fun _ => h.d15 l15, fun _ hn => (hn (.inr l16)).elim, fun hn => (hn (.inr l16)).elim, fun _ => ⟨r1, fun hn => (hn (.inl rfl)).elim⟩, fun _ => ?_⟩
  have := r3.put hk hS hga (l := z.l ++ [⟨s1, s2⟩]) (g := g) (cap := cap) (by rw [hlen]; exact r4) (fun m hm => ?_) r5
  · rw [hlen] at this; exact this
  · rcases List.mem_append.1 hm with hm | hm
    · rw [← hz] at hm
      have := r3.mean _ (List.getElem_mem hk) m hm
      exact ⟨this.1.mono (fun u _ => hS u), this.2.mono (fun u _ => hS u)⟩
    · rw [List.mem_singleton] at hm; subst hm
      exact ⟨(h.d9 l9).2.1, (h.d13 l13).2.1⟩
end

set_option maxRecDepth 1000000 in
set_option maxHeartbeats 8000000 in
theorem more_region9 {u0 u1 u2 u3 u4 u7 u8 u9 u10 u11 u13 u14 u16 u17 u18 u19 u20 u21 u22 u23 u24 u25 u26 u27 u28 u29 u30 u31 u32 u33 u34 u35 u36 u37 u38 u39 u40 u41 u42 u43 u44 u45 u46 u47 u48 u49 u50 u51 u52 u53 u54 u55 u56 u57 u58 u59 u60 u61 u62 u63 u64 u65 u66 u67 u68 u69 u70 u71 u72 u73 u74 u75 u76 u77 u78 u79 u80 u81 u82 u83 u84 u85 u86 u87 u88 u89 u90 u91 u92 u93 u94 u95 u96 u97 u98 u99 u100 u101 u102 u103 u104 u105 u106 u107 u108 u109 u110 u111 u112 u113 u114 u115 u116 u117 u118 u119 u120 u121 u122 u123 u124 u125 u126 u127 u128 u129 u130 u131 u132 u133 u134 u135 u136 u137 u138 u139 u140 u141 u142 u143 u144 u145 u146 u147 u148 u149 u150 u151 u152 u153 u154 u155 u156 u157 u158 u159 u160 u161 u162 u163 u164 u165 u166 u167 u168 u169 u170 u171 u172 u173 u174 u175 u176 u177 u178 u179 u180 u181 u182 u183 u184 u185 u186 u187 u188 u189 u190 u191 u192 u193 u194 u195 u196 u197 u198 u199 u200 u201 u202 u203 u204 u205 u206 u207 u208 u209 u210 u211 u212 u213 u214 u215 u216 u217 u218 u219 u220 u221 u222 u223 u224 u225 u226 u227 u228 u229 u230 u231 u232 u233 u234 u235 u236 u237 u238 u239 u240 u241 u242 u243 u244 u245 u246 u247 u248 u249 u250 u251 u252 : Value} {Q : Exit → Act → World → Prop} (v : World) (R : World → Prop) (T D B0 n gw kw : Nat) (S0 S0' : Nat → Prop) (tt : TV) (z : SL MV) (a2 : Option Addr) (n2 c2 k2 : Nat)
    (HR : Hid (R v)) (HRX : Hid (∀ V V', R V → Keep (Off n D B0 S0) V V' → R V')) (HRT : Hid (∀ V, R V → V.cell? ⟨T, 0, none⟩ = some (.int .i64 (tt.P : Int)) ∧ n ≤ V.heap.size ∧ ∀ y off, a2 = some ⟨y, off, none⟩ → 0 < n2 → y < V.heap.size)) (HO : Hid (OwnS S0 v tt)) (HB : Hid (TBox v B0 tt)) (HD : Hid (IsDeck v D a2 n2 c2 k2)) (hk2 : k2 ≤ 1000)
    (HS : Hid ((∀ u, S0 u → S0' u) ∧ (∀ u, n ≤ u → S0' u) ∧ (∀ u, S0' u → u ≠ D) ∧ ∀ u, S0 u → u ≠ B0 ∧ ∀ y off, a2 = some ⟨y, off, none⟩ → 0 < n2 → y ≠ u)) (HBD : Hid (B0 ≠ D)) (hP : tt.P ≤ 12) (hkw : kw < tt.words.l.length) (h6 : tt.words.l.length ≤ 6) (HZ : Hid (tt.words.l[kw] = z)) (HGA : Hid (tt.words.a = some ⟨gw, 0, none⟩)) (hz4 : z.l.length ≤ 4)
    (HQ : Hid (∀ (x : Nat → Value) (s1 s2 : SL Nat) (g cap k' : Nat) (V : World), R V → OwnS S0' V (setW tt kw (some ⟨g, 0, none⟩) cap (z.l ++ [⟨s1, s2⟩])) → TBox V B0 tt → IsDeck V D a2 n2 c2 k' → k' ≤ k2 + 16 → ((∀ u ∈ s1.l, u < 4) ∧ s1.l.Pairwise (· < ·)) → ((∀ u ∈ s2.l, u < tt.P) ∧ s2.l.Pairwise (· < ·)) → Q .normal ⟨#[u0, u1, u2, u3, u4, .pointer (some ⟨T, 0, none⟩), .pointer (some ⟨D, 0, none⟩), u7, u8, u9, u10, u11, .pointer (some ⟨B0, 0, none⟩), u13, u14, .int .i64 (kw : Int), u16, u17, u18, u19, u20, u21, u22, u23, u24, u25, u26, u27, u28, u29, u30, u31, u32, u33, u34, u35, u36, u37, u38, u39, u40, u41, u42, u43, u44, u45, u46, u47, u48, u49, u50, u51, u52, u53, u54, u55, u56, u57, u58, u59, u60, u61, u62, u63, u64, u65, u66, x 0, x 1, x 2, x 3, x 4, x 5, x 6, x 7, x 8, x 9, x 10, x 11, x 12, x 13, x 14, x 15, x 16, x 17, u85, u86, u87, u88, u89, u90, u91, u92, u93, u94, u95, u96, u97, u98, u99, u100, u101, u102, u103, u104, u105, u106, u107, u108, u109, u110, u111, u112, u113, u114, u115, u116, u117, u118, u119, u120, u121, u122, u123, u124, u125, u126, u127, u128, u129, u130, u131, u132, u133, u134, u135, u136, u137, u138, u139, u140, u141, u142, u143, u144, u145, u146, u147, u148, u149, u150, u151, u152, u153, u154, u155, u156, u157, u158, u159, u160, u161, u162, u163, u164, u165, u166, u167, u168, u169, u170, u171, u172, u173, u174, u175, u176, u177, u178, u179, u180, u181, u182, u183, u184, u185, u186, u187, u188, u189, u190, u191, u192, u193, u194, u195, u196, u197, u198, u199, u200, u201, u202, u203, u204, u205, u206, u207, u208, u209, u210, u211, u212, u213, u214, u215, u216, u217, u218, u219, u220, u221, u222, u223, u224, u225, u226, u227, u228, u229, u230, u231, u232, u233, u234, u235, u236, u237, u238, u239, u240, u241, u242, u243, u244, u245, u246, u247, u248, u249, u250, u251, u252], []⟩ V)) :
    Code.wp Tryz.prog reg5_9 Q ⟨#[u0, u1, u2, u3, u4, .pointer (some ⟨T, 0, none⟩), .pointer (some ⟨D, 0, none⟩), u7, u8, u9, u10, u11, .pointer (some ⟨B0, 0, none⟩), u13, u14, .int .i64 (kw : Int), u16, u17, u18, u19, u20, u21, u22, u23, u24, u25, u26, u27, u28, u29, u30, u31, u32, u33, u34, u35, u36, u37, u38, u39, u40, u41, u42, u43, u44, u45, u46, u47, u48, u49, u50, u51, u52, u53, u54, u55, u56, u57, u58, u59, u60, u61, u62, u63, u64, u65, u66, u67, u68, u69, u70, u71, u72, u73, u74, u75, u76, u77, u78, u79, u80, u81, u82, u83, u84, u85, u86, u87, u88, u89, u90, u91, u92, u93, u94, u95, u96, u97, u98, u99, u100, u101, u102, u103, u104, u105, u106, u107, u108, u109, u110, u111, u112, u113, u114, u115, u116, u117, u118, u119, u120, u121, u122, u123, u124, u125, u126, u127, u128, u129, u130, u131, u132, u133, u134, u135, u136, u137, u138, u139, u140, u141, u142, u143, u144, u145, u146, u147, u148, u149, u150, u151, u152, u153, u154, u155, u156, u157, u158, u159, u160, u161, u162, u163, u164, u165, u166, u167, u168, u169, u170, u171, u172, u173, u174, u175, u176, u177, u178, u179, u180, u181, u182, u183, u184, u185, u186, u187, u188, u189, u190, u191, u192, u193, u194, u195, u196, u197, u198, u199, u200, u201, u202, u203, u204, u205, u206, u207, u208, u209, u210, u211, u212, u213, u214, u215, u216, u217, u218, u219, u220, u221, u222, u223, u224, u225, u226, u227, u228, u229, u230, u231, u232, u233, u234, u235, u236, u237, u238, u239, u240, u241, u242, u243, u244, u245, u246, u247, u248, u249, u250, u251, u252], []⟩ v := by
  conv => arg 2; whnf
  obtain ⟨i84, hi84, hz84, hs84, hb84⟩ := info_parts info57
  have HDn := Lib.hid (fun (V V' : World) (h : DExt D V V') => (off_dext h : Keep (Off n D B0 S0) V V'))
  have kw0 : (0 : Int) ≤ (kw : Int) := by omega
  have kw1 : (kw : Int) < (tt.words.l.length : Int) := by omega
  have HZ2 : Hid (∃ hk : kw < tt.words.l.length, tt.words.l[kw] = z) := ⟨hkw, HZ.out⟩
  refine wp_region_inv2 (by kernel_rfl) (by kernel_rfl) (fun L a w => ∃ (x : Nat → Value) (s1 s2 : SL Nat) (b g cap k' : Nat), a = ⟨#[u0, u1, u2, u3, u4, .pointer (some ⟨T, 0, none⟩), .pointer (some ⟨D, 0, none⟩), u7, u8, u9, u10, u11, .pointer (some ⟨B0, 0, none⟩), u13, u14, .int .i64 (kw : Int), u16, u17, u18, u19, u20, u21, u22, u23, u24, u25, u26, u27, u28, u29, u30, u31, u32, u33, u34, u35, u36, u37, u38, u39, u40, u41, u42, u43, u44, u45, u46, u47, u48, u49, u50, u51, u52, u53, u54, u55, u56, u57, u58, u59, u60, u61, u62, u63, u64, u65, u66, x 0, x 1, x 2, x 3, x 4, x 5, x 6, x 7, x 8, x 9, x 10, x 11, x 12, x 13, x 14, x 15, x 16, x 17, u85, u86, u87, u88, u89, u90, u91, u92, u93, u94, u95, u96, u97, u98, u99, u100, u101, u102, u103, u104, u105, u106, u107, u108, u109, u110, u111, u112, u113, u114, u115, u116, u117, u118, u119, u120, u121, u122, u123, u124, u125, u126, u127, u128, u129, u130, u131, u132, u133, u134, u135, u136, u137, u138, u139, u140, u141, u142, u143, u144, u145, u146, u147, u148, u149, u150, u151, u152, u153, u154, u155, u156, u157, u158, u159, u160, u161, u162, u163, u164, u165, u166, u167, u168, u169, u170, u171, u172, u173, u174, u175, u176, u177, u178, u179, u180, u181, u182, u183, u184, u185, u186, u187, u188, u189, u190, u191, u192, u193, u194, u195, u196, u197, u198, u199, u200, u201, u202, u203, u204, u205, u206, u207, u208, u209, u210, u211, u212, u213, u214, u215, u216, u217, u218, u219, u220, u221, u222, u223, u224, u225, u226, u227, u228, u229, u230, u231, u232, u233, u234, u235, u236, u237, u238, u239, u240, u241, u242, u243, u244, u245, u246, u247, u248, u249, u250, u251, u252], []⟩ ∧ Inv9 R S0 S0' tt z T D B0 gw kw a2 n2 c2 k2 s1 s2 b g cap k' L x w) ?_ ?_ ?_
  · refine ⟨fun n => if n = 0 then u67 else if n = 1 then u68 else if n = 2 then u69 else if n = 3 then u70 else if n = 4 then u71 else if n = 5 then u72 else if n = 6 then u73 else if n = 7 then u74 else if n = 8 then u75 else if n = 9 then u76 else if n = 10 then u77 else if n = 11 then u78 else if n = 12 then u79 else if n = 13 then u80 else if n = 14 then u81 else if n = 15 then u82 else if n = 16 then u83 else u84, ⟨none, 0, []⟩, ⟨none, 0, []⟩, 0, 0, 0, k2, rfl, fun _ _ _ _ _ _ _ h => h.elim, HRX.out _ _ HR.out (Keep.of_ext (Ext.refl v).drew), (Ext.refl v).drew.block HB.out, HD.out.ext (Ext.refl v).drew, ⟨by omega, fun _ => by omega, fun _ => by omega, fun _ _ => Nat.le_refl _⟩, fun h => h.elim, fun h => h.elim, fun h => h.elim, fun h => h.elim, fun h => h.elim, fun _ => HO.out.ext (Ext.refl v).drew, fun h => h.elim, fun h => h.elim⟩
  · rintro L act V i o ⟨x, s1, s2, b, g, cap, k', rfl, hI⟩ hcl hn ho hwait
    have hi : i < 19 := (Array.getElem?_eq_some_iff.1 ho).1
    have HI := Lib.hid hI
    have HNo := Lib.hid hn
    have HCl := Lib.hid hcl
    clear hI hn hcl
    obtain rfl | rfl | rfl | rfl | rfl | rfl | rfl | rfl | rfl | rfl | rfl | rfl | rfl | rfl | rfl | rfl | rfl | rfl | rfl : i = 0 ∨ i = 1 ∨ i = 2 ∨ i = 3 ∨ i = 4 ∨ i = 5 ∨ i = 6 ∨ i = 7 ∨ i = 8 ∨ i = 9 ∨ i = 10 ∨ i = 11 ∨ i = 12 ∨ i = 13 ∨ i = 14 ∨ i = 15 ∨ i = 16 ∨ i = 17 ∨ i = 18 := by omega
    all_goals (simp only [List.getElem?_toArray, List.getElem?_cons_zero, List.getElem?_cons_succ, Option.some.injEq] at ho)
    · subst ho
      clear hwait
      refine wpOp_step rfl (fun K' hK => ?_)
      have HKK := Lib.hid hK
      clear hK
      go_simp
      refine HKK.out _ _ ⟨updV x 0 (sim9 tt z T D B0 gw kw 0), s1, s2, b, g, cap, k', rfl, ?_⟩
      exact HI.out.simple 0 (by omega) (by omega) (by omega) (by omega) (by omega) (by omega)
    · subst ho
      have l0 : L 0 := hwait { on := 0, ground := Ground.data } (by simp) rfl
      have e0 : x 0 = .pointer (some ⟨B0, 2, none⟩) := HI.out.sim 0 (by omega) (by omega) (by omega) (by omega) (by omega) (by omega) l0
      have E0 := Lib.hid e0
      have L0 := Lib.hid l0
      clear hwait l0
      refine wpOp_step rfl (fun K' hK => ?_)
      have HKK := Lib.hid hK
      clear hK
      rw [e0]
      clear e0
      obtain ⟨f0, f1, f2, f3, f4⟩ := TBox.five5 HI.out.box
      rw [HGA.out] at f2
      go_simp
      refine HKK.out _ _ ⟨updV (updV x 0 (.pointer (some ⟨B0, 2, none⟩))) 1 (sim9 tt z T D B0 gw kw 1), s1, s2, b, g, cap, k', rfl, ?_⟩
      rw [updV_self E0.out]
      exact HI.out.simple 1 (by omega) (by omega) (by omega) (by omega) (by omega) (by omega)
    · subst ho
      clear hwait
      refine wpOp_step rfl (fun K' hK => ?_)
      have HKK := Lib.hid hK
      clear hK
      go_simp
      refine HKK.out _ _ ⟨updV x 2 (sim9 tt z T D B0 gw kw 2), s1, s2, b, g, cap, k', rfl, ?_⟩
      exact HI.out.simple 2 (by omega) (by omega) (by omega) (by omega) (by omega) (by omega)
    · subst ho
      clear hwait
      refine wpOp_step rfl (fun K' hK => ?_)
      have HKK := Lib.hid hK
      clear hK
      go_simp
      refine HKK.out _ _ ⟨updV x 3 (sim9 tt z T D B0 gw kw 3), s1, s2, b, g, cap, k', rfl, ?_⟩
      exact HI.out.simple 3 (by omega) (by omega) (by omega) (by omega) (by omega) (by omega)
    · subst ho
      have l3 : L 3 := hwait { on := 3, ground := Ground.data } (by simp) rfl
      have e3 : x 3 = .pointer (some ⟨B0, 2, none⟩) := HI.out.sim 3 (by omega) (by omega) (by omega) (by omega) (by omega) (by omega) l3
      have E3 := Lib.hid e3
      have L3 := Lib.hid l3
      clear hwait l3
      refine wpOp_step rfl (fun K' hK => ?_)
      have HKK := Lib.hid hK
      clear hK
      rw [e3]
      clear e3
      obtain ⟨f0, f1, f2, f3, f4⟩ := TBox.five5 HI.out.box
      rw [HGA.out] at f2
      go_simp
      refine HKK.out _ _ ⟨updV (updV x 3 (.pointer (some ⟨B0, 2, none⟩))) 4 (sim9 tt z T D B0 gw kw 4), s1, s2, b, g, cap, k', rfl, ?_⟩
      rw [updV_self E3.out]
      exact HI.out.simple 4 (by omega) (by omega) (by omega) (by omega) (by omega) (by omega)
    · subst ho
      clear hwait
      refine wpOp_step rfl (fun K' hK => ?_)
      have HKK := Lib.hid hK
      clear hK
      go_simp
      refine HKK.out _ _ ⟨updV x 5 (sim9 tt z T D B0 gw kw 5), s1, s2, b, g, cap, k', rfl, ?_⟩
      exact HI.out.simple 5 (by omega) (by omega) (by omega) (by omega) (by omega) (by omega)
    · subst ho
      have l4 : L 4 := hwait { on := 4, ground := Ground.data } (by simp) rfl
      have l5 : L 5 := hwait { on := 5, ground := Ground.data } (by simp) rfl
      have e4 : x 4 = .slice (some ⟨gw, 0, none⟩) tt.words.l.length tt.words.c := HI.out.sim 4 (by omega) (by omega) (by omega) (by omega) (by omega) (by omega) l4
      have e5 : x 5 = .int .i64 (kw : Int) := HI.out.sim 5 (by omega) (by omega) (by omega) (by omega) (by omega) (by omega) l5
      have E4 := Lib.hid e4
      have L4 := Lib.hid l4
      have E5 := Lib.hid e5
      have L5 := Lib.hid l5
      clear hwait l4 l5
      refine wpOp_step rfl (fun K' hK => ?_)
      have HKK := Lib.hid hK
      clear hK
      rw [e4]
      clear e4
      rw [e5]
      clear e5
      go_simp
      refine HKK.out _ _ ⟨updV (updV (updV x 4 (.slice (some ⟨gw, 0, none⟩) tt.words.l.length tt.words.c)) 5 (.int .i64 (kw : Int))) 6 (sim9 tt z T D B0 gw kw 6), s1, s2, b, g, cap, k', rfl, ?_⟩
      rw [updV_self E4.out, updV_self E5.out]
      exact HI.out.simple 6 (by omega) (by omega) (by omega) (by omega) (by omega) (by omega)
    · subst ho
      have l6 : L 6 := hwait { on := 6, ground := Ground.data } (by simp) rfl
      have e6 : x 6 = .pointer (some ⟨gw, kw, none⟩) := HI.out.sim 6 (by omega) (by omega) (by omega) (by omega) (by omega) (by omega) l6
      have E6 := Lib.hid e6
      have L6 := Lib.hid l6
      clear hwait l6
      refine wpOp_step rfl (fun K' hK => ?_)
      have HKK := Lib.hid hK
      clear hK
      rw [e6]
      clear e6
      have l16 : ¬ L 16 := fun h => HNo.out (HCl.out 16 _ h rfl { on := 7, ground := Ground.data } (by simp) rfl)
      have hown := HI.out.own l16
      obtain ⟨g', cur, ha, hSg, hBw, -, hgx⟩ := hown.words.at (by omega)
      rw [HGA.out] at ha
      cases ha
      have cw : V.cell? ⟨gw, kw, none⟩ = some (.slice z.a z.l.length z.c) := by
        have := hgx (kw * 1 + 0) _ (flat_get 1 slC tt.words.l kw 0 hkw (by omega))
        rw [HZ.out] at this
        simpa [slC] using this
      clear l16 hown hSg hBw hgx
      go_simp
      refine HKK.out _ _ ⟨updV (updV x 6 (.pointer (some ⟨gw, kw, none⟩))) 7 (sim9 tt z T D B0 gw kw 7), s1, s2, b, g, cap, k', rfl, ?_⟩
      rw [updV_self E6.out]
      exact HI.out.simple 7 (by omega) (by omega) (by omega) (by omega) (by omega) (by omega)
    · subst ho
      clear hwait
      refine wpOp_step rfl (fun K' hK => ?_)
      have HKK := Lib.hid hK
      clear hK
      go_simp
      refine HKK.out _ _ ⟨updV x 8 (sim9 tt z T D B0 gw kw 8), s1, s2, b, g, cap, k', rfl, ?_⟩
      exact HI.out.simple 8 (by omega) (by omega) (by omega) (by omega) (by omega) (by omega)
    · subst ho
      have l8 : L 8 := hwait { on := 8, ground := Ground.data } (by simp) rfl
      have e8 : x 8 = .pointer (some ⟨D, 0, none⟩) := HI.out.sim 8 (by omega) (by omega) (by omega) (by omega) (by omega) (by omega) l8
      have E8 := Lib.hid e8
      have L8 := Lib.hid l8
      have N9 : Hid (¬ L 9) := HNo.out
      have N14 : Hid (¬ L 14) := fun h => N9.out (HCl.out 14 _ h rfl { on := 9, ground := Ground.data } (by simp) rfl)
      have N15 : Hid (¬ L 15) := fun h => N14.out (HCl.out 15 _ h rfl { on := 14, ground := Ground.data } (by simp) rfl)
      have N16 : Hid (¬ L 16) := fun h => N15.out (HCl.out 16 _ h rfl { on := 15, ground := Ground.data } (by simp) rfl)
      have N18 : Hid (¬ L 18) := fun h => N16.out (HCl.out 18 _ h rfl { on := 16, ground := Ground.data } (by simp) rfl)
      clear hwait l8
      refine wpOp_step rfl (fun K' hK => ?_)
      have HKK := Lib.hid hK
      clear hK
      rw [e8]
      clear e8
      go_simp
      go_at_call 27
      refine (some_any D a2 n2 c2 k' 4 2 V HI.out.deck (HRT.out V HI.out.rest).2.2 (by have := HI.out.kk.1; omega) (by omega) (by omega)).mono ?_
      rintro e V2 ⟨sa, sc, sl, k1, rfl, ho1, hp1, hm1, hd1, hk1, hx1⟩
      have hn := (HRT.out V HI.out.rest).2.1
      have hls : Lst S0' V2 4 ⟨sa, sc, sl⟩ := ⟨(RowS.of ho1).mono (fun u _ hu => HS.out.2.1 u (Nat.le_trans hn hu.1)), hp1, hm1⟩
      refine HKK.out _ _ ⟨updV (updV x 8 (.pointer (some ⟨D, 0, none⟩))) 9 (.slice sa sl.length sc), ⟨sa, sc, sl⟩, s2, b, g, cap, k1, rfl, ?_⟩
      rw [updV_self E8.out]
      exact HI.out.deal9 N9.out N14.out N15.out N16.out N18.out hls hd1 hk1 hx1 (fun u hu => HS.out.2.2.1 u (HS.out.1 u hu)) HS.out.2.2.1 HBD.out (HRX.out _ _ HI.out.rest (HDn.out _ _ hx1))
    · subst ho
      clear hwait
      refine wpOp_step rfl (fun K' hK => ?_)
      have HKK := Lib.hid hK
      clear hK
      go_simp
      refine HKK.out _ _ ⟨updV x 10 (sim9 tt z T D B0 gw kw 10), s1, s2, b, g, cap, k', rfl, ?_⟩
      exact HI.out.simple 10 (by omega) (by omega) (by omega) (by omega) (by omega) (by omega)
    · subst ho
      clear hwait
      refine wpOp_step rfl (fun K' hK => ?_)
      have HKK := Lib.hid hK
      clear hK
      go_simp
      refine HKK.out _ _ ⟨updV x 11 (sim9 tt z T D B0 gw kw 11), s1, s2, b, g, cap, k', rfl, ?_⟩
      exact HI.out.simple 11 (by omega) (by omega) (by omega) (by omega) (by omega) (by omega)
    · subst ho
      have l11 : L 11 := hwait { on := 11, ground := Ground.data } (by simp) rfl
      have e11 : x 11 = .pointer (some ⟨T, 0, none⟩) := HI.out.sim 11 (by omega) (by omega) (by omega) (by omega) (by omega) (by omega) l11
      have E11 := Lib.hid e11
      have L11 := Lib.hid l11
      clear hwait l11
      refine wpOp_step rfl (fun K' hK => ?_)
      have HKK := Lib.hid hK
      clear hK
      rw [e11]
      clear e11
      have cP := (HRT.out V HI.out.rest).1
      go_simp
      refine HKK.out _ _ ⟨updV (updV x 11 (.pointer (some ⟨T, 0, none⟩))) 12 (sim9 tt z T D B0 gw kw 12), s1, s2, b, g, cap, k', rfl, ?_⟩
      rw [updV_self E11.out]
      exact HI.out.simple 12 (by omega) (by omega) (by omega) (by omega) (by omega) (by omega)
    · subst ho
      have l10 : L 10 := hwait { on := 10, ground := Ground.data } (by simp) rfl
      have l12 : L 12 := hwait { on := 12, ground := Ground.data } (by simp) rfl
      have e10 : x 10 = .pointer (some ⟨D, 0, none⟩) := HI.out.sim 10 (by omega) (by omega) (by omega) (by omega) (by omega) (by omega) l10
      have e12 : x 12 = .int .i64 (tt.P : Int) := HI.out.sim 12 (by omega) (by omega) (by omega) (by omega) (by omega) (by omega) l12
      have E10 := Lib.hid e10
      have L10 := Lib.hid l10
      have E12 := Lib.hid e12
      have L12 := Lib.hid l12
      have N13 : Hid (¬ L 13) := HNo.out
      have N14 : Hid (¬ L 14) := fun h => N13.out (HCl.out 14 _ h rfl { on := 13, ground := Ground.data } (by simp) rfl)
      have N15 : Hid (¬ L 15) := fun h => N14.out (HCl.out 15 _ h rfl { on := 14, ground := Ground.data } (by simp) rfl)
      have N16 : Hid (¬ L 16) := fun h => N15.out (HCl.out 16 _ h rfl { on := 15, ground := Ground.data } (by simp) rfl)
      have N18 : Hid (¬ L 18) := fun h => N16.out (HCl.out 18 _ h rfl { on := 16, ground := Ground.data } (by simp) rfl)
      clear hwait l10 l12
      refine wpOp_step rfl (fun K' hK => ?_)
      have HKK := Lib.hid hK
      clear hK
      rw [e10]
      clear e10
      rw [e12]
      clear e12
      go_simp
      go_at_call 27
      refine (some_any D a2 n2 c2 k' tt.P 2 V HI.out.deck (HRT.out V HI.out.rest).2.2 (by have := HI.out.kk.1; omega) (by omega) (by omega)).mono ?_
      rintro e V2 ⟨sa, sc, sl, k1, rfl, ho1, hp1, hm1, hd1, hk1, hx1⟩
      have hn := (HRT.out V HI.out.rest).2.1
      have hls : Lst S0' V2 tt.P ⟨sa, sc, sl⟩ := ⟨(RowS.of ho1).mono (fun u _ hu => HS.out.2.1 u (Nat.le_trans hn hu.1)), hp1, hm1⟩
      refine HKK.out _ _ ⟨updV (updV (updV x 10 (.pointer (some ⟨D, 0, none⟩))) 12 (.int .i64 (tt.P : Int))) 13 (.slice sa sl.length sc), s1, ⟨sa, sc, sl⟩, b, g, cap, k1, rfl, ?_⟩
      rw [updV_self E10.out, updV_self E12.out]
      exact HI.out.deal13 N13.out N14.out N15.out N16.out N18.out hls hd1 hk1 hP hx1 (fun u hu => HS.out.2.2.1 u (HS.out.1 u hu)) HS.out.2.2.1 HBD.out (HRX.out _ _ HI.out.rest (HDn.out _ _ hx1))
    · subst ho
      have l9 : L 9 := hwait { on := 9, ground := Ground.data } (by simp) rfl
      have l13 : L 13 := hwait { on := 13, ground := Ground.data } (by simp) rfl
      have e9 : x 9 = .slice s1.a s1.l.length s1.c := (HI.out.d9 l9).1
      have e13 : x 13 = .slice s2.a s2.l.length s2.c := (HI.out.d13 l13).1
      have E9 := Lib.hid e9
      have L9 := Lib.hid l9
      have E13 := Lib.hid e13
      have L13 := Lib.hid l13
      have N14 : Hid (¬ L 14) := HNo.out
      have N15 : Hid (¬ L 15) := fun h => N14.out (HCl.out 15 _ h rfl { on := 14, ground := Ground.data } (by simp) rfl)
      have N16 : Hid (¬ L 16) := fun h => N15.out (HCl.out 16 _ h rfl { on := 15, ground := Ground.data } (by simp) rfl)
      have N18 : Hid (¬ L 18) := fun h => N16.out (HCl.out 18 _ h rfl { on := 16, ground := Ground.data } (by simp) rfl)
      clear hwait l9 l13
      refine wpOp_step rfl (fun K' hK => ?_)
      have HKK := Lib.hid hK
      clear hK
      rw [e9]
      clear e9
      rw [e13]
      clear e13
      go_simp
      refine HKK.out _ _ ⟨updV (updV (updV x 9 (.slice s1.a s1.l.length s1.c)) 13 (.slice s2.a s2.l.length s2.c)) 14 (.agg (mCells s1 s2)), s1, s2, b, g, cap, k', rfl, ?_⟩
      rw [updV_self E9.out, updV_self E13.out]
      exact HI.out.agg N15.out N16.out N18.out L9.out L13.out
    · subst ho
      have l14 : L 14 := hwait { on := 14, ground := Ground.data } (by simp) rfl
      have e14 : x 14 = .agg (mCells s1 s2) := HI.out.d14 l14
      have E14 := Lib.hid e14
      have L14 := Lib.hid l14
      have N15 : Hid (¬ L 15) := HNo.out
      have N16 : Hid (¬ L 16) := fun h => N15.out (HCl.out 16 _ h rfl { on := 15, ground := Ground.data } (by simp) rfl)
      have N18 : Hid (¬ L 18) := fun h => N16.out (HCl.out 18 _ h rfl { on := 16, ground := Ground.data } (by simp) rfl)
      have L9 : Hid (L 9) := HCl.out 14 _ L14.out rfl { on := 9, ground := Ground.data } (by simp) rfl
      have L13 : Hid (L 13) := HCl.out 14 _ L14.out rfl { on := 13, ground := Ground.data } (by simp) rfl
      clear hwait l14
      refine wpOp_step rfl (fun K' hK => ?_)
      have HKK := Lib.hid hK
      clear hK
      rw [e14]
      clear e14
      go_simp
      refine HKK.out _ _ ⟨updV (updV x 14 (.agg (mCells s1 s2))) 15 (.slice (some ⟨V.heap.size, 0, none⟩) 1 1), s1, s2, V.heap.size, g, cap, k', rfl, ?_⟩
      rw [updV_self E14.out]
      exact HI.out.new N16.out N18.out L9.out L13.out L14.out (HRX.out _ _ HI.out.rest (Keep.of_ext ((Ext.refl V).alloc _)))
    · subst ho
      have l7 : L 7 := hwait { on := 7, ground := Ground.data } (by simp) rfl
      have l15 : L 15 := hwait { on := 15, ground := Ground.data } (by simp) rfl
      have e7 : x 7 = .slice z.a z.l.length z.c := HI.out.sim 7 (by omega) (by omega) (by omega) (by omega) (by omega) (by omega) l7
      have e15 : x 15 = .slice (some ⟨b, 0, none⟩) 1 1 := HI.out.d15 l15
      have E7 := Lib.hid e7
      have L7 := Lib.hid l7
      have E15 := Lib.hid e15
      have L15 := Lib.hid l15
      have N16 : Hid (¬ L 16) := HNo.out
      have N18 : Hid (¬ L 18) := fun h => N16.out (HCl.out 18 _ h rfl { on := 16, ground := Ground.data } (by simp) rfl)
      have L14 : Hid (L 14) := HCl.out 15 _ L15.out rfl { on := 14, ground := Ground.data } (by simp) rfl
      have L9 : Hid (L 9) := HCl.out 14 _ L14.out rfl { on := 9, ground := Ground.data } (by simp) rfl
      have L13 : Hid (L 13) := HCl.out 14 _ L14.out rfl { on := 13, ground := Ground.data } (by simp) rfl
      clear hwait l7 l15
      refine wpOp_step rfl (fun K' hK => ?_)
      have HKK := Lib.hid hK
      clear hK
      rw [e7]
      clear e7
      rw [e15]
      clear e15
      have hown := HI.out.own N16.out
      have hblk := HI.out.blk L15.out N16.out
      have hV := (HRT.out V HI.out.rest).2.1
      have hrw := hown.word _ (List.getElem_mem hkw)
      have hrk : RowS S0 V 57 2 z.v z.l.length (flat 2 meanC z.l) := by have := hrw.1; rw [HZ.out] at this; exact this
      refine step_append_lies _ rfl (.tmp 74) (.tmp 82) 54 rfl 0 57 i84 (.agg #[.slice none 0 0, .slice none 0 0]) 2 48 Tryz.underlying54 hi84 hz84 hs84 hb84 rfl (by decide) (.slice z.a z.l.length z.c) z.l.length (flat 2 meanC z.l) ?_ hrk.1 ⟨b, 0, none⟩ 1 1 (flat 2 meanC [(⟨s1, s2⟩ : MV)]) ?_ rfl (World.news_of_block hblk) (mean_one _) (by decide) (by unfold maxLen; omega) (by omega) (Nat.zero_le _) _ rfl ?_
      · rfl
      · rfl
      · intro g1 cap1 V2 hown2 hgrow hwh hgl
        have hrow : ∀ u, (Value.slice z.a z.l.length z.c).ownBlock = some u → S0 u := hrk.2
        have hgrow2 : V.grownBy V2 (tt.words.l[kw]).v.ownBlock := by rw [HZ.out]; exact hgrow
        have hkp : Keep (Off n D B0 S0) V V2 := (Keep.refl _ V).grown hgrow (fun u e _ h => h.2.2.2 (hrow u e))
        have hg1 : S0' g1 := by
          rcases hwh with h | h
          · exact HS.out.1 g1 (hrow g1 h)
          · exact HS.out.2.1 g1 (by omega)
        have hap : ∀ i (hi : i < tt.words.l.length), i ≠ kw → tt.words.l[i].v.ownBlock ≠ some g1 := by
          intro i hi hne e
          rcases hwh with h | h
          · exact apart_ne hown.apart hkw hi hne (by rw [HZ.out]; exact h) g1 e rfl
          · have := own_in (hown.word _ (List.getElem_mem hi)).1.1 e
            omega
        have hr2 : RowS S0' V2 57 2 (.slice (some ⟨g1, 0, none⟩) (z.l.length + 1) cap1) (z.l.length + 1) (flat 2 meanC (z.l ++ [(⟨s1, s2⟩ : MV)])) := by
          rw [flat_append]
          exact ⟨hown2, fun u hu => by cases hu; exact hg1⟩
        have hl1 := (HI.out.d9 L9.out).2
        have hl2 := (HI.out.d13 L13.out).2
        refine HKK.out _ _ ⟨updV (updV (updV x 7 (.slice z.a z.l.length z.c)) 15 (.slice (some ⟨b, 0, none⟩) 1 1)) 16 (.slice (some ⟨g1, 0, none⟩) (z.l.length + 1) cap1), s1, s2, b, g1, cap1, k', rfl, ?_⟩
        rw [updV_self E7.out, updV_self E15.out]
        refine HI.out.app N18.out L9.out L13.out L14.out L15.out (HRX.out _ _ HI.out.rest hkp) ?_ ?_ ⟨hl1.1.grown hgrow (ne_type hl1.1 hrk (by decide)), hl1.2⟩ ⟨hl2.1.grown hgrow (ne_type hl2.1 hrk (by decide)), hl2.2⟩ ⟨hown.toX hkw hgrow2, hr2, hap⟩
        · have h1 := HI.out.box
          exact (hgrow.block B0 (Array.getElem?_eq_some_iff.1 h1).1 (fun e => (HS.out.2.2.2 B0 (hrow B0 e.symm)).1 rfl)).trans h1
        · exact HI.out.deck.step hgrow (fun u e => ⟨HS.out.2.2.1 u (HS.out.1 u (hrow u e)), (HS.out.2.2.2 u (hrow u e)).2⟩)
    · subst ho
      have l1 : L 1 := hwait { on := 1, ground := Ground.data } (by simp) rfl
      have l2 : L 2 := hwait { on := 2, ground := Ground.data } (by simp) rfl
      have e1 : x 1 = .slice (some ⟨gw, 0, none⟩) tt.words.l.length tt.words.c := HI.out.sim 1 (by omega) (by omega) (by omega) (by omega) (by omega) (by omega) l1
      have e2 : x 2 = .int .i64 (kw : Int) := HI.out.sim 2 (by omega) (by omega) (by omega) (by omega) (by omega) (by omega) l2
      have E1 := Lib.hid e1
      have L1 := Lib.hid l1
      have E2 := Lib.hid e2
      have L2 := Lib.hid l2
      clear hwait l1 l2
      refine wpOp_step rfl (fun K' hK => ?_)
      have HKK := Lib.hid hK
      clear hK
      rw [e1]
      clear e1
      rw [e2]
      clear e2
      go_simp
      refine HKK.out _ _ ⟨updV (updV (updV x 1 (.slice (some ⟨gw, 0, none⟩) tt.words.l.length tt.words.c)) 2 (.int .i64 (kw : Int))) 17 (sim9 tt z T D B0 gw kw 17), s1, s2, b, g, cap, k', rfl, ?_⟩
      rw [updV_self E1.out, updV_self E2.out]
      exact HI.out.simple 17 (by omega) (by omega) (by omega) (by omega) (by omega) (by omega)
    · subst ho
      have l17 : L 17 := hwait { on := 17, ground := Ground.data } (by simp) rfl
      have l16 : L 16 := hwait { on := 16, ground := Ground.data } (by simp) rfl
      have e17 : x 17 = .pointer (some ⟨gw, kw, none⟩) := HI.out.sim 17 (by omega) (by omega) (by omega) (by omega) (by omega) (by omega) l17
      have e16 : x 16 = .slice (some ⟨g, 0, none⟩) (z.l.length + 1) cap := (HI.out.d16 l16).1
      have E17 := Lib.hid e17
      have L17 := Lib.hid l17
      have E16 := Lib.hid e16
      have L16 := Lib.hid l16
      have L15 : Hid (L 15) := HCl.out 16 _ L16.out rfl { on := 15, ground := Ground.data } (by simp) rfl
      have L14 : Hid (L 14) := HCl.out 15 _ L15.out rfl { on := 14, ground := Ground.data } (by simp) rfl
      have L9 : Hid (L 9) := HCl.out 14 _ L14.out rfl { on := 9, ground := Ground.data } (by simp) rfl
      have L13 : Hid (L 13) := HCl.out 14 _ L14.out rfl { on := 13, ground := Ground.data } (by simp) rfl
      clear hwait l17 l16
      refine wpOp_step rfl (fun K' hK => ?_)
      have HKK := Lib.hid hK
      clear hK
      rw [e17]
      clear e17
      rw [e16]
      clear e16
      have hX := ((HI.out.d16 L16.out).2 HNo.out).1
      obtain ⟨g', cur, ha, hSg, hBw, -, hgx⟩ := hX.words.at (by omega)
      rw [HGA.out] at ha
      cases ha
      have cw : V.cell? ⟨gw, kw, none⟩ = some (slC tt.words.l[kw] 0) := by
        have := hgx (kw * 1 + 0) _ (flat_get 1 slC tt.words.l kw 0 hkw (by omega))
        simpa using this
      have fw : V.frozen? ⟨gw, kw, none⟩ = false := by simp [World.frozen?, hBw]
      have HSg := Lib.hid hSg
      clear hX hBw hgx hSg
      have hR1 := Lib.hid (HRX.out V (V.setCell ⟨gw, kw, none⟩ (.slice (some ⟨g, 0, none⟩) (z.l.length + 1) cap)) HI.out.rest ((Keep.refl _ V).setCell _ _ (fun _ h => h.2.2.2 HSg.out)))
      go_simp
      refine HKK.out _ _ ⟨(updV (updV x 17 (.pointer (some ⟨gw, kw, none⟩))) 16 (.slice (some ⟨g, 0, none⟩) (z.l.length + 1) cap)), s1, s2, b, g, cap, k', rfl, ?_⟩
      rw [updV_self E17.out, updV_self E16.out]
      exact HI.out.put L9.out L13.out L14.out L15.out L16.out HNo.out HZ2.out HS.out.1 HGA.out (HS.out.2.2.2 gw HSg.out).1 (HS.out.2.2.1 gw (HS.out.1 gw HSg.out)) (HS.out.2.2.2 gw HSg.out).2 hR1.out
  · rintro L act V ⟨x, s1, s2, b, g, cap, k', rfl, hI⟩ hL
    have h1 := (hI.d9 (hL 9 (by decide))).2.2
    have h2 := (hI.d13 (hL 13 (by decide))).2.2
    exact HQ.out x s1 s2 g cap k' V hI.rest (hI.d18 (hL 18 (by decide))) hI.box hI.deck hI.kk.1 ⟨h1.2, h1.1⟩ ⟨h2.2, h2.1⟩
end Go.Proofs.YtopjjcgmcieboaaGreatDoor

namespace Go.Proofs.YtopjjcgmcieboaaGreatDoor
open Go.RowKit

noncomputable def tail5_8 : Code := ((Tryz.f5.body.bind (tailA 8)).getD .skip)

set_option maxRecDepth 1000000 in
set_option maxHeartbeats 8000000 in
theorem more_tailE {u0 u1 u2 u3 u4 u9 u11 u15 u16 u17 u18 u19 u20 u21 u22 u23 u24 u25 u26 u27 u28 u29 u30 u31 u32 u33 u34 u35 u36 u37 u38 u39 u40 u41 u42 u43 u44 u45 u46 u47 u48 u49 u50 u51 u52 u53 u54 u55 u56 u57 u58 u59 u60 u61 u62 u63 u64 u65 u66 u67 u68 u69 u70 u71 u72 u73 u74 u75 u76 u77 u78 u79 u80 u81 u82 u83 u84 u85 u86 u87 u88 u89 u90 u91 u92 u93 u94 u95 u96 u97 u98 u99 u100 u101 u102 u103 u104 u105 u106 u107 u108 u109 u110 u111 u112 u113 u114 u115 u116 u117 u118 u119 u120 u121 u122 u123 u124 u125 u126 u127 u128 u129 u130 u131 u132 u133 u134 u135 u136 u137 u138 u139 u140 u141 u142 u143 u144 u145 u146 u147 u148 u149 u150 u151 u152 u153 u154 u155 u156 u157 u158 u159 u160 u161 u162 u163 u164 u165 u166 u167 u168 u169 u170 u171 u172 u173 u174 u175 u176 u177 u178 u179 u180 u181 u182 u183 u184 u185 u186 u187 u188 u189 u190 u191 u192 u193 u194 u195 u196 u197 u198 u199 u200 u201 u202 u203 u204 u205 u206 u207 u208 u209 u210 u211 u212 u213 u214 u215 u216 u217 u218 u219 u220 u221 u222 u223 u224 u225 u226 u227 u228 u229 u230 u231 u232 u233 u234 u235 u236 u237 u238 u239 u240 u241 u242 u243 u244 u245 u246 u247 u248 u249 u250 u251 u252 : Value} (w v3 v : World) (T D B0 B1 B2 : Nat) (S0 S1 S2 : Nat → Prop) (t tt tw ts : TV) (aa a2 : Option Addr) (ca many n2 c2 k2 : Nat) (ea : Int) (la : List (SL Nat))
    (HK : Hid (OkT t)) (HT : Hid (IsTo D v3 t)) (HB : Hid (TBox v3 T t)) (hTD : T ≠ D) (HTb : Hid (TblO (D + 1) v3 aa ca la))
    (HF : Hid (FarC v3 v.heap.size D B0 B1 B2 S0 S1 S2)) (HR : Hid (RestD v3 v.heap.size D B1 B2 S1 S2 tw ts v)) (HO : Hid (OwnS S0 v tt)) (HBt : Hid (TBox v B0 tt)) (HSt : Hid (SameT t tt)) (HSw : Hid (SameT t tw)) (HSs : Hid (SameT t ts))
    (HD : Hid (IsDeck v D a2 n2 c2 k2)) (hk2 : k2 ≤ 100) (HBy : Hid (∀ b off, a2 = some ⟨b, off, none⟩ → 0 < n2 → b < v3.heap.size)) (hwD : w.heap.size ≤ D) (hP2 : 2 ≤ t.P) (hw16 : t.ways.l.length ≤ 16) (hw1 : 1 ≤ t.words.l.length) (hw3 : t.words.l.length ≤ 3) (H3 : Hid (∀ z ∈ t.words.l, z.l.length ≤ 3))
    (HA : Hid ((ea = 0 ∧ AllL t (la.map fun r => r.l) ∧ (allD t).length ≤ 200) ∨ (ea = 11 ∧ la = [] ∧ 200 < (allD t).length))) (HMany : Hid (many = (bestR t (allR (cntR t))).2)) (EV : Hid (Ext w v3)) :
    Code.wp Tryz.prog tail5_8 (bodyPost Tryz.prog Tryz.f5 fun e w' => e = .returned (.bool true) ∧ Ext w w') ⟨#[u0, u1, u2, u3, u4, .pointer (some ⟨T, 0, none⟩), .pointer (some ⟨D, 0, none⟩), .slice aa la.length ca, .int .i64 ea, u9, .int .i64 (many : Int), u11, .pointer (some ⟨B0, 0, none⟩), .pointer (some ⟨B1, 0, none⟩), .pointer (some ⟨B2, 0, none⟩), u15, u16, u17, u18, u19, u20, u21, u22, u23, u24, u25, u26, u27, u28, u29, u30, u31, u32, u33, u34, u35, u36, u37, u38, u39, u40, u41, u42, u43, u44, u45, u46, u47, u48, u49, u50, u51, u52, u53, u54, u55, u56, u57, u58, u59, u60, u61, u62, u63, u64, u65, u66, u67, u68, u69, u70, u71, u72, u73, u74, u75, u76, u77, u78, u79, u80, u81, u82, u83, u84, u85, u86, u87, u88, u89, u90, u91, u92, u93, u94, u95, u96, u97, u98, u99, u100, u101, u102, u103, u104, u105, u106, u107, u108, u109, u110, u111, u112, u113, u114, u115, u116, u117, u118, u119, u120, u121, u122, u123, u124, u125, u126, u127, u128, u129, u130, u131, u132, u133, u134, u135, u136, u137, u138, u139, u140, u141, u142, u143, u144, u145, u146, u147, u148, u149, u150, u151, u152, u153, u154, u155, u156, u157, u158, u159, u160, u161, u162, u163, u164, u165, u166, u167, u168, u169, u170, u171, u172, u173, u174, u175, u176, u177, u178, u179, u180, u181, u182, u183, u184, u185, u186, u187, u188, u189, u190, u191, u192, u193, u194, u195, u196, u197, u198, u199, u200, u201, u202, u203, u204, u205, u206, u207, u208, u209, u210, u211, u212, u213, u214, u215, u216, u217, u218, u219, u220, u221, u222, u223, u224, u225, u226, u227, u228, u229, u230, u231, u232, u233, u234, u235, u236, u237, u238, u239, u240, u241, u242, u243, u244, u245, u246, u247, u248, u249, u250, u251, u252], []⟩ v := by
  conv => arg 2; whnf
  have HTl : Hid (T < v3.heap.size) := (Array.getElem?_eq_some_iff.1 HB.out).1
  have HTV : Hid (∀ V, DExt D v3 V → TBox V T t) := fun V h => (h.block T HTl.out (by simp; omega)).trans HB.out
  have hD := HF.out.d2
  have hb0 := HF.out.b0
  have hP12 := HK.out.p2
  have HPt := Lib.hid HSt.out.P
  have HKt : Hid (OkT tt) := HSt.out.ok HK.out
  have HMt : Hid (MoreT t tt) := MoreT.same HSt.out
  have HLt := Lib.hid HMt.out.many
  obtain ⟨f0, f1, f2, f3, f4⟩ := TBox.five5 (HTV.out v HR.out.old)
  go_wp2_with fail
  clear f0 f1 f2 f3 f4
  refine (draw_any D a2 n2 c2 k2 t.words.l.length v HD.out (by omega) (by omega)).mono ?_
  rintro e v1 ⟨kw, k3, hkw0, hk3, rfl, hd1, hg1⟩
  have hkwt : kw < t.words.l.length := by omega
  clear hkw0
  have HX1 : Hid (DExt D v v1) := hg1
  have HD1 := Lib.hid hd1
  clear hd1 hg1
  have hS0D : ∀ g, S0 g → g ≠ D := fun g hg => by have := (HF.out.s0 g hg).1; omega
  have HS0D := Lib.hid hS0D; clear hS0D
  have HR1 : Hid (RestD v3 v.heap.size D B1 B2 S1 S2 tw ts v1) := HR.out.keep HF.out.dt (off_dext HX1.out)
  have HO1 : Hid (OwnS S0 v1 tt) := HO.out.keep (keep_dext (S := fun _ => False) HX1.out) (fun g _ hg => ⟨HS0D.out g hg, fun h => h⟩)
  have HB1 : Hid (TBox v1 B0 tt) := (HX1.out.block B0 (Array.getElem?_eq_some_iff.1 HBt.out).1 (by simp; omega)).trans HBt.out
  have hkw : kw < tt.words.l.length := by have := HLt.out; omega
  have h6 : tt.words.l.length ≤ 6 := HKt.out.words
  obtain ⟨gw, curw, hgwa, -, -, -, -⟩ := HO1.out.words.at (by omega)
  have HGA := Lib.hid hgwa; clear hgwa
  obtain ⟨z, hz⟩ : ∃ z, tt.words.l[kw] = z := ⟨_, rfl⟩
  have HZ := Lib.hid hz
  have hz3 : z.l.length ≤ 3 ∧ ∀ z ∈ tt.words.l, z.l.length ≤ 3 := by
    have hall : ∀ z ∈ tt.words.l, z.l.length ≤ 3 := by
      intro y hy
      have : listsOf y ∈ t.words.l.map listsOf := by rw [← HSt.out.words]; exact List.mem_map.2 ⟨y, hy, rfl⟩
      obtain ⟨y', hy', e⟩ := List.mem_map.1 this
      have el : y'.l.length = y.l.length := by have := congrArg List.length e; simpa [listsOf] using this
      rw [← el]; exact H3.out y' hy'
    exact ⟨by rw [← hz]; exact hall _ (List.getElem_mem hkw), hall⟩
  have HZ3 := Lib.hid hz3.2
  have hz4 : z.l.length ≤ 4 := by omega
  clear hz hz3
  have hPt : tt.P ≤ 12 := by have := HPt.out; omega
  go_upto_region 9 with (fail)
  go_cut [] (fun wx => ∃ (s1 s2 : SL Nat) (g cap k' : Nat), Hid (RestD v3 v.heap.size D B1 B2 S1 S2 tw ts wx) ∧ Hid (OwnS (fun g => S0 g ∨ v.heap.size ≤ g) wx (setW tt kw (some ⟨g, 0, none⟩) cap (z.l ++ [⟨s1, s2⟩]))) ∧ Hid (TBox wx B0 tt) ∧ Hid (IsDeck wx D a2 n2 c2 k') ∧ k' ≤ k3 + 16 ∧ Hid ((∀ u ∈ s1.l, u < 4) ∧ s1.l.Pairwise (· < ·)) ∧ Hid ((∀ u ∈ s2.l, u < tt.P) ∧ s2.l.Pairwise (· < ·)))
  case first =>
    refine more_region9 v1 (RestD v3 v.heap.size D B1 B2 S1 S2 tw ts) T D B0 v.heap.size gw kw S0 (fun g => S0 g ∨ v.heap.size ≤ g) tt z a2 n2 c2 k3 HR1 ?_ ?_ HO1 HB1 HD1 (by omega) ?_ ?_ hPt hkw h6 HZ HGA hz4 ?_
    · exact fun V V' h k => h.keep HF.out.dt k
    · refine fun V h => ⟨?_, h.size, fun y off h1 h2 => ?_⟩
      · rw [HPt.out]; exact (cell_at (HTV.out V h.old) 0).trans rfl
      · have := HBy.out y off h1 h2; have := h.size; omega
    · refine ⟨fun u h => .inl h, fun u h => .inr h, fun u h => ?_, fun u h => ?_⟩
      · rcases h with h | h
        · exact HS0D.out u h
        · omega
      · obtain ⟨q1, q2, q3, q4, q5, -⟩ := HF.out.s0 u h
        exact ⟨q5, fun y off h1 h2 => by have := HBy.out y off h1 h2; omega⟩
    · show B0 ≠ D
      omega
    · intro x s1 s2 g cap k' V h1 h2 h3 h4 h5 h6 h7
      have H1 := Lib.hid h1
      have H2 := Lib.hid h2
      have H3 := Lib.hid h3
      have H4 := Lib.hid h4
      have H6 := Lib.hid h6
      have H7 := Lib.hid h7
      clear h1 h2 h3 h4 h6 h7
      go_wp2_with fail
      go_meet
      exact ⟨s1, s2, g, cap, k', H1, H2, H3, H4, h5, H6, H7⟩
  case rest =>
    obtain ⟨s1, s2, g, cap, k', HR2, HO2, HB2, HD2, hk', HL1, HL2⟩ := hcut
    obtain ⟨wo, rfl⟩ : ∃ wo : World, wo = wc := ⟨_, rfl⟩
    go_upto_region 10 with (fail)
    go_cut [16] (fun s16 wx => ∃ xa k4 : Nat, s16 = .int .i64 (xa : Int) ∧ xa < t.P ∧ Hid (DExt D wo wx) ∧ Hid (IsDeck wx D a2 n2 c2 k4) ∧ k4 ≤ k' + 1)
    case first =>
      obtain ⟨f0, f1, f2, f3, f4⟩ := TBox.five5 (HTV.out wo HR2.out.old)
      go_wp2_with fail
      clear f0 f1 f2 f3 f4
      refine (draw_any D a2 n2 c2 k' t.P wo HD2.out (by omega) (by omega)).mono ?_
      rintro e wz ⟨xa, k4, hxa0, hk4, rfl, hd4, hg4⟩
      have hxa : xa < t.P := by omega
      have HX4 : Hid (DExt D wo wz) := hg4
      have HD4 := Lib.hid hd4
      clear hxa0 hd4 hg4
      go_wp2_with fail
      go_meet
      exact ⟨xa, k4, rfl, hxa, HX4, HD4, hk4⟩
    obtain ⟨xa, k4, rfl, hxa, HX4, HD4, hk4⟩ := hcut
    obtain ⟨wz, rfl⟩ : ∃ wz : World, wz = wc := ⟨_, rfl⟩
    have HR4 : Hid (RestD v3 v.heap.size D B1 B2 S1 S2 tw ts wz) := HR2.out.keep HF.out.dt (off_dext HX4.out)
    have HFn := Lib.hid (HF.out.growT HR4.out.size)
    have HO4 : Hid (OwnS (fun g => S0 g ∨ (v.heap.size ≤ g ∧ g < wz.heap.size)) wz (setW tt kw (some ⟨g, 0, none⟩) cap (z.l ++ [⟨s1, s2⟩]))) := by
      refine (HO2.out.keep (keep_dext (S := fun _ => False) HX4.out) (fun b _ hb => ⟨?_, fun h => h⟩)).mono (fun b hb h => h.imp (fun h => h) (fun h => ⟨h, hb⟩))
      rcases hb with hb | hb
      · exact HS0D.out b hb
      · omega
    have HB4 : Hid (TBox wz B0 (setW tt kw (some ⟨g, 0, none⟩) cap (z.l ++ [⟨s1, s2⟩]))) := by
      have h1 : TBox wz B0 tt := (HX4.out.block B0 (Array.getElem?_eq_some_iff.1 HB2.out).1 (by simp; omega)).trans HB2.out
      show wz.heap[B0]? = some (Obj.cells #[.int .i64 (tt.P : Int), .slice tt.ways.a tt.ways.l.length tt.ways.c, .slice tt.words.a (tt.words.l.set kw _).length tt.words.c, .slice tt.starts.a tt.starts.l.length tt.starts.c, .slice tt.legs.a tt.legs.l.length tt.legs.c] 28 (0, 0))
      rw [List.length_set]
      exact h1
    have HRD : Hid (RestD v3 wz.heap.size D B0 B2 (fun g => S0 g ∨ (v.heap.size ≤ g ∧ g < wz.heap.size)) S2 (setW tt kw (some ⟨g, 0, none⟩) cap (z.l ++ [⟨s1, s2⟩])) ts wz) := ⟨HO4.out, HB4.out, HR4.out.ownb, HR4.out.boxb, HR4.out.old, Nat.le_refl _⟩
    have HOw : Hid (OwnS S1 wz tw) := HR4.out.owna
    have HBw : Hid (TBox wz B1 tw) := HR4.out.boxa
    have HK1 : Hid (OkT (setW tt kw (some ⟨g, 0, none⟩) cap (z.l ++ [⟨s1, s2⟩]))) := by
      have := HKt.out.setW hkw ⟨by have := HLt.out; omega, HZ3.out⟩ (some ⟨g, 0, none⟩) cap ⟨s1, s2⟩ ⟨⟨fun u hu => by have := HL1.out.1 u hu; omega, HL1.out.2⟩, HL2.out⟩
      rw [HZ.out] at this
      exact this
    have HM1 : Hid (MoreT t (setW tt kw (some ⟨g, 0, none⟩) cap (z.l ++ [⟨s1, s2⟩]))) := by
      have := HMt.out.setW hkw (some ⟨g, 0, none⟩) cap ⟨s1, s2⟩
      rw [HZ.out] at this
      exact this
    have HKs : Hid (OkT ts) := HSs.out.ok HK.out
    repeat (first
      | exact more_tailD w v3 wz T D B0 B1 B2 (fun g => S0 g ∨ (v.heap.size ≤ g ∧ g < wz.heap.size)) S1 S2 t (setW tt kw (some ⟨g, 0, none⟩) cap (z.l ++ [⟨s1, s2⟩])) tw ts aa a2 ca many n2 c2 k4 xa ea la HK HK1 HKs HT HB hTD HTb HFn HRD HOw HBw HSw HSs HM1 HD4 (by omega) HBy hwD hxa hP2 hw16 HA HMany EV
      | go_step)
end Go.Proofs.YtopjjcgmcieboaaGreatDoor

namespace Go.Proofs.YtopjjcgmcieboaaGreatDoor
open Go.RowKit

theorem Inv7.ext {t : TV} {w3 w : World} {L : Nat → Prop} {X C A : Nat → Value} (I : Inv7 t w3 L X C A w) : Ext w3 w := by
  obtain ⟨l, h, B, ts, hx, _⟩ := I; exact hx
theorem Inv7.loaded {t : TV} {w3 w : World} {L : Nat → Prop} {X C A : Nat → Value} (I : Inv7 t w3 L X C A w) (k : Nat) (hk : k < 3) (h : L (2 * k)) : X k = t.v := by
  obtain ⟨l, _, B, ts, hx, _, hp⟩ := I; exact (hp k hk).load h
noncomputable def tail5_7 : Code := ((Tryz.f5.body.bind (tailA 7)).getD .skip)

set_option maxRecDepth 1000000 in
set_option maxHeartbeats 8000000 in
theorem more_three {u0 u1 u2 u3 u4 u9 u11 u12 u13 u14 u15 u16 u17 u18 u19 u20 u21 u22 u23 u24 u25 u26 u27 u28 u29 u30 u31 u32 u33 u34 u35 u36 u37 u38 u39 u40 u41 u42 u43 u44 u45 u46 u47 u48 u49 u50 u51 u52 u53 u54 u55 u56 u57 u58 u59 u60 u61 u62 u63 u64 u65 u66 u67 u68 u69 u70 u71 u72 u73 u74 u75 u76 u77 u78 u79 u80 u81 u82 u83 u84 u85 u86 u87 u88 u89 u90 u91 u92 u93 u94 u95 u96 u97 u98 u99 u100 u101 u102 u103 u104 u105 u106 u107 u108 u109 u110 u111 u112 u113 u114 u115 u116 u117 u118 u119 u120 u121 u122 u123 u124 u125 u126 u127 u128 u129 u130 u131 u132 u133 u134 u135 u136 u137 u138 u139 u140 u141 u142 u143 u144 u145 u146 u147 u148 u149 u150 u151 u152 u153 u154 u155 u156 u157 u158 u159 u160 u161 u162 u163 u164 u165 u166 u167 u168 u169 u170 u171 u172 u173 u174 u175 u176 u177 u178 u179 u180 u181 u182 u183 u184 u185 u186 u187 u188 u189 u190 u191 u192 u193 u194 u195 u196 u197 u198 u199 u200 u201 u202 u203 u204 u205 u206 u207 u208 u209 u210 u211 u212 u213 u214 u215 u216 u217 u218 u219 u220 u221 u222 u223 u224 u225 u226 u227 u228 u229 u230 u231 u232 u233 u234 u235 u236 u237 u238 u239 u240 u241 u242 u243 u244 u245 u246 u247 u248 u249 u250 u251 u252 : Value} (w v : World) (T D : Nat) (t : TV) (aa a2 : Option Addr) (ca many n2 c2 k2 : Nat) (ea : Int) (la : List (SL Nat)) (HK : Hid (OkT t)) (HTo : Hid (IsTo D v t)) (HB : Hid (TBox v T t)) (hTD : T ≠ D) (HTb : Hid (TblO (D + 1) v aa ca la))
    (HD : Hid (IsDeck v D a2 n2 c2 k2)) (hk2 : k2 ≤ 100) (HBy : Hid (∀ b off, a2 = some ⟨b, off, none⟩ → 0 < n2 → b < v.heap.size)) (hwD : w.heap.size ≤ D) (hP2 : 2 ≤ t.P) (hw16 : t.ways.l.length ≤ 16) (hw1 : 1 ≤ t.words.l.length) (hw3 : t.words.l.length ≤ 3) (H3 : Hid (∀ z ∈ t.words.l, z.l.length ≤ 3))
    (HA : Hid ((ea = 0 ∧ AllL t (la.map fun r => r.l) ∧ (allD t).length ≤ 200) ∨ (ea = 11 ∧ la = [] ∧ 200 < (allD t).length))) (HMany : Hid (many = (bestR t (allR (cntR t))).2)) (EV : Hid (Ext w v)) :
    Code.wp Tryz.prog tail5_7 (bodyPost Tryz.prog Tryz.f5 fun e w' => e = .returned (.bool true) ∧ Ext w w') ⟨#[u0, u1, u2, u3, u4, .pointer (some ⟨T, 0, none⟩), .pointer (some ⟨D, 0, none⟩), .slice aa la.length ca, .int .i64 ea, u9, .int .i64 (many : Int), u11, u12, u13, u14, u15, u16, u17, u18, u19, u20, u21, u22, u23, u24, u25, u26, u27, u28, u29, u30, u31, u32, u33, u34, u35, u36, u37, u38, u39, u40, u41, u42, u43, u44, u45, u46, u47, u48, u49, u50, u51, u52, u53, u54, u55, u56, u57, u58, u59, u60, u61, u62, u63, u64, u65, u66, u67, u68, u69, u70, u71, u72, u73, u74, u75, u76, u77, u78, u79, u80, u81, u82, u83, u84, u85, u86, u87, u88, u89, u90, u91, u92, u93, u94, u95, u96, u97, u98, u99, u100, u101, u102, u103, u104, u105, u106, u107, u108, u109, u110, u111, u112, u113, u114, u115, u116, u117, u118, u119, u120, u121, u122, u123, u124, u125, u126, u127, u128, u129, u130, u131, u132, u133, u134, u135, u136, u137, u138, u139, u140, u141, u142, u143, u144, u145, u146, u147, u148, u149, u150, u151, u152, u153, u154, u155, u156, u157, u158, u159, u160, u161, u162, u163, u164, u165, u166, u167, u168, u169, u170, u171, u172, u173, u174, u175, u176, u177, u178, u179, u180, u181, u182, u183, u184, u185, u186, u187, u188, u189, u190, u191, u192, u193, u194, u195, u196, u197, u198, u199, u200, u201, u202, u203, u204, u205, u206, u207, u208, u209, u210, u211, u212, u213, u214, u215, u216, u217, u218, u219, u220, u221, u222, u223, u224, u225, u226, u227, u228, u229, u230, u231, u232, u233, u234, u235, u236, u237, u238, u239, u240, u241, u242, u243, u244, u245, u246, u247, u248, u249, u250, u251, u252], []⟩ v := by
  conv => arg 2; whnf
  conv => arg 4; dsimp only
  have HT : Hid (IsT v t) := HTo.out.at
  go_upto_region 7 with (fail)
  go_cut [12, 13, 14] (fun s12 s13 s14 wx => ThreeOf t v s12 s13 s14 wx)
  case first =>
    refine wp_region_inv (by kernel_rfl) (by kernel_rfl) (fun L a w => ∃ X C A : Nat → Value, a = ⟨#[u0, u1, u2, u3, u4, .pointer (some ⟨T, 0, none⟩), .pointer (some ⟨D, 0, none⟩), .slice aa la.length ca, .int .i64 ea, u9, .int .i64 (many : Int), u11, A 0, A 1, A 2, u15, u16, u17, u18, u19, u20, u21, u22, u23, u24, u25, u26, u27, u28, u29, u30, u31, u32, u33, u34, u35, u36, u37, u38, u39, u40, u41, u42, u43, u44, u45, u46, u47, u48, u49, u50, u51, u52, u53, u54, u55, X 0, C 0, X 1, C 1, X 2, C 2, u62, u63, u64, u65, u66, u67, u68, u69, u70, u71, u72, u73, u74, u75, u76, u77, u78, u79, u80, u81, u82, u83, u84, u85, u86, u87, u88, u89, u90, u91, u92, u93, u94, u95, u96, u97, u98, u99, u100, u101, u102, u103, u104, u105, u106, u107, u108, u109, u110, u111, u112, u113, u114, u115, u116, u117, u118, u119, u120, u121, u122, u123, u124, u125, u126, u127, u128, u129, u130, u131, u132, u133, u134, u135, u136, u137, u138, u139, u140, u141, u142, u143, u144, u145, u146, u147, u148, u149, u150, u151, u152, u153, u154, u155, u156, u157, u158, u159, u160, u161, u162, u163, u164, u165, u166, u167, u168, u169, u170, u171, u172, u173, u174, u175, u176, u177, u178, u179, u180, u181, u182, u183, u184, u185, u186, u187, u188, u189, u190, u191, u192, u193, u194, u195, u196, u197, u198, u199, u200, u201, u202, u203, u204, u205, u206, u207, u208, u209, u210, u211, u212, u213, u214, u215, u216, u217, u218, u219, u220, u221, u222, u223, u224, u225, u226, u227, u228, u229, u230, u231, u232, u233, u234, u235, u236, u237, u238, u239, u240, u241, u242, u243, u244, u245, u246, u247, u248, u249, u250, u251, u252], []⟩ ∧ Inv7 t v L X C A w) ?_ ?_ ?_
    · exact ⟨fun n => if n = 0 then u56 else if n = 1 then u58 else u60, fun n => if n = 0 then u57 else if n = 1 then u59 else u61, fun n => if n = 0 then u12 else if n = 1 then u13 else u14, rfl, Inv7.start t v _ _ _ _ (Ext.refl v).drew⟩
    · rintro L a V i o ⟨X, C, A, rfl, hI⟩ hn ho hwait
      have hi : i < 12 := (Array.getElem?_eq_some_iff.1 ho).1
      have HI := Lib.hid hI
      have HX : Hid (Ext v V) := hI.ext
      have HN := Lib.hid hn
      clear hI hn
      obtain ⟨f0, f1, f2, f3, f4⟩ := TBox.five5 (HX.out.block HB.out)
      obtain rfl | rfl | rfl | rfl | rfl | rfl | rfl | rfl | rfl | rfl | rfl | rfl : i = 0 ∨ i = 1 ∨ i = 2 ∨ i = 3 ∨ i = 4 ∨ i = 5 ∨ i = 6 ∨ i = 7 ∨ i = 8 ∨ i = 9 ∨ i = 10 ∨ i = 11 := by omega
      all_goals (simp only [List.getElem?_toArray, List.getElem?_cons_zero, List.getElem?_cons_succ, Option.some.injEq] at ho; subst ho; simp [Region.binds] at hwait; refine wpOp_step rfl (fun K' hK => ?_); have HKK := Lib.hid hK; clear hK)
      · go_simp
        exact HKK.out _ _ ⟨updV X 0 t.v, C, A, rfl, HI.out.load 0 (by omega)⟩
      · have e0 : X 0 = t.v := HI.out.loaded 0 (by omega) hwait
        clear f0 f1 f2 f3 f4 hwait
        rw [e0]
        have HE := Lib.hid e0
        clear e0
        go_simp
        go_at_call 25
        refine (cloneW_any t V (HT.out.ext HX.out) HK.out).mono ?_
        rintro e w' ⟨t', rfl, ho, hs, hx'⟩
        refine HKK.out _ _ ⟨X, updV C 0 t'.v, A, ?_, HI.out.call 0 (by omega) HN.out ho.out hs.out hx'⟩
        rw [← HE.out]
        rfl
      · go_simp
        exact HKK.out _ _ ⟨updV X 1 t.v, C, A, rfl, HI.out.load 1 (by omega)⟩
      · have e0 : X 1 = t.v := HI.out.loaded 1 (by omega) hwait.1
        clear f0 f1 f2 f3 f4 hwait
        rw [e0]
        have HE := Lib.hid e0
        clear e0
        go_simp
        go_at_call 25
        refine (cloneW_any t V (HT.out.ext HX.out) HK.out).mono ?_
        rintro e w' ⟨t', rfl, ho, hs, hx'⟩
        refine HKK.out _ _ ⟨X, updV C 1 t'.v, A, ?_, HI.out.call 1 (by omega) HN.out ho.out hs.out hx'⟩
        rw [← HE.out]
        rfl
      · go_simp
        exact HKK.out _ _ ⟨updV X 2 t.v, C, A, rfl, HI.out.load 2 (by omega)⟩
      · have e0 : X 2 = t.v := HI.out.loaded 2 (by omega) hwait.1
        clear f0 f1 f2 f3 f4 hwait
        rw [e0]
        have HE := Lib.hid e0
        clear e0
        go_simp
        go_at_call 25
        refine (cloneW_any t V (HT.out.ext HX.out) HK.out).mono ?_
        rintro e w' ⟨t', rfl, ho, hs, hx'⟩
        refine HKK.out _ _ ⟨X, updV C 2 t'.v, A, ?_, HI.out.call 2 (by omega) HN.out ho.out hs.out hx'⟩
        rw [← HE.out]
        rfl
      · clear f0 f1 f2 f3 f4
        go_simp
        exact HKK.out _ _ ⟨X, C, updV A 0 (.pointer (some ⟨V.heap.size, 0, none⟩)), rfl, HI.out.box 0 (by omega) HN.out⟩
      · clear f0 f1 f2 f3 f4
        go_simp
        exact HKK.out _ _ ⟨X, C, updV A 1 (.pointer (some ⟨V.heap.size, 0, none⟩)), rfl, HI.out.box 1 (by omega) HN.out⟩
      · clear f0 f1 f2 f3 f4
        go_simp
        exact HKK.out _ _ ⟨X, C, updV A 2 (.pointer (some ⟨V.heap.size, 0, none⟩)), rfl, HI.out.box 2 (by omega) HN.out⟩
      · clear f0 f1 f2 f3 f4
        obtain ⟨b, t', eA, eC, hz, hI2⟩ := HI.out.at 0 (by omega) hwait.1 hwait.2.1 HN.out
        obtain ⟨z0, z1, z2, z3, z4, zf⟩ := hz.five
        have HI2 := Lib.hid hI2
        have HA := Lib.hid eA
        have HC := Lib.hid eC
        clear hwait hI2 hz
        rw [eA, eC]
        clear eA eC
        go_simp
        refine HKK.out _ _ ⟨X, C, A, ?_, HI2.out⟩
        rw [← HA.out, ← HC.out]
      · clear f0 f1 f2 f3 f4
        obtain ⟨b, t', eA, eC, hz, hI2⟩ := HI.out.at 1 (by omega) hwait.1 hwait.2.1 HN.out
        obtain ⟨z0, z1, z2, z3, z4, zf⟩ := hz.five
        have HI2 := Lib.hid hI2
        have HA := Lib.hid eA
        have HC := Lib.hid eC
        clear hwait hI2 hz
        rw [eA, eC]
        clear eA eC
        go_simp
        refine HKK.out _ _ ⟨X, C, A, ?_, HI2.out⟩
        rw [← HA.out, ← HC.out]
      · clear f0 f1 f2 f3 f4
        obtain ⟨b, t', eA, eC, hz, hI2⟩ := HI.out.at 2 (by omega) hwait.1 hwait.2.1 HN.out
        obtain ⟨z0, z1, z2, z3, z4, zf⟩ := hz.five
        have HI2 := Lib.hid hI2
        have HA := Lib.hid eA
        have HC := Lib.hid eC
        clear hwait hI2 hz
        rw [eA, eC]
        clear eA eC
        go_simp
        refine HKK.out _ _ ⟨X, C, A, ?_, HI2.out⟩
        rw [← HA.out, ← HC.out]
    · rintro L a V ⟨X, C, A, rfl, hI⟩ hL
      have HD := Lib.hid (hI.done (fun i hi => hL i hi))
      clear hI hL
      go_wp2_with fail
      go_meet
      exact HD.out
  case rest =>
    obtain ⟨l, h, B, ts, rfl, rfl, rfl, HX, HP⟩ := hcut
    obtain ⟨wo, rfl⟩ : ∃ wo : World, wo = wc := ⟨_, rfl⟩
    have HDl : Hid (D < v.heap.size) := HD.out.lt
    have HF : Hid (FarC v wo.heap.size D (B 0) (B 1) (B 2) (fun g => l 0 ≤ g ∧ g < h 0) (fun g => l 1 ≤ g ∧ g < h 1) (fun g => l 2 ≤ g ∧ g < h 2)) := by
      obtain ⟨-, -, p1, p2, p3, p4, -, p5⟩ := HP.out 0 (by omega)
      obtain ⟨-, -, q1, q2, q3, q4, -, q5⟩ := HP.out 1 (by omega)
      obtain ⟨-, -, r1, r2, r3, r4, -, r5⟩ := HP.out 2 (by omega)
      have a01 := (p5 1 (by omega)).1 (by omega)
      have a02 := (p5 2 (by omega)).1 (by omega)
      have a12 := (q5 2 (by omega)).1 (by omega)
      have b00 := (p5 0 (by omega)).2
      have b01 := (p5 1 (by omega)).2
      have b02 := (p5 2 (by omega)).2
      have b10 := (q5 0 (by omega)).2
      have b11 := (q5 1 (by omega)).2
      have b12 := (q5 2 (by omega)).2
      have b20 := (r5 0 (by omega)).2
      have b21 := (r5 1 (by omega)).2
      have b22 := (r5 2 (by omega)).2
      have hd := HDl.out
      exact ⟨fun g hg => by omega, fun g hg => by omega, fun g hg => by omega, hd, ⟨p3, p4⟩, ⟨q3, q4⟩, ⟨r3, r4⟩, ⟨a01.2, a02.2, a12.2⟩⟩
    obtain ⟨s0, o0, -, -, -, -, m0, -⟩ := HP.out 0 (by omega)
    obtain ⟨s1, o1, -, -, -, -, m1, -⟩ := HP.out 1 (by omega)
    obtain ⟨s2, o2, -, -, -, -, m2, -⟩ := HP.out 2 (by omega)
    have HDo : Hid (DExt D v wo) := (DExt.refl D v).ext HX.out
    have HR : Hid (RestD v wo.heap.size D (B 1) (B 2) (fun g => l 1 ≤ g ∧ g < h 1) (fun g => l 2 ≤ g ∧ g < h 2) (ts 1) (ts 2) wo) := ⟨o1, m1, o2, m2, HDo.out, Nat.le_refl _⟩
    have HO : Hid (OwnS (fun g => l 0 ≤ g ∧ g < h 0) wo (ts 0)) := o0
    have HB0 : Hid (TBox wo (B 0) (ts 0)) := m0
    have HS0 := Lib.hid s0
    have HS1 := Lib.hid s1
    have HS2 := Lib.hid s2
    have HD' : Hid (IsDeck wo D a2 n2 c2 k2) := HD.out.ext HX.out
    clear s0 s1 s2 o0 o1 o2 m0 m1 m2 HP
    generalize B 0 = B0 at *
    generalize B 1 = B1 at *
    generalize B 2 = B2 at *
    repeat (first
      | exact more_tailE w v wo T D B0 B1 B2 (fun g => l 0 ≤ g ∧ g < h 0) (fun g => l 1 ≤ g ∧ g < h 1) (fun g => l 2 ≤ g ∧ g < h 2) t (ts 0) (ts 1) (ts 2) aa a2 ca many n2 c2 k2 ea la HK HTo HB hTD HTb HF HR HO HB0 HS0 HS1 HS2 HD' hk2 HBy hwD hP2 hw16 hw1 hw3 H3 HA HMany EV
      | go_step)
end Go.Proofs.YtopjjcgmcieboaaGreatDoor

namespace Go.Proofs.YtopjjcgmcieboaaGreatDoor
open Go.RowKit

/-- What All returns: all lines in memory of their own, or the error where there are too many. -/
def AllN5 (t : TV) (w : World) (e : Ending) (w' : World) : Prop :=
  ∃ (a : Option Addr) (c : Nat) (l : List (SL Nat)) (er : Int), e = .returned (.tuple #[.slice a l.length c, .int .i64 er]) ∧ Hid (TblO w.heap.size w' a c l) ∧ Hid ((er = 0 ∧ AllL t (l.map fun r => r.l) ∧ (allD t).length ≤ 200) ∨ (er = 11 ∧ l = [] ∧ 200 < (allD t).length)) ∧ Ext w w'
theorem All_n5 (t : TV) (w : World) (ht : IsT w t) (hk : OkT t) : Calls Tryz.prog 8 #[t.v] w (AllN5 t w) := by
  refine (All_own t w ht hk).mono ?_
  rintro e w' ⟨a, c, rows, er, rfl, h1, h3, h4⟩
  refine ⟨a, c, rows, er, rfl, h1, ?_, h4⟩
  rcases h3 with ⟨rfl, h3⟩ | ⟨rfl, h3⟩
  · exact .inl ⟨rfl, h3⟩
  · exact .inr ⟨rfl, h3⟩
set_option maxRecDepth 1000000 in
set_option maxHeartbeats 8000000 in
theorem more_any (a1 a2 : Option Addr) (n1 c1 n2 c2 : Nat) (w : World) (h1 : IsBytes w a1 n1 c1) (h2 : IsBytes w a2 n2 c2) :
    Calls Tryz.prog 5 #[.slice a1 n1 c1, .slice a2 n2 c2] w fun e w' => e = .returned (.bool true) ∧ Ext w w' := by
  have H1 := Lib.hid h1; clear h1
  have H2 := Lib.hid h2; clear h2
  go_enter Tryz.func5, Tryz.ntmps5
  go_wp2_with fail
  refine (of_any a1 n1 c1 w H1.out).mono ?_
  rintro e w1 ⟨rfl, hd1, hx1⟩
  go_wp2_with fail
  have HX1 : Hid (Ext w w1) := hx1
  have HMd := made2_any w.heap.size a1 n1 c1 0 5 w1 hd1 (bytes_lt (deck_bytes hd1)) (by omega) (by omega)
  clear hd1 hx1
  refine HMd.mono ?_
  clear HMd
  rintro e w2 ⟨t, k2, rfl, hT2, hK, hl5, hd2, hk2, hx2, hb1, hb2, hb3, hb4, hb5, -⟩
  have H3 := Lib.hid hb5
  clear hb5
  have HK := Lib.hid hK
  have HT2 : Hid (IsT w2 t) := hT2.at
  have EW2 : Hid (Ext w w2) := ((Ext.refl w).trans HX1.out).dext hx2 (Nat.le_refl _)
  clear hT2 hK hd2 hk2 hx2 HX1
  go_upto_region 2 with (fail)
  obtain ⟨wb, hwb⟩ : ∃ wb, w2.alloc (.cells #[.int .i64 (t.P : Int), .slice t.ways.a t.ways.l.length t.ways.c, .slice t.words.a t.words.l.length t.words.c, .slice t.starts.a t.starts.l.length t.starts.c, .slice t.legs.a t.legs.l.length t.legs.c] 28) = wb := ⟨_, rfl⟩
  have HBb : Hid (TBox wb w2.heap.size t) := by rw [← hwb]; exact World.alloc_heap_new w2 _
  have HXb : Hid (Ext w2 wb) := by rw [← hwb]; exact (Ext.refl w2).alloc _
  rw [hwb]
  clear hwb
  go_wp2_with fail
  refine (of_any a2 n2 c2 wb (H2.out.ext (EW2.out.trans HXb.out))).mono ?_
  rintro e w3 ⟨rfl, hd3, hx3⟩
  have HX3 : Hid (Ext w2 w3) := HXb.out.trans hx3
  have HB3 : Hid (TBox w3 w2.heap.size t) := hx3.block HBb.out
  have HD3 := Lib.hid hd3
  have HTD : Hid (w2.heap.size < wb.heap.size) := (Array.getElem?_eq_some_iff.1 HBb.out).1
  have HDl : Hid (wb.heap.size < w3.heap.size) := hd3.lt
  have HBy3 : Hid (∀ b off, a2 = some ⟨b, off, none⟩ → 0 < n2 → b < w3.heap.size) := bytes_lt (deck_bytes hd3)
  clear hd3 hx3
  generalize hDD : wb.heap.size = D at *
  have HDD := Lib.hid hDD; clear hDD
  obtain ⟨f0, f1, f2, f3, f4⟩ := TBox.five5 HB3.out
  go_wp2_with fail
  clear f0 f1 f2 f3 f4
  refine (All_n5 t w3 (HT2.out.ext HX3.out) HK.out).mono ?_
  rintro e w4 ⟨aa, ca, la, ea, rfl, HTb, HCa, hx4⟩
  have HX4 : Hid (Ext w3 w4) := hx4
  clear hx4
  obtain ⟨f0, f1, f2, f3, f4⟩ := TBox.five5 (HX4.out.block HB3.out)
  go_wp2_with fail
  clear f0 f1 f2 f3 f4
  refine (Few_h t w4 (HT2.out.ext (HX3.out.trans HX4.out)) HK.out).mono ?_
  rintro e w5 ⟨ar, cr, nr, rfl, hx5⟩
  obtain ⟨many, hmany⟩ : ∃ many, (bestR t (allR (cntR t))).2 = many := ⟨_, rfl⟩
  have HMany : Hid (many = (bestR t (allR (cntR t))).2) := hmany.symm
  rw [hmany]
  clear hmany
  have HX5 : Hid (Ext w3 w5) := HX4.out.trans hx5
  have HTb5 : Hid (TblO (D + 1) w5 aa ca la) := by
    obtain ⟨q1, q2, q3, q4⟩ := HTb.out.keep (D := fun _ => True) (Keep.of_ext hx5) (fun _ _ => trivial)
    have := HDl.out
    exact ⟨q1, q2, fun g hg => by have := q3 g hg; omega, fun r hr => ⟨(q4 r hr).1, (q4 r hr).2.1, fun g hg => by have := (q4 r hr).2.2 g hg; omega⟩⟩
  have HB5 : Hid (TBox w5 w2.heap.size t) := HX5.out.block HB3.out
  have HD5 : Hid (IsDeck w5 D a2 n2 c2 0) := HD3.out.ext HX5.out
  have HBy5 : Hid (∀ b off, a2 = some ⟨b, off, none⟩ → 0 < n2 → b < w5.heap.size) := fun b off h1 h2 => Nat.lt_of_lt_of_le (HBy3.out b off h1 h2) HX5.out.size
  have EW5 : Hid (Ext w w5) := EW2.out.trans (HX3.out.trans HX5.out)
  have HT5 : Hid (IsTo D w5 t) := fun w' h => HT2.out.ext ((HX3.out.trans HX5.out).dext h (by have := HTD.out; omega))
  have hwD : w.heap.size ≤ D := by have := EW2.out.size; have := HTD.out; omega
  have hTD : w2.heap.size ≠ D := by have := HTD.out; omega
  clear hx5 HTb HD3 HBy3
  rcases HCa.out with ⟨rfl, hal, h200⟩ | ⟨rfl, hal, h200⟩
  · have HAL := Lib.hid hal
    have H200 := Lib.hid h200
    clear HCa hal h200
    go_upto_region 5 with (fail)
    repeat ((fail_if_success (with_reducible show Code.wp Tryz.prog (Code.seq (Code.region 7 _ _) _) _ _ _)); go_step)
    exact more_three w w5 w2.heap.size D t aa a2 ca many n2 c2 0 0 la HK HT5 HB5 hTD HTb5 HD5 (by omega) HBy5 hwD hb1 hb2 hb3 hb4 H3 (.inl ⟨rfl, HAL.out, H200.out⟩) HMany EW5
  · have HAL := Lib.hid hal
    have H200 := Lib.hid h200
    clear HCa hal h200
    go_upto_region 5 with (fail)
    repeat ((fail_if_success (with_reducible show Code.wp Tryz.prog (Code.seq (Code.region 7 _ _) _) _ _ _)); go_step)
    exact more_three w w5 w2.heap.size D t aa a2 ca many n2 c2 0 11 la HK HT5 HB5 hTD HTb5 HD5 (by omega) HBy5 hwD hb1 hb2 hb3 hb4 H3 (.inr ⟨rfl, HAL.out, H200.out⟩) HMany EW5
end Go.Proofs.YtopjjcgmcieboaaGreatDoor

namespace Go.Proofs.YtopjjcgmcieboaaGreatDoor.treatyMore
open Go.ChangeShapes Go.WideShapes Go.ChangeAt Go.RowKit
open Go.ChangeMaps (open_string shut_string)
set_option linter.unusedVariables false

theorem own : ownKnob Tryz.prog.godebug = none := by kernel_rfl
theorem laidOut : laidOutB Tryz.prog = true := by kernel_rfl

/-- A slice of integers that came in: it is nil, or it leads to a row of cap cells, the numbers zs, each of which fits its kind. -/
def IsRow (k : IntKind) (w : World) (a : Option Addr) (len cap : Nat) (zs : List Int) : Prop :=
  (a = none ∧ len = 0 ∧ cap = 0 ∧ zs = []) ∨
  ∃ x, a = some x ∧ len ≤ cap ∧ cap ≤ maxLen ∧ zs.length = cap ∧ (∀ i, i < zs.length → w.cell? (x.add i) = some (.int k (zs.getD i 0))) ∧ ∀ n ∈ zs, (Lit.int k n).wf = true

/-- Bytes that came in lie in memory as told. -/
theorem bytes_of {w : World} {a : Option Addr} {n c : Nat} {zs : List Int} (h : IsRow .u8 w a n c zs) (hn : n ≤ 140737488351232) : IsBytes w a n c := by
  rcases h with ⟨rfl, rfl, rfl, rfl⟩ | ⟨x, rfl, hl, hm, hz, hc, hw⟩
  · exact ⟨Nat.le_refl _, by omega, .inl rfl⟩
  · refine ⟨hl, hn, ?_⟩
    by_cases hn0 : n = 0
    · exact .inl hn0
    · right
      have h0 := hc 0 (by omega)
      obtain ⟨b, off, sp⟩ := x
      have hsp : sp = none := by
        cases sp with
        | none => rfl
        | some s =>
          exfalso
          unfold World.cell? at h0
          split at h0
          · simp [Addr.add] at h0
          · cases h0
      subst hsp
      refine ⟨b, off, rfl, fun i hi => ?_⟩
      have h1 := hc i (by omega)
      rw [Addr.add_lit] at h1
      have h2 := hw (zs.getD i 0) (by rw [List.getD_eq_getElem?_getD, List.getElem?_eq_getElem (show i < zs.length by omega)]; exact List.getElem_mem _)
      have h3 : 0 ≤ zs.getD i 0 ∧ zs.getD i 0 < 256 := by
        have h4 : IntKind.u8.min = 0 := by kernel_rfl
        have h5 : IntKind.u8.max = 255 := by kernel_rfl
        generalize zs.getD i 0 = z at h2 ⊢
        simp [Lit.wf, h4, h5] at h2
        omega
      exact ⟨(zs.getD i 0).toNat, by omega, by rw [h1, Int.toNat_of_nonneg h3.1]⟩

theorem cells5 : Tryz.prog.bytesOf 5 = 1 := by kernel_rfl

theorem walk (a0 : Option Addr) (len0 cap0 : Nat) (z0 : List Int) (a1 : Option Addr) (len1 cap1 : Nat) (z1 : List Int) (w : World) (w0 : IsRow .u8 w a0 len0 cap0 z0) (n0 : len0 ≤ 140737488351232) (w1 : IsRow .u8 w a1 len1 cap1 z1) (n1 : len1 ≤ 140737488351232) :
    Calls Tryz.prog 5 #[.slice a0 len0 cap0, .slice a1 len1 cap1] w fun e w' => e = .returned (.bool true) ∧ Below w.heap.size w w' := by
  exact more_any a0 a1 len0 cap0 len1 cap1 w (bytes_of w0 n0) (bytes_of w1 n1)

def laid3 {H : Type} : List (String × DataW H) := [("math/bits.deBruijn32tab", Rows.laid_math_bits_deBruijn32tab), ("math/bits.deBruijn64tab", Rows.laid_math_bits_deBruijn64tab), ("internal/strconv.uint64pow10", Rows.laid_internal_strconv_uint64pow10)]

/-- The door's own heap meets the condition. -/
theorem door_met (os : Os) (args : Array Value) : laidMetH Tryz.prog laid3 ((World.doorLaid Tryz.prog 4000 os).forCall (fun _ _ => 0) ⟨#[], args, []⟩).memory :=
  laidMetH_of_parts3 (fuel := 8) (laidMet_of_run' 8 (by kernel_rfl) (by kernel_rfl)) (by kernel_rfl) (by kernel_rfl)

set_option maxRecDepth 100000 in
theorem lifted (os : Os) (started : os.Started) (H : Type) (enc : TypeId × Value → H) :
    ReturnsInHanded {} Tryz.checked os 5 .any (fun w args => (Rows.treatyMoreSpec.pre enc Tryz.prog Tryz.f5 [] false w args ∧ laidMetH Tryz.prog laid3 w) ∧ sizedMet enc Tryz.prog Tryz.f5 (OpenSpec.ofChange Rows.treatyMoreSpec) false w args)
      (Rows.treatyMoreSpec.post enc Tryz.prog Tryz.f5 false true false false) := by
  refine returnsInHanded_of_change_and (C := Tryz.checked) (X := fun w _ => laidMetH Tryz.prog laid3 w) (fun _ _ _ hh h => h.of_heap hh) own started (by kernel_rfl) Tryz.func5
    (ChangeSpec.witness_shaped (enc := enc) (C := Tryz.checked) (os := os) (X := fun w _ => laidMetH Tryz.prog laid3 w) false (World.doorLaid Tryz.prog 4000 os) #[.slice none 0 0, .slice none 0 0] 8 rfl (World.shaped_of_RefB (by kernel_rfl) (by kernel_rfl)) (by kernel_rfl) (by kernel_rfl) (by kernel_rfl) (door_met os _)) ?_
  intro W base args ds gs before hval0 hW hcnd hsz0 hL _
  have hsz : (DataW.weightsEach Tryz.prog (Tryz.f5.params.toList ++ Rows.treatyMoreSpec.plain.varTypes Tryz.prog) (ds ++ gs)).all (· ≤ reachBytes) = true := hsz0
  clear hsz0
  have hval : ∀ (j : Nat) t v, Tryz.f5.params[j]? = some t → args[j]? = some v → Value.okWide Tryz.prog W .any base t v := hval0
  have hW' := hW
  obtain ⟨p, q, hA0, hV, rfl, hfz, hnd⟩ := hW
  have hA : DataW.TrodAll enc Tryz.prog W 0 (fun _ => true) true Tryz.f5.params.toList args.toList ds p := hA0
  rw [Tryz.params5] at hA hval hsz
  obtain ⟨v0, vs0, d0, ds0, p0, q0, hargs, rfl, rfl, h0, r0⟩ := trodAll_cons hA
  obtain ⟨v1, vs1, d1, ds1, p1, q1, rfl, rfl, rfl, h1, r1⟩ := trodAll_cons r0
  obtain ⟨rfl, rfl, rfl⟩ := trodAll_nil r1
  obtain rfl : args = #[v0, v1] := by cases args; simp_all
  obtain ⟨rfl, rfl⟩ := trodVars_none hV
  obtain ⟨a0, len0, cap0, rfl⟩ := okWide_slice Tryz.underlying22 (hval 0 22 v0 rfl rfl)
  obtain ⟨a1, len1, cap1, rfl⟩ := okWide_slice Tryz.underlying22 (hval 1 22 v1 rfl rfl)
  have k0 := h0
  have lt0 : ∀ x ∈ p0, x.block < W.heap.size := by obtain ⟨m, hm⟩ := k0; exact DataW.trod_lt m _ _ _ hm
  obtain ⟨z0, w0, n0⟩ : ∃ zs, IsRow .u8 W a0 len0 cap0 zs ∧ len0 ≤ 140737488351232 := by
    obtain ⟨fuel, hf⟩ := h0
    rcases open_ints Tryz.underlying22 Tryz.underlying5 (by kernel_rfl) hf with ⟨hcs, _⟩ | ⟨x, l, c, zs, hcs, _, hl, hm, hz, hx, hcell, hwz⟩
    · simp [Value.cells] at hcs
      obtain ⟨rfl, rfl, rfl⟩ := hcs
      exact ⟨[], .inl ⟨rfl, rfl, rfl, rfl⟩, Nat.zero_le _⟩
    · simp [Value.cells] at hcs
      obtain ⟨rfl, rfl, rfl⟩ := hcs
      simp only [Prod.mk.injEq] at hx
      have hr := sized_slice hsz (j := 0) (t := 22) (e := 5) rfl (by rw [hx.1]; rfl) Tryz.underlying22
      rw [cells5] at hr
      simp only [lits, List.length_map, List.length_take, List.length_drop] at hr
      simp only [if_true] at hz
      have hb : reachBytes = 140737488351232 := rfl
      exact ⟨zs, .inr ⟨_, rfl, hl, hm, hz, hcell, hwz⟩, by omega⟩
  have k1 := h1
  have lt1 : ∀ x ∈ p1, x.block < W.heap.size := by obtain ⟨m, hm⟩ := k1; exact DataW.trod_lt m _ _ _ hm
  obtain ⟨z1, w1, n1⟩ : ∃ zs, IsRow .u8 W a1 len1 cap1 zs ∧ len1 ≤ 140737488351232 := by
    obtain ⟨fuel, hf⟩ := h1
    rcases open_ints Tryz.underlying22 Tryz.underlying5 (by kernel_rfl) hf with ⟨hcs, _⟩ | ⟨x, l, c, zs, hcs, _, hl, hm, hz, hx, hcell, hwz⟩
    · simp [Value.cells] at hcs
      obtain ⟨rfl, rfl, rfl⟩ := hcs
      exact ⟨[], .inl ⟨rfl, rfl, rfl, rfl⟩, Nat.zero_le _⟩
    · simp [Value.cells] at hcs
      obtain ⟨rfl, rfl, rfl⟩ := hcs
      simp only [Prod.mk.injEq] at hx
      have hr := sized_slice hsz (j := 1) (t := 22) (e := 5) rfl (by rw [hx.1]; rfl) Tryz.underlying22
      rw [cells5] at hr
      simp only [lits, List.length_map, List.length_take, List.length_drop] at hr
      simp only [if_true] at hz
      have hb : reachBytes = 140737488351232 := rfl
      exact ⟨zs, .inr ⟨_, rfl, hl, hm, hz, hcell, hwz⟩, by omega⟩
  clear hA0 hval0
  refine (walk a0 len0 cap0 z0 a1 len1 cap1 z1 W w0 n0 w1 n1).mono fun e W' ⟨he, bel⟩ => ?_
  subst he
  exact ⟨_, rfl, _, _, _, [], _, [], hW', trodAll_mk1 (shut_bool Tryz.underlying4 _), (trodAll_cons_mk (Below.trod laidOut (by kernel_rfl) (of_decide_eq_true (by kernel_rfl)) k0 bel lt0) (trodAll_cons_mk (Below.trod laidOut (by kernel_rfl) (of_decide_eq_true (by kernel_rfl)) k1 bel lt1) trodAll_mk0)), rfl, bel.frame _, fun h => by cases h⟩

theorem over : Rows.treatyMoreRow.holds Tryz.pinned (OpenSpec.ofChange Rows.treatyMoreSpec) :=
  OpenClaim.holds_of_wide 5 Tryz.f5 rfl rfl rfl rfl rfl rfl rfl ⟨rfl, rfl, rfl, rfl, rfl⟩ rfl rfl rfl rfl rfl (by kernel_rfl) Tryz.func5 (by kernel_rfl)
    (of_decide_eq_true (by kernel_rfl)) (by unfold Func.isWrapper; first | (rw [if_pos (by decide +kernel)]; kernel_rfl) | (rw [if_neg (by decide +kernel)]; exact ⟨rfl, rfl⟩))
    (fun os started H enc _ => lifted os started H enc)

/-- The statement: the card. -/
theorem proved : Rows.TreatyMoreCardSaid :=
  Claim7.holds_tied_plain_at .later [] [.data, .data, .data] true (true, "675616953653c96e79d33d017fbd5d78d0e19dbd499f3e1abc353706bf1d378f") false
    over (fun _ h => by cases h) (by kernel_rfl) (fun _ h => by cases h) treatyMore_row_tie rfl ⟨rfl, rfl⟩ (by kernel_rfl) rfl
    (fun f fn hf hfn => by
      obtain rfl : f = 5 := Option.some.inj ((show Tryz.prog.funcNamed "limitrophe/limitrophelaw01.TreatyMore" = some 5 by kernel_rfl).symm.trans hf) |>.symm
      obtain rfl : fn = Tryz.f5 := (Option.some.inj (Tryz.func5.symm.trans hfn)).symm
      exact ⟨by kernel_rfl, fun j t ht => by
        rw [Tryz.params5] at ht
        have h3 : t = 22 := by
          rcases j with _ | _ | j
          · simpa using ht.symm
          · simpa using ht.symm
          · simp at ht
        subst h3
        exact (show Tryz.prog.wantsStandIn 22 = false by kernel_rfl)⟩)
    (by kernel_rfl)
#print axioms proved
end Go.Proofs.YtopjjcgmcieboaaGreatDoor.treatyMore
