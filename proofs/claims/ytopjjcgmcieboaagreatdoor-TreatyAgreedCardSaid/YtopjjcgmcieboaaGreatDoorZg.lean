/-
  TreatyAgreed answers true for every input, and each argument reads afterwards as it read before: all lines that agree are listed, each with the first reading in which it does; a line that is tried agrees just if it is listed; the readings are those with lines, the ends those of all lines. The package-level variables that its row lists start as the program's text lays them.
-/
import Derived.Test.YtopjjcgmcieboaaGreatDoorZf
import Derived.Test.YtopjjcgmcieboaaGreatDoorZd
import Derived.Test.YtopjjcgmcieboaaGreatDoorZh
import Derived.Deep.CutBlock
import Derived.Deep.RegionHeld3
import Derived.Deep.QuietTactic
import Derived.BigQuiet
import Derived.Test.YtopjjcgmcieboaaGreatDoorIj
import Derived.Deep.DeepCutAuto
import Derived.Test.YtopjjcgmcieboaaGreatDoorJn
import Derived.Test.YtopjjcgmcieboaaGreatDoorJi
import Derived.Test.YtopjjcgmcieboaaGreatDoorRows
import Derived.Test.YtopjjcgmcieboaaGreatDoorCards
import Derived.Test.YtopjjcgmcieboaaGreatDoorTie
import Derived.WalkKit
import Derived.ProofKit
import Derived.OpenShut
import Derived.ShutString
import Derived.ChangeOld
import Derived.Below
import Derived.SizedLaws
import Derived.LaidMore
import Derived.Stop.Joined
import Derived.SevenTiedAt
namespace Go.Proofs.YtopjjcgmcieboaaGreatDoor
open Go.RowKit

/-- The code from region n on. -/
def tailA (n : Nat) : Code → Option Code
  | .seq (.region k o d) b => if k = n then some (.seq (.region k o d) b) else tailA n b
  | .seq (.seq (.region k o d) c) b => if k = n then some (.seq (.seq (.region k o d) c) b) else tailA n b
  | .seq _ b => tailA n b
  | .block _ c => tailA n c
  | .scope c => tailA n c
  | _ => none
/-- What Ends returns where some line agrees. -/
def EndsH (t : TV) (w : World) (e : Ending) (w' : World) : Prop :=
  ∃ (a : Option Addr) (c : Nat) (l : List (SL Nat)), e = .returned (.tuple #[.slice a (t.legs.l.length + 1) c, .int .i64 0]) ∧ Hid (l.length = t.legs.l.length + 1) ∧ Hid (IsSl 1 slC w' ⟨a, c, l⟩ ∧ ∀ r ∈ l, IsSl 1 num w' r) ∧ Hid (l.map (fun r => r.l) = endsR t) ∧ Ext w w'
theorem Ends_h (t : TV) (w : World) (ht : IsT w t) (hk : OkT t) (hne : ∃ x, x < 12 ∧ metR t (allR (cntR t)) 0 x = true) : Calls Tryz.prog 19 #[t.v] w (EndsH t w) := by
  refine (Ends_ok t w ht hk hne).mono ?_
  rintro e w' ⟨a, c, l, rfl, h1, h2, h3, h4⟩
  have hl : l.length = t.legs.l.length + 1 := by
    have := congrArg List.length h3
    simpa [endsR] using this
  refine ⟨a, c, l, ?_, hl, ⟨h1, h2⟩, h3, h4⟩
  rw [hl]
noncomputable def tail48 : Code := ((Tryz.f3.body.bind (tailA 48)).getD .skip)

set_option maxRecDepth 1000000 in
set_option maxHeartbeats 8000000 in
theorem agreed_tailE {u0 u1 u2 u3 u4 u6 u8 u9 u10 u12 u13 u14 u15 u16 u17 u18 u19 u20 u21 u22 u23 u24 u25 u26 u27 u28 u29 u30 u31 u32 u33 u34 u35 u36 u37 u38 u39 u40 u41 u42 u43 u44 u45 u46 u47 u48 u49 u50 u51 u52 u53 u54 u55 u56 u57 u58 u59 u60 u61 u62 u63 u64 u65 u66 u67 u68 u69 u70 u71 u72 u73 u74 u75 u76 u77 u78 u79 u80 u81 u82 u83 u84 u85 u86 u87 u88 u89 u90 u91 u92 u93 u94 u95 u96 u97 u98 u99 u100 u101 u102 u103 u104 u105 u106 u107 u108 u109 u110 u111 u112 u113 u114 u115 u116 u117 u118 u119 u120 u121 u122 u123 u124 u125 u126 u127 u128 u129 u130 u131 u132 u133 u134 u135 u136 u137 u138 u139 u140 u141 u142 u143 u144 u145 u146 u147 u148 u149 u150 u151 u152 u153 u154 u155 u156 u157 u158 u159 u160 u161 u162 u163 u164 u165 u166 u167 u168 u169 u170 u171 u172 u173 u174 u175 u176 u177 u178 u179 u180 u181 u182 u183 u184 u185 u186 u187 u188 u189 u190 u191 u192 u193 u194 u195 u196 u197 u198 u199 u200 u201 u202 u203 u204 u205 u206 u207 u208 u209 u210 u211 u212 u213 u214 u215 u216 u217 u218 u219 u220 u221 u222 u223 u224 u225 u226 u227 u228 u229 u230 u231 u232 u233 u234 u235 u236 u237 u238 u239 u240 u241 u242 u243 u244 u245 u246 u247 u248 u249 u250 u251 u252 u253 u254 u255 u256 u257 u258 u259 u260 u261 u262 u263 u264 u265 u266 u267 u268 u269 u270 u271 u272 u273 u274 u275 u276 u277 : Value} (w v : World) (T E base : Nat) (t : TV) (aa : Option Addr) (ca : Nat) (la : List (SL Nat)) (rb : Nat → Nat)
    (HK : Hid (OkT t)) (HT : Hid (IsT v t)) (HB : Hid (TBox v T t)) (HAl : Hid (la.length = (allD t).length)) (HE : Hid (EB v base E (t.legs.l.length + 1) t.P (t.legs.l.length + 1) rb (metR t (allR (cntR t))))) (EV : Hid (Ext w v)) :
    Code.wp Tryz.prog tail48 (bodyPost Tryz.prog Tryz.f3 fun e w' => e = .returned (.bool true) ∧ Ext w w') ⟨#[u0, u1, u2, u3, u4, .pointer (some ⟨T, 0, none⟩), u6, .slice aa la.length ca, u8, u9, u10, .slice (some ⟨E, 0, none⟩) (t.legs.l.length + 1) (t.legs.l.length + 1), u12, u13, u14, u15, u16, u17, u18, u19, u20, u21, u22, u23, u24, u25, u26, u27, u28, u29, u30, u31, u32, u33, u34, u35, u36, u37, u38, u39, u40, u41, u42, u43, u44, u45, u46, u47, u48, u49, u50, u51, u52, u53, u54, u55, u56, u57, u58, u59, u60, u61, u62, u63, u64, u65, u66, u67, u68, u69, u70, u71, u72, u73, u74, u75, u76, u77, u78, u79, u80, u81, u82, u83, u84, u85, u86, u87, u88, u89, u90, u91, u92, u93, u94, u95, u96, u97, u98, u99, u100, u101, u102, u103, u104, u105, u106, u107, u108, u109, u110, u111, u112, u113, u114, u115, u116, u117, u118, u119, u120, u121, u122, u123, u124, u125, u126, u127, u128, u129, u130, u131, u132, u133, u134, u135, u136, u137, u138, u139, u140, u141, u142, u143, u144, u145, u146, u147, u148, u149, u150, u151, u152, u153, u154, u155, u156, u157, u158, u159, u160, u161, u162, u163, u164, u165, u166, u167, u168, u169, u170, u171, u172, u173, u174, u175, u176, u177, u178, u179, u180, u181, u182, u183, u184, u185, u186, u187, u188, u189, u190, u191, u192, u193, u194, u195, u196, u197, u198, u199, u200, u201, u202, u203, u204, u205, u206, u207, u208, u209, u210, u211, u212, u213, u214, u215, u216, u217, u218, u219, u220, u221, u222, u223, u224, u225, u226, u227, u228, u229, u230, u231, u232, u233, u234, u235, u236, u237, u238, u239, u240, u241, u242, u243, u244, u245, u246, u247, u248, u249, u250, u251, u252, u253, u254, u255, u256, u257, u258, u259, u260, u261, u262, u263, u264, u265, u266, u267, u268, u269, u270, u271, u272, u273, u274, u275, u276, u277], []⟩ v := by
  conv => arg 2; whnf
  have hN10 := HK.out.legs
  have hP12 := HK.out.p2
  obtain ⟨f0, f1, f2, f3, f4⟩ := TBox.five5 HB.out
  by_cases h0 : la.length = 0
  · have hd : allD t = [] := List.eq_nil_of_length_eq_zero (by rw [← HAl.out]; exact h0)
    have HN := Lib.hid (Ends_none t v HT.out HK.out (fun x hx => met_none HK.out.start.1 hd x))
    have e1 : ((la.length : Int) == 0) = true := by rw [h0]; rfl
    clear h0 hd
    go_wp2_with fail
    clear f0 f1 f2 f3 f4
    refine HN.out.mono ?_
    rintro e v1 ⟨rfl, hx1⟩
    have HX1 : Hid (Ext v v1) := hx1
    clear hx1
    go_wp2_with (go_at_call 10; refine (awake_ok v1).mono ?_; rintro e v3 ⟨rfl, hx3⟩; have HX3 : Hid (Ext v1 v3) := hx3; clear hx3)
    go_ret
    exact ⟨rfl, EV.out.trans (HX1.out.trans HX3.out)⟩
  · have hd : allD t ≠ [] := fun e => h0 (by rw [HAl.out, e]; rfl)
    have HN := Lib.hid (Ends_h t v HT.out HK.out (met_some HK.out hd))
    have e1 : ((la.length : Int) == 0) = false := by rw [beq_eq_false_iff_ne]; omega
    obtain ⟨i0, hi0, hz0, hz1, hz2⟩ := info_parts info3
    clear h0 hd
    go_wp2_with fail
    clear f0 f1 f2 f3 f4
    refine HN.out.mono ?_
    rintro e v1 ⟨ab, cb, lb, rfl, HLb, HL, HM, hx1⟩
    have HX1 : Hid (Ext v v1) := hx1
    clear hx1 HN
    go_wp2_with fail
    go_loopw [251] (fun iv wr => ∃ k : Nat, k ≤ t.legs.l.length + 1 ∧ iv = .int .i64 (k : Int) ∧ Hid (Ext v1 wr)) (fun iv _ => t.legs.l.length + 1 - (intOf iv).toNat)
    case atStart => exact ⟨0, Nat.zero_le _, rfl, Ext.refl _⟩
    case round =>
      obtain ⟨wo, rfl⟩ : ∃ wo : World, wo = wr := ⟨_, rfl⟩
      obtain ⟨k, hk, rfl, HXk⟩ := hrel
      by_cases hlt : k < t.legs.l.length + 1
      · have dk : decide ((k : Int) < (t.legs.l.length : Int) + 1) = true := decide_eq_true (by omega)
        obtain ⟨bl, ol, hla, hlc⟩ := HL.out.1.2.2.resolve_left (by show ¬ lb.length = 0; rw [HLb.out]; omega)
        dsimp only at hla hlc
        have hkl : k < lb.length := by rw [HLb.out]; exact hlt
        have cx : wo.cell? ⟨bl, ol + k, none⟩ = some (.slice lb[k].a lb[k].l.length lb[k].c) := HXk.out.cell (by have := hlc k hkl 0 (by omega); simpa [slC] using this)
        have cE := (HE.out.ext (HX1.out.trans HXk.out)).cellE k hlt hlt
        have hlk : lb[k].l = placeR t k := by
          have := congrArg (fun l => l[k]?) HM.out
          simpa [endsR, hkl, hlt] using this
        have HIx : Hid (IsSl 1 num v1 lb[k]) := HL.out.2 _ (List.getElem_mem hkl)
        have HLk := Lib.hid hlk
        clear hlk hlc
        generalize lb[k] = x at *
        clear hkl
        have HLa := Lib.hid hla; clear hla
        rw [HLa.out]
        have k0 : (0 : Int) ≤ (k : Int) := by omega
        have k1 : (k : Int) < (t.legs.l.length : Int) + 1 := by omega
        go_wp2_with fail
        clear cx
        go_loopw [32, 261] (fun v i wr => ∃ (m : Nat) (s : SL Nat), m ≤ t.P ∧ i = .int .i64 (m : Int) ∧ v = .slice s.a s.l.length s.c ∧ Hid (s.l = (List.range m).filter fun p => metR t (allR (cntR t)) k p) ∧ Hid (wr.ownsRow wo.heap.size 3 1 (.slice s.a s.l.length s.c) s.l.length (nums s.l)) ∧ Hid (Ext wo wr)) (fun _ i _ => t.P - (intOf i).toNat)
        case atStart => exact ⟨0, ⟨none, 0, []⟩, Nat.zero_le _, rfl, rfl, rfl, World.ownsRow_nil _ _ _ _, Ext.refl _⟩
        case round =>
          obtain ⟨wx, rfl⟩ : ∃ wx : World, wx = wr := ⟨_, rfl⟩
          obtain ⟨m, s, hm, rfl, rfl, HSl, HO, HX⟩ := hrel
          have hsl12 : s.l.length ≤ 12 := by
            have h1 := congrArg List.length HSl.out
            have h2 := List.length_filter_le (fun p => metR t (allR (cntR t)) k p) (List.range m)
            rw [List.length_range] at h2; omega
          by_cases hltm : m < t.P
          · have dm : decide ((m : Int) < (t.P : Int)) = true := decide_eq_true (by omega)
            have cM := (HE.out.ext (HX1.out.trans (HXk.out.trans HX.out))).cellM k m hlt hltm
            have i3 : (0 : Int) ≤ m := by omega
            have i4 : (m : Int) < (t.P : Int) := by omega
            have HSu : Hid (((List.range (m + 1)).filter fun p => metR t (allR (cntR t)) k p) = s.l ++ if metR t (allR (cntR t)) k m then [m] else []) := by
              show _ = _; rw [List.range_succ, List.filter_append, ← HSl.out]; cases hbb : metR t (allR (cntR t)) k m <;> simp [hbb]
            cases hb : metR t (allR (cntR t)) k m
            · rw [hb] at cM
              have HSn : Hid (s.l = (List.range (m + 1)).filter fun p => metR t (allR (cntR t)) k p) := by have := HSu.out; rw [hb] at this; show _ = _; rw [this]; simp
              clear hb
              go_wp2_with fail
              go_roundw
              case rel => exact ⟨m + 1, s, by omega, by go_num, rfl, HSn, HO, HX⟩
              case measure => simp [intOf]; omega
            · rw [hb] at cM
              have HSn : Hid (s.l ++ [m] = (List.range (m + 1)).filter fun p => metR t (allR (cntR t)) k p) := by have := HSu.out; rw [hb] at this; show _ = _; rw [this]; simp
              clear hb
              have hnw := new_cells wx (nums [m]) 3
              have HN := Lib.hid hnw; clear hnw
              have hb6 : wo.heap.size ≤ wx.heap.size + 1 := by have := HX.out.size; omega
              have hm6 : s.l.length + 1 ≤ maxLen := by unfold maxLen; omega
              go_wp2_with (at_builtin; go_must (refine wpList_append_own _ rfl _ _ 25 rfl wo.heap.size 3 i0 (.int .i64 0) 1 8 Tryz.underlying25 hi0 hz0 hz1 hz2 rfl (by decide) _ s.l.length (nums s.l) rfl (HO.out.alloc _) ⟨wx.heap.size, 0, none⟩ 1 1 (nums [m]) rfl rfl HN.out (nums_one [m]) hm6 (by omega) (by simp; omega) ?_); intro v' w5 hown hgrow _)
              obtain ⟨a3, c3, rfl⟩ := own_form hown
              have QX : Hid (Ext wo w5) := ext_grown_of (HX.out.alloc _) hgrow (fun i hi => own_lt HO.out i hi)
              clear hgrow
              rw [← nums_append, show s.l.length + 1 = (s.l ++ [m]).length by simp] at hown
              have HO4 := Lib.hid hown; clear hown
              have hlen3 : (s.l ++ [m]).length = s.l.length + 1 := by simp
              generalize s.l ++ [m] = l3 at *
              rw [← hlen3]
              have HLe := Lib.hid hlen3; clear hlen3
              go_wp2
              go_roundw
              case rel => exact ⟨m + 1, ⟨a3, c3, l3⟩, by omega, by go_num, rfl, HSn, HO4, QX⟩
              case measure => simp [intOf]; omega
          · have hme : m = t.P := by omega
            have dm : decide ((m : Int) < (t.P : Int)) = false := decide_eq_false (by omega)
            have hxs : decide (x.l = s.l) = true := decide_eq_true (by rw [HLk.out, HSl.out, hme]; rfl)
            have HEq := Lib.hid (equal_any x ⟨s.a, s.c, s.l⟩ wx (HIx.out.ext (HXk.out.trans HX.out)) (own_sl HO.out (by omega)))
            rw [hxs] at HEq
            clear hxs hme
            go_wp2_with fail
            refine HEq.out.mono ?_
            rintro e w2 ⟨rfl, hx2⟩
            have HX2 : Hid (Ext wx w2) := hx2.ext
            clear hx2
            go_wp2
            go_roundw
            case rel => exact ⟨k + 1, by omega, by go_num, HXk.out.trans (HX.out.trans HX2.out)⟩
            case measure => simp [intOf]; omega
      · have dk : decide ((k : Int) < (t.legs.l.length : Int) + 1) = false := decide_eq_false (by omega)
        go_wp2_with (go_at_call 10; refine (awake_ok wo).mono ?_; rintro e v3 ⟨rfl, hx3⟩; have HX3 : Hid (Ext wo v3) := hx3; clear hx3)
        go_ret
        exact ⟨rfl, EV.out.trans (HX1.out.trans (HXk.out.trans HX3.out))⟩
end Go.Proofs.YtopjjcgmcieboaaGreatDoor

namespace Go.Proofs.YtopjjcgmcieboaaGreatDoor
open Go.RowKit

noncomputable def tail40 : Code := ((Tryz.f3.body.bind (tailA 40)).getD .skip)
/-- What Agrees returns: a reading, or none. -/
def AgreesH (t : TV) (l : List Nat) (w : World) (e : Ending) (w' : World) : Prop :=
  ∃ (a : Option Addr) (c n : Nat) (er : Int), e = .returned (.tuple #[.slice a n c, .int .i64 er]) ∧ Hid ((er = 0 ∧ ∃ r0, (allR (cntR t)).find? (agB t l) = some r0) ∨ (er = 7 ∧ (allR (cntR t)).find? (agB t l) = none)) ∧ Ext w w'
theorem Agrees_h (t : TV) (ln : SL Nat) (w : World) (ht : IsT w t) (hk : OkT t) (hl : IsSl 1 num w ln) (hll : ln.l.length = t.legs.l.length + 1) (hlt : ∀ x ∈ ln.l, x < t.P) (hs0 : (ln.l[0]?).getD 0 ∈ t.starts.l) :
    Calls Tryz.prog 12 #[t.v, .slice ln.a ln.l.length ln.c] w (AgreesH t ln.l w) := by
  cases hf : (allR (cntR t)).find? (agB t ln.l) with
  | none =>
    refine (Agrees_none t ln w ht hk hl hll hlt hs0 hf).mono ?_
    rintro e w' ⟨rfl, hx⟩
    exact ⟨none, 0, 0, 7, rfl, .inr ⟨rfl, hf⟩, hx⟩
  | some r0 =>
    refine (Agrees_ok t ln w r0 ht hk hl hll hlt hs0 hf).mono ?_
    rintro e w' ⟨a, c, rfl, _, hx⟩
    exact ⟨a, c, r0.length, 0, rfl, .inl ⟨rfl, r0, hf⟩, hx⟩
/-- A line agrees just if it is listed. -/
theorem listed_iff {t : TV} (hk : OkT t) {L : List (List Nat)} (hal : AllL t L) {l : List Nat} (h1 : l.length = t.legs.l.length + 1) (h2 : ∀ x ∈ l, x < t.P) (h3 : (l[0]?).getD 0 ∈ t.starts.l) : ((∃ r0, (allR (cntR t)).find? (agB t l) = some r0) → l ∈ L) ∧ ((allR (cntR t)).find? (agB t l) = none → l ∉ L) := by
  constructor
  · rintro ⟨r0, hf⟩
    exact hal.mem.2 ⟨r0, List.mem_of_find?_eq_some hf, (agB_line hk.start.1 h1 h2 h3).1 (List.find?_some hf)⟩
  · intro hf hin
    obtain ⟨r, hr, hx⟩ := hal.mem.1 hin
    exact absurd ((agB_line hk.start.1 h1 h2 h3).2 hx) (List.find?_eq_none.1 hf r hr)
theorem any_in {la : List (SL Nat)} {l : List Nat} : (l ∈ la.map (fun r => r.l) → la.any (fun y => decide (y.l = l)) = true) ∧ (l ∉ la.map (fun r => r.l) → la.any (fun y => decide (y.l = l)) = false) := by
  constructor
  · intro h
    obtain ⟨y, hy, he⟩ := List.mem_map.1 h
    exact List.any_eq_true.2 ⟨y, hy, by simp [he]⟩
  · intro h
    rw [List.any_eq_false]
    intro y hy
    have : y.l ≠ l := fun e => h (List.mem_map.2 ⟨y, hy, e⟩)
    simpa using this

set_option maxRecDepth 1000000 in
set_option maxHeartbeats 8000000 in
theorem agreed_tailG {u0 u1 u2 u3 u4 u8 u9 u10 u12 u13 u14 u15 u16 u17 u18 u19 u20 u21 u22 u23 u24 u25 u26 u27 u28 u29 u30 u31 u32 u33 u34 u35 u36 u37 u38 u39 u40 u41 u42 u43 u44 u45 u46 u47 u48 u49 u50 u51 u52 u53 u54 u55 u56 u57 u58 u59 u60 u61 u62 u63 u64 u65 u66 u67 u68 u69 u70 u71 u72 u73 u74 u75 u76 u77 u78 u79 u80 u81 u82 u83 u84 u85 u86 u87 u88 u89 u90 u91 u92 u93 u94 u95 u96 u97 u98 u99 u100 u101 u102 u103 u104 u105 u106 u107 u108 u109 u110 u111 u112 u113 u114 u115 u116 u117 u118 u119 u120 u121 u122 u123 u124 u125 u126 u127 u128 u129 u130 u131 u132 u133 u134 u135 u136 u137 u138 u139 u140 u141 u142 u143 u144 u145 u146 u147 u148 u149 u150 u151 u152 u153 u154 u155 u156 u157 u158 u159 u160 u161 u162 u163 u164 u165 u166 u167 u168 u169 u170 u171 u172 u173 u174 u175 u176 u177 u178 u179 u180 u181 u182 u183 u184 u185 u186 u187 u188 u189 u190 u191 u192 u193 u194 u195 u196 u197 u198 u199 u200 u201 u202 u203 u204 u205 u206 u207 u208 u209 u210 u211 u212 u213 u214 u215 u216 u217 u218 u219 u220 u221 u222 u223 u224 u225 u226 u227 u228 u229 u230 u231 u232 u233 u234 u235 u236 u237 u238 u239 u240 u241 u242 u243 u244 u245 u246 u247 u248 u249 u250 u251 u252 u253 u254 u255 u256 u257 u258 u259 u260 u261 u262 u263 u264 u265 u266 u267 u268 u269 u270 u271 u272 u273 u274 u275 u276 u277 : Value} (w v : World) (T E D : Nat) (a2 : Option Addr) (n2 c2 k2 : Nat) (t : TV) (aa : Option Addr) (ca : Nat) (la : List (SL Nat)) (rb : Nat → Nat)
    (HK : Hid (OkT t)) (HT : Hid (IsTo D v t)) (HB : Hid (TBox v T t)) (hTD : T ≠ D) (HTb : Hid (TblO (D + 1) v aa ca la)) (HAL : Hid (AllL t (la.map fun r => r.l))) (HE : Hid (EB v (D + 1) E (t.legs.l.length + 1) t.P (t.legs.l.length + 1) rb (metR t (allR (cntR t)))))
    (HD : Hid (IsDeck v D a2 n2 c2 k2)) (hk2 : k2 ≤ 1000) (HBy : Hid (∀ b off, a2 = some ⟨b, off, none⟩ → 0 < n2 → b < v.heap.size)) (hwD : w.heap.size ≤ D) (EV : Hid (Ext w v)) :
    Code.wp Tryz.prog tail40 (bodyPost Tryz.prog Tryz.f3 fun e w' => e = .returned (.bool true) ∧ Ext w w') ⟨#[u0, u1, u2, u3, u4, .pointer (some ⟨T, 0, none⟩), .pointer (some ⟨D, 0, none⟩), .slice aa la.length ca, u8, u9, u10, .slice (some ⟨E, 0, none⟩) (t.legs.l.length + 1) (t.legs.l.length + 1), u12, u13, u14, u15, u16, u17, u18, u19, u20, u21, u22, u23, u24, u25, u26, u27, u28, u29, u30, u31, u32, u33, u34, u35, u36, u37, u38, u39, u40, u41, u42, u43, u44, u45, u46, u47, u48, u49, u50, u51, u52, u53, u54, u55, u56, u57, u58, u59, u60, u61, u62, u63, u64, u65, u66, u67, u68, u69, u70, u71, u72, u73, u74, u75, u76, u77, u78, u79, u80, u81, u82, u83, u84, u85, u86, u87, u88, u89, u90, u91, u92, u93, u94, u95, u96, u97, u98, u99, u100, u101, u102, u103, u104, u105, u106, u107, u108, u109, u110, u111, u112, u113, u114, u115, u116, u117, u118, u119, u120, u121, u122, u123, u124, u125, u126, u127, u128, u129, u130, u131, u132, u133, u134, u135, u136, u137, u138, u139, u140, u141, u142, u143, u144, u145, u146, u147, u148, u149, u150, u151, u152, u153, u154, u155, u156, u157, u158, u159, u160, u161, u162, u163, u164, u165, u166, u167, u168, u169, u170, u171, u172, u173, u174, u175, u176, u177, u178, u179, u180, u181, u182, u183, u184, u185, u186, u187, u188, u189, u190, u191, u192, u193, u194, u195, u196, u197, u198, u199, u200, u201, u202, u203, u204, u205, u206, u207, u208, u209, u210, u211, u212, u213, u214, u215, u216, u217, u218, u219, u220, u221, u222, u223, u224, u225, u226, u227, u228, u229, u230, u231, u232, u233, u234, u235, u236, u237, u238, u239, u240, u241, u242, u243, u244, u245, u246, u247, u248, u249, u250, u251, u252, u253, u254, u255, u256, u257, u258, u259, u260, u261, u262, u263, u264, u265, u266, u267, u268, u269, u270, u271, u272, u273, u274, u275, u276, u277], []⟩ v := by
  conv => arg 2; whnf
  have hN10 := HK.out.legs
  have hP12 := HK.out.p2
  have HTv : Hid (T < v.heap.size) := (Array.getElem?_eq_some_iff.1 HB.out).1
  go_wp2_with fail
  go_loopw [200] (fun i wr => ∃ (k k' : Nat), k ≤ 8 ∧ i = .int .i64 (k : Int) ∧ Hid (IsDeck wr D a2 n2 c2 k') ∧ k' ≤ 1000 + 11 * k ∧ Hid (DExt D v wr)) (fun i _ => 8 - (intOf i).toNat)
  case atStart => exact ⟨0, k2, Nat.zero_le _, rfl, HD, by omega, DExt.refl D v⟩
  case round =>
    obtain ⟨wo, rfl⟩ : ∃ wo : World, wo = wr := ⟨_, rfl⟩
    obtain ⟨k, k', hk, rfl, HDk, hk', HX⟩ := hrel
    have HBo : Hid (TBox wo T t) := (HX.out.block T HTv.out (by simp; omega)).trans HB.out
    by_cases hlt : k < 8
    · have dk : decide ((k : Int) < 8) = true := decide_eq_true (by omega)
      have hby : Hid (∀ b off, a2 = some ⟨b, off, none⟩ → 0 < n2 → b < wo.heap.size) := fun b off h1 h2 => Nat.lt_of_lt_of_le (HBy.out b off h1 h2) HX.out.size
      obtain ⟨f0, f1, f2, f3, f4⟩ := TBox.five5 HBo.out
      go_wp2_with fail
      clear f0 f1 f2 f3 f4
      refine (gone_any D a2 n2 c2 k' t wo HDk.out hby.out (by omega) (HT.out.dext HX.out) HK.out).mono ?_
      rintro e w1 ⟨a', c', l, k3, rfl, hO, hl, hP, hS, hD3, hk3, hx3⟩
      have HX1 : Hid (DExt D v w1) := HX.out.trans hx3
      have HIs : Hid (IsSl 1 num w1 ⟨a', c', l⟩) := own_sl hO (by omega)
      have HD3 := Lib.hid hD3
      have HLl : Hid (l.length = t.legs.l.length + 1) := hl
      have HP := Lib.hid hP
      have HS := Lib.hid hS
      have HB1 : Hid (TBox w1 T t) := (HX1.out.block T HTv.out (by simp; omega)).trans HB.out
      have HLi := Lib.hid (listed_iff HK.out HAL.out hl hP hS)
      clear hO hl hP hS hD3 hx3
      go_upto_region 43 with (fail)
      obtain ⟨wb, hwb⟩ : ∃ wb, w1.alloc (.cells #[.slice a' l.length c'] 25) = wb := ⟨_, rfl⟩
      have HXb : Hid (Ext w1 wb) := by rw [← hwb]; exact (Ext.refl w1).alloc _
      have HBx : Hid (wb.heap[w1.heap.size]? = some (.cells #[.slice a' l.length c'] 25 (0, 0))) := by rw [← hwb]; exact World.alloc_heap_new w1 _
      rw [hwb]
      clear hwb
      obtain ⟨f0, f1, f2, f3, f4⟩ := TBox.five5 (HXb.out.block HB1.out)
      have cb := (cell_at HBx.out 0).trans rfl
      simp only [List.getElem?_toArray, List.getElem?_cons_zero] at cb
      go_wp2_with fail
      clear f0 f1 f2 f3 f4 cb
      refine (Agrees_h t ⟨a', c', l⟩ wb ((HT.out w1 HX1.out).ext HXb.out) HK.out (HIs.out.ext HXb.out) HLl.out HP.out HS.out).mono ?_
      rintro e wd ⟨ag, cg, ng, er, rfl, HA, hxd⟩
      have HXd : Hid (Ext w1 wd) := HXb.out.trans hxd
      have HBd : Hid (wd.heap[w1.heap.size]? = some (.cells #[.slice a' l.length c'] 25 (0, 0))) := hxd.block HBx.out
      clear hxd HBx HXb
      have HTd : Hid (IsSl 1 slC wd ⟨aa, ca, la⟩ ∧ ∀ r ∈ la, IsSl 1 num wd r) :=
        ((HTb.out.keep (D := fun i => i ≠ D) ((Keep.refl _ v).grown HX1.out (fun i e _ h => h (by cases e; rfl))) (fun i hi => by omega)).keep (D := fun _ => True) (Keep.of_ext HXd.out) (fun _ _ => trivial)).is
      have HXe : Hid (DExt D v wd) := HX1.out.ext HXd.out
      have HDd : Hid (IsDeck wd D a2 n2 c2 k3) := HD3.out.ext HXd.out
      have hsz : w1.heap.size < wd.heap.size := (Array.getElem?_eq_some_iff.1 HBd.out).1
      rcases HA.out with ⟨rfl, hf⟩ | ⟨rfl, hf⟩
      · have HCon := Lib.hid (agreed2_in w1.heap.size ⟨a', c', l⟩ aa ca la wd true HBd.out (HIs.out.ext HXd.out) HTd.out.1 HTd.out.2 (any_in.1 (HLi.out.1 hf)))
        clear hf HA
        go_wp2_with (go_at_call 14; refine (HCon.out 0).mono ?_; rintro e wf ⟨rfl, nf, rfl⟩)
        go_roundw
        case rel => exact ⟨k + 1, k3, by omega, by go_num, HDd.out.ext ((Ext.refl wd).drewN nf), by omega, HXe.out.ext ((Ext.refl wd).drewN nf)⟩
        case measure => simp [intOf]; omega
      · have HCon := Lib.hid (agreed2_in w1.heap.size ⟨a', c', l⟩ aa ca la wd false HBd.out (HIs.out.ext HXd.out) HTd.out.1 HTd.out.2 (any_in.2 (HLi.out.2 hf)))
        clear hf HA
        go_wp2_with (go_at_call 14; refine (HCon.out 0).mono ?_; rintro e wf ⟨rfl, nf, rfl⟩)
        go_roundw
        case rel => exact ⟨k + 1, k3, by omega, by go_num, HDd.out.ext ((Ext.refl wd).drewN nf), by omega, HXe.out.ext ((Ext.refl wd).drewN nf)⟩
        case measure => simp [intOf]; omega
    · have dk : decide ((k : Int) < 8) = false := decide_eq_false (by omega)
      have HTo : Hid (IsT wo t) := HT.out wo HX.out
      have HEo : Hid (EB wo (D + 1) E (t.legs.l.length + 1) t.P (t.legs.l.length + 1) rb (metR t (allR (cntR t)))) := HE.out.keep (D := fun i => i ≠ D) ((Keep.refl _ v).grown HX.out (fun i e _ h => h (by cases e; rfl))) (fun i hi => by omega)
      have HAl : Hid (la.length = (allD t).length) := by show _ = _; have := HAL.out.length; simpa using this
      have EO : Hid (Ext w wo) := EV.out.dext HX.out hwD
      repeat (first
        | exact agreed_tailE w wo T E (D + 1) t aa ca la rb HK HTo HBo HAl HEo EO
        | go_step)
end Go.Proofs.YtopjjcgmcieboaaGreatDoor

namespace Go.Proofs.YtopjjcgmcieboaaGreatDoor
open Go.RowKit

noncomputable def tail15 : Code := ((Tryz.f3.body.bind (tailA 15)).getD .skip)
/-- What Agrees returns for a line that agrees: the first reading. -/
def AgFirst (t : TV) (l : List Nat) (w : World) (e : Ending) (w' : World) : Prop :=
  ∃ (a : Option Addr) (c : Nat) (r0 : List Nat), e = .returned (.tuple #[.slice a r0.length c, .int .i64 0]) ∧ Hid ((allR (cntR t)).find? (agB t l) = some r0) ∧ Hid (IsSl 1 num w' ⟨a, c, r0⟩) ∧ Ext w w'
theorem Agrees_in {L : List (List Nat)} (t : TV) (ln : SL Nat) (w : World) (ht : IsT w t) (hk : OkT t) (hal : AllL t L) (hin : ln.l ∈ L) (hl : IsSl 1 num w ln) (hll : ln.l.length = t.legs.l.length + 1) (hlt : ∀ x ∈ ln.l, x < t.P) (hs0 : (ln.l[0]?).getD 0 ∈ t.starts.l) :
    Calls Tryz.prog 12 #[t.v, .slice ln.a ln.l.length ln.c] w (AgFirst t ln.l w) := by
  cases hf : (allR (cntR t)).find? (agB t ln.l) with
  | none => exact absurd hin ((listed_iff hk hal hll hlt hs0).2 hf)
  | some r0 =>
    refine (Agrees_ok t ln w r0 ht hk hl hll hlt hs0 hf).mono ?_
    rintro e w' ⟨a, c, rfl, h, hx⟩
    exact ⟨a, c, r0, rfl, hf, h, hx⟩
/-- The legs that a line breaks in a reading: none if it agrees, some if it does not. -/
theorem brk_none {t : TV} {l r : List Nat} (h : agB t l r = true) : brkTo (leadsOf t r) l t.legs.l.length = [] := by
  unfold brkTo
  rw [List.filter_eq_nil_iff]
  intro j hj
  unfold agB at h
  rw [List.all_eq_true] at h
  have := h j hj
  simpa using this
theorem brk_some {t : TV} {l r : List Nat} (h : agB t l r = false) : 0 < (brkTo (leadsOf t r) l t.legs.l.length).length := by
  unfold agB at h
  rw [List.all_eq_false] at h
  obtain ⟨j, hj, h1⟩ := h
  refine List.length_pos_of_mem (a := j) ?_
  unfold brkTo
  rw [List.mem_filter]
  exact ⟨hj, by simpa using h1⟩
/-- What Breaks returns: no leg, or some. -/
def BrkZ (w : World) (e : Ending) (w' : World) : Prop := ∃ (a : Option Addr) (c : Nat), e = .returned (.tuple #[.slice a 0 c, .int .i64 0]) ∧ Ext w w'
def BrkP (w : World) (e : Ending) (w' : World) : Prop := ∃ (a : Option Addr) (c n : Nat), e = .returned (.tuple #[.slice a n c, .int .i64 0]) ∧ 0 < n ∧ n ≤ 10 ∧ Ext w w'
theorem Breaks_z (t : TV) (r ln : SL Nat) (w : World) (ht : IsT w t) (hk : OkT t) (hr : IsSl 1 num w r) (hR : RdOk t r.l) (hl : IsSl 1 num w ln) (hll : ln.l.length = t.legs.l.length + 1) (hlt : ∀ x ∈ ln.l, x < t.P) (hs0 : (ln.l[0]?).getD 0 ∈ t.starts.l) (hag : agB t ln.l r.l = true) :
    Calls Tryz.prog 13 #[t.v, .slice r.a r.l.length r.c, .slice ln.a ln.l.length ln.c] w (BrkZ w) := by
  refine (Breaks_ok t r ln w ht hk hr hR hl hll hlt hs0).mono ?_
  rw [brk_none hag]
  rintro e w' ⟨a, c, rfl, _, hx⟩
  exact ⟨a, c, rfl, hx⟩
theorem Breaks_p (t : TV) (r ln : SL Nat) (w : World) (ht : IsT w t) (hk : OkT t) (hr : IsSl 1 num w r) (hR : RdOk t r.l) (hl : IsSl 1 num w ln) (hll : ln.l.length = t.legs.l.length + 1) (hlt : ∀ x ∈ ln.l, x < t.P) (hs0 : (ln.l[0]?).getD 0 ∈ t.starts.l) (hag : agB t ln.l r.l = false) :
    Calls Tryz.prog 13 #[t.v, .slice r.a r.l.length r.c, .slice ln.a ln.l.length ln.c] w (BrkP w) := by
  refine (Breaks_ok t r ln w ht hk hr hR hl hll hlt hs0).mono ?_
  have h1 := brk_some hag
  have h2 := brkTo_le (leadsOf t r.l) ln.l t.legs.l.length
  have h3 := hk.legs
  rintro e w' ⟨a, c, rfl, _, hx⟩
  exact ⟨a, c, _, rfl, h1, by omega, hx⟩
/-- The marks of the first k lines. -/
def mk (la : List (SL Nat)) (k i p : Nat) : Bool := (la.take k).any fun x => gt x.l i == p
theorem mk_succ {la : List (SL Nat)} {k : Nat} (h : k < la.length) (i p : Nat) : mk la (k + 1) i p = (mk la k i p || (gt la[k].l i == p)) := by
  unfold mk
  rw [List.take_succ_eq_append_getElem h, List.any_append]
  simp
theorem mk_all {t : TV} (hk : OkT t) {la : List (SL Nat)} (hal : AllL t (la.map fun r => r.l)) (i p : Nat) (hi : i < t.legs.l.length + 1) : mk la la.length i p = metR t (allR (cntR t)) i p := by
  rw [Bool.eq_iff_iff, metR_line t hk.start.1 i p (by omega)]
  unfold mk
  rw [List.take_length, List.any_eq_true]
  constructor
  · rintro ⟨x, hx, he⟩
    exact ⟨x.l, hal.1.mem_iff.1 (List.mem_map.2 ⟨x, hx, rfl⟩), by simpa using he⟩
  · rintro ⟨l, hl, he⟩
    obtain ⟨x, hx, rfl⟩ := List.mem_map.1 (hal.1.mem_iff.2 hl)
    exact ⟨x, hx, by simpa using he⟩
/-- Behind the first j places of a line more. -/
def mkJ (la : List (SL Nat)) (x : List Nat) (k j i p : Nat) : Bool := mk la k i p || (decide (i < j) && (gt x i == p))
theorem mkJ_zero (la : List (SL Nat)) (x : List Nat) (k i p : Nat) : mkJ la x k 0 i p = mk la k i p := by simp [mkJ]
theorem mkJ_succ (la : List (SL Nat)) (x : List Nat) (k j i p : Nat) : upd (mkJ la x k j) j (gt x j) true i p = mkJ la x k (j + 1) i p := by
  unfold upd mkJ
  by_cases e : i = j ∧ p = gt x j
  · rw [if_pos e, e.1, e.2]; simp
  · rw [if_neg e]
    by_cases e1 : i = j
    · subst e1
      have : ¬ gt x i = p := fun e2 => e ⟨rfl, e2.symm⟩
      simp [this]
    · have h1 : decide (i < j + 1) = decide (i < j) := by
        rw [decide_eq_decide]; omega
      rw [h1]

set_option maxRecDepth 1000000 in
set_option maxHeartbeats 8000000 in
theorem agreed_tailM {u0 u1 u2 u3 u4 u8 u10 u12 u13 u14 u15 u16 u17 u18 u19 u20 u21 u22 u23 u24 u25 u26 u27 u28 u29 u30 u31 u32 u33 u34 u35 u36 u37 u38 u39 u40 u41 u42 u43 u44 u45 u46 u47 u48 u49 u50 u51 u52 u53 u54 u55 u56 u57 u58 u59 u60 u61 u62 u63 u64 u65 u66 u67 u68 u69 u70 u71 u72 u73 u74 u75 u76 u77 u78 u79 u80 u81 u82 u83 u84 u85 u86 u87 u88 u89 u90 u91 u92 u93 u94 u95 u96 u97 u98 u99 u100 u101 u102 u103 u104 u105 u106 u107 u108 u109 u110 u111 u112 u113 u114 u115 u116 u117 u118 u119 u120 u121 u122 u123 u124 u125 u126 u127 u128 u129 u130 u131 u132 u133 u134 u135 u136 u137 u138 u139 u140 u141 u142 u143 u144 u145 u146 u147 u148 u149 u150 u151 u152 u153 u154 u155 u156 u157 u158 u159 u160 u161 u162 u163 u164 u165 u166 u167 u168 u169 u170 u171 u172 u173 u174 u175 u176 u177 u178 u179 u180 u181 u182 u183 u184 u185 u186 u187 u188 u189 u190 u191 u192 u193 u194 u195 u196 u197 u198 u199 u200 u201 u202 u203 u204 u205 u206 u207 u208 u209 u210 u211 u212 u213 u214 u215 u216 u217 u218 u219 u220 u221 u222 u223 u224 u225 u226 u227 u228 u229 u230 u231 u232 u233 u234 u235 u236 u237 u238 u239 u240 u241 u242 u243 u244 u245 u246 u247 u248 u249 u250 u251 u252 u253 u254 u255 u256 u257 u258 u259 u260 u261 u262 u263 u264 u265 u266 u267 u268 u269 u270 u271 u272 u273 u274 u275 u276 u277 : Value} (w v0 v : World) (T E D : Nat) (a2 : Option Addr) (n2 c2 k2 : Nat) (t : TV) (aa ar : Option Addr) (ca cr : Nat) (la lr : List (SL Nat)) (rb : Nat → Nat)
    (HK : Hid (OkT t)) (HT : Hid (IsTo D v0 t)) (HB : Hid (TBox v0 T t)) (hTD : T ≠ D) (HTb : Hid (TblO (D + 1) v0 aa ca la)) (HAL : Hid (AllL t (la.map fun r => r.l))) (hl200 : la.length ≤ 200)
    (HRs : Hid (IsSl 1 slC v0 ⟨ar, cr, lr⟩ ∧ ∀ r ∈ lr, IsSl 1 num v0 r)) (HRm : Hid (lr.map (fun r => r.l) = hasR t))
    (HE : Hid (EB v v0.heap.size E (t.legs.l.length + 1) t.P (t.legs.l.length + 1) rb (fun _ _ => false))) (HXv : Hid (Ext v0 v))
    (HD : Hid (IsDeck v0 D a2 n2 c2 k2)) (hk2 : k2 ≤ 1000) (HBy : Hid (∀ b off, a2 = some ⟨b, off, none⟩ → 0 < n2 → b < v0.heap.size)) (hwD : w.heap.size ≤ D) (EV : Hid (Ext w v0)) :
    Code.wp Tryz.prog tail15 (bodyPost Tryz.prog Tryz.f3 fun e w' => e = .returned (.bool true) ∧ Ext w w') ⟨#[u0, u1, u2, u3, u4, .pointer (some ⟨T, 0, none⟩), .pointer (some ⟨D, 0, none⟩), .slice aa la.length ca, u8, .slice ar lr.length cr, u10, .slice (some ⟨E, 0, none⟩) (t.legs.l.length + 1) (t.legs.l.length + 1), u12, u13, u14, u15, u16, u17, u18, u19, u20, u21, u22, u23, u24, u25, u26, u27, u28, u29, u30, u31, u32, u33, u34, u35, u36, u37, u38, u39, u40, u41, u42, u43, u44, u45, u46, u47, u48, u49, u50, u51, u52, u53, u54, u55, u56, u57, u58, u59, u60, u61, u62, u63, u64, u65, u66, u67, u68, u69, u70, u71, u72, u73, u74, u75, u76, u77, u78, u79, u80, u81, u82, u83, u84, u85, u86, u87, u88, u89, u90, u91, u92, u93, u94, u95, u96, u97, u98, u99, u100, u101, u102, u103, u104, u105, u106, u107, u108, u109, u110, u111, u112, u113, u114, u115, u116, u117, u118, u119, u120, u121, u122, u123, u124, u125, u126, u127, u128, u129, u130, u131, u132, u133, u134, u135, u136, u137, u138, u139, u140, u141, u142, u143, u144, u145, u146, u147, u148, u149, u150, u151, u152, u153, u154, u155, u156, u157, u158, u159, u160, u161, u162, u163, u164, u165, u166, u167, u168, u169, u170, u171, u172, u173, u174, u175, u176, u177, u178, u179, u180, u181, u182, u183, u184, u185, u186, u187, u188, u189, u190, u191, u192, u193, u194, u195, u196, u197, u198, u199, u200, u201, u202, u203, u204, u205, u206, u207, u208, u209, u210, u211, u212, u213, u214, u215, u216, u217, u218, u219, u220, u221, u222, u223, u224, u225, u226, u227, u228, u229, u230, u231, u232, u233, u234, u235, u236, u237, u238, u239, u240, u241, u242, u243, u244, u245, u246, u247, u248, u249, u250, u251, u252, u253, u254, u255, u256, u257, u258, u259, u260, u261, u262, u263, u264, u265, u266, u267, u268, u269, u270, u271, u272, u273, u274, u275, u276, u277], []⟩ v := by
  conv => arg 2; whnf
  have hN10 := HK.out.legs
  have hP12 := HK.out.p2
  go_wp2_with fail
  go_loopw [96] (fun iv wr => ∃ k : Nat, k ≤ la.length ∧ iv = .int .i64 (k : Int) ∧ Hid (EB wr v0.heap.size E (t.legs.l.length + 1) t.P (t.legs.l.length + 1) rb (mk la k)) ∧ Hid (Ext v0 wr)) (fun iv _ => la.length - (intOf iv).toNat)
  case atStart => exact ⟨0, Nat.zero_le _, rfl, HE.out.congr (fun i p _ _ => by simp [mk]), HXv⟩
  case round =>
    obtain ⟨wo, rfl⟩ : ∃ wo : World, wo = wr := ⟨_, rfl⟩
    obtain ⟨k, hk, rfl, HEk, HXk⟩ := hrel
    by_cases hlt : k < la.length
    · have dk : decide ((k : Int) < (la.length : Int)) = true := by simpa using hlt
      obtain ⟨bl, ol, hla, hlc⟩ := HTb.out.is.1.2.2.resolve_left (by show ¬ la.length = 0; omega)
      dsimp only at hla hlc
      have HLc : Hid (∀ i (h : i < la.length), v0.cell? ⟨bl, ol + i, none⟩ = some (.slice la[i].a la[i].l.length la[i].c)) := fun i h => by have := hlc i h 0 (by omega); simpa [slC] using this
      have cx : wo.cell? ⟨bl, ol + k, none⟩ = some (.slice la[k].a la[k].l.length la[k].c) := HXk.out.cell (HLc.out k hlt)
      have hin : la[k].l ∈ la.map (fun r => r.l) := List.mem_map.2 ⟨_, List.getElem_mem hlt, rfl⟩
      obtain ⟨r1, hr1, hx1⟩ := HAL.out.mem.1 hin
      have hlo := (mem_linesR t _ HK.out.start.1 _).1 hx1
      have HLo : Hid (la[k].l.length = t.legs.l.length + 1 ∧ (∀ y ∈ la[k].l, y < t.P) ∧ ((la[k].l)[0]?).getD 0 ∈ t.starts.l) := ⟨(lines_lt HK.out.start.1 hx1).1, (lines_lt HK.out.start.1 hx1).2, hlo.2.1⟩
      have HGt : Hid (∀ i, i < t.legs.l.length + 1 → gt la[k].l i < t.P) := fun i hi => hlo.2.2.1 i (by omega)
      have HIx : Hid (IsSl 1 num v0 la[k]) := HTb.out.is.2 _ (List.getElem_mem hlt)
      have HMs : Hid (∀ i p, mk la (k + 1) i p = (mk la k i p || (gt la[k].l i == p))) := mk_succ hlt
      have hne : ((la[k].l.length : Int) != (t.legs.l.length : Int) + 1) = false := by rw [bne_eq_false_iff_eq]; have := HLo.out.1; omega
      have HIn := Lib.hid hin
      have HSo : Hid (∀ m (h : m + 1 < la.length), cmpL la[m].l la[m + 1].l < 0) := by
        intro m h
        have h1 := HAL.out.2
        rw [List.pairwise_map] at h1
        exact List.pairwise_iff_getElem.1 h1 m (m + 1) (by omega) h (by omega)
      clear hin hr1 hx1 hlo hlc
      have HLa := Lib.hid hla; clear hla
      rw [HLa.out]
      have k0 : (0 : Int) ≤ (k : Int) := by omega
      have k1 : (k : Int) < (la.length : Int) := by omega
      obtain ⟨f0, f1, f2, f3, f4⟩ := TBox.five5 ((HXk.out).block HB.out)
      go_upto_region 18 with (fail)
      go_cut [121] (fun s121 wx => s121 = .bool false ∧ Hid (Ext wo wx))
      case first =>
        by_cases hk0 : k = 0
        · have d0 : decide ((0 : Int) < (k : Int)) = false := by simp; omega
          have d0n : decide (0 < k) = false := by simp; omega
          generalize la[k] = x at *
          clear hk0
          go_wp2_with fail
          go_meet
          exact ⟨rfl, Ext.refl wo⟩
        · obtain ⟨m, rfl⟩ : ∃ m, k = m + 1 := ⟨k - 1, by omega⟩
          have d0 : decide ((0 : Int) < (m : Int) + 1) = true := decide_eq_true (by omega)
          have i0 : (0 : Int) ≤ (m : Int) := by omega
          have i1 : (m : Int) < (la.length : Int) := by omega
          have i2 : (0 : Int) ≤ (m : Int) + 1 := by omega
          have i3 : (m : Int) + 1 < (la.length : Int) := by omega
          have i4 : IntKind.i64.wrap (m : Int) = (m : Int) := IntWalk.i64_in _ (by omega)
          have i5 : (0 : Int) < (m : Int) + 1 := by omega
          have dk' : decide ((m : Int) + 1 < (la.length : Int)) = true := decide_eq_true (by omega)
          clear dk k0 k1
          rw [Int.natCast_add, Int.natCast_one]
          have cy := HXk.out.cell (HLc.out m (by omega))
          have HIy : Hid (IsSl 1 num v0 la[m]) := HTb.out.is.2 _ (List.getElem_mem (by omega))
          have hz := HSo.out m hlt
          have HCmp := Lib.hid (compare_any la[m] la[m + 1] wo (HIy.out.ext HXk.out) (HIx.out.ext HXk.out))
          generalize hxx : la[m + 1] = x at *
          generalize hyy : la[m] = y at *
          have HXx := Lib.hid hxx; clear hxx hk0
          have HYy := Lib.hid hyy; clear hyy
          generalize cmpL y.l x.l = z at *
          have dz : decide ((0 : Int) ≤ z) = false := decide_eq_false (by omega)
          have dz2 : ¬ (0 : Int) ≤ z := by omega
          clear hz
          go_wp2_with (go_at_call 11; refine HCmp.out.mono ?_; rintro e w' ⟨rfl, rfl⟩)
          go_meet
          exact ⟨rfl, Ext.refl wo⟩
      case rest =>
        obtain ⟨rfl, HXw⟩ := hcut
        clear cx hne dk HSo HLc
        have HX2 : Hid (Ext v0 wc) := HXk.out.trans HXw.out
        have HE2 := Lib.hid (HEk.out.ext HXw.out)
        clear HXw HXk HEk
        generalize la[k] = x at *
        obtain ⟨f0, f1, f2, f3, f4⟩ := TBox.five5 (HX2.out.block HB.out)
        go_wp2_with fail
        clear f0 f1 f2 f3 f4
        refine (Agrees_in t x wc ((HT.out.at).ext HX2.out) HK.out HAL.out HIn.out (HIx.out.ext HX2.out) HLo.out.1 HLo.out.2.1 HLo.out.2.2).mono ?_
        rintro e wd ⟨ag, cg, r0, rfl, HF, HG, hxd⟩
        have HXd : Hid (Ext v0 wd) := HX2.out.trans hxd
        have HEd := Lib.hid (HE2.out.ext hxd)
        clear hxd HX2 HE2
        have HR0 : Hid (r0 ∈ allR (cntR t)) := List.mem_of_find?_eq_some HF.out
        have HA0 : Hid (agB t x.l r0 = true) := List.find?_some HF.out
        have HRr : Hid (RdOk t r0) := allR_rd HK.out HR0.out
        have hinr : r0 ∈ lr.map (fun r => r.l) := by
          rw [HRm.out]
          unfold hasR
          rw [List.mem_filter]
          exact ⟨HR0.out, (hasB_line t _ HK.out.start.1).2 ⟨x.l, (agB_line HK.out.start.1 HLo.out.1 HLo.out.2.1 HLo.out.2.2).1 HA0.out⟩⟩
        have HAny := Lib.hid ((any_in (la := lr) (l := r0)).1 hinr)
        clear hinr
        go_upto_region 21 with (fail)
        obtain ⟨wb, hwb⟩ : ∃ wb, wd.alloc (.cells #[.slice ag r0.length cg] 25) = wb := ⟨_, rfl⟩
        have HXb : Hid (Ext wd wb) := by rw [← hwb]; exact (Ext.refl wd).alloc _
        have HBx : Hid (wb.heap[wd.heap.size]? = some (.cells #[.slice ag r0.length cg] 25 (0, 0))) := by rw [← hwb]; exact World.alloc_heap_new wd _
        rw [hwb]
        clear hwb
        obtain ⟨f0, f1, f2, f3, f4⟩ := TBox.five5 ((HXd.out.trans HXb.out).block HB.out)
        have cb := (cell_at HBx.out 0).trans rfl
        simp only [List.getElem?_toArray, List.getElem?_cons_zero] at cb
        have HBk := Lib.hid (Breaks_z t ⟨ag, cg, r0⟩ x wb ((HT.out.at).ext (HXd.out.trans HXb.out)) HK.out (HG.out.ext HXb.out) HRr.out (HIx.out.ext (HXd.out.trans HXb.out)) HLo.out.1 HLo.out.2.1 HLo.out.2.2 HA0.out)
        go_wp2_with fail
        clear f0 f1 f2 f3 f4 cb
        refine HBk.out.mono ?_
        rintro e we ⟨ab, cb, rfl, hxe⟩
        have HXe : Hid (Ext v0 we) := HXd.out.trans (HXb.out.trans hxe)
        have HEe := Lib.hid (HEd.out.ext (HXb.out.trans hxe))
        have HBe : Hid (we.heap[wd.heap.size]? = some (.cells #[.slice ag r0.length cg] 25 (0, 0))) := hxe.block HBx.out
        have HGe : Hid (IsSl 1 num we ⟨ag, cg, r0⟩) := HG.out.ext (HXb.out.trans hxe)
        clear hxe HBk HBx HXb HXd HEd HG
        generalize wd.heap.size = B at *
        have HCon := Lib.hid (agreed1_in B ⟨ag, cg, r0⟩ ar cr lr we true HBe.out HGe.out (HRs.out.1.ext HXe.out) (fun r hr => (HRs.out.2 r hr).ext HXe.out) HAny.out)
        go_upto_region 24 with (go_at_call 14; refine (HCon.out 0).mono ?_; rintro e wf ⟨rfl, nf, rfl⟩)
        have hdr : Ext we (we.drewN nf) := (Ext.refl we).drewN nf
        have HXf : Hid (Ext v0 (we.drewN nf)) := HXe.out.trans hdr
        have HEf := Lib.hid (HEe.out.ext hdr)
        have HBf := Lib.hid (hdr.block HBe.out)
        have HGf := Lib.hid (HGe.out.ext hdr)
        clear hdr HXe HEe HBe HGe HCon
        generalize we.drewN nf = wf at *
        have hlr6 : lr.length ≤ 1000000 := HRs.out.1.2.1
        go_upto_block 4 with (fail)
        go_cut [] (fun wx => Hid (Ext wf wx))
        case first =>
          go_wp2_with fail
          go_loopw [154] (fun iv wr => ∃ j : Nat, j ≤ lr.length ∧ iv = .int .i64 (j : Int) ∧ Hid (Ext wf wr)) (fun iv _ => lr.length - (intOf iv).toNat)
          case atStart => exact ⟨0, Nat.zero_le _, rfl, Ext.refl _⟩
          case round =>
            obtain ⟨wy, rfl⟩ : ∃ wy : World, wy = wr := ⟨_, rfl⟩
            obtain ⟨j, hj, rfl, HXj⟩ := hrel
            by_cases hltj : j < lr.length
            · have dj : decide ((j : Int) < (lr.length : Int)) = true := by simpa using hltj
              obtain ⟨br, orr, hra, hrc⟩ := HRs.out.1.2.2.resolve_left (by show ¬ lr.length = 0; omega)
              dsimp only at hra hrc
              have cy : wy.cell? ⟨br, orr + j, none⟩ = some (.slice lr[j].a lr[j].l.length lr[j].c) := (HXf.out.trans HXj.out).cell (by have := hrc j hltj 0 (by omega); simpa [slC] using this)
              have HIr : Hid (IsSl 1 num v0 lr[j]) := HRs.out.2 _ (List.getElem_mem hltj)
              have hrin : lr[j].l ∈ hasR t := by rw [← HRm.out]; exact List.mem_map.2 ⟨_, List.getElem_mem hltj, rfl⟩
              have HRa : Hid (lr[j].l ∈ allR (cntR t)) := (List.mem_filter.1 hrin).1
              have cb := (cell_at (HXj.out.block HBf.out) 0).trans rfl
              simp only [List.getElem?_toArray, List.getElem?_cons_zero] at cb
              have HCmp := Lib.hid (compare_any lr[j] ⟨ag, cg, r0⟩ wy (HIr.out.ext (HXf.out.trans HXj.out)) (HGf.out.ext HXj.out))
              have HAh : Hid (cmpL lr[j].l r0 < 0 → agB t x.l lr[j].l = false) := fun h => first_ahead (sorted_allR _) HF.out HRa.out h
              clear hrc hrin
              generalize lr[j] = y at *
              have HRA := Lib.hid hra; clear hra
              rw [HRA.out]
              have j0 : (0 : Int) ≤ (j : Int) := by omega
              have j1 : (j : Int) < (lr.length : Int) := by omega
              dsimp only at HCmp
              generalize cmpL y.l r0 = z at *
              obtain ⟨f0, f1, f2, f3, f4⟩ := TBox.five5 ((HXf.out.trans HXj.out).block HB.out)
              by_cases hz0 : z < 0
              · have dz : decide ((0 : Int) ≤ z) = false := decide_eq_false (by omega)
                have HBk := Lib.hid (Breaks_p t y x wy ((HT.out.at).ext (HXf.out.trans HXj.out)) HK.out (HIr.out.ext (HXf.out.trans HXj.out)) (allR_rd HK.out HRa.out) (HIx.out.ext (HXf.out.trans HXj.out)) HLo.out.1 HLo.out.2.1 HLo.out.2.2 (HAh.out hz0))
                go_wp2_with (first
                  | (go_at_call 11; refine HCmp.out.mono ?_; rintro e w' ⟨rfl, rfl⟩)
                  | (go_at_call 13; refine HBk.out.mono ?_; rintro e w6 ⟨a3, c3, n3, rfl, hn1, hn2, hx3⟩; have HX3 : Hid (Ext wy w6) := hx3; have e3 : ((n3 : Int) == 0) = false := (by rw [beq_eq_false_iff_ne]; omega); clear hx3))
                go_roundw
                case rel => exact ⟨j + 1, by omega, by go_num, HXj.out.trans HX3.out⟩
                case measure => simp [intOf]; omega
              · have dz : decide ((0 : Int) ≤ z) = true := decide_eq_true (by omega)
                go_wp2_with (go_at_call 11; refine HCmp.out.mono ?_; rintro e w' ⟨rfl, rfl⟩)
                rw [← HRA.out]
                go_meet
                exact HXj
            · have dj : decide ((j : Int) < (lr.length : Int)) = false := decide_eq_false (by omega)
              go_wp2_with fail
              go_meet
              exact HXj
        case rest =>
          obtain ⟨wq, rfl⟩ : ∃ wq : World, wq = wc := ⟨_, rfl⟩
          have HXq : Hid (Ext wf wq) := hcut
          clear hcut
          have HX7 : Hid (Ext v0 wq) := HXf.out.trans HXq.out
          have HE7 := Lib.hid (HEf.out.ext HXq.out)
          clear HXq HXf HEf HBf HGf HF HR0 HA0 HRr HAny
          obtain ⟨bx, ox, hxa, -, hxc⟩ := num_cells HIx.out (by have := HLo.out.1; omega)
          have HXC := Lib.hid hxc; clear hxc
          have HXA := Lib.hid hxa; clear hxa
          rw [HXA.out]
          have hxl : x.l.length = t.legs.l.length + 1 := HLo.out.1
          have HXL := Lib.hid hxl; clear hxl
          rw [HXL.out]
          go_wp2_with fail
          go_loopw [179] (fun iv wr => ∃ j : Nat, j ≤ t.legs.l.length + 1 ∧ iv = .int .i64 (j : Int) ∧ Hid (EB wr v0.heap.size E (t.legs.l.length + 1) t.P (t.legs.l.length + 1) rb (mkJ la x.l k j)) ∧ Hid (Ext v0 wr)) (fun iv _ => t.legs.l.length + 1 - (intOf iv).toNat)
          case atStart => exact ⟨0, Nat.zero_le _, rfl, HE7.out.congr (fun i p _ _ => (mkJ_zero la x.l k i p).symm), HX7⟩
          case round =>
            obtain ⟨wy, rfl⟩ : ∃ wy : World, wy = wr := ⟨_, rfl⟩
            obtain ⟨j, hj, rfl, HEj, HXj⟩ := hrel
            by_cases hltj : j < t.legs.l.length + 1
            · have dj : decide ((j : Int) < (t.legs.l.length : Int) + 1) = true := decide_eq_true (by omega)
              have cy : wy.cell? ⟨bx, ox + j, none⟩ = some (.int .i64 (gt x.l j : Int)) := HXj.out.cell (HXC.out j (by rw [HXL.out]; exact hltj))
              have hyP := HGt.out j hltj
              have c0 : wy.cell? ⟨T, 0, none⟩ = some (.int .i64 (t.P : Int)) := (cell_at (HXj.out.block HB.out) 0).trans rfl
              have cE := HEj.out.cellE j hltj hltj
              have cM := HEj.out.cellM j (gt x.l j) hltj hyP
              have fM := HEj.out.frozenM j (gt x.l j) hltj
              have HEs := Lib.hid ((HEj.out.set j (gt x.l j) hltj hyP).congr (fun i p _ _ => mkJ_succ la x.l k j i p))
              have hrl := HEj.out.rlow j hltj
              generalize gt x.l j = y at *
              have j0 : (0 : Int) ≤ (j : Int) := by omega
              have j1 : (j : Int) < (t.legs.l.length : Int) + 1 := by omega
              have y0 : (0 : Int) ≤ (y : Int) := by omega
              have y1 : (y : Int) < (t.P : Int) := by omega
              have dy0 : decide ((y : Int) < 0) = false := decide_eq_false (by omega)
              have dy1 : decide ((t.P : Int) ≤ (y : Int)) = false := decide_eq_false (by omega)
              have dy2 : decide (t.P ≤ y) = false := decide_eq_false (by omega)
              go_wp2_with fail
              go_roundw
              case rel => exact ⟨j + 1, by omega, by go_num, HEs, HXj.out.setCell hrl _⟩
              case measure => simp [intOf]; omega
            · have dj : decide ((j : Int) < (t.legs.l.length : Int) + 1) = false := decide_eq_false (by omega)
              have hje : j = t.legs.l.length + 1 := by omega
              have HE9 : Hid (EB wy v0.heap.size E (t.legs.l.length + 1) t.P (t.legs.l.length + 1) rb (mk la (k + 1))) := HEj.out.congr (fun i p hi _ => by
                rw [HMs.out i p]
                unfold mkJ
                rw [decide_eq_true (show i < j by omega)]; simp)
              go_wp2_with fail
              go_roundw
              case rel => exact ⟨k + 1, by omega, by go_num, HE9, HXj⟩
              case measure => simp [intOf]; omega
    · have hke : k = la.length := by omega
      have dk : decide ((k : Int) < (la.length : Int)) = false := decide_eq_false (by omega)
      have HDo : Hid (IsDeck wo D a2 n2 c2 k2) := HD.out.ext HXk.out
      have hDl : D < v0.heap.size := HD.out.lt
      have HEo : Hid (EB wo (D + 1) E (t.legs.l.length + 1) t.P (t.legs.l.length + 1) rb (metR t (allR (cntR t)))) := by
        have h1 := HEk.out.congr (M' := metR t (allR (cntR t))) (fun i p hi _ => by rw [hke]; exact mk_all HK.out HAL.out i p hi)
        exact ⟨h1.hd, Nat.le_trans hDl h1.low, h1.row, fun i hi => Nat.le_trans hDl (h1.rlow i hi), h1.apart⟩
      have HTo : Hid (IsTo D wo t) := HT.out.dext ((DExt.refl D v0).ext HXk.out)
      have HBo : Hid (TBox wo T t) := HXk.out.block HB.out
      have HTbo : Hid (TblO (D + 1) wo aa ca la) := HTb.out.keep (D := fun _ => True) (Keep.of_ext HXk.out) (fun _ _ => trivial)
      have HByo : Hid (∀ b off, a2 = some ⟨b, off, none⟩ → 0 < n2 → b < wo.heap.size) := fun b off h1 h2 => Nat.lt_of_lt_of_le (HBy.out b off h1 h2) HXk.out.size
      have EO : Hid (Ext w wo) := EV.out.trans HXk.out
      clear HEk HXk
      repeat (first
        | exact agreed_tailG w wo T E D a2 n2 c2 k2 t aa ca la rb HK HTo HBo hTD HTbo HAL HEo HDo hk2 HByo hwD EO
        | go_step)
end Go.Proofs.YtopjjcgmcieboaaGreatDoor

namespace Go.Proofs.YtopjjcgmcieboaaGreatDoor
open Go.RowKit

noncomputable def tail9 : Code := ((Tryz.f3.body.bind (tailA 9)).getD .skip)

set_option maxRecDepth 1000000 in
set_option maxHeartbeats 8000000 in
theorem agreed_tailH {u0 u1 u2 u3 u4 u8 u10 u11 u12 u13 u14 u15 u16 u17 u18 u19 u20 u21 u22 u23 u24 u25 u26 u27 u28 u29 u30 u31 u32 u33 u34 u35 u36 u37 u38 u39 u40 u41 u42 u43 u44 u45 u46 u47 u48 u49 u50 u51 u52 u53 u54 u55 u56 u57 u58 u59 u60 u61 u62 u63 u64 u65 u66 u67 u68 u69 u70 u71 u72 u73 u74 u75 u76 u77 u78 u79 u80 u81 u82 u83 u84 u85 u86 u87 u88 u89 u90 u91 u92 u93 u94 u95 u96 u97 u98 u99 u100 u101 u102 u103 u104 u105 u106 u107 u108 u109 u110 u111 u112 u113 u114 u115 u116 u117 u118 u119 u120 u121 u122 u123 u124 u125 u126 u127 u128 u129 u130 u131 u132 u133 u134 u135 u136 u137 u138 u139 u140 u141 u142 u143 u144 u145 u146 u147 u148 u149 u150 u151 u152 u153 u154 u155 u156 u157 u158 u159 u160 u161 u162 u163 u164 u165 u166 u167 u168 u169 u170 u171 u172 u173 u174 u175 u176 u177 u178 u179 u180 u181 u182 u183 u184 u185 u186 u187 u188 u189 u190 u191 u192 u193 u194 u195 u196 u197 u198 u199 u200 u201 u202 u203 u204 u205 u206 u207 u208 u209 u210 u211 u212 u213 u214 u215 u216 u217 u218 u219 u220 u221 u222 u223 u224 u225 u226 u227 u228 u229 u230 u231 u232 u233 u234 u235 u236 u237 u238 u239 u240 u241 u242 u243 u244 u245 u246 u247 u248 u249 u250 u251 u252 u253 u254 u255 u256 u257 u258 u259 u260 u261 u262 u263 u264 u265 u266 u267 u268 u269 u270 u271 u272 u273 u274 u275 u276 u277 : Value} (w v : World) (T D : Nat) (a2 : Option Addr) (n2 c2 k2 : Nat) (t : TV) (aa ar : Option Addr) (ca cr : Nat) (la lr : List (SL Nat))
    (HK : Hid (OkT t)) (HT : Hid (IsTo D v t)) (HB : Hid (TBox v T t)) (hTD : T ≠ D) (HTb : Hid (TblO (D + 1) v aa ca la)) (HAL : Hid (AllL t (la.map fun r => r.l))) (hl200 : la.length ≤ 200)
    (HRs : Hid (IsSl 1 slC v ⟨ar, cr, lr⟩ ∧ ∀ r ∈ lr, IsSl 1 num v r)) (HRm : Hid (lr.map (fun r => r.l) = hasR t))
    (HD : Hid (IsDeck v D a2 n2 c2 k2)) (hk2 : k2 ≤ 1000) (HBy : Hid (∀ b off, a2 = some ⟨b, off, none⟩ → 0 < n2 → b < v.heap.size)) (hwD : w.heap.size ≤ D) (EV : Hid (Ext w v)) :
    Code.wp Tryz.prog tail9 (bodyPost Tryz.prog Tryz.f3 fun e w' => e = .returned (.bool true) ∧ Ext w w') ⟨#[u0, u1, u2, u3, u4, .pointer (some ⟨T, 0, none⟩), .pointer (some ⟨D, 0, none⟩), .slice aa la.length ca, u8, .slice ar lr.length cr, u10, u11, u12, u13, u14, u15, u16, u17, u18, u19, u20, u21, u22, u23, u24, u25, u26, u27, u28, u29, u30, u31, u32, u33, u34, u35, u36, u37, u38, u39, u40, u41, u42, u43, u44, u45, u46, u47, u48, u49, u50, u51, u52, u53, u54, u55, u56, u57, u58, u59, u60, u61, u62, u63, u64, u65, u66, u67, u68, u69, u70, u71, u72, u73, u74, u75, u76, u77, u78, u79, u80, u81, u82, u83, u84, u85, u86, u87, u88, u89, u90, u91, u92, u93, u94, u95, u96, u97, u98, u99, u100, u101, u102, u103, u104, u105, u106, u107, u108, u109, u110, u111, u112, u113, u114, u115, u116, u117, u118, u119, u120, u121, u122, u123, u124, u125, u126, u127, u128, u129, u130, u131, u132, u133, u134, u135, u136, u137, u138, u139, u140, u141, u142, u143, u144, u145, u146, u147, u148, u149, u150, u151, u152, u153, u154, u155, u156, u157, u158, u159, u160, u161, u162, u163, u164, u165, u166, u167, u168, u169, u170, u171, u172, u173, u174, u175, u176, u177, u178, u179, u180, u181, u182, u183, u184, u185, u186, u187, u188, u189, u190, u191, u192, u193, u194, u195, u196, u197, u198, u199, u200, u201, u202, u203, u204, u205, u206, u207, u208, u209, u210, u211, u212, u213, u214, u215, u216, u217, u218, u219, u220, u221, u222, u223, u224, u225, u226, u227, u228, u229, u230, u231, u232, u233, u234, u235, u236, u237, u238, u239, u240, u241, u242, u243, u244, u245, u246, u247, u248, u249, u250, u251, u252, u253, u254, u255, u256, u257, u258, u259, u260, u261, u262, u263, u264, u265, u266, u267, u268, u269, u270, u271, u272, u273, u274, u275, u276, u277], []⟩ v := by
  conv => arg 2; whnf
  have hN10 := HK.out.legs
  have hP12 := HK.out.p2
  obtain ⟨f0, f1, f2, f3, f4⟩ := TBox.five5 HB.out
  have hmk := run_make_row' (P := Tryz.prog) 37 38 (.slice none 0 0) 24 Tryz.underlying37 info38 rfl .i64 .i64 (t.legs.l.length + 1) (by omega) (by omega)
  rw [show (((t.legs.l.length + 1 : Nat)) : Int) = (t.legs.l.length : Int) + 1 by omega] at hmk
  have hmc : Hid (∀ i, i < t.legs.l.length + 1 → (madeCells #[Value.slice none 0 0] (t.legs.l.length + 1))[i]? = some (.slice none 0 0)) := fun i hi => by
    simp [madeCells, Nat.mod_one, hi]
  have hmsz := size_madeCells #[Value.slice none 0 0] (t.legs.l.length + 1)
  have HMsz := Lib.hid hmsz; clear hmsz
  generalize madeCells #[Value.slice none 0 0] (t.legs.l.length + 1) = mc at *
  have hmk2 := run_make_row' (P := Tryz.prog) 38 4 (.bool false) 1 Tryz.underlying38 info4b rfl .i64 .i64 t.P (by omega) (by omega)
  have hmc2 : Hid (∀ i, i < t.P → (madeCells #[Value.bool false] t.P)[i]? = some (.bool false)) := fun i hi => by
    simp [madeCells, Nat.mod_one, hi]
  have hmsz2 := size_madeCells #[Value.bool false] t.P
  have HMsz2 := Lib.hid hmsz2; clear hmsz2
  generalize madeCells #[Value.bool false] t.P = mc2 at *
  have n0 : (0 : Int) ≤ (t.legs.l.length : Int) := by omega
  have n10 : (t.legs.l.length : Int) ≤ 10 := by omega
  go_wp2_with fail
  clear f0 f1 f2 f3 f4 hmk
  have HE0 : Hid (EB (v.alloc (.cells mc 38)) v.heap.size v.heap.size (t.legs.l.length + 1) t.P 0 (fun _ => 0) (fun _ _ => false)) :=
    ⟨⟨mc, World.alloc_heap_new v _, HMsz.out.trans (by simp), fun i hi => by rw [hmc.out i hi]; simp⟩, Nat.le_refl _, fun i hi => by omega, fun i hi => by omega, fun i j hi => by omega⟩
  have HX0 : Hid (Ext v (v.alloc (.cells mc 38))) := (Ext.refl v).alloc _
  generalize v.alloc (.cells mc 38) = V at *
  go_loopw [84] (fun i wr => ∃ (k : Nat) (rb : Nat → Nat), k ≤ t.legs.l.length + 1 ∧ i = .int .i64 (k : Int) ∧ Hid (EB wr v.heap.size v.heap.size (t.legs.l.length + 1) t.P k rb (fun _ _ => false)) ∧ Hid (Ext v wr)) (fun i _ => t.legs.l.length + 1 - (intOf i).toNat)
  case atStart => exact ⟨0, fun _ => 0, Nat.zero_le _, rfl, HE0, HX0⟩
  case round =>
    obtain ⟨wo, rfl⟩ : ∃ wo : World, wo = wr := ⟨_, rfl⟩
    obtain ⟨k, rb, hk, rfl, HE, HX⟩ := hrel
    by_cases hlt : k < t.legs.l.length + 1
    · have dk : decide ((k : Int) < (t.legs.l.length : Int) + 1) = true := decide_eq_true (by omega)
      have c0 : wo.cell? ⟨T, 0, none⟩ = some (.int .i64 (t.P : Int)) := (cell_at (HX.out.block HB.out) 0).trans rfl
      have cE := (HE.out.ext ((Ext.refl wo).alloc (.cells mc2 4))).cellN k hlt (Nat.le_refl _)
      have fE := (HE.out.ext ((Ext.refl wo).alloc (.cells mc2 4))).frozenE k
      have k0 : (0 : Int) ≤ (k : Int) := by omega
      have k1 : (k : Int) < (t.legs.l.length : Int) + 1 := by omega
      have hvs : v.heap.size ≤ wo.heap.size := HX.out.size
      have HM := Lib.hid (HE.out.make (w1 := wo.alloc (.cells mc2 4)) (g := wo.heap.size) (mc := mc2) ((Ext.refl wo).alloc _) hlt (World.alloc_heap_new wo _) (Nat.le_refl _) hvs (HMsz2.out.trans (by simp)) hmc2.out)
      go_wp2_with fail
      go_roundw
      case rel => exact ⟨k + 1, _, by omega, by go_num, HM, (HX.out.alloc _).setCell (Nat.le_refl _) _⟩
      case measure => simp [intOf]; omega
    · have hke : k = t.legs.l.length + 1 := by omega
      have dk : decide ((k : Int) < (t.legs.l.length : Int) + 1) = false := decide_eq_false (by omega)
      subst hke
      repeat (first
        | exact agreed_tailM w v wo T v.heap.size D a2 n2 c2 k2 t aa ar ca cr la lr rb HK HT HB hTD HTb HAL hl200 HRs HRm HE HX HD hk2 HBy hwD EV
        | go_step)
end Go.Proofs.YtopjjcgmcieboaaGreatDoor

namespace Go.Proofs.YtopjjcgmcieboaaGreatDoor
open Go.RowKit

/-- What All returns: all lines in memory of their own, or the error where there are too many. -/
def AllN (t : TV) (w : World) (e : Ending) (w' : World) : Prop :=
  ∃ (a : Option Addr) (c : Nat) (l : List (SL Nat)) (er : Int), e = .returned (.tuple #[.slice a l.length c, .int .i64 er]) ∧ Hid (TblO w.heap.size w' a c l) ∧ Hid ((er = 0 ∧ AllL t (l.map fun r => r.l) ∧ (allD t).length ≤ 200) ∨ (er = 11 ∧ l = [] ∧ 200 < (allD t).length)) ∧ Ext w w'
theorem All_n (t : TV) (w : World) (ht : IsT w t) (hk : OkT t) : Calls Tryz.prog 8 #[t.v] w (AllN t w) := by
  refine (All_own t w ht hk).mono ?_
  rintro e w' ⟨a, c, rows, er, rfl, h1, h3, h4⟩
  refine ⟨a, c, rows, er, rfl, h1, ?_, h4⟩
  rcases h3 with ⟨rfl, h3⟩ | ⟨rfl, h3⟩
  · exact .inl ⟨rfl, h3⟩
  · exact .inr ⟨rfl, h3⟩
/-- What Readings returns. -/
def ReadsH (t : TV) (w : World) (e : Ending) (w' : World) : Prop :=
  ∃ (a : Option Addr) (c : Nat) (l : List (SL Nat)), e = .returned (.tuple #[.slice a l.length c, .int .i64 0]) ∧ Hid (IsSl 1 slC w' ⟨a, c, l⟩ ∧ ∀ r ∈ l, IsSl 1 num w' r) ∧ Hid (l.map (fun r => r.l) = hasR t) ∧ Ext w w'
theorem Reads_h (t : TV) (w : World) (ht : IsT w t) (hk : OkT t) : Calls Tryz.prog 9 #[t.v] w (ReadsH t w) := by
  refine (Readings_ok t w ht hk).mono ?_
  rintro e w' ⟨a, c, l, rfl, h1, h2, h3, h4⟩
  exact ⟨a, c, l, rfl, ⟨h1, h2⟩, h3, h4⟩

set_option maxRecDepth 1000000 in
set_option maxHeartbeats 8000000 in
theorem agreed_any (a1 a2 : Option Addr) (n1 c1 n2 c2 : Nat) (w : World) (h1 : IsBytes w a1 n1 c1) (h2 : IsBytes w a2 n2 c2) :
    Calls Tryz.prog 3 #[.slice a1 n1 c1, .slice a2 n2 c2] w fun e w' => e = .returned (.bool true) ∧ Ext w w' := by
  have H1 := Lib.hid h1; clear h1
  have H2 := Lib.hid h2; clear h2
  go_enter Tryz.func3, Tryz.ntmps3
  go_wp2_with fail
  refine (of_any a1 n1 c1 w H1.out).mono ?_
  rintro e w1 ⟨rfl, hd1, hx1⟩
  go_wp2_with fail
  have HX1 : Hid (Ext w w1) := hx1
  have HMd := made_any w.heap.size a1 n1 c1 0 5 w1 hd1 (bytes_lt (deck_bytes hd1)) (by omega) (by omega)
  clear hd1 hx1
  refine HMd.mono ?_
  clear HMd
  rintro e w2 ⟨t, k2, rfl, hT2, hK, hl5, hd2, hk2, hx2⟩
  have HK := Lib.hid hK
  have HT2 : Hid (IsT w2 t) := hT2.at
  have EW2 : Hid (Ext w w2) := ((Ext.refl w).trans HX1.out).dext hx2 (Nat.le_refl _)
  clear hT2 hK hd2 hk2 hx2 HX1
  go_upto_region 2 with (fail)
  obtain ⟨wb, hwb⟩ : ∃ wb, w2.alloc (.cells #[.int .i64 (t.P : Int), .slice t.ways.a t.ways.l.length t.ways.c, .slice t.words.a t.words.l.length t.words.c, .slice t.starts.a t.starts.l.length t.starts.c, .slice t.legs.a t.legs.l.length t.legs.c] 28) = wb := ⟨_, rfl⟩
  have HBb : Hid (TBox wb w2.heap.size t) := by rw [← hwb]; exact World.alloc_heap_new w2 _
  have HXb : Hid (Ext w2 wb) := by rw [← hwb]; exact (Ext.refl w2).alloc _
  rw [hwb]
  clear hwb
  go_wp2_with fail
  refine (of_any a2 n2 c2 wb (H2.out.ext (EW2.out.trans HXb.out))).mono ?_
  rintro e w3 ⟨rfl, hd3, hx3⟩
  have HX3 : Hid (Ext w2 w3) := HXb.out.trans hx3
  have HB3 : Hid (TBox w3 w2.heap.size t) := hx3.block HBb.out
  have HD3 := Lib.hid hd3
  have HTD : Hid (w2.heap.size < wb.heap.size) := (Array.getElem?_eq_some_iff.1 HBb.out).1
  have HDl : Hid (wb.heap.size < w3.heap.size) := hd3.lt
  have HBy3 : Hid (∀ b off, a2 = some ⟨b, off, none⟩ → 0 < n2 → b < w3.heap.size) := bytes_lt (deck_bytes hd3)
  clear hd3 hx3
  generalize hDD : wb.heap.size = D at *
  have HDD := Lib.hid hDD; clear hDD
  obtain ⟨f0, f1, f2, f3, f4⟩ := TBox.five5 HB3.out
  go_wp2_with fail
  clear f0 f1 f2 f3 f4
  refine (All_n t w3 (HT2.out.ext HX3.out) HK.out).mono ?_
  rintro e w4 ⟨aa, ca, la, ea, rfl, HTb, HCa, hx4⟩
  have HX4 : Hid (Ext w3 w4) := hx4
  clear hx4
  obtain ⟨f0, f1, f2, f3, f4⟩ := TBox.five5 (HX4.out.block HB3.out)
  go_wp2_with fail
  clear f0 f1 f2 f3 f4
  refine (Reads_h t w4 (HT2.out.ext (HX3.out.trans HX4.out)) HK.out).mono ?_
  rintro e w5 ⟨ar, cr, lr, rfl, HRs, HRm, hx5⟩
  have HX5 : Hid (Ext w3 w5) := HX4.out.trans hx5
  have HTb5 : Hid (TblO (D + 1) w5 aa ca la) := by
    obtain ⟨q1, q2, q3, q4⟩ := HTb.out.keep (D := fun _ => True) (Keep.of_ext hx5) (fun _ _ => trivial)
    have := HDl.out
    exact ⟨q1, q2, fun g hg => by have := q3 g hg; omega, fun r hr => ⟨(q4 r hr).1, (q4 r hr).2.1, fun g hg => by have := (q4 r hr).2.2 g hg; omega⟩⟩
  have HB5 : Hid (TBox w5 w2.heap.size t) := HX5.out.block HB3.out
  have HD5 : Hid (IsDeck w5 D a2 n2 c2 0) := HD3.out.ext HX5.out
  have HBy5 : Hid (∀ b off, a2 = some ⟨b, off, none⟩ → 0 < n2 → b < w5.heap.size) := fun b off h1 h2 => Nat.lt_of_lt_of_le (HBy3.out b off h1 h2) HX5.out.size
  have EW5 : Hid (Ext w w5) := EW2.out.trans (HX3.out.trans HX5.out)
  have HT5 : Hid (IsTo D w5 t) := fun w' h => HT2.out.ext ((HX3.out.trans HX5.out).dext h (by have := HTD.out; omega))
  have hrl : lr.length = (hasR t).length := by have := congrArg List.length HRm.out; simpa using this
  have hnone := hasR_none (t := t) HK.out.start.1
  have hwD : w.heap.size ≤ D := by have := EW2.out.size; have := HTD.out; omega
  have hTD : w2.heap.size ≠ D := by have := HTD.out; omega
  clear hx5 HTb HD3 HBy3
  rcases HCa.out with ⟨rfl, hal, h200⟩ | ⟨rfl, rfl, h200⟩
  · have hlal : la.length = (allD t).length := by have := hal.length; simpa using this
    have HAL := Lib.hid hal
    clear hal HCa
    have hl200 : la.length ≤ 200 := by omega
    by_cases h0 : la.length = 0
    · have hr0 : lr.length = 0 := by
        have h1 : allD t = [] := List.eq_nil_of_length_eq_zero (by omega)
        rw [hrl, hnone.2 h1]; rfl
      have e1 : ((la.length : Int) == 0) = true := by rw [h0]; rfl
      have e2 : ((lr.length : Int) == 0) = true := by rw [hr0]; rfl
      clear h0 hr0 hrl hlal hnone h200
      go_upto_region 7 with (fail)
      repeat ((fail_if_success (with_reducible show Code.wp Tryz.prog (Code.seq (Code.region 9 _ _) _) _ _ _)); go_step)
      exact agreed_tailH w w5 w2.heap.size D a2 n2 c2 0 t aa ar ca cr la lr HK HT5 HB5 hTD HTb5 HAL hl200 HRs HRm HD5 (by omega) HBy5 hwD EW5
    · have hr0 : ¬ lr.length = 0 := fun e => h0 (by
        have h1 : hasR t = [] := List.eq_nil_of_length_eq_zero (by omega)
        rw [hlal, hnone.1 h1]; rfl)
      have e1 : ((la.length : Int) == 0) = false := by rw [beq_eq_false_iff_ne]; omega
      have e2 : ((lr.length : Int) == 0) = false := by rw [beq_eq_false_iff_ne]; omega
      clear h0 hr0 hrl hlal hnone h200
      go_upto_region 7 with (fail)
      repeat ((fail_if_success (with_reducible show Code.wp Tryz.prog (Code.seq (Code.region 9 _ _) _) _ _ _)); go_step)
      exact agreed_tailH w w5 w2.heap.size D a2 n2 c2 0 t aa ar ca cr la lr HK HT5 HB5 hTD HTb5 HAL hl200 HRs HRm HD5 (by omega) HBy5 hwD EW5
  · have hr0 : 0 < lr.length := by
      rcases Nat.eq_zero_or_pos lr.length with e | e
      · exfalso
        have h1 : hasR t = [] := List.eq_nil_of_length_eq_zero (by omega)
        rw [hnone.1 h1] at h200
        simp at h200
      · exact e
    have d1 : decide ((0 : Int) < (lr.length : Int)) = true := decide_eq_true (by omega)
    have d2 : decide (0 < lr.length) = true := decide_eq_true hr0
    clear hrl hnone h200 HCa
    go_wp2_with (go_at_call 10; refine (awake_ok w5).mono ?_; rintro e v3 ⟨rfl, hx3⟩; have HX6 : Hid (Ext w5 v3) := hx3; clear hx3)
    go_ret
    exact ⟨rfl, EW5.out.trans HX6.out⟩
end Go.Proofs.YtopjjcgmcieboaaGreatDoor

namespace Go.Proofs.YtopjjcgmcieboaaGreatDoor.treatyAgreed
open Go.ChangeShapes Go.WideShapes Go.ChangeAt Go.RowKit
open Go.ChangeMaps (open_string shut_string)
set_option linter.unusedVariables false

theorem own : ownKnob Tryz.prog.godebug = none := by kernel_rfl
theorem laidOut : laidOutB Tryz.prog = true := by kernel_rfl

/-- A slice of integers that came in: it is nil, or it leads to a row of cap cells, the numbers zs, each of which fits its kind. -/
def IsRow (k : IntKind) (w : World) (a : Option Addr) (len cap : Nat) (zs : List Int) : Prop :=
  (a = none ∧ len = 0 ∧ cap = 0 ∧ zs = []) ∨
  ∃ x, a = some x ∧ len ≤ cap ∧ cap ≤ maxLen ∧ zs.length = cap ∧ (∀ i, i < zs.length → w.cell? (x.add i) = some (.int k (zs.getD i 0))) ∧ ∀ n ∈ zs, (Lit.int k n).wf = true

/-- Bytes that came in lie in memory as told. -/
theorem bytes_of {w : World} {a : Option Addr} {n c : Nat} {zs : List Int} (h : IsRow .u8 w a n c zs) (hn : n ≤ 140737488351232) : IsBytes w a n c := by
  rcases h with ⟨rfl, rfl, rfl, rfl⟩ | ⟨x, rfl, hl, hm, hz, hc, hw⟩
  · exact ⟨Nat.le_refl _, by omega, .inl rfl⟩
  · refine ⟨hl, hn, ?_⟩
    by_cases hn0 : n = 0
    · exact .inl hn0
    · right
      have h0 := hc 0 (by omega)
      obtain ⟨b, off, sp⟩ := x
      have hsp : sp = none := by
        cases sp with
        | none => rfl
        | some s =>
          exfalso
          unfold World.cell? at h0
          split at h0
          · simp [Addr.add] at h0
          · cases h0
      subst hsp
      refine ⟨b, off, rfl, fun i hi => ?_⟩
      have h1 := hc i (by omega)
      rw [Addr.add_lit] at h1
      have h2 := hw (zs.getD i 0) (by rw [List.getD_eq_getElem?_getD, List.getElem?_eq_getElem (show i < zs.length by omega)]; exact List.getElem_mem _)
      have h3 : 0 ≤ zs.getD i 0 ∧ zs.getD i 0 < 256 := by
        have h4 : IntKind.u8.min = 0 := by kernel_rfl
        have h5 : IntKind.u8.max = 255 := by kernel_rfl
        generalize zs.getD i 0 = z at h2 ⊢
        simp [Lit.wf, h4, h5] at h2
        omega
      exact ⟨(zs.getD i 0).toNat, by omega, by rw [h1, Int.toNat_of_nonneg h3.1]⟩

theorem cells5 : Tryz.prog.bytesOf 5 = 1 := by kernel_rfl

theorem walk (a0 : Option Addr) (len0 cap0 : Nat) (z0 : List Int) (a1 : Option Addr) (len1 cap1 : Nat) (z1 : List Int) (w : World) (w0 : IsRow .u8 w a0 len0 cap0 z0) (n0 : len0 ≤ 140737488351232) (w1 : IsRow .u8 w a1 len1 cap1 z1) (n1 : len1 ≤ 140737488351232) :
    Calls Tryz.prog 3 #[.slice a0 len0 cap0, .slice a1 len1 cap1] w fun e w' => e = .returned (.bool true) ∧ Below w.heap.size w w' := by
  exact agreed_any a0 a1 len0 cap0 len1 cap1 w (bytes_of w0 n0) (bytes_of w1 n1)

def laid3 {H : Type} : List (String × DataW H) := [("math/bits.deBruijn32tab", Rows.laid_math_bits_deBruijn32tab), ("math/bits.deBruijn64tab", Rows.laid_math_bits_deBruijn64tab), ("internal/strconv.uint64pow10", Rows.laid_internal_strconv_uint64pow10)]

/-- The door's own heap meets the condition. -/
theorem door_met (os : Os) (args : Array Value) : laidMetH Tryz.prog laid3 ((World.doorLaid Tryz.prog 4000 os).forCall (fun _ _ => 0) ⟨#[], args, []⟩).memory :=
  laidMetH_of_parts3 (fuel := 8) (laidMet_of_run' 8 (by kernel_rfl) (by kernel_rfl)) (by kernel_rfl) (by kernel_rfl)

set_option maxRecDepth 100000 in
theorem lifted (os : Os) (started : os.Started) (H : Type) (enc : TypeId × Value → H) :
    ReturnsInHanded {} Tryz.checked os 3 .any (fun w args => (Rows.treatyAgreedSpec.pre enc Tryz.prog Tryz.f3 [] false w args ∧ laidMetH Tryz.prog laid3 w) ∧ sizedMet enc Tryz.prog Tryz.f3 (OpenSpec.ofChange Rows.treatyAgreedSpec) false w args)
      (Rows.treatyAgreedSpec.post enc Tryz.prog Tryz.f3 false true false false) := by
  refine returnsInHanded_of_change_and (C := Tryz.checked) (X := fun w _ => laidMetH Tryz.prog laid3 w) (fun _ _ _ hh h => h.of_heap hh) own started (by kernel_rfl) Tryz.func3
    (ChangeSpec.witness_shaped (enc := enc) (C := Tryz.checked) (os := os) (X := fun w _ => laidMetH Tryz.prog laid3 w) false (World.doorLaid Tryz.prog 4000 os) #[.slice none 0 0, .slice none 0 0] 8 rfl (World.shaped_of_RefB (by kernel_rfl) (by kernel_rfl)) (by kernel_rfl) (by kernel_rfl) (by kernel_rfl) (door_met os _)) ?_
  intro W base args ds gs before hval0 hW hcnd hsz0 hL _
  have hsz : (DataW.weightsEach Tryz.prog (Tryz.f3.params.toList ++ Rows.treatyAgreedSpec.plain.varTypes Tryz.prog) (ds ++ gs)).all (· ≤ reachBytes) = true := hsz0
  clear hsz0
  have hval : ∀ (j : Nat) t v, Tryz.f3.params[j]? = some t → args[j]? = some v → Value.okWide Tryz.prog W .any base t v := hval0
  have hW' := hW
  obtain ⟨p, q, hA0, hV, rfl, hfz, hnd⟩ := hW
  have hA : DataW.TrodAll enc Tryz.prog W 0 (fun _ => true) true Tryz.f3.params.toList args.toList ds p := hA0
  rw [Tryz.params3] at hA hval hsz
  obtain ⟨v0, vs0, d0, ds0, p0, q0, hargs, rfl, rfl, h0, r0⟩ := trodAll_cons hA
  obtain ⟨v1, vs1, d1, ds1, p1, q1, rfl, rfl, rfl, h1, r1⟩ := trodAll_cons r0
  obtain ⟨rfl, rfl, rfl⟩ := trodAll_nil r1
  obtain rfl : args = #[v0, v1] := by cases args; simp_all
  obtain ⟨rfl, rfl⟩ := trodVars_none hV
  obtain ⟨a0, len0, cap0, rfl⟩ := okWide_slice Tryz.underlying22 (hval 0 22 v0 rfl rfl)
  obtain ⟨a1, len1, cap1, rfl⟩ := okWide_slice Tryz.underlying22 (hval 1 22 v1 rfl rfl)
  have k0 := h0
  have lt0 : ∀ x ∈ p0, x.block < W.heap.size := by obtain ⟨m, hm⟩ := k0; exact DataW.trod_lt m _ _ _ hm
  obtain ⟨z0, w0, n0⟩ : ∃ zs, IsRow .u8 W a0 len0 cap0 zs ∧ len0 ≤ 140737488351232 := by
    obtain ⟨fuel, hf⟩ := h0
    rcases open_ints Tryz.underlying22 Tryz.underlying5 (by kernel_rfl) hf with ⟨hcs, _⟩ | ⟨x, l, c, zs, hcs, _, hl, hm, hz, hx, hcell, hwz⟩
    · simp [Value.cells] at hcs
      obtain ⟨rfl, rfl, rfl⟩ := hcs
      exact ⟨[], .inl ⟨rfl, rfl, rfl, rfl⟩, Nat.zero_le _⟩
    · simp [Value.cells] at hcs
      obtain ⟨rfl, rfl, rfl⟩ := hcs
      simp only [Prod.mk.injEq] at hx
      have hr := sized_slice hsz (j := 0) (t := 22) (e := 5) rfl (by rw [hx.1]; rfl) Tryz.underlying22
      rw [cells5] at hr
      simp only [lits, List.length_map, List.length_take, List.length_drop] at hr
      simp only [if_true] at hz
      have hb : reachBytes = 140737488351232 := rfl
      exact ⟨zs, .inr ⟨_, rfl, hl, hm, hz, hcell, hwz⟩, by omega⟩
  have k1 := h1
  have lt1 : ∀ x ∈ p1, x.block < W.heap.size := by obtain ⟨m, hm⟩ := k1; exact DataW.trod_lt m _ _ _ hm
  obtain ⟨z1, w1, n1⟩ : ∃ zs, IsRow .u8 W a1 len1 cap1 zs ∧ len1 ≤ 140737488351232 := by
    obtain ⟨fuel, hf⟩ := h1
    rcases open_ints Tryz.underlying22 Tryz.underlying5 (by kernel_rfl) hf with ⟨hcs, _⟩ | ⟨x, l, c, zs, hcs, _, hl, hm, hz, hx, hcell, hwz⟩
    · simp [Value.cells] at hcs
      obtain ⟨rfl, rfl, rfl⟩ := hcs
      exact ⟨[], .inl ⟨rfl, rfl, rfl, rfl⟩, Nat.zero_le _⟩
    · simp [Value.cells] at hcs
      obtain ⟨rfl, rfl, rfl⟩ := hcs
      simp only [Prod.mk.injEq] at hx
      have hr := sized_slice hsz (j := 1) (t := 22) (e := 5) rfl (by rw [hx.1]; rfl) Tryz.underlying22
      rw [cells5] at hr
      simp only [lits, List.length_map, List.length_take, List.length_drop] at hr
      simp only [if_true] at hz
      have hb : reachBytes = 140737488351232 := rfl
      exact ⟨zs, .inr ⟨_, rfl, hl, hm, hz, hcell, hwz⟩, by omega⟩
  clear hA0 hval0
  refine (walk a0 len0 cap0 z0 a1 len1 cap1 z1 W w0 n0 w1 n1).mono fun e W' ⟨he, bel⟩ => ?_
  subst he
  exact ⟨_, rfl, _, _, _, [], _, [], hW', trodAll_mk1 (shut_bool Tryz.underlying4 _), (trodAll_cons_mk (Below.trod laidOut (by kernel_rfl) (of_decide_eq_true (by kernel_rfl)) k0 bel lt0) (trodAll_cons_mk (Below.trod laidOut (by kernel_rfl) (of_decide_eq_true (by kernel_rfl)) k1 bel lt1) trodAll_mk0)), rfl, bel.frame _, fun h => by cases h⟩

theorem over : Rows.treatyAgreedRow.holds Tryz.pinned (OpenSpec.ofChange Rows.treatyAgreedSpec) :=
  OpenClaim.holds_of_wide 3 Tryz.f3 rfl rfl rfl rfl rfl rfl rfl ⟨rfl, rfl, rfl, rfl, rfl⟩ rfl rfl rfl rfl rfl (by kernel_rfl) Tryz.func3 (by kernel_rfl)
    (of_decide_eq_true (by kernel_rfl)) (by unfold Func.isWrapper; first | (rw [if_pos (by decide +kernel)]; kernel_rfl) | (rw [if_neg (by decide +kernel)]; exact ⟨rfl, rfl⟩))
    (fun os started H enc _ => lifted os started H enc)

/-- The statement: the card. -/
theorem proved : Rows.TreatyAgreedCardSaid :=
  Claim7.holds_tied_plain_at .later [] [.data, .data, .data] true (true, "675616953653c96e79d33d017fbd5d78d0e19dbd499f3e1abc353706bf1d378f") false
    over (fun _ h => by cases h) (by kernel_rfl) (fun _ h => by cases h) treatyAgreed_row_tie rfl ⟨rfl, rfl⟩ (by kernel_rfl) rfl
    (fun f fn hf hfn => by
      obtain rfl : f = 3 := Option.some.inj ((show Tryz.prog.funcNamed "limitrophe/limitrophelaw01.TreatyAgreed" = some 3 by kernel_rfl).symm.trans hf) |>.symm
      obtain rfl : fn = Tryz.f3 := (Option.some.inj (Tryz.func3.symm.trans hfn)).symm
      exact ⟨by kernel_rfl, fun j t ht => by
        rw [Tryz.params3] at ht
        have h3 : t = 22 := by
          rcases j with _ | _ | j
          · simpa using ht.symm
          · simpa using ht.symm
          · simp at ht
        subst h3
        exact (show Tryz.prog.wantsStandIn 22 = false by kernel_rfl)⟩)
    (by kernel_rfl)
#print axioms proved
end Go.Proofs.YtopjjcgmcieboaaGreatDoor.treatyAgreed
