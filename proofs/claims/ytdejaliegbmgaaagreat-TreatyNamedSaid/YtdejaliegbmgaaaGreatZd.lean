/-
  A region that draws its order, whose last store hits a cell that the region loads: loads may be taken first as long as only that store, which waits for them, turns what they read. Nothing is claimed of the program here.
  TreatyNamed's walk from where it asks for all lines: it answers true, and turns nothing that was there. Both treaties, the readings, the line and the new numbers must lie in memory as told.
  TreatyNamed's walk from where it gives legs their new numbers: it answers true, and turns nothing that was there. The treaty, the readings, the line and the new numbers must lie in memory as told.
-/
import Derived.Deep.RegionHeld3
import Derived.Test.YtdejaliegbmgaaaGreatZb
import Derived.Test.YtdejaliegbmgaaaGreatZc
import Derived.Test.YtdejaliegbmgaaaGreatZa
import Derived.Test.YtdejaliegbmgaaaGreatIe
import Derived.Test.YtdejaliegbmgaaaGreatIj
import Derived.Test.YtdejaliegbmgaaaGreatJe
import Derived.Test.YtdejaliegbmgaaaGreatJb
import Derived.Deep.CutBlock
import Derived.Test.YtdejaliegbmgaaaGreatJl
import Derived.RegionTactic
namespace Go.Proofs.YtdejaliegbmgaaaGreat

section
variable {P : Program} {ops : Array Oper} {Q : Exit → Act → World → Prop} {md : Region.Mode} {S : World → Prop} {f : Nat}

/-- Whatever order is picked from here on, and S holds behind every operation that is carried out, but for the last one, f. -/
def wpAnyF (P : Program) (md : Region.Mode) (ops : Array Oper) (Q : Exit → Act → World → Prop) (S : World → Prop) (f : Nat) : Nat → Array Bool → Act → World → Prop
  | 0, listed, a, w => Region.ready md ops listed = [] ∧ Q .normal a w
  | fuel + 1, listed, a, w =>
    (Region.ready md ops listed = [] → Q .normal a w) ∧
    ∀ i ∈ Region.ready md ops listed, wpOp P ops Q i (fun a' w' => (i ≠ f → S w') ∧ wpAnyF P md ops Q S f fuel (listed.setIfInBounds i true) a' w') a w

theorem wpAny_of_last : ∀ (fuel : Nat) (listed : Array Bool) (a : Act) (w : World), wpAnyF P md ops Q S f fuel listed a w → wpAny P md ops Q fuel listed a w
  | 0, _, _, _, h => h
  | fuel + 1, _, _, _, h => ⟨h.1, fun i hi => wpOp_mono (fun a' w' h' => wpAny_of_last fuel _ a' w' h'.2) (h.2 i hi)⟩

/-- Does operation f wait for operation i? -/
def waitsB (md : Region.Mode) (ops : Array Oper) (f i : Nat) : Bool := match ops[f]? with
  | none => true
  | some o => o.after.any fun e => Region.binds md e && decide (e.on = i)
theorem waits_spec {i : Nat} {o : Oper} (h : waitsB md ops f i = true) (ho : ops[f]? = some o) : ∃ e ∈ o.after, Region.binds md e = true ∧ e.on = i := by
  unfold waitsB at h
  rw [ho] at h
  simp only [Array.any_eq_true] at h
  obtain ⟨k, hk, h⟩ := h
  simp only [Bool.and_eq_true, decide_eq_true_eq] at h
  exact ⟨_, Array.getElem_mem hk, h.1, h.2⟩

theorem wpAnyF_first {i : Nat} {oi : Oper} {v : Value} (hi : ops[i]? = some oi) (hsel : ∀ (j : Nat) (o : Oper) cs b, ops[j]? = some o → o.op ≠ .select cs b)
    (hQ : ∀ c a w, Q (.panic c) (a.put oi.dst v) w → Q (.panic c) a w) (hwait : waitsB md ops f i = true) :
    ∀ (fuel : Nat) (listed : Array Bool) (a : Act) (w : World),
      (∀ j oj, ops[j]? = some oj → j ≠ i → listed.getD j true = false → (∀ e ∈ oj.after, Region.binds md e = true → e.on ≠ i) → oi.apart ops oj = true) →
      i ∈ Region.ready md ops listed → YieldsIf P ops S oi v a → S w →
      wpAnyF P md ops Q S f fuel (listed.setIfInBounds i true) (a.put oi.dst v) w → wpAnyF P md ops Q S f (fuel + 1) listed a w := by
  intro fuel
  induction fuel with
  | zero =>
    intro listed a w _ hr hy hS H
    refine ⟨fun h => (by rw [h] at hr; cases hr), fun j hj => ?_⟩
    by_cases hji : j = i
    · subst hji; exact hy.wpOp hi hS ⟨fun _ => hS, H⟩
    · have := ready_mono hj hji
      rw [H.1] at this
      cases this
  | succ fuel ih =>
    intro listed a w hfree hr hy hS H
    refine ⟨fun h => (by rw [h] at hr; cases hr), fun j hj => ?_⟩
    by_cases hji : j = i
    · subst hji; exact hy.wpOp hi hS ⟨fun _ => hS, H⟩
    · have h1 := H.2 j (ready_mono hj hji)
      obtain ⟨hjun, oj, hoj, hall⟩ := mem_ready.1 hj
      have hnot : ∀ e ∈ oj.after, Region.binds md e = true → e.on ≠ i := fun e he hb heq => by
        have h1 := hall e he hb
        have h0 := (mem_ready.1 hr).1
        rw [heq] at h1
        rcases Nat.lt_or_ge i listed.size with h' | h'
        · simp [h'] at h0 h1; rw [h0] at h1; cases h1
        · simp [Array.getElem?_eq_none h'] at h1
      have hjf : j ≠ f := fun e => by
        subst e
        obtain ⟨e, he, hb, heq⟩ := waits_spec hwait hoj
        exact hnot e he hb heq
      have h2 := wpOp_putIf hoj (hfree j oj hoj hji hjun hnot) (fun cs b => hsel i oi cs b hi) (fun cs b => hsel j oj cs b hoj) hQ hy h1
      have hfree' : ∀ k ok, ops[k]? = some ok → k ≠ i → (listed.setIfInBounds j true).getD k true = false →
          (∀ e ∈ ok.after, Region.binds md e = true → e.on ≠ i) → oi.apart ops ok = true := fun k ok hk hki hun hno => by
        refine hfree k ok hk hki ?_ hno
        by_cases hjk : j = k
        · subst hjk; exact hjun
        · rw [getD_set_ne true hjk] at hun; exact hun
      refine wpOp_mono (fun a' w' h3 => ⟨fun _ => h3.2.1 hjf, ih (listed.setIfInBounds j true) a' w' hfree' (ready_mono hr (Ne.symm hji)) h3.1 (h3.2.1 hjf) ?_⟩) h2
      rw [Array.setIfInBounds_comm _ _ hji]
      exact h3.2.2

theorem wpAnyF_take {i : Nat} {oi : Oper} {v : Value} {fuel : Nat} {listed : Array Bool} {a : Act} {w : World} (hi : ops[i]? = some oi)
    (hs : Region.noSelect ops = true) (hf : Region.free md ops listed i = true) (hr : (Region.ready md ops listed).contains i = true) (hwait : waitsB md ops f i = true)
    (hQ : ∀ c a w, Q (.panic c) (a.put oi.dst v) w → Q (.panic c) a w) (hy : YieldsIf P ops S oi v a) (hS : S w)
    (h : wpAnyF P md ops Q S f fuel (listed.setIfInBounds i true) (a.put oi.dst v) w) : wpAnyF P md ops Q S f (fuel + 1) listed a w :=
  wpAnyF_first hi (Region.noSelect_spec hs) hQ hwait fuel listed a w (Region.free_spec hi hf) (by simpa using hr) hy hS h

/-- All that may come up do so. -/
def AllReadyF (P : Program) (md : Region.Mode) (ops : Array Oper) (Q : Exit → Act → World → Prop) (S : World → Prop) (f fuel : Nat) (listed : Array Bool) (a : Act) (w : World) (rs : List Nat) : Prop :=
  ∀ i ∈ rs, wpOp P ops Q i (fun a' w' => (i ≠ f → S w') ∧ wpAnyF P md ops Q S f fuel (listed.setIfInBounds i true) a' w') a w
theorem AllReadyF.nil {fuel : Nat} {listed : Array Bool} {a : Act} {w : World} : AllReadyF P md ops Q S f fuel listed a w [] := fun _ h => by cases h
theorem AllReadyF.cons {fuel : Nat} {listed : Array Bool} {a : Act} {w : World} {i : Nat} {o : Oper} {rs : List Nat} (ho : ops[i]? = some o)
    (h : ∀ K' : Act → World → Prop, Shut (∀ a w, S w → (S w → wpAnyF P md ops Q S f fuel (listed.setIfInBounds i true) a w) → K' a w) → if Region.wanted o (Go.yielded ops a.tmps) = true then Oper.wp P o a w K' Q else K' (a.put o.dst undef) w)
    (hs : AllReadyF P md ops Q S f fuel listed a w rs) : AllReadyF P md ops Q S f fuel listed a w (i :: rs) := fun j hj => by
  rcases List.mem_cons.1 hj with rfl | hj
  · exact wpOp_step ho (fun K' hK => h K' (fun a w hS hW => hK a w ⟨fun _ => hS, hW hS⟩))
  · exact hs j hj
theorem wpAnyF_ready {rs : List Nat} {fuel : Nat} {listed : Array Bool} {a : Act} {w : World} (hr : Region.ready md ops listed = rs) (hne : rs ≠ [])
    (h : AllReadyF P md ops Q S f fuel listed a w rs) : wpAnyF P md ops Q S f (fuel + 1) listed a w := ⟨fun h0 => absurd (hr ▸ h0) hne, hr ▸ h⟩
theorem wpAnyF_last {listed : Array Bool} {o : Oper} {fuel : Nat} {a : Act} {w : World} (hr : Region.ready md ops listed = [f]) (ho : ops[f]? = some o) (hd : Region.ready md ops (listed.setIfInBounds f true) = [])
    (h : ∀ K' : Act → World → Prop, Shut (∀ a w, Q .normal a w → K' a w) → if Region.wanted o (Go.yielded ops a.tmps) = true then Oper.wp P o a w K' Q else K' (a.put o.dst undef) w) : wpAnyF P md ops Q S f (fuel + 1) listed a w := by
  refine ⟨(fun h0 => by rw [hr] at h0; cases h0), ?_⟩
  intro j hj
  rw [hr, List.mem_singleton] at hj
  subst hj
  refine wpOp_step ho (fun K' hK => h K' (fun a w hq => hK a w ⟨fun e => absurd rfl e, ?_⟩))
  cases fuel with
  | zero => exact ⟨hd, hq⟩
  | succ n => exact ⟨fun _ => hq, by rw [hd]; simp⟩
theorem wp_region_last {id : Nat} {a : Act} {w : World} (f : Nat) (S : World → Prop) (hm : P.follows .mixedOrders = true) (hS : S w.drew)
    (h : S w.drew → wpAnyF P .any ops Q S f ops.size (Array.replicate ops.size false) a w.drew) : (Code.region id ops true).wp P Q a w :=
  wp_region_any hm (wpAny_of_last _ _ _ _ (h hS))
end
end Go.Proofs.YtdejaliegbmgaaaGreat

namespace Go.Proofs.YtdejaliegbmgaaaGreat
open Go.RowKit

/-- What Lines returns: all lines, or the error where there are too many. -/
def LinesH (t : TV) (r : List Nat) (w : World) (e : Ending) (w' : World) : Prop :=
  ∃ (a : Option Addr) (c : Nat) (l : List (SL Nat)) (er : Int), e = .returned (.tuple #[.slice a l.length c, .int .i64 er]) ∧ Hid (IsTbl w' ⟨a, c, l⟩) ∧ ((er = 0 ∧ l.map (fun r => r.l) = linesR t (leadsOf t r) ∧ (linesR t (leadsOf t r)).length ≤ 200) ∨ (er = 11 ∧ l = [] ∧ 200 < (linesR t (leadsOf t r)).length)) ∧ Ext w w'
theorem Lines_h (t : TV) (r : SL Nat) (w : World) (ht : IsT w t) (hk : OkT t) (hr : IsSl 1 num w r) (hR : RdOk t r.l) : Calls Tryz.prog 16 #[t.v, .slice r.a r.l.length r.c] w (LinesH t r.l w) := by
  refine (Lines_any t r w ht hk hr hR).mono ?_
  rintro e w' ⟨⟨h1, a, c, rows, rfl, h2, h3, h4⟩ | ⟨h1, rfl⟩, hx⟩
  · exact ⟨a, c, rows, 0, rfl, ⟨h2, h3⟩, .inl ⟨rfl, h4, h1⟩, hx⟩
  · exact ⟨none, 0, [], 11, rfl, ⟨⟨Nat.le_refl _, by simp, .inl rfl⟩, fun r hr => by simp at hr⟩, .inr ⟨rfl, rfl, h1⟩, hx⟩

/-- The code from region n on. -/
def tailN (n : Nat) : Code → Option Code
  | .seq (.region k o d) b => if k = n then some (.seq (.region k o d) b) else tailN n b
  | .seq (.seq (.region k o d) c) b => if k = n then some (.seq (.seq (.region k o d) c) b) else tailN n b
  | .seq _ b => tailN n b
  | .block _ c => tailN n c
  | .scope c => tailN n c
  | _ => none
/-- TreatyNamed from where it asks for all lines. -/
noncomputable def tailE : Code := ((Tryz.f7.body.bind (tailN 33)).getD .skip)

set_option maxRecDepth 1000000 in
set_option maxHeartbeats 8000000 in
theorem named_tailE {u0 u1 u2 u3 u4 u5 u9 u11 u12 u14 u17 u18 u19 u20 u21 u22 u23 u24 u25 u26 u27 u28 u29 u30 u31 u32 u33 u34 u35 u36 u37 u38 u39 u40 u41 u42 u43 u44 u45 u46 u47 u48 u49 u50 u51 u52 u53 u54 u55 u56 u57 u58 u59 u60 u61 u62 u63 u64 u65 u66 u67 u68 u69 u70 u71 u72 u73 u74 u75 u76 u77 u78 u79 u80 u81 u82 u83 u84 u85 u86 u87 u88 u89 u90 u91 u92 u93 u94 u95 u96 u97 u98 u99 u100 u101 u102 u103 u104 u105 u106 u107 u108 u109 u110 u111 u112 u113 u114 u115 u116 u117 u118 u119 u120 u121 u122 u123 u124 u125 u126 u127 u128 u129 u130 u131 u132 u133 u134 u135 u136 u137 u138 u139 u140 u141 u142 u143 u144 u145 u146 u147 u148 u149 u150 u151 u152 u153 u154 u155 u156 u157 u158 u159 u160 u161 u162 u163 u164 u165 u166 u167 u168 u169 u170 u171 u172 u173 u174 u175 u176 u177 u178 u179 u180 u181 u182 u183 u184 u185 u186 u187 u188 u189 u190 u191 u192 u193 u194 u195 u196 u197 u198 u199 u200 u201 u202 u203 u204 u205 u206 u207 u208 u209 u210 u211 u212 u213 u214 u215 u216 u217 u218 u219 u220 u221 u222 u223 u224 u225 u226 u227 u228 u229 u230 u231 u232 u233 u234 u235 u236 u237 u238 u239 u240 u241 u242 u243 u244 u245 u246 u247 u248 u249 u250 u251 u252 u253 u254 u255 u256 u257 u258 u259 u260 u261 u262 u263 u264 u265 u266 u267 u268 u269 u270 u271 u272 u273 u274 u275 u276 u277 u278 u279 u280 u281 u282 u283 u284 u285 u286 u287 u288 u289 u290 u291 u292 u293 : Value} (w wo : World) (T O : Nat) (t o : TV) (ar al ap aq : Option Addr) (cr cl cp cq : Nat) (lr ll lp lq : List Nat) (pi kd ki wd wi : Nat → Nat) (hln : t.legs.l.length ≤ 10)
    (HK : Hid (OkT t)) (HKo : Hid (OkT o)) (HN : Hid (Ren t o (gt lp) pi kd ki wd wi)) (HR : Hid (RdOk t lr)) (HRR : Hid (RenR t wd lr lq)) (hpl : lp.length = t.P) (hll : ll.length = t.legs.l.length + 1) (HLP : Hid (∀ x ∈ ll, x < t.P)) (HL0 : Hid ((ll[0]?).getD 0 ∈ t.starts.l))
    (HTt : Hid (IsT wo t)) (HTo : Hid (IsT wo o)) (HBt : Hid (TBox wo T t)) (HBo : Hid (TBox wo O o)) (HSr : Hid (IsSl 1 num wo ⟨ar, cr, lr⟩)) (HSl : Hid (IsSl 1 num wo ⟨al, cl, ll⟩)) (HSp : Hid (IsSl 1 num wo ⟨ap, cp, lp⟩)) (HSq : Hid (IsSl 1 num wo ⟨aq, cq, lq⟩)) (EWo : Hid (Ext w wo)) :
    Code.wp Tryz.prog tailE (bodyPost Tryz.prog Tryz.f7 fun e w' => e = .returned (.bool true) ∧ Ext w w') ⟨#[u0, u1, u2, u3, u4, u5, .pointer (some ⟨T, 0, none⟩), .slice ar lr.length cr, .slice al ll.length cl, u9, .slice ap lp.length cp, u11, u12, .func (.func 45) #[] #[], u14, .pointer (some ⟨O, 0, none⟩), .slice aq lq.length cq, u17, u18, u19, u20, u21, u22, u23, u24, u25, u26, u27, u28, u29, u30, u31, u32, u33, u34, u35, u36, u37, u38, u39, u40, u41, u42, u43, u44, u45, u46, u47, u48, u49, u50, u51, u52, u53, u54, u55, u56, u57, u58, u59, u60, u61, u62, u63, u64, u65, u66, u67, u68, u69, u70, u71, u72, u73, u74, u75, u76, u77, u78, u79, u80, u81, u82, u83, u84, u85, u86, u87, u88, u89, u90, u91, u92, u93, u94, u95, u96, u97, u98, u99, u100, u101, u102, u103, u104, u105, u106, u107, u108, u109, u110, u111, u112, u113, u114, u115, u116, u117, u118, u119, u120, u121, u122, u123, u124, u125, u126, u127, u128, u129, u130, u131, u132, u133, u134, u135, u136, u137, u138, u139, u140, u141, u142, u143, u144, u145, u146, u147, u148, u149, u150, u151, u152, u153, u154, u155, u156, u157, u158, u159, u160, u161, u162, u163, u164, u165, u166, u167, u168, u169, u170, u171, u172, u173, u174, u175, u176, u177, u178, u179, u180, u181, u182, u183, u184, u185, u186, u187, u188, u189, u190, u191, u192, u193, u194, u195, u196, u197, u198, u199, u200, u201, u202, u203, u204, u205, u206, u207, u208, u209, u210, u211, u212, u213, u214, u215, u216, u217, u218, u219, u220, u221, u222, u223, u224, u225, u226, u227, u228, u229, u230, u231, u232, u233, u234, u235, u236, u237, u238, u239, u240, u241, u242, u243, u244, u245, u246, u247, u248, u249, u250, u251, u252, u253, u254, u255, u256, u257, u258, u259, u260, u261, u262, u263, u264, u265, u266, u267, u268, u269, u270, u271, u272, u273, u274, u275, u276, u277, u278, u279, u280, u281, u282, u283, u284, u285, u286, u287, u288, u289, u290, u291, u292, u293], []⟩ wo := by
  conv => arg 2; whnf
  have HRq : Hid (RdOk o lq) := HRR.out.rd HN.out HR.out
  have HPL := Lib.hid hpl; clear hpl
  have HLL := Lib.hid hll; clear hll
  obtain ⟨hlm, hlen⟩ := HN.out.lines HK.out HKo.out HR.out HRR.out
  have HLM := Lib.hid hlm; clear hlm
  have HLE := Lib.hid hlen; clear hlen
  obtain ⟨f0, f1, f2, f3, f4⟩ := TBox.five HBt.out
  go_wp2_with fail
  clear f0 f1 f2 f3 f4
  refine (Lines_h t ⟨ar, cr, lr⟩ _ HTt.out HK.out HSr.out HR.out).mono ?_
  rintro e wa ⟨aa, ca, la, ea, rfl, HLa, hca, hxa⟩
  have HA : Hid (Ext wo wa) := hxa
  dsimp only at hca
  have HCa := Lib.hid hca
  clear hxa hca
  obtain ⟨f0, f1, f2, f3, f4⟩ := TBox.five (HA.out.block HBo.out)
  go_wp2_with fail
  clear f0 f1 f2 f3 f4
  refine (Lines_h o ⟨aq, cq, lq⟩ _ (HTo.out.ext HA.out) HKo.out (HSq.out.ext HA.out) HRq.out).mono ?_
  rintro e wb ⟨ab, cb, lb, eb, rfl, HLb, hcb, hxb⟩
  have HB : Hid (Ext wo wb) := HA.out.trans hxb
  have HLa2 : Hid (IsTbl wb ⟨aa, ca, la⟩) := HLa.out.ext hxb
  dsimp only at hcb
  have HCb := Lib.hid hcb
  clear hxb hcb HA HLa
  -- both are told, or none is
  have hboth : ea = eb ∧ la.length = lb.length ∧ ∀ r ∈ la, (∀ x ∈ r.l, x < t.P) ∧ r.l.map (gt lp) ∈ lb.map (fun r => r.l) := by
    have hle := HLE.out
    rcases HCa.out with ⟨e1, e2, e3⟩ | ⟨e1, e2, e3⟩ <;> rcases HCb.out with ⟨g1, g2, g3⟩ | ⟨g1, g2, g3⟩
    · refine ⟨by rw [e1, g1], ?_, fun r hr => ?_⟩
      · have q1 := congrArg List.length e2; have q2 := congrArg List.length g2
        rw [List.length_map] at q1 q2; omega
      · have hm : r.l ∈ linesR t (leadsOf t lr) := by rw [← e2]; exact List.mem_map_of_mem hr
        exact ⟨lineOk_lt ((mem_linesR t _ HK.out.start.1 _).1 hm), by rw [g2]; exact HLM.out _ hm⟩
    · omega
    · omega
    · exact ⟨by rw [e1, g1], by rw [e2, g2], fun r hr => by rw [e2] at hr; simp at hr⟩
  obtain ⟨rfl, hlab, hrow⟩ := hboth
  have HRow := Lib.hid hrow; clear hrow
  have hl200 : la.length ≤ 200 := by
    rcases HCa.out with ⟨e1, e2, e3⟩ | ⟨e1, e2, e3⟩
    · rw [← e2, List.length_map] at e3; exact e3
    · rw [e2]; simp
  clear HCa HCb HLM HLE
  have q1 : (ea != ea) = false := by simp
  have q2 : ((la.length : Int) != (lb.length : Int)) = false := by rw [hlab]; simp
  clear hlab
  go_wp2_with fail
  go_loopw [225] (fun iv wr => ∃ y : Nat, y ≤ la.length ∧ iv = .int .i64 (y : Int) ∧ Hid (Ext wb wr)) (fun iv _ => la.length - (intOf iv).toNat)
  case atStart => exact ⟨0, Nat.zero_le _, rfl, Ext.refl _⟩
  case round =>
    obtain ⟨wl, rfl⟩ : ∃ wl : World, wl = wr := ⟨_, rfl⟩
    obtain ⟨y, hy, rfl, HXl⟩ := hrel
    have EXl : Hid (Ext wo wl) := HB.out.trans HXl.out
    by_cases hyl : y < la.length
    · have dy : decide ((y : Int) < (la.length : Int)) = true := by simpa using hyl
      obtain ⟨bx, ox, rfl, hcx⟩ := rows_at (⟨HLa2.out.1.ext HXl.out, fun r hr => (HLa2.out.2 r hr).ext HXl.out⟩ : IsTbl wl ⟨aa, ca, la⟩) (by omega)
      have cq' := hcx y hyl
      have HMq : Hid (IsSl 1 num wl la[y]) := (HLa2.out.2 _ (List.getElem_mem hyl)).ext HXl.out
      obtain ⟨h1, h2⟩ := HRow.out _ (List.getElem_mem hyl)
      clear hcx
      generalize la[y] = q at *
      obtain ⟨az, cz, lz⟩ := q
      dsimp only at cq' HMq h1 h2
      have HZ := Lib.hid (renamed_any ⟨az, cz, lz⟩ ⟨ap, cp, lp⟩ wl HMq.out (HSp.out.ext EXl.out) (fun x hx => by have := h1 x hx; have := HPL.out; dsimp only; omega))
      have hz6 : (lz.map (gt lp)).length ≤ 1000000 := by rw [List.length_map]; exact HMq.out.2.1
      dsimp only at HZ
      have HMem := Lib.hid h2
      clear h1 h2
      generalize lz.map (gt lp) = zz at *
      have HZ6 := Lib.hid hz6
      clear hz6
      have y0 : (0 : Int) ≤ (y : Int) := by omega
      go_wp2_with fail
      refine HZ.out.mono ?_
      rintro e wm ⟨an, cn, rfl, hon, hxm⟩
      have EXm : Hid (Ext wl wm) := hxm
      have HON := Lib.hid hon
      clear hon hxm
      go_wp2_with fail
      refine (among_in wm.heap.size ⟨an, cn, zz⟩ ⟨ab, cb, lb⟩ _ (World.alloc_heap_new wm _) ((own_sl HON.out HZ6.out).ext ((Ext.refl wm).alloc _)) ⟨HLb.out.1.ext (HXl.out.trans (EXm.out.alloc _)), fun r hr => (HLb.out.2 r hr).ext (HXl.out.trans (EXm.out.alloc _))⟩ HMem.out).mono ?_
      rintro e wn ⟨rfl, hxn⟩
      have EXn : Hid (Ext wl wn) := (EXm.out.alloc _).trans hxn
      clear hxn
      go_wp2_with fail
      go_roundw
      case rel => exact ⟨y + 1, by omega, by go_num, HXl.out.trans EXn.out⟩
      case measure => simp [intOf]; omega
    · have dy : decide ((y : Int) < (la.length : Int)) = false := decide_eq_false (by omega)
      have HBr := Lib.hid (HN.out.breaks HK.out HKo.out HR.out HRR.out ll HLL.out HLP.out)
      have hz1 : (ll.map (gt lp)).length = o.legs.l.length + 1 := by rw [List.length_map, HLL.out, HN.out.N]
      have hz2 : ∀ x ∈ ll.map (gt lp), x < o.P := by
        intro x hx
        obtain ⟨z, hz, rfl⟩ := List.mem_map.1 hx
        rw [HN.out.P]; exact HN.out.bp.lt z (HLP.out z hz)
      have hz3 : ((ll.map (gt lp))[0]?).getD 0 ∈ o.starts.l := by
        have := gt_map (gt lp) ll 0 (by have := HLL.out; omega)
        have h0 := (HN.out.starts (gt lp (gt ll 0))).2 ⟨gt ll 0, HL0.out, rfl⟩
        rw [← this] at h0; exact h0
      have hlt : ∀ x ∈ ll, x < lp.length := fun x hx => by rw [HPL.out]; exact HLP.out x hx
      have hz6 : (ll.map (gt lp)).length ≤ 1000000 := by rw [hz1, HN.out.N]; omega
      have HZ1 := Lib.hid hz1
      have HZ2 := Lib.hid hz2
      have HZ3 := Lib.hid hz3
      have HZ6 := Lib.hid hz6
      have hRn : ∀ V, Ext wo V → Calls Tryz.prog 45 #[.slice al ll.length cl, .slice ap lp.length cp] V (RowOf (ll.map (gt lp)) V) := fun V h => renamed_any ⟨al, cl, ll⟩ ⟨ap, cp, lp⟩ V (HSl.out.ext h) (HSp.out.ext h) hlt
      have HRn := Lib.hid hRn
      clear hz1 hz2 hz3 hz6 hlt hRn
      generalize ll.map (gt lp) = zz at *
      have HBest := Lib.hid (HN.out.best HK.out HKo.out)
      obtain ⟨f0, f1, f2, f3, f4⟩ := TBox.five (EXl.out.block HBt.out)
      go_wp2_with fail
      clear f0 f1 f2 f3 f4
      refine (Breaks_ok t ⟨ar, cr, lr⟩ ⟨al, cl, ll⟩ wl (HTt.out.ext EXl.out) HK.out (HSr.out.ext EXl.out) HR.out (HSl.out.ext EXl.out) HLL.out HLP.out HL0.out).mono ?_
      rintro e wm ⟨ab1, cb1, rfl, hsb, hxm⟩
      dsimp only at hsb ⊢
      have EXm : Hid (Ext wo wm) := EXl.out.trans hxm
      have HSb := Lib.hid hsb
      clear hsb hxm
      generalize brkTo (leadsOf t lr) ll t.legs.l.length = bl at *
      have KO : Hid (∀ V', Ext wm V' → V'.cell? ⟨O, 0, none⟩ = some (.int .i64 (o.P : Int)) ∧ V'.cell? ⟨O, 1, none⟩ = some (.slice o.ways.a o.ways.l.length o.ways.c) ∧ V'.cell? ⟨O, 2, none⟩ = some (.slice o.words.a o.words.l.length o.words.c) ∧ V'.cell? ⟨O, 3, none⟩ = some (.slice o.starts.a o.starts.l.length o.starts.c) ∧ V'.cell? ⟨O, 4, none⟩ = some (.slice o.legs.a o.legs.l.length o.legs.c)) := fun V' h => TBox.five ((EXm.out.trans h).block HBo.out)
      go_upto_region 44 with (fail)
      go_region_held3 (fun V' => V'.cell? ⟨O, 0, none⟩ = some (.int .i64 (o.P : Int)) ∧ V'.cell? ⟨O, 1, none⟩ = some (.slice o.ways.a o.ways.l.length o.ways.c) ∧ V'.cell? ⟨O, 2, none⟩ = some (.slice o.words.a o.words.l.length o.words.c) ∧ V'.cell? ⟨O, 3, none⟩ = some (.slice o.starts.a o.starts.l.length o.starts.c) ∧ V'.cell? ⟨O, 4, none⟩ = some (.slice o.legs.a o.legs.l.length o.legs.c))
        (first | exact KO.out _ (Ext.refl _) | exact KO.out _ (Ext.refl _).drew | exact KO.out _ E1.out | exact KO.out _ E2.out)
        (first
          | (go_at_call 45; refine (HRn.out _ EXm.out.drew).mono ?_; rintro e x1 ⟨an, cn, rfl, hon, hx1⟩; have E1 : Hid (Ext wm x1) := ((Ext.refl wm).drew).trans hx1; have HON := Lib.hid hon; clear hon hx1)
          | (go_at_call 19; refine (Breaks_ok o ⟨aq, cq, lq⟩ ⟨an, cn, zz⟩ x1 (HTo.out.ext (EXm.out.trans E1.out)) HKo.out (HSq.out.ext (EXm.out.trans E1.out)) HRq.out (own_sl HON.out HZ6.out) HZ1.out HZ2.out HZ3.out).mono ?_; rintro e x2 ⟨ab2, cb2, rfl, hs2, hx2⟩; have E2 : Hid (Ext wm x2) := E1.out.trans hx2; dsimp only at hs2; rw [HBr.out] at hs2 ⊢; have HS2 := Lib.hid hs2; clear hs2 hx2))
      have EX2 : Hid (Ext wo x2) := EXm.out.trans E2.out
      have HSb2 : Hid (IsSl 1 num x2 ⟨ab1, cb1, bl⟩) := HSb.out.ext E2.out
      obtain ⟨bt2, hbt⟩ : ∃ b, (bestR t (allR (cntR t))).2 = b := ⟨_, rfl⟩
      rw [hbt] at HBest
      obtain ⟨f0, f1, f2, f3, f4⟩ := TBox.five (EX2.out.block HBt.out)
      have HBT := Lib.hid hbt
      clear hbt
      go_wp2_with fail
      clear f0 f1 f2 f3 f4
      refine (Fewest_ok t x2 (HTt.out.ext EX2.out) HK.out).mono ?_
      rintro e x3 ⟨a3, c3, rfl, -, hx3⟩
      rw [HBT.out]
      generalize (bestR t (allR (cntR t))).1 = b1 at *
      have EX3 : Hid (Ext wo x3) := EX2.out.trans hx3
      have HSb3 : Hid (IsSl 1 num x3 ⟨ab1, cb1, bl⟩) := HSb2.out.ext hx3
      have HS3 : Hid (IsSl 1 num x3 ⟨ab2, cb2, bl⟩) := HS2.out.ext hx3
      clear hx3
      obtain ⟨f0, f1, f2, f3, f4⟩ := TBox.five (EX3.out.block HBo.out)
      go_wp2_with fail
      clear f0 f1 f2 f3 f4
      refine (Fewest_ok o x3 (HTo.out.ext EX3.out) HKo.out).mono ?_
      rintro e x4 ⟨a4, c4, rfl, -, hx4⟩
      rw [HBest.out]
      generalize (bestR o (allR (cntR o))).1 = b2 at *
      have EX4 : Hid (Ext wo x4) := EX3.out.trans hx4
      have HSb4 : Hid (IsSl 1 num x4 ⟨ab1, cb1, bl⟩) := HSb3.out.ext hx4
      have HS4 : Hid (IsSl 1 num x4 ⟨ab2, cb2, bl⟩) := HS3.out.ext hx4
      clear hx4
      go_wp2_with fail
      refine (equal_true ⟨ab1, cb1, bl⟩ ⟨ab2, cb2, bl⟩ _ HSb4.out HS4.out rfl).mono ?_
      rintro e x5 ⟨rfl, hx5⟩
      have EX5 : Hid (Ext wo x5) := EX4.out.trans hx5
      clear hx5
      go_wp2_with fail
      refine (awake_ok _).mono ?_
      rintro e x6 ⟨rfl, hx6⟩
      have EX6 : Hid (Ext w x6) := (EWo.out.trans EX5.out).trans hx6
      clear hx6
      go_wp2_with fail
      go_ret
      exact ⟨rfl, EX6.out⟩
end Go.Proofs.YtdejaliegbmgaaaGreat

namespace Go.Proofs.YtdejaliegbmgaaaGreat
open Go.RowKit

theorem leg_leafN {O base P : Nat} {W v2 v3 : World} {wv qv sv : Value} {s : SL (Nat × Int)} {x : Nat × Int} {tmp : Obj} {g cap : Nat} (hO : O < base) (hbase : W.heap.size = base)
    (HO : v2.ownsRow base 86 2 (.slice s.a s.l.length s.c) s.l.length (flat 2 legC s.l)) (HM : MkT v2 O P wv qv sv s.v) (HG : G2 O O W v2)
    (hown : v3.ownsRow base 86 2 (.slice (some ⟨g, 0, none⟩) (s.l.length + 1) cap) (s.l.length + 1) (flat 2 legC s.l ++ flat 2 legC [x])) (hgrow : (v2.alloc tmp).grownBy v3 (Value.slice s.a s.l.length s.c).ownBlock) :
    (v3.cell? ⟨O, 4, none⟩ = some (.slice s.a s.l.length s.c) ∧ v3.frozen? ⟨O, 4, none⟩ = false) ∧
      Hid ((v3.setCell ⟨O, 4, none⟩ (.slice (some ⟨g, 0, none⟩) (s.l.length + 1) cap)).ownsRow base 86 2 (.slice (some ⟨g, 0, none⟩) (s.l ++ [x]).length cap) (s.l ++ [x]).length (flat 2 legC (s.l ++ [x]))) ∧
        Hid (MkT (v3.setCell ⟨O, 4, none⟩ (.slice (some ⟨g, 0, none⟩) (s.l.length + 1) cap)) O P wv qv sv (.slice (some ⟨g, 0, none⟩) (s.l ++ [x]).length cap)) ∧ Hid (G2 O O W (v3.setCell ⟨O, 4, none⟩ (.slice (some ⟨g, 0, none⟩) (s.l.length + 1) cap))) := by
  have hrow : ∀ i, (Value.slice s.a s.l.length s.c).ownBlock = some i → base ≤ i := fun i hi => own_lt HO i hi
  have hxx := (Ext.refl v2).alloc tmp
  have HM3 : MkT v3 O P wv qv sv s.v := MkT.grown (hxx.block HM) hgrow (fun i hi => by have := hrow i hi; omega)
  have HG3 : G2 O O W v3 := (HG.ext hxx).step hgrow (fun i hi => .inr (.inr (by have := hrow i hi; omega)))
  have hlen : (s.l ++ [x]).length = s.l.length + 1 := by simp
  refine ⟨⟨HM3.five.2.2.2.2, HM3.frozen 4⟩, ?_, ?_, HG3.setB 4 _⟩
  · show World.ownsRow _ base 86 2 (.slice _ (s.l ++ [x]).length cap) (s.l ++ [x]).length (flat 2 legC (s.l ++ [x]))
    rw [flat_append, hlen]
    exact G2.own hown ((G2.refl O O v3).setB 4 _) hO hO
  · show MkT _ O P _ _ _ (.slice _ (s.l ++ [x]).length cap)
    rw [hlen]; exact HM3.set4 _

/-- A leg lies in a box of its own. -/
def LegBox (w : World) (b : Nat) (x : Nat × Int) : Prop := w.heap[b]? = some (.cells #[.int .i64 (x.1 : Int), .int .i64 x.2] 86 (0, 0))
theorem LegBox.ext {w w' : World} {b : Nat} {x : Nat × Int} (h : LegBox w b x) (k : Ext w w') : LegBox w' b x := k.block h
theorem LegBox.two {w : World} {b : Nat} {x : Nat × Int} (h : LegBox w b x) : w.cell? ⟨b, 0, none⟩ = some (.int .i64 (x.1 : Int)) ∧ w.cell? ⟨b, 1, none⟩ = some (.int .i64 x.2) := ⟨(cell_at h 0).trans rfl, (cell_at h 1).trans rfl⟩
theorem LegBox.frozen {w : World} {b : Nat} {x : Nat × Int} (h : LegBox w b x) (i : Nat) : w.frozen? ⟨b, i, none⟩ = false := by
  have h' : w.heap[b]? = _ := h
  simp [World.frozen?, h']
theorem LegBox.lt {w : World} {b : Nat} {x : Nat × Int} (h : LegBox w b x) : b < w.heap.size := (Array.getElem?_eq_some_iff.1 h).1
theorem LegBox.set {w : World} {b : Nat} {x : Nat × Int} (h : LegBox w b x) (y : Nat × Int) : LegBox ((w.setCell ⟨b, 0, none⟩ (.int .i64 (y.1 : Int))).setCell ⟨b, 1, none⟩ (.int .i64 y.2)) b y :=
  heap_setCell_same (heap_setCell_same h _) _

/-- TreatyNamed from where it gives legs their new numbers. -/
noncomputable def tailD : Code := ((Tryz.f7.body.bind (tailN 25)).getD .skip)

set_option maxRecDepth 1000000 in
set_option maxHeartbeats 8000000 in
theorem named_tailD {u0 u1 u2 u3 u4 u5 u9 u11 u14 u17 u18 u19 u20 u21 u22 u23 u24 u25 u26 u27 u28 u29 u30 u31 u32 u33 u34 u35 u36 u37 u38 u39 u40 u41 u42 u43 u44 u45 u46 u47 u48 u49 u50 u51 u52 u53 u54 u55 u56 u57 u58 u59 u60 u61 u62 u63 u64 u65 u66 u67 u68 u69 u70 u71 u72 u73 u74 u75 u76 u77 u78 u79 u80 u81 u82 u83 u84 u85 u86 u87 u88 u89 u90 u91 u92 u93 u94 u95 u96 u97 u98 u99 u100 u101 u102 u103 u104 u105 u106 u107 u108 u109 u110 u111 u112 u113 u114 u115 u116 u117 u118 u119 u120 u121 u122 u123 u124 u125 u126 u127 u128 u129 u130 u131 u132 u133 u134 u135 u136 u137 u138 u139 u140 u141 u142 u143 u144 u145 u146 u147 u148 u149 u150 u151 u152 u153 u154 u155 u156 u157 u158 u159 u160 u161 u162 u163 u164 u165 u166 u167 u168 u169 u170 u171 u172 u173 u174 u175 u176 u177 u178 u179 u180 u181 u182 u183 u184 u185 u186 u187 u188 u189 u190 u191 u192 u193 u194 u195 u196 u197 u198 u199 u200 u201 u202 u203 u204 u205 u206 u207 u208 u209 u210 u211 u212 u213 u214 u215 u216 u217 u218 u219 u220 u221 u222 u223 u224 u225 u226 u227 u228 u229 u230 u231 u232 u233 u234 u235 u236 u237 u238 u239 u240 u241 u242 u243 u244 u245 u246 u247 u248 u249 u250 u251 u252 u253 u254 u255 u256 u257 u258 u259 u260 u261 u262 u263 u264 u265 u266 u267 u268 u269 u270 u271 u272 u273 u274 u275 u276 u277 u278 u279 u280 u281 u282 u283 u284 u285 u286 u287 u288 u289 u290 u291 u292 u293 : Value} (w v0 W : World) (T O P : Nat) (t : TV) (ow : SL (Nat × Nat × Nat)) (oq : SL (SL MV)) (os : SL Nat) (ar al ap aw aq : Option Addr) (cr cl cp cw cq : Nat) (lr ll lp lw lq : List Nat) (pi kd ki wi : Nat → Nat) (hln : t.legs.l.length ≤ 10)
    (HK : Hid (OkT t)) (HN : Hid (∀ gl : SL (Nat × Int), gl.l = t.legs.l.map (legN (gt lw)) → Ren t ⟨P, ow, oq, os, gl⟩ (gt lp) pi kd ki (gt lw) wi)) (HKo : Hid (∀ gl : SL (Nat × Int), gl.l = t.legs.l.map (legN (gt lw)) → OkT ⟨P, ow, oq, os, gl⟩))
    (HR : Hid (RdOk t lr)) (HRR : Hid (RenR t (gt lw) lr lq)) (hpl : lp.length = t.P) (hwl : lw.length = t.words.l.length) (hll : ll.length = t.legs.l.length + 1) (HLP : Hid (∀ x ∈ ll, x < t.P)) (HL0 : Hid ((ll[0]?).getD 0 ∈ t.starts.l))
    (HTt : Hid (IsT v0 t)) (HBt : Hid (TBox v0 T t)) (HSr : Hid (IsSl 1 num v0 ⟨ar, cr, lr⟩)) (HSl : Hid (IsSl 1 num v0 ⟨al, cl, ll⟩)) (HSp : Hid (IsSl 1 num v0 ⟨ap, cp, lp⟩)) (HSw : Hid (IsSl 1 num v0 ⟨aw, cw, lw⟩))
    (hO : v0.heap.size ≤ O) (HMO : Hid (MkT W O P ow.v oq.v os.v (.slice none 0 0))) (KO : Hid (∀ w', G2 O O W w' → IsT w' ⟨P, ow, oq, os, ⟨none, 0, []⟩⟩ ∧ IsSl 1 num w' ⟨aq, cq, lq⟩)) (EV : Hid (Ext w v0)) (EW : Hid (Ext v0 W)) :
    Code.wp Tryz.prog tailD (bodyPost Tryz.prog Tryz.f7 fun e w' => e = .returned (.bool true) ∧ Ext w w') ⟨#[u0, u1, u2, u3, u4, u5, .pointer (some ⟨T, 0, none⟩), .slice ar lr.length cr, .slice al ll.length cl, u9, .slice ap lp.length cp, u11, .slice aw lw.length cw, .func (.func 45) #[] #[], u14, .pointer (some ⟨O, 0, none⟩), .slice aq lq.length cq, u17, u18, u19, u20, u21, u22, u23, u24, u25, u26, u27, u28, u29, u30, u31, u32, u33, u34, u35, u36, u37, u38, u39, u40, u41, u42, u43, u44, u45, u46, u47, u48, u49, u50, u51, u52, u53, u54, u55, u56, u57, u58, u59, u60, u61, u62, u63, u64, u65, u66, u67, u68, u69, u70, u71, u72, u73, u74, u75, u76, u77, u78, u79, u80, u81, u82, u83, u84, u85, u86, u87, u88, u89, u90, u91, u92, u93, u94, u95, u96, u97, u98, u99, u100, u101, u102, u103, u104, u105, u106, u107, u108, u109, u110, u111, u112, u113, u114, u115, u116, u117, u118, u119, u120, u121, u122, u123, u124, u125, u126, u127, u128, u129, u130, u131, u132, u133, u134, u135, u136, u137, u138, u139, u140, u141, u142, u143, u144, u145, u146, u147, u148, u149, u150, u151, u152, u153, u154, u155, u156, u157, u158, u159, u160, u161, u162, u163, u164, u165, u166, u167, u168, u169, u170, u171, u172, u173, u174, u175, u176, u177, u178, u179, u180, u181, u182, u183, u184, u185, u186, u187, u188, u189, u190, u191, u192, u193, u194, u195, u196, u197, u198, u199, u200, u201, u202, u203, u204, u205, u206, u207, u208, u209, u210, u211, u212, u213, u214, u215, u216, u217, u218, u219, u220, u221, u222, u223, u224, u225, u226, u227, u228, u229, u230, u231, u232, u233, u234, u235, u236, u237, u238, u239, u240, u241, u242, u243, u244, u245, u246, u247, u248, u249, u250, u251, u252, u253, u254, u255, u256, u257, u258, u259, u260, u261, u262, u263, u264, u265, u266, u267, u268, u269, u270, u271, u272, u273, u274, u275, u276, u277, u278, u279, u280, u281, u282, u283, u284, u285, u286, u287, u288, u289, u290, u291, u292, u293], []⟩ W := by
  conv => arg 2; whnf
  have HPL := Lib.hid hpl; clear hpl
  have HLL := Lib.hid hll; clear hll
  have hOW : O < W.heap.size := (Array.getElem?_eq_some_iff.1 HMO.out).1
  obtain ⟨i86, hi86, hz86, hs86, hb86⟩ := info_parts info86
  obtain ⟨-, -, -, -, f4⟩ := TBox.five (EW.out.block HBt.out)
  go_wp2_with fail
  clear f4
  go_loopw [170] (fun iv wr => ∃ (y : Nat) (gl : SL (Nat × Int)), y ≤ t.legs.l.length ∧ iv = .int .i64 (y : Int) ∧ Hid (gl.l = (t.legs.l.take y).map (legN (gt lw))) ∧ Hid (wr.ownsRow W.heap.size 86 2 (.slice gl.a gl.l.length gl.c) gl.l.length (flat 2 legC gl.l)) ∧ Hid (MkT wr O P ow.v oq.v os.v (.slice gl.a gl.l.length gl.c)) ∧ Hid (G2 O O W wr)) (fun iv _ => t.legs.l.length - (intOf iv).toNat)
  case atStart => exact ⟨0, ⟨none, 0, []⟩, Nat.zero_le _, rfl, rfl, World.ownsRow_nil _ _ _ _, HMO.out, G2.refl _ _ _⟩
  case round =>
    obtain ⟨wo, rfl⟩ : ∃ wo : World, wo = wr := ⟨_, rfl⟩
    obtain ⟨y, gl, hy, rfl, HGL, HGO, HM, HG⟩ := hrel
    have EX : Hid (Ext v0 wo) := ext_g2 EW.out HG.out hO hO
    have hgl : gl.l.length = y := by rw [HGL.out, List.length_map, List.length_take]; omega
    by_cases hlt : y < t.legs.l.length
    · have dy : decide ((y : Int) < (t.legs.l.length : Int)) = true := by simpa using hlt
      obtain ⟨bl, ol, hla, hlc⟩ := (HTt.out.ext EX.out).legs.2.2.resolve_left (by omega)
      have cl0 : wo.cell? ⟨bl, ol + y * 2, none⟩ = some (.int .i64 (t.legs.l[y].1 : Int)) := by have := hlc y hlt 0 (by omega); simpa [legC] using this
      have cl1 : wo.cell? ⟨bl, ol + y * 2 + 1, none⟩ = some (.int .i64 t.legs.l[y].2) := by have := hlc y hlt 1 (by omega); simpa [legC] using this
      obtain ⟨lg1, lg2⟩ := HK.out.leg _ (List.getElem_mem hlt)
      have HGn : Hid ((t.legs.l.take (y + 1)).map (legN (gt lw)) = (t.legs.l.take y).map (legN (gt lw)) ++ [legN (gt lw) t.legs.l[y]]) := by
        show _ = _
        rw [List.take_succ_eq_append_getElem hlt, List.map_append]; rfl
      clear hlc
      generalize t.legs.l[y] = g at *
      obtain ⟨g1, g2⟩ := g
      dsimp only at cl0 cl1 lg1 lg2
      rw [hla]
      have HLa := Lib.hid hla; clear hla
      have HLg := Lib.hid lg2; clear lg2
      have y0 : (0 : Int) ≤ (y : Int) := by omega
      have HGLn := Lib.hid hgl; clear hgl
      go_upto_region 28 with (fail)
      have HB24 : Hid (LegBox (wo.alloc (.cells #[.int .i64 (g1 : Int), .int .i64 g2] 86)) wo.heap.size (g1, g2)) := World.alloc_heap_new wo _
      have EX1 : Hid (Ext wo (wo.alloc (.cells #[.int .i64 (g1 : Int), .int .i64 g2] 86))) := (Ext.refl wo).alloc _
      generalize wo.alloc (.cells #[.int .i64 (g1 : Int), .int .i64 g2] 86) = x1 at *
      have hw24 : wo.heap.size < x1.heap.size := HB24.out.lt
      obtain ⟨bw, pw, rfl, hwc⟩ := num_of (HSw.out.ext (EX.out.trans EX1.out)) (by dsimp only; omega)
      have KW : Hid (∀ i, i < lw.length → ∀ V, Ext x1 V → V.cell? ⟨bw, pw + i, none⟩ = some (.int .i64 (gt lw i : Int))) := fun i hi V hV => hV.cell (hwc i hi)
      clear hwc cl0 cl1
      have cw1 := KW.out g1 (by omega) x1 (Ext.refl _)
      obtain ⟨d0, d1⟩ := HB24.out.two
      have i0 : (0 : Int) ≤ (g1 : Int) := by omega
      have i1 : (g1 : Int) < (lw.length : Int) := by omega
      go_upto_region 29 with (fail)
      clear cw1 d0 d1
      have HB25 : Hid (LegBox (x1.alloc (.cells #[.int .i64 (gt lw g1 : Int), .int .i64 (-1)] 86)) x1.heap.size (gt lw g1, -1)) := World.alloc_heap_new x1 _
      have EX2 : Hid (Ext x1 (x1.alloc (.cells #[.int .i64 (gt lw g1 : Int), .int .i64 (-1)] 86))) := (Ext.refl x1).alloc _
      generalize x1.alloc (.cells #[.int .i64 (gt lw g1 : Int), .int .i64 (-1)] 86) = x2 at *
      have hw25 : x1.heap.size < x2.heap.size := HB25.out.lt
      obtain ⟨d0, d1⟩ := (HB24.out.ext EX2.out).two
      go_upto_if 182 with (fail)
      go_cut [] (fun wx => Hid (LegBox wx x1.heap.size (legN (gt lw) (g1, g2))) ∧ Hid (Ext wo wx))
      case first =>
        by_cases e : g2 = -1
        · have e1 : (g2 != -1) = false := by simp [e]
          have HE := Lib.hid e
          clear e
          go_wp2_with fail
          go_meet
          exact ⟨by show LegBox _ _ _; unfold legN; rw [if_pos HE.out]; exact HB25.out, EX1.out.trans EX2.out⟩
        · have e1 : (g2 != -1) = true := by simp [e]
          obtain ⟨e2, e3⟩ := HLg.out.resolve_left e
          have hx : ((g2.toNat : Nat) : Int) = g2 := by omega
          have cw1 := KW.out g1 (by omega) x2 EX2.out
          have cw2 := KW.out g2.toNat (by omega) x2 EX2.out
          have i3 : g2 < (lw.length : Int) := by omega
          obtain ⟨p0, p1⟩ := HB25.out.two
          have r0 := HB25.out.frozen 0
          have r1 := HB25.out.frozen 1
          have HE := Lib.hid e
          have HXx := Lib.hid hx
          have HS25 := Lib.hid (HB25.out.set (gt lw g2.toNat, (gt lw g1 : Int)))
          clear e hx
          go_wp2_with fail
          go_region
          all_goals go_wp2_with fail
          all_goals go_meet
          all_goals exact ⟨by show LegBox _ _ _; unfold legN; rw [if_neg HE.out]; exact HS25.out.ext (Ext.refl _).drew, Ext.drew (Ext.setCell (Ext.setCell (EX1.out.trans EX2.out) (Nat.le_of_lt hw24) _) (Nat.le_of_lt hw24) _)⟩
      case rest =>
        obtain ⟨HBx, EXx⟩ := hcut
        generalize legN (gt lw) (g1, g2) = z at *
        obtain ⟨z1, z2⟩ := z
        have HMc : Hid (MkT wc O P ow.v oq.v os.v (.slice gl.a gl.l.length gl.c)) := EXx.out.block HM.out
        have HGc : Hid (G2 O O W wc) := HG.out.ext EXx.out
        have HOc : Hid (wc.ownsRow W.heap.size 86 2 (.slice gl.a gl.l.length gl.c) gl.l.length (flat 2 legC gl.l)) := own_ext HGO.out EXx.out
        clear d0 d1
        obtain ⟨p0, p1⟩ := HBx.out.two
        obtain ⟨-, -, -, -, c4⟩ := HMc.out.five
        have hm6 : gl.l.length + 1 ≤ maxLen := by have := HGLn.out; unfold maxLen; omega
        have hl6 : gl.l.length ≤ 10 := by have := HGLn.out; omega
        have hb1 : W.heap.size ≤ wc.heap.size + 1 := by have := HGc.out.size; omega
        go_wp2_with (at_builtin; go_must (refine wpList_append_own _ rfl _ _ 25 rfl W.heap.size 86 i86 (.agg #[.int .i64 0, .int .i64 0]) 2 16 Tryz.underlying25 hi86 hz86 hs86 hb86 rfl (by decide) _ gl.l.length (flat 2 legC gl.l) rfl (HOc.out.alloc _) ⟨wc.heap.size, 0, none⟩ 1 1 (flat 2 legC [(z1, z2)]) rfl rfl (new_cells wc (flat 2 legC [(z1, z2)]) 86) (leg_one (z1, z2)) hm6 (by omega) (by simp; omega) ?_); intro v' w9 hown hgrow _; obtain ⟨g, cap, rfl⟩ := ownsRow_succ hown; obtain ⟨⟨cv, fv⟩, hA, hC, hD⟩ := leg_leafN hOW rfl HOc.out HMc.out HGc.out hown hgrow; clear hown hgrow)
        go_roundw
        case rel => exact ⟨y + 1, ⟨some ⟨g, 0, none⟩, cap, gl.l ++ [(z1, z2)]⟩, by omega, by go_num, by show _ = _; rw [HGn.out, HGL.out], hA, hC, hD⟩
        case measure => simp [intOf]; omega
    · have hye : y = t.legs.l.length := by omega
      have dy : decide ((y : Int) < (t.legs.l.length : Int)) = false := decide_eq_false (by omega)
      have hGe : gl.l = t.legs.l.map (legN (gt lw)) := by
        have := HGL.out
        rwa [List.take_of_length_le (by omega)] at this
      have hI := KO.out wo HG.out
      have hTo : IsT wo ⟨P, ow, oq, os, gl⟩ := ⟨hI.1.ways, hI.1.words, hI.1.word, hI.1.starts, own_slG HGO.out (by omega)⟩
      have HGe := Lib.hid hGe
      have HI2 := Lib.hid hI.2
      have HTo := Lib.hid hTo
      clear hGe hI hTo hye hgl
      repeat (first
        | exact named_tailE w wo T O t ⟨P, ow, oq, os, gl⟩ ar al ap aq cr cl cp cq lr ll lp lq pi kd ki (gt lw) wi hln HK (HKo.out gl HGe.out) (HN.out gl HGe.out) HR HRR HPL.out HLL.out HLP HL0 (HTt.out.ext EX.out) HTo.out (EX.out.block HBt.out) HM.out (HSr.out.ext EX.out) (HSl.out.ext EX.out) (HSp.out.ext EX.out) HI2.out (EV.out.trans EX.out)
        | go_step)
end Go.Proofs.YtdejaliegbmgaaaGreat
