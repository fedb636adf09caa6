/-
  TreatyParted's walk from where it asks for all lines: it answers true, and turns nothing that was there. Treaty, parts and reading must lie in memory as told, and be valid.
-/
import Derived.Test.YtdejaliegbmgaaaGreatYo
import Derived.Test.YtdejaliegbmgaaaGreatJe
import Derived.Deep.CutBlock
import Derived.Deep.RegionHeld3
namespace Go.Proofs.YtdejaliegbmgaaaGreat
open Go.RowKit

/-- The code from region n on. -/
def tailOf (n : Nat) : Code → Option Code
  | .seq (.region k o d) b => if k = n then some (.seq (.region k o d) b) else tailOf n b
  | .seq _ b => tailOf n b
  | .block _ c => tailOf n c
  | .scope c => tailOf n c
  | _ => none
/-- TreatyParted from where it asks for all lines. -/
noncomputable def tail18 : Code := ((Tryz.f8.body.bind (tailOf 18)).getD .skip)

set_option maxRecDepth 1000000 in
set_option maxHeartbeats 8000000 in
theorem parted_tail {u0 u1 u2 u3 u4 u5 u11 u12 u13 u14 u15 u16 u17 u18 u19 u20 u21 u22 u23 u24 u25 u26 u27 u28 u29 u30 u31 u32 u33 u34 u35 u36 u37 u38 u39 u40 u41 u42 u43 u44 u45 u46 u47 u48 u49 u50 u51 u52 u53 u54 u55 u56 u57 u58 u59 u60 u61 u62 u63 u64 u65 u66 u67 u68 u69 u70 u71 u72 u73 u74 u75 u76 u77 u78 u79 u80 u81 u82 u83 u84 u85 u86 u87 u88 u89 u90 u91 u92 u93 u94 u95 u96 u97 u98 u99 u100 u101 u102 u103 u104 u105 u106 u107 u108 u109 u110 u111 u112 u113 u114 u115 u116 u117 u118 u119 u120 u121 u122 u123 u124 u125 u126 u127 u128 u129 u130 u131 u132 u133 u134 u135 u136 u137 u138 u139 u140 u141 u142 u143 u144 u145 u146 u147 u148 u149 u150 u151 u152 u153 u154 u155 u156 u157 u158 u159 u160 u161 u162 u163 u164 u165 u166 u167 u168 u169 u170 u171 u172 u173 u174 u175 u176 u177 u178 u179 u180 u181 u182 u183 u184 u185 u186 u187 u188 u189 u190 u191 u192 u193 u194 u195 u196 u197 u198 u199 u200 u201 u202 u203 u204 u205 u206 u207 u208 u209 u210 u211 u212 u213 u214 u215 u216 u217 u218 u219 u220 u221 u222 u223 u224 u225 u226 u227 u228 u229 u230 u231 u232 u233 u234 u235 u236 u237 u238 u239 : Value} (w wo : World) (T A B k : Nat) (t ta tc : TV) (ar : Option Addr) (cr : Nat) (lr : List Nat) (hk : k ≤ t.legs.l.length) (hln : t.legs.l.length ≤ 10) (HK : Hid (OkT t)) (HKa : Hid (OkT ta)) (HKc : Hid (OkT tc)) (HR : Hid (RdOk t lr)) (HRa : Hid (RdOk ta lr)) (HRc : Hid (RdOk tc lr))
    (HPT : Hid (PartT t ta tc (leadsOf t lr) (leadsOf ta lr) (leadsOf tc lr) k)) (HTt : Hid (IsT wo t)) (HTa : Hid (IsT wo ta)) (HTc : Hid (IsT wo tc)) (HBt : Hid (TBox wo T t)) (HBa : Hid (TBox wo A ta)) (HBc : Hid (TBox wo B tc)) (HRs : Hid (IsSl 1 num wo ⟨ar, cr, lr⟩)) (EWo : Hid (Ext w wo)) :
    Code.wp Tryz.prog tail18 (bodyPost Tryz.prog Tryz.f8 fun e w' => e = .returned (.bool true) ∧ Ext w w') ⟨#[u0, u1, u2, u3, u4, u5, .pointer (some ⟨T, 0, none⟩), .slice ar lr.length cr, .int .i64 (k : Int), .pointer (some ⟨A, 0, none⟩), .pointer (some ⟨B, 0, none⟩), u11, u12, u13, u14, u15, u16, u17, u18, u19, u20, u21, u22, u23, u24, u25, u26, u27, u28, u29, u30, u31, u32, u33, u34, u35, u36, u37, u38, u39, u40, u41, u42, u43, u44, u45, u46, u47, u48, u49, u50, u51, u52, u53, u54, u55, u56, u57, u58, u59, u60, u61, u62, u63, u64, u65, u66, u67, u68, u69, u70, u71, u72, u73, u74, u75, u76, u77, u78, u79, u80, u81, u82, u83, u84, u85, u86, u87, u88, u89, u90, u91, u92, u93, u94, u95, u96, u97, u98, u99, u100, u101, u102, u103, u104, u105, u106, u107, u108, u109, u110, u111, u112, u113, u114, u115, u116, u117, u118, u119, u120, u121, u122, u123, u124, u125, u126, u127, u128, u129, u130, u131, u132, u133, u134, u135, u136, u137, u138, u139, u140, u141, u142, u143, u144, u145, u146, u147, u148, u149, u150, u151, u152, u153, u154, u155, u156, u157, u158, u159, u160, u161, u162, u163, u164, u165, u166, u167, u168, u169, u170, u171, u172, u173, u174, u175, u176, u177, u178, u179, u180, u181, u182, u183, u184, u185, u186, u187, u188, u189, u190, u191, u192, u193, u194, u195, u196, u197, u198, u199, u200, u201, u202, u203, u204, u205, u206, u207, u208, u209, u210, u211, u212, u213, u214, u215, u216, u217, u218, u219, u220, u221, u222, u223, u224, u225, u226, u227, u228, u229, u230, u231, u232, u233, u234, u235, u236, u237, u238, u239], []⟩ wo := by
  conv => arg 2; whnf
  obtain ⟨f0, f1, f2, f3, f4⟩ := TBox.five HBt.out
  go_wp2_with fail
  clear f0 f1 f2 f3 f4
  refine (Lines_gen t ⟨ar, cr, lr⟩ _ HTt.out HK.out HRs.out HR.out).mono ?_
  rintro e wg ⟨ax', cx', lx, ex, rfl, HLx, hcx, hxg⟩
  have HG' : Hid (Ext wo wg) := hxg
  have HCx := Lib.hid hcx
  clear hxg hcx
  obtain ⟨f0, f1, f2, f3, f4⟩ := TBox.five (HG'.out.block HBa.out)
  go_wp2_with fail
  clear f0 f1 f2 f3 f4
  refine (Lines_gen ta ⟨ar, cr, lr⟩ wg (HTa.out.ext HG'.out) HKa.out (HRs.out.ext HG'.out) HRa.out).mono ?_
  rintro e wh ⟨aa, ca, la, ea, rfl, HLa, hca, hxh⟩
  have HH : Hid (Ext wo wh) := HG'.out.trans hxh
  have HLx1 : Hid (IsTbl wh ⟨ax', cx', lx⟩) := HLx.out.ext hxh
  have HCa := Lib.hid hca
  clear hxh hca HG' HLx
  obtain ⟨f0, f1, f2, f3, f4⟩ := TBox.five (HH.out.block HBc.out)
  go_wp2_with fail
  clear f0 f1 f2 f3 f4
  refine (Lines_gen tc ⟨ar, cr, lr⟩ wh (HTc.out.ext HH.out) HKc.out (HRs.out.ext HH.out) HRc.out).mono ?_
  rintro e wi ⟨ab, cb, lb, eb, rfl, HLb, hcb, hxi⟩
  have HI : Hid (Ext wo wi) := HH.out.trans hxi
  have HLx2 : Hid (IsTbl wi ⟨ax', cx', lx⟩) := HLx1.out.ext hxi
  have HLa2 : Hid (IsTbl wi ⟨aa, ca, la⟩) := HLa.out.ext hxi
  have HCb := Lib.hid hcb
  clear hxi hcb HH HLx1 HLa
  by_cases hok : ex = 0 ∧ ea = 0 ∧ eb = 0
  · obtain ⟨rfl, rfl, rfl⟩ := hok
    obtain ⟨qx, qx2⟩ : lx.map (fun r => r.l) = linesR t (leadsOf t lr) ∧ (linesR t (leadsOf t lr)).length ≤ 200 := (HCx.out.resolve_right (by decide)).2
    obtain ⟨qa, qa2⟩ : la.map (fun r => r.l) = linesR ta (leadsOf ta lr) ∧ (linesR ta (leadsOf ta lr)).length ≤ 200 := (HCa.out.resolve_right (by decide)).2
    obtain ⟨qb, qb2⟩ : lb.map (fun r => r.l) = linesR tc (leadsOf tc lr) ∧ (linesR tc (leadsOf tc lr)).length ≤ 200 := (HCb.out.resolve_right (by decide)).2
    have hlx : lx.length ≤ 200 := by rw [← qx, List.length_map] at qx2; exact qx2
    have hla : la.length ≤ 200 := by rw [← qa, List.length_map] at qa2; exact qa2
    have hlb : lb.length ≤ 200 := by rw [← qb, List.length_map] at qb2; exact qb2
    have HPR : Hid (PartR k t.legs.l.length lx la lb) := part_rows HPT.out HK.out.start.1 HK.out.start.2 qx qa qb
    clear qx qx2 qa qa2 qb qb2 HCx HCa HCb
    go_wp2_with fail
    go_loopw [21, 162] (fun mv iv wr => ∃ (i c : Nat), i ≤ la.length ∧ iv = .int .i64 (i : Int) ∧ mv = .int .i64 (c : Int) ∧ Hid (c = metS k ((la.map fun r => r.l).take i) (lb.map fun r => r.l)) ∧ c ≤ 200 * i ∧ Hid (Ext wi wr)) (fun _ iv _ => la.length - (intOf iv).toNat)
    case atStart => exact ⟨0, 0, Nat.zero_le _, rfl, rfl, by simp [Hid, metS], by omega, Ext.refl _⟩
    case round =>
      obtain ⟨wj, rfl⟩ : ∃ wj : World, wj = wr := ⟨_, rfl⟩
      obtain ⟨i, c, hi, rfl, rfl, HC, hc, HXi⟩ := hrel
      by_cases hil : i < la.length
      · have di : decide ((i : Int) < (la.length : Int)) = true := by simpa using hil
        obtain ⟨ba, oa, rfl, hca⟩ := rows_at (⟨HLa2.out.1.ext HXi.out, fun r hr => (HLa2.out.2 r hr).ext HXi.out⟩ : IsTbl wj ⟨aa, ca, la⟩) (by omega)
        have cm := hca i hil
        have HMm : Hid (IsSl 1 num wj la[i]) := (HLa2.out.2 _ (List.getElem_mem hil)).ext HXi.out
        have HLm : Hid (la[i].l.length = k + 1) := HPR.out.a _ (List.getElem_mem hil)
        have HCn : Hid (metS k ((la.map fun r => r.l).take (i + 1)) (lb.map fun r => r.l) = metS k ((la.map fun r => r.l).take i) (lb.map fun r => r.l) + metN k la[i].l (lb.map fun r => r.l)) := by
          have := metS_succ k (la.map fun r => r.l) (lb.map fun r => r.l) i (by simpa using hil)
          rw [List.getElem_map] at this; exact this
        clear hca
        generalize la[i] = m at *
        obtain ⟨am, cpm, lm⟩ := m
        dsimp only at cm HMm HLm HCn
        have i0 : (0 : Int) ≤ (i : Int) := by omega
        have hlm : lm.length = k + 1 := HLm.out
        obtain ⟨bm, om, rfl, hcm, hnm⟩ := num_at HMm.out (by omega)
        have HNM : Hid (∀ V', Ext wj V' → V'.cell? ⟨bm, om + k, none⟩ = some (.int .i64 (gt lm k : Int))) := fun V' h => h.cell (hnm k (by omega))
        clear hlm hcm hnm
        go_wp2
        clear cm
        go_loopw [21, 168] (fun mv jv wr => ∃ (j d : Nat), j ≤ lb.length ∧ jv = .int .i64 (j : Int) ∧ mv = .int .i64 (d : Int) ∧ Hid (d = c + metN k lm ((lb.map fun r => r.l).take j)) ∧ d ≤ c + j ∧ Hid (Ext wj wr)) (fun _ jv _ => lb.length - (intOf jv).toNat)
        case atStart => exact ⟨0, c, Nat.zero_le _, rfl, rfl, by simp [Hid, metN], by omega, Ext.refl _⟩
        case round =>
          obtain ⟨wl, rfl⟩ : ∃ wl : World, wl = wr := ⟨_, rfl⟩
          obtain ⟨j, d, hj, rfl, rfl, HDd, hd, HXj⟩ := hrel
          by_cases hjl : j < lb.length
          · have dj : decide ((j : Int) < (lb.length : Int)) = true := by simpa using hjl
            obtain ⟨bb, ob, rfl, hcb⟩ := rows_at (⟨HLb.out.1.ext (HXi.out.trans HXj.out), fun r hr => (HLb.out.2 r hr).ext (HXi.out.trans HXj.out)⟩ : IsTbl wl ⟨ab, cb, lb⟩) (by omega)
            have cn := hcb j hjl
            have HMn : Hid (IsSl 1 num wl lb[j]) := (HLb.out.2 _ (List.getElem_mem hjl)).ext (HXi.out.trans HXj.out)
            have HLn : Hid (lb[j].l.length = t.legs.l.length - k + 1) := HPR.out.b _ (List.getElem_mem hjl)
            have HDn : Hid (metN k lm ((lb.map fun r => r.l).take (j + 1)) = metN k lm ((lb.map fun r => r.l).take j) + if metB k lm lb[j].l then 1 else 0) := by
              have := metN_succ k lm (lb.map fun r => r.l) j (by simpa using hjl)
              rw [List.getElem_map] at this; exact this
            clear hcb
            generalize lb[j] = n at *
            obtain ⟨an, cpn, ln⟩ := n
            dsimp only at cn HMn HLn HDn
            have hln' : ln.length = t.legs.l.length - k + 1 := HLn.out
            obtain ⟨bn, on, rfl, hcn, hnn⟩ := num_at HMn.out (by omega)
            have c0 : wl.cell? ⟨bn, on, none⟩ = some (.int .i64 (gt ln 0 : Int)) := hnn 0 (by omega)
            have ck := HNM.out wl HXj.out
            have j0 : (0 : Int) ≤ (j : Int) := by omega
            have k0 : (0 : Int) ≤ (k : Int) := by omega
            have k1 : (k : Int) < (lm.length : Int) := by have := HLm.out; omega
            have k2 : (k : Int) ≤ (t.legs.l.length : Int) := by omega
            have k3 : (t.legs.l.length : Int) ≤ 10 := by omega
            have n0 : 0 < ln.length := by omega
            have n1 : (0 : Int) < (ln.length : Int) := by omega
            have q1 : ((lm.length : Int) != (k : Int) + 1) = false := by have := HLm.out; simp; omega
            have q2 : ((ln.length : Int) != (t.legs.l.length : Int) - (k : Int) + 1) = false := by simp; omega
            obtain ⟨-, -, -, -, f4⟩ := TBox.five ((HI.out.trans (HXi.out.trans HXj.out)).block HBt.out)
            clear hln' hcn hnn
            obtain ⟨p, hp⟩ : ∃ p, gt lm k = p := ⟨_, rfl⟩
            rw [hp] at ck
            have HP := Lib.hid hp
            clear hp
            by_cases hpq : p = gt ln 0
            · have dpq : ((p : Int) == (gt ln 0 : Int)) = true := by rw [hpq]; simp
              have HB1 : Hid (metB k lm ln = true) := by show metB k lm ln = true; unfold metB; rw [HP.out, hpq]; simp
              clear hpq
              generalize gt ln 0 = q at *
              go_wp2_with fail
              go_quiet (fail)
              go_wp2_with fail
              go_roundw
              case rel => exact ⟨j + 1, d + 1, by omega, by go_num, by go_num, by show _ = _; rw [HDn.out, HB1.out, HDd.out]; simp; omega, by omega, HXj.out.drewN _⟩
              case measure => simp [intOf]; omega
            · have dpq : ((p : Int) == (gt ln 0 : Int)) = false := by rw [beq_eq_false_iff_ne]; omega
              have HB1 : Hid (metB k lm ln = false) := by show metB k lm ln = false; unfold metB; rw [HP.out]; simpa using hpq
              clear hpq
              generalize gt ln 0 = q at *
              go_wp2_with fail
              go_quiet (fail)
              go_wp2_with fail
              go_roundw
              case rel => exact ⟨j + 1, d, by omega, by go_num, rfl, by show _ = _; rw [HDn.out, HB1.out, HDd.out]; simp, by omega, HXj.out.drewN _⟩
              case measure => simp [intOf]; omega
          · have hje : j = lb.length := by omega
            have dj : decide ((j : Int) < (lb.length : Int)) = false := decide_eq_false (by omega)
            have HDe : Hid (d = c + metN k lm (lb.map fun r => r.l)) := by
              have := HDd.out
              rwa [List.take_of_length_le (by rw [List.length_map]; omega)] at this
            clear hje
            go_wp2_with fail
            go_roundw
            case rel => exact ⟨i + 1, d, by omega, by go_num, rfl, by show _ = _; rw [HCn.out, HDe.out, HC.out], by omega, HXi.out.trans HXj.out⟩
            case measure => simp [intOf]; omega
      · have hie : i = la.length := by omega
        have di : decide ((i : Int) < (la.length : Int)) = false := decide_eq_false (by omega)
        have HCe : Hid (c = lx.length) := by
          have := HC.out
          rwa [List.take_of_length_le (by rw [List.length_map]; omega), HPR.out.m] at this
        clear hie HC
        go_wp2_with fail
        go_loopw [202] (fun iv wr => ∃ y : Nat, y ≤ lx.length ∧ iv = .int .i64 (y : Int) ∧ Hid (Ext wj wr)) (fun iv _ => lx.length - (intOf iv).toNat)
        case atStart => exact ⟨0, Nat.zero_le _, rfl, Ext.refl _⟩
        case round =>
          obtain ⟨wl, rfl⟩ : ∃ wl : World, wl = wr := ⟨_, rfl⟩
          obtain ⟨y, hy, rfl, HXl⟩ := hrel
          have EXl : Hid (Ext wi wl) := HXi.out.trans HXl.out
          by_cases hyl : y < lx.length
          · have dy : decide ((y : Int) < (lx.length : Int)) = true := by simpa using hyl
            obtain ⟨bx, ox, rfl, hcx⟩ := rows_at (⟨HLx2.out.1.ext EXl.out, fun r hr => (HLx2.out.2 r hr).ext EXl.out⟩ : IsTbl wl ⟨ax', cx', lx⟩) (by omega)
            have cq := hcx y hyl
            have HMq : Hid (IsSl 1 num wl lx[y]) := (HLx2.out.2 _ (List.getElem_mem hyl)).ext EXl.out
            obtain ⟨h1, h2, h3⟩ := HPR.out.x _ (List.getElem_mem hyl)
            clear hcx
            generalize lx[y] = q at *
            obtain ⟨aq, cpq, lq⟩ := q
            dsimp only at cq HMq h1 h2 h3
            obtain ⟨bq, oq, rfl, hcq, -⟩ := num_at HMq.out (by omega)
            have HT1 := Lib.hid h2
            have HT2 := Lib.hid h3
            have HL1 : Hid ((lq.take (k + 1)).length = k + 1) := by show _ = _; rw [List.length_take]; omega
            have HL2 : Hid ((lq.drop k).length = lq.length - k) := List.length_drop
            have y0 : (0 : Int) ≤ (y : Int) := by omega
            have k0 : (0 : Int) ≤ (k : Int) := by omega
            have k1 : (k : Int) + 1 ≤ (cpq : Int) := by omega
            have k2 : (k : Int) ≤ (lq.length : Int) := by omega
            have k3 : (k : Int) ≤ 10 := by omega
            have k4 : (t.legs.l.length : Int) ≤ 10 := by omega
            have k5 : ((k : Int) + 1).toNat = k + 1 := by omega
            have k6 : ¬ cpq = k := by omega
            have HDq : Hid (IsSl 1 num wl ⟨some ⟨bq, oq + k, none⟩, cpq - k, lq.drop k⟩) := by
              have := HMq.out.drop k
              rw [if_neg k6, Option.map_some, Addr.add_lit, Nat.mul_one] at this
              exact this
            have q1 : ((lq.length : Int) != (t.legs.l.length : Int) + 1) = false := by simp; omega
            clear h1 h2 h3 hcq
            obtain ⟨-, -, -, -, f4⟩ := TBox.five ((HI.out.trans EXl.out).block HBt.out)
            go_wp2_with fail
            clear f4
            refine (among_in wl.heap.size ⟨some ⟨bq, oq, none⟩, cpq, lq.take (k + 1)⟩ ⟨aa, ca, la⟩ _ (by show _ = some (Obj.cells #[Value.slice (some ⟨bq, oq, none⟩) (lq.take (k + 1)).length cpq] 24 (0, 0)); rw [HL1.out]; exact World.alloc_heap_new wl _) (IsSl.ext (HMq.out.take (k + 1)) ((Ext.refl wl).alloc _)) ⟨HLa2.out.1.ext (EXl.out.alloc _), fun r hr => (HLa2.out.2 r hr).ext (EXl.out.alloc _)⟩ HT1.out).mono ?_
            rintro e wm ⟨rfl, hxm⟩
            have EXm : Hid (Ext wl wm) := ((Ext.refl wl).alloc _).trans hxm
            clear hxm
            go_wp2_with fail
            refine (among_in wm.heap.size ⟨some ⟨bq, oq + k, none⟩, cpq - k, lq.drop k⟩ ⟨ab, cb, lb⟩ _ (by show _ = some (Obj.cells #[Value.slice (some ⟨bq, oq + k, none⟩) (lq.drop k).length (cpq - k)] 24 (0, 0)); rw [HL2.out]; exact World.alloc_heap_new wm _) (HDq.out.ext (EXm.out.alloc _)) ⟨HLb.out.1.ext ((EXl.out.trans EXm.out).alloc _), fun r hr => (HLb.out.2 r hr).ext ((EXl.out.trans EXm.out).alloc _)⟩ HT2.out).mono ?_
            rintro e wn ⟨rfl, hxn⟩
            have EXn : Hid (Ext wl wn) := (EXm.out.alloc _).trans hxn
            clear hxn
            go_wp2_with fail
            go_roundw
            case rel => exact ⟨y + 1, by omega, by go_num, HXl.out.trans EXn.out⟩
            case measure => simp [intOf]; omega
          · have hye : y = lx.length := by omega
            have dy : decide ((y : Int) < (lx.length : Int)) = false := decide_eq_false (by omega)
            have dm : ((c : Int) == (lx.length : Int)) = true := by rw [HCe.out]; simp
            clear hye
            go_wp2_with fail
            refine (awake_ok _).mono ?_
            rintro e wz ⟨rfl, hxz⟩
            have EXz : Hid (Ext w wz) := (EWo.out.trans (HI.out.trans EXl.out)).trans hxz
            clear hxz
            go_wp2_with fail
            go_ret
            exact ⟨rfl, EXz.out⟩
  · rcases HCx.out with ⟨rfl, -⟩ | rfl <;> rcases HCa.out with ⟨rfl, -⟩ | rfl <;> rcases HCb.out with ⟨rfl, -⟩ | rfl
    all_goals first
      | (exfalso; exact hok ⟨rfl, rfl, rfl⟩)
      | (clear hok HCx HCa HCb
         go_wp2_with fail
         refine (awake_ok _).mono ?_
         rintro e wz ⟨rfl, hxz⟩
         have EXz : Hid (Ext w wz) := (EWo.out.trans HI.out).trans hxz
         clear hxz
         go_wp2_with fail
         go_ret
         exact ⟨rfl, EXz.out⟩)
end Go.Proofs.YtdejaliegbmgaaaGreat
