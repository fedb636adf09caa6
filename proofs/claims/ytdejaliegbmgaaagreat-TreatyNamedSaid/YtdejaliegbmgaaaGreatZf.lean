/-
  TreatyNamed answers true for every input, and each argument reads afterwards as it read before: a treaty whose places, kinds and words are numbered otherwise has as many lines, with the new numbers, as many legs that must yield, and a line breaks the same legs. No condition beyond the statement's own.
-/
import Derived.Test.YtdejaliegbmgaaaGreatZe
import Derived.Test.YtdejaliegbmgaaaGreatZc
import Derived.Test.YtdejaliegbmgaaaGreatYd
import Derived.Deep.CutBlock
import Derived.Deep.RegionHeld3
import Derived.Test.YtdejaliegbmgaaaGreatRows
import Derived.WalkKit
import Derived.ProofKit
import Derived.OpenShut
import Derived.ShutString
import Derived.ChangeOld
import Derived.Below
import Derived.SizedLaws
namespace Go.Proofs.YtdejaliegbmgaaaGreat
open Go.RowKit

/-- The treaty with new numbers, in a box: its words are nil, its ways and legs none. -/
def Box8 (t : TV) (z : List Nat) (v0 : World) (s15 : Value) (wx : World) : Prop :=
  ∃ (O gw : Nat) (a : Option Addr) (c : Nat) (L : List Nat), s15 = .pointer (some ⟨O, 0, none⟩) ∧ v0.heap.size ≤ O ∧ v0.heap.size ≤ gw ∧ O ≠ gw ∧ Hid (MkT wx O t.P (.slice none 0 0) (.slice (some ⟨gw, 0, none⟩) t.words.l.length t.words.l.length) (.slice a L.length c) (.slice none 0 0)) ∧
    Hid (WsAt wx gw (List.replicate t.words.l.length ⟨none, 0, []⟩)) ∧ Hid (L.Perm z) ∧ Hid (L.Pairwise (· < ·)) ∧ Hid (∀ w', (∀ b, b < wx.heap.size → b ≠ O → b ≠ gw → w'.heap[b]? = wx.heap[b]?) → IsSl 1 num w' ⟨a, c, L⟩) ∧ Hid (Ext v0 wx)

theorem perm_bij {n : Nat} {L : List Nat} (hl : L.length = n) (hp : L.Perm (List.range n)) : ∃ i, Bij n (gt L) i :=
  bij_of hl ((hp.nodup_iff).2 List.nodup_range) (fun _ hx => List.mem_range.1 ((hp.mem_iff).1 hx))

theorem own_one {w w' : World} {base n c : Nat} {a : Option Addr} {xs : List Value} (h : w.ownsRow base 3 1 (.slice a n c) n xs) (k : ∀ g, (Value.slice a n c).ownBlock = some g → w'.heap[g]? = w.heap[g]?) : w'.ownsRow base 3 1 (.slice a n c) n xs := by
  obtain ⟨h1, h2⟩ := h
  refine ⟨h1, ?_⟩
  rcases h2 with h2 | ⟨g, cap, cur, e, hb, hh, r⟩
  · exact .inl h2
  · exact .inr ⟨g, cap, cur, e, hb, (k g (by rw [e]; rfl)).trans hh, r⟩
theorem grown_keep {X v : World} {row : Option Nat} {lo n : Nat} (hg : X.grownBy v row) (hrow : ∀ i, row = some i → lo ≤ i ∧ i < n) {b : Nat} {o : Obj} (hb : b < lo ∨ n ≤ b) (h : X.heap[b]? = some o) : v.heap[b]? = some o :=
  (hg.block b (Array.getElem?_eq_some_iff.1 h).1 (fun e => by have := hrow b e.symm; omega)).trans h
theorem alloc2_at {w v : World} {o o' : Obj} (h : Ext ((w.alloc o).alloc o') v) : v.heap[w.heap.size + 1]? = some o' := by
  have := h.block (World.alloc_heap_new (w.alloc o) o'); rwa [World.size_alloc] at this
theorem alloc1_at {w v : World} {o : Obj} (h : Ext (w.alloc o) v) : v.heap[w.heap.size]? = some o := h.block (World.alloc_heap_new w o)

theorem box8_fin {t : TV} {z L : List Nat} {y3 v2 W : World} {O gw lo n c : Nat} {a : Option Addr} {mc : Array Value} (MA : MkT W O t.P (.slice none 0 0) (.slice (some ⟨gw, 0, none⟩) t.words.l.length t.words.l.length) (.slice a L.length c) (.slice none 0 0)) (MG : W.heap[gw]? = some (.cells mc 82 (0, 0)))
    (hne : O ≠ gw) (hO : y3.heap.size ≤ O) (hgw : y3.heap.size ≤ gw) (hmc : wsA (List.replicate t.words.l.length ⟨none, 0, []⟩) = mc) (g : G2 O O v2 W) (ho : v2.ownsRow lo 3 1 (.slice a L.length c) L.length (nums L))
    (hrow : ∀ i, (Value.slice a L.length c).ownBlock = some i → lo ≤ i ∧ i < n) (h1 : O < lo ∨ n ≤ O) (h2 : gw < lo ∨ n ≤ gw) (hn : n ≤ v2.heap.size) (hX : Ext y3 v2) (hp : L.Perm z) (hs : L.Pairwise (· < ·)) (hl : L.length ≤ 12) : Box8 t z y3 (.pointer (some ⟨O, 0, none⟩)) W := by
  refine ⟨O, gw, a, c, L, rfl, hO, hgw, hne, MA, ?_, hp, hs, ?_, ext_g2 hX g hO hO⟩
  · show WsAt W gw _
    unfold WsAt
    rw [hmc]; exact MG
  · intro w' h
    refine own_sl (own_one ho fun i hi => ?_) (by omega)
    have := hrow i hi
    have hsz := g.size
    exact (h i (by omega) (by omega) (by omega)).trans (g.block i (by omega) (by omega) (by omega))

/-- TreatyNamed from where it makes the treaty with new numbers. -/
noncomputable def tailA : Code := ((Tryz.f7.body.bind (tailN 8)).getD .skip)

set_option maxRecDepth 1000000 in
set_option maxHeartbeats 8000000 in
theorem named_tailA {u0 u1 u2 u3 u4 u5 u9 u15 u16 u17 u18 u19 u20 u21 u22 u23 u24 u25 u26 u27 u28 u29 u30 u31 u32 u33 u34 u35 u36 u37 u38 u39 u40 u41 u42 u43 u44 u45 u46 u47 u48 u49 u50 u51 u52 u53 u54 u55 u56 u57 u58 u59 u60 u61 u62 u63 u64 u65 u66 u67 u68 u69 u70 u71 u72 u73 u74 u75 u76 u77 u78 u79 u80 u81 u82 u83 u84 u85 u86 u87 u88 u89 u90 u91 u92 u93 u94 u95 u96 u97 u98 u99 u100 u101 u102 u103 u104 u105 u106 u107 u108 u109 u110 u111 u112 u113 u114 u115 u116 u117 u118 u119 u120 u121 u122 u123 u124 u125 u126 u127 u128 u129 u130 u131 u132 u133 u134 u135 u136 u137 u138 u139 u140 u141 u142 u143 u144 u145 u146 u147 u148 u149 u150 u151 u152 u153 u154 u155 u156 u157 u158 u159 u160 u161 u162 u163 u164 u165 u166 u167 u168 u169 u170 u171 u172 u173 u174 u175 u176 u177 u178 u179 u180 u181 u182 u183 u184 u185 u186 u187 u188 u189 u190 u191 u192 u193 u194 u195 u196 u197 u198 u199 u200 u201 u202 u203 u204 u205 u206 u207 u208 u209 u210 u211 u212 u213 u214 u215 u216 u217 u218 u219 u220 u221 u222 u223 u224 u225 u226 u227 u228 u229 u230 u231 u232 u233 u234 u235 u236 u237 u238 u239 u240 u241 u242 u243 u244 u245 u246 u247 u248 u249 u250 u251 u252 u253 u254 u255 u256 u257 u258 u259 u260 u261 u262 u263 u264 u265 u266 u267 u268 u269 u270 u271 u272 u273 u274 u275 u276 u277 u278 u279 u280 u281 u282 u283 u284 u285 u286 u287 u288 u289 u290 u291 u292 u293 : Value} (w y3 : World) (T : Nat) (t : TV) (ar al ap ak aw : Option Addr) (cr cl cp ck cw : Nat) (lr ll lp lk lw : List Nat) (pi ki wi : Nat → Nat) (hN10 : t.legs.l.length ≤ 10)
    (HK : Hid (OkT t)) (HBp : Hid (Bij t.P (gt lp) pi)) (HBk : Hid (Bij 8 (gt lk) ki)) (HBw : Hid (Bij t.words.l.length (gt lw) wi))
    (HR : Hid (RdOk t lr)) (HPL : Hid (lp.length = t.P)) (HKL : Hid (lk.length = 8)) (HWL : Hid (lw.length = t.words.l.length)) (HLL : Hid (ll.length = t.legs.l.length + 1)) (HLP : Hid (∀ x ∈ ll, x < t.P)) (HL0 : Hid ((ll[0]?).getD 0 ∈ t.starts.l))
    (HTy : Hid (IsT y3 t)) (HBy : Hid (TBox y3 T t)) (HSry : Hid (IsSl 1 num y3 ⟨ar, cr, lr⟩)) (HSly : Hid (IsSl 1 num y3 ⟨al, cl, ll⟩)) (HSpy : Hid (IsSl 1 num y3 ⟨ap, cp, lp⟩)) (HSky : Hid (IsSl 1 num y3 ⟨ak, ck, lk⟩)) (HSwy : Hid (IsSl 1 num y3 ⟨aw, cw, lw⟩)) (EWy : Hid (Ext w y3)) :
    Code.wp Tryz.prog tailA (bodyPost Tryz.prog Tryz.f7 fun e w' => e = .returned (.bool true) ∧ Ext w w') ⟨#[u0, u1, u2, u3, u4, u5, .pointer (some ⟨T, 0, none⟩), .slice ar lr.length cr, .slice al ll.length cl, u9, .slice ap lp.length cp, .slice ak lk.length ck, .slice aw lw.length cw, .func (.func 45) #[] #[], .func (.func 46) #[] #[], u15, u16, u17, u18, u19, u20, u21, u22, u23, u24, u25, u26, u27, u28, u29, u30, u31, u32, u33, u34, u35, u36, u37, u38, u39, u40, u41, u42, u43, u44, u45, u46, u47, u48, u49, u50, u51, u52, u53, u54, u55, u56, u57, u58, u59, u60, u61, u62, u63, u64, u65, u66, u67, u68, u69, u70, u71, u72, u73, u74, u75, u76, u77, u78, u79, u80, u81, u82, u83, u84, u85, u86, u87, u88, u89, u90, u91, u92, u93, u94, u95, u96, u97, u98, u99, u100, u101, u102, u103, u104, u105, u106, u107, u108, u109, u110, u111, u112, u113, u114, u115, u116, u117, u118, u119, u120, u121, u122, u123, u124, u125, u126, u127, u128, u129, u130, u131, u132, u133, u134, u135, u136, u137, u138, u139, u140, u141, u142, u143, u144, u145, u146, u147, u148, u149, u150, u151, u152, u153, u154, u155, u156, u157, u158, u159, u160, u161, u162, u163, u164, u165, u166, u167, u168, u169, u170, u171, u172, u173, u174, u175, u176, u177, u178, u179, u180, u181, u182, u183, u184, u185, u186, u187, u188, u189, u190, u191, u192, u193, u194, u195, u196, u197, u198, u199, u200, u201, u202, u203, u204, u205, u206, u207, u208, u209, u210, u211, u212, u213, u214, u215, u216, u217, u218, u219, u220, u221, u222, u223, u224, u225, u226, u227, u228, u229, u230, u231, u232, u233, u234, u235, u236, u237, u238, u239, u240, u241, u242, u243, u244, u245, u246, u247, u248, u249, u250, u251, u252, u253, u254, u255, u256, u257, u258, u259, u260, u261, u262, u263, u264, u265, u266, u267, u268, u269, u270, u271, u272, u273, u274, u275, u276, u277, u278, u279, u280, u281, u282, u283, u284, u285, u286, u287, u288, u289, u290, u291, u292, u293], []⟩ y3 := by
  conv => arg 2; whnf
  conv => arg 4; dsimp only
  have hP12 := HK.out.p2
  have hW6 := HK.out.words
  go_upto_region 8 with (fail)
  go_cut [15] (fun s15 wx => Box8 t (t.starts.l.map (gt lp)) y3 s15 wx)
  case first =>
    have hmk : ∀ w, (Instr.makeSlice 23 (.int .i64 (t.words.l.length : Int)) (.int .i64 (t.words.l.length : Int))).run Tryz.prog w = .ok (.slice (some ⟨w.heap.size, 0, none⟩) t.words.l.length t.words.l.length) (w.alloc (.cells (madeCells #[Value.slice none 0 0] t.words.l.length) 82)) := fun w =>
      run_make_row' (P := Tryz.prog) 23 82 (.slice none 0 0) 24 Tryz.underlying23 info82 rfl .i64 .i64 t.words.l.length (by omega) (by omega) w
    have hmc : wsA (List.replicate t.words.l.length ⟨none, 0, []⟩) = madeCells #[Value.slice none 0 0] t.words.l.length := by
      refine Array.ext_getElem? fun i => ?_
      by_cases hi : i < t.words.l.length
      · simp [wsA, madeCells, hi, Nat.mod_one]
      · rw [Array.getElem?_eq_none (by simp [wsA]; omega), Array.getElem?_eq_none (by rw [size_madeCells]; omega)]
    generalize madeCells #[Value.slice none 0 0] t.words.l.length = mc at *
    have HMC := Lib.hid hmc
    clear hmc
    have HZ := Lib.hid (map_facts HBp.out HK.out.start.1 HK.out.start.2 HK.out.p2)
    have HRn := Lib.hid (fun (V : World) (h : Ext y3 V) => renamed_any t.starts ⟨ap, cp, lp⟩ V ((HTy.out.ext h).starts) (HSpy.out.ext h) (fun x hx => by have := HK.out.start.1 x hx; have := HPL.out; dsimp only; omega))
    dsimp only at HRn
    generalize t.starts.l.map (gt lp) = z at *
    have KT : Hid (∀ V, Ext y3 V → V.cell? ⟨T, 0, none⟩ = some (.int .i64 (t.P : Int)) ∧ V.cell? ⟨T, 2, none⟩ = some (.slice t.words.a t.words.l.length t.words.c) ∧ V.cell? ⟨T, 3, none⟩ = some (.slice t.starts.a t.starts.l.length t.starts.c)) := fun V h => by
      obtain ⟨f0, -, f2, f3, -⟩ := TBox.five (h.block HBy.out)
      exact ⟨f0, f2, f3⟩
    go_region_held3 (fun V => V.cell? ⟨T, 0, none⟩ = some (.int .i64 (t.P : Int)) ∧ V.cell? ⟨T, 2, none⟩ = some (.slice t.words.a t.words.l.length t.words.c) ∧ V.cell? ⟨T, 3, none⟩ = some (.slice t.starts.a t.starts.l.length t.starts.c))
      ((refine KT.out _ ?_; (with_reducible repeat (first | exact Ext.refl _ | exact X2.out | exact X1.out | refine Ext.drew ?_ | refine Ext.alloc ?_ _ | refine Ext.setCell ?_ (by first | exact Nat.le_refl _ | (have h1 := X1.out.size; have h2 := X2.out.size; dsimp only; omega) | (have h1 := X1.out.size; dsimp only; omega) | (dsimp only; omega)) _))))
      (first
        | (go_at_call 45; refine (HRn.out _ (by ((with_reducible repeat (first | exact Ext.refl _ | exact X1.out | refine Ext.drew ?_ | refine Ext.alloc ?_ _)); (first | done | fail)))).mono ?_; rintro e v1 ⟨a1, c1, rfl, ho1, hx1⟩; have X1 : Hid (Ext y3 v1) := Ext.trans (by ((with_reducible repeat (first | exact Ext.refl _ | refine Ext.drew ?_ | refine Ext.alloc ?_ _)); (first | done | fail))) hx1; obtain ⟨lo, hlo, hly, hlv, HO1⟩ : ∃ lo, Hid (lo = _) ∧ y3.heap.size ≤ lo ∧ lo ≤ v1.heap.size ∧ Hid (v1.ownsRow lo 3 1 (.slice a1 z.length c1) z.length (nums z)) := ⟨_, rfl, Ext.size (by ((with_reducible repeat (first | exact Ext.refl _ | refine Ext.drew ?_ | refine Ext.alloc ?_ _)); (first | done | fail))), hx1.size, ho1⟩; (try (have L1 : Hid (lo = y3.heap.size + 1) := hlo.out.trans (by with_reducible exact sz1d y3 _))); (try (have L2 : Hid (lo = y3.heap.size + 2) := hlo.out.trans (by with_reducible exact sz2d y3 _ _))); (try (have M1 : Hid (v1.heap[y3.heap.size]? = some (.cells mc 82 (0, 0))) := alloc1_at (Ext.trans (by ((with_reducible repeat (first | exact Ext.refl _ | refine Ext.drew ?_ | refine Ext.alloc ?_ _)); (first | done | fail))) hx1))); (try (have M1' : Hid (v1.heap[y3.heap.size + 1]? = some (.cells mc 82 (0, 0))) := alloc2_at (o := boxZ) (Ext.trans (by ((with_reducible repeat (first | exact Ext.refl _ | refine Ext.drew ?_ | refine Ext.alloc ?_ _)); (first | done | fail))) hx1))); (try (have A1 : Hid (ZB v1 y3.heap.size) := alloc1_at (o := boxZ) (Ext.trans (by ((with_reducible repeat (first | exact Ext.refl _ | refine Ext.drew ?_ | refine Ext.alloc ?_ _)); (first | done | fail))) hx1))); (try (have A1' : Hid (ZB v1 (y3.heap.size + 1)) := alloc2_at (o := .cells mc 82) (o' := boxZ) (Ext.trans (by ((with_reducible repeat (first | exact Ext.refl _ | refine Ext.drew ?_ | refine Ext.alloc ?_ _)); (first | done | fail))) hx1))); clear ho1 hx1)
        | (go_at_call 46; refine (sorted_g lo c1 a1 z _ (own_ext HO1.out (by ((with_reducible repeat (first | exact Ext.refl _ | refine Ext.drew ?_ | refine Ext.alloc ?_ _)); (first | done | fail)))) HZ.out.1).mono ?_; rintro e v2 ⟨L, rfl, hL, hP, hS, ho2, hg⟩; have hR1 := HO1.out.lt; have X2 : Hid (Ext y3 v2) := ext_grown_of (by ((with_reducible repeat (first | exact Ext.refl _ | exact X1.out | refine Ext.drew ?_ | refine Ext.alloc ?_ _)); (first | done | fail))) hg (fun i hi => Nat.le_trans hly (hR1 i hi).1); have hv12 : v1.heap.size ≤ v2.heap.size := Nat.le_trans (Ext.size (by ((with_reducible repeat (first | exact Ext.refl _ | refine Ext.drew ?_ | refine Ext.alloc ?_ _)); (first | done | fail)))) hg.size; (try (have M2 : Hid (v2.heap[y3.heap.size]? = some (.cells mc 82 (0, 0))) := grown_keep hg hR1 (.inl (by first | (have q := L1.out; omega) | (have q := L2.out; omega) | fail)) (Ext.block (by ((with_reducible repeat (first | exact Ext.refl _ | refine Ext.drew ?_ | refine Ext.alloc ?_ _)); (first | done | fail))) M1.out))); (try (have M2' : Hid (v2.heap[y3.heap.size + 1]? = some (.cells mc 82 (0, 0))) := grown_keep hg hR1 (.inl (by first | (have q := L2.out; omega) | fail)) (Ext.block (by ((with_reducible repeat (first | exact Ext.refl _ | refine Ext.drew ?_ | refine Ext.alloc ?_ _)); (first | done | fail))) M1'.out))); (try (have M3 : Hid (v2.heap[v1.heap.size]? = some (.cells mc 82 (0, 0))) := grown_keep hg hR1 (.inr (Nat.le_refl _)) (alloc1_at (by ((with_reducible repeat (first | exact Ext.refl _ | refine Ext.drew ?_ | refine Ext.alloc ?_ _)); (first | done | fail)))))); (try (have M3' : Hid (v2.heap[v1.heap.size + 1]? = some (.cells mc 82 (0, 0))) := grown_keep hg hR1 (.inr (Nat.le_succ _)) (alloc2_at (o := boxZ) (by ((with_reducible repeat (first | exact Ext.refl _ | refine Ext.drew ?_ | refine Ext.alloc ?_ _)); (first | done | fail)))))); (try (have A2 : Hid (ZB v2 y3.heap.size) := grown_keep hg hR1 (.inl (by first | (have q := L1.out; omega) | (have q := L2.out; omega) | fail)) (Ext.block (by ((with_reducible repeat (first | exact Ext.refl _ | refine Ext.drew ?_ | refine Ext.alloc ?_ _)); (first | done | fail))) A1.out))); (try (have A2' : Hid (ZB v2 (y3.heap.size + 1)) := grown_keep hg hR1 (.inl (by first | (have q := L2.out; omega) | fail)) (Ext.block (by ((with_reducible repeat (first | exact Ext.refl _ | refine Ext.drew ?_ | refine Ext.alloc ?_ _)); (first | done | fail))) A1'.out))); (try (have A3 : Hid (ZB v2 v1.heap.size) := grown_keep hg hR1 (.inr (Nat.le_refl _)) (alloc1_at (o := boxZ) (by ((with_reducible repeat (first | exact Ext.refl _ | refine Ext.drew ?_ | refine Ext.alloc ?_ _)); (first | done | fail)))))); (try (have A3' : Hid (ZB v2 (v1.heap.size + 1)) := grown_keep hg hR1 (.inr (Nat.le_succ _)) (alloc2_at (o := .cells mc 82) (o' := boxZ) (by ((with_reducible repeat (first | exact Ext.refl _ | refine Ext.drew ?_ | refine Ext.alloc ?_ _)); (first | done | fail)))))); have HR1 := Lib.hid hR1; have HO2 := Lib.hid ho2; have HPz := Lib.hid hP; have HSz : Hid (L.Pairwise (· < ·)) := srt_pairwise (by rw [hL]; exact hS) ((hP.nodup_iff).2 HZ.out.2.1); have HLz : Hid (L.length = z.length) := hL; clear ho2 hR1 hL hP hS hg)
        | (go_simp; (fail_if_success unfold Oper.upon))
        | (obtain ⟨q0, q1, q2, q3, q4, qf⟩ := A2.out.five; go_simp; (fail_if_success unfold Oper.upon))
        | (obtain ⟨q0, q1, q2, q3, q4, qf⟩ := (A2.out.al (.cells mc 82)).five; go_simp; (fail_if_success unfold Oper.upon))
        | (obtain ⟨q0, q1, q2, q3, q4, qf⟩ := A2'.out.five; go_simp; (fail_if_success unfold Oper.upon))
        | (obtain ⟨q0, q1, q2, q3, q4, qf⟩ := (A2'.out.al (.cells mc 82)).five; go_simp; (fail_if_success unfold Oper.upon))
        | (obtain ⟨q0, q1, q2, q3, q4, qf⟩ := A3.out.five; go_simp; (fail_if_success unfold Oper.upon))
        | (obtain ⟨q0, q1, q2, q3, q4, qf⟩ := (A3.out.al (.cells mc 82)).five; go_simp; (fail_if_success unfold Oper.upon))
        | (obtain ⟨q0, q1, q2, q3, q4, qf⟩ := A3'.out.five; go_simp; (fail_if_success unfold Oper.upon))
        | (obtain ⟨q0, q1, q2, q3, q4, qf⟩ := (A3'.out.al (.cells mc 82)).five; go_simp; (fail_if_success unfold Oper.upon))
        | (obtain ⟨q0, q1, q2, q3, q4, qf⟩ := (zb_at v2).five; go_simp; (fail_if_success unfold Oper.upon))
        | (obtain ⟨q0, q1, q2, q3, q4, qf⟩ := ((zb_at v2).al (.cells mc 82)).five; go_simp; (fail_if_success unfold Oper.upon)))
    all_goals go_wp2_with fail
    all_goals go_meet
    all_goals (try (have t0 := A1.out.lt))
    all_goals (try (have t1 := A1'.out.lt))
    all_goals (try (have t2 := A2.out.lt))
    all_goals (try (have t3 := A2'.out.lt))
    all_goals (try (have t4 := A3.out.lt))
    all_goals (try (have t5 := A3'.out.lt))
    all_goals (try (have u0 := (Array.getElem?_eq_some_iff.1 M1.out).1))
    all_goals (try (have u1 := (Array.getElem?_eq_some_iff.1 M1'.out).1))
    all_goals (try (have u2 := (Array.getElem?_eq_some_iff.1 M2.out).1))
    all_goals (try (have u3 := (Array.getElem?_eq_some_iff.1 M2'.out).1))
    all_goals (try (have u4 := (Array.getElem?_eq_some_iff.1 M3.out).1))
    all_goals (try (have u5 := (Array.getElem?_eq_some_iff.1 M3'.out).1))
    all_goals (try (have q1 := L1.out))
    all_goals (try (have q2 := L2.out))
    all_goals (have g1 := X1.out.size)
    all_goals (have g2 := X2.out.size)
    all_goals (have hrw : ∀ i, (Value.slice a1 L.length c1).ownBlock = some i → lo ≤ i ∧ i < v1.heap.size := by rw [HLz.out]; exact HR1.out)
    all_goals (have hz12 : L.length ≤ 12 := by have := HLz.out; have := HZ.out.1; omega)
    all_goals
      refine box8_fin (lo := lo) (n := v1.heap.size) (v2 := v2) (mc := mc) (by first | with_reducible exact mkt_new _ _ _ _ _ _ | with_reducible exact mkt_new1 _ _ _ _ _ _ _ | with_reducible exact (mkt_new _ _ _ _ _ _).al _ | with_reducible exact zb_set A2.out | with_reducible exact zb_set (A2.out.al _) | with_reducible exact zb_set A2'.out | with_reducible exact zb_set (A2'.out.al _) | with_reducible exact zb_set A3.out | with_reducible exact zb_set (A3.out.al _) | with_reducible exact zb_set A3'.out | with_reducible exact zb_set (A3'.out.al _)) ?_ ?_ ?_ ?_ HMC.out ?_ HO2.out hrw ?_ ?_ hv12 X2.out HPz.out HSz.out hz12
      · ((with_reducible repeat (refine heap_set_other _ _ _ _ ?_ (by omega))); (first | with_reducible exact M2.out | with_reducible exact ((Ext.refl v2).alloc _).block M2.out | with_reducible exact M2'.out | with_reducible exact ((Ext.refl v2).alloc _).block M2'.out | with_reducible exact M3.out | with_reducible exact ((Ext.refl v2).alloc _).block M3.out | with_reducible exact M3'.out | with_reducible exact ((Ext.refl v2).alloc _).block M3'.out | with_reducible exact World.alloc_heap_new v2 _ | with_reducible exact ((Ext.refl (v2.alloc _)).alloc _).block (World.alloc_heap_new v2 _) | with_reducible exact alloc2_at (Ext.refl _)))
      · omega
      · omega
      · omega
      · (with_reducible repeat (first | exact G2.refl _ _ _ | refine G2.al ?_ _ | refine G2.setA ?_ _ _))
      · omega
      · omega
  case rest =>
    obtain ⟨O, gw, a8, c8, L8, rfl, hO, hgw, hOw, HMO, HWs, HP8, HS8, K8, EX8⟩ := hcut
    have hlr := HR.out.1
    obtain ⟨mc, hmc⟩ : ∃ mc, madeCells #[Value.int .i64 0] t.words.l.length = mc := ⟨_, rfl⟩
    have hmk : ∀ w, (Instr.makeSlice 24 (.int .i64 (lr.length : Int)) (.int .i64 (lr.length : Int))).run Tryz.prog w = .ok (.slice (some ⟨w.heap.size, 0, none⟩) t.words.l.length t.words.l.length) (w.alloc (.cells mc 3)) := by
      intro w
      rw [hlr, ← hmc]
      exact run_make_row' (P := Tryz.prog) 24 3 (.int .i64 0) 8 Tryz.underlying24 info3 rfl .i64 .i64 t.words.l.length (by omega) (by omega) w
    have hrow : Row (wc.alloc (.cells mc 3)) wc.heap.size (List.replicate t.words.l.length 0) t.words.l.length := by
      refine ⟨mc, World.alloc_heap_new wc _, by rw [← hmc, size_madeCells], by simp, fun i hi => ?_⟩
      rw [List.length_replicate] at hi
      rw [← hmc]
      simp [madeCells, hi, Nat.mod_one]
    have hOc : O < wc.heap.size := (Array.getElem?_eq_some_iff.1 HMO.out).1
    have hgc : gw < wc.heap.size := (Array.getElem?_eq_some_iff.1 HWs.out).1
    have hyc : y3.heap.size ≤ wc.heap.size := EX8.out.size
    have HRow := Lib.hid hrow
    have HMX : Hid (MkT (wc.alloc (.cells mc 3)) O t.P (.slice none 0 0) (.slice (some ⟨gw, 0, none⟩) t.words.l.length t.words.l.length) (.slice a8 L8.length c8) (.slice none 0 0)) := HMO.out.al _
    have HWX : Hid (WsAt (wc.alloc (.cells mc 3)) gw (List.replicate t.words.l.length ⟨none, 0, []⟩)) := ((Ext.refl wc).alloc _).block HWs.out
    have HKX : Hid (∀ w', (∀ b, b < (wc.alloc (.cells mc 3)).heap.size → b ≠ O → b ≠ gw → b ≠ wc.heap.size → w'.heap[b]? = (wc.alloc (.cells mc 3)).heap[b]?) → IsSl 1 num w' ⟨a8, c8, L8⟩) := by
      intro w' h
      refine K8.out w' (fun b hb h1 h2 => (h b (by rw [World.size_alloc]; omega) h1 h2 (by omega)).trans (Below.block ((Ext.refl wc).alloc _) b hb))
    have HEX : Hid (Ext y3 (wc.alloc (.cells mc 3))) := EX8.out.alloc _
    have HSt : Hid (Img (gt lp) t.starts.l L8) := by
      intro q
      rw [HP8.out.mem_iff, List.mem_map]
      exact ⟨fun ⟨x, h1, h2⟩ => ⟨x, h1, h2.symm⟩, fun ⟨x, h1, h2⟩ => ⟨x, h1, h2.symm⟩⟩
    clear hmc hrow hlr
    repeat (first
      | exact named_tailB w y3 (wc.alloc (.cells mc 3)) T O t.P gw wc.heap.size t ⟨a8, c8, L8⟩ ar al ap ak aw cr cl cp ck cw lr ll lp lk lw pi ki wi hN10 HK HBp HBk HBw rfl HSt HS8 HR HPL.out HKL.out HWL.out HLL.out HLP HL0 HTy HBy HSry HSly HSpy HSky HSwy hO hgw hyc hOw (by omega) (by omega) HMX HWX HRow HKX EWy HEX
      | go_step)
end Go.Proofs.YtdejaliegbmgaaaGreat

namespace Go.Proofs.YtdejaliegbmgaaaGreat
open Go.RowKit

set_option maxRecDepth 1000000 in
set_option maxHeartbeats 8000000 in
theorem named_any (a1 a2 : Option Addr) (n1 c1 n2 c2 : Nat) (w : World) (h1 : IsBytes w a1 n1 c1) (h2 : IsBytes w a2 n2 c2) :
    Calls Tryz.prog 7 #[.slice a1 n1 c1, .slice a2 n2 c2] w fun e w' => e = .returned (.bool true) ∧ Ext w w' := by
  have H1 := Lib.hid h1; clear h1
  have H2 := Lib.hid h2; clear h2
  go_enter Tryz.func7, Tryz.ntmps7
  go_wp2_with fail
  refine (of_any a1 n1 c1 w H1.out).mono ?_
  rintro e w1 ⟨rfl, hd1, hx1⟩
  go_wp2_with fail
  have HX1 : Hid (Ext w w1) := hx1
  have HMd := made_any w.heap.size a1 n1 c1 0 4 w1 hd1 (bytes_lt (deck_bytes hd1)) (by omega) (by omega)
  clear hd1 hx1
  refine HMd.mono ?_
  clear HMd
  rintro e w2 ⟨t, k2, rfl, hT2, hK, hl4, hd2, hk2, hx2⟩
  have HK := Lib.hid hK
  have HT2 := Lib.hid hT2
  have HD2 := Lib.hid hd2
  have EW2 : Hid (Ext w w2) := ((Ext.refl w).trans HX1.out).dext hx2 (Nat.le_refl _)
  have hw2 : w.heap.size < w2.heap.size := by have := hd2.lt; exact this
  clear hT2 hK hd2 hx2 HX1
  go_upto_region 3 with (fail)
  obtain ⟨wb, hwb⟩ : ∃ wb, w2.alloc (.cells #[.int .i64 (t.P : Int), .slice t.ways.a t.ways.l.length t.ways.c, .slice t.words.a t.words.l.length t.words.c, .slice t.starts.a t.starts.l.length t.starts.c, .slice t.legs.a t.legs.l.length t.legs.c] 27) = wb := ⟨_, rfl⟩
  have HBb : Hid (TBox wb w2.heap.size t) := by rw [← hwb]; exact World.alloc_heap_new w2 _
  have hxb : Ext w2 wb := by rw [← hwb]; exact (Ext.refl w2).alloc _
  have hxd : DExt w.heap.size w2 wb := (DExt.refl _ w2).ext hxb
  rw [hwb]
  clear hwb
  have HTb : Hid (IsTo w.heap.size wb t) := HT2.out.dext hxd
  have HDb : Hid (IsDeck wb w.heap.size a1 n1 c1 k2) := HD2.out.ext hxb
  have EWb : Hid (Ext w wb) := EW2.out.trans hxb
  have h2b : w2.heap.size < wb.heap.size := (Array.getElem?_eq_some_iff.1 HBb.out).1
  clear hxb hxd HT2 HD2 EW2
  have hDb : w.heap.size < wb.heap.size := by omega
  have hbb : Hid (∀ b off, a1 = some ⟨b, off, none⟩ → 0 < n1 → b < wb.heap.size) := bytes_lt (deck_bytes HDb.out)
  have KB : Hid (∀ V, DExt w.heap.size wb V → TBox V w2.heap.size t) := fun V h => (h.block w2.heap.size h2b (by simp; omega)).trans HBb.out
  have KF : Hid (∀ V, DExt w.heap.size wb V → V.cell? ⟨w2.heap.size, 0, none⟩ = some (.int .i64 (t.P : Int)) ∧ V.cell? ⟨w2.heap.size, 1, none⟩ = some (.slice t.ways.a t.ways.l.length t.ways.c) ∧ V.cell? ⟨w2.heap.size, 2, none⟩ = some (.slice t.words.a t.words.l.length t.words.c) ∧ V.cell? ⟨w2.heap.size, 3, none⟩ = some (.slice t.starts.a t.starts.l.length t.starts.c) ∧ V.cell? ⟨w2.heap.size, 4, none⟩ = some (.slice t.legs.a t.legs.l.length t.legs.c)) := fun V h => TBox.five (KB.out V h)
  go_region_held3 (fun V => V.cell? ⟨w2.heap.size, 0, none⟩ = some (.int .i64 (t.P : Int)) ∧ V.cell? ⟨w2.heap.size, 1, none⟩ = some (.slice t.ways.a t.ways.l.length t.ways.c) ∧ V.cell? ⟨w2.heap.size, 2, none⟩ = some (.slice t.words.a t.words.l.length t.words.c) ∧ V.cell? ⟨w2.heap.size, 3, none⟩ = some (.slice t.starts.a t.starts.l.length t.starts.c) ∧ V.cell? ⟨w2.heap.size, 4, none⟩ = some (.slice t.legs.a t.legs.l.length t.legs.c))
    (first | exact KF.out _ (DExt.refl _ _) | exact KF.out _ (DExt.refl _ _).drew' | exact KF.out _ GX1.out | exact KF.out _ GX2.out)
    (first
      | (go_at_call 37; refine (readDeal_any w.heap.size a1 n1 c1 k2 t _ (HDb.out.ext (Ext.refl wb).drew) hbb.out (by omega) (HTb.out.dext ((DExt.refl _ wb).drew')) HK.out).mono ?_; rintro e x1 ⟨ar, cr, lr, k3, rfl, hO3, hR3, hd3, hk3, hx3⟩; have GX1 : Hid (DExt w.heap.size wb x1) := ((DExt.refl _ wb).drew').trans hx3; have HD3 := Lib.hid hd3; have HR := Lib.hid hR3; have HOr : Hid (x1.ownsRow wb.heap.size 3 1 (.slice ar lr.length cr) lr.length (nums lr)) := hO3; clear hO3 hR3 hd3 hx3)
      | (go_at_call 39; refine (gone_any w.heap.size a1 n1 c1 k3 t x1 HD3.out (fun b off e1 e2 => Nat.lt_of_lt_of_le (hbb.out b off e1 e2) GX1.out.size) (by omega) (HTb.out.dext GX1.out) HK.out).mono ?_; rintro e x2 ⟨al, cl, ll, k4, rfl, hO4, hll, hlt, hl0, -, -, hx4⟩; have GX2 : Hid (DExt w.heap.size wb x2) := GX1.out.trans hx4; have HOr2 : Hid (x2.ownsRow wb.heap.size 3 1 (.slice ar lr.length cr) lr.length (nums lr)) := G2.own HOr.out ((G2.refl _ _ x1).dext hx4) hDb hDb; have HOl := Lib.hid hO4; have HLL := Lib.hid hll; have HLP := Lib.hid hlt; have HL0 := Lib.hid hl0; clear hO4 hll hlt hl0 hx4))
  go_wp2_with fail
  have HT3 : Hid (IsT x2 t) := (HTb.out.dext GX2.out).at
  have HB3 : Hid (TBox x2 w2.heap.size t) := KB.out x2 GX2.out
  have EW3 : Hid (Ext w x2) := EWb.out.dext GX2.out (Nat.le_refl _)
  have hN10 := HK.out.legs
  have HSr3 : Hid (IsSl 1 num x2 ⟨ar, cr, lr⟩) := own_sl HOr2.out (by have := HR.out.1; have := HK.out.words; omega)
  have HSl3 : Hid (IsSl 1 num x2 ⟨al, cl, ll⟩) := own_sl HOl.out (by have := HLL.out; omega)
  clear HOr HOr2 HOl HDb HTb HBb EWb KF HD3 GX1
  refine (of_any a2 n2 c2 x2 (H2.out.ext EW3.out)).mono ?_
  rintro e x3 ⟨rfl, hd5, hx5⟩
  have HD5 := Lib.hid hd5
  have EX3 : Hid (Ext x2 x3) := hx5
  have hD3 : x2.heap.size < x3.heap.size := hd5.lt
  have hb2 : Hid (∀ b off, a2 = some ⟨b, off, none⟩ → 0 < n2 → b < x2.heap.size) := bytes_lt (H2.out.ext EW3.out)
  clear hd5 hx5
  have hP12 := HK.out.p2
  have hW6 := HK.out.words
  have hbx : w2.heap.size < x2.heap.size := (Array.getElem?_eq_some_iff.1 HB3.out).1
  have KG : Hid (∀ V, DExt x2.heap.size x3 V → V.cell? ⟨w2.heap.size, 0, none⟩ = some (.int .i64 (t.P : Int)) ∧ V.cell? ⟨w2.heap.size, 2, none⟩ = some (.slice t.words.a t.words.l.length t.words.c)) := fun V h => by
    obtain ⟨f0, -, f2, -, -⟩ := TBox.five (show TBox V w2.heap.size t from (EX3.out.dext h (Nat.le_refl _)).block HB3.out)
    exact ⟨f0, f2⟩
  go_upto_region 5 with (fail)
  go_region_held3 (fun V => V.cell? ⟨w2.heap.size, 0, none⟩ = some (.int .i64 (t.P : Int)) ∧ V.cell? ⟨w2.heap.size, 2, none⟩ = some (.slice t.words.a t.words.l.length t.words.c))
    (first | exact KG.out _ (DExt.refl _ _) | exact KG.out _ (DExt.refl _ _).drew' | exact KG.out _ HY1.out | exact KG.out _ HY2.out | exact KG.out _ HY3.out)
    (first
      | (go_at_call 44; refine (shuffle_any x2.heap.size a2 n2 c2 k6 t.words.l.length y2 HE2.out (fun b off e1 e2 => Nat.lt_of_lt_of_le (hb2.out b off e1 e2) (Nat.le_trans (Nat.le_of_lt hD3) HY2.out.size)) (by omega) (by omega)).mono ?_; rintro e y3 ⟨aw, cw, lw, k7, rfl, hOw, hlw, hpw, -, -, hxw⟩; have HY3 : Hid (DExt x2.heap.size x3 y3) := HY2.out.trans hxw; have HOp3 : Hid (y3.ownsRow x3.heap.size 3 1 (.slice ap lp.length cp) lp.length (nums lp)) := G2.own HOp2.out ((G2.refl _ _ y2).dext hxw) hD3 hD3; have HOk3 : Hid (y3.ownsRow x3.heap.size 3 1 (.slice ak lk.length ck) lk.length (nums lk)) := G2.own HOk.out ((G2.refl _ _ y2).dext hxw) hD3 hD3; have HOw : Hid (y3.ownsRow x3.heap.size 3 1 (.slice aw lw.length cw) lw.length (nums lw)) := own_mono hOw HY2.out.size; have HWL := Lib.hid hlw; have HPw := Lib.hid hpw; clear hOw hlw hpw hxw)
      | (go_at_call 44; refine (shuffle_any x2.heap.size a2 n2 c2 k5 8 y1 HE1.out (fun b off e1 e2 => Nat.lt_of_lt_of_le (hb2.out b off e1 e2) (Nat.le_trans (Nat.le_of_lt hD3) HY1.out.size)) (by omega) (by omega)).mono ?_; rintro e y2 ⟨ak, ck, lk, k6, rfl, hOk, hlk, hpk, hd6, hk6, hxk⟩; have HY2 : Hid (DExt x2.heap.size x3 y2) := HY1.out.trans hxk; have HOp2 : Hid (y2.ownsRow x3.heap.size 3 1 (.slice ap lp.length cp) lp.length (nums lp)) := G2.own HOp.out ((G2.refl _ _ y1).dext hxk) hD3 hD3; have HOk : Hid (y2.ownsRow x3.heap.size 3 1 (.slice ak lk.length ck) lk.length (nums lk)) := own_mono hOk HY1.out.size; have HE2 := Lib.hid hd6; have HKL := Lib.hid hlk; have HPk := Lib.hid hpk; clear hOk hlk hpk hd6 hxk)
      | (go_at_call 44; refine (shuffle_any x2.heap.size a2 n2 c2 0 t.P x3.drew (HD5.out.ext (Ext.refl x3).drew) (fun b off e1 e2 => Nat.lt_trans (hb2.out b off e1 e2) hD3) (by omega) (by omega)).mono ?_; rintro e y1 ⟨ap, cp, lp, k5, rfl, hOp, hlp, hpp, hd5', hk5, hxp⟩; have HY1 : Hid (DExt x2.heap.size x3 y1) := ((DExt.refl _ x3).drew').trans hxp; have HOp : Hid (y1.ownsRow x3.heap.size 3 1 (.slice ap lp.length cp) lp.length (nums lp)) := hOp; have HE1 := Lib.hid hd5'; have HPL := Lib.hid hlp; have HPp := Lib.hid hpp; clear hOp hlp hpp hd5' hxp))
  obtain ⟨pi, hbp⟩ := perm_bij HPL.out HPp.out
  obtain ⟨ki, hbk⟩ := perm_bij HKL.out HPk.out
  obtain ⟨wi, hbw⟩ := perm_bij HWL.out HPw.out
  have HBp := Lib.hid hbp
  have HBk := Lib.hid hbk
  have HBw := Lib.hid hbw
  clear hbp hbk hbw
  have EX5 : Hid (Ext x2 y3) := EX3.out.dext HY3.out (Nat.le_refl _)
  have EWy : Hid (Ext w y3) := EW3.out.trans EX5.out
  have HTy : Hid (IsT y3 t) := HT3.out.ext EX5.out
  have HBy : Hid (TBox y3 w2.heap.size t) := EX5.out.block HB3.out
  have HSry : Hid (IsSl 1 num y3 ⟨ar, cr, lr⟩) := HSr3.out.ext EX5.out
  have HSly : Hid (IsSl 1 num y3 ⟨al, cl, ll⟩) := HSl3.out.ext EX5.out
  have HSpy : Hid (IsSl 1 num y3 ⟨ap, cp, lp⟩) := own_sl HOp3.out (by have := HPL.out; omega)
  have HSky : Hid (IsSl 1 num y3 ⟨ak, ck, lk⟩) := own_sl HOk3.out (by have := HKL.out; omega)
  have HSwy : Hid (IsSl 1 num y3 ⟨aw, cw, lw⟩) := own_sl HOw.out (by have := HWL.out; omega)
  clear HY1 HY2 HY3 HE1 HE2 HOp HOp2 HOp3 HOk HOk3 HOw HPp HPk HPw KG HD5 EX3 HT3 HB3 HSr3 HSl3
  repeat (first
    | exact named_tailA w y3 w2.heap.size t ar al ap ak aw cr cl cp ck cw lr ll lp lk lw pi ki wi hN10 HK HBp HBk HBw HR HPL HKL HWL HLL HLP HL0 HTy HBy HSry HSly HSpy HSky HSwy EWy
    | go_step)
end Go.Proofs.YtdejaliegbmgaaaGreat

namespace Go.Proofs.YtdejaliegbmgaaaGreat.treatyNamed
open Go.ChangeShapes Go.WideShapes Go.ChangeAt Go.RowKit
open Go.ChangeMaps (open_string shut_string)
set_option linter.unusedVariables false

theorem own : ownKnob Tryz.prog.godebug = none := by kernel_rfl
theorem laidOut : laidOutB Tryz.prog = true := by kernel_rfl

/-- A slice of integers that came in: it is nil, or it leads to a row of cap cells, the numbers zs, each of which fits its kind. -/
def IsRow (k : IntKind) (w : World) (a : Option Addr) (len cap : Nat) (zs : List Int) : Prop :=
  (a = none ∧ len = 0 ∧ cap = 0 ∧ zs = []) ∨
  ∃ x, a = some x ∧ len ≤ cap ∧ cap ≤ maxLen ∧ zs.length = cap ∧ (∀ i, i < zs.length → w.cell? (x.add i) = some (.int k (zs.getD i 0))) ∧ ∀ n ∈ zs, (Lit.int k n).wf = true

/-- Bytes that came in lie in memory as told. -/
theorem bytes_of {w : World} {a : Option Addr} {n c : Nat} {zs : List Int} (h : IsRow .u8 w a n c zs) (hn : n ≤ 140737488351232) : IsBytes w a n c := by
  rcases h with ⟨rfl, rfl, rfl, rfl⟩ | ⟨x, rfl, hl, hm, hz, hc, hw⟩
  · exact ⟨Nat.le_refl _, by omega, .inl rfl⟩
  · refine ⟨hl, hn, ?_⟩
    by_cases hn0 : n = 0
    · exact .inl hn0
    · right
      have h0 := hc 0 (by omega)
      obtain ⟨b, off, sp⟩ := x
      have hsp : sp = none := by
        cases sp with
        | none => rfl
        | some s =>
          exfalso
          unfold World.cell? at h0
          split at h0
          · simp [Addr.add] at h0
          · cases h0
      subst hsp
      refine ⟨b, off, rfl, fun i hi => ?_⟩
      have h1 := hc i (by omega)
      rw [Addr.add_lit] at h1
      have h2 := hw (zs.getD i 0) (by rw [List.getD_eq_getElem?_getD, List.getElem?_eq_getElem (show i < zs.length by omega)]; exact List.getElem_mem _)
      have h3 : 0 ≤ zs.getD i 0 ∧ zs.getD i 0 < 256 := by
        have h4 : IntKind.u8.min = 0 := by kernel_rfl
        have h5 : IntKind.u8.max = 255 := by kernel_rfl
        generalize zs.getD i 0 = z at h2 ⊢
        simp [Lit.wf, h4, h5] at h2
        omega
      exact ⟨(zs.getD i 0).toNat, by omega, by rw [h1, Int.toNat_of_nonneg h3.1]⟩

theorem cells5 : Tryz.prog.bytesOf 5 = 1 := by kernel_rfl

theorem walk (a0 : Option Addr) (len0 cap0 : Nat) (z0 : List Int) (a1 : Option Addr) (len1 cap1 : Nat) (z1 : List Int) (w : World) (w0 : IsRow .u8 w a0 len0 cap0 z0) (w1 : IsRow .u8 w a1 len1 cap1 z1) (n0 : len0 ≤ 140737488351232) (n1 : len1 ≤ 140737488351232) :
    Calls Tryz.prog 7 #[.slice a0 len0 cap0, .slice a1 len1 cap1] w fun e w' => e = .returned (.bool true) ∧ Below w.heap.size w w' := by
  exact named_any a0 a1 len0 cap0 len1 cap1 w (bytes_of w0 n0) (bytes_of w1 n1)

set_option maxRecDepth 100000 in
theorem lifted (os : Os) (started : os.Started) (H : Type) (enc : TypeId × Value → H) :
    ReturnsInHanded {} Tryz.checked os 7 .any (Rows.treatyNamedSpec.pre6 enc Tryz.prog Tryz.f7 Rows.treatyNamedRow.domain false) (Rows.treatyNamedSpec.post enc Tryz.prog Tryz.f7 false true false false) := by
  refine returnsInHanded_of_change_sized (C := Tryz.checked) own started (by kernel_rfl) Tryz.func7
    (ChangeSpec.witness6 (enc := enc) (C := Tryz.checked) false ⟨#[], #[.slice none 0 0, .slice none 0 0], []⟩ 8 (by kernel_rfl) (by kernel_rfl) (by kernel_rfl) (by kernel_rfl)) ?_
  intro W base args ds gs before hval0 hW hcnd hsz0 _
  have hsz : (DataW.weightsEach Tryz.prog (Tryz.f7.params.toList ++ Rows.treatyNamedSpec.plain.varTypes Tryz.prog) (ds ++ gs)).all (· ≤ reachBytes) = true := hsz0
  clear hsz0
  have hval : ∀ (j : Nat) t v, Tryz.f7.params[j]? = some t → args[j]? = some v → Value.okWide Tryz.prog W .any base t v := hval0
  have hW' := hW
  obtain ⟨p, q, hA0, hV, rfl, hfz, hnd⟩ := hW
  have hA : DataW.TrodAll enc Tryz.prog W 0 (fun _ => true) true Tryz.f7.params.toList args.toList ds p := hA0
  rw [Tryz.params7] at hA hval hsz
  obtain ⟨v0, vs0, d0, ds0, p0, q0, hargs, rfl, rfl, h0, r0⟩ := trodAll_cons hA
  obtain ⟨v1, vs1, d1, ds1, p1, q1, rfl, rfl, rfl, h1, r1⟩ := trodAll_cons r0
  obtain ⟨rfl, rfl, rfl⟩ := trodAll_nil r1
  obtain rfl : args = #[v0, v1] := by cases args; simp_all
  obtain ⟨rfl, rfl⟩ := trodVars_none hV
  obtain ⟨a0, len0, cap0, rfl⟩ := okWide_slice Tryz.underlying66 (hval 0 66 v0 rfl rfl)
  have k0 := h0
  have lt0 : ∀ x ∈ p0, x.block < W.heap.size := by obtain ⟨m, hm⟩ := k0; exact DataW.trod_lt m _ _ _ hm
  obtain ⟨z0, w0, n0⟩ : ∃ zs, IsRow .u8 W a0 len0 cap0 zs ∧ len0 ≤ 140737488351232 := by
    obtain ⟨fuel, hf⟩ := h0
    rcases open_ints Tryz.underlying66 Tryz.underlying5 (by kernel_rfl) hf with ⟨hcs, _⟩ | ⟨x, l, c, zs, hcs, _, hl, hm, hz, hx, hcell, hwz⟩
    · simp [Value.cells] at hcs
      obtain ⟨rfl, rfl, rfl⟩ := hcs
      exact ⟨[], .inl ⟨rfl, rfl, rfl, rfl⟩, Nat.zero_le _⟩
    · simp [Value.cells] at hcs
      obtain ⟨rfl, rfl, rfl⟩ := hcs
      simp only [Prod.mk.injEq] at hx
      have hr := sized_slice hsz (j := 0) (t := 66) (e := 5) rfl (by rw [hx.1]; rfl) Tryz.underlying66
      rw [cells5] at hr
      simp only [lits, List.length_map, List.length_take, List.length_drop] at hr
      simp only [if_true] at hz
      have hb : reachBytes = 140737488351232 := rfl
      exact ⟨zs, .inr ⟨_, rfl, hl, hm, hz, hcell, hwz⟩, by omega⟩
  obtain ⟨a1, len1, cap1, rfl⟩ := okWide_slice Tryz.underlying66 (hval 1 66 v1 rfl rfl)
  have k1 := h1
  have lt1 : ∀ x ∈ p1, x.block < W.heap.size := by obtain ⟨m, hm⟩ := k1; exact DataW.trod_lt m _ _ _ hm
  obtain ⟨z1, w1, n1⟩ : ∃ zs, IsRow .u8 W a1 len1 cap1 zs ∧ len1 ≤ 140737488351232 := by
    obtain ⟨fuel, hf⟩ := h1
    rcases open_ints Tryz.underlying66 Tryz.underlying5 (by kernel_rfl) hf with ⟨hcs, _⟩ | ⟨x, l, c, zs, hcs, _, hl, hm, hz, hx, hcell, hwz⟩
    · simp [Value.cells] at hcs
      obtain ⟨rfl, rfl, rfl⟩ := hcs
      exact ⟨[], .inl ⟨rfl, rfl, rfl, rfl⟩, Nat.zero_le _⟩
    · simp [Value.cells] at hcs
      obtain ⟨rfl, rfl, rfl⟩ := hcs
      simp only [Prod.mk.injEq] at hx
      have hr := sized_slice hsz (j := 1) (t := 66) (e := 5) rfl (by rw [hx.1]; rfl) Tryz.underlying66
      rw [cells5] at hr
      simp only [lits, List.length_map, List.length_take, List.length_drop] at hr
      simp only [if_true] at hz
      have hb : reachBytes = 140737488351232 := rfl
      exact ⟨zs, .inr ⟨_, rfl, hl, hm, hz, hcell, hwz⟩, by omega⟩
  clear hA0 hval0
  refine (walk a0 len0 cap0 z0 a1 len1 cap1 z1 W w0 w1 n0 n1).mono fun e W' ⟨he, bel⟩ => ?_
  subst he
  exact ⟨_, rfl, _, _, _, [], _, [], hW', trodAll_mk1 (shut_bool Tryz.underlying4 _), (trodAll_cons_mk (Below.trod laidOut (by kernel_rfl) (of_decide_eq_true (by kernel_rfl)) k0 bel lt0) (trodAll_cons_mk (Below.trod laidOut (by kernel_rfl) (of_decide_eq_true (by kernel_rfl)) k1 bel lt1) trodAll_mk0)), rfl, bel.frame _, fun h => by cases h⟩

theorem over : Rows.treatyNamedRow.holds Tryz.pinned (OpenSpec.ofChange Rows.treatyNamedSpec) :=
  OpenClaim.holds_of_wide 7 Tryz.f7 rfl rfl rfl rfl rfl rfl rfl ⟨rfl, rfl, rfl, rfl, rfl⟩ rfl rfl rfl rfl rfl (by kernel_rfl) Tryz.func7 (by kernel_rfl)
    (of_decide_eq_true (by kernel_rfl)) (by unfold Func.isWrapper; first | (rw [if_pos (by decide +kernel)]; kernel_rfl) | (rw [if_neg (by decide +kernel)]; exact ⟨rfl, rfl⟩))
    (fun os started H enc _ => lifted os started H enc)

/-- The statement. -/
theorem proved : Rows.TreatyNamedSaid := over
#print axioms proved
end Go.Proofs.YtdejaliegbmgaaaGreat.treatyNamed
