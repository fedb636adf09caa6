/-
  TreatyNamed's walk from where it gives words their new numbers: it answers true, and turns nothing that was there. The treaty, the readings, the line and the new numbers must lie in memory as told.
  TreatyNamed's walk from where it gives ways their new numbers: it answers true, and turns nothing that was there. The treaty, the readings, the line and the new numbers must lie in memory as told.
-/
import Derived.Test.YtdejaliegbmgaaaGreatZd
import Derived.Deep.RegionLaw
import Derived.Deep.AppendLies
import Derived.Test.YtdejaliegbmgaaaGreatJn
namespace Go.Proofs.YtdejaliegbmgaaaGreat
open Go.RowKit

/-- A word x is s with new numbers. -/
def WordRen (kd pl : Nat → Nat) (s x : SL MV) (n : Nat) : Prop := x.l.length = n ∧ ∀ j (hj : j < s.l.length) (hj' : j < x.l.length), (Img kd s.l[j].k.l x.l[j].k.l ∧ Img pl s.l[j].e.l x.l[j].e.l) ∧ x.l[j].k.l.Pairwise (· < ·) ∧ x.l[j].e.l.Pairwise (· < ·)
/-- The first y words have their new numbers, the others are nil. -/
def WFin (t : TV) (wd kd pl : Nat → Nat) (y : Nat) (ws : List (SL MV)) : Prop := ∀ i (h : i < t.words.l.length), (i < y → ∃ x, ws[wd i]? = some x ∧ WordRen kd pl t.words.l[i] x t.words.l[i].l.length) ∧ (y ≤ i → ws[wd i]? = some ⟨none, 0, []⟩)
abbrev wsA (ws : List (SL MV)) : Array Value := (ws.map fun s => s.v).toArray
/-- Words in the making. -/
def WsAt (w : World) (gw : Nat) (ws : List (SL MV)) : Prop := w.heap[gw]? = some (.cells (wsA ws) 82 (0, 0))
theorem WsAt.cell {w : World} {gw : Nat} {ws : List (SL MV)} (h : WsAt w gw ws) {k : Nat} {x : SL MV} (hk : ws[k]? = some x) : w.cell? ⟨gw, k, none⟩ = some (.slice x.a x.l.length x.c) := by
  rw [cell_at h]; simp [hk]
theorem WsAt.frozen {w : World} {gw : Nat} {ws : List (SL MV)} (h : WsAt w gw ws) (i : Nat) : w.frozen? ⟨gw, i, none⟩ = false := by
  have h' : w.heap[gw]? = _ := h
  simp [World.frozen?, h']
theorem WsAt.set {w : World} {gw : Nat} {ws : List (SL MV)} (h : WsAt w gw ws) (k : Nat) (x : SL MV) : WsAt (w.setCell ⟨gw, k, none⟩ (.slice x.a x.l.length x.c)) gw (ws.set k x) := by
  have := heap_setCell_same (i := k) h (Value.slice x.a x.l.length x.c)
  show _ = _
  rw [this]
  congr 2
  unfold wsA
  rw [List.map_set, List.setIfInBounds_toArray]

theorem G2.wide {D B : Nat} {a b : World} (h : G2 D D a b) : G2 D B a b := ⟨h.os, h.tape, h.output, h.size, fun i hi h1 _ => h.block i hi h1 h1⟩
theorem Row.g2 {D B : Nat} {w w' : World} {g : Nat} {L : List Nat} {cap : Nat} (h : Row w g L cap) (k : G2 D B w w') (h1 : g ≠ D) (h2 : g ≠ B) : Row w' g L cap := by
  have hl := h.lt
  obtain ⟨cur, h3, h4⟩ := h
  exact ⟨cur, (k.block g hl h1 h2).trans h3, h4⟩
theorem WordC.g2 {D B base : Nat} {w w' : World} {s : SL MV} (h : WordC base w s) (k : G2 D B w w') (hD : D < base) (hB : B < base) : WordC base w' s :=
  ⟨G2.own h.1 k hD hB, fun m hm => ⟨G2.own (h.2 m hm).1 k hD hB, G2.own (h.2 m hm).2 k hD hB⟩⟩
theorem WordC.is {base : Nat} {w : World} {s : SL MV} (h : WordC base w s) (hl : s.l.length ≤ 1000000) (hm : ∀ m ∈ s.l, m.k.l.length ≤ 1000000 ∧ m.e.l.length ≤ 1000000) : IsWord w s :=
  ⟨own_slG h.1 hl, fun m hm' => ⟨own_sl (h.2 m hm').1 (hm m hm').1, own_sl (h.2 m hm').2 (hm m hm').2⟩⟩
theorem set_same {ws : List (SL MV)} {k : Nat} {x : SL MV} (h : ws[k]? = some x) : ws.set k x = ws := by
  obtain ⟨hk, e⟩ := List.getElem?_eq_some_iff.1 h
  rw [← e]; exact List.set_getElem_self hk
theorem map_facts {n : Nat} {p i : Nat → Nat} {l : List Nat} (hb : Bij n p i) (hl : ∀ x ∈ l, x < n) (hp : l.Pairwise (· < ·)) (hn : n ≤ 12) : (l.map p).length ≤ 12 ∧ (l.map p).Nodup ∧ ∀ y, y ∈ l.map p ↔ ∃ x ∈ l, y = p x := by
  refine ⟨by rw [List.length_map]; exact Nat.le_trans (len_sorted hp n hl) hn, ?_, fun y => ?_⟩
  · unfold List.Nodup
    rw [List.pairwise_map]
    exact List.Pairwise.imp_of_mem (fun {a b} ha hb' hab e => Nat.ne_of_lt hab (hb.inj (hl a ha) (hl b hb') e)) hp
  · rw [List.mem_map]
    exact ⟨fun ⟨x, h1, h2⟩ => ⟨x, h1, h2.symm⟩, fun ⟨x, h1, h2⟩ => ⟨x, h1, h2.symm⟩⟩
/-- All blocks but three are as they were. -/
def Kp (O gw gq : Nat) (w w' : World) : Prop := w.heap.size ≤ w'.heap.size ∧ ∀ b, b < w.heap.size → b ≠ O → b ≠ gw → b ≠ gq → w'.heap[b]? = w.heap[b]?
theorem Kp.of {O gw gq : Nat} {a b c : World} (h : G2 gw gq a b) (k : Kp O gw gq b c) : Kp O gw gq a c :=
  ⟨Nat.le_trans h.size k.1, fun i hi h1 h2 h3 => (k.2 i (Nat.lt_of_lt_of_le hi h.size) h1 h2 h3).trans (h.block i hi h2 h3)⟩
theorem WordC.kp {O gw gq base : Nat} {w w' : World} {s : SL MV} (h : WordC base w s) (k : Kp O gw gq w w') (h1 : O < base) (h2 : gw < base) (h3 : gq < base) : WordC base w' s :=
  ⟨own_range h.1 (Nat.le_refl _) (fun b hb hl => k.2 b hl (by omega) (by omega) (by omega)), fun m hm => ⟨own_range (h.2 m hm).1 (Nat.le_refl _) (fun b hb hl => k.2 b hl (by omega) (by omega) (by omega)), own_range (h.2 m hm).2 (Nat.le_refl _) (fun b hb hl => k.2 b hl (by omega) (by omega) (by omega))⟩⟩
theorem curRen_snoc {kd pl : Nat → Nat} {s cur : SL MV} {p : Nat} {z : MV} (h : WordRen kd pl s cur p) (hp : p < s.l.length) (hz : (Img kd s.l[p].k.l z.k.l ∧ Img pl s.l[p].e.l z.e.l) ∧ z.k.l.Pairwise (· < ·) ∧ z.e.l.Pairwise (· < ·)) (a : Option Addr) (c : Nat) : WordRen kd pl s ⟨a, c, cur.l ++ [z]⟩ (p + 1) := by
  obtain ⟨h1, h2⟩ := h
  refine ⟨by simp [h1], fun j hj hj' => ?_⟩
  by_cases e : j < cur.l.length
  · simp only [List.getElem_append_left e]; exact h2 j hj e
  · have hj2 : j < (cur.l ++ [z]).length := hj'
    rw [List.length_append, List.length_singleton] at hj2
    have e2 : j = p := by omega
    subst e2
    simp only [List.getElem_append_right (Nat.le_of_not_lt e), h1, Nat.sub_self, List.getElem_singleton]
    exact hz
theorem wfin_set {t : TV} {wd wi kd pl : Nat → Nat} {y : Nat} {ws : List (SL MV)} {cur : SL MV} (h : WFin t wd kd pl y ws) (hb : Bij t.words.l.length wd wi) (hy : y < t.words.l.length) (hl : ws.length = t.words.l.length) (hc : WordRen kd pl t.words.l[y] cur t.words.l[y].l.length) : WFin t wd kd pl (y + 1) (ws.set (wd y) cur) := by
  intro i hi
  have hw := hb.lt y hy
  by_cases e : i = y
  · subst e
    exact ⟨fun _ => ⟨cur, by rw [List.getElem?_set, if_pos rfl, if_pos (by omega)], hc⟩, fun h => by omega⟩
  · have hne : wd y ≠ wd i := fun q => e (hb.inj hy hi q).symm
    rw [List.getElem?_set, if_neg hne]
    exact ⟨fun h' => (h i hi).1 (by omega), fun h' => (h i hi).2 (by omega)⟩
theorem gt_set (l : List Nat) (i j v : Nat) (hi : i < l.length) : gt (l.set i v) j = if i = j then v else gt l j := by
  unfold gt
  rw [List.getElem?_set]
  by_cases e : i = j
  · subst e; simp [hi]
  · rw [if_neg e, if_neg e]
/-- A word in the making has the new numbers of the first meanings of another one. -/
def CurRen (kd pl : Nat → Nat) (s cur : SL MV) (p : Nat) : Prop := WordRen kd pl s cur p

/-- TreatyNamed from where it gives words their new numbers. -/
noncomputable def tailC : Code := ((Tryz.f7.body.bind (tailN 15)).getD .skip)

set_option maxRecDepth 1000000 in
set_option maxHeartbeats 8000000 in
theorem named_tailC {u0 u1 u2 u3 u4 u5 u9 u17 u18 u19 u20 u21 u22 u23 u24 u25 u26 u27 u28 u29 u30 u31 u32 u33 u34 u35 u36 u37 u38 u39 u40 u41 u42 u43 u44 u45 u46 u47 u48 u49 u50 u51 u52 u53 u54 u55 u56 u57 u58 u59 u60 u61 u62 u63 u64 u65 u66 u67 u68 u69 u70 u71 u72 u73 u74 u75 u76 u77 u78 u79 u80 u81 u82 u83 u84 u85 u86 u87 u88 u89 u90 u91 u92 u93 u94 u95 u96 u97 u98 u99 u100 u101 u102 u103 u104 u105 u106 u107 u108 u109 u110 u111 u112 u113 u114 u115 u116 u117 u118 u119 u120 u121 u122 u123 u124 u125 u126 u127 u128 u129 u130 u131 u132 u133 u134 u135 u136 u137 u138 u139 u140 u141 u142 u143 u144 u145 u146 u147 u148 u149 u150 u151 u152 u153 u154 u155 u156 u157 u158 u159 u160 u161 u162 u163 u164 u165 u166 u167 u168 u169 u170 u171 u172 u173 u174 u175 u176 u177 u178 u179 u180 u181 u182 u183 u184 u185 u186 u187 u188 u189 u190 u191 u192 u193 u194 u195 u196 u197 u198 u199 u200 u201 u202 u203 u204 u205 u206 u207 u208 u209 u210 u211 u212 u213 u214 u215 u216 u217 u218 u219 u220 u221 u222 u223 u224 u225 u226 u227 u228 u229 u230 u231 u232 u233 u234 u235 u236 u237 u238 u239 u240 u241 u242 u243 u244 u245 u246 u247 u248 u249 u250 u251 u252 u253 u254 u255 u256 u257 u258 u259 u260 u261 u262 u263 u264 u265 u266 u267 u268 u269 u270 u271 u272 u273 u274 u275 u276 u277 u278 u279 u280 u281 u282 u283 u284 u285 u286 u287 u288 u289 u290 u291 u292 u293 : Value} (w v0 W : World) (T O P gw gq : Nat) (t : TV) (ow : SL (Nat × Nat × Nat)) (os : SL Nat) (ar al ap ak aw : Option Addr) (cr cl cp ck cw : Nat) (lr ll lp lk lw : List Nat) (pi ki wi : Nat → Nat) (hln : t.legs.l.length ≤ 10)
    (HK : Hid (OkT t)) (HBp : Hid (Bij t.P (gt lp) pi)) (HBk : Hid (Bij 8 (gt lk) ki)) (HBw : Hid (Bij t.words.l.length (gt lw) wi)) (hP : P = t.P) (HWy : Hid (ow.l = t.ways.l.map fun x => (gt lp x.2.1, gt lp x.1, gt lk x.2.2))) (HSt : Hid (Img (gt lp) t.starts.l os.l)) (HSs : Hid (os.l.Pairwise (· < ·)))
    (HR : Hid (RdOk t lr)) (hpl : lp.length = t.P) (hkl : lk.length = 8) (hwl : lw.length = t.words.l.length) (hll : ll.length = t.legs.l.length + 1) (HLP : Hid (∀ x ∈ ll, x < t.P)) (HL0 : Hid ((ll[0]?).getD 0 ∈ t.starts.l))
    (HTt : Hid (IsT v0 t)) (HBt : Hid (TBox v0 T t)) (HSr : Hid (IsSl 1 num v0 ⟨ar, cr, lr⟩)) (HSl : Hid (IsSl 1 num v0 ⟨al, cl, ll⟩)) (HSp : Hid (IsSl 1 num v0 ⟨ap, cp, lp⟩)) (HSk : Hid (IsSl 1 num v0 ⟨ak, ck, lk⟩)) (HSw : Hid (IsSl 1 num v0 ⟨aw, cw, lw⟩))
    (hO : v0.heap.size ≤ O) (hgw : v0.heap.size ≤ gw) (hgq : v0.heap.size ≤ gq) (hOw : O ≠ gw) (hOq : O ≠ gq) (hwq : gw ≠ gq)
    (HMO : Hid (MkT W O P ow.v (.slice (some ⟨gw, 0, none⟩) t.words.l.length t.words.l.length) os.v (.slice none 0 0))) (HWs : Hid (WsAt W gw (List.replicate t.words.l.length ⟨none, 0, []⟩))) (HRq : Hid (Row W gq (List.replicate t.words.l.length 0) t.words.l.length))
    (KO : Hid (∀ w', (∀ b, b < W.heap.size → b ≠ O → b ≠ gw → b ≠ gq → w'.heap[b]? = W.heap[b]?) → IsSl 3 wayC w' ow ∧ IsSl 1 num w' os)) (EV : Hid (Ext w v0)) (EW : Hid (Ext v0 W)) :
    Code.wp Tryz.prog tailC (bodyPost Tryz.prog Tryz.f7 fun e w' => e = .returned (.bool true) ∧ Ext w w') ⟨#[u0, u1, u2, u3, u4, u5, .pointer (some ⟨T, 0, none⟩), .slice ar lr.length cr, .slice al ll.length cl, u9, .slice ap lp.length cp, .slice ak lk.length ck, .slice aw lw.length cw, .func (.func 45) #[] #[], .func (.func 46) #[] #[], .pointer (some ⟨O, 0, none⟩), .slice (some ⟨gq, 0, none⟩) t.words.l.length t.words.l.length, u17, u18, u19, u20, u21, u22, u23, u24, u25, u26, u27, u28, u29, u30, u31, u32, u33, u34, u35, u36, u37, u38, u39, u40, u41, u42, u43, u44, u45, u46, u47, u48, u49, u50, u51, u52, u53, u54, u55, u56, u57, u58, u59, u60, u61, u62, u63, u64, u65, u66, u67, u68, u69, u70, u71, u72, u73, u74, u75, u76, u77, u78, u79, u80, u81, u82, u83, u84, u85, u86, u87, u88, u89, u90, u91, u92, u93, u94, u95, u96, u97, u98, u99, u100, u101, u102, u103, u104, u105, u106, u107, u108, u109, u110, u111, u112, u113, u114, u115, u116, u117, u118, u119, u120, u121, u122, u123, u124, u125, u126, u127, u128, u129, u130, u131, u132, u133, u134, u135, u136, u137, u138, u139, u140, u141, u142, u143, u144, u145, u146, u147, u148, u149, u150, u151, u152, u153, u154, u155, u156, u157, u158, u159, u160, u161, u162, u163, u164, u165, u166, u167, u168, u169, u170, u171, u172, u173, u174, u175, u176, u177, u178, u179, u180, u181, u182, u183, u184, u185, u186, u187, u188, u189, u190, u191, u192, u193, u194, u195, u196, u197, u198, u199, u200, u201, u202, u203, u204, u205, u206, u207, u208, u209, u210, u211, u212, u213, u214, u215, u216, u217, u218, u219, u220, u221, u222, u223, u224, u225, u226, u227, u228, u229, u230, u231, u232, u233, u234, u235, u236, u237, u238, u239, u240, u241, u242, u243, u244, u245, u246, u247, u248, u249, u250, u251, u252, u253, u254, u255, u256, u257, u258, u259, u260, u261, u262, u263, u264, u265, u266, u267, u268, u269, u270, u271, u272, u273, u274, u275, u276, u277, u278, u279, u280, u281, u282, u283, u284, u285, u286, u287, u288, u289, u290, u291, u292, u293], []⟩ W := by
  conv => arg 2; whnf
  have HPL := Lib.hid hpl; clear hpl
  have HKL := Lib.hid hkl; clear hkl
  have HLL := Lib.hid hll; clear hll
  have HWL := Lib.hid hwl
  have hwl1 : lw.length ≤ t.words.l.length := by omega
  have hwl2 : t.words.l.length ≤ lw.length := by omega
  clear hwl
  have hw6 := HK.out.words
  have hOW : O < W.heap.size := (Array.getElem?_eq_some_iff.1 HMO.out).1
  have hgW : gw < W.heap.size := (Array.getElem?_eq_some_iff.1 HWs.out).1
  have hqW : gq < W.heap.size := HRq.out.lt
  have HHP := Lib.hid hP; clear hP
  obtain ⟨i84, hi84, hz84, hs84, hb84⟩ := info_parts info84
  obtain ⟨-, -, f2, -, -⟩ := TBox.five (EW.out.block HBt.out)
  go_wp2_with fail
  clear f2
  go_loopw [112] (fun iv wr => ∃ (y : Nat) (ws : List (SL MV)) (lq : List Nat), y ≤ t.words.l.length ∧ iv = .int .i64 (y : Int) ∧ Hid (WsAt wr gw ws) ∧ Hid (WFin t (gt lw) (gt lk) (gt lp) y ws) ∧ Hid (∀ x ∈ ws, ∀ w', Kp O gw gq wr w' → IsWord w' x) ∧ Hid (ws.length = t.words.l.length) ∧ Hid (Row wr gq lq t.words.l.length) ∧ Hid (lq.length = t.words.l.length) ∧ Hid (∀ j, j < y → gt lq (gt lw j) = gt lr j) ∧ Hid (G2 gw gq W wr)) (fun iv _ => t.words.l.length - (intOf iv).toNat)
  case atStart =>
    refine ⟨0, _, _, Nat.zero_le _, rfl, HWs.out, ?_, ?_, ?_, HRq.out, ?_, fun j hj => absurd hj (Nat.not_lt_zero _), G2.refl _ _ _⟩
    · intro i hi
      exact ⟨fun h => absurd h (Nat.not_lt_zero _), fun _ => by rw [List.getElem?_replicate, if_pos (HBw.out.lt i hi)]⟩
    · intro x hx w' _
      rw [(List.mem_replicate.1 hx).2]
      exact ⟨⟨Nat.le_refl _, by simp, .inl rfl⟩, fun m hm => by simp at hm⟩
    · show _ = _; simp
    · show _ = _; simp
  case round =>
    obtain ⟨wo, rfl⟩ : ∃ wo : World, wo = wr := ⟨_, rfl⟩
    obtain ⟨y, ws, lq, hy, rfl, HWS, HWF, HWK, HWl, HRw, HQl, HQc, HG⟩ := hrel
    have EX : Hid (Ext v0 wo) := ext_g2 EW.out HG.out hgw hgq
    by_cases hlt : y < t.words.l.length
    · have dy : decide ((y : Int) < (t.words.l.length : Int)) = true := by simpa using hlt
      obtain ⟨bt, pt, hta, htc⟩ := (HTt.out.ext EX.out).words.2.2.resolve_left (by omega)
      have ct : wo.cell? ⟨bt, pt + y, none⟩ = some (.slice t.words.l[y].a t.words.l[y].l.length t.words.l[y].c) := by have := htc y hlt 0 (by omega); simpa [slC] using this
      have HsW : Hid (∀ V, Ext v0 V → IsWord V t.words.l[y]) := fun V h => (HTt.out.ext h).word _ (List.getElem_mem hlt)
      have hs4 := HK.out.word _ (List.getElem_mem hlt)
      have HkS : Hid (∀ m ∈ t.words.l[y].l, (∀ k ∈ m.k.l, k ≤ 7) ∧ m.k.l.Pairwise (· < ·)) := HK.out.kinds _ (List.getElem_mem hlt)
      have HeS : Hid (∀ m ∈ t.words.l[y].l, (∀ k ∈ m.e.l, k < t.P) ∧ m.e.l.Pairwise (· < ·)) := HK.out.ends _ (List.getElem_mem hlt)
      obtain ⟨-, hnil⟩ := HWF.out y hlt
      have hnil := hnil (Nat.le_refl _)
      have hkW := HBw.out.lt y hlt
      obtain ⟨s, hs⟩ : ∃ s, t.words.l[y] = s := ⟨_, rfl⟩
      rw [hs] at ct HsW hs4 HkS HeS
      have HSy : Hid (t.words.l[y] = s) := hs
      obtain ⟨bw, pw, rfl, hwc⟩ := num_of (HSw.out.ext EX.out) (by dsimp only; omega)
      obtain ⟨br, pr, rfl, hrc⟩ := num_of (HSr.out.ext EX.out) (by dsimp only; have := HR.out.1; omega)
      have cw := hwc y (by dsimp only; omega)
      have cr' := hrc y (by dsimp only; have := HR.out.1; omega)
      dsimp only at cw cr'
      obtain ⟨k, hk⟩ : ∃ k, gt lw y = k := ⟨_, rfl⟩
      rw [hk] at cw hkW hnil
      have HKk := Lib.hid hk
      have HNil := Lib.hid hnil
      have cq := HRw.out.gt k (by rw [HQl.out]; exact hkW)
      have fq := HRw.out.frozen k
      have HRs := Lib.hid (HRw.out.set k (gt lr y) (by rw [HQl.out]; exact hkW))
      have HCell : Hid (∀ V, Ext wo V → V.cell? ⟨bw, pw + y, none⟩ = some (.int .i64 (k : Int))) := fun V h => h.cell cw
      have hlr := HR.out.1
      have r1 : (y : Int) < (lr.length : Int) := by omega
      have HQl' := Lib.hid hlr
      clear hs hk hnil hlr htc hwc hrc
      rw [hta]
      have HTa := Lib.hid hta; clear hta
      have y0 : (0 : Int) ≤ (y : Int) := by omega
      have y1 : (y : Int) < (lw.length : Int) := by omega
      have k0 : (0 : Int) ≤ (k : Int) := by omega
      have k1 : (k : Int) < (t.words.l.length : Int) := by omega
      obtain ⟨rv, hrv⟩ : ∃ rv, gt lr y = rv := ⟨_, rfl⟩
      rw [hrv] at cr' HRs
      have HRv := Lib.hid hrv
      clear hrv
      go_upto_region 18 with (fail)
      go_region
      go_upto_region 19 with (fail)
      have HGx : Hid (G2 gw gq wo (wo.setCell ⟨gq, k, none⟩ (.int .i64 (rv : Int))).drew) := ((G2.refl gw gq wo).setB k _).dr
      have HRx : Hid (Row (wo.setCell ⟨gq, k, none⟩ (.int .i64 (rv : Int))).drew gq (lq.set k rv) t.words.l.length) := HRs.out.ext (Ext.refl _).drew
      have HWx : Hid (WsAt (wo.setCell ⟨gq, k, none⟩ (.int .i64 (rv : Int))).drew gw ws) := (Ext.refl (wo.setCell ⟨gq, k, none⟩ (.int .i64 (rv : Int)))).drew.block (heap_set_other _ _ _ _ HWS.out hwq)
      clear cw cr' cq fq ct
      generalize (wo.setCell ⟨gq, k, none⟩ (.int .i64 (rv : Int))).drew = x1 at *
      have HGX : Hid (G2 gw gq W x1) := HG.out.trans HGx.out
      have EX1 : Hid (Ext v0 x1) := ext_g2 EW.out HGX.out hgw hgq
      have hMx : Hid (MkT x1 O P ow.v (.slice (some ⟨gw, 0, none⟩) t.words.l.length t.words.l.length) os.v (.slice none 0 0)) := (HGX.out.block O hOW hOw hOq).trans HMO.out
      have hgx : gw < x1.heap.size := by have := HGX.out.size; omega
      have hqx : gq < x1.heap.size := by have := HGX.out.size; omega
      have hOx : O < x1.heap.size := by have := HGX.out.size; omega
      have hvx : v0.heap.size ≤ x1.heap.size := EX1.out.size
      have cw := (HSw.out.ext EX1.out)
      obtain ⟨bw', pw', hbw, hwc⟩ := num_of cw (by dsimp only; omega)
      have cw1 := hwc y (by dsimp only; omega)
      simp only [Option.some.injEq, Addr.mk.injEq, and_true] at hbw
      obtain ⟨rfl, rfl⟩ := hbw
      dsimp only at cw1
      rw [HKk.out] at cw1
      have hbwl : bw < v0.heap.size := by
        obtain ⟨b5, o5, hb5, hc5⟩ := num_of HSw.out (by dsimp only; omega)
        simp only [Option.some.injEq, Addr.mk.injEq, and_true] at hb5
        obtain ⟨rfl, rfl⟩ := hb5
        exact lt_of_cell (hc5 y (by dsimp only; omega))
      have HCW := Lib.hid cw1
      clear cw hwc cw1 HRs HG HWS HCell
      go_wp2_with fail
      go_loopw [129] (fun iv wr => ∃ (p : Nat) (cur : SL MV), p ≤ s.l.length ∧ iv = .int .i64 (p : Int) ∧ Hid (WsAt wr gw (ws.set k cur)) ∧ Hid (WordC x1.heap.size wr cur) ∧ Hid (CurRen (gt lk) (gt lp) s cur p) ∧ Hid (∀ m ∈ cur.l, m.k.l.length ≤ 12 ∧ m.e.l.length ≤ 12) ∧ Hid (G2 gw gw x1 wr)) (fun iv _ => s.l.length - (intOf iv).toNat)
      case atStart =>
        refine ⟨0, ⟨none, 0, []⟩, Nat.zero_le _, rfl, ?_, ⟨World.ownsRow_nil _ _ _ _, fun m hm => by simp at hm⟩, ⟨rfl, fun j _ hj' => by simp at hj'⟩, fun m hm => by simp at hm, G2.refl _ _ _⟩
        show WsAt _ _ _
        rw [set_same HNil.out]; exact HWx.out
      case round =>
        obtain ⟨wi', rfl⟩ : ∃ wi' : World, wi' = wr := ⟨_, rfl⟩
        obtain ⟨p, cur, hp, rfl, HWc, HCC, HCR, HC12, HGi⟩ := hrel
        by_cases hlp : p < s.l.length
        · have dp : decide ((p : Int) < (s.l.length : Int)) = true := by simpa using hlp
          have EXi : Hid (Ext v0 wi') := ext_g2 EX1.out HGi.out hgw hgw
          obtain ⟨bs, os', hsa, hsc⟩ := (HsW.out wi' EXi.out).1.2.2.resolve_left (by omega)
          have d0 : wi'.cell? ⟨bs, os' + p * 2, none⟩ = some (.slice s.l[p].k.a s.l[p].k.l.length s.l[p].k.c) := by have := hsc p hlp 0 (by omega); simpa [meanC] using this
          have d1 : wi'.cell? ⟨bs, os' + p * 2 + 1, none⟩ = some (.slice s.l[p].e.a s.l[p].e.l.length s.l[p].e.c) := by have := hsc p hlp 1 (by omega); simpa [meanC] using this
          have HMn : Hid (∀ V, Ext v0 V → IsMean V s.l[p]) := fun V h => (HsW.out V h).2 _ (List.getElem_mem hlp)
          have HkM := HkS.out _ (List.getElem_mem hlp)
          have HeM := HeS.out _ (List.getElem_mem hlp)
          obtain ⟨m, hm⟩ : ∃ m, s.l[p] = m := ⟨_, rfl⟩
          rw [hm] at d0 d1 HMn HkM HeM
          have HMm : Hid (s.l[p] = m) := hm
          have HKM := Lib.hid HkM
          have HEM := Lib.hid HeM
          clear hsc hm HkM HeM
          rw [hsa]
          have HSa := Lib.hid hsa; clear hsa
          have p0 : (0 : Int) ≤ (p : Int) := by omega
          have HCRl : Hid (cur.l.length = p) := HCR.out.1
          go_upto_region 22 with (fail)
          clear d0 d1
          have HBx : Hid ((wi'.alloc (.cells #[.slice m.k.a m.k.l.length m.k.c, .slice m.e.a m.e.l.length m.e.c] 84)).heap[wi'.heap.size]? = some (.cells #[.slice m.k.a m.k.l.length m.k.c, .slice m.e.a m.e.l.length m.e.c] 84 (0, 0))) := World.alloc_heap_new wi' _
          have EX2 : Hid (Ext wi' (wi'.alloc (.cells #[.slice m.k.a m.k.l.length m.k.c, .slice m.e.a m.e.l.length m.e.c] 84))) := (Ext.refl wi').alloc _
          generalize wi'.alloc (.cells #[.slice m.k.a m.k.l.length m.k.c, .slice m.e.a m.e.l.length m.e.c] 84) = x2 at *
          have hwx : wi'.heap.size < x2.heap.size := (Array.getElem?_eq_some_iff.1 HBx.out).1
          have hx1i : x1.heap.size ≤ wi'.heap.size := HGi.out.size
          have HMi : Hid (MkT wi' O P ow.v (.slice (some ⟨gw, 0, none⟩) t.words.l.length t.words.l.length) os.v (.slice none 0 0)) := (HGi.out.block O hOx hOw hOw).trans hMx
          have hkl' : k < ws.length := by rw [HWl.out]; exact hkW
          have HCk : Hid ((ws.set k cur)[k]? = some cur) := by show _ = _; rw [List.getElem?_set, if_pos rfl, if_pos hkl']
          have KS : Hid (∀ V, Ext x2 V → V.cell? ⟨O, 2, none⟩ = some (.slice (some ⟨gw, 0, none⟩) t.words.l.length t.words.l.length) ∧ V.cell? ⟨bw, pw + y, none⟩ = some (.int .i64 (k : Int)) ∧ V.cell? ⟨gw, k, none⟩ = some (.slice cur.a cur.l.length cur.c) ∧ V.cell? ⟨wi'.heap.size, 0, none⟩ = some (.slice m.k.a m.k.l.length m.k.c) ∧ V.cell? ⟨wi'.heap.size, 1, none⟩ = some (.slice m.e.a m.e.l.length m.e.c)) := by
            intro V hV
            have hb := hV.block HBx.out
            refine ⟨hV.cell (EX2.out.cell (MkT.five HMi.out).2.2.1), hV.cell (EX2.out.cell ?_), hV.cell (EX2.out.cell (HWc.out.cell HCk.out)), (cell_at hb 0).trans rfl, (cell_at hb 1).trans rfl⟩
            exact (World.cell?_of_block (a := ⟨bw, pw + y, none⟩) (HGi.out.block bw (by omega) (by omega) (by omega))).trans HCW.out
          have z1 : (0 : Int) ≤ (k : Int) ∧ (k : Int) < (t.words.l.length : Int) := ⟨k0, k1⟩
          have HRk := Lib.hid (fun (V : World) (h : Ext x2 V) => renamed_any m.k ⟨ak, ck, lk⟩ V ((HMn.out V ((EXi.out.trans EX2.out).trans h)).1) (HSk.out.ext ((EXi.out.trans EX2.out).trans h)) (fun x hx => by have := HKM.out.1 x hx; have := HKL.out; dsimp only; omega))
          have HRe := Lib.hid (fun (V : World) (h : Ext x2 V) => renamed_any m.e ⟨ap, cp, lp⟩ V ((HMn.out V ((EXi.out.trans EX2.out).trans h)).2) (HSp.out.ext ((EXi.out.trans EX2.out).trans h)) (fun x hx => by have := HEM.out.1 x hx; have := HPL.out; dsimp only; omega))
          have HZ1 : Hid ((m.k.l.map (gt lk)).length ≤ 12 ∧ (m.k.l.map (gt lk)).Nodup ∧ ∀ y, y ∈ m.k.l.map (gt lk) ↔ ∃ x ∈ m.k.l, y = gt lk x) := map_facts HBk.out (fun x hx => by have := HKM.out.1 x hx; omega) HKM.out.2 (by decide)
          have HZ2 : Hid ((m.e.l.map (gt lp)).length ≤ 12 ∧ (m.e.l.map (gt lp)).Nodup ∧ ∀ y, y ∈ m.e.l.map (gt lp) ↔ ∃ x ∈ m.e.l, y = gt lp x) := map_facts HBp.out HEM.out.1 HEM.out.2 HK.out.p2
          dsimp only at HRk HRe
          generalize m.k.l.map (gt lk) = z1' at *
          generalize m.e.l.map (gt lp) = z2' at *
          have EXv : Hid (Ext v0 x2) := EXi.out.trans EX2.out
          refine wp_region_last 32 (fun V => V.cell? ⟨O, 2, none⟩ = some (.slice (some ⟨gw, 0, none⟩) t.words.l.length t.words.l.length) ∧ V.cell? ⟨bw, pw + y, none⟩ = some (.int .i64 (k : Int)) ∧ V.cell? ⟨gw, k, none⟩ = some (.slice cur.a cur.l.length cur.c) ∧ V.cell? ⟨wi'.heap.size, 0, none⟩ = some (.slice m.k.a m.k.l.length m.k.c) ∧ V.cell? ⟨wi'.heap.size, 1, none⟩ = some (.slice m.e.a m.e.l.length m.e.c)) (by kernel_rfl) (KS.out _ (Ext.refl x2).drew) (fun hHeld => ?_)
          refine wpAnyF_take (i := 0) (v := ?_) rfl (by kernel_rfl) (by kernel_rfl) (by kernel_rfl) (by kernel_rfl) (fun _ _ _ h => h) (Or.inl ⟨by rfl, ?_⟩) (by assumption) ?_
          rotate_left
          · intro wS hSw
            (try dsimp only at hSw)
            go_simp
            try with_reducible rfl
          try simp only [Act.put, List.setIfInBounds_toArray]
          refine wpAnyF_take (i := 1) (v := ?_) rfl (by kernel_rfl) (by kernel_rfl) (by kernel_rfl) (by kernel_rfl) (fun _ _ _ h => h) (Or.inl ⟨by rfl, ?_⟩) (by assumption) ?_
          rotate_left
          · intro wS hSw
            (try dsimp only at hSw)
            go_simp
            try with_reducible rfl
          try simp only [Act.put]
          refine wpAnyF_take (i := 2) (v := ?_) rfl (by kernel_rfl) (by kernel_rfl) (by kernel_rfl) (by kernel_rfl) (fun _ _ _ h => h) (Or.inl ⟨by rfl, ?_⟩) (by assumption) ?_
          rotate_left
          · intro wS hSw
            (try dsimp only at hSw)
            go_simp
            try with_reducible rfl
          try simp only [Act.put]
          refine wpAnyF_take (i := 3) (v := ?_) rfl (by kernel_rfl) (by kernel_rfl) (by kernel_rfl) (by kernel_rfl) (fun _ _ _ h => h) (Or.inl ⟨by rfl, ?_⟩) (by assumption) ?_
          rotate_left
          · intro wS hSw
            (try dsimp only at hSw)
            go_simp
            try with_reducible rfl
          try simp only [Act.put]
          refine wpAnyF_take (i := 4) (v := ?_) rfl (by kernel_rfl) (by kernel_rfl) (by kernel_rfl) (by kernel_rfl) (fun _ _ _ h => h) (Or.inl ⟨by rfl, ?_⟩) (by assumption) ?_
          rotate_left
          · intro wS hSw
            (try dsimp only at hSw)
            go_simp
            try with_reducible rfl
          try simp only [Act.put]
          refine wpAnyF_take (i := 5) (v := ?_) rfl (by kernel_rfl) (by kernel_rfl) (by kernel_rfl) (by kernel_rfl) (fun _ _ _ h => h) (Or.inl ⟨by rfl, ?_⟩) (by assumption) ?_
          rotate_left
          · intro wS hSw
            (try dsimp only at hSw)
            go_simp
            try with_reducible rfl
          try simp only [Act.put]
          refine wpAnyF_take (i := 6) (v := ?_) rfl (by kernel_rfl) (by kernel_rfl) (by kernel_rfl) (by kernel_rfl) (fun _ _ _ h => h) (Or.inl ⟨by rfl, ?_⟩) (by assumption) ?_
          rotate_left
          · intro wS hSw
            (try dsimp only at hSw)
            go_simp
            try with_reducible rfl
          try simp only [Act.put]
          refine wpAnyF_take (i := 7) (v := ?_) rfl (by kernel_rfl) (by kernel_rfl) (by kernel_rfl) (by kernel_rfl) (fun _ _ _ h => h) (Or.inl ⟨by rfl, ?_⟩) (by assumption) ?_
          rotate_left
          · intro wS hSw
            (try dsimp only at hSw)
            go_simp
            try with_reducible rfl
          try simp only [Act.put]
          refine wpAnyF_take (i := 8) (v := ?_) rfl (by kernel_rfl) (by kernel_rfl) (by kernel_rfl) (by kernel_rfl) (fun _ _ _ h => h) (Or.inl ⟨by rfl, ?_⟩) (by assumption) ?_
          rotate_left
          · intro wS hSw
            (try dsimp only at hSw)
            go_simp
            try with_reducible rfl
          try simp only [Act.put]
          refine wpAnyF_take (i := 9) (v := ?_) rfl (by kernel_rfl) (by kernel_rfl) (by kernel_rfl) (by kernel_rfl) (fun _ _ _ h => h) (Or.inl ⟨by rfl, ?_⟩) (by assumption) ?_
          rotate_left
          · intro wS hSw
            (try dsimp only at hSw)
            go_simp
            try with_reducible rfl
          try simp only [Act.put]
          refine wpAnyF_take (i := 10) (v := ?_) rfl (by kernel_rfl) (by kernel_rfl) (by kernel_rfl) (by kernel_rfl) (fun _ _ _ h => h) (Or.inl ⟨by rfl, ?_⟩) (by assumption) ?_
          rotate_left
          · intro wS hSw
            (try dsimp only at hSw)
            go_simp
            try with_reducible rfl
          try simp only [Act.put]
          refine wpAnyF_take (i := 11) (v := ?_) rfl (by kernel_rfl) (by kernel_rfl) (by kernel_rfl) (by kernel_rfl) (fun _ _ _ h => h) (Or.inl ⟨by rfl, ?_⟩) (by assumption) ?_
          rotate_left
          · intro wS hSw
            (try dsimp only at hSw)
            go_simp
            try with_reducible rfl
          try simp only [Act.put]
          refine wpAnyF_take (i := 12) (v := ?_) rfl (by kernel_rfl) (by kernel_rfl) (by kernel_rfl) (by kernel_rfl) (fun _ _ _ h => h) (Or.inl ⟨by rfl, ?_⟩) (by assumption) ?_
          rotate_left
          · intro wS hSw
            (try dsimp only at hSw)
            go_simp
            try with_reducible rfl
          try simp only [Act.put]
          refine wpAnyF_take (i := 13) (v := ?_) rfl (by kernel_rfl) (by kernel_rfl) (by kernel_rfl) (by kernel_rfl) (fun _ _ _ h => h) (Or.inl ⟨by rfl, ?_⟩) (by assumption) ?_
          rotate_left
          · intro wS hSw
            (try dsimp only at hSw)
            go_simp
            try with_reducible rfl
          try simp only [Act.put]
          refine wpAnyF_take (i := 14) (v := ?_) rfl (by kernel_rfl) (by kernel_rfl) (by kernel_rfl) (by kernel_rfl) (fun _ _ _ h => h) (Or.inl ⟨by rfl, ?_⟩) (by assumption) ?_
          rotate_left
          · intro wS hSw
            (try dsimp only at hSw)
            go_simp
            try with_reducible rfl
          try simp only [Act.put]
          refine wpAnyF_take (i := 15) (v := ?_) rfl (by kernel_rfl) (by kernel_rfl) (by kernel_rfl) (by kernel_rfl) (fun _ _ _ h => h) (Or.inl ⟨by rfl, ?_⟩) (by assumption) ?_
          rotate_left
          · intro wS hSw
            (try dsimp only at hSw)
            go_simp
            try with_reducible rfl
          try simp only [Act.put]
          refine wpAnyF_take (i := 16) (v := ?_) rfl (by kernel_rfl) (by kernel_rfl) (by kernel_rfl) (by kernel_rfl) (fun _ _ _ h => h) (Or.inl ⟨by rfl, ?_⟩) (by assumption) ?_
          rotate_left
          · intro wS hSw
            (try dsimp only at hSw)
            go_simp
            try with_reducible rfl
          try simp only [Act.put]
          refine wpAnyF_take (i := 17) (v := ?_) rfl (by kernel_rfl) (by kernel_rfl) (by kernel_rfl) (by kernel_rfl) (fun _ _ _ h => h) (Or.inl ⟨by rfl, ?_⟩) (by assumption) ?_
          rotate_left
          · intro wS hSw
            (try dsimp only at hSw)
            go_simp
            try with_reducible rfl
          try simp only [Act.put]
          refine wpAnyF_take (i := 18) (v := ?_) rfl (by kernel_rfl) (by kernel_rfl) (by kernel_rfl) (by kernel_rfl) (fun _ _ _ h => h) (Or.inl ⟨by rfl, ?_⟩) (by assumption) ?_
          rotate_left
          · intro wS hSw
            (try dsimp only at hSw)
            go_simp
            try with_reducible rfl
          try simp only [Act.put]
          refine wpAnyF_take (i := 21) (v := ?_) rfl (by kernel_rfl) (by kernel_rfl) (by kernel_rfl) (by kernel_rfl) (fun _ _ _ h => h) (Or.inl ⟨by rfl, ?_⟩) (by assumption) ?_
          rotate_left
          · intro wS hSw
            (try dsimp only at hSw)
            go_simp
            try with_reducible rfl
          try simp only [Act.put]
          refine wpAnyF_take (i := 22) (v := ?_) rfl (by kernel_rfl) (by kernel_rfl) (by kernel_rfl) (by kernel_rfl) (fun _ _ _ h => h) (Or.inl ⟨by rfl, ?_⟩) (by assumption) ?_
          rotate_left
          · intro wS hSw
            (try dsimp only at hSw)
            go_simp
            try with_reducible rfl
          try simp only [Act.put]
          refine wpAnyF_take (i := 23) (v := ?_) rfl (by kernel_rfl) (by kernel_rfl) (by kernel_rfl) (by kernel_rfl) (fun _ _ _ h => h) (Or.inl ⟨by rfl, ?_⟩) (by assumption) ?_
          rotate_left
          · intro wS hSw
            (try dsimp only at hSw)
            go_simp
            try with_reducible rfl
          try simp only [Act.put]
          refine wpAnyF_take (i := 24) (v := ?_) rfl (by kernel_rfl) (by kernel_rfl) (by kernel_rfl) (by kernel_rfl) (fun _ _ _ h => h) (Or.inl ⟨by rfl, ?_⟩) (by assumption) ?_
          rotate_left
          · intro wS hSw
            (try dsimp only at hSw)
            go_simp
            try with_reducible rfl
          try simp only [Act.put]
          refine wpAnyF_take (i := 25) (v := ?_) rfl (by kernel_rfl) (by kernel_rfl) (by kernel_rfl) (by kernel_rfl) (fun _ _ _ h => h) (Or.inl ⟨by rfl, ?_⟩) (by assumption) ?_
          rotate_left
          · intro wS hSw
            (try dsimp only at hSw)
            go_simp
            try with_reducible rfl
          try simp only [Act.put]
          refine wpAnyF_ready (rs := [19]) (by kernel_rfl) (by simp) (AllReadyF.cons rfl (fun K hK => ?_) AllReadyF.nil)
          go_simp
          go_at_call 45
          refine (HRk.out _ (Ext.refl x2).drew).mono ?_
          rintro e v1 ⟨a1, c1, rfl, ho1, hx1⟩
          have E1 : Hid (Ext x2 v1) := ((Ext.refl x2).drew).trans hx1
          have O1 := Lib.hid ho1
          clear ho1 hx1
          refine hK.out _ _ (KS.out v1 E1.out) (fun hHeld => ?_)
          clear hK K
          try simp only [Act.put, List.setIfInBounds_toArray, List.set_cons_zero, List.set_cons_succ]
          refine wpAnyF_ready (rs := [20]) (by kernel_rfl) (by simp) (AllReadyF.cons rfl (fun K hK => ?_) AllReadyF.nil)
          go_simp
          go_at_call 46
          refine (sorted_any x2.heap.size c1 a1 z1' v1 O1.out HZ1.out.1 E1.out.size).mono ?_
          rintro e v2 ⟨L1, rfl, hL1, hP1, hS1, ho2, hB2⟩
          have E2 : Hid (Ext x2 v2) := Ext.of (Below.trans E1.out hB2)
          have O2 : Hid (LO x1.heap.size v2 ⟨a1, c1, L1⟩) := own_mono ho2 (Nat.le_trans hx1i (Nat.le_of_lt hwx))
          have HP1 := Lib.hid hP1
          have HS1 : Hid (L1.Pairwise (· < ·)) := srt_pairwise (by rw [hL1]; exact hS1) ((hP1.nodup_iff).2 HZ1.out.2.1)
          have HL1 : Hid (L1.length ≤ 12) := by show _ ≤ _; rw [hL1]; exact HZ1.out.1
          clear hL1 hP1 hS1 ho2 hB2 O1
          refine hK.out _ _ (KS.out v2 E2.out) (fun hHeld => ?_)
          clear hK K
          try simp only [Act.put, List.setIfInBounds_toArray, List.set_cons_zero, List.set_cons_succ]
          refine wpAnyF_ready (rs := [26]) (by kernel_rfl) (by simp) (AllReadyF.cons rfl (fun K hK => ?_) AllReadyF.nil)
          go_simp
          go_at_call 45
          refine (HRe.out _ E2.out).mono ?_
          rintro e v3 ⟨a2, c2, rfl, ho3, hx3⟩
          have E3 : Hid (Ext x2 v3) := E2.out.trans hx3
          have X3 : Hid (Ext v2 v3) := hx3
          have O3 := Lib.hid ho3
          clear ho3 hx3
          refine hK.out _ _ (KS.out v3 E3.out) (fun hHeld => ?_)
          clear hK K
          try simp only [Act.put, List.setIfInBounds_toArray, List.set_cons_zero, List.set_cons_succ]
          refine wpAnyF_ready (rs := [27]) (by kernel_rfl) (by simp) (AllReadyF.cons rfl (fun K hK => ?_) AllReadyF.nil)
          go_simp
          go_at_call 46
          refine (sorted_any v2.heap.size c2 a2 z2' v3 O3.out HZ2.out.1 X3.out.size).mono ?_
          rintro e v4 ⟨L2, rfl, hL2, hP2, hS2, ho4, hB4⟩
          have X4 : Hid (Ext v2 v4) := Ext.of (Below.trans X3.out hB4)
          have E4 : Hid (Ext x2 v4) := E2.out.trans X4.out
          have O4 : Hid (LO x1.heap.size v4 ⟨a2, c2, L2⟩) := own_mono ho4 (Nat.le_trans (Nat.le_trans hx1i (Nat.le_of_lt hwx)) E2.out.size)
          have O24 : Hid (LO x1.heap.size v4 ⟨a1, c1, L1⟩) := LO.ext O2.out X4.out
          have HP2 := Lib.hid hP2
          have HS2 : Hid (L2.Pairwise (· < ·)) := srt_pairwise (by rw [hL2]; exact hS2) ((hP2.nodup_iff).2 HZ2.out.2.1)
          have HL2 : Hid (L2.length ≤ 12) := by show _ ≤ _; rw [hL2]; exact HZ2.out.1
          clear hL2 hP2 hS2 ho4 hB4 O3
          refine hK.out _ _ (KS.out v4 E4.out) (fun hHeld => ?_)
          clear hK K
          try simp only [Act.put, List.setIfInBounds_toArray, List.set_cons_zero, List.set_cons_succ]
          refine wpAnyF_take (i := 28) (v := ?_) rfl (by kernel_rfl) (by kernel_rfl) (by kernel_rfl) (by kernel_rfl) (fun _ _ _ h => h) (Or.inl ⟨by rfl, ?_⟩) (by assumption) ?_
          rotate_left
          · intro wS hSw
            (try dsimp only at hSw)
            go_simp
            try with_reducible rfl
          try simp only [Act.put, List.setIfInBounds_toArray]
          refine wpAnyF_ready (rs := [29]) (by kernel_rfl) (by simp) (AllReadyF.cons rfl (fun K hK => ?_) AllReadyF.nil)
          go_simp
          refine hK.out _ _ (KS.out _ (E4.out.alloc _)) (fun hHeld => ?_)
          clear hK K
          try simp only [Act.put, List.setIfInBounds_toArray, List.set_cons_zero, List.set_cons_succ]
          have hm6 : cur.l.length + 1 ≤ maxLen := by have := HCRl.out; unfold maxLen; omega
          have hl6 : cur.l.length ≤ 4 := by have := HCRl.out; omega
          have H63 := Lib.hid hm6
          have HBY : Hid ((cur.l.length + 1) * 48 ≤ 140737488355328) := by show _ ≤ _; omega
          have HCC4 : Hid (WordC x1.heap.size v4 cur) := HCC.out.ext (EX2.out.trans E4.out)
          have hb4 : x1.heap.size ≤ v4.heap.size := by have := (EX2.out.trans E4.out).size; omega
          refine wpAnyF_ready (rs := [30]) (by kernel_rfl) (by simp) (AllReadyF.cons rfl (fun K hK => ?_) AllReadyF.nil)
          refine step_append_lies _ rfl (.tmp 146) (.tmp 162) 82 rfl x1.heap.size 84 i84 (.agg #[.slice none 0 0, .slice none 0 0]) 2 48 Tryz.underlying82 hi84 hz84 hs84 hb84 rfl (by decide) (.slice cur.a cur.l.length cur.c) cur.l.length (flat 2 meanC cur.l) ?_ (HCC4.out.1.alloc _) ⟨v4.heap.size, 0, none⟩ 1 1 (flat 2 meanC [⟨⟨a1, c1, L1⟩, ⟨a2, c2, L2⟩⟩]) ?_ rfl (new_cells v4 (flat 2 meanC [⟨⟨a1, c1, L1⟩, ⟨a2, c2, L2⟩⟩]) 84) (mean_one _) (by decide) H63.out HBY.out ?_ _ rfl ?_
          · simp [Act.eval]
          · simp [Act.eval]
          · rw [World.size_alloc]; exact Nat.le_succ_of_le hb4
          intro g cap v5 hown hgrow hwh hgl
          have hrow : ∀ i, (Value.slice cur.a cur.l.length cur.c).ownBlock = some i → x1.heap.size ≤ i ∧ i < wi'.heap.size := fun i hi => HCC.out.1.lt i hi
          have hs24 := E4.out.size
          have hB5 : ∀ b, b < x2.heap.size → (b < x1.heap.size ∨ b = wi'.heap.size) → v5.heap[b]? = x2.heap[b]? := by
            intro b hb hc
            refine (hgrow.block b (by rw [World.size_alloc]; omega) (fun e => ?_)).trans (Below.block (E4.out.alloc _) b hb)
            have := hrow b e.symm; omega
          have hS5 : v5.cell? ⟨O, 2, none⟩ = some (.slice (some ⟨gw, 0, none⟩) t.words.l.length t.words.l.length) ∧ v5.cell? ⟨bw, pw + y, none⟩ = some (.int .i64 (k : Int)) ∧ v5.cell? ⟨gw, k, none⟩ = some (.slice cur.a cur.l.length cur.c) ∧ v5.cell? ⟨wi'.heap.size, 0, none⟩ = some (.slice m.k.a m.k.l.length m.k.c) ∧ v5.cell? ⟨wi'.heap.size, 1, none⟩ = some (.slice m.e.a m.e.l.length m.e.c) := by
            obtain ⟨s1, s2, s3, s4, s5⟩ := KS.out x2 (Ext.refl x2)
            exact ⟨(World.cell?_of_block (a := ⟨O, 2, none⟩) (hB5 O (by omega) (.inl hOx))).trans s1, (World.cell?_of_block (a := ⟨bw, pw + y, none⟩) (hB5 bw (by omega) (.inl (by omega)))).trans s2, (World.cell?_of_block (a := ⟨gw, k, none⟩) (hB5 gw (by omega) (.inl hgx))).trans s3, (World.cell?_of_block (a := ⟨wi'.heap.size, 0, none⟩) (hB5 wi'.heap.size hwx (.inr rfl))).trans s4, (World.cell?_of_block (a := ⟨wi'.heap.size, 1, none⟩) (hB5 wi'.heap.size hwx (.inr rfl))).trans s5⟩
          have HW5 : Hid (WsAt v5 gw (ws.set k cur)) := (hB5 gw (by omega) (.inl hgx)).trans (EX2.out.block HWc.out)
          have hWC5 := WordC.append (HCC4.out.ext ((Ext.refl v4).alloc _)) (LO.ext O24.out ((Ext.refl v4).alloc _)) (LO.ext O4.out ((Ext.refl v4).alloc _)) hown hgrow
          have hG5 : G2 gw gw x1 v5 := (HGi.out.ext (EX2.out.trans (E4.out.alloc _))).step hgrow (fun i hi => .inr (.inr (hrow i hi).1))
          have HG5 := Lib.hid hG5
          have HWC5 := Lib.hid hWC5
          have hCur : CurRen (gt lk) (gt lp) s ⟨some ⟨g, 0, none⟩, cap, cur.l ++ [⟨⟨a1, c1, L1⟩, ⟨a2, c2, L2⟩⟩]⟩ (p + 1) := curRen_snoc HCR.out hlp ⟨⟨fun q => by rw [HMm.out]; exact (HP1.out.mem_iff).trans (HZ1.out.2.2 q), fun q => by rw [HMm.out]; exact (HP2.out.mem_iff).trans (HZ2.out.2.2 q)⟩, HS1.out, HS2.out⟩ _ _
          have HCur := Lib.hid hCur
          clear hown hgrow hwh hgl hrow hs24 hB5 hWC5 hG5 hCur
          refine hK.out _ _ hS5 (fun hHeld => ?_)
          clear hK K hS5
          try simp only [Act.put, List.setIfInBounds_toArray]
          refine wpAnyF_take (i := 31) (v := ?_) rfl (by kernel_rfl) (by kernel_rfl) (by kernel_rfl) (by kernel_rfl) (fun _ _ _ h => h) (Or.inl ⟨by rfl, ?_⟩) (by assumption) ?_
          rotate_left
          · intro wS hSw
            (try dsimp only at hSw)
            go_simp
            try with_reducible rfl
          try simp only [Act.put]
          have c5 := HW5.out.cell HCk.out
          have g5 := HW5.out.frozen k
          have HW6 : Hid (WsAt (v5.setCell ⟨gw, k, none⟩ (.slice (some ⟨g, 0, none⟩) (cur.l.length + 1) cap)) gw (ws.set k ⟨some ⟨g, 0, none⟩, cap, cur.l ++ [⟨⟨a1, c1, L1⟩, ⟨a2, c2, L2⟩⟩]⟩)) := by
            have h := HW5.out.set k ⟨some ⟨g, 0, none⟩, cap, cur.l ++ [⟨⟨a1, c1, L1⟩, ⟨a2, c2, L2⟩⟩]⟩
            rw [List.set_set] at h
            dsimp only at h
            rw [List.length_append, List.length_singleton] at h
            exact h
          have HG6 : Hid (G2 gw gw x1 (v5.setCell ⟨gw, k, none⟩ (.slice (some ⟨g, 0, none⟩) (cur.l.length + 1) cap))) := HG5.out.setB k _
          have HWC6 : Hid (WordC x1.heap.size (v5.setCell ⟨gw, k, none⟩ (.slice (some ⟨g, 0, none⟩) (cur.l.length + 1) cap)) ⟨some ⟨g, 0, none⟩, cap, cur.l ++ [⟨⟨a1, c1, L1⟩, ⟨a2, c2, L2⟩⟩]⟩) := HWC5.out.g2 ((G2.refl gw gw v5).setB k _) hgx hgx
          refine wpAnyF_last (by kernel_rfl) rfl (by kernel_rfl) (fun K hK => ?_)
          go_simp
          refine hK.out _ _ ?_
          clear hK K c5 g5
          go_wp2_with fail
          go_roundw
          case rel => exact ⟨p + 1, ⟨some ⟨g, 0, none⟩, cap, cur.l ++ [⟨⟨a1, c1, L1⟩, ⟨a2, c2, L2⟩⟩]⟩, by omega, by go_num, HW6, HWC6, HCur, fun q hq => by
            rcases List.mem_append.1 hq with hq | hq
            · exact HC12.out q hq
            · rw [List.mem_singleton] at hq; subst hq; exact ⟨HL1.out, HL2.out⟩, HG6⟩
          case measure => simp [intOf]; omega
        · have hpe : p = s.l.length := by omega
          have dp : decide ((p : Int) < (s.l.length : Int)) = false := decide_eq_false (by omega)
          have HWF' : Hid (WFin t (gt lw) (gt lk) (gt lp) (y + 1) (ws.set k cur)) := by
            have h := wfin_set (cur := cur) HWF.out HBw.out hlt HWl.out (by rw [HSy.out]; have := HCR.out; rw [hpe] at this; exact this)
            rw [HKk.out] at h
            exact h
          have HWK' : Hid (∀ x ∈ ws.set k cur, ∀ w', Kp O gw gq wi' w' → IsWord w' x) := by
            intro x hx w' h
            rcases List.mem_or_eq_of_mem_set hx with hx | rfl
            · exact HWK.out x hx w' ((h.of HGi.out.wide).of HGx.out)
            · exact (HCC.out.kp h hOx hgx hqx).is (by have := HCR.out.1; omega) (fun q hq => by have := HC12.out q hq; omega)
          have HRw' : Hid (Row wi' gq (lq.set k rv) t.words.l.length) := HRx.out.g2 HGi.out (fun e => hwq e.symm) (fun e => hwq e.symm)
          have HQc' : Hid (∀ j, j < y + 1 → gt (lq.set k rv) (gt lw j) = gt lr j) := by
            intro j hj
            rw [gt_set _ _ _ _ (by rw [HQl.out]; exact hkW)]
            by_cases e : j = y
            · subst e; rw [if_pos HKk.out.symm]; exact HRv.out.symm
            · rw [if_neg (fun q => e (HBw.out.inj (by omega) hlt (q.symm.trans HKk.out.symm))), HQc.out j (by omega)]
          clear hpe
          go_wp2_with fail
          go_roundw
          case rel => exact ⟨y + 1, ws.set k cur, lq.set k rv, by omega, by go_num, HWc, HWF', HWK', by show _ = _; rw [List.length_set]; exact HWl.out, HRw', by show _ = _; rw [List.length_set]; exact HQl.out, HQc', HGX.out.trans HGi.out.wide⟩
          case measure => simp [intOf]; omega
    · have hye : y = t.words.l.length := by omega
      have dy : decide ((y : Int) < (t.words.l.length : Int)) = false := decide_eq_false (by omega)
      have hat : ∀ i (h : i < t.words.l.length), ∃ x, ws[gt lw i]? = some x ∧ WordRen (gt lk) (gt lp) t.words.l[i] x t.words.l[i].l.length := fun i hi => (HWF.out i hi).1 (by omega)
      have hren : ∀ gl : SL (Nat × Int), gl.l = t.legs.l.map (legN (gt lw)) → Ren t ⟨P, ow, ⟨some ⟨gw, 0, none⟩, t.words.l.length, ws⟩, os, gl⟩ (gt lp) pi (gt lk) ki (gt lw) wi := fun gl hgl =>
        { bp := HBp.out, bk := HBk.out, bw := HBw.out, P := HHP.out, ways := HWy.out, W := HWl.out, starts := HSt.out, legs := hgl
          word := fun i hi hi' => by
            obtain ⟨x, hx, hr⟩ := hat i hi
            obtain ⟨hl, rfl⟩ := List.getElem?_eq_some_iff.1 hx
            exact ⟨hr.1, fun j hj hj' => (hr.2 j hj hj').1⟩ }
      have hsort : ∀ s ∈ ws, ∀ m ∈ s.l, m.k.l.Pairwise (· < ·) ∧ m.e.l.Pairwise (· < ·) := by
        intro s hs m hm
        obtain ⟨j, hj, rfl⟩ := List.getElem_of_mem hs
        have hjt : j < t.words.l.length := by rw [← HWl.out]; exact hj
        obtain ⟨x, hx, hr⟩ := hat (wi j) (HBw.out.ilt j hjt)
        rw [HBw.out.forth j hjt, List.getElem?_eq_getElem hj, Option.some.injEq] at hx
        subst hx
        obtain ⟨q, hq, rfl⟩ := List.getElem_of_mem hm
        exact (hr.2 q (by have := hr.1; omega) hq).2
      have hRR : RenR t (gt lw) lr lq := ⟨HR.out.1, HQl.out, fun i hi => HQc.out i (by omega)⟩
      have hgs := HG.out.size
      have hMo : MkT wo O P ow.v (.slice (some ⟨gw, 0, none⟩) ws.length t.words.l.length) os.v (.slice none 0 0) := by
        rw [HWl.out]; exact (HG.out.block O hOW hOw hOq).trans HMO.out
      have hKO : ∀ w', G2 O O wo w' → IsT w' ⟨P, ow, ⟨some ⟨gw, 0, none⟩, t.words.l.length, ws⟩, os, ⟨none, 0, []⟩⟩ ∧ IsSl 1 num w' ⟨some ⟨gq, 0, none⟩, lq.length, lq⟩ := by
        intro w' h
        have hk : Kp O gw gq wo w' := ⟨h.size, fun b hb h1 _ _ => h.block b hb h1 h1⟩
        obtain ⟨i1, i2⟩ := KO.out w' (fun b hb h1 h2 h3 => (hk.2 b (by omega) h1 h2 h3).trans (HG.out.block b hb h2 h3))
        have hwb : w'.heap[gw]? = some (.cells (wsA ws) 82 (0, 0)) := (h.block gw (by omega) (fun e => hOw e.symm) (fun e => hOw e.symm)).trans HWS.out
        refine ⟨⟨i1, isSl_of_block hwb (by rw [HWl.out]; exact Nat.le_refl _) (by rw [HWl.out]; omega) (fun i hi j hj => ?_), fun x hx => HWK.out x hx w' hk, i2, ⟨Nat.le_refl _, by simp, .inl rfl⟩⟩, ?_⟩
        · have : j = 0 := by omega
          subst this
          simp [slC, hi]
        · have hr := (HRw.out.g2 h (fun e => hOq e.symm) (fun e => hOq e.symm))
          have e := HQl.out
          rw [← e] at hr
          exact hr.sl (by omega)
      have HREN := Lib.hid hren
      have HOK := Lib.hid (fun gl (hgl : gl.l = t.legs.l.map (legN (gt lw))) => (hren gl hgl).ok HK.out HSs.out hsort)
      have HRR := Lib.hid hRR
      have HMo := Lib.hid hMo
      have HKO := Lib.hid hKO
      clear hat hren hsort hRR hMo hKO hye hgs
      have hq := HQl.out
      rw [← hq]
      rw [← hq] at dy
      have dy2 : ¬ y < lq.length := by omega
      have HQ := Lib.hid hq
      clear hq
      repeat (first
        | exact named_tailD w v0 wo T O P t ow ⟨some ⟨gw, 0, none⟩, t.words.l.length, ws⟩ os ar al ap aw (some ⟨gq, 0, none⟩) cr cl cp cw lq.length lr ll lp lw lq pi (gt lk) ki wi hln HK HREN.out HOK.out HR HRR HPL.out HWL.out HLL.out HLP HL0 HTt HBt HSr HSl HSp HSw hO HMo.out HKO.out EV EX
        | go_step)
end Go.Proofs.YtdejaliegbmgaaaGreat

namespace Go.Proofs.YtdejaliegbmgaaaGreat
open Go.RowKit

theorem way_leafN {O base P : Nat} {W v2 v3 : World} {qv sv lv : Value} {s : SL (Nat × Nat × Nat)} {x : Nat × Nat × Nat} {tmp : Obj} {g cap : Nat} (hO : O < base) (hbase : W.heap.size = base)
    (HO : v2.ownsRow base 81 3 (.slice s.a s.l.length s.c) s.l.length (flat 3 wayC s.l)) (HM : MkT v2 O P s.v qv sv lv) (HG : G2 O O W v2)
    (hown : v3.ownsRow base 81 3 (.slice (some ⟨g, 0, none⟩) (s.l.length + 1) cap) (s.l.length + 1) (flat 3 wayC s.l ++ flat 3 wayC [x])) (hgrow : (v2.alloc tmp).grownBy v3 (Value.slice s.a s.l.length s.c).ownBlock) :
    MkT v3 O P s.v qv sv lv ∧
      Hid ((v3.setCell ⟨O, 1, none⟩ (.slice (some ⟨g, 0, none⟩) (s.l.length + 1) cap)).ownsRow base 81 3 (.slice (some ⟨g, 0, none⟩) (s.l ++ [x]).length cap) (s.l ++ [x]).length (flat 3 wayC (s.l ++ [x]))) ∧
        Hid (MkT (v3.setCell ⟨O, 1, none⟩ (.slice (some ⟨g, 0, none⟩) (s.l.length + 1) cap)) O P (.slice (some ⟨g, 0, none⟩) (s.l ++ [x]).length cap) qv sv lv) ∧ Hid (G2 O O W (v3.setCell ⟨O, 1, none⟩ (.slice (some ⟨g, 0, none⟩) (s.l.length + 1) cap))) := by
  have hrow : ∀ i, (Value.slice s.a s.l.length s.c).ownBlock = some i → base ≤ i := fun i hi => own_lt HO i hi
  have hxx := (Ext.refl v2).alloc tmp
  have HM3 : MkT v3 O P s.v qv sv lv := MkT.grown (hxx.block HM) hgrow (fun i hi => by have := hrow i hi; omega)
  have HG3 : G2 O O W v3 := (HG.ext hxx).step hgrow (fun i hi => .inr (.inr (by have := hrow i hi; omega)))
  have hlen : (s.l ++ [x]).length = s.l.length + 1 := by simp
  refine ⟨HM3, ?_, ?_, HG3.setB 1 _⟩
  · show World.ownsRow _ base 81 3 (.slice _ (s.l ++ [x]).length cap) (s.l ++ [x]).length (flat 3 wayC (s.l ++ [x]))
    rw [flat_append, hlen]
    exact G2.own hown ((G2.refl O O v3).setB 1 _) hO hO
  · show MkT _ O P (.slice _ (s.l ++ [x]).length cap) _ _ _
    rw [hlen]; exact HM3.set1 _

/-- A way with new numbers. -/
abbrev wayN (pl kd : Nat → Nat) (x : Nat × Nat × Nat) : Nat × Nat × Nat := (pl x.2.1, pl x.1, kd x.2.2)

/-- TreatyNamed from where it gives ways their new numbers. -/
noncomputable def tailB : Code := ((Tryz.f7.body.bind (tailN 10)).getD .skip)

set_option maxRecDepth 1000000 in
set_option maxHeartbeats 8000000 in
theorem named_tailB {u0 u1 u2 u3 u4 u5 u9 u17 u18 u19 u20 u21 u22 u23 u24 u25 u26 u27 u28 u29 u30 u31 u32 u33 u34 u35 u36 u37 u38 u39 u40 u41 u42 u43 u44 u45 u46 u47 u48 u49 u50 u51 u52 u53 u54 u55 u56 u57 u58 u59 u60 u61 u62 u63 u64 u65 u66 u67 u68 u69 u70 u71 u72 u73 u74 u75 u76 u77 u78 u79 u80 u81 u82 u83 u84 u85 u86 u87 u88 u89 u90 u91 u92 u93 u94 u95 u96 u97 u98 u99 u100 u101 u102 u103 u104 u105 u106 u107 u108 u109 u110 u111 u112 u113 u114 u115 u116 u117 u118 u119 u120 u121 u122 u123 u124 u125 u126 u127 u128 u129 u130 u131 u132 u133 u134 u135 u136 u137 u138 u139 u140 u141 u142 u143 u144 u145 u146 u147 u148 u149 u150 u151 u152 u153 u154 u155 u156 u157 u158 u159 u160 u161 u162 u163 u164 u165 u166 u167 u168 u169 u170 u171 u172 u173 u174 u175 u176 u177 u178 u179 u180 u181 u182 u183 u184 u185 u186 u187 u188 u189 u190 u191 u192 u193 u194 u195 u196 u197 u198 u199 u200 u201 u202 u203 u204 u205 u206 u207 u208 u209 u210 u211 u212 u213 u214 u215 u216 u217 u218 u219 u220 u221 u222 u223 u224 u225 u226 u227 u228 u229 u230 u231 u232 u233 u234 u235 u236 u237 u238 u239 u240 u241 u242 u243 u244 u245 u246 u247 u248 u249 u250 u251 u252 u253 u254 u255 u256 u257 u258 u259 u260 u261 u262 u263 u264 u265 u266 u267 u268 u269 u270 u271 u272 u273 u274 u275 u276 u277 u278 u279 u280 u281 u282 u283 u284 u285 u286 u287 u288 u289 u290 u291 u292 u293 : Value} (w v0 W : World) (T O P gw gq : Nat) (t : TV) (os : SL Nat) (ar al ap ak aw : Option Addr) (cr cl cp ck cw : Nat) (lr ll lp lk lw : List Nat) (pi ki wi : Nat → Nat) (hln : t.legs.l.length ≤ 10)
    (HK : Hid (OkT t)) (HBp : Hid (Bij t.P (gt lp) pi)) (HBk : Hid (Bij 8 (gt lk) ki)) (HBw : Hid (Bij t.words.l.length (gt lw) wi)) (hP : P = t.P) (HSt : Hid (Img (gt lp) t.starts.l os.l)) (HSs : Hid (os.l.Pairwise (· < ·)))
    (HR : Hid (RdOk t lr)) (hpl : lp.length = t.P) (hkl : lk.length = 8) (hwl : lw.length = t.words.l.length) (hll : ll.length = t.legs.l.length + 1) (HLP : Hid (∀ x ∈ ll, x < t.P)) (HL0 : Hid ((ll[0]?).getD 0 ∈ t.starts.l))
    (HTt : Hid (IsT v0 t)) (HBt : Hid (TBox v0 T t)) (HSr : Hid (IsSl 1 num v0 ⟨ar, cr, lr⟩)) (HSl : Hid (IsSl 1 num v0 ⟨al, cl, ll⟩)) (HSp : Hid (IsSl 1 num v0 ⟨ap, cp, lp⟩)) (HSk : Hid (IsSl 1 num v0 ⟨ak, ck, lk⟩)) (HSw : Hid (IsSl 1 num v0 ⟨aw, cw, lw⟩))
    (hO : v0.heap.size ≤ O) (hgw : v0.heap.size ≤ gw) (hgq : v0.heap.size ≤ gq) (hOw : O ≠ gw) (hOq : O ≠ gq) (hwq : gw ≠ gq)
    (HMO : Hid (MkT W O P (.slice none 0 0) (.slice (some ⟨gw, 0, none⟩) t.words.l.length t.words.l.length) os.v (.slice none 0 0))) (HWs : Hid (WsAt W gw (List.replicate t.words.l.length ⟨none, 0, []⟩))) (HRq : Hid (Row W gq (List.replicate t.words.l.length 0) t.words.l.length))
    (KO : Hid (∀ w', (∀ b, b < W.heap.size → b ≠ O → b ≠ gw → b ≠ gq → w'.heap[b]? = W.heap[b]?) → IsSl 1 num w' os)) (EV : Hid (Ext w v0)) (EW : Hid (Ext v0 W)) :
    Code.wp Tryz.prog tailB (bodyPost Tryz.prog Tryz.f7 fun e w' => e = .returned (.bool true) ∧ Ext w w') ⟨#[u0, u1, u2, u3, u4, u5, .pointer (some ⟨T, 0, none⟩), .slice ar lr.length cr, .slice al ll.length cl, u9, .slice ap lp.length cp, .slice ak lk.length ck, .slice aw lw.length cw, .func (.func 45) #[] #[], .func (.func 46) #[] #[], .pointer (some ⟨O, 0, none⟩), .slice (some ⟨gq, 0, none⟩) t.words.l.length t.words.l.length, u17, u18, u19, u20, u21, u22, u23, u24, u25, u26, u27, u28, u29, u30, u31, u32, u33, u34, u35, u36, u37, u38, u39, u40, u41, u42, u43, u44, u45, u46, u47, u48, u49, u50, u51, u52, u53, u54, u55, u56, u57, u58, u59, u60, u61, u62, u63, u64, u65, u66, u67, u68, u69, u70, u71, u72, u73, u74, u75, u76, u77, u78, u79, u80, u81, u82, u83, u84, u85, u86, u87, u88, u89, u90, u91, u92, u93, u94, u95, u96, u97, u98, u99, u100, u101, u102, u103, u104, u105, u106, u107, u108, u109, u110, u111, u112, u113, u114, u115, u116, u117, u118, u119, u120, u121, u122, u123, u124, u125, u126, u127, u128, u129, u130, u131, u132, u133, u134, u135, u136, u137, u138, u139, u140, u141, u142, u143, u144, u145, u146, u147, u148, u149, u150, u151, u152, u153, u154, u155, u156, u157, u158, u159, u160, u161, u162, u163, u164, u165, u166, u167, u168, u169, u170, u171, u172, u173, u174, u175, u176, u177, u178, u179, u180, u181, u182, u183, u184, u185, u186, u187, u188, u189, u190, u191, u192, u193, u194, u195, u196, u197, u198, u199, u200, u201, u202, u203, u204, u205, u206, u207, u208, u209, u210, u211, u212, u213, u214, u215, u216, u217, u218, u219, u220, u221, u222, u223, u224, u225, u226, u227, u228, u229, u230, u231, u232, u233, u234, u235, u236, u237, u238, u239, u240, u241, u242, u243, u244, u245, u246, u247, u248, u249, u250, u251, u252, u253, u254, u255, u256, u257, u258, u259, u260, u261, u262, u263, u264, u265, u266, u267, u268, u269, u270, u271, u272, u273, u274, u275, u276, u277, u278, u279, u280, u281, u282, u283, u284, u285, u286, u287, u288, u289, u290, u291, u292, u293], []⟩ W := by
  conv => arg 2; whnf
  have HPL := Lib.hid hpl; clear hpl
  have HKL := Lib.hid hkl; clear hkl
  have HLL := Lib.hid hll; clear hll
  have HWL := Lib.hid hwl; clear hwl
  have HHP := Lib.hid hP; clear hP
  have hw40 := HK.out.ways
  have hOW : O < W.heap.size := (Array.getElem?_eq_some_iff.1 HMO.out).1
  have hgW : gw < W.heap.size := (Array.getElem?_eq_some_iff.1 HWs.out).1
  have hqW : gq < W.heap.size := HRq.out.lt
  obtain ⟨i81, hi81, hz81, hs81, hb81⟩ := info_parts info81
  obtain ⟨-, f1, -, -, -⟩ := TBox.five (EW.out.block HBt.out)
  go_wp2_with fail
  clear f1
  go_loopw [83] (fun iv wr => ∃ (y : Nat) (s : SL (Nat × Nat × Nat)), y ≤ t.ways.l.length ∧ iv = .int .i64 (y : Int) ∧ Hid (s.l = (t.ways.l.take y).map (wayN (gt lp) (gt lk))) ∧ Hid (wr.ownsRow W.heap.size 81 3 (.slice s.a s.l.length s.c) s.l.length (flat 3 wayC s.l)) ∧ Hid (MkT wr O P (.slice s.a s.l.length s.c) (.slice (some ⟨gw, 0, none⟩) t.words.l.length t.words.l.length) os.v (.slice none 0 0)) ∧ Hid (G2 O O W wr)) (fun iv _ => t.ways.l.length - (intOf iv).toNat)
  case atStart => exact ⟨0, ⟨none, 0, []⟩, Nat.zero_le _, rfl, rfl, World.ownsRow_nil _ _ _ _, HMO.out, G2.refl _ _ _⟩
  case round =>
    obtain ⟨wo, rfl⟩ : ∃ wo : World, wo = wr := ⟨_, rfl⟩
    obtain ⟨y, s, hy, rfl, HSL, HSO, HM, HG⟩ := hrel
    have EX : Hid (Ext v0 wo) := ext_g2 EW.out HG.out hO hO
    have hsl : s.l.length = y := by rw [HSL.out, List.length_map, List.length_take]; omega
    by_cases hlt : y < t.ways.l.length
    · have dy : decide ((y : Int) < (t.ways.l.length : Int)) = true := by simpa using hlt
      obtain ⟨bl, ol, hla, hlc⟩ := (HTt.out.ext EX.out).ways.2.2.resolve_left (by omega)
      have cl0 : wo.cell? ⟨bl, ol + y * 3, none⟩ = some (.int .i64 (t.ways.l[y].1 : Int)) := by have := hlc y hlt 0 (by omega); simpa [wayC] using this
      have cl1 : wo.cell? ⟨bl, ol + y * 3 + 1, none⟩ = some (.int .i64 (t.ways.l[y].2.1 : Int)) := by have := hlc y hlt 1 (by omega); simpa [wayC] using this
      have cl2 : wo.cell? ⟨bl, ol + y * 3 + 2, none⟩ = some (.int .i64 (t.ways.l[y].2.2 : Int)) := by have := hlc y hlt 2 (by omega); simpa [wayC] using this
      obtain ⟨w1, w2, -, w4⟩ := HK.out.way _ (List.getElem_mem hlt)
      have HSn : Hid ((t.ways.l.take (y + 1)).map (wayN (gt lp) (gt lk)) = (t.ways.l.take y).map (wayN (gt lp) (gt lk)) ++ [wayN (gt lp) (gt lk) t.ways.l[y]]) := by
        show _ = _
        rw [List.take_succ_eq_append_getElem hlt, List.map_append]; rfl
      clear hlc
      generalize t.ways.l[y] = gg at *
      obtain ⟨g1, g2, g3⟩ := gg
      dsimp only at cl0 cl1 cl2 w1 w2 w4
      rw [hla]
      have HLa := Lib.hid hla; clear hla
      have y0 : (0 : Int) ≤ (y : Int) := by omega
      have HSLn := Lib.hid hsl; clear hsl
      go_upto_region 13 with (fail)
      clear cl0 cl1 cl2
      have HB18 : Hid ((wo.alloc (.cells #[.int .i64 (g1 : Int), .int .i64 (g2 : Int), .int .i64 (g3 : Int)] 81)).heap[wo.heap.size]? = some (.cells #[.int .i64 (g1 : Int), .int .i64 (g2 : Int), .int .i64 (g3 : Int)] 81 (0, 0))) := World.alloc_heap_new wo _
      have EX1 : Hid (Ext wo (wo.alloc (.cells #[.int .i64 (g1 : Int), .int .i64 (g2 : Int), .int .i64 (g3 : Int)] 81))) := (Ext.refl wo).alloc _
      generalize wo.alloc (.cells #[.int .i64 (g1 : Int), .int .i64 (g2 : Int), .int .i64 (g3 : Int)] 81) = x1 at *
      have hwx : wo.heap.size < x1.heap.size := (Array.getElem?_eq_some_iff.1 HB18.out).1
      obtain ⟨bp, pp, rfl, hpc⟩ := num_of (HSp.out.ext (EX.out.trans EX1.out)) (by dsimp only; have := HPL.out; omega)
      obtain ⟨bk, pk, rfl, hkc⟩ := num_of (HSk.out.ext (EX.out.trans EX1.out)) (by dsimp only; have := HKL.out; omega)
      have hp1 := hpc g1 (by dsimp only; have := HPL.out; omega)
      have hp2 := hpc g2 (by dsimp only; have := HPL.out; omega)
      have hk3 := hkc g3 (by dsimp only; have := HKL.out; omega)
      dsimp only at hp1 hp2 hk3
      have KS : Hid (∀ V, Ext x1 V → V.cell? ⟨O, 1, none⟩ = some (.slice s.a s.l.length s.c) ∧ V.cell? ⟨wo.heap.size, 0, none⟩ = some (.int .i64 (g1 : Int)) ∧ V.cell? ⟨wo.heap.size, 1, none⟩ = some (.int .i64 (g2 : Int)) ∧ V.cell? ⟨wo.heap.size, 2, none⟩ = some (.int .i64 (g3 : Int)) ∧ V.cell? ⟨bp, pp + g1, none⟩ = some (.int .i64 (gt lp g1 : Int)) ∧ V.cell? ⟨bp, pp + g2, none⟩ = some (.int .i64 (gt lp g2 : Int)) ∧ V.cell? ⟨bk, pk + g3, none⟩ = some (.int .i64 (gt lk g3 : Int))) := by
        intro V hV
        have hb := hV.block HB18.out
        exact ⟨hV.cell (EX1.out.cell (MkT.five HM.out).2.1), (cell_at hb 0).trans rfl, (cell_at hb 1).trans rfl, (cell_at hb 2).trans rfl, hV.cell hp1, hV.cell hp2, hV.cell hk3⟩
      have hpb : bp < x1.heap.size := lt_of_cell hp1
      have hkb : bk < x1.heap.size := lt_of_cell hk3
      have i0 : (0 : Int) ≤ (g1 : Int) := by omega
      have i1 : (g1 : Int) < (lp.length : Int) := by have := HPL.out; omega
      have i2 : (0 : Int) ≤ (g2 : Int) := by omega
      have i3 : (g2 : Int) < (lp.length : Int) := by have := HPL.out; omega
      have i4 : (0 : Int) ≤ (g3 : Int) := by omega
      have i5 : (g3 : Int) < (lk.length : Int) := by have := HKL.out; omega
      have hpv : bp < v0.heap.size := by
        obtain ⟨b5, o5, hb5, hc5⟩ := num_of HSp.out (by dsimp only; omega)
        simp only [Option.some.injEq, Addr.mk.injEq, and_true] at hb5
        obtain ⟨rfl, rfl⟩ := hb5
        exact lt_of_cell (hc5 g1 (by dsimp only; omega))
      have hkv : bk < v0.heap.size := by
        obtain ⟨b5, o5, hb5, hc5⟩ := num_of HSk.out (by dsimp only; omega)
        simp only [Option.some.injEq, Addr.mk.injEq, and_true] at hb5
        obtain ⟨rfl, rfl⟩ := hb5
        exact lt_of_cell (hc5 g3 (by dsimp only; omega))
      have hvW : v0.heap.size ≤ W.heap.size := EW.out.size
      have hWo : W.heap.size ≤ wo.heap.size := HG.out.size
      clear hpc hkc hp1 hp2 hk3
      have HMx : Hid (MkT x1 O P (.slice s.a s.l.length s.c) (.slice (some ⟨gw, 0, none⟩) t.words.l.length t.words.l.length) os.v (.slice none 0 0)) := EX1.out.block HM.out
      have HGx : Hid (G2 O O W x1) := HG.out.ext EX1.out
      have HSx : Hid (x1.ownsRow W.heap.size 81 3 (.slice s.a s.l.length s.c) s.l.length (flat 3 wayC s.l)) := own_ext HSO.out EX1.out
      have hm6 : s.l.length + 1 ≤ maxLen := by have := HSLn.out; unfold maxLen; omega
      have hl6 : s.l.length ≤ 40 := by have := HSLn.out; omega
      have H63 := Lib.hid hm6
      have HBY : Hid ((s.l.length + 1) * 24 ≤ 140737488355328) := by show _ ≤ _; omega
      have HDr : Hid (Ext x1 x1.drew) := (Ext.refl x1).drew
      refine wp_region_last 21 (fun V => V.cell? ⟨O, 1, none⟩ = some (.slice s.a s.l.length s.c) ∧ V.cell? ⟨wo.heap.size, 0, none⟩ = some (.int .i64 (g1 : Int)) ∧ V.cell? ⟨wo.heap.size, 1, none⟩ = some (.int .i64 (g2 : Int)) ∧ V.cell? ⟨wo.heap.size, 2, none⟩ = some (.int .i64 (g3 : Int)) ∧ V.cell? ⟨bp, pp + g1, none⟩ = some (.int .i64 (gt lp g1 : Int)) ∧ V.cell? ⟨bp, pp + g2, none⟩ = some (.int .i64 (gt lp g2 : Int)) ∧ V.cell? ⟨bk, pk + g3, none⟩ = some (.int .i64 (gt lk g3 : Int))) (by kernel_rfl) (KS.out _ HDr.out) (fun hHeld => ?_)
      refine wpAnyF_take (i := 0) (v := ?_) rfl (by kernel_rfl) (by kernel_rfl) (by kernel_rfl) (by kernel_rfl) (fun _ _ _ h => h) (Or.inl ⟨by rfl, ?_⟩) (by assumption) ?_
      rotate_left
      · intro wS hSw
        (try dsimp only at hSw)
        go_simp
        try with_reducible rfl
      try simp only [Act.put, List.setIfInBounds_toArray]
      refine wpAnyF_take (i := 1) (v := ?_) rfl (by kernel_rfl) (by kernel_rfl) (by kernel_rfl) (by kernel_rfl) (fun _ _ _ h => h) (Or.inl ⟨by rfl, ?_⟩) (by assumption) ?_
      rotate_left
      · intro wS hSw
        (try dsimp only at hSw)
        go_simp
        try with_reducible rfl
      try simp only [Act.put]
      refine wpAnyF_take (i := 2) (v := ?_) rfl (by kernel_rfl) (by kernel_rfl) (by kernel_rfl) (by kernel_rfl) (fun _ _ _ h => h) (Or.inl ⟨by rfl, ?_⟩) (by assumption) ?_
      rotate_left
      · intro wS hSw
        (try dsimp only at hSw)
        go_simp
        try with_reducible rfl
      try simp only [Act.put]
      refine wpAnyF_take (i := 3) (v := ?_) rfl (by kernel_rfl) (by kernel_rfl) (by kernel_rfl) (by kernel_rfl) (fun _ _ _ h => h) (Or.inl ⟨by rfl, ?_⟩) (by assumption) ?_
      rotate_left
      · intro wS hSw
        (try dsimp only at hSw)
        go_simp
        try with_reducible rfl
      try simp only [Act.put]
      refine wpAnyF_take (i := 4) (v := ?_) rfl (by kernel_rfl) (by kernel_rfl) (by kernel_rfl) (by kernel_rfl) (fun _ _ _ h => h) (Or.inl ⟨by rfl, ?_⟩) (by assumption) ?_
      rotate_left
      · intro wS hSw
        (try dsimp only at hSw)
        go_simp
        try with_reducible rfl
      try simp only [Act.put]
      refine wpAnyF_take (i := 5) (v := ?_) rfl (by kernel_rfl) (by kernel_rfl) (by kernel_rfl) (by kernel_rfl) (fun _ _ _ h => h) (Or.inl ⟨by rfl, ?_⟩) (by assumption) ?_
      rotate_left
      · intro wS hSw
        (try dsimp only at hSw)
        go_simp
        try with_reducible rfl
      try simp only [Act.put]
      refine wpAnyF_take (i := 6) (v := ?_) rfl (by kernel_rfl) (by kernel_rfl) (by kernel_rfl) (by kernel_rfl) (fun _ _ _ h => h) (Or.inl ⟨by rfl, ?_⟩) (by assumption) ?_
      rotate_left
      · intro wS hSw
        (try dsimp only at hSw)
        go_simp
        try with_reducible rfl
      try simp only [Act.put]
      refine wpAnyF_take (i := 7) (v := ?_) rfl (by kernel_rfl) (by kernel_rfl) (by kernel_rfl) (by kernel_rfl) (fun _ _ _ h => h) (Or.inl ⟨by rfl, ?_⟩) (by assumption) ?_
      rotate_left
      · intro wS hSw
        (try dsimp only at hSw)
        go_simp
        try with_reducible rfl
      try simp only [Act.put]
      refine wpAnyF_take (i := 8) (v := ?_) rfl (by kernel_rfl) (by kernel_rfl) (by kernel_rfl) (by kernel_rfl) (fun _ _ _ h => h) (Or.inl ⟨by rfl, ?_⟩) (by assumption) ?_
      rotate_left
      · intro wS hSw
        (try dsimp only at hSw)
        go_simp
        try with_reducible rfl
      try simp only [Act.put]
      refine wpAnyF_take (i := 9) (v := ?_) rfl (by kernel_rfl) (by kernel_rfl) (by kernel_rfl) (by kernel_rfl) (fun _ _ _ h => h) (Or.inl ⟨by rfl, ?_⟩) (by assumption) ?_
      rotate_left
      · intro wS hSw
        (try dsimp only at hSw)
        go_simp
        try with_reducible rfl
      try simp only [Act.put]
      refine wpAnyF_take (i := 10) (v := ?_) rfl (by kernel_rfl) (by kernel_rfl) (by kernel_rfl) (by kernel_rfl) (fun _ _ _ h => h) (Or.inl ⟨by rfl, ?_⟩) (by assumption) ?_
      rotate_left
      · intro wS hSw
        (try dsimp only at hSw)
        go_simp
        try with_reducible rfl
      try simp only [Act.put]
      refine wpAnyF_take (i := 11) (v := ?_) rfl (by kernel_rfl) (by kernel_rfl) (by kernel_rfl) (by kernel_rfl) (fun _ _ _ h => h) (Or.inl ⟨by rfl, ?_⟩) (by assumption) ?_
      rotate_left
      · intro wS hSw
        (try dsimp only at hSw)
        go_simp
        try with_reducible rfl
      try simp only [Act.put]
      refine wpAnyF_take (i := 12) (v := ?_) rfl (by kernel_rfl) (by kernel_rfl) (by kernel_rfl) (by kernel_rfl) (fun _ _ _ h => h) (Or.inl ⟨by rfl, ?_⟩) (by assumption) ?_
      rotate_left
      · intro wS hSw
        (try dsimp only at hSw)
        go_simp
        try with_reducible rfl
      try simp only [Act.put]
      refine wpAnyF_take (i := 13) (v := ?_) rfl (by kernel_rfl) (by kernel_rfl) (by kernel_rfl) (by kernel_rfl) (fun _ _ _ h => h) (Or.inl ⟨by rfl, ?_⟩) (by assumption) ?_
      rotate_left
      · intro wS hSw
        (try dsimp only at hSw)
        go_simp
        try with_reducible rfl
      try simp only [Act.put]
      refine wpAnyF_take (i := 14) (v := ?_) rfl (by kernel_rfl) (by kernel_rfl) (by kernel_rfl) (by kernel_rfl) (fun _ _ _ h => h) (Or.inl ⟨by rfl, ?_⟩) (by assumption) ?_
      rotate_left
      · intro wS hSw
        (try dsimp only at hSw)
        go_simp
        try with_reducible rfl
      try simp only [Act.put]
      refine wpAnyF_take (i := 15) (v := ?_) rfl (by kernel_rfl) (by kernel_rfl) (by kernel_rfl) (by kernel_rfl) (fun _ _ _ h => h) (Or.inl ⟨by rfl, ?_⟩) (by assumption) ?_
      rotate_left
      · intro wS hSw
        (try dsimp only at hSw)
        go_simp
        try with_reducible rfl
      try simp only [Act.put]
      refine wpAnyF_take (i := 16) (v := ?_) rfl (by kernel_rfl) (by kernel_rfl) (by kernel_rfl) (by kernel_rfl) (fun _ _ _ h => h) (Or.inl ⟨by rfl, ?_⟩) (by assumption) ?_
      rotate_left
      · intro wS hSw
        (try dsimp only at hSw)
        go_simp
        try with_reducible rfl
      try simp only [Act.put]
      refine wpAnyF_take (i := 17) (v := ?_) rfl (by kernel_rfl) (by kernel_rfl) (by kernel_rfl) (by kernel_rfl) (fun _ _ _ h => h) (Or.inl ⟨by rfl, ?_⟩) (by assumption) ?_
      rotate_left
      · intro wS hSw
        (try dsimp only at hSw)
        go_simp
        try with_reducible rfl
      try simp only [Act.put]
      refine wpAnyF_ready (rs := [18]) (by kernel_rfl) (by simp) (AllReadyF.cons rfl (fun K hK => ?_) AllReadyF.nil)
      go_simp
      refine hK.out _ _ (KS.out _ (HDr.out.alloc _)) (fun hHeld => ?_)
      clear hK K
      try simp only [Act.put, List.setIfInBounds_toArray, List.set_cons_zero, List.set_cons_succ]
      have HSd : Hid (x1.drew.ownsRow W.heap.size 81 3 (.slice s.a s.l.length s.c) s.l.length (flat 3 wayC s.l)) := own_ext HSx.out HDr.out
      have hb4 : W.heap.size ≤ x1.drew.heap.size := by show W.heap.size ≤ x1.heap.size; omega
      refine wpAnyF_ready (rs := [19]) (by kernel_rfl) (by simp) (AllReadyF.cons rfl (fun K hK => ?_) AllReadyF.nil)
      refine step_append_lies _ rfl (.tmp 88) (.tmp 105) 22 rfl W.heap.size 81 i81 (.agg #[.int .i64 0, .int .i64 0, .int .i64 0]) 3 24 Tryz.underlying22 hi81 hz81 hs81 hb81 rfl (by decide) (.slice s.a s.l.length s.c) s.l.length (flat 3 wayC s.l) ?_ (HSd.out.alloc _) ⟨x1.drew.heap.size, 0, none⟩ 1 1 (flat 3 wayC [(gt lp g2, gt lp g1, gt lk g3)]) ?_ rfl (new_cells x1.drew (flat 3 wayC [(gt lp g2, gt lp g1, gt lk g3)]) 81) (way_one _) (by decide) H63.out HBY.out ?_ _ rfl ?_
      · simp [Act.eval]
      · simp [Act.eval]
      · show _ ≤ (x1.alloc _).heap.size; rw [World.size_alloc]; exact Nat.le_succ_of_le hb4
      intro g cap v5 hown hgrow hwh hgl
      have hrow : ∀ i, (Value.slice s.a s.l.length s.c).ownBlock = some i → W.heap.size ≤ i ∧ i < wo.heap.size := fun i hi => HSO.out.lt i hi
      obtain ⟨hM5, hA, hC, hD⟩ := way_leafN hOW rfl HSd.out (HDr.out.block HMx.out) (HGx.out.ext HDr.out) hown hgrow
      have hB5 : ∀ b, b < x1.heap.size → (b < W.heap.size ∨ b = wo.heap.size) → v5.heap[b]? = x1.heap[b]? := by
        intro b hb hc
        refine (hgrow.block b (by show _ < (x1.alloc _).heap.size; rw [World.size_alloc]; exact Nat.lt_succ_of_lt hb) (fun e => ?_)).trans (Below.block (HDr.out.alloc _) b hb)
        have := hrow b e.symm; omega
      have hS5 : v5.cell? ⟨O, 1, none⟩ = some (.slice s.a s.l.length s.c) ∧ v5.cell? ⟨wo.heap.size, 0, none⟩ = some (.int .i64 (g1 : Int)) ∧ v5.cell? ⟨wo.heap.size, 1, none⟩ = some (.int .i64 (g2 : Int)) ∧ v5.cell? ⟨wo.heap.size, 2, none⟩ = some (.int .i64 (g3 : Int)) ∧ v5.cell? ⟨bp, pp + g1, none⟩ = some (.int .i64 (gt lp g1 : Int)) ∧ v5.cell? ⟨bp, pp + g2, none⟩ = some (.int .i64 (gt lp g2 : Int)) ∧ v5.cell? ⟨bk, pk + g3, none⟩ = some (.int .i64 (gt lk g3 : Int)) := by
        obtain ⟨s1, s2, s3, s4, s5, s6, s7⟩ := KS.out x1 (Ext.refl x1)
        exact ⟨(MkT.five hM5).2.1, (World.cell?_of_block (a := ⟨wo.heap.size, 0, none⟩) (hB5 wo.heap.size hwx (.inr rfl))).trans s2, (World.cell?_of_block (a := ⟨wo.heap.size, 1, none⟩) (hB5 wo.heap.size hwx (.inr rfl))).trans s3, (World.cell?_of_block (a := ⟨wo.heap.size, 2, none⟩) (hB5 wo.heap.size hwx (.inr rfl))).trans s4, (World.cell?_of_block (a := ⟨bp, pp + g1, none⟩) (hB5 bp hpb (.inl (by omega)))).trans s5, (World.cell?_of_block (a := ⟨bp, pp + g2, none⟩) (hB5 bp hpb (.inl (by omega)))).trans s6, (World.cell?_of_block (a := ⟨bk, pk + g3, none⟩) (hB5 bk hkb (.inl (by omega)))).trans s7⟩
      have c5 := (MkT.five hM5).2.1
      have g5 := MkT.frozen hM5 1
      clear hown hgrow hwh hgl hrow hB5 hM5
      refine hK.out _ _ hS5 (fun hHeld => ?_)
      clear hK K hS5
      try simp only [Act.put, List.setIfInBounds_toArray]
      refine wpAnyF_take (i := 20) (v := ?_) rfl (by kernel_rfl) (by kernel_rfl) (by kernel_rfl) (by kernel_rfl) (fun _ _ _ h => h) (Or.inl ⟨by rfl, ?_⟩) (by assumption) ?_
      rotate_left
      · intro wS hSw
        (try dsimp only at hSw)
        go_simp
        try with_reducible rfl
      try simp only [Act.put]
      refine wpAnyF_last (by kernel_rfl) rfl (by kernel_rfl) (fun K hK => ?_)
      go_simp
      refine hK.out _ _ ?_
      clear hK K c5 g5
      go_wp2_with fail
      go_roundw
      case rel => exact ⟨y + 1, ⟨some ⟨g, 0, none⟩, cap, s.l ++ [(gt lp g2, gt lp g1, gt lk g3)]⟩, by omega, by go_num, by show _ = _; rw [HSn.out, HSL.out], hA, hC, hD⟩
      case measure => simp [intOf]; omega
    · have hye : y = t.ways.l.length := by omega
      have dy : decide ((y : Int) < (t.ways.l.length : Int)) = false := decide_eq_false (by omega)
      have hgs := HG.out.size
      have hWy : s.l = t.ways.l.map fun x => (gt lp x.2.1, gt lp x.1, gt lk x.2.2) := by
        have := HSL.out
        rwa [List.take_of_length_le (by omega)] at this
      have hWo : WsAt wo gw (List.replicate t.words.l.length ⟨none, 0, []⟩) := (HG.out.block gw hgW (fun e => hOw e.symm) (fun e => hOw e.symm)).trans HWs.out
      have hRo : Row wo gq (List.replicate t.words.l.length 0) t.words.l.length := HRq.out.g2 HG.out (fun e => hOq e.symm) (fun e => hOq e.symm)
      have hKO : ∀ w', (∀ b, b < wo.heap.size → b ≠ O → b ≠ gw → b ≠ gq → w'.heap[b]? = wo.heap[b]?) → IsSl 3 wayC w' s ∧ IsSl 1 num w' os := by
        intro w' h
        exact ⟨own_slG (own_range HSO.out (Nat.le_refl _) (fun b hb hl => h b hl (by omega) (by omega) (by omega))) (by omega), KO.out w' (fun b hb h1 h2 h3 => (h b (by omega) h1 h2 h3).trans (HG.out.block b hb h1 h1))⟩
      have HWy := Lib.hid hWy
      have HWo := Lib.hid hWo
      have HRo := Lib.hid hRo
      have HKO := Lib.hid hKO
      clear hWy hWo hRo hKO hye hgs hsl
      repeat (first
        | exact named_tailC w v0 wo T O P gw gq t s os ar al ap ak aw cr cl cp ck cw lr ll lp lk lw pi ki wi hln HK HBp HBk HBw HHP.out HWy HSt HSs HR HPL.out HKL.out HWL.out HLL.out HLP HL0 HTt HBt HSr HSl HSp HSk HSw hO hgw hgq hOw hOq hwq HM HWo HRo HKO EV EX
        | go_step)
end Go.Proofs.YtdejaliegbmgaaaGreat
