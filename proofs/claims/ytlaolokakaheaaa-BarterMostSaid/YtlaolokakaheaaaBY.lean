/-
  byOrder of package barter: the exchange by order by which the North gets so much more than it gives. The land at work must lie in memory as told.
-/
import Derived.Test.YtlaolokakaheaaaGV
import Derived.Test.YtlaolokakaheaaaLK
import Derived.Test.YtlaolokakaheaaaCUW
namespace Go.Proofs.Ytlaolokakaheaaa
open Go.RowKit

theorem take_sum_mono (l : List Nat) {i j : Nat} (h : i ≤ j) : (l.take i).sum ≤ (l.take j).sum := by
  obtain ⟨d, rfl⟩ := Nat.exists_eq_add_of_le h
  rw [List.take_add, List.sum_append]; omega
theorem first_next {ws : List Nat} {m k : Nat} (hk : k ≤ firstF ws m) (hl : k < ws.length) (hs : (ws.take (k + 1)).sum ≤ m) : k + 1 ≤ firstF ws m := by
  obtain ⟨-, -, h3⟩ := first_spec ws m
  rcases Nat.lt_or_ge k (firstF ws m) with h | h
  · exact h
  · obtain rfl : k = firstF ws m := Nat.le_antisymm hk h
    have := h3 hl
    rw [List.take_add_one, List.sum_append, List.getElem?_eq_getElem hl] at hs
    rw [List.getElem?_eq_getElem hl] at this
    simp at hs this
    omega
theorem first_end {ws : List Nat} {m k : Nat} (hk : k ≤ firstF ws m) (hs : ¬ (k < ws.length ∧ (ws.take (k + 1)).sum ≤ m)) : k = firstF ws m := by
  obtain ⟨h1, h2, -⟩ := first_spec ws m
  rcases Nat.lt_or_ge k (firstF ws m) with h | h
  · exact absurd ⟨by omega, Nat.le_trans (take_sum_mono ws h) h2⟩ hs
  · exact Nat.le_antisymm hk h
theorem cnt_le {L : List St} (hk : OkS L) (b : Bool) {i : Nat} (hi : i < L.length) : 1 ≤ cntF b (at' L i) ∧ cntF b (at' L i) ≤ 2000 := by
  obtain ⟨a1, a2, a3, a4⟩ := hk.wr hi
  cases b
  · show 1 ≤ (at' L i).n ∧ (at' L i).n ≤ 2000; omega
  · show 1 ≤ (at' L i).n + (at' L i).s ∧ (at' L i).n + (at' L i).s ≤ 2000; omega
theorem own_le {L : List St} (hk : OkS L) (b : Bool) (own : Nat) (hl : L.length ≤ 16) : ownF L b own ≤ 32000 := by
  rw [← ownK_all]
  have h1 := ownK_le L b own (fun i hi => (cnt_le hk b hi).2) (freeF L) (fun i hi => (mem_free.1 hi).1)
  have h2 : (freeF L).length ≤ L.length := by have := List.length_filter_le (fun i => (at' L i).free) (List.range L.length); rwa [List.length_range] at this
  omega
theorem uncut_le {L : List St} {l : List Nat} {f k : Nat} (hk : k < (uncutF L l f).length) : pt (uncutF L l f) k ≤ 1 := by
  rw [uncut_len] at hk
  rw [uncut_pt hk]
  have := now_le (at' L k)
  split
  · split <;> omega
  · exact this
/-- A block with an exchange, and a slot. -/
theorem results_ex {fn : Func} {p q : Tmp} (h : fn.results = #[.cell p 31, .tmp q]) (tmps : Array Value) (w : World) (B : Nat) (u v : Value) (hp : tmps.getD p undef = .pointer (some ⟨B, 0, none⟩)) (hc : w.heap[B]? = some (.cells #[u, v] 31 (0, 0))) :
    (results fn tmps).run Try.prog w = .ok (.tuple #[.agg #[u, v], tmps.getD q undef]) w := by
  have hp' : tmps[p]?.getD undef = .pointer (some ⟨B, 0, none⟩) := by simpa using hp
  have c0 := cell_at hc 0
  have c1 := cell_at hc 1
  dsimp at c0 c1
  simp [results, h, hp', asAddr, go_sem, c0, c1, Result.andThen]
/-- What byOrder answers. -/
def ByPost (w : World) (L : List St) (o : Option (Nat × List Nat)) (e : Ending) (w' : World) : Prop :=
  match o with
  | none => e = .returned (.tuple #[.agg #[.int .i64 0, .slice none 0 0], .bool false]) ∧ Ext w w'
  | some (W, P) => ∃ g cap, e = .returned (.tuple #[.agg #[.int .i64 (W : Int), .slice (some ⟨g, 0, none⟩) L.length cap], .bool true]) ∧ Row w' g P cap ∧ w.heap.size ≤ g ∧ Ext w w'

set_option maxRecDepth 100000 in
set_option maxHeartbeats 1000000 in
theorem byOrder_any (b : Bool) (x : Ld) (WB : Nat) (more : Int) (w : World) (hw : IsWk w WB x b) (h : StL w x.s) (hk : OkS x.s.l) (ho : ∀ y ∈ x.s.l, y.o ≤ 1) (hl16 : x.s.l.length ≤ 16) (hm : -10000 ≤ more ∧ more ≤ 50000) :
    Calls Try.prog 28 #[.pointer (some ⟨WB, 0, none⟩), .int .i64 more] w (ByPost w x.s.l (byOrderF x.s.l b more)) := by
  have HG1 : Hid (∀ (PW : Nat) (V : World), Ext w V → V.heap[PW]? = some (.cells #[.pointer (some ⟨WB, 0, none⟩)] 60 (0, 0)) → Calls Try.prog 49 #[.int .i64 1, .pointer (some ⟨PW, 0, none⟩)] V fun e w' => e = .returned (.int .i64 (ownF x.s.l b 1 : Int)) ∧ Ext V w') := fun PW V k hpw => given_any b 1 x PW WB V hpw (hw.ext k) (h.ext k) hk hl16
  have HG0 : Hid (∀ (PW : Nat) (V : World), Ext w V → V.heap[PW]? = some (.cells #[.pointer (some ⟨WB, 0, none⟩)] 60 (0, 0)) → Calls Try.prog 49 #[.int .i64 0, .pointer (some ⟨PW, 0, none⟩)] V fun e w' => e = .returned (.int .i64 (ownF x.s.l b 0 : Int)) ∧ Ext V w') := fun PW V k hpw => given_any b 0 x PW WB V hpw (hw.ext k) (h.ext k) hk hl16
  have HOr := Lib.hid (fun (V : World) (k : Ext w V) => order_any x V (h.ext k) hk hl16)
  have HWo := Lib.hid (fun (V : World) (k : Ext w V) (a : Option Addr) (c : Nat) (hp : IsSl 1 num V ⟨a, c, orderF x.s.l⟩) => worthsOf_any b x WB a c (orderF x.s.l) V (hw.ext k) (h.ext k) hk hp (fun q hq => by
    have e : pt (orderF x.s.l) q = (orderF x.s.l)[q] := by unfold pt; rw [List.getElem?_eq_getElem hq]; rfl
    rw [e]; exact (order_lt (List.getElem_mem hq)).1))
  have HOl : Hid ((orderF x.s.l).length ≤ 16 ∧ (worthsF x.s.l b (orderF x.s.l)).length = (orderF x.s.l).length) := by
    refine ⟨?_, by unfold worthsF; rw [List.length_map]⟩
    rw [order_perm.length_eq]
    have := List.length_filter_le (fun i => (at' x.s.l i).free) (List.range x.s.l.length); rw [List.length_range] at this; unfold freeF; omega
  have HUn := Lib.hid (fun (V : World) (k : Ext w V) (f : Nat) (a : Option Addr) (c : Nat) (hp : IsSl 1 num V ⟨a, c, orderF x.s.l⟩) => uncut_any b x WB f a c (orderF x.s.l) V (hw.ext k) (h.ext k) hl16 hp order_nodup (fun i => order_perm.mem_iff) HOl.out.1)
  have HWp : Hid (∀ i, i < (worthsF x.s.l b (orderF x.s.l)).length → pt (worthsF x.s.l b (orderF x.s.l)) i ≤ 2000 ∧ 1 ≤ pt (worthsF x.s.l b (orderF x.s.l)) i) := fun i hi => by
    have e : pt (worthsF x.s.l b (orderF x.s.l)) i = (worthsF x.s.l b (orderF x.s.l))[i] := by unfold pt; rw [List.getElem?_eq_getElem hi]; rfl
    have hi2 : i < (orderF x.s.l).length := by unfold worthsF at hi; rwa [List.length_map] at hi
    have e2 : (worthsF x.s.l b (orderF x.s.l))[i] = cntF b (at' x.s.l (orderF x.s.l)[i]) := List.getElem_map _
    rw [e, e2]
    have := cnt_le hk b (order_lt (List.getElem_mem hi2)).1
    exact ⟨this.2, this.1⟩
  have HSu : Hid (ownF x.s.l b 0 + ownF x.s.l b 1 = (worthsF x.s.l b (orderF x.s.l)).sum) := own_sum ho
  have h0 := own_le hk b 0 hl16
  have h1 := own_le hk b 1 hl16
  have HBy : Hid (byOrderF x.s.l b more = if (ownF x.s.l b 1 : Int) < more then none else
      (if (more + (ownF x.s.l b 0 : Int)).toNat - ((worthsF x.s.l b (orderF x.s.l)).take (firstF (worthsF x.s.l b (orderF x.s.l)) (more + (ownF x.s.l b 0 : Int)).toNat)).sum = 0 then some (1, uncutF x.s.l (orderF x.s.l) (firstF (worthsF x.s.l b (orderF x.s.l)) (more + (ownF x.s.l b 0 : Int)).toNat)) else
        some ((worthsF x.s.l b (orderF x.s.l))[firstF (worthsF x.s.l b (orderF x.s.l)) (more + (ownF x.s.l b 0 : Int)).toNat]?.getD 0 / Nat.gcd ((more + (ownF x.s.l b 0 : Int)).toNat - ((worthsF x.s.l b (orderF x.s.l)).take (firstF (worthsF x.s.l b (orderF x.s.l)) (more + (ownF x.s.l b 0 : Int)).toNat)).sum) ((worthsF x.s.l b (orderF x.s.l))[firstF (worthsF x.s.l b (orderF x.s.l)) (more + (ownF x.s.l b 0 : Int)).toNat]?.getD 0),
          ((uncutF x.s.l (orderF x.s.l) (firstF (worthsF x.s.l b (orderF x.s.l)) (more + (ownF x.s.l b 0 : Int)).toNat)).map ((worthsF x.s.l b (orderF x.s.l))[firstF (worthsF x.s.l b (orderF x.s.l)) (more + (ownF x.s.l b 0 : Int)).toNat]?.getD 0 / Nat.gcd ((more + (ownF x.s.l b 0 : Int)).toNat - ((worthsF x.s.l b (orderF x.s.l)).take (firstF (worthsF x.s.l b (orderF x.s.l)) (more + (ownF x.s.l b 0 : Int)).toNat)).sum) ((worthsF x.s.l b (orderF x.s.l))[firstF (worthsF x.s.l b (orderF x.s.l)) (more + (ownF x.s.l b 0 : Int)).toNat]?.getD 0) * ·)).set ((orderF x.s.l)[firstF (worthsF x.s.l b (orderF x.s.l)) (more + (ownF x.s.l b 0 : Int)).toNat]?.getD 0) (((more + (ownF x.s.l b 0 : Int)).toNat - ((worthsF x.s.l b (orderF x.s.l)).take (firstF (worthsF x.s.l b (orderF x.s.l)) (more + (ownF x.s.l b 0 : Int)).toNat)).sum) / Nat.gcd ((more + (ownF x.s.l b 0 : Int)).toNat - ((worthsF x.s.l b (orderF x.s.l)).take (firstF (worthsF x.s.l b (orderF x.s.l)) (more + (ownF x.s.l b 0 : Int)).toNat)).sum) ((worthsF x.s.l b (orderF x.s.l))[firstF (worthsF x.s.l b (orderF x.s.l)) (more + (ownF x.s.l b 0 : Int)).toNat]?.getD 0))))) := rfl
  have HOm := Lib.hid (fun (q : Nat) (hq : q < (orderF x.s.l).length) => (show pt (orderF x.s.l) q < x.s.l.length by
    have e : pt (orderF x.s.l) q = (orderF x.s.l)[q] := by unfold pt; rw [List.getElem?_eq_getElem hq]; rfl
    rw [e]; exact (order_lt (List.getElem_mem hq)).1))
  have HUl := Lib.hid (fun (f : Nat) => uncut_len (L := x.s.l) (l := orderF x.s.l) (f := f))
  have HUb := Lib.hid (fun (f k : Nat) => uncut_le (L := x.s.l) (l := orderF x.s.l) (f := f) (k := k))
  have HWk := Lib.hid hw
  clear h hk ho hw
  obtain ⟨⟨sa, sc, L⟩, ⟨va, vc, vl⟩⟩ := x
  dsimp only at *
  generalize hws : worthsF L b (orderF L) = ws at *
  generalize hol : orderF L = ol at *
  generalize ownF L b 0 = g0 at *
  generalize ownF L b 1 = g1 at *
  generalize byOrderF L b more = bo at *
  clear hws hol
  have HM0 : Hid (Mm w [] [(w.heap.size, .cells #[.pointer (some ⟨WB, 0, none⟩)] 60), (w.heap.size + 1, .cells #[.int .i64 0, .slice none 0 0] 31)] ((w.alloc (.cells #[.pointer (some ⟨WB, 0, none⟩)] 60)).alloc (.cells #[.int .i64 0, .slice none 0 0] 31))) := by
    have h := ((Mm.start (w0 := w)).new (.cells #[.pointer (some ⟨WB, 0, none⟩)] 60)).new (.cells #[.int .i64 0, .slice none 0 0] 31)
    simp only [World.size_alloc] at h
    exact h
  go_enter Try.func28, Try.ntmps28
  go_upto_region 2 with (fail)
  generalize (w.alloc (.cells #[.pointer (some ⟨WB, 0, none⟩)] 60)).alloc (.cells #[.int .i64 0, .slice none 0 0] 31) = V0 at *
  generalize w.heap.size + 1 = RB at *
  generalize hPW : w.heap.size = PW at HM0 ⊢
  have HPW := Lib.hid hPW
  clear hPW
  by_cases hg : (g1 : Int) < more
  · have dg : decide ((g1 : Int) < more) = true := decide_eq_true hg
    rw [if_pos hg] at HBy
    go_upto_region 3 with (go_at_call 49; refine (HG1.out PW _ HM0.out.to_ext (HM0.out.heap 0 rfl)).mono ?_; rintro e V1 ⟨rfl, hx⟩; have HM1 := Lib.hid (HM0.out.ext hx); clear hx)
    have z0 := HM1.out.cell 1 (j := 0) rfl rfl
    have z1 := HM1.out.cell 1 (j := 1) rfl rfl
    have f0 := HM1.out.frozen 1 (j := 0) rfl
    have f1 := HM1.out.frozen 1 (j := 1) rfl
    go_wp2_with fail
    have HE := Lib.hid ((HM1.out.cellPut (j := 0) 1 rfl (.int .i64 0)).cellPut (j := 1) 1 rfl (.slice none 0 0))
    refine bodyPost_ret (results_ex rfl _ _ RB _ _ rfl (HE.out.heap 1 rfl)) rfl ?_
    show ByPost w L _ _ _
    rw [HBy.out]
    exact ⟨rfl, HE.out.to_ext⟩
  · have dg : decide ((g1 : Int) < more) = false := decide_eq_false hg
    rw [if_neg hg] at HBy
    obtain ⟨m, hm'⟩ : ∃ m, (more + (g0 : Int)).toNat = m := ⟨_, rfl⟩
    rw [hm'] at HBy
    have HMm : Hid (m ≤ ws.sum ∧ m ≤ 90000) := by have := HSu.out; show _ ∧ _; omega
    have hneg : IntKind.i64.wrap (-(g0 : Int)) = -(g0 : Int) := IntWalk.i64_in _ (by omega)
    have hmx : max more (-(g0 : Int)) + (g0 : Int) = (m : Int) := by omega
    have hmw : IntKind.i64.wrap (max more (-(g0 : Int)) + (g0 : Int)) = (m : Int) := by rw [hmx]; exact IntWalk.i64_in _ (by omega)
    go_upto_region 5 with (first
      | (go_at_call_of 49 (Value.int IntKind.i64 1); refine (HG1.out PW _ HM0.out.to_ext (HM0.out.heap 0 rfl)).mono ?_; rintro e V1 ⟨rfl, hx⟩; have HM1 := Lib.hid (HM0.out.ext hx); clear hx)
      | (go_at_call_of 49 (Value.int IntKind.i64 0); first
        | (refine (HG0.out PW _ HM2.out.to_ext (HM2.out.heap 0 rfl)).mono ?_; rintro e V3 ⟨rfl, hx⟩; have HM3 := Lib.hid (HM2.out.ext hx); clear hx)
        | (refine (HG0.out PW _ HM1.out.to_ext (HM1.out.heap 0 rfl)).mono ?_; rintro e V2 ⟨rfl, hx⟩; have HM2 := Lib.hid (HM1.out.ext hx); clear hx)))
    have HM4 := Lib.hid (HM3.out.new (.cells #[.int .i64 (m : Int)] 3))
    clear HM0 HM1 HM2 HM3 hneg hmx hmw hm' HG0 HG1
    generalize V3.alloc (.cells #[.int .i64 (m : Int)] 3) = V4 at *
    generalize V3.heap.size = NB at *
    have c0 := HM4.out.cell 0 (j := 0) rfl rfl
    obtain ⟨w0, w1, w2⟩ := (IsWk.ext HWk.out HM4.out.to_ext).cells
    dsimp only at w0 w1 w2
    go_upto_region 7 with (first
      | (go_at_call 51; refine (HOr.out _ HM4.out.to_ext).mono ?_; rintro e V5 ⟨oa, oc, rfl, ho, hx⟩; have HM5 := Lib.hid (HM4.out.ext hx); have HOi := Lib.hid (own_sl ho (by have := HOl.out.1; omega)); have HOb : Hid (∀ obk oo, oa = some ⟨obk, oo, none⟩ → obk ≠ RB) := (fun obk oo ea e2 => by have h1 := own_lt ho obk (by rw [ea]; rfl); have h2 := HM4.out.blt (i := 1) rfl; dsimp only at h2; omega); clear hx ho c0 w0 w1 w2; have c0 := HM5.out.cell 0 (j := 0) rfl rfl)
      | (go_at_call 52; refine (HWo.out _ HM5.out.to_ext oa oc HOi.out).mono ?_; rintro e V6 ⟨wg, rfl, hr, hg, hx⟩; have HM6 := Lib.hid ((HM5.out.ext hx).new (.cells #[.slice (some ⟨wg, 0, none⟩) ol.length ol.length] 24)); have HWr0 := Lib.hid (hr.ext ((Ext.refl V6).alloc (.cells #[.slice (some ⟨wg, 0, none⟩) ol.length ol.length] 24))); have HOi6 := Lib.hid ((HOi.out.ext hx).ext ((Ext.refl V6).alloc (.cells #[.slice (some ⟨wg, 0, none⟩) ol.length ol.length] 24))); clear hr hg hx c0 HOi))
    have HM7 := HM6
    have HWr := HWr0
    have HOi := HOi6
    clear HM4 HM5 HM6 HWr0 HOi6
    generalize V6.alloc (.cells #[.slice (some ⟨wg, 0, none⟩) ol.length ol.length] 24) = V7 at *
    generalize V6.heap.size = TB at *
    have HLk : Hid (∀ V, Ext V7 V → ∀ q : Nat, q ≤ ol.length → Calls Try.prog 53 #[.int .i64 (q : Int), .pointer (some ⟨NB, 0, none⟩), .pointer (some ⟨TB, 0, none⟩)] V fun e w' => e = .returned (.int .i64 ((m : Int) - ((ws.take q).sum : Int))) ∧ Ext V w') := fun V k q hq => by
      have hl := HOl.out
      have hm2 := HMm.out.2
      refine lacks_any NB TB wg q (m : Int) ws V (k.block (HM7.out.heap 2 rfl)) (by rw [hl.2]; exact k.block (HM7.out.heap 3 rfl)) (by rw [hl.2]; exact HWr.out.ext k) (by omega) (by omega) (fun i hi => (HWp.out i hi).1) (by omega)
    go_wp2_with fail
    go_loopw [11] (fun s wr => ∃ k : Nat, s = .int .i64 (k : Int) ∧ k ≤ firstF ws m ∧ Hid (Ext V7 wr)) (fun s _ => ol.length - (intOf s).toNat)
    case atStart => exact ⟨0, rfl, Nat.zero_le _, Ext.refl _⟩
    case round =>
      obtain ⟨wo, rfl⟩ : ∃ wo : World, wo = wr := ⟨_, rfl⟩
      obtain ⟨k, rfl, hkf, HX⟩ := hrel
      have hfl := (first_spec ws m).1
      have HEn := Lib.hid (fun (h : ¬ (k < ws.length ∧ (ws.take (k + 1)).sum ≤ m)) => first_end hkf h)
      have HNx := Lib.hid (fun (h1 : k < ws.length) (h2 : (ws.take (k + 1)).sum ≤ m) => first_next hkf h1 h2)
      have hl := HOl.out
      obtain ⟨q, hq⟩ : ∃ q, k + 1 = q := ⟨_, rfl⟩
      have hwk : IntKind.i64.wrap ((k : Int) + 1) = (q : Int) := by rw [IntWalk.i64_in _ (by omega)]; omega
      have hkq : (k : Int) + 1 = (q : Int) := by omega
      rw [hq] at HEn HNx
      by_cases hlt : k < ol.length
      · have dk : decide ((k : Int) < (ol.length : Int)) = true := decide_eq_true (by omega)
        have HLq := Lib.hid (fun V (x : Ext wo V) => HLk.out V (HX.out.trans x) q (by omega))
        generalize hsq : (ws.take q).sum = sq at *
        by_cases hsm : sq ≤ m
        · have hd : decide ((0 : Int) ≤ (m : Int) - (sq : Int)) = true := decide_eq_true (by omega)
          have hd2 : (0 : Int) ≤ (m : Int) - (sq : Int) := by omega
          have HQ := Lib.hid (HNx.out (by omega) hsm)
          go_wp2_with (go_at_call 53; refine (HLq.out _ (Ext.refl _)).mono ?_; rintro e w8 ⟨rfl, hx8⟩)
          go_roundw
          case rel => exact ⟨q, by go_num, HQ.out, HX.out.trans hx8⟩
          case measure => simp [intOf]; omega
        · have hd : decide ((0 : Int) ≤ (m : Int) - (sq : Int)) = false := decide_eq_false (by omega)
          have hd2 : ¬ (0 : Int) ≤ (m : Int) - (sq : Int) := by omega
          have HF0 := Lib.hid (HEn.out (fun h => hsm h.2))
          clear hsm HNx HEn
          go_upto_region 11 with (go_at_call 53; refine (HLq.out _ (Ext.refl _)).mono ?_; rintro e w8 ⟨rfl, hx8⟩; have HX8' := Lib.hid (HX.out.trans hx8); clear hx8)
          clear hd hd2 dk HLq hsq
          clear HX
          have HX := HX8'
          clear HX8'
          have HF : Hid (k ≤ ol.length ∧ (ws.take k).sum + (m - (ws.take k).sum) = m ∧ (m : Int) - ((ws.take k).sum : Int) = ((m - (ws.take k).sum : Nat) : Int)) := by
            have h2 := (first_spec ws m).2.1
            rw [← HF0.out] at h2
            refine ⟨by omega, by omega, by omega⟩
          rw [← HF0.out] at HBy
          clear HF0 hkf hfl hwk hkq hq hlt hl
          generalize hr : m - (ws.take k).sum = r at *
          clear hr
          generalize k = f at *

          have HXo : Hid (Ext w w8) := HM7.out.to_ext.trans HX.out
          have HMo := Lib.hid (HM7.out.ext HX.out)
          have HLf : Hid (∀ V, Ext w8 V → Calls Try.prog 53 #[.int .i64 (f : Int), .pointer (some ⟨NB, 0, none⟩), .pointer (some ⟨TB, 0, none⟩)] V fun e w' => e = .returned (.int .i64 (r : Int)) ∧ Ext V w') := fun V k => by
            have := HLk.out V (HX.out.trans k) f HF.out.1
            rw [HF.out.2.2] at this
            exact this
          have c0 := HMo.out.cell 0 (j := 0) rfl rfl
          go_upto_region 12 with (go_at_call 55; refine (HUn.out _ HXo.out f oa oc (HOi.out.ext HX.out)).mono ?_; rintro e V8 ⟨ug, rfl, hr8, hg8, hx8⟩; have HM8 := Lib.hid ((HMo.out.ext hx8).new (.cells #[.int .i64 1, .slice (some ⟨ug, 0, none⟩) L.length L.length] 31)); have HR8 := Lib.hid (hr8.ext ((Ext.refl V8).alloc (.cells #[.int .i64 1, .slice (some ⟨ug, 0, none⟩) L.length L.length] 31))); have HX8 : Hid (Ext w8 (V8.alloc (.cells #[.int .i64 1, .slice (some ⟨ug, 0, none⟩) L.length L.length] 31))) := hx8.alloc _; have HGg : Hid (w.heap.size ≤ ug ∧ RB ≠ ug) := (by have h1 := HMo.out.blt (i := 1) rfl; have h2 := HMo.out.to_ext.size; dsimp only at h1; exact ⟨by omega, by omega⟩); clear hr8 hg8 hx8 c0)
          generalize V8.alloc (.cells #[.int .i64 1, .slice (some ⟨ug, 0, none⟩) L.length L.length] 31) = V9 at *
          generalize V8.heap.size = XB at *
          rcases Nat.eq_zero_or_pos r with hr0 | hr0
          · obtain rfl : r = 0 := hr0
            go_upto_region 13 with (go_at_call 53; refine (HLf.out _ HX8.out).mono ?_; rintro e V10 ⟨rfl, hx⟩; have HM10 := Lib.hid (HM8.out.ext hx); have HR10 := Lib.hid (HR8.out.ext hx); clear hx)
            have x0 := HM10.out.cell 4 (j := 0) rfl rfl
            have x1 := HM10.out.cell 4 (j := 1) rfl rfl
            have z0 := HM10.out.cell 1 (j := 0) rfl rfl
            have z1 := HM10.out.cell 1 (j := 1) rfl rfl
            have f0 := HM10.out.frozen 1 (j := 0) rfl
            have f1 := HM10.out.frozen 1 (j := 1) rfl
            go_wp2_with fail
            have HE := Lib.hid ((HM10.out.cellPut (j := 0) 1 rfl (.int .i64 1)).cellPut (j := 1) 1 rfl (.slice (some ⟨ug, 0, none⟩) L.length L.length))
            refine bodyPost_ret (results_ex rfl _ _ RB _ _ rfl (HE.out.heap 1 rfl)) rfl ?_
            show ByPost w L _ _ _
            rw [HBy.out]
            first | rw [if_pos rfl] | rw [if_pos trivial]
            exact ⟨ug, L.length, rfl, (HR10.out.keep (((Keep.refl (fun k => k ≠ RB) V10).setCell _ _ (fun _ h => h rfl)).setCell _ _ (fun _ h => h rfl)) (fun e => HGg.out.2 e.symm)), HGg.out.1, HE.out.to_ext⟩
          · have hrn : ¬ r = 0 := by omega
            have HLn : Hid (f < ol.length) := by
              rcases Nat.lt_or_ge f ol.length with h | h
              · exact h
              · exfalso
                have h2 := HF.out.2.1
                rw [List.take_of_length_le (by have := HOl.out.2; omega)] at h2
                have h3 := HSu.out
                have h4 := HMm.out
                omega
            have hfn := HLn.out
            have HWf := Lib.hid (HWp.out f (by have := HOl.out.2; omega))
            have dr : ((r : Int) == 0) = false := by simp; omega
            have dr2 : decide ((r : Int) = 0) = false := decide_eq_false (by omega)
            go_upto_region 14 with (go_at_call 53; refine (HLf.out _ HX8.out).mono ?_; rintro e V10 ⟨rfl, hx⟩; have HM10 := Lib.hid (HM8.out.ext hx); have HR10 := Lib.hid (HR8.out.ext hx); have HX10 := Lib.hid (HX8.out.trans hx); clear hx)
            have HLo := Lib.hid (fun V => lowest_any r (pt ws f) V (by omega) (by have h3 := HF.out.2.1; have h4 := HMm.out; omega) (by have := HWf.out.1; omega))
            have wc := ((HWr.out.ext HX.out).ext HX10.out).cell f (by have := HOl.out.2; omega)
            have ew : ws[f]'(by have := HOl.out.2; omega) = pt ws f := by unfold pt; rw [List.getElem?_eq_getElem (by have := HOl.out.2; omega)]; rfl
            rw [ew] at wc
            have ewd : ws[f]?.getD 0 = pt ws f := rfl
            have hpr : r / Nat.gcd r (pt ws f) ≤ 2000000 := Nat.le_trans (Nat.div_le_self _ _) (by have h3 := HF.out.2.1; have h4 := HMm.out; omega)
            have hwh : pt ws f / Nat.gcd r (pt ws f) ≤ 2000 := Nat.le_trans (Nat.div_le_self _ _) HWf.out.1
            rw [if_neg hrn, ewd] at HBy
            clear ew ewd
            generalize pt ws f = cw at *
            generalize r / Nat.gcd r cw = pp at *
            generalize cw / Nat.gcd r cw = wh at *
            have tc := HM10.out.cell 3 (j := 0) rfl rfl
            have e0 : ∀ E : YW V10, E.w.cell? ⟨TB, 0, none⟩ = _ := fun E => E.cell tc
            have e1 : ∀ E : YW V10, E.w.cell? ⟨wg, f, none⟩ = _ := fun E => E.cell wc
            have i0 : (0 : Int) ≤ (f : Int) := by omega
            have i1 : (f : Int) < (ol.length : Int) := by omega
            clear tc wc
            refine region_quietY (by kernel_rfl) (by kernel_rfl) ?_
            repeat (go_big_quiet_step (first | (go_at_call 53; exact Calls.quietY (HLf.out _ (HX10.out.trans (YW.x _)))) | (go_at_call 56; exact Calls.quietY (HLo.out _))))
            refine wpQuiet_nil ?_
            rintro _ ⟨E, rfl⟩
            have HE := Lib.hid E.x
            clear e0 e1
            generalize E.w = V11 at HE ⊢
            have HM11 := Lib.hid (HM10.out.ext HE.out)
            have HX11 : Hid (Ext w8 V11) := HX10.out.trans HE.out
            have HR11 := Lib.hid (HR10.out.ext HE.out)
            obtain ⟨obk, oo, rfl, oc0⟩ := part_cell ((HOi.out.ext HX.out).ext HX11.out) hfn
            have HOf := Lib.hid (HOm.out f hfn)
            have HCu := Lib.hid (fun (V : World) (k : Ext V11 V) => cut_any 1 (pt ol f) pp wh (some ⟨ug, 0, none⟩) L.length (uncutF L ol f) V ((HR11.out.sl (by rw [HUl.out f]; omega)).ext k) (by rw [HUl.out f]; exact HOf.out) (fun k hk => HUb.out f k hk) (by omega))
            have HUf := Lib.hid (HUl.out f)
            rw [HUf.out] at HCu
            have eod : ol[f]?.getD 0 = pt ol f := rfl
            rw [eod] at HBy
            clear eod
            generalize pt ol f = oi at *
            generalize uncutF L ol f = un at *
            have HSc : Hid (∀ v, Keep (fun q => q ≠ RB) V11 v → v.cell? ⟨XB, 0, none⟩ = some (.int .i64 1) ∧ v.cell? ⟨XB, 1, none⟩ = some (.slice (some ⟨ug, 0, none⟩) L.length L.length) ∧ v.cell? ⟨obk, oo + f, none⟩ = some (.int .i64 (oi : Int))) := fun v q =>
              ⟨q.cell (HM11.out.cell 4 (j := 0) rfl rfl) (show XB ≠ RB from HM11.out.dis 4 1 _ _ (by omega) rfl rfl), q.cell (HM11.out.cell 4 (j := 1) rfl rfl) (show XB ≠ RB from HM11.out.dis 4 1 _ _ (by omega) rfl rfl), q.cell oc0 (show obk ≠ RB from HOb.out obk oo rfl)⟩
            have HRr : Hid (∀ v, Ext V11 v → v.cell? ⟨RB, 0, none⟩ = some (.int .i64 0) ∧ v.cell? ⟨RB, 1, none⟩ = some (.slice none 0 0) ∧ v.frozen? ⟨RB, 0, none⟩ = false ∧ v.frozen? ⟨RB, 1, none⟩ = false) := fun v q => by
              have h := HM11.out.ext q
              exact ⟨h.cell 1 (j := 0) rfl rfl, h.cell 1 (j := 1) rfl rfl, h.frozen 1 (j := 0) rfl, h.frozen 1 (j := 1) rfl⟩
            clear oc0
            go_upto_region 15 with (fail)
            go_region_held3 (fun v => v.cell? ⟨XB, 0, none⟩ = some (.int .i64 1) ∧ v.cell? ⟨XB, 1, none⟩ = some (.slice (some ⟨ug, 0, none⟩) L.length L.length) ∧ v.cell? ⟨obk, oo + f, none⟩ = some (.int .i64 (oi : Int)))
              ((refine HSc.out _ ?_; repeat (first | exact Keep.refl _ _ | refine Keep.ext ?_ (by assumption) | refine Keep.ext ?_ ((Ext.refl _).drew) | refine Keep.setCell ?_ _ _ (fun _ h => h rfl))))
              ((go_at_call 57; refine (HCu.out _ ((Ext.refl V11).drew)).mono ?_; rintro e V12 ⟨cg, cc, rfl, hcr, hcg, hx12⟩; obtain ⟨y0, y1, z0, z1⟩ := HRr.out V12 (Ext.trans (Ext.refl V11).drew hx12)))
            have HM12 := Lib.hid (HM11.out.ext ((Ext.refl V11).drew.trans hx12))
            have HCr := Lib.hid hcr
            have HCg : Hid (w.heap.size ≤ cg ∧ RB ≠ cg) := by
              have q1 := HM11.out.to_ext.size
              have q2 := HM11.out.blt (i := 1) rfl
              have q3 : V11.heap.size ≤ cg := hcg
              dsimp only at q2
              exact ⟨by omega, by omega⟩
            clear hcr hcg hx12 y0 y1 z0 z1
            go_wp2_with fail
            have HE2 := Lib.hid ((HM12.out.cellPut (j := 0) 1 rfl (.int .i64 (wh : Int))).cellPut (j := 1) 1 rfl (.slice (some ⟨cg, 0, none⟩) L.length cc))
            refine bodyPost_ret (results_ex rfl _ _ RB _ _ rfl (HE2.out.heap 1 rfl)) rfl ?_
            show ByPost w L _ _ _
            rw [HBy.out]
            refine ⟨cg, cc, rfl, ?_, HCg.out.1, HE2.out.to_ext⟩
            have em : (un.map fun x => wh * x) = un.map fun x => x * wh := List.map_congr_left fun x _ => Nat.mul_comm _ _
            rw [em]
            exact HCr.out.keep (((Keep.refl (fun k => k ≠ RB) V12).setCell _ _ (fun _ h => h rfl)).setCell _ _ (fun _ h => h rfl)) (fun e => HCg.out.2 e.symm)
      · have dk : decide ((k : Int) < (ol.length : Int)) = false := decide_eq_false (by omega)
        have HF0 := Lib.hid (HEn.out (fun h => by omega))
        go_upto_region 11 with (fail)
        clear dk HNx HEn
        have HF : Hid (k ≤ ol.length ∧ (ws.take k).sum + (m - (ws.take k).sum) = m ∧ (m : Int) - ((ws.take k).sum : Int) = ((m - (ws.take k).sum : Nat) : Int)) := by
          have h2 := (first_spec ws m).2.1
          rw [← HF0.out] at h2
          refine ⟨by omega, by omega, by omega⟩
        rw [← HF0.out] at HBy
        clear HF0 hkf hfl hwk hkq hq hlt hl
        generalize hr : m - (ws.take k).sum = r at *
        clear hr
        generalize k = f at *

        have HXo : Hid (Ext w wo) := HM7.out.to_ext.trans HX.out
        have HMo := Lib.hid (HM7.out.ext HX.out)
        have HLf : Hid (∀ V, Ext wo V → Calls Try.prog 53 #[.int .i64 (f : Int), .pointer (some ⟨NB, 0, none⟩), .pointer (some ⟨TB, 0, none⟩)] V fun e w' => e = .returned (.int .i64 (r : Int)) ∧ Ext V w') := fun V k => by
          have := HLk.out V (HX.out.trans k) f HF.out.1
          rw [HF.out.2.2] at this
          exact this
        have c0 := HMo.out.cell 0 (j := 0) rfl rfl
        go_upto_region 12 with (go_at_call 55; refine (HUn.out _ HXo.out f oa oc (HOi.out.ext HX.out)).mono ?_; rintro e V8 ⟨ug, rfl, hr8, hg8, hx8⟩; have HM8 := Lib.hid ((HMo.out.ext hx8).new (.cells #[.int .i64 1, .slice (some ⟨ug, 0, none⟩) L.length L.length] 31)); have HR8 := Lib.hid (hr8.ext ((Ext.refl V8).alloc (.cells #[.int .i64 1, .slice (some ⟨ug, 0, none⟩) L.length L.length] 31))); have HX8 : Hid (Ext wo (V8.alloc (.cells #[.int .i64 1, .slice (some ⟨ug, 0, none⟩) L.length L.length] 31))) := hx8.alloc _; have HGg : Hid (w.heap.size ≤ ug ∧ RB ≠ ug) := (by have h1 := HMo.out.blt (i := 1) rfl; have h2 := HMo.out.to_ext.size; dsimp only at h1; exact ⟨by omega, by omega⟩); clear hr8 hg8 hx8 c0)
        generalize V8.alloc (.cells #[.int .i64 1, .slice (some ⟨ug, 0, none⟩) L.length L.length] 31) = V9 at *
        generalize V8.heap.size = XB at *
        rcases Nat.eq_zero_or_pos r with hr0 | hr0
        · obtain rfl : r = 0 := hr0
          go_upto_region 13 with (go_at_call 53; refine (HLf.out _ HX8.out).mono ?_; rintro e V10 ⟨rfl, hx⟩; have HM10 := Lib.hid (HM8.out.ext hx); have HR10 := Lib.hid (HR8.out.ext hx); clear hx)
          have x0 := HM10.out.cell 4 (j := 0) rfl rfl
          have x1 := HM10.out.cell 4 (j := 1) rfl rfl
          have z0 := HM10.out.cell 1 (j := 0) rfl rfl
          have z1 := HM10.out.cell 1 (j := 1) rfl rfl
          have f0 := HM10.out.frozen 1 (j := 0) rfl
          have f1 := HM10.out.frozen 1 (j := 1) rfl
          go_wp2_with fail
          have HE := Lib.hid ((HM10.out.cellPut (j := 0) 1 rfl (.int .i64 1)).cellPut (j := 1) 1 rfl (.slice (some ⟨ug, 0, none⟩) L.length L.length))
          refine bodyPost_ret (results_ex rfl _ _ RB _ _ rfl (HE.out.heap 1 rfl)) rfl ?_
          show ByPost w L _ _ _
          rw [HBy.out]
          first | rw [if_pos rfl] | rw [if_pos trivial]
          exact ⟨ug, L.length, rfl, (HR10.out.keep (((Keep.refl (fun k => k ≠ RB) V10).setCell _ _ (fun _ h => h rfl)).setCell _ _ (fun _ h => h rfl)) (fun e => HGg.out.2 e.symm)), HGg.out.1, HE.out.to_ext⟩
        · have hrn : ¬ r = 0 := by omega
          have HLn : Hid (f < ol.length) := by
            rcases Nat.lt_or_ge f ol.length with h | h
            · exact h
            · exfalso
              have h2 := HF.out.2.1
              rw [List.take_of_length_le (by have := HOl.out.2; omega)] at h2
              have h3 := HSu.out
              have h4 := HMm.out
              omega
          have hfn := HLn.out
          have HWf := Lib.hid (HWp.out f (by have := HOl.out.2; omega))
          have dr : ((r : Int) == 0) = false := by simp; omega
          have dr2 : decide ((r : Int) = 0) = false := decide_eq_false (by omega)
          go_upto_region 14 with (go_at_call 53; refine (HLf.out _ HX8.out).mono ?_; rintro e V10 ⟨rfl, hx⟩; have HM10 := Lib.hid (HM8.out.ext hx); have HR10 := Lib.hid (HR8.out.ext hx); have HX10 := Lib.hid (HX8.out.trans hx); clear hx)
          have HLo := Lib.hid (fun V => lowest_any r (pt ws f) V (by omega) (by have h3 := HF.out.2.1; have h4 := HMm.out; omega) (by have := HWf.out.1; omega))
          have wc := ((HWr.out.ext HX.out).ext HX10.out).cell f (by have := HOl.out.2; omega)
          have ew : ws[f]'(by have := HOl.out.2; omega) = pt ws f := by unfold pt; rw [List.getElem?_eq_getElem (by have := HOl.out.2; omega)]; rfl
          rw [ew] at wc
          have ewd : ws[f]?.getD 0 = pt ws f := rfl
          have hpr : r / Nat.gcd r (pt ws f) ≤ 2000000 := Nat.le_trans (Nat.div_le_self _ _) (by have h3 := HF.out.2.1; have h4 := HMm.out; omega)
          have hwh : pt ws f / Nat.gcd r (pt ws f) ≤ 2000 := Nat.le_trans (Nat.div_le_self _ _) HWf.out.1
          rw [if_neg hrn, ewd] at HBy
          clear ew ewd
          generalize pt ws f = cw at *
          generalize r / Nat.gcd r cw = pp at *
          generalize cw / Nat.gcd r cw = wh at *
          have tc := HM10.out.cell 3 (j := 0) rfl rfl
          have e0 : ∀ E : YW V10, E.w.cell? ⟨TB, 0, none⟩ = _ := fun E => E.cell tc
          have e1 : ∀ E : YW V10, E.w.cell? ⟨wg, f, none⟩ = _ := fun E => E.cell wc
          have i0 : (0 : Int) ≤ (f : Int) := by omega
          have i1 : (f : Int) < (ol.length : Int) := by omega
          clear tc wc
          refine region_quietY (by kernel_rfl) (by kernel_rfl) ?_
          repeat (go_big_quiet_step (first | (go_at_call 53; exact Calls.quietY (HLf.out _ (HX10.out.trans (YW.x _)))) | (go_at_call 56; exact Calls.quietY (HLo.out _))))
          refine wpQuiet_nil ?_
          rintro _ ⟨E, rfl⟩
          have HE := Lib.hid E.x
          clear e0 e1
          generalize E.w = V11 at HE ⊢
          have HM11 := Lib.hid (HM10.out.ext HE.out)
          have HX11 : Hid (Ext wo V11) := HX10.out.trans HE.out
          have HR11 := Lib.hid (HR10.out.ext HE.out)
          obtain ⟨obk, oo, rfl, oc0⟩ := part_cell ((HOi.out.ext HX.out).ext HX11.out) hfn
          have HOf := Lib.hid (HOm.out f hfn)
          have HCu := Lib.hid (fun (V : World) (k : Ext V11 V) => cut_any 1 (pt ol f) pp wh (some ⟨ug, 0, none⟩) L.length (uncutF L ol f) V ((HR11.out.sl (by rw [HUl.out f]; omega)).ext k) (by rw [HUl.out f]; exact HOf.out) (fun k hk => HUb.out f k hk) (by omega))
          have HUf := Lib.hid (HUl.out f)
          rw [HUf.out] at HCu
          have eod : ol[f]?.getD 0 = pt ol f := rfl
          rw [eod] at HBy
          clear eod
          generalize pt ol f = oi at *
          generalize uncutF L ol f = un at *
          have HSc : Hid (∀ v, Keep (fun q => q ≠ RB) V11 v → v.cell? ⟨XB, 0, none⟩ = some (.int .i64 1) ∧ v.cell? ⟨XB, 1, none⟩ = some (.slice (some ⟨ug, 0, none⟩) L.length L.length) ∧ v.cell? ⟨obk, oo + f, none⟩ = some (.int .i64 (oi : Int))) := fun v q =>
            ⟨q.cell (HM11.out.cell 4 (j := 0) rfl rfl) (show XB ≠ RB from HM11.out.dis 4 1 _ _ (by omega) rfl rfl), q.cell (HM11.out.cell 4 (j := 1) rfl rfl) (show XB ≠ RB from HM11.out.dis 4 1 _ _ (by omega) rfl rfl), q.cell oc0 (show obk ≠ RB from HOb.out obk oo rfl)⟩
          have HRr : Hid (∀ v, Ext V11 v → v.cell? ⟨RB, 0, none⟩ = some (.int .i64 0) ∧ v.cell? ⟨RB, 1, none⟩ = some (.slice none 0 0) ∧ v.frozen? ⟨RB, 0, none⟩ = false ∧ v.frozen? ⟨RB, 1, none⟩ = false) := fun v q => by
            have h := HM11.out.ext q
            exact ⟨h.cell 1 (j := 0) rfl rfl, h.cell 1 (j := 1) rfl rfl, h.frozen 1 (j := 0) rfl, h.frozen 1 (j := 1) rfl⟩
          clear oc0
          go_upto_region 15 with (fail)
          go_region_held3 (fun v => v.cell? ⟨XB, 0, none⟩ = some (.int .i64 1) ∧ v.cell? ⟨XB, 1, none⟩ = some (.slice (some ⟨ug, 0, none⟩) L.length L.length) ∧ v.cell? ⟨obk, oo + f, none⟩ = some (.int .i64 (oi : Int)))
            ((refine HSc.out _ ?_; repeat (first | exact Keep.refl _ _ | refine Keep.ext ?_ (by assumption) | refine Keep.ext ?_ ((Ext.refl _).drew) | refine Keep.setCell ?_ _ _ (fun _ h => h rfl))))
            ((go_at_call 57; refine (HCu.out _ ((Ext.refl V11).drew)).mono ?_; rintro e V12 ⟨cg, cc, rfl, hcr, hcg, hx12⟩; obtain ⟨y0, y1, z0, z1⟩ := HRr.out V12 (Ext.trans (Ext.refl V11).drew hx12)))
          have HM12 := Lib.hid (HM11.out.ext ((Ext.refl V11).drew.trans hx12))
          have HCr := Lib.hid hcr
          have HCg : Hid (w.heap.size ≤ cg ∧ RB ≠ cg) := by
            have q1 := HM11.out.to_ext.size
            have q2 := HM11.out.blt (i := 1) rfl
            have q3 : V11.heap.size ≤ cg := hcg
            dsimp only at q2
            exact ⟨by omega, by omega⟩
          clear hcr hcg hx12 y0 y1 z0 z1
          go_wp2_with fail
          have HE2 := Lib.hid ((HM12.out.cellPut (j := 0) 1 rfl (.int .i64 (wh : Int))).cellPut (j := 1) 1 rfl (.slice (some ⟨cg, 0, none⟩) L.length cc))
          refine bodyPost_ret (results_ex rfl _ _ RB _ _ rfl (HE2.out.heap 1 rfl)) rfl ?_
          show ByPost w L _ _ _
          rw [HBy.out]
          refine ⟨cg, cc, rfl, ?_, HCg.out.1, HE2.out.to_ext⟩
          have em : (un.map fun x => wh * x) = un.map fun x => x * wh := List.map_congr_left fun x _ => Nat.mul_comm _ _
          rw [em]
          exact HCr.out.keep (((Keep.refl (fun k => k ≠ RB) V12).setCell _ _ (fun _ h => h rfl)).setCell _ _ (fun _ h => h rfl)) (fun e => HCg.out.2 e.symm)
end Go.Proofs.Ytlaolokakaheaaa
