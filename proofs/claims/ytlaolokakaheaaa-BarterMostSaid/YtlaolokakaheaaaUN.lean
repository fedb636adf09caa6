/-
  uncut of package barter: the exchange in which the North has so many first ones of the free stretches. The land at work and the order must lie in memory as told.
-/
import Derived.Test.YtlaolokakaheaaaWF
import Derived.Test.YtlaolokakaheaaaMQ
namespace Go.Proofs.Ytlaolokakaheaaa
open Go.RowKit
attribute [local go_sem] Oper.semAt_some

/-- Where stretches stand in a list, of the first j. -/
def plN (l : List Nat) : Nat → Nat → Option Nat
  | 0 => fun _ => none
  | j + 1 => putN (plN l j) (pt l j) j
theorem plN_at {l : List Nat} (hn : l.Nodup) : ∀ (j : Nat), j ≤ l.length → ∀ q, (hq : q < l.length) → plN l j l[q] = if q < j then some q else none
  | 0, _, q, _ => by simp [plN]
  | j + 1, hj, q, hq => by
    have e : pt l j = l[j] := by unfold pt; rw [List.getElem?_eq_getElem (by omega)]; rfl
    unfold plN putN
    rw [e, plN_at hn j (by omega) q hq]
    by_cases h : q = j
    · subst h; rw [if_pos rfl, if_pos (by omega)]
    · have : l[q] ≠ l[j] := fun k => h ((List.getElem_inj hn).1 k)
      rw [if_neg this]
      by_cases h2 : q < j
      · rw [if_pos h2, if_pos (by omega)]
      · rw [if_neg h2, if_neg (by omega)]
theorem plN_lt {l : List Nat} (hn : l.Nodup) {q : Nat} (hq : q ∈ l) (f : Nat) : ((plN l l.length q).getD 0 < f) ↔ q ∈ l.take f := by
  obtain ⟨j, hj, rfl⟩ := List.getElem_of_mem hq
  rw [plN_at hn l.length (Nat.le_refl _) j hj, if_pos hj, mem_take hn hj]
  rfl
/-- The parts behind the free stretches of a list. -/
def unK (L : List St) (l : List Nat) (f : Nat) (pre : List Nat) : List Nat := (List.range L.length).map fun i => if i ∈ pre then (if i ∈ l.take f then 1 else 0) else nowF (at' L i)
theorem unK_len (L : List St) (l : List Nat) (f : Nat) (pre : List Nat) : (unK L l f pre).length = L.length := by simp [unK]
theorem unK_nil (L : List St) (l : List Nat) (f : Nat) : unK L l f [] = nowL L := by
  unfold unK nowL
  refine List.ext_getElem (by simp) fun i h1 h2 => ?_
  simp only [List.getElem_map, List.getElem_range, List.not_mem_nil, if_false]
  unfold at'
  rw [List.getElem?_eq_getElem (by simpa using h2)]; rfl
theorem unK_all (L : List St) (l : List Nat) (f : Nat) : unK L l f (freeF L) = uncutF L l f := by
  unfold unK uncutF
  refine List.map_congr_left fun i hi => ?_
  have hl := List.mem_range.1 hi
  cases hf : (at' L i).free with
  | true => rw [if_pos (mem_free.2 ⟨hl, hf⟩)]; simp
  | false => rw [if_neg (fun h => by rw [(mem_free.1 h).2] at hf; cases hf)]; simp
theorem unK_snoc (L : List St) (l : List Nat) (f : Nat) (pre : List Nat) (q : Nat) : unK L l f (pre ++ [q]) = (unK L l f pre).set q (if q ∈ l.take f then 1 else 0) := by
  refine List.ext_getElem? fun i => ?_
  rw [List.getElem?_set]
  unfold unK
  rw [List.getElem?_map, List.getElem?_map]
  by_cases hi : i < L.length
  · rw [List.getElem?_range hi]
    simp only [Option.map_some, List.mem_append, List.mem_singleton, List.length_map, List.length_range]
    by_cases e : q = i
    · subst e
      rw [if_pos rfl, if_pos hi]
      simp
    · rw [if_neg e]
      have e' : ¬ i = q := fun h => e h.symm
      simp [e']
  · rw [List.getElem?_eq_none (by simpa using hi)]
    simp only [Option.map_none, List.length_map, List.length_range]
    split
    · rename_i e; subst e; rw [if_neg hi]
    · rfl
theorem two_set (l : List Nat) (q a b : Nat) : (l.set q a).set q b = l.set q b := by simp

set_option maxRecDepth 100000 in
set_option maxHeartbeats 4000000 in
theorem uncut_any (b : Bool) (x : Ld) (WB f : Nat) (a : Option Addr) (c : Nat) (l : List Nat) (w : World) (hw : IsWk w WB x b) (h : StL w x.s) (hl16 : x.s.l.length ≤ 16) (hp : IsSl 1 num w ⟨a, c, l⟩) (hn : l.Nodup) (hm : ∀ i, i ∈ l ↔ i ∈ freeF x.s.l) (hlen : l.length ≤ 16) :
    Calls Try.prog 55 #[.pointer (some ⟨WB, 0, none⟩), .slice a l.length c, .int .i64 (f : Int)] w fun e w' => ∃ g, e = .returned (.agg #[.int .i64 1, .slice (some ⟨g, 0, none⟩) x.s.l.length x.s.l.length]) ∧ Row w' g (uncutF x.s.l l f) x.s.l.length ∧ w.heap.size ≤ g ∧ Ext w w' := by
  have HNow := Lib.hid (fun (V : World) (k : Ext w V) => now_any x V (h.ext k))
  have HFr := Lib.hid (fun (V : World) => free_any x V)
  have HGi := Lib.hid (fun (V : World) (pb ib : Nat) (M : Nat → Prop) (k : Ext w V) (hw : IsWhich V x (.func (.func 65) #[x.val] #[]) pb ib) (hd : InB M x.s) (hM : M ib) => free_gives hw (h.ext k) hd hM)
  have HIn : Hid (InB (fun k => k < w.heap.size) x.s) := h.lt
  have HP := Lib.hid hp
  have HW := Lib.hid hw
  have HWl : Hid (WB < w.heap.size) := (Array.getElem?_eq_some_iff.1 hw).1
  have HPl := Lib.hid (fun (q : Nat) (hq : q ∈ freeF x.s.l) => plN_lt hn ((hm q).2 hq) f)
  have HPb := Lib.hid (fun (j : Nat) (hj : j < l.length) => (show pt l j ≤ 1000000 by
    have e : pt l j = l[j] := by unfold pt; rw [List.getElem?_eq_getElem hj]; rfl
    have h1 := (mem_free.1 ((hm l[j]).1 (List.getElem_mem hj))).1
    omega))
  have HSn := Lib.hid (unK_snoc x.s.l l f)
  have HSl := Lib.hid (unK_len x.s.l l f)
  have HS0 := Lib.hid (unK_nil x.s.l l f)
  have HS1 := Lib.hid (unK_all x.s.l l f)
  have HPv := Lib.hid (fun (q : Nat) (hq : q ∈ freeF x.s.l) => (show (plN l l.length q).getD 0 ≤ 1000 by
    obtain ⟨j, hj, rfl⟩ := List.getElem_of_mem ((hm q).2 hq)
    rw [plN_at hn l.length (Nat.le_refl _) j hj, if_pos hj]
    show j ≤ 1000
    omega))
  clear h hp hw hn hm
  obtain ⟨⟨sa, sc, L⟩, ⟨va, vc, vl⟩⟩ := x
  dsimp only at *
  refine callsIn_wide.1 (callsIn_of_wp_marks (n := 3) Try.func55 rfl trivial ?_ rfl)
  simp only [Try.ntmps55, List.size_toArray, List.length_cons, List.length_nil, Nat.reduceAdd, Nat.reduceSub, Array.replicate_succ, Array.replicate_zero, List.push_toArray, List.append_toArray, List.nil_append, List.cons_append]
  refine wpIn_wide.2 ?_
  have HM0 : Hid (Mm w [] [(w.heap.size, .cells #[.int .i64 (f : Int)] 3), (w.heap.size + 1, .cells #[.int .i64 0, .slice none 0 0] 31), (w.heap.size + 1 + 1, .map #[] 0), (w.heap.size + 1 + 1 + 1, .cells #[.map (some (w.heap.size + 1 + 1))] 102)] ((((w.alloc (.cells #[.int .i64 (f : Int)] 3)).alloc (.cells #[.int .i64 0, .slice none 0 0] 31)).alloc (.map #[] 0)).alloc (.cells #[.map (some (w.heap.size + 1 + 1))] 102))) := by
    have h := ((((Mm.start (w0 := w)).new (.cells #[.int .i64 (f : Int)] 3)).new (.cells #[.int .i64 0, .slice none 0 0] 31)).new (.map #[] 0)).new (.cells #[.map (some (w.heap.size + 1 + 1))] 102)
    simp only [World.size_alloc] at h
    exact h
  have HMp0 : Hid (MapN ((((w.alloc (.cells #[.int .i64 (f : Int)] 3)).alloc (.cells #[.int .i64 0, .slice none 0 0] 31)).alloc (.map #[] 0)).alloc (.cells #[.map (some (w.heap.size + 1 + 1))] 102)) (w.heap.size + 1 + 1) (plN l 0) 0) := by
    have h := (MapN.made ((w.alloc (.cells #[.int .i64 (f : Int)] 3)).alloc (.cells #[.int .i64 0, .slice none 0 0] 31))).ext ((Ext.refl _).alloc (.cells #[.map (some (w.heap.size + 1 + 1))] 102))
    simp only [World.size_alloc] at h
    exact h
  have hmm := @run_makeMap Try.prog
  go_wp2_with fail
  clear hmm
  generalize ((((w.alloc (.cells #[.int .i64 (f : Int)] 3)).alloc (.cells #[.int .i64 0, .slice none 0 0] 31)).alloc (.map #[] 0)).alloc (.cells #[.map (some (w.heap.size + 1 + 1))] 102)) = V0 at *
  generalize w.heap.size + 1 + 1 + 1 = PB at *
  generalize w.heap.size + 1 + 1 = MB at *
  generalize w.heap.size + 1 = RB at *
  generalize hFB : w.heap.size = FB at HM0 ⊢
  have HFB := Lib.hid hFB
  clear hFB
  go_loopw [15] (fun s wr => ∃ (k : Nat) (es : _) (cl : _), s = .int .i64 (k : Int) ∧ k ≤ l.length ∧ Hid (Mm w [] [(FB, .cells #[.int .i64 (f : Int)] 3), (RB, .cells #[.int .i64 0, .slice none 0 0] 31), (MB, .map es cl), (PB, .cells #[.map (some MB)] 102)] wr) ∧ Hid (MapN wr MB (plN l k) k)) (fun s _ => l.length - (intOf s).toNat)
  case atStart => exact ⟨0, _, _, rfl, Nat.zero_le _, HM0, HMp0⟩
  case round =>
    clear HM0 HMp0
    obtain ⟨wo, rfl⟩ : ∃ wo : World, wo = wr := ⟨_, rfl⟩
    obtain ⟨k, es, cl, rfl, hk, HM, HMp⟩ := hrel
    by_cases hlt : k < l.length
    · have dk : decide ((k : Int) < (l.length : Int)) = true := decide_eq_true (by omega)
      obtain ⟨pbk, po, rfl, cp⟩ := part_cell (HP.out.ext HM.out.to_ext) hlt
      have hpb := HPb.out k hlt
      obtain ⟨w5, hup, hM5, hg5⟩ := HMp.out.update (pt l k) k hpb (by omega) (by omega)
      obtain ⟨es5, cl5, ho5⟩ := hM5.notCells
      have HM5 := Lib.hid (HM.out.put (i := 2) rfl ((Keep.refl _ _).grown hg5 (fun q e _ h => by cases e; exact h rfl)) ho5)
      have HMp5 : Hid (MapN w5 MB (plN l (k + 1)) (k + 1)) := hM5
      clear hM5 hg5 ho5
      have cb := HM.out.cell 3 (j := 0) rfl rfl
      have k1 : (0 : Int) ≤ k := by omega
      have k2 : (k : Int) < (l.length : Int) := by omega
      have hwk : IntKind.i64.wrap ((k : Int) + 1) = ((k + 1 : Nat) : Int) := by rw [IntWalk.i64_in _ (by omega)]; omega
      generalize pt l k = i at *
      go_wp2_with fail
      go_roundw
      case rel => exact ⟨k + 1, es5, cl5, by go_num, by omega, HM5, HMp5⟩
      case measure => simp [intOf]; omega
    · have dk : decide ((k : Int) < (l.length : Int)) = false := decide_eq_false (by omega)
      obtain rfl : k = l.length := by omega
      obtain ⟨w0, w1, w2⟩ := (IsWk.ext HW.out HM.out.to_ext).cells
      dsimp only at w0 w1 w2
      clear hlt hk
      go_wp2_with fail
      refine (HNow.out _ HM.out.to_ext).mono ?_
      rintro e w6 ⟨g, rfl, hr, hg, hx6⟩
      have HGa : Hid (FB < g ∧ RB < g ∧ MB < g ∧ PB < g ∧ g < w6.heap.size) := by
        have b0 := HM.out.blt (i := 0) rfl
        have b1 := HM.out.blt (i := 1) rfl
        have b2 := HM.out.blt (i := 2) rfl
        have b3 := HM.out.blt (i := 3) rfl
        obtain ⟨cur, r1, -⟩ := hr
        have := (Array.getElem?_eq_some_iff.1 r1).1
        dsimp only at b0 b1 b2 b3
        show _ ∧ _ ∧ _ ∧ _ ∧ _; omega
      have HM7 := Lib.hid ((HM.out.ext hx6).new (.cells #[.int .i64 1, .slice (some ⟨g, 0, none⟩) L.length L.length] 31))
      have HR7 : Hid (Row (w6.alloc (.cells #[.int .i64 1, .slice (some ⟨g, 0, none⟩) L.length L.length] 31)) g (nowL L) L.length) := hr.ext ((Ext.refl w6).alloc _)
      have HMp7 : Hid (MapN (w6.alloc (.cells #[.int .i64 1, .slice (some ⟨g, 0, none⟩) L.length L.length] 31)) MB (plN l l.length) l.length) := HMp.out.ext (hx6.alloc _)
      have HGw : Hid (w.heap.size ≤ g) := by have := HM.out.to_ext.size; show _ ≤ _; omega
      clear hr hg hx6 w0 w1 w2 HM HMp
      go_upto_region 8 with (fail)
      have HS7 : Hid ((w6.alloc (.cells #[.int .i64 1, .slice (some ⟨g, 0, none⟩) L.length L.length] 31)).heap.size = w6.heap.size + 1) := World.size_alloc _ _
      generalize w6.alloc (.cells #[.int .i64 1, .slice (some ⟨g, 0, none⟩) L.length L.length] 31) = w7 at *
      generalize w6.heap.size = XB at *
      obtain ⟨w0, w1, w2⟩ := (IsWk.ext HW.out HM7.out.to_ext).cells
      dsimp only at w0 w1 w2
      go_wp2_with fail
      refine (HFr.out _).mono ?_
      rintro e w8 ⟨pb, ib, rfl, hpb, hib, hx8, hI⟩
      have HM8 := Lib.hid (HM7.out.ext hx8)
      have HR8 : Hid (Row w8 g (nowL L) L.length) := HR7.out.ext hx8
      have HMp8 := Lib.hid (HMp7.out.ext hx8)
      have HS8 : Hid (XB < w8.heap.size) := by have := hx8.size; have := HS7.out; show _ < _; omega
      have HG := Lib.hid (HGi.out w8 pb ib (fun k => k ≠ g) HM8.out.to_ext hI (fun g' off ha h0 => by have : g' < w.heap.size := HIn.out g' off ha h0; have := HGw.out; omega) (by have := HS7.out; have := HGa.out; omega))
      clear hx8 hI hpb hib w0 w1 w2 HM7 HR7 HMp7
      go_wp2_with fail
      refine (wpIn_wide (n := 3)).1 ?_
      refine wp_rangeFuncT (a₁ := ?a1) rfl enters_71 HG.out rfl
        (fun hi pre V => Row V g (unK L l f pre) L.length ∧ Keep (fun k => k < w8.heap.size ∧ k ≠ g) w8 V)
        (fun _ _ _ _ => False) ?_ (fun _ _ _ _ _ _ h _ => h) ?_ ?assign ?body ?done ?stop
      case assign =>
        intro ly s V K hK
        gi_wp2
        exact hK
      · intro hi s A B' hh h hk
        have := HGa.out
        have := HS8.out
        exact ⟨h.1.keep hk (.inl (by omega)), h.2.trans (hk.mono (fun k _ h => .inl h.1))⟩
      · intro hi hh
        refine ⟨?_, Keep.refl _ _⟩
        rw [HS0.out]
        exact HR8.out
      case body =>
        rintro ly hi pre q V hh hhV ⟨hR, hKp⟩ hpre
        have hGa := HGa.out
        have hS8 := HS8.out
        have hqf : q ∈ freeF L := hpre.subset (List.mem_append_right _ (List.mem_singleton.2 rfl))
        have hq : q < L.length := (mem_free.1 hqf).1
        have HQ := Lib.hid (HPl.out q hqf)
        have hpv := HPv.out q hqf
        have hR0 := hR
        have HLk : Hid (q < (unK L l f pre).length) := by show _ < _; rw [HSl.out]; exact hq
        have cR := hR.cell q HLk.out
        have fR := hR.frozen q
        generalize (unK L l f pre)[q]'_ = old at cR
        have HRo := Lib.hid hR0
        have HSq := Lib.hid (HSn.out pre q)
        have hb4 : V.heap[XB]? = _ := hKp.heap (HM8.out.heap 4 rfl) (by omega)
        have hb0 : V.heap[FB]? = _ := hKp.heap (HM8.out.heap 0 rfl) (by omega)
        have hb3 : V.heap[PB]? = _ := hKp.heap (HM8.out.heap 3 rfl) (by omega)
        have HKs : Hid (Keep (fun k => k ≠ g) V (V.setCell ⟨g, q, none⟩ (.int .i64 0))) := (Keep.refl _ V).setCell _ _ (fun _ h => h rfl)
        have HMv : Hid (MapN (V.setCell ⟨g, q, none⟩ (.int .i64 0)) MB (plN l l.length) l.length) := (HMp8.out.keep hKp (by omega)).keep HKs.out (by show MB ≠ g; omega)
        have hlook := HMv.out.look q (by omega)
        have x0 := cell_at hb4 0
        have x1 := cell_at hb4 1
        have y1 := cell_at (HKs.out.heap hb4 (show XB ≠ g by omega)) 1
        have f0 := cell_at (HKs.out.heap hb0 (show FB ≠ g by omega)) 0
        have p0 := cell_at (HKs.out.heap hb3 (show PB ≠ g by omega)) 0
        have HR1 : Hid (Row (V.setCell ⟨g, q, none⟩ (.int .i64 (0 : Nat))) g ((unK L l f pre).set q 0) L.length) := hR.set q 0 HLk.out
        have cR1 := HR1.out.cell q (by rw [List.length_set]; exact HLk.out)
        have fR1 := HR1.out.frozen q
        simp only [List.getElem_set_self] at cR1
        have i1 : (0 : Int) ≤ (q : Int) := by omega
        have i2 : (q : Int) < (L.length : Int) := by omega
        dsimp at x0 x1 y1 f0 p0 cR1 HR1 fR1
        have HKp := Lib.hid hKp
        clear hR hR0 hpre hb4 hb0 hb3 hKp hqf hh hhV
        generalize (plN l l.length q).getD 0 = pv at *
        by_cases hlt2 : pv < f
        · have d2 : decide ((pv : Int) < (f : Int)) = true := decide_eq_true (by omega)
          gi_wp2_with fail
          have HR2 := HR1.out.set q 1 (by rw [List.length_set]; exact HLk.out)
          rw [List.set_set] at HR2
          refine ⟨(HKs.out.mono (fun k _ h e => ?_)).setCell _ _ (fun _ h => ?_), ?_, (HKp.out.trans (HKs.out.mono (fun k _ h => h.2))).setCell _ _ (fun _ h => h.2 rfl)⟩
          · subst e; rcases h with h | h
            · exact h.2 rfl
            · omega
          · rcases h with h | h
            · exact h.2 rfl
            · have := h.1; simp only at this; omega
          · show Row _ _ _ _
            rw [HSq.out, if_pos (HQ.out.1 hlt2)]
            exact HR2
        · have d2 : decide ((pv : Int) < (f : Int)) = false := decide_eq_false (by omega)
          gi_wp2_with fail
          refine ⟨HKs.out.mono (fun k _ h e => ?_), ?_, HKp.out.trans (HKs.out.mono (fun k _ h => h.2))⟩
          · subst e; rcases h with h | h
            · exact h.2 rfl
            · omega
          · show Row _ _ _ _
            rw [HSq.out, if_neg (fun h => hlt2 (HQ.out.2 h))]
            exact HR1.out
      case stop =>
        rintro hi c pre W hh hp h
        exact h.elim
      case done =>
        rintro hi V hh ⟨hR, hKp⟩ hD
        have hGa := HGa.out
        have hS8 := HS8.out
        have hb4 : V.heap[XB]? = _ := hKp.heap (HM8.out.heap 4 rfl) (by omega)
        have hb1 : V.heap[RB]? = _ := hKp.heap (HM8.out.heap 1 rfl) (by omega)
        have HB1 := Lib.hid hb1
        have HR := Lib.hid hR
        rw [HS1.out] at HR
        have HXV : Hid (Ext w V) := ext_keep HM8.out.to_ext hKp (fun i hi => by have := HFB.out; have := HM8.out.to_ext.size; exact ⟨by omega, by omega⟩)
        have HCV : Hid (Coll w.heap.size V.heap.size [{ target := .collected w8.heap.size, args := #[] }] V) := Coll.cons trivial (by have := HFB.out; omega) (Array.getElem?_eq_some_iff.1 hD).1 hD
        have HRn : Hid (RB ≠ w8.heap.size ∧ w.heap.size ≤ RB ∧ RB ≠ g) := by have := HFB.out; have b0 := HM8.out.dis 0 1 _ _ (by omega) rfl rfl; have := (HM8.out.blk 1 _ rfl).1; dsimp only at this; show _ ∧ _ ∧ _; omega
        have x0 := cell_at hb4 0
        have x1 := cell_at hb4 1
        have r0 := cell_at hb1 0
        have r1 := cell_at hb1 1
        have f0 : V.frozen? ⟨RB, 0, none⟩ = false := by simp [World.frozen?, hb1]
        have f1 : V.frozen? ⟨RB, 1, none⟩ = false := by simp [World.frozen?, hb1]
        dsimp at x0 x1 r0 r1
        clear hR hKp hD hb4 hb1 hh
        simp only [Exit.inBlock, Exit.then]
        go_wp2_with fail
        simp only [bodyPostM]
        have hKe : Keep (fun k => k ≠ RB) V ((V.setCell ⟨RB, 0, none⟩ (.int .i64 1)).setCell ⟨RB, 1, none⟩ (.slice (some ⟨g, 0, none⟩) L.length L.length)) := ((Keep.refl _ V).setCell _ _ (fun _ h => h rfl)).setCell _ _ (fun _ h => h rfl)
        have hb := heap_setCell_same (i := 1) (heap_setCell_same (i := 0) HB1.out (.int .i64 1)) (.slice (some ⟨g, 0, none⟩) L.length L.length)
        refine leaves_coll (hi := V.heap.size) (lo := w.heap.size) (HCV.out.keep (fun b' _ _ h8 => hKe.heap h8 (fun e => by subst e; rw [HB1.out] at h8; cases h8))) fun w' hs => ?_
        refine ⟨_, results_cell_row rfl _ _ RB 31 _ (0, 0) _ rfl (hs.cells hb) Try.underlying31 rfl (by kernel_rfl), g, rfl, ?_, HGw.out, hs.ext ((HXV.out.setCell HRn.out.2.1 _).setCell HRn.out.2.1 _) (Nat.le_refl _)⟩
        obtain ⟨cur, q1, q2⟩ := HR.out.keep hKe (show g ≠ RB from fun e => HRn.out.2.2 e.symm)
        exact ⟨cur, hs.cells q1, q2⟩
end Go.Proofs.Ytlaolokakaheaaa
