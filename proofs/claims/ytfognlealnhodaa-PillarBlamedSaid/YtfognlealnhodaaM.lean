/-
  areLevels of package pillar tells whether numbers, one for each place, are levels. The profile at work and the numbers must lie in memory as told.
-/
import Derived.Test.YtfognlealnhodaaK
import Derived.Test.YtfognlealnhodaaL
namespace Go.Proofs.Ytfognlealnhodaa
open Go.RowKit
attribute [local go_sem] Oper.semAt_some

/-- A number of a list. -/
abbrev at0 (L : List Nat) (i : Nat) : Nat := (L[i]?).getD 0
/-- The numbers of what is seen from a place are at most 1 more. -/
def lvB (S : Nat → Nat → Bool) (L : List Nat) (n place : Nat) : Bool := (seenTo S place n).all fun q => decide (at0 L q ≤ at0 L place + 1)
def areTo (S : Nat → Nat → Bool) (L : List Nat) (n m : Nat) : Bool := (List.range m).all (lvB S L n)
theorem areTo_succ (S : Nat → Nat → Bool) (L : List Nat) (n m : Nat) : areTo S L n (m + 1) = (areTo S L n m && lvB S L n m) := by
  simp [areTo, List.range_succ]
theorem areTo_false {S : Nat → Nat → Bool} {L : List Nat} {n m : Nat} (hm : m < n) (h : lvB S L n m = false) : areTo S L n n = false := by
  unfold areTo; rw [List.all_eq_false]; exact ⟨m, by simpa using hm, by simp [h]⟩
/-- A truth in a box. -/
def BBox (w : World) (b : Nat) (x : Bool) : Prop := w.heap[b]? = some (.cells #[.bool x] 4 (0, 0))
theorem BBox.cell {w : World} {b : Nat} {x : Bool} (h : BBox w b x) : w.cell? ⟨b, 0, none⟩ = some (.bool x) := (cell_at h 0).trans rfl
theorem BBox.frozen {w : World} {b : Nat} {x : Bool} (h : BBox w b x) (i : Nat) : w.frozen? ⟨b, i, none⟩ = false := by simp [World.frozen?, show w.heap[b]? = _ from h]
theorem BBox.ext {w w' : World} {b : Nat} {x : Bool} (h : BBox w b x) (k : Ext w w') : BBox w' b x := k.block h
theorem BBox.set {w : World} {b : Nat} {x : Bool} (h : BBox w b x) (y : Bool) : BBox (w.setCell ⟨b, 0, none⟩ (.bool y)) b y := heap_setCell_same h _

theorem results_bool {fn : Func} {p : Tmp} (h : fn.results = #[.cell p 4]) (tmps : Array Value) (w : World) (g : Nat) (x : Bool) (hp : tmps.getD p undef = .pointer (some ⟨g, 0, none⟩)) (hc : BBox w g x) :
    (results fn tmps).run Try.prog w = .ok (.bool x) w := by
  have hp' : tmps[p]?.getD undef = .pointer (some ⟨g, 0, none⟩) := by simpa using hp
  have hl : (loadVar 4 ⟨g, 0, none⟩).run Try.prog w = .ok (.bool x) w := by
    simp [loadVar, Sem.run_bind, Result.andThen, go_sem, hc.cell]
  simp [results, h, hp', asAddr, hl]

set_option maxRecDepth 100000 in
set_option maxHeartbeats 4000000 in
theorem areLevels_any (B : Nat) (d : Bool) (v : PV) (S : Nat → Nat → Bool) (s : SL Nat) (w : World) (hw : Wk w B d v S) (hn : v.at'.l.length ≤ 40) (hs : IsSl 1 num w s) (hl : s.l.length = v.at'.l.length) (hn1 : 2 ≤ v.at'.l.length) (hb : ∀ x ∈ s.l, x ≤ 1000) :
    Calls Try.prog 47 #[.pointer (some ⟨B, 0, none⟩), .slice s.a s.l.length s.c] w fun e w' => e = .returned (.bool (areTo S s.l s.l.length s.l.length)) ∧ Ext w w' := by
  obtain ⟨la, lc, ll⟩ := s
  dsimp only at hl hb ⊢
  obtain ⟨bl, ol, hla, hlc⟩ := hs.2.2.resolve_left (by show ¬ ll.length = 0; omega)
  dsimp only at hla hlc
  subst hla
  have hcl : ∀ i, i < ll.length → w.cell? ⟨bl, ol + i, none⟩ = some (.int .i64 (at0 ll i : Int)) := fun i hi => by
    have := hlc i hi 0 (by omega)
    simp only [at0, List.getElem?_eq_getElem hi, Option.getD_some]; simpa [num] using this
  have hb0 : ∀ i, at0 ll i ≤ 1000 := fun i => by
    by_cases hi : i < ll.length
    · simp only [at0, List.getElem?_eq_getElem hi, Option.getD_some]; exact hb _ (List.getElem_mem hi)
    · simp [at0, List.getElem?_eq_none (Nat.le_of_not_lt hi)]
  have HCl := Lib.hid hcl
  have HB0 := Lib.hid hb0
  have HWB := Lib.hid hw.wb
  have HLn : Hid (ll.length = v.at'.l.length) := hl
  have hl40 : ll.length ≤ 40 := by omega
  have hl2 : 2 ≤ ll.length := by omega
  have hBlt := hw.lt
  clear hw hs hlc hcl hb0 hb hl
  refine callsIn_wide.1 (callsIn_of_wp_marks (n := 3) Try.func47 rfl trivial ?_ rfl)
  simp only [Try.ntmps47, List.size_toArray, List.length_cons, List.length_nil, Nat.reduceAdd, Nat.reduceSub, Array.replicate_succ, Array.replicate_zero, List.push_toArray, List.append_toArray, List.nil_append, List.cons_append]
  refine wpIn_wide.2 ?_
  have HX0 : Hid (Ext w ((w.alloc (.cells #[.slice (some ⟨bl, ol, none⟩) ll.length lc] 25)).alloc (.cells #[.bool false] 4))) := ((Ext.refl w).alloc _).alloc _
  have HR0 : Hid (BBox ((w.alloc (.cells #[.slice (some ⟨bl, ol, none⟩) ll.length lc] 25)).alloc (.cells #[.bool false] 4)) (w.heap.size + 1) false) := alloc_new (by simp only [World.size_alloc])
  have HL0 : Hid (((w.alloc (.cells #[.slice (some ⟨bl, ol, none⟩) ll.length lc] 25)).alloc (.cells #[.bool false] 4)).heap[w.heap.size]? = some (.cells #[.slice (some ⟨bl, ol, none⟩) ll.length lc] 25 (0, 0))) := (alloc_old (by simp only [World.size_alloc]; omega)).trans (alloc_new rfl)
  go_wp2_with fail
  generalize (w.alloc (.cells #[.slice (some ⟨bl, ol, none⟩) ll.length lc] 25)).alloc (.cells #[.bool false] 4) = V0 at *
  refine wp_loop (fun a wr => ∃ u2 u5 u6 u7 u11 u12 u13 u14 u15 u16 u17 u18 u19 u20 u21 u22 u23 u24 u25 u26 : Value, ∃ (ds : List Deferred) (k : Nat), a = { tmps := #[.pointer (some ⟨B, 0, none⟩), .slice (some ⟨bl, ol, none⟩) ll.length lc, u2, .pointer (some ⟨w.heap.size, 0, none⟩), .pointer (some ⟨w.heap.size + 1, 0, none⟩), u5, u6, u7, .slice (some ⟨bl, ol, none⟩) ll.length lc, .int .i64 (ll.length : Int), .int .i64 (k : Int), u11, u12, u13, u14, u15, u16, u17, u18, u19, u20, u21, u22, u23, u24, u25, u26], defers := ds } ∧ k ≤ ll.length ∧ Hid (areTo S ll ll.length k = true) ∧ Hid (Coll w.heap.size wr.heap.size ds wr) ∧ Hid (Ext w wr) ∧ Hid (BBox wr (w.heap.size + 1) false) ∧ Hid (wr.heap[w.heap.size]? = some (.cells #[.slice (some ⟨bl, ol, none⟩) ll.length lc] 25 (0, 0)))) (fun a _ => ll.length - (intOf (a.tmps.getD 10 undef)).toNat) ⟨_, _, _, _, _, _, _, _, _, _, _, _, _, _, _, _, _, _, _, _, [], 0, rfl, Nat.zero_le _, rfl, trivial, HX0, HR0, HL0⟩ ?_
  clear HX0 HR0 HL0
  rintro a wr ⟨u2, u5, u6, u7, u11, u12, u13, u14, u15, u16, u17, u18, u19, u20, u21, u22, u23, u24, u25, u26, ds, k, rfl, hk, HA, HC, HX, HR, HLb⟩
  have HVn := Lib.hid hn
  by_cases hlt : k < ll.length
  · have dk : decide ((k : Int) < (ll.length : Int)) = true := decide_eq_true (by omega)
    have ck := HX.out.cell (HCl.out k hlt)
    have hbk := HB0.out k
    have hkn : k < v.at'.l.length := by have := HLn.out; omega
    have i1 : (0 : Int) ≤ (k : Int) := by omega
    have i2 : (k : Int) < (ll.length : Int) := by omega
    have HSn := Lib.hid (seen_gives B k d v S (wr.alloc (.cells #[.int .i64 (at0 ll k : Int)] 3)) (HWB.out.ext (HX.out.alloc _)) hn hkn)
    have HT := Lib.hid (areTo_succ S ll ll.length k)
    have hX1 : Ext w (wr.alloc (.cells #[.int .i64 (at0 ll k : Int)] 3)) := HX.out.alloc _
    have HX1 := Lib.hid hX1
    have HJ1 : Hid (IBox (wr.alloc (.cells #[.int .i64 (at0 ll k : Int)] 3)) wr.heap.size (at0 ll k : Int)) := ibox_new _ _
    have HC1 : Hid (Coll w.heap.size wr.heap.size ds (wr.alloc (.cells #[.int .i64 (at0 ll k : Int)] 3))) := HC.out.ext ((Ext.refl wr).alloc _)
    have HR1 : Hid (BBox (wr.alloc (.cells #[.int .i64 (at0 ll k : Int)] 3)) (w.heap.size + 1) false) := HR.out.ext ((Ext.refl wr).alloc _)
    have HLb1 : Hid ((wr.alloc (.cells #[.int .i64 (at0 ll k : Int)] 3)).heap[w.heap.size]? = some (.cells #[.slice (some ⟨bl, ol, none⟩) ll.length lc] 25 (0, 0))) := ((Ext.refl wr).alloc _).block HLb.out
    have HLt : Hid (w.heap.size + 1 < wr.heap.size ∧ B < w.heap.size) := ⟨(Array.getElem?_eq_some_iff.1 HR.out).1, hBlt⟩
    have HK1 : Hid (at0 ll k ≤ 1000) := hbk
    clear hX1 hbk
    go_wp2_with fail
    clear ck HC HX HR HLb
    refine HSn.out.mono ?_
    rintro e w2 ⟨pb, wb, rfl, hpb, hwb, hx2, hG⟩
    rw [World.size_alloc] at hpb hwb
    have HX2 : Hid (Ext w w2) := HX1.out.trans hx2
    have HJ2 := Lib.hid (HJ1.out.ext hx2)
    have HC2 := Lib.hid (HC1.out.ext hx2)
    have HR2 := Lib.hid (HR1.out.ext hx2)
    have HLb2 : Hid (w2.heap[w.heap.size]? = some (.cells #[.slice (some ⟨bl, ol, none⟩) ll.length lc] 25 (0, 0))) := hx2.block HLb1.out
    have HS2 : Hid (wr.heap.size < w2.heap.size) := by have := hx2.size; rw [World.size_alloc] at this; show _ < _; omega
    have HG := Lib.hid (hG w2 (fun x => x ≠ w.heap.size + 1) (Keep.refl _ _) (by have := HLt.out; refine ⟨?_, ?_, ?_⟩ <;> omega))
    have HTo : Hid (seenTo S k v.at'.l.length = seenTo S k ll.length) := by show _ = _; rw [HLn.out]
    rw [HTo.out] at HG
    clear hG hx2 HSn HX1 HJ1 HC1 HR1 HLb1
    go_wp2_with fail
    refine (wpIn_wide (n := 3)).1 ?_
    refine wp_rangeFuncT (a₁ := ?a1) rfl enters_88 HG.out rfl
      (fun hi pre W => pre.all (fun q => decide (at0 ll q ≤ at0 ll k + 1)) = true ∧ Keep (fun x => x < w2.heap.size) w2 W)
      (fun hi c pre W => c = .ret ∧ pre.all (fun q => decide (at0 ll q ≤ at0 ll k + 1)) = false ∧ Keep (fun x => x < w2.heap.size ∧ x ≠ w.heap.size + 1) w2 W ∧ BBox W (w.heap.size + 1) false)
      ?_ ?_ ?_ ?assign ?body ?done ?stop
    case assign =>
      intro l s W K hK
      gi_wp2
      exact hK
    · intro hi s A B' hh h hk
      exact ⟨h.1, h.2.trans (hk.mono (fun k _ h => .inl h))⟩
    · intro c hi s A B' hh h hk
      have := HLt.out
      have := HS2.out
      exact ⟨h.1, h.2.1, h.2.2.1.trans (hk.mono (fun k _ h => .inl h.1)), hk.heap h.2.2.2 (.inl (by omega))⟩
    · intro hi hh
      exact ⟨by simp, Keep.refl _ _⟩
    case body =>
      rintro l hi pre q W hh hhW ⟨hA, hKp⟩ hpre
      have hLt := HLt.out
      have hS2 := HS2.out
      have hq : q < ll.length := by
        have := (seenTo_mem (S := S) (p := k) (m := ll.length) (q := q)).1 (hpre.subset (List.mem_append_right _ (List.mem_singleton.2 rfl)))
        exact this.1
      have hXW : Ext w W := ext_keep HX2.out hKp (fun i hi => by have := HX2.out.size; omega)
      have c1 : W.cell? ⟨w.heap.size, 0, none⟩ = some (.slice (some ⟨bl, ol, none⟩) ll.length lc) := (cell_at (hKp.heap HLb2.out (by omega)) 0).trans rfl
      have cj := (show IBox W wr.heap.size (at0 ll k : Int) from hKp.heap HJ2.out (by omega)).cell
      have cq := hXW.cell (HCl.out q hq)
      have hR2 : BBox W (w.heap.size + 1) false := hKp.heap HR2.out (by omega)
      have fr := hR2.frozen 0
      have cr := hR2.cell
      have hbq := HB0.out q
      have hbk := HK1.out
      have HR2' := Lib.hid hR2
      have HA := Lib.hid hA
      have HKp := Lib.hid hKp
      clear hA hKp hR2 hpre hXW
      have j1 : (0 : Int) ≤ (q : Int) := by omega
      have j2 : (q : Int) < (ll.length : Int) := by omega
      have hwr : IntKind.i64.wrap ((at0 ll k : Int) + 1) = (at0 ll k : Int) + 1 := IntWalk.i64_in _ (by omega)
      have HNl : Hid (¬ at0 ll q ≤ at0 ll k + 1 → (pre ++ [q]).all (fun q => decide (at0 ll q ≤ at0 ll k + 1)) = false) := fun h => by rw [List.all_append]; simp [h]
      by_cases hgt : at0 ll q ≤ at0 ll k + 1
      · have dg : decide ((at0 ll k : Int) + 1 < (at0 ll q : Int)) = false := decide_eq_false (by omega)
        have dB : Hid ((pre ++ [q]).all (fun q => decide (at0 ll q ≤ at0 ll k + 1)) = true) := by show _ = _; rw [List.all_append, HA.out]; simp; exact hgt
        clear hgt HNl
        gi_wp2_with fail
        refine round_quiet (by kernel_rfl) (by kernel_rfl) (by kernel_rfl) ?_
        repeat (quiet_step (fail))
        refine wpQuiet_nil ?_
        intro _ hw'
        obtain ⟨nq, hw2⟩ := hw'
        subst hw2
        gi_wp2_with fail
        exact ⟨Keep.of_ext ((Ext.refl W).drewN nq), dB.out, HKp.out.ext ((Ext.refl W).drewN nq)⟩
      · have dg : decide ((at0 ll k : Int) + 1 < (at0 ll q : Int)) = true := decide_eq_true (by omega)
        have dB : Hid ((pre ++ [q]).all (fun q => decide (at0 ll q ≤ at0 ll k + 1)) = false) := HNl.out hgt
        clear hgt HNl
        gi_wp2_with fail
        refine round_quiet (by kernel_rfl) (by kernel_rfl) (by kernel_rfl) ?_
        repeat (quiet_step (fail))
        refine wpQuiet_nil ?_
        intro _ hw'
        obtain ⟨nq, hw2⟩ := hw'
        subst hw2
        gi_wp2_with fail
        have hbb : BBox (W.drewN nq) (w.heap.size + 1) false := HR2'.out.ext ((Ext.refl W).drewN nq)
        refine ⟨(Keep.of_ext ((Ext.refl W).drewN nq)).setCell _ _ (fun _ h => ?_), rfl, dB.out, ((HKp.out.ext ((Ext.refl W).drewN nq)).mono (fun k _ h => h.1)).setCell _ _ (fun _ h => h.2 rfl), hbb.set false⟩
        rcases h with h | h
        · exact h.2 rfl
        · have := h.1; simp only at this; omega
    case done =>
      rintro hi W hh ⟨hA, hKp⟩ hD
      have hLt := HLt.out
      have hS2 := HS2.out
      have hXW : Ext w W := ext_keep HX2.out hKp (fun i hi => by have := HX2.out.size; omega)
      have HXW := Lib.hid hXW
      have HAk : Hid (areTo S ll ll.length (k + 1) = true) := by show _ = _; rw [HT.out]; unfold lvB; rw [hA]; simp; exact HA.out
      have HCW : Hid (Coll w.heap.size W.heap.size ({ target := .collected w2.heap.size, args := #[] } :: ds) W) :=
        Coll.cons ((HC2.out.mono (show wr.heap.size ≤ w2.heap.size by omega)).keepD hKp (fun b _ h _ => h)) (by omega) (Array.getElem?_eq_some_iff.1 hD).1 hD
      have HRW : Hid (BBox W (w.heap.size + 1) false) := hKp.heap HR2.out (by omega)
      have HLW : Hid (W.heap[w.heap.size]? = some (.cells #[.slice (some ⟨bl, ol, none⟩) ll.length lc] 25 (0, 0))) := hKp.heap HLb2.out (by omega)
      clear hA hKp hD hXW
      simp only [Exit.inBlock, Exit.then]
      go_wp2_with fail
      refine ⟨⟨_, _, _, _, _, _, _, _, _, _, _, _, _, _, _, _, _, _, _, _, _, k + 1, rfl, by omega, HAk, HCW, HXW, HRW, HLW⟩, ?_⟩
      simp [intOf]; omega
    case stop =>
      rintro hi c pre W hh hp ⟨rfl, hA, hKp, hB⟩ hD
      have hLt := HLt.out
      have hS2 := HS2.out
      have hXW : Ext w W := ext_keep HX2.out (hKp) (fun i hi => ⟨by have := HX2.out.size; omega, by omega⟩)
      have hlv : lvB S ll ll.length k = false := by
        unfold lvB
        rw [List.all_eq_false] at hA ⊢
        obtain ⟨q, hq, hq2⟩ := hA
        exact ⟨q, hp.subset hq, hq2⟩
      have hres := areTo_false hlt hlv
      apply wpIn_ret
      simp only [Exit.inBlock, Exit.then]
      refine leaves_coll (hi := W.heap.size) (lo := w.heap.size) (Coll.cons ((HC2.out.mono (show wr.heap.size ≤ w2.heap.size by omega)).keepD hKp (fun b _ h hb => ⟨h, fun e => by rw [e] at hb; rw [show w2.heap[w.heap.size + 1]? = _ from HR2.out] at hb; cases hb⟩)) (by omega) (Array.getElem?_eq_some_iff.1 hD).1 hD) fun w' hs => ?_
      refine ⟨_, results_bool rfl _ _ (w.heap.size + 1) false rfl (hs.cells hB), ?_, hs.ext hXW (Nat.le_refl _)⟩
      rw [hres]
  · have dk : decide ((k : Int) < (ll.length : Int)) = false := decide_eq_false (by omega)
    have hke : k = ll.length := by omega
    have hA := HA.out
    rw [hke] at hA
    have HAA : Hid (areTo S ll ll.length ll.length = true) := hA
    have HKe := Lib.hid hke
    have cr := HR.out.cell
    have fr := HR.out.frozen 0
    have HLt : Hid (w.heap.size + 1 < wr.heap.size) := (Array.getElem?_eq_some_iff.1 HR.out).1
    clear hke hA
    go_wp2_with fail
    simp only [bodyPostM]
    refine leaves_coll (hi := wr.heap.size) (lo := w.heap.size) (HC.out.keep (fun b h1 h2 hb => (Below.heap_setCell _ _ _ _ (fun e => by have e' : b = w.heap.size + 1 := e; rw [e', show wr.heap[w.heap.size + 1]? = _ from HR.out] at hb; cases hb)).trans hb)) fun w' hs => ?_
    refine ⟨_, results_bool rfl _ _ (w.heap.size + 1) true rfl (hs.cells (HR.out.set true)), ?_, hs.ext (HX.out.setCell (by show w.heap.size ≤ w.heap.size + 1; omega) _) (Nat.le_refl _)⟩
    rw [HAA.out]
end Go.Proofs.Ytfognlealnhodaa
