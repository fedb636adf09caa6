/-
  What package barter answers of a valid land and a valid exchange: Has, Gains, Fair, Best, Waste, Price, Holds. The land and the exchange must lie in memory as told.
-/
import Derived.Test.YtlaolokakaheaaaWA
import Derived.Test.YtlaolokakaheaaaPR
import Derived.Test.YtlaolokakaheaaaXW
import Derived.Test.YtlaolokakaheaaaHOW
namespace Go.Proofs.Ytlaolokakaheaaa
open Go.RowKit

theorem OkL.oks {L : List St} {v : List Nat} (h : OkL L v) : OkS L := fun x hx => ⟨h.nb x hx, h.sb x hx⟩
theorem OkL.wb' {L : List St} {v : List Nat} (h : OkL L v) : Wb L := ⟨h.l2, fun _ hi => (h.nb _ (at_mem hi)).2, fun _ hi => (h.sb _ (at_mem hi)).2⟩
/-- A valid land and a valid exchange in memory. -/
structure EIn (w : World) (x : Ld) (W : Nat) (a : Option Addr) (c : Nat) (l : List Nat) : Prop where
  st : StL w x.s
  vi : IsSl 1 num w x.v
  ok : OkL x.s.l x.v.l
  pa : IsSl 1 num w ⟨a, c, l⟩
  ln : l.length = x.s.l.length
  w1 : 1 ≤ W
  w2 : W ≤ 2000
  le : ∀ i, i < l.length → pt l i ≤ W
theorem EIn.ext {w w' : World} {x : Ld} {W : Nat} {a : Option Addr} {c : Nat} {l : List Nat} (h : EIn w x W a c l) (k : Ext w w') : EIn w' x W a c l :=
  ⟨h.st.ext k, h.vi.ext k, h.ok, h.pa.ext k, h.ln, h.w1, h.w2, h.le⟩
/-- What Waste answers. -/
def wasteV : Option (Nat × Nat) → Value
  | some (p, q) => .tuple #[.int .i64 (p : Int), .int .i64 (q : Int), .int .i64 0]
  | none => .tuple #[.int .i64 0, .int .i64 0, .int .i64 7]
abbrev exV (W : Nat) (a : Option Addr) (c : Nat) (l : List Nat) : Value := .agg #[.int .i64 (W : Int), .slice a l.length c]
theorem EIn.chk {w : World} {x : Ld} {W : Nat} {a : Option Addr} {c : Nat} {l : List Nat} (h : EIn w x W a c l) : Calls Try.prog 29 #[x.val, exV W a c l] w fun e w' => e = .returned (.int .i64 0) ∧ Ext w w' :=
  checkExchange_ok x W a c l w h.st h.vi h.ok h.pa h.ln h.w1 h.w2 h.le


set_option maxRecDepth 100000 in
set_option maxHeartbeats 1000000 in
theorem Has_ok (x : Ld) (W : Nat) (a : Option Addr) (c : Nat) (l : List Nat) (w : World) (h : EIn w x W a c l) :
    Calls Try.prog 17 #[x.val, exV W a c l] w fun e w' => e = .returned (.tuple #[.int .i64 (hasN x.s.l l : Int), .int .i64 (hasS x.s.l W l : Int), .int .i64 0]) ∧ Ext w w' := by
  have HC := Lib.hid (fun (V : World) (k : Ext w V) => (h.ext k).chk)
  have HH := Lib.hid (fun (V : World) (k : Ext w V) => has_any x W a c l V (h.st.ext k) h.ok.wb' (h.pa.ext k) h.ln h.w2 h.le)
  clear h
  obtain ⟨⟨sa, sc, L⟩, ⟨va, vc, vl⟩⟩ := x
  dsimp only at *
  generalize hasN L l = n at *
  generalize hasS L W l = s at *
  have HM0 : Hid (Mm w [] [(w.heap.size, .cells #[.slice sa L.length sc, .slice va vl.length vc] 26), (w.heap.size + 1, .cells #[.int .i64 (W : Int), .slice a l.length c] 31)] ((w.alloc (.cells #[.slice sa L.length sc, .slice va vl.length vc] 26)).alloc (.cells #[.int .i64 (W : Int), .slice a l.length c] 31))) := by
    have h := ((Mm.start (w0 := w)).new (.cells #[.slice sa L.length sc, .slice va vl.length vc] 26)).new (.cells #[.int .i64 (W : Int), .slice a l.length c] 31)
    simp only [World.size_alloc] at h
    exact h
  go_enter Try.func17, Try.ntmps17
  go_upto_region 1 with (fail)
  generalize (w.alloc (.cells #[.slice sa L.length sc, .slice va vl.length vc] 26)).alloc (.cells #[.int .i64 (W : Int), .slice a l.length c] 31) = V0 at *
  generalize w.heap.size + 1 = EB at *
  generalize w.heap.size = LB at *
  have l0 := HM0.out.cell 0 (j := 0) rfl rfl
  have l1 := HM0.out.cell 0 (j := 1) rfl rfl
  have m0 := HM0.out.cell 1 (j := 0) rfl rfl
  have m1 := HM0.out.cell 1 (j := 1) rfl rfl
  go_upto_region 5 with (first | (go_at_call 29; refine (HC.out _ HM0.out.to_ext).mono ?_; rintro e V1 ⟨rfl, hx⟩; have HM1 := Lib.hid (HM0.out.ext hx); clear hx l0 l1 m0 m1; have l0 := HM1.out.cell 0 (j := 0) rfl rfl; have l1 := HM1.out.cell 0 (j := 1) rfl rfl; have m0 := HM1.out.cell 1 (j := 0) rfl rfl; have m1 := HM1.out.cell 1 (j := 1) rfl rfl) | (go_at_call 37; refine (HH.out _ HM1.out.to_ext).mono ?_; rintro e V2 ⟨rfl, hx⟩; have HM2 := Lib.hid (HM1.out.ext hx); clear hx l0 l1 m0 m1))
  have HM3 := Lib.hid (HM2.out.new (.cells #[.int .i64 (n : Int), .int .i64 (s : Int)] 64))
  generalize V2.alloc (.cells #[.int .i64 (n : Int), .int .i64 (s : Int)] 64) = V3 at *
  generalize V2.heap.size = GB at *
  have q0 := HM3.out.cell 2 (j := 0) rfl rfl
  have q1 := HM3.out.cell 2 (j := 1) rfl rfl
  go_quiet (fail)
  go_wp2
  refine bodyPost_ret (results_tmp3 rfl _ _ _) rfl ?_
  exact ⟨rfl, HM3.out.to_ext.drewN nq⟩


set_option maxRecDepth 100000 in
set_option maxHeartbeats 1000000 in
theorem Gains_ok (x : Ld) (W : Nat) (a : Option Addr) (c : Nat) (l : List Nat) (w : World) (h : EIn w x W a c l) :
    Calls Try.prog 11 #[x.val, exV W a c l] w fun e w' => e = .returned (.tuple #[.int .i64 (gainN x.s.l W l), .int .i64 (gainS x.s.l W l), .int .i64 0]) ∧ Ext w w' := by
  have HC := Lib.hid (fun (V : World) (k : Ext w V) => (h.ext k).chk)
  have HH := Lib.hid (fun (V : World) (k : Ext w V) => gains_any x W a c l V (h.st.ext k) h.ok.wb' (h.pa.ext k) h.ln h.w2 h.le)
  clear h
  obtain ⟨⟨sa, sc, L⟩, ⟨va, vc, vl⟩⟩ := x
  dsimp only at *
  generalize gainN L W l = n at *
  generalize gainS L W l = s at *
  have HM0 : Hid (Mm w [] [(w.heap.size, .cells #[.slice sa L.length sc, .slice va vl.length vc] 26), (w.heap.size + 1, .cells #[.int .i64 (W : Int), .slice a l.length c] 31)] ((w.alloc (.cells #[.slice sa L.length sc, .slice va vl.length vc] 26)).alloc (.cells #[.int .i64 (W : Int), .slice a l.length c] 31))) := by
    have h := ((Mm.start (w0 := w)).new (.cells #[.slice sa L.length sc, .slice va vl.length vc] 26)).new (.cells #[.int .i64 (W : Int), .slice a l.length c] 31)
    simp only [World.size_alloc] at h
    exact h
  go_enter Try.func11, Try.ntmps11
  go_upto_region 1 with (fail)
  generalize (w.alloc (.cells #[.slice sa L.length sc, .slice va vl.length vc] 26)).alloc (.cells #[.int .i64 (W : Int), .slice a l.length c] 31) = V0 at *
  generalize w.heap.size + 1 = EB at *
  generalize w.heap.size = LB at *
  have l0 := HM0.out.cell 0 (j := 0) rfl rfl
  have l1 := HM0.out.cell 0 (j := 1) rfl rfl
  have m0 := HM0.out.cell 1 (j := 0) rfl rfl
  have m1 := HM0.out.cell 1 (j := 1) rfl rfl
  go_upto_region 5 with (first | (go_at_call 29; refine (HC.out _ HM0.out.to_ext).mono ?_; rintro e V1 ⟨rfl, hx⟩; have HM1 := Lib.hid (HM0.out.ext hx); clear hx l0 l1 m0 m1; have l0 := HM1.out.cell 0 (j := 0) rfl rfl; have l1 := HM1.out.cell 0 (j := 1) rfl rfl; have m0 := HM1.out.cell 1 (j := 0) rfl rfl; have m1 := HM1.out.cell 1 (j := 1) rfl rfl) | (go_at_call 30; refine (HH.out _ HM1.out.to_ext).mono ?_; rintro e V2 ⟨rfl, hx⟩; have HM2 := Lib.hid (HM1.out.ext hx); clear hx l0 l1 m0 m1))
  have HM3 := Lib.hid (HM2.out.new (.cells #[.int .i64 n, .int .i64 s] 64))
  generalize V2.alloc (.cells #[.int .i64 n, .int .i64 s] 64) = V3 at *
  generalize V2.heap.size = GB at *
  have q0 := HM3.out.cell 2 (j := 0) rfl rfl
  have q1 := HM3.out.cell 2 (j := 1) rfl rfl
  go_quiet (fail)
  go_wp2
  refine bodyPost_ret (results_tmp3 rfl _ _ _) rfl ?_
  exact ⟨rfl, HM3.out.to_ext.drewN nq⟩


/-- Nothing is a waste just where waste says so. -/
theorem WasteIs.none_ {L : List St} {W : Nat} {P : List Nat} {u v : Nat} {b : Bool} (h : WasteIs L W P u v b) : (!b) = (wasteF L W P).isNone := by
  unfold WasteIs at h
  cases e : wasteF L W P with
  | none => rw [e] at h; dsimp only at h; rw [h]; rfl
  | some x => obtain ⟨p, q⟩ := x; rw [e] at h; dsimp only at h; rw [h.1]; rfl


set_option maxRecDepth 100000 in
set_option maxHeartbeats 1000000 in
theorem isBest_any (x : Ld) (W : Nat) (a : Option Addr) (c : Nat) (l : List Nat) (w : World) (h : EIn w x W a c l) :
    Calls Try.prog 32 #[x.val, exV W a c l] w fun e w' => e = .returned (.bool (bestF x.s.l W l)) ∧ Ext w w' := by
  have HA := Lib.hid (fun (V : World) (k : Ext w V) => allows_any x W a c l V (h.st.ext k) (h.pa.ext k) h.ln h.w2 h.le)
  have HW := Lib.hid (fun (V : World) (k : Ext w V) => waste_any x W a c l V (h.st.ext k) h.ok.oks (h.pa.ext k) h.ln)
  clear h
  obtain ⟨⟨sa, sc, L⟩, ⟨va, vc, vl⟩⟩ := x
  dsimp only at *
  have HB : Hid (bestF L W l = (allowsF L W l && (wasteF L W l).isNone)) := rfl
  generalize allowsF L W l = al at *
  have HM0 : Hid (Mm w [] [(w.heap.size, .cells #[.slice sa L.length sc, .slice va vl.length vc] 26), (w.heap.size + 1, .cells #[.int .i64 (W : Int), .slice a l.length c] 31)] ((w.alloc (.cells #[.slice sa L.length sc, .slice va vl.length vc] 26)).alloc (.cells #[.int .i64 (W : Int), .slice a l.length c] 31))) := by
    have h := ((Mm.start (w0 := w)).new (.cells #[.slice sa L.length sc, .slice va vl.length vc] 26)).new (.cells #[.int .i64 (W : Int), .slice a l.length c] 31)
    simp only [World.size_alloc] at h
    exact h
  go_enter Try.func32, Try.ntmps32
  go_upto_region 1 with (fail)
  generalize (w.alloc (.cells #[.slice sa L.length sc, .slice va vl.length vc] 26)).alloc (.cells #[.int .i64 (W : Int), .slice a l.length c] 31) = V0 at *
  generalize w.heap.size + 1 = EB at *
  generalize w.heap.size = LB at *
  have l0 := HM0.out.cell 0 (j := 0) rfl rfl
  have l1 := HM0.out.cell 0 (j := 1) rfl rfl
  have m0 := HM0.out.cell 1 (j := 0) rfl rfl
  have m1 := HM0.out.cell 1 (j := 1) rfl rfl
  go_upto_region 2 with (go_at_call 41; refine (HW.out _ HM0.out.to_ext).mono ?_; rintro e V1 ⟨u, v, b, rfl, hw, hx⟩; have HM1 := Lib.hid (HM0.out.ext hx); have HWn := Lib.hid hw.none_; clear hx hw l0 l1 m0 m1; have l0 := HM1.out.cell 0 (j := 0) rfl rfl; have l1 := HM1.out.cell 0 (j := 1) rfl rfl; have m0 := HM1.out.cell 1 (j := 0) rfl rfl; have m1 := HM1.out.cell 1 (j := 1) rfl rfl)
  cases al <;> cases b
  · go_wp2_with (go_at_call 31; refine (HA.out _ HM1.out.to_ext).mono ?_; rintro e V2 ⟨rfl, hx⟩)
    go_ret
    refine ⟨?_, HM1.out.to_ext.trans hx⟩
    rw [HB.out, ← HWn.out]; rfl
  · go_wp2_with (go_at_call 31; refine (HA.out _ HM1.out.to_ext).mono ?_; rintro e V2 ⟨rfl, hx⟩)
    go_ret
    refine ⟨?_, HM1.out.to_ext.trans hx⟩
    rw [HB.out, ← HWn.out]; rfl
  · go_wp2_with (go_at_call 31; refine (HA.out _ HM1.out.to_ext).mono ?_; rintro e V2 ⟨rfl, hx⟩)
    go_ret
    refine ⟨?_, HM1.out.to_ext.trans hx⟩
    rw [HB.out, ← HWn.out]; rfl
  · go_wp2_with (go_at_call 31; refine (HA.out _ HM1.out.to_ext).mono ?_; rintro e V2 ⟨rfl, hx⟩)
    go_ret
    refine ⟨?_, HM1.out.to_ext.trans hx⟩
    rw [HB.out, ← HWn.out]; rfl


set_option maxRecDepth 100000 in
set_option maxHeartbeats 1000000 in
theorem Best_ok (x : Ld) (W : Nat) (a : Option Addr) (c : Nat) (l : List Nat) (w : World) (h : EIn w x W a c l) :
    Calls Try.prog 13 #[x.val, exV W a c l] w fun e w' => e = .returned (.tuple #[.bool (bestF x.s.l W l), .int .i64 0]) ∧ Ext w w' := by
  have HC := Lib.hid (fun (V : World) (k : Ext w V) => (h.ext k).chk)
  have HB := Lib.hid (fun (V : World) (k : Ext w V) => isBest_any x W a c l V (h.ext k))
  clear h
  obtain ⟨⟨sa, sc, L⟩, ⟨va, vc, vl⟩⟩ := x
  dsimp only at *
  have HM0 : Hid (Mm w [] [(w.heap.size, .cells #[.slice sa L.length sc, .slice va vl.length vc] 26), (w.heap.size + 1, .cells #[.int .i64 (W : Int), .slice a l.length c] 31)] ((w.alloc (.cells #[.slice sa L.length sc, .slice va vl.length vc] 26)).alloc (.cells #[.int .i64 (W : Int), .slice a l.length c] 31))) := by
    have h := ((Mm.start (w0 := w)).new (.cells #[.slice sa L.length sc, .slice va vl.length vc] 26)).new (.cells #[.int .i64 (W : Int), .slice a l.length c] 31)
    simp only [World.size_alloc] at h
    exact h
  go_enter Try.func13, Try.ntmps13
  go_upto_region 1 with (fail)
  generalize (w.alloc (.cells #[.slice sa L.length sc, .slice va vl.length vc] 26)).alloc (.cells #[.int .i64 (W : Int), .slice a l.length c] 31) = V0 at *
  generalize w.heap.size + 1 = EB at *
  generalize w.heap.size = LB at *
  have l0 := HM0.out.cell 0 (j := 0) rfl rfl
  have l1 := HM0.out.cell 0 (j := 1) rfl rfl
  have m0 := HM0.out.cell 1 (j := 0) rfl rfl
  have m1 := HM0.out.cell 1 (j := 1) rfl rfl
  go_wp2_with (first | (go_at_call 29; refine (HC.out _ HM0.out.to_ext).mono ?_; rintro e V1 ⟨rfl, hx⟩; have HM1 := Lib.hid (HM0.out.ext hx); clear hx l0 l1 m0 m1; have l0 := HM1.out.cell 0 (j := 0) rfl rfl; have l1 := HM1.out.cell 0 (j := 1) rfl rfl; have m0 := HM1.out.cell 1 (j := 0) rfl rfl; have m1 := HM1.out.cell 1 (j := 1) rfl rfl) | (go_at_call 32; refine (HB.out _ HM1.out.to_ext).mono ?_; rintro e V2 ⟨rfl, hx⟩; have HM2 := Lib.hid (HM1.out.ext hx); clear hx l0 l1 m0 m1))
  refine bodyPost_ret (results_tmp2 rfl _ _ _) rfl ?_
  exact ⟨rfl, HM2.out.to_ext⟩


set_option maxRecDepth 100000 in
set_option maxHeartbeats 1000000 in
theorem Fair_ok (x : Ld) (W : Nat) (a : Option Addr) (c : Nat) (l : List Nat) (w : World) (h : EIn w x W a c l) :
    Calls Try.prog 12 #[x.val, exV W a c l] w fun e w' => e = .returned (.tuple #[.bool (allowsF x.s.l W l && decide (0 ≤ gainN x.s.l W l) && decide (0 ≤ gainS x.s.l W l)), .int .i64 0]) ∧ Ext w w' := by
  have HC := Lib.hid (fun (V : World) (k : Ext w V) => (h.ext k).chk)
  have HG := Lib.hid (fun (V : World) (k : Ext w V) => gains_any x W a c l V (h.st.ext k) h.ok.wb' (h.pa.ext k) h.ln h.w2 h.le)
  have HA := Lib.hid (fun (V : World) (k : Ext w V) => allows_any x W a c l V (h.st.ext k) (h.pa.ext k) h.ln h.w2 h.le)
  clear h
  obtain ⟨⟨sa, sc, L⟩, ⟨va, vc, vl⟩⟩ := x
  dsimp only at *
  generalize gainN L W l = n at *
  generalize gainS L W l = s at *
  generalize allowsF L W l = al at *
  have HM0 : Hid (Mm w [] [(w.heap.size, .cells #[.slice sa L.length sc, .slice va vl.length vc] 26), (w.heap.size + 1, .cells #[.int .i64 (W : Int), .slice a l.length c] 31)] ((w.alloc (.cells #[.slice sa L.length sc, .slice va vl.length vc] 26)).alloc (.cells #[.int .i64 (W : Int), .slice a l.length c] 31))) := by
    have h := ((Mm.start (w0 := w)).new (.cells #[.slice sa L.length sc, .slice va vl.length vc] 26)).new (.cells #[.int .i64 (W : Int), .slice a l.length c] 31)
    simp only [World.size_alloc] at h
    exact h
  go_enter Try.func12, Try.ntmps12
  go_upto_region 1 with (fail)
  generalize (w.alloc (.cells #[.slice sa L.length sc, .slice va vl.length vc] 26)).alloc (.cells #[.int .i64 (W : Int), .slice a l.length c] 31) = V0 at *
  generalize w.heap.size + 1 = EB at *
  generalize w.heap.size = LB at *
  have l0 := HM0.out.cell 0 (j := 0) rfl rfl
  have l1 := HM0.out.cell 0 (j := 1) rfl rfl
  have m0 := HM0.out.cell 1 (j := 0) rfl rfl
  have m1 := HM0.out.cell 1 (j := 1) rfl rfl
  go_upto_region 5 with (first | (go_at_call 29; refine (HC.out _ HM0.out.to_ext).mono ?_; rintro e V1 ⟨rfl, hx⟩; have HM1 := Lib.hid (HM0.out.ext hx); clear hx l0 l1 m0 m1; have l0 := HM1.out.cell 0 (j := 0) rfl rfl; have l1 := HM1.out.cell 0 (j := 1) rfl rfl; have m0 := HM1.out.cell 1 (j := 0) rfl rfl; have m1 := HM1.out.cell 1 (j := 1) rfl rfl) | (go_at_call 30; refine (HG.out _ HM1.out.to_ext).mono ?_; rintro e V2 ⟨rfl, hx⟩; have HM2 := Lib.hid (HM1.out.ext hx); clear hx l0 l1 m0 m1))
  have HM3 := Lib.hid (HM2.out.new (.cells #[.int .i64 n, .int .i64 s] 64))
  generalize V2.alloc (.cells #[.int .i64 n, .int .i64 s] 64) = V3 at *
  generalize V2.heap.size = GB at *
  have l0 := HM3.out.cell 0 (j := 0) rfl rfl
  have l1 := HM3.out.cell 0 (j := 1) rfl rfl
  have m0 := HM3.out.cell 1 (j := 0) rfl rfl
  have m1 := HM3.out.cell 1 (j := 1) rfl rfl
  cases al
  · go_wp2_with (go_at_call 31; refine (HA.out _ HM3.out.to_ext).mono ?_; rintro e V4 ⟨rfl, hx⟩)
    refine bodyPost_ret (results_tmp2 rfl _ _ _) rfl ?_
    exact ⟨rfl, HM3.out.to_ext.trans hx⟩
  · by_cases hn : 0 ≤ n
    · have dn : decide (0 ≤ n) = true := decide_eq_true hn
      by_cases hs : 0 ≤ s
      · have ds : decide (0 ≤ s) = true := decide_eq_true hs
        go_wp2_with (go_at_call 31; refine (HA.out _ HM3.out.to_ext).mono ?_; rintro e V4 ⟨rfl, hx⟩; have HM4 := Lib.hid (HM3.out.ext hx); have q0 := HM4.out.cell 2 (j := 0) rfl rfl; have q1 := HM4.out.cell 2 (j := 1) rfl rfl; clear hx)
        refine bodyPost_ret (results_tmp2 rfl _ _ _) rfl ?_
        refine ⟨?_, HM4.out.to_ext⟩
        rw [dn, ds]; rfl
      · have ds : decide (0 ≤ s) = false := decide_eq_false hs
        go_wp2_with (go_at_call 31; refine (HA.out _ HM3.out.to_ext).mono ?_; rintro e V4 ⟨rfl, hx⟩; have HM4 := Lib.hid (HM3.out.ext hx); have q0 := HM4.out.cell 2 (j := 0) rfl rfl; have q1 := HM4.out.cell 2 (j := 1) rfl rfl; clear hx)
        refine bodyPost_ret (results_tmp2 rfl _ _ _) rfl ?_
        refine ⟨?_, HM4.out.to_ext⟩
        rw [dn, ds]; rfl
    · have dn : decide (0 ≤ n) = false := decide_eq_false hn
      go_wp2_with (go_at_call 31; refine (HA.out _ HM3.out.to_ext).mono ?_; rintro e V4 ⟨rfl, hx⟩; have HM4 := Lib.hid (HM3.out.ext hx); have q0 := HM4.out.cell 2 (j := 0) rfl rfl; have q1 := HM4.out.cell 2 (j := 1) rfl rfl; clear hx)
      refine bodyPost_ret (results_tmp2 rfl _ _ _) rfl ?_
      refine ⟨?_, HM4.out.to_ext⟩
      rw [dn]; rfl


set_option maxRecDepth 100000 in
set_option maxHeartbeats 1000000 in
theorem Waste_ok (x : Ld) (W : Nat) (a : Option Addr) (c : Nat) (l : List Nat) (w : World) (h : EIn w x W a c l) (hal : allowsF x.s.l W l = true) :
    Calls Try.prog 19 #[x.val, exV W a c l] w fun e w' => e = .returned (wasteV (wasteF x.s.l W l)) ∧ Ext w w' := by
  have HC := Lib.hid (fun (V : World) (k : Ext w V) => (h.ext k).chk)
  have HA := Lib.hid (fun (V : World) (k : Ext w V) => allows_any x W a c l V (h.st.ext k) (h.pa.ext k) h.ln h.w2 h.le)
  have HW := Lib.hid (fun (V : World) (k : Ext w V) => waste_any x W a c l V (h.st.ext k) h.ok.oks (h.pa.ext k) h.ln)
  have HA2 : Hid (∀ (V : World), Ext w V → Calls Try.prog 31 #[x.val, exV W a c l] V fun e w' => e = .returned (.bool true) ∧ Ext V w') := fun V k => by have := HA.out V k; rw [hal] at this; exact this
  clear h hal HA
  obtain ⟨⟨sa, sc, L⟩, ⟨va, vc, vl⟩⟩ := x
  dsimp only at *
  have HM0 : Hid (Mm w [] [(w.heap.size, .cells #[.slice sa L.length sc, .slice va vl.length vc] 26), (w.heap.size + 1, .cells #[.int .i64 (W : Int), .slice a l.length c] 31)] ((w.alloc (.cells #[.slice sa L.length sc, .slice va vl.length vc] 26)).alloc (.cells #[.int .i64 (W : Int), .slice a l.length c] 31))) := by
    have h := ((Mm.start (w0 := w)).new (.cells #[.slice sa L.length sc, .slice va vl.length vc] 26)).new (.cells #[.int .i64 (W : Int), .slice a l.length c] 31)
    simp only [World.size_alloc] at h
    exact h
  go_enter Try.func19, Try.ntmps19
  go_upto_region 1 with (fail)
  generalize (w.alloc (.cells #[.slice sa L.length sc, .slice va vl.length vc] 26)).alloc (.cells #[.int .i64 (W : Int), .slice a l.length c] 31) = V0 at *
  generalize w.heap.size + 1 = EB at *
  generalize w.heap.size = LB at *
  have l0 := HM0.out.cell 0 (j := 0) rfl rfl
  have l1 := HM0.out.cell 0 (j := 1) rfl rfl
  have m0 := HM0.out.cell 1 (j := 0) rfl rfl
  have m1 := HM0.out.cell 1 (j := 1) rfl rfl
  rcases hwf : wasteF L W l with _ | ⟨p, q⟩
  · have HWf := Lib.hid hwf
    clear hwf
    go_wp2_with (first | (go_at_call 29; refine (HC.out _ HM0.out.to_ext).mono ?_; rintro e V1 ⟨rfl, hx⟩; have HM1 := Lib.hid (HM0.out.ext hx); clear hx l0 l1 m0 m1; have l0 := HM1.out.cell 0 (j := 0) rfl rfl; have l1 := HM1.out.cell 0 (j := 1) rfl rfl; have m0 := HM1.out.cell 1 (j := 0) rfl rfl; have m1 := HM1.out.cell 1 (j := 1) rfl rfl) | (go_at_call 31; refine (HA2.out _ HM1.out.to_ext).mono ?_; rintro e V2 ⟨rfl, hx⟩; have HM2 := Lib.hid (HM1.out.ext hx); clear hx l0 l1 m0 m1; have l0 := HM2.out.cell 0 (j := 0) rfl rfl; have l1 := HM2.out.cell 0 (j := 1) rfl rfl; have m0 := HM2.out.cell 1 (j := 0) rfl rfl; have m1 := HM2.out.cell 1 (j := 1) rfl rfl) | (go_at_call 41; refine (HW.out _ HM2.out.to_ext).mono ?_; rintro e V3 ⟨u, v, b, rfl, hw, hx⟩; have hb : b = false := (by unfold WasteIs at hw; rw [HWf.out] at hw; exact hw); subst hb; have HM3 := Lib.hid (HM2.out.ext hx); clear hx hw))
    refine bodyPost_ret (results_tmp3 rfl _ _ _) rfl ?_
    refine ⟨?_, HM3.out.to_ext⟩
    rw [HWf.out]; rfl
  · have HWf := Lib.hid hwf
    clear hwf
    go_wp2_with (first | (go_at_call 29; refine (HC.out _ HM0.out.to_ext).mono ?_; rintro e V1 ⟨rfl, hx⟩; have HM1 := Lib.hid (HM0.out.ext hx); clear hx l0 l1 m0 m1; have l0 := HM1.out.cell 0 (j := 0) rfl rfl; have l1 := HM1.out.cell 0 (j := 1) rfl rfl; have m0 := HM1.out.cell 1 (j := 0) rfl rfl; have m1 := HM1.out.cell 1 (j := 1) rfl rfl) | (go_at_call 31; refine (HA2.out _ HM1.out.to_ext).mono ?_; rintro e V2 ⟨rfl, hx⟩; have HM2 := Lib.hid (HM1.out.ext hx); clear hx l0 l1 m0 m1; have l0 := HM2.out.cell 0 (j := 0) rfl rfl; have l1 := HM2.out.cell 0 (j := 1) rfl rfl; have m0 := HM2.out.cell 1 (j := 0) rfl rfl; have m1 := HM2.out.cell 1 (j := 1) rfl rfl) | (go_at_call 41; refine (HW.out _ HM2.out.to_ext).mono ?_; rintro e V3 ⟨u, v, b, rfl, hw, hx⟩; have hb : b = true ∧ u = p ∧ v = q := (by unfold WasteIs at hw; rw [HWf.out] at hw; exact hw); obtain ⟨rfl, rfl, rfl⟩ := hb; have HM3 := Lib.hid (HM2.out.ext hx); clear hx hw))
    refine bodyPost_ret (results_tmp3 rfl _ _ _) rfl ?_
    refine ⟨?_, HM3.out.to_ext⟩
    rw [HWf.out]; rfl


set_option maxRecDepth 100000 in
set_option maxHeartbeats 1000000 in
theorem Price_ok (x : Ld) (W : Nat) (a : Option Addr) (c : Nat) (l : List Nat) (w : World) (h : EIn w x W a c l) :
    Calls Try.prog 14 #[x.val, exV W a c l] w fun e w' => e = .returned (if bestF x.s.l W l = true then .tuple #[.int .i64 ((priceF x.s.l W l (orderF x.s.l) (1, 1)).1 : Int), .int .i64 ((priceF x.s.l W l (orderF x.s.l) (1, 1)).2 : Int), .int .i64 0] else .tuple #[.int .i64 0, .int .i64 0, .int .i64 9]) ∧ Ext w w' := by
  have HC := Lib.hid (fun (V : World) (k : Ext w V) => (h.ext k).chk)
  have HB := Lib.hid (fun (V : World) (k : Ext w V) => isBest_any x W a c l V (h.ext k))
  have HP := Lib.hid (fun (V : World) (k : Ext w V) => price_any x W a c l V (h.st.ext k) h.ok.oks h.ok.l2 (h.pa.ext k) h.ln)
  clear h
  obtain ⟨⟨sa, sc, L⟩, ⟨va, vc, vl⟩⟩ := x
  dsimp only at *
  generalize priceF L W l (orderF L) (1, 1) = pr at *
  obtain ⟨p1, p2⟩ := pr
  dsimp only at *
  generalize bestF L W l = bb at *
  have HM0 : Hid (Mm w [] [(w.heap.size, .cells #[.slice sa L.length sc, .slice va vl.length vc] 26), (w.heap.size + 1, .cells #[.int .i64 (W : Int), .slice a l.length c] 31)] ((w.alloc (.cells #[.slice sa L.length sc, .slice va vl.length vc] 26)).alloc (.cells #[.int .i64 (W : Int), .slice a l.length c] 31))) := by
    have h := ((Mm.start (w0 := w)).new (.cells #[.slice sa L.length sc, .slice va vl.length vc] 26)).new (.cells #[.int .i64 (W : Int), .slice a l.length c] 31)
    simp only [World.size_alloc] at h
    exact h
  go_enter Try.func14, Try.ntmps14
  go_upto_region 1 with (fail)
  generalize (w.alloc (.cells #[.slice sa L.length sc, .slice va vl.length vc] 26)).alloc (.cells #[.int .i64 (W : Int), .slice a l.length c] 31) = V0 at *
  generalize w.heap.size + 1 = EB at *
  generalize w.heap.size = LB at *
  have l0 := HM0.out.cell 0 (j := 0) rfl rfl
  have l1 := HM0.out.cell 0 (j := 1) rfl rfl
  have m0 := HM0.out.cell 1 (j := 0) rfl rfl
  have m1 := HM0.out.cell 1 (j := 1) rfl rfl
  cases bb
  · go_wp2_with (first | (go_at_call 29; refine (HC.out _ HM0.out.to_ext).mono ?_; rintro e V1 ⟨rfl, hx⟩; have HM1 := Lib.hid (HM0.out.ext hx); clear hx l0 l1 m0 m1; have l0 := HM1.out.cell 0 (j := 0) rfl rfl; have l1 := HM1.out.cell 0 (j := 1) rfl rfl; have m0 := HM1.out.cell 1 (j := 0) rfl rfl; have m1 := HM1.out.cell 1 (j := 1) rfl rfl) | (go_at_call 32; refine (HB.out _ HM1.out.to_ext).mono ?_; rintro e V2 ⟨rfl, hx⟩; have HM2 := Lib.hid (HM1.out.ext hx); clear hx l0 l1 m0 m1))
    refine bodyPost_ret (results_tmp3 rfl _ _ _) rfl ?_
    exact ⟨rfl, HM2.out.to_ext⟩
  · go_upto_region 7 with (first | (go_at_call 29; refine (HC.out _ HM0.out.to_ext).mono ?_; rintro e V1 ⟨rfl, hx⟩; have HM1 := Lib.hid (HM0.out.ext hx); clear hx l0 l1 m0 m1; have l0 := HM1.out.cell 0 (j := 0) rfl rfl; have l1 := HM1.out.cell 0 (j := 1) rfl rfl; have m0 := HM1.out.cell 1 (j := 0) rfl rfl; have m1 := HM1.out.cell 1 (j := 1) rfl rfl) | (go_at_call 32; refine (HB.out _ HM1.out.to_ext).mono ?_; rintro e V2 ⟨rfl, hx⟩; have HM2 := Lib.hid (HM1.out.ext hx); clear hx l0 l1 m0 m1; have l0 := HM2.out.cell 0 (j := 0) rfl rfl; have l1 := HM2.out.cell 0 (j := 1) rfl rfl; have m0 := HM2.out.cell 1 (j := 0) rfl rfl; have m1 := HM2.out.cell 1 (j := 1) rfl rfl) | (go_at_call 33; refine (HP.out _ HM2.out.to_ext).mono ?_; rintro e V3 ⟨rfl, hx⟩; have HM3 := Lib.hid (HM2.out.ext hx); clear hx l0 l1 m0 m1))
    have HM4 := Lib.hid (HM3.out.new (.cells #[.int .i64 (p1 : Int), .int .i64 (p2 : Int)] 68))
    generalize V3.alloc (.cells #[.int .i64 (p1 : Int), .int .i64 (p2 : Int)] 68) = V4 at *
    generalize V3.heap.size = GB at *
    have q0 := HM4.out.cell 2 (j := 0) rfl rfl
    have q1 := HM4.out.cell 2 (j := 1) rfl rfl
    go_quiet (fail)
    go_wp2
    refine bodyPost_ret (results_tmp3 rfl _ _ _) rfl ?_
    exact ⟨rfl, HM4.out.to_ext.drewN nq⟩


set_option maxRecDepth 100000 in
set_option maxHeartbeats 1000000 in
theorem Holds_ok (x : Ld) (W : Nat) (a : Option Addr) (c : Nat) (l : List Nat) (pn ps : Nat) (w : World) (h : EIn w x W a c l) (hn : 1 ≤ pn ∧ pn ≤ 2000) (hs : 1 ≤ ps ∧ ps ≤ 2000) :
    Calls Try.prog 15 #[x.val, exV W a c l, .int .i64 (pn : Int), .int .i64 (ps : Int)] w fun e w' => e = .returned (.tuple #[.bool (holdsF x.s.l W l pn ps), .int .i64 0]) ∧ Ext w w' := by
  have HC := Lib.hid (fun (V : World) (k : Ext w V) => (h.ext k).chk)
  have HH := Lib.hid (fun (V : World) (k : Ext w V) => holds_any x W pn ps a c l V (h.st.ext k) h.ok.wb' (h.pa.ext k) h.ln h.w2 h.le hn.2 hs.2)
  have HY1 := Lib.hid (fun (V : World) => between_yes (pn : Int) 1 2000 (by omega) (by omega) V)
  have HY2 := Lib.hid (fun (V : World) => between_yes (ps : Int) 1 2000 (by omega) (by omega) V)
  clear h
  obtain ⟨⟨sa, sc, L⟩, ⟨va, vc, vl⟩⟩ := x
  dsimp only at *
  have HM0 : Hid (Mm w [] [(w.heap.size, .cells #[.slice sa L.length sc, .slice va vl.length vc] 26), (w.heap.size + 1, .cells #[.int .i64 (W : Int), .slice a l.length c] 31)] ((w.alloc (.cells #[.slice sa L.length sc, .slice va vl.length vc] 26)).alloc (.cells #[.int .i64 (W : Int), .slice a l.length c] 31))) := by
    have h := ((Mm.start (w0 := w)).new (.cells #[.slice sa L.length sc, .slice va vl.length vc] 26)).new (.cells #[.int .i64 (W : Int), .slice a l.length c] 31)
    simp only [World.size_alloc] at h
    exact h
  go_enter Try.func15, Try.ntmps15
  go_upto_region 1 with (fail)
  generalize (w.alloc (.cells #[.slice sa L.length sc, .slice va vl.length vc] 26)).alloc (.cells #[.int .i64 (W : Int), .slice a l.length c] 31) = V0 at *
  generalize w.heap.size + 1 = EB at *
  generalize w.heap.size = LB at *
  have l0 := HM0.out.cell 0 (j := 0) rfl rfl
  have l1 := HM0.out.cell 0 (j := 1) rfl rfl
  have m0 := HM0.out.cell 1 (j := 0) rfl rfl
  have m1 := HM0.out.cell 1 (j := 1) rfl rfl
  go_wp2_with (first | (go_at_call 29; refine (HC.out _ HM0.out.to_ext).mono ?_; rintro e V1 ⟨rfl, hx⟩; have HM1 := Lib.hid (HM0.out.ext hx); clear hx l0 l1 m0 m1; have l0 := HM1.out.cell 0 (j := 0) rfl rfl; have l1 := HM1.out.cell 0 (j := 1) rfl rfl; have m0 := HM1.out.cell 1 (j := 0) rfl rfl; have m1 := HM1.out.cell 1 (j := 1) rfl rfl) | (go_at_call_of 34 (Value.int IntKind.i64 (pn : Int)); refine (HY1.out _).mono ?_; rintro e v9 ⟨rfl, rfl⟩) | (go_at_call_of 34 (Value.int IntKind.i64 (ps : Int)); refine (HY2.out _).mono ?_; rintro e v9 ⟨rfl, rfl⟩) | (go_at_call 35; refine (HH.out _ HM1.out.to_ext).mono ?_; rintro e V2 ⟨rfl, hx⟩; have HM2 := Lib.hid (HM1.out.ext hx); clear hx l0 l1 m0 m1))
  refine bodyPost_ret (results_tmp2 rfl _ _ _) rfl ?_
  exact ⟨rfl, HM2.out.to_ext⟩

end Go.Proofs.Ytlaolokakaheaaa
