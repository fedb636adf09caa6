/-
  checkStones of package pillar answers OK for rolls and finds that are right; nothing that was there is turned.
-/
import Derived.Test.YtfognlealnhodaaBS
import Derived.Test.YtfognlealnhodaaH
namespace Go.Proofs.Ytfognlealnhodaa
open Go.RowKit

set_option maxHeartbeats 400000 in
theorem every_intI (g : Nat) (cap : Array Value) (D : Int → Prop) (p : Int → Bool) (a : Option Addr) (n c : Nat) (l : List Int) (w : World) (hE : Enters Try.prog g)
    (hn : l.length = n) (hv : IsSl 1 numI w ⟨a, c, l⟩) (hD : ∀ x ∈ l, D x) (hp : Asks Try.prog g cap (fun x : Int => #[.int .i64 x]) D p w) :
    Calls Try.prog 45 #[.slice a n c, .func (.func g) #[] cap] w fun e w' => e = .returned (.bool (l.all p)) ∧ Ext w w' := by
  subst hn
  obtain ⟨h1, h2, h3⟩ := hv
  dsimp only at h1 h2 h3
  have H3 := Lib.hid h3; clear h3
  have HP := Lib.hid hp; clear hp
  have HD := Lib.hid hD; clear hD
  have HE : ∀ args w, (callFunc g args).run Try.prog w = .ok (.enter g args) w := hE; clear hE
  go_enter Try.func45, Try.ntmps45
  go_wp2
  go_loopw [9] (fun i wr => ∃ k : Nat, k ≤ l.length ∧ i = .int .i64 k ∧ (l.take k).all p = true ∧ Ext w wr) (fun i _ => l.length - (intOf i).toNat)
  case atStart => exact ⟨0, Nat.zero_le _, rfl, by simp, Ext.refl _⟩
  case round =>
    obtain ⟨k, hk, rfl, hall, hext⟩ := hrel
    by_cases hlt : k < l.length
    · obtain ⟨b, off, rfl, hc⟩ := H3.out.resolve_left (by omega)
      have hcell0 : wr.cell? ⟨b, off + k, none⟩ = some (Value.int .i64 l[k]) := by have := hext.cell (hc k hlt 0 (by omega)); simpa [numI] using this
      clear hc
      generalize hx : l[k] = x at *
      have Hx := Lib.hid hx; clear hx
      have HX := Lib.hid hext; clear hext
      have HA := Lib.hid hall; clear hall
      go_wp2_with fail
      refine (HP.out x (HD.out x (by rw [← Hx.out]; exact List.getElem_mem _)) _ HX.out).mono ?_
      rintro e w1 ⟨rfl, hx1⟩
      have HX1 := Lib.hid (HX.out.trans hx1); clear hx1
      cases hpx : p x
      · have Hpx := Lib.hid hpx; clear hpx
        go_wp2
        go_ret
        refine ⟨?_, HX1.out⟩
        have : l.all p = false := by
          rw [List.all_eq_false]; exact ⟨x, by rw [← Hx.out]; exact List.getElem_mem _, by simp [Hpx.out]⟩
        rw [this]; rfl
      · have Hpx := Lib.hid hpx; clear hpx
        go_wp2
        go_roundw
        case rel => exact ⟨k + 1, by omega, by go_num, by rw [all_take_succ _ _ _ hlt, HA.out, Hx.out, Hpx.out]; rfl, HX1.out⟩
        case measure => simp [intOf]; omega
    · have HX := Lib.hid hext; clear hext
      have HA := Lib.hid hall; clear hall
      go_wp2
      go_ret
      refine ⟨?_, HX.out⟩
      have := HA.out
      rw [List.take_of_length_le (by omega)] at this
      rw [this]; rfl

theorem within_asksI (l m : Int) (b1 b2 : Nat) (w : World) (h : Bds w b1 b2 l m) :
    Asks Try.prog 85 #[.pointer (some ⟨b1, 0, none⟩), .pointer (some ⟨b2, 0, none⟩)] (fun n : Int => #[.int .i64 n]) (fun _ => True) (fun n : Int => decide (l ≤ n) && decide (n ≤ m)) w := by
  intro n _ w' hw
  refine (within1_any n l m b1 b2 w' (h.ext hw)).mono ?_
  rintro e w'' ⟨rfl, rfl⟩
  exact ⟨rfl, Ext.refl _⟩
/-- A roll and finds that are right. -/
structure OkSt (r : List (Nat × Nat)) (g : List (Nat × Nat)) (nm : List Int) : Prop where
  r1 : 1 ≤ r.length
  r2 : r.length ≤ 39
  n1 : 1 ≤ nm.length
  n2 : nm.length ≤ 40
  gl : g.length + 1 = nm.length
  rb : ∀ x ∈ r, 1 ≤ x.1 ∧ x.1 ≤ x.2 ∧ x.2 ≤ 20000
  gb : ∀ x ∈ g, 1 ≤ x.1 ∧ x.1 ≤ x.2 ∧ x.2 ≤ 20000
  nb : ∀ x ∈ nm, -1 ≤ x ∧ x ≤ (r.length : Int)
/-- The boxes of a roll and of finds. -/
def Two (w : World) (b : Nat) (s : SL (Nat × Nat)) (f : FV) : Prop :=
  w.cell? ⟨b, 0, none⟩ = some (.slice s.a s.l.length s.c) ∧ w.cell? ⟨b + 1, 0, none⟩ = some (.slice f.gp.a f.gp.l.length f.gp.c) ∧ w.cell? ⟨b + 1, 1, none⟩ = some (.slice f.nm.a f.nm.l.length f.nm.c)
theorem Two.ext {w w' : World} {b : Nat} {s : SL (Nat × Nat)} {f : FV} (h : Two w b s f) (k : Ext w w') : Two w' b s f := ⟨k.cell h.1, k.cell h.2.1, k.cell h.2.2⟩

set_option maxRecDepth 100000 in
set_option maxHeartbeats 2000000 in
theorem checkStones_ok (s : SL (Nat × Nat)) (f : FV) (w : World) (hs : IsSl 2 spC w s) (hf : IsF w f) (hk : OkSt s.l f.gp.l f.nm.l) :
    Calls Try.prog 62 #[.agg #[.slice s.a s.l.length s.c], f.v] w fun e w' => e = .returned (.int .i64 0) ∧ Ext w w' := by
  have HT : Hid (Two ((w.alloc (.cells #[.slice s.a s.l.length s.c] 64)).alloc (.cells #[.slice f.gp.a f.gp.l.length f.gp.c, .slice f.nm.a f.nm.l.length f.nm.c] 66)) w.heap.size s f) := by
    have h1 : ((w.alloc (.cells #[.slice s.a s.l.length s.c] 64)).alloc (.cells #[.slice f.gp.a f.gp.l.length f.gp.c, .slice f.nm.a f.nm.l.length f.nm.c] 66)).heap[w.heap.size]? = some (.cells #[.slice s.a s.l.length s.c] 64 (0, 0)) := (alloc_old (by simp only [World.size_alloc]; omega)).trans (alloc_new rfl)
    have h2 : ((w.alloc (.cells #[.slice s.a s.l.length s.c] 64)).alloc (.cells #[.slice f.gp.a f.gp.l.length f.gp.c, .slice f.nm.a f.nm.l.length f.nm.c] 66)).heap[w.heap.size + 1]? = some (.cells #[.slice f.gp.a f.gp.l.length f.gp.c, .slice f.nm.a f.nm.l.length f.nm.c] 66 (0, 0)) := alloc_new (by simp only [World.size_alloc])
    exact ⟨(cell_at h1 0).trans rfl, (cell_at h2 0).trans rfl, (cell_at h2 1).trans rfl⟩
  have HX : Hid (Ext w ((w.alloc (.cells #[.slice s.a s.l.length s.c] 64)).alloc (.cells #[.slice f.gp.a f.gp.l.length f.gp.c, .slice f.nm.a f.nm.l.length f.nm.c] 66))) := ((Ext.refl w).alloc _).alloc _
  have HSl := Lib.hid hs
  have HFi := Lib.hid hf
  have A1 : Hid (s.l.all (fun x : Nat × Nat => decide ((1 : Int) ≤ (x.1 : Int)) && (decide ((x.1 : Int) ≤ (x.2 : Int)) && decide ((x.2 : Int) ≤ 20000))) = true) := by
    show _ = _; rw [List.all_eq_true]; intro x hx; have := hk.rb x hx; simp; omega
  have A2 : Hid (f.gp.l.all (fun x : Nat × Nat => decide ((1 : Int) ≤ (x.1 : Int)) && (decide ((x.1 : Int) ≤ (x.2 : Int)) && decide ((x.2 : Int) ≤ 20000))) = true) := by
    show _ = _; rw [List.all_eq_true]; intro x hx; have := hk.gb x hx; simp; omega
  have A3 : Hid (f.nm.l.all (fun x : Int => decide (-1 ≤ x) && decide (x ≤ (s.l.length : Int))) = true) := by
    show _ = _; rw [List.all_eq_true]; intro x hx; have := hk.nb x hx; simp; omega
  obtain ⟨r1, r2, n1, n2, gl, _, _, _⟩ := hk
  have B1 : (decide ((1 : Int) ≤ (s.l.length : Int)) && decide ((s.l.length : Int) ≤ 39)) = true := by simp; omega
  have B2 : (decide ((1 : Int) ≤ (f.nm.l.length : Int)) && decide ((f.nm.l.length : Int) ≤ 40)) = true := by simp; omega
  have d3 : ((f.gp.l.length : Int) != (f.nm.l.length : Int) - 1) = false := by rw [bne_eq_false_iff_eq]; omega
  have HV1 := Lib.hid (fun w1 => between_any (s.l.length : Int) 1 39 w1)
  rw [B1] at HV1
  have HV2 := Lib.hid (fun w1 => between_any (f.nm.l.length : Int) 1 40 w1)
  rw [B2] at HV2
  clear hs hf gl B1 B2
  obtain ⟨c0, c1, c2⟩ := HT.out
  go_enter Try.func62, Try.ntmps62
  go_wp2_with fail
  refine (HV1.out _).mono ?_
  rintro e w' ⟨rfl, rfl⟩
  go_wp2_with fail
  refine (HV2.out _).mono ?_
  rintro e w' ⟨rfl, rfl⟩
  go_wp2_with fail
  generalize (w.alloc (.cells #[.slice s.a s.l.length s.c] 64)).alloc (.cells #[.slice f.gp.a f.gp.l.length f.gp.c, .slice f.nm.a f.nm.l.length f.nm.c] 66) = w0 at *
  refine (spanWithin_bds _ _ _).mono ?_
  rintro e w1 ⟨rfl, hB1, hx1⟩
  have HB1 := Lib.hid hB1
  have HX1 : Hid (Ext w w1) := HX.out.trans hx1
  have HT1 := Lib.hid (HT.out.ext hx1)
  clear hB1 hx1 c0 c1 c2
  obtain ⟨c0, c1, c2⟩ := HT1.out
  go_wp2_with fail
  refine (within_bds _ _ _).mono ?_
  rintro e w2 ⟨rfl, hB2, hx2⟩
  have HB2 := Lib.hid hB2
  have HBx := Lib.hid (HB1.out.ext hx2)
  have HX2 : Hid (Ext w w2) := HX1.out.trans hx2
  have HT2 := Lib.hid (HT1.out.ext hx2)
  clear hB2 hx2 c0 c1 c2
  obtain ⟨c0, c1, c2⟩ := HT2.out
  go_wp2_with fail
  refine (every_span 86 _ (fun _ => True) _ _ _ _ s.l _ enters_86 rfl (HSl.out.ext HX2.out) (fun _ _ => trivial) (spanWithin_asks 1 20000 _ _ _ HBx.out)).mono ?_
  rintro e w3 ⟨rfl, hx3⟩
  rw [A1.out]
  have HX3 : Hid (Ext w w3) := HX2.out.trans hx3
  have HT3 := Lib.hid (HT2.out.ext hx3)
  have HBy := Lib.hid (HBx.out.ext hx3)
  have HBz := Lib.hid (HB2.out.ext hx3)
  clear hx3 c0 c1 c2
  obtain ⟨c0, c1, c2⟩ := HT3.out
  go_wp2_with fail
  refine (every_span 86 _ (fun _ => True) _ _ _ _ f.gp.l _ enters_86 rfl (HFi.out.gp.ext HX3.out) (fun _ _ => trivial) (spanWithin_asks 1 20000 _ _ _ HBy.out)).mono ?_
  rintro e w4 ⟨rfl, hx4⟩
  rw [A2.out]
  have HX4 : Hid (Ext w w4) := HX3.out.trans hx4
  have HT4 := Lib.hid (HT3.out.ext hx4)
  have HBw := Lib.hid (HBz.out.ext hx4)
  clear hx4 c0 c1 c2
  obtain ⟨c0, c1, c2⟩ := HT4.out
  go_wp2_with fail
  refine (every_intI 85 _ (fun _ => True) _ _ _ _ f.nm.l _ enters_85 rfl (HFi.out.nm.ext HX4.out) (fun _ _ => trivial) (within_asksI (-1) (s.l.length : Int) _ _ _ HBw.out)).mono ?_
  rintro e w5 ⟨rfl, hx5⟩
  rw [A3.out]
  have HX5 : Hid (Ext w w5) := HX4.out.trans hx5
  clear hx5 c0 c1 c2
  go_wp2
  go_ret
  exact ⟨rfl, HX5.out⟩
end Go.Proofs.Ytfognlealnhodaa
