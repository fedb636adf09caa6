/-
  isTruth of package pillar tells whether heights and a bend are a truth of a profile; nothing is turned. The profile must lie in memory as told.
-/
import Derived.Test.YtfognlealnhodaaI
import Derived.BigQuiet
namespace Go.Proofs.Ytfognlealnhodaa
open Go.RowKit

/-- A number lies within a span. -/
def inB (x : Nat) (s : Nat × Nat) : Bool := decide (s.1 ≤ x) && decide (x ≤ s.2)
/-- The first m heights lie within their spans. -/
def truthTo (h : List Nat) (g : List (Nat × Nat)) : Nat → Bool
  | 0 => true
  | m + 1 => truthTo h g m && inB (h[m]?.getD 0) (g[m]?.getD (0, 0))
theorem truthTo_false {h : List Nat} {g : List (Nat × Nat)} {m : Nat} (e : truthTo h g m = false) : ∀ {k : Nat}, m ≤ k → truthTo h g k = false
  | 0, hk => by rw [show m = 0 by omega] at e; exact e
  | k + 1, hk => by
    rcases Nat.lt_or_eq_of_le hk with h' | h'
    · simp [truthTo, truthTo_false e (show m ≤ k by omega)]
    · rw [← h']; exact e
theorem inB_int (x : Nat) (s : Nat × Nat) : (decide ((s.1 : Int) ≤ (x : Int)) && decide ((x : Int) ≤ (s.2 : Int))) = inB x s := by
  unfold inB
  rw [show decide ((s.1 : Int) ≤ (x : Int)) = decide (s.1 ≤ x) by simp, show decide ((x : Int) ≤ (s.2 : Int)) = decide (x ≤ s.2) by simp]

theorem between_val (n a b : Int) (r : Bool) (w : World) (h : (decide (a ≤ n) && decide (n ≤ b)) = r) : Calls Try.prog 59 #[.int .i64 n, .int .i64 a, .int .i64 b] w fun e w' => e = .returned (.bool r) ∧ w = w' :=
  (between_any n a b w).mono fun e w' k => ⟨by rw [k.1, h], k.2⟩

set_option maxRecDepth 100000 in
set_option maxHeartbeats 2000000 in
theorem isTruth_any (v : PV) (s : SL Nat) (bend : Nat) (w : World) (hp : IsP w v) (hs : IsSl 1 num w s) (hl : s.l.length = v.gr.l.length) :
    Calls Try.prog 49 #[v.v, .slice s.a s.l.length s.c, .int .i64 (bend : Int)] w fun e w' => e = .returned (.bool (truthTo s.l v.gr.l s.l.length && inB bend (v.lo, v.hi))) ∧ Ext w w' := by
  have HG := Lib.hid hp.gr
  have HF := Lib.hid (five_new w v)
  have HX := Lib.hid ((Ext.refl w).alloc (.cells #[.slice v.at'.a v.at'.l.length v.at'.c, .slice v.gr.a v.gr.l.length v.gr.c, .int .i64 (v.T : Int), .int .i64 (v.lo : Int), .int .i64 (v.hi : Int)] 30))
  obtain ⟨a, c, l⟩ := s
  obtain ⟨h1, h2, h3⟩ := hs
  dsimp only at h1 h2 h3 hl ⊢
  have H3 := Lib.hid h3; clear h3
  clear hp
  obtain ⟨c0, c1, c2, c3, c4⟩ := HF.out
  clear c0 c1 c2 c3 c4
  go_enter Try.func49, Try.ntmps49
  go_wp2
  go_loopw [11] (fun i wr => ∃ k : Nat, k ≤ l.length ∧ i = .int .i64 k ∧ Hid (truthTo l v.gr.l k = true) ∧ Hid (Ext (w.alloc (.cells #[.slice v.at'.a v.at'.l.length v.at'.c, .slice v.gr.a v.gr.l.length v.gr.c, .int .i64 (v.T : Int), .int .i64 (v.lo : Int), .int .i64 (v.hi : Int)] 30)) wr)) (fun i _ => l.length - (intOf i).toNat)
  case atStart => exact ⟨0, Nat.zero_le _, rfl, rfl, Ext.refl _⟩
  case round =>
    obtain ⟨wo, rfl⟩ : ∃ wo : World, wo = wr := ⟨_, rfl⟩
    obtain ⟨k, hk, rfl, HT, HX2⟩ := hrel
    by_cases hlt : k < l.length
    · obtain ⟨b, off, rfl, hc⟩ := H3.out.resolve_left (by omega)
      have hcell0 : wo.cell? ⟨b, off + k, none⟩ = some (Value.int .i64 ((l[k]?.getD 0 : Nat) : Int)) := by have := HX2.out.cell (HX.out.cell (hc k hlt 0 (by omega))); rw [List.getElem?_eq_getElem hlt]; simpa [num] using this
      obtain ⟨b2, off2, hga, hc2⟩ := HG.out.2.2.resolve_left (by omega)
      have hcell1 : wo.cell? ⟨b2, off2 + k * 2, none⟩ = some (Value.int .i64 (((v.gr.l[k]?.getD (0, 0)).1 : Nat) : Int)) := by have := HX2.out.cell (HX.out.cell (hc2 k (by omega) 0 (by omega))); rw [List.getElem?_eq_getElem (show k < v.gr.l.length by omega)]; simpa [spC] using this
      have hcell2 : wo.cell? ⟨b2, off2 + k * 2 + 1, none⟩ = some (Value.int .i64 (((v.gr.l[k]?.getD (0, 0)).2 : Nat) : Int)) := by have := HX2.out.cell (HX.out.cell (hc2 k (by omega) 1 (by omega))); rw [List.getElem?_eq_getElem (show k < v.gr.l.length by omega)]; simpa [spC] using this
      have c1 : wo.cell? ⟨w.heap.size, 1, none⟩ = some (.slice (some ⟨b2, off2, none⟩) v.gr.l.length v.gr.c) := by rw [← hga]; exact (HF.out.ext HX2.out).2.1
      clear hc hc2 hga
      have HS : Hid (truthTo l v.gr.l (k + 1) = inB (l[k]?.getD 0) (v.gr.l[k]?.getD (0, 0))) := by show _ = _; simp only [truthTo]; rw [HT.out]; rfl
      generalize l[k]?.getD 0 = x at *
      generalize v.gr.l[k]?.getD (0, 0) = sp at *
      have hlt2 : k < v.gr.l.length := by omega
      have hv2 : v.gr.l.length ≤ 1000000 := by omega
      cases hb : inB x sp
      · have HN := Lib.hid (fun n => quiet_same (n := n) (between_val (x : Int) (sp.1 : Int) (sp.2 : Int) false (wo.drewN n) (by rw [inB_int, hb])))
        rw [hb] at HS
        clear hb
        go_wp2_with fail
        go_quiet (exact HN.out _)
        go_wp2
        go_ret
        exact ⟨by rw [truthTo_false HS.out (by omega)]; rfl, (HX.out.trans HX2.out).drewN _⟩
      · have HN := Lib.hid (fun n => quiet_same (n := n) (between_val (x : Int) (sp.1 : Int) (sp.2 : Int) true (wo.drewN n) (by rw [inB_int, hb])))
        rw [hb] at HS
        clear hb
        go_wp2_with fail
        go_quiet (exact HN.out _)
        go_wp2
        go_roundw
        case rel => exact ⟨k + 1, by omega, by go_num, HS, HX2.out.drewN _⟩
        case measure => simp [intOf]; omega
    · have HE : Hid (truthTo l v.gr.l l.length = true) := by show _ = _; rw [show l.length = k by omega]; exact HT.out
      have c3 : wo.cell? ⟨w.heap.size, 3, none⟩ = some (.int .i64 (v.lo : Int)) := (HF.out.ext HX2.out).2.2.2.1
      have c4 : wo.cell? ⟨w.heap.size, 4, none⟩ = some (.int .i64 (v.hi : Int)) := (HF.out.ext HX2.out).2.2.2.2
      go_wp2_with (go_at_call 59; refine (between_any _ _ _ _).mono ?_; rintro e w' ⟨rfl, rfl⟩)
      go_ret
      exact ⟨by rw [HE.out]; rfl, HX.out.trans HX2.out⟩
end Go.Proofs.Ytfognlealnhodaa
