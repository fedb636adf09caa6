/-
  lacks of package barter's byOrder: what the North lacks still with so many first ones. The worths must lie in memory as told.
-/
import Derived.Test.YtlaolokakaheaaaQT
import Derived.Test.YtlaolokakaheaaaSUW
import Derived.Test.YtlaolokakaheaaaWF
namespace Go.Proofs.Ytlaolokakaheaaa
open Go.RowKit

set_option maxRecDepth 100000 in
set_option maxHeartbeats 1000000 in
theorem lacks_any (NB TB g f : Nat) (need : Int) (ws : List Nat) (w : World) (hN : w.heap[NB]? = some (.cells #[.int .i64 need] 3 (0, 0))) (hT : w.heap[TB]? = some (.cells #[.slice (some ⟨g, 0, none⟩) ws.length ws.length] 24 (0, 0)))
    (hR : Row w g ws ws.length) (hf : f ≤ ws.length) (hl : ws.length ≤ 16) (hb : ∀ i, i < ws.length → pt ws i ≤ 2000) (hn : -100000 ≤ need ∧ need ≤ 100000) :
    Calls Try.prog 53 #[.int .i64 (f : Int), .pointer (some ⟨NB, 0, none⟩), .pointer (some ⟨TB, 0, none⟩)] w fun e w' => e = .returned (.int .i64 (need - ((ws.take f).sum : Int))) ∧ Ext w w' := by
  have hlen : (ws.take f).length = f := by rw [List.length_take]; omega
  have hpt : ∀ i, i < (ws.take f).length → pt (ws.take f) i ≤ 2000 := fun i hi => by
    rw [hlen] at hi
    have := hb i (by omega)
    unfold pt at this ⊢
    rw [List.getElem?_take_of_lt hi]
    exact this
  have HSu : Hid (∀ V, Ext w V → Calls Try.prog 54 #[.slice (some ⟨g, 0, none⟩) f ws.length] V fun e w' => e = .returned (.int .i64 (((ws.take f).sum : Nat) : Int)) ∧ Ext V w') := fun V k => by
    have := sum_any (some ⟨g, 0, none⟩) ws.length (ws.take f) V (((hR.take f).sl (by rw [hlen]; omega)).ext k) (by rw [hlen]; omega) hpt
    rw [hlen] at this
    exact this
  have hsb := sum_bound (ws.take f) 2000 hpt f (by rw [hlen]; exact Nat.le_refl _)
  rw [List.take_of_length_le (by rw [hlen]; exact Nat.le_refl _)] at hsb
  generalize (ws.take f).sum = sm at *
  have hwr : IntKind.i64.wrap (need - (sm : Int)) = need - (sm : Int) := IntWalk.i64_in _ (by omega)
  have c0 := (cell_at hN 0)
  have c1 := (cell_at hT 0)
  dsimp at c0 c1
  have e0 : ∀ E : YW w, E.w.cell? ⟨NB, 0, none⟩ = _ := fun E => E.cell c0
  have e1 : ∀ E : YW w, E.w.cell? ⟨TB, 0, none⟩ = _ := fun E => E.cell c1
  clear hN hT hR hb hpt hlen c0 c1
  generalize ws.length = n at *
  have i0 : (0 : Int) ≤ (f : Int) := by omega
  have i1 : (f : Int) ≤ (n : Int) := by omega
  go_enter Try.func53, Try.ntmps53
  go_upto_region 1 with (fail)
  refine region_quietY (by kernel_rfl) (by kernel_rfl) ?_
  repeat (go_big_quiet_step ((go_at_call 54; exact Calls.quietY (HSu.out _ (YW.x _)))))
  refine wpQuiet_nil ?_
  rintro _ ⟨E, rfl⟩
  go_wp2
  go_ret
  exact ⟨rfl, E.x⟩
end Go.Proofs.Ytlaolokakaheaaa
