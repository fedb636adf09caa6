/-
  inBoth of package treaty returns what is common to two lists, sorted, in new memory, and turns nothing that was there. The first list must be strictly increasing, and have at most 12 numbers; both must read as told.
-/
import Derived.Test.YtopjjcgmcieboaaGreatDoorI
import Derived.Test.YtopjjcgmcieboaaGreatDoorJ
namespace Go.Proofs.YtopjjcgmcieboaaGreatDoor
open Go.RowKit

theorem IsSl.below0 {α : Type} {sz : Nat} {cs : α → Nat → Value} {w w' : World} {s : SL α} {B : Nat} (h : IsSl sz cs w s) (k : Below B w w') (hB : w.heap.size ≤ B) : IsSl sz cs w' s := h.ext (Below.mono k hB)

theorem inBoth1_any (x : Nat) (b : Nat) (s : SL Nat) (w : World) (hs : IsSl 1 num w s) (hc : w.cell? ⟨b, 0, none⟩ = some (.slice s.a s.l.length s.c)) :
    Calls Tryz.prog 133 #[.int .i64 (x : Int), .pointer (some ⟨b, 0, none⟩)] w fun e w' => e = .returned (.bool (!s.l.contains x)) ∧ w = w' := by
  have HS := Lib.hid hs; clear hs
  go_enter Tryz.func133, Tryz.ntmps133
  go_wp2_with fail
  refine (contains_any _ _ _ s.l x w rfl HS.out).mono ?_
  rintro e w' ⟨rfl, rfl⟩
  generalize hr : s.l.contains x = r
  have HR := Lib.hid hr; clear hr
  go_wp2
  go_ret
  exact ⟨by rw [HR.out]; rfl, rfl⟩

theorem enters_133 : Enters Tryz.prog 133 := fun args w => Proofs.enters_of Tryz.func133 (by kernel_rfl) rfl args w

/-- What is common to two lists, in the order of the first one. -/
def both (A B : List Nat) : List Nat := A.filter fun x => B.contains x

theorem deleteFunc_nil (gf : Nat) (cap : Array Value) (p : Nat → Bool) (w : World) (hE : Enters Tryz.prog gf) (hp : Asks Tryz.prog gf cap (fun x : Nat => #[.int .i64 (x : Int)]) (fun _ => True) p w) :
    Calls Tryz.prog 132 #[.slice none 0 0, .func (.func gf) #[] cap] w fun e w' => e = .returned (.slice none 0 0) ∧ Ext w w' := by
  have HIF := Lib.hid (indexFunc_any gf cap p none 0 0 [] w hE rfl ⟨Nat.le_refl _, by decide, .inl rfl⟩ hp)
  clear hp hE
  go_enter Tryz.func132, Tryz.ntmps132
  go_wp2_with fail
  refine HIF.out.mono ?_
  rintro e w1 ⟨⟨r, rfl, hr⟩, hx1⟩
  have HX := Lib.hid hx1; clear hx1
  rcases hr with ⟨rfl, _⟩ | ⟨i, hi, _⟩
  · go_wp2
    go_ret
    exact ⟨rfl, HX.out⟩
  · exact absurd hi (by simp)

set_option maxHeartbeats 1000000 in
theorem inBoth_any (s t : SL Nat) (w : World) (hs : IsSl 1 num w s) (ht : IsSl 1 num w t) (hsort : s.l.Pairwise (· < ·)) (h12 : s.l.length ≤ 12) :
    Calls Tryz.prog 123 #[.slice s.a s.l.length s.c, .slice t.a t.l.length t.c] w fun e w' => ∃ a' c', e = .returned (.slice a' (both s.l t.l).length c') ∧ IsSl 1 num w' ⟨a', c', both s.l t.l⟩ ∧ Ext w w' := by
  have HS := Lib.hid hs; clear hs
  have HT := Lib.hid ht; clear ht
  have HO := Lib.hid hsort; clear hsort
  have hl12 : (both s.l t.l).length ≤ 12 := Nat.le_trans (List.length_filter_le _ _) h12
  have e0 : Ext w (w.alloc (.cells #[.slice t.a t.l.length t.c] 25)) := (Ext.refl w).alloc _
  have E0 := Lib.hid e0; clear e0
  have HC0 : Hid ((w.alloc (.cells #[.slice t.a t.l.length t.c] 25)).heap[w.heap.size]? = some (.cells #[.slice t.a t.l.length t.c] 25)) := World.alloc_heap_new w _
  have HSO : Hid ((both s.l t.l).Pairwise (· < ·)) := HO.out.filter _
  go_enter Tryz.func123, Tryz.ntmps123
  go_wp2_with fail
  refine (clone_any _ _ _ s.l _ rfl (HS.out.ext E0.out)).mono ?_
  rintro e w1 ⟨a1, c1, rfl, hown, hx1⟩
  have HX1 := Lib.hid hx1; clear hx1
  rw [World.size_alloc] at hown
  -- what the question answers in each world that is as w1 was below the clone's memory
  have HQ : Hid (∀ (x : Nat) (w' : World), Below (w.heap.size + 1) w1 w' → Calls Tryz.prog 133 (#[.int .i64 (x : Int)] ++ #[.pointer (some ⟨w.heap.size, 0, none⟩)]) w' fun e w'' => e = .returned (.bool (!t.l.contains x)) ∧ Ext w' w'') := by
    intro x w' hw
    have hb : w'.heap[w.heap.size]? = some (.cells #[.slice t.a t.l.length t.c] 25) := (hw.block _ (by omega)).trans (HX1.out.block HC0.out)
    have e2 : Ext w w' := Below.trans (E0.out.trans HX1.out) (Below.mono hw (by omega))
    refine (inBoth1_any x w.heap.size t w' (HT.out.ext e2) (cell_at hb 0)).mono ?_
    rintro e w'' ⟨rfl, rfl⟩
    exact ⟨rfl, Ext.refl _⟩
  cases a1 with
  | none =>
    have hz : s.l = [] ∧ c1 = 0 := by
      rcases hown.2 with ⟨h, h0⟩ | ⟨g, cap, cur, h, _⟩
      · simp only [Value.slice.injEq] at h; exact ⟨List.eq_nil_of_length_eq_zero h0, h.2.2⟩
      · cases h
    obtain ⟨hz, rfl⟩ := hz
    have hb0 : both s.l t.l = [] := by rw [hz]; rfl
    have hlen : s.l.length = 0 := by rw [hz]; rfl
    have HZ := Lib.hid hb0; clear hb0 hown hz
    rw [hlen]
    have HLen := Lib.hid hlen; clear hlen
    go_wp2_with fail
    refine (deleteFunc_nil 133 _ (fun x => !t.l.contains x) w1 enters_133 (fun x _ w' hw => HQ.out x w' (Below.mono hw (by have := HX1.out.size; simp at this; omega)))).mono ?_
    rintro e w2 ⟨rfl, hx2⟩
    have HX2 := Lib.hid hx2; clear hx2
    have hs0 : IsSl 1 num w2 ⟨none, 0, []⟩ := ⟨Nat.le_refl _, by decide, .inl rfl⟩
    have HS0 := Lib.hid hs0; clear hs0
    go_wp2_with fail
    refine (sort_sorted none 0 0 [] w2 rfl (by omega) HS0.out List.Pairwise.nil).mono ?_
    rintro e w3 ⟨⟨v, rfl⟩, hx3⟩
    have HX3 := Lib.hid hx3; clear hx3
    go_wp2
    go_ret
    refine ⟨none, 0, ?_, ?_, E0.out.trans (HX1.out.trans (HX2.out.trans HX3.out))⟩
    · rw [HZ.out]; rfl
    · rw [HZ.out]; exact HS0.out.ext HX3.out
  | some ad =>
    obtain ⟨gb, hgb⟩ : ∃ g, ad = ⟨g, 0, none⟩ := by
      rcases hown.2 with ⟨h, _⟩ | ⟨g, cap, cur, h, _⟩
      · cases h
      · simp only [Value.slice.injEq, Option.some.injEq] at h; exact ⟨g, h.1⟩
    subst hgb
    have hcm : c1 ≤ maxLen := by
      rcases hown.2 with ⟨h, _⟩ | ⟨g, cap, cur, h, _, _, _, hm, _⟩
      · cases h
      · simp only [Value.slice.injEq] at h; rw [h.2.2]; exact hm
    obtain ⟨hrow, hbase⟩ := Row.of_own hown
    have HRow := Lib.hid hrow; clear hrow hown
    go_wp2_with fail
    refine (deleteFunc_any 133 _ (fun x => !t.l.contains x) (w.heap.size + 1) gb _ c1 s.l w1 enters_133 rfl HRow.out hbase (by omega) hcm HQ.out).mono ?_
    rintro e w2 ⟨rfl, hrow2, hx2⟩
    have hbb : (s.l.filter fun x => !(!t.l.contains x)) = both s.l t.l := by unfold both; simp
    rw [hbb] at hrow2 ⊢
    clear hbb
    have hE2 : Ext w w2 := Below.trans (E0.out.trans HX1.out) (Below.mono hx2 (by omega))
    have HX2 := Lib.hid hE2; clear hx2 hE2
    have hsl : IsSl 1 num w2 ⟨some ⟨gb, 0, none⟩, c1, both s.l t.l⟩ := own_sl (hrow2.own hbase hcm) (by omega)
    have HSL := Lib.hid hsl; clear hsl hrow2
    go_wp2_with fail
    refine (sort_sorted _ _ c1 (both s.l t.l) w2 rfl hl12 HSL.out HSO.out).mono ?_
    rintro e w3 ⟨⟨v, rfl⟩, hx3⟩
    have HX3 := Lib.hid hx3; clear hx3
    go_wp2
    go_ret
    exact ⟨_, c1, rfl, HSL.out.ext HX3.out, HX2.out.trans HX3.out⟩
end Go.Proofs.YtopjjcgmcieboaaGreatDoor
