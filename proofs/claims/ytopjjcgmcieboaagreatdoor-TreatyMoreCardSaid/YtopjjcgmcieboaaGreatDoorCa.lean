/-
  checkReading and checkLine of package treaty answer that all is well where it is, and turn nothing that was there. The treaty, the reading and the line must lie in memory as told and be valid.
-/
import Derived.Test.YtopjjcgmcieboaaGreatDoorE
import Derived.Test.YtopjjcgmcieboaaGreatDoorRa
import Derived.IntWalk
namespace Go.Proofs.YtopjjcgmcieboaaGreatDoor
open Go.RowKit

set_option maxRecDepth 100000 in
set_option maxHeartbeats 1000000 in
theorem checkReading_ok (t : TV) (r : SL Nat) (w : World) (ht : IsT w t) (hk : OkT t) (hr : IsSl 1 num w r) (hR : RdOk t r.l) :
    Calls Tryz.prog 46 #[t.v, .slice r.a r.l.length r.c] w fun e w' => e = .returned (.int .i64 0) ∧ Ext w w' := by
  have hTB : (w.alloc (.cells #[.int .i64 (t.P : Int), .slice t.ways.a t.ways.l.length t.ways.c, .slice t.words.a t.words.l.length t.words.c, .slice t.starts.a t.starts.l.length t.starts.c, .slice t.legs.a t.legs.l.length t.legs.c] 28)).heap[w.heap.size]? = some (.cells #[.int .i64 (t.P : Int), .slice t.ways.a t.ways.l.length t.ways.c, .slice t.words.a t.words.l.length t.words.c, .slice t.starts.a t.starts.l.length t.starts.c, .slice t.legs.a t.legs.l.length t.legs.c] 28) := World.alloc_heap_new w _
  have HTB := Lib.hid hTB; clear hTB
  have hwl := hk.words
  have hlen := hR.1
  have HT := Lib.hid ht; clear ht
  have HK := Lib.hid hk; clear hk
  have HR := Lib.hid hr; clear hr
  have HRd := Lib.hid hR; clear hR
  go_enter Tryz.func46, Tryz.ntmps46
  go_wp2_with fail
  refine (check_ok t _ (HT.out.ext ((Ext.refl w).alloc _)) HK.out).mono ?_
  rintro e w1 ⟨rfl, hx1⟩
  have HB1 := Lib.hid (hx1.block HTB.out)
  have HX1 : Hid (Ext w w1) := ((Ext.refl w).alloc _).trans hx1
  clear hx1 HTB
  have c2 := cell_at HB1.out 2
  simp only [List.getElem?_toArray, List.getElem?_cons_succ, List.getElem?_cons_zero] at c2
  go_wp2_with fail
  clear c2
  go_loopw [21] (fun i wr => ∃ k : Nat, k ≤ t.words.l.length ∧ i = .int .i64 k ∧ Hid (Ext w1 wr)) (fun i _ => t.words.l.length - (intOf i).toNat)
  case atStart => exact ⟨0, Nat.zero_le _, rfl, Ext.refl _⟩
  case round =>
    obtain ⟨wo, rfl⟩ : ∃ wo : World, wo = wr := ⟨_, rfl⟩
    obtain ⟨k, hk, rfl, HX⟩ := hrel
    by_cases hlt : k < t.words.l.length
    · have dk : decide ((k : Int) < (t.words.l.length : Int)) = true := by simpa using hlt
      have hrk := HRd.out.2 k (by omega) hlt
      obtain ⟨B, O, Rb, Ro, b, o, ha, hra, h1, h2, h3, h4, h5⟩ := word_at HT.out HR.out HRd.out.1 k hlt hrk
      have EY : Hid (Ext w wo) := HX1.out.trans HX.out
      have b2 := EY.out.cell h1
      have b3 := EY.out.cell h2
      have c2 := cell_at (HX.out.block HB1.out) 2
      simp only [List.getElem?_toArray, List.getElem?_cons_succ, List.getElem?_cons_zero] at c2
      have hw4 := (HK.out.word _ (List.getElem_mem hlt)).2
      clear h1 h2 h3 h4
      generalize r.l[k]'(by omega) = x at *
      generalize t.words.l[k].l.length = y at *
      generalize t.words.l[k].c = z at *
      have k0 : (0 : Int) ≤ k := by omega
      have k1 : (k : Int) < (t.words.l.length : Int) := by omega
      rw [hra]
      go_wp2_with (go_at_call 92; refine (between_ok _ _ _ _ (by omega)).mono ?_; rintro e w' ⟨rfl, rfl⟩)
      have HA := Lib.hid ha; have HRA := Lib.hid hra; clear ha hra
      rw [← HA.out, ← HRA.out]
      go_roundw
      case rel => exact ⟨k + 1, by omega, by go_num, HX⟩
      case measure => simp [intOf]; omega
    · have hke : k = t.words.l.length := by omega
      subst hke
      go_wp2
      go_ret
      exact ⟨rfl, HX1.out.trans HX.out⟩

set_option maxHeartbeats 400000 in
theorem checkLine_ok (t : TV) (r : SL Nat) (w : World) (hP : t.P ≤ 12) (hN : t.legs.l.length ≤ 10) (hr : IsSl 1 num w r) (hl : r.l.length = t.legs.l.length + 1) (hlt : ∀ x ∈ r.l, x < t.P) :
    Calls Tryz.prog 43 #[t.v, .slice r.a r.l.length r.c] w fun e w' => e = .returned (.int .i64 0) ∧ Ext w w' := by
  have hB : (w.alloc (.cells #[.int .i64 (t.P : Int), .slice t.ways.a t.ways.l.length t.ways.c, .slice t.words.a t.words.l.length t.words.c, .slice t.starts.a t.starts.l.length t.starts.c, .slice t.legs.a t.legs.l.length t.legs.c] 28)).heap[w.heap.size]? = some (.cells #[.int .i64 (t.P : Int), .slice t.ways.a t.ways.l.length t.ways.c, .slice t.words.a t.words.l.length t.words.c, .slice t.starts.a t.starts.l.length t.starts.c, .slice t.legs.a t.legs.l.length t.legs.c] 28) := World.alloc_heap_new w _
  have HB := Lib.hid hB; clear hB
  have HR := Lib.hid hr; clear hr
  have HLt : Hid (r.l.all (lessB (t.P : Int)) = true) := List.all_eq_true.2 fun x hx => by have := hlt x hx; simp [lessB]; omega
  clear hlt
  have hd : ((r.l.length : Int) != (t.legs.l.length : Int) + 1) = false := by rw [bne_eq_false_iff_eq]; omega
  have hd2 : (((t.legs.l.length : Int) + 1) != (t.legs.l.length : Int) + 1) = false := by rw [bne_eq_false_iff_eq]
  have hle : ((r.l.length : Int)) = (t.legs.l.length : Int) + 1 := by omega
  have HLen := Lib.hid hl; clear hl
  have HLe := Lib.hid hle; clear hle
  go_enter Tryz.func43, Tryz.ntmps43
  go_wp2_with fail
  refine (under_any _ _).mono ?_
  rintro e w2 ⟨rfl, rfl⟩
  have hX2 : Ext w ((w.alloc (.cells #[.int .i64 (t.P : Int), .slice t.ways.a t.ways.l.length t.ways.c, .slice t.words.a t.words.l.length t.words.c, .slice t.starts.a t.starts.l.length t.starts.c, .slice t.legs.a t.legs.l.length t.legs.c] 28)).alloc (.cells #[.int .i64 (t.P : Int)] 3)) := ((Ext.refl w).alloc _).alloc _
  have hb2 := World.alloc_heap_new (w.alloc (.cells #[.int .i64 (t.P : Int), .slice t.ways.a t.ways.l.length t.ways.c, .slice t.words.a t.words.l.length t.words.c, .slice t.starts.a t.starts.l.length t.starts.c, .slice t.legs.a t.legs.l.length t.legs.c] 28)) (.cells #[.int .i64 (t.P : Int)] 3)
  rw [World.size_alloc] at hb2 ⊢
  generalize (w.alloc (.cells #[.int .i64 (t.P : Int), .slice t.ways.a t.ways.l.length t.ways.c, .slice t.words.a t.words.l.length t.words.c, .slice t.starts.a t.starts.l.length t.starts.c, .slice t.legs.a t.legs.l.length t.legs.c] 28)).alloc (.cells #[.int .i64 (t.P : Int)] 3) = w2 at *
  have HX2 := Lib.hid hX2; clear hX2
  have HB2 := Lib.hid hb2; clear hb2
  clear hd hd2 HB
  go_wp2_with fail
  have hall := isAll_ok (t.P : Int) (by omega) (w.heap.size + 1) w2 (cell_at HB2.out 0) r.a _ r.c r.l rfl (HR.out.ext HX2.out)
  rw [HLt.out] at hall
  have HAll := Lib.hid hall; clear hall
  refine HAll.out.mono ?_
  rintro e w3 ⟨rfl, hx3⟩
  have HX3 := Lib.hid (HX2.out.trans hx3); clear hx3
  go_wp2
  go_ret
  exact ⟨rfl, HX3.out⟩
end Go.Proofs.YtopjjcgmcieboaaGreatDoor
