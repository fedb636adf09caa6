/-
  hasLine of package treaty tells whether some line keeps all legs, and turns nothing that was there. The treaty at work must lie in memory as told.
-/
import Derived.Test.YtopjjcgmcieboaaGreatDoorR
namespace Go.Proofs.YtopjjcgmcieboaaGreatDoor
open Go.RowKit

set_option maxHeartbeats 400000 in
theorem indexFunc_D (g : Nat) (cap : Array Value) (D : Nat → Prop) (p : Nat → Bool) (a : Option Addr) (n c : Nat) (l : List Nat) (w : World) (hE : Enters Tryz.prog g) (hn : l.length = n) (hv : IsSl 1 num w ⟨a, c, l⟩)
    (hp : Asks Tryz.prog g cap (fun x : Nat => #[.int .i64 (x : Int)]) D p w) (hD : ∀ x ∈ l, D x) :
    Calls Tryz.prog 118 #[.slice a n c, .func (.func g) #[] cap] w fun e w' => (∃ r : Int, e = .returned (.int .i64 r) ∧ IdxBy l p r) ∧ Ext w w' := by
  subst hn
  obtain ⟨h1, h2, h3⟩ := hv
  dsimp only at h1 h2 h3
  have H3 := Lib.hid h3; clear h3
  have HP := Lib.hid hp; clear hp
  have HD := Lib.hid hD; clear hD
  have HE : ∀ args w, (callFunc g args).run Tryz.prog w = .ok (.enter g args) w := hE; clear hE
  go_enter Tryz.func118, Tryz.ntmps118
  go_wp2
  go_loopw [8] (fun i wr => ∃ k : Nat, k ≤ l.length ∧ i = .int .i64 k ∧ Hid ((l.take k).all (fun x => !p x) = true) ∧ Ext w wr) (fun i _ => l.length - (intOf i).toNat)
  case atStart => exact ⟨0, Nat.zero_le _, rfl, by simp [Hid], Ext.refl _⟩
  case round =>
    obtain ⟨k, hk, rfl, HA, hext⟩ := hrel
    by_cases hlt : k < l.length
    · obtain ⟨b, off, rfl, hc⟩ := H3.out.resolve_left (by omega)
      have hcell : wr.cell? ⟨b, off + k, none⟩ = some (.int .i64 (l[k] : Int)) := by have := hext.cell (hc k (by simpa using hlt) 0 (by omega)); simpa [num] using this
      clear hc
      generalize hy : l[k] = y at *
      have Hy := Lib.hid hy; clear hy
      have HX := Lib.hid hext; clear hext
      go_wp2_with fail
      refine (HP.out y (HD.out y (by rw [← Hy.out]; exact List.getElem_mem _)) wr HX.out).mono ?_
      rintro e w1 ⟨rfl, hx1⟩
      have HX1 := Lib.hid (HX.out.trans hx1); clear hx1
      cases hpx : p y
      · have Hpx := Lib.hid hpx; clear hpx
        go_wp2
        go_roundw
        case rel => exact ⟨k + 1, by omega, by go_num, by show _ = true; rw [all_take_succ _ _ _ hlt, HA.out, Hy.out, Hpx.out]; rfl, HX1.out⟩
        case measure => simp [intOf]; omega
      · have Hpx := Lib.hid hpx; clear hpx
        go_wp2
        go_ret
        exact ⟨⟨k, rfl, .inr ⟨k, hlt, rfl, by rw [Hy.out]; exact Hpx.out, HA.out⟩⟩, HX1.out⟩
    · have HX := Lib.hid hext; clear hext
      go_wp2
      go_ret
      refine ⟨⟨-1, rfl, .inl ⟨rfl, ?_⟩⟩, HX.out⟩
      have := HA.out
      rwa [List.take_of_length_le (by omega)] at this


set_option maxHeartbeats 400000 in
theorem containsFunc_any (g : Nat) (cap : Array Value) (D : Nat → Prop) (p : Nat → Bool) (a : Option Addr) (n c : Nat) (l : List Nat) (w : World) (hE : Enters Tryz.prog g) (hn : l.length = n) (hv : IsSl 1 num w ⟨a, c, l⟩)
    (hp : Asks Tryz.prog g cap (fun x : Nat => #[.int .i64 (x : Int)]) D p w) (hD : ∀ x ∈ l, D x) :
    Calls Tryz.prog 83 #[.slice a n c, .func (.func g) #[] cap] w fun e w' => e = .returned (.bool (l.any p)) ∧ Ext w w' := by
  have HI := Lib.hid (indexFunc_D g cap D p a n c l w hE hn hv hp hD)
  clear hE hn hv hp hD
  go_enter Tryz.func83, Tryz.ntmps83
  go_wp2_with fail
  refine HI.out.mono ?_
  rintro e w' ⟨⟨r, rfl, hr⟩, hx⟩
  have HR := Lib.hid hr; clear hr
  have HX := Lib.hid hx; clear hx
  go_wp2
  go_ret
  refine ⟨?_, HX.out⟩
  rcases HR.out with ⟨rfl, hall⟩ | ⟨i, hi, rfl, hpi, _⟩
  · have : l.any p = false := by
      rw [List.any_eq_false]; intro x hx; have := List.all_eq_true.1 hall x hx; simpa using this
    rw [this]; rfl
  · have : l.any p = true := by
      rw [List.any_eq_true]; exact ⟨_, List.getElem_mem hi, hpi⟩
    rw [this]
    have h0 : decide ((0 : Int) ≤ (i : Int)) = true := by simp
    show Ending.returned (.bool (decide ((0 : Int) ≤ (i : Int)))) = _
    rw [h0]

theorem hasLine1_any (x b : Nat) (T : Nat → Nat → Bool) (w : World) (h : Mrk w b T) (hx : x < 12) :
    Calls Tryz.prog 84 #[.int .i64 (x : Int), .pointer (some ⟨b, 0, none⟩)] w fun e w' => e = .returned (.bool (T 0 x)) ∧ w = w' := by
  have hc := h.cell 0 x (by omega) hx
  rw [show 0 * 12 + x = x by omega] at hc
  have i1 : (0 : Int) ≤ x := by omega
  have i2 : (x : Int) < 12 := by omega
  clear h
  generalize T 0 x = r at *
  go_enter Tryz.func84, Tryz.ntmps84
  go_wp2
  go_ret
  exact ⟨rfl, rfl⟩

theorem enters_84 : Enters Tryz.prog 84 := fun args w => Proofs.enters_of Tryz.func84 (by kernel_rfl) rfl args w

/-- Is there a line that keeps all legs? -/
def hasB (t : TV) (L : Nat → Nat → Nat → Bool) : Bool := t.starts.l.any fun x => openK L t.P t.legs.l.length t.legs.l.length 0 x

set_option maxRecDepth 100000 in
set_option maxHeartbeats 1000000 in
theorem hasLine_any (p : Nat) (t : TV) (L : Nat → Nat → Nat → Bool) (w : World) (hw : IsWork w p t L) (ht : IsSl 1 num w t.starts) (hP12 : t.P ≤ 12) (hN10 : t.legs.l.length ≤ 10) (hst : ∀ x ∈ t.starts.l, x < t.P) :
    Calls Tryz.prog 37 #[.pointer (some ⟨p, 0, none⟩)] w fun e w' => e = .returned (.bool (hasB t L)) ∧ Ext w w' := by
  have HO := Lib.hid (open_any p t L w hw hP12 hN10)
  have HT := Lib.hid ht; clear ht
  have HST := Lib.hid hst; clear hst
  obtain ⟨cs, q1, q2, q3, q4, q5, q6, q7, q8⟩ := hw
  have hc3 := (cell_at q1 3).trans q5
  clear q1 q2 q3 q4 q5 q6 q7 q8
  have HC3 := Lib.hid hc3
  have hpw := lt_of_cell hc3
  dsimp only at hpw
  go_enter Tryz.func37, Tryz.ntmps37
  go_wp2_with fail
  refine HO.out.mono ?_
  rintro e w1 ⟨cs, rfl, hsz, hce, hx⟩
  have HSz := Lib.hid hsz; clear hsz
  have HCE := Lib.hid hce; clear hce
  have HX := Lib.hid hx
  have hinf : (Tryz.prog.info? 88).map (·.size) = some cs.size := by rw [HSz.out]; kernel_rfl
  have HInf := Lib.hid hinf; clear hinf
  have HOne := Lib.hid (mrk_one HSz.out HCE.out)
  have hzs : Tryz.zeroCells88.size = cs.size := by rw [HSz.out]; kernel_rfl
  have HZs := Lib.hid hzs; clear hzs
  have hc3' := hx.cell hc3
  have hpw1 := lt_of_cell hc3'
  dsimp only at hpw1
  clear hx
  have hN0 := World.alloc_heap_new w1 (.cells Tryz.zeroCells88 88)
  have HN0 := Lib.hid hN0; clear hN0
  have e3 : Ext w1 ((w1.alloc (.cells Tryz.zeroCells88 88)).setRow w1.heap.size cs) := ((Ext.refl w1).alloc _).setRow (Nat.le_refl _) cs
  have hcs3 := e3.cell hc3'
  have hrow3 : ((w1.alloc (.cells Tryz.zeroCells88 88)).setRow w1.heap.size cs).heap[w1.heap.size]? = some (.cells cs 88 (0, 0)) := setRow_heap _ _ _ _ _ _ HN0.out
  have hM3 : Mrk ((w1.alloc (.cells Tryz.zeroCells88 88)).setRow w1.heap.size cs) w1.heap.size (openK L t.P t.legs.l.length t.legs.l.length) := ⟨cs, hrow3, HSz.out, HCE.out⟩
  have E3 := Lib.hid (HX.out.trans e3); clear e3 hrow3
  have HM3 := Lib.hid hM3; clear hM3
  go_wp2_with (first
    | (refine wpList_store_row rfl 88 (.tmp 3) (.tmp 5) rfl w1.heap.size cs rfl rfl 88 Tryz.zeroCells88 HN0.out HInf.out HZs.out HOne.out ?_; generalize (w1.alloc (.cells Tryz.zeroCells88 88)).setRow w1.heap.size cs = W3 at *)
    | (go_at_call 83; refine (containsFunc_any 84 _ (fun x => x < 12) (fun x => openK L t.P t.legs.l.length t.legs.l.length 0 x) _ _ _ t.starts.l _ enters_84 rfl (HT.out.ext E3.out) (fun x hx w' hw' => ?_) (fun x hx => Nat.lt_of_lt_of_le (HST.out x hx) hP12)).mono ?_))
  · refine (hasLine1_any x w1.heap.size _ w' (HM3.out.ext hw') hx).mono ?_
    rintro e w'' ⟨rfl, rfl⟩
    exact ⟨rfl, Ext.refl _⟩
  · rintro e w4 ⟨rfl, hx4⟩
    have HX4 := Lib.hid (E3.out.trans hx4); clear hx4
    have hb : (t.starts.l.any fun x => openK L t.P t.legs.l.length t.legs.l.length 0 x) = hasB t L := rfl
    rw [hb]
    clear hb
    generalize hr : hasB t L = r
    have HR := Lib.hid hr; clear hr
    go_wp2
    go_ret
    exact ⟨by rw [HR.out]; rfl, HX4.out⟩
end Go.Proofs.YtopjjcgmcieboaaGreatDoor
