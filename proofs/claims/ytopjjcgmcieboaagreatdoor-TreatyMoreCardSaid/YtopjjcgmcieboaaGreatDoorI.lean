/-
  slices.DeleteFunc at a list of numbers in memory of the call's own returns the numbers at which a function value does not answer true, in their order, in the same memory; nothing that was there before is turned. The function value must answer whatever that memory holds.
-/
import Derived.Test.YtopjjcgmcieboaaGreatDoorH
namespace Go.Proofs.YtopjjcgmcieboaaGreatDoor
open Go.RowKit

/-- The function value answers p in each world that is as w was below block number B. -/
def AsksB (B : Nat) (P : Program) (g : Nat) (cap : Array Value) (p : Nat → Bool) (w : World) : Prop :=
  ∀ (x : Nat) (w' : World), Below B w w' → Calls P g (#[.int .i64 (x : Int)] ++ cap) w' fun e w'' => e = .returned (.bool (p x)) ∧ Ext w' w''

theorem filter_take_succ (p : Nat → Bool) (l : List Nat) (j : Nat) (h : j < l.length) : (l.take (j + 1)).filter p = (l.take j).filter p ++ (if p l[j] then [l[j]] else []) := by
  rw [List.take_succ_eq_append_getElem h, List.filter_append]
  congr 1
  cases hp : p l[j] <;> simp [hp]

theorem filter_of_all {p : Nat → Bool} {l : List Nat} (h : l.all p = true) : l.filter p = l := by
  rw [List.filter_eq_self]; simpa using h

/-- What the loop of DeleteFunc holds. -/
def Kept (p : Nat → Bool) (l L : List Nat) (i j : Nat) : Prop := L.length = l.length ∧ L.take i = (l.take j).filter p ∧ L.drop j = l.drop j ∧ i < j ∧ j ≤ l.length

theorem Kept.get {p : Nat → Bool} {l L : List Nat} {i j : Nat} (h : Kept p l L i j) (hj : j < l.length) : L[j]'(by rw [h.1]; exact hj) = l[j] := by
  have h1 : (L.drop j)[0]'(by rw [List.length_drop, h.1]; omega) = (l.drop j)[0]'(by rw [List.length_drop]; omega) := by
    have := h.2.2.1; simp [this]
  simpa using h1
theorem Kept.skip {p : Nat → Bool} {l L : List Nat} {i j : Nat} (h : Kept p l L i j) (hj : j < l.length) (hp : p l[j] = false) : Kept p l L i (j + 1) := by
  obtain ⟨h1, h2, h3, h4, h5⟩ := h
  refine ⟨h1, ?_, ?_, by omega, by omega⟩
  · rw [filter_take_succ _ _ _ hj, hp, h2]; simp
  · rw [← List.drop_drop, ← List.drop_drop, h3]
theorem Kept.keep {p : Nat → Bool} {l L : List Nat} {i j : Nat} (h : Kept p l L i j) (hj : j < l.length) (hp : p l[j] = true) : Kept p l (L.set i l[j]) (i + 1) (j + 1) := by
  obtain ⟨h1, h2, h3, h4, h5⟩ := h
  refine ⟨by simpa using h1, ?_, ?_, by omega, by omega⟩
  · rw [filter_take_succ _ _ _ hj, hp, ← h2, if_pos rfl, List.take_succ_eq_append_getElem (by rw [List.length_set]; omega), List.take_set_of_le (by omega)]
    simp
  · rw [List.drop_set_of_lt (by omega), ← List.drop_drop, ← List.drop_drop, h3]

theorem zeroValue3 (w : World) : (zeroValue 3).run Tryz.prog w = .ok (.int .i64 0) w := by kernel_rfl

set_option maxHeartbeats 1000000 in
theorem deleteFunc_any (gf : Nat) (cap : Array Value) (p : Nat → Bool) (base g n c : Nat) (l : List Nat) (w : World) (hE : Enters Tryz.prog gf) (hn : l.length = n) (hrow : Row w g l c) (hb : base ≤ g)
    (hl : l.length ≤ 1000000) (hcm : c ≤ maxLen) (hp : AsksB base Tryz.prog gf cap p w) :
    Calls Tryz.prog 132 #[.slice (some ⟨g, 0, none⟩) n c, .func (.func gf) #[] cap] w fun e w' =>
      e = .returned (.slice (some ⟨g, 0, none⟩) (l.filter fun x => !p x).length c) ∧ Row w' g (l.filter fun x => !p x) c ∧ Below base w w' := by
  subst hn
  have hgl := hrow.lt
  have hbw : base ≤ w.heap.size := by omega
  have hle := hrow.le
  have hv : IsSl 1 num w ⟨some ⟨g, 0, none⟩, c, l⟩ := ⟨hle, hl, .inr ⟨g, 0, rfl, fun i hi j hj => by
    have hj0 : j = 0 := by omega
    subst hj0
    have := hrow.cell i hi
    simpa [num] using this⟩⟩
  have HIF := Lib.hid (indexFunc_any gf cap p _ _ c l w hE rfl hv (fun x _ w' hw => hp x w' (Below.mono hw hbw)))
  have HR := Lib.hid hrow; clear hrow hv
  have HP := Lib.hid hp; clear hp
  have HE : ∀ args w, (callFunc gf args).run Tryz.prog w = .ok (.enter gf args) w := hE; clear hE
  have hcm' : c ≤ 9223372036854775807 := by unfold maxLen at hcm; omega
  go_enter Tryz.func132, Tryz.ntmps132
  go_wp2_with fail
  refine HIF.out.mono ?_
  rintro e w1 ⟨⟨r, rfl, hr⟩, hx1⟩
  rcases hr with ⟨rfl, hall⟩ | ⟨i, hi, rfl, hpi, hall⟩
  · have HA := Lib.hid hall; clear hall
    have HX := Lib.hid hx1; clear hx1
    go_wp2
    go_ret
    rw [filter_of_all HA.out]
    exact ⟨rfl, HR.out.ext HX.out, Below.mono HX.out hbw⟩
  · have HA := Lib.hid hall; clear hall
    have HPI := Lib.hid hpi; clear hpi
    have HX := Lib.hid hx1; clear hx1
    have hne : ((i : Int) == -1) = false := by rw [beq_eq_false_iff_ne]; omega
    have HK0 : Hid (Kept (fun x => !p x) l l i (i + 1)) := by
      refine ⟨rfl, ?_, rfl, by omega, by omega⟩
      rw [filter_take_succ _ _ _ hi, HPI.out, filter_of_all HA.out]; simp
    go_wp2
    go_loopw [5, 6, 7] (fun s5 s6 _ wr => ∃ (i j : Nat) (L : List Nat), s5 = .int .i64 i ∧ s6 = .int .i64 j ∧ Hid (Kept (fun x => !p x) l L i j) ∧ Hid (Row wr g L c) ∧ Hid (Below base w wr)) (fun _ s6 _ _ => l.length - (intOf s6).toNat)
    case atStart => exact ⟨i, i + 1, l, rfl, by go_num, HK0, HR.out.ext HX.out, Below.mono HX.out hbw⟩
    case round =>
      obtain ⟨i, j, L, rfl, rfl, HK, HRr, HB⟩ := hrel
      have hLl := HK.out.1
      have hij := HK.out.2.2.2.1
      have hjl := HK.out.2.2.2.2
      by_cases hlt : j < l.length
      · have hcj := HRr.out.cell j (by omega)
        rw [HK.out.get hlt] at hcj
        generalize hy : l[j] = y at hcj
        have Hy := Lib.hid hy; clear hy
        have HL := Lib.hid hLl; clear hLl
        have hi0 : (0 : Int) ≤ (i : Int) := by omega
        have hic : (i : Int) < (l.length : Int) := by omega
        go_wp2_with fail
        refine (HP.out y wr HB.out).mono ?_
        rintro e w2 ⟨rfl, hx2⟩
        have HX2 := Lib.hid hx2; clear hx2
        have HB2 : Hid (Below base w w2) := HB.out.trans (Below.mono HX2.out (Nat.le_trans hbw HB.out.size))
        have HR2 := Lib.hid (HRr.out.ext HX2.out)
        cases hpx : p y
        · have Hpx := Lib.hid hpx; clear hpx
          have hci := HR2.out.cell i (by rw [HL.out]; omega)
          have hfi := HR2.out.frozen i
          generalize L[i]'(by rw [HL.out]; omega) = z at hci
          go_wp2
          go_roundw
          case rel => exact ⟨i + 1, j + 1, L.set i y, by go_num, by go_num, by have := HK.out.keep hlt (by rw [Hy.out, Hpx.out]; rfl); rwa [Hy.out] at this, HR2.out.set i y (by rw [HL.out]; omega), HB2.out.setCell (p := ⟨g, i, none⟩) hb _⟩
          case measure => simp [intOf]; omega
        · have Hpx := Lib.hid hpx; clear hpx
          go_wp2
          go_roundw
          case rel => exact ⟨i, j + 1, L, rfl, by go_num, HK.out.skip hlt (by rw [Hy.out, Hpx.out]; rfl), HR2, HB2⟩
          case measure => simp [intOf]; omega
      · obtain rfl : j = l.length := by omega
        have hcl : ∀ ty, (Builtin.clear_ #[25] ty #[.slice (some ⟨g, i, none⟩) (l.length - i) (c - i)]).run Tryz.prog wr = .ok (.tuple #[]) (wr.setCells g i (List.replicate (l.length - i) (.int .i64 0))) :=
          fun ty => Lib.run_clear_slice wr 25 3 ty (.int .i64 0) Tryz.underlying25 zeroValue3 rfl rfl g i _ _ (by omega) (fun t ht => by rw [HRr.out.cell (i + t) (by omega)]; rfl) (fun t ht => HRr.out.frozen _)
        have HL := Lib.hid hLl; clear hLl
        have hi0 : (0 : Int) ≤ (i : Int) := by omega
        have hic : (i : Int) ≤ (l.length : Int) := by omega
        go_wp2
        go_ret
        have hm : (l.filter fun x => !p x) = L.take i := by have := HK.out.2.1; rw [List.take_length] at this; exact this.symm
        have hml : (l.filter fun x => !p x).length = i := by rw [hm, List.length_take, HL.out]; omega
        have hrow := (HRr.out.take i).cells_past (List.replicate (l.length - i) (.int .i64 0)) (o := i) (by rw [List.length_take]; omega)
        rw [hml, hm]
        exact ⟨rfl, hrow, below_setCells HB.out hb _ _⟩

end Go.Proofs.YtopjjcgmcieboaaGreatDoor
