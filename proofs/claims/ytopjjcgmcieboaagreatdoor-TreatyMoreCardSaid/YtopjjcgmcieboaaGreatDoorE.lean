/-
  Check of package treaty answers that all is well for a treaty that is valid, and turns nothing that was there. The treaty must lie in memory as told, and be valid.
-/
import Derived.Test.YtopjjcgmcieboaaGreatDoorD
import Derived.Deep.DeepCutAuto
import Derived.Deep.RegionHeld3
import Derived.Laws.EntriesVeiled
namespace Go.Proofs.YtopjjcgmcieboaaGreatDoor
open Go.RowKit

theorem ok_kinds {t : TV} (hk : OkT t) : (t.words.l.all fun s => s.l.all fun m => m.k.l.all (lessB 8)) = true := by
  simp only [List.all_eq_true]
  intro s hs m hm k hk'
  have := (hk.kinds s hs m hm).1 k hk'
  simp [lessB]; omega
theorem ok_ends {t : TV} (hk : OkT t) : (t.words.l.all fun s => s.l.all fun m => m.e.l.all (lessB (t.P : Int))) = true := by
  simp only [List.all_eq_true]
  intro s hs m hm k hk'
  have := (hk.ends s hs m hm).1 k hk'
  simp [lessB]; omega
theorem ok_starts {t : TV} (hk : OkT t) : (t.starts.l.all (lessB (t.P : Int))) = true := by
  simp only [List.all_eq_true]
  intro k hk'
  have := hk.start.1 k hk'
  simp [lessB]; omega
theorem enters_63 : Enters Tryz.prog 63 := fun args w => Proofs.enters_of Tryz.func63 (by kernel_rfl) rfl args w
theorem enters_65 : Enters Tryz.prog 65 := fun args w => Proofs.enters_of Tryz.func65 (by kernel_rfl) rfl args w
theorem enters_67 : Enters Tryz.prog 67 := fun args w => Proofs.enters_of Tryz.func67 (by kernel_rfl) rfl args w
theorem enters_68 : Enters Tryz.prog 68 := fun args w => Proofs.enters_of Tryz.func68 (by kernel_rfl) rfl args w

set_option maxRecDepth 100000 in
set_option maxHeartbeats 10000000 in
theorem check_ok (t : TV) (w : World) (ht : IsT w t) (hk : OkT t) :
    Calls Tryz.prog 31 #[t.v] w fun e w' => e = .returned (.int .i64 0) ∧ Ext w w' := by
  have HT := Lib.hid ht
  have HK := Lib.hid hk
  obtain ⟨h1, h2, h3⟩ := ht.ways
  have H3 := Lib.hid h3; clear h3 ht hk
  obtain ⟨P, ⟨a, c, l⟩, words, starts, legs⟩ := t
  dsimp only [TV.v] at *
  have HP := Lib.hid HK.out.p2
  have HW := Lib.hid HK.out.way
  go_enter Tryz.func31, Tryz.ntmps31
  go_wp2_with fail
  refine (allowed_ok _ _ (HT.out.ext ((Ext.refl w).alloc _)) HK.out).mono ?_
  rintro e w1 ⟨rfl, hx1⟩
  have hb1 := hx1.laid
  have hlt1 : w.heap.size < w1.heap.size := (Array.getElem?_eq_some_iff.1 hb1).1
  have hc1 : ∀ i, w1.cell? ⟨w.heap.size, i, none⟩ = _ := cell_at hb1
  have HB1 := Lib.hid hb1; clear hb1
  have E1 := Lib.hid hx1.unlaid; clear hx1
  go_wp2
  clear hc1
  go_loopw [15] (fun i wr => ∃ k : Nat, k ≤ l.length ∧ i = .int .i64 k ∧ Ext w1 wr) (fun i _ => l.length - (intOf i).toNat)
  case atStart => exact ⟨0, Nat.zero_le _, rfl, Ext.refl _⟩
  case round =>
    obtain ⟨k, hk, rfl, hext⟩ := hrel
    have hbr := hext.block HB1.out
    have hltr : w.heap.size < wr.heap.size := (Array.getElem?_eq_some_iff.1 hbr).1
    have hcr : ∀ i, wr.cell? ⟨w.heap.size, i, none⟩ = _ := cell_at hbr
    have HBR := Lib.hid hbr; clear hbr
    have EX := Lib.hid (E1.out.trans hext)
    by_cases hlt : k < l.length
    · obtain ⟨b, off, rfl, hc⟩ := H3.out.resolve_left (by show ¬ l.length = 0; omega)
      have hcell0 : wr.cell? ⟨b, off + k * 3, none⟩ = some (.int .i64 (l[k].1 : Int)) := by have := EX.out.cell (hc k hlt 0 (by omega)); simpa [wayC] using this
      have hcell1 : wr.cell? ⟨b, off + k * 3 + 1, none⟩ = some (.int .i64 (l[k].2.1 : Int)) := by have := EX.out.cell (hc k hlt 1 (by omega)); simpa [wayC] using this
      have hcell2 : wr.cell? ⟨b, off + k * 3 + 2, none⟩ = some (.int .i64 (l[k].2.2 : Int)) := by have := EX.out.cell (hc k hlt 2 (by omega)); simpa [wayC] using this
      have hway := Lib.hid (HW.out l[k] (List.getElem_mem _))
      clear hc
      generalize l[k] = x at *
      have HX := Lib.hid hext; clear hext
      go_wp2_with fail
      refine (checkWay_ok ⟨P, ⟨some ⟨b, off, none⟩, c, l⟩, words, starts, legs⟩ x _ HP.out hway.out).mono ?_
      rintro e w2 ⟨rfl, hx2⟩
      have E2 := Lib.hid ((HX.out.alloc _).trans hx2); clear hx2
      go_wp2
      go_roundw
      case rel => exact ⟨k + 1, by omega, by go_num, E2.out⟩
      case measure => simp [intOf]; omega
    · clear hext
      go_upto_region 10 with (fail)
      go_cut [6, 7, 8, 26, 29, 33] (fun s6 s7 s8 s26 s29 s33 wx => ∃ b6 b7 b8 c6 c7 c8 : Nat, s6 = .pointer (some ⟨b6, 0, none⟩) ∧ s7 = .pointer (some ⟨b7, 0, none⟩) ∧ s8 = .pointer (some ⟨b8, 0, none⟩) ∧
        s26 = .func (.func 101) #[] #[.pointer (some ⟨c6, 0, none⟩)] ∧ s29 = .func (.func 101) #[] #[.pointer (some ⟨c7, 0, none⟩)] ∧ s33 = .func (.func 101) #[] #[.pointer (some ⟨c8, 0, none⟩)] ∧ Ext wr wx ∧
        wx.cell? ⟨b6, 0, none⟩ = some (.func (.func 101) #[] #[.pointer (some ⟨c6, 0, none⟩)]) ∧ wx.cell? ⟨c6, 0, none⟩ = some (.int .i64 8) ∧
        wx.cell? ⟨b7, 0, none⟩ = some (.func (.func 101) #[] #[.pointer (some ⟨c7, 0, none⟩)]) ∧ wx.cell? ⟨c7, 0, none⟩ = some (.int .i64 (P : Int)) ∧
        wx.cell? ⟨b8, 0, none⟩ = some (.func (.func 101) #[] #[.pointer (some ⟨c8, 0, none⟩)]) ∧ wx.cell? ⟨c8, 0, none⟩ = some (.int .i64 (words.l.length : Int)))
      case first =>
        have hca := hcr 0
        have hcb := hcr 2
        simp only [List.getElem?_toArray, List.getElem?_cons_succ, List.getElem?_cons_zero] at hca hcb
        clear hcr
        have KS : Hid (∀ w', Ext wr w' → w'.cell? ⟨w.heap.size, 0, none⟩ = some (.int .i64 (P : Int)) ∧ w'.cell? ⟨w.heap.size, 2, none⟩ = some (.slice words.a words.l.length words.c)) := fun w' h => ⟨h.cell hca, h.cell hcb⟩
        go_region_held3 (fun w' => w'.cell? ⟨w.heap.size, 0, none⟩ = some (.int .i64 (P : Int)) ∧ w'.cell? ⟨w.heap.size, 2, none⟩ = some (.slice words.a words.l.length words.c)) ((refine KS.out _ ?_; repeat (first | exact Ext.refl _ | refine Ext.drew ?_ | refine Ext.alloc ?_ _ | refine Ext.setCell ?_ (by simp; omega) _)))
          (first
            | (go_at_call 61; refine (under_any _ _).mono ?_; rintro e w' ⟨rfl, rfl⟩))
        all_goals
          go_wp2_with fail
          go_meet
          refine ⟨_, _, _, _, _, _, rfl, rfl, rfl, rfl, rfl, rfl, ?_, ?_, ?_, ?_, ?_, ?_, ?_⟩
          · repeat (first | exact Ext.refl _ | refine Ext.drew ?_ | refine Ext.alloc ?_ _ | refine Ext.setCell ?_ (by simp; omega) _)
          all_goals go_simp
      case rest =>
        obtain ⟨b6, b7, b8, c6, c7, c8, rfl, rfl, rfl, rfl, rfl, rfl, hext2, hb6, hc6, hb7, hc7, hb8, hc8⟩ := hcut
        have EQ := Lib.hid (hext2.block HBR.out)
        have EC := Lib.hid (EX.out.trans hext2); clear hext2
        have HC6 := Lib.hid hc6
        have HC7 := Lib.hid hc7
        have HC8 := Lib.hid hc8
        have HB6 := Lib.hid hb6
        have HB7 := Lib.hid hb7
        have HB8 := Lib.hid hb8
        clear hc6 hc7 hc8 hb6 hb7 hb8 hcr
        have hcx := cell_at EQ.out
        have KR : Hid (∀ w', Ext wc w' → ∀ i, w'.cell? ⟨w.heap.size, i, none⟩ = #[Value.int IntKind.i64 (P : Int), Value.slice a l.length c, Value.slice words.a words.l.length words.c, Value.slice starts.a starts.l.length starts.c, Value.slice legs.a legs.l.length legs.c][i]?) := fun w' h' => cell_at (h'.block (EQ.out))
        go_wp2_with fail
        refine (everyMeaning_any 63 _ (IsMean wc) (fun m => m.k.l.all (lessB 8)) ⟨P, ⟨a, c, l⟩, words, starts, legs⟩ wc enters_63 (HT.out.ext EC.out) (fun s hs m hm => ((HT.out.word s hs).2 m hm).ext EC.out) ?_).mono ?_
        · intro m hm w' hw
          exact check1_any m 8 (by omega) b6 c6 w' (hm.ext hw) (hw.cell HB6.out) (hw.cell HC6.out)
        rintro e w2 ⟨rfl, e2⟩
        rw [ok_kinds HK.out]
        have E2 := Lib.hid e2; clear e2
        have hcx := KR.out w2 E2.out
        go_wp2_with fail
        refine (everyMeaning_any 65 _ (IsMean wc) (fun m => m.e.l.all (lessB (P : Int))) ⟨P, ⟨a, c, l⟩, words, starts, legs⟩ w2 enters_65 (HT.out.ext (EC.out.trans E2.out)) (fun s hs m hm => ((HT.out.word s hs).2 m hm).ext EC.out) ?_).mono ?_
        · intro m hm w' hw
          have h0 := E2.out.trans hw
          exact check2_any m (P : Int) (by have := HP.out; omega) b7 c7 w' (hm.ext h0) (h0.cell HB7.out) (h0.cell HC7.out)
        rintro e w3 ⟨rfl, e3⟩
        rw [ok_ends HK.out]
        have E3 := Lib.hid (E2.out.trans e3); clear e3
        clear hcx
        have hcx := KR.out w3 E3.out
        have hb7 := E3.out.cell HB7.out
        go_wp2_with fail
        refine (isAll_ok (P : Int) (by have := HP.out; omega) c7 w3 (E3.out.cell HC7.out) _ _ _ starts.l rfl (HT.out.starts.ext (EC.out.trans E3.out))).mono ?_
        rintro e w4 ⟨rfl, e4⟩
        rw [ok_starts HK.out]
        have E4 := Lib.hid (E3.out.trans e4); clear e4
        clear hcx hb7
        have hcx := KR.out w4 E4.out
        go_wp2_with fail
        refine (every_leg 67 _ (fun g => g ∈ legs.l) (fun _ => true) _ _ _ legs.l w4 enters_67 rfl (HT.out.legs.ext (EC.out.trans E4.out)) (fun g hg => hg) ?_).mono ?_
        · intro g hg w' hw
          have h0 := E4.out.trans hw
          have hgg := HK.out.leg g hg
          exact check3_ok g (words.l.length : Int) (by have := HK.out.words; dsimp only at this; omega) b8 c8 w' (h0.cell HB8.out) (h0.cell HC8.out) (by have := hgg.1; dsimp only at this; omega) hgg.2
        rintro e w5 ⟨rfl, e5⟩
        rw [show (legs.l.all fun _ => true) = true by simp]
        have E5 := Lib.hid (E4.out.trans e5); clear e5
        clear hcx
        have hcx := KR.out w5 E5.out
        go_wp2_with fail
        refine (everyMeaning_any 68 #[] (fun m => IsMean wc m ∧ m.k.l.Pairwise (· < ·) ∧ m.e.l.Pairwise (· < ·)) (fun _ => true) ⟨P, ⟨a, c, l⟩, words, starts, legs⟩ w5 enters_68 (HT.out.ext (EC.out.trans E5.out)) (fun s hs m hm => ⟨((HT.out.word s hs).2 m hm).ext EC.out, (HK.out.kinds s hs m hm).2, (HK.out.ends s hs m hm).2⟩) ?_).mono ?_
        · rintro m ⟨hm, hm1, hm2⟩ w' hw
          exact check4_ok m w' (hm.ext (E5.out.trans hw)) hm1 hm2
        rintro e w6 ⟨rfl, e6⟩
        rw [show ((TV.words ⟨P, ⟨a, c, l⟩, words, starts, legs⟩).l.all fun s => s.l.all fun _ => true) = true by simp]
        have E6 := Lib.hid (E5.out.trans e6); clear e6
        clear hcx
        have hcx := KR.out w6 E6.out
        go_wp2_with fail
        refine (increasing_ok _ _ _ starts.l w6 rfl (HT.out.starts.ext (EC.out.trans E6.out)) HK.out.start.2).mono ?_
        rintro e w7 ⟨rfl, e7⟩
        have E7 := Lib.hid (E6.out.trans e7); clear e7
        clear hcx
        have hcx := KR.out w7 E7.out
        go_wp2_with fail
        refine (countReadings_ok ⟨P, ⟨a, c, l⟩, words, starts, legs⟩ w7 (HT.out.ext (EC.out.trans E7.out)) HK.out).mono ?_
        rintro e w8 ⟨rfl, e8⟩
        have E8 := Lib.hid (E7.out.trans e8); clear e8
        have hm : prodTo words.l words.l.length ≤ 256 := by
          have := HK.out.many; dsimp only at this; unfold prodTo; rwa [List.take_of_length_le (Nat.le_refl _)]
        generalize prodTo words.l words.l.length = q at *
        have hm2 : ¬ ((256 : Int) < (q : Int)) := by omega
        go_wp2
        go_ret
        exact ⟨rfl, EC.out.trans E8.out⟩
end Go.Proofs.YtopjjcgmcieboaaGreatDoor
