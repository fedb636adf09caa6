/-
  floors of package treaty returns the table of floors in new memory, and turns nothing that was there. The treaty at work must lie in memory as told and be valid.
-/
import Derived.Test.YtopjjcgmcieboaaGreatDoorFa
import Derived.StillTailTactics
namespace Go.Proofs.YtopjjcgmcieboaaGreatDoor
open Go.RowKit

set_option maxRecDepth 100000 in
set_option maxHeartbeats 4000000 in
theorem floors_any (p : Nat) (t : TV) (L : Nat → Nat → Nat → Bool) (w : World) (hw : IsWork w p t L) (ht : IsSl 1 num w t.starts) (hk : OkT t) :
    Calls Tryz.prog 51 #[.pointer (some ⟨p, 0, none⟩)] w fun e w' => ∃ (B : Nat) (rows : List RW), e = .returned (.slice (some ⟨B, 0, none⟩) (t.legs.l.length + 1) (t.legs.l.length + 1)) ∧ Tbl w' w.heap.size B (t.legs.l.length + 1) rows ∧ rows.map (fun r => r.l) = flrT L t.P t.starts.l t.legs.l.length ∧ Ext w w' := by
  have HW := Lib.hid hw
  obtain ⟨cs, q1, q2, q3, q4, q5, q6, q7, q8⟩ := hw
  have hc0 := (cell_at q1 0).trans q2
  have hc3 := (cell_at q1 3).trans q5
  have hc4 := (cell_at q1 4).trans q6
  clear q1 q2 q3 q4 q5 q6 q7 q8
  have hpw := lt_of_cell hc0
  dsimp only at hpw
  have hN := hk.legs
  have hP1 := hk.p1
  have hP2 := hk.p2
  have hS : ∀ s ∈ t.starts.l, s < t.P := hk.start.1
  have HS := Lib.hid hS; clear hS hk
  obtain ⟨s1, s2, s3⟩ := ht
  have HS3 := Lib.hid s3; clear s3
  have HCW : Hid (w.cell? ⟨p, 0, none⟩ = some (.int .i64 (t.P : Int)) ∧ w.cell? ⟨p, 3, none⟩ = some (.slice t.starts.a t.starts.l.length t.starts.c) ∧ w.cell? ⟨p, 4, none⟩ = some (.slice t.legs.a t.legs.l.length t.legs.c)) := ⟨hc0, hc3, hc4⟩
  generalize hNN : t.legs.l.length = N at *
  have hmk := run_make_row' (P := Tryz.prog) 32 25 (.slice none 0 0) 24 Tryz.underlying32 info25 rfl .i64 .i64 (N + 1) (by omega) (by omega)
  rw [show (((N + 1 : Nat)) : Int) = (N : Int) + 1 by omega] at hmk
  have hmsz := size_madeCells #[Value.slice none 0 0] (N + 1)
  have hwrap : IntKind.i64.wrap ((N : Int) + 1) = ((N + 1 : Nat) : Int) := by rw [IntWalk.i64_in _ (by omega)]; omega
  generalize madeCells #[Value.slice none 0 0] (N + 1) = mc at *
  have HMsz := Lib.hid hmsz; clear hmsz
  go_enter Tryz.func51, Tryz.ntmps51
  go_wp2_with fail
  clear hmk
  have hb2 : ((w.alloc (.cells mc 25)).alloc (.cells #[.int .i64 11] 3)).heap[(w.alloc (.cells mc 25)).heap.size]? = some (.cells #[.int .i64 11] 3) := World.alloc_heap_new _ _
  rw [World.size_alloc] at hb2
  have HT2 : Hid (Tbl ((w.alloc (.cells mc 25)).alloc (.cells #[.int .i64 11] 3)) w.heap.size w.heap.size (N + 1) []) := tbl_nil (((Ext.refl _).alloc _).block (World.alloc_heap_new w _)) (by rw [HMsz.out]; simp) (Nat.le_refl _)
  have HX2 : Hid (Ext w ((w.alloc (.cells mc 25)).alloc (.cells #[.int .i64 11] 3))) := ((Ext.refl w).alloc _).alloc _
  have hsz2 : ((w.alloc (.cells mc 25)).alloc (.cells #[.int .i64 11] 3)).heap.size = w.heap.size + 2 := by simp [World.size_alloc]
  generalize (w.alloc (.cells mc 25)).alloc (.cells #[.int .i64 11] 3) = w2 at *
  refine (rep_any t.P (w.heap.size + 1) w2 hP1 hP2 (by rw [cell_at hb2]; rfl)).mono ?_
  rintro e w3 ⟨rfl, hr3, hx3⟩
  clear hb2
  have HT3 : Hid (Tbl w3 w.heap.size w.heap.size (N + 1) []) := HT2.out.ext hx3
  have HX3 : Hid (Ext w w3) := HX2.out.trans hx3
  have HR3 := Lib.hid hr3; clear hr3 hx3 HT2 HX2
  have hB3 := HT3.out.hd.lt
  obtain ⟨v3, g3⟩ := HT3.out.hd.some 0 (by omega)
  have f3 := HT3.out.hd.frozen 0
  have c3 := HX3.out.cell HCW.out.2.1
  have HT4 : Hid (Tbl (w3.setCell ⟨w.heap.size, 0, none⟩ (.slice (some ⟨w.heap.size + 2, 0, none⟩) t.P t.P)) w.heap.size w.heap.size (N + 1) [⟨w.heap.size + 2, startL t.P t.starts.l 0, t.P⟩]) := by
    show Tbl _ _ _ _ _
    have := HT3.out.put ⟨w.heap.size + 2, startL t.P t.starts.l 0, t.P⟩ (by rw [startL_zero]; have := HR3.out; rwa [hsz2] at this) (by show w.heap.size ≤ w.heap.size + 2; omega) (by show w.heap.size + 2 ≠ w.heap.size; omega) (by simp) (by simp)
    simpa [RW.v, startL_length] using this
  have HX4 : Hid (Ext w (w3.setCell ⟨w.heap.size, 0, none⟩ (.slice (some ⟨w.heap.size + 2, 0, none⟩) t.P t.P))) := HX3.out.setCell (Nat.le_refl _) _
  have hpn : ¬ w.heap.size = p := by omega
  have hpn2 : ¬ p = w.heap.size := by omega
  go_wp2_with fail
  clear c3 g3 f3 hB3 HT3 HX3 HR3
  generalize w3.setCell ⟨w.heap.size, 0, none⟩ (.slice (some ⟨w.heap.size + 2, 0, none⟩) t.P t.P) = w4 at *
  go_loopw [36] (fun i wr => ∃ k : Nat, k ≤ t.starts.l.length ∧ i = .int .i64 k ∧ Hid (Tbl wr w.heap.size w.heap.size (N + 1) [⟨w.heap.size + 2, startL t.P t.starts.l k, t.P⟩]) ∧ Hid (Ext w wr)) (fun i _ => t.starts.l.length - (intOf i).toNat)
  case atStart => exact ⟨0, Nat.zero_le _, rfl, HT4, HX4⟩
  case round =>
    clear HT4 HX4
    obtain ⟨wo, rfl⟩ : ∃ wo : World, wo = wr := ⟨_, rfl⟩
    obtain ⟨k, hk, rfl, HT, HX⟩ := hrel
    by_cases hlt : k < t.starts.l.length
    · have dk : decide ((k : Int) < (t.starts.l.length : Int)) = true := by simpa using hlt
      obtain ⟨b, off, hsa, hc⟩ := HS3.out.resolve_left (by show ¬ t.starts.l.length = 0; omega)
      have c0 : wo.cell? ⟨b, off + k, none⟩ = some (.int .i64 (t.starts.l[k] : Int)) := by have := HX.out.cell (hc k hlt 0 (by omega)); simpa [num] using this
      have hs := HS.out _ (List.getElem_mem hlt)
      have h0 : wo.cell? ⟨w.heap.size, 0, none⟩ = some (.slice (some ⟨w.heap.size + 2, 0, none⟩) t.P t.P) := by have := HT.out.hd.cell 0 (by simp); simpa [RW.v, startL_length] using this
      have hr := (HT.out.row _ (List.mem_singleton_self _)).1
      obtain ⟨v1, h1⟩ : ∃ v1, wo.cell? ⟨w.heap.size + 2, t.starts.l[k], none⟩ = some v1 := ⟨_, hr.cell t.starts.l[k] (by rw [startL_length]; exact hs)⟩
      have f1 := hr.frozen t.starts.l[k]
      have HT' : Hid (Tbl (wo.setCell ⟨w.heap.size + 2, t.starts.l[k], none⟩ (.int .i64 0)) w.heap.size w.heap.size (N + 1) [⟨w.heap.size + 2, startL t.P t.starts.l (k + 1), t.P⟩]) := by
        show Tbl _ _ _ _ _
        have := HT.out.set 0 t.starts.l[k] 0 (by simp) (by simp [startL_length]; exact hs)
        simpa [startL_succ] using this
      clear hr hc
      generalize t.starts.l[k] = s at *
      have i0 : (0 : Int) ≤ s := by omega
      have i1 : (s : Int) < t.P := by omega
      have i2 : (0 : Int) < (N : Int) + 1 := by omega
      rw [hsa]
      go_wp2
      go_roundw
      case rel => exact ⟨k + 1, by omega, by go_num, HT', HX.out.setCell (by show w.heap.size ≤ w.heap.size + 2; omega) _⟩
      case measure => simp [intOf]; omega
    · have hke : k = t.starts.l.length := by omega
      subst hke
      have c4 := HX.out.cell HCW.out.2.2
      go_wp2_with fail
      clear c4
      have HT0 : Hid (∃ rows : List RW, Tbl wo w.heap.size w.heap.size (N + 1) rows ∧ rows.map (fun r => r.l) = flrT L t.P t.starts.l 0) := by
        refine ⟨_, HT.out, ?_⟩
        simp [startL_all L, flrT]
      clear HT
      go_loopw [52] (fun i wr => ∃ (k : Nat), k ≤ N ∧ i = .int .i64 k ∧ Hid (∃ rows : List RW, Tbl wr w.heap.size w.heap.size (N + 1) rows ∧ rows.map (fun r => r.l) = flrT L t.P t.starts.l k) ∧ Hid (Ext w wr)) (fun i _ => N - (intOf i).toNat)
      case atStart => exact ⟨0, Nat.zero_le _, rfl, HT0, HX⟩
      case round =>
        clear HT0 HX
        obtain ⟨wx, rfl⟩ : ∃ wx : World, wx = wr := ⟨_, rfl⟩
        obtain ⟨k, hk, rfl, HT, HX⟩ := hrel
        obtain ⟨rows, hT, hrl⟩ := HT.out
        have HRl := Lib.hid hrl
        have HTT := Lib.hid hT; clear hT HT
        have hrn := rows_len hrl
        by_cases hlt2 : k < N
        · have dk : decide ((k : Int) < (N : Int)) = true := by simpa using hlt2
          have c0 := HX.out.cell HCW.out.1
          have hrk := rows_get hrl k (by omega)
          have hbx := HTT.out.hd.lt
          have HBs : Hid (∀ r ∈ rows, r.b < wx.heap.size) := fun r hr => HTT.out.lt r hr
          clear hrl
          have hwk : IntKind.i64.wrap ((k : Int) + 1) = (k : Int) + 1 := IntWalk.i64_in _ (by omega)
          have hp3 : p < wx.heap.size := by have := lt_of_cell c0; exact this
          go_wp2_with fail
          have hb5 : (wx.alloc (.cells #[.int .i64 11] 3)).heap[wx.heap.size]? = some (.cells #[.int .i64 11] 3) := World.alloc_heap_new _ _
          refine (rep_any t.P wx.heap.size (wx.alloc (.cells #[.int .i64 11] 3)) hP1 hP2 (by rw [cell_at hb5]; rfl)).mono ?_
          rintro e w5 ⟨rfl, hr5, hx5⟩
          rw [World.size_alloc] at hr5 ⊢
          have HT5 : Hid (Tbl w5 w.heap.size w.heap.size (N + 1) rows) := HTT.out.ext (((Ext.refl _).alloc _).trans hx5)
          have HX5 : Hid (Ext w w5) := (HX.out.alloc _).trans hx5
          have HR5 := Lib.hid hr5; clear hr5 hx5 hb5 c0 HTT
          have hB5 := HT5.out.hd.lt
          obtain ⟨v5, g5⟩ := HT5.out.hd.some (k + 1) (by omega)
          have f5 := HT5.out.hd.frozen (k + 1)
          have HT6 : Hid (Tbl (w5.setCell ⟨w.heap.size, k + 1, none⟩ (.slice (some ⟨wx.heap.size + 1, 0, none⟩) t.P t.P)) w.heap.size w.heap.size (N + 1) (rows ++ [⟨wx.heap.size + 1, rowA L t.P t.starts.l k 0 0, t.P⟩])) := by
            show Tbl _ _ _ _ _
            have := HT5.out.put ⟨wx.heap.size + 1, rowA L t.P t.starts.l k 0 0, t.P⟩ (by rw [rowA_zero]; exact HR5.out) (by show w.heap.size ≤ wx.heap.size + 1; have := HX.out.size; omega) (by show wx.heap.size + 1 ≠ w.heap.size; omega) (by intro hm; obtain ⟨r, hr, e⟩ := List.mem_map.1 hm; have := HBs.out r hr; simp only at e; omega) (by omega)
            rw [hrn] at this
            simpa [RW.v, rowA_length] using this
          have HX6 : Hid (Ext w (w5.setCell ⟨w.heap.size, k + 1, none⟩ (.slice (some ⟨wx.heap.size + 1, 0, none⟩) t.P t.P))) := HX5.out.setCell (Nat.le_refl _) _
          have hd6 : (w5.setCell ⟨w.heap.size, k + 1, none⟩ (.slice (some ⟨wx.heap.size + 1, 0, none⟩) t.P t.P)).cell? ⟨w.heap.size, k, none⟩ = some (.slice (some ⟨rows[k].b, 0, none⟩) t.P rows[k].c) := by
            have := HT6.out.hd.cell k (by simp; omega)
            rw [List.getElem_append_left (by omega)] at this
            rw [this]; simp [RW.v, hrk]
          have k0 : (0 : Int) ≤ k := by omega
          have k1 : (k : Int) + 1 < (N : Int) + 1 := by omega
          have k2 : (0 : Int) ≤ (k : Int) + 1 := by omega
          have k3 : (k : Int) < (N : Int) + 1 := by omega
          go_wp2_with fail
          have HRk := Lib.hid hrk
          generalize hr0 : rows[k] = r0 at *
          have hr0m : r0 ∈ rows := hr0 ▸ List.getElem_mem _
          have HR0 : Hid (r0 ∈ rows ∧ rows.length = k + 1) := ⟨hr0m, hrn⟩
          clear hd6 g5 f5 HT5 HX5 HR5 hrk hr0 hr0m
          generalize w5.setCell ⟨w.heap.size, k + 1, none⟩ (.slice (some ⟨wx.heap.size + 1, 0, none⟩) t.P t.P) = w6 at *
          go_loopw [71] (fun i wr => ∃ f : Nat, f ≤ t.P ∧ i = .int .i64 f ∧ Hid (Tbl wr w.heap.size w.heap.size (N + 1) (rows ++ [⟨wx.heap.size + 1, rowA L t.P t.starts.l k f 0, t.P⟩])) ∧ Hid (Ext w wr)) (fun i _ => t.P - (intOf i).toNat)
          case atStart => exact ⟨0, Nat.zero_le _, rfl, HT6, HX6⟩
          case round =>
            clear HT6 HX6
            obtain ⟨wy, rfl⟩ : ∃ wy : World, wy = wr := ⟨_, rfl⟩
            obtain ⟨f, hf, rfl, HT, HX⟩ := hrel
            by_cases hltf : f < t.P
            · have df : decide ((f : Int) < (t.P : Int)) = true := by simpa using hltf
              have hfe : wy.cell? ⟨r0.b, f, none⟩ = some (.int .i64 (flr L t.P t.starts.l k f : Int)) := by
                have h := (HT.out.row r0 (List.mem_append_left _ HR0.out.1)).1.cell f (by rw [HRk.out]; simpa using hltf)
                rw [h]; simp [HRk.out]
              have hfl := flr_le L t.P t.starts.l k f
              have hc0' := HX.out.cell HCW.out.1
              have i0 : (0 : Int) ≤ f := by omega
              have i1 : (f : Int) < t.P := by omega
              generalize hq : flr L t.P t.starts.l k f = q at *
              have HQ := Lib.hid hq; clear hq
              go_wp2_with fail
              clear hfe hc0'
              go_loopw [81] (fun i wr => ∃ g : Nat, g ≤ t.P ∧ i = .int .i64 g ∧ Hid (Tbl wr w.heap.size w.heap.size (N + 1) (rows ++ [⟨wx.heap.size + 1, rowA L t.P t.starts.l k f g, t.P⟩])) ∧ Hid (Ext w wr)) (fun i _ => t.P - (intOf i).toNat)
              case atStart => exact ⟨0, Nat.zero_le _, rfl, HT, HX⟩
              case round =>
                clear HT HX
                obtain ⟨wz, rfl⟩ : ∃ wz : World, wz = wr := ⟨_, rfl⟩
                obtain ⟨g, hg, rfl, HT, HX⟩ := hrel
                by_cases hltg : g < t.P
                · have dg : decide ((g : Int) < (t.P : Int)) = true := by simpa using hltg
                  have hlen : k + 1 < (rows ++ [(⟨wx.heap.size + 1, rowA L t.P t.starts.l k f g, t.P⟩ : RW)]).length := by have := HR0.out.2; simp; omega
                  have hget : (rows ++ [(⟨wx.heap.size + 1, rowA L t.P t.starts.l k f g, t.P⟩ : RW)])[k + 1] = ⟨wx.heap.size + 1, rowA L t.P t.starts.l k f g, t.P⟩ := by rw [List.getElem_append_right (by have := HR0.out.2; omega)]; simp
                  have h0 : wz.drew.cell? ⟨w.heap.size, k + 1, none⟩ = some (.slice (some ⟨wx.heap.size + 1, 0, none⟩) t.P t.P) := by have := HT.out.hd.cell (k + 1) hlen; rw [hget] at this; simpa [RW.v, rowA_length] using this
                  have hrw := (HT.out.row _ (List.mem_append_right rows (List.mem_singleton_self _))).1
                  have hv : wz.drew.cell? ⟨wx.heap.size + 1, g, none⟩ = some (.int .i64 (accF L t.P t.starts.l k f g : Int)) := by
                    have h := hrw.cell g (by rw [rowA_length]; exact hltg)
                    rw [rowA_at] at h; exact h
                  have hfz : wz.drew.frozen? ⟨wx.heap.size + 1, g, none⟩ = false := hrw.frozen g
                  have HT' : Hid (Tbl (wz.drew.setCell ⟨wx.heap.size + 1, g, none⟩ (.int .i64 ((min (accF L t.P t.starts.l k f g) (flr L t.P t.starts.l k f + cost (L k f g)) : Nat) : Int))) w.heap.size w.heap.size (N + 1) (rows ++ [⟨wx.heap.size + 1, rowA L t.P t.starts.l k f (g + 1), t.P⟩])) := by
                    show Tbl _ _ _ _ _
                    have := (HT.out.ext (Ext.refl wz).drew).set (k + 1) g (min (accF L t.P t.starts.l k f g) (flr L t.P t.starts.l k f + cost (L k f g))) hlen (by rw [hget]; simp [rowA_length]; exact hltg)
                    simp only [hget, rowA_set] at this
                    have e1 : (rows ++ [(⟨wx.heap.size + 1, rowA L t.P t.starts.l k f g, t.P⟩ : RW)]).set (k + 1) ⟨wx.heap.size + 1, rowA L t.P t.starts.l k f (g + 1), t.P⟩ = rows ++ [⟨wx.heap.size + 1, rowA L t.P t.starts.l k f (g + 1), t.P⟩] := by
                      have := HR0.out.2
                      rw [List.set_append_right _ _ (by omega), show k + 1 - rows.length = 0 by omega]; rfl
                    rwa [e1] at this
                  have HX' : Hid (Ext w (wz.drew.setCell ⟨wx.heap.size + 1, g, none⟩ (.int .i64 ((min (accF L t.P t.starts.l k f g) (flr L t.P t.starts.l k f + cost (L k f g)) : Nat) : Int)))) := HX.out.drew.setCell (by show w.heap.size ≤ wx.heap.size + 1; omega) _
                  have hacc := accF_le L t.P t.starts.l k f g
                  have HPC := Lib.hid (price_any p t L k f g wz.drew (HW.out.ext HX.out.drew) (by omega) (by omega) (by omega))
                  rw [HQ.out] at HT' HX'
                  clear hrw hget hlen HT
                  generalize accF L t.P t.starts.l k f g = v at *
                  have hcost : cost (L k f g) ≤ 1 := by unfold cost; split <;> omega
                  generalize cost (L k f g) = c at *
                  have j0 : (0 : Int) ≤ g := by omega
                  have j1 : (g : Int) < t.P := by omega
                  go_wp2_with fail
                  refine wp_region_still_tail 23 (by kernel_rfl) (by kernel_rfl) ?_
                  simp only [List.take_succ_cons, List.take_zero, List.drop_succ_cons, List.drop_zero]
                  change wpStill _ _ wz.drew _ _ _
                  repeat still_step
                  still_call (HPC.out.mono (by rintro e w' ⟨h1, h2⟩; exact ⟨h1, h2.symm⟩))
                  repeat still_step
                  refine wpStill_nil ?_
                  change wpList _ _ _ _ _ wz.drew
                  go_wp2_with fail
                  have hmin : (if (q : Int) + (c : Int) < (v : Int) then (q : Int) + (c : Int) else (v : Int)) = ((min v (q + c) : Nat) : Int) := by split <;> omega
                  go_roundw
                  case rel =>
                    rw [hmin]
                    exact ⟨g + 1, by omega, by go_num, HT', HX'⟩
                  case measure => simp [intOf]; omega
                · have hge : g = t.P := by omega
                  subst hge
                  rw [rowA_next] at HT
                  go_wp2
                  go_roundw
                  case rel => exact ⟨f + 1, by omega, by go_num, HT, HX⟩
                  case measure => simp [intOf]; omega
            · have hfe : f = t.P := by omega
              subst hfe
              have HF : Hid (∃ rows : List RW, Tbl wy w.heap.size w.heap.size (N + 1) rows ∧ rows.map (fun r => r.l) = flrT L t.P t.starts.l (k + 1)) := by
                refine ⟨_, HT.out, ?_⟩
                rw [List.map_append, HRl.out, flrT_succ, List.map_cons, List.map_nil, rowA_all]
              clear HT
              go_wp2
              go_roundw
              case rel => exact ⟨k + 1, by omega, by go_num, HF, HX⟩
              case measure => simp [intOf]; omega
        · have hke : k = N := by omega
          subst hke
          clear hrl hrn
          go_wp2
          go_ret
          exact ⟨w.heap.size, rows, rfl, HTT.out, HRl.out, HX.out⟩
end Go.Proofs.YtopjjcgmcieboaaGreatDoor
