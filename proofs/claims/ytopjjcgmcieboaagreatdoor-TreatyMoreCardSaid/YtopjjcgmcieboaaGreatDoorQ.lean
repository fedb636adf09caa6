/-
  Several texts in one. slices.Min at a list of numbers that is not empty returns its least one, and turns nothing that was there. The list must read as told. A treaty at work in a reading: whether a leg can lead from a place to a place, and what a step costs. The treaty at work must lie in memory as told. hold of package treaty tells whether floors hold in a reading, and turns nothing that was there. The treaty at work and the floors must lie in memory as told, a row for the start and each leg, a number in it for each place.
-/
import Derived.Test.YtopjjcgmcieboaaGreatDoorJ
import Derived.Test.YtopjjcgmcieboaaGreatDoorK
import Derived.Test.YtopjjcgmcieboaaGreatDoorL
namespace Go.Proofs.YtopjjcgmcieboaaGreatDoor
open Go.RowKit

/-- m is the least number of l. -/
def LeastOf (l : List Nat) (m : Nat) : Prop := m ∈ l ∧ ∀ x ∈ l, m ≤ x
theorem LeastOf.snoc {l : List Nat} {m x : Nat} (h : LeastOf l m) : LeastOf (l ++ [x]) (min m x) := by
  refine ⟨?_, fun y hy => ?_⟩
  · rcases Nat.le_total m x with h1 | h1
    · rw [Nat.min_eq_left h1]; exact List.mem_append_left _ h.1
    · rw [Nat.min_eq_right h1]; simp
  · rcases List.mem_append.1 hy with h1 | h1
    · exact Nat.le_trans (Nat.min_le_left _ _) (h.2 y h1)
    · simp at h1; rw [h1]; exact Nat.min_le_right _ _

set_option maxHeartbeats 400000 in
theorem min_any (a : Option Addr) (n c : Nat) (l : List Nat) (w : World) (hn : l.length = n) (hpos : 0 < l.length) (hv : IsSl 1 num w ⟨a, c, l⟩) :
    Calls Tryz.prog 50 #[.slice a n c] w fun e w' => (∃ m : Nat, e = .returned (.int .i64 (m : Int)) ∧ LeastOf l m) ∧ w = w' := by
  subst hn
  obtain ⟨h1, h2, h3⟩ := hv
  dsimp only at h1 h2 h3
  obtain ⟨b, off, rfl, hc⟩ := h3.resolve_left (by omega)
  have hcell0 : w.cell? ⟨b, off, none⟩ = some (.int .i64 (l[0] : Int)) := by have := hc 0 (by omega) 0 (by omega); simpa [num] using this
  have HC := Lib.hid hc; clear hc h3
  have hlt1 : ¬ ((l.length : Int) < 1) := by omega
  have hp0 : (0 : Int) < (l.length : Int) := by omega
  have hL0 : Hid (LeastOf (l.take 1) l[0]) := by
    have : l.take 1 = [l[0]] := by rw [List.take_succ_eq_append_getElem hpos]; simp
    rw [Hid, this]; exact ⟨by simp, by simp⟩
  generalize l[0] = x0 at *
  go_enter Tryz.func50, Tryz.ntmps50
  go_wp2
  go_loop [3, 4] (fun m i => ∃ (k q : Nat), 1 ≤ k ∧ k ≤ l.length ∧ i = .int .i64 k ∧ m = .int .i64 (q : Int) ∧ Hid (LeastOf (l.take k) q)) (fun _ i => l.length - (intOf i).toNat)
  case atStart => exact ⟨1, x0, by omega, by omega, rfl, rfl, hL0⟩
  case round =>
    obtain ⟨k, q, hk1, hk, rfl, rfl, HL⟩ := hrel
    by_cases hlt : k < l.length
    · have hcell : w.cell? ⟨b, off + k, none⟩ = some (.int .i64 (l[k] : Int)) := by have := HC.out k hlt 0 (by omega); simpa [num] using this
      have hL1 : Hid (LeastOf (l.take (k + 1)) (min q l[k])) := by rw [Hid, List.take_succ_eq_append_getElem hlt]; exact HL.out.snoc
      generalize l[k] = y at *
      go_wp2
      go_round
      case rel => exact ⟨k + 1, min q y, by omega, by omega, by go_num, by congr 1; omega, hL1⟩
      case measure => simp [intOf]; omega
    · go_wp2
      go_ret
      refine ⟨⟨q, rfl, ?_⟩, rfl⟩
      have := HL.out
      rwa [List.take_of_length_le (by omega)] at this
end Go.Proofs.YtopjjcgmcieboaaGreatDoor

namespace Go.Proofs.YtopjjcgmcieboaaGreatDoor
open Go.RowKit

/-- A treaty at work lies in block p: the treaty t, the table L of where legs can lead, all legs count. -/
def IsWork (w : World) (p : Nat) (t : TV) (L : Nat → Nat → Nat → Bool) : Prop :=
  ∃ cs : Array Value, w.heap[p]? = some (.cells cs 113 (0, 0)) ∧ cs[0]? = some (.int .i64 (t.P : Int)) ∧ cs[1]? = some (.slice t.ways.a t.ways.l.length t.ways.c) ∧ cs[2]? = some (.slice t.words.a t.words.l.length t.words.c) ∧
    cs[3]? = some (.slice t.starts.a t.starts.l.length t.starts.c) ∧ cs[4]? = some (.slice t.legs.a t.legs.l.length t.legs.c) ∧ cs[1445]? = some (.func (.func 73) #[] #[]) ∧
    ∀ k f g, k < 10 → f < 12 → g < 12 → cs[5 + k * 144 + f * 12 + g]? = some (.bool (L k f g))
theorem IsWork.ext {w w' : World} {p : Nat} {t : TV} {L : Nat → Nat → Nat → Bool} (h : IsWork w p t L) (k : Ext w w') : IsWork w' p t L := by
  obtain ⟨cs, h1, h2⟩ := h; exact ⟨cs, k.block h1, h2⟩

theorem read1_any (x : Int) (w : World) : Calls Tryz.prog 73 #[.int .i64 x] w fun e w' => e = .returned (.bool true) ∧ w = w' := by
  go_enter Tryz.func73, Tryz.ntmps73
  go_wp2
  go_ret
  exact ⟨rfl, rfl⟩

set_option maxHeartbeats 400000 in
theorem canLead_any (p : Nat) (t : TV) (L : Nat → Nat → Nat → Bool) (k f g : Nat) (w : World) (hw : IsWork w p t L) (hk : k < 10) (hf : f < 12) (hg : g < 12) :
    Calls Tryz.prog 45 #[.pointer (some ⟨p, 0, none⟩), .int .i64 (k : Int), .int .i64 (f : Int), .int .i64 (g : Int)] w fun e w' => e = .returned (.bool (L k f g)) ∧ w = w' := by
  obtain ⟨cs, h1, -, -, -, -, -, h6, h7⟩ := hw
  have hc := (cell_at h1 1445).trans h6
  have hcell := (cell_at h1 _).trans (h7 k f g hk hf hg)
  have HB := Lib.hid h1; clear h1
  clear h6 h7
  have i1 : (0 : Int) ≤ k := by omega
  have i2 : (k : Int) < 10 := by omega
  have i3 : (0 : Int) ≤ f := by omega
  have i4 : (f : Int) < 12 := by omega
  have i5 : (0 : Int) ≤ g := by omega
  have i6 : (g : Int) < 12 := by omega
  generalize L k f g = r at *
  go_enter Tryz.func45, Tryz.ntmps45
  go_wp2_with (go_at_call 73; refine (read1_any _ _).mono ?_; rintro e w' ⟨rfl, rfl⟩)
  go_ret
  exact ⟨rfl, rfl⟩

/-- What a step costs: 1 if it breaks the leg. -/
def cost (b : Bool) : Nat := if b then 0 else 1

theorem enters_45 : Enters Tryz.prog 45 := fun args w => Proofs.enters_of Tryz.func45 (by kernel_rfl) rfl args w

set_option maxHeartbeats 400000 in
theorem price_any (p : Nat) (t : TV) (L : Nat → Nat → Nat → Bool) (k f g : Nat) (w : World) (hw : IsWork w p t L) (hk : k < 10) (hf : f < 12) (hg : g < 12) :
    Calls Tryz.prog 94 #[.func (.func 45) #[.pointer (some ⟨p, 0, none⟩)] #[], .int .i64 (k : Int), .int .i64 (f : Int), .int .i64 (g : Int)] w fun e w' => e = .returned (.int .i64 (cost (L k f g) : Int)) ∧ w = w' := by
  have HC := Lib.hid (canLead_any p t L k f g w hw hk hf hg)
  clear hw hk hf hg
  generalize L k f g = r at *
  cases r
  · go_enter Tryz.func94, Tryz.ntmps94
    go_wp2_with (go_at_call 45; refine HC.out.mono ?_; rintro e w' ⟨rfl, rfl⟩)
    go_ret
    exact ⟨rfl, rfl⟩
  · go_enter Tryz.func94, Tryz.ntmps94
    go_wp2_with (go_at_call 45; refine HC.out.mono ?_; rintro e w' ⟨rfl, rfl⟩)
    go_ret
    exact ⟨rfl, rfl⟩
end Go.Proofs.YtopjjcgmcieboaaGreatDoor

namespace Go.Proofs.YtopjjcgmcieboaaGreatDoor
open Go.RowKit

/-- A table of numbers: a list of rows, each with its numbers. -/
structure IsTbl (w : World) (s : SL (SL Nat)) : Prop where
  rows : IsSl 1 slC w s
  row : ∀ r ∈ s.l, IsSl 1 num w r
theorem IsTbl.ext {w w' : World} {s : SL (SL Nat)} (h : IsTbl w s) (k : Ext w w') : IsTbl w' s := ⟨h.rows.ext k, fun r hr => (h.row r hr).ext k⟩

/-- The number in row k and column i (0 beyond). -/
def at2 (rows : List (SL Nat)) (k i : Nat) : Nat := (((rows.map (·.l))[k]?.getD [])[i]?).getD 0
theorem at2_eq (rows : List (SL Nat)) (k i : Nat) (hk : k < rows.length) (hi : i < rows[k].l.length) : at2 rows k i = rows[k].l[i] := by simp [at2, hk, hi]

set_option maxHeartbeats 400000 in
theorem hold1_any (x : Nat) (b : Nat) (s : SL (SL Nat)) (P : Nat) (w : World) (hs : IsTbl w s) (h0 : 0 < s.l.length) (hP : ∀ r ∈ s.l, r.l.length = P) (hx : x < P) (hc : w.cell? ⟨b, 0, none⟩ = some (.slice s.a s.l.length s.c)) :
    Calls Tryz.prog 120 #[.int .i64 (x : Int), .pointer (some ⟨b, 0, none⟩)] w fun e w' => e = .returned (.bool (at2 s.l 0 x == 0)) ∧ w = w' := by
  obtain ⟨⟨h1, h2, h3⟩, hrow⟩ := hs
  obtain ⟨b1, o1, ha, hc1⟩ := h3.resolve_left (by omega)
  have hr := hrow _ (List.getElem_mem h0)
  have hl := hP _ (List.getElem_mem h0)
  obtain ⟨g1, g2, g3⟩ := hr
  obtain ⟨b2, o2, hb, hc2⟩ := g3.resolve_left (by omega)
  have hcellr : w.cell? ⟨b1, o1, none⟩ = some (.slice (some ⟨b2, o2, none⟩) P s.l[0].c) := by have := hc1 0 h0 0 (by omega); simpa [slC, SL.v, hb, hl] using this
  have hcellx : w.cell? ⟨b2, o2 + x, none⟩ = some (.int .i64 (at2 s.l 0 x : Int)) := by
    have := hc2 x (by omega) 0 (by omega); rw [at2_eq _ _ _ h0 (by omega)]; simpa [num] using this
  rw [ha] at hc
  rw [hl] at g1 g2
  have hp0 : (0 : Int) < (s.l.length : Int) := by omega
  have hx0 : (0 : Int) ≤ x := by omega
  have hx1 : (x : Int) < (P : Int) := by omega
  clear hc1 hc2 g3 h3 hrow hP hl ha hb
  generalize at2 s.l 0 x = y at *
  generalize s.l[0].c = c0 at *
  by_cases hy : y = 0
  · have hyb : ((y : Int) == 0) = true := by rw [beq_iff_eq]; omega
    have HY := Lib.hid hy; clear hy
    go_enter Tryz.func120, Tryz.ntmps120
    go_wp2
    go_ret
    exact ⟨ret_bool (by rw [HY.out]; rfl), rfl⟩
  · have hyb : ((y : Int) == 0) = false := by rw [beq_eq_false_iff_ne]; omega
    have HY := Lib.hid hy; clear hy
    go_enter Tryz.func120, Tryz.ntmps120
    go_wp2
    go_ret
    exact ⟨ret_bool (by have := HY.out; simp [this]), rfl⟩

theorem enters_120 : Enters Tryz.prog 120 := fun args w => Proofs.enters_of Tryz.func120 (by kernel_rfl) rfl args w

theorem tbl_row {w : World} {s : SL (SL Nat)} {P B O : Nat} (hs : IsTbl w s) (ha : s.a = some ⟨B, O, none⟩) (hP : ∀ r ∈ s.l, r.l.length = P) (hP0 : 0 < P) (k : Nat) (hk : k < s.l.length) :
    ∃ b o c, P ≤ c ∧ w.cell? ⟨B, O + k, none⟩ = some (.slice (some ⟨b, o, none⟩) P c) ∧ ∀ i, i < P → w.cell? ⟨b, o + i, none⟩ = some (.int .i64 (at2 s.l k i : Int)) := by
  obtain ⟨⟨h1, h2, h3⟩, hrow⟩ := hs
  obtain ⟨b1, o1, ha', hc1⟩ := h3.resolve_left (by omega)
  rw [ha] at ha'
  cases ha'
  have hr := hrow _ (List.getElem_mem hk)
  have hl := hP _ (List.getElem_mem hk)
  obtain ⟨g1, g2, g3⟩ := hr
  obtain ⟨b2, o2, hb, hc2⟩ := g3.resolve_left (by omega)
  refine ⟨b2, o2, s.l[k].c, by omega, ?_, fun i hi => ?_⟩
  · have := hc1 k hk 0 (by omega); simpa [slC, SL.v, hb, hl] using this
  · have := hc2 i (by omega) 0 (by omega); rw [at2_eq _ _ _ hk (by omega)]; simpa [num] using this

/-- Floors hold, leg k, from place f, up to places before n. -/
def HoldG (L : Nat → Nat → Nat → Bool) (rows : List (SL Nat)) (k f n : Nat) : Prop := ∀ g, g < n → at2 rows (k + 1) g ≤ at2 rows k f + cost (L k f g)
def HoldF (P : Nat) (L : Nat → Nat → Nat → Bool) (rows : List (SL Nat)) (k n : Nat) : Prop := ∀ f, f < n → HoldG L rows k f P
def HoldK (P : Nat) (L : Nat → Nat → Nat → Bool) (rows : List (SL Nat)) (n : Nat) : Prop := ∀ k, k < n → HoldF P L rows k P
def HoldP (t : TV) (L : Nat → Nat → Nat → Bool) (rows : List (SL Nat)) : Prop := (t.starts.l.all fun x => at2 rows 0 x == 0) = true ∧ HoldK t.P L rows t.legs.l.length

set_option maxRecDepth 100000 in
set_option maxHeartbeats 2000000 in
theorem hold_any (p : Nat) (t : TV) (L : Nat → Nat → Nat → Bool) (s : SL (SL Nat)) (w : World) (hw : IsWork w p t L) (ht : IsT w t) (hk : OkT t) (hs : IsTbl w s)
    (hlen : s.l.length = t.legs.l.length + 1) (hP : ∀ r ∈ s.l, r.l.length = t.P) (h11 : ∀ k i, at2 s.l k i ≤ 11) :
    Calls Tryz.prog 89 #[.pointer (some ⟨p, 0, none⟩), .slice s.a s.l.length s.c] w fun e w' => ∃ b : Bool, e = .returned (.bool b) ∧ (b = true ↔ HoldP t L s.l) ∧ Ext w w' := by
  have hP1 := hk.p1
  have hP12 := hk.p2
  have hl10 := hk.legs
  obtain ⟨B, O, ha, -⟩ := hs.rows.2.2.resolve_left (by omega)
  have hcs := hs.rows.1
  have HW := Lib.hid hw
  have HS := Lib.hid hs; clear hs
  have HT := Lib.hid ht; clear ht
  have HST := Lib.hid hk.start; clear hk
  have HPr := Lib.hid hP; clear hP
  have H11 := Lib.hid h11; clear h11
  have HA := Lib.hid ha
  rw [ha]
  obtain ⟨cs, q1, q2, q3, q4, q5, q6, q7, q8⟩ := hw
  have hc0 := (cell_at q1 0).trans q2
  have hc3 := (cell_at q1 3).trans q5
  have hc4 := (cell_at q1 4).trans q6
  have hpw : p < w.heap.size := (Array.getElem?_eq_some_iff.1 q1).1
  clear q1 q2 q3 q4 q5 q6 q7 q8 ha
  have HCW : Hid (w.cell? ⟨p, 0, none⟩ = some (.int .i64 (t.P : Int)) ∧ w.cell? ⟨p, 4, none⟩ = some (.slice t.legs.a t.legs.l.length t.legs.c)) := ⟨hc0, hc4⟩
  rw [hlen]
  rw [hlen] at hcs
  have HLen := Lib.hid hlen; clear hlen
  have hbox : Hid ((w.alloc (.cells #[.slice (some ⟨B, O, none⟩) (t.legs.l.length + 1) s.c] 32)).heap[w.heap.size]? = some (.cells #[.slice (some ⟨B, O, none⟩) (t.legs.l.length + 1) s.c] 32)) := World.alloc_heap_new w _
  go_enter Tryz.func89, Tryz.ntmps89
  go_wp2_with fail
  refine (every_int 120 _ (fun x => x < t.P) (fun x => at2 s.l 0 x == 0) _ _ _ t.starts.l _ enters_120 rfl (HT.out.starts.ext ((Ext.refl w).alloc _)) HST.out.1 ?_).mono ?_
  · intro x hx w' hw'
    have e0 := ((Ext.refl w).alloc _).trans hw'
    refine (hold1_any x w.heap.size s t.P w' (HS.out.ext e0) (by have := HLen.out; omega) HPr.out hx (by rw [cell_at (hw'.block hbox.out) 0, HA.out, HLen.out]; rfl)).mono ?_
    rintro e w'' ⟨rfl, rfl⟩
    exact ⟨rfl, Ext.refl _⟩
  rintro e w1 ⟨rfl, hx1⟩
  have E1 : Hid (Ext w w1) := ((Ext.refl w).alloc _).trans hx1
  have B1 := Lib.hid (hx1.block hbox.out); clear hx1
  cases hall : t.starts.l.all fun x => at2 s.l 0 x == 0
  · have HN := Lib.hid hall; clear hall
    go_wp2
    go_ret
    exact ⟨false, rfl, ⟨fun h => (by cases h), fun h => (by have := h.1; rw [HN.out] at this; cases this)⟩, E1.out⟩
  · have HY := Lib.hid hall; clear hall
    have hc4' := E1.out.cell hc4
    clear hc0 hc3 hc4
    go_wp2_with fail
    generalize hN : t.legs.l.length = N at *
    generalize hPP : t.P = P at *
    have HN := Lib.hid hN; clear hN
    have HPP := Lib.hid hPP; clear hPP
    go_loopw [26] (fun i wr => ∃ k : Nat, k ≤ N ∧ i = .int .i64 k ∧ Hid (HoldK P L s.l k) ∧ Hid (Ext w1 wr)) (fun i _ => N - (intOf i).toNat)
    case atStart => exact ⟨0, by omega, rfl, fun k hk => by omega, Ext.refl _⟩
    case round =>
      obtain ⟨wo, rfl⟩ : ∃ wo : World, wo = wr := ⟨_, rfl⟩
      obtain ⟨k, hkN, rfl, HK, HX⟩ := hrel
      by_cases hlt : k < N
      · have dk : decide ((k : Int) < (N : Int)) = true := by simpa using hlt
        have hbx := cell_at (HX.out.block B1.out) 0
        simp only [List.getElem?_toArray, List.getElem?_cons_zero] at hbx
        obtain ⟨rb, ro, rc, hrc, hrow, hcol⟩ := tbl_row (HS.out.ext (E1.out.trans HX.out)) HA.out HPr.out hP1 k (by have := HLen.out; omega)
        have HCol := Lib.hid hcol; clear hcol
        have ik0 : (0 : Int) ≤ k := by omega
        have ik1 : (k : Int) < (N : Int) + 1 := by omega
        go_wp2_with fail
        go_loopw [34] (fun i wr => ∃ f : Nat, f ≤ P ∧ i = .int .i64 f ∧ Hid (HoldF P L s.l k f) ∧ Hid (Ext wo wr)) (fun i _ => P - (intOf i).toNat)
        case atStart => exact ⟨0, by omega, rfl, fun f hf => by omega, Ext.refl _⟩
        case round =>
          clear hbx hrow
          obtain ⟨wx, rfl⟩ : ∃ wx : World, wx = wr := ⟨_, rfl⟩
          obtain ⟨f, hfP, rfl, HF, HX2⟩ := hrel
          by_cases hltf : f < P
          · have df : decide ((f : Int) < (P : Int)) = true := by simpa using hltf
            have hcell := HX2.out.cell (HCol.out f hltf)
            have hcp := ((E1.out.trans HX.out).trans HX2.out).cell HCW.out.1
            go_wp2_with fail
            go_loopw [44] (fun i wr => ∃ g : Nat, g ≤ P ∧ i = .int .i64 g ∧ Hid (HoldG L s.l k f g) ∧ Hid (Ext wx wr)) (fun i _ => P - (intOf i).toNat)
            case atStart => exact ⟨0, by omega, rfl, fun g hg => by omega, Ext.refl _⟩
            case round =>
              clear hcell hcp
              obtain ⟨g, hgP, rfl, HG, HX3⟩ := hrel
              by_cases hltg : g < P
              · have dg : decide ((g : Int) < (P : Int)) = true := by simpa using hltg
                have EY : Hid (Ext w1 wr) := (HX.out.trans HX2.out).trans HX3.out
                have hbx := cell_at (EY.out.block B1.out) 0
                simp only [List.getElem?_toArray, List.getElem?_cons_zero] at hbx
                obtain ⟨rb2, ro2, rc2, hrc2, hrow2, hcol2⟩ := tbl_row (HS.out.ext (E1.out.trans EY.out)) HA.out HPr.out hP1 (k + 1) (by have := HLen.out; omega)
                have hcell2 := hcol2 g hltg
                clear hcol2
                have HPc := fun n => price_any p t L k f g (wr.drewN n) (HW.out.ext ((E1.out.trans EY.out).drewN n)) (by omega) (by omega) (by omega)
                have HPC := Lib.hid HPc; clear HPc
                have y1 := H11.out k f
                have y2 := H11.out (k + 1) g
                have hcost : cost (L k f g) ≤ 1 := by unfold cost; split <;> omega
                have hgoal : Hid (HoldG L s.l k f (g + 1) ↔ at2 s.l (k + 1) g ≤ at2 s.l k f + cost (L k f g)) := by
                  constructor
                  · intro h; exact h g (by omega)
                  · intro h g' hg'
                    rcases Nat.lt_succ_iff_lt_or_eq.1 hg' with h' | rfl
                    · exact HG.out g' h'
                    · exact h
                generalize hv1 : at2 s.l k f = v1 at *
                generalize hv2 : at2 s.l (k + 1) g = v2 at *
                generalize cost (L k f g) = v3 at *
                have HV1 := Lib.hid hv1; clear hv1
                have HV2 := Lib.hid hv2; clear hv2
                have j1 : (0 : Int) ≤ (k : Int) + 1 := by omega
                have j2 : (k : Int) + 1 < (N : Int) + 1 := by omega
                have j3 : (0 : Int) ≤ g := by omega
                have j4 : (g : Int) < (P : Int) := by omega
                have wk : IntKind.i64.wrap ((k : Int) + 1) = (k : Int) + 1 := IntWalk.i64_in _ (by omega)
                have wv : IntKind.i64.wrap ((v1 : Int) + (v3 : Int)) = (v1 : Int) + (v3 : Int) := IntWalk.i64_in _ (by omega)
                by_cases hle : v2 ≤ v1 + v3
                · have hd : decide ((v1 : Int) + (v3 : Int) < (v2 : Int)) = false := decide_eq_false (by omega)
                  go_wp2_with fail
                  go_quiet ((go_at_call 94; exact quiet_same (HPC.out _)))
                  clear wk wv
                  go_wp2
                  exact ⟨⟨g + 1, by omega, by go_num, hgoal.out.2 hle, HX3.out.drewN _⟩, by simp [intOf]; omega⟩
                · have hd : decide ((v1 : Int) + (v3 : Int) < (v2 : Int)) = true := decide_eq_true (by omega)
                  go_wp2_with fail
                  go_quiet ((go_at_call 94; exact quiet_same (HPC.out _)))
                  clear wk wv
                  go_wp2
                  go_ret
                  refine ⟨false, rfl, ⟨fun h => (by cases h), fun h => absurd (hgoal.out.1 fun g' hg' => ?_) hle⟩, (E1.out.trans EY.out).drewN _⟩
                  exact h.2 k (by rw [HN.out]; exact hlt) f (by rw [HPP.out]; exact hltf) g' (by rw [HPP.out]; omega)
              · have hge : g = P := by omega
                subst hge
                go_wp2
                go_roundw
                case rel => exact ⟨f + 1, by omega, by go_num, fun f' hf' => by
                  rcases Nat.lt_succ_iff_lt_or_eq.1 hf' with h' | rfl
                  · exact HF.out f' h'
                  · exact HG.out, HX2.out.trans HX3.out⟩
                case measure => simp [intOf]; omega
          · have hfe : f = P := by omega
            subst hfe
            go_wp2
            go_roundw
            case rel => exact ⟨k + 1, by omega, by go_num, fun k' hk' => by
              rcases Nat.lt_succ_iff_lt_or_eq.1 hk' with h' | rfl
              · exact HK.out k' h'
              · exact HF.out, HX.out.trans HX2.out⟩
            case measure => simp [intOf]; omega
      · have hke : k = N := by omega
        subst hke
        go_wp2
        go_ret
        exact ⟨true, rfl, ⟨fun _ => ⟨HY.out, by rw [HPP.out, HN.out]; exact HK.out⟩, fun _ => rfl⟩, E1.out.trans HX.out⟩
end Go.Proofs.YtopjjcgmcieboaaGreatDoor
