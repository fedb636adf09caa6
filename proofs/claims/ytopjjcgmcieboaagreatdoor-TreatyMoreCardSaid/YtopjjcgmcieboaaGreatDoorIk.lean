/-
  ends of package treaty marks the places of all lines that keep all legs, and turns nothing that was there. The treaty at work must lie in memory as told and be valid.
-/
import Derived.Test.YtopjjcgmcieboaaGreatDoorS
import Derived.Test.YtopjjcgmcieboaaGreatDoorL
namespace Go.Proofs.YtopjjcgmcieboaaGreatDoor
open Go.RowKit

/-- Marks at the first n starts. -/
def endS (O : Nat → Nat → Bool) (st : List Nat) (n : Nat) : Nat → Nat → Bool := (st.take n).foldl (fun T s => upd T 0 s (O 0 s)) (fun _ _ => false)
theorem endS_succ (O : Nat → Nat → Bool) (st : List Nat) (n : Nat) (h : n < st.length) : endS O st (n + 1) = upd (endS O st n) 0 st[n] (O 0 st[n]) := by
  unfold endS; rw [List.take_succ_eq_append_getElem h, List.foldl_append]; rfl
/-- Over leg q from place f, up to place n. -/
def endG (O : Nat → Nat → Bool) (L : Nat → Nat → Nat → Bool) (q f : Nat) : Nat → (Nat → Nat → Bool) → Nat → Nat → Bool
  | 0, T => T
  | n + 1, T => if endG O L q f n T q f && O (q + 1) n && L q f n then upd (endG O L q f n T) (q + 1) n true else endG O L q f n T
def endF (O : Nat → Nat → Bool) (L : Nat → Nat → Nat → Bool) (P q : Nat) : Nat → (Nat → Nat → Bool) → Nat → Nat → Bool
  | 0, T => T
  | n + 1, T => endG O L q n P (endF O L P q n T)
def endK (O : Nat → Nat → Bool) (L : Nat → Nat → Nat → Bool) (P : Nat) (st : List Nat) : Nat → Nat → Nat → Bool
  | 0 => endS O st st.length
  | n + 1 => endF O L P n P (endK O L P st n)
theorem endG_succ (O : Nat → Nat → Bool) (L : Nat → Nat → Nat → Bool) (q f n : Nat) (T : Nat → Nat → Bool) : endG O L q f (n + 1) T = if endG O L q f n T q f && O (q + 1) n && L q f n then upd (endG O L q f n T) (q + 1) n true else endG O L q f n T := rfl

theorem Mrk.other {w : World} {B b i : Nat} {T : Nat → Nat → Bool} (h : Mrk w B T) (v : Value) (hne : B ≠ b) : Mrk (w.setCell ⟨b, i, none⟩ v) B T := by
  obtain ⟨cs, h1, h2⟩ := h; exact ⟨cs, (Below.heap_setCell _ _ _ _ hne).trans h1, h2⟩

/-- What ends holds between two steps: its blocks. -/
def EW (w : World) (ob eb : Nat) (O T : Nat → Nat → Bool) (wr : World) : Prop := Mrk wr ob O ∧ Mrk wr eb T ∧ OB w wr ∧ Ext w wr
theorem EW.set {w wr : World} {ob eb : Nat} {O T : Nat → Nat → Bool} (h : EW w ob eb O T wr) (hne : ob ≠ eb) (hlt : w.heap.size < eb) (f t : Nat) (hf : f < 11) (ht : t < 12) (b : Bool) : EW w ob eb O (upd T f t b) (wr.setCell ⟨eb, f * 12 + t, none⟩ (.bool b)) :=
  ⟨h.1.other _ hne, h.2.1.set f t hf ht b, heap_set_other _ _ _ _ h.2.2.1 (by omega), h.2.2.2.setCell (by show w.heap.size ≤ eb; omega) _⟩

/-- The place where all of a line's marks end. -/
def endsB (t : TV) (L : Nat → Nat → Nat → Bool) : Nat → Nat → Bool := endK (openK L t.P t.legs.l.length t.legs.l.length) L t.P t.starts.l t.legs.l.length

set_option maxRecDepth 100000 in
set_option maxHeartbeats 4000000 in
theorem ends_any (p : Nat) (t : TV) (L : Nat → Nat → Nat → Bool) (w : World) (hw : IsWork w p t L) (ht : IsSl 1 num w t.starts) (hk : OkT t) :
    Calls Tryz.prog 49 #[.pointer (some ⟨p, 0, none⟩)] w fun e w' => ∃ cs : Array Value, e = .returned (.agg cs) ∧ cs.size = 132 ∧ (∀ f g, f < 11 → g < 12 → cs[f * 12 + g]? = some (.bool (endsB t L f g))) ∧ Ext w w' := by
  have HW := Lib.hid hw
  have HO := Lib.hid (open_any p t L (w.alloc (.cells Tryz.zeroCells88 88)) (hw.ext ((Ext.refl w).alloc _)) hk.p2 hk.legs)
  obtain ⟨cs, q1, q2, q3, q4, q5, q6, q7, q8⟩ := hw
  have hc0 := (cell_at q1 0).trans q2
  have hc3 := (cell_at q1 3).trans q5
  have hc4 := (cell_at q1 4).trans q6
  clear q1 q2 q3 q4 q5 q6 q7 q8 cs
  have HCW : Hid (w.cell? ⟨p, 0, none⟩ = some (.int .i64 (t.P : Int)) ∧ w.cell? ⟨p, 3, none⟩ = some (.slice t.starts.a t.starts.l.length t.starts.c) ∧ w.cell? ⟨p, 4, none⟩ = some (.slice t.legs.a t.legs.l.length t.legs.c)) := ⟨hc0, hc3, hc4⟩
  clear hc0 hc3 hc4
  have hpw := lt_of_cell HCW.out.1
  dsimp only at hpw
  have HPw := Lib.hid hpw; clear hpw
  have hN := hk.legs
  have hP2 := hk.p2
  have hS : ∀ s ∈ t.starts.l, s < t.P := hk.start.1
  have hSn := hk.starts2
  have HS := Lib.hid hS; clear hS hk
  have HSt := Lib.hid ht; clear ht
  have HEb : Hid (endsB t L = endK (openK L t.P t.legs.l.length t.legs.l.length) L t.P t.starts.l t.legs.l.length) := rfl
  generalize hOO : openK L t.P t.legs.l.length t.legs.l.length = O at *
  clear hOO
  generalize endsB t L = EB at *
  generalize hNN : t.legs.l.length = N at *
  generalize hPP : t.P = P at *
  clear hNN hPP
  go_enter Tryz.func49, Tryz.ntmps49
  go_wp2_with fail
  refine HO.out.mono ?_
  rintro e w1 ⟨cs, rfl, hsz, hce, hx⟩
  have hOB1 : Hid (OB w w1) := hx.block (World.alloc_heap_new w _)
  have HX1 : Hid (Ext w w1) := ((Ext.refl w).alloc _).trans hx
  have hl1 : w.heap.size < w1.heap.size := by have := hx.size; rw [World.size_alloc] at this; omega
  have HL1 := Lib.hid hl1; clear hl1
  have HSz := Lib.hid hsz; clear hsz
  have HCE := Lib.hid hce; clear hce
  have hinf : (Tryz.prog.info? 88).map (·.size) = some cs.size := by rw [HSz.out]; kernel_rfl
  have HInf := Lib.hid hinf; clear hinf
  have HOne := Lib.hid (mrk_one HSz.out HCE.out)
  have hzs : Tryz.zeroCells88.size = cs.size := by rw [HSz.out]; kernel_rfl
  have HZs := Lib.hid hzs; clear hzs hx
  have hN0 := World.alloc_heap_new w1 (.cells Tryz.zeroCells88 88)
  have HN0 := Lib.hid hN0; clear hN0
  have e3 : Ext w1 ((w1.alloc (.cells Tryz.zeroCells88 88)).setRow w1.heap.size cs) := ((Ext.refl w1).alloc _).setRow (Nat.le_refl _) cs
  have hrow3 : ((w1.alloc (.cells Tryz.zeroCells88 88)).setRow w1.heap.size cs).heap[w1.heap.size]? = some (.cells cs 88 (0, 0)) := setRow_heap _ _ _ _ _ _ HN0.out
  have hs3 : ((w1.alloc (.cells Tryz.zeroCells88 88)).setRow w1.heap.size cs).heap.size = w1.heap.size + 1 := by simp [World.setRow]
  have HM3 : Hid (Mrk ((w1.alloc (.cells Tryz.zeroCells88 88)).setRow w1.heap.size cs) w1.heap.size O) := ⟨cs, hrow3, HSz.out, HCE.out⟩
  have E3 := Lib.hid e3; clear e3 hrow3
  have HS3 := Lib.hid hs3; clear hs3
  go_wp2_with (refine wpList_store_row rfl 88 (.tmp 4) (.tmp 14) rfl w1.heap.size cs rfl rfl 88 Tryz.zeroCells88 HN0.out HInf.out HZs.out HOne.out ?_; generalize (w1.alloc (.cells Tryz.zeroCells88 88)).setRow w1.heap.size cs = W3 at *; have cs3 := (HX1.out.trans E3.out).cell HCW.out.2.1; have HPw3 : p < W3.heap.size := (by have := HPw.out; have := (HX1.out.trans E3.out).size; omega))
  have HE0 : Hid (EW w w1.heap.size W3.heap.size O (endS O t.starts.l 0) (W3.alloc (.cells Tryz.zeroCells88 88))) :=
    ⟨HM3.out.ext ((Ext.refl _).alloc _), zeroMrk W3, ((hOB1.out : OB w w1).ext E3.out).ext ((Ext.refl _).alloc _), (HX1.out.trans E3.out).alloc _⟩
  have hne : w1.heap.size ≠ W3.heap.size := by have := HS3.out; omega
  have hlo : w.heap.size < W3.heap.size := by have := HS3.out; have := HL1.out; omega
  have HNe : Hid (w1.heap.size ≠ W3.heap.size ∧ w.heap.size < W3.heap.size) := ⟨hne, hlo⟩
  clear HM3 hOB1 HX1 E3 HS3 HN0 HOne HZs HInf HCE HSz cs3 hne hlo HPw3 HO
  generalize hob : w1.heap.size = ob at *
  generalize heb : W3.heap.size = eb at *
  clear hob heb
  go_loopw [21] (fun i wr => ∃ k : Nat, k ≤ t.starts.l.length ∧ i = .int .i64 k ∧ Hid (EW w ob eb O (endS O t.starts.l k) wr)) (fun i _ => t.starts.l.length - (intOf i).toNat)
  case atStart => exact ⟨0, Nat.zero_le _, rfl, HE0⟩
  case round =>
    clear HE0
    obtain ⟨wo, rfl⟩ : ∃ wo : World, wo = wr := ⟨_, rfl⟩
    obtain ⟨k, hk, rfl, HE⟩ := hrel
    by_cases hlt : k < t.starts.l.length
    · have dk : decide ((k : Int) < (t.starts.l.length : Int)) = true := decide_eq_true (by omega)
      obtain ⟨bs, os, hsa, hsc⟩ := HSt.out.2.2.resolve_left (by show ¬ t.starts.l.length = 0; omega)
      have cst : wo.cell? ⟨bs, os + k, none⟩ = some (.int .i64 (t.starts.l[k] : Int)) := by have := HE.out.2.2.2.cell (hsc k hlt 0 (by omega)); simpa [num] using this
      have hsP := HS.out _ (List.getElem_mem hlt)
      have hsu := endS_succ O t.starts.l k hlt
      have c5 := HE.out.1.cell 0 t.starts.l[k] (by omega) (by omega)
      have c6 := HE.out.2.1.cell 0 t.starts.l[k] (by omega) (by omega)
      have f6 := HE.out.2.1.frozen t.starts.l[k]
      have hset := HE.out.set HNe.out.1 HNe.out.2 0 t.starts.l[k] (by omega) (by omega) (O 0 t.starts.l[k])
      rw [← hsu, Nat.zero_mul, Nat.zero_add] at hset
      rw [Nat.zero_mul, Nat.zero_add] at c5 c6
      have HSet := Lib.hid hset; clear hset hsu hsc
      rw [hsa]
      generalize t.starts.l[k] = s at *
      generalize O 0 s = b1 at *
      generalize endS O t.starts.l k 0 s = b2 at *
      have s0 : (0 : Int) ≤ s := by omega
      have s1 : (s : Int) < 12 := by omega
      have k0 : (0 : Int) ≤ k := by omega
      have k1 : (k : Int) < (t.starts.l.length : Int) := by omega
      have k2 : (k : Int) < 12 := by omega
      go_wp2_with fail
      go_roundw
      case rel => exact ⟨k + 1, by omega, by go_num, HSet⟩
      case measure => simp [intOf]; omega
    · have hke : k = t.starts.l.length := by omega
      subst hke
      have c4 := HE.out.2.2.2.cell HCW.out.2.2
      go_wp2_with fail
      clear c4
      go_loopw [39] (fun i wr => ∃ q : Nat, q ≤ N ∧ i = .int .i64 q ∧ Hid (EW w ob eb O (endK O L P t.starts.l q) wr)) (fun i _ => N - (intOf i).toNat)
      case atStart => exact ⟨0, Nat.zero_le _, rfl, HE⟩
      case round =>
        clear HE
        obtain ⟨wx, rfl⟩ : ∃ wx : World, wx = wr := ⟨_, rfl⟩
        obtain ⟨q, hq, rfl, HE⟩ := hrel
        by_cases hltq : q < N
        · have dq : decide ((q : Int) < (N : Int)) = true := decide_eq_true (by omega)
          have hcp := HE.out.2.2.2.cell HCW.out.1
          go_wp2_with fail
          clear hcp
          go_loopw [47] (fun i wr => ∃ f : Nat, f ≤ P ∧ i = .int .i64 f ∧ Hid (EW w ob eb O (endF O L P q f (endK O L P t.starts.l q)) wr)) (fun i _ => P - (intOf i).toNat)
          case atStart => exact ⟨0, Nat.zero_le _, rfl, HE⟩
          case round =>
            clear HE
            obtain ⟨wy, rfl⟩ : ∃ wy : World, wy = wr := ⟨_, rfl⟩
            obtain ⟨f, hf, rfl, HE⟩ := hrel
            by_cases hltf : f < P
            · have df : decide ((f : Int) < (P : Int)) = true := decide_eq_true (by omega)
              have hcp := HE.out.2.2.2.cell HCW.out.1
              go_wp2_with fail
              clear hcp
              go_loopw [55] (fun i wr => ∃ g : Nat, g ≤ P ∧ i = .int .i64 g ∧ Hid (EW w ob eb O (endG O L q f g (endF O L P q f (endK O L P t.starts.l q))) wr)) (fun i _ => P - (intOf i).toNat)
              case atStart => exact ⟨0, Nat.zero_le _, rfl, HE⟩
              case round =>
                clear HE
                obtain ⟨wz, rfl⟩ : ∃ wz : World, wz = wr := ⟨_, rfl⟩
                obtain ⟨g, hg, rfl, HE⟩ := hrel
                by_cases hltg : g < P
                · have dg : decide ((g : Int) < (P : Int)) = true := decide_eq_true (by omega)
                  have g1 := HE.out.1.cell (q + 1) g (by omega) (by omega)
                  have g2 := HE.out.2.1.cell q f (by omega) (by omega)
                  have g3 := HE.out.2.1.cell (q + 1) g (by omega) (by omega)
                  have f3 := HE.out.2.1.frozen ((q + 1) * 12 + g)
                  have HCL := Lib.hid (canLead_any p t L q f g wz (HW.out.ext HE.out.2.2.2) (by omega) (by omega) (by omega))
                  have i1 : (0 : Int) ≤ q := by omega
                  have i2 : (q : Int) < 11 := by omega
                  have i3 : (0 : Int) ≤ f := by omega
                  have i4 : (f : Int) < 12 := by omega
                  have i5 : (0 : Int) ≤ g := by omega
                  have i6 : (g : Int) < 12 := by omega
                  have i7 : (0 : Int) ≤ (q : Int) + 1 := by omega
                  have i8 : (q : Int) + 1 < 11 := by omega
                  have hst := endG_succ O L q f g (endF O L P q f (endK O L P t.starts.l q))
                  have hset := HE.out.set HNe.out.1 HNe.out.2 (q + 1) g (by omega) (by omega) true
                  have HSet := Lib.hid hset; clear hset
                  generalize endG O L q f g (endF O L P q f (endK O L P t.starts.l q)) = T at *
                  have HSu := Lib.hid hst; clear hst
                  generalize T (q + 1) g = v3 at g3
                  cases hA : T q f
                  · rw [hA] at g2
                    have HS2 : Hid (endG O L q f (g + 1) (endF O L P q f (endK O L P t.starts.l q)) = T) := by have := HSu.out; rw [hA] at this; simpa [Hid] using this
                    clear hA
                    go_wp2
                    go_roundw
                    case rel => exact ⟨g + 1, by omega, by go_num, by rw [HS2.out]; exact HE⟩
                    case measure => simp [intOf]; omega
                  · rw [hA] at g2
                    cases hB : O (q + 1) g
                    · have HS2 : Hid (endG O L q f (g + 1) (endF O L P q f (endK O L P t.starts.l q)) = T) := by have := HSu.out; rw [hA, hB] at this; simpa [Hid] using this
                      rw [hB] at g1
                      clear hA hB
                      go_wp2
                      go_roundw
                      case rel => exact ⟨g + 1, by omega, by go_num, by rw [HS2.out]; exact HE⟩
                      case measure => simp [intOf]; omega
                    · rw [hB] at g1
                      cases hC : L q f g
                      · have HS2 : Hid (endG O L q f (g + 1) (endF O L P q f (endK O L P t.starts.l q)) = T) := by have := HSu.out; rw [hA, hB, hC] at this; simpa [Hid] using this
                        rw [hC] at HCL
                        clear hA hB hC
                        go_wp2_with (go_at_call 45; refine HCL.out.mono ?_; rintro e w' ⟨rfl, rfl⟩)
                        go_roundw
                        case rel => exact ⟨g + 1, by omega, by go_num, by rw [HS2.out]; exact HE⟩
                        case measure => simp [intOf]; omega
                      · have HS2 : Hid (endG O L q f (g + 1) (endF O L P q f (endK O L P t.starts.l q)) = upd T (q + 1) g true) := by have := HSu.out; rw [hA, hB, hC] at this; simpa [Hid] using this
                        rw [hC] at HCL
                        clear hA hB hC
                        go_wp2_with (go_at_call 45; refine HCL.out.mono ?_; rintro e w' ⟨rfl, rfl⟩)
                        go_roundw
                        case rel => exact ⟨g + 1, by omega, by go_num, by rw [HS2.out]; exact HSet⟩
                        case measure => simp [intOf]; omega
                · have hge : g = P := by omega
                  subst hge
                  go_wp2
                  go_roundw
                  case rel => exact ⟨f + 1, by omega, by go_num, HE⟩
                  case measure => simp [intOf]; omega
            · have hfe : f = P := by omega
              subst hfe
              go_wp2
              go_roundw
              case rel => exact ⟨q + 1, by omega, by go_num, HE⟩
              case measure => simp [intOf]; omega
        · have hqe : q = N := by omega
          subst hqe
          obtain ⟨cs, hcs, hsz, hce⟩ := HE.out.2.1
          have HCE := Lib.hid hce; clear hce
          have HCS := Lib.hid hcs; clear hcs
          have hinf : (Tryz.prog.info? 88).map (·.size) = some cs.size := by rw [hsz]; kernel_rfl
          have HInf := Lib.hid hinf; clear hinf
          have HSz := Lib.hid hsz; clear hsz
          have HOne := Lib.hid (mrk_one HSz.out HCE.out)
          have hzs : Tryz.zeroCells88.size = cs.size := by rw [HSz.out]; kernel_rfl
          have HZs := Lib.hid hzs; clear hzs
          go_wp2_with (first | (refine wpList_load_row rfl 88 (.tmp 5) rfl eb rfl 88 cs (0, 0) _ HCS.out Tryz.underlying88 rfl HInf.out ?_) | (refine wpList_store_row rfl 88 (.tmp 2) (.tmp 86) rfl w.heap.size cs rfl rfl 88 Tryz.zeroCells88 HE.out.2.2.1 HInf.out HZs.out HOne.out ?_))
          refine bodyPost_ret (v := .agg cs) (results_cell_row rfl _ _ w.heap.size 88 cs (0, 0) _ rfl (setRow_heap _ _ _ _ _ _ HE.out.2.2.1) Tryz.underlying88 rfl HInf.out) rfl ?_
          refine ⟨cs, rfl, HSz.out, fun f' g' hf' hg' => ?_, HE.out.2.2.2.setRow (Nat.le_refl _) _⟩
          rw [HCE.out f' g' hf' hg', HEb.out]
end Go.Proofs.YtopjjcgmcieboaaGreatDoor
