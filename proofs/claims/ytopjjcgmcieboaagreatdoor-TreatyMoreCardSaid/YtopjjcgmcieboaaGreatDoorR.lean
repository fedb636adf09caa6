/-
  open of package treaty marks the places from which all legs behind them can be kept, and turns nothing that was there. The treaty at work must lie in memory as told.
-/
import Derived.Test.YtopjjcgmcieboaaGreatDoorQ
import Derived.Test.YtopjjcgmcieboaaGreatDoorM
namespace Go.Proofs.YtopjjcgmcieboaaGreatDoor
open Go.RowKit

/-- Marks of 12 places at the start and behind each of 10 legs lie in block B. -/
def Mrk (w : World) (B : Nat) (T : Nat → Nat → Bool) : Prop :=
  ∃ cs : Array Value, w.heap[B]? = some (.cells cs 88 (0, 0)) ∧ cs.size = 132 ∧ ∀ f t, f < 11 → t < 12 → cs[f * 12 + t]? = some (.bool (T f t))
theorem Mrk.ext {w w' : World} {B : Nat} {T : Nat → Nat → Bool} (h : Mrk w B T) (k : Ext w w') : Mrk w' B T := by
  obtain ⟨cs, h1, h2⟩ := h; exact ⟨cs, k.block h1, h2⟩
theorem Mrk.lt {w : World} {B : Nat} {T : Nat → Nat → Bool} (h : Mrk w B T) : B < w.heap.size := by
  obtain ⟨cs, h1, h2⟩ := h; exact (Array.getElem?_eq_some_iff.1 h1).1
theorem Mrk.cell {w : World} {B : Nat} {T : Nat → Nat → Bool} (h : Mrk w B T) (f t : Nat) (hf : f < 11) (ht : t < 12) : w.cell? ⟨B, f * 12 + t, none⟩ = some (.bool (T f t)) := by
  obtain ⟨cs, h1, h2, h3⟩ := h; rw [cell_at h1, h3 f t hf ht]
theorem Mrk.frozen {w : World} {B : Nat} {T : Nat → Nat → Bool} (h : Mrk w B T) (i : Nat) : w.frozen? ⟨B, i, none⟩ = false := by
  obtain ⟨cs, h1, h2⟩ := h; simp [World.frozen?, h1]
theorem Mrk.set {w : World} {B : Nat} {T : Nat → Nat → Bool} (h : Mrk w B T) (f t : Nat) (hf : f < 11) (ht : t < 12) (b : Bool) : Mrk (w.setCell ⟨B, f * 12 + t, none⟩ (.bool b)) B (upd T f t b) := by
  obtain ⟨cs, h1, h2, h3⟩ := h
  refine ⟨_, YtopjjcgmcieboaaGreatDoor.heap_setCell_same h1 _, by simpa using h2, fun f' t' hf' ht' => ?_⟩
  rw [Array.getElem?_setIfInBounds]
  unfold upd
  by_cases e : f' = f ∧ t' = t
  · obtain ⟨rfl, rfl⟩ := e; simp; omega
  · rw [if_neg e, if_neg (by omega)]; exact h3 f' t' hf' ht'
theorem zeroMrk (w : World) : Mrk (w.alloc (.cells Tryz.zeroCells88 88)) w.heap.size (fun _ _ => false) := by
  refine ⟨_, World.alloc_heap_new w _, by kernel_rfl, fun f t hf ht => ?_⟩
  have hz : Tryz.zeroCells88 = (Array.replicate 132 (.bool false)) := by kernel_rfl
  rw [hz, Array.getElem?_replicate, if_pos (by omega)]
theorem mrk_one {cs : Array Value} {T : Nat → Nat → Bool} (hsz : cs.size = 132) (h : ∀ f t, f < 11 → t < 12 → cs[f * 12 + t]? = some (.bool (T f t))) : cs.all (·.oneCell') = true := by
  rw [Array.all_eq_true]
  intro i hi
  have := h (i / 12) (i % 12) (by omega) (by omega)
  rw [show i / 12 * 12 + i % 12 = i by omega, Array.getElem?_eq_getElem hi, Option.some.injEq] at this
  rw [this]; rfl

/-- Places behind the last leg, up to place n. -/
def openS (N : Nat) : Nat → Nat → Nat → Bool
  | 0 => fun _ _ => false
  | n + 1 => upd (openS N n) N n true
/-- Going back over leg q, from place f, up to place n. -/
def openG (L : Nat → Nat → Nat → Bool) (q f : Nat) : Nat → (Nat → Nat → Bool) → Nat → Nat → Bool
  | 0, O => O
  | n + 1, O => if openG L q f n O (q + 1) n && L q f n then upd (openG L q f n O) q f true else openG L q f n O
def openF (L : Nat → Nat → Nat → Bool) (P q : Nat) : Nat → (Nat → Nat → Bool) → Nat → Nat → Bool
  | 0, O => O
  | n + 1, O => openG L q n P (openF L P q n O)
/-- Going back over legs, n of N of them: the last ones. -/
def openK (L : Nat → Nat → Nat → Bool) (P N : Nat) : Nat → Nat → Nat → Bool
  | 0 => openS N P
  | n + 1 => openF L P (N - (n + 1)) P (openK L P N n)
theorem openG_succ (L : Nat → Nat → Nat → Bool) (q f n : Nat) (O : Nat → Nat → Bool) : openG L q f (n + 1) O = if openG L q f n O (q + 1) n && L q f n then upd (openG L q f n O) q f true else openG L q f n O := rfl

/-- open's boxes: the result's, not yet written. -/
def OB (w wr : World) : Prop := wr.heap[w.heap.size]? = some (.cells Tryz.zeroCells88 88)
theorem OB.ext {w a b : World} (h : OB w a) (k : Ext a b) : OB w b := k.block h
theorem OB.set {w a : World} (h : OB w a) (i : Nat) (v : Value) : OB w (a.setCell ⟨w.heap.size + 1, i, none⟩ v) := heap_set_other _ _ _ _ h (by omega)

set_option maxRecDepth 100000 in
set_option maxHeartbeats 4000000 in
theorem open_any (p : Nat) (t : TV) (L : Nat → Nat → Nat → Bool) (w : World) (hw : IsWork w p t L) (hP12 : t.P ≤ 12) (hN10 : t.legs.l.length ≤ 10) :
    Calls Tryz.prog 78 #[.pointer (some ⟨p, 0, none⟩)] w fun e w' => ∃ cs : Array Value, e = .returned (.agg cs) ∧ cs.size = 132 ∧ (∀ f g, f < 11 → g < 12 → cs[f * 12 + g]? = some (.bool (openK L t.P t.legs.l.length t.legs.l.length f g))) ∧ Ext w w' := by
  have HW := Lib.hid hw
  obtain ⟨cs, q1, q2, q3, q4, q5, q6, q7, q8⟩ := hw
  have hc0 := (cell_at q1 0).trans q2
  have hc4 := (cell_at q1 4).trans q6
  clear q1 q2 q3 q4 q5 q6 q7 q8
  have HCW : Hid (w.cell? ⟨p, 0, none⟩ = some (.int .i64 (t.P : Int)) ∧ w.cell? ⟨p, 4, none⟩ = some (.slice t.legs.a t.legs.l.length t.legs.c)) := ⟨hc0, hc4⟩
  have hpw := lt_of_cell hc0
  dsimp only at hpw
  generalize hN : t.legs.l.length = N at *
  generalize hPP : t.P = P at *
  have HN := Lib.hid hN; clear hN
  have HPP := Lib.hid hPP; clear hPP
  have hT0 := zeroMrk (w.alloc (.cells Tryz.zeroCells88 88))
  rw [World.size_alloc] at hT0
  have HT0 := Lib.hid hT0; clear hT0
  have HB0 : Hid (OB w ((w.alloc (.cells Tryz.zeroCells88 88)).alloc (.cells Tryz.zeroCells88 88))) := ((Ext.refl _).alloc _).laid
  have HE0 : Hid (Ext w ((w.alloc (.cells Tryz.zeroCells88 88)).alloc (.cells Tryz.zeroCells88 88))) := ((Ext.refl w).alloc _).alloc _
  go_enter Tryz.func78, Tryz.ntmps78
  go_wp2_with fail
  go_loopw [16] (fun i wr => ∃ k : Nat, k ≤ P ∧ i = .int .i64 k ∧ Hid (Mrk wr (w.heap.size + 1) (openS N k)) ∧ Hid (OB w wr) ∧ Hid (Ext w wr)) (fun i _ => P - (intOf i).toNat)
  case atStart => exact ⟨0, Nat.zero_le _, rfl, HT0, HB0, HE0⟩
  case round =>
    obtain ⟨k, hk, rfl, HT, HB, HX⟩ := hrel
    have hl4 := HX.out.cell HCW.out.2
    have hTl := HT.out.lt
    by_cases hlt : k < P
    · have dk : decide ((k : Int) < (P : Int)) = true := by simpa using hlt
      have g1 := HT.out.cell N k (by omega) (by omega)
      have f1 := HT.out.frozen (N * 12 + k)
      have i1 : (0 : Int) ≤ k := by omega
      have i2 : (k : Int) < 12 := by omega
      have i3 : (0 : Int) ≤ N := by omega
      have i4 : (N : Int) < 11 := by omega
      generalize openS N k N k = v1 at g1
      go_wp2
      go_roundw
      case rel => exact ⟨k + 1, by omega, by go_num, HT.out.set N k (by omega) (by omega) true, HB.out.set _ _, HX.out.setCell (by show w.heap.size ≤ w.heap.size + 1; omega) _⟩
      case measure => simp [intOf]; omega
    · have hke : k = P := by omega
      subst hke
      clear hc0 hc4
      go_wp2_with fail
      go_loopw [6] (fun i wr => ∃ r j : Nat, r + j = N ∧ i = .int .i64 ((r : Int) - 1) ∧ Hid (Mrk wr (w.heap.size + 1) (openK L k N j)) ∧ Hid (OB w wr) ∧ Hid (Ext w wr)) (fun i _ => (intOf i + 1).toNat)
      case atStart => exact ⟨N, 0, by omega, rfl, HT, HB, HX⟩
      case round =>
        clear HT HB HX hl4 hTl
        obtain ⟨wo, rfl⟩ : ∃ wo : World, wo = wr := ⟨_, rfl⟩
        obtain ⟨r, j, hrj, rfl, HT, HB, HX⟩ := hrel
        have hTl := HT.out.lt
        cases r with
        | succ q =>
          have eq1 : (((q + 1 : Nat) : Int) - 1) = (q : Int) := by omega
          rw [eq1]
          clear eq1
          have hcp := HX.out.cell HCW.out.1
          have hqN : q < 10 := by omega
          have dq : decide ((0 : Int) ≤ (q : Int)) = true := decide_eq_true (by omega)
          have hqj : N - (j + 1) = q := by omega
          have HQJ := Lib.hid hqj; clear hqj
          have HRJ := Lib.hid hrj; clear hrj
          go_wp2_with fail
          go_loopw [45] (fun i wr => ∃ f : Nat, f ≤ k ∧ i = .int .i64 f ∧ Hid (Mrk wr (w.heap.size + 1) (openF L k q f (openK L k N j))) ∧ Hid (OB w wr) ∧ Hid (Ext w wr)) (fun i _ => k - (intOf i).toNat)
          case atStart => exact ⟨0, by omega, rfl, HT, HB, HX⟩
          case round =>
            clear HT HB HX hTl hcp
            obtain ⟨wx, rfl⟩ : ∃ wx : World, wx = wr := ⟨_, rfl⟩
            obtain ⟨f, hf, rfl, HT, HB, HX⟩ := hrel
            have hcp := HX.out.cell HCW.out.1
            by_cases hltf : f < k
            · have df : decide ((f : Int) < (k : Int)) = true := by simpa using hltf
              go_wp2_with fail
              go_loopw [53] (fun i wr => ∃ g : Nat, g ≤ k ∧ i = .int .i64 g ∧ Hid (Mrk wr (w.heap.size + 1) (openG L q f g (openF L k q f (openK L k N j)))) ∧ Hid (OB w wr) ∧ Hid (Ext w wr)) (fun i _ => k - (intOf i).toNat)
              case atStart => exact ⟨0, by omega, rfl, HT, HB, HX⟩
              case round =>
                clear HT HB HX hcp
                obtain ⟨g, hg, rfl, HT, HB, HX⟩ := hrel
                by_cases hltg : g < k
                · have dg : decide ((g : Int) < (k : Int)) = true := by simpa using hltg
                  have g1 := HT.out.cell (q + 1) g (by omega) (by omega)
                  have g2 := HT.out.cell q f (by omega) (by omega)
                  have f2 := HT.out.frozen (q * 12 + f)
                  have HCL := Lib.hid (canLead_any p t L q f g wr (HW.out.ext HX.out) hqN (by omega) (by omega))
                  have i1 : (0 : Int) ≤ q := by omega
                  have i2 : (q : Int) < 11 := by omega
                  have i3 : (0 : Int) ≤ f := by omega
                  have i4 : (f : Int) < 12 := by omega
                  have i5 : (0 : Int) ≤ g := by omega
                  have i6 : (g : Int) < 12 := by omega
                  have i7 : (0 : Int) ≤ (q : Int) + 1 := by omega
                  have i8 : (q : Int) + 1 < 11 := by omega
                  have hst := openG_succ L q f g (openF L k q f (openK L k N j))
                  generalize openG L q f g (openF L k q f (openK L k N j)) = T at *
                  have HS := Lib.hid hst; clear hst
                  generalize T q f = v2 at g2
                  cases hA : T (q + 1) g
                  · rw [hA] at g1
                    have HS2 : Hid (openG L q f (g + 1) (openF L k q f (openK L k N j)) = T) := by have := HS.out; rw [hA] at this; simpa [Hid] using this
                    clear hA
                    go_wp2
                    go_roundw
                    case rel => exact ⟨g + 1, by omega, by go_num, by rw [HS2.out]; exact HT, HB, HX⟩
                    case measure => simp [intOf]; omega
                  · rw [hA] at g1
                    cases hB : L q f g
                    · have HS2 : Hid (openG L q f (g + 1) (openF L k q f (openK L k N j)) = T) := by have := HS.out; rw [hA, hB] at this; simpa [Hid] using this
                      rw [hB] at HCL
                      clear hA hB
                      go_wp2_with (go_at_call 45; refine HCL.out.mono ?_; rintro e w' ⟨rfl, rfl⟩)
                      go_roundw
                      case rel => exact ⟨g + 1, by omega, by go_num, by rw [HS2.out]; exact HT, HB, HX⟩
                      case measure => simp [intOf]; omega
                    · have HS2 : Hid (openG L q f (g + 1) (openF L k q f (openK L k N j)) = upd T q f true) := by have := HS.out; rw [hA, hB] at this; simpa [Hid] using this
                      rw [hB] at HCL
                      clear hA hB
                      go_wp2_with (go_at_call 45; refine HCL.out.mono ?_; rintro e w' ⟨rfl, rfl⟩)
                      go_roundw
                      case rel => exact ⟨g + 1, by omega, by go_num, by rw [HS2.out]; exact HT.out.set q f (by omega) (by omega) true, HB.out.set _ _, HX.out.setCell (by show w.heap.size ≤ w.heap.size + 1; omega) _⟩
                      case measure => simp [intOf]; omega
                · have hge : g = k := by omega
                  subst hge
                  go_wp2
                  go_roundw
                  case rel => exact ⟨f + 1, by omega, by go_num, HT, HB, HX⟩
                  case measure => simp [intOf]; omega
            · have hfe : f = k := by omega
              subst hfe
              go_wp2
              go_roundw
              case rel => exact ⟨q, j + 1, by have := HRJ.out; omega, rfl, by show Mrk _ _ (openF L f (N - (j + 1)) f (openK L f N j)); rw [HQJ.out]; exact HT.out, HB, HX⟩
              case measure => simp [intOf]
        | zero =>
          have hjN : j = N := by omega
          have HJN := Lib.hid hjN; clear hjN hrj
          obtain ⟨cs, hcs, hsz, hce⟩ := HT.out
          have HCE := Lib.hid hce; clear hce
          have HCS := Lib.hid hcs; clear hcs
          have hinf : (Tryz.prog.info? 88).map (·.size) = some cs.size := by rw [hsz]; kernel_rfl
          have HInf := Lib.hid hinf; clear hinf
          have HSz := Lib.hid hsz; clear hsz
          have HOne := Lib.hid (mrk_one HSz.out HCE.out)
          have hzs : Tryz.zeroCells88.size = cs.size := by rw [HSz.out]; kernel_rfl
          have HZs := Lib.hid hzs; clear hzs
          go_wp2_with (first | (refine wpList_load_row rfl 88 (.tmp 4) rfl (w.heap.size + 1) rfl 88 cs (0, 0) _ HCS.out Tryz.underlying88 rfl HInf.out ?_) | (refine wpList_store_row rfl 88 (.tmp 2) (.tmp 75) rfl w.heap.size cs rfl rfl 88 Tryz.zeroCells88 HB.out HInf.out HZs.out HOne.out ?_))
          refine bodyPost_ret (v := .agg cs) (results_cell_row rfl _ _ w.heap.size 88 cs (0, 0) _ rfl (setRow_heap _ _ _ _ _ _ HB.out) Tryz.underlying88 rfl HInf.out) rfl ?_
          refine ⟨cs, rfl, HSz.out, fun f' g' hf' hg' => ?_, HX.out.setRow (Nat.le_refl _) _⟩
          rw [HCE.out f' g' hf' hg', HJN.out]
end Go.Proofs.YtopjjcgmcieboaaGreatDoor
