/-
  follow of package treaty returns the table of where a leg with a meaning can lead along ways, and turns nothing that was there. The ways and the meaning must read as told, and the ways' places be less than 12.
-/
import Derived.Test.YtopjjcgmcieboaaGreatDoorL
import Derived.Laws.Rows
import Derived.RegionTactic
import Derived.Deep.RegionWith
namespace Go.Proofs.YtopjjcgmcieboaaGreatDoor
open Go.RowKit

/-- A table of 12 rows of 12 truths lies in block B. -/
def Tab (w : World) (B : Nat) (T : Nat → Nat → Bool) : Prop :=
  ∃ cs : Array Value, w.heap[B]? = some (.cells cs 110 (0, 0)) ∧ cs.size = 144 ∧ ∀ f t, f < 12 → t < 12 → cs[f * 12 + t]? = some (.bool (T f t))
def upd (T : Nat → Nat → Bool) (f t : Nat) (b : Bool) : Nat → Nat → Bool := fun f' t' => if f' = f ∧ t' = t then b else T f' t'

theorem Tab.ext {w w' : World} {B : Nat} {T : Nat → Nat → Bool} (h : Tab w B T) (k : Ext w w') : Tab w' B T := by
  obtain ⟨cs, h1, h2⟩ := h; exact ⟨cs, k.block h1, h2⟩
theorem Tab.lt {w : World} {B : Nat} {T : Nat → Nat → Bool} (h : Tab w B T) : B < w.heap.size := by
  obtain ⟨cs, h1, h2⟩ := h; exact (Array.getElem?_eq_some_iff.1 h1).1
theorem Tab.cell {w : World} {B : Nat} {T : Nat → Nat → Bool} (h : Tab w B T) (f t : Nat) (hf : f < 12) (ht : t < 12) : w.cell? ⟨B, f * 12 + t, none⟩ = some (.bool (T f t)) := by
  obtain ⟨cs, h1, h2, h3⟩ := h; rw [cell_at h1, h3 f t hf ht]
theorem Tab.frozen {w : World} {B : Nat} {T : Nat → Nat → Bool} (h : Tab w B T) (i : Nat) : w.frozen? ⟨B, i, none⟩ = false := by
  obtain ⟨cs, h1, h2⟩ := h; simp [World.frozen?, h1]
theorem Tab.set {w : World} {B : Nat} {T : Nat → Nat → Bool} (h : Tab w B T) (f t : Nat) (hf : f < 12) (ht : t < 12) (b : Bool) : Tab (w.setCell ⟨B, f * 12 + t, none⟩ (.bool b)) B (upd T f t b) := by
  obtain ⟨cs, h1, h2, h3⟩ := h
  refine ⟨_, YtopjjcgmcieboaaGreatDoor.heap_setCell_same h1 _, by simpa using h2, fun f' t' hf' ht' => ?_⟩
  rw [Array.getElem?_setIfInBounds]
  unfold upd
  by_cases e : f' = f ∧ t' = t
  · obtain ⟨rfl, rfl⟩ := e; simp; omega
  · rw [if_neg e, if_neg (by omega)]; exact h3 f' t' hf' ht'
theorem Tab.drew {w : World} {B : Nat} {T : Nat → Nat → Bool} (h : Tab w B T) : Tab w.drew B T := h

/-- The table behind the first ways. -/
def wayT (kinds : List Nat) (l : List (Nat × Nat × Nat)) (k : Nat) : Nat → Nat → Bool :=
  (l.take k).foldl (fun T x => if kinds.contains x.2.2 then upd (upd T x.1 x.2.1 true) x.2.1 x.1 true else T) (fun _ _ => false)
theorem wayT_succ (kinds : List Nat) (l : List (Nat × Nat × Nat)) (k : Nat) (h : k < l.length) :
    wayT kinds l (k + 1) = if kinds.contains l[k].2.2 then upd (upd (wayT kinds l k) l[k].1 l[k].2.1 true) l[k].2.1 l[k].1 true else wayT kinds l k := by
  unfold wayT; rw [List.take_succ_eq_append_getElem h, List.foldl_append]; rfl
theorem upd_comm (T : Nat → Nat → Bool) (a b c d : Nat) : upd (upd T a b true) c d true = upd (upd T c d true) a b true := by
  funext f t; unfold upd; split <;> split <;> rfl

theorem zeroTab (w : World) : Tab (w.alloc (.cells Tryz.zeroCells110 110)) w.heap.size (fun _ _ => false) := by
  refine ⟨_, World.alloc_heap_new w _, by kernel_rfl, fun f t hf ht => ?_⟩
  have hz : Tryz.zeroCells110 = (Array.replicate 144 (.bool false)) := by kernel_rfl
  rw [hz, Array.getElem?_replicate, if_pos (by omega)]

theorem heap_set_other {w : World} {o : Obj} (b g i : Nat) (v : Value) (h : w.heap[b]? = some o) (hne : b ≠ g) : (w.setCell ⟨g, i, none⟩ v).heap[b]? = some o := by
  rw [Below.heap_setCell _ _ _ _ hne]; exact h

/-- follow's boxes: the meaning, and the result's, not yet written. -/
def FB (w wr : World) (m : MV) : Prop := wr.heap[w.heap.size]? = some (.cells #[.slice m.k.a m.k.l.length m.k.c, .slice m.e.a m.e.l.length m.e.c] 57) ∧ wr.heap[w.heap.size + 1]? = some (.cells Tryz.zeroCells110 110)
theorem FB.ext {w a b : World} {m : MV} (h : FB w a m) (k : Ext a b) : FB w b m := ⟨k.block h.1, k.block h.2⟩
theorem FB.drew {w a : World} {m : MV} (h : FB w a m) : FB w a.drew m := h
theorem FB.set {w a : World} {m : MV} (h : FB w a m) (i : Nat) (v : Value) : FB w (a.setCell ⟨w.heap.size + 1 + 1, i, none⟩ v) m :=
  ⟨heap_set_other _ _ _ _ h.1 (by omega), heap_set_other _ _ _ _ h.2 (by omega)⟩

theorem tab_one {cs : Array Value} {T : Nat → Nat → Bool} (hsz : cs.size = 144) (h : ∀ f t, f < 12 → t < 12 → cs[f * 12 + t]? = some (.bool (T f t))) : cs.all (·.oneCell') = true := by
  rw [Array.all_eq_true]
  intro i hi
  have := h (i / 12) (i % 12) (by omega) (by omega)
  rw [show i / 12 * 12 + i % 12 = i by omega, Array.getElem?_eq_getElem hi, Option.some.injEq] at this
  rw [this]; rfl

/-- Going on by a place: the table's row f, up to column n. -/
def stepT (v f : Nat) : Nat → (Nat → Nat → Bool) → Nat → Nat → Bool
  | 0, T => T
  | n + 1, T => upd (stepT v f n T) f n (stepT v f n T f n || (stepT v f n T f v && stepT v f n T v n))
def stepF (v : Nat) : Nat → (Nat → Nat → Bool) → Nat → Nat → Bool
  | 0, T => T
  | n + 1, T => stepT v n 12 (stepF v n T)
def stepV : Nat → (Nat → Nat → Bool) → Nat → Nat → Bool
  | 0, T => T
  | n + 1, T => stepF n 12 (stepV n T)
theorem stepT_succ (v f n : Nat) (T : Nat → Nat → Bool) : stepT v f (n + 1) T = upd (stepT v f n T) f n (stepT v f n T f n || (stepT v f n T f v && stepT v f n T v n)) := rfl
theorem stepF_succ (v n : Nat) (T : Nat → Nat → Bool) : stepF v (n + 1) T = stepT v n 12 (stepF v n T) := rfl
theorem stepV_succ (n : Nat) (T : Nat → Nat → Bool) : stepV (n + 1) T = stepF n 12 (stepV n T) := rfl

/-- Keeping row f's places that are ends, up to column n. -/
def maskT (ends : List Nat) (f : Nat) : Nat → (Nat → Nat → Bool) → Nat → Nat → Bool
  | 0, T => T
  | n + 1, T => upd (maskT ends f n T) f n (maskT ends f n T f n && ends.contains n)
def maskF (ends : List Nat) : Nat → (Nat → Nat → Bool) → Nat → Nat → Bool
  | 0, T => T
  | n + 1, T => maskT ends n 12 (maskF ends n T)
theorem maskT_succ (ends : List Nat) (f n : Nat) (T : Nat → Nat → Bool) : maskT ends f (n + 1) T = upd (maskT ends f n T) f n (maskT ends f n T f n && ends.contains n) := rfl

/-- Where a leg can lead: along ways of the kinds, to the ends. -/
def leadF (l : List (Nat × Nat × Nat)) (kinds ends : List Nat) : Nat → Nat → Bool := maskF ends 12 (stepV 12 (wayT kinds l l.length))

theorem Ext.setRow {a w : World} (h : Ext a w) {g : Nat} (hg : a.heap.size ≤ g) (cs : Array Value) : Ext a (w.setRow g cs) := by
  refine Below.trans h ⟨rfl, rfl, rfl, by simp [World.setRow], fun k hk => ?_⟩
  simp only [World.setRow, Array.getElem?_modify]
  rw [if_neg (by omega)]

set_option maxRecDepth 100000 in
set_option maxHeartbeats 4000000 in
theorem follow_any (a : Option Addr) (n c : Nat) (l : List (Nat × Nat × Nat)) (m : MV) (w : World) (hn : l.length = n) (hl : l.length ≤ 1000) (hv : IsSl 3 wayC w ⟨a, c, l⟩) (hm : IsMean w m)
    (hw12 : ∀ x ∈ l, x.1 < 12 ∧ x.2.1 < 12) :
    Calls Tryz.prog 75 #[.slice a n c, meanV m] w fun e w' => ∃ cs : Array Value, e = .returned (.agg cs) ∧ cs.size = 144 ∧ (∀ f t, f < 12 → t < 12 → cs[f * 12 + t]? = some (.bool (leadF l m.k.l m.e.l f t))) ∧ Ext w w' := by
  subst hn
  obtain ⟨h1, h2, h3⟩ := hv
  dsimp only at h1 h2 h3
  have H3 := Lib.hid h3; clear h3
  have HM := Lib.hid hm; clear hm
  have HW := Lib.hid hw12; clear hw12
  have hT0 := zeroTab ((w.alloc (.cells #[.slice m.k.a m.k.l.length m.k.c, .slice m.e.a m.e.l.length m.e.c] 57)).alloc (.cells Tryz.zeroCells110 110))
  rw [World.size_alloc, World.size_alloc] at hT0
  have HT0 := Lib.hid hT0; clear hT0
  have HB0 : Hid (FB w (((w.alloc (.cells #[.slice m.k.a m.k.l.length m.k.c, .slice m.e.a m.e.l.length m.e.c] 57)).alloc (.cells Tryz.zeroCells110 110)).alloc (.cells Tryz.zeroCells110 110)) m) := by
    refine ⟨(((Ext.refl _).alloc _).alloc _).laid, ?_⟩
    have := ((Ext.refl ((w.alloc (.cells #[.slice m.k.a m.k.l.length m.k.c, .slice m.e.a m.e.l.length m.e.c] 57)).alloc (.cells Tryz.zeroCells110 110))).alloc (.cells Tryz.zeroCells110 110)).laid
    rwa [World.size_alloc] at this
  have HE0 : Hid (Ext w (((w.alloc (.cells #[.slice m.k.a m.k.l.length m.k.c, .slice m.e.a m.e.l.length m.e.c] 57)).alloc (.cells Tryz.zeroCells110 110)).alloc (.cells Tryz.zeroCells110 110))) := ((((Ext.refl w).alloc _).alloc _).alloc _)
  go_enter Tryz.func75, Tryz.ntmps75
  go_wp2_with fail
  go_loopw [15] (fun i wr => ∃ k : Nat, k ≤ l.length ∧ i = .int .i64 k ∧ Hid (Tab wr (w.heap.size + 1 + 1) (wayT m.k.l l k)) ∧ Hid (FB w wr m) ∧ Hid (Ext w wr)) (fun i _ => l.length - (intOf i).toNat)
  case atStart => exact ⟨0, Nat.zero_le _, rfl, HT0, HB0, HE0⟩
  case round =>
    obtain ⟨k, hk, rfl, HT, HB, HX⟩ := hrel
    by_cases hlt : k < l.length
    · obtain ⟨b, off, rfl, hc⟩ := H3.out.resolve_left (by omega)
      have hcell0 : wr.cell? ⟨b, off + k * 3, none⟩ = some (.int .i64 (l[k].1 : Int)) := by have := HX.out.cell (hc k hlt 0 (by omega)); simpa [wayC] using this
      have hcell1 : wr.cell? ⟨b, off + k * 3 + 1, none⟩ = some (.int .i64 (l[k].2.1 : Int)) := by have := HX.out.cell (hc k hlt 1 (by omega)); simpa [wayC] using this
      have hcell2 : wr.cell? ⟨b, off + k * 3 + 2, none⟩ = some (.int .i64 (l[k].2.2 : Int)) := by have := HX.out.cell (hc k hlt 2 (by omega)); simpa [wayC] using this
      clear hc
      have hws := wayT_succ m.k.l l k hlt
      have hx12 := HW.out l[k] (List.getElem_mem _)
      generalize l[k] = x at *
      obtain ⟨x1, x2, x3⟩ := x
      dsimp only at *
      have HS := Lib.hid hws; clear hws
      obtain ⟨hx1, hx2⟩ := hx12
      have hTl := HT.out.lt
      have hcm := cell_at HB.out.1
      have hb0 : w.heap.size < wr.heap.size := by omega
      go_wp2_with fail
      refine (contains_any _ _ _ m.k.l x3 _ rfl (HM.out.1.ext (HX.out.alloc _))).mono ?_
      rintro e w2 ⟨rfl, rfl⟩
      cases hct : m.k.l.contains x3
      · have HS2 : Hid (wayT m.k.l l (k + 1) = wayT m.k.l l k) := by have := HS.out; rw [hct] at this; simpa [Hid] using this
        clear hct
        go_wp2
        go_roundw
        case rel => exact ⟨k + 1, by omega, by go_num, by rw [HS2.out]; exact HT.out.ext ((Ext.refl _).alloc _), HB.out.ext ((Ext.refl _).alloc _), HX.out.alloc _⟩
        case measure => simp [intOf]; omega
      · have HS2 : Hid (wayT m.k.l l (k + 1) = upd (upd (wayT m.k.l l k) x1 x2 true) x2 x1 true) := by have := HS.out; rw [hct] at this; simpa [Hid] using this
        clear hct
        have g1 := HT.out.cell x1 x2 hx1 hx2
        have g2 := HT.out.cell x2 x1 hx2 hx1
        have f1 := HT.out.frozen (x1 * 12 + x2)
        have f2 := HT.out.frozen (x2 * 12 + x1)
        have i1 : (0 : Int) ≤ x1 ∧ (x1 : Int) < 12 := by omega
        have i2 : (0 : Int) ≤ x2 ∧ (x2 : Int) < 12 := by omega
        obtain ⟨i1a, i1b⟩ := i1
        obtain ⟨i2a, i2b⟩ := i2
        have s1 := (HT.out.set x1 x2 hx1 hx2 true).cell x2 x1 hx2 hx1
        have s2 := (HT.out.set x2 x1 hx2 hx1 true).cell x1 x2 hx1 hx2
        generalize upd (wayT m.k.l l k) x1 x2 true x2 x1 = v1 at s1
        generalize upd (wayT m.k.l l k) x2 x1 true x1 x2 = v2 at s2
        generalize wayT m.k.l l k x1 x2 = v3 at g1
        generalize wayT m.k.l l k x2 x1 = v4 at g2
        go_wp2_with fail
        go_region
        go_wp2
        go_roundw
        case rel => exact ⟨k + 1, by omega, by go_num, by rw [HS2.out]; exact ((HT.out.set x1 x2 hx1 hx2 true).set x2 x1 hx2 hx1 true).ext ((Ext.refl _).alloc _).drew, (((HB.out.set _ _).set _ _).ext ((Ext.refl _).alloc _).drew), (((HX.out.setCell (by show w.heap.size ≤ w.heap.size + 1 + 1; omega) _).setCell (by show w.heap.size ≤ w.heap.size + 1 + 1; omega) _).alloc _).drew⟩
        case measure => simp [intOf]; omega
    · have hke : k = l.length := by omega
      subst hke
      have hTl := HT.out.lt
      go_wp2_with fail
      go_loopw [37] (fun i wr => ∃ v : Nat, v ≤ 12 ∧ i = .int .i64 v ∧ Hid (Tab wr (w.heap.size + 1 + 1) (stepV v (wayT m.k.l l l.length))) ∧ Hid (FB w wr m) ∧ Hid (Ext w wr)) (fun i _ => 12 - (intOf i).toNat)
      case atStart => exact ⟨0, by omega, rfl, HT, HB, HX⟩
      case round =>
        clear HT HB HX hTl
        obtain ⟨v, hv, rfl, HT, HB, HX⟩ := hrel
        by_cases hv12 : v < 12
        · go_wp2_with fail
          go_loopw [40] (fun i wr => ∃ f : Nat, f ≤ 12 ∧ i = .int .i64 f ∧ Hid (Tab wr (w.heap.size + 1 + 1) (stepF v f (stepV v (wayT m.k.l l l.length)))) ∧ Hid (FB w wr m) ∧ Hid (Ext w wr)) (fun i _ => 12 - (intOf i).toNat)
          case atStart => exact ⟨0, by omega, rfl, HT, HB, HX⟩
          case round =>
            clear HT HB HX
            obtain ⟨f, hf, rfl, HT, HB, HX⟩ := hrel
            by_cases hf12 : f < 12
            · go_wp2_with fail
              go_loopw [43] (fun i wr => ∃ t : Nat, t ≤ 12 ∧ i = .int .i64 t ∧ Hid (Tab wr (w.heap.size + 1 + 1) (stepT v f t (stepF v f (stepV v (wayT m.k.l l l.length))))) ∧ Hid (FB w wr m) ∧ Hid (Ext w wr)) (fun i _ => 12 - (intOf i).toNat)
              case atStart => exact ⟨0, by omega, rfl, HT, HB, HX⟩
              case round =>
                clear HT HB HX
                obtain ⟨t, ht, rfl, HT, HB, HX⟩ := hrel
                by_cases ht12 : t < 12
                · have g1 := HT.out.cell f t hf12 ht12
                  have g2 := HT.out.cell f v hf12 hv12
                  have g3 := HT.out.cell v t hv12 ht12
                  have f1 := HT.out.frozen (f * 12 + t)
                  have i1 : (0 : Int) ≤ f := by omega
                  have i2 : (f : Int) < 12 := by omega
                  have i3 : (0 : Int) ≤ t := by omega
                  have i4 : (t : Int) < 12 := by omega
                  have i5 : (0 : Int) ≤ v := by omega
                  have i6 : (v : Int) < 12 := by omega
                  have hst := stepT_succ v f t (stepF v f (stepV v (wayT m.k.l l l.length)))
                  generalize stepT v f t (stepF v f (stepV v (wayT m.k.l l l.length))) = T at *
                  have HS := Lib.hid hst; clear hst
                  cases hA : T f t
                  · rw [hA] at g1
                    cases hB : T f v
                    · rw [hB] at g2
                      have HS2 : Hid (stepT v f (t + 1) (stepF v f (stepV v (wayT m.k.l l l.length))) = upd T f t false) := by have := HS.out; rw [hA, hB] at this; simpa [Hid] using this
                      clear hA hB
                      generalize T v t = b3 at g3
                      go_wp2_with fail
                      go_region
                      go_wp2
                      go_roundw
                      case rel => exact ⟨t + 1, by omega, by go_num, by rw [HS2.out]; exact (HT.out.set f t hf12 ht12 false).drew, (HB.out.set _ _).drew, (HX.out.setCell (by show w.heap.size ≤ w.heap.size + 1 + 1; omega) _).drew⟩
                      case measure => simp [intOf]; omega
                    · rw [hB] at g2
                      cases hC : T v t
                      · rw [hC] at g3
                        have HS2 : Hid (stepT v f (t + 1) (stepF v f (stepV v (wayT m.k.l l l.length))) = upd T f t false) := by have := HS.out; rw [hA, hB, hC] at this; simpa [Hid] using this
                        clear hA hB hC
                        go_wp2_with fail
                        go_region
                        go_wp2
                        go_roundw
                        case rel => exact ⟨t + 1, by omega, by go_num, by rw [HS2.out]; exact (HT.out.set f t hf12 ht12 false).drew, (HB.out.set _ _).drew, (HX.out.setCell (by show w.heap.size ≤ w.heap.size + 1 + 1; omega) _).drew⟩
                        case measure => simp [intOf]; omega
                      · rw [hC] at g3
                        have HS2 : Hid (stepT v f (t + 1) (stepF v f (stepV v (wayT m.k.l l l.length))) = upd T f t true) := by have := HS.out; rw [hA, hB, hC] at this; simpa [Hid] using this
                        clear hA hB hC
                        go_wp2_with fail
                        go_region
                        go_wp2
                        go_roundw
                        case rel => exact ⟨t + 1, by omega, by go_num, by rw [HS2.out]; exact (HT.out.set f t hf12 ht12 true).drew, (HB.out.set _ _).drew, (HX.out.setCell (by show w.heap.size ≤ w.heap.size + 1 + 1; omega) _).drew⟩
                        case measure => simp [intOf]; omega
                  · rw [hA] at g1
                    have HS2 : Hid (stepT v f (t + 1) (stepF v f (stepV v (wayT m.k.l l l.length))) = upd T f t true) := by have := HS.out; rw [hA] at this; simpa [Hid] using this
                    clear hA
                    generalize T f v = b2 at g2
                    generalize T v t = b3 at g3
                    go_wp2_with fail
                    go_region
                    go_wp2
                    go_roundw
                    case rel => exact ⟨t + 1, by omega, by go_num, by rw [HS2.out]; exact (HT.out.set f t hf12 ht12 true).drew, (HB.out.set _ _).drew, (HX.out.setCell (by show w.heap.size ≤ w.heap.size + 1 + 1; omega) _).drew⟩
                    case measure => simp [intOf]; omega
                · obtain rfl : t = 12 := by omega
                  go_wp2
                  go_roundw
                  case rel => exact ⟨f + 1, by omega, by go_num, HT, HB, HX⟩
                  case measure => simp [intOf]; omega
            · obtain rfl : f = 12 := by omega
              go_wp2
              go_roundw
              case rel => exact ⟨v + 1, by omega, by go_num, HT, HB, HX⟩
              case measure => simp [intOf]; omega
        · have hve : v = 12 := by omega
          have HV := Lib.hid hve; clear hve
          have dv : decide ((v : Int) < 12) = false := decide_eq_false (by omega)
          go_wp2_with fail
          obtain ⟨T0, hT0⟩ : ∃ T0, stepV v (wayT m.k.l l l.length) = T0 := ⟨_, rfl⟩
          rw [hT0] at HT
          have HT0' := Lib.hid hT0; clear hT0
          go_loopw [72] (fun i wr => ∃ f : Nat, f ≤ 12 ∧ i = .int .i64 f ∧ Hid (Tab wr (w.heap.size + 1 + 1) (maskF m.e.l f T0)) ∧ Hid (FB w wr m) ∧ Hid (Ext w wr)) (fun i _ => 12 - (intOf i).toNat)
          case atStart => exact ⟨0, by omega, rfl, HT, HB, HX⟩
          case round =>
            clear HT HB HX
            obtain ⟨f, hf, rfl, HT, HB, HX⟩ := hrel
            by_cases hf12 : f < 12
            · have df : decide ((f : Int) < 12) = true := decide_eq_true (by omega)
              go_wp2_with fail
              go_loopw [75] (fun i wr => ∃ t : Nat, t ≤ 12 ∧ i = .int .i64 t ∧ Hid (Tab wr (w.heap.size + 1 + 1) (maskT m.e.l f t (maskF m.e.l f T0))) ∧ Hid (FB w wr m) ∧ Hid (Ext w wr)) (fun i _ => 12 - (intOf i).toNat)
              case atStart => exact ⟨0, by omega, rfl, HT, HB, HX⟩
              case round =>
                clear HT HB HX
                obtain ⟨t, ht, rfl, HT, HB, HX⟩ := hrel
                by_cases ht12 : t < 12
                · have dt : decide ((t : Int) < 12) = true := decide_eq_true (by omega)
                  have g1 := HT.out.cell f t hf12 ht12
                  have f1 := HT.out.frozen (f * 12 + t)
                  have i1 : (0 : Int) ≤ f := by omega
                  have i2 : (f : Int) < 12 := by omega
                  have i3 : (0 : Int) ≤ t := by omega
                  have i4 : (t : Int) < 12 := by omega
                  have hTl := HT.out.lt
                  have hcm := cell_at HB.out.1 1
                  simp only [List.getElem?_toArray, List.getElem?_cons_succ, List.getElem?_cons_zero] at hcm
                  have hst := maskT_succ m.e.l f t (maskF m.e.l f T0)
                  generalize maskT m.e.l f t (maskF m.e.l f T0) = T at *
                  have HS := Lib.hid hst; clear hst
                  cases hA : T f t
                  · rw [hA] at g1
                    have HS2 : Hid (maskT m.e.l f (t + 1) (maskF m.e.l f T0) = upd T f t false) := by have := HS.out; rw [hA] at this; simpa [Hid] using this
                    clear hA
                    go_wp2_with fail
                    go_region
                    go_wp2
                    go_roundw
                    case rel => exact ⟨t + 1, by omega, by go_num, by rw [HS2.out]; exact (HT.out.set f t hf12 ht12 false).drew, (HB.out.set _ _).drew, (HX.out.setCell (by show w.heap.size ≤ w.heap.size + 1 + 1; omega) _).drew⟩
                    case measure => simp [intOf]; omega
                  · rw [hA] at g1
                    cases hE : m.e.l.contains t
                    · have HS2 : Hid (maskT m.e.l f (t + 1) (maskF m.e.l f T0) = upd T f t false) := by have := HS.out; rw [hA, hE] at this; simpa [Hid] using this
                      have HC : Hid (∀ w', Ext w w' → Calls Tryz.prog 44 #[.slice m.e.a m.e.l.length m.e.c, .int .i64 (t : Int)] w' fun e w'' => e = .returned (.bool false) ∧ w' = w'') := fun w' hw => by have := contains_any m.e.a _ m.e.c m.e.l t w' rfl (HM.out.2.ext hw); rwa [hE] at this
                      clear hA hE
                      go_wp2_with fail
                      go_region_with ((go_at_call 44; refine (HC.out _ ?_).mono ?_; exact HX.out.drew; rintro e w' ⟨rfl, rfl⟩))
                      go_wp2
                      go_roundw
                      case rel => exact ⟨t + 1, by omega, by go_num, by rw [HS2.out]; exact (HT.out.set f t hf12 ht12 false).drew, (HB.out.set _ _).drew, (HX.out.setCell (by show w.heap.size ≤ w.heap.size + 1 + 1; omega) _).drew⟩
                      case measure => simp [intOf]; omega
                    · have HS2 : Hid (maskT m.e.l f (t + 1) (maskF m.e.l f T0) = upd T f t true) := by have := HS.out; rw [hA, hE] at this; simpa [Hid] using this
                      have HC : Hid (∀ w', Ext w w' → Calls Tryz.prog 44 #[.slice m.e.a m.e.l.length m.e.c, .int .i64 (t : Int)] w' fun e w'' => e = .returned (.bool true) ∧ w' = w'') := fun w' hw => by have := contains_any m.e.a _ m.e.c m.e.l t w' rfl (HM.out.2.ext hw); rwa [hE] at this
                      clear hA hE
                      go_wp2_with fail
                      go_region_with ((go_at_call 44; refine (HC.out _ ?_).mono ?_; exact HX.out.drew; rintro e w' ⟨rfl, rfl⟩))
                      go_wp2
                      go_roundw
                      case rel => exact ⟨t + 1, by omega, by go_num, by rw [HS2.out]; exact (HT.out.set f t hf12 ht12 true).drew, (HB.out.set _ _).drew, (HX.out.setCell (by show w.heap.size ≤ w.heap.size + 1 + 1; omega) _).drew⟩
                      case measure => simp [intOf]; omega
                · obtain rfl : t = 12 := by omega
                  go_wp2
                  go_roundw
                  case rel => exact ⟨f + 1, by omega, by go_num, HT, HB, HX⟩
                  case measure => simp [intOf]; omega
            · obtain rfl : f = 12 := by omega
              obtain ⟨cs, hcs, hsz, hce⟩ := HT.out
              have HCE := Lib.hid hce; clear hce
              have HCS := Lib.hid hcs; clear hcs
              have hinf : (Tryz.prog.info? 110).map (·.size) = some cs.size := by rw [hsz]; kernel_rfl
              have HInf := Lib.hid hinf; clear hinf
              have HSz := Lib.hid hsz; clear hsz
              have HOne := Lib.hid (tab_one HSz.out HCE.out)
              have hzs : Tryz.zeroCells110.size = cs.size := by rw [HSz.out]; kernel_rfl
              have HZs := Lib.hid hzs; clear hzs
              go_wp2_with (first | (refine wpList_load_row rfl 110 (.tmp 5) rfl (w.heap.size + 1 + 1) rfl 110 cs (0, 0) _ HCS.out Tryz.underlying110 rfl HInf.out ?_) | (refine wpList_store_row rfl 110 (.tmp 4) (.tmp 95) rfl (w.heap.size + 1) cs rfl rfl 110 Tryz.zeroCells110 HB.out.2 HInf.out HZs.out HOne.out ?_))
              refine bodyPost_ret (v := .agg cs) (results_cell_row rfl _ _ (w.heap.size + 1) 110 cs (0, 0) _ rfl (setRow_heap _ _ _ _ _ _ HB.out.2) Tryz.underlying110 rfl HInf.out) rfl ?_
              refine ⟨cs, rfl, HSz.out, fun f' t' hf' ht' => ?_, HX.out.setRow (by omega) _⟩
              rw [HCE.out f' t' hf' ht']
              unfold leadF
              rw [← HT0'.out, HV.out]
end Go.Proofs.YtopjjcgmcieboaaGreatDoor
