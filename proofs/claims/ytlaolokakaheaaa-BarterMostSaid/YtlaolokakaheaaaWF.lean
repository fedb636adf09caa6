/-
  worthsOf of package barter: what stretches count. The land at work and the list must lie in memory as told.
-/
import Derived.Test.YtlaolokakaheaaaOD
import Derived.Test.YtlaolokakaheaaaSUW
import Derived.Test.YtlaolokakaheaaaBE
namespace Go.Proofs.Ytlaolokakaheaaa
open Go.RowKit

/-- Which function counts. -/
def cfN (b : Bool) : Nat := if b then 48 else 63
/-- A land at work in a block. -/
def IsWk (w : World) (B : Nat) (x : Ld) (b : Bool) : Prop := w.heap[B]? = some (.cells #[.slice x.s.a x.s.l.length x.s.c, .slice x.v.a x.v.l.length x.v.c, .func (.func (cfN b)) #[] #[]] 86 (0, 0))
theorem IsWk.cells {w : World} {B : Nat} {x : Ld} {b : Bool} (h : IsWk w B x b) : w.cell? ⟨B, 0, none⟩ = some (.slice x.s.a x.s.l.length x.s.c) ∧ w.cell? ⟨B, 1, none⟩ = some (.slice x.v.a x.v.l.length x.v.c) ∧ w.cell? ⟨B, 2, none⟩ = some (.func (.func (cfN b)) #[] #[]) :=
  ⟨cell_at h 0, cell_at h 1, cell_at h 2⟩
theorem IsWk.ext {w w' : World} {B : Nat} {x : Ld} {b : Bool} (h : IsWk w B x b) (k : Ext w w') : IsWk w' B x b := k.block h
/-- Of the first k; 0 behind them. -/
def wfK (L : List St) (b : Bool) (l : List Nat) (k : Nat) : List Nat := (l.take k).map (fun i => cntF b (at' L i)) ++ List.replicate (l.length - k) 0
theorem wfK_len (L : List St) (b : Bool) (l : List Nat) (k : Nat) (h : k ≤ l.length) : (wfK L b l k).length = l.length := by simp [wfK]; omega
theorem wfK_zero (L : List St) (b : Bool) (l : List Nat) : wfK L b l 0 = List.replicate l.length 0 := by simp [wfK]
theorem wfK_all (L : List St) (b : Bool) (l : List Nat) : wfK L b l l.length = worthsF L b l := by simp [wfK, worthsF]
theorem wfK_succ (L : List St) (b : Bool) (l : List Nat) (k : Nat) (h : k < l.length) : wfK L b l (k + 1) = (wfK L b l k).set k (cntF b (at' L (pt l k))) := by
  have e : pt l k = l[k] := by unfold pt; rw [List.getElem?_eq_getElem h]; rfl
  rw [e]
  unfold wfK
  rw [List.set_append_right _ _ (by simp; omega)]
  simp only [List.length_map, List.length_take, show min k l.length = k by omega, Nat.sub_self]
  rw [List.take_add_one, List.map_append, List.getElem?_eq_getElem h, List.append_assoc, show l.length - k = (l.length - (k + 1)) + 1 by omega, List.replicate_succ, List.set_cons_zero]
  rfl

set_option maxRecDepth 100000 in
set_option maxHeartbeats 2000000 in
theorem worthsOf_true (x : Ld) (WB : Nat) (a : Option Addr) (c : Nat) (l : List Nat) (w : World) (hw : IsWk w WB x true) (h : StL w x.s) (hk : OkS x.s.l) (hp : IsSl 1 num w ⟨a, c, l⟩) (hl : ∀ k, k < l.length → pt l k < x.s.l.length) :
    Calls Try.prog 52 #[.pointer (some ⟨WB, 0, none⟩), .slice a l.length c] w fun e w' => ∃ g, e = .returned (.slice (some ⟨g, 0, none⟩) l.length l.length) ∧ Row w' g (worthsF x.s.l true l) l.length ∧ w.heap.size ≤ g ∧ Ext w w' := by
  have HCt : Hid (∀ (V : World) (i : Nat), i < x.s.l.length → Calls Try.prog 48 #[.agg #[.int .i64 ((at' x.s.l i).o : Int), .int .i64 ((at' x.s.l i).n : Int), .int .i64 ((at' x.s.l i).s : Int), .int .i64 (at' x.s.l i).w]] V fun e w' => e = .returned (.int .i64 ((cntF true (at' x.s.l i) : Nat) : Int)) ∧ Ext V w') := fun V i _hi => worthBoth_any (at' x.s.l i) V (hk.wr _hi).n2 (hk.wr _hi).s2
  have h2 := hp.2.1
  dsimp only at h2
  have HS := Lib.hid h
  have HP := Lib.hid hp
  have HL := Lib.hid hl
  have HW := Lib.hid hw
  have HWl : Hid (WB < w.heap.size) := (Array.getElem?_eq_some_iff.1 hw).1
  clear h hp hl hw hk
  obtain ⟨⟨sa, sc, L⟩, ⟨va, vc, vl⟩⟩ := x
  dsimp only at *
  have hmk := make_nums l.length h2
  go_enter Try.func52, Try.ntmps52
  go_wp2
  clear hmk
  go_loopw [13] (fun s wr => ∃ k : Nat, k ≤ l.length ∧ s = .int .i64 (k : Int) ∧ Hid (Ext w wr) ∧ Hid (Row wr w.heap.size (wfK L true l k) l.length)) (fun s _ => l.length - (intOf s).toNat)
  case atStart =>
    refine ⟨0, Nat.zero_le _, rfl, (Ext.refl w).alloc _, ?_⟩
    rw [wfK_zero]
    exact ⟨_, alloc_new rfl, by simp, by simp, fun i hi => by simp at hi ⊢; simp [hi]⟩
  case round =>
    obtain ⟨wo, rfl⟩ : ∃ wo : World, wo = wr := ⟨_, rfl⟩
    obtain ⟨k, hk, rfl, HX, HR⟩ := hrel
    by_cases hlt : k < l.length
    · have dk : decide ((k : Int) < (l.length : Int)) = true := decide_eq_true (by omega)
      obtain ⟨pbk, po, rfl, cp⟩ := part_cell (HP.out.ext HX.out) hlt
      have hi := HL.out k hlt
      have HN := Lib.hid (wfK_succ L true l k hlt)
      have HLk : Hid (k < (wfK L true l k).length) := by show _ < _; rw [wfK_len _ _ _ _ hk]; exact hlt
      have cR := HR.out.cell k HLk.out
      have fR := HR.out.frozen k
      generalize (wfK L true l k)[k]'_ = old at cR
      have HRr : Hid (∀ v, Ext wo v → v.cell? ⟨w.heap.size, k, none⟩ = some (.int .i64 (old : Int)) ∧ v.frozen? ⟨w.heap.size, k, none⟩ = false) := fun v q => ⟨q.cell cR, (HR.out.ext q).frozen k⟩
      clear cR fR
      generalize pt l k = i at *
      have HCi := Lib.hid (fun V => HCt.out V i hi)
      generalize cntF true (at' L i) = cv at *
      obtain ⟨b, off, ha, c0, c1, c2, c3⟩ := (HS.out.ext HX.out).cells hi
      dsimp only at ha c0 c1 c2 c3
      subst ha
      have HIn : Hid (b < w.heap.size) := by obtain ⟨b', off', hb', c0', -⟩ := HS.out.cells hi; cases hb'; exact lt_of_cell c0'
      obtain ⟨w0, w1, w2⟩ := (IsWk.ext HW.out HX.out).cells
      dsimp only at w0 w1 w2
      have k1 : (0 : Int) ≤ k := by omega
      have k2 : (k : Int) < (l.length : Int) := by omega
      have k3 : (0 : Int) ≤ (i : Int) := by omega
      have k4 : (i : Int) < (L.length : Int) := by omega
      have hwk : IntKind.i64.wrap ((k : Int) + 1) = ((k + 1 : Nat) : Int) := by rw [IntWalk.i64_in _ (by omega)]; omega
      have HCc : Hid (∀ v, Keep (fun q => q ≠ w.heap.size) wo v → v.cell? ⟨WB, 0, none⟩ = some (.slice (some ⟨b, off, none⟩) L.length sc) ∧ v.cell? ⟨WB, 2, none⟩ = some (.func (.func 48) #[] #[]) ∧ v.cell? ⟨b, off + i * 4, none⟩ = some (.int .i64 ((at' L i).o : Int)) ∧ v.cell? ⟨b, off + i * 4 + 1, none⟩ = some (.int .i64 ((at' L i).n : Int)) ∧ v.cell? ⟨b, off + i * 4 + 2, none⟩ = some (.int .i64 ((at' L i).s : Int)) ∧ v.cell? ⟨b, off + i * 4 + 3, none⟩ = some (.int .i64 (at' L i).w)) := fun v q =>
        ⟨q.cell w0 (by have := HWl.out; show WB ≠ _; omega), q.cell w2 (by have := HWl.out; show WB ≠ _; omega), q.cell c0 (by have := HIn.out; show b ≠ _; omega), q.cell c1 (by have := HIn.out; show b ≠ _; omega), q.cell c2 (by have := HIn.out; show b ≠ _; omega), q.cell c3 (by have := HIn.out; show b ≠ _; omega)⟩
      clear c0 c1 c2 c3 w0 w1 w2
      go_upto_region 5 with (fail)
      clear cp
      go_region_held3 (fun v => v.cell? ⟨WB, 0, none⟩ = some (.slice (some ⟨b, off, none⟩) L.length sc) ∧ v.cell? ⟨WB, 2, none⟩ = some (.func (.func 48) #[] #[]) ∧ v.cell? ⟨b, off + i * 4, none⟩ = some (.int .i64 ((at' L i).o : Int)) ∧ v.cell? ⟨b, off + i * 4 + 1, none⟩ = some (.int .i64 ((at' L i).n : Int)) ∧ v.cell? ⟨b, off + i * 4 + 2, none⟩ = some (.int .i64 ((at' L i).s : Int)) ∧ v.cell? ⟨b, off + i * 4 + 3, none⟩ = some (.int .i64 (at' L i).w))
        ((refine HCc.out _ ?_; repeat (first | exact Keep.refl _ _ | refine Keep.ext ?_ (by assumption) | refine Keep.ext ?_ ((Ext.refl _).drew) | refine Keep.setCell ?_ _ _ (fun _ h => h rfl))))
        ((go_at_call 48; refine (HCi.out _).mono ?_; rintro e w3 ⟨rfl, hx3⟩; obtain ⟨y0, z0⟩ := HRr.out w3 (Ext.trans (Ext.refl wo).drew hx3)))
      have HX3 : Hid (Ext w w3) := HX.out.trans ((Ext.refl wo).drew.trans hx3)
      have HR3 : Hid (Row w3 w.heap.size (wfK L true l k) l.length) := HR.out.ext ((Ext.refl wo).drew.trans hx3)
      clear hx3
      go_wp2
      go_roundw
      case rel => exact ⟨k + 1, by omega, by go_num, HX3.out.setCell (Nat.le_refl _) _, by show Row _ _ _ _; rw [HN.out]; exact HR3.out.set k cv HLk.out⟩
      case measure => simp [intOf]; omega
    · have dk : decide ((k : Int) < (l.length : Int)) = false := decide_eq_false (by omega)
      obtain rfl : k = l.length := by omega
      rw [wfK_all] at HR
      go_wp2
      go_ret
      exact ⟨w.heap.size, rfl, HR.out, Nat.le_refl _, HX.out⟩

set_option maxRecDepth 100000 in
set_option maxHeartbeats 2000000 in
theorem worthsOf_false (x : Ld) (WB : Nat) (a : Option Addr) (c : Nat) (l : List Nat) (w : World) (hw : IsWk w WB x false) (h : StL w x.s) (_hk : OkS x.s.l) (hp : IsSl 1 num w ⟨a, c, l⟩) (hl : ∀ k, k < l.length → pt l k < x.s.l.length) :
    Calls Try.prog 52 #[.pointer (some ⟨WB, 0, none⟩), .slice a l.length c] w fun e w' => ∃ g, e = .returned (.slice (some ⟨g, 0, none⟩) l.length l.length) ∧ Row w' g (worthsF x.s.l false l) l.length ∧ w.heap.size ≤ g ∧ Ext w w' := by
  have HCt : Hid (∀ (V : World) (i : Nat), i < x.s.l.length → Calls Try.prog 63 #[.agg #[.int .i64 ((at' x.s.l i).o : Int), .int .i64 ((at' x.s.l i).n : Int), .int .i64 ((at' x.s.l i).s : Int), .int .i64 (at' x.s.l i).w]] V fun e w' => e = .returned (.int .i64 ((cntF false (at' x.s.l i) : Nat) : Int)) ∧ Ext V w') := fun V i _hi => worthNorth_any (at' x.s.l i) V
  have h2 := hp.2.1
  dsimp only at h2
  have HS := Lib.hid h
  have HP := Lib.hid hp
  have HL := Lib.hid hl
  have HW := Lib.hid hw
  have HWl : Hid (WB < w.heap.size) := (Array.getElem?_eq_some_iff.1 hw).1
  clear h hp hl hw _hk
  obtain ⟨⟨sa, sc, L⟩, ⟨va, vc, vl⟩⟩ := x
  dsimp only at *
  have hmk := make_nums l.length h2
  go_enter Try.func52, Try.ntmps52
  go_wp2
  clear hmk
  go_loopw [13] (fun s wr => ∃ k : Nat, k ≤ l.length ∧ s = .int .i64 (k : Int) ∧ Hid (Ext w wr) ∧ Hid (Row wr w.heap.size (wfK L false l k) l.length)) (fun s _ => l.length - (intOf s).toNat)
  case atStart =>
    refine ⟨0, Nat.zero_le _, rfl, (Ext.refl w).alloc _, ?_⟩
    rw [wfK_zero]
    exact ⟨_, alloc_new rfl, by simp, by simp, fun i hi => by simp at hi ⊢; simp [hi]⟩
  case round =>
    obtain ⟨wo, rfl⟩ : ∃ wo : World, wo = wr := ⟨_, rfl⟩
    obtain ⟨k, hk, rfl, HX, HR⟩ := hrel
    by_cases hlt : k < l.length
    · have dk : decide ((k : Int) < (l.length : Int)) = true := decide_eq_true (by omega)
      obtain ⟨pbk, po, rfl, cp⟩ := part_cell (HP.out.ext HX.out) hlt
      have hi := HL.out k hlt
      have HN := Lib.hid (wfK_succ L false l k hlt)
      have HLk : Hid (k < (wfK L false l k).length) := by show _ < _; rw [wfK_len _ _ _ _ hk]; exact hlt
      have cR := HR.out.cell k HLk.out
      have fR := HR.out.frozen k
      generalize (wfK L false l k)[k]'_ = old at cR
      have HRr : Hid (∀ v, Ext wo v → v.cell? ⟨w.heap.size, k, none⟩ = some (.int .i64 (old : Int)) ∧ v.frozen? ⟨w.heap.size, k, none⟩ = false) := fun v q => ⟨q.cell cR, (HR.out.ext q).frozen k⟩
      clear cR fR
      generalize pt l k = i at *
      have HCi := Lib.hid (fun V => HCt.out V i hi)
      generalize cntF false (at' L i) = cv at *
      obtain ⟨b, off, ha, c0, c1, c2, c3⟩ := (HS.out.ext HX.out).cells hi
      dsimp only at ha c0 c1 c2 c3
      subst ha
      have HIn : Hid (b < w.heap.size) := by obtain ⟨b', off', hb', c0', -⟩ := HS.out.cells hi; cases hb'; exact lt_of_cell c0'
      obtain ⟨w0, w1, w2⟩ := (IsWk.ext HW.out HX.out).cells
      dsimp only at w0 w1 w2
      have k1 : (0 : Int) ≤ k := by omega
      have k2 : (k : Int) < (l.length : Int) := by omega
      have k3 : (0 : Int) ≤ (i : Int) := by omega
      have k4 : (i : Int) < (L.length : Int) := by omega
      have hwk : IntKind.i64.wrap ((k : Int) + 1) = ((k + 1 : Nat) : Int) := by rw [IntWalk.i64_in _ (by omega)]; omega
      have HCc : Hid (∀ v, Keep (fun q => q ≠ w.heap.size) wo v → v.cell? ⟨WB, 0, none⟩ = some (.slice (some ⟨b, off, none⟩) L.length sc) ∧ v.cell? ⟨WB, 2, none⟩ = some (.func (.func 63) #[] #[]) ∧ v.cell? ⟨b, off + i * 4, none⟩ = some (.int .i64 ((at' L i).o : Int)) ∧ v.cell? ⟨b, off + i * 4 + 1, none⟩ = some (.int .i64 ((at' L i).n : Int)) ∧ v.cell? ⟨b, off + i * 4 + 2, none⟩ = some (.int .i64 ((at' L i).s : Int)) ∧ v.cell? ⟨b, off + i * 4 + 3, none⟩ = some (.int .i64 (at' L i).w)) := fun v q =>
        ⟨q.cell w0 (by have := HWl.out; show WB ≠ _; omega), q.cell w2 (by have := HWl.out; show WB ≠ _; omega), q.cell c0 (by have := HIn.out; show b ≠ _; omega), q.cell c1 (by have := HIn.out; show b ≠ _; omega), q.cell c2 (by have := HIn.out; show b ≠ _; omega), q.cell c3 (by have := HIn.out; show b ≠ _; omega)⟩
      clear c0 c1 c2 c3 w0 w1 w2
      go_upto_region 5 with (fail)
      clear cp
      go_region_held3 (fun v => v.cell? ⟨WB, 0, none⟩ = some (.slice (some ⟨b, off, none⟩) L.length sc) ∧ v.cell? ⟨WB, 2, none⟩ = some (.func (.func 63) #[] #[]) ∧ v.cell? ⟨b, off + i * 4, none⟩ = some (.int .i64 ((at' L i).o : Int)) ∧ v.cell? ⟨b, off + i * 4 + 1, none⟩ = some (.int .i64 ((at' L i).n : Int)) ∧ v.cell? ⟨b, off + i * 4 + 2, none⟩ = some (.int .i64 ((at' L i).s : Int)) ∧ v.cell? ⟨b, off + i * 4 + 3, none⟩ = some (.int .i64 (at' L i).w))
        ((refine HCc.out _ ?_; repeat (first | exact Keep.refl _ _ | refine Keep.ext ?_ (by assumption) | refine Keep.ext ?_ ((Ext.refl _).drew) | refine Keep.setCell ?_ _ _ (fun _ h => h rfl))))
        ((go_at_call 63; refine (HCi.out _).mono ?_; rintro e w3 ⟨rfl, hx3⟩; obtain ⟨y0, z0⟩ := HRr.out w3 (Ext.trans (Ext.refl wo).drew hx3)))
      have HX3 : Hid (Ext w w3) := HX.out.trans ((Ext.refl wo).drew.trans hx3)
      have HR3 : Hid (Row w3 w.heap.size (wfK L false l k) l.length) := HR.out.ext ((Ext.refl wo).drew.trans hx3)
      clear hx3
      go_wp2
      go_roundw
      case rel => exact ⟨k + 1, by omega, by go_num, HX3.out.setCell (Nat.le_refl _) _, by show Row _ _ _ _; rw [HN.out]; exact HR3.out.set k cv HLk.out⟩
      case measure => simp [intOf]; omega
    · have dk : decide ((k : Int) < (l.length : Int)) = false := decide_eq_false (by omega)
      obtain rfl : k = l.length := by omega
      rw [wfK_all] at HR
      go_wp2
      go_ret
      exact ⟨w.heap.size, rfl, HR.out, Nat.le_refl _, HX.out⟩

theorem worthsOf_any (b : Bool) (x : Ld) (WB : Nat) (a : Option Addr) (c : Nat) (l : List Nat) (w : World) (hw : IsWk w WB x b) (h : StL w x.s) (hk : OkS x.s.l) (hp : IsSl 1 num w ⟨a, c, l⟩) (hl : ∀ k, k < l.length → pt l k < x.s.l.length) :
    Calls Try.prog 52 #[.pointer (some ⟨WB, 0, none⟩), .slice a l.length c] w fun e w' => ∃ g, e = .returned (.slice (some ⟨g, 0, none⟩) l.length l.length) ∧ Row w' g (worthsF x.s.l b l) l.length ∧ w.heap.size ≤ g ∧ Ext w w' := by
  cases b
  · exact worthsOf_false x WB a c l w hw h hk hp hl
  · exact worthsOf_true x WB a c l w hw h hk hp hl
end Go.Proofs.Ytlaolokakaheaaa
