/-
  goOn, the helper of lines of package treaty, yields all lines that go on from a place, in their order. The treaty at work and the helper's variables must lie in memory as told, and the loop's body must keep what is not its own.
-/
import Derived.Test.YtopjjcgmcieboaaGreatDoorIc
import Derived.Test.YtopjjcgmcieboaaGreatDoorR
import Derived.Shelf.RegionOpen
namespace Go.Proofs.YtopjjcgmcieboaaGreatDoor
open Go.RowKit
attribute [local go_sem] Oper.semAt_some

/-- All lines from a place on, with so many legs left. -/
def lnF (L : Nat → Nat → Nat → Bool) (P N : Nat) : Nat → Nat → List (List Nat)
  | 0, p => [[p]]
  | k + 1, p => ((List.range P).flatMap fun q => if openK L P N N (N - (k + 1) + 1) q && L (N - (k + 1)) p q then lnF L P N k q else []).map (p :: ·)
/-- Those that go on by one of the first m places. -/
def lnTo (L : Nat → Nat → Nat → Bool) (P N k p m : Nat) : List (List Nat) := (List.range m).flatMap fun q => if openK L P N N (N - (k + 1) + 1) q && L (N - (k + 1)) p q then lnF L P N k q else []
theorem lnTo_succ (L : Nat → Nat → Nat → Bool) (P N k p m : Nat) : lnTo L P N k p (m + 1) = lnTo L P N k p m ++ if openK L P N N (N - (k + 1) + 1) m && L (N - (k + 1)) p m then lnF L P N k m else [] := by
  simp [lnTo, List.range_succ]
theorem lnF_succ (L : Nat → Nat → Nat → Bool) (P N k p : Nat) : lnF L P N (k + 1) p = (lnTo L P N k p P).map (p :: ·) := rfl

theorem lnTo_prefix (L : Nat → Nat → Nat → Bool) (P N k p m m' : Nat) (h : m ≤ m') : lnTo L P N k p m <+: lnTo L P N k p m' := by
  obtain ⟨d, rfl⟩ := Nat.exists_eq_add_of_le h
  induction d with
  | zero => exact List.prefix_refl _
  | succ d ih => exact (ih (by omega)).trans (by rw [show m + (d + 1) = (m + d) + 1 by omega, lnTo_succ]; exact List.prefix_append _ _)
theorem map_pf (pl : List Nat) (p : Nat) (l : List (List Nat)) : (l.map (p :: ·)).map (pl ++ ·) = l.map ((pl ++ [p]) ++ ·) := by simp

/-- Where the helper's variables lie. -/
structure GoB where
  p : Nat
  wb : Nat
  yb : Nat
  cb : Nat
  ob : Nat
  lb : Nat
  lr : Nat
  gb : Nat
def GoB.all (b : GoB) (D : Nat → Prop) : Prop := D b.p ∧ D b.wb ∧ D b.yb ∧ D b.cb ∧ D b.ob ∧ D b.lb ∧ D b.gb
/-- The captured variables. -/
abbrev GoB.caps (b : GoB) : Array Value := #[.pointer (some ⟨b.lb, 0, none⟩), .pointer (some ⟨b.wb, 0, none⟩), .pointer (some ⟨b.yb, 0, none⟩), .pointer (some ⟨b.ob, 0, none⟩), .pointer (some ⟨b.cb, 0, none⟩), .pointer (some ⟨b.gb, 0, none⟩)]
/-- The helper's variables lie in memory as told. -/
def GoW (t : TV) (L : Nat → Nat → Nat → Bool) (l : Nat) (b : GoB) (W : World) : Prop :=
  IsWork W b.p t L ∧ W.cell? ⟨b.wb, 0, none⟩ = some (.pointer (some ⟨b.p, 0, none⟩)) ∧ W.cell? ⟨b.yb, 0, none⟩ = some (.func (.yield l) #[] #[]) ∧ W.cell? ⟨b.cb, 0, none⟩ = some (.func (.func 45) #[.pointer (some ⟨b.p, 0, none⟩)] #[]) ∧
    Mrk W b.ob (openK L t.P t.legs.l.length t.legs.l.length) ∧ W.cell? ⟨b.lb, 0, none⟩ = some (.slice (some ⟨b.lr, 0, none⟩) (t.legs.l.length + 1) (t.legs.l.length + 1)) ∧ W.cell? ⟨b.gb, 0, none⟩ = some (.func (.func 79) #[] b.caps)
theorem GoW.keep {t : TV} {L : Nat → Nat → Nat → Bool} {l : Nat} {b : GoB} {A B : World} {D : Nat → Prop} (h : GoW t L l b A) (k : Keep D A B) (hd : b.all D) : GoW t L l b B := by
  obtain ⟨h1, h2, h3, h4, h5, h6, h7⟩ := h
  obtain ⟨d1, d2, d3, d4, d5, d6, d7⟩ := hd
  obtain ⟨cs, q1, q2⟩ := h1
  obtain ⟨ds, r1, r2⟩ := h5
  exact ⟨⟨cs, k.heap q1 d1, q2⟩, k.cell h2 d2, k.cell h3 d3, k.cell h4 d4, ⟨ds, k.heap r1 d5, r2⟩, k.cell h6 d6, k.cell h7 d7⟩
theorem GoW.ext {t : TV} {L : Nat → Nat → Nat → Bool} {l : Nat} {b : GoB} {A B : World} (h : GoW t L l b A) (k : Ext A B) : GoW t L l b B :=
  h.keep (D := fun _ => True) (Keep.of_ext k) ⟨trivial, trivial, trivial, trivial, trivial, trivial, trivial⟩

/-- What goOn leaves. -/
def GoOut (t : TV) (L : Nat → Nat → Nat → Bool) (l : Nat) (b : GoB) (hi : Nat) (J Jx : List (List Nat) → World → Prop) (pre : List (List Nat)) (pf : List Nat) (all : List (List Nat)) (e : Ending) (W' : World) : Prop :=
  (e = .returned (.bool true) ∧ J (pre ++ all) W' ∧ GoW t L l b W' ∧ (∃ Lst, Row W' b.lr Lst (t.legs.l.length + 1) ∧ Lst.length = t.legs.l.length + 1 ∧ Lst.take pf.length = pf) ∧ hi ≤ W'.heap.size) ∨
  (e = .returned (.bool false) ∧ ∃ q, q <+: all ∧ Jx (pre ++ q) W')

theorem yout {e : Ending} {A B C : Prop} (h : (e = .returned (.bool true) ∧ A ∧ B) ∨ (e = .returned (.bool false) ∧ C)) : ∃ bb : Bool, e = .returned (.bool bb) ∧ ((bb = true ∧ A ∧ B) ∨ (bb = false ∧ C)) := by
  rcases h with ⟨rfl, h⟩ | ⟨rfl, h⟩
  · exact ⟨true, rfl, .inl ⟨rfl, h⟩⟩
  · exact ⟨false, rfl, .inr ⟨rfl, h⟩⟩

set_option maxRecDepth 100000 in
set_option maxHeartbeats 2000000 in
theorem goOn_any (t : TV) (L : Nat → Nat → Nat → Bool) (l : Nat) (b : GoB) (n0 lo hi : Nat) (M : Nat → Prop) (J Jx : List (List Nat) → World → Prop) (all : List (List Nat))
    (hk : OkT t) (hlo : lo ≤ b.lr) (hhi : b.lr < hi) (hne : b.all (fun x => x ≠ b.lr)) (hin : b.all (Inn n0 M lo hi))
    (HJ : ∀ s A B, J s A → Keep (Out lo hi) A B → J s B)
    (HY : ∀ pre (s : SL Nat) W1, hi ≤ W1.heap.size → J pre W1 → (pre ++ [s.l]) <+: all → s.l.length ≤ 1000000 → Own1 W1 hi s →
      YieldAt Fence.wide 0 Tryz.prog l #[s.v] W1 fun e W' =>
        (e = .returned (.bool true) ∧ J (pre ++ [s.l]) W' ∧ Keep (Inn n0 M lo hi) W1 W') ∨ (e = .returned (.bool false) ∧ Jx (pre ++ [s.l]) W')) :
    ∀ (k step place : Nat) (W : World) (pre : List (List Nat)) (Lst : List Nat), step + k = t.legs.l.length → place < t.P → GoW t L l b W → Row W b.lr Lst (t.legs.l.length + 1) → Lst.length = t.legs.l.length + 1 → J pre W → hi ≤ W.heap.size →
      (pre ++ (lnF L t.P t.legs.l.length k place).map (Lst.take step ++ ·)) <+: all →
      Calls Tryz.prog 79 (#[.int .i64 (step : Int), .int .i64 (place : Int)] ++ b.caps) W (GoOut t L l b hi J Jx pre (Lst.take step) ((lnF L t.P t.legs.l.length k place).map (Lst.take step ++ ·))) := by
  have HJ := Lib.hid HJ
  have HY := Lib.hid HY
  have HNe := Lib.hid hne; clear hne
  have HIn := Lib.hid hin; clear hin
  have HLo : Hid (lo ≤ b.lr ∧ b.lr < hi) := ⟨hlo, hhi⟩
  clear hlo hhi
  have hN10 := hk.legs
  have hP12 := hk.p2
  clear hk
  intro k
  induction k with
  | zero =>
    intro step place W pre Lst hs hp hG hR hL hJ hW hpre
    have hsN : step = t.legs.l.length := by omega
    subst hsN
    obtain ⟨g1, g2, g3, g4, g5, g6, g7⟩ := hG
    have HG : Hid (GoW t L l b W) := ⟨g1, g2, g3, g4, g5, g6, g7⟩
    obtain ⟨cs, w1, w2, w3, w4, w5, w6, w7, w8⟩ := g1
    have cl := (cell_at w1 4).trans w6
    clear w1 w2 w3 w4 w5 w6 w7 w8
    have cr := hR.cell t.legs.l.length (by omega)
    have fr := hR.frozen t.legs.l.length
    obtain ⟨v0, hv0⟩ : ∃ v0 : Nat, Lst[t.legs.l.length]'(by omega) = v0 := ⟨_, rfl⟩
    rw [hv0] at cr
    clear hv0
    have ne := HNe.out
    obtain ⟨e1, e2, e3, e4, e5, e6, e7⟩ := ne
    have i0 : (0 : Int) ≤ (t.legs.l.length : Int) := by omega
    have i1 : (t.legs.l.length : Int) < (t.legs.l.length : Int) + 1 := by omega
    have i2 : (t.legs.l.length : Int) ≤ 10 := by omega
    go_enter Tryz.func79, Tryz.ntmps79
    go_wp2_with fail
    clear cr fr cl g2 g3 g4 g5 g6 g7 v0
    have hst : Lst.set t.legs.l.length place = Lst.take t.legs.l.length ++ [place] := by
      have := take_set Lst [] t.legs.l.length place (by omega)
      rw [List.take_of_length_le (by omega), List.append_nil] at this
      exact this
    have hset := hR.set t.legs.l.length place (by omega)
    rw [hst] at hset
    have KS : Keep (fun x => x ≠ b.lr) W (W.setCell ⟨b.lr, t.legs.l.length, none⟩ (.int .i64 (place : Int))) := (Keep.refl _ W).setCell _ _ (fun _ h => h rfl)
    have HG1 := Lib.hid (HG.out.keep KS HNe.out)
    have HJ1 : Hid (J pre (W.setCell ⟨b.lr, t.legs.l.length, none⟩ (.int .i64 (place : Int)))) := HJ.out _ _ _ hJ ((Keep.refl _ W).setCell _ _ (fun _ h => by have := HLo.out; simp only [Out] at h; omega))
    have HZ1 : Hid (hi ≤ (W.setCell ⟨b.lr, t.legs.l.length, none⟩ (.int .i64 (place : Int))).heap.size) := by rw [World.size_setCell]; exact hW
    have HSet := Lib.hid hset
    have hlen : (Lst.take t.legs.l.length ++ [place]).length = t.legs.l.length + 1 := by simp; omega
    have hsl := hset.sl (by omega)
    clear hset hst KS hR hJ hW HG
    generalize W.setCell ⟨b.lr, t.legs.l.length, none⟩ (.int .i64 (place : Int)) = W1 at *
    obtain ⟨g1, g2, g3, g4, g5, g6, g7⟩ := HG1.out
    clear g1 g4 g5 g7 g2
    have HCl := Lib.hid (clone_any _ _ _ (Lst.take t.legs.l.length ++ [place]) W1.drew hlen (hsl.ext (Ext.refl W1).drew))
    have HLen := Lib.hid hlen; clear hlen hsl
    have HPre : Hid ((pre ++ [Lst.take t.legs.l.length ++ [place]]) <+: all) := by
      have := hpre; simp only [lnF, List.map_cons, List.map_nil] at this; exact this
    clear hpre
    have hmx : Tryz.prog.follows .mixedOrders = true := by kernel_rfl
    refine (wpIn_wide (n := 3)).1 ?_
    gi_region_with_o (first
      | (refine ⟨trivial, ?_⟩; gi_at_call 72; refine (callsIn_wide.2 HCl.out).mono ?_; rintro e w1 ⟨a', c', rfl, hown, hx1⟩;
         have hxx : Ext W1 w1 := (Ext.refl W1).drew.trans hx1;
         have hy1 := yield_wide (HY.out pre ⟨a', c', Lst.take t.legs.l.length ++ [place]⟩ w1 (Nat.le_trans HZ1.out hxx.size) (HJ.out _ _ _ HJ1.out (Keep.of_ext hxx)) HPre.out (by show (Lst.take t.legs.l.length ++ [place]).length ≤ _; rw [HLen.out]; omega) (by unfold Own1; simp only [SL.v]; rw [HLen.out]; exact own_mono hown HZ1.out));
         simp only [SL.v, HLen.out] at hy1; obtain ⟨fn, tm, ac, bc, hy, hR⟩ := hy1; have HRn := Lib.hid hR; have HX1 := Lib.hid hxx; have g3' := hxx.cell g3; clear hown hx1 hR hxx)
      | (refine (HRn.out _).mono ?_; clear HRn hy; rintro e w2 hz; obtain ⟨bb, rfl, hzz⟩ := yout hz; have HZZ := Lib.hid hzz; clear hz hzz))
    all_goals
      gi_wp2_with fail
      simp [Act.put]
      go_wp2
      go_ret
      rcases HZZ.out with ⟨rfl, hJ2, hk2⟩ | ⟨rfl, hx2⟩
      · refine .inl ⟨rfl, by simpa [lnF] using hJ2, (HG1.out.ext HX1.out).keep hk2 HIn.out, ⟨Lst.take t.legs.l.length ++ [place], (HSet.out.ext HX1.out).keep hk2 (.inr ⟨HLo.out.1, HLo.out.2⟩), HLen.out, ?_⟩, Nat.le_trans HZ1.out (Nat.le_trans HX1.out.size hk2.size)⟩
        rw [List.take_left]
      · exact .inr ⟨rfl, [Lst.take t.legs.l.length ++ [place]], by simp [lnF], hx2⟩
  | succ k ih =>
    intro step place W pre Lst hs hp hG hR hL hJ hW hpre
    have HIh := Lib.hid ih; clear ih
    have hsN : step < t.legs.l.length := by omega
    obtain ⟨g1, g2, g3, g4, g5, g6, g7⟩ := hG
    have HG : Hid (GoW t L l b W) := ⟨g1, g2, g3, g4, g5, g6, g7⟩
    obtain ⟨cs, w1, w2, w3, w4, w5, w6, w7, w8⟩ := g1
    have cl := (cell_at w1 4).trans w6
    have cp := (cell_at w1 0).trans w2
    clear w1 w2 w3 w4 w5 w6 w7 w8
    have cr := hR.cell step (by omega)
    have fr := hR.frozen step
    obtain ⟨v0, hv0⟩ : ∃ v0 : Nat, Lst[step]'(by omega) = v0 := ⟨_, rfl⟩
    rw [hv0] at cr
    clear hv0
    have ne := HNe.out
    obtain ⟨e1, e2, e3, e4, e5, e6, e7⟩ := ne
    have i0 : (0 : Int) ≤ (step : Int) := by omega
    have i1 : (step : Int) < (t.legs.l.length : Int) + 1 := by omega
    have i2 : (step : Int) < 10 := by omega
    have d1 : ((step : Int) == (t.legs.l.length : Int)) = false := by rw [beq_eq_false_iff_ne]; omega
    have HS := Lib.hid hs; clear hs
    have HPre : Hid ((pre ++ (lnTo L t.P t.legs.l.length k place t.P).map ((Lst.take step ++ [place]) ++ ·)) <+: all) := by
      have := hpre; rw [lnF_succ, map_pf] at this; exact this
    rw [lnF_succ, map_pf]
    clear hpre
    have hst : (Lst.set step place).take (step + 1) = Lst.take step ++ [place] := by
      have := take_set Lst (Lst.drop (step + 1)) step place (by omega)
      rw [List.take_append_drop] at this
      rw [this, List.take_append, List.take_of_length_le (by simp; omega)]
      simp [Nat.min_eq_left (show step ≤ Lst.length by omega)]
    have hset := hR.set step place (by omega)
    have KS : Keep (fun x => x ≠ b.lr) W (W.setCell ⟨b.lr, step, none⟩ (.int .i64 (place : Int))) := (Keep.refl _ W).setCell _ _ (fun _ h => h rfl)
    have HG1 := Lib.hid (HG.out.keep KS HNe.out)
    have HJ1 : Hid (J pre (W.setCell ⟨b.lr, step, none⟩ (.int .i64 (place : Int)))) := HJ.out _ _ _ hJ ((Keep.refl _ W).setCell _ _ (fun _ h => by have := HLo.out; simp only [Out] at h; omega))
    have HZ1 : Hid (hi ≤ (W.setCell ⟨b.lr, step, none⟩ (.int .i64 (place : Int))).heap.size) := by rw [World.size_setCell]; exact hW
    have HR1 : Hid (Row (W.setCell ⟨b.lr, step, none⟩ (.int .i64 (place : Int))) b.lr (Lst.set step place) (t.legs.l.length + 1) ∧ (Lst.set step place).length = t.legs.l.length + 1 ∧ (Lst.set step place).take (step + 1) = Lst.take step ++ [place]) := ⟨hset, by simpa using hL, hst⟩
    have HLs : Hid ((Lst.take step).length = step) := by show _ = _; rw [List.length_take]; omega
    clear hset hst KS hR hJ hW HG hL
    go_enter Tryz.func79, Tryz.ntmps79
    go_wp2_with fail
    clear cr fr cl cp g2 g3 g4 g5 g6 g7 v0
    generalize W.setCell ⟨b.lr, step, none⟩ (.int .i64 (place : Int)) = W1 at *
    go_loopw [33] (fun i wr => ∃ (m : Nat) (Lm : List Nat), m ≤ t.P ∧ i = .int .i64 (m : Int) ∧ Hid (J (pre ++ (lnTo L t.P t.legs.l.length k place m).map ((Lst.take step ++ [place]) ++ ·)) wr) ∧ Hid (GoW t L l b wr) ∧
        Hid (Row wr b.lr Lm (t.legs.l.length + 1) ∧ Lm.length = t.legs.l.length + 1 ∧ Lm.take (step + 1) = Lst.take step ++ [place]) ∧ Hid (hi ≤ wr.heap.size)) (fun i _ => t.P - (intOf i).toNat)
    case atStart => exact ⟨0, Lst.set step place, Nat.zero_le _, rfl, by show J _ _; simpa [lnTo] using HJ1.out, HG1, HR1, HZ1⟩
    case round =>
      clear HJ1 HG1 HR1 HZ1
      obtain ⟨wo, rfl⟩ : ∃ wo : World, wo = wr := ⟨_, rfl⟩
      obtain ⟨m, Lm, hm, rfl, HJm, HGm, HRm, HZm⟩ := hrel
      by_cases hlt : m < t.P
      · have dm : decide ((m : Int) < (t.P : Int)) = true := decide_eq_true (by omega)
        obtain ⟨g1, g2, g3, g4, g5, g6, g7⟩ := HGm.out
        have HC := Lib.hid (canLead_any b.p t L step place m wo g1 (by omega) (by omega) (by omega))
        have c5 := g5.cell (step + 1) m (by omega) (by omega)
        clear g1 g2 g3 g5 g6
        have hsu := lnTo_succ L t.P t.legs.l.length k place m
        have hst1 : t.legs.l.length - (k + 1) = step := by have := HS.out; omega
        rw [hst1] at hsu
        have m0 : (0 : Int) ≤ m := by omega
        have m1 : (m : Int) < 12 := by omega
        rcases hO : openK L t.P t.legs.l.length t.legs.l.length (step + 1) m with _ | _
        · rw [hO] at c5 hsu
          have HSu := Lib.hid hsu; clear hsu hO
          go_wp2_with fail
          go_roundw
          case rel =>
            refine ⟨m + 1, Lm, by omega, by go_num, ?_, HGm, HRm, HZm⟩
            have e : lnTo L t.P t.legs.l.length k place (m + 1) = lnTo L t.P t.legs.l.length k place m := by have := HSu.out; simpa using this
            rw [e]; exact HJm.out
          case measure => simp [intOf]; omega
        · rcases hC : L step place m with _ | _
          · rw [hO] at c5
            rw [hC] at HC
            rw [hO, hC] at hsu
            have HSu := Lib.hid hsu; clear hsu hO hC
            go_wp2_with (go_at_call 45; refine HC.out.mono ?_; rintro e w' ⟨rfl, rfl⟩)
            go_roundw
            case rel =>
              refine ⟨m + 1, Lm, by omega, by go_num, ?_, HGm, HRm, HZm⟩
              have e : lnTo L t.P t.legs.l.length k place (m + 1) = lnTo L t.P t.legs.l.length k place m := by have := HSu.out; simpa using this
              rw [e]; exact HJm.out
            case measure => simp [intOf]; omega
          · rw [hO] at c5
            rw [hC] at HC
            rw [hO, hC] at hsu
            have HSu : Hid ((lnTo L t.P t.legs.l.length k place (m + 1)).map ((Lst.take step ++ [place]) ++ ·) = (lnTo L t.P t.legs.l.length k place m).map ((Lst.take step ++ [place]) ++ ·) ++ (lnF L t.P t.legs.l.length k m).map ((Lst.take step ++ [place]) ++ ·)) := by
              show _ = _; rw [hsu]; simp
            have HSp : Hid ((lnTo L t.P t.legs.l.length k place (m + 1)).map ((Lst.take step ++ [place]) ++ ·) <+: (lnTo L t.P t.legs.l.length k place t.P).map ((Lst.take step ++ [place]) ++ ·)) := (lnTo_prefix L t.P t.legs.l.length k place (m + 1) t.P (by omega)).map _
            clear hsu hO hC
            have hcall := HIh.out (step + 1) m wo (pre ++ (lnTo L t.P t.legs.l.length k place m).map ((Lst.take step ++ [place]) ++ ·)) Lm (by have := HS.out; omega) hlt HGm.out HRm.out.1 HRm.out.2.1 HJm.out HZm.out (by
              rw [HRm.out.2.2, List.append_assoc, ← HSu.out]
              exact (List.prefix_append_right_inj pre |>.2 HSp.out).trans HPre.out)
            rw [HRm.out.2.2, show (((step + 1 : Nat)) : Int) = (step : Int) + 1 by omega] at hcall
            have HCall := Lib.hid hcall; clear hcall
            go_wp2_with (first
              | (go_at_call 45; refine HC.out.mono ?_; rintro e w' ⟨rfl, rfl⟩)
              | (go_at_call 79; refine HCall.out.mono ?_; clear HCall; rintro e w2 (⟨rfl, hJ2, hG2, hR2, hZ2⟩ | ⟨rfl, q, hq, hx2⟩)))
            · have HJ2 := Lib.hid hJ2; clear hJ2
              have HG2 := Lib.hid hG2; clear hG2
              have HR2 := Lib.hid hR2; clear hR2
              have HZ2 := Lib.hid hZ2; clear hZ2
              go_wp2_with fail
              go_roundw
              case rel =>
                obtain ⟨Lm2, r1, r2, r3⟩ := HR2.out
                refine ⟨m + 1, Lm2, by omega, by go_num, ?_, HG2, ⟨r1, r2, ?_⟩, HZ2⟩
                · rw [HSu.out, ← List.append_assoc]; exact HJ2.out
                · rw [List.length_append, HLs.out] at r3; exact r3
              case measure => simp [intOf]; omega
            · have HX2 := Lib.hid hx2; clear hx2
              have HQ := Lib.hid hq; clear hq
              go_wp2
              go_ret
              refine .inr ⟨rfl, (lnTo L t.P t.legs.l.length k place m).map ((Lst.take step ++ [place]) ++ ·) ++ q, ?_, ?_⟩
              · refine List.IsPrefix.trans ?_ HSp.out
                rw [HSu.out]
                exact List.prefix_append_right_inj _ |>.2 HQ.out
              · rw [← List.append_assoc]; exact HX2.out
      · have hme : m = t.P := by omega
        subst hme
        go_wp2
        go_ret
        refine .inl ⟨rfl, HJm.out, HGm.out, ⟨Lm, HRm.out.1, HRm.out.2.1, ?_⟩, HZm.out⟩
        rw [HLs.out]
        have h1 : (Lm.take (step + 1)).take step = (Lst.take step ++ [place]).take step := by rw [HRm.out.2.2]
        rw [List.take_take, Nat.min_eq_left (by omega)] at h1
        have h2 : (Lst.take step ++ [place]).take step = Lst.take step := by
          have := List.take_left (l₁ := Lst.take step) (l₂ := [place])
          rwa [HLs.out] at this
        rw [h2] at h1; exact h1
end Go.Proofs.YtopjjcgmcieboaaGreatDoor
