/-
  readings of package treaty yields all readings of a valid treaty in their order. The treaty must lie in memory as told and be valid, and the loop's body must keep what is not its own.
-/
import Derived.Test.YtopjjcgmcieboaaGreatDoorIa
import Derived.Test.YtopjjcgmcieboaaGreatDoorY
import Derived.Test.YtopjjcgmcieboaaGreatDoorL
import Derived.Test.YtopjjcgmcieboaaGreatDoorZ
import Derived.TacticsInMore
import Derived.OwnWalkIn
import Derived.LoopIn
namespace Go.Proofs.YtopjjcgmcieboaaGreatDoor
open Go.RowKit
attribute [local go_sem] Oper.semAt_some

theorem yield_wide {m : Nat} {P : Program} {l : Nat} {args : Array Value} {W : World} {R : Ending → World → Prop} (h : YieldAt Fence.wide m P l args W R) :
    ∃ fn tmps assign body, (Instr.yield l args).run P W = .ok (.round l fn tmps assign body) W ∧ ∀ m', RoundIn Fence.wide m' P l fn tmps assign body W R := by
  obtain ⟨fn, tmps, assign, body, hy, hR⟩ := h
  exact ⟨fn, tmps, assign, body, hy, fun m' => ⟨hR.1, fun c cs _ => hR.2 c cs (fun d hd => by cases hd)⟩⟩

theorem ext_keep {D : Nat → Prop} {w a b : World} (h : Ext w a) (k : Keep D a b) (hd : ∀ i, i < w.heap.size → D i) : Ext w b :=
  ⟨k.os.trans (Below.os h), k.tape.trans (Below.tape h), k.output.trans (Below.output h), Nat.le_trans (Below.size h) k.size, fun i hi => (k.block i (Nat.lt_of_lt_of_le hi (Below.size h)) (hd i hi)).trans (Below.block h i hi)⟩
/-- The treaty's copy lies in block B. -/
def TBox (w : World) (B : Nat) (t : TV) : Prop := w.heap[B]? = some (.cells #[.int .i64 (t.P : Int), .slice t.ways.a t.ways.l.length t.ways.c, .slice t.words.a t.words.l.length t.words.c, .slice t.starts.a t.starts.l.length t.starts.c, .slice t.legs.a t.legs.l.length t.legs.c] 28)

/-- The numbers in a row. -/
def rowOf (w : World) (g n : Nat) : List Nat := (List.range n).map fun i => match w.cell? ⟨g, i, none⟩ with | some v => (intOf v).toNat | none => 0
theorem rowOf_row {w : World} {g cap : Nat} {L : List Nat} (h : Row w g L cap) : rowOf w g L.length = L := by
  apply List.ext_getElem
  · simp [rowOf]
  · intro i h1 h2
    simp only [rowOf, List.getElem_map, List.getElem_range, h.cell i h2, intOf]
    omega
theorem Row.keep {a b : World} {g cap : Nat} {L : List Nat} {D : Nat → Prop} (h : Row a g L cap) (k : Keep D a b) (hd : D g) : Row b g L cap := by
  obtain ⟨cur, h1, h2⟩ := h; exact ⟨cur, k.heap h1 hd, h2⟩
theorem Row.sl {w : World} {g cap : Nat} {L : List Nat} (h : Row w g L cap) (hl : L.length ≤ 1000000) : IsSl 1 num w ⟨some ⟨g, 0, none⟩, cap, L⟩ :=
  ⟨h.le, hl, .inr ⟨g, 0, rfl, fun i hi j hj => by
    obtain rfl : j = 0 := by omega
    have := h.cell i hi
    simpa [num] using this⟩⟩

/-- How many meanings each word has. -/
def cntR (t : TV) : List Nat := t.words.l.map (·.l.length)
theorem cntR_length (t : TV) : (cntR t).length = t.words.l.length := by simp [cntR]

theorem seqR_over {c r : List Nat} {k : Nat} {q : List Nat} (h : incR c r = (true, q)) : seqR c (k + 1) r = [r] := by simp [seqR, h]
theorem seqR_next {c r : List Nat} {k : Nat} {q : List Nat} (h : incR c r = (false, q)) : seqR c (k + 1) r = r :: seqR c k q := by simp [seqR, h]

theorem take_set (r z : List Nat) (q x : Nat) (hq : q < r.length) : (r.take (q + 1) ++ z).set q x = r.take q ++ x :: z := by
  rw [List.set_append_left _ _ (by simp; omega), List.take_succ_eq_append_getElem hq, List.set_append_right _ _ (by simp; omega), List.length_take, Nat.min_eq_left (by omega)]
  simp

/-- The call of yield at a reading. -/
theorem yielded {D : Nat → Nat → Prop} {T : World → Prop} {wo w1 : World} {C : List Nat} {n lo k l : Nat} {pre : List (List Nat)} {r : List Nat} {a : Option Addr} {c : Nat} {J Jx : Nat → List (List Nat) → World → Prop}
    (hown : w1.ownsRow wo.heap.size 3 1 (.slice a n c) n (nums r)) (hx1 : Ext wo w1) (hrl : r.length = n) (hn : n ≤ 6) (hx : T wo ∧ lo + 1 ≤ wo.heap.size) (hJo : J (lo + 1) pre wo)
    (hall : allR C = pre ++ seqR C (k + 1) r)
    (HJ : ∀ hi s A B, lo ≤ hi → J hi s A → Keep (Out lo hi) A B → J hi s B)
    (HY : ∀ hi pre (s : SL Nat) W1, lo ≤ hi → hi ≤ W1.heap.size → J hi pre W1 → (pre ++ [s.l]) <+: allR C → s.l.length ≤ 1000000 → Own1 W1 hi s →
      YieldAt Fence.wide 0 Tryz.prog l #[s.v] W1 fun e W' =>
        (e = .returned (.bool true) ∧ J hi (pre ++ [s.l]) W' ∧ Keep (D hi) W1 W') ∨ (e = .returned (.bool false) ∧ Jx hi (pre ++ [s.l]) W')) :
    ∃ fn tmps assign body, (Instr.yield l #[.slice a n c]).run Tryz.prog w1 = .ok (.round l fn tmps assign body) w1 ∧ ∀ m', RoundIn Fence.wide m' Tryz.prog l fn tmps assign body w1 fun e W' =>
        (e = .returned (.bool true) ∧ J (lo + 1) (pre ++ [r]) W' ∧ Keep (D (lo + 1)) w1 W') ∨ (e = .returned (.bool false) ∧ Jx (lo + 1) (pre ++ [r]) W') := by
  subst hrl
  have hy := yield_wide (HY (lo + 1) pre ⟨a, c, r⟩ w1 (by omega) (Nat.le_trans hx.2 hx1.size) (HJ _ _ _ _ (by omega) hJo (Keep.of_ext hx1)) (by
    rw [hall]; simp only [seqR]
    exact ⟨_, by rw [List.append_assoc]; rfl⟩) (by show r.length ≤ _; omega) (own_mono hown (by omega)))
  exact hy

set_option maxRecDepth 100000 in
set_option maxHeartbeats 2000000 in
theorem readings1_gives (t : TV) (B : Nat) (wa w0 : World) (M : Nat → Prop) (ht : IsT wa t) (hk : OkT t) (hx0 : Ext wa w0) (hB : TBox w0 B t) (hM : ∀ k, k < wa.heap.size → M k) (hMB : M B) :
    Gives Tryz.prog 71 #[.pointer (some ⟨B, 0, none⟩)] M (allR (cntR t)) w0 := by
  intro l J Jx W hW hJ hJx hY h0
  have HJ := Lib.hid hJ; clear hJ
  have HJx := Lib.hid hJx; clear hJx
  have HY := Lib.hid hY; clear hY
  have H0 := Lib.hid (h0 (W.heap.size + 1) (by omega)); clear h0
  have HT := Lib.hid ht.words
  have HM := Lib.hid hM; clear hM
  have HMB := Lib.hid hMB; clear hMB
  have HXa : Hid (Ext wa W) := hx0.trans hW
  have hBW : B < w0.heap.size := (Array.getElem?_eq_some_iff.1 hB).1
  have HTB : Hid (TBox W B t) := hW.block hB
  have HBW := Lib.hid hBW; clear hBW
  have HXS : Hid (wa.heap.size ≤ w0.heap.size) := hx0.size
  have HN : Hid (t.words.l.length ≤ 6) := hk.words
  have HWd : Hid (∀ s ∈ t.words.l, s.l.length ≤ 4) := fun s hs => (hk.word s hs).2
  have HC1 : Hid (∀ x ∈ cntR t, 0 < x) := fun x hx => by
    simp only [cntR, List.mem_map] at hx; obtain ⟨s, hs, rfl⟩ := hx; have := (hk.word s hs).1; omega
  have HW := Lib.hid hW
  have hw2 := (hW.block hB)
  have c2 := cell_at hw2 2
  simp only [List.getElem?_toArray, List.getElem?_cons_succ, List.getElem?_cons_zero] at c2
  clear hw2 ht hk hB hx0
  have hlt2 := lt_of_cell c2
  have HLn := Lib.hid (cntR_length t)
  have hmk := run_make_row' (P := Tryz.prog) 25 3 (.int .i64 0) 8 Tryz.underlying25 info3 rfl .i64 .i64 t.words.l.length (by have := HN.out; omega) (by have := HN.out; omega)
  rw [made0] at hmk
  go_enter Tryz.func71, Tryz.ntmps71
  go_wp2_with fail
  clear hmk c2
  have hrow0 : Row (W.alloc (.cells (nums (List.replicate t.words.l.length 0)).toArray 3)) W.heap.size (List.replicate (cntR t).length 0) t.words.l.length :=
    ⟨_, World.alloc_heap_new W _, by simp [nums_length], by simp [HLn.out], fun i hi => by
      have hi' : i < t.words.l.length := by simpa [HLn.out] using hi
      rw [List.getElem?_toArray, nums_get _ i (by simpa using hi')]; simp⟩
  have HR0 := Lib.hid hrow0; clear hrow0
  have HX0 : Hid (Ext W (W.alloc (.cells (nums (List.replicate t.words.l.length 0)).toArray 3))) := (Ext.refl W).alloc _
  have hsz0 : (W.alloc (.cells (nums (List.replicate t.words.l.length 0)).toArray 3)).heap.size = W.heap.size + 1 := World.size_alloc _ _
  have HSz : Hid (W.heap.size + 1 ≤ (W.alloc (.cells (nums (List.replicate t.words.l.length 0)).toArray 3)).heap.size) := by rw [hsz0]; exact Nat.le_refl _
  have HJ0 : Hid (J (W.heap.size + 1) [] (W.alloc (.cells (nums (List.replicate t.words.l.length 0)).toArray 3))) := HJ.out _ _ _ _ (by omega) H0.out (Keep.of_ext HX0.out)
  clear hsz0 H0
  generalize W.alloc (.cells (nums (List.replicate t.words.l.length 0)).toArray 3) = W1 at *
  go_loopw [] (fun wr => ∃ (pre : List (List Nat)) (r : List Nat) (k : Nat), Hid (OkR (cntR t) r ∧ valR (cntR t) r + k = prodR (cntR t) ∧ allR (cntR t) = pre ++ seqR (cntR t) k r) ∧ Hid (Row wr W.heap.size r t.words.l.length) ∧
      Hid (J (W.heap.size + 1) pre wr) ∧ Hid ((Ext wa wr ∧ TBox wr B t) ∧ W.heap.size + 1 ≤ wr.heap.size)) (fun wr => prodR (cntR t) - valR (cntR t) (rowOf wr W.heap.size t.words.l.length))
  case atStart =>
    refine ⟨[], List.replicate (cntR t).length 0, prodR (cntR t), ⟨okR_zero HC1.out, by rw [valR_zero]; omega, rfl⟩, HR0, HJ0, ⟨HXa.out.trans HX0.out, HX0.out.block HTB.out⟩, HSz.out⟩
  case round =>
    clear HR0 HX0 HSz HJ0
    obtain ⟨wo, rfl⟩ : ∃ wo : World, wo = wr := ⟨_, rfl⟩
    obtain ⟨pre, r, k, HK, HR, HJo, HXo⟩ := hrel
    have hrl : r.length = t.words.l.length := (okR_length HK.out.1).trans HLn.out
    have hk1 : ∃ k', k = k' + 1 := by have := (incR_ok HK.out.1).2.1; have := HK.out.2.1; exact ⟨k - 1, by omega⟩
    obtain ⟨k', rfl⟩ := hk1
    have hCl := clone_any (some ⟨W.heap.size, 0, none⟩) t.words.l.length t.words.l.length r wo hrl (HR.out.sl (by have := HN.out; omega))
    have HCl := Lib.hid hCl; clear hCl
    have HRl := Lib.hid hrl; clear hrl
    go_step
    go_step
    refine (wpIn_wide (n := 3)).1 ?_
    gi_wp2_with (first
      | (refine ⟨trivial, ?_⟩; gi_at_call 72; refine (callsIn_wide.2 HCl.out).mono ?_; clear HCl; rintro e w1 ⟨a', c', rfl, hown, hx1⟩;
         have hy1 := yielded (D := fun hi => Inn w0.heap.size M W.heap.size hi) (T := fun wr => Ext wa wr ∧ TBox wr B t) hown hx1 HRl.out HN.out HXo.out HJo.out HK.out.2.2 HJ.out HY.out; obtain ⟨fn, tm, ac, bc, hy, hR⟩ := hy1; have HRn := Lib.hid hR; have HX1 := Lib.hid hx1; clear hown hx1 hR)
      | (refine (HRn.out _).mono ?_; clear HRn hy; rintro e w2 (⟨rfl, hJ2, hk2⟩ | ⟨rfl, hx2⟩)))
    · have HJ2 := Lib.hid hJ2
      have HK2 := Lib.hid hk2
      clear hJ2 hk2
      have HR2 : Hid (Row w2 W.heap.size r t.words.l.length) := (HR.out.ext HX1.out).keep HK2.out (.inr ⟨by omega, by omega⟩)
      have HX2 : Hid (Ext wa w2) := ext_keep (HXo.out.1.1.trans HX1.out) HK2.out (fun k h => .inl ⟨by have := HXS.out; omega, HM.out k h⟩)
      have HT2 : Hid (TBox w2 B t) := HK2.out.heap (HX1.out.block HXo.out.1.2) (.inl ⟨HBW.out, HMB.out⟩)
      have HS2 : Hid (W.heap.size + 1 ≤ w2.heap.size) := Nat.le_trans HXo.out.2 (Nat.le_trans HX1.out.size HK2.out.size)
      clear HK2 HX1 HJo
      have n0 : (0 : Int) ≤ (t.words.l.length : Int) := by omega
      have n6 : (t.words.l.length : Int) ≤ 6 := by have := HN.out; omega
      go_wp2_with fail
      go_loopw [4] (fun v wr => ∃ j : Nat, j ≤ t.words.l.length ∧ v = .int .i64 ((j : Int) - 1) ∧ Hid (Row wr W.heap.size (r.take j ++ List.replicate (t.words.l.length - j) 0) t.words.l.length) ∧
          Hid (incR ((cntR t).drop j) (r.drop j) = (true, List.replicate ((cntR t).length - j) 0)) ∧ Hid (Keep (fun k => k ≠ W.heap.size) w2 wr)) (fun v _ => (intOf v + 1).toNat)
      case atStart =>
        refine ⟨t.words.l.length, Nat.le_refl _, rfl, ?_, ?_, Keep.refl _ _⟩
        · rw [Nat.sub_self, List.take_of_length_le (by have := HRl.out; omega)]; show Row _ _ _ _; simpa using HR2.out
        · rw [List.drop_eq_nil_of_le (by rw [HLn.out]; exact Nat.le_refl _), HLn.out]; simp [incR, Hid]
      case round =>
        obtain ⟨wq, rfl⟩ : ∃ wq : World, wq = wr := ⟨_, rfl⟩
        obtain ⟨j, hj, rfl, HRq, HIq, HKq⟩ := hrel
        have HXq : Hid (Ext wa wq) := ext_keep HX2.out HKq.out (fun k h => by have := HXa.out.size; omega)
        have HTq : Hid (TBox wq B t) := HKq.out.heap HT2.out (by have := HBW.out; have := HW.out.size; omega)
        have HSq : Hid (W.heap.size + 1 ≤ wq.heap.size) := Nat.le_trans HS2.out HKq.out.size
        have HJq : Hid (J (W.heap.size + 1) (pre ++ [r]) wq) := HJ.out _ _ _ _ (by omega) HJ2.out (HKq.out.mono (fun k _ h => by simp only [Out] at h; omega))
        clear HR2 HX2 HT2 HJ2 HJx HY
        have hcB := cell_at HTq.out 2
        simp only [List.getElem?_toArray, List.getElem?_cons_succ, List.getElem?_cons_zero] at hcB
        rcases Nat.eq_zero_or_pos j with hj0 | hj0
        · subst hj0
          have HZ : Hid (incR (cntR t) r = (true, List.replicate ((cntR t).length) 0)) := by have := HIq.out; show _ = _; simpa using this
          clear HIq HRq
          go_wp2_with fail
          go_quiet (fail)
          go_wp2
          refine bodyPost_ret (results_none rfl _ _ _) rfl ?_
          refine ⟨⟨_, rfl⟩, W.heap.size + 1, by omega, .inl ?_⟩
          rw [HK.out.2.2, seqR_over HZ.out]
          exact HJ.out _ _ _ _ (by omega) HJq.out (Keep.of_ext ((Ext.refl _).drewN _))
        · obtain ⟨q, rfl⟩ : ∃ q, j = q + 1 := ⟨j - 1, by omega⟩
          clear hj0
          have eq1 : (((q + 1 : Nat) : Int) - 1) = (q : Int) := by omega
          rw [eq1]
          clear eq1
          have hqr : q < r.length := by have := HRl.out; omega
          have hqw : q < t.words.l.length := by omega
          have hqc : q < (cntR t).length := by have := HLn.out; omega
          obtain ⟨bw, ow, hwa, hwc⟩ := HT.out.2.2.resolve_left (by omega)
          have cw := HXq.out.cell (hwc q hqw 0 (by omega))
          have hLen : (r.take (q + 1) ++ List.replicate (t.words.l.length - (q + 1)) 0).length = t.words.l.length := by simp; omega
          have hget : (r.take (q + 1) ++ List.replicate (t.words.l.length - (q + 1)) 0)[q]'(by omega) = r[q] := by
            rw [List.getElem_append_left (by simp; omega), List.getElem_take]
          have cr := HRq.out.cell q (by omega)
          rw [hget] at cr
          have fr := HRq.out.frozen q
          have hcq : (cntR t)[q] = t.words.l[q].l.length := by simp [cntR]
          have hr4 : r[q] < t.words.l[q].l.length := by rw [← hcq]; exact okR_get HK.out.1 q hqr hqc
          have hw4 : t.words.l[q].l.length ≤ 4 := HWd.out _ (List.getElem_mem hqw)
          simp only [slC, Nat.mul_one, Nat.add_zero] at cw
          have HCq := Lib.hid hcq; clear hcq
          have HRq' := HRq
          clear hget
          have HLen := Lib.hid hLen; clear hLen
          rw [hwa] at hcB
          have HIn : Hid (r[q] = t.words.l[q].l.length - 1 → incR ((cntR t).drop q) (r.drop q) = (true, List.replicate ((cntR t).length - q) 0)) := fun e =>
            incR_over (okR_length HK.out.1) q hqc HIq.out (by rw [e, HCq.out])
          have HSt : Hid (r[q] ≠ t.words.l[q].l.length - 1 → incR (cntR t) r = (false, r.take q ++ (r[q] + 1) :: List.replicate ((cntR t).length - (q + 1)) 0)) := fun e =>
            incR_step (okR_length HK.out.1) q hqc HIq.out (by rw [HCq.out]; exact e)
          clear HIq HCq hwc
          have i0 : (0 : Int) ≤ q := by omega
          have i1 : (q : Int) < (t.words.l.length : Int) := by omega
          have dq : decide ((0 : Int) ≤ (q : Int)) = true := decide_eq_true (by omega)
          generalize hrq : r[q] = v at *
          generalize hsl : t.words.l[q] = s at *
          have HRQ := Lib.hid hrq; clear hrq
          have HSL := Lib.hid hsl; clear hsl
          have hlo : W.heap.size < wq.heap.size := by have := HSq.out; omega
          have HLo := Lib.hid hlo; clear hlo
          by_cases he : v = s.l.length - 1
          · have hb : (((v : Int)) == (s.l.length : Int) - 1) = true := by rw [beq_iff_eq]; omega
            have HInn : Hid (incR ((cntR t).drop q) (r.drop q) = (true, List.replicate ((cntR t).length - q) 0)) := HIn.out he
            clear HIn HSt he
            go_wp2_with fail
            go_quiet (fail)
            go_wp2_with fail
            go_roundw
            case rel =>
              refine ⟨q, by omega, rfl, ?_, HInn.out, ?_⟩
              · have := (HRq.out.ext ((Ext.refl _).drewN nq)).set q 0 (by rw [HLen.out]; exact hqw)
                rw [take_set _ _ _ _ hqr] at this
                rw [show t.words.l.length - q = t.words.l.length - (q + 1) + 1 by omega, List.replicate_succ]
                exact this
              · exact (HKq.out.trans (Keep.of_ext ((Ext.refl _).drewN _))).setCell _ _ (fun _ h => h rfl)
            case measure => simp [intOf]
          · have hb : (((v : Int)) == (s.l.length : Int) - 1) = false := by rw [beq_eq_false_iff_ne]; omega
            have HStt := Lib.hid (HSt.out he)
            clear HIn HSt he
            have v0 : (0 : Int) ≤ v := by omega
            have v4 : (v : Int) < 4 := by omega
            go_wp2_with fail
            go_quiet (fail)
            go_wp2_with fail
            go_roundw
            case rel =>
              refine ⟨pre ++ [r], r.take q ++ (v + 1) :: List.replicate ((cntR t).length - (q + 1)) 0, k', ⟨?_, ?_, ?_⟩, ?_, ?_, ?_⟩
              · have := (incR_ok HK.out.1).1; rw [HStt.out] at this; exact this
              · have := (incR_ok HK.out.1).2.2.2 (by rw [HStt.out]); rw [HStt.out] at this; have h2 := HK.out.2.1; simp only at this; omega
              · rw [HK.out.2.2, seqR_next HStt.out]; simp
              · have := (HRq.out.ext ((Ext.refl _).drewN nq)).set q (v + 1) (by rw [HLen.out]; exact hqw)
                rw [take_set _ _ _ _ hqr, ← HLn.out] at this
                rw [← HLn.out]
                exact this
              · exact HJ.out _ _ _ _ (by omega) (HJ.out _ _ _ _ (by omega) HJq.out (Keep.of_ext ((Ext.refl _).drewN _))) ((Keep.refl _ _).setCell _ _ (by simp only [Out]; omega))
              · exact ⟨⟨(HXq.out.trans ((Ext.refl _).drewN _)).setCell (by have := HXa.out.size; show _ ≤ W.heap.size; omega) _, ((Keep.refl (fun k => k ≠ W.heap.size) _).setCell _ _ (fun _ h => h rfl)).heap (((Ext.refl _).drewN _).block HTq.out) (by have := HBW.out; have := HW.out.size; omega)⟩, by
                  have := HSq.out; show _ ≤ (World.setCell _ _ _).heap.size; rw [World.size_setCell]; exact this⟩
            case measure =>
              have h1 := (HRq.out.ext ((Ext.refl _).drewN nq)).set q (v + 1) (by rw [HLen.out]; exact hqw)
              rw [take_set _ _ _ _ hqr] at h1
              have h2 := rowOf_row h1
              have hl2 : (r.take q ++ (v + 1) :: List.replicate (t.words.l.length - (q + 1)) 0).length = t.words.l.length := by simp; omega
              rw [hl2] at h2
              have h3 := rowOf_row HR.out
              rw [HRl.out] at h3
              have h4 := (incR_ok HK.out.1)
              have h5 := h4.2.2.2 (by rw [HStt.out])
              rw [HStt.out, HLn.out] at h5
              have h6 := (incR_ok h4.1).2.1
              rw [HStt.out, HLn.out] at h6
              simp only at h5 h6
              rw [show ((v : Int) + 1) = ((v + 1 : Nat) : Int) by omega, h2, h3, h5]
              omega
    · have HX2 := Lib.hid hx2; clear hx2
      go_wp2
      go_end0
      refine ⟨⟨_, rfl⟩, W.heap.size + 1, by omega, .inr ⟨_, ?_, HX2.out⟩⟩
      rw [HK.out.2.2]
      simp only [seqR]
      exact ⟨_, by rw [List.append_assoc]; rfl⟩
end Go.Proofs.YtopjjcgmcieboaaGreatDoor
