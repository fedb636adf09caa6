/-
  levels of package pillar returns, for each place, a number such that of two places of which the one sees the other the later one has at most 1 more; the list lies in new memory, and nothing that was there is turned. The profile at work must lie in memory as told.
-/
import Derived.Test.YtfognlealnhodaaM
import Derived.Shelf.RegionOpen
import Derived.Deep.OwnRows
namespace Go.Proofs.Ytfognlealnhodaa
open Go.RowKit
attribute [local go_sem] Oper.semAt_some

theorem made0 (P : Nat) : madeCells #[.int .i64 0] P = (nums (List.replicate P 0)).toArray := by
  apply Array.ext_getElem?
  intro i
  by_cases hi : i < P
  · simp [madeCells, nums, hi, Nat.mod_one]
  · simp [madeCells, nums, hi]

theorem take_set (r z : List Nat) (q x : Nat) (hq : q < r.length) : (r.take (q + 1) ++ z).set q x = r.take q ++ x :: z := by
  rw [List.set_append_left _ _ (by simp; omega), List.take_succ_eq_append_getElem hq, List.set_append_right _ _ (by simp; omega), List.length_take, Nat.min_eq_left (by omega)]
  simp


/-- Levels behind some places that are seen. -/
def lvQ (lev : Nat) (L : List Nat) (qs : List Nat) : List Nat := qs.foldl (fun L q => L.set q (min (at0 L q) (lev + 1))) L
def lvP (S : Nat → Nat → Bool) (n : Nat) (L : List Nat) (p : Nat) : List Nat := lvQ (at0 L p) L (seenTo S p n)
def lvTo (S : Nat → Nat → Bool) (n m : Nat) : List Nat := (List.range m).foldl (lvP S n) (List.range n)
/-- The levels. -/
def levelsF (S : Nat → Nat → Bool) (n : Nat) : List Nat := lvTo S n n
theorem lvQ_snoc (lev : Nat) (L qs : List Nat) (q : Nat) : lvQ lev L (qs ++ [q]) = (lvQ lev L qs).set q (min (at0 (lvQ lev L qs) q) (lev + 1)) := by
  unfold lvQ; rw [List.foldl_append]; rfl
theorem lvTo_succ (S : Nat → Nat → Bool) (n m : Nat) : lvTo S n (m + 1) = lvP S n (lvTo S n m) m := by
  unfold lvTo; rw [List.range_succ, List.foldl_append]; rfl
theorem lvQ_length (lev : Nat) (qs : List Nat) : ∀ L : List Nat, (lvQ lev L qs).length = L.length := by
  induction qs with
  | nil => intro L; rfl
  | cons q qs ih => intro L; show (lvQ lev (L.set q _) qs).length = _; rw [ih]; simp
theorem lvTo_length (S : Nat → Nat → Bool) (n m : Nat) : (lvTo S n m).length = n := by
  induction m with
  | zero => simp [lvTo]
  | succ m ih => rw [lvTo_succ]; unfold lvP; rw [lvQ_length, ih]
theorem at0_set (L : List Nat) (q x i : Nat) : at0 (L.set q x) i = if q = i ∧ i < L.length then x else at0 L i := by
  unfold at0
  rw [List.getElem?_set]
  by_cases h : q = i
  · subst h
    by_cases h2 : q < L.length
    · simp [h2]
    · simp [h2]
  · simp [h]
theorem lvQ_le (lev : Nat) (qs : List Nat) : ∀ (L : List Nat) (i : Nat), at0 (lvQ lev L qs) i ≤ at0 L i := by
  induction qs with
  | nil => intro L i; exact Nat.le_refl _
  | cons q qs ih =>
    intro L i
    show at0 (lvQ lev (L.set q _) qs) i ≤ _
    refine Nat.le_trans (ih _ i) ?_
    rw [at0_set]
    split
    · rename_i h; rw [← h.1]; exact Nat.min_le_left _ _
    · exact Nat.le_refl _
theorem at0_range (n i : Nat) : at0 (List.range n) i ≤ n := by
  unfold at0
  by_cases h : i < n
  · simp [h]; omega
  · rw [List.getElem?_eq_none (by simpa using h)]; simp
theorem lvTo_le (S : Nat → Nat → Bool) (n m i : Nat) : at0 (lvTo S n m) i ≤ n := by
  induction m with
  | zero => exact at0_range n i
  | succ m ih => rw [lvTo_succ]; exact Nat.le_trans (lvQ_le _ _ _ _) ih

theorem Row.at0 {w : World} {g cap : Nat} {L : List Nat} (h : Row w g L cap) (i : Nat) (hi : i < L.length) : w.cell? ⟨g, i, none⟩ = some (.int .i64 (at0 L i : Int)) := by
  rw [h.cell i hi]; simp [Ytfognlealnhodaa.at0, hi]
theorem Row.keep' {a b : World} {g cap : Nat} {L : List Nat} {D : Nat → Prop} (h : Row a g L cap) (k : Keep D a b) (hd : D g) : Row b g L cap := h.keep k hd

set_option maxRecDepth 100000 in
set_option maxHeartbeats 4000000 in
theorem levels_any (B : Nat) (d : Bool) (v : PV) (S : Nat → Nat → Bool) (w : World) (hw : Wk w B d v S) (hn : v.at'.l.length ≤ 40) (hn1 : 2 ≤ v.at'.l.length) :
    Calls Try.prog 44 #[.pointer (some ⟨B, 0, none⟩)] w fun e w' => e = .returned (.slice (some ⟨w.heap.size, 0, none⟩) v.at'.l.length v.at'.l.length) ∧ Row w' w.heap.size (levelsF S v.at'.l.length) v.at'.l.length ∧ Ext w w' := by
  have HWB := Lib.hid hw.wb
  have c0 := hw.wb.c0
  have hBlt := hw.lt
  have HBl := Lib.hid hBlt
  have hlen : v.at'.l.length = v.at'.l.length := rfl
  obtain ⟨n, hnn⟩ : ∃ n, v.at'.l.length = n := ⟨_, rfl⟩
  rw [hnn] at c0 hn hn1 ⊢
  have HNn := Lib.hid hnn
  have hmk := run_make_row' (P := Try.prog) 25 3 (.int .i64 0) 8 Try.underlying25 info3 rfl .i64 .i64 n (by omega) (by omega)
  rw [made0] at hmk
  clear hw hnn hlen
  refine callsIn_wide.1 (callsIn_of_wp_marks (n := 3) Try.func44 rfl trivial ?_ rfl)
  simp only [Try.ntmps44, List.size_toArray, List.length_cons, List.length_nil, Nat.reduceAdd, Nat.reduceSub, Array.replicate_succ, Array.replicate_zero, List.push_toArray, List.append_toArray, List.nil_append, List.cons_append]
  refine wpIn_wide.2 ?_
  have n0 : (0 : Int) ≤ (n : Int) := by omega
  have n40 : (n : Int) ≤ 40 := by omega
  go_wp2_with fail
  clear c0 hmk
  have HR0 : Hid (Row ((w.alloc (.cells (nums (List.replicate n 0)).toArray 3)).alloc (.cells #[.slice (some ⟨w.heap.size, 0, none⟩) n n] 25)) w.heap.size (List.range 0 ++ List.replicate (n - 0) 0) n) :=
    ⟨(nums (List.replicate n 0)).toArray, (alloc_old (by simp only [World.size_alloc]; omega)).trans (alloc_new rfl), by simp [nums], by simp, fun i hi => by simp at hi; simp [nums, hi]⟩
  have HB0 : Hid (((w.alloc (.cells (nums (List.replicate n 0)).toArray 3)).alloc (.cells #[.slice (some ⟨w.heap.size, 0, none⟩) n n] 25)).heap[w.heap.size + 1]? = some (.cells #[.slice (some ⟨w.heap.size, 0, none⟩) n n] 25 (0, 0))) := alloc_new (by simp only [World.size_alloc])
  have HX0 : Hid (Ext w ((w.alloc (.cells (nums (List.replicate n 0)).toArray 3)).alloc (.cells #[.slice (some ⟨w.heap.size, 0, none⟩) n n] 25))) := ((Ext.refl w).alloc _).alloc _
  have cb := (cell_at HB0.out 0).trans rfl
  go_wp2_with fail
  clear cb
  generalize (w.alloc (.cells (nums (List.replicate n 0)).toArray 3)).alloc (.cells #[.slice (some ⟨w.heap.size, 0, none⟩) n n] 25) = V0 at *
  go_loopw [17] (fun i wr => ∃ k : Nat, k ≤ n ∧ i = .int .i64 (k : Int) ∧ Hid (Row wr w.heap.size (List.range k ++ List.replicate (n - k) 0) n) ∧ Hid (wr.heap[w.heap.size + 1]? = some (.cells #[.slice (some ⟨w.heap.size, 0, none⟩) n n] 25 (0, 0))) ∧ Hid (Ext w wr)) (fun i _ => n - (intOf i).toNat)
  case atStart => exact ⟨0, Nat.zero_le _, rfl, HR0, HB0, HX0⟩
  case round =>
    clear HR0 HB0 HX0
    obtain ⟨wo, rfl⟩ : ∃ wo : World, wo = wr := ⟨_, rfl⟩
    obtain ⟨k, hk, rfl, HR, HBx, HX⟩ := hrel
    have cb := (cell_at HBx.out 0).trans rfl
    by_cases hlt : k < n
    · have dk : decide ((k : Int) < (n : Int)) = true := decide_eq_true (by omega)
      have hlen : (List.range k ++ List.replicate (n - k) 0).length = n := by simp; omega
      have ck := HR.out.cell k (by omega)
      have fk := HR.out.frozen k
      obtain ⟨v0, hv0⟩ : ∃ v0 : Nat, (List.range k ++ List.replicate (n - k) 0)[k]'(by omega) = v0 := ⟨_, rfl⟩
      rw [hv0] at ck
      clear hv0
      have hset := HR.out.set k k (by omega)
      have hse : (List.range k ++ List.replicate (n - k) 0).set k k = List.range (k + 1) ++ List.replicate (n - (k + 1)) 0 := by
        rw [List.set_append_right _ _ (by simp), List.length_range, Nat.sub_self, show n - k = (n - (k + 1)) + 1 by omega, List.replicate_succ, List.set_cons_zero, List.range_succ]; simp
      rw [hse] at hset
      clear hse
      have HSet := Lib.hid hset
      have i1 : (0 : Int) ≤ (k : Int) := by omega
      have i2 : (k : Int) < (n : Int) := by omega
      clear hset hlen
      go_wp2_with fail
      go_roundw
      case rel => exact ⟨k + 1, by omega, by go_num, HSet, heap_set_other _ _ _ _ HBx.out (by omega), HX.out.setCell (Nat.le_refl _) _⟩
      case measure => simp [intOf]; omega
    · have dk : decide ((k : Int) < (n : Int)) = false := decide_eq_false (by omega)
      have hke : k = n := by omega
      have HR2 : Hid (Row wo w.heap.size (lvTo S n 0) n) := by have := HR.out; rw [hke] at this; simpa [lvTo, Hid] using this
      clear hke HR
      go_wp2_with fail
      clear cb
      refine wp_loop (fun a wr => ∃ u1 u2 u4 u5 u6 u7 u8 u9 u10 u11 u12 u13 u14 u15 u16 u17 u18 u19 u20 u21 u22 u23 u24 u28 u29 u30 u31 u32 u33 u34 u35 u36 u37 u38 u39 u40 u41 u42 u43 u44 u45 u46 u47 : Value, ∃ (ds : List Deferred) (k : Nat), a = { tmps := #[.pointer (some ⟨B, 0, none⟩), u1, u2, .pointer (some ⟨w.heap.size + 1, 0, none⟩), u4, u5, u6, u7, u8, u9, u10, u11, u12, u13, u14, u15, u16, u17, u18, u19, u20, u21, u22, u23, u24, .slice (some ⟨w.heap.size, 0, none⟩) n n, .int .i64 (n : Int), .int .i64 (k : Int), u28, u29, u30, u31, u32, u33, u34, u35, u36, u37, u38, u39, u40, u41, u42, u43, u44, u45, u46, u47], defers := ds } ∧ k ≤ n ∧ Hid (Coll w.heap.size wr.heap.size ds wr) ∧ Hid (Row wr w.heap.size (lvTo S n k) n) ∧ Hid (wr.heap[w.heap.size + 1]? = some (.cells #[.slice (some ⟨w.heap.size, 0, none⟩) n n] 25 (0, 0))) ∧ Hid (Ext w wr)) (fun a _ => n - (intOf (a.tmps.getD 27 undef)).toNat) ⟨_, _, _, _, _, _, _, _, _, _, _, _, _, _, _, _, _, _, _, _, _, _, _, _, _, _, _, _, _, _, _, _, _, _, _, _, _, _, _, _, _, _, _, [], 0, rfl, Nat.zero_le _, trivial, HR2, HBx, HX⟩ ?_
      clear HR2 HBx HX hlt dk
      rintro a wr ⟨u1, u2, u4, u5, u6, u7, u8, u9, u10, u11, u12, u13, u14, u15, u16, u17, u18, u19, u20, u21, u22, u23, u24, u28, u29, u30, u31, u32, u33, u34, u35, u36, u37, u38, u39, u40, u41, u42, u43, u44, u45, u46, u47, ds, k, rfl, hk, HC, HR, HBx, HX⟩
      by_cases hlt : k < n
      · have dk : decide ((k : Int) < (n : Int)) = true := decide_eq_true (by omega)
        have ck := HR.out.at0 k (by rw [lvTo_length]; exact hlt)
        have i1 : (0 : Int) ≤ (k : Int) := by omega
        have i2 : (k : Int) < (n : Int) := by omega
        have HLe : Hid (at0 (lvTo S n k) k ≤ 40) := Nat.le_trans (lvTo_le S n k k) hn
        have HT := Lib.hid (lvTo_succ S n k)
        have HSn := Lib.hid (seen_gives B k d v S (wr.alloc (.cells #[.int .i64 (at0 (lvTo S n k) k : Int)] 3)) (HWB.out.ext (HX.out.alloc _)) (by rw [HNn.out]; exact hn) (by rw [HNn.out]; exact hlt))
        rw [HNn.out] at HSn
        generalize hlv : at0 (lvTo S n k) k = lev at *
        have HLv := Lib.hid hlv; clear hlv
        have HX1 := Lib.hid (HX.out.alloc (.cells #[.int .i64 (lev : Int)] 3))
        have HJ1 : Hid (IBox (wr.alloc (.cells #[.int .i64 (lev : Int)] 3)) wr.heap.size (lev : Int)) := ibox_new _ _
        have HC1 : Hid (Coll w.heap.size wr.heap.size ds (wr.alloc (.cells #[.int .i64 (lev : Int)] 3))) := HC.out.ext ((Ext.refl wr).alloc _)
        have HR1 := Lib.hid (HR.out.ext ((Ext.refl wr).alloc (.cells #[.int .i64 (lev : Int)] 3)))
        have HB1 : Hid ((wr.alloc (.cells #[.int .i64 (lev : Int)] 3)).heap[w.heap.size + 1]? = some (.cells #[.slice (some ⟨w.heap.size, 0, none⟩) n n] 25 (0, 0))) := ((Ext.refl wr).alloc _).block HBx.out
        have HLt : Hid (w.heap.size + 1 < wr.heap.size ∧ B < w.heap.size) := ⟨(Array.getElem?_eq_some_iff.1 HBx.out).1, HBl.out⟩
        go_wp2_with fail
        clear ck HC HX HR HBx
        refine HSn.out.mono ?_
        rintro e w2 ⟨pb, wb, rfl, hpb, hwb, hx2, hG⟩
        rw [World.size_alloc] at hpb hwb
        have HX2 : Hid (Ext w w2) := HX1.out.trans hx2
        have HJ2 := Lib.hid (HJ1.out.ext hx2)
        have HC2 := Lib.hid (HC1.out.ext hx2)
        have HR2 := Lib.hid (HR1.out.ext hx2)
        have HB2 : Hid (w2.heap[w.heap.size + 1]? = some (.cells #[.slice (some ⟨w.heap.size, 0, none⟩) n n] 25 (0, 0))) := hx2.block HB1.out
        have HS2 : Hid (wr.heap.size < w2.heap.size) := by have := hx2.size; rw [World.size_alloc] at this; show _ < _; omega
        have HG := Lib.hid (hG w2 (fun x => x ≠ w.heap.size) (Keep.refl _ _) (by have := HLt.out; refine ⟨?_, ?_, ?_⟩ <;> omega))
        clear hG hx2 HSn HX1 HJ1 HC1 HR1 HB1
        go_wp2_with fail
        refine (wpIn_wide (n := 3)).1 ?_
        refine wp_rangeFuncT (a₁ := ?a1) rfl enters_88 HG.out rfl
          (fun hi pre W => Row W w.heap.size (lvQ lev (lvTo S n k) pre) n ∧ Keep (fun x => x < w2.heap.size ∧ x ≠ w.heap.size) w2 W)
          (fun hi c pre W => False)
          ?_ ?_ ?_ ?assign ?body ?done ?stop
        case assign =>
          intro l s W K hK
          gi_wp2
          exact hK
        · intro hi s A B' hh h hk
          have := HLt.out
          have := HS2.out
          exact ⟨h.1.keep hk (.inl (by omega)), h.2.trans (hk.mono (fun k _ h => .inl h.1))⟩
        · intro c hi s A B' hh h hk
          exact h
        · intro hi hh
          exact ⟨HR2.out, Keep.refl _ _⟩
        case stop =>
          intro hi c pre W hh hp h
          exact h.elim
        case body =>
          rintro l hi pre q W hh hhW ⟨hR, hKp⟩ hpre
          have hLt := HLt.out
          have hS2 := HS2.out
          have hq : q < n := by
            have := (seenTo_mem (S := S) (p := k) (m := n) (q := q)).1 (hpre.subset (List.mem_append_right _ (List.mem_singleton.2 rfl)))
            exact this.1
          have c1 : W.cell? ⟨w.heap.size + 1, 0, none⟩ = some (.slice (some ⟨w.heap.size, 0, none⟩) n n) := (cell_at (hKp.heap HB2.out ⟨by omega, by omega⟩) 0).trans rfl
          have cj := (show IBox W wr.heap.size (lev : Int) from hKp.heap HJ2.out ⟨by omega, by omega⟩).cell
          have hql : q < (lvQ lev (lvTo S n k) pre).length := by rw [lvQ_length, lvTo_length]; exact hq
          have cq := hR.at0 q hql
          have fq := hR.frozen q
          have hbk := HLe.out
          have hbq : at0 (lvQ lev (lvTo S n k) pre) q ≤ 40 := Nat.le_trans (lvQ_le _ _ _ _) (Nat.le_trans (lvTo_le S n k q) hn)
          have hset := hR.set q (min (at0 (lvQ lev (lvTo S n k) pre) q) (lev + 1)) hql
          rw [← lvQ_snoc] at hset
          have HSet := Lib.hid hset
          have hb1 : w.heap.size < W.heap.size := hR.lt
          have HKp := Lib.hid hKp
          clear hset hKp hR hpre hql
          generalize at0 (lvQ lev (lvTo S n k) pre) q = x at *
          have j1 : (0 : Int) ≤ (q : Int) := by omega
          have j2 : (q : Int) < (n : Int) := by omega
          have hwr : IntKind.i64.wrap ((lev : Int) + 1) = (lev : Int) + 1 := IntWalk.i64_in _ (by omega)
          have hmx : Try.prog.follows .mixedOrders = true := by kernel_rfl
          have hmin : (min x (lev + 1) : Nat) = if (lev : Int) + 1 < (x : Int) then lev + 1 else x := by split <;> omega
          by_cases hx : (lev : Int) + 1 < (x : Int)
          · rw [if_pos hx] at hmin
            rw [hmin] at HSet
            clear hmin
            gi_wp2_with fail
            refine round_tail 10 hmx (by kernel_rfl) (by kernel_rfl) ?_
            simp only [List.take_succ_cons, List.take_zero, List.drop_succ_cons, List.drop_zero]
            change wpStill _ _ W.drew _ _ _
            repeat still_step
            refine wpStill_nil ?_
            change wpListIn _ _ _ _ _ _ _ W.drew
            gi_wp2_with fail
            refine ⟨(Keep.refl _ W).drew.setCell _ _ (fun _ h => ?_), HSet.out.ext (Ext.refl _).drew, HKp.out.drew.setCell _ _ (fun _ h => h.2 rfl)⟩
            rcases h with h | h
            · exact h.2 rfl
            · have := h.1; simp only at this; omega
          · rw [if_neg hx] at hmin
            rw [hmin] at HSet
            clear hmin
            gi_wp2_with fail
            refine round_tail 10 hmx (by kernel_rfl) (by kernel_rfl) ?_
            simp only [List.take_succ_cons, List.take_zero, List.drop_succ_cons, List.drop_zero]
            change wpStill _ _ W.drew _ _ _
            repeat still_step
            refine wpStill_nil ?_
            change wpListIn _ _ _ _ _ _ _ W.drew
            gi_wp2_with fail
            refine ⟨(Keep.refl _ W).drew.setCell _ _ (fun _ h => ?_), HSet.out.ext (Ext.refl _).drew, HKp.out.drew.setCell _ _ (fun _ h => h.2 rfl)⟩
            rcases h with h | h
            · exact h.2 rfl
            · have := h.1; simp only at this; omega
        case done =>
          rintro hi W hh ⟨hR, hKp⟩ hD
          have hLt := HLt.out
          have hS2 := HS2.out
          have hR3 : Row W w.heap.size (lvTo S n (k + 1)) n := by rw [HT.out]; unfold lvP; rw [HLv.out]; exact hR
          have HRW := Lib.hid hR3
          have hXW : Ext w W := ext_keep HX2.out hKp (fun i hi => ⟨by have := HX2.out.size; omega, by omega⟩)
          have HXW := Lib.hid hXW
          have HCW : Hid (Coll w.heap.size W.heap.size ({ target := .collected w2.heap.size, args := #[] } :: ds) W) :=
            Coll.cons ((HC2.out.mono (show wr.heap.size ≤ w2.heap.size by omega)).keepD hKp (fun b _ h hb => ⟨h, fun e => by obtain ⟨cur, hc, _⟩ := HR2.out; rw [e] at hb; rw [hc] at hb; cases hb⟩)) (by omega) (Array.getElem?_eq_some_iff.1 hD).1 hD
          have HBW : Hid (W.heap[w.heap.size + 1]? = some (.cells #[.slice (some ⟨w.heap.size, 0, none⟩) n n] 25 (0, 0))) := hKp.heap HB2.out ⟨by omega, by omega⟩
          clear hR hKp hD hR3 hXW
          simp only [Exit.inBlock, Exit.then]
          go_wp2_with fail
          refine ⟨⟨_, _, _, _, _, _, _, _, _, _, _, _, _, _, _, _, _, _, _, _, _, _, _, _, _, _, _, _, _, _, _, _, _, _, _, _, _, _, _, _, _, _, _, _, k + 1, rfl, by omega, HCW, HRW, HBW, HXW⟩, ?_⟩
          simp [intOf]; omega
      · have dk : decide ((k : Int) < (n : Int)) = false := decide_eq_false (by omega)
        have hke : k = n := by omega
        have HRe : Hid (Row wr w.heap.size (levelsF S n) n) := by have := HR.out; rw [hke] at this; exact this
        have cb := (cell_at HBx.out 0).trans rfl
        clear hke HR
        go_wp2_with fail
        simp only [bodyPostM]
        refine leaves_coll (hi := wr.heap.size) (lo := w.heap.size) HC.out fun w' hs => ?_
        obtain ⟨cur, hc, hr⟩ := HRe.out
        exact ⟨_, results_tmp rfl _ _ _, rfl, ⟨cur, hs.cells hc, hr⟩, hs.ext HX.out (Nat.le_refl _)⟩
end Go.Proofs.Ytfognlealnhodaa
