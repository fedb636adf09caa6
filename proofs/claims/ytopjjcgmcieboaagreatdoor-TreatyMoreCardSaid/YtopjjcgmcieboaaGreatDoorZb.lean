/-
  slices.Compare tells the order of two lists of numbers; strconv.AppendInt appends a small number's numeral. Lists must lie in memory as told.
  textOf of package treaty gives a line's text. The line must lie in memory as told.
  slices.SortFunc with slices.Compare puts a slice of different lists of numbers into the order of lists, and turns nothing but the slice's own row. The lists must lie in memory as told.
-/
import Derived.Test.YtopjjcgmcieboaaGreatDoorH
import Derived.Test.YtopjjcgmcieboaaGreatDoorZa
import Derived.Shelf.Strconv.AppendUint10
import Derived.Shelf.Lay
import Derived.Ground.NamesProg
import Derived.Lib.BufferRead
import Derived.Shelf.SlSortCmp.NoneTotal
import Derived.Ground.SlsfProg
import Derived.Sort.OwnSorted
namespace Go.Proofs
open Go.Shelf
shelf_lay LaysM.n288 Nm 288 at Tryz as Tryz.appendUintL
end Go.Proofs
namespace Go.Proofs.YtopjjcgmcieboaaGreatDoor
open Go.RowKit

theorem isNaN90 (x : Int) (w : World) : Calls Tryz.prog 90 #[.int .i64 x] w fun e w' => e = .returned (.bool false) ∧ w = w' := by
  go_enter Tryz.func90, Tryz.ntmps90
  go_wp2
  go_ret
  simp

/-- How two numbers stand. -/
def cmpI (x y : Int) : Int := if x < y then -1 else if y < x then 1 else 0
theorem cmpI_lt {x y : Int} (h : x < y) : cmpI x y = -1 := if_pos h
theorem cmpI_gt {x y : Int} (h : y < x) : cmpI x y = 1 := by unfold cmpI; rw [if_neg (by omega), if_pos h]
theorem cmpI_self (x : Int) : cmpI x x = 0 := by unfold cmpI; rw [if_neg (by omega), if_neg (by omega)]

theorem cmp_any (x y : Int) (w : World) : Calls Tryz.prog 42 #[.int .i64 x, .int .i64 y] w fun e w' => e = .returned (.int .i64 (cmpI x y)) ∧ w = w' := by
  rcases Int.lt_trichotomy x y with h | h | h
  · rw [cmpI_lt h]
    go_enter Tryz.func42, Tryz.ntmps42
    go_wp2_with (go_at_call 90; refine (isNaN90 _ _).mono ?_; rintro e w' ⟨rfl, rfl⟩)
    go_ret
    simp
  · subst h
    rw [cmpI_self]
    have hd : ¬ (x < x) := by omega
    go_enter Tryz.func42, Tryz.ntmps42
    go_wp2_with (go_at_call 90; refine (isNaN90 _ _).mono ?_; rintro e w' ⟨rfl, rfl⟩)
    go_ret
    simp
  · rw [cmpI_gt h]
    have hd : ¬ (x < y) := by omega
    go_enter Tryz.func42, Tryz.ntmps42
    go_wp2_with (go_at_call 90; refine (isNaN90 _ _).mono ?_; rintro e w' ⟨rfl, rfl⟩)
    go_ret
    simp

theorem cmpL_take : ∀ (j : Nat) (l m : List Nat), j ≤ l.length → j ≤ m.length → l.take j = m.take j → cmpL l m = cmpL (l.drop j) (m.drop j)
  | 0, l, m, _, _, _ => rfl
  | j + 1, [], m, h, _, _ => by simp at h
  | j + 1, x :: l, [], _, h, _ => by simp at h
  | j + 1, x :: l, y :: m, h1, h2, h3 => by
    rw [List.take_succ_cons, List.take_succ_cons, List.cons.injEq] at h3
    obtain ⟨rfl, h3⟩ := h3
    rw [List.drop_succ_cons, List.drop_succ_cons, ← cmpL_take j l m (by simpa using h1) (by simpa using h2) h3]
    conv => lhs; unfold cmpL
    rw [if_neg (by omega), if_neg (by omega)]
theorem cmpL_at {l m : List Nat} {j : Nat} (h : l.take j = m.take j) (hl : j < l.length) (hm : j < m.length) : cmpL l m = if l[j] < m[j] then -1 else if m[j] < l[j] then 1 else cmpL (l.drop (j + 1)) (m.drop (j + 1)) := by
  rw [cmpL_take j l m (by omega) (by omega) h, List.drop_eq_getElem_cons hl, List.drop_eq_getElem_cons hm]
  rfl
theorem take_next {l m : List Nat} {j : Nat} (h : l.take j = m.take j) (hl : j < l.length) (hm : j < m.length) (he : l[j] = m[j]) : l.take (j + 1) = m.take (j + 1) := by
  rw [List.take_succ_eq_append_getElem hl, List.take_succ_eq_append_getElem hm, h, he]

set_option maxRecDepth 100000 in
set_option maxHeartbeats 1000000 in
theorem compare_any (l m : SL Nat) (w : World) (hl : IsSl 1 num w l) (hm : IsSl 1 num w m) :
    Calls Tryz.prog 11 #[.slice l.a l.l.length l.c, .slice m.a m.l.length m.c] w fun e w' => e = .returned (.int .i64 (cmpL l.l m.l)) ∧ w = w' := by
  obtain ⟨la, lc, ll⟩ := l
  obtain ⟨ma, mc, ml⟩ := m
  dsimp only
  have HL := Lib.hid hl; clear hl
  have HM := Lib.hid hm; clear hm
  have hl6 : ll.length ≤ 1000000 := HL.out.2.1
  have hm6 : ml.length ≤ 1000000 := HM.out.2.1
  go_enter Tryz.func11, Tryz.ntmps11
  go_wp2
  go_loopw [11] (fun iv wr => ∃ j : Nat, iv = .int .i64 (j : Int) ∧ j ≤ ll.length ∧ j ≤ ml.length ∧ Hid (ll.take j = ml.take j) ∧ Hid (w = wr)) (fun iv _ => ll.length - (intOf iv).toNat)
  case atStart => exact ⟨0, rfl, Nat.zero_le _, Nat.zero_le _, rfl, rfl⟩
  case round =>
    obtain ⟨j, rfl, hj, hj', HT, HW⟩ := hrel
    obtain rfl := HW.out
    clear HW
    by_cases hlt : j < ll.length
    · have dj : decide ((j : Int) < (ll.length : Int)) = true := by simp; omega
      obtain ⟨bl, ol, hla, hlc⟩ := HL.out.2.2.resolve_left (by show ¬ ll.length = 0; omega)
      dsimp only at hla hlc
      subst hla
      have cl : w.cell? ⟨bl, ol + j, none⟩ = some (.int .i64 (ll[j] : Int)) := by have := hlc j hlt 0 (by omega); simpa [num] using this
      clear hlc
      have j0 : (0 : Int) ≤ (j : Int) := by omega
      have j1 : (j : Int) < (ll.length : Int) := by omega
      by_cases hlt' : j < ml.length
      · have dm : decide ((ml.length : Int) ≤ (j : Int)) = false := by simp; omega
        obtain ⟨bm, om, hma, hmc⟩ := HM.out.2.2.resolve_left (by show ¬ ml.length = 0; omega)
        dsimp only at hma hmc
        subst hma
        have cm : w.cell? ⟨bm, om + j, none⟩ = some (.int .i64 (ml[j] : Int)) := by have := hmc j hlt' 0 (by omega); simpa [num] using this
        clear hmc
        have j2 : (j : Int) < (ml.length : Int) := by omega
        have HA := Lib.hid (cmpL_at HT.out hlt hlt')
        have HN := Lib.hid (take_next HT.out hlt hlt')
        generalize ll[j] = x at *
        generalize ml[j] = y at *
        rcases Nat.lt_trichotomy x y with h | h | h
        · have HV : Hid (cmpL ll ml = -1) := by show _ = _; rw [HA.out, if_pos h]
          have HC := Lib.hid (cmpI_lt (show (x : Int) < (y : Int) by omega))
          clear HA HN
          go_wp2_with (go_at_call 42; refine (cmp_any _ _ _).mono ?_; rintro e w' ⟨rfl, rfl⟩; rw [HC.out])
          go_ret
          rw [HV.out]
          simp
        · subst h
          have HC := Lib.hid (cmpI_self (x : Int))
          have HN' := Lib.hid (HN.out rfl)
          clear HA HN
          go_wp2_with (go_at_call 42; refine (cmp_any _ _ _).mono ?_; rintro e w' ⟨rfl, rfl⟩; rw [HC.out])
          exact ⟨⟨j + 1, by simp, by omega, by omega, HN'.out, by first | (show True; trivial) | (show _ = _; rfl)⟩, by simp [intOf]; omega⟩
        · have HV : Hid (cmpL ll ml = 1) := by show _ = _; rw [HA.out, if_neg (by omega), if_pos h]
          have HC := Lib.hid (cmpI_gt (show (y : Int) < (x : Int) by omega))
          clear HA HN
          go_wp2_with (go_at_call 42; refine (cmp_any _ _ _).mono ?_; rintro e w' ⟨rfl, rfl⟩; rw [HC.out])
          go_ret
          rw [HV.out]
          simp
      · have dm : decide ((ml.length : Int) ≤ (j : Int)) = true := by simp; omega
        have HV : Hid (cmpL ll ml = 1) := by
          show _ = _
          rw [cmpL_take j ll ml (by omega) (by omega) HT.out, List.drop_eq_getElem_cons hlt, List.drop_eq_nil_of_le (show ml.length ≤ j by omega)]
          rfl
        go_wp2
        go_ret
        rw [HV.out]
        simp
    · have dj : decide ((j : Int) < (ll.length : Int)) = false := by simp; omega
      by_cases hlm : ll.length < ml.length
      · have dm : decide ((ll.length : Int) < (ml.length : Int)) = true := by simp; omega
        have HV : Hid (cmpL ll ml = -1) := by
          show _ = _
          rw [cmpL_take j ll ml (by omega) (by omega) HT.out, List.drop_eq_nil_of_le (show ll.length ≤ j by omega), List.drop_eq_getElem_cons (show j < ml.length by omega)]
          rfl
        go_wp2
        go_ret
        rw [HV.out]
        simp
      · have dm : decide ((ll.length : Int) < (ml.length : Int)) = false := by simp; omega
        have HV : Hid (cmpL ll ml = 0) := by
          show _ = _
          rw [cmpL_take j ll ml (by omega) (by omega) HT.out, List.drop_eq_nil_of_le (show ll.length ≤ j by omega), List.drop_eq_nil_of_le (show ml.length ≤ j by omega)]
          rfl
        go_wp2
        go_ret
        rw [HV.out]
        simp

/-- A small number's numeral behind what a list of one's own holds. -/
theorem appendInt_in (x : Nat) (hx : x < 100) (B n : Nat) (sv : Value) (xs : List Value) (w : World) (hown : w.ownsRow B 5 1 sv n xs) (hB : B ≤ w.heap.size) (hlim : n + 20 ≤ 140737488355328) :
    Calls Tryz.prog 107 #[sv, .int .i64 (x : Int), .int .i64 10] w fun e w' => ∃ v', e = .returned v' ∧ w'.ownsRow B 5 1 v' (n + (Lib.decDigits x).length) (xs ++ Lib.byteCells (Lib.decDigits x)) ∧ Below B w w' := by
  have hcon := Any.internal_strconv_AppendUint_10_small Tryz.appendUintL B n x hx sv xs w hown hB hlim
  change Calls Tryz.prog 124 _ _ _ at hcon
  have HC := Lib.hid hcon
  clear hcon hown
  have hw : IntKind.u64.wrap (x : Int) = (x : Int) := by simp [IntKind.wrap, IntKind.bits, IntKind.signed]; omega
  have hd : decide ((x : Int) < 0) = false := by simp
  go_enter Tryz.func107, Tryz.ntmps107
  go_wp2_with (go_at_call 124; refine HC.out.mono ?_; rintro e w2 ⟨v2, rfl, h1, h2, h3⟩)
  go_ret
  exact ⟨v2, rfl, h1, h2⟩
theorem appendInt_any (x : Nat) (hx : x < 100) (B n : Nat) (sv : Value) (xs : List Value) (w : World) (hown : w.ownsRow B 5 1 sv n xs) (hB : B ≤ w.heap.size) (hlim : n + 20 ≤ 140737488355328) :
    Calls Tryz.prog 80 #[sv, .int .i64 (x : Int), .int .i64 10] w fun e w' => ∃ v', e = .returned v' ∧ w'.ownsRow B 5 1 v' (n + (Lib.decDigits x).length) (xs ++ Lib.byteCells (Lib.decDigits x)) ∧ Below B w w' := by
  have HC := Lib.hid (appendInt_in x hx B n sv xs w hown hB hlim)
  clear hown
  go_enter Tryz.func80, Tryz.ntmps80
  go_wp2_with (go_at_call 107; refine HC.out.mono ?_; rintro e w2 ⟨v2, rfl, h1, h2⟩)
  go_ret
  exact ⟨v2, rfl, h1, h2⟩
end Go.Proofs.YtopjjcgmcieboaaGreatDoor

namespace Go.Proofs.YtopjjcgmcieboaaGreatDoor
open Go.RowKit

theorem info5 : (Tryz.prog.info? 5).map (fun i => (i.zero, i.size, i.bytes)) = some (some (.int .u8 0), 1, 1) := by kernel_rfl

/-- The string of a row of bytes. -/
theorem str_of_row {w : World} {B n : Nat} {v : Value} {l : List UInt8} (h : w.ownsRow B 5 1 v n (Lib.byteCells l)) : (convert 22 9 v).run Tryz.prog w = .ok (.string ⟨l.toArray⟩) w := by
  obtain ⟨h1, ⟨rfl, h2⟩ | ⟨g, cap, cur, rfl, hb, hh, hn, hm, hs, ht⟩⟩ := h
  · have h3 : l.length = 0 := by simpa [Lib.byteCells, h2] using h1
    obtain rfl := List.length_eq_zero_iff.1 h3
    exact Lib.run_convert_nil_bytes w 22 9 5 0 Tryz.underlying22 Tryz.underlying5 Tryz.underlying9
  · have hl : l.length = n := by simpa [Lib.byteCells] using h1
    subst hl
    exact run_convert_bytes_back w 22 9 5 ⟨g, 0, none⟩ cap l Tryz.underlying22 Tryz.underlying5 Tryz.underlying9 (Lib.bytes_of_row hh (by simpa using ht))

set_option maxRecDepth 100000 in
set_option maxHeartbeats 1000000 in
theorem textOf_any (s : SL Nat) (w : World) (hs : IsSl 1 num w s) (h100 : ∀ x ∈ s.l, x < 100) (hn : s.l.length ≤ 100) :
    Calls Tryz.prog 35 #[.slice s.a s.l.length s.c] w fun e w' => e = .returned (.string ⟨(txtB s.l).toArray⟩) ∧ Ext w w' := by
  obtain ⟨sa, sc, sl⟩ := s
  dsimp only at h100 hn ⊢
  have HS := Lib.hid hs; clear hs
  have H100 := Lib.hid h100; clear h100
  obtain ⟨i0, hi, hz0, hz1, hz2⟩ := info_parts info5
  go_enter Tryz.func35, Tryz.ntmps35
  go_wp2
  go_loopw [3, 8] (fun v iv wr => ∃ (j n : Nat), iv = .int .i64 (j : Int) ∧ j ≤ sl.length ∧ n ≤ 3 * j ∧ Hid (wr.ownsRow w.heap.size 5 1 v n (Lib.byteCells (txtB (sl.take j)))) ∧ Hid (Ext w wr)) (fun _ iv _ => sl.length - (intOf iv).toNat)
  case atStart => exact ⟨0, 0, rfl, Nat.zero_le _, Nat.le_refl _, World.ownsRow_nil _ _ _ _, Ext.refl _⟩
  case round =>
    obtain ⟨j, n, rfl, hj, hnj, HO, HE⟩ := hrel
    have hsz := HE.out.size
    by_cases hlt : j < sl.length
    · have dj : decide ((j : Int) < (sl.length : Int)) = true := by simp; omega
      obtain ⟨bl, ol, hla, hlc⟩ := HS.out.2.2.resolve_left (by show ¬ sl.length = 0; omega)
      dsimp only at hla hlc
      subst hla
      have cl := HE.out.cell (show w.cell? ⟨bl, ol + j, none⟩ = some (.int .i64 (sl[j] : Int)) by have := hlc j hlt 0 (by omega); simpa [num] using this)
      clear hlc
      have j0 : (0 : Int) ≤ (j : Int) := by omega
      have j1 : (j : Int) < (sl.length : Int) := by omega
      have hx : sl[j] < 100 := H100.out _ (List.getElem_mem hlt)
      have HT : Hid (txtB (sl.take (j + 1)) = txtB (sl.take j) ++ Lib.decDigits sl[j] ++ [32]) := by
        show _ = _
        rw [List.take_succ_eq_append_getElem hlt, txtB_snoc]
      generalize sl[j] = x at *
      have hd2 := dec_len hx
      go_wp2_with (first
        | (go_at_call 80; refine (appendInt_any x hx w.heap.size n _ _ wr HO.out hsz (by omega)).mono ?_; rintro e w2 ⟨v2, rfl, h1, h2⟩; have HO2 := Lib.hid h1; have HB := Lib.hid h2; have hsz2 := h2.size; clear h1 h2)
        | (at_builtin; go_must (refine wpList_append_own _ rfl _ _ 22 rfl w.heap.size 5 i0 (.int .u8 0) 1 1 Tryz.underlying22 hi hz0 hz1 hz2 rfl (by decide) _ _ _ rfl (HO2.out.alloc _) ⟨w2.heap.size, 0, none⟩ 1 1 [Value.int .u8 32] rfl rfl (by intro j u' hj; match j, hj with | 0, hj => simp at hj; subst hj; simp [Addr.add]) (by intro u' hu'; simp at hu'; subst hu'; rfl) (by unfold maxLen; omega) (by omega) (by simp; omega) ?_); intro v' w3 hown hgrow _))
      have HO3 := Lib.hid hown
      have HG := Lib.hid hgrow
      clear hown hgrow
      refine ⟨⟨j + 1, n + (Lib.decDigits x).length + 1, by simp, by omega, by omega, ?_, ?_⟩, by simp [intOf]; omega⟩
      · show World.ownsRow _ _ _ _ _ _ _
        rw [HT.out]
        have := HO3.out
        simpa [Lib.byteCells] using this
      · exact ext_grown_of ((show Ext w w2 from Below.trans HE.out HB.out).alloc _) HG.out (fun k hk => (HO2.out.lt k hk).1)
    · have dj : decide ((j : Int) < (sl.length : Int)) = false := by simp; omega
      have hv := str_of_row HO.out
      rw [List.take_of_length_le (by omega)] at hv
      go_wp2
      go_ret
      exact ⟨rfl, HE.out⟩
end Go.Proofs.YtopjjcgmcieboaaGreatDoor

namespace Go.Proofs
open Go.Shelf
shelf_lay_g SlLaysF.n6 Slsf 6 at Tryz 36 as Tryz.sortLinesL
end Go.Proofs
namespace Go.Proofs.YtopjjcgmcieboaaGreatDoor
open Go.RowKit Go.Sort

section
variable {α : Type} [Inhabited α] (enc : α → Value)
theorem holdsG {w : World} {g : Nat} {cur : Array Value} {e : TypeId} {ss : List α} (hb : w.heap[g]? = some (.cells cur e (0, 0))) (ht : cur.toList.take ss.length = ss.map enc) : Holds enc w g 0 ss.toArray := by
  intro j hj
  have hj' : j < ss.length := by simpa using hj
  refine ⟨?_, by simp [World.frozen?, hb]⟩
  have h1 : (cur.toList.take ss.length)[j]? = (ss.map enc)[j]? := by rw [ht]
  rw [List.getElem?_take_of_lt hj'] at h1
  simp only [World.cell?, hb, Nat.zero_add]
  simp only [Option.isSome_none, Bool.false_eq_true, if_false]
  rw [← Array.getElem?_toList, h1]
  simp [hj']
theorem heapG {w : World} {g n : Nat} {os : Array Obj} {cur : Array Value} {e : TypeId} {fr : Nat × Nat} (d : Array α) (hb : w.heap[g]? = some (.cells cur e fr)) :
    (sortWorld enc w g 0 n d os).heap[g]? = some (.cells (putCells enc 0 d cur) e fr) := by
  have hg : g < w.heap.size := (Array.getElem?_eq_some_iff.1 hb).1
  unfold sortWorld
  rw [heap_grow_old _ _ (by simpa using hg)]
  simp [putRow, mapBlock, Sort.ahead, Array.getElem?_modify, hb, onCells]
theorem grownG {w : World} {g n : Nat} {os : Array Obj} (d : Array α) : w.grownBy (sortWorld enc w g 0 n d os) (some g) := by
  unfold sortWorld
  refine ⟨rfl, rfl, rfl, by simp, fun k hk hne => ?_⟩
  rw [heap_grow_old _ _ (by simpa using hk)]
  have : g ≠ k := fun e => hne (by rw [e])
  simp [putRow, mapBlock, Sort.ahead, Array.getElem?_modify, this]
theorem takeG (cur : Array Value) (ts : List α) (h : ts.length ≤ cur.size) : (putCells enc 0 ts.toArray cur).toList.take ts.length = ts.map enc := by
  apply List.ext_getElem?
  intro j
  by_cases hj : j < ts.length
  · rw [List.getElem?_take_of_lt hj, Array.getElem?_toList]
    simp [putCells, hj, show j < cur.size by omega]
  · rw [List.getElem?_take_eq_none (by omega), List.getElem?_eq_none (by simp; omega)]
theorem ownsG {w : World} {base g cap n : Nat} {e : TypeId} {os : Array Obj} {cur : Array Value} {ss ts : List α} (hl : ts.length = ss.length) (hbase : base ≤ g) (hb : w.heap[g]? = some (.cells cur e (0, 0)))
    (h1 : ss.length ≤ cap) (h2 : cap ≤ maxLen) (h3 : cur.size = cap * 1) :
    (sortWorld enc w g 0 n ts.toArray os).ownsRow base e 1 (.slice (some ⟨g, 0, none⟩) ss.length cap) ss.length (ts.map enc) :=
  ⟨by simp [hl], .inr ⟨g, cap, _, rfl, hbase, heapG enc _ hb, h1, h2, by simp [putCells, h3], by rw [Nat.mul_one, ← hl]; exact takeG enc cur ts (by omega)⟩⟩
end

theorem cmpL_ge {x y z : List Nat} (h1 : ¬ cmpL x y < 0) (h2 : ¬ cmpL y z < 0) : ¬ cmpL x z < 0 := by
  intro h3
  have e1 := cmpL_swap x y
  have e2 := cmpL_swap y z
  by_cases a : cmpL y x < 0
  · exact h2 (cmpL_trans a h3)
  · have h0 : cmpL x y = 0 := by omega
    rw [cmpL_zero h0] at h3
    exact h2 h3

theorem inj_of_nodup {rows : List (SL Nat)} (h : (rows.map fun r => r.l).Nodup) {x y : SL Nat} (hx : x ∈ rows) (hy : y ∈ rows) (e : x.l = y.l) : x = y := by
  induction rows with
  | nil => simp at hx
  | cons z rows ih =>
    rw [List.map_cons, List.nodup_cons] at h
    rcases List.mem_cons.1 hx with hx' | hx'
    · rcases List.mem_cons.1 hy with hy' | hy'
      · rw [hx', hy']
      · rw [hx'] at e; exact absurd (List.mem_map.2 ⟨y, hy', e.symm⟩) h.1
    · rcases List.mem_cons.1 hy with hy' | hy'
      · rw [hy'] at e; exact absurd (List.mem_map.2 ⟨x, hx', e⟩) h.1
      · exact ih h.2 hx' hy'

set_option maxHeartbeats 1000000 in
theorem sort_lines (a : Option Addr) (c : Nat) (rows : List (SL Nat)) (W : World) (h : W.ownsRow 0 25 1 (.slice a rows.length c) rows.length (rows.map fun r => r.v)) (hr : ∀ r ∈ rows, ∀ W' : World, (∀ k, k < W.heap.size → (Value.slice a rows.length c).ownBlock ≠ some k → W'.heap[k]? = W.heap[k]?) → IsSl 1 num W' r)
    (hn : (rows.map fun r => r.l).Nodup) (hlen : rows.length ≤ 1000000) :
    Calls Tryz.prog 36 #[.slice a rows.length c, .func (.func 11) #[] #[]] W fun e W' => e = .returned (.tuple #[]) ∧ ∃ rows' : List (SL Nat), rows'.Perm rows ∧ (rows'.map fun r => r.l).Pairwise (fun x y => cmpL x y < 0) ∧
      W'.ownsRow 0 25 1 (.slice a rows.length c) rows.length (rows'.map fun r => r.v) ∧ W.grownBy W' (Value.slice a rows.length c).ownBlock := by
  by_cases h0 : rows.length = 0
  · obtain rfl := List.length_eq_zero_iff.1 h0
    have hcon := AnyF.slices_SortFunc_none (P := Tryz.prog) { Tryz.sortLinesL with } a c (.func (.func 11) #[] #[]) W
    change Calls Tryz.prog 36 _ _ _ at hcon
    refine hcon.mono ?_
    rintro e W' ⟨rfl, rfl⟩
    exact ⟨rfl, [], List.Perm.refl _, List.Pairwise.nil, h, ⟨rfl, rfl, rfl, Nat.le_refl _, fun _ _ _ => rfl⟩⟩
  · obtain ⟨h1, ⟨h2, h3⟩ | ⟨g, cap, cur, h2, hb, hh, hn1, hm, hs, ht⟩⟩ := h
    · exact absurd h3 h0
    simp only [Value.slice.injEq] at h2
    obtain ⟨rfl, -, rfl⟩ := h2
    let α := { s : SL Nat // s ∈ rows }
    have hne : 0 < rows.length := by omega
    letI : Inhabited α := ⟨⟨rows[0], List.getElem_mem hne⟩⟩
    let enc : α → Value := fun x => x.1.v
    let cf : α → α → Int := fun x y => cmpL x.1.l y.1.l
    have hO : SWO (Go.Proofs.ltOf cf) := {
      irrefl := fun x => by simp [Go.Proofs.ltOf, cf, cmpL_self]
      trans := fun x y z p q => by simp only [Go.Proofs.ltOf, cf, decide_eq_true_eq] at *; exact cmpL_trans p q
      ntrans := fun x y z p q => by simp only [Go.Proofs.ltOf, cf, decide_eq_false_iff_not] at *; exact cmpL_ge p q }
    have hT : ∀ x y : α, Go.Proofs.ltOf cf x y = false → Go.Proofs.ltOf cf y x = false → x = y := by
      intro x y p q
      simp only [Go.Proofs.ltOf, cf, decide_eq_false_iff_not] at p q
      have e1 := cmpL_swap x.1.l y.1.l
      have e2 : x.1.l = y.1.l := cmpL_zero (by omega)
      exact Subtype.ext (inj_of_nodup hn x.2 y.2 e2)
    have hmap : rows.attach.map enc = rows.map fun r => r.v := by
      show rows.attach.map (fun x => (fun r : SL Nat => r.v) x.1) = _
      rw [List.attach_map_val]
    have hcmp : CmpLays1 Tryz.prog 11 #[] enc cf g 0 rows.attach.toArray.size W := by
      intro m os dk hdk x y
      have hw : ∀ s ∈ rows, IsSl 1 num (sortWorld enc W g 0 m dk os) s := fun s hs => hr s hs _ fun k hk hne => (grownG enc dk).block k hk (fun e => hne (by rw [e]; rfl))
      refine (compare_any x.1 y.1 _ (hw _ x.2) (hw _ y.2)).mono ?_
      rintro e w' ⟨rfl, rfl⟩
      exact ⟨rfl, 0, #[], by rw [grow_empty]; rfl⟩
    have hH : Holds enc W g 0 rows.attach.toArray := holdsG enc hh (by rw [List.length_attach, hmap]; simpa using ht)
    have hcon := Any.slices_SortFunc_total Tryz.sortLinesL enc (fun _ => rfl) cf hO 11 #[] g 0 c rows.attach.toArray W (fun args w => Proofs.enters_of Tryz.func11 (by kernel_rfl) rfl args w) hcmp hH (Array.getElem?_eq_some_iff.1 hh).1 (by rw [List.size_toArray, List.length_attach]; omega) hT
    change Calls Tryz.prog 36 _ _ _ at hcon
    rw [List.size_toArray, List.length_attach] at hcon
    refine hcon.mono ?_
    rintro e W' ⟨rfl, nn, os, rfl⟩
    have hperm := List.mergeSort_perm rows.attach (fun x y => !(Go.Proofs.ltOf cf) y x)
    have hsort := List.pairwise_mergeSort (le := fun x y => !(Go.Proofs.ltOf cf) y x)
      (fun x y z p q => by simp only [Go.Proofs.ltOf, cf, Bool.not_eq_true', decide_eq_false_iff_not] at *; exact cmpL_ge q p)
      (fun x y => by
        simp only [Go.Proofs.ltOf, cf, Bool.or_eq_true, Bool.not_eq_true', decide_eq_false_iff_not]
        have := cmpL_swap x.1.l y.1.l
        omega) rows.attach
    generalize List.mergeSort rows.attach (fun x y => !(Go.Proofs.ltOf cf) y x) = ts at *
    have hp : (ts.map Subtype.val).Perm rows := by
      have := hperm.map Subtype.val
      rwa [List.attach_map_subtype_val] at this
    refine ⟨rfl, ts.map Subtype.val, hp, ?_, ?_, grownG enc ts.toArray⟩
    · have hnd : ((ts.map Subtype.val).map fun r => r.l).Nodup := ((hp.map _).nodup_iff).2 hn
      rw [List.map_map] at hnd ⊢
      rw [List.Nodup, List.pairwise_map] at hnd
      rw [List.pairwise_map]
      refine (hsort.and hnd).imp ?_
      rintro x y ⟨p, q⟩
      simp only [Go.Proofs.ltOf, cf, Bool.not_eq_true', decide_eq_false_iff_not] at p
      have e1 := cmpL_swap x.1.l y.1.l
      have e2 : cmpL x.1.l y.1.l ≠ 0 := fun e => q (cmpL_zero e)
      show cmpL x.1.l y.1.l < 0
      omega
    · have hl : ts.length = rows.attach.length := hperm.length_eq
      have := ownsG enc (n := nn) (os := os) hl hb hh (by rw [List.length_attach]; exact hn1) hm hs
      rw [List.length_attach] at this
      rw [List.map_map]
      exact this
end Go.Proofs.YtopjjcgmcieboaaGreatDoor
