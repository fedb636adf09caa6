/-
  needs of package pillar returns a map that tells how many pillars are needed from each place on up to a last one, if none stands at a place that is left out; the map is new memory, and nothing that was there is turned. The profile at work must lie in memory as told.
-/
import Derived.Test.YtfognlealnhodaaN
import Derived.Test.YtfognlealnhodaaQ
namespace Go.Proofs.Ytfognlealnhodaa
open Go.RowKit
attribute [local go_sem] Oper.semAt_some

/-- A later place is tried. -/
def stN (p : Nat) (N : Nat → Option Nat) (q : Nat) : Nat → Option Nat :=
  if (N q).isSome && ((N p).isNone || decide ((N q).getD 0 + 1 < (N p).getD 0)) then putN N p ((N q).getD 0 + 1) else N
/-- A place is done. -/
def plN (S : Nat → Nat → Bool) (n : Nat) (wo : Int) (N : Nat → Option Nat) (p : Nat) : Nat → Option Nat := if (p : Int) = wo then N else (seenTo S p n).foldl (stN p) N
/-- What is needed, behind so many places. -/
def needTo (S : Nat → Nat → Bool) (n last : Nat) (wo : Int) : Nat → Nat → Option Nat
  | 0 => putN (fun _ => none) last 1
  | c + 1 => plN S n wo (needTo S n last wo c) (last - 1 - c)
def needsF (S : Nat → Nat → Bool) (n last : Nat) (wo : Int) : Nat → Option Nat := needTo S n last wo last

def LeN (N : Nat → Option Nat) (c : Nat) : Prop := ∀ q m, N q = some m → m ≤ c
theorem LeN.put {N : Nat → Option Nat} {c p m : Nat} (h : LeN N c) (hm : m ≤ c) : LeN (putN N p m) c := by
  intro q x hx; unfold putN at hx; split at hx
  · cases hx; exact hm
  · exact h q x hx
theorem LeN.mono {N : Nat → Option Nat} {c c' : Nat} (h : LeN N c) (hc : c ≤ c') : LeN N c' := fun q m hm => Nat.le_trans (h q m hm) hc
/-- Only place p is put. -/
theorem fold_other (p : Nat) : ∀ (l : List Nat) (N : Nat → Option Nat) (q : Nat), q ≠ p → (l.foldl (stN p) N) q = N q
  | [], _, _, _ => rfl
  | x :: l, N, q, h => by
    rw [List.foldl_cons, fold_other p l _ q h]
    unfold stN
    split
    · simp [putN, h]
    · rfl
theorem fold_le (p c : Nat) : ∀ (l : List Nat) (N : Nat → Option Nat), (∀ q ∈ l, q ≠ p) → (∀ q m, q ≠ p → N q = some m → m ≤ c) → (∀ m, N p = some m → m ≤ c + 1) → LeN (l.foldl (stN p) N) (c + 1)
  | [], N, _, h1, h2 => fun q m hm => by
    by_cases e : q = p
    · subst e; exact h2 m hm
    · have := h1 q m e hm; omega
  | x :: l, N, hl, h1, h2 => by
    rw [List.foldl_cons]
    have hx : x ≠ p := hl x (by simp)
    refine fold_le p c l _ (fun q hq => hl q (by simp [hq])) (fun q m hq hm => ?_) (fun m hm => ?_)
    · have := fold_other p [x] N q hq
      rw [List.foldl_cons, List.foldl_nil] at this
      rw [this] at hm; exact h1 q m hq hm
    · unfold stN at hm
      split at hm
      · rename_i hc
        simp only [Bool.and_eq_true] at hc
        obtain ⟨k, hk⟩ := Option.isSome_iff_exists.1 hc.1
        have hkc := h1 x k hx hk
        simp [putN, hk] at hm; omega
      · exact h2 m hm
theorem needTo_le (S : Nat → Nat → Bool) (n last : Nat) (wo : Int) : ∀ c, LeN (needTo S n last wo c) (c + 1)
  | 0 => by intro q m hm; simp only [needTo, putN] at hm; split at hm <;> simp at hm; omega
  | c + 1 => by
    have ih := needTo_le S n last wo c
    simp only [needTo, plN]
    split
    · exact ih.mono (by omega)
    · refine fold_le _ (c + 1) _ _ (fun q hq => ?_) (fun q m _ hm => ih q m hm) (fun m hm => by have := ih _ m hm; omega)
      have := (seenTo_mem.1 hq).2.1; omega

/-- One more than the number in a box. -/
def boxUp (s : Value) (w : World) : Nat := match s with
  | .pointer (some a) => match w.cell? a with
    | some v => (intOf v + 1).toNat
    | none => 0
  | _ => 0
theorem boxUp_eq {w : World} {b : Nat} {n : Int} (h : w.cell? ⟨b, 0, none⟩ = some (.int .i64 n)) : boxUp (.pointer (some ⟨b, 0, none⟩)) w = (n + 1).toNat := by
  simp [boxUp, h, intOf]
/-- What the loop of needs holds. -/
def NeedI (B mb last n : Nat) (wo : Int) (S : Nat → Nat → Bool) (w : World) (a : Act) (wr : World) : Prop :=
  ∃ u3 u4 u5 u6 u9 u10 u11 u12 u13 u14 u15 u16 u17 u18 u19 u20 u21 u22 u23 u24 u25 u26 u27 u28 u29 u30 u31 u32 u33 u34 u35 u36 u37 u38 u39 u40 u41 u42 u43 u44 u45 u46 u47 u48 u49 u50 u51 u52 u53 u54 u55 u56 u57 u58 : Value, ∃ (ds : List Deferred) (c pb K : Nat), a = { tmps := #[.pointer (some ⟨B, 0, none⟩), .int .i64 (last : Int), .int .i64 wo, u3, u4, u5, u6, .pointer (some ⟨mb, 0, none⟩), .pointer (some ⟨pb, 0, none⟩), u9, u10, u11, u12, u13, u14, u15, u16, u17, u18, u19, u20, u21, u22, u23, u24, u25, u26, u27, u28, u29, u30, u31, u32, u33, u34, u35, u36, u37, u38, u39, u40, u41, u42, u43, u44, u45, u46, u47, u48, u49, u50, u51, u52, u53, u54, u55, u56, u57, u58], defers := ds } ∧ c ≤ last ∧ K ≤ 1 + 50 * c ∧ Hid (w.heap.size < pb ∧ pb ≠ mb) ∧ Hid (IBox wr pb ((last : Int) - 1 - (c : Int))) ∧ Hid (Coll w.heap.size wr.heap.size ds wr) ∧ Hid (MapN wr w.heap.size (needTo S n last wo c) K) ∧ Hid (wr.heap[mb]? = some (.cells #[.map (some w.heap.size)] 116 (0, 0))) ∧ Hid (Ext w wr)
theorem stN_none {p q : Nat} {N : Nat → Option Nat} (h : N q = none) : stN p N q = N := by simp [stN, h]
theorem stN_first {p q m : Nat} {N : Nat → Option Nat} (h : N q = some m) (hp : N p = none) : stN p N q = putN N p (m + 1) := by simp [stN, h, hp]
theorem stN_less {p q m b : Nat} {N : Nat → Option Nat} (h : N q = some m) (hp : N p = some b) (hb : m + 1 < b) : stN p N q = putN N p (m + 1) := by simp [stN, h, hp, hb]
theorem stN_not {p q m b : Nat} {N : Nat → Option Nat} (h : N q = some m) (hp : N p = some b) (hb : ¬ m + 1 < b) : stN p N q = N := by simp [stN, h, hp, hb]

set_option maxRecDepth 100000 in
set_option maxHeartbeats 4000000 in
theorem needs_any (B : Nat) (d : Bool) (v : PV) (S : Nat → Nat → Bool) (last : Nat) (wo : Int) (w : World) (hw : Wk w B d v S) (hn : v.at'.l.length ≤ 40) (hla : last < v.at'.l.length) (hwo : -1 ≤ wo ∧ wo ≤ 40) :
    Calls Try.prog 75 #[.pointer (some ⟨B, 0, none⟩), .int .i64 (last : Int), .int .i64 wo] w fun e w' => e = .returned (.map (some w.heap.size)) ∧ (∃ k, MapN w' w.heap.size (needsF S v.at'.l.length last wo) k) ∧ Ext w w' := by
  have HWB := Lib.hid hw.wb
  have hBlt := hw.lt
  have HBl := Lib.hid hBlt
  obtain ⟨n, hnn⟩ : ∃ n, v.at'.l.length = n := ⟨_, rfl⟩
  rw [hnn] at hn hla ⊢
  have HNn := Lib.hid hnn
  have hmm := @run_makeMap Try.prog
  obtain ⟨hwo1, hwo2⟩ := hwo
  obtain ⟨w1, hup, hM1, hg1⟩ := (MapN.made w).update last 1 (by omega) (by omega) (by omega)
  have hX1 : Ext w w1 := ext_grown_of ((Ext.refl w).alloc _) hg1 (fun k e => by cases e; exact Nat.le_refl _)
  have hsz : w.heap.size + 1 ≤ w1.heap.size := by have := hg1.size; rw [World.size_alloc] at this; exact this
  rw [show ((1 : Nat) : Int) = 1 from rfl] at hup
  clear hw hnn hg1
  refine callsIn_wide.1 (callsIn_of_wp_marks (n := 3) Try.func75 rfl trivial ?_ rfl)
  simp only [Try.ntmps75, List.size_toArray, List.length_cons, List.length_nil, Nat.reduceAdd, Nat.reduceSub, Array.replicate_succ, Array.replicate_zero, List.push_toArray, List.append_toArray, List.nil_append, List.cons_append]
  refine wpIn_wide.2 ?_
  go_wp2_with fail
  clear hup hmm
  have HM0 : Hid (MapN ((w1.alloc (.cells #[.map (some w.heap.size)] 116)).alloc (.cells #[.int .i64 ((last : Int) - 1)] 3)) w.heap.size (needTo S n last wo 0) 1) := hM1.ext (((Ext.refl w1).alloc _).alloc _)
  have HX0 : Hid (Ext w ((w1.alloc (.cells #[.map (some w.heap.size)] 116)).alloc (.cells #[.int .i64 ((last : Int) - 1)] 3))) := (hX1.alloc _).alloc _
  have HB0 : Hid (((w1.alloc (.cells #[.map (some w.heap.size)] 116)).alloc (.cells #[.int .i64 ((last : Int) - 1)] 3)).heap[w1.heap.size]? = some (.cells #[.map (some w.heap.size)] 116 (0, 0))) := (alloc_old (by simp only [World.size_alloc]; omega)).trans (alloc_new rfl)
  have HP0 : Hid (IBox ((w1.alloc (.cells #[.map (some w.heap.size)] 116)).alloc (.cells #[.int .i64 ((last : Int) - 1)] 3)) (w1.heap.size + 1) ((last : Int) - 1)) := alloc_new (by simp only [World.size_alloc])
  have HN0 : Hid (w.heap.size < w1.heap.size) := hsz
  generalize (w1.alloc (.cells #[.map (some w.heap.size)] 116)).alloc (.cells #[.int .i64 ((last : Int) - 1)] 3) = V0 at *
  generalize w1.heap.size = mb at *
  clear hM1 hX1 hsz
  refine wp_loop (NeedI B mb last n wo S w) (fun a wr => boxUp (a.tmps.getD 8 undef) wr) (by unfold NeedI; exact ⟨_, _, _, _, _, _, _, _, _, _, _, _, _, _, _, _, _, _, _, _, _, _, _, _, _, _, _, _, _, _, _, _, _, _, _, _, _, _, _, _, _, _, _, _, _, _, _, _, _, _, _, _, _, _, [], 0, mb + 1, 1, rfl, Nat.zero_le _, by omega, ⟨by have := HN0.out; omega, by omega⟩, by show IBox _ _ _; rw [show (last : Int) - 1 - ((0 : Nat) : Int) = (last : Int) - 1 by omega]; exact HP0.out, trivial, HM0, HB0, HX0⟩) ?_
  clear HM0 HX0 HB0 HP0
  intro a wr hrel
  unfold NeedI at hrel
  obtain ⟨u3, u4, u5, u6, u9, u10, u11, u12, u13, u14, u15, u16, u17, u18, u19, u20, u21, u22, u23, u24, u25, u26, u27, u28, u29, u30, u31, u32, u33, u34, u35, u36, u37, u38, u39, u40, u41, u42, u43, u44, u45, u46, u47, u48, u49, u50, u51, u52, u53, u54, u55, u56, u57, u58, ds, c, pb, K, rfl, hc, hK, HPb, HP, HC, HM, HB, HX⟩ := hrel
  have HMlt : Hid (mb < wr.heap.size ∧ pb < wr.heap.size) := ⟨(Array.getElem?_eq_some_iff.1 HB.out).1, HP.out.lt⟩
  by_cases hlt : c < last
  · obtain ⟨p, hp⟩ : ∃ p : Nat, (last : Int) - 1 - (c : Int) = (p : Int) := ⟨last - 1 - c, by omega⟩
    have hpn : p < n := by omega
    have hp40 : p < 40 := by omega
    have HPe : Hid (last - 1 - c = p) := by show _ = _; omega
    have HPn : Hid ((p : Int) - 1 = (last : Int) - 1 - ((c + 1 : Nat) : Int)) := by show _ = _; omega
    rw [hp] at HP
    have cp := HP.out.cell
    have HT : Hid (needTo S n last wo (c + 1) = plN S n wo (needTo S n last wo c) p) := by show _ = _; simp only [needTo]; rw [HPe.out]
    have dp : decide ((0 : Int) ≤ (p : Int)) = true := decide_eq_true (by omega)
    have hmu : boxUp (.pointer (some ⟨pb, 0, none⟩)) wr = p + 1 := by rw [boxUp_eq cp]; omega
    have HMu := Lib.hid hmu
    clear hp hmu
    by_cases hw : (p : Int) = wo
    · have dw : ((p : Int) == wo) = true := by rw [beq_iff_eq]; exact hw
      have HT2 : Hid (needTo S n last wo (c + 1) = needTo S n last wo c) := by show _ = _; rw [HT.out, plN, if_pos hw]
      have HWo := Lib.hid hw
      clear hw HT
      go_wp2_with fail
      have hml := HMlt.out
      refine ⟨by unfold NeedI; exact ⟨_, _, _, _, _, _, _, _, _, _, _, _, _, _, _, _, _, _, _, _, _, _, _, _, _, _, _, _, _, _, _, _, _, _, _, _, _, _, _, _, _, _, _, _, _, _, _, _, _, _, _, _, _, _, ds, c + 1, wr.heap.size, K, rfl, by omega, by omega, ⟨by have := HPb.out; omega, by omega⟩, by rw [← HPn.out]; exact ibox_new wr ((p : Int) - 1), (HC.out.mono (by rw [World.size_alloc]; omega)).ext ((Ext.refl wr).alloc _), by rw [HT2.out]; exact HM.out.ext ((Ext.refl wr).alloc _), ((Ext.refl wr).alloc _).block HB.out, HX.out.alloc _⟩, ?_⟩
      show boxUp (.pointer (some ⟨wr.heap.size, 0, none⟩)) _ < boxUp (.pointer (some ⟨pb, 0, none⟩)) wr
      rw [HMu.out, boxUp_eq (ibox_new wr ((p : Int) - 1)).cell]
      omega
    · have dw : ((p : Int) == wo) = false := by rw [beq_eq_false_iff_ne]; exact hw
      have HT2 : Hid (needTo S n last wo (c + 1) = (seenTo S p n).foldl (stN p) (needTo S n last wo c)) := by show _ = _; rw [HT.out, plN, if_neg hw]
      have HLe := Lib.hid (needTo_le S n last wo c)
      have HSn := Lib.hid (seen_gives B p d v S wr (HWB.out.ext HX.out) (by rw [HNn.out]; exact hn) (by rw [HNn.out]; exact hpn))
      rw [HNn.out] at HSn
      have HWo := Lib.hid hw
      clear hw HT
      generalize needTo S n last wo c = N0 at *
      go_wp2_with fail
      clear cp
      refine HSn.out.mono ?_
      rintro e w2 ⟨sb, wb, rfl, hsb, hwb, hx2, hG⟩
      have HX2 : Hid (Ext w w2) := HX.out.trans hx2
      have HP2 := Lib.hid (HP.out.ext hx2)
      have HC2 := Lib.hid (HC.out.ext hx2)
      have HM2 := Lib.hid (HM.out.ext hx2)
      have HB2 : Hid (w2.heap[mb]? = some (.cells #[.map (some w.heap.size)] 116 (0, 0))) := hx2.block HB.out
      have HS2 : Hid (wr.heap.size ≤ w2.heap.size) := hx2.size
      have HG := Lib.hid (hG w2 (fun x => x ≠ w.heap.size) (Keep.refl _ _) (by have := HMlt.out; have := HN0.out; have := HBl.out; have := HM.out.lt; refine ⟨?_, ?_, ?_⟩ <;> omega))
      have HMw := Lib.hid HM.out.lt
      clear hG hx2 HSn HX HP HC HM HB
      go_wp2_with fail
      refine (wpIn_wide (n := 3)).1 ?_
      refine wp_rangeFuncT (a₁ := ?a1) rfl enters_88 HG.out rfl
        (fun hi pre W => (∃ K', MapN W w.heap.size (pre.foldl (stN p) N0) K' ∧ K' ≤ K + pre.length) ∧ Keep (fun x => x < w2.heap.size ∧ x ≠ w.heap.size) w2 W)
        (fun hi c pre W => False)
        ?_ ?_ ?_ ?assign ?body ?done ?stop
      case assign =>
        intro l s W K hK
        gi_wp2
        exact hK
      · intro hi s A B' hh h hk
        obtain ⟨⟨K', h1, h2⟩, h3⟩ := h
        have := HMw.out
        have := HS2.out
        exact ⟨⟨K', h1.keep hk (.inl (by omega)), h2⟩, h3.trans (hk.mono (fun k _ h => .inl h.1))⟩
      · intro c hi s A B' hh h hk
        exact h
      · intro hi hh
        exact ⟨⟨K, HM2.out, Nat.le_refl _⟩, Keep.refl _ _⟩
      case stop =>
        intro hi c pre W hh hp h
        exact h.elim
      case body =>
        rintro l hi pre q W hh hhW ⟨⟨K', hM, hK'⟩, hKp⟩ hpre
        have hMl := HMlt.out
        have hS2 := HS2.out
        have hPb := HPb.out
        have hN0 := HN0.out
        have hmem := fun x hx => (seenTo_mem (S := S) (p := p) (m := n) (q := x)).1 (hpre.subset (List.mem_append_left _ hx))
        have hq := (seenTo_mem (S := S) (p := p) (m := n) (q := q)).1 (hpre.subset (List.mem_append_right _ (List.mem_singleton.2 rfl)))
        have hql : q < n := hq.1
        have hqp : p < q := hq.2.1
        have hlen : pre.length ≤ 40 := by
          have h1 := hpre.length_le
          have h2 : (seenTo S p n).length ≤ n := by unfold seenTo; exact Nat.le_trans (List.length_filter_le _ _) (by simp)
          simp at h1; omega
        have hLN : LeN (pre.foldl (stN p) N0) (c + 1 + 1) := fold_le p (c + 1) pre N0 (fun x hx => by have := (hmem x hx).2.1; omega) (fun x m _ hm => HLe.out x m hm) (fun m hm => by have := HLe.out _ m hm; omega)
        have cm : W.cell? ⟨mb, 0, none⟩ = some (.map (some w.heap.size)) := (cell_at (hKp.heap HB2.out ⟨by omega, by omega⟩) 0).trans rfl
        have cp := (show IBox W pb (p : Int) from hKp.heap HP2.out ⟨by omega, by omega⟩).cell
        have hl1 := hM.lookOk q (by omega)
        have hl2 := hM.lookOk p (by omega)
        have hbd : ∀ x m, (pre.foldl (stN p) N0) x = some m → m ≤ 50 := fun x m hm => by have := hLN x m hm; omega
        have HFd : Hid ((pre ++ [q]).foldl (stN p) N0 = stN p (pre.foldl (stN p) N0) q) := by show _ = _; rw [List.foldl_append]; rfl
        have HPl : Hid ((pre ++ [q]).length = pre.length + 1) := by show _ = _; simp
        have HKp := Lib.hid hKp
        have HM' := Lib.hid hM
        have HLt' : Hid (w.heap.size < W.heap.size ∧ w.heap.size < w2.heap.size) := ⟨hM.lt, by omega⟩
        clear hKp hM hpre hmem hq hLN
        generalize pre.foldl (stN p) N0 = N1 at *
        rcases hNq : N1 q with _ | m
        · rw [hNq] at hl1
          have HFd2 : Hid ((pre ++ [q]).foldl (stN p) N0 = N1) := by show _ = _; rw [HFd.out, stN_none hNq]
          clear hNq hbd HFd
          simp only [Option.isSome_none, Option.getD_none] at hl1
          generalize (N1 p).isSome = b2 at hl2
          generalize (N1 p).getD 0 = v2 at hl2
          gi_wp2_with fail
          exact ⟨Keep.refl _ _, ⟨K', by rw [HFd2.out]; exact HM'.out, by rw [HPl.out]; omega⟩, HKp.out⟩
        · rw [hNq] at hl1
          simp only [Option.isSome_some, Option.getD_some] at hl1
          have hm50 := hbd q m hNq
          rcases hNp : N1 p with _ | b
          · rw [hNp] at hl2
            simp only [Option.isSome_none, Option.getD_none] at hl2
            have HFd2 : Hid ((pre ++ [q]).foldl (stN p) N0 = putN N1 p (m + 1)) := by show _ = _; rw [HFd.out, stN_first hNq hNp]
            obtain ⟨w3, hup, hM3, hg3⟩ := HM'.out.update p (m + 1) (by omega) (by omega) (by omega)
            rw [show ((m + 1 : Nat) : Int) = (m : Int) + 1 from rfl] at hup
            have HM3 := Lib.hid hM3
            have HG3 := Lib.hid hg3
            clear hM3 hg3 HFd hNq hNp hbd
            gi_wp2_with fail
            refine ⟨(Keep.refl _ W).grown HG3.out (fun k e _ h => by cases e; have := HLt'.out; rcases h with h | h; exact h.2 rfl; have := h.1; omega), ⟨K' + 1, by rw [HFd2.out]; exact HM3.out, by rw [HPl.out]; omega⟩, HKp.out.grown HG3.out (fun k e _ h => by cases e; exact h.2 rfl)⟩
          · rw [hNp] at hl2
            simp only [Option.isSome_some, Option.getD_some] at hl2
            have hb50 := hbd p b hNp
            by_cases hlb : m + 1 < b
            · have dlb : decide ((m : Int) + 1 < (b : Int)) = true := decide_eq_true (by omega)
              have hlb2 : (m : Int) + 1 < (b : Int) := by omega
              have HFd2 : Hid ((pre ++ [q]).foldl (stN p) N0 = putN N1 p (m + 1)) := by show _ = _; rw [HFd.out, stN_less hNq hNp hlb]
              obtain ⟨w3, hup, hM3, hg3⟩ := HM'.out.update p (m + 1) (by omega) (by omega) (by omega)
              rw [show ((m + 1 : Nat) : Int) = (m : Int) + 1 from rfl] at hup
              have HM3 := Lib.hid hM3
              have HG3 := Lib.hid hg3
              clear hM3 hg3 HFd hNq hNp hbd hlb
              gi_wp2_with fail
              refine ⟨(Keep.refl _ W).grown HG3.out (fun k e _ h => by cases e; have := HLt'.out; rcases h with h | h; exact h.2 rfl; have := h.1; omega), ⟨K' + 1, by rw [HFd2.out]; exact HM3.out, by rw [HPl.out]; omega⟩, HKp.out.grown HG3.out (fun k e _ h => by cases e; exact h.2 rfl)⟩
            · have dlb : decide ((m : Int) + 1 < (b : Int)) = false := decide_eq_false (by omega)
              have hlb2 : ¬ (m : Int) + 1 < (b : Int) := by omega
              have HFd2 : Hid ((pre ++ [q]).foldl (stN p) N0 = N1) := by show _ = _; rw [HFd.out, stN_not hNq hNp hlb]
              clear hNq hNp hbd HFd hlb
              gi_wp2_with fail
              exact ⟨Keep.refl _ _, ⟨K', by rw [HFd2.out]; exact HM'.out, by rw [HPl.out]; omega⟩, HKp.out⟩
      case done =>
        rintro hi W hh ⟨⟨K', hM, hK'⟩, hKp⟩ hD
        have hMl := HMlt.out
        have hMw := HMw.out
        have hS2 := HS2.out
        have hPb := HPb.out
        have hN0 := HN0.out
        have hll : (seenTo S p n).length ≤ 40 := by unfold seenTo; exact Nat.le_trans (List.length_filter_le _ _) (by simp; omega)
        have hXW : Ext w W := ext_keep HX2.out hKp (fun i hi => ⟨by have := HX2.out.size; omega, by omega⟩)
        have HXW := Lib.hid hXW
        have HPW : Hid (IBox W pb (p : Int)) := hKp.heap HP2.out ⟨by omega, by omega⟩
        have HBW : Hid (W.heap[mb]? = some (.cells #[.map (some w.heap.size)] 116 (0, 0))) := hKp.heap HB2.out ⟨by omega, by omega⟩
        have HMW : Hid (MapN W w.heap.size (needTo S n last wo (c + 1)) K') := by show MapN _ _ _ _; rw [HT2.out]; exact hM
        have HCW : Hid (Coll w.heap.size W.heap.size ({ target := .collected w2.heap.size, args := #[] } :: ds) W) :=
          Coll.cons ((HC2.out.mono (show wr.heap.size ≤ w2.heap.size by omega)).keepD hKp (fun b _ h hb => ⟨h, fun e => by obtain ⟨es, cc, hc⟩ := HM2.out.notCells; rw [e] at hb; rw [hc] at hb; cases hb⟩)) (by omega) (Array.getElem?_eq_some_iff.1 hD).1 hD
        have cp := HPW.out.cell
        clear hM hKp hD hXW
        simp only [Exit.inBlock, Exit.then]
        go_wp2_with fail
        have hwl := HPW.out.lt
        have hml2 := (Array.getElem?_eq_some_iff.1 HBW.out).1
        refine ⟨by unfold NeedI; exact ⟨_, _, _, _, _, _, _, _, _, _, _, _, _, _, _, _, _, _, _, _, _, _, _, _, _, _, _, _, _, _, _, _, _, _, _, _, _, _, _, _, _, _, _, _, _, _, _, _, _, _, _, _, _, _, _, c + 1, W.heap.size, K', rfl, by omega, by omega, ⟨by omega, by omega⟩, by rw [← HPn.out]; exact ibox_new W ((p : Int) - 1), (HCW.out.mono (by rw [World.size_alloc]; omega)).ext ((Ext.refl W).alloc _), HMW.out.ext ((Ext.refl W).alloc _), ((Ext.refl W).alloc _).block HBW.out, HXW.out.alloc _⟩, ?_⟩
        show boxUp (.pointer (some ⟨W.heap.size, 0, none⟩)) _ < boxUp (.pointer (some ⟨pb, 0, none⟩)) wr
        rw [HMu.out, boxUp_eq (ibox_new W ((p : Int) - 1)).cell]
        omega
  · have hce : c = last := by omega
    have hme : (last : Int) - 1 - (c : Int) = -1 := by omega
    rw [hme] at HP
    have HMe : Hid (MapN wr w.heap.size (needsF S n last wo) K) := by have := HM.out; rw [hce] at this; exact this
    have cp := HP.out.cell
    have cm := (cell_at HB.out 0).trans rfl
    clear hce hme HM hc hlt hK
    go_wp2_with fail
    simp only [bodyPostM]
    refine leaves_coll (hi := wr.heap.size) (lo := w.heap.size) HC.out fun w' hs => ?_
    refine ⟨_, results_tmp rfl _ _ _, rfl, ⟨K, HMe.out.heap (hs.block _ (.inr fun ds => ?_))⟩, hs.ext HX.out (Nat.le_refl _)⟩
    obtain ⟨es, cc, hc⟩ := HMe.out.notCells
    rw [hc]
    exact fun e => by cases e
end Go.Proofs.Ytfognlealnhodaa
