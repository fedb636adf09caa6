/-
  fewest of package pillar returns the fewest pillars from one place to another one, of several such lists the first one, as needs tells them, in new memory; nothing that was there is turned. The profile at work must lie in memory as told.
-/
import Derived.Test.YtfognlealnhodaaT
import Derived.RegionTactic
namespace Go.Proofs.Ytfognlealnhodaa
open Go.RowKit
attribute [local go_sem] Oper.semAt_some

/-- The first of the later places that are seen from which so many are needed. -/
def nxt (N : Nat → Option Nat) (S : Nat → Nat → Bool) (n p left : Nat) : Nat := ((seenTo S p n).find? fun q => decide ((N q).getD 0 = left)).getD p
def fwP (N : Nat → Option Nat) (S : Nat → Nat → Bool) (n first K : Nat) : Nat → Nat
  | 0 => first
  | c + 1 => nxt N S n (fwP N S n first K c) (K - 1 - c)
def fwL (N : Nat → Option Nat) (S : Nat → Nat → Bool) (n first K m : Nat) : List Nat := (List.range m).map (fwP N S n first K)
/-- The fewest pillars. -/
def fewF (N : Nat → Option Nat) (S : Nat → Nat → Bool) (n first : Nat) : List Nat := fwL N S n first ((N first).getD 0) ((N first).getD 0)
theorem fwL_succ (N : Nat → Option Nat) (S : Nat → Nat → Bool) (n first K m : Nat) : fwL N S n first K (m + 1) = fwL N S n first K m ++ [fwP N S n first K m] := by
  simp [fwL, List.range_succ]
theorem fwL_length (N : Nat → Option Nat) (S : Nat → Nat → Bool) (n first K m : Nat) : (fwL N S n first K m).length = m := by simp [fwL]
theorem nxt_lt {N : Nat → Option Nat} {S : Nat → Nat → Bool} {n p left : Nat} (h : p < n) : nxt N S n p left < n := by
  unfold nxt
  cases hf : (seenTo S p n).find? fun q => decide ((N q).getD 0 = left) with
  | none => exact h
  | some q => exact (seenTo_mem.1 (List.mem_of_find?_eq_some hf)).1
theorem fwP_lt {N : Nat → Option Nat} {S : Nat → Nat → Bool} {n first K : Nat} (h : first < n) : ∀ c, fwP N S n first K c < n
  | 0 => h
  | c + 1 => nxt_lt (fwP_lt h c)

/-- What the loop of fewest holds. -/
def FewI (B nb first n K base : Nat) (N : Nat → Option Nat) (S : Nat → Nat → Bool) (w : World) (a : Act) (wr : World) : Prop :=
  ∃ u1 u2 u3 u4 u5 u6 u7 u8 u13 u14 u15 u16 u17 u18 u19 u20 u21 u22 u23 u24 u25 u26 u27 u28 u29 u30 u31 u32 u33 u34 u35 u36 u37 u38 u39 u40 u41 u42 u43 u44 u45 u46 u47 u48 u49 : Value, ∃ (ds : List Deferred) (c pb lb : Nat) (la : Option Addr) (lc : Nat), a = { tmps := #[.pointer (some ⟨B, 0, none⟩), u1, u2, u3, u4, u5, u6, u7, u8, .pointer (some ⟨nb, 0, none⟩), .slice la (fwL N S n first K (c + 1)).length lc, .pointer (some ⟨pb, 0, none⟩), .pointer (some ⟨lb, 0, none⟩), u13, u14, u15, u16, u17, u18, u19, u20, u21, u22, u23, u24, u25, u26, u27, u28, u29, u30, u31, u32, u33, u34, u35, u36, u37, u38, u39, u40, u41, u42, u43, u44, u45, u46, u47, u48, u49], defers := ds } ∧ c + 1 ≤ K ∧ Hid (base < pb ∧ base < lb ∧ pb ≠ lb ∧ nb ≠ pb ∧ nb ≠ lb ∧ base < nb) ∧ Hid (IBox wr pb (fwP N S n first K c : Int)) ∧ Hid (IBox wr lb ((K : Int) - 1 - (c : Int))) ∧ Hid (Coll w.heap.size wr.heap.size ds wr) ∧
    Hid (wr.heap[nb]? = some (.cells #[.map (some w.heap.size)] 116 (0, 0))) ∧ Hid (∃ k, MapN wr w.heap.size N k) ∧ Hid (wr.ownsRow (nb + 1) 3 1 (.slice la (fwL N S n first K (c + 1)).length lc) (fwL N S n first K (c + 1)).length (nums (fwL N S n first K (c + 1)))) ∧ Hid (∀ g, (Value.slice la (fwL N S n first K (c + 1)).length lc).ownBlock = some g → g < pb ∧ g < lb) ∧ Hid (Ext w wr)

theorem IBox.grown {w w' : World} {b : Nat} {n : Int} {row : Option Nat} (h : IBox w b n) (k : w.grownBy w' row) (hne : ∀ g, row = some g → g ≠ b) : IBox w' b n := (k.block b h.lt (fun e => hne b e.symm rfl)).trans h
theorem own_of_lt {w : World} {base : Nat} {e : TypeId} {size : Nat} {v : Value} {n : Nat} {xs : List Value} (h : w.ownsRow base e size v n xs) : ∀ k, v.ownBlock = some k → k < w.heap.size := fun k hk => (h.lt k hk).2
theorem own_keep2 {D : Nat → Prop} {w w' : World} {base : Nat} {e : TypeId} {size : Nat} {v : Value} {n : Nat} {xs : List Value} (h : w.ownsRow base e size v n xs) (k : Keep D w w') (hd : ∀ i, v.ownBlock = some i → D i) : w'.ownsRow base e size v n xs := by
  obtain ⟨h1, h2⟩ := h
  rcases h2 with h2 | ⟨g, cap, cur, hv, hg, hh, r⟩
  · exact ⟨h1, .inl h2⟩
  · exact ⟨h1, .inr ⟨g, cap, cur, hv, hg, k.heap hh (hd g (by rw [hv]; rfl)), r⟩⟩
/-- An own row's block holds cells. -/
theorem own_cells {w : World} {base : Nat} {e : TypeId} {size : Nat} {v : Value} {n : Nat} {xs : List Value} (h : w.ownsRow base e size v n xs) : ∀ k, v.ownBlock = some k → ∃ cs T fr, w.heap[k]? = some (.cells cs T fr) := fun k hk => by
  rcases h.2 with ⟨rfl, _⟩ | ⟨g, cap, cur, rfl, hb, hh, _⟩
  · simp [Value.ownBlock] at hk
  · have : g = k := by simpa [Value.ownBlock] using hk
    subst this
    exact ⟨_, _, _, hh⟩
/-- How the search for the next pillar is left. -/
def FewX (N : Nat → Option Nat) (lf pb : Nat) (w2 : World) (cc : Code) (pre : List Nat) (W : World) : Prop :=
  cc = .exit 2 ∧ ∃ pre0 q, pre = pre0 ++ [q] ∧ (∀ x ∈ pre0, (N x).getD 0 ≠ lf) ∧ (N q).getD 0 = lf ∧ IBox W pb (q : Int) ∧ Keep (fun x => x < w2.heap.size ∧ x ≠ pb) w2 W
theorem FewX.keep {N : Nat → Option Nat} {lf pb : Nat} {w2 : World} {cc : Code} {pre : List Nat} {A B : World} {D : Nat → Prop} (h : FewX N lf pb w2 cc pre A) (k : Keep D A B) (hd : ∀ x, x < w2.heap.size → D x) (hp : pb < w2.heap.size) : FewX N lf pb w2 cc pre B := by
  obtain ⟨h0, pre0, q, h1, h2, h3, h4, h5⟩ := h
  exact ⟨h0, pre0, q, h1, h2, h3, k.heap h4 (hd _ hp), h5.trans (k.mono (fun x _ h => hd x h.1))⟩

set_option maxRecDepth 100000 in
set_option maxHeartbeats 4000000 in
theorem fewest_any (B : Nat) (d : Bool) (v : PV) (S : Nat → Nat → Bool) (first last : Nat) (wo : Int) (w : World) (hw : Wk w B d v S) (hn : v.at'.l.length ≤ 40) (hfi : first < v.at'.l.length) (hla : last < v.at'.l.length) (hwo : -1 ≤ wo ∧ wo ≤ 40) :
    Calls Try.prog 41 #[.pointer (some ⟨B, 0, none⟩), .int .i64 (first : Int), .int .i64 (last : Int), .int .i64 wo] w fun e w' => ∃ a c, e = .returned (.slice a (fewF (needsF S v.at'.l.length last wo) S v.at'.l.length first).length c) ∧ w'.ownsRow w.heap.size 3 1 (.slice a (fewF (needsF S v.at'.l.length last wo) S v.at'.l.length first).length c) (fewF (needsF S v.at'.l.length last wo) S v.at'.l.length first).length (nums (fewF (needsF S v.at'.l.length last wo) S v.at'.l.length first)) ∧ Ext w w' := by
  have HWB := Lib.hid hw.wb
  have hBlt := hw.lt
  have HBl := Lib.hid hBlt
  have HNd := Lib.hid (needs_any B d v S last wo w hw hn hla hwo)
  obtain ⟨n, hnn⟩ : ∃ n, v.at'.l.length = n := ⟨_, rfl⟩
  rw [hnn] at hn hfi hla HNd ⊢
  have HNn := Lib.hid hnn
  have HLe : Hid (∀ q m, needsF S n last wo q = some m → m ≤ 41) := fun q m h => by have := needTo_le S n last wo last q m h; omega
  obtain ⟨i0, hi, hz0, hz1, hz2⟩ := info_parts info3
  clear hw hnn hwo
  generalize needsF S n last wo = N at *
  obtain ⟨K, hK⟩ : ∃ K, (N first).getD 0 = K := ⟨_, rfl⟩
  have hK41 : K ≤ 41 := by
    rw [← hK]; cases h : N first with
    | none => simp
    | some m => simpa using HLe.out first m h
  have hfw : fewF N S n first = fwL N S n first K K := by unfold fewF; rw [hK]
  rw [hfw]
  have HK := Lib.hid hK
  clear hfw hK
  refine callsIn_wide.1 (callsIn_of_wp_marks (n := 3) Try.func41 rfl trivial ?_ rfl)
  simp only [Try.ntmps41, List.size_toArray, List.length_cons, List.length_nil, Nat.reduceAdd, Nat.reduceSub, Array.replicate_succ, Array.replicate_zero, List.push_toArray, List.append_toArray, List.nil_append, List.cons_append]
  refine wpIn_wide.2 ?_
  go_wp2_with fail
  refine HNd.out.mono ?_
  rintro e w1 ⟨rfl, ⟨k0, hM1⟩, hx1⟩
  have HM1 := Lib.hid (hM1.ext ((Ext.refl w1).alloc (.cells #[.map (some w.heap.size)] 116)))
  have HX1 := Lib.hid (hx1.alloc (.cells #[.map (some w.heap.size)] 116))
  have HB1 : Hid ((w1.alloc (.cells #[.map (some w.heap.size)] 116)).heap[w1.heap.size]? = some (.cells #[.map (some w.heap.size)] 116 (0, 0))) := World.alloc_heap_new w1 _
  have HNb : Hid (w.heap.size < w1.heap.size) := hM1.lt
  have hl1 := HM1.out.look first (by omega)
  have cm := (cell_at HB1.out 0).trans rfl
  rw [HK.out] at hl1
  clear hM1 hx1 HNd
  by_cases hK0 : K = 0
  · subst hK0
    go_wp2_with fail
    simp only [bodyPostM]
    exact ⟨_, results_tmp rfl _ _ _, none, 0, rfl, World.ownsRow_nil _ _ _ _, HX1.out⟩
  · have hkz : ((K : Int) == 0) = false := by rw [beq_eq_false_iff_ne]; omega
    have hk1 : (1 : Int) ≤ (K : Int) := by omega
    go_wp2_with fail
    clear hl1 cm
    obtain ⟨wa, hwa⟩ : ∃ wa, (w1.alloc (.cells #[.map (some w.heap.size)] 116)).alloc (.cells #[.int .i64 (first : Int)] 3) = wa := ⟨_, rfl⟩
    have hxa : Ext (w1.alloc (.cells #[.map (some w.heap.size)] 116)) wa := by rw [← hwa]; exact (Ext.refl _).alloc _
    have HMa := Lib.hid (HM1.out.ext hxa)
    have HXa := Lib.hid (HX1.out.trans hxa)
    have HBa : Hid (wa.heap[w1.heap.size]? = some (.cells #[.map (some w.heap.size)] 116 (0, 0))) := hxa.block HB1.out
    have HRa : Hid (Row wa (w1.heap.size + 1) [first] 1) := ⟨#[.int .i64 (first : Int)], by rw [← hwa]; exact alloc_new (by simp only [World.size_alloc]), rfl, by simp, fun i hi => by simp at hi; subst hi; rfl⟩
    have hsz : wa.heap.size = w1.heap.size + 2 := by rw [← hwa]; simp only [World.size_alloc]
    have HSz := Lib.hid hsz
    have hll : Hid (w1.heap.size + 2 ≤ wa.heap.size) := by show _ ≤ _; omega
    rw [hwa]
    clear hxa hsz hwa HM1 HX1 HB1
    have KS : Hid (∀ w', Ext wa w' → w'.cell? ⟨w1.heap.size, 0, none⟩ = some (.map (some w.heap.size)) ∧ (Instr.lookup 116 (.map (some w.heap.size)) (.int .i64 (first : Int)) false).run Try.prog w' = .ok (.int .i64 (K : Int)) w') := fun w' h =>
      ⟨(cell_at (h.block HBa.out) 0).trans rfl, by have := (HMa.out.ext h).look first (by omega); rw [HK.out] at this; exact this⟩
    obtain ⟨cm, hl1⟩ := KS.out _ (Ext.refl wa)
    have hwk : IntKind.i64.wrap ((K : Int) - 1) = (K : Int) - 1 := IntWalk.i64_in _ (by omega)
    refine Code.wp_mono (Q := fun e a' W' => match e with | .normal => FewI B w1.heap.size first n K w.heap.size N S w a' W' | _ => False) ?_ ?_
    case refine_2 =>
      go_region_held3 (fun w' => w'.cell? ⟨w1.heap.size, 0, none⟩ = some (.map (some w.heap.size)) ∧ (Instr.lookup 116 (.map (some w.heap.size)) (.int .i64 (first : Int)) false).run Try.prog w' = .ok (.int .i64 (K : Int)) w') ((refine KS.out _ ?_; (repeat (first | exact Ext.refl _ | refine Ext.drew ?_ | refine Ext.alloc ?_ _ | refine Ext.setCell ?_ (by simp; omega) _))))
        (fail)
      all_goals
        show FewI _ _ _ _ _ _ _ _ _ _ _
        unfold FewI
        have hs1 := HSz.out
        have hnb := HNb.out
        refine ⟨_, _, _, _, _, _, _, _, _, _, _, _, _, _, _, _, _, _, _, _, _, _, _, _, _, _, _, _, _, _, _, _, _, _, _, _, _, _, _, _, _, _, _, _, _, [], 0, _, _, some ⟨w1.heap.size + 1, 0, none⟩, 1, rfl, by omega, ⟨by omega, by omega, by omega, by omega, by omega, hnb⟩, ?_, ?_, trivial, ?_, ⟨k0, ?_⟩, ?_, ?_, ?_⟩
        · first
            | exact (alloc_old (by simp only [World.size_alloc]; omega)).trans (alloc_new rfl)
            | exact alloc_new (by simp only [World.size_alloc])
        · have hq : (K : Int) - 1 - ((0 : Nat) : Int) = (K : Int) - 1 := by omega
          rw [hq]
          first
            | exact (alloc_old (by simp only [World.size_alloc]; omega)).trans (alloc_new rfl)
            | exact alloc_new (by simp only [World.size_alloc])
        · exact (((Ext.refl wa).alloc _).alloc _).block HBa.out
        · exact HMa.out.ext (((Ext.refl wa).alloc _).alloc _).drew
        · exact own_ext (HRa.out.own (Nat.le_refl _) (by decide)) (((Ext.refl wa).alloc _).alloc _).drew
        · intro g hg
          have hg' : w1.heap.size + 1 = g := by simpa [Value.ownBlock] using hg
          omega
        · exact ((HXa.out.alloc _).alloc _).drew
    intro e a' W' h
    cases e with
    | normal =>
      clear KS cm hl1 HSz HXa HBa HRa HMa hll
      have h' : FewI B w1.heap.size first n K w.heap.size N S w a' W' := h
      clear h
      generalize w1.heap.size = nb at *
      have HF := Lib.hid h'
      unfold FewI at h'
      obtain ⟨u1, u2, u3, u4, u5, u6, u7, u8, u13, u14, u15, u16, u17, u18, u19, u20, u21, u22, u23, u24, u25, u26, u27, u28, u29, u30, u31, u32, u33, u34, u35, u36, u37, u38, u39, u40, u41, u42, u43, u44, u45, u46, u47, u48, u49, ds, c, pb, lb, la, lc, rfl, hc, -⟩ := h'
      go_wp2_with fail
      refine wp_loop (FewI B nb first n K w.heap.size N S w) (fun a wr => boxOf (a.tmps.getD 12 undef) wr) HF.out ?_
      clear HF hc
      intro a wr hrel
      unfold FewI at hrel
      obtain ⟨u1, u2, u3, u4, u5, u6, u7, u8, u13, u14, u15, u16, u17, u18, u19, u20, u21, u22, u23, u24, u25, u26, u27, u28, u29, u30, u31, u32, u33, u34, u35, u36, u37, u38, u39, u40, u41, u42, u43, u44, u45, u46, u47, u48, u49, ds, c, pb, lb, la, lc, rfl, hc, HPb, HP, HLf, HC, HB, HM, HO, HOb, HX⟩ := hrel
      have HLt : Hid (nb < wr.heap.size ∧ pb < wr.heap.size ∧ lb < wr.heap.size) := ⟨(Array.getElem?_eq_some_iff.1 HB.out).1, HP.out.lt, HLf.out.lt⟩
      have cl := HLf.out.cell
      have cp := HP.out.cell
      have hlen := fwL_length N S n first K (c + 1)
      have HLen := Lib.hid hlen
      have hpn : fwP N S n first K c < n := fwP_lt hfi c
      have HFs := Lib.hid (fwL_succ N S n first K (c + 1))
      have HFp : Hid (fwP N S n first K (c + 1) = nxt N S n (fwP N S n first K c) (K - 1 - c)) := rfl
      have HLq : Hid (c + 1 = K → fwL N S n first K (c + 1) = fwL N S n first K K) := fun e => by rw [e]
      generalize fwL N S n first K (c + 1) = L at *
      by_cases hlt : c + 1 < K
      · obtain ⟨lf, hlf⟩ : ∃ lf : Nat, (K : Int) - 1 - (c : Int) = (lf : Int) := ⟨K - 1 - c, by omega⟩
        have HLn : Hid ((lf : Int) - 1 = (K : Int) - 1 - ((c + 1 : Nat) : Int)) := by show _ = _; omega
        have HLk : Hid (K - 1 - c = lf) := by show _ = _; omega
        have hlf1 : 1 ≤ lf := by omega
        rw [hlf] at HLf cl
        have HMu : Hid (boxOf (.pointer (some ⟨lb, 0, none⟩)) wr = lf) := by show _ = _; rw [boxOf_eq cl]; omega
        have dl : decide ((0 : Int) < (lf : Int)) = true := decide_eq_true (by omega)
        clear hlf hlen
        have HSn := Lib.hid (seen_gives B (fwP N S n first K c) d v S wr (HWB.out.ext HX.out) (by rw [HNn.out]; exact hn) (by rw [HNn.out]; exact hpn))
        rw [HNn.out] at HSn
        generalize hpp : fwP N S n first K c = p at *
        have HPP := Lib.hid hpp; clear hpp
        go_wp2_with fail
        clear cp cl
        refine HSn.out.mono ?_
        rintro e w2 ⟨sb, wb, rfl, hsb, hwb, hx2, hG⟩
        have HX2 : Hid (Ext w w2) := HX.out.trans hx2
        have HP2 := Lib.hid (HP.out.ext hx2)
        have HL2 := Lib.hid (HLf.out.ext hx2)
        have HC2 := Lib.hid (HC.out.ext hx2)
        have HM2 : Hid (∃ k, MapN w2 w.heap.size N k) := by obtain ⟨k, h⟩ := HM.out; exact ⟨k, h.ext hx2⟩
        have HB2 : Hid (w2.heap[nb]? = some (.cells #[.map (some w.heap.size)] 116 (0, 0))) := hx2.block HB.out
        have HO2 := Lib.hid (own_ext HO.out hx2)
        have HS2 : Hid (wr.heap.size ≤ w2.heap.size) := hx2.size
        have HG := Lib.hid (hG w2 (fun x => x ≠ pb) (Keep.refl _ _) (by have := HLt.out; have := HBl.out; have := HPb.out; refine ⟨?_, ?_, ?_⟩ <;> omega))
        clear hG hx2 HSn HX HP HC HM HB HLf HO
        go_wp2_with fail
        refine (wpIn_wide (n := 3)).1 ?_
        refine wp_rangeFuncT (a₁ := ?a1) rfl enters_88 HG.out rfl
          (fun hi pre W => (∀ x ∈ pre, (N x).getD 0 ≠ lf) ∧ Keep (fun x => x < w2.heap.size) w2 W)
          (fun hi cc pre W => FewX N lf pb w2 cc pre W)
          ?_ ?_ ?_ ?assign ?body ?done ?stop
        case assign =>
          intro l s W K hK
          gi_wp2
          exact hK
        · intro hi s A B' hh h hk
          exact ⟨h.1, h.2.trans (hk.mono (fun k _ h => .inl h))⟩
        · intro cc hi s A B' hh h hk
          have := HLt.out
          have := HS2.out
          exact h.keep hk (fun k h => .inl h) (by omega)
        · intro hi hh
          exact ⟨by simp, Keep.refl _ _⟩
        case body =>
          rintro l hi pre q W hh hhW ⟨hA, hKp⟩ hpre
          have hLt := HLt.out
          have hS2 := HS2.out
          have hPb := HPb.out
          have hq := (seenTo_mem (S := S) (p := p) (m := n) (q := q)).1 (hpre.subset (List.mem_append_right _ (List.mem_singleton.2 rfl)))
          have hqn : q < n := hq.1
          have cm : W.cell? ⟨nb, 0, none⟩ = some (.map (some w.heap.size)) := (cell_at (hKp.heap HB2.out (by omega)) 0).trans rfl
          have cl := (show IBox W lb (lf : Int) from hKp.heap HL2.out (by omega)).cell
          have hpI : IBox W pb (p : Int) := hKp.heap HP2.out (by omega)
          have cp := hpI.cell
          have fp := hpI.frozen 0
          obtain ⟨k, hM⟩ := HM2.out
          have hml := hM.lt
          have hl1 := (hM.keep hKp hml).look q (by omega)
          have HKp := Lib.hid hKp
          have HA := Lib.hid hA
          have HpI := Lib.hid hpI
          clear hKp hA hpre hq hM hpI
          by_cases he : (N q).getD 0 = lf
          · have dq : (((N q).getD 0 : Nat) : Int) == (lf : Int) := by rw [beq_iff_eq]; omega
            have HE := Lib.hid he
            clear he
            generalize (N q).getD 0 = z at hl1 dq
            gi_wp2_with fail
            refine ⟨(Keep.refl _ W).setCell _ _ (fun _ h => ?_), rfl, pre, q, rfl, HA.out, HE.out, HpI.out.set _, (HKp.out.mono (fun x _ h => h.1)).setCell _ _ (fun _ h => h.2 rfl)⟩
            rcases h with h | h
            · exact h.2 rfl
            · have := h.1; simp only at this; omega
          · have dq : ((((N q).getD 0 : Nat) : Int) == (lf : Int)) = false := by rw [beq_eq_false_iff_ne]; omega
            have HA2 : Hid (∀ x ∈ pre ++ [q], (N x).getD 0 ≠ lf) := fun x hx => by
              rcases List.mem_append.1 hx with h | h
              · exact HA.out x h
              · simp only [List.mem_singleton] at h; rw [h]; exact he
            generalize (N q).getD 0 = z at *
            clear he
            gi_wp2_with fail
            exact ⟨Keep.refl _ _, HA2.out, HKp.out⟩
        case done =>
          rintro hi' W hh ⟨hA, hKp⟩ hD
          have hLt := HLt.out
          have hS2 := HS2.out
          have hPb0 := HPb.out
          have hXW : Ext w W := ext_keep HX2.out hKp (fun i hi => by have := HX2.out.size; omega)
          have HXW := Lib.hid hXW
          obtain ⟨p', hp'⟩ : ∃ p', p' = p := ⟨_, rfl⟩
          have HPx : Hid (p' = fwP N S n first K (c + 1)) := by
            show _ = _
            rw [HFp.out, HLk.out, hp', nxt, List.find?_eq_none.2 (fun x hx => by simpa using hA x hx)]; rfl
          have HPW : Hid (IBox W pb (p' : Int)) := by show IBox _ _ _; rw [hp']; exact hKp.heap HP2.out (by omega)
          clear hp'
          have HLW : Hid (IBox W lb (lf : Int)) := hKp.heap HL2.out (by omega)
          have HBW : Hid (W.heap[nb]? = some (.cells #[.map (some w.heap.size)] 116 (0, 0))) := hKp.heap HB2.out (by omega)
          have HMW : Hid (∃ k, MapN W w.heap.size N k) := by obtain ⟨k, h⟩ := HM2.out; exact ⟨k, h.keep hKp h.lt⟩
          have HOW : Hid (W.ownsRow (nb + 1) 3 1 (.slice la L.length lc) L.length (nums L)) := own_keep2 HO2.out hKp (fun k hk => by have := own_of_lt HO2.out k hk; omega)
          have HCW : Hid (Coll w.heap.size W.heap.size ({ target := .collected w2.heap.size, args := #[] } :: ds) W) :=
            Coll.cons ((HC2.out.mono (show wr.heap.size ≤ w2.heap.size by omega)).keepD hKp (fun b _ h hb => h)) (by omega) (Array.getElem?_eq_some_iff.1 hD).1 hD
          clear hA hKp hD hXW
          have HFq : Hid (fwL N S n first K (c + 1 + 1) = L ++ [p']) := by show _ = _; rw [HFs.out, ← HPx.out]
          have hL2 : L.length + 1 = (fwL N S n first K (c + 1 + 1)).length := by rw [HFq.out]; simp
          have HL2' := Lib.hid hL2
          have hLc : L.length = c + 1 := HLen.out
          have hm6 : L.length + 1 ≤ maxLen := by unfold maxLen; omega
          have hwl : IntKind.i64.wrap ((lf : Int) - 1) = (lf : Int) - 1 := IntWalk.i64_in _ (by have := HLk.out; omega)
          have HN := Lib.hid (new_cells W (nums [p']) 3)
          have cp := HPW.out.cell
          have hnbW := (Array.getElem?_eq_some_iff.1 HBW.out).1
          have hb6 : nb + 1 ≤ W.heap.size + 1 := by omega
          clear hL2
          simp only [Exit.inBlock, Exit.then]
          go_wp2_with (at_builtin; go_must (refine wpList_append_own _ rfl _ _ 25 rfl (nb + 1) 3 i0 (.int .i64 0) 1 8 Try.underlying25 hi hz0 hz1 hz2 rfl (by decide) _ L.length (nums L) rfl (HOW.out.alloc _) ⟨W.heap.size, 0, none⟩ 1 1 (nums [p']) rfl rfl HN.out (nums_one [p']) hm6 (by omega) (by simp; omega) ?_); intro v' w5 hown hgrow _; have hgO := HOb.out; have hP5 := (HPW.out.ext ((Ext.refl W).alloc _)).grown hgrow (by intro g hg; have := (hgO g hg).1; omega); have hL5 := (HLW.out.ext ((Ext.refl W).alloc _)).grown hgrow (by intro g hg; have := (hgO g hg).2; omega); have cp5 := hP5.cell; have cl5 := hL5.cell; have HG5 := Lib.hid hgrow; have HO5 := Lib.hid hown; clear hP5 hL5 hgrow hown cp)
          have hgO := HOb.out
          have hO5 := HO5.out
          obtain ⟨a3, c3, rfl⟩ := own_form hO5
          rw [← nums_append, ← HFq.out, HL2'.out] at hO5
          have hX5 : Ext w w5 := ext_grown_of ((HXW.out).alloc _) HG5.out (fun g hg => by have := own_lt HOW.out g hg; have := HPb.out; omega)
          have hC5 : Coll w.heap.size W.heap.size ({ target := .collected w2.heap.size, args := #[] } :: ds) w5 := HCW.out.keep (fun b h1 h2 hb => (HG5.out.block b (by rw [World.size_alloc]; omega) (fun e => by
            obtain ⟨cs, T, fr, hc⟩ := own_cells HOW.out b e.symm
            rw [hc] at hb; cases hb)).trans (((Ext.refl W).alloc _).block hb))
          have hB5 : w5.heap[nb]? = some (.cells #[.map (some w.heap.size)] 116 (0, 0)) := (HG5.out.block nb (by rw [World.size_alloc]; omega) (fun e => by have := own_lt HOW.out nb e.symm; omega)).trans (((Ext.refl W).alloc _).block HBW.out)
          have hM5 : ∃ k, MapN w5 w.heap.size N k := by
            obtain ⟨k, hk⟩ := HMW.out
            exact ⟨k, (hk.ext ((Ext.refl W).alloc _)).heap (HG5.out.block _ (hk.ext ((Ext.refl W).alloc _)).lt (fun e => by have := own_lt HOW.out _ e.symm; have := HPb.out; omega))⟩
          have hs5 : W.heap.size + 1 ≤ w5.heap.size := by have := HG5.out.size; rw [World.size_alloc] at this; exact this
          have hO6 := own_of_lt hO5
          have hPb := HPb.out
          rw [HL2'.out]
          refine ⟨by unfold FewI; exact ⟨_, _, _, _, _, _, _, _, _, _, _, _, _, _, _, _, _, _, _, _, _, _, _, _, _, _, _, _, _, _, _, _, _, _, _, _, _, _, _, _, _, _, _, _, _, _, c + 1, w5.heap.size, w5.heap.size + 1, a3, c3, rfl, by omega, ⟨by omega, by omega, by omega, by omega, by omega, by omega⟩, by rw [← HPx.out]; exact (alloc_old (by simp only [World.size_alloc]; omega)).trans (alloc_new rfl), by rw [← HLn.out]; exact alloc_new (by simp only [World.size_alloc]), (hC5.mono (by simp only [World.size_alloc]; omega)).ext (((Ext.refl w5).alloc _).alloc _), (((Ext.refl w5).alloc _).alloc _).block hB5, (by obtain ⟨k, hk⟩ := hM5; exact ⟨k, hk.ext (((Ext.refl w5).alloc _).alloc _)⟩), own_ext hO5 (((Ext.refl w5).alloc _).alloc _), fun g hg => by have := hO6 g hg; omega, (hX5.alloc _).alloc _⟩, ?_⟩
          show boxOf (.pointer (some ⟨w5.heap.size + 1, 0, none⟩)) _ < boxOf (.pointer (some ⟨lb, 0, none⟩)) wr
          rw [HMu.out, boxOf_eq (n := (lf : Int) - 1) ((cell_at (alloc_new (by simp only [World.size_alloc])) 0).trans rfl)]
          omega
        case stop =>
          rintro hi' cc pre W hh hp ⟨rfl, pre0, q, rfl, hA, hE, hI, hKp⟩ hD
          have hLt := HLt.out
          have hS2 := HS2.out
          have hPb0 := HPb.out
          have hXW : Ext w W := ext_keep HX2.out hKp (fun i hi => ⟨by have := HX2.out.size; omega, by omega⟩)
          have HXW := Lib.hid hXW
          obtain ⟨p', hp'⟩ : ∃ p', p' = q := ⟨_, rfl⟩
          have HPx : Hid (p' = fwP N S n first K (c + 1)) := by
            show _ = _
            obtain ⟨rest, hre⟩ := hp
            rw [HFp.out, HLk.out, hp', nxt, ← hre, List.append_assoc, List.find?_append, List.find?_eq_none.2 (fun x hx => by simpa using hA x hx)]
            simp [hE]
          have HPW : Hid (IBox W pb (p' : Int)) := by show IBox _ _ _; rw [hp']; exact hI
          clear hp'
          have HLW : Hid (IBox W lb (lf : Int)) := hKp.heap HL2.out ⟨by omega, by omega⟩
          have HBW : Hid (W.heap[nb]? = some (.cells #[.map (some w.heap.size)] 116 (0, 0))) := hKp.heap HB2.out ⟨by omega, by omega⟩
          have HMW : Hid (∃ k, MapN W w.heap.size N k) := by obtain ⟨k, h⟩ := HM2.out; exact ⟨k, h.keep hKp ⟨h.lt, by omega⟩⟩
          have HOW : Hid (W.ownsRow (nb + 1) 3 1 (.slice la L.length lc) L.length (nums L)) := own_keep2 HO2.out hKp (fun k hk => ⟨by have := own_of_lt HO2.out k hk; omega, by have := (HOb.out k hk).1; omega⟩)
          have HCW : Hid (Coll w.heap.size W.heap.size ({ target := .collected w2.heap.size, args := #[] } :: ds) W) :=
            Coll.cons ((HC2.out.mono (show wr.heap.size ≤ w2.heap.size by omega)).keepD hKp (fun b _ h hb => ⟨h, fun e => by rw [e] at hb; rw [show w2.heap[pb]? = _ from HP2.out] at hb; cases hb⟩)) (by omega) (Array.getElem?_eq_some_iff.1 hD).1 hD
          clear hA hKp hD hXW hE hI hp
          apply wpIn_exit
          have HFq : Hid (fwL N S n first K (c + 1 + 1) = L ++ [p']) := by show _ = _; rw [HFs.out, ← HPx.out]
          have hL2 : L.length + 1 = (fwL N S n first K (c + 1 + 1)).length := by rw [HFq.out]; simp
          have HL2' := Lib.hid hL2
          have hLc : L.length = c + 1 := HLen.out
          have hm6 : L.length + 1 ≤ maxLen := by unfold maxLen; omega
          have hwl : IntKind.i64.wrap ((lf : Int) - 1) = (lf : Int) - 1 := IntWalk.i64_in _ (by have := HLk.out; omega)
          have HN := Lib.hid (new_cells W (nums [p']) 3)
          have cp := HPW.out.cell
          have hnbW := (Array.getElem?_eq_some_iff.1 HBW.out).1
          have hb6 : nb + 1 ≤ W.heap.size + 1 := by omega
          clear hL2
          simp only [Exit.inBlock, Exit.then, if_true]
          go_wp2_with (at_builtin; go_must (refine wpList_append_own _ rfl _ _ 25 rfl (nb + 1) 3 i0 (.int .i64 0) 1 8 Try.underlying25 hi hz0 hz1 hz2 rfl (by decide) _ L.length (nums L) rfl (HOW.out.alloc _) ⟨W.heap.size, 0, none⟩ 1 1 (nums [p']) rfl rfl HN.out (nums_one [p']) hm6 (by omega) (by simp; omega) ?_); intro v' w5 hown hgrow _; have hgO := HOb.out; have hP5 := (HPW.out.ext ((Ext.refl W).alloc _)).grown hgrow (by intro g hg; have := (hgO g hg).1; omega); have hL5 := (HLW.out.ext ((Ext.refl W).alloc _)).grown hgrow (by intro g hg; have := (hgO g hg).2; omega); have cp5 := hP5.cell; have cl5 := hL5.cell; have HG5 := Lib.hid hgrow; have HO5 := Lib.hid hown; clear hP5 hL5 hgrow hown cp)
          have hgO := HOb.out
          have hO5 := HO5.out
          obtain ⟨a3, c3, rfl⟩ := own_form hO5
          rw [← nums_append, ← HFq.out, HL2'.out] at hO5
          have hX5 : Ext w w5 := ext_grown_of ((HXW.out).alloc _) HG5.out (fun g hg => by have := own_lt HOW.out g hg; have := HPb.out; omega)
          have hC5 : Coll w.heap.size W.heap.size ({ target := .collected w2.heap.size, args := #[] } :: ds) w5 := HCW.out.keep (fun b h1 h2 hb => (HG5.out.block b (by rw [World.size_alloc]; omega) (fun e => by
            obtain ⟨cs, T, fr, hc⟩ := own_cells HOW.out b e.symm
            rw [hc] at hb; cases hb)).trans (((Ext.refl W).alloc _).block hb))
          have hB5 : w5.heap[nb]? = some (.cells #[.map (some w.heap.size)] 116 (0, 0)) := (HG5.out.block nb (by rw [World.size_alloc]; omega) (fun e => by have := own_lt HOW.out nb e.symm; omega)).trans (((Ext.refl W).alloc _).block HBW.out)
          have hM5 : ∃ k, MapN w5 w.heap.size N k := by
            obtain ⟨k, hk⟩ := HMW.out
            exact ⟨k, (hk.ext ((Ext.refl W).alloc _)).heap (HG5.out.block _ (hk.ext ((Ext.refl W).alloc _)).lt (fun e => by have := own_lt HOW.out _ e.symm; have := HPb.out; omega))⟩
          have hs5 : W.heap.size + 1 ≤ w5.heap.size := by have := HG5.out.size; rw [World.size_alloc] at this; exact this
          have hO6 := own_of_lt hO5
          have hPb := HPb.out
          rw [HL2'.out]
          refine ⟨by unfold FewI; exact ⟨_, _, _, _, _, _, _, _, _, _, _, _, _, _, _, _, _, _, _, _, _, _, _, _, _, _, _, _, _, _, _, _, _, _, _, _, _, _, _, _, _, _, _, _, _, _, c + 1, w5.heap.size, w5.heap.size + 1, a3, c3, rfl, by omega, ⟨by omega, by omega, by omega, by omega, by omega, by omega⟩, by rw [← HPx.out]; exact (alloc_old (by simp only [World.size_alloc]; omega)).trans (alloc_new rfl), by rw [← HLn.out]; exact alloc_new (by simp only [World.size_alloc]), (hC5.mono (by simp only [World.size_alloc]; omega)).ext (((Ext.refl w5).alloc _).alloc _), (((Ext.refl w5).alloc _).alloc _).block hB5, (by obtain ⟨k, hk⟩ := hM5; exact ⟨k, hk.ext (((Ext.refl w5).alloc _).alloc _)⟩), own_ext hO5 (((Ext.refl w5).alloc _).alloc _), fun g hg => by have := hO6 g hg; omega, (hX5.alloc _).alloc _⟩, ?_⟩
          show boxOf (.pointer (some ⟨w5.heap.size + 1, 0, none⟩)) _ < boxOf (.pointer (some ⟨lb, 0, none⟩)) wr
          rw [HMu.out, boxOf_eq (n := (lf : Int) - 1) ((cell_at (alloc_new (by simp only [World.size_alloc])) 0).trans rfl)]
          omega
      · have dl : decide ((0 : Int) < (K : Int) - 1 - (c : Int)) = false := decide_eq_false (by omega)
        have hce : c + 1 = K := by omega
        have HLq' := HLq.out hce
        have hL := hlen
        rw [hce] at hL
        go_wp2_with fail
        simp only [bodyPostM]
        refine leaves_coll (hi := wr.heap.size) (lo := w.heap.size) HC.out fun w' hs => ?_
        exact ⟨_, results_tmp rfl _ _ _, la, lc, rfl, own_mono (Shut.own (by have h := HO.out; rw [HLq'] at h; exact h) hs) (by have := HPb.out; omega), hs.ext HX.out (Nat.le_refl _)⟩
    | _ => exact h.elim
end Go.Proofs.Ytfognlealnhodaa
