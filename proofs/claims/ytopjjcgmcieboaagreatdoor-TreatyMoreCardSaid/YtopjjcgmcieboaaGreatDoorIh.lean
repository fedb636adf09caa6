/-
  Lines of package treaty returns all lines that agree in a reading, in new memory, and turns nothing that was there. The treaty and the reading must lie in memory as told and be valid, and there must be no more lines than may be listed.
-/
import Derived.Test.YtopjjcgmcieboaaGreatDoorId
import Derived.Test.YtopjjcgmcieboaaGreatDoorIg
import Derived.Test.YtopjjcgmcieboaaGreatDoorCa
namespace Go.Proofs.YtopjjcgmcieboaaGreatDoor
open Go.RowKit
attribute [local go_sem] Oper.semAt_some

theorem res2 {P : Program} {fn : Func} {p q : Tmp} {ty ty2 : TypeId} (h : fn.results = #[.cell p ty, .cell q ty2]) (tmps : Array Value) (w : World) (a b : Addr) (hp : tmps.getD p undef = .pointer (some a)) (hq : tmps.getD q undef = .pointer (some b))
    (v u : Value) (h1 : (loadVar ty a).run P w = .ok v w) (h2 : (loadVar ty2 b).run P w = .ok u w) : (results fn tmps).run P w = .ok (.tuple #[v, u]) w := by
  have hp' : tmps[p]?.getD undef = .pointer (some a) := by simpa using hp
  have hq' : tmps[q]?.getD undef = .pointer (some b) := by simpa using hq
  simp [results, h, Sem.run_bind, Result.andThen, asAddr, hp', hq', h1, h2]

theorem load41 (w : World) (b : Nat) (v : Value) (h : w.cell? ⟨b, 0, none⟩ = some v) : (loadVar 32 ⟨b, 0, none⟩).run Tryz.prog w = .ok v w := by
  simp [go_sem, loadVar, isAgg, h]
theorem load38 (w : World) (b : Nat) (v : Value) (h : w.cell? ⟨b, 0, none⟩ = some v) : (loadVar 33 ⟨b, 0, none⟩).run Tryz.prog w = .ok v w := by
  simp [go_sem, loadVar, isAgg, h]
theorem load24 (w : World) (b : Nat) (v : Value) (h : w.cell? ⟨b, 0, none⟩ = some v) : (loadVar 25 ⟨b, 0, none⟩).run Tryz.prog w = .ok v w := by
  simp [go_sem, loadVar, isAgg, h]

set_option maxHeartbeats 1000000 in
theorem lines_any (p : Nat) (w : World) :
    Calls Tryz.prog 34 #[.pointer (some ⟨p, 0, none⟩)] w fun e w' => e = .returned (.func (.func 77) #[] #[.pointer (some ⟨w.heap.size, 0, none⟩)]) ∧ Ext w w' ∧ w'.cell? ⟨w.heap.size, 0, none⟩ = some (.pointer (some ⟨p, 0, none⟩)) ∧ w'.heap.size = w.heap.size + 1 := by
  go_enter Tryz.func34, Tryz.ntmps34
  go_wp2
  go_ret
  exact ⟨rfl, (Ext.refl w).alloc _, (cell_at (World.alloc_heap_new w _) 0).trans rfl, World.size_alloc _ _⟩
theorem enters_77 : ∀ args w, (callFunc 77 args).run Tryz.prog w = .ok (.enter 77 args) w := fun args w => Proofs.enters_of Tryz.func77 (by kernel_rfl) rfl args w

theorem linesR_in {t : TV} {L : Nat → Nat → Nat → Bool} {pre : List (List Nat)} {x : List Nat} (h : (pre ++ [x]) <+: linesR t L) (hl : (linesR t L).length ≤ 200) : pre.length < 200 := by
  have h1 := h.length_le
  simp only [List.length_append, List.length_cons, List.length_nil] at h1
  omega

set_option maxRecDepth 100000 in
set_option maxHeartbeats 2000000 in
theorem Lines_ok (t : TV) (r : SL Nat) (w : World) (ht : IsT w t) (hk : OkT t) (hr : IsSl 1 num w r) (hR : RdOk t r.l) (hle : (linesR t (leadsOf t r.l)).length ≤ 200) :
    Calls Tryz.prog 21 #[t.v, .slice r.a r.l.length r.c] w fun e w' => ∃ (a : Option Addr) (c : Nat) (rows : List (SL Nat)), e = .returned (.tuple #[.slice a rows.length c, .int .i64 0]) ∧ IsSl 1 slC w' ⟨a, c, rows⟩ ∧ (∀ r ∈ rows, IsSl 1 num w' r) ∧
      rows.map (fun r => r.l) = linesR t (leadsOf t r.l) ∧ Ext w w' := by
  have HT := Lib.hid ht; clear ht
  have HK := Lib.hid hk; clear hk
  have HR := Lib.hid hr; clear hr
  have HRd := Lib.hid hR; clear hR
  have HLe := Lib.hid hle; clear hle
  refine callsIn_wide.1 (callsIn_of_wp_marks (n := 3) Tryz.func21 rfl trivial ?_ rfl)
  simp only [Tryz.ntmps21, List.size_toArray, List.length_cons, List.length_nil, Nat.reduceAdd, Nat.reduceSub, Array.replicate_succ, Array.replicate_zero, List.push_toArray, List.append_toArray, List.nil_append, List.cons_append]
  refine wpIn_wide.2 ?_
  obtain ⟨W0, hW0⟩ : ∃ W0, (((w.alloc (.cells #[.int .i64 (t.P : Int), .slice t.ways.a t.ways.l.length t.ways.c, .slice t.words.a t.words.l.length t.words.c, .slice t.starts.a t.starts.l.length t.starts.c, .slice t.legs.a t.legs.l.length t.legs.c] 28)).alloc (.cells #[.slice none 0 0] 32)).alloc (.cells #[.int .i64 0] 33)) = W0 := ⟨_, rfl⟩
  have hX0 : Ext w W0 := by rw [← hW0]; exact (((Ext.refl w).alloc _).alloc _).alloc _
  have hT0 : TBox W0 w.heap.size t := by rw [← hW0]; exact (((Ext.refl _).alloc _).alloc _).block (World.alloc_heap_new w _)
  have h40 : W0.heap[w.heap.size + 1]? = some (.cells #[.slice none 0 0] 32 (0, 0)) := by rw [← hW0]; exact ((Ext.refl _).alloc _).block (new2 w _ _)
  have h50 : W0.heap[w.heap.size + 1 + 1]? = some (.cells #[.int .i64 0] 33 (0, 0)) := by
    rw [← hW0]; have := new2 (w.alloc (.cells #[.int .i64 (t.P : Int), .slice t.ways.a t.ways.l.length t.ways.c, .slice t.words.a t.words.l.length t.words.c, .slice t.starts.a t.starts.l.length t.starts.c, .slice t.legs.a t.legs.l.length t.legs.c] 28)) (.cells #[.slice none 0 0] 32) (.cells #[.int .i64 0] 33)
    rw [World.size_alloc] at this; exact this
  have hs0 : W0.heap.size = w.heap.size + 3 := by rw [← hW0]; simp
  have HW0 := Lib.hid hW0; clear hW0
  go_wp2_with fail
  rw [HW0.out]
  clear HW0
  refine (checkReading_ok t r W0 (HT.out.ext hX0) HK.out (HR.out.ext hX0) HRd.out).mono ?_
  rintro e w1 ⟨rfl, hx1⟩
  have HX1 : Hid (Ext w w1) := hX0.trans hx1
  have HTB1 : Hid (TBox w1 w.heap.size t) := hx1.block hT0
  have HBx : Hid (w1.heap[w.heap.size + 1]? = some (.cells #[.slice none 0 0] 32 (0, 0)) ∧ w1.heap[w.heap.size + 1 + 1]? = some (.cells #[.int .i64 0] 33 (0, 0))) := ⟨hx1.block h40, hx1.block h50⟩
  have HLt : Hid (w.heap.size + 3 ≤ w1.heap.size) := by have := hx1.size; show _ ≤ _; omega
  have hlt1 : w.heap.size < w1.heap.size := by have := hx1.size; omega
  clear hX0 hT0 h40 h50 hs0 hx1
  have c0 := cell_at HTB1.out 0
  have c1 := cell_at HTB1.out 1
  have c2 := cell_at HTB1.out 2
  have c3 := cell_at HTB1.out 3
  have c4 := cell_at HTB1.out 4
  simp only [List.getElem?_toArray, List.getElem?_cons_succ, List.getElem?_cons_zero] at c0 c1 c2 c3 c4
  go_wp2_with fail
  clear c0 c1 c2 c3 c4
  have hbL := World.alloc_heap_new w1 (.cells #[.slice none 0 0] 32)
  have HX2 : Hid (Ext w1 (w1.alloc (.cells #[.slice none 0 0] 32))) := (Ext.refl w1).alloc _
  have hs2 : (w1.alloc (.cells #[.slice none 0 0] 32)).heap.size = w1.heap.size + 1 := World.size_alloc _ _
  generalize w1.alloc (.cells #[.slice none 0 0] 32) = w2 at *
  refine (read_any t r w2 (HT.out.ext (HX1.out.trans HX2.out)) HK.out (HR.out.ext (HX1.out.trans HX2.out)) HRd.out).mono ?_
  rintro e w3 ⟨p, rfl, hw3, hx3⟩
  have hbL3 := hx3.block hbL
  have hpb : p ≠ w1.heap.size := fun e => by
    obtain ⟨cs, q1, _⟩ := hw3
    rw [e, hbL3] at q1; simp at q1
  have hp3 : p < w3.heap.size := by obtain ⟨cs, q1, _⟩ := hw3; exact (Array.getElem?_eq_some_iff.1 q1).1
  have HW3 := Lib.hid hw3
  have HX3 := Lib.hid hx3
  have HS3 : Hid (w2.heap.size = w1.heap.size + 1 ∧ w2.heap.size ≤ w3.heap.size ∧ p ≠ w1.heap.size ∧ p < w3.heap.size) := ⟨hs2, hx3.size, hpb, hp3⟩
  have HbL3 := Lib.hid hbL3
  clear hbL hs2 hw3 hx3 hbL3 hpb
  go_wp2_with fail
  refine (lines_any p w3).mono ?_
  rintro e w4 ⟨rfl, hx4, hc4, hs4⟩
  have HX4 := Lib.hid hx4
  have HC4 := Lib.hid hc4
  have HS4 : Hid (w4.heap.size = w3.heap.size + 1) := hs4
  have HL4 : Hid (w4.heap[w1.heap.size]? = some (.cells #[.slice none 0 0] 32 (0, 0))) := hx4.block HbL3.out
  have HXw : Hid (Ext w w4) := HX1.out.trans (HX2.out.trans (HX3.out.trans hx4))
  clear hx4 hc4 hs4 hp3
  go_wp2_with fail
  refine (wpIn_wide (n := 3)).1 ?_
  refine wp_rangeFuncT (a₁ := ?a1) rfl enters_77 (lines1_gives t (leadsOf t r.l) p w3.heap.size w w4 (fun k => k ≠ w1.heap.size) HK.out HT.out.starts HXw.out (HW3.out.ext HX4.out) HC4.out (fun k h => by have := HLt.out; omega) HS3.out.2.2.1 (by have := HS3.out; omega)) rfl
    (fun hi pre W => Coll W w1.heap.size hi pre ∧ Keep (But w4.heap.size w1.heap.size) w4 W) (fun _ _ _ _ => False)
    ?_ (fun _ _ _ _ _ _ h _ => h) ?_ ?assign ?body ?done ?stop
  case assign =>
    intro l s W K hK
    gi_wp2
    exact hK
  · intro hi s A B hh h hk
    have := HS3.out
    have := HS4.out
    exact ⟨h.1.keep hk (.inl (by omega)) (fun i hi => .inr hi), h.2.trans (hk.mono (fun k _ h => .inl h.1))⟩
  · intro hi hh
    exact ⟨Coll.nil HL4.out, Keep.refl _ _⟩
  case body =>
    rintro l hi pre s W hh hhW ⟨hC, hKp⟩ hpre hsl hown
    have hS3 := HS3.out
    have hS4 := HS4.out
    have hLt := HLt.out
    have hpl := linesR_in hpre HLe.out
    obtain ⟨a, c, rows, h1, h2, h3, h4⟩ := hC
    have hrl : rows.length = pre.length := by have := congrArg List.length h4; simpa using this
    have hcb : W.cell? ⟨w1.heap.size, 0, none⟩ = some (.slice a rows.length c) := (cell_at h1 0).trans rfl
    have hrl2 : rows.length < 200 := by omega
    clear hrl hpl
    have d200 : ((rows.length : Int) == 200) = false := by rw [beq_eq_false_iff_ne]; omega
    have H1 := Lib.hid h1; clear h1
    have H2 := Lib.hid h2; clear h2
    have H3 := Lib.hid h3; clear h3
    have H4 := Lib.hid h4; clear h4
    have HKp := Lib.hid hKp; clear hKp
    have HOs := Lib.hid hown; clear hown
    have HSl := Lib.hid hsl; clear hsl
    have hm1 : rows.length + 1 ≤ maxLen := by unfold maxLen; omega
    obtain ⟨i0, hi0, hz0, hz1, hz2⟩ := info_parts info25
    gi_wp2_with (gi_at_builtin; refine wpListIn_append_own _ rfl _ _ 32 rfl hi 25 i0 (.slice none 0 0) 1 24 Tryz.underlying32 hi0 hz0 hz1 hz2 rfl (by decide) _ rows.length (rows.map fun r => r.v) rfl (H2.out.alloc _) ⟨W.heap.size, 0, none⟩ 1 1 [s.v] rfl rfl (cell_one_new _ _ _) (by simp [Value.oneCell']) hm1 (by omega) (by simp; omega) ?_; intro v' w5 hown5 hgrow5 _;
                     obtain ⟨q1, q2, q3⟩ := Coll.append H1.out H2.out H3.out ⟨HSl.out, HOs.out⟩ hown5 hgrow5;
                     obtain ⟨g', cap', rfl⟩ := ownsRow_succ hown5; have hcb5 : w5.cell? ⟨w1.heap.size, 0, none⟩ = some (.slice a rows.length c) := (cell_at q1 0).trans rfl; have hfb5 : w5.frozen? ⟨w1.heap.size, 0, none⟩ = false := (by simp [World.frozen?, q1]); have Q2 := Lib.hid q2; have Q3 := Lib.hid q3; clear q1 q2 q3 hown5 hgrow5)
    refine ⟨Q3.out.mono (fun k hk h => ?_), ?_, HKp.out.trans (Q3.out.mono (fun k _ h => ⟨by have := h.1; omega, h.2⟩))⟩
    · rcases h with h | h
      · exact ⟨by omega, h.2⟩
      · exact ⟨h.2, by omega⟩
    · have := Q2.out
      rw [List.map_append, H4.out] at this
      simpa using this
  case stop =>
    rintro hi c pre W hh hp h
    exact h.elim
  case done =>
    rintro hi W hh ⟨hC, hKp⟩ hD
    have hS3 := HS3.out
    have hS4 := HS4.out
    have hLt := HLt.out
    have hlen : (linesR t (leadsOf t r.l)).length ≤ 1000000 := by have := HLe.out; omega
    have hx24 : Ext w1 w4 := HX2.out.trans (HX3.out.trans HX4.out)
    have h4W : W.heap[w.heap.size + 1]? = some (.cells #[.slice none 0 0] 32 (0, 0)) := hKp.heap (hx24.block HBx.out.1) ⟨by omega, by omega⟩
    have h5W : W.heap[w.heap.size + 1 + 1]? = some (.cells #[.int .i64 0] 33 (0, 0)) := hKp.heap (hx24.block HBx.out.2) ⟨by omega, by omega⟩
    obtain ⟨a, c, rows, h1, h2, h3, h4⟩ := hC
    have HFin : Hid (∀ (v : Value), v = .slice a rows.length c → ∃ Wf, (Instr.takeDeferred w4.heap.size).run Tryz.prog ((W.setCell ⟨w.heap.size + 1, 0, none⟩ v).setCell ⟨w.heap.size + 1 + 1, 0, none⟩ (.int .i64 0)) = .ok [] Wf ∧ Wf.cell? ⟨w.heap.size + 1, 0, none⟩ = some v ∧ Wf.cell? ⟨w.heap.size + 1 + 1, 0, none⟩ = some (.int .i64 0) ∧
        IsSl 1 slC Wf ⟨a, c, rows⟩ ∧ (∀ r ∈ rows, IsSl 1 num Wf r) ∧ Ext w Wf) := by
      intro v hv
      have e1 : ((W.setCell ⟨w.heap.size + 1, 0, none⟩ v).setCell ⟨w.heap.size + 1 + 1, 0, none⟩ (.int .i64 0)).heap[w4.heap.size]? = some (.deferred (some [])) := by
        rw [Below.heap_setCell _ _ _ _ (by show w4.heap.size ≠ w.heap.size + 1 + 1; omega), Below.heap_setCell _ _ _ _ (by show w4.heap.size ≠ w.heap.size + 1; omega)]; exact hD
      have b4 : (W.setCell ⟨w.heap.size + 1, 0, none⟩ v).heap[w.heap.size + 1]? = some (.cells #[v] 32 (0, 0)) := heap_setCell_same h4W v
      have b4' : ((W.setCell ⟨w.heap.size + 1, 0, none⟩ v).setCell ⟨w.heap.size + 1 + 1, 0, none⟩ (.int .i64 0)).heap[w.heap.size + 1]? = some (.cells #[v] 32 (0, 0)) := by
        rw [Below.heap_setCell _ _ _ _ (by show w.heap.size + 1 ≠ w.heap.size + 1 + 1; omega)]; exact b4
      have b5 : (W.setCell ⟨w.heap.size + 1, 0, none⟩ v).heap[w.heap.size + 1 + 1]? = some (.cells #[.int .i64 0] 33 (0, 0)) := by
        rw [Below.heap_setCell _ _ _ _ (by show w.heap.size + 1 + 1 ≠ w.heap.size + 1; omega)]; exact h5W
      have b5' : ((W.setCell ⟨w.heap.size + 1, 0, none⟩ v).setCell ⟨w.heap.size + 1 + 1, 0, none⟩ (.int .i64 0)).heap[w.heap.size + 1 + 1]? = some (.cells #[.int .i64 0] 33 (0, 0)) := heap_setCell_same b5 _
      have KD : Keep (fun k => k ≠ w.heap.size + 1 ∧ k ≠ w.heap.size + 1 + 1 ∧ k ≠ w4.heap.size) W (((W.setCell ⟨w.heap.size + 1, 0, none⟩ v).setCell ⟨w.heap.size + 1 + 1, 0, none⟩ (.int .i64 0)).putObj w4.heap.size (.deferred none)) :=
        (((Keep.refl _ W).setCell _ _ (fun _ h => h.1 rfl)).setCell _ _ (fun _ h => h.2.1 rfl)).putObj _ _ (fun h => h.2.2 rfl)
      have hf : flat 1 slC rows = rows.map fun r => r.v := by simp [flat, slC, List.range_succ, ← List.map_eq_flatMap]
      have o2 := own_keep h2 KD (fun i hi => ⟨by omega, by omega, by omega⟩)
      rw [← hf] at o2
      refine ⟨_, run_takeDeferred e1, (cell_at ((World.putObj_heap_other (by omega)).trans b4') 0).trans rfl, (cell_at ((World.putObj_heap_other (by omega)).trans b5') 0).trans rfl, own_slG o2 (by rw [← h4] at hlen; simpa using hlen), fun r hr => own_sl (own_keep (h3 r hr).2 KD (fun i hi => ⟨by omega, by omega, by omega⟩)) (h3 r hr).1, ?_⟩
      exact ext_keep (ext_keep HXw.out hKp (fun i hi => ⟨by omega, by omega⟩)) KD (fun i hi => ⟨by omega, by omega, by omega⟩)
    have hcb : W.cell? ⟨w1.heap.size, 0, none⟩ = some (.slice a rows.length c) := (cell_at h1 0).trans rfl
    have hc4 : W.cell? ⟨w.heap.size + 1, 0, none⟩ = some (.slice none 0 0) := (cell_at h4W 0).trans rfl
    have hc5 : W.cell? ⟨w.heap.size + 1 + 1, 0, none⟩ = some (.int .i64 0) := (cell_at h5W 0).trans rfl
    have hf4 : W.frozen? ⟨w.heap.size + 1, 0, none⟩ = false := by simp [World.frozen?, h4W]
    have hf5 : W.frozen? ⟨w.heap.size + 1 + 1, 0, none⟩ = false := by simp [World.frozen?, h5W]
    have H4 := Lib.hid h4; clear h4
    have HD := Lib.hid hD; clear hD
    clear h1 h2 h3 h4W h5W hKp hlen hx24
    have e12 : ¬ w.heap.size + 1 = w.heap.size + 1 + 1 := by omega
    have e21 : ¬ w.heap.size + 1 + 1 = w.heap.size + 1 := by omega
    simp only [Exit.inBlock, Exit.then]
    go_wp2_with fail
    obtain ⟨Wf, f1, f2, f3, f4, f5, f6⟩ := HFin.out _ rfl
    refine ⟨by simp, .inl ⟨_, _, rfl, f1, ?_⟩⟩
    exact ⟨_, res2 rfl _ _ ⟨w.heap.size + 1, 0, none⟩ ⟨w.heap.size + 1 + 1, 0, none⟩ rfl rfl _ _ (load41 _ _ _ f2) (load38 _ _ _ f3), a, c, rows, rfl, f4, f5, H4.out, f6⟩
end Go.Proofs.YtopjjcgmcieboaaGreatDoor
