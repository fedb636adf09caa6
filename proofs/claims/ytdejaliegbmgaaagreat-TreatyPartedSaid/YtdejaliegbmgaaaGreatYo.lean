/-
  Words for TreatyParted's walk: treaties that read alike and their parts; among; a treaty's two parts in boxes, the starts of the second one in the making; lines with their error as a number; how many lines of both parts meet. Of the program only among and Lines are spoken of, the latter in the form that the walk asks.
-/
import Derived.Test.YtdejaliegbmgaaaGreatYi
import Derived.Test.YtdejaliegbmgaaaGreatYl
import Derived.Test.YtdejaliegbmgaaaGreatYk
import Derived.Test.YtdejaliegbmgaaaGreatIn
import Derived.Test.YtdejaliegbmgaaaGreatS
namespace Go.Proofs.YtdejaliegbmgaaaGreat

theorem SameT.refl (t : TV) : SameT t t := ⟨⟨rfl, rfl, rfl⟩, rfl, rfl⟩

theorem meanAt_lists (t : TV) (r : List Nat) (k : Nat) : meanAt t r k = (((t.words.l.map listsOf)[k]?.bind fun x => x[(r[k]?).getD 0]?).getD ([], [])) := by
  unfold meanAt
  rw [List.getElem?_map]
  cases h : t.words.l[k]? with
  | none => simp
  | some s =>
    simp only [Option.map_some, Option.bind_some, listsOf, List.getElem?_map]
    cases h2 : s.l[(r[k]?).getD 0]? <;> simp
theorem legMean_same {t t' : TV} (h : SameW t t') (r : List Nat) (x : Nat × Int) : legMean t' r x = legMean t r x := by
  unfold legMean
  simp only [meanAt_lists, h.words]
theorem leadsOf_same {t t' : TV} (h : SameW t t') (r : List Nat) (k k' : Nat) (hl : t'.legs.l[k']? = t.legs.l[k]?) : leadsOf t' r k' = leadsOf t r k := by
  unfold leadsOf
  rw [hl]
  cases t.legs.l[k]? with
  | none => rfl
  | some x => simp only [legMean_same h, h.ways]

theorem words_length {t t' : TV} (h : SameW t t') : t'.words.l.length = t.words.l.length := by have := congrArg List.length h.words; simpa using this
theorem words_at {t t' : TV} (h : SameW t t') (k : Nat) (h1 : k < t'.words.l.length) (h2 : k < t.words.l.length) : listsOf t'.words.l[k] = listsOf t.words.l[k] := by
  have := congrArg (fun l => l[k]?) h.words
  simp only [List.getElem?_map, List.getElem?_eq_getElem h1, List.getElem?_eq_getElem h2, Option.map_some, Option.some.injEq] at this
  exact this
theorem lists_length {s s' : SL MV} (h : listsOf s' = listsOf s) : s'.l.length = s.l.length := by have := congrArg List.length h; simpa [listsOf] using this
theorem RdOk.same {t t' : TV} (h : SameW t t') {r : List Nat} (hr : RdOk t r) : RdOk t' r := by
  refine ⟨hr.1.trans (words_length h).symm, fun k hk hk' => ?_⟩
  have h2 : k < t.words.l.length := by rw [← words_length h]; exact hk'
  rw [lists_length (words_at h k hk' h2)]
  exact hr.2 k hk h2

theorem OkT.part {t t' : TV} (hk : OkT t) (h : SameW t t') (h1 : 1 ≤ t'.starts.l.length) (h2 : t'.starts.l.length ≤ t.P) (hs : (∀ s ∈ t'.starts.l, s < t.P) ∧ t'.starts.l.Pairwise (· < ·)) (hl : ∀ g ∈ t'.legs.l, g ∈ t.legs.l) (hn : t'.legs.l.length ≤ 10) : OkT t' := by
  have hw : ∀ s ∈ t'.words.l, ∃ q ∈ t.words.l, listsOf s = listsOf q := by
    intro s hs
    have : listsOf s ∈ t.words.l.map listsOf := by rw [← h.words]; exact List.mem_map.2 ⟨s, hs, rfl⟩
    obtain ⟨q, hq, e⟩ := List.mem_map.1 this
    exact ⟨q, hq, e.symm⟩
  have hm : ∀ {s q : SL MV}, listsOf s = listsOf q → ∀ m ∈ s.l, ∃ p ∈ q.l, p.k.l = m.k.l ∧ p.e.l = m.e.l := by
    intro s q e m hm
    have : (m.k.l, m.e.l) ∈ listsOf q := by rw [← e]; exact List.mem_map.2 ⟨m, hm, rfl⟩
    obtain ⟨p, hp, e2⟩ := List.mem_map.1 this
    rw [Prod.mk.injEq] at e2
    exact ⟨p, hp, e2⟩
  refine { p1 := by rw [h.P]; exact hk.p1, p2 := by rw [h.P]; exact hk.p2, ways := by rw [h.ways]; exact hk.ways, words := by rw [words_length h]; exact hk.words, starts1 := h1, starts2 := by rw [h.P]; exact h2, legs := hn, word := fun s hs => ?_, way := by rw [h.ways, h.P]; exact hk.way, kinds := fun s hs m hms => ?_, ends := fun s hs m hms => ?_, start := by rw [h.P]; exact hs, leg := fun g hg => by rw [words_length h]; exact hk.leg g (hl g hg), many := ?_ }
  · obtain ⟨q, hq, e⟩ := hw s hs
    rw [lists_length e]; exact hk.word q hq
  · obtain ⟨q, hq, e⟩ := hw s hs
    obtain ⟨p, hp, e1, e2⟩ := hm e m hms
    rw [← e1]; exact hk.kinds q hq p hp
  · obtain ⟨q, hq, e⟩ := hw s hs
    obtain ⟨p, hp, e1, e2⟩ := hm e m hms
    rw [← e2, h.P]; exact hk.ends q hq p hp
  · have e : t'.words.l.map (·.l.length) = t.words.l.map (·.l.length) := by
      have := congrArg (fun l => l.map List.length) h.words
      simpa [listsOf, List.map_map, Function.comp_def] using this
    rw [e]; exact hk.many

/-- The parts of a treaty at a leg, and what their legs lead to. -/
theorem part_of {t a b : TV} (hk : OkT t) (r : List Nat) (k : Nat) (hkl : k ≤ t.legs.l.length) (ha : SameW t a) (hb : SameW t b) (as1 : a.starts.l = t.starts.l) (bs1 : b.starts.l = List.range t.P) (al : a.legs.l = t.legs.l.take k) (bl : b.legs.l = t.legs.l.drop k) :
    PartT t a b (leadsOf t r) (leadsOf a r) (leadsOf b r) k ∧ OkT a ∧ OkT b := by
  have h10 := hk.legs
  refine ⟨⟨hkl, ha.P, hb.P, by rw [al, List.length_take]; omega, by rw [bl, List.length_drop], as1, bs1, fun i hi => leadsOf_same ha r i i (by rw [al, List.getElem?_take, if_pos hi]), fun i hi => leadsOf_same hb r (k + i) i (by rw [bl, List.getElem?_drop])⟩, ?_, ?_⟩
  · exact hk.part ha (by rw [as1]; exact hk.starts1) (by rw [as1]; exact hk.starts2) (by rw [as1]; exact hk.start) (fun g hg => List.mem_of_mem_take (by rwa [al] at hg)) (by rw [al, List.length_take]; omega)
  · exact hk.part hb (by rw [bs1, List.length_range]; exact hk.p1) (by rw [bs1, List.length_range]; exact Nat.le_refl _) (by rw [bs1]; exact ⟨fun s hs => by simpa using hs, List.pairwise_lt_range⟩) (fun g hg => List.mem_of_mem_drop (by rwa [bl] at hg)) (by rw [bl, List.length_drop]; omega)
end Go.Proofs.YtdejaliegbmgaaaGreat

namespace Go.Proofs.YtdejaliegbmgaaaGreat
open Go.RowKit

set_option maxHeartbeats 400000 in
theorem indexRow_any (g : Nat) (cap : Array Value) (D : SL Nat → Prop) (p : SL Nat → Bool) (a : Option Addr) (n c : Nat) (l : List (SL Nat)) (w : World) (hE : Enters Tryz.prog g) (hn : l.length = n) (hv : IsSl 1 slC w ⟨a, c, l⟩)
    (hp : Asks Tryz.prog g cap (fun x : SL Nat => #[.slice x.a x.l.length x.c]) D p w) (hD : ∀ x ∈ l, D x) :
    Calls Tryz.prog 136 #[.slice a n c, .func (.func g) #[] cap] w fun e w' => (∃ r : Int, e = .returned (.int .i64 r) ∧ ((r = -1 ∧ l.any p = false) ∨ (0 ≤ r ∧ l.any p = true))) ∧ Ext w w' := by
  subst hn
  obtain ⟨h1, h2, h3⟩ := hv
  dsimp only at h1 h2 h3
  have H3 := Lib.hid h3; clear h3
  have HP := Lib.hid hp; clear hp
  have HD := Lib.hid hD; clear hD
  have HE : ∀ args w, (callFunc g args).run Tryz.prog w = .ok (.enter g args) w := hE; clear hE
  go_enter Tryz.func136, Tryz.ntmps136
  go_wp2
  go_loopw [8] (fun i wr => ∃ k : Nat, k ≤ l.length ∧ i = .int .i64 k ∧ Hid ((l.take k).all (fun x => !p x) = true) ∧ Ext w wr) (fun i _ => l.length - (intOf i).toNat)
  case atStart => exact ⟨0, Nat.zero_le _, rfl, by simp [Hid], Ext.refl _⟩
  case round =>
    obtain ⟨k, hk, rfl, HA, hext⟩ := hrel
    by_cases hlt : k < l.length
    · obtain ⟨b, off, rfl, hc⟩ := H3.out.resolve_left (by omega)
      have hcell : wr.cell? ⟨b, off + k, none⟩ = some (.slice l[k].a l[k].l.length l[k].c) := by have := hext.cell (hc k (by simpa using hlt) 0 (by omega)); simpa [slC] using this
      clear hc
      have HDy := Lib.hid (HD.out _ (List.getElem_mem hlt))
      have HAn : Hid ((l.take (k + 1)).all (fun x => !p x) = ((l.take k).all (fun x => !p x) && !p l[k])) := all_take_succ _ _ _ hlt
      have HMy : Hid (l[k] ∈ l) := List.getElem_mem _
      generalize l[k] = y at *
      have HX := Lib.hid hext; clear hext
      go_wp2_with fail
      refine (HP.out y HDy.out wr HX.out).mono ?_
      rintro e w1 ⟨rfl, hx1⟩
      have HX1 := Lib.hid (HX.out.trans hx1); clear hx1
      cases hpx : p y
      · have Hpx := Lib.hid hpx; clear hpx
        go_wp2
        go_roundw
        case rel => exact ⟨k + 1, by omega, by go_num, by show _ = true; rw [HAn.out, HA.out, Hpx.out]; rfl, HX1.out⟩
        case measure => simp [intOf]; omega
      · have Hpx := Lib.hid hpx; clear hpx
        go_wp2
        go_ret
        exact ⟨⟨k, rfl, .inr ⟨by omega, List.any_eq_true.2 ⟨y, HMy.out, Hpx.out⟩⟩⟩, HX1.out⟩
    · have HX := Lib.hid hext; clear hext
      go_wp2
      go_ret
      refine ⟨⟨-1, rfl, .inl ⟨rfl, ?_⟩⟩, HX.out⟩
      have := HA.out
      rw [List.take_of_length_le (by omega)] at this
      rw [List.any_eq_false]; intro x hx; have := List.all_eq_true.1 this x hx; simpa using this

set_option maxHeartbeats 400000 in
theorem containsRow_any (g : Nat) (cap : Array Value) (D : SL Nat → Prop) (p : SL Nat → Bool) (a : Option Addr) (n c : Nat) (l : List (SL Nat)) (w : World) (hE : Enters Tryz.prog g) (hn : l.length = n) (hv : IsSl 1 slC w ⟨a, c, l⟩)
    (hp : Asks Tryz.prog g cap (fun x : SL Nat => #[.slice x.a x.l.length x.c]) D p w) (hD : ∀ x ∈ l, D x) :
    Calls Tryz.prog 98 #[.slice a n c, .func (.func g) #[] cap] w fun e w' => e = .returned (.bool (l.any p)) ∧ Ext w w' := by
  have HI := Lib.hid (indexRow_any g cap D p a n c l w hE hn hv hp hD)
  clear hE hn hv hp hD
  go_enter Tryz.func98, Tryz.ntmps98
  go_wp2_with fail
  refine HI.out.mono ?_
  rintro e w' ⟨⟨r, rfl, hr⟩, hx⟩
  have HR := Lib.hid hr; clear hr
  have HX := Lib.hid hx; clear hx
  go_wp2
  go_ret
  refine ⟨?_, HX.out⟩
  rcases HR.out with ⟨rfl, hall⟩ | ⟨h0, hall⟩
  · rw [hall]; rfl
  · rw [hall]
    have h0' : decide ((0 : Int) ≤ r) = true := by simpa using h0
    show Ending.returned (.bool (decide ((0 : Int) ≤ r))) = _
    rw [h0']

theorem among1_any (b : Nat) (x y : SL Nat) (w : World) (hc : w.heap[b]? = some (.cells #[.slice x.a x.l.length x.c] 24 (0, 0))) (hx : IsSl 1 num w x) (hy : IsSl 1 num w y) :
    Calls Tryz.prog 99 #[.slice y.a y.l.length y.c, .pointer (some ⟨b, 0, none⟩)] w fun e w' => e = .returned (.bool (decide (x.l = y.l))) ∧ Ext w w' := by
  have HE := Lib.hid (equal_any x y w hx hy)
  have c0 : w.cell? ⟨b, 0, none⟩ = some (.slice x.a x.l.length x.c) := (cell_at hc 0).trans rfl
  clear hc hx hy
  generalize decide (x.l = y.l) = r at *
  go_enter Tryz.func99, Tryz.ntmps99
  go_wp2_with fail
  refine HE.out.mono ?_
  rintro e w' ⟨rfl, hx⟩
  have HX : Hid (Ext w w') := hx.ext
  clear hx
  go_wp2
  go_ret
  exact ⟨rfl, HX.out⟩

theorem enters_99 : Enters Tryz.prog 99 := fun args w => Proofs.enters_of Tryz.func99 (by kernel_rfl) rfl args w

set_option maxHeartbeats 400000 in
theorem among_any (s t : SL (SL Nat)) (w : World) (hs : IsSl 1 slC w s) (ht : IsSl 1 slC w t) (hrs : ∀ r ∈ s.l, IsSl 1 num w r) (hrt : ∀ r ∈ t.l, IsSl 1 num w r) :
    Calls Tryz.prog 48 #[.slice s.a s.l.length s.c, .slice t.a t.l.length t.c] w fun e w' => e = .returned (.bool (s.l.all fun x => t.l.any fun y => decide (x.l = y.l))) ∧ Ext w w' := by
  obtain ⟨a, c, l⟩ := s
  obtain ⟨h1, h2, h3⟩ := hs
  dsimp only at h1 h2 h3 hrs ⊢
  have H3 := Lib.hid h3; clear h3
  have HT := Lib.hid ht; clear ht
  have HRs := Lib.hid hrs; clear hrs
  have HRt := Lib.hid hrt; clear hrt
  go_enter Tryz.func48, Tryz.ntmps48
  go_wp2
  go_loopw [9] (fun i wr => ∃ k : Nat, k ≤ l.length ∧ i = .int .i64 k ∧ Hid ((l.take k).all (fun x => t.l.any fun y => decide (x.l = y.l)) = true) ∧ Hid (Ext w wr)) (fun i _ => l.length - (intOf i).toNat)
  case atStart => exact ⟨0, Nat.zero_le _, rfl, by simp [Hid], Ext.refl _⟩
  case round =>
    obtain ⟨k, hk, rfl, HA, HX⟩ := hrel
    by_cases hlt : k < l.length
    · have dk : decide ((k : Int) < (l.length : Int)) = true := by simpa using hlt
      obtain ⟨b, off, rfl, hc⟩ := H3.out.resolve_left (by omega)
      have hcell : wr.cell? ⟨b, off + k, none⟩ = some (.slice l[k].a l[k].l.length l[k].c) := by have := HX.out.cell (hc k (by simpa using hlt) 0 (by omega)); simpa [slC] using this
      clear hc
      have HAn : Hid ((l.take (k + 1)).all (fun x => t.l.any fun y => decide (x.l = y.l)) = ((l.take k).all (fun x => t.l.any fun y => decide (x.l = y.l)) && (t.l.any fun y => decide (l[k].l = y.l)))) := all_take_succ _ _ _ hlt
      have HMy : Hid (l[k] ∈ l) := List.getElem_mem _
      generalize l[k] = y at *
      go_wp2_with fail
      have hx1 : Ext w (wr.alloc (.cells #[.slice y.a y.l.length y.c] 24)) := HX.out.alloc _
      refine (containsRow_any 99 #[.pointer (some ⟨wr.heap.size, 0, none⟩)] (fun r => r ∈ t.l) (fun r => decide (y.l = r.l)) t.a t.l.length t.c t.l _ enters_99 rfl (HT.out.ext hx1) ?_ (fun x hx => hx)).mono ?_
      · intro r hr w' hw'
        exact among1_any wr.heap.size y r w' (hw'.block (World.alloc_heap_new wr _)) ((HRs.out y HMy.out).ext (hx1.trans hw')) ((HRt.out r hr).ext (hx1.trans hw'))
      · rintro e w1 ⟨rfl, hx2⟩
        have HX2 : Hid (Ext w w1) := hx1.trans hx2
        clear hx1 hx2
        cases hb : t.l.any fun r => decide (y.l = r.l)
        · have HB := Lib.hid hb; clear hb
          go_wp2
          go_ret
          refine ⟨?_, HX2.out⟩
          have : (l.all fun x => t.l.any fun y => decide (x.l = y.l)) = false := by
            rw [List.all_eq_false]; exact ⟨y, HMy.out, by rw [HB.out]; simp⟩
          rw [this]; rfl
        · have HB := Lib.hid hb; clear hb
          go_wp2
          go_roundw
          case rel => exact ⟨k + 1, by omega, by go_num, by show _ = true; rw [HAn.out, HA.out, HB.out]; rfl, HX2⟩
          case measure => simp [intOf]; omega
    · have dk : decide ((k : Int) < (l.length : Int)) = false := decide_eq_false (by omega)
      have HA2 : Hid ((l.all fun x => t.l.any fun y => decide (x.l = y.l)) = true) := by
        have := HA.out
        rwa [List.take_of_length_le (by omega)] at this
      clear HA
      go_wp2
      go_ret
      exact ⟨by rw [HA2.out]; rfl, HX.out⟩
end Go.Proofs.YtdejaliegbmgaaaGreat

namespace Go.Proofs.YtdejaliegbmgaaaGreat
open Go.RowKit

/-- The two copies of a treaty, in boxes. -/
def TwoOf (t : TV) (w : World) (s9 s10 : Value) (wx : World) : Prop :=
  ∃ (A B : Nat) (ta tb : TV), s9 = .pointer (some ⟨A, 0, none⟩) ∧ s10 = .pointer (some ⟨B, 0, none⟩) ∧ A ≠ B ∧ w.heap.size ≤ A ∧ w.heap.size ≤ B ∧ A < wx.heap.size ∧ B < wx.heap.size ∧
    Hid (MkT wx A ta.P ta.ways.v ta.words.v ta.starts.v ta.legs.v) ∧ Hid (MkT wx B tb.P tb.ways.v tb.words.v tb.starts.v tb.legs.v) ∧ Hid (∀ w', G2 A B wx w' → IsT w' ta ∧ IsT w' tb) ∧ Hid (SameT t ta) ∧ Hid (SameT t tb) ∧ Hid (Ext w wx)

theorem G2.setA {D B : Nat} {a b : World} (h : G2 D B a b) (i : Nat) (v : Value) : G2 D B a (b.setCell ⟨D, i, none⟩ v) :=
  h.step (row := some D) ⟨rfl, rfl, rfl, by simp [World.setCell], fun k _ hne => Below.heap_setCell _ _ _ _ (fun e => hne (by rw [e]))⟩ (fun i e => by cases e; exact .inl rfl)
theorem G2.al {D B : Nat} {a b : World} (h : G2 D B a b) (o : Obj) : G2 D B a (b.alloc o) := h.ext ((Ext.refl b).alloc o)
theorem G2.dr {D B : Nat} {a b : World} (h : G2 D B a b) : G2 D B a b.drew := h.ext (Ext.refl b).drew
theorem MkT.al {w : World} {B P : Nat} {a b c d : Value} (h : MkT w B P a b c d) (o : Obj) : MkT (w.alloc o) B P a b c d := ((Ext.refl w).alloc o).block h
theorem MkT.dr {w : World} {B P : Nat} {a b c d : Value} (h : MkT w B P a b c d) : MkT w.drew B P a b c d := ((Ext.refl w).drew).block h
theorem MkT.ne {w : World} {A B P i : Nat} {a b c d v : Value} (h : MkT w B P a b c d) (hne : A ≠ B) : MkT (w.setCell ⟨A, i, none⟩ v) B P a b c d := heap_set_other _ _ _ _ h (fun e => hne e.symm)
theorem ZB.al {w : World} {B : Nat} (h : ZB w B) (o : Obj) : ZB (w.alloc o) B := h.ext ((Ext.refl w).alloc o)
theorem ZB.ne {w : World} {A B i : Nat} {v : Value} (h : ZB w B) (hne : A ≠ B) : ZB (w.setCell ⟨A, i, none⟩ v) B := heap_set_other _ _ _ _ h (fun e => hne e.symm)
theorem mkt_new (w : World) (P : Nat) (a b c d : Value) : MkT (w.alloc (.cells #[.int .i64 (P : Int), a, b, c, d] 27)) w.heap.size P a b c d := World.alloc_heap_new w _
theorem mkt_new1 (w : World) (o : Obj) (P : Nat) (a b c d : Value) : MkT ((w.alloc o).alloc (.cells #[.int .i64 (P : Int), a, b, c, d] 27)) (w.heap.size + 1) P a b c d := by
  have := World.alloc_heap_new (w.alloc o) (.cells #[.int .i64 (P : Int), a, b, c, d] 27); rwa [World.size_alloc] at this
theorem zb_at (w : World) : ZB (w.alloc boxZ) w.heap.size := World.alloc_heap_new w _
theorem zb_at1 (w : World) (o : Obj) : ZB ((w.alloc o).alloc boxZ) (w.heap.size + 1) := by
  have := World.alloc_heap_new (w.alloc o) boxZ; rwa [World.size_alloc] at this
theorem zb_call2 {w v : World} (h : Ext ((w.alloc boxZ).alloc boxZ).drew v) : ZB v w.heap.size ∧ ZB v (w.heap.size + 1) := ⟨h.block (show ZB ((w.alloc boxZ).alloc boxZ) w.heap.size from (zb_at w).al _), h.block (show ZB ((w.alloc boxZ).alloc boxZ) (w.heap.size + 1) from zb_at1 w _)⟩
theorem zb_new2 {w v : World} (h : Ext ((w.alloc boxZ).alloc boxZ) v) : ZB v w.heap.size ∧ ZB v (w.heap.size + 1) := ⟨((zb_at w).al _).ext h, (zb_at1 w _).ext h⟩
theorem sz0d (w : World) : w.drew.heap.size = w.heap.size := rfl
theorem sz1 (w : World) (o : Obj) : (w.alloc o).heap.size = w.heap.size + 1 := World.size_alloc _ _
theorem sz2 (w : World) (o o' : Obj) : ((w.alloc o).alloc o').heap.size = w.heap.size + 2 := by rw [World.size_alloc, World.size_alloc]
theorem sz1d (w : World) (o : Obj) : (w.alloc o).drew.heap.size = w.heap.size + 1 := sz1 w o
theorem sz2d (w : World) (o o' : Obj) : ((w.alloc o).alloc o').drew.heap.size = w.heap.size + 2 := sz2 w o o'
theorem istk_at {X v : World} {t : TV} (h : IsTK X.heap.size v t) (hx : Ext X v) : ∃ lo, lo = X.heap.size ∧ lo ≤ v.heap.size ∧ Hid (IsTK lo v t) := ⟨_, rfl, hx.size, h⟩

theorem ext_g2 {w a b : World} {A B : Nat} (h : Ext w a) (g : G2 A B a b) (hA : w.heap.size ≤ A) (hB : w.heap.size ≤ B) : Ext w b :=
  ⟨g.os.trans h.os, g.tape.trans h.tape, g.output.trans h.output, Nat.le_trans h.size g.size, fun c hc => (g.block c (by have := h.size; omega) (by omega) (by omega)).trans (Below.block h c hc)⟩

theorem two_fin {w3 v1 v2 W : World} {A B lo1 lo2 : Nat} {t ta tb : TV} (hne : A ≠ B) (hA : w3.heap.size ≤ A) (hB : w3.heap.size ≤ B) (K1 : IsTK lo1 v1 ta) (K2 : IsTK lo2 v2 tb) (X1 : Ext w3 v1) (X12 : Ext v1 v2)
    (dA1 : A < lo1 ∨ v1.heap.size ≤ A) (dB1 : B < lo1 ∨ v1.heap.size ≤ B) (dA2 : A < lo2 ∨ v2.heap.size ≤ A) (dB2 : B < lo2 ∨ v2.heap.size ≤ B) (Sa : SameT t ta) (Sb : SameT t tb) (g : G2 A B v2 W)
    (MA : MkT W A ta.P ta.ways.v ta.words.v ta.starts.v ta.legs.v) (MB : MkT W B tb.P tb.ways.v tb.words.v tb.starts.v tb.legs.v) : TwoOf t w3 (.pointer (some ⟨A, 0, none⟩)) (.pointer (some ⟨B, 0, none⟩)) W := by
  have h3 := X1.trans X12
  have hs1 := X12.size
  have hs2 := g.size
  refine ⟨A, B, ta, tb, rfl, rfl, hne, hA, hB, (Array.getElem?_eq_some_iff.1 MA).1, (Array.getElem?_eq_some_iff.1 MB).1, MA, MB, fun w' k => ⟨K1 w' fun b h1 h2 => ?_, K2 w' fun b h1 h2 => ?_⟩, Sa, Sb, ext_g2 h3 g hA hB⟩
  · exact ((k.block b (by omega) (by omega) (by omega)).trans (g.block b (by omega) (by omega) (by omega))).trans (Below.block X12 b h2)
  · exact (k.block b (by omega) (by omega) (by omega)).trans (g.block b (by omega) (by omega) (by omega))

theorem IsSl.take {α : Type} {sz : Nat} {cs : α → Nat → Value} {w : World} {a : Option Addr} {c : Nat} {l : List α} (h : IsSl sz cs w ⟨a, c, l⟩) (k : Nat) : IsSl sz cs w ⟨a, c, l.take k⟩ := by
  obtain ⟨h1, h2, h3⟩ := h
  dsimp only at h1 h2 h3
  refine ⟨by simp only [List.length_take]; omega, by simp only [List.length_take]; omega, ?_⟩
  rcases h3 with h3 | ⟨b, off, h4, h5⟩
  · exact .inl (by simp only [List.length_take]; omega)
  · refine .inr ⟨b, off, h4, fun i hi j hj => ?_⟩
    simp only [List.length_take] at hi
    rw [h5 i (by omega) j hj]; simp
theorem IsSl.drop {α : Type} {sz : Nat} {cs : α → Nat → Value} {w : World} {a : Option Addr} {c : Nat} {l : List α} (h : IsSl sz cs w ⟨a, c, l⟩) (k : Nat) : IsSl sz cs w ⟨if c = k then a else a.map (·.add (k * sz)), c - k, l.drop k⟩ := by
  obtain ⟨h1, h2, h3⟩ := h
  dsimp only at h1 h2 h3
  refine ⟨by simp only [List.length_drop]; omega, by simp only [List.length_drop]; omega, ?_⟩
  by_cases hk : l.length ≤ k
  · exact .inl (by simp only [List.length_drop]; omega)
  · rcases h3 with h3 | ⟨b, off, h4, h5⟩
    · exact .inl (by simp only [List.length_drop]; omega)
    · refine .inr ⟨b, off + k * sz, ?_, fun i hi j hj => ?_⟩
      · dsimp only; rw [if_neg (by omega), h4, Option.map_some, Addr.add_lit]
      · simp only [List.length_drop] at hi
        have := h5 (k + i) (by omega) j hj
        rw [Nat.add_mul] at this
        simp only [List.getElem_drop]
        rw [← this, show off + k * sz + i * sz + j = off + (k * sz + i * sz) + j by omega]

/-- The two parts of a treaty, in boxes: the second one still with the starts of the whole. -/
def Cut6 (t : TV) (k A B : Nat) (w3 W : World) : Prop :=
  ∃ ta tb : TV, Hid (MkT W A ta.P ta.ways.v ta.words.v ta.starts.v ta.legs.v) ∧ Hid (MkT W B tb.P tb.ways.v tb.words.v tb.starts.v tb.legs.v) ∧ Hid (∀ w', G2 A B W w' → IsT w' ta ∧ IsT w' tb) ∧
    Hid (SameW t ta) ∧ Hid (SameW t tb) ∧ Hid (ta.starts.l = t.starts.l) ∧ Hid (ta.legs.l = t.legs.l.take k) ∧ Hid (tb.legs.l = t.legs.l.drop k) ∧ Hid (Ext w3 W)

theorem cut6_mk {t ta tb : TV} {k A B : Nat} {w3 wc W : World} (hG : ∀ w', G2 A B wc w' → IsT w' ta ∧ IsT w' tb) (Sa : SameT t ta) (Sb : SameT t tb) (hk : k ≤ t.legs.l.length) (HX : Ext w3 wc) (hA : w3.heap.size ≤ A) (hB : w3.heap.size ≤ B) (g : G2 A B wc W)
    (MA : MkT W A ta.P ta.ways.v ta.words.v ta.starts.v (.slice ta.legs.a k ta.legs.c)) (MB : MkT W B tb.P tb.ways.v tb.words.v tb.starts.v (.slice (if tb.legs.c = k then tb.legs.a else tb.legs.a.map (·.add (k * 2))) (tb.legs.l.length - k) (tb.legs.c - k))) : Cut6 t k A B w3 W := by
  refine ⟨⟨ta.P, ta.ways, ta.words, ta.starts, ⟨ta.legs.a, ta.legs.c, ta.legs.l.take k⟩⟩, ⟨tb.P, tb.ways, tb.words, tb.starts, ⟨if tb.legs.c = k then tb.legs.a else tb.legs.a.map (·.add (k * 2)), tb.legs.c - k, tb.legs.l.drop k⟩⟩, ?_, ?_, ?_, ⟨Sa.P, Sa.ways, Sa.words⟩, ⟨Sb.P, Sb.ways, Sb.words⟩, Sa.starts, ?_, ?_, ext_g2 HX g hA hB⟩
  · have : (ta.legs.l.take k).length = k := by rw [List.length_take, Sa.legs]; omega
    show MkT W A _ _ _ _ (.slice _ (ta.legs.l.take k).length _)
    rw [this]; exact MA
  · show MkT W B _ _ _ _ (.slice _ (tb.legs.l.drop k).length _)
    rw [List.length_drop]; exact MB
  · intro w' g'
    obtain ⟨h1, h2⟩ := hG w' (g.trans g')
    exact ⟨⟨h1.ways, h1.words, h1.word, h1.starts, h1.legs.take k⟩, ⟨h2.ways, h2.words, h2.word, h2.starts, h2.legs.drop k⟩⟩
  · show ta.legs.l.take k = _; rw [Sa.legs]
  · show tb.legs.l.drop k = _; rw [Sb.legs]

theorem start_leaf {A B base P Pa j : Nat} {w7 v2 v3 : World} {wv qv lv a1 a2 a3 a4 : Value} {s : SL Nat} {tmp : Obj} {g cap : Nat} (hA : A < base) (hB : B < base) (hAB : A ≠ B) (hbase : w7.heap.size = base)
    (HO : v2.ownsRow base 3 1 (.slice s.a s.l.length s.c) s.l.length (nums s.l)) (HM : MkT v2 B P wv qv s.v lv) (HMA : MkT v2 A Pa a1 a2 a3 a4) (HG : G2 A B w7 v2)
    (hown : v3.ownsRow base 3 1 (.slice (some ⟨g, 0, none⟩) (s.l.length + 1) cap) (s.l.length + 1) (nums s.l ++ nums [j])) (hgrow : (v2.alloc tmp).grownBy v3 (Value.slice s.a s.l.length s.c).ownBlock) :
    (v3.cell? ⟨B, 3, none⟩ = some (.slice s.a s.l.length s.c) ∧ v3.frozen? ⟨B, 3, none⟩ = false) ∧
      Hid ((v3.setCell ⟨B, 3, none⟩ (.slice (some ⟨g, 0, none⟩) (s.l.length + 1) cap)).ownsRow base 3 1 (.slice (some ⟨g, 0, none⟩) (s.l ++ [j]).length cap) (s.l ++ [j]).length (nums (s.l ++ [j]))) ∧
        Hid (MkT (v3.setCell ⟨B, 3, none⟩ (.slice (some ⟨g, 0, none⟩) (s.l.length + 1) cap)) B P wv qv (.slice (some ⟨g, 0, none⟩) (s.l ++ [j]).length cap) lv) ∧ Hid (MkT (v3.setCell ⟨B, 3, none⟩ (.slice (some ⟨g, 0, none⟩) (s.l.length + 1) cap)) A Pa a1 a2 a3 a4) ∧ Hid (G2 A B w7 (v3.setCell ⟨B, 3, none⟩ (.slice (some ⟨g, 0, none⟩) (s.l.length + 1) cap))) := by
  have hrow : ∀ i, (Value.slice s.a s.l.length s.c).ownBlock = some i → base ≤ i := fun i hi => own_lt HO i hi
  have hxx := (Ext.refl v2).alloc tmp
  have HM3 : MkT v3 B P wv qv s.v lv := MkT.grown (hxx.block HM) hgrow (fun i hi => by have := hrow i hi; omega)
  have HA3 : MkT v3 A Pa a1 a2 a3 a4 := MkT.grown (hxx.block HMA) hgrow (fun i hi => by have := hrow i hi; omega)
  have HG3 : G2 A B w7 v3 := (HG.ext hxx).step hgrow (fun i hi => .inr (.inr (by have := hrow i hi; omega)))
  have hlen : (s.l ++ [j]).length = s.l.length + 1 := by simp
  refine ⟨⟨HM3.five.2.2.2.1, HM3.frozen 3⟩, ?_, ?_, HA3.ne (fun e => hAB e.symm), HG3.setB 3 _⟩
  · show World.ownsRow _ base 3 1 (.slice _ (s.l ++ [j]).length cap) (s.l ++ [j]).length (nums (s.l ++ [j]))
    rw [show nums (s.l ++ [j]) = nums s.l ++ nums [j] from List.map_append .., hlen]
    exact G2.own hown ((G2.refl A B v3).setB 3 _) hA hB
  · show MkT _ B P _ _ (.slice _ (s.l ++ [j]).length cap) _
    rw [hlen]; exact HM3.set3 _

/-- What Lines returns: all lines, or the error where there are too many. -/
def LinesG (t : TV) (r : List Nat) (w : World) (e : Ending) (w' : World) : Prop :=
  ∃ (a : Option Addr) (c : Nat) (l : List (SL Nat)) (er : Int), e = .returned (.tuple #[.slice a l.length c, .int .i64 er]) ∧ Hid (IsTbl w' ⟨a, c, l⟩) ∧ ((er = 0 ∧ l.map (fun r => r.l) = linesR t (leadsOf t r) ∧ (linesR t (leadsOf t r)).length ≤ 200) ∨ er = 11) ∧ Ext w w'
theorem Lines_gen (t : TV) (r : SL Nat) (w : World) (ht : IsT w t) (hk : OkT t) (hr : IsSl 1 num w r) (hR : RdOk t r.l) : Calls Tryz.prog 16 #[t.v, .slice r.a r.l.length r.c] w (LinesG t r.l w) := by
  refine (Lines_any t r w ht hk hr hR).mono ?_
  rintro e w' ⟨⟨h1, a, c, rows, rfl, h2, h3, h4⟩ | ⟨h1, rfl⟩, hx⟩
  · exact ⟨a, c, rows, 0, rfl, ⟨h2, h3⟩, .inl ⟨rfl, h4, h1⟩, hx⟩
  · exact ⟨none, 0, [], 11, rfl, ⟨⟨Nat.le_refl _, by simp, .inl rfl⟩, fun r hr => by simp at hr⟩, .inr rfl, hx⟩

theorem num_at {w : World} {a : Option Addr} {c : Nat} {l : List Nat} (h : IsSl 1 num w ⟨a, c, l⟩) (hl : 0 < l.length) : ∃ b off, a = some ⟨b, off, none⟩ ∧ l.length ≤ c ∧ ∀ i, i < l.length → w.cell? ⟨b, off + i, none⟩ = some (.int .i64 (gt l i : Int)) := by
  obtain ⟨h1, h2, h3⟩ := h
  obtain ⟨b, off, h4, h5⟩ := h3.resolve_left (by dsimp only; omega)
  refine ⟨b, off, h4, h1, fun i hi => ?_⟩
  have := h5 i hi 0 (by omega)
  unfold gt
  rw [List.getElem?_eq_getElem hi]
  simpa [num] using this
theorem rows_at {w : World} {a : Option Addr} {c : Nat} {l : List (SL Nat)} (h : IsTbl w ⟨a, c, l⟩) (hl : 0 < l.length) : ∃ b off, a = some ⟨b, off, none⟩ ∧ ∀ i (hi : i < l.length), w.cell? ⟨b, off + i, none⟩ = some (.slice l[i].a l[i].l.length l[i].c) := by
  obtain ⟨⟨h1, h2, h3⟩, -⟩ := h
  obtain ⟨b, off, h4, h5⟩ := h3.resolve_left (by dsimp only; omega)
  refine ⟨b, off, h4, fun i hi => ?_⟩
  have := h5 i hi 0 (by omega)
  simpa [slC] using this

/-- What is known of the lines of a treaty and of its parts, row by row. -/
structure PartR (k N : Nat) (lx la lb : List (SL Nat)) : Prop where
  a : ∀ r ∈ la, r.l.length = k + 1
  b : ∀ r ∈ lb, r.l.length = N - k + 1
  x : ∀ r ∈ lx, r.l.length = N + 1 ∧ r.l.take (k + 1) ∈ la.map (fun r => r.l) ∧ r.l.drop k ∈ lb.map (fun r => r.l)
  m : metS k (la.map fun r => r.l) (lb.map fun r => r.l) = lx.length
theorem part_rows {t a b : TV} {L La Lb : Nat → Nat → Nat → Bool} {k : Nat} (h : PartT t a b L La Lb k) (hst : ∀ x ∈ t.starts.l, x < t.P) (hn : t.starts.l.Pairwise (· < ·)) {lx la lb : List (SL Nat)} (ex : lx.map (fun r => r.l) = linesR t L) (ea : la.map (fun r => r.l) = linesR a La) (eb : lb.map (fun r => r.l) = linesR b Lb) :
    PartR k t.legs.l.length lx la lb where
  a r hr := ((part_fst h hst r.l).1 (by rw [← ea]; exact List.mem_map_of_mem hr)).1
  b r hr := ((part_snd h r.l).1 (by rw [← eb]; exact List.mem_map_of_mem hr)).1
  x r hr := by
    have := part_halves h hst (l := r.l) (by rw [← ex]; exact List.mem_map_of_mem hr)
    rw [ea, eb]; exact this
  m := by
    rw [ea, eb, part_many h hst (hn.imp fun h => Nat.ne_of_lt h), ← ex, List.length_map]

theorem among_in (b : Nat) (x : SL Nat) (s : SL (SL Nat)) (w : World) (hb : w.heap[b]? = some (.cells #[.slice x.a x.l.length x.c] 24 (0, 0))) (hx : IsSl 1 num w x) (hs : IsTbl w s) (hin : x.l ∈ s.l.map (fun r => r.l)) :
    Calls Tryz.prog 48 #[.slice (some ⟨b, 0, none⟩) 1 1, .slice s.a s.l.length s.c] w fun e w' => e = .returned (.bool true) ∧ Ext w w' := by
  refine (among_any ⟨some ⟨b, 0, none⟩, 1, [x]⟩ s w ⟨Nat.le_refl _, by simp, .inr ⟨b, 0, rfl, fun i hi j hj => ?_⟩⟩ hs.1 (fun r hr => ?_) hs.2).mono ?_
  · have hi0 : i = 0 := by simpa using hi
    have hj0 : j = 0 := by omega
    subst hi0; subst hj0
    exact (cell_at hb 0).trans rfl
  · simp only [List.mem_singleton] at hr; subst hr; exact hx
  · rintro e w' ⟨rfl, hx⟩
    refine ⟨?_, hx⟩
    obtain ⟨r, hr, hrl⟩ := List.mem_map.1 hin
    have : ([x].all fun x => s.l.any fun y => decide (x.l = y.l)) = true := by
      simp only [List.all_cons, List.all_nil, Bool.and_true]
      exact List.any_eq_true.2 ⟨r, hr, by simpa using hrl.symm⟩
    rw [this]

theorem metS_succ (k : Nat) (A B : List (List Nat)) (i : Nat) (h : i < A.length) : metS k (A.take (i + 1)) B = metS k (A.take i) B + metN k A[i] B := by
  unfold metS
  rw [List.take_succ_eq_append_getElem h, List.map_append, List.sum_append]
  simp
theorem metN_succ (k : Nat) (m : List Nat) (B : List (List Nat)) (j : Nat) (h : j < B.length) : metN k m (B.take (j + 1)) = metN k m (B.take j) + if metB k m B[j] then 1 else 0 := by
  unfold metN
  rw [List.take_succ_eq_append_getElem h, List.filter_append, List.length_append]
  by_cases e : metB k m B[j] = true <;> simp [e]
theorem metN_le (k : Nat) (m : List Nat) (B : List (List Nat)) : metN k m B ≤ B.length := List.length_filter_le _ _
theorem metS_le (k : Nat) (B : List (List Nat)) : ∀ (A : List (List Nat)), metS k A B ≤ A.length * B.length
  | [] => by simp [metS]
  | m :: A => by
    have h1 := metS_le k B A
    have h2 := metN_le k m B
    have h3 : metS k (m :: A) B = metN k m B + metS k A B := by simp [metS]
    rw [h3, List.length_cons, Nat.add_mul]; omega
theorem yl_few (t : TV) (hk : OkT t) (r : List Nat) : (yieldL (leadsOf t r) t.P t.starts.l t.legs.l.length).length = fewR t r :=
  yieldL_length (leadsOf t r) t.P t.starts.l t.legs.l.length ⟨t.starts.l[0]'(by have := hk.starts1; omega), List.getElem_mem _, hk.start.1 _ (List.getElem_mem _)⟩ hk.legs
end Go.Proofs.YtdejaliegbmgaaaGreat
