/-
  gone deals a line of a treaty: a place more than there are legs, the first one a start, in new memory; but for the deck it turns nothing that was there.
-/
import Derived.Test.YtdejaliegbmgaaaGreatJoa
import Derived.Test.YtdejaliegbmgaaaGreatJe
import Derived.Deep.RegionHeld3
import Derived.Deep.CutBlock
namespace Go.Proofs.YtdejaliegbmgaaaGreat
open Go.RowKit

/-- A line was dealt. -/
def GoneOf (D : Nat) (a : Option Addr) (n c k : Nat) (t : TV) (w : World) (e : Ending) (w' : World) : Prop :=
  ∃ (a' : Option Addr) (c' : Nat) (l : List Nat) (k' : Nat), e = .returned (.slice a' l.length c') ∧ w'.ownsRow w.heap.size 3 1 (.slice a' l.length c') l.length (nums l) ∧ l.length = t.legs.l.length + 1 ∧ (∀ x ∈ l, x < t.P) ∧ (l[0]?).getD 0 ∈ t.starts.l ∧ IsDeck w' D a n c k' ∧ k' ≤ k + 11 ∧ DExt D w w'

theorem row_new (w : World) (x : Nat) : Row (w.alloc (.cells #[.int .i64 (x : Int)] 3)) w.heap.size [x] 1 :=
  ⟨_, World.alloc_heap_new w _, rfl, by simp, fun i hi => by simp at hi; subst hi; rfl⟩

theorem own_base {w : World} {base base' : Nat} {e : TypeId} {size : Nat} {v : Value} {n : Nat} {xs : List Value} (h : w.ownsRow base e size v n xs) (hb : base' ≤ base) : w.ownsRow base' e size v n xs := by
  obtain ⟨h1, h2⟩ := h
  rcases h2 with h2 | ⟨g, cap, cur, h2, h3, h4⟩
  · exact ⟨h1, .inl h2⟩
  · exact ⟨h1, .inr ⟨g, cap, cur, h2, Nat.le_trans hb h3, h4⟩⟩

set_option maxRecDepth 100000 in
set_option maxHeartbeats 1000000 in
theorem gone_any (D : Nat) (a : Option Addr) (n c k : Nat) (t : TV) (w : World) (hd : IsDeck w D a n c k) (hb : ∀ b off, a = some ⟨b, off, none⟩ → 0 < n → b < w.heap.size) (hk : k + 11 ≤ 1000000) (ht : IsTo D w t) (hok : OkT t) :
    Calls Tryz.prog 39 #[.pointer (some ⟨D, 0, none⟩), t.v] w (GoneOf D a n c k t w) := by
  obtain ⟨i0, hi, hz0, hz1, hz2⟩ := info_parts info3
  have hDl := hd.lt
  have HD : Hid (IsDeck (w.alloc (.cells #[.int .i64 (t.P : Int), .slice t.ways.a t.ways.l.length t.ways.c, .slice t.words.a t.words.l.length t.words.c, .slice t.starts.a t.starts.l.length t.starts.c, .slice t.legs.a t.legs.l.length t.legs.c] 27)) D a n c k) := hd.ext ((Ext.refl w).alloc _)
  clear hd
  have HB := Lib.hid hb; clear hb
  have HT := Lib.hid ht; clear ht
  have HK := Lib.hid hok; clear hok
  have hp1 := HK.out.p1
  have hp2 := HK.out.p2
  have hst1 := HK.out.starts1
  have hst2 := HK.out.starts2
  have hl10 := HK.out.legs
  have HX0 : Hid (DExt D w (w.alloc (.cells #[.int .i64 (t.P : Int), .slice t.ways.a t.ways.l.length t.ways.c, .slice t.words.a t.words.l.length t.words.c, .slice t.starts.a t.starts.l.length t.starts.c, .slice t.legs.a t.legs.l.length t.legs.c] 27))) := (DExt.refl D w).ext ((Ext.refl w).alloc _)
  have HBx : Hid (TBox (w.alloc (.cells #[.int .i64 (t.P : Int), .slice t.ways.a t.ways.l.length t.ways.c, .slice t.words.a t.words.l.length t.words.c, .slice t.starts.a t.starts.l.length t.starts.c, .slice t.legs.a t.legs.l.length t.legs.c] 27)) w.heap.size t) := World.alloc_heap_new w _
  go_enter Tryz.func39, Tryz.ntmps39
  go_upto_region 1 with (fail)
  obtain ⟨WB, hWB⟩ : ∃ W, w.alloc (.cells #[.int .i64 (t.P : Int), .slice t.ways.a t.ways.l.length t.ways.c, .slice t.words.a t.words.l.length t.words.c, .slice t.starts.a t.starts.l.length t.starts.c, .slice t.legs.a t.legs.l.length t.legs.c] 27) = W := ⟨_, rfl⟩
  rw [hWB] at HX0 HBx HD ⊢
  clear hWB
  have hWs : w.heap.size < WB.heap.size := (Array.getElem?_eq_some_iff.1 HBx.out).1
  have KB : Hid (∀ V', DExt D WB V' → TBox V' w.heap.size t) := fun V' h => (h.block w.heap.size hWs (fun e => by cases e; omega)).trans HBx.out
  obtain ⟨b, off, hsa, -⟩ := (HT.out w (DExt.refl D w)).starts.2.2.resolve_left (by omega)
  obtain ⟨sf, hsf⟩ : ∃ sf : Nat → Nat, ∀ i (h : i < t.starts.l.length), t.starts.l[i] = sf i := ⟨fun i => (t.starts.l[i]?).getD 0, fun i h => by simp [h]⟩
  have HSF := Lib.hid hsf; clear hsf
  have KS : Hid (∀ V', DExt D WB V' → V'.cell? ⟨w.heap.size, 3, none⟩ = some (.slice (some ⟨b, off, none⟩) t.starts.l.length t.starts.c) ∧ ∀ i, i < t.starts.l.length → V'.cell? ⟨b, off + i, none⟩ = some (.int .i64 (sf i : Int))) := by
    intro V' h
    obtain ⟨-, -, -, cS, -⟩ := (KB.out V' h).five
    rw [hsa] at cS
    refine ⟨cS, fun i hi => ?_⟩
    obtain ⟨b2, off2, hsa2, hsc⟩ := (HT.out V' (HX0.out.trans h)).starts.2.2.resolve_left (by omega)
    rw [hsa] at hsa2
    cases hsa2
    have := hsc i hi 0 (by omega)
    rw [← HSF.out i hi]; simpa [num] using this
  have HSA := Lib.hid hsa; clear hsa
  have HXd : Hid (DExt D WB WB.drew) := (DExt.refl D WB).drew'
  go_region_held3 (fun V' => V'.cell? ⟨w.heap.size, 3, none⟩ = some (.slice (some ⟨b, off, none⟩) t.starts.l.length t.starts.c) ∧ ∀ i, i < t.starts.l.length → V'.cell? ⟨b, off + i, none⟩ = some (.int .i64 (sf i : Int)))
    (first | exact KS.out _ HXd.out | exact KS.out _ (DExt.refl _ _) | exact KS.out _ HX1.out | exact KS.out _ (HX1.out.ext ((Ext.refl _).alloc _)))
    (first
      | (go_at_call 43; refine (draw_any D a n c k t.starts.l.length _ (HD.out.ext (Ext.refl WB).drew) (by omega) (by omega)).mono ?_; rintro e v1 ⟨y, k1, hy, hk1, rfl, hd1, hg1⟩; have hyS : y < t.starts.l.length := (by omega); have HX1 : Hid (DExt D WB v1) := HXd.out.trans hg1; have HD1 := Lib.hid hd1; have hsm : sf y ∈ t.starts.l := HSF.out y hyS ▸ List.getElem_mem hyS; have hsP : sf y < t.P := HK.out.start.1 (sf y) hsm; have HSM := Lib.hid hsm; have y0 : (0 : Int) ≤ (y : Int) := (by omega); have y1 : (y : Int) < (t.starts.l.length : Int) := (by omega); clear hy hd1 hg1 hsm))
  have HO1 : Hid ((v1.alloc (.cells #[.int .i64 (sf y : Int)] 3)).ownsRow WB.heap.size 3 1 (.slice (some ⟨v1.heap.size, 0, none⟩) [sf y].length 1) [sf y].length (nums [sf y])) := (row_new v1 (sf y)).own HX1.out.size (by unfold maxLen; omega)
  have HX2 : Hid (DExt D WB (v1.alloc (.cells #[.int .i64 (sf y : Int)] 3))) := HX1.out.ext ((Ext.refl _).alloc _)
  have HD2 : Hid (IsDeck (v1.alloc (.cells #[.int .i64 (sf y : Int)] 3)) D a n c k1) := HD1.out.ext ((Ext.refl _).alloc _)
  have HF : Hid (([sf y][0]?).getD 0 ∈ t.starts.l) := HSM.out
  have HP : Hid (∀ x ∈ [sf y], x < t.P) := by intro x hx; simp at hx; rw [hx]; exact hsP
  have HL1 : Hid ([sf y].length = 0 + 1) := rfl
  generalize v1.alloc (.cells #[.int .i64 (sf y : Int)] 3) = w2 at *
  generalize v1.heap.size = g1 at *
  have e1 : ([sf y]).length = 1 := rfl
  generalize hls : [sf y] = l1 at *
  clear hls
  have hcap : Hid (w2.ownsRow WB.heap.size 3 1 (.slice (some ⟨g1, 0, none⟩) l1.length l1.length) l1.length (nums l1)) := by have := HO1.out; rw [e1] at this ⊢; exact this
  clear HO1
  rw [show (1 : Nat) = l1.length from e1.symm]
  clear e1
  obtain ⟨-, -, -, -, c4⟩ := (KB.out w2 HX2.out).five
  go_wp2_with fail
  clear c4
  go_loopw [5, 19] (fun v i wr => ∃ (j : Nat) (a' : Option Addr) (c' : Nat) (l : List Nat) (k' : Nat), j ≤ t.legs.l.length ∧ i = .int .i64 j ∧ v = .slice a' l.length c' ∧ Hid (wr.ownsRow WB.heap.size 3 1 (.slice a' l.length c') l.length (nums l)) ∧ Hid (l.length = j + 1) ∧ Hid (∀ x ∈ l, x < t.P) ∧ Hid ((l[0]?).getD 0 ∈ t.starts.l) ∧ Hid (IsDeck wr D a n c k') ∧ k' ≤ k + 1 + j ∧ Hid (DExt D WB wr)) (fun _ i _ => t.legs.l.length - (intOf i).toNat)
  case atStart => exact ⟨0, _, _, l1, k1, Nat.zero_le _, rfl, rfl, hcap, HL1, HP, HF, HD2, by omega, HX2⟩
  case round =>
    obtain ⟨wo, rfl⟩ : ∃ wo : World, wo = wr := ⟨_, rfl⟩
    obtain ⟨j, a', c', l, k', hj, rfl, rfl, HO, HLL, HL, HF1, HDk, hk', HX⟩ := hrel
    by_cases hlt : j < t.legs.l.length
    · have dj : decide ((j : Int) < (t.legs.l.length : Int)) = true := by simpa using hlt
      obtain ⟨c0, -, -, -, -⟩ := (KB.out wo HX.out).five
      go_wp2_with fail
      refine (draw_any D a n c k' t.P wo HDk.out (by omega) (by omega)).mono ?_
      rintro e w1 ⟨r, k2, hr, hk2, rfl, hd1, hg1⟩
      have hrP : r < t.P := by omega
      clear hr
      have HD3 := Lib.hid hd1; clear hd1
      have HX3 : Hid (DExt D WB w1) := HX.out.trans hg1
      have HO3 : Hid (w1.ownsRow WB.heap.size 3 1 (.slice a' l.length c') l.length (nums l)) := HO.out.kept hg1 (by
        cases hv : (Value.slice a' l.length c').ownBlock with
        | none => exact .inl rfl
        | some q => exact .inr (fun e => by cases e; have := own_lt HO.out _ hv; omega))
      clear hg1 c0
      have hnw := new_cells w1 (nums [r]) 3
      have HN := Lib.hid hnw; clear hnw
      have hb6 : WB.heap.size ≤ w1.heap.size + 1 := by have := HX3.out.size; omega
      have hl6 : l.length ≤ 10 := by have := HLL.out; omega
      have hm6 : l.length + 1 ≤ maxLen := by have := HLL.out; unfold maxLen; omega
      go_wp2_with (at_builtin; go_must (refine wpList_append_own _ rfl _ _ 24 rfl WB.heap.size 3 i0 (.int .i64 0) 1 8 Tryz.underlying24 hi hz0 hz1 hz2 rfl (by decide) _ l.length (nums l) rfl (HO3.out.alloc _) ⟨w1.heap.size, 0, none⟩ 1 1 (nums [r]) rfl rfl HN.out (nums_one [r]) hm6 (by omega) (by have := HLL.out; simp; omega) ?_); intro v' w3 hown hgrow _)
      obtain ⟨a3, c3, rfl⟩ := own_form hown
      have hx3 : DExt D WB w3 := (HX3.out.ext ((Ext.refl w1).alloc _)).grown hgrow (fun i hi => own_lt HO3.out i hi)
      have hd3 : IsDeck w3 D a n c k2 := (HD3.out.ext ((Ext.refl w1).alloc _)).grown hgrow (base := WB.heap.size) (fun i hi => own_lt HO3.out i hi) (by omega) (fun b off h1 h2 => Nat.lt_trans (HB.out b off h1 h2) hWs)
      have HX4 := Lib.hid hx3; clear hx3 hgrow
      have HD4 := Lib.hid hd3; clear hd3
      rw [← nums_append, show l.length + 1 = (l ++ [r]).length by simp] at hown
      have HO4 := Lib.hid hown; clear hown
      have hlen3 : (l ++ [r]).length = l.length + 1 := by simp
      have hlj : (l ++ [r]).length = j + 1 + 1 := by have := HLL.out; omega
      have HPn : Hid (∀ x ∈ l ++ [r], x < t.P) := by
        intro x hx
        rcases List.mem_append.1 hx with hx | hx
        · exact HL.out x hx
        · simp at hx; rw [hx]; exact hrP
      have HFn : Hid (((l ++ [r])[0]?).getD 0 ∈ t.starts.l) := by
        show _ ∈ _
        rw [List.getElem?_append_left (by have := HLL.out; omega)]; exact HF1.out
      generalize l ++ [r] = l3 at *
      rw [← hlen3]
      have HLe := Lib.hid hlen3; clear hlen3
      have HLj := Lib.hid hlj; clear hlj
      go_wp2
      go_roundw
      case rel => exact ⟨j + 1, a3, c3, l3, k2, by omega, by go_num, rfl, HO4, HLj, HPn, HFn, HD4, by omega, HX4⟩
      case measure => simp [intOf]; omega
    · have hje : j = t.legs.l.length := by omega
      have dj : decide ((j : Int) < (t.legs.l.length : Int)) = false := decide_eq_false (by omega)
      have HJe := Lib.hid hje; clear hje
      go_wp2
      go_ret
      exact ⟨a', c', l, k', rfl, own_base HO.out (Nat.le_of_lt hWs), HLL.out.trans (by rw [HJe.out]), HL.out, HF1.out, HDk.out, by omega, HX0.out.trans HX.out⟩
end Go.Proofs.YtdejaliegbmgaaaGreat
