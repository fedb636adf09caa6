/-
  now of package barter: the exchange as things are. The land must lie in memory as told.
-/
import Derived.Test.YtlaolokakaheaaaLN
import Derived.Test.YtlaolokakaheaaaMX
import Derived.Laws.MakeOwn
namespace Go.Proofs.Ytlaolokakaheaaa
open Go.RowKit

theorem make_nums (n : Nat) (hn : n ≤ 1000000) : ∀ w, (Instr.makeSlice 24 (.int .i64 (n : Int)) (.int .i64 (n : Int))).run Try.prog w = .ok (.slice (some ⟨w.heap.size, 0, none⟩) n n) (w.alloc (.cells (List.replicate n (Value.int .i64 0)).toArray 3)) := by
  intro w
  obtain ⟨i0, hi, hz0, hz1, hz2⟩ := info_parts info3
  have := run_make (P := Try.prog) (w := w) 24 3 i0 (.int .i64 0) Try.underlying24 hi hz0 .i64 .i64 (n : Int) (n : Int) (by omega) (by omega) (by rw [hz2]; omega) (by omega)
  rw [hz1, show (Value.int IntKind.i64 0).cells = #[.int .i64 0] from rfl] at this
  simp only [Int.toNat_natCast, Nat.mul_one] at this
  rw [this]
  have e : madeCells #[Value.int .i64 0] n = (List.replicate n (Value.int .i64 0)).toArray := by
    refine Array.ext_getElem? fun i => ?_
    by_cases hi : i < n
    · simp [madeCells, hi, Nat.mod_one]
    · rw [Array.getElem?_eq_none (by rw [size_madeCells]; omega), Array.getElem?_eq_none (by simp; omega)]
  rw [e]

/-- What now gives at each stretch. -/
def nowL (L : List St) : List Nat := L.map nowF
theorem nowL_pt (L : List St) (i : Nat) (h : i < L.length) : pt (nowL L) i = nowF (at' L i) := by
  unfold pt nowL at'
  rw [List.getElem?_map, List.getElem?_eq_getElem h]; rfl
/-- The same, of the first k; 0 behind them. -/
def nowK (L : List St) (k : Nat) : List Nat := (L.take k).map nowF ++ List.replicate (L.length - k) 0
theorem nowK_len (L : List St) (k : Nat) (h : k ≤ L.length) : (nowK L k).length = L.length := by simp [nowK]; omega
theorem nowK_zero (L : List St) : nowK L 0 = List.replicate L.length 0 := by simp [nowK]
theorem nowK_all (L : List St) : nowK L L.length = nowL L := by simp [nowK, nowL]
theorem nowK_succ (L : List St) (k : Nat) (h : k < L.length) : nowK L (k + 1) = (nowK L k).set k (nowF (at' L k)) := by
  refine List.ext_getElem? fun i => ?_
  have e : at' L k = L[k] := by unfold at'; rw [List.getElem?_eq_getElem h]; rfl
  rw [e]
  unfold nowK
  rw [List.getElem?_set]
  by_cases h1 : i < k
  · rw [if_neg (by omega), List.getElem?_append_left (by simp; omega), List.getElem?_append_left (by simp; omega)]
    simp [h1, show i < k + 1 by omega]
  · by_cases h2 : i = k
    · subst h2
      rw [if_pos rfl, if_pos (by simp; omega), List.getElem?_append_left (by simp; omega)]
      simp [h]
    · rw [if_neg (by omega), List.getElem?_append_right (by simp; omega), List.getElem?_append_right (by simp; omega)]
      simp only [List.length_map, List.length_take, List.getElem?_replicate]
      rw [show min (k + 1) L.length = k + 1 by omega, show min k L.length = k by omega]
      by_cases h3 : i < L.length
      · rw [if_pos (by omega), if_pos (by omega)]
      · rw [if_neg (by omega), if_neg (by omega)]

set_option maxHeartbeats 1000000 in
theorem now_any (x : Ld) (w : World) (h : StL w x.s) :
    Calls Try.prog 58 #[x.val] w fun e w' => ∃ g, e = .returned (.agg #[.int .i64 1, .slice (some ⟨g, 0, none⟩) x.s.l.length x.s.l.length]) ∧ Row w' g (nowL x.s.l) x.s.l.length ∧ w.heap.size ≤ g ∧ Ext w w' := by
  obtain ⟨h1, h2⟩ := h.le
  have HS := Lib.hid h; clear h
  obtain ⟨⟨a, c, l⟩, v⟩ := x
  dsimp only at h1 h2 HS ⊢
  have hmk := make_nums l.length h2
  go_enter Try.func58, Try.ntmps58
  go_wp2
  have HSz := Lib.hid (show (w.alloc (.cells #[.slice a l.length c, .slice v.a v.l.length v.c] 26)).heap.size = w.heap.size + 1 by simp only [World.size_alloc])
  clear hmk
  go_loopw [13] (fun s wr => ∃ k : Nat, k ≤ l.length ∧ s = .int .i64 (k : Int) ∧ Hid (Ext w wr) ∧ Hid (Row wr (w.heap.size + 1 + 1) (nowK l k) l.length) ∧ Hid (wr.heap[w.heap.size + 1]? = some (.cells #[.int .i64 0, .slice none 0 0] 31 (0, 0)))) (fun s _ => l.length - (intOf s).toNat)
  case atStart =>
    refine ⟨0, Nat.zero_le _, rfl, ((((Ext.refl w).alloc _).alloc _).alloc _), ?_, ?_⟩
    · rw [nowK_zero]
      exact ⟨_, alloc_new (by simp only [World.size_alloc]), by simp, by simp, fun i hi => by simp at hi ⊢; simp [hi]⟩
    · exact (alloc_old (by simp only [World.size_alloc]; omega)).trans (alloc_new (by simp only [World.size_alloc]))
  case round =>
    obtain ⟨wo, rfl⟩ : ∃ wo : World, wo = wr := ⟨_, rfl⟩
    obtain ⟨k, hk, rfl, HX, HR, HB⟩ := hrel
    by_cases hlt : k < l.length
    · have dk : decide ((k : Int) < (l.length : Int)) = true := decide_eq_true (by omega)
      obtain ⟨b, off, ha, c0, c1, c2, c3⟩ := (HS.out.ext HX.out).cells hlt
      dsimp only at ha c0 c1 c2 c3
      subst ha
      have k1 : (0 : Int) ≤ k := by omega
      have k2 : (k : Int) < (l.length : Int) := by omega
      have HA : Hid (Ext wo (wo.alloc (.cells #[.int .i64 ((at' l k).o : Int), .int .i64 ((at' l k).n : Int), .int .i64 ((at' l k).s : Int), .int .i64 (at' l k).w] 41))) := (Ext.refl wo).alloc _
      have HL := Lib.hid (nowK_len l k hk)
      have cR := (HR.out.ext HA.out).cell k (by rw [HL.out]; omega)
      have fR := (HR.out.ext HA.out).frozen k
      generalize (nowK l k)[k]'_ = old at cR
      by_cases ho : (at' l k).o = 0
      · have dz : ((((at' l k).o : Nat) : Int) == 0) = true := by rw [ho]; rfl
        have HN : Hid (nowK l (k + 1) = (nowK l k).set k 1) := by show _ = _; rw [nowK_succ l k hlt, nowF, if_pos ho]
        clear ho
        go_wp2
        go_roundw
        case rel => exact ⟨k + 1, by omega, by go_num, (HX.out.trans HA.out).setCell (by simp only []; omega) _, by show Row _ _ _ _; rw [HN.out]; exact (HR.out.ext HA.out).set k 1 (by rw [HL.out]; omega), heap_set_other _ _ _ _ (HA.out.block HB.out) (by omega)⟩
        case measure => simp [intOf]; omega
      · have dz : ((((at' l k).o : Nat) : Int) == 0) = false := by simp; omega
        have HN : Hid (nowK l (k + 1) = nowK l k) := by
          show _ = _
          rw [nowK_succ l k hlt, nowF, if_neg ho]
          refine List.ext_getElem? fun i => ?_
          rw [List.getElem?_set]
          split
          · rename_i e; subst e
            rw [if_pos (by rw [HL.out]; omega)]
            unfold nowK
            rw [List.getElem?_append_right (by simp; omega), List.getElem?_replicate, if_pos (by simp; omega)]
          · rfl
        clear ho
        go_wp2
        go_roundw
        case rel => exact ⟨k + 1, by omega, by go_num, HX.out.trans HA.out, by show Row _ _ _ _; rw [HN.out]; exact HR.out.ext HA.out, HA.out.block HB.out⟩
        case measure => simp [intOf]; omega
    · have dk : decide ((k : Int) < (l.length : Int)) = false := decide_eq_false (by omega)
      have hke : k = l.length := by omega
      subst hke
      have c0 := cell_at HB.out 0
      have c1 := cell_at HB.out 1
      have f0 : wo.frozen? ⟨w.heap.size + 1, 0, none⟩ = false := by simp [World.frozen?, HB.out]
      have f1 : wo.frozen? ⟨w.heap.size + 1, 1, none⟩ = false := by simp [World.frozen?, HB.out]
      dsimp at c0 c1
      go_wp2
      have hb := heap_setCell_same (i := 1) (heap_setCell_same (i := 0) HB.out (.int .i64 1)) (.slice (some ⟨w.heap.size + 1 + 1, 0, none⟩) l.length l.length)
      refine bodyPost_ret (results_cell_row rfl _ _ (w.heap.size + 1) 31 _ (0, 0) _ rfl hb Try.underlying31 rfl (by kernel_rfl)) rfl ?_
      refine ⟨w.heap.size + 1 + 1, rfl, ?_, by omega, (HX.out.setCell (by simp only []; omega) _).setCell (by simp only []; omega) _⟩
      rw [← nowK_all]
      obtain ⟨cur, r1, r2⟩ := HR.out
      exact ⟨cur, heap_set_other _ _ _ _ (heap_set_other _ _ _ _ r1 (by omega)) (by omega), r2⟩
end Go.Proofs.Ytlaolokakaheaaa
