/-
  slices.Collect at whole numbers: what an iterator gives comes, in its order, in new memory. The iterator must give its numbers while all that was there is kept.
-/
import Derived.Test.YtlaolokakaheaaaALW
import Derived.Maps.AppendAt
import Derived.RangeFuncBox
namespace Go.Proofs.Ytlaolokakaheaaa
open Go.RowKit
attribute [local go_sem] Oper.semAt_some

theorem own_block {w : World} {base : Nat} {e : TypeId} {size : Nat} {v : Value} {n : Nat} {xs : List Value} (h : w.ownsRow base e size v n xs) (g : Nat) (hg : v.ownBlock = some g) : ∃ cur : Array Value, w.heap[g]? = some (.cells cur e (0, 0)) := by
  obtain ⟨h1, h2⟩ := h
  rcases h2 with ⟨rfl, _⟩ | ⟨g', cap, cur, rfl, hb, hh, r⟩
  · simp [Value.ownBlock] at hg
  · obtain rfl : g' = g := by simpa [Value.ownBlock] using hg
    exact ⟨cur, hh⟩
/-- Who gives while all is kept gives later, too. -/
theorem Gives.later {α : Type} {enc : α → Value} {P : Program} {g : Nat} {lb : Array Value} {all : List α} {w0 w1 : World} (h : Gives enc P g lb (fun _ => True) all w0) (hx : Ext w0 w1) : Gives enc P g lb (fun k => k < w0.heap.size) all w1 := by
  intro l J Jx W hW hJ hJx hY h0
  refine h l J Jx W (hx.trans hW) hJ hJx (fun hi pre s W1 h1 h2 h3 h4 => (hY hi pre s W1 h1 h2 h3 h4).mono ?_) h0
  rintro e W' (⟨rfl, a, b⟩ | hb)
  · refine .inl ⟨rfl, a, b.mono (fun k _ h => ?_)⟩
    have := hx.size
    rcases h with h | h
    · exact .inl ⟨by omega, h.1⟩
    · exact .inr h
  · exact .inr hb

/-- A box holds a list of numbers, in memory from block hi on. -/
def Lbox (W : World) (b hi : Nat) (ls : List Nat) : Prop := ∃ (a : Option Addr) (c : Nat), W.heap[b]? = some (.cells #[.slice a ls.length c] 24 (0, 0)) ∧ W.ownsRow hi 3 1 (.slice a ls.length c) ls.length (nums ls)
theorem Lbox.keep {D : Nat → Prop} {A B : World} {b hi : Nat} {ls : List Nat} (h : Lbox A b hi ls) (k : Keep D A B) (hb : D b) (hd : ∀ i, hi ≤ i → D i) : Lbox B b hi ls := by
  obtain ⟨a, c, h1, h2⟩ := h
  exact ⟨a, c, k.heap h1 hb, own_keep h2 k hd⟩
theorem Lbox.nil {W : World} {b hi : Nat} (h : W.heap[b]? = some (.cells #[.slice none 0 0] 24 (0, 0))) : Lbox W b hi [] := ⟨none, 0, h, World.ownsRow_nil _ _ _ _⟩
theorem nums_snoc (ls : List Nat) (s : Nat) : nums (ls ++ [s]) = nums ls ++ [.int .i64 (s : Int)] := by simp [nums]
theorem Lbox.append {W w1 : World} {b hi : Nat} {a : Option Addr} {c s : Nat} {ls : List Nat} {v' : Value} {tmp : Obj}
    (h1 : W.heap[b]? = some (.cells #[.slice a ls.length c] 24 (0, 0))) (h2 : W.ownsRow hi 3 1 (.slice a ls.length c) ls.length (nums ls))
    (hown : w1.ownsRow hi 3 1 v' (ls.length + 1) (nums ls ++ [.int .i64 (s : Int)])) (hg : (W.alloc tmp).grownBy w1 (Value.slice a ls.length c).ownBlock) :
    w1.heap[b]? = some (.cells #[.slice a ls.length c] 24 (0, 0)) ∧ Lbox (w1.setCell ⟨b, 0, none⟩ v') b hi (ls ++ [s]) ∧ Keep (fun k => k < hi ∧ k ≠ b) W (w1.setCell ⟨b, 0, none⟩ v') := by
  obtain ⟨a', c', rfl⟩ := own_form hown
  have hx := (Ext.refl W).alloc tmp
  have hb1 : w1.heap[b]? = some (.cells #[.slice a ls.length c] 24 (0, 0)) := by
    have h1' := hx.block h1
    refine (hg.block b (Array.getElem?_eq_some_iff.1 h1').1 ?_).trans h1'
    intro e
    obtain ⟨cur, hc⟩ := own_block h2 b e.symm
    rw [h1] at hc; simp at hc
  refine ⟨hb1, ⟨a', c', ?_, ?_⟩, ?_⟩
  · rw [List.length_append]; exact heap_setCell_same hb1 _
  · rw [List.length_append, nums_snoc]
    refine own_grown hown (row := some b) (grownBy_setCell' w1 b _) ?_
    intro k hk e
    cases e
    obtain ⟨cur, hc⟩ := own_block hown b hk
    rw [hb1] at hc; simp at hc
  · refine ((Keep.of_ext hx).grown hg (fun k e _ => ?_)).setCell _ _ (fun _ h => h.2 rfl)
    intro hk
    have := own_lt h2 k e.symm.symm
    omega

set_option maxRecDepth 100000 in
set_option maxHeartbeats 2000000 in
theorem appendSeq_any (gf : Nat) (lb : Array Value) (all : List Nat) (w : World) (eg : Enters Try.prog gf) (hG : Gives intV Try.prog gf lb (fun _ => True) all w) (hl : all.length ≤ 1000) :
    Calls Try.prog 72 #[.slice none 0 0, .func (.func gf) #[] lb] w fun e w' => ∃ (a : Option Addr) (c : Nat), e = .returned (.slice a all.length c) ∧ w'.ownsRow w.heap.size 3 1 (.slice a all.length c) all.length (nums all) ∧ Ext w w' := by
  have HG := Lib.hid hG; clear hG
  refine callsIn_wide.1 (callsIn_of_wp_marks (n := 3) Try.func72 rfl trivial ?_ rfl)
  simp only [Try.ntmps72, List.size_toArray, List.length_cons, List.length_nil, Nat.reduceAdd, Nat.reduceSub, Array.replicate_succ, Array.replicate_zero, List.push_toArray, List.append_toArray, List.nil_append, List.cons_append]
  refine wpIn_wide.2 ?_
  go_wp2_with fail
  have HX2 : Hid (Ext w (w.alloc (.cells #[.slice none 0 0] 24))) := (Ext.refl w).alloc _
  have HB2 : Hid ((w.alloc (.cells #[.slice none 0 0] 24)).heap[w.heap.size]? = some (.cells #[.slice none 0 0] 24 (0, 0))) := World.alloc_heap_new w _
  have HS : Hid ((w.alloc (.cells #[.slice none 0 0] 24)).heap.size = w.heap.size + 1) := World.size_alloc _ _
  generalize w.alloc (.cells #[.slice none 0 0] 24) = w2 at *
  refine (wpIn_wide (n := 3)).1 ?_
  refine wp_rangeFuncT (a₁ := ?a1) rfl eg (HG.out.later HX2.out) rfl
    (fun hi pre V => Lbox V w.heap.size hi pre ∧ Keep (fun k => k < w.heap.size) w2 V) (fun _ _ _ _ => False)
    ?_ (fun _ _ _ _ _ _ h _ => h) ?_ ?assign ?body ?done ?stop
  case assign =>
    intro l s W K hK
    gi_wp2
    exact hK
  · intro hi s A B hh h hk
    have := HS.out
    exact ⟨h.1.keep hk (.inl (by omega)) (fun i hi => .inr hi), h.2.trans (hk.mono (fun k _ h => .inl (by omega)))⟩
  · intro hi hh
    exact ⟨Lbox.nil HB2.out, Keep.refl _ _⟩
  case body =>
    rintro l hi pre q V hh hhV ⟨hC, hKp⟩ hpre
    have hS := HS.out
    have hpl : pre.length < 1000 := by have := hpre.length_le; simp only [List.length_append, List.length_cons, List.length_nil] at this; omega
    obtain ⟨a, c, h1, h2⟩ := hC
    have H1 := Lib.hid h1; clear h1
    have H2 := Lib.hid h2; clear h2
    have HKp := Lib.hid hKp; clear hKp hpre
    have hcb : V.cell? ⟨w.heap.size, 0, none⟩ = some (.slice a pre.length c) := (cell_at H1.out 0).trans rfl
    have HO2 := Lib.hid (own_ext H2.out ((Ext.refl V).alloc (.cells #[.int .i64 (q : Int)] 3)))
    obtain ⟨i0, hi0, hz0, hz1, hz2⟩ := info_parts info3
    have hm1 : pre.length + 1 ≤ maxLen := by unfold maxLen; omega
    gi_wp2_with (gi_at_builtin; refine wpListIn_append_own _ rfl _ _ 24 rfl hi 3 i0 (.int .i64 0) 1 8 Try.underlying24 hi0 hz0 hz1 hz2 rfl (by decide) _ pre.length (nums pre) rfl HO2.out ⟨V.heap.size, 0, none⟩ 1 1 [.int .i64 (q : Int)] rfl rfl (cell_one_new _ _ _) (by simp [Value.oneCell']) hm1 (by omega) (by simp; omega) ?_; intro v' w5 hown5 hgrow5 _; obtain ⟨q1, q2, q3⟩ := Lbox.append H1.out H2.out hown5 hgrow5; obtain ⟨g', cap', rfl⟩ := ownsRow_succ hown5; have hcb5 : w5.cell? ⟨w.heap.size, 0, none⟩ = some (.slice a pre.length c) := (cell_at q1 0).trans rfl; have hfb5 : w5.frozen? ⟨w.heap.size, 0, none⟩ = false := (by simp [World.frozen?, q1]); have Q2 := Lib.hid q2; have Q3 := Lib.hid q3; clear q1 q2 q3 hown5 hgrow5)
    refine ⟨Q3.out.mono (fun k hk h => ?_), Q2.out, HKp.out.trans (Q3.out.mono (fun k _ h => ⟨by omega, by omega⟩))⟩
    rcases h with h | h
    · exact ⟨by omega, by omega⟩
    · exact ⟨h.2, by omega⟩
  case stop =>
    rintro hi c pre W hh hp h
    exact h.elim
  case done =>
    rintro hi V hh ⟨hC, hKp⟩ hD
    have hS := HS.out
    obtain ⟨a, c, h1, h2⟩ := hC
    have hcb : V.cell? ⟨w.heap.size, 0, none⟩ = some (.slice a all.length c) := (cell_at h1 0).trans rfl
    have HXV : Hid (Ext w V) := ext_keep HX2.out hKp (fun i hi => hi)
    have H2 := Lib.hid h2; clear h2
    have HCV : Hid (Coll w.heap.size V.heap.size [{ target := .collected w2.heap.size, args := #[] }] V) := Coll.cons trivial (by omega) (Array.getElem?_eq_some_iff.1 hD).1 hD
    clear hKp h1 hD
    simp only [Exit.inBlock, Exit.then]
    go_wp2_with fail
    simp only [bodyPostM]
    refine leaves_coll (hi := V.heap.size) (lo := w.heap.size) HCV.out fun w' hs => ?_
    exact ⟨_, results_tmp rfl _ _ _, a, c, rfl, Shut.own (own_mono H2.out (by omega)) hs, hs.ext HXV.out (Nat.le_refl _)⟩

/-- slices.Collect. -/
theorem collect_any (gf : Nat) (lb : Array Value) (all : List Nat) (w : World) (eg : Enters Try.prog gf) (hG : Gives intV Try.prog gf lb (fun _ => True) all w) (hl : all.length ≤ 1000) :
    Calls Try.prog 66 #[.func (.func gf) #[] lb] w fun e w' => ∃ (a : Option Addr) (c : Nat), e = .returned (.slice a all.length c) ∧ w'.ownsRow w.heap.size 3 1 (.slice a all.length c) all.length (nums all) ∧ Ext w w' := by
  have HA := Lib.hid (appendSeq_any gf lb all w eg hG hl)
  clear hG
  go_enter Try.func66, Try.ntmps66
  go_wp2_with (go_at_call 72; refine HA.out.mono ?_; rintro e w1 ⟨a, c, rfl, h1, h2⟩)
  go_ret
  exact ⟨a, c, rfl, h1, h2⟩
end Go.Proofs.Ytlaolokakaheaaa
