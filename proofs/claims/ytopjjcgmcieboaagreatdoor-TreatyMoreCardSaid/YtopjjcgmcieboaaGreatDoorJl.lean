/-
  Words and legs of a treaty in the making.
-/
import Derived.Test.YtopjjcgmcieboaaGreatDoorJi
namespace Go.Proofs.YtopjjcgmcieboaaGreatDoor
open Go.RowKit

theorem pw_len {m : Nat} : ∀ (l : List Nat) (lo : Nat), lo ≤ m → l.Pairwise (· < ·) → (∀ x ∈ l, lo ≤ x ∧ x < m) → lo + l.length ≤ m
  | [], lo, h, _, _ => by simpa using h
  | x :: r, lo, _, hp, hm => by
    have h1 := hm x (by simp)
    rw [List.pairwise_cons] at hp
    have := pw_len r (x + 1) (by omega) hp.2 (fun y hy => ⟨hp.1 y hy, (hm y (by simp [hy])).2⟩)
    simp only [List.length_cons]; omega

/-- A list of one's own that is strictly increasing, its numbers less than m. -/
def ListO (base : Nat) (w : World) (m : Nat) (s : SL Nat) : Prop := w.ownsRow base 3 1 (.slice s.a s.l.length s.c) s.l.length (nums s.l) ∧ s.l.Pairwise (· < ·) ∧ ∀ x ∈ s.l, x < m
theorem ListO.len {base m : Nat} {w : World} {s : SL Nat} (h : ListO base w m s) : s.l.length ≤ m := by
  have := pw_len s.l 0 (Nat.zero_le _) h.2.1 (fun x hx => ⟨Nat.zero_le _, h.2.2 x hx⟩); omega
theorem ListO.is {base m : Nat} {w : World} {s : SL Nat} (h : ListO base w m s) (hm : m ≤ 1000000) : IsSl 1 num w s := own_sl h.1 (Nat.le_trans h.len hm)
theorem ListO.g2 {base m D B : Nat} {w w' : World} {s : SL Nat} (h : ListO base w m s) (k : G2 D B w w') (hD : D < base) (hB : B < base) : ListO base w' m s := ⟨G2.own h.1 k hD hB, h.2⟩
theorem ListO.base {base base' m : Nat} {w : World} {s : SL Nat} (h : ListO base w m s) (hb : base' ≤ base) : ListO base' w m s := ⟨own_mono h.1 hb, h.2⟩
theorem ListO.grown {base m : Nat} {w w' : World} {s : SL Nat} {base' sz n : Nat} {T : TypeId} {v : Value} {xs : List Value} (h : ListO base w m s) (g : w.grownBy w' v.ownBlock) (hv : w.ownsRow base' T sz v n xs) (hT : 3 ≠ T) : ListO base w' m s :=
  ⟨own_grown h.1 g (own_apart h.1 hv hT), h.2⟩
theorem ListO.ext {base m : Nat} {w w' : World} {s : SL Nat} (h : ListO base w m s) (k : Ext w w') : ListO base w' m s := ⟨own_ext h.1 k, h.2⟩
theorem ListO.of {D m n c k : Nat} {a : Option Addr} {w w' : World} {e : Ending} (h : SomeOf w D a n c k m e w') : ∃ (s : SL Nat) (k' : Nat), e = .returned (.slice s.a s.l.length s.c) ∧ ListO w.heap.size w' m s ∧ IsDeck w' D a n c k' ∧ k' ≤ k + m ∧ DExt D w w' := by
  obtain ⟨a', c', l, k', rfl, h1, h2, h3, h4, h5, h6⟩ := h
  exact ⟨⟨a', c', l⟩, k', rfl, ⟨h1, h2, h3⟩, h4, h5, h6⟩

/-- A word of one's own, in a ground of P places. -/
def WordO (base : Nat) (w : World) (P : Nat) (s : SL MV) : Prop := w.ownsRow base 57 2 (.slice s.a s.l.length s.c) s.l.length (flat 2 meanC s.l) ∧ ∀ m ∈ s.l, ListO base w 4 m.k ∧ ListO base w P m.e
theorem WordO.g2 {base P D B : Nat} {w w' : World} {s : SL MV} (h : WordO base w P s) (k : G2 D B w w') (hD : D < base) (hB : B < base) : WordO base w' P s :=
  ⟨G2.own h.1 k hD hB, fun m hm => ⟨(h.2 m hm).1.g2 k hD hB, (h.2 m hm).2.g2 k hD hB⟩⟩
theorem WordO.base {base base' P : Nat} {w : World} {s : SL MV} (h : WordO base w P s) (hb : base' ≤ base) : WordO base' w P s :=
  ⟨own_mono h.1 hb, fun m hm => ⟨(h.2 m hm).1.base hb, (h.2 m hm).2.base hb⟩⟩
theorem WordO.ext {base P : Nat} {w w' : World} {s : SL MV} (h : WordO base w P s) (k : Ext w w') : WordO base w' P s :=
  ⟨own_ext h.1 k, fun m hm => ⟨(h.2 m hm).1.ext k, (h.2 m hm).2.ext k⟩⟩
theorem WordO.grown {base P : Nat} {w w' : World} {s : SL MV} {base' sz n : Nat} {T : TypeId} {v : Value} {xs : List Value} (h : WordO base w P s) (g : w.grownBy w' v.ownBlock) (hv : w.ownsRow base' T sz v n xs) (hT : 57 ≠ T) (hT3 : 3 ≠ T) : WordO base w' P s :=
  ⟨own_grown h.1 g (own_apart h.1 hv hT), fun m hm => ⟨(h.2 m hm).1.grown g hv hT3, (h.2 m hm).2.grown g hv hT3⟩⟩
theorem WordO.is {base P : Nat} {w : World} {s : SL MV} (h : WordO base w P s) (hl : s.l.length ≤ 1000000) (hP : P ≤ 1000000) : IsWord w s :=
  ⟨own_slG h.1 hl, fun m hm => ⟨(h.2 m hm).1.is (by omega), (h.2 m hm).2.is hP⟩⟩
/-- A meaning was appended. -/
theorem WordO.append {base P : Nat} {w w' : World} {s : SL MV} {k e : SL Nat} {g cap : Nat} (h : WordO base w P s) (hk : ListO base w 4 k) (he : ListO base w P e)
    (hown : w'.ownsRow base 57 2 (.slice (some ⟨g, 0, none⟩) (s.l.length + 1) cap) (s.l.length + 1) (flat 2 meanC s.l ++ flat 2 meanC [⟨k, e⟩])) (hgrow : w.grownBy w' (Value.slice s.a s.l.length s.c).ownBlock) :
    WordO base w' P ⟨some ⟨g, 0, none⟩, cap, s.l ++ [⟨k, e⟩]⟩ := by
  have hlen : (s.l ++ [(⟨k, e⟩ : MV)]).length = s.l.length + 1 := by simp
  refine ⟨?_, fun m hm => ?_⟩
  · show World.ownsRow _ base 57 2 (.slice _ (s.l ++ [(⟨k, e⟩ : MV)]).length cap) (s.l ++ [(⟨k, e⟩ : MV)]).length (flat 2 meanC (s.l ++ [(⟨k, e⟩ : MV)]))
    rw [flat_append, hlen]; exact hown
  · rcases List.mem_append.1 hm with hm | hm
    · exact ⟨(h.2 m hm).1.grown hgrow h.1 (by decide), (h.2 m hm).2.grown hgrow h.1 (by decide)⟩
    · simp only [List.mem_singleton] at hm; subst hm
      exact ⟨hk.grown hgrow h.1 (by decide), he.grown hgrow h.1 (by decide)⟩
theorem mean_one (q : MV) : ∀ u ∈ flat 2 meanC [q], u.oneCell' = true := by
  intro u hu
  simp only [flat, List.flatMap_cons, List.flatMap_nil, List.append_nil, List.mem_map, List.mem_range] at hu
  obtain ⟨j, hj, rfl⟩ := hu
  unfold meanC
  split <;> rfl

/-- Words of one's own. -/
def WordsO (base : Nat) (w : World) (P : Nat) (s : SL (SL MV)) : Prop := w.ownsRow base 54 1 (.slice s.a s.l.length s.c) s.l.length (flat 1 slC s.l) ∧ ∀ x ∈ s.l, WordO base w P x ∧ 1 ≤ x.l.length ∧ x.l.length ≤ 3
theorem WordsO.g2 {base P D B : Nat} {w w' : World} {s : SL (SL MV)} (h : WordsO base w P s) (k : G2 D B w w') (hD : D < base) (hB : B < base) : WordsO base w' P s :=
  ⟨G2.own h.1 k hD hB, fun x hx => ⟨(h.2 x hx).1.g2 k hD hB, (h.2 x hx).2⟩⟩
theorem WordsO.append {base P : Nat} {w w' : World} {s : SL (SL MV)} {q : SL MV} {g cap : Nat} (h : WordsO base w P s) (hq : WordO base w P q) (h1 : 1 ≤ q.l.length) (h3 : q.l.length ≤ 3)
    (hown : w'.ownsRow base 54 1 (.slice (some ⟨g, 0, none⟩) (s.l.length + 1) cap) (s.l.length + 1) (flat 1 slC s.l ++ flat 1 slC [q])) (hgrow : w.grownBy w' (Value.slice s.a s.l.length s.c).ownBlock) :
    WordsO base w' P ⟨some ⟨g, 0, none⟩, cap, s.l ++ [q]⟩ := by
  have hlen : (s.l ++ [q]).length = s.l.length + 1 := by simp
  refine ⟨?_, fun m hm => ?_⟩
  · show World.ownsRow _ base 54 1 (.slice _ (s.l ++ [q]).length cap) (s.l ++ [q]).length (flat 1 slC (s.l ++ [q]))
    rw [flat_append, hlen]; exact hown
  · rcases List.mem_append.1 hm with hm | hm
    · exact ⟨(h.2 m hm).1.grown hgrow h.1 (by decide) (by decide), (h.2 m hm).2⟩
    · simp only [List.mem_singleton] at hm; subst hm
      exact ⟨hq.grown hgrow h.1 (by decide) (by decide), h1, h3⟩
theorem word_one (q : SL MV) : ∀ u ∈ flat 1 slC [q], u.oneCell' = true := by
  intro u hu
  simp only [flat, List.flatMap_cons, List.flatMap_nil, List.append_nil, List.mem_map, List.mem_range] at hu
  obtain ⟨j, hj, rfl⟩ := hu
  rfl
theorem deck_setB {w : World} {D B : Nat} {a : Option Addr} {n c k i : Nat} {v : Value} (h : IsDeck w D a n c k) (hBD : B ≠ D) (hBt : ∀ b off, a = some ⟨b, off, none⟩ → 0 < n → b < B) : IsDeck (w.setCell ⟨B, i, none⟩ v) D a n c k :=
  h.step (row := some B) ⟨rfl, rfl, rfl, by simp [World.setCell], fun k _ hne => Below.heap_setCell _ _ _ _ (fun e => hne (by rw [e]))⟩ (fun i e => by
    cases e
    exact ⟨hBD, fun b off h1 h2 => Nat.ne_of_lt (hBt b off h1 h2)⟩)

/-- A word was appended, and is stored. -/
theorem words_leaf {D B base P n c kk : Nat} {a : Option Addr} {w4 v2 v3 : World} {wv : Value} {q : SL (SL MV)} {m : SL MV} {tmp : Obj} {g cap : Nat} (hDb : D < base) (hBb : B < base) (hBD : B ≠ D) (hbase : w4.heap.size = base) (hBt : ∀ b off, a = some ⟨b, off, none⟩ → 0 < n → b < B)
    (HQ : WordsO base v2 P q) (Hm : WordO base v2 P m) (h1 : 1 ≤ m.l.length) (h3 : m.l.length ≤ 3) (HD : IsDeck v2 D a n c kk) (HM : MkT v2 B P wv q.v (.slice none 0 0) (.slice none 0 0)) (HG : G2 D B w4 v2)
    (hown : v3.ownsRow base 54 1 (.slice (some ⟨g, 0, none⟩) (q.l.length + 1) cap) (q.l.length + 1) (flat 1 slC q.l ++ flat 1 slC [m])) (hgrow : (v2.alloc tmp).grownBy v3 (Value.slice q.a q.l.length q.c).ownBlock) :
    (v3.cell? ⟨B, 2, none⟩ = some (.slice q.a q.l.length q.c) ∧ v3.frozen? ⟨B, 2, none⟩ = false) ∧
      (WordsO base (v3.setCell ⟨B, 2, none⟩ (.slice (some ⟨g, 0, none⟩) (q.l.length + 1) cap)) P ⟨some ⟨g, 0, none⟩, cap, q.l ++ [m]⟩ ∧ IsDeck (v3.setCell ⟨B, 2, none⟩ (.slice (some ⟨g, 0, none⟩) (q.l.length + 1) cap)) D a n c kk ∧
        MkT (v3.setCell ⟨B, 2, none⟩ (.slice (some ⟨g, 0, none⟩) (q.l.length + 1) cap)) B P wv (.slice (some ⟨g, 0, none⟩) (q.l.length + 1) cap) (.slice none 0 0) (.slice none 0 0) ∧ G2 D B w4 (v3.setCell ⟨B, 2, none⟩ (.slice (some ⟨g, 0, none⟩) (q.l.length + 1) cap))) := by
  have hrow : ∀ i, (Value.slice q.a q.l.length q.c).ownBlock = some i → base ≤ i := fun i hi => own_lt HQ.1 i hi
  have hx := (Ext.refl v2).alloc tmp
  have HMa : MkT (v2.alloc tmp) B P wv q.v (.slice none 0 0) (.slice none 0 0) := hx.block HM
  have HM3 : MkT v3 B P wv q.v (.slice none 0 0) (.slice none 0 0) := HMa.grown hgrow (fun i hi => by have := hrow i hi; omega)
  have HD3 : IsDeck v3 D a n c kk := (HD.ext hx).step hgrow (fun i hi => ⟨by have := hrow i hi; omega, fun b off h1 h2 => by have := hrow i hi; have := hBt b off h1 h2; omega⟩)
  have HG3 : G2 D B w4 v3 := (HG.ext hx).step hgrow (fun i hi => .inr (.inr (by have := hrow i hi; omega)))
  have HQa : WordsO base (v2.alloc tmp) P q := HQ.g2 ((G2.refl D B v2).ext hx) hDb hBb
  exact ⟨⟨HM3.five.2.2.1, HM3.frozen 2⟩, (HQa.append (Hm.ext hx) h1 h3 hown hgrow).g2 ((G2.refl D B v3).setB 2 _) hDb hBb, deck_setB HD3 hBD hBt, HM3.set2 _, HG3.setB 2 _⟩

/-- A leg that is valid where there are n words. -/
def LegOk (n : Nat) (x : Nat × Int) : Prop := x.1 < n ∧ (x.2 = -1 ∨ (0 ≤ x.2 ∧ x.2 < n))
/-- A leg was appended, and is stored. -/
theorem leg_leaf {D B base P nw n c kk : Nat} {a : Option Addr} {w4 v2 v3 : World} {wv qv sv : Value} {s : SL (Nat × Int)} {x : Nat × Int} {tmp : Obj} {g cap : Nat} (hDb : D < base) (hBb : B < base) (hBD : B ≠ D) (hbase : w4.heap.size = base) (hBt : ∀ b off, a = some ⟨b, off, none⟩ → 0 < n → b < B)
    (HO : v2.ownsRow base 63 2 (.slice s.a s.l.length s.c) s.l.length (flat 2 legC s.l)) (HW : ∀ x ∈ s.l, LegOk nw x) (hx : LegOk nw x) (HD : IsDeck v2 D a n c kk) (HM : MkT v2 B P wv qv sv s.v) (HG : G2 D B w4 v2)
    (hown : v3.ownsRow base 63 2 (.slice (some ⟨g, 0, none⟩) (s.l.length + 1) cap) (s.l.length + 1) (flat 2 legC s.l ++ flat 2 legC [x])) (hgrow : (v2.alloc tmp).grownBy v3 (Value.slice s.a s.l.length s.c).ownBlock) :
    (v3.cell? ⟨B, 4, none⟩ = some (.slice s.a s.l.length s.c) ∧ v3.frozen? ⟨B, 4, none⟩ = false) ∧
      ∃ s' : SL (Nat × Int), Hid (s'.l.length = s.l.length + 1) ∧ Hid ((v3.setCell ⟨B, 4, none⟩ (.slice (some ⟨g, 0, none⟩) (s.l.length + 1) cap)).ownsRow base 63 2 (.slice s'.a s'.l.length s'.c) s'.l.length (flat 2 legC s'.l)) ∧ Hid (∀ x ∈ s'.l, LegOk nw x) ∧ Hid (IsDeck (v3.setCell ⟨B, 4, none⟩ (.slice (some ⟨g, 0, none⟩) (s.l.length + 1) cap)) D a n c kk) ∧
        Hid (MkT (v3.setCell ⟨B, 4, none⟩ (.slice (some ⟨g, 0, none⟩) (s.l.length + 1) cap)) B P wv qv sv s'.v) ∧ Hid (G2 D B w4 (v3.setCell ⟨B, 4, none⟩ (.slice (some ⟨g, 0, none⟩) (s.l.length + 1) cap))) := by
  have hrow : ∀ i, (Value.slice s.a s.l.length s.c).ownBlock = some i → base ≤ i := fun i hi => own_lt HO i hi
  have hxx := (Ext.refl v2).alloc tmp
  have HM3 : MkT v3 B P wv qv sv s.v := MkT.grown (hxx.block HM) hgrow (fun i hi => by have := hrow i hi; omega)
  have HD3 : IsDeck v3 D a n c kk := (HD.ext hxx).step hgrow (fun i hi => ⟨by have := hrow i hi; omega, fun b off h1 h2 => by have := hrow i hi; have := hBt b off h1 h2; omega⟩)
  have HG3 : G2 D B w4 v3 := (HG.ext hxx).step hgrow (fun i hi => .inr (.inr (by have := hrow i hi; omega)))
  have hlen : (s.l ++ [x]).length = s.l.length + 1 := by simp
  refine ⟨⟨HM3.five.2.2.2.2, HM3.frozen 4⟩, ⟨some ⟨g, 0, none⟩, cap, s.l ++ [x]⟩, hlen, ?_, ?_, deck_setB HD3 hBD hBt, ?_, HG3.setB 4 _⟩
  · show World.ownsRow _ base 63 2 (.slice _ (s.l ++ [x]).length cap) (s.l ++ [x]).length (flat 2 legC (s.l ++ [x]))
    rw [flat_append, hlen]
    exact G2.own hown ((G2.refl D B v3).setB 4 _) hDb hBb
  · intro y hy
    rcases List.mem_append.1 hy with hy | hy
    · exact HW y hy
    · simp only [List.mem_singleton] at hy; subst hy; exact hx
  · show MkT _ B P _ _ _ (.slice _ (s.l ++ [x]).length cap)
    rw [hlen]; exact HM3.set4 _
theorem leg_one (q : Nat × Int) : ∀ u ∈ flat 2 legC [q], u.oneCell' = true := by
  intro u hu
  simp only [flat, List.flatMap_cons, List.flatMap_nil, List.append_nil, List.mem_map, List.mem_range] at hu
  obtain ⟨j, hj, rfl⟩ := hu
  unfold legC
  split <;> rfl

theorem dext_of {D B : Nat} {w v v' : World} (h : DExt D w v) (k : G2 D B v v') (hB : w.heap.size ≤ B) : DExt D w v' :=
  ⟨k.os.trans h.os, k.tape.trans h.tape, k.output.trans h.output, Nat.le_trans h.size k.size, fun i hi hne => (k.block i (Nat.lt_of_lt_of_le hi h.size) (fun e => hne (by rw [e])) (by omega)).trans (h.block i hi hne)⟩
theorem prod3_le : ∀ (l : List Nat) (a : Nat), (∀ x ∈ l, x ≤ 3) → l.foldl (· * ·) a ≤ a * 3 ^ l.length
  | [], a, _ => by simp
  | x :: r, a, h => by
    have h1 := prod3_le r (a * x) (fun y hy => h y (by simp [hy]))
    have h2 := h x (by simp)
    simp only [List.foldl_cons, List.length_cons]
    refine Nat.le_trans h1 ?_
    rw [Nat.pow_succ, Nat.mul_assoc, Nat.mul_comm (3 ^ r.length) 3]
    exact Nat.mul_le_mul_left a (Nat.mul_le_mul_right _ h2)

theorem info57 : (Tryz.prog.info? 57).map (fun i => (i.zero, i.size, i.bytes)) = some (some (.agg #[.slice none 0 0, .slice none 0 0]), 2, 48) := by kernel_rfl
theorem info54 : (Tryz.prog.info? 54).map (fun i => (i.zero, i.size, i.bytes)) = some (some (.slice none 0 0), 1, 24) := by kernel_rfl
theorem info63 : (Tryz.prog.info? 63).map (fun i => (i.zero, i.size, i.bytes)) = some (some (.agg #[.int .i64 0, .int .i64 0]), 2, 16) := by kernel_rfl
end Go.Proofs.YtopjjcgmcieboaaGreatDoor
