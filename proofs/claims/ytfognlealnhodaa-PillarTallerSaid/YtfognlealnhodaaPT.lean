/-
  PillarSure's walk from where it fills the worst and the best truth. The profile must lie in memory as told, the two rows as they are made.
-/
import Derived.Test.YtfognlealnhodaaMC
import Derived.Test.YtfognlealnhodaaDA
import Derived.Test.YtfognlealnhodaaAK
import Derived.Test.YtfognlealnhodaaS
import Derived.Test.YtfognlealnhodaaR
import Derived.Test.YtfognlealnhodaaN
namespace Go.Proofs.Ytfognlealnhodaa
open Go.RowKit

/-- The code from region n on. -/
def tailA (n : Nat) : Code → Option Code
  | .seq (.region k o d) b => if k = n then some (.seq (.region k o d) b) else tailA n b
  | .seq (.seq (.region k o d) c) b => if k = n then some (.seq (.seq (.region k o d) c) b) else tailA n b
  | .seq _ b => tailA n b
  | .block _ c => tailA n c
  | .scope c => tailA n c
  | _ => none
noncomputable def tail4_11 : Code := ((Try.f4.body.bind (tailA 11)).getD .skip)
theorem setCell_comm (w : World) {g h : Nat} (i j : Nat) (x y : Value) (hne : g ≠ h) : (w.setCell ⟨g, i, none⟩ x).setCell ⟨h, j, none⟩ y = (w.setCell ⟨h, j, none⟩ y).setCell ⟨g, i, none⟩ x := by
  simp only [World.setCell]
  congr 1
  apply Array.ext
  · simp
  · intro k h1 h2
    simp only [Array.getElem_modify]
    by_cases e1 : g = k
    · by_cases e2 : h = k
      · omega
      · simp [e1, e2]
    · by_cases e2 : h = k
      · simp [e1, e2]
      · simp [e1, e2]
/-- What lies in a row while its first k places are filled: the upper ends (the lower ones where d is false), but at i and j the other ones. -/
def fillF (d : Bool) (i j M : Nat) (G : List (Nat × Nat)) (k : Nat) : List Nat := (List.range M).map fun q => if q < k then endOf (if q = i ∨ q = j then !d else d) (G[q]?.getD (0, 0)) else 0
section
variable {d : Bool} {i j M k : Nat} {G : List (Nat × Nat)}
theorem fill_len : (fillF d i j M G k).length = M := by simp [fillF]
theorem fill_zero : fillF d i j M G 0 = List.replicate M 0 := by
  apply List.ext_getElem
  · simp [fillF]
  · intro q h1 h2; simp [fillF]
theorem fill_set : (fillF d i j M G k).set k (endOf (if k = i ∨ k = j then !d else d) (G[k]?.getD (0, 0))) = fillF d i j M G (k + 1) := by
  apply List.ext_getElem
  · simp [fillF]
  · intro q h1 h2
    rw [List.getElem_set]
    by_cases e : k = q
    · subst e; simp [fillF]
    · rw [if_neg e]
      simp only [fillF, List.getElem_map, List.getElem_range]
      by_cases h : q < k
      · have h3 : q < k + 1 := by omega
        simp only [if_pos h, if_pos h3]
      · have h3 : ¬ q < k + 1 := by omega
        simp only [if_neg h, if_neg h3]
theorem fill_get {q : Nat} (hq : q < M) : (fillF d i j M G M)[q]?.getD 0 = endOf (if q = i ∨ q = j then !d else d) (G[q]?.getD (0, 0)) := by
  rw [List.getElem?_eq_getElem (by rw [fill_len]; exact hq)]
  simp [fillF, hq]
theorem fill_truth (hG : G.length = M) (hs : ∀ s ∈ G, s.1 ≤ s.2) : truthTo (fillF d i j M G M) G (fillF d i j M G M).length = true := by
  rw [truthTo_true]
  intro q hq
  rw [fill_len] at hq
  rw [fill_get hq]
  have h := hs _ (List.getElem_mem (show q < G.length by omega))
  rw [List.getElem?_eq_getElem (show q < G.length by omega)]
  simp only [Option.getD_some]
  unfold inB endOf
  simp only [Bool.and_eq_true, decide_eq_true_eq]
  cases d <;> (by_cases e : q = i ∨ q = j <;> simp [e] <;> omega)
end
theorem ext_drew {a b c : World} (h : Ext a b) (e : c.heap = b.heap := by rfl) (e1 : c.os = b.os := by rfl) (e2 : c.tape = b.tape := by rfl) (e3 : c.output = b.output := by rfl) : Ext a c :=
  ⟨e1.trans (Below.os h), e2.trans (Below.tape h), e3.trans (Below.output h), by rw [e]; exact Below.size h, fun i hi => by rw [e]; exact Below.block h i hi⟩
theorem rows_facts {V : World} {bw bb sb k M : Nat} {L1 L2 : List Nat} {x y : Value} (h1 : Row V bw L1 M) (h2 : Row V bb L2 M) (hl1 : k < L1.length) (hl2 : k < L2.length) (hs : V.heap[sb]? = some (.cells #[x, y] 28 (0, 0))) (n1 : bw ≠ bb) (n2 : bw ≠ sb) (n3 : bb ≠ sb) (p q : Value) :
    ∃ u1 u2 : Value, V.cell? ⟨sb, 0, none⟩ = some x ∧ V.cell? ⟨sb, 1, none⟩ = some y ∧ V.cell? ⟨bw, k, none⟩ = some u1 ∧ V.frozen? ⟨bw, k, none⟩ = false ∧ V.cell? ⟨bb, k, none⟩ = some u2 ∧ V.frozen? ⟨bb, k, none⟩ = false ∧
      (V.setCell ⟨bw, k, none⟩ p).cell? ⟨sb, 0, none⟩ = some x ∧ (V.setCell ⟨bw, k, none⟩ p).cell? ⟨sb, 1, none⟩ = some y ∧ (V.setCell ⟨bw, k, none⟩ p).cell? ⟨bb, k, none⟩ = some u2 ∧ (V.setCell ⟨bw, k, none⟩ p).frozen? ⟨bb, k, none⟩ = false ∧
      (V.setCell ⟨bb, k, none⟩ q).cell? ⟨sb, 0, none⟩ = some x ∧ (V.setCell ⟨bb, k, none⟩ q).cell? ⟨sb, 1, none⟩ = some y ∧ (V.setCell ⟨bb, k, none⟩ q).cell? ⟨bw, k, none⟩ = some u1 ∧ (V.setCell ⟨bb, k, none⟩ q).frozen? ⟨bw, k, none⟩ = false := by
  have ka : Keep (fun b => b ≠ bw) V (V.setCell ⟨bw, k, none⟩ p) := (Keep.refl _ _).setCell _ _ (fun _ h => h rfl)
  have kb : Keep (fun b => b ≠ bb) V (V.setCell ⟨bb, k, none⟩ q) := (Keep.refl _ _).setCell _ _ (fun _ h => h rfl)
  obtain ⟨s0, s1, -, -⟩ := box2 hs
  exact ⟨_, _, s0, s1, h1.cell k hl1, h1.frozen k, h2.cell k hl2, h2.frozen k, ka.cell s0 (Ne.symm n2), ka.cell s1 (Ne.symm n2), ka.cell (h2.cell k hl2) (Ne.symm n1), (h2.keep ka (Ne.symm n1)).frozen k, kb.cell s0 (Ne.symm n3), kb.cell s1 (Ne.symm n3), kb.cell (h1.cell k hl1) n1, (h1.keep kb n1).frozen k⟩
theorem rows_after {W0 V : World} {bw bb sb k M : Nat} {L1 L2 : List Nat} {x y : Value} (h1 : Row V bw L1 M) (h2 : Row V bb L2 M) (hl1 : k < L1.length) (hl2 : k < L2.length) (hs : V.heap[sb]? = some (.cells #[x, y] 28 (0, 0))) (n1 : bw ≠ bb) (n2 : bw ≠ sb) (n3 : bb ≠ sb) (p q : Nat) (hx : Ext W0 V) (hw : W0.heap.size ≤ bw) (hb : W0.heap.size ≤ bb) :
    Row ((V.setCell ⟨bw, k, none⟩ (.int .i64 (p : Int))).setCell ⟨bb, k, none⟩ (.int .i64 (q : Int))) bw (L1.set k p) M ∧ Row ((V.setCell ⟨bw, k, none⟩ (.int .i64 (p : Int))).setCell ⟨bb, k, none⟩ (.int .i64 (q : Int))) bb (L2.set k q) M ∧
      ((V.setCell ⟨bw, k, none⟩ (.int .i64 (p : Int))).setCell ⟨bb, k, none⟩ (.int .i64 (q : Int))).heap[sb]? = some (.cells #[x, y] 28 (0, 0)) ∧ Ext W0 ((V.setCell ⟨bw, k, none⟩ (.int .i64 (p : Int))).setCell ⟨bb, k, none⟩ (.int .i64 (q : Int))) := by
  have ka : Keep (fun b => b ≠ bw) V (V.setCell ⟨bw, k, none⟩ (.int .i64 (p : Int))) := (Keep.refl _ _).setCell _ _ (fun _ h => h rfl)
  have kb : Keep (fun b => b ≠ bb) (V.setCell ⟨bw, k, none⟩ (.int .i64 (p : Int))) ((V.setCell ⟨bw, k, none⟩ (.int .i64 (p : Int))).setCell ⟨bb, k, none⟩ (.int .i64 (q : Int))) := (Keep.refl _ _).setCell _ _ (fun _ h => h rfl)
  exact ⟨(h1.set k p hl1).keep kb n1, (h2.keep ka (Ne.symm n1)).set k q hl2, kb.heap (ka.heap hs (Ne.symm n2)) (Ne.symm n3), ext_keep (ext_keep hx ka (fun i hi => by omega)) kb (fun i hi => by omega)⟩
def frS (D2 pb i j bw bb M : Nat) (cB sB : Bool) (X : Nat → Value) : Array Value := #[X 0, X 1, X 2, X 3, X 4, X 5, X 6, X 7, X 8, X 9, .pointer (some ⟨D2, 0, none⟩), .pointer (some ⟨pb, 0, none⟩), X 12, .int .i64 (i : Int), .int .i64 (j : Int), .bool cB, .bool sB, X 17, X 18, X 19, X 20, .slice (some ⟨bw, 0, none⟩) M M, .slice (some ⟨bb, 0, none⟩) M M, X 23, X 24, X 25, X 26, X 27, X 28, X 29, X 30, X 31, X 32, X 33, X 34, X 35, X 36, X 37, X 38, X 39, X 40, X 41, X 42, X 43, X 44, X 45, X 46, X 47, X 48, X 49, X 50, X 51, X 52, X 53, X 54, X 55, X 56, X 57, X 58, X 59, X 60, X 61, X 62, X 63, X 64, X 65, X 66, X 67, X 68, X 69, X 70, X 71, X 72, X 73, X 74, X 75, X 76, X 77, X 78, X 79, X 80, X 81, X 82, X 83, X 84, X 85, X 86, X 87, X 88, X 89, X 90, X 91, X 92, X 93, X 94, X 95, X 96, X 97, X 98, X 99, X 100, X 101, X 102, X 103, X 104, X 105, X 106, X 107, X 108, X 109, X 110, X 111, X 112, X 113, X 114, X 115, X 116, X 117, X 118, X 119, X 120, X 121, X 122, X 123, X 124, X 125, X 126, X 127, X 128, X 129, X 130, X 131, X 132, X 133, X 134, X 135, X 136, X 137, X 138, X 139, X 140, X 141, X 142, X 143, X 144, X 145, X 146, X 147, X 148, X 149, X 150, X 151, X 152, X 153, X 154, X 155, X 156, X 157, X 158, X 159, X 160, X 161, X 162, X 163, X 164, X 165, X 166, X 167, X 168, X 169, X 170, X 171, X 172, X 173, X 174, X 175, X 176, X 177, X 178, X 179, X 180, X 181, X 182, X 183, X 184, X 185, X 186, X 187, X 188, X 189, X 190, X 191, X 192, X 193, X 194, X 195, X 196, X 197, X 198, X 199, X 200, X 201, X 202, X 203, X 204, X 205, X 206, X 207, X 208, X 209, X 210, X 211, X 212, X 213, X 214, X 215, X 216, X 217, X 218, X 219, X 220, X 221, X 222, X 223, X 224, X 225, X 226, X 227, X 228, X 229, X 230, X 231, X 232, X 233, X 234, X 235, X 236]
def frS1 (D2 pb i j bw bb M k : Nat) (cB sB : Bool) (v : PV) (X : Nat → Value) : Array Value := #[X 0, X 1, X 2, X 3, X 4, X 5, X 6, X 7, X 8, X 9, .pointer (some ⟨D2, 0, none⟩), .pointer (some ⟨pb, 0, none⟩), X 12, .int .i64 (i : Int), .int .i64 (j : Int), .bool cB, .bool sB, X 17, X 18, X 19, X 20, .slice (some ⟨bw, 0, none⟩) M M, .slice (some ⟨bb, 0, none⟩) M M, X 23, X 24, X 25, X 26, X 27, X 28, X 29, X 30, X 31, X 32, X 33, X 34, X 35, X 36, X 37, X 38, X 39, X 40, X 41, X 42, X 43, X 44, X 45, X 46, X 47, X 48, X 49, X 50, X 51, X 52, X 53, X 54, X 55, X 56, X 57, X 58, X 59, X 60, X 61, X 62, X 63, X 64, X 65, X 66, X 67, X 68, X 69, X 70, X 71, X 72, X 73, X 74, X 75, X 76, X 77, X 78, X 79, X 80, X 81, X 82, X 83, X 84, X 85, X 86, X 87, X 88, X 89, X 90, X 91, X 92, X 93, X 94, X 95, X 96, X 97, X 98, X 99, X 100, X 101, X 102, X 103, X 104, X 105, X 106, X 107, X 108, X 109, X 110, X 111, X 112, X 113, X 114, X 115, X 116, X 117, X 118, X 119, X 120, X 121, X 122, X 123, X 124, X 125, X 126, X 127, .slice v.gr.a M v.gr.c, .int .i64 (M : Int), .int .i64 (k : Int), X 131, X 132, X 133, X 134, X 135, X 136, X 137, X 138, X 139, X 140, X 141, X 142, X 143, X 144, X 145, X 146, X 147, X 148, X 149, X 150, X 151, X 152, X 153, X 154, X 155, X 156, X 157, X 158, X 159, X 160, X 161, X 162, X 163, X 164, X 165, X 166, X 167, X 168, X 169, X 170, X 171, X 172, X 173, X 174, X 175, X 176, X 177, X 178, X 179, X 180, X 181, X 182, X 183, X 184, X 185, X 186, X 187, X 188, X 189, X 190, X 191, X 192, X 193, X 194, X 195, X 196, X 197, X 198, X 199, X 200, X 201, X 202, X 203, X 204, X 205, X 206, X 207, X 208, X 209, X 210, X 211, X 212, X 213, X 214, X 215, X 216, X 217, X 218, X 219, X 220, X 221, X 222, X 223, X 224, X 225, X 226, X 227, X 228, X 229, X 230, X 231, X 232, X 233, X 234, X 235, X 236]
def frS2 (D2 pb i j t : Nat) (cB sB : Bool) (X : Nat → Value) : Array Value := #[X 0, X 1, X 2, X 3, X 4, X 5, X 6, X 7, X 8, X 9, .pointer (some ⟨D2, 0, none⟩), .pointer (some ⟨pb, 0, none⟩), X 12, .int .i64 (i : Int), .int .i64 (j : Int), .bool cB, .bool sB, X 17, X 18, X 19, X 20, X 21, X 22, X 23, X 24, X 25, X 26, X 27, X 28, X 29, X 30, X 31, X 32, X 33, X 34, X 35, X 36, X 37, X 38, X 39, X 40, X 41, X 42, X 43, X 44, X 45, X 46, X 47, X 48, X 49, X 50, X 51, X 52, X 53, X 54, X 55, X 56, X 57, X 58, X 59, X 60, X 61, X 62, X 63, X 64, X 65, X 66, X 67, X 68, X 69, X 70, X 71, X 72, X 73, X 74, X 75, X 76, X 77, X 78, X 79, X 80, X 81, X 82, X 83, X 84, X 85, X 86, X 87, X 88, X 89, X 90, X 91, X 92, X 93, X 94, X 95, X 96, X 97, X 98, X 99, X 100, X 101, X 102, X 103, X 104, X 105, X 106, X 107, X 108, X 109, X 110, X 111, X 112, X 113, X 114, X 115, X 116, X 117, X 118, X 119, X 120, X 121, X 122, X 123, X 124, X 125, X 126, X 127, X 128, X 129, X 130, X 131, X 132, X 133, X 134, X 135, X 136, X 137, X 138, X 139, X 140, X 141, X 142, X 143, X 144, X 145, X 146, X 147, X 148, X 149, X 150, X 151, X 152, X 153, X 154, X 155, X 156, X 157, X 158, X 159, X 160, X 161, X 162, X 163, X 164, X 165, X 166, X 167, X 168, X 169, X 170, X 171, X 172, X 173, X 174, X 175, X 176, X 177, X 178, X 179, X 180, X 181, X 182, X 183, X 184, X 185, X 186, X 187, X 188, X 189, X 190, X 191, X 192, X 193, X 194, X 195, X 196, X 197, X 198, X 199, X 200, X 201, .int .i64 (t : Int), X 203, X 204, X 205, X 206, X 207, X 208, X 209, X 210, X 211, X 212, X 213, X 214, X 215, X 216, X 217, X 218, X 219, X 220, X 221, X 222, X 223, X 224, X 225, X 226, X 227, X 228, X 229, X 230, X 231, X 232, X 233, X 234, X 235, X 236]

/-- What holds of the profile and of the deck as the rows are made. -/
structure SW (W : World) (D2 pb : Nat) (a1 : Option Addr) (n1 c1 : Nat) (v : PV) : Prop where
  prof : IsP W v
  ok : OkP v.p
  five : Five W pb v
  deck : IsDeck W D2 a1 n1 c1 0
  len : v.gr.l.length = v.at'.l.length ∧ v.at'.l.length ≤ 10
  hi : v.hi ≤ 1000
  sp : ∀ s ∈ v.gr.l, s.1 ≤ s.2 ∧ s.2 ≤ 1000
  ne : pb ≠ D2
  apart : ∀ g off, (v.at'.a = some ⟨g, off, none⟩ → g ≠ D2) ∧ (v.gr.a = some ⟨g, off, none⟩ → g ≠ D2)
def InvS1 (D2 pb i j bw bb M : Nat) (cB sB : Bool) (v : PV) (W0 : World) (a : Act) (wr : World) : Prop :=
  ∃ (X : Nat → Value) (k : Nat), a = { tmps := frS1 D2 pb i j bw bb M k cB sB v X, defers := [] } ∧ k ≤ M ∧ Hid (Row wr bw (fillF true i j M v.gr.l k) M) ∧ Hid (Row wr bb (fillF false i j M v.gr.l k) M) ∧ Hid (Ext W0 wr)
theorem InvS1.of {D2 pb i j bw bb M : Nat} {cB sB : Bool} {v : PV} {W0 : World} {t : Array Value} {wr : World} (k : Nat) (ht : t = frS1 D2 pb i j bw bb M k cB sB v (fun j => t.getD j undef)) (hk : k ≤ M) (h1 : Hid (Row wr bw (fillF true i j M v.gr.l k) M)) (h2 : Hid (Row wr bb (fillF false i j M v.gr.l k) M)) (h3 : Hid (Ext W0 wr)) :
    InvS1 D2 pb i j bw bb M cB sB v W0 { tmps := t, defers := [] } wr := ⟨_, k, by rw [← ht], hk, h1, h2, h3⟩
def InvS2 (D2 pb i j : Nat) (cB sB : Bool) (a1 : Option Addr) (n1 c1 : Nat) (W0 : World) (a : Act) (wr : World) : Prop :=
  ∃ (X : Nat → Value) (t k' : Nat), a = { tmps := frS2 D2 pb i j t cB sB X, defers := [] } ∧ t ≤ 5 ∧ k' ≤ 50 * t ∧ Hid (IsDeck wr D2 a1 n1 c1 k') ∧ Hid (Keep (fun x => x ≠ D2) W0 wr)
theorem InvS2.of {D2 pb i j : Nat} {cB sB : Bool} {a1 : Option Addr} {n1 c1 : Nat} {W0 : World} {u : Array Value} {wr : World} (t k' : Nat) (ht : u = frS2 D2 pb i j t cB sB (fun j => u.getD j undef)) (h1 : t ≤ 5) (h2 : k' ≤ 50 * t) (h3 : Hid (IsDeck wr D2 a1 n1 c1 k')) (h4 : Hid (Keep (fun x => x ≠ D2) W0 wr)) :
    InvS2 D2 pb i j cB sB a1 n1 c1 W0 { tmps := u, defers := [] } wr := ⟨_, t, k', by rw [← ht], h1, h2, h3, h4⟩

set_option maxRecDepth 1000000 in
set_option maxHeartbeats 16000000 in
theorem sure_tail (X : Nat → Value) (D2 pb i j bw bb M : Nat) (cB sB : Bool) (v : PV) (a1 : Option Addr) (n1 c1 : Nat) (w W0 W : World) (HS : Hid (SW W0 D2 pb a1 n1 c1 v)) (HM : Hid (v.at'.l.length = M)) (hw : w.heap.size ≤ D2) (HX : Hid (Ext w W0)) (HY : Hid (Ext W0 W))
    (HRw : Hid (Row W bw (List.replicate M 0) M ∧ W0.heap.size ≤ bw)) (HRb : Hid (Row W bb (List.replicate M 0) M ∧ W0.heap.size ≤ bb)) (hne : bw ≠ bb) (hi : i < M) (hj : j < M) (hij : i ≠ j) (HsB : Hid (seeF true v.p i j = sB)) (HcB : Hid (seeF false v.p i j = cB)) :
    Code.wp Try.prog tail4_11 (bodyPost Try.prog Try.f4 fun e w' => e = .returned (.bool true) ∧ Ext w w') ⟨frS D2 pb i j bw bb M cB sB X, []⟩ W := by
  conv => arg 2; whnf
  conv => arg 4; dsimp only [frS]
  have hM10 : M ≤ 10 := by rw [← HM.out]; exact HS.out.len.2
  have hgM : v.gr.l.length = M := by rw [HS.out.len.1, HM.out]
  have HgM := Lib.hid hgM
  obtain ⟨c0, c1', c2, c3, c4⟩ := HS.out.five.ext HY.out
  rw [hgM] at c1'
  clear hgM
  go_wp2_with fail
  clear c0 c1' c2 c3 c4
  have HR1 : Hid (Row W bw (fillF true i j M v.gr.l 0) M) := by show Row _ _ _ _; rw [fill_zero]; exact HRw.out.1
  have HR2 : Hid (Row W bb (fillF false i j M v.gr.l 0) M) := by show Row _ _ _ _; rw [fill_zero]; exact HRb.out.1
  refine wp_loop (InvS1 D2 pb i j bw bb M cB sB v W0) (fun a _ => M - (intOf (a.tmps.getD 130 undef)).toNat) (InvS1.of 0 rfl (Nat.zero_le _) HR1 HR2 HY) ?_
  clear HR1 HR2 HY
  rintro ac wr ⟨X1, k, rfl, hk, HR1, HR2, HY⟩
  conv => arg 4; dsimp only [frS1]
  by_cases hlt : k < M
  · have di : decide ((k : Int) < (M : Int)) = true := decide_eq_true (by omega)
    have hkg : k < v.gr.l.length := by rw [HgM.out]; exact hlt
    obtain ⟨b2, off2, hga, hc2⟩ := HS.out.prof.gr.2.2.resolve_left (by omega)
    have hsp : v.gr.l[k]?.getD (0, 0) = v.gr.l[k] := by rw [List.getElem?_eq_getElem hkg]; rfl
    have hcell1 : wr.cell? ⟨b2, off2 + k * 2, none⟩ = some (Value.int .i64 (v.gr.l[k].1 : Int)) := by have := HY.out.cell (hc2 k hkg 0 (by omega)); simpa [spC] using this
    have hcell2 : wr.cell? ⟨b2, off2 + k * 2 + 1, none⟩ = some (Value.int .i64 (v.gr.l[k].2 : Int)) := by have := HY.out.cell (hc2 k hkg 1 (by omega)); simpa [spC] using this
    clear hc2
    have HSp := Lib.hid hsp
    generalize v.gr.l[k] = sp at *
    clear hsp hkg
    have HGa := Lib.hid hga
    rw [hga]
    clear hga
    go_upto_region 14 with (fail)
    clear hcell1 hcell2
    have HY2 : Hid (Ext W0 (wr.alloc (.cells #[.int .i64 (sp.1 : Int), .int .i64 (sp.2 : Int)] 28))) := HY.out.alloc _
    have HT1 := Lib.hid (HR1.out.ext ((Ext.refl wr).alloc (.cells #[.int .i64 (sp.1 : Int), .int .i64 (sp.2 : Int)] 28)))
    have HT2 := Lib.hid (HR2.out.ext ((Ext.refl wr).alloc (.cells #[.int .i64 (sp.1 : Int), .int .i64 (sp.2 : Int)] 28)))
    have hsb1 : bw ≠ wr.heap.size := by have := HR1.out.lt; omega
    have hsb2 : bb ≠ wr.heap.size := by have := HR2.out.lt; omega
    have HSb : Hid ((wr.alloc (.cells #[.int .i64 (sp.1 : Int), .int .i64 (sp.2 : Int)] 28)).heap[wr.heap.size]? = some (.cells #[.int .i64 (sp.1 : Int), .int .i64 (sp.2 : Int)] 28 (0, 0))) := World.alloc_heap_new _ _
    clear HY HR1 HR2
    generalize wr.alloc (.cells #[.int .i64 (sp.1 : Int), .int .i64 (sp.2 : Int)] 28) = V at *
    generalize wr.heap.size = sb at *
    have i1 : (0 : Int) ≤ (k : Int) := by omega
    have i2 : (k : Int) < (M : Int) := by omega
    have hcm := setCell_comm V (g := bb) (h := bw) k k (.int .i64 (sp.1 : Int)) (.int .i64 (sp.2 : Int)) (Ne.symm hne)
    obtain ⟨u1, u2, s0, s1, r1, f1, r2, f2, a0, a1', a2, a3, b0, b1, b2', b3⟩ := rows_facts HT1.out HT2.out (by rw [fill_len]; exact hlt) (by rw [fill_len]; exact hlt) HSb.out hne hsb1 hsb2 (.int .i64 (sp.2 : Int)) (.int .i64 (sp.1 : Int))
    go_region
    all_goals try rw [hcm]
    all_goals
      clear hcm s0 s1 r1 f1 r2 f2 a0 a1' a2 a3 b0 b1 b2' b3
      have hra := rows_after HT1.out HT2.out (by rw [fill_len]; exact hlt) (by rw [fill_len]; exact hlt) HSb.out hne hsb1 hsb2 sp.2 sp.1 HY2.out HRw.out.2 HRb.out.2
      generalize (V.setCell ⟨bw, k, none⟩ (.int .i64 (sp.2 : Int))).setCell ⟨bb, k, none⟩ (.int .i64 (sp.1 : Int)) = V2 at *
      have HA1 := Lib.hid hra.1
      have HA2 := Lib.hid hra.2.1
      have HA3 := Lib.hid hra.2.2.1
      have HA4 := Lib.hid hra.2.2.2
      clear hra HT1 HT2 HSb HY2
      have hwk : IntKind.i64.wrap ((k : Int) + 1) = ((k + 1 : Nat) : Int) := by rw [IntWalk.i64_in _ (by omega)]; omega
      by_cases hkij : k = i ∨ k = j
      · have hcase : ((k : Int) == (i : Int)) = true ∨ (((k : Int) == (i : Int)) = false ∧ ((k : Int) == (j : Int)) = true) := by
          by_cases e : k = i
          · left; rw [beq_iff_eq]; omega
          · right; refine ⟨?_, ?_⟩
            · rw [beq_eq_false_iff_ne]; omega
            · rw [beq_iff_eq]; omega
        have hcm := setCell_comm V2 (g := bb) (h := bw) k k (.int .i64 (sp.2 : Int)) (.int .i64 (sp.1 : Int)) (Ne.symm hne)
        obtain ⟨u1, u2, s0, s1, r1, f1, r2, f2, a0, a1', a2, a3, b0, b1, b2', b3⟩ := rows_facts HA1.out HA2.out (by rw [List.length_set, fill_len]; exact hlt) (by rw [List.length_set, fill_len]; exact hlt) HA3.out hne hsb1 hsb2 (.int .i64 (sp.1 : Int)) (.int .i64 (sp.2 : Int))
        rcases hcase with hb1 | ⟨hb1, hb2⟩
        all_goals
          go_wp2_with fail
          go_region
        all_goals try rw [hcm]
        all_goals
          clear hcm s0 s1 r1 f1 r2 f2 a0 a1' a2 a3 b0 b1 b2' b3
          have hra := rows_after HA1.out HA2.out (by rw [List.length_set, fill_len]; exact hlt) (by rw [List.length_set, fill_len]; exact hlt) HA3.out hne hsb1 hsb2 sp.1 sp.2 HA4.out HRw.out.2 HRb.out.2
          rw [List.set_set, List.set_set] at hra
          have q1 := fill_set (d := true) (i := i) (j := j) (M := M) (k := k) (G := v.gr.l)
          have q2 := fill_set (d := false) (i := i) (j := j) (M := M) (k := k) (G := v.gr.l)
          rw [if_pos hkij, HSp.out] at q1 q2
          simp only [endOf, Bool.not_true, Bool.not_false, if_true, if_false, Bool.false_eq_true] at q1 q2
          rw [q1, q2] at hra
          have HB1 := Lib.hid hra.1
          have HB2 := Lib.hid hra.2.1
          have HB4 := Lib.hid hra.2.2.2
          clear hra q1 q2
          go_wp2_with fail
          refine ⟨InvS1.of (k + 1) (by unfold frS1; rw [HGa.out]; rfl) (by omega) HB1 HB2 (ext_drew HB4.out), ?_⟩
          simp [intOf, frS1]; omega
      · have hb1 : ((k : Int) == (i : Int)) = false := by rw [beq_eq_false_iff_ne]; omega
        have hb2 : ((k : Int) == (j : Int)) = false := by rw [beq_eq_false_iff_ne]; omega
        have q1 := fill_set (d := true) (i := i) (j := j) (M := M) (k := k) (G := v.gr.l)
        have q2 := fill_set (d := false) (i := i) (j := j) (M := M) (k := k) (G := v.gr.l)
        rw [if_neg hkij, HSp.out] at q1 q2
        simp only [endOf, if_true, if_false, Bool.false_eq_true] at q1 q2
        have HB1 : Hid (Row V2 bw (fillF true i j M v.gr.l (k + 1)) M) := by rw [← q1]; exact HA1.out
        have HB2 : Hid (Row V2 bb (fillF false i j M v.gr.l (k + 1)) M) := by rw [← q2]; exact HA2.out
        clear q1 q2
        go_wp2_with fail
        refine ⟨InvS1.of (k + 1) (by unfold frS1; rw [HGa.out]; rfl) (by omega) HB1 HB2 (ext_drew HA4.out), ?_⟩
        simp [intOf, frS1]; omega
  · obtain rfl : k = M := by omega
    have di : decide ((k : Int) < (k : Int)) = false := decide_eq_false (by omega)
    obtain ⟨c0, c1', c2, c3, c4⟩ := HS.out.five.ext HY.out
    have hlh : v.lo ≤ v.hi := HS.out.ok.bb.1
    have hi' : i < v.at'.l.length := by rw [HM.out]; exact hi
    have hj' : j < v.at'.l.length := by rw [HM.out]; exact hj
    have hsle : ∀ s ∈ v.gr.l, s.1 ≤ s.2 := fun s hs => (HS.out.sp s hs).1
    have hw1 := see_worst HS.out.ok (h := fillF true i j k v.gr.l k) (by rw [fill_len]; exact HgM.out.symm) true true (i := i) (j := j) hi' hj' (fun q hq => fill_get (by rw [← HgM.out]; exact hq))
    have hw2 := see_worst HS.out.ok (h := fillF false i j k v.gr.l k) (by rw [fill_len]; exact HgM.out.symm) false true (i := i) (j := j) hi' hj' (fun q hq => fill_get (by rw [← HgM.out]; exact hq))
    rw [HsB.out] at hw1
    rw [HcB.out] at hw2
    have h1 := real_ok v ⟨some ⟨bw, 0, none⟩, k, fillF true i j k v.gr.l k⟩ v.hi i j wr (HS.out.prof.ext HY.out) HS.out.ok (HR1.out.sl (by rw [fill_len]; omega)) (by rw [fill_len, HM.out]) hi' hj' hij (fill_truth HgM.out hsle) (by simp [inB, hlh])
    have H2 : Hid (∀ wx, Ext wr wx → Calls Try.prog 17 #[v.v, .slice (some ⟨bb, 0, none⟩) k k, .int .i64 (v.lo : Int), .int .i64 (i : Int), .int .i64 (j : Int)] wx fun e w' => e = .returned (.tuple #[.bool cB, .int .i64 0]) ∧ Ext wx w') := fun wx hx => by
      have h2 := real_ok v ⟨some ⟨bb, 0, none⟩, k, fillF false i j k v.gr.l k⟩ v.lo i j wx (HS.out.prof.ext (HY.out.trans hx)) HS.out.ok ((HR2.out.ext hx).sl (by rw [fill_len]; omega)) (by rw [fill_len, HM.out]) hi' hj' hij (fill_truth HgM.out hsle) (by simp [inB, hlh])
      rw [show seeF true (realP v.p (fillF false i j k v.gr.l k) v.lo) i j = cB from hw2] at h2
      dsimp only at h2
      rw [fill_len] at h2
      exact h2
    rw [show seeF true (realP v.p (fillF true i j k v.gr.l k) v.hi) i j = sB from hw1] at h1
    dsimp only at h1
    rw [fill_len] at h1
    have H1 := Lib.hid h1
    clear h1 hw1 hw2 hsle hi' hj' hlh
    go_wp2_with fail
    refine H1.out.mono ?_
    rintro e w1 ⟨rfl, hx1⟩
    have HX1 : Hid (Ext wr w1) := hx1
    obtain ⟨c0, c1', c2, c3, c4⟩ := HS.out.five.ext (HY.out.trans hx1)
    clear hx1 H1
    go_wp2_with fail
    refine (H2.out w1 HX1.out).mono ?_
    rintro e w2 ⟨rfl, hx2⟩
    have HX2 : Hid (Ext W0 w2) := (HY.out.trans HX1.out).trans hx2
    clear hx2 H2 c0 c1' c2 c3 c4 HX1
    have hs1 : (sB != sB) = false := by cases sB <;> rfl
    have hs2 : (cB != cB) = false := by cases cB <;> rfl
    go_wp2_with fail
    refine wp_loop (InvS2 D2 pb i j cB sB a1 n1 c1 W0) (fun a _ => 5 - (intOf (a.tmps.getD 202 undef)).toNat) (InvS2.of 0 0 rfl (by omega) (by omega) (HS.out.deck.ext HX2.out) (Keep.of_ext HX2.out)) ?_
    clear HX2 HR1 HR2 HY hs1 hs2
    rintro ac wq ⟨X2, t, k', rfl, ht, hk', HD, HKp⟩
    conv => arg 4; dsimp only [frS2]
    by_cases hlt : t < 5
    · have di : decide ((t : Int) < 5) = true := decide_eq_true (by omega)
      have hwt : IntKind.i64.wrap ((t : Int) + 1) = ((t + 1 : Nat) : Int) := by rw [IntWalk.i64_in _ (by omega)]; omega
      have HF : Hid (∀ wz, Keep (fun x => x ≠ D2) W0 wz → IsP wz v ∧ Five wz pb v) := fun wz hz => by
        obtain ⟨c0, c1', c2, c3, c4⟩ := HS.out.five
        exact ⟨⟨HS.out.prof.at'.keep hz (fun g off h _ => (HS.out.apart g off).1 h), HS.out.prof.gr.keep hz (fun g off h _ => (HS.out.apart g off).2 h)⟩, hz.cell c0 HS.out.ne, hz.cell c1' HS.out.ne, hz.cell c2 HS.out.ne, hz.cell c3 HS.out.ne, hz.cell c4 HS.out.ne⟩
      obtain ⟨c0, c1', c2, c3, c4⟩ := (HF.out wq HKp.out).2
      go_wp2_with fail
      refine (drawn_any D2 a1 n1 c1 k' v wq HD.out (by omega) (HF.out wq HKp.out).1 (by have := HS.out.len; omega) HS.out.sp ⟨HS.out.ok.bb.1, HS.out.hi⟩ (fun b off h => (HS.out.apart b off).2 h)).mono ?_
      rintro e w2 ⟨a', c', out, bend, k2, rfl, hown, hol, htr, hbb, hd2, hk2, hkp2⟩
      have HK2 : Hid (Keep (fun x => x ≠ D2) W0 w2) := HKp.out.transD hkp2 (fun i _ h => h)
      have HD2 := Lib.hid hd2
      have hk2' : k2 ≤ 50 * (t + 1) := by have := HS.out.len; omega
      have hl := HS.out.len
      have hi' : i < v.at'.l.length := by rw [HM.out]; exact hi
      have hj' : j < v.at'.l.length := by rw [HM.out]; exact hj
      have hre := real_ok v ⟨a', c', out⟩ bend i j w2 (HF.out w2 HK2.out).1 HS.out.ok (own_sl hown (by omega)) (by rw [hol]; exact hl.1) hi' hj' hij htr hbb
      have hst := see_truth HS.out.ok (h := out) (bend := bend) hol htr hbb (i := i) (j := j) hi' hj' true
      obtain ⟨r, hr⟩ : ∃ r, seeF true (realP v.p out bend) i j = r := ⟨_, rfl⟩
      dsimp only at hre
      rw [hr] at hre hst
      rw [HsB.out, HcB.out] at hst
      have hcase : (r = true ∧ cB = true) ∨ (r = false ∧ sB = false) := by
        cases r
        · right; refine ⟨rfl, ?_⟩
          cases sB
          · rfl
          · have := hst.1 rfl; cases this
        · left; exact ⟨rfl, hst.2 rfl⟩
      have HRe := Lib.hid hre
      clear hre hst hr hown htr hbb hd2 hkp2 hol hl hi' hj' hk2
      obtain ⟨c0, c1', c2, c3, c4⟩ := (HF.out w2 HK2.out).2
      go_wp2_with fail
      refine HRe.out.mono ?_
      rintro e w3 ⟨rfl, hx3⟩
      have HK3 : Hid (Keep (fun x => x ≠ D2) W0 w3) := HK2.out.ext hx3
      have HD3 := Lib.hid (HD2.out.ext hx3)
      clear hx3 HRe c0 c1' c2 c3 c4 HK2 HD2 HD HKp HF
      rcases hcase with ⟨rfl, rfl⟩ | ⟨rfl, rfl⟩
      all_goals
        go_wp2_with fail
        refine ⟨InvS2.of (t + 1) k2 rfl (by omega) hk2' HD3 HK3, ?_⟩
        simp [intOf, frS2]; omega
    · have di : decide ((t : Int) < 5) = false := decide_eq_false (by omega)
      have HXe : Hid (Ext w wq) := ext_keep HX.out HKp.out (fun i hi => by omega)
      clear HKp HD
      go_wp2_with (go_at_call 19; refine (awake_ok _).mono ?_; rintro e w7 ⟨rfl, hx7⟩; have HX7 : Hid (Ext w w7) := HXe.out.trans hx7; clear hx7)
      go_ret
      exact ⟨rfl, HX7.out⟩
/-- The same, from slots as they lie. -/
theorem sure_tail' (t : Array Value) (D2 pb i j bw bb M : Nat) (cB sB : Bool) (v : PV) (a1 : Option Addr) (n1 c1 : Nat) (w W0 W : World) (ht : t = frS D2 pb i j bw bb M cB sB (fun j => t.getD j undef)) (HS : Hid (SW W0 D2 pb a1 n1 c1 v)) (HM : Hid (v.at'.l.length = M)) (hw : w.heap.size ≤ D2) (HX : Hid (Ext w W0)) (HY : Hid (Ext W0 W))
    (HRw : Hid (Row W bw (List.replicate M 0) M ∧ W0.heap.size ≤ bw)) (HRb : Hid (Row W bb (List.replicate M 0) M ∧ W0.heap.size ≤ bb)) (hne : bw ≠ bb) (hi : i < M) (hj : j < M) (hij : i ≠ j) (HsB : Hid (seeF true v.p i j = sB)) (HcB : Hid (seeF false v.p i j = cB)) :
    Code.wp Try.prog tail4_11 (bodyPost Try.prog Try.f4 fun e w' => e = .returned (.bool true) ∧ Ext w w') ⟨t, []⟩ W := by
  rw [ht]
  exact sure_tail _ D2 pb i j bw bb M cB sB v a1 n1 c1 w W0 W HS HM hw HX HY HRw HRb hne hi hj hij HsB HcB
theorem rows_new (w : World) (M : Nat) : Row ((w.alloc (.cells (nums (List.replicate M 0)).toArray 3)).alloc (.cells (nums (List.replicate M 0)).toArray 3)) w.heap.size (List.replicate M 0) M ∧ Row ((w.alloc (.cells (nums (List.replicate M 0)).toArray 3)).alloc (.cells (nums (List.replicate M 0)).toArray 3)) (w.heap.size + 1) (List.replicate M 0) M := by
  have h : ∀ u : World, Row (u.alloc (.cells (nums (List.replicate M 0)).toArray 3)) u.heap.size (List.replicate M 0) M := fun u =>
    ⟨_, World.alloc_heap_new _ _, by simp [nums], by simp, fun i hi => by rw [List.getElem?_toArray, nums_get _ _ hi]⟩
  refine ⟨(h w).ext ((Ext.refl _).alloc _), ?_⟩
  have h2 := h (w.alloc (.cells (nums (List.replicate M 0)).toArray 3))
  rw [World.size_alloc] at h2
  exact h2
end Go.Proofs.Ytfognlealnhodaa
