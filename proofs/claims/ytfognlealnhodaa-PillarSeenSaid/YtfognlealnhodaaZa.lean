/-
  PillarSeen answers true for every input, and each argument reads afterwards as it read before: the fewest pillars hold, each sees the next one in every truth that is tried, levels prove that no fewer do, and nothing that is tried tells otherwise. No condition beyond the statement's own.
-/
import Derived.Test.YtfognlealnhodaaPT
import Derived.Test.YtfognlealnhodaaZm
import Derived.Deep.RegionHeld3
import Derived.Deep.QuietTactic
import Derived.Deep.AppendLies
import Derived.BigQuiet
import Derived.Test.YtfognlealnhodaaRows
import Derived.WalkKit
import Derived.ProofKit
import Derived.OpenShut
import Derived.ShutString
import Derived.ChangeOld
import Derived.Below
import Derived.SizedLaws
namespace Go.Proofs.Ytfognlealnhodaa
open Go.RowKit

/-- What holds of the profile and the deck. -/
structure SX (W : World) (D2 pb : Nat) (a1 : Option Addr) (n1 c1 : Nat) (v : PV) : Prop where
  prof : IsP W v
  ok : OkP v.p
  five : Five W pb v
  deck : D2 < W.heap.size
  byt : ∀ b off, a1 = some ⟨b, off, none⟩ → 0 < n1 → b < W.heap.size
  len : v.at'.l.length ≤ 12
  ne : pb ≠ D2
  apart : ∀ g off, (v.at'.a = some ⟨g, off, none⟩ → g ≠ D2) ∧ (v.gr.a = some ⟨g, off, none⟩ → g ≠ D2)
theorem SX.at {W W' : World} {D2 pb : Nat} {a1 : Option Addr} {n1 c1 : Nat} {v : PV} (h : SX W D2 pb a1 n1 c1 v) (k : Keep (fun x => x ≠ D2) W W') : IsP W' v ∧ Five W' pb v := by
  obtain ⟨c0, c1', c2, c3, c4⟩ := h.five
  exact ⟨⟨h.prof.at'.keep k (fun g off e _ => (h.apart g off).1 e), h.prof.gr.keep k (fun g off e _ => (h.apart g off).2 e)⟩, ⟨k.cell c0 h.ne, k.cell c1' h.ne, k.cell c2 h.ne, k.cell c3 h.ne, k.cell c4 h.ne⟩⟩
end Go.Proofs.Ytfognlealnhodaa

namespace Go.Proofs.Ytfognlealnhodaa
open Go.RowKit

noncomputable def tail3_22 : Code := ((Try.f3.body.bind (tailA 22)).getD .skip)
def frE22 (D2 pb l : Nat) (X : Nat → Value) : Array Value := #[X 0, X 1, X 2, X 3, X 4, X 5, .pointer (some ⟨D2, 0, none⟩), .pointer (some ⟨pb, 0, none⟩), X 8, X 9, X 10, X 11, X 12, X 13, X 14, .int .i64 (l : Int), X 16, X 17, X 18, X 19, X 20, X 21, X 22, X 23, X 24, X 25, X 26, X 27, X 28, X 29, X 30, X 31, X 32, X 33, X 34, X 35, X 36, X 37, X 38, X 39, X 40, X 41, X 42, X 43, X 44, X 45, X 46, X 47, X 48, X 49, X 50, X 51, X 52, X 53, X 54, X 55, X 56, X 57, X 58, X 59, X 60, X 61, X 62, X 63, X 64, X 65, X 66, X 67, X 68, X 69, X 70, X 71, X 72, X 73, X 74, X 75, X 76, X 77, X 78, X 79, X 80, X 81, X 82, X 83, X 84, X 85, X 86, X 87, X 88, X 89, X 90, X 91, X 92, X 93, X 94, X 95, X 96, X 97, X 98, X 99, X 100, X 101, X 102, X 103, X 104, X 105, X 106, X 107, X 108, X 109, X 110, X 111, X 112, X 113, X 114, X 115, X 116, X 117, X 118, X 119, X 120, X 121, X 122, X 123, X 124, X 125, X 126, X 127, X 128, X 129, X 130, X 131, X 132, X 133, X 134, X 135, X 136, X 137, X 138, X 139, X 140, X 141, X 142, X 143, X 144, X 145, X 146, X 147, X 148, X 149, X 150, X 151, X 152, X 153, X 154, X 155, X 156, X 157, X 158, X 159, X 160, X 161, X 162, X 163, X 164, X 165, X 166, X 167, X 168, X 169, X 170, X 171, X 172, X 173, X 174, X 175, X 176, X 177, X 178, X 179, X 180, X 181, X 182, X 183, X 184, X 185, X 186, X 187, X 188, X 189, X 190, X 191, X 192, X 193, X 194, X 195, X 196, X 197, X 198, X 199, X 200, X 201, X 202, X 203, X 204, X 205, X 206, X 207, X 208, X 209, X 210, X 211, X 212, X 213, X 214, X 215, X 216, X 217, X 218, X 219, X 220, X 221, X 222, X 223]
def frE3 (D2 pb l t : Nat) (X : Nat → Value) : Array Value := #[X 0, X 1, X 2, X 3, X 4, X 5, .pointer (some ⟨D2, 0, none⟩), .pointer (some ⟨pb, 0, none⟩), X 8, X 9, X 10, X 11, X 12, X 13, X 14, .int .i64 (l : Int), X 16, X 17, X 18, X 19, X 20, X 21, X 22, X 23, X 24, X 25, X 26, X 27, X 28, X 29, X 30, X 31, X 32, X 33, X 34, X 35, X 36, X 37, X 38, X 39, X 40, X 41, X 42, X 43, X 44, X 45, X 46, X 47, X 48, X 49, X 50, X 51, X 52, X 53, X 54, X 55, X 56, X 57, X 58, X 59, X 60, X 61, X 62, X 63, X 64, X 65, X 66, X 67, X 68, X 69, X 70, X 71, X 72, X 73, X 74, X 75, X 76, X 77, X 78, X 79, X 80, X 81, X 82, X 83, X 84, X 85, X 86, X 87, X 88, X 89, X 90, X 91, X 92, X 93, X 94, X 95, X 96, X 97, X 98, X 99, X 100, X 101, X 102, X 103, X 104, X 105, X 106, X 107, X 108, X 109, X 110, X 111, X 112, X 113, X 114, X 115, X 116, X 117, X 118, X 119, X 120, X 121, X 122, X 123, X 124, X 125, X 126, X 127, X 128, X 129, X 130, X 131, .int .i64 (t : Int), X 133, X 134, X 135, X 136, X 137, X 138, X 139, X 140, X 141, X 142, X 143, X 144, X 145, X 146, X 147, X 148, X 149, X 150, X 151, X 152, X 153, X 154, X 155, X 156, X 157, X 158, X 159, X 160, X 161, X 162, X 163, X 164, X 165, X 166, X 167, X 168, X 169, X 170, X 171, X 172, X 173, X 174, X 175, X 176, X 177, X 178, X 179, X 180, X 181, X 182, X 183, X 184, X 185, X 186, X 187, X 188, X 189, X 190, X 191, X 192, X 193, X 194, X 195, X 196, X 197, X 198, X 199, X 200, X 201, X 202, X 203, X 204, X 205, X 206, X 207, X 208, X 209, X 210, X 211, X 212, X 213, X 214, X 215, X 216, X 217, X 218, X 219, X 220, X 221, X 222, X 223]
def frE4 (D2 pb l t N i m : Nat) (M B : SL Nat) (X : Nat → Value) : Array Value := #[X 0, X 1, X 2, X 3, X 4, X 5, .pointer (some ⟨D2, 0, none⟩), .pointer (some ⟨pb, 0, none⟩), X 8, X 9, X 10, X 11, X 12, X 13, X 14, .int .i64 (l : Int), X 16, X 17, X 18, X 19, X 20, X 21, X 22, .slice M.a m M.c, .slice B.a i B.c, X 25, X 26, X 27, X 28, X 29, X 30, X 31, X 32, X 33, X 34, X 35, X 36, X 37, X 38, X 39, X 40, X 41, X 42, X 43, X 44, X 45, X 46, X 47, X 48, X 49, X 50, X 51, X 52, X 53, X 54, X 55, X 56, X 57, X 58, X 59, X 60, X 61, X 62, X 63, X 64, X 65, X 66, X 67, X 68, X 69, X 70, X 71, X 72, X 73, X 74, X 75, X 76, X 77, X 78, X 79, X 80, X 81, X 82, X 83, X 84, X 85, X 86, X 87, X 88, X 89, X 90, X 91, X 92, X 93, X 94, X 95, X 96, X 97, X 98, X 99, X 100, X 101, X 102, X 103, X 104, X 105, X 106, X 107, X 108, X 109, X 110, X 111, X 112, X 113, X 114, X 115, X 116, X 117, X 118, X 119, X 120, X 121, X 122, X 123, X 124, X 125, X 126, X 127, X 128, X 129, X 130, X 131, .int .i64 (t : Int), X 133, X 134, X 135, .int .i64 (N : Int), .int .i64 (i : Int), X 138, X 139, X 140, X 141, X 142, X 143, X 144, X 145, X 146, X 147, X 148, X 149, X 150, X 151, X 152, X 153, X 154, X 155, X 156, X 157, X 158, X 159, X 160, X 161, X 162, X 163, X 164, X 165, X 166, X 167, X 168, X 169, X 170, X 171, X 172, X 173, X 174, X 175, X 176, X 177, X 178, X 179, X 180, X 181, X 182, X 183, X 184, X 185, X 186, X 187, X 188, X 189, X 190, X 191, X 192, X 193, X 194, X 195, X 196, X 197, X 198, X 199, X 200, X 201, X 202, X 203, X 204, X 205, X 206, X 207, X 208, X 209, X 210, X 211, X 212, X 213, X 214, X 215, X 216, X 217, X 218, X 219, X 220, X 221, X 222, X 223]

/-- Pillars and labels while they are drawn: rows of their own. -/
structure RowsE (b : Nat) (M B : SL Nat) (m i j : Nat) (w : World) : Prop where
  om : w.ownsRow b 3 1 (.slice M.a m M.c) m (nums M.l)
  ol : w.ownsRow b 3 1 (.slice B.a j B.c) j (nums B.l)
  ap : ∀ g, (Value.slice M.a m M.c).ownBlock = some g → (Value.slice B.a j B.c).ownBlock ≠ some g
  ml : M.l.length = m ∧ m ≤ i ∧ ∀ x ∈ M.l, x < i
  ll : B.l.length = j ∧ ∀ x ∈ B.l, x ≤ 40
section
variable {b : Nat} {M B : SL Nat} {m i j : Nat} {w w' : World}
theorem RowsE.nil (b : Nat) (w : World) : RowsE b ⟨none, 0, []⟩ ⟨none, 0, []⟩ 0 0 0 w :=
  ⟨World.ownsRow_nil _ _ _ _, World.ownsRow_nil _ _ _ _, (fun _ h => by cases h), ⟨rfl, Nat.le_refl _, (fun _ h => by cases h)⟩, ⟨rfl, (fun _ h => by cases h)⟩⟩
theorem RowsE.ext (h : RowsE b M B m i j w) (k : Ext w w') : RowsE b M B m i j w' := ⟨own_ext h.om k, own_ext h.ol k, h.ap, h.ml, h.ll⟩
theorem RowsE.dealt {D : Nat} (h : RowsE b M B m i j w) (g : w.grownBy w' (some D)) (hD : D < b) : RowsE b M B m i j w' :=
  ⟨own_grown h.om g (fun k e e2 => by cases e2; have := (own_type h.om e).1; omega), own_grown h.ol g (fun k e e2 => by cases e2; have := (own_type h.ol e).1; omega), h.ap, h.ml, h.ll⟩
theorem RowsE.skip (h : RowsE b M B m i j w) : RowsE b M B m (i + 1) j w := ⟨h.om, h.ol, h.ap, ⟨h.ml.1, by have := h.ml.2.1; omega, fun x hx => by have := h.ml.2.2 x hx; omega⟩, h.ll⟩
theorem RowsE.addM {g c H : Nat} (h : RowsE b M B m i j w) (ho : w'.ownsRow b 3 1 (.slice (some ⟨g, 0, none⟩) (m + 1) c) (m + 1) (nums M.l ++ nums [i])) (hg : w.grownBy w' (Value.slice M.a m M.c).ownBlock) (ht : (Value.slice M.a m M.c).ownBlock = some g ∨ g = H) (hH : w.heap.size = H) : RowsE b ⟨some ⟨g, 0, none⟩, c, M.l ++ [i]⟩ B (m + 1) (i + 1) j w' := by
  refine ⟨?_, own_grown h.ol hg (fun k e e2 => h.ap k e2 e), fun k e e2 => ?_, ⟨by have := h.ml.1; simp; omega, by have := h.ml.2.1; omega, fun x hx => ?_⟩, h.ll⟩
  · rw [nums_append]; exact ho
  · cases e
    rcases ht with ht | ht
    · exact h.ap _ ht e2
    · have h2 : g < w.heap.size := (own_type h.ol e2).2.1; omega
  · rcases List.mem_append.1 hx with hx | hx
    · have := h.ml.2.2 x hx; omega
    · simp at hx; omega
theorem RowsE.addB {g c H x : Nat} (h : RowsE b M B m i j w) (hx : x ≤ 40) (ho : w'.ownsRow b 3 1 (.slice (some ⟨g, 0, none⟩) (j + 1) c) (j + 1) (nums B.l ++ nums [x])) (hg : w.grownBy w' (Value.slice B.a j B.c).ownBlock) (ht : (Value.slice B.a j B.c).ownBlock = some g ∨ g = H) (hH : w.heap.size = H) : RowsE b M ⟨some ⟨g, 0, none⟩, c, B.l ++ [x]⟩ m i (j + 1) w' := by
  refine ⟨own_grown h.om hg (fun k e e2 => h.ap k e e2), ?_, fun k e e2 => ?_, h.ml, ⟨by simp [h.ll.1], fun y hy => ?_⟩⟩
  · rw [nums_append]; exact ho
  · cases e2
    rcases ht with ht | ht
    · exact h.ap _ e ht
    · have h2 : g < w.heap.size := (own_type h.om e).2.1; omega
  · rcases List.mem_append.1 hy with hy | hy
    · exact h.ll.2 y hy
    · simp at hy; omega
theorem RowsE.rowB {g c : Nat} {l : List Nat} (h : RowsE b M ⟨some ⟨g, 0, none⟩, c, l⟩ m i j w) : Row w g l c ∧ b ≤ g := by
  have h1 := h.ol
  have h2 : l.length = j := h.ll.1
  dsimp only at h1
  rw [← h2] at h1
  exact Row.of_own h1
theorem RowsE.setB {g c k x : Nat} {l : List Nat} (h : RowsE b M ⟨some ⟨g, 0, none⟩, c, l⟩ m i j w) (hk : k < l.length) (hx : x ≤ 40) : RowsE b M ⟨some ⟨g, 0, none⟩, c, l.set k x⟩ m i j (w.setCell ⟨g, k, none⟩ (.int .i64 (x : Int))) := by
  obtain ⟨hr, hb⟩ := h.rowB
  have hlj : l.length = j := h.ll.1
  obtain ⟨g', hg', _, hcm⟩ := own_place h.ol (by omega)
  have hkp : Keep (fun z => z ≠ g) w (w.setCell ⟨g, k, none⟩ (.int .i64 (x : Int))) := (Keep.refl _ w).setCell _ _ (fun _ hh => hh rfl)
  have ho := (hr.set k x hk).own hb hcm
  rw [List.length_set, hlj] at ho
  refine ⟨own_keepB h.om hkp (fun q e e2 => ?_), ho, h.ap, h.ml, ⟨by simpa using hlj, fun y hy => ?_⟩⟩
  · subst e2
    exact h.ap q e rfl
  · rcases List.mem_or_eq_of_mem_set hy with hy | rfl
    · exact h.ll.2 y hy
    · exact hx
end
def InvE3 (D2 pb l : Nat) (a1 : Option Addr) (n1 c1 : Nat) (W0 : World) (ac : Act) (wr : World) : Prop :=
  ∃ (X : Nat → Value) (t k' : Nat), ac = { tmps := frE3 D2 pb l t X, defers := [] } ∧ t ≤ 5 ∧ k' ≤ 250 + 50 * t ∧ Hid (IsDeck wr D2 a1 n1 c1 k') ∧ Hid (Keep (fun x => x ≠ D2) W0 wr)
theorem InvE3.of {D2 pb l : Nat} {a1 : Option Addr} {n1 c1 : Nat} {W0 : World} {u : Array Value} {wr : World} (t k' : Nat) (ht : u = frE3 D2 pb l t (fun j => u.getD j undef)) (h1 : t ≤ 5) (h2 : k' ≤ 250 + 50 * t) (h3 : Hid (IsDeck wr D2 a1 n1 c1 k')) (h4 : Hid (Keep (fun x => x ≠ D2) W0 wr)) :
    InvE3 D2 pb l a1 n1 c1 W0 { tmps := u, defers := [] } wr := ⟨_, t, k', by rw [← ht], h1, h2, h3, h4⟩
def InvE4 (D2 pb l t N k0 : Nat) (a1 : Option Addr) (n1 c1 : Nat) (W0 : World) (ac : Act) (wr : World) : Prop :=
  ∃ (X : Nat → Value) (i k' m : Nat) (M B : SL Nat), ac = { tmps := frE4 D2 pb l t N i m M B X, defers := [] } ∧ i ≤ N ∧ k' ≤ k0 + 4 * i ∧ Hid (IsDeck wr D2 a1 n1 c1 k') ∧ Hid (Keep (fun x => x ≠ D2) W0 wr) ∧ Hid (RowsE W0.heap.size M B m i i wr)
theorem InvE4.of {D2 pb l t N k0 : Nat} {a1 : Option Addr} {n1 c1 : Nat} {W0 : World} {u : Array Value} {wr : World} (i k' m : Nat) (M B : SL Nat) (ht : u = frE4 D2 pb l t N i m M B (fun j => u.getD j undef)) (h1 : i ≤ N) (h2 : k' ≤ k0 + 4 * i) (h3 : Hid (IsDeck wr D2 a1 n1 c1 k')) (h4 : Hid (Keep (fun x => x ≠ D2) W0 wr)) (h5 : Hid (RowsE W0.heap.size M B m i i wr)) :
    InvE4 D2 pb l t N k0 a1 n1 c1 W0 { tmps := u, defers := [] } wr := ⟨_, i, k', m, M, B, by rw [← ht], h1, h2, h3, h4, h5⟩

set_option maxRecDepth 1000000 in
set_option maxHeartbeats 16000000 in
theorem seen_tail2 (X : Nat → Value) (D2 pb : Nat) (v : PV) (L E : List Nat) (a1 : Option Addr) (n1 c1 k9 : Nat) (w W0 wr : World) (HS : Hid (SX W0 D2 pb a1 n1 c1 v)) (HM : Hid (SeenL v.p L E)) (hw : w.heap.size ≤ D2) (HX : Hid (Ext w W0)) (hk9 : k9 ≤ 250) (HD : Hid (IsDeck wr D2 a1 n1 c1 k9)) (HKp : Hid (Keep (fun x => x ≠ D2) W0 wr)) :
    Code.wp Try.prog tail3_22 (bodyPost Try.prog Try.f3 fun e w' => e = .returned (.bool true) ∧ Ext w w') ⟨frE22 D2 pb L.length X, []⟩ wr := by
  obtain ⟨i0, hi3, hz0, hz1, hz2⟩ := info_parts info3
  conv => arg 2; whnf
  conv => arg 4; dsimp only [frE22]
  have hl41 := HM.out.most
  have hl2 := HM.out.two
  obtain ⟨l, hl⟩ : ∃ l, L.length = l := ⟨_, rfl⟩
  have HLl := Lib.hid hl
  rw [hl] at hl41 hl2 ⊢
  clear hl
  obtain ⟨N, hN⟩ : ∃ N, v.at'.l.length = N := ⟨_, rfl⟩
  have HNe := Lib.hid hN
  have hN12 : N ≤ 12 := by rw [← hN]; exact HS.out.len
  have hN2 : 2 ≤ N := by rw [← hN]; exact HS.out.ok.n1
  clear hN
  have hD0 : D2 < W0.heap.size := HS.out.deck
  go_wp2_with fail
  refine wp_loop (InvE3 D2 pb l a1 n1 c1 W0) (fun a _ => 5 - (intOf (a.tmps.getD 132 undef)).toNat) (InvE3.of 0 k9 rfl (by omega) (by omega) HD HKp) ?_
  clear HD HKp
  rintro ac wr ⟨X1, t, k', rfl, ht, hk', HD, HKp⟩
  conv => arg 4; dsimp only [frE3]
  by_cases hlt : t < 5
  · have di : decide ((t : Int) < 5) = true := decide_eq_true (by omega)
    have hwt : IntKind.i64.wrap ((t : Int) + 1) = ((t + 1 : Nat) : Int) := by rw [IntWalk.i64_in _ (by omega)]; omega
    obtain ⟨-, c0, -, -, -, -⟩ := HS.out.at HKp.out
    rw [HNe.out] at c0
    go_wp2_with fail
    refine wp_loop (InvE4 D2 pb l t N k' a1 n1 c1 W0) (fun a _ => N - (intOf (a.tmps.getD 137 undef)).toNat) (InvE4.of 0 k' 0 ⟨none, 0, []⟩ ⟨none, 0, []⟩ rfl (Nat.zero_le _) (by omega) HD HKp (RowsE.nil _ _)) ?_
    clear c0 HD HKp
    rintro ac wz ⟨X2, i, k2, m, M, B, rfl, hi, hk2, HD, HKp, HR⟩
    conv => arg 4; dsimp only [frE4]
    by_cases hlt2 : i < N
    · have dq : decide ((i : Int) < (N : Int)) = true := decide_eq_true (by omega)
      have hwi : IntKind.i64.wrap ((i : Int) + 1) = ((i + 1 : Nat) : Int) := by rw [IntWalk.i64_in _ (by omega)]; omega
      obtain ⟨-, c0, -, -, -, -⟩ := HS.out.at HKp.out
      rw [HNe.out] at c0
      have hcase : ((i : Int) == 0) = true ∨ (((i : Int) == 0) = false ∧ ((i : Int) == (N : Int) - 1) = true) ∨ (((i : Int) == 0) = false ∧ ((i : Int) == (N : Int) - 1) = false) := by
        cases h1 : ((i : Int) == 0) <;> cases h2 : ((i : Int) == (N : Int) - 1) <;> simp
      have hml1 := HR.out.ml.2.1
      have hmx : m + 1 ≤ maxLen := by unfold maxLen; omega
      have hmb : (m + 1) * 8 ≤ 140737488355328 := by omega
      rcases hcase with hb0 | ⟨hb0, hb1⟩ | ⟨hb0, hb1⟩
      · have hi0 : ¬ 0 < i := by intro h; have : ((i : Int) == 0) = false := by rw [beq_eq_false_iff_ne]; omega
                                 rw [this] at hb0; cases hb0
        have di0 : decide ((0 : Int) < (i : Int)) = false := decide_eq_false (by omega)
        have HN1 := Lib.hid (new_cells wz (nums [i]) 3)
        have hsz : W0.heap.size ≤ (wz.alloc (.cells (nums [i]).toArray 3)).heap.size := by rw [World.size_alloc]; have := HKp.out.size; omega
        go_wp2_with (at_builtin; go_must (refine wpList_append_lies _ rfl _ _ 25 rfl W0.heap.size 3 i0 (.int .i64 0) 1 8 Try.underlying25 hi3 hz0 hz1 hz2 rfl (by decide) _ m (nums M.l) rfl (own_ext HR.out.om ((Ext.refl wz).alloc _)) ⟨wz.heap.size, 0, none⟩ 1 1 (nums [i]) rfl rfl HN1.out (nums_one [i]) (by decide) hmx hmb hsz _ rfl ?_); intro g cap wm hown hgrow hat hlt5)
        have hat2 : (Value.slice M.a m M.c).ownBlock = some g ∨ g = wz.heap.size + 1 := by have := hat; rw [World.size_alloc] at this; exact this
        have HK5 : Hid (Keep (fun x => x ≠ D2) W0 wm) := (HKp.out.alloc _).grown hgrow (fun k e h => by have := (own_type HR.out.om e).1; omega)
        have HR5 := Lib.hid ((HR.out.ext ((Ext.refl wz).alloc _)).addM hown hgrow hat2 (World.size_alloc _ _))
        have HD5 : Hid (IsDeck wm D2 a1 n1 c1 k2) := (HD.out.ext ((Ext.refl wz).alloc _)).grown hgrow (fun k e => (own_type HR.out.om e).1) hD0 HS.out.byt
        have hk5 : k2 ≤ k2 + 1 := by omega
        clear hown hgrow hat hat2 hlt5 HN1 hsz
        have hmx2 : i + 1 ≤ maxLen := by unfold maxLen; omega
        have hmb2 : (i + 1) * 8 ≤ 140737488355328 := by omega
        clear hmx hmb
        refine (draw_any D2 a1 n1 c1 _ 4 wm HD5.out (by omega) (by omega)).mono ?_
        rintro e wn ⟨x, k6, hx4, hk6, rfl, hd6, hg6⟩
        have HR6 := Lib.hid (HR5.out.dealt hg6 hD0)
        have HD6 := Lib.hid hd6
        have HK6 : Hid (Keep (fun x => x ≠ D2) W0 wn) := HK5.out.grown hg6 (fun k e _ => by cases e; exact fun h => h rfl)
        have hx40 : x ≤ 40 := by omega
        clear hd6 hg6 HR5 HD5 HK5 hx4
        have HN2 := Lib.hid (new_cells wn (nums [x]) 3)
        have hsz : W0.heap.size ≤ (wn.alloc (.cells (nums [x]).toArray 3)).heap.size := by rw [World.size_alloc]; have := HK6.out.size; omega
        go_wp2_with (at_builtin; go_must (refine wpList_append_lies _ rfl _ _ 25 rfl W0.heap.size 3 i0 (.int .i64 0) 1 8 Try.underlying25 hi3 hz0 hz1 hz2 rfl (by decide) _ i (nums B.l) rfl (own_ext HR6.out.ol ((Ext.refl wn).alloc _)) ⟨wn.heap.size, 0, none⟩ 1 1 (nums [x]) rfl rfl HN2.out (nums_one [x]) (by decide) hmx2 hmb2 hsz _ rfl ?_); intro gB cB wp hown hgrow hat hlt5)
        have hat2 : (Value.slice B.a i B.c).ownBlock = some gB ∨ gB = wn.heap.size + 1 := by have := hat; rw [World.size_alloc] at this; exact this
        have HK7 : Hid (Keep (fun x => x ≠ D2) W0 wp) := (HK6.out.alloc _).grown hgrow (fun k e h => by have := (own_type HR6.out.ol e).1; omega)
        have HR7 := Lib.hid ((HR6.out.ext ((Ext.refl wn).alloc _)).addB hx40 hown hgrow hat2 (World.size_alloc _ _))
        have HD7 : Hid (IsDeck wp D2 a1 n1 c1 k6) := (HD6.out.ext ((Ext.refl wn).alloc _)).grown hgrow (fun k e => (own_type HR6.out.ol e).1) hD0 HS.out.byt
        clear hown hgrow hat hat2 hlt5 HN2 hsz HR6 HD6 HK6
        refine ⟨InvE4.of (i + 1) k6 _ _ _ ?_ (by omega) (by omega) HD7 HK7 HR7, ?_⟩
        · rfl
        · simp [intOf, frE4]; omega
      · have hi0 : 0 < i := by rw [beq_eq_false_iff_ne] at hb0; omega
        have di0 : decide ((0 : Int) < (i : Int)) = true := decide_eq_true (by omega)
        have HN1 := Lib.hid (new_cells wz (nums [i]) 3)
        have hsz : W0.heap.size ≤ (wz.alloc (.cells (nums [i]).toArray 3)).heap.size := by rw [World.size_alloc]; have := HKp.out.size; omega
        go_wp2_with (at_builtin; go_must (refine wpList_append_lies _ rfl _ _ 25 rfl W0.heap.size 3 i0 (.int .i64 0) 1 8 Try.underlying25 hi3 hz0 hz1 hz2 rfl (by decide) _ m (nums M.l) rfl (own_ext HR.out.om ((Ext.refl wz).alloc _)) ⟨wz.heap.size, 0, none⟩ 1 1 (nums [i]) rfl rfl HN1.out (nums_one [i]) (by decide) hmx hmb hsz _ rfl ?_); intro g cap wm hown hgrow hat hlt5)
        have hat2 : (Value.slice M.a m M.c).ownBlock = some g ∨ g = wz.heap.size + 1 := by have := hat; rw [World.size_alloc] at this; exact this
        have HK5 : Hid (Keep (fun x => x ≠ D2) W0 wm) := (HKp.out.alloc _).grown hgrow (fun k e h => by have := (own_type HR.out.om e).1; omega)
        have HR5 := Lib.hid ((HR.out.ext ((Ext.refl wz).alloc _)).addM hown hgrow hat2 (World.size_alloc _ _))
        have HD5 : Hid (IsDeck wm D2 a1 n1 c1 k2) := (HD.out.ext ((Ext.refl wz).alloc _)).grown hgrow (fun k e => (own_type HR.out.om e).1) hD0 HS.out.byt
        have hk5 : k2 ≤ k2 + 1 := by omega
        clear hown hgrow hat hat2 hlt5 HN1 hsz
        have hmx2 : i + 1 ≤ maxLen := by unfold maxLen; omega
        have hmb2 : (i + 1) * 8 ≤ 140737488355328 := by omega
        clear hmx hmb
        refine (draw_any D2 a1 n1 c1 _ 4 wm HD5.out (by omega) (by omega)).mono ?_
        rintro e wn ⟨x, k6, hx4, hk6, rfl, hd6, hg6⟩
        have HR6 := Lib.hid (HR5.out.dealt hg6 hD0)
        have HD6 := Lib.hid hd6
        have HK6 : Hid (Keep (fun x => x ≠ D2) W0 wn) := HK5.out.grown hg6 (fun k e _ => by cases e; exact fun h => h rfl)
        have hx40 : x ≤ 40 := by omega
        clear hd6 hg6 HR5 HD5 HK5 hx4
        have HN2 := Lib.hid (new_cells wn (nums [x]) 3)
        have hsz : W0.heap.size ≤ (wn.alloc (.cells (nums [x]).toArray 3)).heap.size := by rw [World.size_alloc]; have := HK6.out.size; omega
        go_wp2_with (at_builtin; go_must (refine wpList_append_lies _ rfl _ _ 25 rfl W0.heap.size 3 i0 (.int .i64 0) 1 8 Try.underlying25 hi3 hz0 hz1 hz2 rfl (by decide) _ i (nums B.l) rfl (own_ext HR6.out.ol ((Ext.refl wn).alloc _)) ⟨wn.heap.size, 0, none⟩ 1 1 (nums [x]) rfl rfl HN2.out (nums_one [x]) (by decide) hmx2 hmb2 hsz _ rfl ?_); intro gB cB wp hown hgrow hat hlt5)
        have hat2 : (Value.slice B.a i B.c).ownBlock = some gB ∨ gB = wn.heap.size + 1 := by have := hat; rw [World.size_alloc] at this; exact this
        have HK7 : Hid (Keep (fun x => x ≠ D2) W0 wp) := (HK6.out.alloc _).grown hgrow (fun k e h => by have := (own_type HR6.out.ol e).1; omega)
        have HR7 := Lib.hid ((HR6.out.ext ((Ext.refl wn).alloc _)).addB hx40 hown hgrow hat2 (World.size_alloc _ _))
        have HD7 : Hid (IsDeck wp D2 a1 n1 c1 k6) := (HD6.out.ext ((Ext.refl wn).alloc _)).grown hgrow (fun k e => (own_type HR6.out.ol e).1) hD0 HS.out.byt
        clear hown hgrow hat hat2 hlt5 HN2 hsz HR6 HD6 HK6
        refine (draw_any D2 a1 n1 c1 _ 3 wp HD7.out (by omega) (by omega)).mono ?_
        rintro e wq ⟨r, k7, hr3, hk7, rfl, hd7, hg7⟩
        have HR8 := Lib.hid (HR7.out.dealt hg7 hD0)
        have HD8 := Lib.hid hd7
        have HK8 : Hid (Keep (fun x => x ≠ D2) W0 wq) := HK7.out.grown hg7 (fun k e _ => by cases e; exact fun h => h rfl)
        clear hd7 hg7 HR7 HD7 HK7 hr3
        by_cases hr0 : 0 < r
        · have dr : decide ((0 : Int) < (r : Int)) = true := decide_eq_true (by omega)
          obtain ⟨p, hp⟩ : ∃ p, p + 1 = i := ⟨i - 1, by omega⟩
          have hwp : IntKind.i64.wrap ((i : Int) - 1) = (p : Int) := by rw [IntWalk.i64_in _ (by omega)]; omega
          obtain ⟨hrow, hgb⟩ := HR8.out.rowB
          have hll : (B.l ++ [x]).length = i + 1 := HR8.out.ll.1
          have hy40 := HR8.out.ll.2 _ (List.getElem_mem (show p < (B.l ++ [x]).length by omega))
          have hcy := hrow.cell p (by omega)
          have hci := hrow.cell i (by omega)
          have hfi := hrow.frozen i
          generalize (B.l ++ [x])[p]'(by omega) = y at *
          generalize hv : (B.l ++ [x])[i]'(by omega) = y2 at hci
          clear hv
          have hgD : gB ≠ D2 := by omega
          have hpi : (⟨gB, i, none⟩ : Addr) ≠ ⟨gB, p, none⟩ := fun e => by have := congrArg Addr.off e; dsimp only at this; omega
          have HCs : Hid (∀ u, Keep (fun x => x ≠ D2) wq u → u.cell? ⟨gB, p, none⟩ = some (.int .i64 (y : Int)) ∧ u.cell? ⟨gB, i, none⟩ = some (.int .i64 (y2 : Int)) ∧ u.frozen? ⟨gB, i, none⟩ = false) := fun u hu => ⟨hu.cell hcy hgD, hu.cell hci hgD, (hrow.keep hu hgD).frozen i⟩
          have HLl2 := Lib.hid hll
          have i0' : (0 : Int) ≤ (p : Int) := by omega
          have i1' : (p : Int) < ((i + 1 : Nat) : Int) := by omega
          have i2' : (0 : Int) ≤ (i : Int) := by omega
          have i3' : (i : Int) < ((i + 1 : Nat) : Int) := by omega
          have i4' : (p : Int) < (i : Int) + 1 := by omega
          have i5' : (i : Int) < (i : Int) + 1 := by omega
          clear hrow hll hcy hci hfi
          go_wp2_with fail
          go_region_held3 (fun u => u.cell? ⟨gB, p, none⟩ = some (.int .i64 (y : Int)))
            ((first | (rw [World.cell?_setCell_other _ _ _ _ hpi]; exact (HCs.out _ (by assumption)).1) | (refine (HCs.out _ ?_).1; (repeat (first | assumption | exact Keep.refl _ _ | refine Keep.drew ?_)))))
            (first
              | (go_at_call 18; refine (draw_any D2 a1 n1 c1 k7 2 _ ?_ (by omega) (by omega)).mono ?_; (exact HD8.out.ext (by repeat (first | exact Ext.refl _ | refine Ext.drew ?_))); rintro e we ⟨z, k8, hz2, hk8, rfl, hd8, hg8⟩; have hkw : Keep (fun x => x ≠ D2) wq we := (by refine Keep.grown ?_ hg8 (fun k e _ => (by cases e; exact fun h => h rfl)); (repeat (first | exact Keep.refl _ _ | refine Keep.drew ?_))); obtain ⟨-, q1, f1⟩ := HCs.out we hkw; have hwz : IntKind.i64.wrap ((y : Int) + (z : Int)) = ((y + z : Nat) : Int) := (by rw [IntWalk.i64_in _ (by omega)]; omega)))
          obtain ⟨s, hs40, hse⟩ : ∃ s : Nat, s ≤ 40 ∧ (if (y : Int) + (z : Int) < 40 then (y : Int) + (z : Int) else 40) = (s : Int) := by
            by_cases h : (y : Int) + (z : Int) < 40
            · exact ⟨y + z, by omega, by rw [if_pos h]; omega⟩
            · exact ⟨40, by omega, by rw [if_neg h]; rfl⟩
          rw [hse]
          have HR9 := Lib.hid (((HR8.out.ext (Ext.refl wq).drew).dealt hg8 hD0).setB (k := i) (by rw [HLl2.out]; omega) hs40)
          have HD9 : Hid (IsDeck (we.setCell ⟨gB, i, none⟩ (.int .i64 (s : Int))) D2 a1 n1 c1 k8) := hd8.keepD ((Keep.refl (fun q => q ≠ gB) we).setCell _ _ (fun _ h => h rfl)) (fun h => hgD h.symm) (fun b off ha hn => by have := HS.out.byt b off ha hn; omega)
          have HK9 : Hid (Keep (fun x => x ≠ D2) W0 (we.setCell ⟨gB, i, none⟩ (.int .i64 (s : Int)))) := (HK8.out.trans hkw).setCell _ _ (fun h => by dsimp only at h; omega)
          clear hse hg8 hd8 hkw q1 f1 hwz HCs HR8 HD8 HK8
          go_wp2_with fail
          refine ⟨InvE4.of (i + 1) k8 _ _ _ ?_ (by omega) (by omega) HD9 HK9 HR9, ?_⟩
          · rfl
          · simp [intOf, frE4]; omega

        · have dr : decide ((0 : Int) < (r : Int)) = false := decide_eq_false (by omega)
          have dr2 : ¬ 0 < r := hr0
          go_wp2_with fail
          refine ⟨InvE4.of (i + 1) k7 _ _ _ ?_ (by omega) (by omega) HD8 HK8 HR8, ?_⟩
          · rfl
          · simp [intOf, frE4]; omega
      · have hi0 : 0 < i := by rw [beq_eq_false_iff_ne] at hb0; omega
        have di0 : decide ((0 : Int) < (i : Int)) = true := decide_eq_true (by omega)
        go_wp2_with fail
        refine (draw_any D2 a1 n1 c1 k2 3 wz HD.out (by omega) (by omega)).mono ?_
        rintro e wa ⟨r0, ka, hra, hka, rfl, hda, hga⟩
        have HRa := Lib.hid (HR.out.dealt hga hD0)
        have HDa := Lib.hid hda
        have HKa : Hid (Keep (fun x => x ≠ D2) W0 wa) := HKp.out.grown hga (fun k e _ => by cases e; exact fun h => h rfl)
        clear hda hga hra HR HD HKp c0
        by_cases hr0 : 0 < r0
        · have dr0 : decide ((0 : Int) < (r0 : Int)) = true := decide_eq_true (by omega)
          have HN1 := Lib.hid (new_cells wa (nums [i]) 3)
          have hsz : W0.heap.size ≤ (wa.alloc (.cells (nums [i]).toArray 3)).heap.size := by rw [World.size_alloc]; have := HKa.out.size; omega
          go_wp2_with (at_builtin; go_must (refine wpList_append_lies _ rfl _ _ 25 rfl W0.heap.size 3 i0 (.int .i64 0) 1 8 Try.underlying25 hi3 hz0 hz1 hz2 rfl (by decide) _ m (nums M.l) rfl (own_ext HRa.out.om ((Ext.refl wa).alloc _)) ⟨wa.heap.size, 0, none⟩ 1 1 (nums [i]) rfl rfl HN1.out (nums_one [i]) (by decide) hmx hmb hsz _ rfl ?_); intro g cap wm hown hgrow hat hlt5)
          have hat2 : (Value.slice M.a m M.c).ownBlock = some g ∨ g = wa.heap.size + 1 := by have := hat; rw [World.size_alloc] at this; exact this
          have HK5 : Hid (Keep (fun x => x ≠ D2) W0 wm) := (HKa.out.alloc _).grown hgrow (fun k e h => by have := (own_type HRa.out.om e).1; omega)
          have HR5 := Lib.hid ((HRa.out.ext ((Ext.refl wa).alloc _)).addM hown hgrow hat2 (World.size_alloc _ _))
          have HD5 : Hid (IsDeck wm D2 a1 n1 c1 ka) := (HDa.out.ext ((Ext.refl wa).alloc _)).grown hgrow (fun k e => (own_type HRa.out.om e).1) hD0 HS.out.byt
          have hk5 : ka ≤ k2 + 1 := by omega
          clear hown hgrow hat hat2 hlt5 HN1 hsz
          have hmx2 : i + 1 ≤ maxLen := by unfold maxLen; omega
          have hmb2 : (i + 1) * 8 ≤ 140737488355328 := by omega
          clear hmx hmb
          refine (draw_any D2 a1 n1 c1 _ 4 wm HD5.out (by omega) (by omega)).mono ?_
          rintro e wn ⟨x, k6, hx4, hk6, rfl, hd6, hg6⟩
          have HR6 := Lib.hid (HR5.out.dealt hg6 hD0)
          have HD6 := Lib.hid hd6
          have HK6 : Hid (Keep (fun x => x ≠ D2) W0 wn) := HK5.out.grown hg6 (fun k e _ => by cases e; exact fun h => h rfl)
          have hx40 : x ≤ 40 := by omega
          clear hd6 hg6 HR5 HD5 HK5 hx4
          have HN2 := Lib.hid (new_cells wn (nums [x]) 3)
          have hsz : W0.heap.size ≤ (wn.alloc (.cells (nums [x]).toArray 3)).heap.size := by rw [World.size_alloc]; have := HK6.out.size; omega
          go_wp2_with (at_builtin; go_must (refine wpList_append_lies _ rfl _ _ 25 rfl W0.heap.size 3 i0 (.int .i64 0) 1 8 Try.underlying25 hi3 hz0 hz1 hz2 rfl (by decide) _ i (nums B.l) rfl (own_ext HR6.out.ol ((Ext.refl wn).alloc _)) ⟨wn.heap.size, 0, none⟩ 1 1 (nums [x]) rfl rfl HN2.out (nums_one [x]) (by decide) hmx2 hmb2 hsz _ rfl ?_); intro gB cB wp hown hgrow hat hlt5)
          have hat2 : (Value.slice B.a i B.c).ownBlock = some gB ∨ gB = wn.heap.size + 1 := by have := hat; rw [World.size_alloc] at this; exact this
          have HK7 : Hid (Keep (fun x => x ≠ D2) W0 wp) := (HK6.out.alloc _).grown hgrow (fun k e h => by have := (own_type HR6.out.ol e).1; omega)
          have HR7 := Lib.hid ((HR6.out.ext ((Ext.refl wn).alloc _)).addB hx40 hown hgrow hat2 (World.size_alloc _ _))
          have HD7 : Hid (IsDeck wp D2 a1 n1 c1 k6) := (HD6.out.ext ((Ext.refl wn).alloc _)).grown hgrow (fun k e => (own_type HR6.out.ol e).1) hD0 HS.out.byt
          clear hown hgrow hat hat2 hlt5 HN2 hsz HR6 HD6 HK6
          refine (draw_any D2 a1 n1 c1 _ 3 wp HD7.out (by omega) (by omega)).mono ?_
          rintro e wq ⟨r, k7, hr3, hk7, rfl, hd7, hg7⟩
          have HR8 := Lib.hid (HR7.out.dealt hg7 hD0)
          have HD8 := Lib.hid hd7
          have HK8 : Hid (Keep (fun x => x ≠ D2) W0 wq) := HK7.out.grown hg7 (fun k e _ => by cases e; exact fun h => h rfl)
          clear hd7 hg7 HR7 HD7 HK7 hr3
          by_cases hr0 : 0 < r
          · have dr : decide ((0 : Int) < (r : Int)) = true := decide_eq_true (by omega)
            obtain ⟨p, hp⟩ : ∃ p, p + 1 = i := ⟨i - 1, by omega⟩
            have hwp : IntKind.i64.wrap ((i : Int) - 1) = (p : Int) := by rw [IntWalk.i64_in _ (by omega)]; omega
            obtain ⟨hrow, hgb⟩ := HR8.out.rowB
            have hll : (B.l ++ [x]).length = i + 1 := HR8.out.ll.1
            have hy40 := HR8.out.ll.2 _ (List.getElem_mem (show p < (B.l ++ [x]).length by omega))
            have hcy := hrow.cell p (by omega)
            have hci := hrow.cell i (by omega)
            have hfi := hrow.frozen i
            generalize (B.l ++ [x])[p]'(by omega) = y at *
            generalize hv : (B.l ++ [x])[i]'(by omega) = y2 at hci
            clear hv
            have hgD : gB ≠ D2 := by omega
            have hpi : (⟨gB, i, none⟩ : Addr) ≠ ⟨gB, p, none⟩ := fun e => by have := congrArg Addr.off e; dsimp only at this; omega
            have HCs : Hid (∀ u, Keep (fun x => x ≠ D2) wq u → u.cell? ⟨gB, p, none⟩ = some (.int .i64 (y : Int)) ∧ u.cell? ⟨gB, i, none⟩ = some (.int .i64 (y2 : Int)) ∧ u.frozen? ⟨gB, i, none⟩ = false) := fun u hu => ⟨hu.cell hcy hgD, hu.cell hci hgD, (hrow.keep hu hgD).frozen i⟩
            have HLl2 := Lib.hid hll
            have i0' : (0 : Int) ≤ (p : Int) := by omega
            have i1' : (p : Int) < ((i + 1 : Nat) : Int) := by omega
            have i2' : (0 : Int) ≤ (i : Int) := by omega
            have i3' : (i : Int) < ((i + 1 : Nat) : Int) := by omega
            have i4' : (p : Int) < (i : Int) + 1 := by omega
            have i5' : (i : Int) < (i : Int) + 1 := by omega
            clear hrow hll hcy hci hfi
            go_wp2_with fail
            go_region_held3 (fun u => u.cell? ⟨gB, p, none⟩ = some (.int .i64 (y : Int)))
              ((first | (rw [World.cell?_setCell_other _ _ _ _ hpi]; exact (HCs.out _ (by assumption)).1) | (refine (HCs.out _ ?_).1; (repeat (first | assumption | exact Keep.refl _ _ | refine Keep.drew ?_)))))
              (first
                | (go_at_call 18; refine (draw_any D2 a1 n1 c1 k7 2 _ ?_ (by omega) (by omega)).mono ?_; (exact HD8.out.ext (by repeat (first | exact Ext.refl _ | refine Ext.drew ?_))); rintro e we ⟨z, k8, hz2, hk8, rfl, hd8, hg8⟩; have hkw : Keep (fun x => x ≠ D2) wq we := (by refine Keep.grown ?_ hg8 (fun k e _ => (by cases e; exact fun h => h rfl)); (repeat (first | exact Keep.refl _ _ | refine Keep.drew ?_))); obtain ⟨-, q1, f1⟩ := HCs.out we hkw; have hwz : IntKind.i64.wrap ((y : Int) + (z : Int)) = ((y + z : Nat) : Int) := (by rw [IntWalk.i64_in _ (by omega)]; omega)))
            obtain ⟨s, hs40, hse⟩ : ∃ s : Nat, s ≤ 40 ∧ (if (y : Int) + (z : Int) < 40 then (y : Int) + (z : Int) else 40) = (s : Int) := by
              by_cases h : (y : Int) + (z : Int) < 40
              · exact ⟨y + z, by omega, by rw [if_pos h]; omega⟩
              · exact ⟨40, by omega, by rw [if_neg h]; rfl⟩
            rw [hse]
            have HR9 := Lib.hid (((HR8.out.ext (Ext.refl wq).drew).dealt hg8 hD0).setB (k := i) (by rw [HLl2.out]; omega) hs40)
            have HD9 : Hid (IsDeck (we.setCell ⟨gB, i, none⟩ (.int .i64 (s : Int))) D2 a1 n1 c1 k8) := hd8.keepD ((Keep.refl (fun q => q ≠ gB) we).setCell _ _ (fun _ h => h rfl)) (fun h => hgD h.symm) (fun b off ha hn => by have := HS.out.byt b off ha hn; omega)
            have HK9 : Hid (Keep (fun x => x ≠ D2) W0 (we.setCell ⟨gB, i, none⟩ (.int .i64 (s : Int)))) := (HK8.out.trans hkw).setCell _ _ (fun h => by dsimp only at h; omega)
            clear hse hg8 hd8 hkw q1 f1 hwz HCs HR8 HD8 HK8
            go_wp2_with fail
            refine ⟨InvE4.of (i + 1) k8 _ _ _ ?_ (by omega) (by omega) HD9 HK9 HR9, ?_⟩
            · rfl
            · simp [intOf, frE4]; omega

          · have dr : decide ((0 : Int) < (r : Int)) = false := decide_eq_false (by omega)
            have dr2 : ¬ 0 < r := hr0
            go_wp2_with fail
            refine ⟨InvE4.of (i + 1) k7 _ _ _ ?_ (by omega) (by omega) HD8 HK8 HR8, ?_⟩
            · rfl
            · simp [intOf, frE4]; omega

        · have dr0 : decide ((0 : Int) < (r0 : Int)) = false := decide_eq_false (by omega)
          obtain ⟨wm, hwm⟩ : ∃ wm, wm = wa := ⟨_, rfl⟩
          subst hwm
          have HR5 := Lib.hid HRa.out.skip
          have HD5 := HDa
          have HK5 := HKa
          have hk5 : ka ≤ k2 + 1 := by omega
          clear HRa HDa HKa
          go_wp2_with fail
          have hmx2 : i + 1 ≤ maxLen := by unfold maxLen; omega
          have hmb2 : (i + 1) * 8 ≤ 140737488355328 := by omega
          clear hmx hmb
          refine (draw_any D2 a1 n1 c1 _ 4 wm HD5.out (by omega) (by omega)).mono ?_
          rintro e wn ⟨x, k6, hx4, hk6, rfl, hd6, hg6⟩
          have HR6 := Lib.hid (HR5.out.dealt hg6 hD0)
          have HD6 := Lib.hid hd6
          have HK6 : Hid (Keep (fun x => x ≠ D2) W0 wn) := HK5.out.grown hg6 (fun k e _ => by cases e; exact fun h => h rfl)
          have hx40 : x ≤ 40 := by omega
          clear hd6 hg6 HR5 HD5 HK5 hx4
          have HN2 := Lib.hid (new_cells wn (nums [x]) 3)
          have hsz : W0.heap.size ≤ (wn.alloc (.cells (nums [x]).toArray 3)).heap.size := by rw [World.size_alloc]; have := HK6.out.size; omega
          go_wp2_with (at_builtin; go_must (refine wpList_append_lies _ rfl _ _ 25 rfl W0.heap.size 3 i0 (.int .i64 0) 1 8 Try.underlying25 hi3 hz0 hz1 hz2 rfl (by decide) _ i (nums B.l) rfl (own_ext HR6.out.ol ((Ext.refl wn).alloc _)) ⟨wn.heap.size, 0, none⟩ 1 1 (nums [x]) rfl rfl HN2.out (nums_one [x]) (by decide) hmx2 hmb2 hsz _ rfl ?_); intro gB cB wp hown hgrow hat hlt5)
          have hat2 : (Value.slice B.a i B.c).ownBlock = some gB ∨ gB = wn.heap.size + 1 := by have := hat; rw [World.size_alloc] at this; exact this
          have HK7 : Hid (Keep (fun x => x ≠ D2) W0 wp) := (HK6.out.alloc _).grown hgrow (fun k e h => by have := (own_type HR6.out.ol e).1; omega)
          have HR7 := Lib.hid ((HR6.out.ext ((Ext.refl wn).alloc _)).addB hx40 hown hgrow hat2 (World.size_alloc _ _))
          have HD7 : Hid (IsDeck wp D2 a1 n1 c1 k6) := (HD6.out.ext ((Ext.refl wn).alloc _)).grown hgrow (fun k e => (own_type HR6.out.ol e).1) hD0 HS.out.byt
          clear hown hgrow hat hat2 hlt5 HN2 hsz HR6 HD6 HK6
          refine (draw_any D2 a1 n1 c1 _ 3 wp HD7.out (by omega) (by omega)).mono ?_
          rintro e wq ⟨r, k7, hr3, hk7, rfl, hd7, hg7⟩
          have HR8 := Lib.hid (HR7.out.dealt hg7 hD0)
          have HD8 := Lib.hid hd7
          have HK8 : Hid (Keep (fun x => x ≠ D2) W0 wq) := HK7.out.grown hg7 (fun k e _ => by cases e; exact fun h => h rfl)
          clear hd7 hg7 HR7 HD7 HK7 hr3
          by_cases hr0 : 0 < r
          · have dr : decide ((0 : Int) < (r : Int)) = true := decide_eq_true (by omega)
            obtain ⟨p, hp⟩ : ∃ p, p + 1 = i := ⟨i - 1, by omega⟩
            have hwp : IntKind.i64.wrap ((i : Int) - 1) = (p : Int) := by rw [IntWalk.i64_in _ (by omega)]; omega
            obtain ⟨hrow, hgb⟩ := HR8.out.rowB
            have hll : (B.l ++ [x]).length = i + 1 := HR8.out.ll.1
            have hy40 := HR8.out.ll.2 _ (List.getElem_mem (show p < (B.l ++ [x]).length by omega))
            have hcy := hrow.cell p (by omega)
            have hci := hrow.cell i (by omega)
            have hfi := hrow.frozen i
            generalize (B.l ++ [x])[p]'(by omega) = y at *
            generalize hv : (B.l ++ [x])[i]'(by omega) = y2 at hci
            clear hv
            have hgD : gB ≠ D2 := by omega
            have hpi : (⟨gB, i, none⟩ : Addr) ≠ ⟨gB, p, none⟩ := fun e => by have := congrArg Addr.off e; dsimp only at this; omega
            have HCs : Hid (∀ u, Keep (fun x => x ≠ D2) wq u → u.cell? ⟨gB, p, none⟩ = some (.int .i64 (y : Int)) ∧ u.cell? ⟨gB, i, none⟩ = some (.int .i64 (y2 : Int)) ∧ u.frozen? ⟨gB, i, none⟩ = false) := fun u hu => ⟨hu.cell hcy hgD, hu.cell hci hgD, (hrow.keep hu hgD).frozen i⟩
            have HLl2 := Lib.hid hll
            have i0' : (0 : Int) ≤ (p : Int) := by omega
            have i1' : (p : Int) < ((i + 1 : Nat) : Int) := by omega
            have i2' : (0 : Int) ≤ (i : Int) := by omega
            have i3' : (i : Int) < ((i + 1 : Nat) : Int) := by omega
            have i4' : (p : Int) < (i : Int) + 1 := by omega
            have i5' : (i : Int) < (i : Int) + 1 := by omega
            clear hrow hll hcy hci hfi
            go_wp2_with fail
            go_region_held3 (fun u => u.cell? ⟨gB, p, none⟩ = some (.int .i64 (y : Int)))
              ((first | (rw [World.cell?_setCell_other _ _ _ _ hpi]; exact (HCs.out _ (by assumption)).1) | (refine (HCs.out _ ?_).1; (repeat (first | assumption | exact Keep.refl _ _ | refine Keep.drew ?_)))))
              (first
                | (go_at_call 18; refine (draw_any D2 a1 n1 c1 k7 2 _ ?_ (by omega) (by omega)).mono ?_; (exact HD8.out.ext (by repeat (first | exact Ext.refl _ | refine Ext.drew ?_))); rintro e we ⟨z, k8, hz2, hk8, rfl, hd8, hg8⟩; have hkw : Keep (fun x => x ≠ D2) wq we := (by refine Keep.grown ?_ hg8 (fun k e _ => (by cases e; exact fun h => h rfl)); (repeat (first | exact Keep.refl _ _ | refine Keep.drew ?_))); obtain ⟨-, q1, f1⟩ := HCs.out we hkw; have hwz : IntKind.i64.wrap ((y : Int) + (z : Int)) = ((y + z : Nat) : Int) := (by rw [IntWalk.i64_in _ (by omega)]; omega)))
            obtain ⟨s, hs40, hse⟩ : ∃ s : Nat, s ≤ 40 ∧ (if (y : Int) + (z : Int) < 40 then (y : Int) + (z : Int) else 40) = (s : Int) := by
              by_cases h : (y : Int) + (z : Int) < 40
              · exact ⟨y + z, by omega, by rw [if_pos h]; omega⟩
              · exact ⟨40, by omega, by rw [if_neg h]; rfl⟩
            rw [hse]
            have HR9 := Lib.hid (((HR8.out.ext (Ext.refl wq).drew).dealt hg8 hD0).setB (k := i) (by rw [HLl2.out]; omega) hs40)
            have HD9 : Hid (IsDeck (we.setCell ⟨gB, i, none⟩ (.int .i64 (s : Int))) D2 a1 n1 c1 k8) := hd8.keepD ((Keep.refl (fun q => q ≠ gB) we).setCell _ _ (fun _ h => h rfl)) (fun h => hgD h.symm) (fun b off ha hn => by have := HS.out.byt b off ha hn; omega)
            have HK9 : Hid (Keep (fun x => x ≠ D2) W0 (we.setCell ⟨gB, i, none⟩ (.int .i64 (s : Int)))) := (HK8.out.trans hkw).setCell _ _ (fun h => by dsimp only at h; omega)
            clear hse hg8 hd8 hkw q1 f1 hwz HCs HR8 HD8 HK8
            go_wp2_with fail
            refine ⟨InvE4.of (i + 1) k8 _ _ _ ?_ (by omega) (by omega) HD9 HK9 HR9, ?_⟩
            · rfl
            · simp [intOf, frE4]; omega

          · have dr : decide ((0 : Int) < (r : Int)) = false := decide_eq_false (by omega)
            have dr2 : ¬ 0 < r := hr0
            go_wp2_with fail
            refine ⟨InvE4.of (i + 1) k7 _ _ _ ?_ (by omega) (by omega) HD8 HK8 HR8, ?_⟩
            · rfl
            · simp [intOf, frE4]; omega
    · obtain rfl : i = N := by omega
      have dq : decide ((i : Int) < (i : Int)) = false := decide_eq_false (by omega)
      obtain ⟨hmm, hmi, hmlt⟩ := HR.out.ml
      subst hmm
      have hbl := HR.out.ll
      have hMs : IsSl 1 num wz M := own_sl HR.out.om (by omega)
      have hBo := HR.out.ol
      have hlt1 : ∀ x ∈ M.l, x < v.at'.l.length := fun x hx => by rw [HNe.out]; exact hmlt x hx
      obtain ⟨hp, hf⟩ := HS.out.at HKp.out
      have hh := holds_ok v M wz hp HS.out.ok hMs hlt1
      have HLe : Hid (holdsF (allF true v.p) v.at'.l.length M.l = true → l ≤ M.l.length) := fun h => by rw [← HLl.out]; exact HM.out.least M.l hlt1 h
      obtain ⟨hb, hhb⟩ : ∃ hb, holdsF (allF true v.p) v.at'.l.length M.l = hb := ⟨_, rfl⟩
      rw [hhb] at hh HLe
      have HH := Lib.hid hh
      have HFa := Lib.hid hf
      have HBl := Lib.hid hbl
      have HBs : Hid (IsSl 1 num wz B) := own_sl (c := B.c) (base := W0.heap.size) (e := 3) (by rw [hbl.1]; exact hBo) (by omega)
      have HPa := Lib.hid hp
      obtain ⟨c0, c1', c2, c3, c4⟩ := HFa.out
      clear hmlt hbl hMs hBo hlt1 hp hf hh hhb HR
      go_wp2_with fail
      refine HH.out.mono ?_
      rintro e w1 ⟨rfl, hx1⟩
      have HD1 := Lib.hid (HD.out.ext hx1)
      have HK1 : Hid (Keep (fun x => x ≠ D2) W0 w1) := HKp.out.ext hx1
      have HF1 := Lib.hid (HFa.out.ext hx1)
      have hlB : B.l.length = v.at'.l.length := by rw [HBl.out.1, HNe.out]
      obtain ⟨r, hr⟩ : ∃ r, areTo (allF true v.p) B.l B.l.length B.l.length = r := ⟨_, rfl⟩
      obtain ⟨z, hz⟩ : ∃ z : Int, ((B.l[B.l.length - 1]?.getD 0 : Nat) : Int) - ((B.l[0]?.getD 0 : Nat) : Int) + 1 = z := ⟨_, rfl⟩
      have hpr := proves_ok v B w1 (HPa.out.ext hx1) HS.out.ok (HBs.out.ext hx1) hlB HBl.out.2 r hr z hz
      have HZ : Hid (r = true → z ≤ (l : Int)) := fun h => by
        have := HM.out.bound B.l hlB (by rw [hr]; exact h)
        have hle := HLl.out
        omega
      rw [HBl.out.1] at hpr
      have HPr := Lib.hid hpr
      clear hx1 hlB hr hz hpr HH HD HKp HFa HPa HBs c0 c1' c2 c3 c4
      obtain ⟨c0, c1', c2, c3, c4⟩ := HF1.out
      have hcase : (hb = true ∧ l ≤ M.l.length) ∨ hb = false := by
        cases hb
        · right; rfl
        · left; exact ⟨rfl, HLe.out rfl⟩
      have hcase2 : (r = true ∧ z ≤ (l : Int)) ∨ r = false := by
        cases r
        · right; rfl
        · left; exact ⟨rfl, HZ.out rfl⟩
      clear HLe HZ
      rcases hcase with ⟨rfl, hlm⟩ | rfl
      · have dl : decide ((M.l.length : Int) < (l : Int)) = false := decide_eq_false (by omega)
        have dl2 : decide (M.l.length < l) = false := decide_eq_false (by omega)
        rcases hcase2 with ⟨rfl, hzl⟩ | rfl
        · have dz : decide ((l : Int) < z) = false := decide_eq_false (by omega)
          simp only [if_true] at HPr
          go_wp2_with fail
          refine HPr.out.mono ?_
          rintro e w2 ⟨rfl, hx2⟩
          have HD2 := Lib.hid (HD1.out.ext hx2)
          have HK2 : Hid (Keep (fun x => x ≠ D2) W0 w2) := HK1.out.ext hx2
          clear hx2 HPr HD1 HK1 HF1 c0 c1' c2 c3 c4
          go_wp2_with fail
          refine ⟨InvE3.of (t + 1) k2 ?_ (by omega) (by omega) HD2 HK2, ?_⟩
          · rfl
          · simp [intOf, frE3]; omega
        · simp only [Bool.false_eq_true, if_false] at HPr
          go_wp2_with fail
          refine HPr.out.mono ?_
          rintro e w2 ⟨rfl, hx2⟩
          have HD2 := Lib.hid (HD1.out.ext hx2)
          have HK2 : Hid (Keep (fun x => x ≠ D2) W0 w2) := HK1.out.ext hx2
          clear hx2 HPr HD1 HK1 HF1 c0 c1' c2 c3 c4
          go_wp2_with fail
          refine ⟨InvE3.of (t + 1) k2 ?_ (by omega) (by omega) HD2 HK2, ?_⟩
          · rfl
          · simp [intOf, frE3]; omega
      · rcases hcase2 with ⟨rfl, hzl⟩ | rfl
        · have dz : decide ((l : Int) < z) = false := decide_eq_false (by omega)
          simp only [if_true] at HPr
          go_wp2_with fail
          refine HPr.out.mono ?_
          rintro e w2 ⟨rfl, hx2⟩
          have HD2 := Lib.hid (HD1.out.ext hx2)
          have HK2 : Hid (Keep (fun x => x ≠ D2) W0 w2) := HK1.out.ext hx2
          clear hx2 HPr HD1 HK1 HF1 c0 c1' c2 c3 c4
          go_wp2_with fail
          refine ⟨InvE3.of (t + 1) k2 ?_ (by omega) (by omega) HD2 HK2, ?_⟩
          · rfl
          · simp [intOf, frE3]; omega
        · simp only [Bool.false_eq_true, if_false] at HPr
          go_wp2_with fail
          refine HPr.out.mono ?_
          rintro e w2 ⟨rfl, hx2⟩
          have HD2 := Lib.hid (HD1.out.ext hx2)
          have HK2 : Hid (Keep (fun x => x ≠ D2) W0 w2) := HK1.out.ext hx2
          clear hx2 HPr HD1 HK1 HF1 c0 c1' c2 c3 c4
          go_wp2_with fail
          refine ⟨InvE3.of (t + 1) k2 ?_ (by omega) (by omega) HD2 HK2, ?_⟩
          · rfl
          · simp [intOf, frE3]; omega
  · obtain rfl : t = 5 := by omega
    have di : decide ((5 : Int) < 5) = false := by decide
    have HXe : Hid (Ext w wr) := ext_keep HX.out HKp.out (fun i hi => by omega)
    clear HKp HD
    go_wp2_with (go_at_call 19; refine (awake_ok _).mono ?_; rintro e w7 ⟨rfl, hx7⟩; have HX7 : Hid (Ext w w7) := HXe.out.trans hx7; clear hx7)
    go_ret
    exact ⟨rfl, HX7.out⟩
/-- The same, from slots as they lie. -/
theorem seen_tail2' (t : Array Value) (D2 pb l : Nat) (v : PV) (L E : List Nat) (a1 : Option Addr) (n1 c1 k9 : Nat) (w W0 wr : World) (ht : t = frE22 D2 pb l (fun j => t.getD j undef)) (hl : Hid (L.length = l)) (HS : Hid (SX W0 D2 pb a1 n1 c1 v)) (HM : Hid (SeenL v.p L E)) (hw : w.heap.size ≤ D2) (HX : Hid (Ext w W0)) (hk9 : k9 ≤ 250) (HD : Hid (IsDeck wr D2 a1 n1 c1 k9)) (HKp : Hid (Keep (fun x => x ≠ D2) W0 wr)) :
    Code.wp Try.prog tail3_22 (bodyPost Try.prog Try.f3 fun e w' => e = .returned (.bool true) ∧ Ext w w') ⟨t, []⟩ wr := by
  rw [ht, ← hl.out]
  exact seen_tail2 _ D2 pb v L E a1 n1 c1 k9 w W0 wr HS HM hw HX hk9 HD HKp
end Go.Proofs.Ytfognlealnhodaa

namespace Go.Proofs.Ytfognlealnhodaa
open Go.RowKit

noncomputable def tail3_9 : Code := ((Try.f3.body.bind (tailA 9)).getD .skip)
def frE (D2 pb lb lo l lc : Nat) (T : SL Nat) (X : Nat → Value) : Array Value := #[X 0, X 1, X 2, X 3, X 4, X 5, .pointer (some ⟨D2, 0, none⟩), .pointer (some ⟨pb, 0, none⟩), .slice T.a T.l.length T.c, .slice (some ⟨lb, lo, none⟩) l lc, X 10, X 11, X 12, X 13, X 14, .int .i64 (l : Int), X 16, X 17, X 18, X 19, X 20, X 21, X 22, X 23, X 24, X 25, X 26, X 27, X 28, X 29, X 30, X 31, X 32, X 33, X 34, X 35, X 36, X 37, X 38, X 39, X 40, X 41, X 42, X 43, X 44, X 45, X 46, X 47, X 48, X 49, X 50, X 51, X 52, X 53, X 54, X 55, X 56, X 57, X 58, X 59, X 60, X 61, X 62, X 63, X 64, X 65, X 66, X 67, X 68, X 69, X 70, X 71, X 72, X 73, X 74, X 75, X 76, X 77, X 78, X 79, X 80, X 81, X 82, X 83, X 84, X 85, X 86, X 87, X 88, X 89, X 90, X 91, X 92, X 93, X 94, X 95, X 96, X 97, X 98, X 99, X 100, X 101, X 102, X 103, X 104, X 105, X 106, X 107, X 108, X 109, X 110, X 111, X 112, X 113, X 114, X 115, X 116, X 117, X 118, X 119, X 120, X 121, X 122, X 123, X 124, X 125, X 126, X 127, X 128, X 129, X 130, X 131, X 132, X 133, X 134, X 135, X 136, X 137, X 138, X 139, X 140, X 141, X 142, X 143, X 144, X 145, X 146, X 147, X 148, X 149, X 150, X 151, X 152, X 153, X 154, X 155, X 156, X 157, X 158, X 159, X 160, X 161, X 162, X 163, X 164, X 165, X 166, X 167, X 168, X 169, X 170, X 171, X 172, X 173, X 174, X 175, X 176, X 177, X 178, X 179, X 180, X 181, X 182, X 183, X 184, X 185, X 186, X 187, X 188, X 189, X 190, X 191, X 192, X 193, X 194, X 195, X 196, X 197, X 198, X 199, X 200, X 201, X 202, X 203, X 204, X 205, X 206, X 207, X 208, X 209, X 210, X 211, X 212, X 213, X 214, X 215, X 216, X 217, X 218, X 219, X 220, X 221, X 222, X 223]
def frE1 (D2 pb lb lo l lc : Nat) (T : SL Nat) (t : Nat) (X : Nat → Value) : Array Value := #[X 0, X 1, X 2, X 3, X 4, X 5, .pointer (some ⟨D2, 0, none⟩), .pointer (some ⟨pb, 0, none⟩), .slice T.a T.l.length T.c, .slice (some ⟨lb, lo, none⟩) l lc, X 10, X 11, X 12, X 13, X 14, .int .i64 (l : Int), X 16, X 17, X 18, X 19, X 20, X 21, X 22, X 23, X 24, X 25, X 26, X 27, X 28, X 29, X 30, X 31, X 32, X 33, X 34, X 35, X 36, X 37, X 38, X 39, X 40, X 41, X 42, X 43, X 44, X 45, X 46, X 47, X 48, X 49, X 50, X 51, X 52, X 53, X 54, X 55, X 56, X 57, X 58, X 59, X 60, X 61, X 62, X 63, X 64, X 65, X 66, X 67, X 68, X 69, X 70, X 71, X 72, X 73, X 74, X 75, X 76, X 77, X 78, X 79, X 80, X 81, X 82, X 83, X 84, X 85, X 86, X 87, .int .i64 (t : Int), X 89, X 90, X 91, X 92, X 93, X 94, X 95, X 96, X 97, X 98, X 99, X 100, X 101, X 102, X 103, X 104, X 105, X 106, X 107, X 108, X 109, X 110, X 111, X 112, X 113, X 114, X 115, X 116, X 117, X 118, X 119, X 120, X 121, X 122, X 123, X 124, X 125, X 126, X 127, X 128, X 129, X 130, X 131, X 132, X 133, X 134, X 135, X 136, X 137, X 138, X 139, X 140, X 141, X 142, X 143, X 144, X 145, X 146, X 147, X 148, X 149, X 150, X 151, X 152, X 153, X 154, X 155, X 156, X 157, X 158, X 159, X 160, X 161, X 162, X 163, X 164, X 165, X 166, X 167, X 168, X 169, X 170, X 171, X 172, X 173, X 174, X 175, X 176, X 177, X 178, X 179, X 180, X 181, X 182, X 183, X 184, X 185, X 186, X 187, X 188, X 189, X 190, X 191, X 192, X 193, X 194, X 195, X 196, X 197, X 198, X 199, X 200, X 201, X 202, X 203, X 204, X 205, X 206, X 207, X 208, X 209, X 210, X 211, X 212, X 213, X 214, X 215, X 216, X 217, X 218, X 219, X 220, X 221, X 222, X 223]
def frE2 (D2 pb lb lo l lc : Nat) (T H : SL Nat) (t bend q : Nat) (X : Nat → Value) : Array Value := #[X 0, X 1, X 2, X 3, X 4, X 5, .pointer (some ⟨D2, 0, none⟩), .pointer (some ⟨pb, 0, none⟩), .slice T.a T.l.length T.c, .slice (some ⟨lb, lo, none⟩) l lc, X 10, X 11, X 12, X 13, X 14, .int .i64 (l : Int), X 16, X 17, .slice H.a H.l.length H.c, .int .i64 (bend : Int), .int .i64 (q : Int), X 21, X 22, X 23, X 24, X 25, X 26, X 27, X 28, X 29, X 30, X 31, X 32, X 33, X 34, X 35, X 36, X 37, X 38, X 39, X 40, X 41, X 42, X 43, X 44, X 45, X 46, X 47, X 48, X 49, X 50, X 51, X 52, X 53, X 54, X 55, X 56, X 57, X 58, X 59, X 60, X 61, X 62, X 63, X 64, X 65, X 66, X 67, X 68, X 69, X 70, X 71, X 72, X 73, X 74, X 75, X 76, X 77, X 78, X 79, X 80, X 81, X 82, X 83, X 84, X 85, X 86, X 87, .int .i64 (t : Int), X 89, X 90, X 91, X 92, X 93, X 94, X 95, X 96, X 97, X 98, X 99, X 100, X 101, X 102, X 103, X 104, X 105, X 106, X 107, X 108, X 109, X 110, X 111, X 112, X 113, X 114, X 115, X 116, X 117, X 118, X 119, X 120, X 121, X 122, X 123, X 124, X 125, X 126, X 127, X 128, X 129, X 130, X 131, X 132, X 133, X 134, X 135, X 136, X 137, X 138, X 139, X 140, X 141, X 142, X 143, X 144, X 145, X 146, X 147, X 148, X 149, X 150, X 151, X 152, X 153, X 154, X 155, X 156, X 157, X 158, X 159, X 160, X 161, X 162, X 163, X 164, X 165, X 166, X 167, X 168, X 169, X 170, X 171, X 172, X 173, X 174, X 175, X 176, X 177, X 178, X 179, X 180, X 181, X 182, X 183, X 184, X 185, X 186, X 187, X 188, X 189, X 190, X 191, X 192, X 193, X 194, X 195, X 196, X 197, X 198, X 199, X 200, X 201, X 202, X 203, X 204, X 205, X 206, X 207, X 208, X 209, X 210, X 211, X 212, X 213, X 214, X 215, X 216, X 217, X 218, X 219, X 220, X 221, X 222, X 223]

/-- What holds of the profile, the pillars, the truth and the deck. -/
structure SV (W : World) (D2 pb lb lo lc : Nat) (a1 : Option Addr) (n1 c1 : Nat) (v : PV) (L : List Nat) (T : SL Nat) : Prop where
  prof : IsP W v
  ok : OkP v.p
  five : Five W pb v
  deck : IsDeck W D2 a1 n1 c1 0
  len : v.gr.l.length = v.at'.l.length ∧ v.at'.l.length ≤ 12
  hi : v.hi ≤ 1000
  sp : ∀ s ∈ v.gr.l, s.1 ≤ s.2 ∧ s.2 ≤ 1000
  ne : pb ≠ D2
  apart : ∀ g off, (v.at'.a = some ⟨g, off, none⟩ → g ≠ D2) ∧ (v.gr.a = some ⟨g, off, none⟩ → g ≠ D2) ∧ (T.a = some ⟨g, off, none⟩ → g ≠ D2)
  lcell : ∀ i (h : i < L.length), W.cell? ⟨lb, lo + i, none⟩ = some (.int .i64 (L[i] : Int))
  lne : lb ≠ D2
  truth : T.l.length = v.at'.l.length ∧ truthTo T.l v.gr.l T.l.length = true
  tsl : IsSl 1 num W T
theorem SV.at {W W' : World} {D2 pb lb lo lc : Nat} {a1 : Option Addr} {n1 c1 : Nat} {v : PV} {L : List Nat} {T : SL Nat} (h : SV W D2 pb lb lo lc a1 n1 c1 v L T) (k : Keep (fun x => x ≠ D2) W W') :
    IsP W' v ∧ Five W' pb v ∧ IsSl 1 num W' T ∧ ∀ i (h : i < L.length), W'.cell? ⟨lb, lo + i, none⟩ = some (.int .i64 (L[i] : Int)) := by
  obtain ⟨c0, c1', c2, c3, c4⟩ := h.five
  exact ⟨⟨h.prof.at'.keep k (fun g off e _ => (h.apart g off).1 e), h.prof.gr.keep k (fun g off e _ => (h.apart g off).2.1 e)⟩, ⟨k.cell c0 h.ne, k.cell c1' h.ne, k.cell c2 h.ne, k.cell c3 h.ne, k.cell c4 h.ne⟩, h.tsl.keep k (fun g off e _ => (h.apart g off).2.2 e), fun i hi => k.cell (h.lcell i hi) h.lne⟩
def InvE1 (D2 pb lb lo l lc : Nat) (T : SL Nat) (a1 : Option Addr) (n1 c1 : Nat) (W0 : World) (a : Act) (wr : World) : Prop :=
  ∃ (X : Nat → Value) (t k' : Nat), a = { tmps := frE1 D2 pb lb lo l lc T t X, defers := [] } ∧ t ≤ 5 ∧ k' ≤ 50 * t ∧ Hid (IsDeck wr D2 a1 n1 c1 k') ∧ Hid (Keep (fun x => x ≠ D2) W0 wr)
theorem InvE1.of {D2 pb lb lo l lc : Nat} {T : SL Nat} {a1 : Option Addr} {n1 c1 : Nat} {W0 : World} {u : Array Value} {wr : World} (t k' : Nat) (ht : u = frE1 D2 pb lb lo l lc T t (fun j => u.getD j undef)) (h1 : t ≤ 5) (h2 : k' ≤ 50 * t) (h3 : Hid (IsDeck wr D2 a1 n1 c1 k')) (h4 : Hid (Keep (fun x => x ≠ D2) W0 wr)) :
    InvE1 D2 pb lb lo l lc T a1 n1 c1 W0 { tmps := u, defers := [] } wr := ⟨_, t, k', by rw [← ht], h1, h2, h3, h4⟩
def InvE2 (D2 pb lb lo l lc : Nat) (T H : SL Nat) (t bend : Nat) (w0 : World) (a : Act) (wr : World) : Prop :=
  ∃ (X : Nat → Value) (q : Nat), a = { tmps := frE2 D2 pb lb lo l lc T H t bend q X, defers := [] } ∧ 1 ≤ q ∧ q ≤ l ∧ Hid (Ext w0 wr)
theorem InvE2.of {D2 pb lb lo l lc : Nat} {T H : SL Nat} {t bend : Nat} {w0 : World} {u : Array Value} {wr : World} (q : Nat) (ht : u = frE2 D2 pb lb lo l lc T H t bend q (fun j => u.getD j undef)) (h1 : 1 ≤ q) (h2 : q ≤ l) (h3 : Hid (Ext w0 wr)) :
    InvE2 D2 pb lb lo l lc T H t bend w0 { tmps := u, defers := [] } wr := ⟨_, q, by rw [← ht], h1, h2, h3⟩

set_option maxRecDepth 1000000 in
set_option maxHeartbeats 16000000 in
theorem seen_tail (X : Nat → Value) (D2 pb lb lo lc : Nat) (v : PV) (L E : List Nat) (T : SL Nat) (a1 : Option Addr) (n1 c1 : Nat) (w W0 : World) (HS : Hid (SV W0 D2 pb lb lo lc a1 n1 c1 v L T)) (HM : Hid (SeenL v.p L E)) (hw : w.heap.size ≤ D2) (HX : Hid (Ext w W0)) :
    Code.wp Try.prog tail3_9 (bodyPost Try.prog Try.f3 fun e w' => e = .returned (.bool true) ∧ Ext w w') ⟨frE D2 pb lb lo L.length lc T X, []⟩ W0 := by
  conv => arg 2; whnf
  conv => arg 4; dsimp only [frE]
  have hl41 := HM.out.most
  have hl2 := HM.out.two
  have HLt := Lib.hid HM.out.lt
  have HNx := Lib.hid HM.out.nx
  obtain ⟨l, hl⟩ : ∃ l, L.length = l := ⟨_, rfl⟩
  have HLl := Lib.hid hl
  rw [hl] at hl41 hl2 ⊢
  clear hl
  go_wp2_with fail
  refine wp_loop (InvE1 D2 pb lb lo l lc T a1 n1 c1 W0) (fun a _ => 5 - (intOf (a.tmps.getD 88 undef)).toNat) (InvE1.of 0 0 rfl (by omega) (by omega) HS.out.deck (Keep.refl _ _)) ?_
  rintro ac wr ⟨X1, t, k', rfl, ht, hk', HD, HKp⟩
  conv => arg 4; dsimp only [frE1]
  by_cases hlt : t < 5
  · have di : decide ((t : Int) < 5) = true := decide_eq_true (by omega)
    have hwt : IntKind.i64.wrap ((t : Int) + 1) = ((t + 1 : Nat) : Int) := by rw [IntWalk.i64_in _ (by omega)]; omega
    obtain ⟨hp0, ⟨c0, c1', c2, c3, c4⟩, ht0, hc0⟩ := HS.out.at HKp.out
    go_wp2_with fail
    go_quiet (fail)
    have HK1 : Hid (Keep (fun x => x ≠ D2) W0 (wr.drewN nq)) := HKp.out.ext ((Ext.refl wr).drewN nq)
    have HD1 : Hid (IsDeck (wr.drewN nq) D2 a1 n1 c1 k') := HD.out.ext ((Ext.refl wr).drewN nq)
    clear c0 c1' c2 c3 c4 hp0 ht0 hc0 HKp HD
    generalize wr.drewN nq = wq at *
    by_cases ht0 : t = 0
    · have dg : decide ((0 : Int) < (t : Int)) = false := decide_eq_false (by omega)
      have dg2 : decide (0 < t) = false := decide_eq_false (by omega)
      clear ht0
      obtain ⟨hp1, -, ht1, -⟩ := HS.out.at HK1.out
      have HHs : Hid (IsSl 1 num wq T) := ht1
      have HHl : Hid (T.l.length = v.at'.l.length ∧ truthTo T.l v.gr.l T.l.length = true ∧ inB v.hi (v.lo, v.hi) = true) := ⟨HS.out.truth.1, HS.out.truth.2, by have := HS.out.ok.bb.1; dsimp only at this; simp [inB, this]⟩
      obtain ⟨k2, hk2⟩ : ∃ k2, k2 = k' := ⟨_, rfl⟩
      subst hk2
      have HD2 := HD1
      have HK2 := HK1
      clear hp1 ht1 HD1 HK1
      go_wp2_with fail
      refine wp_loop (InvE2 D2 pb lb lo l lc T T t v.hi wq) (fun a _ => l - (intOf (a.tmps.getD 20 undef)).toNat) (InvE2.of 1 rfl (by omega) (by omega) (Ext.refl _)) ?_
      rintro ac wz ⟨X2, q, rfl, hq1, hq2, HZ⟩
      conv => arg 4; dsimp only [frE2]
      by_cases hlt2 : q < l
      · have dq : decide ((q : Int) < (l : Int)) = true := decide_eq_true (by omega)
        obtain ⟨m, hm⟩ : ∃ m, m + 1 = q := ⟨q - 1, by omega⟩
        have hwm : IntKind.i64.wrap ((q : Int) - 1) = (m : Int) := by rw [IntWalk.i64_in _ (by omega)]; omega
        have hwq : IntKind.i64.wrap ((q : Int) + 1) = ((q + 1 : Nat) : Int) := by rw [IntWalk.i64_in _ (by omega)]; omega
        have i0 : (0 : Int) ≤ (m : Int) := by omega
        have i1 : (m : Int) < (l : Int) := by omega
        have i2 : (0 : Int) ≤ (q : Int) := by omega
        have i3 : (q : Int) < (l : Int) := by omega
        obtain ⟨hpz, hfz, -, hcz⟩ := HS.out.at (HK2.out.ext HZ.out)
        have hmL : m + 1 < L.length := by rw [HLl.out]; omega
        have y0 := hcz m (by omega)
        have y1 := hcz q (by omega)
        obtain ⟨hxy, hsee⟩ := HNx.out m hmL
        have hxl := HLt.out L[m] (List.getElem_mem (by omega))
        have hyl := HLt.out L[m + 1] (List.getElem_mem hmL)
        have hqe : L[q]'(by omega) = L[m + 1] := by simp only [hm]
        rw [hqe] at y1
        generalize L[m] = x at *
        generalize L[m + 1] = y at *
        clear hqe hcz
        have HRe : Hid (∀ u, Ext wz u → Calls Try.prog 17 #[v.v, .slice T.a T.l.length T.c, .int .i64 (v.hi : Int), .int .i64 (x : Int), .int .i64 (y : Int)] u fun e w' => e = .returned (.tuple #[.bool true, .int .i64 0]) ∧ Ext u w') := fun u hu => by
          have h := real_ok v T v.hi x y u (hpz.ext hu) HS.out.ok ((HHs.out.ext HZ.out).ext hu) HHl.out.1 hxl hyl (by omega) HHl.out.2.1 HHl.out.2.2
          have hst := (see_truth HS.out.ok (h := T.l) (bend := v.hi) (by rw [HHl.out.1]; exact HS.out.len.1.symm) HHl.out.2.1 HHl.out.2.2 (i := x) (j := y) hxl hyl true).1 hsee
          rw [hst] at h
          exact h
        have HCs : Hid (∀ u, Ext wz u → u.cell? ⟨pb, 0, none⟩ = some (.slice v.at'.a v.at'.l.length v.at'.c) ∧ u.cell? ⟨pb, 1, none⟩ = some (.slice v.gr.a v.gr.l.length v.gr.c) ∧ u.cell? ⟨pb, 2, none⟩ = some (.int .i64 (v.T : Int)) ∧ u.cell? ⟨pb, 3, none⟩ = some (.int .i64 (v.lo : Int)) ∧ u.cell? ⟨pb, 4, none⟩ = some (.int .i64 (v.hi : Int)) ∧ u.cell? ⟨lb, lo + m, none⟩ = some (.int .i64 (x : Int)) ∧ u.cell? ⟨lb, lo + q, none⟩ = some (.int .i64 (y : Int))) := fun u hu => by
          obtain ⟨e0, e1, e2, e3, e4⟩ := hfz.ext hu
          exact ⟨e0, e1, e2, e3, e4, hu.cell y0, hu.cell y1⟩
        clear hxy hsee hxl hyl hmL hpz hfz y0 y1
        go_wp2_with fail
        go_region_held3 (fun u => u.cell? ⟨pb, 0, none⟩ = some (.slice v.at'.a v.at'.l.length v.at'.c) ∧ u.cell? ⟨pb, 1, none⟩ = some (.slice v.gr.a v.gr.l.length v.gr.c) ∧ u.cell? ⟨pb, 2, none⟩ = some (.int .i64 (v.T : Int)) ∧ u.cell? ⟨pb, 3, none⟩ = some (.int .i64 (v.lo : Int)) ∧ u.cell? ⟨pb, 4, none⟩ = some (.int .i64 (v.hi : Int)) ∧ u.cell? ⟨lb, lo + m, none⟩ = some (.int .i64 (x : Int)) ∧ u.cell? ⟨lb, lo + q, none⟩ = some (.int .i64 (y : Int)))
          ((refine HCs.out _ ?_ <;> (repeat (first | exact Ext.refl _ | refine Ext.trans ?_ (by assumption) | refine Ext.drew ?_ | refine Ext.alloc ?_ _))))
          (first
            | (go_at_call 17; refine (HRe.out _ ?_).mono ?_; (repeat (first | exact Ext.refl _ | refine Ext.trans ?_ (by assumption) | refine Ext.drew ?_ | refine Ext.alloc ?_ _)); rintro e we ⟨rfl, hx'⟩))
        have hXe : Ext wz we := by (repeat (first | exact Ext.refl _ | refine Ext.trans ?_ (by assumption) | refine Ext.drew ?_ | refine Ext.alloc ?_ _))
        have HXe : Hid (Ext wq we) := HZ.out.trans hXe
        clear hXe hx' HCs HRe
        go_wp2_with fail
        refine ⟨InvE2.of (q + 1) rfl (by omega) (by omega) (by exact HXe), ?_⟩
        simp [intOf, frE2]; omega
      · have dq : decide ((q : Int) < (l : Int)) = false := decide_eq_false (by omega)
        have HDe := Lib.hid (HD2.out.ext HZ.out)
        have HKe : Hid (Keep (fun x => x ≠ D2) W0 wz) := HK2.out.ext HZ.out
        go_wp2_with fail
        refine ⟨InvE1.of (t + 1) k2 rfl (by omega) (by omega) HDe HKe, ?_⟩
        simp [intOf, frE1]; omega
    · have dg : decide ((0 : Int) < (t : Int)) = true := decide_eq_true (by omega)
      obtain ⟨hp1, ⟨c0, c1', c2, c3, c4⟩, -, -⟩ := HS.out.at HK1.out
      go_wp2_with fail
      refine (drawn_any D2 a1 n1 c1 k' v wq HD1.out (by omega) hp1 (by have := HS.out.len; omega) HS.out.sp ⟨HS.out.ok.bb.1, HS.out.hi⟩ (fun b off h => (HS.out.apart b off).2.1 h)).mono ?_
      rintro e w2 ⟨a', c', out, bend, k2, rfl, hown, hol, htr, hbb, hd2, hk2, hkp2⟩
      have HK2 : Hid (Keep (fun x => x ≠ D2) W0 w2) := HK1.out.transD hkp2 (fun i _ h => h)
      have HD2 := Lib.hid hd2
      have hk2' : k2 ≤ 50 * (t + 1) := by have := HS.out.len; omega
      have HHs : Hid (IsSl 1 num w2 ⟨a', c', out⟩) := own_sl hown (by have := HS.out.len; omega)
      have HHl : Hid (out.length = v.at'.l.length ∧ truthTo out v.gr.l out.length = true ∧ inB bend (v.lo, v.hi) = true) := ⟨hol.trans HS.out.len.1, htr, hbb⟩
      clear hown hol htr hbb hd2 hk2 hkp2 hp1 c0 c1' c2 c3 c4 HD1 HK1
      go_wp2_with fail
      refine wp_loop (InvE2 D2 pb lb lo l lc T (⟨a', c', out⟩ : SL Nat) t bend w2) (fun a _ => l - (intOf (a.tmps.getD 20 undef)).toNat) (InvE2.of 1 rfl (by omega) (by omega) (Ext.refl _)) ?_
      rintro ac wz ⟨X2, q, rfl, hq1, hq2, HZ⟩
      conv => arg 4; dsimp only [frE2]
      by_cases hlt2 : q < l
      · have dq : decide ((q : Int) < (l : Int)) = true := decide_eq_true (by omega)
        obtain ⟨m, hm⟩ : ∃ m, m + 1 = q := ⟨q - 1, by omega⟩
        have hwm : IntKind.i64.wrap ((q : Int) - 1) = (m : Int) := by rw [IntWalk.i64_in _ (by omega)]; omega
        have hwq : IntKind.i64.wrap ((q : Int) + 1) = ((q + 1 : Nat) : Int) := by rw [IntWalk.i64_in _ (by omega)]; omega
        have i0 : (0 : Int) ≤ (m : Int) := by omega
        have i1 : (m : Int) < (l : Int) := by omega
        have i2 : (0 : Int) ≤ (q : Int) := by omega
        have i3 : (q : Int) < (l : Int) := by omega
        obtain ⟨hpz, hfz, -, hcz⟩ := HS.out.at (HK2.out.ext HZ.out)
        have hmL : m + 1 < L.length := by rw [HLl.out]; omega
        have y0 := hcz m (by omega)
        have y1 := hcz q (by omega)
        obtain ⟨hxy, hsee⟩ := HNx.out m hmL
        have hxl := HLt.out L[m] (List.getElem_mem (by omega))
        have hyl := HLt.out L[m + 1] (List.getElem_mem hmL)
        have hqe : L[q]'(by omega) = L[m + 1] := by simp only [hm]
        rw [hqe] at y1
        generalize L[m] = x at *
        generalize L[m + 1] = y at *
        clear hqe hcz
        have HRe : Hid (∀ u, Ext wz u → Calls Try.prog 17 #[v.v, .slice (⟨a', c', out⟩ : SL Nat).a (⟨a', c', out⟩ : SL Nat).l.length (⟨a', c', out⟩ : SL Nat).c, .int .i64 (bend : Int), .int .i64 (x : Int), .int .i64 (y : Int)] u fun e w' => e = .returned (.tuple #[.bool true, .int .i64 0]) ∧ Ext u w') := fun u hu => by
          have h := real_ok v (⟨a', c', out⟩ : SL Nat) bend x y u (hpz.ext hu) HS.out.ok ((HHs.out.ext HZ.out).ext hu) HHl.out.1 hxl hyl (by omega) HHl.out.2.1 HHl.out.2.2
          have hst := (see_truth HS.out.ok (h := (⟨a', c', out⟩ : SL Nat).l) (bend := bend) (by rw [HHl.out.1]; exact HS.out.len.1.symm) HHl.out.2.1 HHl.out.2.2 (i := x) (j := y) hxl hyl true).1 hsee
          rw [hst] at h
          exact h
        have HCs : Hid (∀ u, Ext wz u → u.cell? ⟨pb, 0, none⟩ = some (.slice v.at'.a v.at'.l.length v.at'.c) ∧ u.cell? ⟨pb, 1, none⟩ = some (.slice v.gr.a v.gr.l.length v.gr.c) ∧ u.cell? ⟨pb, 2, none⟩ = some (.int .i64 (v.T : Int)) ∧ u.cell? ⟨pb, 3, none⟩ = some (.int .i64 (v.lo : Int)) ∧ u.cell? ⟨pb, 4, none⟩ = some (.int .i64 (v.hi : Int)) ∧ u.cell? ⟨lb, lo + m, none⟩ = some (.int .i64 (x : Int)) ∧ u.cell? ⟨lb, lo + q, none⟩ = some (.int .i64 (y : Int))) := fun u hu => by
          obtain ⟨e0, e1, e2, e3, e4⟩ := hfz.ext hu
          exact ⟨e0, e1, e2, e3, e4, hu.cell y0, hu.cell y1⟩
        clear hxy hsee hxl hyl hmL hpz hfz y0 y1
        go_wp2_with fail
        go_region_held3 (fun u => u.cell? ⟨pb, 0, none⟩ = some (.slice v.at'.a v.at'.l.length v.at'.c) ∧ u.cell? ⟨pb, 1, none⟩ = some (.slice v.gr.a v.gr.l.length v.gr.c) ∧ u.cell? ⟨pb, 2, none⟩ = some (.int .i64 (v.T : Int)) ∧ u.cell? ⟨pb, 3, none⟩ = some (.int .i64 (v.lo : Int)) ∧ u.cell? ⟨pb, 4, none⟩ = some (.int .i64 (v.hi : Int)) ∧ u.cell? ⟨lb, lo + m, none⟩ = some (.int .i64 (x : Int)) ∧ u.cell? ⟨lb, lo + q, none⟩ = some (.int .i64 (y : Int)))
          ((refine HCs.out _ ?_ <;> (repeat (first | exact Ext.refl _ | refine Ext.trans ?_ (by assumption) | refine Ext.drew ?_ | refine Ext.alloc ?_ _))))
          (first
            | (go_at_call 17; refine (HRe.out _ ?_).mono ?_; (repeat (first | exact Ext.refl _ | refine Ext.trans ?_ (by assumption) | refine Ext.drew ?_ | refine Ext.alloc ?_ _)); rintro e we ⟨rfl, hx'⟩))
        have hXe : Ext wz we := by (repeat (first | exact Ext.refl _ | refine Ext.trans ?_ (by assumption) | refine Ext.drew ?_ | refine Ext.alloc ?_ _))
        have HXe : Hid (Ext w2 we) := HZ.out.trans hXe
        clear hXe hx' HCs HRe
        go_wp2_with fail
        refine ⟨InvE2.of (q + 1) rfl (by omega) (by omega) (by exact HXe), ?_⟩
        simp [intOf, frE2]; omega
      · have dq : decide ((q : Int) < (l : Int)) = false := decide_eq_false (by omega)
        have HDe := Lib.hid (HD2.out.ext HZ.out)
        have HKe : Hid (Keep (fun x => x ≠ D2) W0 wz) := HK2.out.ext HZ.out
        go_wp2_with fail
        refine ⟨InvE1.of (t + 1) k2 rfl (by omega) (by omega) HDe HKe, ?_⟩
        simp [intOf, frE1]; omega
  · obtain rfl : t = 5 := by omega
    have di : decide ((5 : Int) < 5) = false := by decide
    have HSX : Hid (SX W0 D2 pb a1 n1 c1 v) := ⟨HS.out.prof, HS.out.ok, HS.out.five, HS.out.deck.lt, HS.out.deck.bytes, HS.out.len.2, HS.out.ne, fun g off => ⟨(HS.out.apart g off).1, (HS.out.apart g off).2.1⟩⟩
    repeat (first
      | exact seen_tail2' _ D2 pb l v L E a1 n1 c1 k' w W0 wr rfl HLl HSX HM hw HX (by omega) HD HKp
      | go_step)
/-- The same, from slots as they lie. -/
theorem seen_tail' (t : Array Value) (D2 pb lb lo l lc : Nat) (v : PV) (L E : List Nat) (T : SL Nat) (a1 : Option Addr) (n1 c1 : Nat) (w W0 : World) (ht : t = frE D2 pb lb lo l lc T (fun j => t.getD j undef)) (hl : Hid (L.length = l)) (HS : Hid (SV W0 D2 pb lb lo lc a1 n1 c1 v L T)) (HM : Hid (SeenL v.p L E)) (hw : w.heap.size ≤ D2) (HX : Hid (Ext w W0)) :
    Code.wp Try.prog tail3_9 (bodyPost Try.prog Try.f3 fun e w' => e = .returned (.bool true) ∧ Ext w w') ⟨t, []⟩ W0 := by
  rw [ht, ← hl.out]
  exact seen_tail _ D2 pb lb lo lc v L E T a1 n1 c1 w W0 HS HM hw HX
end Go.Proofs.Ytfognlealnhodaa

namespace Go.Proofs.Ytfognlealnhodaa
open Go.RowKit

set_option maxRecDepth 1000000 in
set_option maxHeartbeats 16000000 in
theorem pseen_any (a0 a1 : Option Addr) (n0 c0 n1 c1 : Nat) (w : World) (h0 : IsBytes w a0 n0 c0) (h1 : IsBytes w a1 n1 c1) :
    Calls Try.prog 3 #[.slice a0 n0 c0, .slice a1 n1 c1] w fun e w' => e = .returned (.bool true) ∧ Ext w w' := by
  have H1 := Lib.hid h1
  have H0 := Lib.hid h0
  clear h0 h1
  go_enter Try.func3, Try.ntmps3
  go_wp2_with fail
  refine (of_any a0 n0 c0 w H0.out).mono ?_
  rintro e w1 ⟨rfl, hd1, hx1⟩
  have HDa := Lib.hid hd1
  have HX1 := Lib.hid hx1
  clear hd1 hx1
  go_wp2_with fail
  refine (of_any a1 n1 c1 w1 (H1.out.ext HX1.out)).mono ?_
  rintro e w2 ⟨rfl, hd2, hx2⟩
  have HD1 := Lib.hid (HDa.out.ext hx2)
  have HD2 := Lib.hid hd2
  have HX2 : Hid (Ext w w2) := HX1.out.trans hx2
  have hw1 : w.heap.size < w1.heap.size := HDa.out.lt
  have hb1 : ∀ b off, a1 = some ⟨b, off, none⟩ → 0 < n1 → b < w.heap.size := fun b off ha hn => by
    obtain ⟨_, _, h3⟩ := H1.out
    obtain ⟨b', off', ha', hc⟩ := h3.resolve_left (by omega)
    rw [ha] at ha'
    cases ha'
    obtain ⟨x, _, hx⟩ := hc 0 hn
    exact lt_of_cell hx
  have HB1 := Lib.hid hb1
  clear hd2 hx2 HDa hb1
  obtain ⟨D2, hD2⟩ : ∃ D2, w1.heap.size = D2 := ⟨_, rfl⟩
  rw [hD2] at HD2 hw1
  go_wp2_with fail
  clear hD2
  refine (made_any w.heap.size a0 n0 c0 0 12 w2 HD1.out (by omega) (by omega) (by omega)).mono ?_
  rintro e w3 ⟨v, T, k3, rfl, hok, hm12, hgl, hhi, hgb, htl, htr, hoA, hoG, hoT, -, -, hk3⟩
  have h2w : D2 < w2.heap.size := HD2.out.lt
  have HD3 : Hid (IsDeck w3 D2 a1 n1 c1 0) := HD2.out.keepD hk3 (show D2 ≠ w.heap.size by omega) (fun b off ha hn => by have := HB1.out b off ha hn; omega)
  have HX3 : Hid (Ext w w3) := ext_keep HX2.out hk3 (fun i hi => by omega)
  have HOk := Lib.hid hok
  have hM : v.at'.l.length ≤ 12 ∧ 2 ≤ v.at'.l.length := ⟨hm12, hok.n1⟩
  have HPp : Hid (IsP w3 v) := ⟨own_sl hoA (show v.at'.l.length ≤ 1000000 by omega), own_slG hoG (show v.gr.l.length ≤ 1000000 by omega)⟩
  have HAp : Hid (∀ g off, (v.at'.a = some ⟨g, off, none⟩ → w2.heap.size ≤ g) ∧ (v.gr.a = some ⟨g, off, none⟩ → w2.heap.size ≤ g)) := fun g off => ⟨fun e => (own_type hoA (k := g) (by rw [show v.at'.v = .slice v.at'.a v.at'.l.length v.at'.c from rfl, e]; rfl)).1, fun e => (own_type hoG (k := g) (by rw [show v.gr.v = .slice v.gr.a v.gr.l.length v.gr.c from rfl, e]; rfl)).1⟩
  have HTr : Hid (T.l.length = v.at'.l.length ∧ truthTo T.l v.gr.l T.l.length = true ∧ IsSl 1 num w3 T ∧ ∀ g off, T.a = some ⟨g, off, none⟩ → w2.heap.size ≤ g) := ⟨htl, by rw [htl]; exact htr, own_sl hoT (show T.l.length ≤ 1000000 by omega), fun g off e => (own_type hoT (k := g) (by rw [show T.v = .slice T.a T.l.length T.c from rfl, e]; rfl)).1⟩
  have HGb : Hid (v.gr.l.length = v.at'.l.length ∧ v.hi ≤ 1000 ∧ ∀ s ∈ v.gr.l, s.1 ≤ s.2 ∧ s.2 ≤ 1000) := ⟨hgl, hhi, fun s hs => by have := hgb s hs; omega⟩
  have HSm := Lib.hid (seen_math hok)
  clear hoA hoG hoT hk3 hok hm12 hgl hhi hgb htl htr HD1 HD2 HX2 HX1
  have HF := Lib.hid (five_new w3 v)
  have HX4 : Hid (Ext w3 (w3.alloc (.cells #[.slice v.at'.a v.at'.l.length v.at'.c, .slice v.gr.a v.gr.l.length v.gr.c, .int .i64 (v.T : Int), .int .i64 (v.lo : Int), .int .i64 (v.hi : Int)] 30))) := (Ext.refl w3).alloc _
  have HDl : Hid (D2 < w3.heap.size) := HD3.out.lt
  obtain ⟨L, hL⟩ : ∃ L, fewF (needsF (allF true v.p) v.at'.l.length (v.at'.l.length - 1) (-1)) (allF true v.p) v.at'.l.length 0 = L := ⟨_, rfl⟩
  obtain ⟨E, hE⟩ : ∃ E, levelsF (allF true v.p) v.at'.l.length = E := ⟨_, rfl⟩
  have HSM : Hid (SeenL v.p L E) := by show SeenL _ _ _; rw [← hL, ← hE]; exact HSm.out
  obtain ⟨t0, t1, t2, t3, t4⟩ := HF.out
  clear HSm
  go_wp2_with fail
  generalize w3.alloc (.cells #[.slice v.at'.a v.at'.l.length v.at'.c, .slice v.gr.a v.gr.l.length v.gr.c, .int .i64 (v.T : Int), .int .i64 (v.lo : Int), .int .i64 (v.hi : Int)] 30) = w4 at *
  generalize w3.heap.size = pb at *
  have HPv : Hid (∀ w', Ext w3 w' → IsP w' v) := fun w' h => HPp.out.ext h
  have hD4 : D2 < w4.heap.size := Nat.lt_of_lt_of_le HD3.out.lt HX4.out.size
  refine (fewest_ok v w4 (HPv.out _ HX4.out) HOk.out L hL).mono ?_
  rintro e w5 ⟨la, lc, rfl, hol, hx5⟩
  have HL5 : Hid (IsSl 1 num w5 ⟨la, lc, L⟩) := own_sl hol (by have := HSM.out.most; omega)
  have HLa : Hid (∀ g off, la = some ⟨g, off, none⟩ → w4.heap.size ≤ g) := fun g off e => (own_type hol (k := g) (by rw [e]; rfl)).1
  have HX5 : Hid (Ext w3 w5) := HX4.out.trans hx5
  have HF5 := Lib.hid (HF.out.ext hx5)
  clear hol hx5 t0 t1 t2 t3 t4 HF HX4 hL
  obtain ⟨t0, t1, t2, t3, t4⟩ := HF5.out
  go_wp2_with fail
  refine (holds_ok v ⟨la, lc, L⟩ w5 (HPv.out _ HX5.out) HOk.out HL5.out HSM.out.lt).mono ?_
  rintro e w6 ⟨rfl, hx6⟩
  have HX6 : Hid (Ext w3 w6) := HX5.out.trans hx6
  have HL6 := Lib.hid (HL5.out.ext hx6)
  have HF6 := Lib.hid (HF5.out.ext hx6)
  rw [show holdsF (allF true v.p) v.at'.l.length L = true from HSM.out.hold]
  clear hx6 t0 t1 t2 t3 t4 HF5 HX5 HL5
  obtain ⟨t0, t1, t2, t3, t4⟩ := HF6.out
  go_wp2_with fail
  refine (levels_ok v w6 (HPv.out _ HX6.out) HOk.out).mono ?_
  rintro e w7 ⟨eb, rfl, her, -, hx7⟩
  rw [hE] at her
  have HX7 : Hid (Ext w3 w7) := HX6.out.trans hx7
  have HL7 := Lib.hid (HL6.out.ext hx7)
  have HF7 := Lib.hid (HF6.out.ext hx7)
  have HE7 := Lib.hid her
  clear hx7 her t0 t1 t2 t3 t4 HF6 HX6 HL6 hE
  obtain ⟨t0, t1, t2, t3, t4⟩ := HF7.out
  have hn2 := HSM.out.two
  have hel : E.length = v.at'.l.length := HSM.out.el
  have hpr := proves_ok v ⟨some ⟨eb, 0, none⟩, v.at'.l.length, E⟩ w7 (HPv.out _ HX7.out) HOk.out (HE7.out.sl (by rw [hel]; omega)) hel HSM.out.e40 true HSM.out.are (L.length : Int) (by have := HSM.out.ends; dsimp only; omega)
  dsimp only at hpr
  rw [hel] at hpr
  simp only [if_true] at hpr
  have HPr := Lib.hid hpr
  have hlb : (L.length != L.length) = false := by simp
  have hl2 : decide ((L.length : Int) < 2) = false := decide_eq_false (by omega)
  clear hpr hel
  go_wp2_with fail
  refine HPr.out.mono ?_
  rintro e w8 ⟨rfl, hx8⟩
  have HX8 : Hid (Ext w3 w8) := HX7.out.trans hx8
  have HL8 := Lib.hid (HL7.out.ext hx8)
  have HF8 := Lib.hid (HF7.out.ext hx8)
  clear hx8 t0 t1 t2 t3 t4 HF7 HX7 HL7 HE7 HPr
  obtain ⟨lb, lo, hla, hlc⟩ := HL8.out.2.2.resolve_left (by dsimp only; omega)
  dsimp only at hla hlc
  subst hla
  have hDs := HD3.out.lt
  have hbb := HOk.out.bb
  have HV : Hid (SV w8 D2 pb lb lo lc a1 n1 c1 v L T) := by
    have hgb := HGb.out
    have htr := HTr.out
    refine ⟨HPv.out _ HX8.out, HOk.out, HF8.out, HD3.out.ext HX8.out, ⟨hgb.1, hM.1⟩, hgb.2.1, hgb.2.2, ?_, fun g off => ⟨fun e => ?_, fun e => ?_, fun e => ?_⟩, fun i hi => ?_, ?_, ⟨htr.1, htr.2.1⟩, htr.2.2.1.ext HX8.out⟩
    · have := HDl.out; omega
    · have := (HAp.out g off).1 e; omega
    · have := (HAp.out g off).2 e; omega
    · have := htr.2.2.2 g off e; omega
    · have := hlc i hi 0 (by omega); simpa [num] using this
    · have := HLa.out lb lo rfl; omega
  have HXw : Hid (Ext w w8) := HX3.out.trans HX8.out
  clear hlc hDs hbb HL8 HLa HAp HTr HGb
  dsimp only
  repeat (first
    | exact seen_tail' _ D2 pb lb lo L.length lc v L E T a1 n1 c1 w w8 rfl (Lib.hid rfl) HV HSM (by omega) HXw
    | go_step)
end Go.Proofs.Ytfognlealnhodaa

namespace Go.Proofs.Ytfognlealnhodaa.pillarSeen
open Go.ChangeShapes Go.WideShapes Go.ChangeAt Go.RowKit
open Go.ChangeMaps (open_string shut_string)
set_option linter.unusedVariables false

theorem own : ownKnob Try.prog.godebug = none := by kernel_rfl
theorem laidOut : laidOutB Try.prog = true := by kernel_rfl

/-- A slice of integers that came in: it is nil, or it leads to a row of cap cells, the numbers zs, each of which fits its kind. -/
def IsRow (k : IntKind) (w : World) (a : Option Addr) (len cap : Nat) (zs : List Int) : Prop :=
  (a = none ∧ len = 0 ∧ cap = 0 ∧ zs = []) ∨
  ∃ x, a = some x ∧ len ≤ cap ∧ cap ≤ maxLen ∧ zs.length = cap ∧ (∀ i, i < zs.length → w.cell? (x.add i) = some (.int k (zs.getD i 0))) ∧ ∀ n ∈ zs, (Lit.int k n).wf = true

/-- Bytes that came in lie in memory as told. -/
theorem bytes_of {w : World} {a : Option Addr} {n c : Nat} {zs : List Int} (h : IsRow .u8 w a n c zs) (hn : n ≤ 140737488351232) : IsBytes w a n c := by
  rcases h with ⟨rfl, rfl, rfl, rfl⟩ | ⟨x, rfl, hl, hm, hz, hc, hw⟩
  · exact ⟨Nat.le_refl _, by omega, .inl rfl⟩
  · refine ⟨hl, hn, ?_⟩
    by_cases hn0 : n = 0
    · exact .inl hn0
    · right
      have h0 := hc 0 (by omega)
      obtain ⟨b, off, sp⟩ := x
      have hsp : sp = none := by
        cases sp with
        | none => rfl
        | some s =>
          exfalso
          unfold World.cell? at h0
          split at h0
          · simp [Addr.add] at h0
          · cases h0
      subst hsp
      refine ⟨b, off, rfl, fun i hi => ?_⟩
      have h1 := hc i (by omega)
      rw [Addr.add_lit] at h1
      have h2 := hw (zs.getD i 0) (by rw [List.getD_eq_getElem?_getD, List.getElem?_eq_getElem (show i < zs.length by omega)]; exact List.getElem_mem _)
      have h3 : 0 ≤ zs.getD i 0 ∧ zs.getD i 0 < 256 := by
        have h4 : IntKind.u8.min = 0 := by kernel_rfl
        have h5 : IntKind.u8.max = 255 := by kernel_rfl
        generalize zs.getD i 0 = z at h2 ⊢
        simp [Lit.wf, h4, h5] at h2
        omega
      exact ⟨(zs.getD i 0).toNat, by omega, by rw [h1, Int.toNat_of_nonneg h3.1]⟩

theorem cells5 : Try.prog.bytesOf 5 = 1 := by kernel_rfl

theorem walk (a0 : Option Addr) (len0 cap0 : Nat) (z0 : List Int) (a1 : Option Addr) (len1 cap1 : Nat) (z1 : List Int) (w : World) (w0 : IsRow .u8 w a0 len0 cap0 z0) (w1 : IsRow .u8 w a1 len1 cap1 z1) (n0 : len0 ≤ 140737488351232) (n1 : len1 ≤ 140737488351232) :
    Calls Try.prog 3 #[.slice a0 len0 cap0, .slice a1 len1 cap1] w fun e w' => e = .returned (.bool true) ∧ Below w.heap.size w w' := by
  exact pseen_any a0 a1 len0 cap0 len1 cap1 w (bytes_of w0 n0) (bytes_of w1 n1)

set_option maxRecDepth 100000 in
theorem lifted (os : Os) (started : os.Started) (H : Type) (enc : TypeId × Value → H) :
    ReturnsInHanded {} Try.checked os 3 .any (Rows.pillarSeenSpec.pre6 enc Try.prog Try.f3 Rows.pillarSeenRow.domain false) (Rows.pillarSeenSpec.post enc Try.prog Try.f3 false true false false) := by
  refine returnsInHanded_of_change_sized (C := Try.checked) own started (by kernel_rfl) Try.func3
    (ChangeSpec.witness6 (enc := enc) (C := Try.checked) false ⟨#[], #[.slice none 0 0, .slice none 0 0], []⟩ 8 (by kernel_rfl) (by kernel_rfl) (by kernel_rfl) (by kernel_rfl)) ?_
  intro W base args ds gs before hval0 hW hcnd hsz0 _
  have hsz : (DataW.weightsEach Try.prog (Try.f3.params.toList ++ Rows.pillarSeenSpec.plain.varTypes Try.prog) (ds ++ gs)).all (· ≤ reachBytes) = true := hsz0
  clear hsz0
  have hval : ∀ (j : Nat) t v, Try.f3.params[j]? = some t → args[j]? = some v → Value.okWide Try.prog W .any base t v := hval0
  have hW' := hW
  obtain ⟨p, q, hA0, hV, rfl, hfz, hnd⟩ := hW
  have hA : DataW.TrodAll enc Try.prog W 0 (fun _ => true) true Try.f3.params.toList args.toList ds p := hA0
  rw [Try.params3] at hA hval hsz
  obtain ⟨v0, vs0, d0, ds0, p0, q0, hargs, rfl, rfl, h0, r0⟩ := trodAll_cons hA
  obtain ⟨v1, vs1, d1, ds1, p1, q1, rfl, rfl, rfl, h1, r1⟩ := trodAll_cons r0
  obtain ⟨rfl, rfl, rfl⟩ := trodAll_nil r1
  obtain rfl : args = #[v0, v1] := by cases args; simp_all
  obtain ⟨rfl, rfl⟩ := trodVars_none hV
  obtain ⟨a0, len0, cap0, rfl⟩ := okWide_slice Try.underlying22 (hval 0 22 v0 rfl rfl)
  have k0 := h0
  have lt0 : ∀ x ∈ p0, x.block < W.heap.size := by obtain ⟨m, hm⟩ := k0; exact DataW.trod_lt m _ _ _ hm
  obtain ⟨z0, w0, n0⟩ : ∃ zs, IsRow .u8 W a0 len0 cap0 zs ∧ len0 ≤ 140737488351232 := by
    obtain ⟨fuel, hf⟩ := h0
    rcases open_ints Try.underlying22 Try.underlying5 (by kernel_rfl) hf with ⟨hcs, _⟩ | ⟨x, l, c, zs, hcs, _, hl, hm, hz, hx, hcell, hwz⟩
    · simp [Value.cells] at hcs
      obtain ⟨rfl, rfl, rfl⟩ := hcs
      exact ⟨[], .inl ⟨rfl, rfl, rfl, rfl⟩, Nat.zero_le _⟩
    · simp [Value.cells] at hcs
      obtain ⟨rfl, rfl, rfl⟩ := hcs
      simp only [Prod.mk.injEq] at hx
      have hr := sized_slice hsz (j := 0) (t := 22) (e := 5) rfl (by rw [hx.1]; rfl) Try.underlying22
      rw [cells5] at hr
      simp only [lits, List.length_map, List.length_take, List.length_drop] at hr
      simp only [if_true] at hz
      have hb : reachBytes = 140737488351232 := rfl
      exact ⟨zs, .inr ⟨_, rfl, hl, hm, hz, hcell, hwz⟩, by omega⟩
  obtain ⟨a1, len1, cap1, rfl⟩ := okWide_slice Try.underlying22 (hval 1 22 v1 rfl rfl)
  have k1 := h1
  have lt1 : ∀ x ∈ p1, x.block < W.heap.size := by obtain ⟨m, hm⟩ := k1; exact DataW.trod_lt m _ _ _ hm
  obtain ⟨z1, w1, n1⟩ : ∃ zs, IsRow .u8 W a1 len1 cap1 zs ∧ len1 ≤ 140737488351232 := by
    obtain ⟨fuel, hf⟩ := h1
    rcases open_ints Try.underlying22 Try.underlying5 (by kernel_rfl) hf with ⟨hcs, _⟩ | ⟨x, l, c, zs, hcs, _, hl, hm, hz, hx, hcell, hwz⟩
    · simp [Value.cells] at hcs
      obtain ⟨rfl, rfl, rfl⟩ := hcs
      exact ⟨[], .inl ⟨rfl, rfl, rfl, rfl⟩, Nat.zero_le _⟩
    · simp [Value.cells] at hcs
      obtain ⟨rfl, rfl, rfl⟩ := hcs
      simp only [Prod.mk.injEq] at hx
      have hr := sized_slice hsz (j := 1) (t := 22) (e := 5) rfl (by rw [hx.1]; rfl) Try.underlying22
      rw [cells5] at hr
      simp only [lits, List.length_map, List.length_take, List.length_drop] at hr
      simp only [if_true] at hz
      have hb : reachBytes = 140737488351232 := rfl
      exact ⟨zs, .inr ⟨_, rfl, hl, hm, hz, hcell, hwz⟩, by omega⟩
  clear hA0 hval0
  refine (walk a0 len0 cap0 z0 a1 len1 cap1 z1 W w0 w1 n0 n1).mono fun e W' ⟨he, bel⟩ => ?_
  subst he
  exact ⟨_, rfl, _, _, _, [], _, [], hW', trodAll_mk1 (shut_bool Try.underlying4 _), (trodAll_cons_mk (Below.trod laidOut (by kernel_rfl) (of_decide_eq_true (by kernel_rfl)) k0 bel lt0) (trodAll_cons_mk (Below.trod laidOut (by kernel_rfl) (of_decide_eq_true (by kernel_rfl)) k1 bel lt1) trodAll_mk0)), rfl, bel.frame _, fun h => by cases h⟩

theorem over : Rows.pillarSeenRow.holds Try.pinned (OpenSpec.ofChange Rows.pillarSeenSpec) :=
  OpenClaim.holds_of_wide 3 Try.f3 rfl rfl rfl rfl rfl rfl rfl ⟨rfl, rfl, rfl, rfl, rfl⟩ rfl rfl rfl rfl rfl (by kernel_rfl) Try.func3 (by kernel_rfl)
    (of_decide_eq_true (by kernel_rfl)) (by unfold Func.isWrapper; first | (rw [if_pos (by decide +kernel)]; kernel_rfl) | (rw [if_neg (by decide +kernel)]; exact ⟨rfl, rfl⟩))
    (fun os started H enc _ => lifted os started H enc)

/-- The statement. -/
theorem proved : Rows.PillarSeenSaid := over
#print axioms proved
end Go.Proofs.Ytfognlealnhodaa.pillarSeen
