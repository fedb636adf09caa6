/-
  PillarMended answers true for every input, and each argument reads afterwards as it read before: pillars that replace a lost one hold, are the fewest, and lie between its neighbours. No condition beyond the statement's own.
-/
import Derived.Test.YtfognlealnhodaaPT
import Derived.Test.YtfognlealnhodaaA
import Derived.Test.YtfognlealnhodaaZn
import Derived.Deep.RegionHeld3
import Derived.Deep.QuietTactic
import Derived.Deep.AppendLies
import Derived.BigQuiet
import Derived.Test.YtfognlealnhodaaY
import Derived.Test.YtfognlealnhodaaRows
import Derived.WalkKit
import Derived.ProofKit
import Derived.OpenShut
import Derived.ShutString
import Derived.ChangeOld
import Derived.Below
import Derived.SizedLaws
namespace Go.Proofs.Ytfognlealnhodaa
open Go.RowKit

/-- What holds of the profile and the deck. -/
structure SX (W : World) (D2 pb : Nat) (a1 : Option Addr) (n1 c1 : Nat) (v : PV) : Prop where
  prof : IsP W v
  ok : OkP v.p
  five : Five W pb v
  deck : D2 < W.heap.size
  byt : ∀ b off, a1 = some ⟨b, off, none⟩ → 0 < n1 → b < W.heap.size
  len : v.at'.l.length ≤ 12
  ne : pb ≠ D2
  apart : ∀ g off, (v.at'.a = some ⟨g, off, none⟩ → g ≠ D2) ∧ (v.gr.a = some ⟨g, off, none⟩ → g ≠ D2)
theorem SX.at {W W' : World} {D2 pb : Nat} {a1 : Option Addr} {n1 c1 : Nat} {v : PV} (h : SX W D2 pb a1 n1 c1 v) (k : Keep (fun x => x ≠ D2) W W') : IsP W' v ∧ Five W' pb v := by
  obtain ⟨c0, c1', c2, c3, c4⟩ := h.five
  exact ⟨⟨h.prof.at'.keep k (fun g off e _ => (h.apart g off).1 e), h.prof.gr.keep k (fun g off e _ => (h.apart g off).2 e)⟩, ⟨k.cell c0 h.ne, k.cell c1' h.ne, k.cell c2 h.ne, k.cell c3 h.ne, k.cell c4 h.ne⟩⟩
end Go.Proofs.Ytfognlealnhodaa

namespace Go.Proofs.Ytfognlealnhodaa
open Go.RowKit

/-- What Fold makes of a number. -/
def foldN (x : Int) (m : Nat) : Nat := ((x.tmod (m : Int) + (m : Int)).tmod (m : Int)).toNat
theorem foldN_spec (x : Int) (m : Nat) (hm : 1 ≤ m) : foldN x m < m ∧ (x.tmod (m : Int) + (m : Int)).tmod (m : Int) = (foldN x m : Int) := by
  have q := Int.tmod_lt_of_pos x (show (0 : Int) < m by omega)
  have q2 := Int.lt_tmod_of_pos x (show (0 : Int) < m by omega)
  have h0 := Int.tmod_nonneg (a := x.tmod (m : Int) + (m : Int)) (m : Int) (by omega)
  have h1 := Int.tmod_lt_of_pos (x.tmod (m : Int) + (m : Int)) (show (0 : Int) < m by omega)
  unfold foldN
  omega
theorem fold_q (x : Int) (m : Nat) (w : World) (hm : 1 ≤ m) (hm2 : m ≤ 1000000) : Calls Try.prog 20 #[.int .i64 x, .int .i64 (m : Int)] w fun e w' => e = .returned (.int .i64 (foldN x m : Int)) ∧ w = w' := by
  have d1 : decide ((m : Int) ≤ 0) = false := decide_eq_false (by omega)
  have h0 : ((m : Int) == 0) = false := by rw [beq_eq_false_iff_ne]; omega
  obtain ⟨hr1, hr2⟩ := foldN_spec x m hm
  have q := Int.tmod_lt_of_pos x (show (0 : Int) < m by omega)
  have q2 := Int.lt_tmod_of_pos x (show (0 : Int) < m by omega)
  generalize foldN x m = r at *
  obtain ⟨t, ht⟩ : ∃ t, x.tmod (m : Int) = t := ⟨_, rfl⟩
  rw [ht] at hr2 q q2
  have w1 : IntKind.i64.wrap t = t := IntWalk.i64_in _ (by omega)
  have w2 : IntKind.i64.wrap (t + (m : Int)) = t + (m : Int) := IntWalk.i64_in _ (by omega)
  have w3 : IntKind.i64.wrap (r : Int) = (r : Int) := IntWalk.i64_in _ (by omega)
  have hne : (m : Int) ≠ 0 := by omega
  have hn0 : m ≠ 0 := by omega
  go_enter Try.func20, Try.ntmps20
  go_wp2
  go_ret
  exact ⟨rfl, rfl⟩
end Go.Proofs.Ytfognlealnhodaa

namespace Go.Proofs.Ytfognlealnhodaa
open Go.RowKit

noncomputable def tail7_54 : Code := ((Try.f7.body.bind (tailA 54)).getD .skip)
def frM54 (D2 pb lb lo n lc k : Nat) (R : SL Nat) (X : Nat → Value) : Array Value := #[X 0, X 1, X 2, X 3, X 4, X 5, X 6, X 7, .pointer (some ⟨D2, 0, none⟩), .pointer (some ⟨pb, 0, none⟩), X 10, .slice (some ⟨lb, lo, none⟩) n lc, X 12, X 13, X 14, X 15, X 16, X 17, X 18, X 19, X 20, .int .i64 (k : Int), .slice R.a R.l.length R.c, X 23, X 24, X 25, X 26, X 27, X 28, X 29, X 30, X 31, X 32, X 33, X 34, X 35, X 36, X 37, X 38, X 39, X 40, X 41, X 42, X 43, X 44, X 45, X 46, X 47, X 48, X 49, X 50, X 51, X 52, X 53, X 54, X 55, X 56, X 57, X 58, X 59, X 60, X 61, X 62, X 63, X 64, X 65, X 66, X 67, X 68, X 69, X 70, X 71, X 72, X 73, X 74, X 75, X 76, X 77, X 78, X 79, X 80, X 81, X 82, X 83, X 84, X 85, X 86, X 87, X 88, X 89, X 90, X 91, X 92, X 93, X 94, X 95, X 96, X 97, X 98, X 99, X 100, X 101, X 102, X 103, X 104, X 105, X 106, X 107, X 108, X 109, X 110, X 111, X 112, X 113, X 114, X 115, X 116, X 117, X 118, X 119, X 120, X 121, X 122, X 123, X 124, X 125, X 126, X 127, X 128, X 129, X 130, X 131, X 132, X 133, X 134, X 135, X 136, X 137, X 138, X 139, X 140, X 141, X 142, X 143, X 144, X 145, X 146, X 147, X 148, X 149, X 150, X 151, X 152, X 153, X 154, X 155, X 156, X 157, X 158, X 159, X 160, X 161, X 162, X 163, X 164, X 165, X 166, X 167, X 168, X 169, X 170, X 171, X 172, X 173, X 174, X 175, X 176, X 177, X 178, X 179, X 180, X 181, X 182, X 183, X 184, X 185, X 186, X 187, X 188, X 189, X 190, X 191, X 192, X 193, X 194, X 195, X 196, X 197, X 198, X 199, X 200, X 201, X 202, X 203, X 204, X 205, X 206, X 207, X 208, X 209, X 210, X 211, X 212, X 213, X 214, X 215, X 216, X 217, X 218, X 219, X 220, X 221, X 222, X 223, X 224, X 225, X 226, X 227, X 228, X 229, X 230, X 231, X 232, X 233, X 234, X 235, X 236, X 237, X 238, X 239, X 240, X 241, X 242, X 243, X 244, X 245, X 246, X 247, X 248, X 249, X 250, X 251, X 252, X 253, X 254, X 255, X 256, X 257, X 258, X 259, X 260, X 261, X 262, X 263, X 264, X 265, X 266, X 267, X 268, X 269, X 270, X 271, X 272, X 273, X 274, X 275, X 276, X 277, X 278, X 279, X 280, X 281, X 282, X 283, X 284, X 285, X 286, X 287, X 288, X 289, X 290, X 291, X 292, X 293, X 294, X 295, X 296, X 297, X 298, X 299, X 300, X 301, X 302, X 303, X 304, X 305, X 306, X 307, X 308, X 309, X 310, X 311, X 312, X 313, X 314, X 315, X 316, X 317, X 318, X 319, X 320, X 321, X 322, X 323, X 324, X 325, X 326, X 327, X 328, X 329, X 330, X 331, X 332, X 333, X 334, X 335, X 336, X 337, X 338, X 339, X 340, X 341]
def frM6 (D2 pb lb lo n lc k t : Nat) (R : SL Nat) (X : Nat → Value) : Array Value := #[X 0, X 1, X 2, X 3, X 4, X 5, X 6, X 7, .pointer (some ⟨D2, 0, none⟩), .pointer (some ⟨pb, 0, none⟩), X 10, .slice (some ⟨lb, lo, none⟩) n lc, X 12, X 13, X 14, X 15, X 16, X 17, X 18, X 19, X 20, .int .i64 (k : Int), .slice R.a R.l.length R.c, X 23, X 24, X 25, X 26, X 27, X 28, X 29, X 30, X 31, X 32, X 33, X 34, X 35, X 36, X 37, X 38, X 39, X 40, X 41, X 42, X 43, X 44, X 45, X 46, X 47, X 48, X 49, X 50, X 51, X 52, X 53, X 54, X 55, X 56, X 57, X 58, X 59, X 60, X 61, X 62, X 63, X 64, X 65, X 66, X 67, X 68, X 69, X 70, X 71, X 72, X 73, X 74, X 75, X 76, X 77, X 78, X 79, X 80, X 81, X 82, X 83, X 84, X 85, X 86, X 87, X 88, X 89, X 90, X 91, X 92, X 93, X 94, X 95, X 96, X 97, X 98, X 99, X 100, X 101, X 102, X 103, X 104, X 105, X 106, X 107, X 108, X 109, X 110, X 111, X 112, X 113, X 114, X 115, X 116, X 117, X 118, X 119, X 120, X 121, X 122, X 123, X 124, X 125, X 126, X 127, X 128, X 129, X 130, X 131, X 132, X 133, X 134, X 135, X 136, X 137, X 138, X 139, X 140, X 141, X 142, X 143, X 144, X 145, X 146, X 147, X 148, X 149, X 150, X 151, X 152, X 153, X 154, X 155, X 156, X 157, X 158, X 159, X 160, X 161, X 162, X 163, X 164, X 165, X 166, X 167, X 168, X 169, X 170, X 171, X 172, X 173, X 174, X 175, X 176, X 177, X 178, X 179, X 180, X 181, X 182, X 183, X 184, X 185, X 186, X 187, X 188, X 189, X 190, X 191, X 192, X 193, X 194, X 195, X 196, X 197, X 198, X 199, X 200, X 201, X 202, X 203, X 204, X 205, X 206, X 207, X 208, X 209, X 210, X 211, X 212, X 213, X 214, X 215, X 216, X 217, X 218, X 219, X 220, X 221, X 222, X 223, X 224, X 225, X 226, X 227, X 228, X 229, X 230, X 231, X 232, X 233, X 234, X 235, X 236, X 237, X 238, X 239, X 240, X 241, X 242, X 243, X 244, X 245, X 246, X 247, X 248, X 249, X 250, X 251, X 252, X 253, X 254, X 255, X 256, X 257, X 258, X 259, X 260, X 261, X 262, X 263, X 264, X 265, X 266, X 267, X 268, X 269, X 270, X 271, X 272, X 273, X 274, X 275, X 276, X 277, X 278, X 279, .int .i64 (t : Int), X 281, X 282, X 283, X 284, X 285, X 286, X 287, X 288, X 289, X 290, X 291, X 292, X 293, X 294, X 295, X 296, X 297, X 298, X 299, X 300, X 301, X 302, X 303, X 304, X 305, X 306, X 307, X 308, X 309, X 310, X 311, X 312, X 313, X 314, X 315, X 316, X 317, X 318, X 319, X 320, X 321, X 322, X 323, X 324, X 325, X 326, X 327, X 328, X 329, X 330, X 331, X 332, X 333, X 334, X 335, X 336, X 337, X 338, X 339, X 340, X 341]
def frM7 (D2 pb lb lo n lc k t m x : Nat) (R M : SL Nat) (X : Nat → Value) : Array Value := #[X 0, X 1, X 2, X 3, X 4, X 5, X 6, X 7, .pointer (some ⟨D2, 0, none⟩), .pointer (some ⟨pb, 0, none⟩), X 10, .slice (some ⟨lb, lo, none⟩) n lc, X 12, X 13, X 14, X 15, X 16, X 17, X 18, X 19, X 20, .int .i64 (k : Int), .slice R.a R.l.length R.c, X 23, X 24, X 25, X 26, X 27, X 28, X 29, X 30, X 31, X 32, X 33, X 34, X 35, X 36, .slice M.a m M.c, .int .i64 (x : Int), X 39, X 40, X 41, X 42, X 43, X 44, X 45, X 46, X 47, X 48, X 49, X 50, X 51, X 52, X 53, X 54, X 55, X 56, X 57, X 58, X 59, X 60, X 61, X 62, X 63, X 64, X 65, X 66, X 67, X 68, X 69, X 70, X 71, X 72, X 73, X 74, X 75, X 76, X 77, X 78, X 79, X 80, X 81, X 82, X 83, X 84, X 85, X 86, X 87, X 88, X 89, X 90, X 91, X 92, X 93, X 94, X 95, X 96, X 97, X 98, X 99, X 100, X 101, X 102, X 103, X 104, X 105, X 106, X 107, X 108, X 109, X 110, X 111, X 112, X 113, X 114, X 115, X 116, X 117, X 118, X 119, X 120, X 121, X 122, X 123, X 124, X 125, X 126, X 127, X 128, X 129, X 130, X 131, X 132, X 133, X 134, X 135, X 136, X 137, X 138, X 139, X 140, X 141, X 142, X 143, X 144, X 145, X 146, X 147, X 148, X 149, X 150, X 151, X 152, X 153, X 154, X 155, X 156, X 157, X 158, X 159, X 160, X 161, X 162, X 163, X 164, X 165, X 166, X 167, X 168, X 169, X 170, X 171, X 172, X 173, X 174, X 175, X 176, X 177, X 178, X 179, X 180, X 181, X 182, X 183, X 184, X 185, X 186, X 187, X 188, X 189, X 190, X 191, X 192, X 193, X 194, X 195, X 196, X 197, X 198, X 199, X 200, X 201, X 202, X 203, X 204, X 205, X 206, X 207, X 208, X 209, X 210, X 211, X 212, X 213, X 214, X 215, X 216, X 217, X 218, X 219, X 220, X 221, X 222, X 223, X 224, X 225, X 226, X 227, X 228, X 229, X 230, X 231, X 232, X 233, X 234, X 235, X 236, X 237, X 238, X 239, X 240, X 241, X 242, X 243, X 244, X 245, X 246, X 247, X 248, X 249, X 250, X 251, X 252, X 253, X 254, X 255, X 256, X 257, X 258, X 259, X 260, X 261, X 262, X 263, X 264, X 265, X 266, X 267, X 268, X 269, X 270, X 271, X 272, X 273, X 274, X 275, X 276, X 277, X 278, X 279, .int .i64 (t : Int), X 281, X 282, X 283, X 284, X 285, X 286, X 287, X 288, X 289, X 290, X 291, X 292, X 293, X 294, X 295, X 296, X 297, X 298, X 299, X 300, X 301, X 302, X 303, X 304, X 305, X 306, X 307, X 308, X 309, X 310, X 311, X 312, X 313, X 314, X 315, X 316, X 317, X 318, X 319, X 320, X 321, X 322, X 323, X 324, X 325, X 326, X 327, X 328, X 329, X 330, X 331, X 332, X 333, X 334, X 335, X 336, X 337, X 338, X 339, X 340, X 341]

/-- What holds of the profile, of the pillars, and of those that are returned. -/
structure SM (W : World) (D2 pb lb lo n lc k : Nat) (a1 : Option Addr) (n1 c1 : Nat) (v : PV) (A B : List Nat) (f x0 g : Nat) (R : SL Nat) : Prop where
  sx : SX W D2 pb a1 n1 c1 v
  lsl : IsSl 1 num W ⟨some ⟨lb, lo, none⟩, lc, A ++ f :: x0 :: g :: B⟩
  lne : lb ≠ D2
  ka : A.length + 1 = k
  kn : A.length + 3 + B.length = n
  lt : ∀ x ∈ A ++ f :: x0 :: g :: B, x < v.at'.l.length
  on : ∀ i (h : i < (A ++ f :: x0 :: g :: B).length), i ≠ k → (A ++ f :: x0 :: g :: B)[i] ∈ R.l
  fxg : f < x0 ∧ x0 < g ∧ g ≤ 12 ∧ n ≤ 12
  rsl : IsSl 1 num W R
  rap : ∀ b off, R.a = some ⟨b, off, none⟩ → b ≠ D2
  rl : R.l.length ≤ 100
  math : MendL (allF true v.p) v.at'.l.length (A ++ f :: x0 :: g :: B) A B f x0 g R.l
section
variable {W W' : World} {D2 pb lb lo n lc k : Nat} {a1 : Option Addr} {n1 c1 : Nat} {v : PV} {A B : List Nat} {f x0 g : Nat} {R : SL Nat}
theorem SM.cells (h : SM W D2 pb lb lo n lc k a1 n1 c1 v A B f x0 g R) (kp : Keep (fun x => x ≠ D2) W W') :
    W'.cell? ⟨lb, lo + A.length, none⟩ = some (.int .i64 (f : Int)) ∧ W'.cell? ⟨lb, lo + k, none⟩ = some (.int .i64 (x0 : Int)) ∧ W'.cell? ⟨lb, lo + (k + 1), none⟩ = some (.int .i64 (g : Int)) := by
  obtain ⟨h1, h2, h3⟩ := h.lsl
  obtain ⟨b, off, ha, hc⟩ := h3.resolve_left (by simp)
  simp only [Option.some.injEq, Addr.mk.injEq, and_true] at ha
  obtain ⟨rfl, rfl⟩ := ha
  have hl : (A ++ f :: x0 :: g :: B).length = A.length + 3 + B.length := by simp; omega
  have hk := h.ka
  have q0 := hc A.length (by dsimp only; omega) 0 (by omega)
  have q1 := hc (A.length + 1) (by dsimp only; omega) 0 (by omega)
  have q2 := hc (A.length + 2) (by dsimp only; omega) 0 (by omega)
  simp only [num, Nat.mul_one, Nat.add_zero] at q0 q1 q2
  have e0 : (A ++ f :: x0 :: g :: B)[A.length]'(by omega) = f := by simp
  have e1 : (A ++ f :: x0 :: g :: B)[A.length + 1]'(by omega) = x0 := by rw [List.getElem_append_right (by omega)]; simp
  have e2 : (A ++ f :: x0 :: g :: B)[A.length + 2]'(by omega) = g := by rw [List.getElem_append_right (by omega)]; simp
  rw [e0] at q0
  rw [e1] at q1
  rw [e2] at q2
  rw [← hk]
  exact ⟨kp.cell q0 h.lne, kp.cell q1 h.lne, kp.cell q2 h.lne⟩
theorem SM.sl (h : SM W D2 pb lb lo n lc k a1 n1 c1 v A B f x0 g R) (kp : Keep (fun x => x ≠ D2) W W') : IsSl 1 num W' ⟨some ⟨lb, lo, none⟩, lc, A ++ f :: x0 :: g :: B⟩ :=
  h.lsl.keep kp (fun b off e _ => by cases e; exact h.lne)
theorem SM.rs (h : SM W D2 pb lb lo n lc k a1 n1 c1 v A B f x0 g R) (kp : Keep (fun x => x ≠ D2) W W') : IsSl 1 num W' R :=
  h.rsl.keep kp (fun b off e _ => h.rap b off e)
end
/-- Pillars while they are drawn: those ahead of the lost one, and some between. -/
structure RowT (b : Nat) (M : SL Nat) (m : Nat) (A : List Nat) (f x0 x : Nat) (T : List Nat) (w : World) : Prop where
  om : w.ownsRow b 3 1 (.slice M.a m M.c) m (nums M.l)
  ml : M.l = A ++ f :: T ∧ M.l.length = m ∧ m + f ≤ A.length + x
  tt : ∀ y ∈ T, y ≠ x0 ∧ y < x
section
variable {b m f x0 x : Nat} {M : SL Nat} {A T : List Nat} {w w' : World}
theorem RowT.ext (h : RowT b M m A f x0 x T w) (k : Ext w w') : RowT b M m A f x0 x T w' := ⟨own_ext h.om k, h.ml, h.tt⟩
theorem RowT.dealt {D : Nat} (h : RowT b M m A f x0 x T w) (g : w.grownBy w' (some D)) (hD : D < b) : RowT b M m A f x0 x T w' :=
  ⟨own_grown h.om g (fun k e e2 => by cases e2; have := (own_type h.om e).1; omega), h.ml, h.tt⟩
theorem RowT.skip (h : RowT b M m A f x0 x T w) : RowT b M m A f x0 (x + 1) T w := ⟨h.om, ⟨h.ml.1, h.ml.2.1, by have := h.ml.2.2; omega⟩, fun y hy => ⟨(h.tt y hy).1, by have := (h.tt y hy).2; omega⟩⟩
theorem RowT.add {g c : Nat} (h : RowT b M m A f x0 x T w) (hx : x ≠ x0) (ho : w'.ownsRow b 3 1 (.slice (some ⟨g, 0, none⟩) (m + 1) c) (m + 1) (nums M.l ++ nums [x])) : RowT b ⟨some ⟨g, 0, none⟩, c, M.l ++ [x]⟩ (m + 1) A f x0 (x + 1) (T ++ [x]) w' := by
  refine ⟨by rw [nums_append]; exact ho, ⟨by rw [h.ml.1]; simp, by have := h.ml.2.1; simp; omega, by have := h.ml.2.2; omega⟩, fun y hy => ?_⟩
  rcases List.mem_append.1 hy with hy | hy
  · exact ⟨(h.tt y hy).1, by have := (h.tt y hy).2; omega⟩
  · simp at hy; subst hy; exact ⟨hx, by omega⟩
end
def InvM6 (D2 pb lb lo n lc k k0 : Nat) (R : SL Nat) (a1 : Option Addr) (n1 c1 : Nat) (W0 : World) (ac : Act) (wr : World) : Prop :=
  ∃ (X : Nat → Value) (t k' : Nat), ac = { tmps := frM6 D2 pb lb lo n lc k t R X, defers := [] } ∧ t ≤ 4 ∧ k' ≤ k0 + 12 * t ∧ Hid (IsDeck wr D2 a1 n1 c1 k') ∧ Hid (Keep (fun x => x ≠ D2) W0 wr)
theorem InvM6.of {D2 pb lb lo n lc k k0 : Nat} {R : SL Nat} {a1 : Option Addr} {n1 c1 : Nat} {W0 : World} {u : Array Value} {wr : World} (t k' : Nat) (ht : u = frM6 D2 pb lb lo n lc k t R (fun j => u.getD j undef)) (h1 : t ≤ 4) (h2 : k' ≤ k0 + 12 * t) (h3 : Hid (IsDeck wr D2 a1 n1 c1 k')) (h4 : Hid (Keep (fun x => x ≠ D2) W0 wr)) :
    InvM6 D2 pb lb lo n lc k k0 R a1 n1 c1 W0 { tmps := u, defers := [] } wr := ⟨_, t, k', by rw [← ht], h1, h2, h3, h4⟩
def InvM7 (D2 pb lb lo n lc k k0 t f x0 g : Nat) (A : List Nat) (R : SL Nat) (a1 : Option Addr) (n1 c1 : Nat) (W0 : World) (ac : Act) (wr : World) : Prop :=
  ∃ (X : Nat → Value) (x k' m : Nat) (M : SL Nat) (T : List Nat), ac = { tmps := frM7 D2 pb lb lo n lc k t m x R M X, defers := [] } ∧ f + 1 ≤ x ∧ x ≤ g ∧ k' ≤ k0 + x ∧ Hid (IsDeck wr D2 a1 n1 c1 k') ∧ Hid (Keep (fun x => x ≠ D2) W0 wr) ∧ Hid (RowT W0.heap.size M m A f x0 x T wr)
theorem InvM7.of {D2 pb lb lo n lc k k0 t f x0 g : Nat} {A : List Nat} {R : SL Nat} {a1 : Option Addr} {n1 c1 : Nat} {W0 : World} {u : Array Value} {wr : World} (x k' m : Nat) (M : SL Nat) (T : List Nat) (ht : u = frM7 D2 pb lb lo n lc k t m x R M (fun j => u.getD j undef)) (h0 : f + 1 ≤ x) (h1 : x ≤ g) (h2 : k' ≤ k0 + x) (h3 : Hid (IsDeck wr D2 a1 n1 c1 k')) (h4 : Hid (Keep (fun x => x ≠ D2) W0 wr)) (h5 : Hid (RowT W0.heap.size M m A f x0 x T wr)) :
    InvM7 D2 pb lb lo n lc k k0 t f x0 g A R a1 n1 c1 W0 { tmps := u, defers := [] } wr := ⟨_, x, k', m, M, T, by rw [← ht], h0, h1, h2, h3, h4, h5⟩

set_option maxRecDepth 1000000 in
set_option maxHeartbeats 16000000 in
theorem mend_tail54 (X : Nat → Value) (D2 pb lb lo n lc k : Nat) (v : PV) (A B : List Nat) (f x0 g : Nat) (R : SL Nat) (a1 : Option Addr) (n1 c1 k9 : Nat) (w W0 wr : World) (HS : Hid (SM W0 D2 pb lb lo n lc k a1 n1 c1 v A B f x0 g R)) (hw : w.heap.size ≤ D2) (HX : Hid (Ext w W0)) (hk9 : k9 ≤ 250) (HD : Hid (IsDeck wr D2 a1 n1 c1 k9)) (HKp : Hid (Keep (fun x => x ≠ D2) W0 wr)) :
    Code.wp Try.prog tail7_54 (bodyPost Try.prog Try.f7 fun e w' => e = .returned (.bool true) ∧ Ext w w') ⟨frM54 D2 pb lb lo n lc k R X, []⟩ wr := by
  obtain ⟨i0, hi3, hz0, hz1, hz2⟩ := info_parts info3
  conv => arg 2; whnf
  conv => arg 4; dsimp only [frM54]
  obtain ⟨hfx, hxg, hg12, hn12⟩ := HS.out.fxg
  have hD0 : D2 < W0.heap.size := HS.out.sx.deck
  obtain ⟨p, hp⟩ : ∃ p, A.length = p := ⟨_, rfl⟩
  have HAp := Lib.hid hp
  have hpk : p + 1 = k := by rw [← hp]; exact HS.out.ka
  have hkn : k + 2 ≤ n := by have := HS.out.kn; have := HS.out.ka; omega
  have hlc : n ≤ lc := by have h1 := HS.out.lsl.1; have h2 := HS.out.kn; simp at h1; omega
  have HCs : Hid (∀ u, Keep (fun x => x ≠ D2) W0 u → u.cell? ⟨lb, lo + p, none⟩ = some (.int .i64 (f : Int)) ∧ u.cell? ⟨lb, lo + k, none⟩ = some (.int .i64 (x0 : Int)) ∧ u.cell? ⟨lb, lo + (k + 1), none⟩ = some (.int .i64 (g : Int))) := fun u hu => by rw [← hp]; exact HS.out.cells hu
  clear hp
  have hwp : IntKind.i64.wrap ((k : Int) - 1) = (p : Int) := by rw [IntWalk.i64_in _ (by omega)]; omega
  have hwk : IntKind.i64.wrap ((k : Int) + 1) = ((k + 1 : Nat) : Int) := by rw [IntWalk.i64_in _ (by omega)]; omega
  have i0' : (0 : Int) ≤ (p : Int) := by omega
  have i1' : (p : Int) < (n : Int) := by omega
  have i2' : (k : Int) < (n : Int) := by omega
  have i3' : (k : Int) + 1 < (n : Int) := by omega
  have i4' : (0 : Int) ≤ (k : Int) := by omega
  have i5' : (k : Int) ≤ (lc : Int) := by omega
  have i6' : (0 : Int) ≤ (k : Int) - 1 := by omega
  have i7' : (k : Int) - 1 < (n : Int) := by omega
  go_wp2_with fail
  refine wp_loop (InvM6 D2 pb lb lo n lc k k9 R a1 n1 c1 W0) (fun a _ => 4 - (intOf (a.tmps.getD 280 undef)).toNat) (InvM6.of 0 k9 rfl (by omega) (by omega) HD HKp) ?_
  clear HD HKp
  rintro ac wr ⟨X1, t, k', rfl, ht, hk', HD, HKp⟩
  conv => arg 4; dsimp only [frM6]
  by_cases hlt : t < 4
  · have di : decide ((t : Int) < 4) = true := decide_eq_true (by omega)
    have hwt : IntKind.i64.wrap ((t : Int) + 1) = ((t + 1 : Nat) : Int) := by rw [IntWalk.i64_in _ (by omega)]; omega
    have HCl := Lib.hid (kitClone_any (some ⟨lb, lo, none⟩) k lc ((A ++ f :: x0 :: g :: B).take k) wr (by have h1 := HS.out.ka; have h2 := HS.out.kn; simp; omega) (sl_take (HS.out.sl HKp.out) (by have h1 := HS.out.ka; simp; omega)))
    obtain ⟨c0, c1', c2⟩ := HCs.out wr HKp.out
    go_wp2_with fail
    refine HCl.out.mono ?_
    rintro e wa ⟨a', c', rfl, ho, hxa⟩
    have HDa := Lib.hid (HD.out.ext hxa)
    have HKa : Hid (Keep (fun x => x ≠ D2) W0 wa) := HKp.out.ext hxa
    have HTk : Hid ((A ++ f :: x0 :: g :: B).take k = A ++ [f]) := by show _ = _; rw [← HS.out.ka, List.take_append, List.take_of_length_le (by omega)]; simp
    have HT0 : Hid (RowT W0.heap.size ⟨a', c', A ++ [f]⟩ k A f x0 (f + 1) [] wa) := by
      refine ⟨?_, ⟨rfl, by simp; have := HS.out.ka; omega, by have := HS.out.ka; omega⟩, fun y hy => by cases hy⟩
      have := own_mono ho HKp.out.size
      rw [HTk.out] at this
      exact this
    obtain ⟨c0, c1', c2⟩ := HCs.out wa HKa.out
    have hwf : IntKind.i64.wrap ((f : Int) + 1) = ((f + 1 : Nat) : Int) := by rw [IntWalk.i64_in _ (by omega)]; omega
    clear ho hxa HTk HCl HD HKp
    go_wp2_with fail
    refine wp_loop (InvM7 D2 pb lb lo n lc k k' t f x0 g A R a1 n1 c1 W0) (fun a _ => g - (intOf (a.tmps.getD 38 undef)).toNat) (InvM7.of (f + 1) k' k ⟨a', c', A ++ [f]⟩ [] rfl (Nat.le_refl _) (by omega) (by omega) HDa HKa HT0) ?_
    clear c0 c1' c2 HDa HKa HT0 hwf
    rintro ac wz ⟨X2, x, k2, m, M, T, rfl, hx1, hx2, hk2, HD, HKp, HT⟩
    conv => arg 4; dsimp only [frM7]
    obtain ⟨c0, c1', c2⟩ := HCs.out wz HKp.out
    by_cases hlt2 : x < g
    · have dq : decide ((x : Int) < (g : Int)) = true := decide_eq_true (by omega)
      have hwx : IntKind.i64.wrap ((x : Int) + 1) = ((x + 1 : Nat) : Int) := by rw [IntWalk.i64_in _ (by omega)]; omega
      by_cases hxe : x = x0
      · have hb : ((x : Int) != (x0 : Int)) = false := by rw [bne_eq_false_iff_eq]; omega
        have hb2 : ((x : Int) == (x0 : Int)) = true := by rw [beq_iff_eq]; omega
        have HT2 := Lib.hid HT.out.skip
        clear hxe HT
        go_wp2_with fail
        refine ⟨InvM7.of (x + 1) k2 _ _ _ ?_ (by omega) (by omega) (by omega) HD HKp HT2, ?_⟩
        · rfl
        · simp [intOf, frM7]; omega
      · have hb : ((x : Int) != (x0 : Int)) = true := by rw [bne_iff_ne]; omega
        have hb2 : ((x : Int) == (x0 : Int)) = false := by rw [beq_eq_false_iff_ne]; omega
        have HNe : Hid (x ≠ x0) := hxe
        clear hxe
        go_wp2_with fail
        refine (draw_any D2 a1 n1 c1 k2 2 wz HD.out (by omega) (by omega)).mono ?_
        rintro e wb ⟨r, k3, hr2, hk3, rfl, hd3, hg3⟩
        have HT3 := Lib.hid (HT.out.dealt hg3 hD0)
        have HD3 := Lib.hid hd3
        have HK3 : Hid (Keep (fun x => x ≠ D2) W0 wb) := HKp.out.grown hg3 (fun k e _ => by cases e; exact fun h => h rfl)
        clear hd3 hg3 hr2 HT HD HKp c0 c1' c2
        by_cases hr0 : r = 0
        · have dr : ((r : Int) == 0) = true := by rw [beq_iff_eq]; omega
          have hml := HT3.out.ml.2.2
          have HN1 := Lib.hid (new_cells wb (nums [x]) 3)
          have hsz : W0.heap.size ≤ (wb.alloc (.cells (nums [x]).toArray 3)).heap.size := by rw [World.size_alloc]; have := HK3.out.size; omega
          have HAl := HAp.out
          have hmx : m + 1 ≤ maxLen := by unfold maxLen; omega
          have hmb : (m + 1) * 8 ≤ 140737488355328 := by omega
          clear hr0 hml HAl
          go_wp2_with (at_builtin; go_must (refine wpList_append_lies _ rfl _ _ 25 rfl W0.heap.size 3 i0 (.int .i64 0) 1 8 Try.underlying25 hi3 hz0 hz1 hz2 rfl (by decide) _ m (nums M.l) rfl (own_ext HT3.out.om ((Ext.refl wb).alloc _)) ⟨wb.heap.size, 0, none⟩ 1 1 (nums [x]) rfl rfl HN1.out (nums_one [x]) (by decide) hmx hmb hsz _ rfl ?_); intro gg cap wm hown hgrow hat hlt5)
          have HK5 : Hid (Keep (fun x => x ≠ D2) W0 wm) := (HK3.out.alloc _).grown hgrow (fun k e h => by have := (own_type HT3.out.om e).1; omega)
          have HT5 := Lib.hid (HT3.out.add HNe.out hown)
          have HD5 : Hid (IsDeck wm D2 a1 n1 c1 k3) := (HD3.out.ext ((Ext.refl wb).alloc _)).grown hgrow (fun k e => (own_type HT3.out.om e).1) hD0 HS.out.sx.byt
          clear hown hgrow hat hlt5 HN1 hsz
          refine ⟨InvM7.of (x + 1) k3 _ _ _ ?_ (by omega) (by omega) (by omega) HD5 HK5 HT5, ?_⟩
          · rfl
          · simp [intOf, frM7]; omega
        · have dr : ((r : Int) == 0) = false := by rw [beq_eq_false_iff_ne]; omega
          have HT5 := Lib.hid HT3.out.skip
          clear hr0
          go_wp2_with fail
          refine ⟨InvM7.of (x + 1) k3 _ _ _ ?_ (by omega) (by omega) (by omega) HD3 HK3 HT5, ?_⟩
          · rfl
          · simp [intOf, frM7]; omega
    · obtain rfl : x = g := by omega
      have dq : decide ((x : Int) < (x : Int)) = false := decide_eq_false (by omega)
      obtain ⟨hml1, hml2, hml3⟩ := HT.out.ml
      have HAl := HAp.out
      have hcq : ¬ lc = k + 1 := by omega
      have hcq2 : ((lc : Int) == (k : Int) + 1) = false := by rw [beq_eq_false_iff_ne]; omega
      have HDr : Hid ((A ++ f :: x0 :: x :: B).drop (k + 1) = x :: B) := by show _ = _; rw [show A ++ f :: x0 :: x :: B = (A ++ [f, x0]) ++ x :: B by simp]; exact List.drop_left' (by have := HS.out.ka; simp; omega)
      have hkl : k + 1 ≤ (A ++ f :: x0 :: x :: B).length := by have := HS.out.kn; have := HS.out.ka; simp; omega
      have hsd := sl_drop (p := k + 1) (HS.out.sl HKp.out) hkl
      rw [if_neg hcq, HDr.out] at hsd
      have hBl : (x :: B).length = n - (k + 1) := by have := HS.out.kn; have := HS.out.ka; simp; omega
      obtain ⟨ad, had, hcs⟩ := cells_of_sl hsd (by simp)
      cases had
      have HC := Lib.hid hcs
      have hmx : m + (n - (k + 1)) ≤ maxLen := by unfold maxLen; omega
      have hmb : (m + (n - (k + 1))) * 8 ≤ 140737488355328 := by omega
      have hsz : W0.heap.size ≤ wz.heap.size := HKp.out.size
      have HMl : Hid (M.l = A ++ f :: T ∧ M.l.length = m) := ⟨hml1, hml2⟩
      have HBl := Lib.hid hBl
      have hnB : (nums (x :: B)).length = (n - (k + 1)) * 1 := by rw [nums_length, hBl]; omega
      clear hml1 hml2 hcs hsd hBl HAl HDr
      go_upto_region 63 with (at_builtin; go_must (refine wpList_append_own _ rfl _ _ 25 rfl W0.heap.size 3 i0 (.int .i64 0) 1 8 Try.underlying25 hi3 hz0 hz1 hz2 rfl (by decide) _ m (nums M.l) rfl HT.out.om ⟨lb, lo + (k + 1), none⟩ (n - (k + 1)) (lc - (k + 1)) (nums (x :: B)) rfl hnB HC.out (nums_one (x :: B)) hmx hmb hsz ?_); intro v' w5 hown hgrow _)
      obtain ⟨a5, c5, rfl⟩ := own_form hown
      rw [← nums_append] at hown
      have hlen : m + (n - (k + 1)) = (M.l ++ x :: B).length := by rw [List.length_append, HMl.out.2, HBl.out]
      rw [hlen] at hown ⊢
      have HK5 : Hid (Keep (fun x => x ≠ D2) W0 w5) := HKp.out.grown hgrow (fun k e h => by have := (own_type HT.out.om e).1; omega)
      have HD5 : Hid (IsDeck w5 D2 a1 n1 c1 k2) := HD.out.grown hgrow (fun k e => (own_type HT.out.om e).1) hD0 HS.out.sx.byt
      have hMx : M.l ++ x :: B = A ++ f :: (T ++ x :: B) := by rw [HMl.out.1]; simp
      rw [hMx] at hown hlen ⊢
      have hlt1 : ∀ y ∈ A ++ f :: (T ++ x :: B), y < v.at'.l.length := fun y hy => by
        have hL := HS.out.lt
        have hxl : x < v.at'.l.length := hL x (by simp)
        rcases List.mem_append.1 hy with hy | hy
        · exact hL y (by simp [hy])
        · rcases List.mem_cons.1 hy with rfl | hy
          · exact hL _ (by simp)
          · rcases List.mem_append.1 hy with hy | hy
            · have := (HT.out.tt y hy).2; omega
            · rcases List.mem_cons.1 hy with rfl | hy
              · exact hxl
              · exact hL y (by simp [hy])
      have hle := HS.out.math.least T (fun y hy => (HT.out.tt y hy).1)
      obtain ⟨ln, hln⟩ : ∃ ln, (A ++ f :: (T ++ x :: B)).length = ln := ⟨_, rfl⟩
      have hll : ln ≤ 1000 := by rw [← hln, ← hlen]; have := HAp.out; omega
      obtain ⟨hp, hf⟩ := HS.out.sx.at HK5.out
      have hh := holds_ok v ⟨a5, c5, A ++ f :: (T ++ x :: B)⟩ w5 hp HS.out.sx.ok (own_sl hown (by rw [hln]; omega)) hlt1
      obtain ⟨hb, hhb⟩ : ∃ hb, holdsF (allF true v.p) v.at'.l.length (A ++ f :: (T ++ x :: B)) = hb := ⟨_, rfl⟩
      dsimp only at hh
      rw [hhb] at hh hle
      rw [hln] at hh hle ⊢
      have HH := Lib.hid hh
      have HLe := Lib.hid hle
      obtain ⟨c0', c1'', c2', c3', c4'⟩ := hf
      clear hown hgrow hlen hMx hlt1 hle hln hp hh hhb HC hnB hmx hmb hsz HMl HBl HT HD HKp c0 c1' c2 hml3
      go_wp2_with fail
      refine HH.out.mono ?_
      rintro e w6 ⟨rfl, hx6⟩
      have HD6 := Lib.hid (HD5.out.ext hx6)
      have HK6 : Hid (Keep (fun x => x ≠ D2) W0 w6) := HK5.out.ext hx6
      clear hx6 HH HD5 HK5 c0' c1'' c2' c3' c4'
      have hcase : (hb = true ∧ R.l.length ≤ ln) ∨ hb = false := by
        cases hb
        · right; rfl
        · left; exact ⟨rfl, HLe.out rfl⟩
      clear HLe
      rcases hcase with ⟨rfl, hlm⟩ | rfl
      · have dl : decide ((ln : Int) < (R.l.length : Int)) = false := decide_eq_false (by omega)
        have dl2 : decide (ln < R.l.length) = false := decide_eq_false (by omega)
        go_wp2_with fail
        refine ⟨InvM6.of (t + 1) k2 ?_ (by omega) (by omega) HD6 HK6, ?_⟩
        · rfl
        · simp [intOf, frM6]; omega
      · go_wp2_with fail
        refine ⟨InvM6.of (t + 1) k2 ?_ (by omega) (by omega) HD6 HK6, ?_⟩
        · rfl
        · simp [intOf, frM6]; omega
  · obtain rfl : t = 4 := by omega
    have di : decide ((4 : Int) < 4) = false := by decide
    have HXe : Hid (Ext w wr) := ext_keep HX.out HKp.out (fun i hi => by omega)
    clear HKp HD
    go_wp2_with (go_at_call 19; refine (awake_ok _).mono ?_; rintro e w7 ⟨rfl, hx7⟩; have HX7 : Hid (Ext w w7) := HXe.out.trans hx7; clear hx7)
    go_ret
    exact ⟨rfl, HX7.out⟩
/-- The same, from slots as they lie. -/
theorem mend_tail54' (t : Array Value) (D2 pb lb lo n lc k : Nat) (v : PV) (A B : List Nat) (f x0 g : Nat) (R : SL Nat) (a1 : Option Addr) (n1 c1 k9 : Nat) (w W0 wr : World) (ht : t = frM54 D2 pb lb lo n lc k R (fun j => t.getD j undef)) (HS : Hid (SM W0 D2 pb lb lo n lc k a1 n1 c1 v A B f x0 g R)) (hw : w.heap.size ≤ D2) (HX : Hid (Ext w W0)) (hk9 : k9 ≤ 250) (HD : Hid (IsDeck wr D2 a1 n1 c1 k9)) (HKp : Hid (Keep (fun x => x ≠ D2) W0 wr)) :
    Code.wp Try.prog tail7_54 (bodyPost Try.prog Try.f7 fun e w' => e = .returned (.bool true) ∧ Ext w w') ⟨t, []⟩ wr := by
  rw [ht]
  exact mend_tail54 _ D2 pb lb lo n lc k v A B f x0 g R a1 n1 c1 k9 w W0 wr HS hw HX hk9 HD HKp
end Go.Proofs.Ytfognlealnhodaa

namespace Go.Proofs.Ytfognlealnhodaa
open Go.RowKit

noncomputable def tail7_42 : Code := ((Try.f7.body.bind (tailA 42)).getD .skip)
def frM8 (D2 pb lb lo n lc k i : Nat) (R : SL Nat) (X : Nat → Value) : Array Value := #[X 0, X 1, X 2, X 3, X 4, X 5, X 6, X 7, .pointer (some ⟨D2, 0, none⟩), .pointer (some ⟨pb, 0, none⟩), X 10, .slice (some ⟨lb, lo, none⟩) n lc, X 12, X 13, X 14, X 15, X 16, X 17, X 18, X 19, X 20, .int .i64 (k : Int), .slice R.a R.l.length R.c, X 23, X 24, X 25, X 26, X 27, X 28, X 29, X 30, X 31, X 32, X 33, X 34, X 35, X 36, X 37, X 38, X 39, X 40, X 41, X 42, X 43, X 44, X 45, X 46, X 47, X 48, X 49, X 50, X 51, X 52, X 53, X 54, X 55, X 56, X 57, X 58, X 59, X 60, X 61, X 62, X 63, X 64, X 65, X 66, X 67, X 68, X 69, X 70, X 71, X 72, X 73, X 74, X 75, X 76, X 77, X 78, X 79, X 80, X 81, X 82, X 83, X 84, X 85, X 86, X 87, X 88, X 89, X 90, X 91, X 92, X 93, X 94, X 95, X 96, X 97, X 98, X 99, X 100, X 101, X 102, X 103, X 104, X 105, X 106, X 107, X 108, X 109, X 110, X 111, X 112, X 113, X 114, X 115, X 116, X 117, X 118, X 119, X 120, X 121, X 122, X 123, X 124, X 125, X 126, X 127, X 128, X 129, X 130, X 131, X 132, X 133, X 134, X 135, X 136, X 137, X 138, X 139, X 140, X 141, X 142, X 143, X 144, X 145, X 146, X 147, X 148, X 149, X 150, X 151, X 152, X 153, X 154, X 155, X 156, X 157, X 158, X 159, X 160, X 161, X 162, X 163, X 164, X 165, X 166, X 167, X 168, X 169, X 170, X 171, X 172, X 173, X 174, X 175, X 176, X 177, X 178, X 179, X 180, X 181, X 182, X 183, X 184, X 185, X 186, X 187, X 188, X 189, X 190, X 191, X 192, X 193, X 194, X 195, X 196, X 197, X 198, X 199, X 200, X 201, X 202, X 203, X 204, X 205, X 206, X 207, X 208, X 209, X 210, X 211, X 212, X 213, X 214, X 215, X 216, X 217, X 218, X 219, X 220, X 221, X 222, X 223, X 224, X 225, X 226, X 227, X 228, X 229, X 230, X 231, X 232, X 233, .slice (some ⟨lb, lo, none⟩) n lc, .int .i64 (n : Int), .int .i64 (i : Int), X 237, X 238, X 239, X 240, X 241, X 242, X 243, X 244, X 245, X 246, X 247, X 248, X 249, X 250, X 251, X 252, X 253, X 254, X 255, X 256, X 257, X 258, X 259, X 260, X 261, X 262, X 263, X 264, X 265, X 266, X 267, X 268, X 269, X 270, X 271, X 272, X 273, X 274, X 275, X 276, X 277, X 278, X 279, X 280, X 281, X 282, X 283, X 284, X 285, X 286, X 287, X 288, X 289, X 290, X 291, X 292, X 293, X 294, X 295, X 296, X 297, X 298, X 299, X 300, X 301, X 302, X 303, X 304, X 305, X 306, X 307, X 308, X 309, X 310, X 311, X 312, X 313, X 314, X 315, X 316, X 317, X 318, X 319, X 320, X 321, X 322, X 323, X 324, X 325, X 326, X 327, X 328, X 329, X 330, X 331, X 332, X 333, X 334, X 335, X 336, X 337, X 338, X 339, X 340, X 341]
def frM9 (D2 pb lb lo n lc k i : Nat) (R : SL Nat) (X : Nat → Value) : Array Value := #[X 0, X 1, X 2, X 3, X 4, X 5, X 6, X 7, .pointer (some ⟨D2, 0, none⟩), .pointer (some ⟨pb, 0, none⟩), X 10, .slice (some ⟨lb, lo, none⟩) n lc, X 12, X 13, X 14, X 15, X 16, X 17, X 18, X 19, X 20, .int .i64 (k : Int), .slice R.a R.l.length R.c, X 23, X 24, X 25, X 26, X 27, X 28, X 29, X 30, X 31, X 32, X 33, X 34, X 35, X 36, X 37, X 38, X 39, X 40, X 41, X 42, X 43, X 44, X 45, X 46, X 47, X 48, X 49, X 50, X 51, X 52, X 53, X 54, X 55, X 56, X 57, X 58, X 59, X 60, X 61, X 62, X 63, X 64, X 65, X 66, X 67, X 68, X 69, X 70, X 71, X 72, X 73, X 74, X 75, X 76, X 77, X 78, X 79, X 80, X 81, X 82, X 83, X 84, X 85, X 86, X 87, X 88, X 89, X 90, X 91, X 92, X 93, X 94, X 95, X 96, X 97, X 98, X 99, X 100, X 101, X 102, X 103, X 104, X 105, X 106, X 107, X 108, X 109, X 110, X 111, X 112, X 113, X 114, X 115, X 116, X 117, X 118, X 119, X 120, X 121, X 122, X 123, X 124, X 125, X 126, X 127, X 128, X 129, X 130, X 131, X 132, X 133, X 134, X 135, X 136, X 137, X 138, X 139, X 140, X 141, X 142, X 143, X 144, X 145, X 146, X 147, X 148, X 149, X 150, X 151, X 152, X 153, X 154, X 155, X 156, X 157, X 158, X 159, X 160, X 161, X 162, X 163, X 164, X 165, X 166, X 167, X 168, X 169, X 170, X 171, X 172, X 173, X 174, X 175, X 176, X 177, X 178, X 179, X 180, X 181, X 182, X 183, X 184, X 185, X 186, X 187, X 188, X 189, X 190, X 191, X 192, X 193, X 194, X 195, X 196, X 197, X 198, X 199, X 200, X 201, X 202, X 203, X 204, X 205, X 206, X 207, X 208, X 209, X 210, X 211, X 212, X 213, X 214, X 215, X 216, X 217, X 218, X 219, X 220, X 221, X 222, X 223, X 224, X 225, X 226, X 227, X 228, X 229, X 230, X 231, X 232, X 233, X 234, X 235, X 236, X 237, X 238, X 239, X 240, X 241, X 242, X 243, X 244, X 245, X 246, X 247, X 248, X 249, X 250, .slice R.a R.l.length R.c, .int .i64 (R.l.length : Int), .int .i64 (i : Int), X 254, X 255, X 256, X 257, X 258, X 259, X 260, X 261, X 262, X 263, X 264, X 265, X 266, X 267, X 268, X 269, X 270, X 271, X 272, X 273, X 274, X 275, X 276, X 277, X 278, X 279, X 280, X 281, X 282, X 283, X 284, X 285, X 286, X 287, X 288, X 289, X 290, X 291, X 292, X 293, X 294, X 295, X 296, X 297, X 298, X 299, X 300, X 301, X 302, X 303, X 304, X 305, X 306, X 307, X 308, X 309, X 310, X 311, X 312, X 313, X 314, X 315, X 316, X 317, X 318, X 319, X 320, X 321, X 322, X 323, X 324, X 325, X 326, X 327, X 328, X 329, X 330, X 331, X 332, X 333, X 334, X 335, X 336, X 337, X 338, X 339, X 340, X 341]

def InvM8 (D2 pb lb lo n lc k : Nat) (R : SL Nat) (W : World) (ac : Act) (wr : World) : Prop :=
  ∃ (X : Nat → Value) (i : Nat), ac = { tmps := frM8 D2 pb lb lo n lc k i R X, defers := [] } ∧ i ≤ n ∧ W = wr
theorem InvM8.of {D2 pb lb lo n lc k : Nat} {R : SL Nat} {u : Array Value} {W : World} (i : Nat) (ht : u = frM8 D2 pb lb lo n lc k i R (fun j => u.getD j undef)) (h1 : i ≤ n) :
    InvM8 D2 pb lb lo n lc k R W { tmps := u, defers := [] } W := ⟨_, i, by rw [← ht], h1, rfl⟩
def InvM9 (D2 pb lb lo n lc k : Nat) (R : SL Nat) (W : World) (ac : Act) (wr : World) : Prop :=
  ∃ (X : Nat → Value) (i : Nat), ac = { tmps := frM9 D2 pb lb lo n lc k i R X, defers := [] } ∧ i ≤ R.l.length ∧ W = wr
theorem InvM9.of {D2 pb lb lo n lc k : Nat} {R : SL Nat} {u : Array Value} {W : World} (i : Nat) (ht : u = frM9 D2 pb lb lo n lc k i R (fun j => u.getD j undef)) (h1 : i ≤ R.l.length) :
    InvM9 D2 pb lb lo n lc k R W { tmps := u, defers := [] } W := ⟨_, i, by rw [← ht], h1, rfl⟩

set_option maxRecDepth 1000000 in
set_option maxHeartbeats 16000000 in
theorem mend_tail42 (X : Nat → Value) (D2 pb lb lo n lc k : Nat) (v : PV) (A B : List Nat) (f x0 g : Nat) (R : SL Nat) (a1 : Option Addr) (n1 c1 k9 : Nat) (w W0 wr : World) (HS : Hid (SM W0 D2 pb lb lo n lc k a1 n1 c1 v A B f x0 g R)) (hw : w.heap.size ≤ D2) (HX : Hid (Ext w W0)) (hk9 : k9 ≤ 250) (HD : Hid (IsDeck wr D2 a1 n1 c1 k9)) (HKp : Hid (Keep (fun x => x ≠ D2) W0 wr)) :
    Code.wp Try.prog tail7_42 (bodyPost Try.prog Try.f7 fun e w' => e = .returned (.bool true) ∧ Ext w w') ⟨frM54 D2 pb lb lo n lc k R X, []⟩ wr := by
  obtain ⟨ra, rc, rl⟩ := R
  conv => arg 2; whnf
  conv => arg 4; dsimp only [frM54]
  obtain ⟨hfx, hxg, hg12, hn12⟩ := HS.out.fxg
  obtain ⟨p, hp⟩ : ∃ p, A.length = p := ⟨_, rfl⟩
  have hpk : p + 1 = k := by rw [← hp]; exact HS.out.ka
  have hkn : k + 2 ≤ n := by have := HS.out.kn; have := HS.out.ka; omega
  have hlc : n ≤ lc := by have h1 := HS.out.lsl.1; have h2 := HS.out.kn; simp at h1; omega
  have HLn : Hid ((A ++ f :: x0 :: g :: B).length = n) := by have := HS.out.kn; show _ = _; simp; omega
  obtain ⟨c0, c1', c2⟩ := HS.out.cells HKp.out
  rw [hp] at c0
  clear hp
  have hwp : IntKind.i64.wrap ((k : Int) - 1) = (p : Int) := by rw [IntWalk.i64_in _ (by omega)]; omega
  have hwk : IntKind.i64.wrap ((k : Int) + 1) = ((k + 1 : Nat) : Int) := by rw [IntWalk.i64_in _ (by omega)]; omega
  have i0' : (0 : Int) ≤ (p : Int) := by omega
  have i1' : (p : Int) < (n : Int) := by omega
  have i2' : (k : Int) < (n : Int) := by omega
  have i3' : (k : Int) + 1 < (n : Int) := by omega
  have i4' : (0 : Int) ≤ (k : Int) := by omega
  have i6' : (0 : Int) ≤ (k : Int) - 1 := by omega
  have i7' : (k : Int) - 1 < (n : Int) := by omega
  have HLs := Lib.hid (HS.out.sl HKp.out)
  have HRs := Lib.hid (HS.out.rs HKp.out)
  obtain ⟨rb, ro, hra, hrc⟩ := HRs.out.2.2.resolve_left HS.out.math.pos
  dsimp only at hra hrc
  subst hra
  have HRc : Hid (∀ i (h : i < rl.length), wr.cell? ⟨rb, ro + i, none⟩ = some (.int .i64 (rl[i] : Int))) := fun i h => by have := hrc i h 0 (by omega); simpa [num] using this
  have hrl : rl.length ≤ 100 := HS.out.rl
  have HLc : Hid (∀ i (h : i < (A ++ f :: x0 :: g :: B).length), wr.cell? ⟨lb, lo + i, none⟩ = some (.int .i64 ((A ++ f :: x0 :: g :: B)[i] : Int))) := fun i h => by
    obtain ⟨b, off, ha, hc⟩ := HLs.out.2.2.resolve_left (by simp)
    cases ha
    have := hc i h 0 (by omega); simpa [num] using this
  clear hrc
  go_wp2_with fail
  refine wp_loop (InvM8 D2 pb lb lo n lc k ⟨some ⟨rb, ro, none⟩, rc, rl⟩ wr) (fun a _ => n - (intOf (a.tmps.getD 236 undef)).toNat) (InvM8.of 0 rfl (Nat.zero_le _)) ?_
  rintro ac wr ⟨X1, i, rfl, hi, rfl⟩
  conv => arg 4; dsimp only [frM8]
  by_cases hlt : i < n
  · have di : decide ((i : Int) < (n : Int)) = true := decide_eq_true (by omega)
    have hwi : IntKind.i64.wrap ((i : Int) + 1) = ((i + 1 : Nat) : Int) := by rw [IntWalk.i64_in _ (by omega)]; omega
    have hil : i < (A ++ f :: x0 :: g :: B).length := by rw [HLn.out]; exact hlt
    have hci := HLc.out i hil
    have HOn := Lib.hid (HS.out.on i hil)
    generalize (A ++ f :: x0 :: g :: B)[i] = y at *
    have j0 : (0 : Int) ≤ (i : Int) := by omega
    have j1 : (i : Int) < (n : Int) := by omega
    clear hil
    by_cases hik : i = k
    · have hb : ((i : Int) != (k : Int)) = false := by rw [bne_eq_false_iff_eq]; omega
      clear hik
      go_wp2_with fail
      refine ⟨InvM8.of (i + 1) ?_ (by omega), ?_⟩
      · rfl
      · simp [intOf, frM8]; omega
    · have hb : ((i : Int) != (k : Int)) = true := by rw [bne_iff_ne]; omega
      have HCt : Hid (rl.contains y = true) := by show _ = _; simpa using HOn.out hik
      have hct := contains_any (some ⟨rb, ro, none⟩) rl.length rc rl y wr rfl HRs.out
      rw [HCt.out] at hct
      have HCt2 := Lib.hid hct
      clear hct hik
      go_wp2_with fail
      refine HCt2.out.mono ?_
      rintro e w1 ⟨rfl, rfl⟩
      clear HCt2
      go_wp2_with fail
      refine ⟨InvM8.of (i + 1) ?_ (by omega), ?_⟩
      · rfl
      · simp [intOf, frM8]; omega
  · obtain rfl : i = n := by omega
    have di : decide ((i : Int) < (i : Int)) = false := decide_eq_false (by omega)
    go_wp2_with fail
    refine wp_loop (InvM9 D2 pb lb lo i lc k ⟨some ⟨rb, ro, none⟩, rc, rl⟩ wr) (fun a _ => rl.length - (intOf (a.tmps.getD 253 undef)).toNat) (InvM9.of 0 rfl (Nat.zero_le _)) ?_
    clear di hlt hi
    rintro ac wr ⟨X2, j, rfl, hj, rfl⟩
    dsimp only at hj
    conv => arg 4; dsimp only [frM9]
    by_cases hlt : j < rl.length
    · have di : decide ((j : Int) < (rl.length : Int)) = true := decide_eq_true (by omega)
      have hwj : IntKind.i64.wrap ((j : Int) + 1) = ((j + 1 : Nat) : Int) := by rw [IntWalk.i64_in _ (by omega)]; omega
      have hcj := HRc.out j hlt
      have HMid := Lib.hid (HS.out.math.mid rl[j] (List.getElem_mem hlt))
      have hct := contains_any (some ⟨lb, lo, none⟩) i lc (A ++ f :: x0 :: g :: B) rl[j] wr HLn.out HLs.out
      generalize rl[j] = y at *
      obtain ⟨cb, hcb⟩ : ∃ cb, (A ++ f :: x0 :: g :: B).contains y = cb := ⟨_, rfl⟩
      have hcase : cb = true ∨ (cb = false ∧ decide ((y : Int) < (f : Int)) = false ∧ decide ((g : Int) < (y : Int)) = false ∧ decide (y < f) = false ∧ decide (g < y) = false) := by
        cases cb
        · right
          have hn : y ∉ A ++ f :: x0 :: g :: B := by intro h; rw [List.contains_iff_mem.2 h] at hcb; cases hcb
          obtain ⟨m1, m2⟩ := HMid.out hn
          exact ⟨rfl, decide_eq_false (by omega), decide_eq_false (by omega), decide_eq_false (by omega), decide_eq_false (by omega)⟩
        · left; rfl
      rw [hcb] at hct
      have HCt := Lib.hid hct
      have j0 : (0 : Int) ≤ (j : Int) := by omega
      have j1 : (j : Int) < (rl.length : Int) := by omega
      clear hct hcb
      rcases hcase with rfl | ⟨rfl, d1, d2, d3, d4⟩
      · go_wp2_with fail
        refine HCt.out.mono ?_
        rintro e w1 ⟨rfl, rfl⟩
        clear HCt
        go_wp2_with fail
        refine ⟨InvM9.of (j + 1) ?_ (by dsimp only; omega), ?_⟩
        · rfl
        · simp [intOf, frM9]; omega
      · go_wp2_with fail
        refine HCt.out.mono ?_
        rintro e w1 ⟨rfl, rfl⟩
        clear HCt
        go_wp2_with fail
        refine ⟨InvM9.of (j + 1) ?_ (by dsimp only; omega), ?_⟩
        · rfl
        · simp [intOf, frM9]; omega
    · obtain rfl : j = rl.length := by omega
      have di : decide ((rl.length : Int) < (rl.length : Int)) = false := decide_eq_false (by omega)
      clear HRc HLc
      repeat (first
        | exact mend_tail54' _ D2 pb lb lo i lc k v A B f x0 g ⟨some ⟨rb, ro, none⟩, rc, rl⟩ a1 n1 c1 k9 w W0 wr rfl HS hw HX hk9 HD HKp
        | go_step)
/-- The same, from slots as they lie. -/
theorem mend_tail42' (t : Array Value) (D2 pb lb lo n lc k : Nat) (v : PV) (A B : List Nat) (f x0 g : Nat) (R : SL Nat) (a1 : Option Addr) (n1 c1 k9 : Nat) (w W0 wr : World) (ht : t = frM54 D2 pb lb lo n lc k R (fun j => t.getD j undef)) (HS : Hid (SM W0 D2 pb lb lo n lc k a1 n1 c1 v A B f x0 g R)) (hw : w.heap.size ≤ D2) (HX : Hid (Ext w W0)) (hk9 : k9 ≤ 250) (HD : Hid (IsDeck wr D2 a1 n1 c1 k9)) (HKp : Hid (Keep (fun x => x ≠ D2) W0 wr)) :
    Code.wp Try.prog tail7_42 (bodyPost Try.prog Try.f7 fun e w' => e = .returned (.bool true) ∧ Ext w w') ⟨t, []⟩ wr := by
  rw [ht]
  exact mend_tail42 _ D2 pb lb lo n lc k v A B f x0 g R a1 n1 c1 k9 w W0 wr HS hw HX hk9 HD HKp
end Go.Proofs.Ytfognlealnhodaa

namespace Go.Proofs.Ytfognlealnhodaa
open Go.RowKit

noncomputable def tail7_21 : Code := ((Try.f7.body.bind (tailA 21)).getD .skip)
theorem split3 (l : List Nat) (m : Nat) (h : m + 2 < l.length) : ∃ A f x g B, l = A ++ f :: x :: g :: B ∧ A.length = m := by
  refine ⟨l.take m, l[m], l[m + 1], l[m + 2], l.drop (m + 3), ?_, by simp; omega⟩
  rw [← List.drop_eq_getElem_cons (show m + 2 < l.length by omega), ← List.drop_eq_getElem_cons (show m + 1 < l.length by omega), ← List.drop_eq_getElem_cons (show m < l.length by omega), List.take_append_drop]
theorem get3 (A B : List Nat) (f x g : Nat) : (A ++ f :: x :: g :: B)[A.length]?.getD 0 = f ∧ (A ++ f :: x :: g :: B)[A.length + 1]?.getD 0 = x ∧ (A ++ f :: x :: g :: B)[A.length + 2]?.getD 0 = g ∧ (A ++ f :: x :: g :: B).take A.length = A ∧ (A ++ f :: x :: g :: B).drop (A.length + 3) = B := by
  refine ⟨by simp, ?_, ?_, by simp, ?_⟩
  · rw [List.getElem?_append_right (by omega)]; simp
  · rw [List.getElem?_append_right (by omega)]; simp
  · rw [show A ++ f :: x :: g :: B = (A ++ [f, x, g]) ++ B by simp]; exact List.drop_left' (by simp)
theorem chL_len {S : Nat → Nat → Bool} (hS : ∀ i j, S i j = true → i < j) {n : Nat} {l : List Nat} (h : chL S l) (hn : ∀ x ∈ l, x < n) : l.length ≤ n := by
  have key : ∀ k (hk : k < l.length), k ≤ l[k] := by
    intro k
    induction k with
    | zero => intro _; exact Nat.zero_le _
    | succ k ih =>
      intro hk
      have h1 := ih (by omega)
      have h2 := hS _ _ (chL_iff.1 h k hk)
      rw [List.getElem?_eq_getElem (by omega), List.getElem?_eq_getElem hk] at h2
      simp only [Option.getD_some] at h2
      omega
  by_cases h0 : l.length = 0
  · omega
  · have h1 := key (l.length - 1) (by omega)
    have h2 := hn _ (List.getElem_mem (show l.length - 1 < l.length by omega))
    omega
theorem SX.ext {W W' : World} {D2 pb : Nat} {a1 : Option Addr} {n1 c1 : Nat} {v : PV} (h : SX W D2 pb a1 n1 c1 v) (k : Ext W W') : SX W' D2 pb a1 n1 c1 v :=
  ⟨h.prof.ext k, h.ok, h.five.ext k, by have := h.deck; have := k.size; omega, fun b off e e2 => by have := h.byt b off e e2; have := k.size; omega, h.len, h.ne, h.apart⟩
theorem chain_ne {S : Nat → Nat → Bool} (hS : ∀ i j, S i j = true → i < j) {A B : List Nat} {f x g : Nat} (h : chL S (A ++ f :: x :: g :: B)) (i : Nat) (hi : i < (A ++ f :: x :: g :: B).length) (hk : i ≠ A.length + 1) : (A ++ f :: x :: g :: B)[i] ≠ x := by
  have e : A ++ f :: x :: g :: B = (A ++ [f]) ++ x :: (g :: B) := by simp
  have h2 := h
  rw [e] at h2
  obtain ⟨h3, h4⟩ := chL_append.1 h2
  have h5 := chL_gt hS h3
  have h6 := chL_lt hS h4
  intro hx
  have hm : (A ++ f :: x :: g :: B)[i]? = some x := by rw [List.getElem?_eq_getElem hi, hx]
  rw [e] at hm
  rcases Nat.lt_or_ge i (A ++ [f]).length with hlt | hge
  · rw [List.getElem?_append_left hlt] at hm
    have := h5 x (List.mem_of_getElem? hm); omega
  · rw [List.getElem?_append_right hge] at hm
    have h7 : i - (A ++ [f]).length ≠ 0 := by simp at hge ⊢; omega
    obtain ⟨q, hq⟩ : ∃ q, i - (A ++ [f]).length = q + 1 := ⟨i - (A ++ [f]).length - 1, by omega⟩
    rw [hq, List.getElem?_cons_succ] at hm
    have := h6 x (List.mem_of_getElem? hm); omega
def frM21 (D2 pb lb lo n lc : Nat) (xb : Int) (X : Nat → Value) : Array Value := #[X 0, X 1, .int .i64 xb, X 3, X 4, X 5, X 6, X 7, .pointer (some ⟨D2, 0, none⟩), .pointer (some ⟨pb, 0, none⟩), X 10, .slice (some ⟨lb, lo, none⟩) n lc, X 12, X 13, X 14, X 15, X 16, X 17, X 18, X 19, X 20, X 21, X 22, X 23, X 24, X 25, X 26, X 27, X 28, X 29, X 30, X 31, X 32, X 33, X 34, X 35, X 36, X 37, X 38, X 39, X 40, X 41, X 42, X 43, X 44, X 45, X 46, X 47, X 48, X 49, X 50, X 51, X 52, X 53, X 54, X 55, X 56, X 57, X 58, X 59, X 60, X 61, X 62, X 63, X 64, X 65, X 66, X 67, X 68, X 69, X 70, X 71, X 72, X 73, X 74, X 75, X 76, X 77, X 78, X 79, X 80, X 81, X 82, X 83, X 84, X 85, X 86, X 87, X 88, X 89, X 90, X 91, X 92, X 93, X 94, X 95, X 96, X 97, X 98, X 99, X 100, X 101, X 102, X 103, X 104, X 105, X 106, X 107, X 108, X 109, X 110, X 111, X 112, X 113, X 114, X 115, X 116, X 117, X 118, X 119, X 120, X 121, X 122, X 123, X 124, X 125, X 126, X 127, X 128, X 129, X 130, X 131, X 132, X 133, X 134, X 135, X 136, X 137, X 138, X 139, X 140, X 141, X 142, X 143, X 144, X 145, X 146, X 147, X 148, X 149, X 150, X 151, X 152, X 153, X 154, X 155, X 156, X 157, X 158, X 159, X 160, X 161, X 162, X 163, X 164, X 165, X 166, X 167, X 168, X 169, X 170, X 171, X 172, X 173, X 174, X 175, X 176, X 177, X 178, X 179, X 180, X 181, X 182, X 183, X 184, X 185, X 186, X 187, X 188, X 189, X 190, X 191, X 192, X 193, X 194, X 195, X 196, X 197, X 198, X 199, X 200, X 201, X 202, X 203, X 204, X 205, X 206, X 207, X 208, X 209, X 210, X 211, X 212, X 213, X 214, X 215, X 216, X 217, X 218, X 219, X 220, X 221, X 222, X 223, X 224, X 225, X 226, X 227, X 228, X 229, X 230, X 231, X 232, X 233, X 234, X 235, X 236, X 237, X 238, X 239, X 240, X 241, X 242, X 243, X 244, X 245, X 246, X 247, X 248, X 249, X 250, X 251, X 252, X 253, X 254, X 255, X 256, X 257, X 258, X 259, X 260, X 261, X 262, X 263, X 264, X 265, X 266, X 267, X 268, X 269, X 270, X 271, X 272, X 273, X 274, X 275, X 276, X 277, X 278, X 279, X 280, X 281, X 282, X 283, X 284, X 285, X 286, X 287, X 288, X 289, X 290, X 291, X 292, X 293, X 294, X 295, X 296, X 297, X 298, X 299, X 300, X 301, X 302, X 303, X 304, X 305, X 306, X 307, X 308, X 309, X 310, X 311, X 312, X 313, X 314, X 315, X 316, X 317, X 318, X 319, X 320, X 321, X 322, X 323, X 324, X 325, X 326, X 327, X 328, X 329, X 330, X 331, X 332, X 333, X 334, X 335, X 336, X 337, X 338, X 339, X 340, X 341]
def frM3 (pb lb lo n lc k x : Nat) (X : Nat → Value) : Array Value := #[X 0, X 1, X 2, X 3, X 4, X 5, X 6, X 7, X 8, .pointer (some ⟨pb, 0, none⟩), X 10, .slice (some ⟨lb, lo, none⟩) n lc, X 12, X 13, X 14, X 15, X 16, X 17, X 18, X 19, X 20, .int .i64 (k : Int), X 22, .int .i64 (x : Int), X 24, X 25, X 26, X 27, X 28, X 29, X 30, X 31, X 32, X 33, X 34, X 35, X 36, X 37, X 38, X 39, X 40, X 41, X 42, X 43, X 44, X 45, X 46, X 47, X 48, X 49, X 50, X 51, X 52, X 53, X 54, X 55, X 56, X 57, X 58, X 59, X 60, X 61, X 62, X 63, X 64, X 65, X 66, X 67, X 68, X 69, X 70, X 71, X 72, X 73, X 74, X 75, X 76, X 77, X 78, X 79, X 80, X 81, X 82, X 83, X 84, X 85, X 86, X 87, X 88, X 89, X 90, X 91, X 92, X 93, X 94, X 95, X 96, X 97, X 98, X 99, X 100, X 101, X 102, X 103, X 104, X 105, X 106, X 107, X 108, X 109, X 110, X 111, X 112, X 113, X 114, X 115, X 116, X 117, X 118, X 119, X 120, X 121, X 122, X 123, X 124, X 125, X 126, X 127, X 128, X 129, X 130, X 131, X 132, X 133, X 134, X 135, X 136, X 137, X 138, X 139, X 140, X 141, X 142, X 143, X 144, X 145, X 146, X 147, X 148, X 149, X 150, X 151, X 152, X 153, X 154, X 155, X 156, X 157, X 158, X 159, X 160, X 161, X 162, X 163, X 164, X 165, X 166, X 167, X 168, X 169, X 170, X 171, X 172, X 173, X 174, X 175, X 176, X 177, X 178, X 179, X 180, X 181, X 182, X 183, X 184, X 185, X 186, X 187, X 188, X 189, X 190, X 191, X 192, X 193, X 194, X 195, X 196, X 197, X 198, X 199, X 200, X 201, X 202, X 203, X 204, X 205, X 206, X 207, X 208, X 209, X 210, X 211, X 212, X 213, X 214, X 215, X 216, X 217, X 218, X 219, X 220, X 221, X 222, X 223, X 224, X 225, X 226, X 227, X 228, X 229, X 230, X 231, X 232, X 233, X 234, X 235, X 236, X 237, X 238, X 239, X 240, X 241, X 242, X 243, X 244, X 245, X 246, X 247, X 248, X 249, X 250, X 251, X 252, X 253, X 254, X 255, X 256, X 257, X 258, X 259, X 260, X 261, X 262, X 263, X 264, X 265, X 266, X 267, X 268, X 269, X 270, X 271, X 272, X 273, X 274, X 275, X 276, X 277, X 278, X 279, X 280, X 281, X 282, X 283, X 284, X 285, X 286, X 287, X 288, X 289, X 290, X 291, X 292, X 293, X 294, X 295, X 296, X 297, X 298, X 299, X 300, X 301, X 302, X 303, X 304, X 305, X 306, X 307, X 308, X 309, X 310, X 311, X 312, X 313, X 314, X 315, X 316, X 317, X 318, X 319, X 320, X 321, X 322, X 323, X 324, X 325, X 326, X 327, X 328, X 329, X 330, X 331, X 332, X 333, X 334, X 335, X 336, X 337, X 338, X 339, X 340, X 341]

def InvM3 (pb lb lo n lc k f g : Nat) (W : World) (ac : Act) (wr : World) : Prop :=
  ∃ (X : Nat → Value) (x : Nat), ac = { tmps := frM3 pb lb lo n lc k x X, defers := [] } ∧ f + 1 ≤ x ∧ x ≤ g ∧ Hid (Ext W wr)
theorem InvM3.of {pb lb lo n lc k f g : Nat} {u : Array Value} {W wr : World} (x : Nat) (ht : u = frM3 pb lb lo n lc k x (fun j => u.getD j undef)) (h0 : f + 1 ≤ x) (h1 : x ≤ g) (h2 : Hid (Ext W wr)) :
    InvM3 pb lb lo n lc k f g W { tmps := u, defers := [] } wr := ⟨_, x, by rw [← ht], h0, h1, h2⟩

set_option maxRecDepth 1000000 in
set_option maxHeartbeats 16000000 in
theorem mend_tail21 (X : Nat → Value) (D2 pb lb lo n lc : Nat) (xb : Int) (v : PV) (l : List Nat) (a1 : Option Addr) (n1 c1 k9 : Nat) (w W0 : World) (HS : Hid (SX W0 D2 pb a1 n1 c1 v)) (HL : Hid (IsSl 1 num W0 ⟨some ⟨lb, lo, none⟩, lc, l⟩)) (hn : Hid (l.length = n)) (hlb : lb ≠ D2) (hlt : Hid (∀ x ∈ l, x < v.at'.l.length)) (hh : Hid (holdsF (allF true v.p) v.at'.l.length l = true)) (hn12 : n ≤ 12) (hn2 : 2 ≤ n) (hw : w.heap.size ≤ D2) (HX : Hid (Ext w W0)) (hk9 : k9 ≤ 250) (HD : Hid (IsDeck W0 D2 a1 n1 c1 k9)) :
    Code.wp Try.prog tail7_21 (bodyPost Try.prog Try.f7 fun e w' => e = .returned (.bool true) ∧ Ext w w') ⟨frM21 D2 pb lb lo n lc xb X, []⟩ W0 := by
  conv => arg 2; whnf
  conv => arg 4; dsimp only [frM21]
  have HPa := HS.out.prof
  have HPv : Hid (∀ w', Ext W0 w' → IsP w' v) := fun w' h => HPa.ext h
  clear HPa
  have HF0 := Lib.hid HS.out.five
  have HOk := Lib.hid HS.out.ok
  by_cases h2 : n = 2
  · have hb : ((n : Int) == 2) = true := by rw [beq_iff_eq]; omega
    have hma := mend_arg v ⟨some ⟨lb, lo, none⟩, lc, l⟩ W0 (HPv.out _ (Ext.refl _)) HOk.out HL.out hlt.out hh.out (by dsimp only; rw [hn.out]; exact h2)
    dsimp only at hma
    rw [hn.out] at hma
    have HMa := Lib.hid hma
    obtain ⟨t0, t1, t2, t3, t4⟩ := HF0.out
    clear h2 hma
    go_wp2_with fail
    refine HMa.out.mono ?_
    rintro e w1 ⟨rfl, hx1⟩
    have HX1 : Hid (Ext w w1) := HX.out.trans hx1
    clear hx1 HMa t0 t1 t2 t3 t4
    go_wp2_with (go_at_call 19; refine (awake_ok _).mono ?_; rintro e w7 ⟨rfl, hx7⟩; have HX7 : Hid (Ext w w7) := HX1.out.trans hx7; clear hx7)
    go_ret
    exact ⟨rfl, HX7.out⟩
  · have hb : ((n : Int) == 2) = false := by rw [beq_eq_false_iff_ne]; omega
    have hn3 : 3 ≤ n := by omega
    obtain ⟨n2, hn2'⟩ : ∃ n2, n2 + 2 = n := ⟨n - 2, by omega⟩
    have hw2 : (n : Int) - 2 = (n2 : Int) := by omega
    have hww : IntKind.i64.wrap ((n : Int) - 2) = (n2 : Int) := by rw [IntWalk.i64_in _ (by omega)]; omega
    have HFo := Lib.hid (fold_q xb n2 W0 (by omega) (by omega))
    have hr := (foldN_spec xb n2 (by omega)).1
    clear h2
    go_wp2_with fail
    refine HFo.out.mono ?_
    rintro e w1 ⟨rfl, rfl⟩
    generalize foldN xb n2 = m at *
    obtain ⟨k, hk⟩ : ∃ k, m + 1 = k := ⟨_, rfl⟩
    have hk1 : (1 : Int) + (m : Int) = (k : Int) := by omega
    have hk2 : IntKind.i64.wrap ((1 : Int) + (m : Int)) = (k : Int) := by rw [IntWalk.i64_in _ (by omega)]; omega
    clear HFo hw2 hww
    obtain ⟨A, f, x0, g, B, hl, hA⟩ := split3 l m (by have := hn.out; omega)
    subst hl
    obtain ⟨e0, e1, e2, e3, e4⟩ := get3 A B f x0 g
    have hS : ∀ i j, allF true v.p i j = true → i < j ∧ j < v.at'.l.length := fun i j h => ⟨allF_before h, (allF_of h).2.1⟩
    obtain ⟨M, hM⟩ : ∃ M, fewF (needsF (allF true v.p) v.at'.l.length g (x0 : Int)) (allF true v.p) v.at'.l.length f = M := ⟨_, rfl⟩
    obtain ⟨hM0, hM1⟩ := mend_math hS hh.out hM
    obtain ⟨R, hR⟩ : ∃ R, (if M.length = 0 then [] else A ++ (M ++ B)) = R := ⟨_, rfl⟩
    have hmo := fun w1 (hx : Ext W0 w1) => mend_ok v ⟨some ⟨lb, lo, none⟩, lc, A ++ f :: x0 :: g :: B⟩ A.length w1 (HPv.out _ hx) HOk.out (HL.out.ext hx) hlt.out hh.out (by dsimp only; have := hn.out; omega) (by dsimp only; have := hn.out; omega) M (by dsimp only; rw [e0, e1, e2]; exact hM) R (by dsimp only; rw [e3, e4]; exact hR)
    dsimp only at hmo
    rw [hn.out, hA, show ((m : Int) + 1) = (k : Int) by omega] at hmo
    have HMo := Lib.hid hmo
    have hch := (holds_iff.1 hh.out).2.2.2
    obtain ⟨hc1, hc2⟩ := chL_append.1 hch
    have hfx : f < x0 := (hS _ _ hc2.1).1
    have hxg : x0 < g := (hS _ _ hc2.2.1).1
    have hgN : g < v.at'.l.length := hlt.out g (by simp)
    have hN12 := HS.out.len
    have HCs : Hid (∀ u, Ext W0 u → u.cell? ⟨lb, lo + m, none⟩ = some (.int .i64 (f : Int)) ∧ u.cell? ⟨lb, lo + k, none⟩ = some (.int .i64 (x0 : Int)) ∧ u.cell? ⟨lb, lo + (k + 1), none⟩ = some (.int .i64 (g : Int))) := fun u hu => by
      obtain ⟨b, off, ha, hc⟩ := HL.out.2.2.resolve_left (by simp)
      cases ha
      have hl : (A ++ f :: x0 :: g :: B).length = A.length + 3 + B.length := by simp; omega
      have q0 := hc A.length (by dsimp only; omega) 0 (by omega)
      have q1 := hc (A.length + 1) (by dsimp only; omega) 0 (by omega)
      have q2 := hc (A.length + 2) (by dsimp only; omega) 0 (by omega)
      simp only [num, Nat.mul_one, Nat.add_zero] at q0 q1 q2
      rw [List.getElem?_eq_getElem (by omega), Option.getD_some] at e0 e1 e2
      rw [e0, hA] at q0
      rw [e1, hA] at q1
      rw [e2, hA] at q2
      rw [← hk]
      exact ⟨hu.cell q0, hu.cell q1, hu.cell q2⟩
    have HNe := Lib.hid (chain_ne (fun i j h => (hS i j h).1) hch)
    have HAl := Lib.hid hA
    have HM0 := Lib.hid hM0
    have HM1 := Lib.hid hM1
    have HRe := Lib.hid hR
    have HSe : Hid (∀ u i j, Ext W0 u → i < v.at'.l.length → j < v.at'.l.length → i ≠ j → Calls Try.prog 21 #[v.v, .int .i64 (i : Int), .int .i64 (j : Int)] u fun e w' => e = .returned (.tuple #[.bool (seeF false v.p i j), .bool (seeF true v.p i j), .int .i64 0]) ∧ Ext u w') := fun u i j hu hi hj hne => sees_ok v i j u (HPv.out _ hu) HOk.out hi hj hne
    obtain ⟨t0, t1, t2, t3, t4⟩ := HF0.out
    clear e0 e1 e2 e3 e4 hM hM0 hM1 hmo hch hc1 hc2 hR hA
    go_wp2_with fail
    refine (HMo.out _ (Ext.refl _)).mono ?_
    rintro e w2 ⟨ra, rc, rfl, hro, hx2⟩
    have HX2 := Lib.hid hx2
    have HF2 := Lib.hid (HF0.out.ext hx2)
    have HRo := Lib.hid hro
    have hwp : IntKind.i64.wrap ((k : Int) - 1) = (m : Int) := by rw [IntWalk.i64_in _ (by omega)]; omega
    obtain ⟨q, hq⟩ : ∃ q, k + 1 = q := ⟨_, rfl⟩
    have HQ := Lib.hid hq
    rw [hq] at HCs
    have hwk2 : IntKind.i64.wrap ((k : Int) + 1) = (q : Int) := by rw [IntWalk.i64_in _ (by omega)]; omega
    have i8' : (0 : Int) ≤ (q : Int) := by omega
    have i9' : (q : Int) < (n : Int) := by omega
    have i0' : (0 : Int) ≤ (m : Int) := by omega
    have i1' : (m : Int) < (n : Int) := by omega
    have i2' : (k : Int) < (n : Int) := by omega
    have i3' : (k : Int) + 1 < (n : Int) := by omega
    have i4' : (0 : Int) ≤ (k : Int) := by omega
    have i6' : (0 : Int) ≤ (k : Int) - 1 := by omega
    have i7' : (k : Int) - 1 < (n : Int) := by omega
    clear hx2 hro HMo hk1 hk2 t0 t1 t2 t3 t4 hq
    obtain ⟨d0, d1, d2⟩ := HCs.out w2 HX2.out
    by_cases hM0 : M.length = 0
    · have hR0 : R = [] := by rw [← HRe.out, if_pos hM0]
      subst hR0
      obtain ⟨sfg, sft⟩ := HM0.out hM0
      simp only [List.length_nil, if_true] at *
      have hwf : IntKind.i64.wrap ((f : Int) + 1) = ((f + 1 : Nat) : Int) := by rw [IntWalk.i64_in _ (by omega)]; omega
      have sfg2 : seeF true v.p f g = false := by rw [← allF_lt (show f < g by omega) hgN]; exact sfg
      have HSfg := Lib.hid sfg2
      have HSft : Hid (∀ t, t ≠ x0 → f < t → t < g → seeF true v.p f t = true → seeF true v.p t g = false) := fun t h1 h2 h3 h4 => by
        rw [← allF_lt h3 hgN]
        exact sft t h1 (by rw [allF_lt h2 (show t < v.p.A.length from Nat.lt_trans h3 hgN)]; exact h4)
      clear hM0 sfg sft sfg2 HM0 HM1 HRe HRo
      go_wp2_with fail
      refine wp_loop (InvM3 pb lb lo n lc k f g w2) (fun a _ => g - (intOf (a.tmps.getD 23 undef)).toNat) (InvM3.of (f + 1) rfl (Nat.le_refl _) (by omega) (Ext.refl w2)) ?_
      clear d0 d1 d2 hwf
      rintro ac wz ⟨X2, x, rfl, hx1, hx2, HZ⟩
      conv => arg 4; dsimp only [frM3]
      have HWz : Hid (Ext W0 wz) := HX2.out.trans HZ.out
      obtain ⟨d0, d1, d2⟩ := HCs.out wz HWz.out
      by_cases hlt2 : x < g
      · have dq : decide ((x : Int) < (g : Int)) = true := decide_eq_true (by omega)
        have hwx : IntKind.i64.wrap ((x : Int) + 1) = ((x + 1 : Nat) : Int) := by rw [IntWalk.i64_in _ (by omega)]; omega
        by_cases hxe : x = x0
        · have hb2 : ((x : Int) == (x0 : Int)) = true := by rw [beq_iff_eq]; omega
          clear hxe
          go_wp2_with fail
          refine ⟨InvM3.of (x + 1) ?_ (by omega) (by omega) HZ, ?_⟩
          · rfl
          · simp [intOf, frM3]; omega
        · have hb2 : ((x : Int) == (x0 : Int)) = false := by rw [beq_eq_false_iff_ne]; omega
          have HSf := Lib.hid (HSft.out x hxe (by omega) hlt2)
          clear hxe
          have HS1 : Hid (∀ u, Ext wz u → Calls Try.prog 21 #[v.v, .int .i64 (f : Int), .int .i64 (x : Int)] u fun e w' => e = .returned (.tuple #[.bool (seeF false v.p f x), .bool (seeF true v.p f x), .int .i64 0]) ∧ Ext u w') := fun u hu => HSe.out u f x (HWz.out.trans hu) (by omega) (by omega) (by omega)
          have HS2 : Hid (∀ u, Ext wz u → Calls Try.prog 21 #[v.v, .int .i64 (x : Int), .int .i64 (g : Int)] u fun e w' => e = .returned (.tuple #[.bool (seeF false v.p x g), .bool (seeF true v.p x g), .int .i64 0]) ∧ Ext u w') := fun u hu => HSe.out u x g (HWz.out.trans hu) (by omega) (by omega) (by omega)
          have HC1 : Hid (∀ u, Ext wz u → u.cell? ⟨pb, 0, none⟩ = some (.slice v.at'.a v.at'.l.length v.at'.c) ∧ u.cell? ⟨pb, 1, none⟩ = some (.slice v.gr.a v.gr.l.length v.gr.c) ∧ u.cell? ⟨pb, 2, none⟩ = some (.int .i64 (v.T : Int)) ∧ u.cell? ⟨pb, 3, none⟩ = some (.int .i64 (v.lo : Int)) ∧ u.cell? ⟨pb, 4, none⟩ = some (.int .i64 (v.hi : Int)) ∧ u.cell? ⟨lb, lo + m, none⟩ = some (.int .i64 (f : Int))) := fun u hu => by
            obtain ⟨e0, e1, e2, e3, e4⟩ := HF2.out.ext (HZ.out.trans hu)
            exact ⟨e0, e1, e2, e3, e4, (HCs.out u (HWz.out.trans hu)).1⟩
          have HC2 : Hid (∀ u, Ext wz u → u.cell? ⟨pb, 0, none⟩ = some (.slice v.at'.a v.at'.l.length v.at'.c) ∧ u.cell? ⟨pb, 1, none⟩ = some (.slice v.gr.a v.gr.l.length v.gr.c) ∧ u.cell? ⟨pb, 2, none⟩ = some (.int .i64 (v.T : Int)) ∧ u.cell? ⟨pb, 3, none⟩ = some (.int .i64 (v.lo : Int)) ∧ u.cell? ⟨pb, 4, none⟩ = some (.int .i64 (v.hi : Int)) ∧ u.cell? ⟨lb, lo + q, none⟩ = some (.int .i64 (g : Int))) := fun u hu => by
            obtain ⟨e0, e1, e2, e3, e4⟩ := HF2.out.ext (HZ.out.trans hu)
            exact ⟨e0, e1, e2, e3, e4, (HCs.out u (HWz.out.trans hu)).2.2⟩
          obtain ⟨a1b, ha1⟩ : ∃ b, seeF true v.p f x = b := ⟨_, rfl⟩
          obtain ⟨b1b, hb1⟩ : ∃ b, seeF true v.p x g = b := ⟨_, rfl⟩
          obtain ⟨a2b, ha2⟩ : ∃ b, seeF false v.p f x = b := ⟨_, rfl⟩
          obtain ⟨b2b, hb3⟩ : ∃ b, seeF false v.p x g = b := ⟨_, rfl⟩
          rw [ha1, ha2] at HS1
          rw [hb1, hb3] at HS2
          rw [ha1, hb1] at HSf
          clear ha1 hb1 ha2 hb3
          go_wp2_with fail
          go_region_held3 (fun u => u.cell? ⟨pb, 0, none⟩ = some (.slice v.at'.a v.at'.l.length v.at'.c) ∧ u.cell? ⟨pb, 1, none⟩ = some (.slice v.gr.a v.gr.l.length v.gr.c) ∧ u.cell? ⟨pb, 2, none⟩ = some (.int .i64 (v.T : Int)) ∧ u.cell? ⟨pb, 3, none⟩ = some (.int .i64 (v.lo : Int)) ∧ u.cell? ⟨pb, 4, none⟩ = some (.int .i64 (v.hi : Int)) ∧ u.cell? ⟨lb, lo + m, none⟩ = some (.int .i64 (f : Int)))
            ((refine HC1.out _ ?_ <;> (repeat (first | exact Ext.refl _ | refine Ext.trans ?_ (by assumption) | refine Ext.drew ?_ | refine Ext.alloc ?_ _))))
            (first
              | (go_at_call 21; refine (HS1.out _ ?_).mono ?_; (repeat (first | exact Ext.refl _ | refine Ext.trans ?_ (by assumption) | refine Ext.drew ?_ | refine Ext.alloc ?_ _)); rintro e we ⟨rfl, hx'⟩))
          have hXe : Ext wz we := by (repeat (first | exact Ext.refl _ | refine Ext.trans ?_ (by assumption) | refine Ext.drew ?_ | refine Ext.alloc ?_ _))
          have HXe := Lib.hid hXe
          clear hXe hx' HC1 HS1 d0 d1 d2
          obtain ⟨wv, hwv⟩ : ∃ wv, wv = we := ⟨_, rfl⟩
          subst hwv
          have HS3 : Hid (∀ u, Ext wv u → Calls Try.prog 21 #[v.v, .int .i64 (x : Int), .int .i64 (g : Int)] u fun e w' => e = .returned (.tuple #[.bool b2b, .bool b1b, .int .i64 0]) ∧ Ext u w') := fun u hu => HS2.out u (HXe.out.trans hu)
          have HC3 : Hid (∀ u, Ext wv u → u.cell? ⟨pb, 0, none⟩ = some (.slice v.at'.a v.at'.l.length v.at'.c) ∧ u.cell? ⟨pb, 1, none⟩ = some (.slice v.gr.a v.gr.l.length v.gr.c) ∧ u.cell? ⟨pb, 2, none⟩ = some (.int .i64 (v.T : Int)) ∧ u.cell? ⟨pb, 3, none⟩ = some (.int .i64 (v.lo : Int)) ∧ u.cell? ⟨pb, 4, none⟩ = some (.int .i64 (v.hi : Int)) ∧ u.cell? ⟨lb, lo + q, none⟩ = some (.int .i64 (g : Int))) := fun u hu => HC2.out u (HXe.out.trans hu)
          clear HS2 HC2
          go_wp2_with fail
          go_region_held3 (fun u => u.cell? ⟨pb, 0, none⟩ = some (.slice v.at'.a v.at'.l.length v.at'.c) ∧ u.cell? ⟨pb, 1, none⟩ = some (.slice v.gr.a v.gr.l.length v.gr.c) ∧ u.cell? ⟨pb, 2, none⟩ = some (.int .i64 (v.T : Int)) ∧ u.cell? ⟨pb, 3, none⟩ = some (.int .i64 (v.lo : Int)) ∧ u.cell? ⟨pb, 4, none⟩ = some (.int .i64 (v.hi : Int)) ∧ u.cell? ⟨lb, lo + q, none⟩ = some (.int .i64 (g : Int)))
            ((refine HC3.out _ ?_ <;> (repeat (first | exact Ext.refl _ | refine Ext.trans ?_ (by assumption) | refine Ext.drew ?_ | refine Ext.alloc ?_ _))))
            (first
              | (go_at_call 21; refine (HS3.out _ ?_).mono ?_; (repeat (first | exact Ext.refl _ | refine Ext.trans ?_ (by assumption) | refine Ext.drew ?_ | refine Ext.alloc ?_ _)); rintro e we ⟨rfl, hx'⟩))
          have hXe : Ext wv we := by (repeat (first | exact Ext.refl _ | refine Ext.trans ?_ (by assumption) | refine Ext.drew ?_ | refine Ext.alloc ?_ _))
          have HXf : Hid (Ext w2 we) := (HZ.out.trans HXe.out).trans hXe
          clear hXe hx' HC3 HS3
          have hcase : a1b = false ∨ (a1b = true ∧ b1b = false) := by
            cases a1b
            · left; rfl
            · right; exact ⟨rfl, HSf.out rfl⟩
          clear HSf
          rcases hcase with rfl | ⟨rfl, rfl⟩
          · go_wp2_with fail
            refine ⟨InvM3.of (x + 1) ?_ (by omega) (by omega) HXf, ?_⟩
            · rfl
            · simp [intOf, frM3]; omega
          · go_wp2_with fail
            refine ⟨InvM3.of (x + 1) ?_ (by omega) (by omega) HXf, ?_⟩
            · rfl
            · simp [intOf, frM3]; omega
      · obtain rfl : x = g := by omega
        have dq : decide ((x : Int) < (x : Int)) = false := decide_eq_false (by omega)
        have HS1 : Hid (∀ u, Ext wz u → Calls Try.prog 21 #[v.v, .int .i64 (f : Int), .int .i64 (x : Int)] u fun e w' => e = .returned (.tuple #[.bool (seeF false v.p f x), .bool false, .int .i64 0]) ∧ Ext u w') := fun u hu => by
          have := HSe.out u f x (HWz.out.trans hu) (by omega) (by omega) (by omega)
          rw [HSfg.out] at this
          exact this
        have HC1 : Hid (∀ u, Ext wz u → u.cell? ⟨pb, 0, none⟩ = some (.slice v.at'.a v.at'.l.length v.at'.c) ∧ u.cell? ⟨pb, 1, none⟩ = some (.slice v.gr.a v.gr.l.length v.gr.c) ∧ u.cell? ⟨pb, 2, none⟩ = some (.int .i64 (v.T : Int)) ∧ u.cell? ⟨pb, 3, none⟩ = some (.int .i64 (v.lo : Int)) ∧ u.cell? ⟨pb, 4, none⟩ = some (.int .i64 (v.hi : Int)) ∧ u.cell? ⟨lb, lo + m, none⟩ = some (.int .i64 (f : Int)) ∧ u.cell? ⟨lb, lo + q, none⟩ = some (.int .i64 (x : Int))) := fun u hu => by
          obtain ⟨e0, e1, e2, e3, e4⟩ := HF2.out.ext (HZ.out.trans hu)
          exact ⟨e0, e1, e2, e3, e4, (HCs.out u (HWz.out.trans hu)).1, (HCs.out u (HWz.out.trans hu)).2.2⟩
        obtain ⟨a2b, ha2⟩ : ∃ b, seeF false v.p f x = b := ⟨_, rfl⟩
        rw [ha2] at HS1
        clear ha2
        go_wp2_with fail
        go_region_held3 (fun u => u.cell? ⟨pb, 0, none⟩ = some (.slice v.at'.a v.at'.l.length v.at'.c) ∧ u.cell? ⟨pb, 1, none⟩ = some (.slice v.gr.a v.gr.l.length v.gr.c) ∧ u.cell? ⟨pb, 2, none⟩ = some (.int .i64 (v.T : Int)) ∧ u.cell? ⟨pb, 3, none⟩ = some (.int .i64 (v.lo : Int)) ∧ u.cell? ⟨pb, 4, none⟩ = some (.int .i64 (v.hi : Int)) ∧ u.cell? ⟨lb, lo + m, none⟩ = some (.int .i64 (f : Int)) ∧ u.cell? ⟨lb, lo + q, none⟩ = some (.int .i64 (x : Int)))
          ((refine HC1.out _ ?_ <;> (repeat (first | exact Ext.refl _ | refine Ext.trans ?_ (by assumption) | refine Ext.drew ?_ | refine Ext.alloc ?_ _))))
          (first
            | (go_at_call 21; refine (HS1.out _ ?_).mono ?_; (repeat (first | exact Ext.refl _ | refine Ext.trans ?_ (by assumption) | refine Ext.drew ?_ | refine Ext.alloc ?_ _)); rintro e we ⟨rfl, hx'⟩))
        have hXe : Ext wz we := by (repeat (first | exact Ext.refl _ | refine Ext.trans ?_ (by assumption) | refine Ext.drew ?_ | refine Ext.alloc ?_ _))
        have HXf : Hid (Ext w we) := ((HX.out.trans HX2.out).trans HZ.out).trans hXe
        clear hXe hx' HC1 HS1 d0 d1 d2
        go_wp2_with (go_at_call 19; refine (awake_ok _).mono ?_; rintro e w7 ⟨rfl, hx7⟩; have HX7 : Hid (Ext w w7) := HXf.out.trans hx7; clear hx7)
        go_ret
        exact ⟨rfl, HX7.out⟩
    · have hR1 : R = A ++ (M ++ B) := by rw [← HRe.out, if_neg hM0]
      have HMt := Lib.hid (HM1.out hM0)
      rw [← hR1] at HMt
      have hRp : ¬ R.length = 0 := HMt.out.pos
      have hRlen : R.length ≤ 12 := Nat.le_trans (chL_len (fun i j h => (hS i j h).1) (holds_iff.1 HMt.out.hold).2.2.2 HMt.out.lt) hN12
      have hRs : IsSl 1 num w2 ⟨ra, rc, R⟩ := own_sl HRo.out (by omega)
      have hho := holds_ok v ⟨ra, rc, R⟩ w2 (HPv.out _ HX2.out) HOk.out hRs HMt.out.lt
      dsimp only at hho
      rw [show holdsF (allF true v.p) v.at'.l.length R = true from HMt.out.hold] at hho
      have HHo := Lib.hid hho
      have HCt : Hid (∀ u, Ext w2 u → Calls Try.prog 31 #[.slice ra R.length rc, .int .i64 (x0 : Int)] u fun e w' => e = .returned (.bool false) ∧ u = w') := fun u hu => by
        have h := contains_any ra R.length rc R x0 u rfl (hRs.ext hu)
        rw [show R.contains x0 = false by simpa using HMt.out.off] at h
        exact h
      have HRs := Lib.hid hRs
      have HRap : Hid (∀ b off, ra = some ⟨b, off, none⟩ → b ≠ D2) := fun b off e => by
        have h1 := (own_type HRo.out (k := b) (by rw [e]; rfl)).1
        have h2 := HS.out.deck
        omega
      obtain ⟨t0, t1, t2, t3, t4⟩ := HF2.out
      rw [if_neg hRp]
      have e7 : ((0 : Int) != 0) = false := rfl
      clear hM0 hR1 HM0 HM1 HRe HRo hho hRs hRp hwk2
      go_wp2_with fail
      refine HHo.out.mono ?_
      rintro e w3 ⟨rfl, hx3⟩
      have HX3 := Lib.hid hx3
      have HX03 : Hid (Ext W0 w3) := HX2.out.trans hx3
      clear hx3 HHo t0 t1 t2 t3 t4 d0 d1 d2
      obtain ⟨d0, d1, d2⟩ := HCs.out w3 HX03.out
      go_wp2_with fail
      refine (HCt.out w3 HX3.out).mono ?_
      rintro e w4 ⟨rfl, rfl⟩
      have HSM : Hid (SM w3 D2 pb lb lo n lc k a1 n1 c1 v A B f x0 g ⟨ra, rc, R⟩) :=
        ⟨HS.out.ext HX03.out, HL.out.ext HX03.out, hlb, by rw [HAl.out]; exact hk, by have := hn.out; simp at this; omega, hlt.out, fun i hi hik => HMt.out.on _ (List.getElem_mem hi) (HNe.out i hi (by rw [HAl.out]; omega)), ⟨hfx, hxg, by omega, hn12⟩, HRs.out.ext HX3.out, HRap.out, by dsimp only; omega, HMt.out⟩
      have HD3 := Lib.hid (HD.out.ext HX03.out)
      have HXw : Hid (Ext w w3) := HX.out.trans HX03.out
      have HKr : Hid (Keep (fun x => x ≠ D2) w3 w3) := Keep.refl _ _
      clear HCt HCs d0 d1 d2 HMt HRs HRap HSe HPv HF0 HF2
      dsimp only
      repeat (first
        | exact mend_tail42' _ D2 pb lb lo n lc k v A B f x0 g ⟨ra, rc, R⟩ a1 n1 c1 k9 w w3 w3 rfl HSM hw HXw hk9 HD3 HKr
        | go_step)
/-- The same, from slots as they lie. -/
theorem mend_tail21' (t : Array Value) (D2 pb lb lo n lc : Nat) (xb : Int) (v : PV) (l : List Nat) (a1 : Option Addr) (n1 c1 k9 : Nat) (w W0 : World) (ht : t = frM21 D2 pb lb lo n lc xb (fun j => t.getD j undef)) (HS : Hid (SX W0 D2 pb a1 n1 c1 v)) (HL : Hid (IsSl 1 num W0 ⟨some ⟨lb, lo, none⟩, lc, l⟩)) (hn : Hid (l.length = n)) (hlb : lb ≠ D2) (hlt : Hid (∀ x ∈ l, x < v.at'.l.length)) (hh : Hid (holdsF (allF true v.p) v.at'.l.length l = true)) (hn12 : n ≤ 12) (hn2 : 2 ≤ n) (hw : w.heap.size ≤ D2) (HX : Hid (Ext w W0)) (hk9 : k9 ≤ 250) (HD : Hid (IsDeck W0 D2 a1 n1 c1 k9)) :
    Code.wp Try.prog tail7_21 (bodyPost Try.prog Try.f7 fun e w' => e = .returned (.bool true) ∧ Ext w w') ⟨t, []⟩ W0 := by
  rw [ht]
  exact mend_tail21 _ D2 pb lb lo n lc xb v l a1 n1 c1 k9 w W0 HS HL hn hlb hlt hh hn12 hn2 hw HX hk9 HD
end Go.Proofs.Ytfognlealnhodaa

namespace Go.Proofs.Ytfognlealnhodaa
open Go.RowKit

def frL1 (D2 pb lc i N : Nat) (xb : Int) (la : Option Addr) (X : Nat → Value) : Array Value := #[X 0, X 1, .int .i64 xb, X 3, X 4, X 5, X 6, X 7, .pointer (some ⟨D2, 0, none⟩), .pointer (some ⟨pb, 0, none⟩), X 10, .slice la i lc, X 12, X 13, X 14, X 15, X 16, X 17, X 18, X 19, X 20, X 21, X 22, X 23, X 24, X 25, X 26, X 27, X 28, X 29, X 30, X 31, X 32, X 33, X 34, X 35, X 36, X 37, X 38, X 39, X 40, X 41, X 42, X 43, X 44, X 45, X 46, X 47, X 48, X 49, X 50, X 51, .int .i64 (N : Int), .int .i64 (i : Int), X 54, X 55, X 56, X 57, X 58, X 59, X 60, X 61, X 62, X 63, X 64, X 65, X 66, X 67, X 68, X 69, X 70, X 71, X 72, X 73, X 74, X 75, X 76, X 77, X 78, X 79, X 80, X 81, X 82, X 83, X 84, X 85, X 86, X 87, X 88, X 89, X 90, X 91, X 92, X 93, X 94, X 95, X 96, X 97, X 98, X 99, X 100, X 101, X 102, X 103, X 104, X 105, X 106, X 107, X 108, X 109, X 110, X 111, X 112, X 113, X 114, X 115, X 116, X 117, X 118, X 119, X 120, X 121, X 122, X 123, X 124, X 125, X 126, X 127, X 128, X 129, X 130, X 131, X 132, X 133, X 134, X 135, X 136, X 137, X 138, X 139, X 140, X 141, X 142, X 143, X 144, X 145, X 146, X 147, X 148, X 149, X 150, X 151, X 152, X 153, X 154, X 155, X 156, X 157, X 158, X 159, X 160, X 161, X 162, X 163, X 164, X 165, X 166, X 167, X 168, X 169, X 170, X 171, X 172, X 173, X 174, X 175, X 176, X 177, X 178, X 179, X 180, X 181, X 182, X 183, X 184, X 185, X 186, X 187, X 188, X 189, X 190, X 191, X 192, X 193, X 194, X 195, X 196, X 197, X 198, X 199, X 200, X 201, X 202, X 203, X 204, X 205, X 206, X 207, X 208, X 209, X 210, X 211, X 212, X 213, X 214, X 215, X 216, X 217, X 218, X 219, X 220, X 221, X 222, X 223, X 224, X 225, X 226, X 227, X 228, X 229, X 230, X 231, X 232, X 233, X 234, X 235, X 236, X 237, X 238, X 239, X 240, X 241, X 242, X 243, X 244, X 245, X 246, X 247, X 248, X 249, X 250, X 251, X 252, X 253, X 254, X 255, X 256, X 257, X 258, X 259, X 260, X 261, X 262, X 263, X 264, X 265, X 266, X 267, X 268, X 269, X 270, X 271, X 272, X 273, X 274, X 275, X 276, X 277, X 278, X 279, X 280, X 281, X 282, X 283, X 284, X 285, X 286, X 287, X 288, X 289, X 290, X 291, X 292, X 293, X 294, X 295, X 296, X 297, X 298, X 299, X 300, X 301, X 302, X 303, X 304, X 305, X 306, X 307, X 308, X 309, X 310, X 311, X 312, X 313, X 314, X 315, X 316, X 317, X 318, X 319, X 320, X 321, X 322, X 323, X 324, X 325, X 326, X 327, X 328, X 329, X 330, X 331, X 332, X 333, X 334, X 335, X 336, X 337, X 338, X 339, X 340, X 341]
def frL2 (D2 pb lc n k : Nat) (xb : Int) (la : Option Addr) (X : Nat → Value) : Array Value := #[X 0, X 1, .int .i64 xb, X 3, X 4, X 5, X 6, X 7, .pointer (some ⟨D2, 0, none⟩), .pointer (some ⟨pb, 0, none⟩), X 10, .slice la n lc, X 12, .int .i64 (k : Int), X 14, X 15, X 16, X 17, X 18, X 19, X 20, X 21, X 22, X 23, X 24, X 25, X 26, X 27, X 28, X 29, X 30, X 31, X 32, X 33, X 34, X 35, X 36, X 37, X 38, X 39, X 40, X 41, X 42, X 43, X 44, X 45, X 46, X 47, X 48, X 49, X 50, X 51, X 52, X 53, X 54, X 55, X 56, X 57, X 58, X 59, X 60, X 61, X 62, X 63, X 64, X 65, X 66, X 67, X 68, X 69, X 70, X 71, X 72, X 73, X 74, X 75, X 76, X 77, X 78, X 79, X 80, X 81, X 82, X 83, X 84, X 85, X 86, X 87, X 88, X 89, X 90, X 91, X 92, X 93, X 94, X 95, X 96, X 97, X 98, X 99, X 100, X 101, X 102, X 103, X 104, X 105, X 106, X 107, X 108, X 109, X 110, X 111, X 112, X 113, X 114, X 115, X 116, X 117, X 118, X 119, X 120, X 121, X 122, X 123, X 124, X 125, X 126, X 127, X 128, X 129, X 130, X 131, X 132, X 133, X 134, X 135, X 136, X 137, X 138, X 139, X 140, X 141, X 142, X 143, X 144, X 145, X 146, X 147, X 148, X 149, X 150, X 151, X 152, X 153, X 154, X 155, X 156, X 157, X 158, X 159, X 160, X 161, X 162, X 163, X 164, X 165, X 166, X 167, X 168, X 169, X 170, X 171, X 172, X 173, X 174, X 175, X 176, X 177, X 178, X 179, X 180, X 181, X 182, X 183, X 184, X 185, X 186, X 187, X 188, X 189, X 190, X 191, X 192, X 193, X 194, X 195, X 196, X 197, X 198, X 199, X 200, X 201, X 202, X 203, X 204, X 205, X 206, X 207, X 208, X 209, X 210, X 211, X 212, X 213, X 214, X 215, X 216, X 217, X 218, X 219, X 220, X 221, X 222, X 223, X 224, X 225, X 226, X 227, X 228, X 229, X 230, X 231, X 232, X 233, X 234, X 235, X 236, X 237, X 238, X 239, X 240, X 241, X 242, X 243, X 244, X 245, X 246, X 247, X 248, X 249, X 250, X 251, X 252, X 253, X 254, X 255, X 256, X 257, X 258, X 259, X 260, X 261, X 262, X 263, X 264, X 265, X 266, X 267, X 268, X 269, X 270, X 271, X 272, X 273, X 274, X 275, X 276, X 277, X 278, X 279, X 280, X 281, X 282, X 283, X 284, X 285, X 286, X 287, X 288, X 289, X 290, X 291, X 292, X 293, X 294, X 295, X 296, X 297, X 298, X 299, X 300, X 301, X 302, X 303, X 304, X 305, X 306, X 307, X 308, X 309, X 310, X 311, X 312, X 313, X 314, X 315, X 316, X 317, X 318, X 319, X 320, X 321, X 322, X 323, X 324, X 325, X 326, X 327, X 328, X 329, X 330, X 331, X 332, X 333, X 334, X 335, X 336, X 337, X 338, X 339, X 340, X 341]

theorem SX.keep {W W' : World} {D2 pb : Nat} {a1 : Option Addr} {n1 c1 : Nat} {v : PV} (h : SX W D2 pb a1 n1 c1 v) (k : Keep (fun x => x ≠ D2) W W') : SX W' D2 pb a1 n1 c1 v :=
  ⟨(h.at k).1, h.ok, (h.at k).2, by have := h.deck; have := k.size; omega, fun b off e e2 => by have := h.byt b off e e2; have := k.size; omega, h.len, h.ne, h.apart⟩
def InvL1 (D2 pb N : Nat) (xb : Int) (W : World) (ac : Act) (wr : World) : Prop :=
  ∃ (X : Nat → Value) (i lc : Nat) (la : Option Addr), ac = { tmps := frL1 D2 pb lc i N xb la X, defers := [] } ∧ i ≤ N ∧ Hid (wr.ownsRow W.heap.size 3 1 (.slice la i lc) i (nums (List.range i))) ∧ Hid (Ext W wr)
theorem InvL1.of {D2 pb N : Nat} {xb : Int} {u : Array Value} {W wr : World} (i lc : Nat) (la : Option Addr) (ht : u = frL1 D2 pb lc i N xb la (fun j => u.getD j undef)) (h1 : i ≤ N) (h2 : Hid (wr.ownsRow W.heap.size 3 1 (.slice la i lc) i (nums (List.range i)))) (h3 : Hid (Ext W wr)) :
    InvL1 D2 pb N xb W { tmps := u, defers := [] } wr := ⟨_, i, lc, la, by rw [← ht], h1, h2, h3⟩
/-- Pillars that hold, in memory of their own. -/
structure RowL (b : Nat) (v : PV) (la : Option Addr) (n lc : Nat) (l : List Nat) (w : World) : Prop where
  own : w.ownsRow b 3 1 (.slice la n lc) n (nums l)
  len : l.length = n
  lt : ∀ x ∈ l, x < v.at'.l.length
  hold : holdsF (allF true v.p) v.at'.l.length l = true
def InvL2 (D2 pb : Nat) (xb : Int) (v : PV) (a1 : Option Addr) (n1 c1 : Nat) (W : World) (ac : Act) (wr : World) : Prop :=
  ∃ (X : Nat → Value) (k n lc k' : Nat) (la : Option Addr) (l : List Nat), ac = { tmps := frL2 D2 pb lc n k xb la X, defers := [] } ∧ k + 2 ≤ n ∧ n ≤ 10 ∧ k' + k ≤ 10 ∧ Hid (RowL W.heap.size v la n lc l wr) ∧ Hid (IsDeck wr D2 a1 n1 c1 k') ∧ Hid (Keep (fun x => x ≠ D2) W wr)
theorem InvL2.of {D2 pb : Nat} {xb : Int} {v : PV} {a1 : Option Addr} {n1 c1 : Nat} {u : Array Value} {W wr : World} (k n lc k' : Nat) (la : Option Addr) (l : List Nat) (ht : u = frL2 D2 pb lc n k xb la (fun j => u.getD j undef)) (h1 : k + 2 ≤ n) (h2 : n ≤ 10) (h3 : k' + k ≤ 10) (h4 : Hid (RowL W.heap.size v la n lc l wr)) (h5 : Hid (IsDeck wr D2 a1 n1 c1 k')) (h6 : Hid (Keep (fun x => x ≠ D2) W wr)) :
    InvL2 D2 pb xb v a1 n1 c1 W { tmps := u, defers := [] } wr := ⟨_, k, n, lc, k', la, l, by rw [← ht], h1, h2, h3, h4, h5, h6⟩

set_option maxRecDepth 1000000 in
set_option maxHeartbeats 16000000 in
theorem mended_all (a0 a1 : Option Addr) (n0 c0 n1 c1 : Nat) (xb : Int) (w : World) (h0 : IsBytes w a0 n0 c0) (h1 : IsBytes w a1 n1 c1) :
    Calls Try.prog 7 #[.slice a0 n0 c0, .slice a1 n1 c1, .int .i64 xb] w fun e w' => e = .returned (.bool true) ∧ Ext w w' := by
  obtain ⟨i0, hi3, hz0, hz1, hz2⟩ := info_parts info3
  have H1 := Lib.hid h1
  have H0 := Lib.hid h0
  clear h0 h1
  go_enter Try.func7, Try.ntmps7
  go_wp2_with fail
  refine (of_any a0 n0 c0 w H0.out).mono ?_
  rintro e w1 ⟨rfl, hd1, hx1⟩
  have HDa := Lib.hid hd1
  have HX1 := Lib.hid hx1
  clear hd1 hx1
  go_wp2_with fail
  refine (of_any a1 n1 c1 w1 (H1.out.ext HX1.out)).mono ?_
  rintro e w2 ⟨rfl, hd2, hx2⟩
  have HD1 := Lib.hid (HDa.out.ext hx2)
  have HD2 := Lib.hid hd2
  have HX2 : Hid (Ext w w2) := HX1.out.trans hx2
  have hw1 : w.heap.size < w1.heap.size := HDa.out.lt
  have hb1 : ∀ b off, a1 = some ⟨b, off, none⟩ → 0 < n1 → b < w.heap.size := fun b off ha hn => by
    obtain ⟨_, _, h3⟩ := H1.out
    obtain ⟨b', off', ha', hc⟩ := h3.resolve_left (by omega)
    rw [ha] at ha'
    cases ha'
    obtain ⟨x, _, hx⟩ := hc 0 hn
    exact lt_of_cell hx
  have HB1 := Lib.hid hb1
  clear hd2 hx2 HDa hb1
  obtain ⟨D2, hD2⟩ : ∃ D2, w1.heap.size = D2 := ⟨_, rfl⟩
  rw [hD2] at HD2 hw1
  go_wp2_with fail
  clear hD2
  refine (made_any w.heap.size a0 n0 c0 0 10 w2 HD1.out (by omega) (by omega) (by omega)).mono ?_
  rintro e w3 ⟨v, T, k3, rfl, hok, hm12, hgl, hhi, hgb, htl, htr, hoA, hoG, hoT, -, -, hk3⟩
  have h2w : D2 < w2.heap.size := HD2.out.lt
  have HD3 : Hid (IsDeck w3 D2 a1 n1 c1 0) := HD2.out.keepD hk3 (show D2 ≠ w.heap.size by omega) (fun b off ha hn => by have := HB1.out b off ha hn; omega)
  have HX3 : Hid (Ext w w3) := ext_keep HX2.out hk3 (fun i hi => by omega)
  have HOk := Lib.hid hok
  have hM : v.at'.l.length ≤ 10 ∧ 2 ≤ v.at'.l.length := ⟨hm12, hok.n1⟩
  have HPp : Hid (IsP w3 v) := ⟨own_sl hoA (show v.at'.l.length ≤ 1000000 by omega), own_slG hoG (show v.gr.l.length ≤ 1000000 by omega)⟩
  have HAp : Hid (∀ g off, (v.at'.a = some ⟨g, off, none⟩ → w2.heap.size ≤ g) ∧ (v.gr.a = some ⟨g, off, none⟩ → w2.heap.size ≤ g)) := fun g off => ⟨fun e => (own_type hoA (k := g) (by rw [show v.at'.v = .slice v.at'.a v.at'.l.length v.at'.c from rfl, e]; rfl)).1, fun e => (own_type hoG (k := g) (by rw [show v.gr.v = .slice v.gr.a v.gr.l.length v.gr.c from rfl, e]; rfl)).1⟩
  have HTr : Hid (T.l.length = v.at'.l.length ∧ truthTo T.l v.gr.l T.l.length = true ∧ IsSl 1 num w3 T ∧ ∀ g off, T.a = some ⟨g, off, none⟩ → w2.heap.size ≤ g) := ⟨htl, by rw [htl]; exact htr, own_sl hoT (show T.l.length ≤ 1000000 by omega), fun g off e => (own_type hoT (k := g) (by rw [show T.v = .slice T.a T.l.length T.c from rfl, e]; rfl)).1⟩
  have HGb : Hid (v.gr.l.length = v.at'.l.length ∧ v.hi ≤ 1000 ∧ ∀ s ∈ v.gr.l, s.1 ≤ s.2 ∧ s.2 ≤ 1000) := ⟨hgl, hhi, fun s hs => by have := hgb s hs; omega⟩
  clear hoA hoG hoT hk3 hok hm12 hgl hhi hgb htl htr HD1 HD2 HX2 HX1 HTr HGb
  have HF := Lib.hid (five_new w3 v)
  have HX4 : Hid (Ext w3 (w3.alloc (.cells #[.slice v.at'.a v.at'.l.length v.at'.c, .slice v.gr.a v.gr.l.length v.gr.c, .int .i64 (v.T : Int), .int .i64 (v.lo : Int), .int .i64 (v.hi : Int)] 30))) := (Ext.refl w3).alloc _
  have HDl : Hid (D2 < w3.heap.size) := HD3.out.lt
  have HBy3 : Hid (∀ b off, a1 = some ⟨b, off, none⟩ → 0 < n1 → b < w.heap.size) := HB1
  have HXw3 := HX3.out.size
  obtain ⟨t0, t1, t2, t3, t4⟩ := HF.out
  go_upto_region 3 with (fail)
  have HSX : Hid (SX (w3.alloc (.cells #[.slice v.at'.a v.at'.l.length v.at'.c, .slice v.gr.a v.gr.l.length v.gr.c, .int .i64 (v.T : Int), .int .i64 (v.lo : Int), .int .i64 (v.hi : Int)] 30)) D2 w3.heap.size a1 n1 c1 v) := by
    have hdl := HDl.out
    refine ⟨HPp.out.ext HX4.out, HOk.out, HF.out, by rw [World.size_alloc]; omega, fun b off e e2 => by have := HBy3.out b off e e2; rw [World.size_alloc]; omega, by have := hM.1; omega, by omega, fun g off => ⟨fun e => ?_, fun e => ?_⟩⟩
    · have := (HAp.out g off).1 e; omega
    · have := (HAp.out g off).2 e; omega
  have HD4 := Lib.hid (HD3.out.ext HX4.out)
  have HXw : Hid (Ext w (w3.alloc (.cells #[.slice v.at'.a v.at'.l.length v.at'.c, .slice v.gr.a v.gr.l.length v.gr.c, .int .i64 (v.T : Int), .int .i64 (v.lo : Int), .int .i64 (v.hi : Int)] 30))) := HX3.out.trans HX4.out
  clear HF HX4 HDl HBy3 HXw3 HX3 HD3 HAp HPp HB1
  generalize w3.alloc (.cells #[.slice v.at'.a v.at'.l.length v.at'.c, .slice v.gr.a v.gr.l.length v.gr.c, .int .i64 (v.T : Int), .int .i64 (v.lo : Int), .int .i64 (v.hi : Int)] 30) = w4 at *
  generalize w3.heap.size = pb at *
  obtain ⟨N, hN⟩ : ∃ N, v.at'.l.length = N := ⟨_, rfl⟩
  have HNe := Lib.hid hN
  rw [hN] at t0 hM
  obtain ⟨hM1, hM2⟩ := hM
  clear hN
  go_wp2_with fail
  refine wp_loop (InvL1 D2 pb N xb w4) (fun a _ => N - (intOf (a.tmps.getD 53 undef)).toNat) (InvL1.of 0 0 none rfl (Nat.zero_le _) (World.ownsRow_nil _ _ _ _) (Ext.refl _)) ?_
  clear t0 t1 t2 t3 t4
  rintro ac wr ⟨X1, i, lc, la, rfl, hi, HO, HE⟩
  conv => arg 4; dsimp only [frL1]
  by_cases hlt : i < N
  · have di : decide ((i : Int) < (N : Int)) = true := decide_eq_true (by omega)
    have hwi : IntKind.i64.wrap ((i : Int) + 1) = ((i + 1 : Nat) : Int) := by rw [IntWalk.i64_in _ (by omega)]; omega
    have HN1 := Lib.hid (new_cells wr (nums [i]) 3)
    have hsz : w4.heap.size ≤ (wr.alloc (.cells (nums [i]).toArray 3)).heap.size := by rw [World.size_alloc]; have := HE.out.size; omega
    have hmx : i + 1 ≤ maxLen := by unfold maxLen; omega
    have hmb : (i + 1) * 8 ≤ 140737488355328 := by omega
    go_wp2_with (at_builtin; go_must (refine wpList_append_lies _ rfl _ _ 25 rfl w4.heap.size 3 i0 (.int .i64 0) 1 8 Try.underlying25 hi3 hz0 hz1 hz2 rfl (by decide) _ i (nums (List.range i)) rfl (own_ext HO.out ((Ext.refl wr).alloc _)) ⟨wr.heap.size, 0, none⟩ 1 1 (nums [i]) rfl rfl HN1.out (nums_one [i]) (by decide) hmx hmb hsz _ rfl ?_); intro gg cap wm hown hgrow hat hlt5)
    rw [← nums_append, ← List.range_succ] at hown
    have HE2 : Hid (Ext w4 wm) := ext_grown_of (HE.out.alloc _) hgrow (own_lt HO.out)
    have HO2 := Lib.hid hown
    clear hown hgrow hat hlt5 HN1 hsz
    refine ⟨InvL1.of (i + 1) _ _ ?_ (by omega) HO2 HE2, ?_⟩
    · rfl
    · simp [intOf, frL1]; omega
  · obtain rfl : i = N := by omega
    have di : decide ((i : Int) < (i : Int)) = false := decide_eq_false (by omega)
    obtain ⟨k, hk⟩ : ∃ k, k + 2 = i := ⟨i - 2, by omega⟩
    have hwk : IntKind.i64.wrap ((i : Int) - 2) = (k : Int) := by rw [IntWalk.i64_in _ (by omega)]; omega
    have hwk2 : (i : Int) - 2 = (k : Int) := by omega
    have HRL : Hid (RowL w4.heap.size v la i lc (List.range i) wr) := ⟨HO.out, by simp, fun x hx => by rw [HNe.out]; simpa using hx, by rw [HNe.out]; exact range_holds (by omega) (fun j hj => allF_next (by show j + 1 < v.at'.l.length; rw [HNe.out]; exact hj))⟩
    have HDr := Lib.hid (HD4.out.ext HE.out)
    have HKr : Hid (Keep (fun x => x ≠ D2) w4 wr) := Keep.of_ext HE.out
    clear HO HE
    go_wp2_with fail
    refine wp_loop (InvL2 D2 pb xb v a1 n1 c1 w4) (fun a _ => (intOf (a.tmps.getD 13 undef)).toNat) (InvL2.of k i lc 0 la (List.range i) rfl (by omega) (by omega) (by omega) HRL HDr HKr) ?_
    clear HRL HDr HKr hwk hwk2 hk di hlt hi
    clear k
    rintro ac wr ⟨X2, k, n, lc, k', la, l, rfl, hkn, hn10, hk', HR, HD, HKp⟩
    conv => arg 4; dsimp only [frL2]
    obtain ⟨hpz, t0, t1, t2, t3, t4⟩ := HSX.out.at HKp.out
    have HPz := Lib.hid hpz
    clear hpz
    obtain ⟨lb, hlb, hlbb, hlcm⟩ := own_place HR.out.own (by omega)
    subst hlb
    have hown := HR.out.own
    have hlen := HR.out.len
    rw [← hlen] at hown
    have HSl : Hid (IsSl 1 num wr ⟨some ⟨lb, 0, none⟩, lc, l⟩) := own_sl hown (by omega)
    have hD4 := HSX.out.deck
    by_cases hlt : 0 < k
    · have di : decide ((0 : Int) < (k : Int)) = true := decide_eq_true (by omega)
      obtain ⟨q, hq⟩ : ∃ q, q + 1 = k := ⟨k - 1, by omega⟩
      have hwq : IntKind.i64.wrap ((k : Int) - 1) = (q : Int) := by rw [IntWalk.i64_in _ (by omega)]; omega
      have hwq2 : (k : Int) - 1 = (q : Int) := by omega
      have HCl := Lib.hid (kitClone_any (some ⟨lb, 0, none⟩) n lc l wr hlen HSl.out)
      have HLen := Lib.hid hlen
      clear hown hlen
      go_wp2_with fail
      refine HCl.out.mono ?_
      rintro e w5 ⟨a5, c5, rfl, ho5, hx5⟩
      obtain ⟨g5, hg5, hb5, hc5⟩ := own_place ho5 (by omega)
      subst hg5
      have hown5 := ho5
      rw [← HLen.out] at hown5
      obtain ⟨hrow5, -⟩ := Row.of_own hown5
      have hdel := delete_any wr.heap.size g5 c5 k l w5 hrow5 hb5 (by have := HLen.out; omega) hc5 (by have := HLen.out; omega)
      rw [HLen.out] at hdel
      have HDe := Lib.hid hdel
      have HX5 := Lib.hid hx5
      clear ho5 hx5 hown5 hrow5 hdel HCl
      go_wp2_with fail
      refine HDe.out.mono ?_
      rintro e w6 ⟨rfl, hrow6, hb6⟩
      have HX6 : Hid (Ext wr w6) := Below.trans HX5.out hb6
      have hle : (l.eraseIdx k).length + 1 = n := by rw [List.length_eraseIdx, if_pos (by have := HLen.out; omega), HLen.out]; omega
      obtain ⟨n', hn'⟩ : ∃ n', (l.eraseIdx k).length = n' := ⟨_, rfl⟩
      have hltE : ∀ x ∈ l.eraseIdx k, x < v.at'.l.length := fun x hx => HR.out.lt x (List.mem_of_mem_eraseIdx hx)
      have hoE := (hrow6.own (base := w4.heap.size) (by have := HKp.out.size; omega) hc5)
      have hho := holds_ok v ⟨some ⟨g5, 0, none⟩, c5, l.eraseIdx k⟩ w6 (HPz.out.ext HX6.out) HSX.out.ok (own_sl hoE (by omega)) hltE
      dsimp only at hho
      obtain ⟨hb, hhb⟩ : ∃ hb, holdsF (allF true v.p) v.at'.l.length (l.eraseIdx k) = hb := ⟨_, rfl⟩
      rw [hhb, hn'] at hho
      rw [hn'] at hoE hle ⊢
      have HHo := Lib.hid hho
      have HRE : Hid (hb = true → RowL w4.heap.size v (some ⟨g5, 0, none⟩) n' c5 (l.eraseIdx k) w6) := fun h => ⟨hoE, hn', hltE, by rw [hhb, h]⟩
      have HR6 : Hid (RowL w4.heap.size v (some ⟨lb, 0, none⟩) n lc l w6) := ⟨own_ext HR.out.own HX6.out, HR.out.len, HR.out.lt, HR.out.hold⟩
      have HD6 := Lib.hid (HD.out.ext HX6.out)
      have HK6 : Hid (Keep (fun x => x ≠ D2) w4 w6) := HKp.out.ext HX6.out
      clear hrow6 hb6 hn' hltE hoE hho hhb HDe HX5 HX6 HR HD HKp HSl HPz t0 t1 t2 t3 t4
      obtain ⟨hpz, t0, t1, t2, t3, t4⟩ := HSX.out.at HK6.out
      clear hpz
      go_wp2_with fail
      refine HHo.out.mono ?_
      rintro e w7 ⟨rfl, hx7⟩
      have HR7 : Hid (RowL w4.heap.size v (some ⟨lb, 0, none⟩) n lc l w7) := ⟨own_ext HR6.out.own hx7, HR6.out.len, HR6.out.lt, HR6.out.hold⟩
      have HRE7 : Hid (hb = true → RowL w4.heap.size v (some ⟨g5, 0, none⟩) n' c5 (l.eraseIdx k) w7) := fun h => ⟨own_ext (HRE.out h).own hx7, (HRE.out h).len, (HRE.out h).lt, (HRE.out h).hold⟩
      have HD7 := Lib.hid (HD6.out.ext hx7)
      have HK7 : Hid (Keep (fun x => x ≠ D2) w4 w7) := HK6.out.ext hx7
      clear hx7 HHo HR6 HRE HD6 HK6 t0 t1 t2 t3 t4
      cases hb
      · go_wp2_with fail
        refine ⟨InvL2.of q n lc k' _ l ?_ (by omega) hn10 (by omega) HR7 HD7 HK7, ?_⟩
        · rfl
        · simp [intOf, frL2]; omega
      · go_wp2_with fail
        refine (draw_any D2 a1 n1 c1 k' 2 w7 HD7.out (by omega) (by omega)).mono ?_
        rintro e w8 ⟨r, k8, hr2, hk8, rfl, hd8, hg8⟩
        have HD8 := Lib.hid hd8
        have HK8 : Hid (Keep (fun x => x ≠ D2) w4 w8) := HK7.out.grown hg8 (fun k e _ => by cases e; exact fun h => h rfl)
        have HR8 : Hid (RowL w4.heap.size v (some ⟨lb, 0, none⟩) n lc l w8) := ⟨own_grown HR7.out.own hg8 (fun k e e2 => by cases e2; have := (own_type HR7.out.own e).1; omega), HR7.out.len, HR7.out.lt, HR7.out.hold⟩
        have HE7 := HRE7.out (by first | rfl | trivial)
        have HRE8 : Hid (RowL w4.heap.size v (some ⟨g5, 0, none⟩) n' c5 (l.eraseIdx k) w8) := ⟨own_grown HE7.own hg8 (fun k e e2 => by cases e2; have := (own_type HE7.own e).1; omega), HE7.len, HE7.lt, HE7.hold⟩
        clear hd8 hg8 hr2 HE7 HR7 HRE7 HD7 HK7
        by_cases hr0 : r = 0
        · have dr : ((r : Int) == 0) = true := by rw [beq_iff_eq]; omega
          clear hr0
          go_wp2_with fail
          refine ⟨InvL2.of q n' c5 k8 _ (l.eraseIdx k) ?_ (by omega) (by omega) (by omega) HRE8 HD8 HK8, ?_⟩
          · rfl
          · simp [intOf, frL2]; omega
        · have dr : ((r : Int) == 0) = false := by rw [beq_eq_false_iff_ne]; omega
          clear hr0
          go_wp2_with fail
          refine ⟨InvL2.of q n lc k8 _ l ?_ (by omega) hn10 (by omega) HR8 HD8 HK8, ?_⟩
          · rfl
          · simp [intOf, frL2]; omega
    · obtain rfl : k = 0 := by omega
      have di : decide ((0 : Int) < ((0 : Nat) : Int)) = false := by decide
      have di2 : decide ((0 : Int) < 0) = false := by decide
      have hho := holds_ok v ⟨some ⟨lb, 0, none⟩, lc, l⟩ wr HPz.out HSX.out.ok HSl.out HR.out.lt
      dsimp only at hho
      rw [show holdsF (allF true v.p) v.at'.l.length l = true from HR.out.hold, hlen] at hho
      have HHo := Lib.hid hho
      have HLen := Lib.hid hlen
      clear hown hlen hho
      go_wp2_with fail
      refine HHo.out.mono ?_
      rintro e w7 ⟨rfl, hx7⟩
      have HKw : Hid (Keep (fun x => x ≠ D2) w4 w7) := HKp.out.ext hx7
      have HS7 := Lib.hid (HSX.out.keep HKw.out)
      have HL7 := Lib.hid (HSl.out.ext hx7)
      have HD7 := Lib.hid (HD.out.ext hx7)
      have HX7 : Hid (Ext w w7) := ext_keep HXw.out HKw.out (fun i hi => by omega)
      have hlbD : lb ≠ D2 := by omega
      have HLt : Hid (∀ x ∈ l, x < v.at'.l.length) := HR.out.lt
      have HHl : Hid (holdsF (allF true v.p) v.at'.l.length l = true) := HR.out.hold
      clear hx7 HHo HKp HSl HD HR HPz t0 t1 t2 t3 t4 HKw
      dsimp only
      repeat (first
        | exact mend_tail21' _ D2 pb lb 0 n lc xb v l a1 n1 c1 k' w w7 rfl HS7 HL7 HLen hlbD HLt HHl (by omega) (by omega) (by omega) HX7 (by omega) HD7
        | go_step)
end Go.Proofs.Ytfognlealnhodaa

namespace Go.Proofs.Ytfognlealnhodaa.pillarMended
open Go.ChangeShapes Go.WideShapes Go.ChangeAt Go.RowKit
open Go.ChangeMaps (open_string shut_string)
set_option linter.unusedVariables false

theorem own : ownKnob Try.prog.godebug = none := by kernel_rfl
theorem laidOut : laidOutB Try.prog = true := by kernel_rfl

/-- A slice of integers that came in: it is nil, or it leads to a row of cap cells, the numbers zs, each of which fits its kind. -/
def IsRow (k : IntKind) (w : World) (a : Option Addr) (len cap : Nat) (zs : List Int) : Prop :=
  (a = none ∧ len = 0 ∧ cap = 0 ∧ zs = []) ∨
  ∃ x, a = some x ∧ len ≤ cap ∧ cap ≤ maxLen ∧ zs.length = cap ∧ (∀ i, i < zs.length → w.cell? (x.add i) = some (.int k (zs.getD i 0))) ∧ ∀ n ∈ zs, (Lit.int k n).wf = true

/-- Bytes that came in lie in memory as told. -/
theorem bytes_of {w : World} {a : Option Addr} {n c : Nat} {zs : List Int} (h : IsRow .u8 w a n c zs) (hn : n ≤ 140737488351232) : IsBytes w a n c := by
  rcases h with ⟨rfl, rfl, rfl, rfl⟩ | ⟨x, rfl, hl, hm, hz, hc, hw⟩
  · exact ⟨Nat.le_refl _, by omega, .inl rfl⟩
  · refine ⟨hl, hn, ?_⟩
    by_cases hn0 : n = 0
    · exact .inl hn0
    · right
      have h0 := hc 0 (by omega)
      obtain ⟨b, off, sp⟩ := x
      have hsp : sp = none := by
        cases sp with
        | none => rfl
        | some s =>
          exfalso
          unfold World.cell? at h0
          split at h0
          · simp [Addr.add] at h0
          · cases h0
      subst hsp
      refine ⟨b, off, rfl, fun i hi => ?_⟩
      have h1 := hc i (by omega)
      rw [Addr.add_lit] at h1
      have h2 := hw (zs.getD i 0) (by rw [List.getD_eq_getElem?_getD, List.getElem?_eq_getElem (show i < zs.length by omega)]; exact List.getElem_mem _)
      have h3 : 0 ≤ zs.getD i 0 ∧ zs.getD i 0 < 256 := by
        have h4 : IntKind.u8.min = 0 := by kernel_rfl
        have h5 : IntKind.u8.max = 255 := by kernel_rfl
        generalize zs.getD i 0 = z at h2 ⊢
        simp [Lit.wf, h4, h5] at h2
        omega
      exact ⟨(zs.getD i 0).toNat, by omega, by rw [h1, Int.toNat_of_nonneg h3.1]⟩

theorem cells5 : Try.prog.bytesOf 5 = 1 := by kernel_rfl

theorem walk (a0 : Option Addr) (len0 cap0 : Nat) (z0 : List Int) (a1 : Option Addr) (len1 cap1 : Nat) (z1 : List Int) (n2 : Int) (w : World) (w0 : IsRow .u8 w a0 len0 cap0 z0) (w1 : IsRow .u8 w a1 len1 cap1 z1) (n0 : len0 ≤ 140737488351232) (n1 : len1 ≤ 140737488351232) :
    Calls Try.prog 7 #[.slice a0 len0 cap0, .slice a1 len1 cap1, .int .i64 n2] w fun e w' => e = .returned (.bool true) ∧ Below w.heap.size w w' := by
  exact mended_all a0 a1 len0 cap0 len1 cap1 n2 w (bytes_of w0 n0) (bytes_of w1 n1)

set_option maxRecDepth 100000 in
theorem lifted (os : Os) (started : os.Started) (H : Type) (enc : TypeId × Value → H) :
    ReturnsInHanded {} Try.checked os 7 .any (Rows.pillarMendedSpec.pre6 enc Try.prog Try.f7 Rows.pillarMendedRow.domain false) (Rows.pillarMendedSpec.post enc Try.prog Try.f7 false true false false) := by
  refine returnsInHanded_of_change_sized (C := Try.checked) own started (by kernel_rfl) Try.func7
    (ChangeSpec.witness6 (enc := enc) (C := Try.checked) false ⟨#[], #[.slice none 0 0, .slice none 0 0, .int .i64 0], []⟩ 8 (by kernel_rfl) (by kernel_rfl) (by kernel_rfl) (by kernel_rfl)) ?_
  intro W base args ds gs before hval0 hW hcnd hsz0 _
  have hsz : (DataW.weightsEach Try.prog (Try.f7.params.toList ++ Rows.pillarMendedSpec.plain.varTypes Try.prog) (ds ++ gs)).all (· ≤ reachBytes) = true := hsz0
  clear hsz0
  have hval : ∀ (j : Nat) t v, Try.f7.params[j]? = some t → args[j]? = some v → Value.okWide Try.prog W .any base t v := hval0
  have hW' := hW
  obtain ⟨p, q, hA0, hV, rfl, hfz, hnd⟩ := hW
  have hA : DataW.TrodAll enc Try.prog W 0 (fun _ => true) true Try.f7.params.toList args.toList ds p := hA0
  rw [Try.params7] at hA hval hsz
  obtain ⟨v0, vs0, d0, ds0, p0, q0, hargs, rfl, rfl, h0, r0⟩ := trodAll_cons hA
  obtain ⟨v1, vs1, d1, ds1, p1, q1, rfl, rfl, rfl, h1, r1⟩ := trodAll_cons r0
  obtain ⟨v2, vs2, d2, ds2, p2, q2, rfl, rfl, rfl, h2, r2⟩ := trodAll_cons r1
  obtain ⟨rfl, rfl, rfl⟩ := trodAll_nil r2
  obtain rfl : args = #[v0, v1, v2] := by cases args; simp_all
  obtain ⟨rfl, rfl⟩ := trodVars_none hV
  obtain ⟨a0, len0, cap0, rfl⟩ := okWide_slice Try.underlying22 (hval 0 22 v0 rfl rfl)
  have k0 := h0
  have lt0 : ∀ x ∈ p0, x.block < W.heap.size := by obtain ⟨m, hm⟩ := k0; exact DataW.trod_lt m _ _ _ hm
  obtain ⟨z0, w0, n0⟩ : ∃ zs, IsRow .u8 W a0 len0 cap0 zs ∧ len0 ≤ 140737488351232 := by
    obtain ⟨fuel, hf⟩ := h0
    rcases open_ints Try.underlying22 Try.underlying5 (by kernel_rfl) hf with ⟨hcs, _⟩ | ⟨x, l, c, zs, hcs, _, hl, hm, hz, hx, hcell, hwz⟩
    · simp [Value.cells] at hcs
      obtain ⟨rfl, rfl, rfl⟩ := hcs
      exact ⟨[], .inl ⟨rfl, rfl, rfl, rfl⟩, Nat.zero_le _⟩
    · simp [Value.cells] at hcs
      obtain ⟨rfl, rfl, rfl⟩ := hcs
      simp only [Prod.mk.injEq] at hx
      have hr := sized_slice hsz (j := 0) (t := 22) (e := 5) rfl (by rw [hx.1]; rfl) Try.underlying22
      rw [cells5] at hr
      simp only [lits, List.length_map, List.length_take, List.length_drop] at hr
      simp only [if_true] at hz
      have hb : reachBytes = 140737488351232 := rfl
      exact ⟨zs, .inr ⟨_, rfl, hl, hm, hz, hcell, hwz⟩, by omega⟩
  obtain ⟨a1, len1, cap1, rfl⟩ := okWide_slice Try.underlying22 (hval 1 22 v1 rfl rfl)
  have k1 := h1
  have lt1 : ∀ x ∈ p1, x.block < W.heap.size := by obtain ⟨m, hm⟩ := k1; exact DataW.trod_lt m _ _ _ hm
  obtain ⟨z1, w1, n1⟩ : ∃ zs, IsRow .u8 W a1 len1 cap1 zs ∧ len1 ≤ 140737488351232 := by
    obtain ⟨fuel, hf⟩ := h1
    rcases open_ints Try.underlying22 Try.underlying5 (by kernel_rfl) hf with ⟨hcs, _⟩ | ⟨x, l, c, zs, hcs, _, hl, hm, hz, hx, hcell, hwz⟩
    · simp [Value.cells] at hcs
      obtain ⟨rfl, rfl, rfl⟩ := hcs
      exact ⟨[], .inl ⟨rfl, rfl, rfl, rfl⟩, Nat.zero_le _⟩
    · simp [Value.cells] at hcs
      obtain ⟨rfl, rfl, rfl⟩ := hcs
      simp only [Prod.mk.injEq] at hx
      have hr := sized_slice hsz (j := 1) (t := 22) (e := 5) rfl (by rw [hx.1]; rfl) Try.underlying22
      rw [cells5] at hr
      simp only [lits, List.length_map, List.length_take, List.length_drop] at hr
      simp only [if_true] at hz
      have hb : reachBytes = 140737488351232 := rfl
      exact ⟨zs, .inr ⟨_, rfl, hl, hm, hz, hcell, hwz⟩, by omega⟩
  obtain ⟨n2, rfl, rfl, rfl, hw2⟩ := open_int Try.underlying3 (hval 2 3 v2 rfl rfl) h2
  clear hA0 hval0
  refine (walk a0 len0 cap0 z0 a1 len1 cap1 z1 n2 W w0 w1 n0 n1).mono fun e W' ⟨he, bel⟩ => ?_
  subst he
  exact ⟨_, rfl, _, _, _, [], _, [], hW', trodAll_mk1 (shut_bool Try.underlying4 _), (trodAll_cons_mk (Below.trod laidOut (by kernel_rfl) (of_decide_eq_true (by kernel_rfl)) k0 bel lt0) (trodAll_cons_mk (Below.trod laidOut (by kernel_rfl) (of_decide_eq_true (by kernel_rfl)) k1 bel lt1) (trodAll_cons_mk (shut_int Try.underlying3 hw2) trodAll_mk0))), rfl, bel.frame _, fun h => by cases h⟩

theorem over : Rows.pillarMendedRow.holds Try.pinned (OpenSpec.ofChange Rows.pillarMendedSpec) :=
  OpenClaim.holds_of_wide 7 Try.f7 rfl rfl rfl rfl rfl rfl rfl ⟨rfl, rfl, rfl, rfl, rfl⟩ rfl rfl rfl rfl rfl (by kernel_rfl) Try.func7 (by kernel_rfl)
    (of_decide_eq_true (by kernel_rfl)) (by unfold Func.isWrapper; first | (rw [if_pos (by decide +kernel)]; kernel_rfl) | (rw [if_neg (by decide +kernel)]; exact ⟨rfl, rfl⟩))
    (fun os started H enc _ => lifted os started H enc)

/-- The statement. -/
theorem proved : Rows.PillarMendedSaid := over
#print axioms proved
end Go.Proofs.Ytfognlealnhodaa.pillarMended
