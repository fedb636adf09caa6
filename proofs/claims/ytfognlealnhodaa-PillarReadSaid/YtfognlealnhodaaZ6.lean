/-
  What PillarRead has in memory behind Stoned: the roll, the finds, their boxes and the second deck; what Readings answers of them there.
  Fold, of the statements' kit, makes of any number one that is less than another one, and turns nothing.
  PillarRead's walk from where it picks a stone, to its end.
  PillarRead answers true, whatever it is asked.
-/
import Derived.Test.YtfognlealnhodaaZ5
import Derived.Test.YtfognlealnhodaaZ3
import Derived.Test.YtfognlealnhodaaA
import Derived.Test.YtfognlealnhodaaZ0
namespace Go.Proofs.Ytfognlealnhodaa
open Go.RowKit

structure RW (w W : World) (D2 : Nat) (a1 : Option Addr) (n1 c1 rB fB mg gc fn fc n0 nc : Nat) (ga fa na : Option Addr) (gl fl : List (Nat × Nat)) (nl : List Int) : Prop where
  hx : Ext w W
  dk : IsDeck W D2 a1 n1 c1 0
  d0 : w.heap.size ≤ D2
  by' : ∀ b off, a1 = some ⟨b, off, none⟩ → 0 < n1 → b < w.heap.size
  b0 : W.cell? ⟨rB, 0, none⟩ = some (.slice ga mg gc)
  b1 : W.cell? ⟨fB, 0, none⟩ = some (.slice fa fn fc)
  b2 : W.cell? ⟨fB, 1, none⟩ = some (.slice na n0 nc)
  bne : rB ≠ D2 ∧ fB ≠ D2 ∧ rB < W.heap.size ∧ fB < W.heap.size
  sl : IsSl 2 spC W ⟨ga, gc, gl⟩
  fs : IsSl 2 spC W ⟨fa, fc, fl⟩
  ns : IsSl 1 numI W ⟨na, nc, nl⟩
  l1 : gl.length = mg
  l2 : fl.length = fn
  l3 : nl.length = n0
  ok : OkSt gl fl nl
  ne : ∀ b off, ga = some ⟨b, off, none⟩ ∨ fa = some ⟨b, off, none⟩ → b ≠ D2 ∧ b < W.heap.size
  gb : ∀ x ∈ fl, x.2 ≤ 1000
section
variable {w W u : World} {D2 n1 c1 rB fB mg gc fn fc n0 nc : Nat} {a1 ga fa na : Option Addr} {gl fl : List (Nat × Nat)} {nl : List Int}
theorem RW.ext (h : RW w W D2 a1 n1 c1 rB fB mg gc fn fc n0 nc ga fa na gl fl nl) (x : Ext W u) : RW w u D2 a1 n1 c1 rB fB mg gc fn fc n0 nc ga fa na gl fl nl :=
  ⟨h.hx.trans x, h.dk.ext x, h.d0, h.by', x.cell h.b0, x.cell h.b1, x.cell h.b2, ⟨h.bne.1, h.bne.2.1, Nat.lt_of_lt_of_le h.bne.2.2.1 x.size, Nat.lt_of_lt_of_le h.bne.2.2.2 x.size⟩, h.sl.ext x, h.fs.ext x, h.ns.ext x, h.l1, h.l2, h.l3, h.ok, fun b off e => ⟨(h.ne b off e).1, Nat.lt_of_lt_of_le (h.ne b off e).2 x.size⟩, h.gb⟩
theorem RW.readings (h : RW w W D2 a1 n1 c1 rB fB mg gc fn fc n0 nc ga fa na gl fl nl) : Calls Try.prog 33 #[.agg #[.slice ga mg gc], .agg #[.slice fa fn fc, .slice na n0 nc]] W fun e w' => e = .returned (.tuple #[.int .i64 (readsF gl fl nl : Int), .int .i64 0]) ∧ Ext W w' := by
  have hh := Readings_ok ⟨ga, gc, gl⟩ ⟨⟨fa, fc, fl⟩, ⟨na, nc, nl⟩⟩ W h.sl ⟨h.fs, h.ns⟩ h.ok
  dsimp only [FV.v] at hh
  rw [h.l1, h.l2, h.l3] at hh
  exact hh
theorem RW.own (h : RW w W D2 a1 n1 c1 rB fB mg gc fn fc n0 nc ga fa na gl fl nl) {a2 : Option Addr} {c2 kk x : Nat} (hs : IsSl 1 numI W ⟨a2, c2, nl.set kk (x : Int)⟩) (hx : x ≤ mg) : Calls Try.prog 33 #[.agg #[.slice ga mg gc], .agg #[.slice fa fn fc, .slice a2 n0 c2]] W fun e w' => e = .returned (.tuple #[.int .i64 (readsF gl fl (nl.set kk (x : Int)) : Int), .int .i64 0]) ∧ Ext W w' := by
  have hh := Readings_ok ⟨ga, gc, gl⟩ ⟨⟨fa, fc, fl⟩, ⟨a2, c2, nl.set kk (x : Int)⟩⟩ W h.sl ⟨h.fs, hs⟩ (h.ok.set kk x (by rw [h.l1]; exact hx))
  dsimp only [FV.v] at hh
  rw [h.l1, h.l2, List.length_set, h.l3] at hh
  exact hh
theorem RW.wrong (h : RW w W D2 a1 n1 c1 rB fB mg gc fn fc n0 nc ga fa na gl fl nl) (hr : 0 < readsF gl fl nl) : Calls Try.prog 35 #[.agg #[.slice ga mg gc], .agg #[.slice fa fn fc, .slice na n0 nc]] W fun e w' => e = .returned (.tuple #[.slice none 0 0, .int .i64 10]) ∧ Ext W w' := by
  have hh := Wrong_no ⟨ga, gc, gl⟩ ⟨⟨fa, fc, fl⟩, ⟨na, nc, nl⟩⟩ W h.sl ⟨h.fs, h.ns⟩ h.ok hr
  dsimp only [FV.v] at hh
  rw [h.l1, h.l2, h.l3] at hh
  exact hh
/-- The numbers of each stone, in memory. -/
structure NumsAt (W : World) (va : Option Addr) (vc n0 : Nat) (vl : List (SL Nat)) (gl fl : List (Nat × Nat)) (nl : List Int) : Prop where
  len : vl.length = n0
  sl : IsSl 1 slC W ⟨va, vc, vl⟩
  each : ∀ x ∈ vl, IsSl 1 num W x
  num : ∀ q (h : q < vl.length), vl[q].l = numK fl nl (apart gl) (gl.length + 1) fl.length (fl.length - q)
theorem NumsAt.ext {va : Option Addr} {vc : Nat} {vl : List (SL Nat)} (h : NumsAt W va vc n0 vl gl fl nl) (x : Ext W u) : NumsAt u va vc n0 vl gl fl nl := ⟨h.len, h.sl.ext x, fun y hy => (h.each y hy).ext x, h.num⟩
theorem RW.numbers (h : RW w W D2 a1 n1 c1 rB fB mg gc fn fc n0 nc ga fa na gl fl nl) (hr : 0 < readsF gl fl nl) : Calls Try.prog 34 #[.agg #[.slice ga mg gc], .agg #[.slice fa fn fc, .slice na n0 nc]] W fun e w' => ∃ va vc vl, e = .returned (.tuple #[.slice va n0 vc, .int .i64 0]) ∧ NumsAt w' va vc n0 vl gl fl nl ∧ Ext W w' := by
  have hh := Numbers_ok ⟨ga, gc, gl⟩ ⟨⟨fa, fc, fl⟩, ⟨na, nc, nl⟩⟩ W h.sl ⟨h.fs, h.ns⟩ h.ok hr
  dsimp only [FV.v] at hh
  rw [h.l1, h.l2, h.l3] at hh
  refine hh.mono ?_
  rintro e w' ⟨⟨va, vc, vl⟩, he, hm, h1, h2, hx⟩
  dsimp only at he hm h1 h2
  have hl : vl.length = n0 := by
    have := congrArg List.length hm
    simp only [List.length_map, numbersF, List.length_range] at this
    rw [this, h.l3]
  refine ⟨va, vc, vl, by rw [he, hl], ⟨hl, h1, h2, fun q hq => ?_⟩, hx⟩
  have hg := h.ok.gl
  have e1 : (vl.map fun r => r.l)[q]? = some vl[q].l := by simp [hq]
  rw [hm] at e1
  unfold numbersF at e1
  rw [List.getElem?_map, List.getElem?_range (by have := h.l3; omega)] at e1
  simp only [Option.map_some, Option.some.injEq] at e1
  rw [← e1, show nl.length - 1 = fl.length by omega, show fl.length - q = fl.length - q from rfl, h.l1]
theorem reads_le (gl fl : List (Nat × Nat)) (nl : List Int) : readsF gl fl nl ≤ 40 * 1099511627776 := sumN_le 40 fun q hq => wayR_le _ _ _ _ _ _ (by omega)
theorem take_sum_le (l : List Nat) (q : Nat) : (l.take q).sum ≤ l.sum := by
  conv => rhs; rw [← List.take_append_drop q l, List.sum_append]
  exact Nat.le_add_right _ _
theorem take_sum (l : List Nat) (f : Nat → Nat) (q : Nat) (h : q < l.length) : ((l.take (q + 1)).map f).sum = ((l.take q).map f).sum + f l[q] := by
  rw [List.take_succ_eq_append_getElem h, List.map_append, List.sum_append]
  simp
end
end Go.Proofs.Ytfognlealnhodaa

namespace Go.Proofs.Ytfognlealnhodaa
open Go.RowKit

/-- What Fold makes of a number. -/
def foldN (x : Int) (m : Nat) : Nat := ((x.tmod (m : Int) + (m : Int)).tmod (m : Int)).toNat
theorem foldN_spec (x : Int) (m : Nat) (hm : 1 ≤ m) : foldN x m < m ∧ (x.tmod (m : Int) + (m : Int)).tmod (m : Int) = (foldN x m : Int) := by
  have q := Int.tmod_lt_of_pos x (show (0 : Int) < m by omega)
  have q2 := Int.lt_tmod_of_pos x (show (0 : Int) < m by omega)
  have h0 := Int.tmod_nonneg (a := x.tmod (m : Int) + (m : Int)) (m : Int) (by omega)
  have h1 := Int.tmod_lt_of_pos (x.tmod (m : Int) + (m : Int)) (show (0 : Int) < m by omega)
  unfold foldN
  omega
theorem fold_q (x : Int) (m : Nat) (w : World) (hm : 1 ≤ m) (hm2 : m ≤ 1000000) : Calls Try.prog 20 #[.int .i64 x, .int .i64 (m : Int)] w fun e w' => e = .returned (.int .i64 (foldN x m : Int)) ∧ w = w' := by
  have d1 : decide ((m : Int) ≤ 0) = false := decide_eq_false (by omega)
  have h0 : ((m : Int) == 0) = false := by rw [beq_eq_false_iff_ne]; omega
  obtain ⟨hr1, hr2⟩ := foldN_spec x m hm
  have q := Int.tmod_lt_of_pos x (show (0 : Int) < m by omega)
  have q2 := Int.lt_tmod_of_pos x (show (0 : Int) < m by omega)
  generalize foldN x m = r at *
  obtain ⟨t, ht⟩ : ∃ t, x.tmod (m : Int) = t := ⟨_, rfl⟩
  rw [ht] at hr2 q q2
  have w1 : IntKind.i64.wrap t = t := IntWalk.i64_in _ (by omega)
  have w2 : IntKind.i64.wrap (t + (m : Int)) = t + (m : Int) := IntWalk.i64_in _ (by omega)
  have w3 : IntKind.i64.wrap (r : Int) = (r : Int) := IntWalk.i64_in _ (by omega)
  have hne : (m : Int) ≠ 0 := by omega
  have hn0 : m ≠ 0 := by omega
  go_enter Try.func20, Try.ntmps20
  go_wp2
  go_ret
  exact ⟨rfl, rfl⟩
end Go.Proofs.Ytfognlealnhodaa

namespace Go.Proofs.Ytfognlealnhodaa
open Go.RowKit

noncomputable def tail8_14 : Code := ((Try.f8.body.bind (tailT 14)).getD .skip)
def frK14 (D2 rB fB rn n0 rc vc : Nat) (ra va : Option Addr) (z : Int) (X : Nat → Value) : Array Value := #[X 0, X 1, .int .i64 z, X 3, X 4, X 5, X 6, X 7, .pointer (some ⟨D2, 0, none⟩), .pointer (some ⟨rB, 0, none⟩), .pointer (some ⟨fB, 0, none⟩), .slice ra n0 rc, .int .i64 (rn : Int), X 13, .slice va n0 vc, X 15, X 16, X 17, X 18, X 19, X 20, X 21, X 22, X 23, X 24, X 25, X 26, X 27, X 28, X 29, X 30, X 31, X 32, X 33, X 34, X 35, X 36, X 37, X 38, X 39, X 40, X 41, X 42, X 43, X 44, X 45, X 46, X 47, X 48, X 49, X 50, X 51, X 52, X 53, X 54, X 55, X 56, X 57, X 58, X 59, X 60, X 61, X 62, X 63, X 64, X 65, X 66, X 67, X 68, X 69, X 70, X 71, X 72, X 73, X 74, X 75, X 76, X 77, X 78, X 79, X 80, X 81, X 82, X 83, X 84, X 85, X 86, X 87, X 88, X 89, X 90, X 91, X 92, X 93, X 94, X 95, X 96, X 97, X 98, X 99, X 100, X 101, X 102, X 103, X 104, X 105, X 106, X 107, X 108, X 109, X 110, X 111, X 112, X 113, X 114, X 115, X 116, X 117, X 118, X 119, X 120, X 121, X 122, X 123, X 124, X 125, X 126, X 127, X 128, X 129, X 130, X 131, X 132, X 133, X 134, X 135, X 136, X 137, X 138, X 139, X 140, X 141, X 142, X 143, X 144, X 145, X 146, X 147, X 148, X 149, X 150, X 151, X 152, X 153, X 154, X 155, X 156, X 157, X 158, X 159, X 160, X 161, X 162, X 163, X 164, X 165, X 166, X 167, X 168, X 169, X 170, X 171, X 172, X 173, X 174, X 175, X 176, X 177, X 178, X 179, X 180, X 181, X 182, X 183, X 184, X 185, X 186, X 187]
def frK17 (D2 rB fB rn k S ll lc q : Nat) (la : Option Addr) (X : Nat → Value) : Array Value := #[X 0, X 1, X 2, X 3, X 4, X 5, X 6, X 7, .pointer (some ⟨D2, 0, none⟩), .pointer (some ⟨rB, 0, none⟩), .pointer (some ⟨fB, 0, none⟩), X 11, .int .i64 (rn : Int), X 13, X 14, X 15, X 16, X 17, X 18, X 19, .int .i64 (k : Int), .int .i64 (S : Int), X 22, X 23, X 24, X 25, X 26, X 27, X 28, X 29, X 30, X 31, X 32, X 33, X 34, X 35, X 36, X 37, X 38, X 39, X 40, X 41, X 42, X 43, X 44, X 45, X 46, X 47, X 48, X 49, X 50, X 51, X 52, X 53, X 54, X 55, X 56, X 57, X 58, X 59, X 60, X 61, X 62, X 63, X 64, X 65, X 66, X 67, X 68, X 69, X 70, X 71, X 72, X 73, X 74, X 75, X 76, X 77, X 78, X 79, X 80, X 81, X 82, X 83, X 84, X 85, X 86, X 87, X 88, X 89, X 90, X 91, X 92, X 93, X 94, X 95, X 96, X 97, X 98, X 99, X 100, X 101, X 102, .slice la ll lc, .int .i64 (ll : Int), .int .i64 (q : Int), X 106, X 107, X 108, X 109, X 110, X 111, X 112, X 113, X 114, X 115, X 116, X 117, X 118, X 119, X 120, X 121, X 122, X 123, X 124, X 125, X 126, X 127, X 128, X 129, X 130, X 131, X 132, X 133, X 134, X 135, X 136, X 137, X 138, X 139, X 140, X 141, X 142, X 143, X 144, X 145, X 146, X 147, X 148, X 149, X 150, X 151, X 152, X 153, X 154, X 155, X 156, X 157, X 158, X 159, X 160, X 161, X 162, X 163, X 164, X 165, X 166, X 167, X 168, X 169, X 170, X 171, X 172, X 173, X 174, X 175, X 176, X 177, X 178, X 179, X 180, X 181, X 182, X 183, X 184, X 185, X 186, X 187]
theorem RowI.sl {w : World} {g c : Nat} {l : List Int} (h : RowI w g l c) (hl : l.length ≤ 1000000) : IsSl 1 numI w ⟨some ⟨g, 0, none⟩, c, l⟩ :=
  ⟨h.le, hl, .inr ⟨g, 0, rfl, fun i hi j hj => by
    obtain rfl : j = 0 := by omega
    rw [Nat.zero_add, Nat.mul_one]
    exact h.cell i hi⟩⟩
def InvN (W : World) (D2 rB fB rn k ll lc : Nat) (la : Option Addr) (gl fl : List (Nat × Nat)) (nl : List Int) (lk : List Nat) (ac : Act) (wr : World) : Prop :=
  ∃ (X : Nat → Value) (q S : Nat), ac = { tmps := frK17 D2 rB fB rn k S ll lc q la X, defers := [] } ∧ q ≤ ll ∧ Hid (((lk.take q).map fun x => readsF gl fl (nl.set k ((x : Nat) : Int))).sum = S) ∧ Hid (Ext W wr)
theorem InvN.of {W : World} {D2 rB fB rn k ll lc : Nat} {la : Option Addr} {gl fl : List (Nat × Nat)} {nl : List Int} {lk : List Nat} {t : Array Value} {wr : World} (q S : Nat) (ht : t = frK17 D2 rB fB rn k S ll lc q la (fun j => t.getD j undef)) (h1 : q ≤ ll) (h2 : ((lk.take q).map fun x => readsF gl fl (nl.set k ((x : Nat) : Int))).sum = S) (h3 : Ext W wr) : InvN W D2 rB fB rn k ll lc la gl fl nl lk { tmps := t, defers := [] } wr := ⟨_, q, S, by rw [← ht], h1, h2, h3⟩
theorem read_r19' (t : Array Value) (D2 rB fB rn k S ll lc q x fn fc n0 nc : Nat) (la fa na : Option Addr) (nl : List Int) (V : World) (Q : Exit → Act → World → Prop) (ht : t = frG19 D2 rB fB rn k S ll lc q x la (fun j => t.getD j undef)) (HF : Hid (∀ u, Ext V u → u.cell? ⟨fB, 0, none⟩ = some (.slice fa fn fc) ∧ u.cell? ⟨fB, 1, none⟩ = some (.slice na n0 nc))) (HN : Hid (∀ u, Ext V u → Calls Try.prog 29 #[.slice na n0 nc] u fun e w' => ∃ a' c', e = .returned (.slice a' n0 c') ∧ w'.ownsRow u.heap.size 3 1 (.slice a' n0 c') n0 (intsV nl) ∧ Ext u w'))
    (HQ : Hid (∀ (t : Array Value) (a2 : Option Addr) (c2 ob : Nat) (W : World), t = frG20 D2 rB fB rn k S ll lc q x ob la (fun j => t.getD j undef) → Hid (Mm V [⟨3, 1, .slice a2 n0 c2, n0, intsV nl⟩] [(ob, .cells #[.slice fa fn fc, .slice a2 n0 c2] 66)] W) → Q .normal ⟨t, []⟩ W)) :
    Code.wp Try.prog reg8_19 Q ⟨t, []⟩ V := by
  rw [ht]
  exact read_r19 _ D2 rB fB rn k S ll lc q x fn fc n0 nc la fa na nl V Q HF HN HQ
theorem read_r28' (t : Array Value) (D2 rB fB rn fn fc n0 nc : Nat) (fa na : Option Addr) (gl : List (Nat × Nat)) (nl : List Int) (V : World) (Q : Exit → Act → World → Prop) (ht : t = frG28 D2 rB fB rn (fun j => t.getD j undef)) (HF : Hid (∀ u, Ext V u → u.cell? ⟨fB, 0, none⟩ = some (.slice fa fn fc) ∧ u.cell? ⟨fB, 1, none⟩ = some (.slice na n0 nc))) (HG : Hid (∀ u, Ext V u → Calls Try.prog 36 #[.slice fa fn fc] u fun e w' => ∃ a' c', e = .returned (.slice a' fn c') ∧ w'.ownsRow u.heap.size 28 2 (.slice a' fn c') fn (flat 2 spC gl) ∧ Ext u w')) (HN : Hid (∀ u, Ext V u → Calls Try.prog 29 #[.slice na n0 nc] u fun e w' => ∃ a' c', e = .returned (.slice a' n0 c') ∧ w'.ownsRow u.heap.size 3 1 (.slice a' n0 c') n0 (intsV nl) ∧ Ext u w'))
    (HQ : Hid (∀ (t : Array Value) (a1 a2 : Option Addr) (c1 c2 xB : Nat) (W : World), t = frY29 D2 rB fB xB rn (fun j => t.getD j undef) → Hid (Mm V [⟨28, 2, .slice a1 fn c1, fn, flat 2 spC gl⟩, ⟨3, 1, .slice a2 n0 c2, n0, intsV nl⟩] [(xB, .cells #[.slice a1 fn c1, .slice a2 n0 c2] 66)] W) → Q .normal ⟨t, []⟩ W)) :
    Code.wp Try.prog reg8_28 Q ⟨t, []⟩ V := by
  rw [ht]
  exact read_r28 _ D2 rB fB rn fn fc n0 nc fa na gl nl V Q HF HG HN HQ

set_option maxRecDepth 1000000 in
set_option maxHeartbeats 16000000 in
theorem read_tail14 (X : Nat → Value) (w W : World) (D2 : Nat) (a1 : Option Addr) (n1 c1 rB fB mg gc fn fc n0 nc rc vc rn : Nat) (ga fa na ra va : Option Addr) (gl fl : List (Nat × Nat)) (nl : List Int) (vl : List (SL Nat)) (z : Int) (HW : Hid (RW w W D2 a1 n1 c1 rB fB mg gc fn fc n0 nc ga fa na gl fl nl)) (HV : Hid (NumsAt W va vc n0 vl gl fl nl)) (Hn : Hid (readsF gl fl nl = rn)) :
    Code.wp Try.prog tail8_14 (bodyPost Try.prog Try.f8 fun e w' => e = .returned (.bool true) ∧ Ext w w') ⟨frK14 D2 rB fB rn n0 rc vc ra va z X, []⟩ W := by
  conv => arg 2; whnf
  conv => arg 4; dsimp only [frK14]
  have h01 : 1 ≤ n0 := by have := HW.out.ok.n1; have := HW.out.l3; omega
  have h02 : n0 ≤ 40 := by have := HW.out.ok.n2; have := HW.out.l3; omega
  go_wp2_with fail
  refine (fold_any z n0 _ h01 (by omega)).mono ?_
  rintro e w' ⟨kk, hkk, rfl, rfl⟩
  obtain ⟨-, -, hs⟩ := HV.out.sl
  have hvl := HV.out.len
  dsimp only at hs
  obtain ⟨vb, vo, rfl, hcs⟩ : ∃ vb vo, va = some ⟨vb, vo, none⟩ ∧ ∀ i (h : i < vl.length) j, j < 1 → w'.cell? ⟨vb, vo + i * 1 + j, none⟩ = some (slC vl[i] j) := by
    rcases hs with hs | hs
    · omega
    · exact hs
  obtain ⟨lk, hlk⟩ : ∃ lk, vl[kk]'(by omega) = lk := ⟨_, rfl⟩
  have hc0 := hcs kk (by omega) 0 (by omega)
  have hk2 := HV.out.num kk (by omega)
  have hks := HV.out.each _ (List.getElem_mem (show kk < vl.length by omega))
  rw [hlk] at hc0 hk2 hks
  obtain ⟨la, lc, ll'⟩ := lk
  dsimp only at hk2
  obtain ⟨ll, hll⟩ : ∃ ll, ll'.length = ll := ⟨_, rfl⟩
  have hc1 : w'.cell? ⟨vb, vo + kk, none⟩ = some (.slice la ll lc) := by rw [← hll]; simpa [slC] using hc0
  have i0 : (0 : Int) ≤ (kk : Int) := by omega
  have i1 : (kk : Int) < (n0 : Int) := by omega
  have HKn := Lib.hid hk2
  have HKs := Lib.hid hks
  have HLl := Lib.hid hll
  have HKk : Hid (kk < n0) := hkk
  clear hc0 hk2 hks hll hlk hcs hs hvl hkk
  go_wp2_with fail
  clear hc1 i0 i1
  refine wp_loop (InvN w' D2 rB fB rn kk ll lc la gl fl nl ll') (fun a _ => ll - (intOf (a.tmps.getD 105 undef)).toNat) (InvN.of 0 0 rfl (Nat.zero_le _) rfl (Ext.refl _)) ?_
  rintro ac wr ⟨X1, q, S, rfl, hq, HS, HX⟩
  conv => arg 4; dsimp only [frK17]
  have HNp : Hid (gl.length + 1 ≤ 40 ∧ kk < nl.length ∧ kk ≤ fl.length ∧ fl.length + 1 = nl.length) := by have := HW.out.ok.r2; have := HW.out.ok.gl; have := HKk.out; have := HW.out.l3; show _ ∧ _ ∧ _ ∧ _; omega
  have HSm : Hid ((ll'.map fun x => readsF gl fl (nl.set kk ((x : Nat) : Int))).sum = rn) := by
    have := num_sum (gp := fl) (nm := nl) (ap := apart gl) (P := gl.length + 1) (k := kk) HNp.out.1 HNp.out.2.1 HNp.out.2.2.1
    show _ = _
    rw [HKn.out, ← Hn.out]
    exact this
  have HRn : Hid (rn ≤ 40 * 1099511627776) := by show _ ≤ _; rw [← Hn.out]; exact reads_le _ _ _
  by_cases hlt : q < ll
  · have dq : decide ((q : Int) < (ll : Int)) = true := decide_eq_true (by omega)
    have hql : q < ll'.length := by rw [HLl.out]; exact hlt
    obtain ⟨-, hl6, hs⟩ := HKs.out
    dsimp only at hs hl6
    obtain ⟨lb, lo, rfl, hcs⟩ : ∃ lb lo, la = some ⟨lb, lo, none⟩ ∧ ∀ i (h : i < ll'.length) j, j < 1 → w'.cell? ⟨lb, lo + i * 1 + j, none⟩ = some (num ll'[i] j) := by
      rcases hs with hs | hs
      · omega
      · exact hs
    have hc0 := hcs q hql 0 (by omega)
    obtain ⟨x, hx⟩ : ∃ x, ll'[q] = x := ⟨_, rfl⟩
    rw [hx] at hc0
    have hcq : wr.cell? ⟨lb, lo + q, none⟩ = some (.int .i64 (x : Int)) := HX.out.cell (by simpa [num] using hc0)
    have hmem : x ∈ numK fl nl (apart gl) (gl.length + 1) fl.length (fl.length - kk) := by rw [← HKn.out, ← hx]; exact List.getElem_mem hql
    obtain ⟨hpos, hsay⟩ := num_pos HNp.out.1 HNp.out.2.1 HNp.out.2.2.1 hmem
    have hx2 : x ≤ mg := by
      obtain ⟨r, hr, e⟩ := (numK_mem HNp.out.1 (by omega)).1 hmem
      have h1 := hr.lt (st := fl.length - (fl.length - kk)) (by omega)
      have h2 := HW.out.l1
      rw [e] at h1
      omega
    have hts := take_sum ll' (fun x => readsF gl fl (nl.set kk ((x : Nat) : Int))) q hql
    rw [hx, HS.out] at hts
    have htl := take_sum_le (ll'.map fun x => readsF gl fl (nl.set kk ((x : Nat) : Int))) (q + 1)
    rw [← List.map_take, hts, HSm.out] at htl
    have HPos : Hid (0 < readsF gl fl (nl.set kk ((x : Nat) : Int))) := hpos
    have HX2 := Lib.hid hx2
    have HTs := Lib.hid hts
    have HTl := Lib.hid htl
    have j0 : (0 : Int) ≤ (q : Int) := by omega
    have j1 : (q : Int) < (ll : Int) := by omega
    clear hc0 hx hmem hpos hsay hx2 hts htl hcs hs hl6 hql HS
    have HWr := Lib.hid (HW.out.ext HX.out)
    go_upto_region 19 with (fail)
    clear hcq j0 j1
    refine read_r19' _ D2 rB fB rn kk S ll lc q x fn fc n0 nc (some ⟨lb, lo, none⟩) fa na nl wr _ rfl (fun u hu => ⟨hu.cell HWr.out.b1, hu.cell HWr.out.b2⟩) (fun u hu => kitClone_anyI na n0 nc nl u HWr.out.l3 (HWr.out.ns.ext hu)) (Lib.hid ?_)
    intro t a2 c2 ob W2 ht HM2
    obtain ⟨X2, hX2⟩ : ∃ X2, t = frG20 D2 rB fB rn kk S ll lc q x ob (some ⟨lb, lo, none⟩) X2 := ⟨_, ht⟩
    clear ht
    subst hX2
    obtain ⟨g, rfl, hgb, -⟩ := own_place (HM2.out.row 0 _ rfl) h01
    have HRI : Hid (RowI W2 g nl c2) := by
      have h := HM2.out.row 0 _ rfl
      dsimp only at h
      rw [← HW.out.l3] at h
      exact (RowI.of_own h).1
    have HOff : Hid (g ≠ ob) := fun e => HM2.out.off 0 _ rfl 0 _ rfl (by rw [e]; rfl)
    have hl3 := HW.out.l3
    have o1 := HM2.out.cell 0 (j := 1) rfl rfl
    have k0 := HRI.out.cell kk (by have := HNp.out; omega)
    have kf := HRI.out.frozen kk
    have i0 : (0 : Int) ≤ (kk : Int) := by omega
    have i1 : (kk : Int) < (n0 : Int) := by have := HKk.out; omega
    have HGb : Hid (wr.heap.size ≤ g) := hgb
    clear hl3 hgb
    dsimp only [frG20]
    go_upto_region 21 with (fail)
    have HR3 := Lib.hid (HRI.out.set kk (x : Int) HNp.out.2.1)
    have hk3 : Keep (fun b => b ≠ g) W2 (W2.setCell ⟨g, kk, none⟩ (.int .i64 (x : Int))) := (Keep.refl _ _).setCell _ _ (fun _ h => h rfl)
    have HX3 : Hid (Ext wr (W2.setCell ⟨g, kk, none⟩ (.int .i64 (x : Int)))) := ((Keep.of_ext (D := fun _ => True) HM2.out.to_ext).transD hk3 (fun i hi _ => by have := HGb.out; omega)).to_ext (fun _ _ => trivial)
    have hb3 := hk3.heap (HM2.out.heap 0 rfl) (fun e => HOff.out e.symm)
    clear hk3 o1 k0 kf i0 i1
    generalize W2.setCell ⟨g, kk, none⟩ (.int .i64 (x : Int)) = W3 at *
    have q0 := (cell_at hb3 0).trans rfl
    have q1 := (cell_at hb3 1).trans rfl
    have HW3 := Lib.hid (HWr.out.ext HX3.out)
    have p0 := HW3.out.b0
    clear hb3
    go_wp2_with fail
    refine (HW3.out.own (kk := kk) (x := x) (a2 := some ⟨g, 0, none⟩) (c2 := c2) (HR3.out.sl (by rw [List.length_set]; have := HW.out.l3; omega)) HX2.out).mono ?_
    rintro e W4 ⟨rfl, hx4⟩
    have HX4 := Lib.hid (HX.out.trans (HX3.out.trans hx4))
    clear hx4 q0 q1 p0 HR3 HW3 HX3
    generalize hv : readsF gl fl (nl.set kk (x : Int)) = v at *
    have HV2 := Lib.hid hv
    clear hv
    obtain ⟨S2, hS2⟩ : ∃ S2, S + v = S2 := ⟨_, rfl⟩
    have hvp := HPos.out
    have hws : IntKind.i64.wrap ((S : Int) + (v : Int)) = (S2 : Int) := by have := HTl.out; have := HRn.out; rw [IntWalk.i64_in _ (by omega)]; omega
    have hwq : IntKind.i64.wrap ((q : Int) + 1) = ((q + 1 : Nat) : Int) := by
      have h1 := HKs.out.2.1
      have h2 := HLl.out
      dsimp only at h1
      rw [IntWalk.i64_in _ (by omega)]; omega
    have dv : decide ((v : Int) < 1) = false := decide_eq_false (by omega)
    have dv2 : decide (v < 1) = false := decide_eq_false (by omega)
    have dv3 : ¬ v = 0 := by omega
    have HTs2 := HTs.out
    rw [hS2] at HTs2
    have HT2 := Lib.hid HTs2
    clear HTs2 hS2 hvp
    go_wp2_with fail
    refine ⟨InvN.of (q + 1) S2 ?_ (by omega) HT2.out HX4.out, ?_⟩
    · simp [frK17]
    · simp [intOf, frK17]; omega
  · have dq : decide ((q : Int) < (ll : Int)) = false := decide_eq_false (by omega)
    obtain rfl : q = ll := by omega
    have hS : S = rn := by rw [← HS.out, List.take_of_length_le (by rw [HLl.out]; exact Nat.le_refl _)]; exact HSm.out
    clear HS
    obtain rfl : S = rn := hS
    have HWr := Lib.hid (HW.out.ext HX.out)
    go_upto_region 28 with (fail)
    refine read_r28' _ D2 rB fB S fn fc n0 nc fa na fl nl wr _ rfl (fun u hu => ⟨hu.cell HWr.out.b1, hu.cell HWr.out.b2⟩) ?_ (fun u hu => kitClone_anyI na n0 nc nl u HWr.out.l3 (HWr.out.ns.ext hu)) (Lib.hid ?_)
    · intro u hu
      have h := kitCloneS_any ⟨fa, fc, fl⟩ u (HWr.out.fs.ext hu)
      dsimp only at h
      rw [HWr.out.l2] at h
      exact h
    intro t a3 a2 c3 c2 xB W5 ht HM5
    obtain ⟨X2, hX2⟩ : ∃ X2, t = frY29 D2 rB fB xB S X2 := ⟨_, ht⟩
    clear ht
    subst hX2
    have HW5 := Lib.hid (HWr.out.ext HM5.out.to_ext)
    have hd0 := HW5.out.d0
    have hdl := HWr.out.dk.lt
    have hwl := HWr.out.hx.size
    have hxb := (HM5.out.blk 0 _ rfl).1
    dsimp only at hxb
    obtain ⟨g2, rfl, hg2, -⟩ := own_place (HM5.out.row 1 _ rfl) h01
    have hns : IsSl 1 numI W5 ⟨some ⟨g2, 0, none⟩, c2, nl⟩ := by
      have h := HM5.out.row 1 _ rfl
      dsimp only at h
      rw [← HW.out.l3] at h
      exact own_slI h (by have := HW.out.l3; omega)
    rcases Nat.eq_zero_or_pos fn with hfn | hfn
    · subst hfn
      obtain rfl : fl = [] := List.length_eq_zero_iff.1 HW.out.l2
      have HRo : Hid (W5.cell? ⟨rB, 0, none⟩ = some (.slice ga gl.length gc) ∧ IsSl 2 spC W5 ⟨ga, gc, gl⟩) := ⟨by rw [HW5.out.l1]; exact HW5.out.b0, HW5.out.sl⟩
      have HFi : Hid (W5.cell? ⟨xB, 0, none⟩ = some (.slice a3 0 c3) ∧ W5.cell? ⟨xB, 1, none⟩ = some (.slice (some ⟨g2, 0, none⟩) nl.length c2) ∧ IsF W5 ⟨⟨a3, c3, []⟩, ⟨some ⟨g2, 0, none⟩, c2, nl⟩⟩) :=
        ⟨HM5.out.cell 0 (j := 0) rfl rfl, by rw [HW5.out.l3]; exact HM5.out.cell 0 (j := 1) rfl rfl, ⟨⟨Nat.zero_le _, Nat.zero_le _, .inl rfl⟩, hns⟩⟩
      have HGc : Hid (W5.cell? ⟨fB, 0, none⟩ = some (.slice fa 0 fc)) := HW5.out.b1
      have HXw : Hid (Ext w W5) := HW5.out.hx
      have HOk : Hid (OkSt gl [] nl) := HW.out.ok
      clear hns hd0 hdl hwl hxb hg2
      repeat (first | exact read_tail29z X2 D2 rB fB xB S fc c3 c2 fa a3 (some ⟨g2, 0, none⟩) ⟨ga, gc, gl⟩ nl w W5 HOk Hn HRo HFi HGc HXw | go_step)
    · obtain ⟨xr, rfl, hxr, -⟩ := own_place (HM5.out.row 0 _ rfl) hfn
      have hox : xB ≠ xr := fun e => HM5.out.off 0 _ rfl 0 _ rfl (by rw [e]; rfl)
      have hgx : g2 ≠ xr := fun e => HM5.out.apart 0 1 _ _ (by decide) rfl rfl xr rfl (by rw [e]; rfl)
      obtain ⟨-, -, hs⟩ := HW5.out.fs
      have hl2 := HW5.out.l2
      dsimp only at hs
      obtain ⟨gb, gq, rfl, hcs⟩ : ∃ gb gq, fa = some ⟨gb, gq, none⟩ ∧ ∀ i (h : i < fl.length) j, j < 2 → W5.cell? ⟨gb, gq + i * 2 + j, none⟩ = some (spC fl[i] j) := by
        rcases hs with hs | hs
        · omega
        · exact hs
      have HRo : Hid (∀ u, Keep (fun b => b ≠ D2 ∧ b ≠ xr) W5 u → u.cell? ⟨rB, 0, none⟩ = some (.slice ga gl.length gc) ∧ IsSl 2 spC u ⟨ga, gc, gl⟩) := fun u hu =>
        ⟨by rw [HW5.out.l1]; exact hu.cell HW5.out.b0 ⟨HW5.out.bne.1, by have := HWr.out.bne.2.2.1; show rB ≠ xr; omega⟩,
          HW5.out.sl.keep hu (fun b off e _ => ⟨(HWr.out.ne b off (.inl e)).1, by have := (HWr.out.ne b off (.inl e)).2; omega⟩)⟩
      have HFi : Hid (∀ u, Keep (fun b => b ≠ D2 ∧ b ≠ xr) W5 u → u.cell? ⟨xB, 0, none⟩ = some (.slice (some ⟨xr, 0, none⟩) fn c3) ∧ u.cell? ⟨xB, 1, none⟩ = some (.slice (some ⟨g2, 0, none⟩) nl.length c2) ∧ IsSl 1 numI u ⟨some ⟨g2, 0, none⟩, c2, nl⟩) := fun u hu =>
        ⟨hu.cell (HM5.out.cell 0 (j := 0) rfl rfl) ⟨by show xB ≠ D2; omega, hox⟩, by rw [HW5.out.l3]; exact hu.cell (HM5.out.cell 0 (j := 1) rfl rfl) ⟨by show xB ≠ D2; omega, hox⟩,
          hns.keep hu (fun b off e _ => by cases e; exact ⟨by omega, hgx⟩)⟩
      have HGc : Hid (∀ u, Keep (fun b => b ≠ D2 ∧ b ≠ xr) W5 u → u.cell? ⟨fB, 0, none⟩ = some (.slice (some ⟨gb, gq, none⟩) fn fc) ∧ ∀ q, q < fn → u.cell? ⟨gb, gq + q * 2, none⟩ = some (.int .i64 (((fl[q]?.getD (0, 0)).1 : Nat) : Int)) ∧ u.cell? ⟨gb, gq + q * 2 + 1, none⟩ = some (.int .i64 (((fl[q]?.getD (0, 0)).2 : Nat) : Int))) := fun u hu => by
        have hgbn : gb ≠ D2 ∧ gb ≠ xr := ⟨(HWr.out.ne gb gq (.inr rfl)).1, by have := (HWr.out.ne gb gq (.inr rfl)).2; omega⟩
        refine ⟨hu.cell HW5.out.b1 ⟨HW5.out.bne.2.1, by have := HWr.out.bne.2.2.2; show fB ≠ xr; omega⟩, fun q hq => ?_⟩
        have hq2 : q < fl.length := by omega
        rw [List.getElem?_eq_getElem hq2, Option.getD_some]
        exact ⟨hu.cell (hcs q hq2 0 (by omega)) hgbn, hu.cell (hcs q hq2 1 (by omega)) hgbn⟩
      have HRw : Hid (RowP W5 xr fl c3) := by
        have h := HM5.out.row 0 _ rfl
        dsimp only at h
        rw [← HW.out.l2] at h
        exact (RowP.of_own h).1
      have HBy : Hid (∀ b off, a1 = some ⟨b, off, none⟩ → 0 < n1 → b ≠ xr) := fun b off e h => by have := HWr.out.by' b off e h; omega
      have hf40 : fn ≤ 40 := by have := HW.out.ok.gl; have := HW.out.l3; omega
      have HDk : Hid (IsDeck W5 D2 a1 n1 c1 0 ∧ 0 ≤ 100) := ⟨HW5.out.dk, Nat.zero_le _⟩
      have HNe : Hid (xr ≠ D2 ∧ D2 < W5.heap.size) := ⟨by omega, HW5.out.dk.lt⟩
      have HD0 : Hid (w.heap.size ≤ D2 ∧ w.heap.size ≤ xr) := ⟨hd0, by omega⟩
      have HXw : Hid (Ext w W5) := HW5.out.hx
      have HOk : Hid (OkSt gl fl nl) := HW.out.ok
      have HL2 : Hid (fl.length = fn) := hl2
      have HGb2 : Hid (∀ x ∈ fl, x.2 ≤ 1000) := HW.out.gb
      clear hcs hl2 hns hs hox hgx hd0 hdl hwl hxb hg2 hxr
      repeat (first | exact read_tail29 X2 D2 rB fB xB S gb gq fc fn xr c3 c2 (some ⟨g2, 0, none⟩) a1 n1 c1 0 ⟨ga, gc, gl⟩ fl nl w W5 HL2 HOk Hn HRo HFi HGc HRw HDk HBy HNe HGb2 hfn hf40 HXw HD0 | go_step)
end Go.Proofs.Ytfognlealnhodaa

namespace Go.Proofs.Ytfognlealnhodaa
open Go.RowKit

theorem read_tail14' (t : Array Value) (w W : World) (D2 : Nat) (a1 : Option Addr) (n1 c1 rB fB mg gc fn fc n0 nc rc vc rn : Nat) (ga fa na ra va : Option Addr) (gl fl : List (Nat × Nat)) (nl : List Int) (vl : List (SL Nat)) (z : Int) (HW : Hid (RW w W D2 a1 n1 c1 rB fB mg gc fn fc n0 nc ga fa na gl fl nl)) (HV : Hid (NumsAt W va vc n0 vl gl fl nl)) (Hn : Hid (readsF gl fl nl = rn)) (ht : t = frK14 D2 rB fB rn n0 rc vc ra va z (fun j => t.getD j undef)) :
    Code.wp Try.prog tail8_14 (bodyPost Try.prog Try.f8 fun e w' => e = .returned (.bool true) ∧ Ext w w') ⟨t, []⟩ W := by
  rw [ht]
  exact read_tail14 _ w W D2 a1 n1 c1 rB fB mg gc fn fc n0 nc rc vc rn ga fa na ra va gl fl nl vl z HW HV Hn
def frO9 (D2 rB fB rn n0 rc vc k : Nat) (ra va : Option Addr) (z : Int) (X : Nat → Value) : Array Value := #[X 0, X 1, .int .i64 z, X 3, X 4, X 5, X 6, X 7, .pointer (some ⟨D2, 0, none⟩), .pointer (some ⟨rB, 0, none⟩), .pointer (some ⟨fB, 0, none⟩), .slice ra n0 rc, .int .i64 (rn : Int), X 13, .slice va n0 vc, X 15, X 16, X 17, X 18, X 19, X 20, X 21, X 22, X 23, X 24, X 25, X 26, X 27, X 28, X 29, X 30, X 31, X 32, X 33, X 34, X 35, X 36, X 37, X 38, X 39, X 40, X 41, X 42, X 43, X 44, X 45, X 46, X 47, X 48, X 49, X 50, X 51, X 52, X 53, X 54, X 55, X 56, X 57, X 58, X 59, X 60, X 61, X 62, X 63, X 64, X 65, X 66, X 67, X 68, X 69, X 70, X 71, X 72, X 73, X 74, X 75, X 76, X 77, X 78, X 79, X 80, .slice ra n0 rc, .int .i64 (n0 : Int), .int .i64 (k : Int), X 84, X 85, X 86, X 87, X 88, X 89, X 90, X 91, X 92, X 93, X 94, X 95, X 96, X 97, X 98, X 99, X 100, X 101, X 102, X 103, X 104, X 105, X 106, X 107, X 108, X 109, X 110, X 111, X 112, X 113, X 114, X 115, X 116, X 117, X 118, X 119, X 120, X 121, X 122, X 123, X 124, X 125, X 126, X 127, X 128, X 129, X 130, X 131, X 132, X 133, X 134, X 135, X 136, X 137, X 138, X 139, X 140, X 141, X 142, X 143, X 144, X 145, X 146, X 147, X 148, X 149, X 150, X 151, X 152, X 153, X 154, X 155, X 156, X 157, X 158, X 159, X 160, X 161, X 162, X 163, X 164, X 165, X 166, X 167, X 168, X 169, X 170, X 171, X 172, X 173, X 174, X 175, X 176, X 177, X 178, X 179, X 180, X 181, X 182, X 183, X 184, X 185, X 186, X 187]
def InvO (W : World) (D2 rB fB rn n0 rc vc : Nat) (ra va : Option Addr) (z : Int) (ac : Act) (wr : World) : Prop :=
  ∃ (X : Nat → Value) (k : Nat), ac = { tmps := frO9 D2 rB fB rn n0 rc vc k ra va z X, defers := [] } ∧ k ≤ n0 ∧ W = wr
theorem InvO.of {W : World} {D2 rB fB rn n0 rc vc : Nat} {ra va : Option Addr} {z : Int} {t : Array Value} (k : Nat) (ht : t = frO9 D2 rB fB rn n0 rc vc k ra va z (fun j => t.getD j undef)) (h1 : k ≤ n0) : InvO W D2 rB fB rn n0 rc vc ra va z { tmps := t, defers := [] } W := ⟨_, k, by rw [← ht], h1, rfl⟩

set_option maxRecDepth 1000000 in
set_option maxHeartbeats 16000000 in
theorem pread_any (a0 a1 : Option Addr) (n0' c0 n1 c1 : Nat) (z : Int) (w : World) (h0 : IsBytes w a0 n0' c0) (h1 : IsBytes w a1 n1 c1) :
    Calls Try.prog 8 #[.slice a0 n0' c0, .slice a1 n1 c1, .int .i64 z] w fun e w' => e = .returned (.bool true) ∧ Ext w w' := by
  have H1 := Lib.hid h1
  have H0 := Lib.hid h0
  clear h0 h1
  go_enter Try.func8, Try.ntmps8
  go_wp2_with fail
  refine (of_any a0 n0' c0 w H0.out).mono ?_
  rintro e w1 ⟨rfl, hd1, hx1⟩
  have HDa := Lib.hid hd1
  have HX1 := Lib.hid hx1
  clear hd1 hx1
  go_wp2_with fail
  refine (of_any a1 n1 c1 w1 (H1.out.ext HX1.out)).mono ?_
  rintro e w2 ⟨rfl, hd2, hx2⟩
  have HD1 := Lib.hid (HDa.out.ext hx2)
  have HD2 := Lib.hid hd2
  have HX2 : Hid (Ext w w2) := HX1.out.trans hx2
  have hw1 : w.heap.size < w1.heap.size := HDa.out.lt
  have HB1 : Hid (∀ b off, a1 = some ⟨b, off, none⟩ → 0 < n1 → b < w.heap.size) := fun b off ha hn => by
    obtain ⟨_, _, h3⟩ := H1.out
    obtain ⟨b', off', ha', hc⟩ := h3.resolve_left (by omega)
    rw [ha] at ha'
    cases ha'
    obtain ⟨x, _, hx⟩ := hc 0 hn
    exact lt_of_cell hx
  clear hd2 hx2 HDa
  obtain ⟨D2, hD2⟩ : ∃ D2, w1.heap.size = D2 := ⟨_, rfl⟩
  rw [hD2] at HD2 hw1
  have HW1 : Hid (w.heap.size < D2) := hw1
  clear hw1
  go_wp2_with fail
  clear hD2
  refine (stoned_any w.heap.size a0 n0' c0 0 9 w2 HD1.out (by omega) (by omega) (by omega)).mono ?_
  rintro e W ⟨ga, fa, na, ra, ta, gc, fc, nc, rc, m, fn, n0, k', gl, fl, tl, rl, nl, tc, rfl, hRo, hIn, hgl, hm1, hm9, -, hHd⟩
  have HD2s := HD2.out.lt
  have hk := hHd.keep
  have hne := hIn.ne rfl
  have hrl : rl ≠ [] := fun e => by subst e; have := hIn.rn; simp at this; omega
  have hre : RealM gl tl (gl.length + 1) fl nl rl := by rw [hgl]; exact hIn.real
  have hle := hIn.le
  have hok : OkSt gl fl nl := hre.ok hRo hrl (by omega) (by omega) (by have := hIn.rn; omega)
  have hrd := (hre.done hRo hrl).rd
  have hpos : 0 < readsF gl fl nl := (read_pos (by omega)).2 ⟨_, hrd⟩
  have hl1 := hgl
  have hl2 := hIn.fn'
  have hl3 := hIn.nn
  have hl4 := hIn.rn
  have hxw : Ext w W := ((Keep.of_ext (D := fun b => b ≠ w.heap.size) HX2.out).trans hk).to_ext (fun i hi => by omega)
  have hr0 : IsSl 2 spC W ⟨ga, gc, gl⟩ := by
    have h := hHd.row 0 _ rfl
    dsimp only at h
    rw [← hl1] at h
    exact own_slG h (by omega)
  have hr2 : IsSl 2 spC W ⟨fa, fc, fl⟩ := by
    have h := hHd.row 2 _ rfl
    dsimp only at h
    rw [← hl2] at h
    exact own_slG h (by have := hok.gl; omega)
  have hr3 : IsSl 1 numI W ⟨na, nc, nl⟩ := by
    have h := hHd.row 3 _ rfl
    dsimp only at h
    rw [← hl3] at h
    exact own_slI h (by omega)
  obtain ⟨rb, rfl, -, -⟩ := own_place (hHd.row 4 _ rfl) (show 0 < n0 by omega)
  have hcell : ∀ q, q < n0 → W.cell? ⟨rb, q, none⟩ = some (.int .i64 ((rl[q]?.getD 0 : Nat) : Int)) := fun q hq => hHd.num 4 rfl hl4 (by omega) hq
  have hdk : IsDeck W D2 a1 n1 c1 0 := HD2.out.keepD hk (by have := HW1.out; omega) (fun b off ha hn => by have := HB1.out b off ha hn; omega)
  have hbl : ∀ b off, ga = some ⟨b, off, none⟩ ∨ fa = some ⟨b, off, none⟩ → b ≠ D2 ∧ b < W.heap.size := by
    rintro b off (e | e)
    · subst e
      have h := hHd.row 0 _ rfl
      dsimp only at h
      have hb : (Value.slice (some ⟨b, off, none⟩) m gc).ownBlock = some b := by
        obtain ⟨g, e, _⟩ := own_place h (by omega)
        simp only [Option.some.injEq, Addr.mk.injEq, and_true] at e
        obtain ⟨rfl, rfl⟩ := e
        rfl
      have := own_type h hb
      omega
    · subst e
      have h := hHd.row 2 _ rfl
      dsimp only at h
      by_cases hf : fn = 0
      · obtain ⟨-, h2⟩ := h
        rcases h2 with ⟨h2, -⟩ | ⟨g, cap, cur, h2, hb, hh, -⟩
        · cases h2
        · simp only [Value.slice.injEq, Option.some.injEq, Addr.mk.injEq, and_true] at h2
          obtain ⟨⟨rfl, rfl⟩, -⟩ := h2
          have := (Array.getElem?_eq_some_iff.1 hh).1
          omega
      · have hb : (Value.slice (some ⟨b, off, none⟩) fn fc).ownBlock = some b := by
          obtain ⟨g, e, _⟩ := own_place h (by omega)
          simp only [Option.some.injEq, Addr.mk.injEq, and_true] at e
          obtain ⟨rfl, rfl⟩ := e
          rfl
        have := own_type h hb
        omega
  have hWs : D2 < W.heap.size := hdk.lt
  have hxa := (Ext.refl W).alloc (.cells #[.slice ga m gc] 64)
  have hxb := hxa.alloc (.cells #[.slice fa fn fc, .slice na n0 nc] 66)
  have hA := (((Ext.refl (W.alloc (.cells #[.slice ga m gc] 64))).alloc (.cells #[.slice fa fn fc, .slice na n0 nc] 66)).block (World.alloc_heap_new W (.cells #[.slice ga m gc] 64)))
  have hB : ((W.alloc (.cells #[.slice ga m gc] 64)).alloc (.cells #[.slice fa fn fc, .slice na n0 nc] 66)).heap[W.heap.size + 1]? = some (.cells #[.slice fa fn fc, .slice na n0 nc] 66 (0, 0)) := alloc_new (by simp only [World.size_alloc])
  have HW : Hid (RW w ((W.alloc (.cells #[.slice ga m gc] 64)).alloc (.cells #[.slice fa fn fc, .slice na n0 nc] 66)) D2 a1 n1 c1 W.heap.size (W.heap.size + 1) m gc fn fc n0 nc ga fa na gl fl nl) :=
    ⟨hxw.trans hxb, hdk.ext hxb, by have := HW1.out; omega, HB1.out, (cell_at hA 0).trans rfl, (cell_at hB 0).trans rfl, (cell_at hB 1).trans rfl, ⟨by omega, by omega, by simp only [World.size_alloc]; omega, by simp only [World.size_alloc]; omega⟩, hr0.ext hxb, hr2.ext hxb, hr3.ext hxb, hl1, hl2, hl3, hok,
      fun b off e => ⟨(hbl b off e).1, by have := (hbl b off e).2; simp only [World.size_alloc]; omega⟩, hIn.gb⟩
  have HRc : Hid (∀ q, q < n0 → ((W.alloc (.cells #[.slice ga m gc] 64)).alloc (.cells #[.slice fa fn fc, .slice na n0 nc] 66)).cell? ⟨rb, q, none⟩ = some (.int .i64 ((rl[q]?.getD 0 : Nat) : Int))) := fun q hq => hxb.cell (hcell q hq)
  have HRd : Hid (RdTo fl nl (apart gl) (gl.length + 1) fl.length (fun s => rl[s]?.getD 0)) := hrd
  have HPos : Hid (0 < readsF gl fl nl) := hpos
  have HNn : Hid (0 < n0 ∧ n0 ≤ 10 ∧ fl.length + 1 = n0 ∧ gl.length ≤ 9) := ⟨by omega, by omega, by have := hok.gl; omega, by omega⟩
  clear hHd HD2s hk hne hrl hre hle hok hrd hpos hl1 hl2 hl3 hl4 hxw hr0 hr2 hr3 hcell hdk hbl hWs hxa hxb hA hB hRo hIn hgl hm1 hm9 HD1 HD2 HX1 HX2 H0 H1
  have b0 := HW.out.b0
  have b1 := HW.out.b1
  have b2 := HW.out.b2
  go_wp2_with fail
  generalize (W.alloc (.cells #[.slice ga m gc] 64)).alloc (.cells #[.slice fa fn fc, .slice na n0 nc] 66) = W2 at *
  generalize W.heap.size + 1 = fB at *
  generalize W.heap.size = rB at *
  refine HW.out.readings.mono ?_
  rintro e W3 ⟨rfl, hx3⟩
  have HX3 := Lib.hid hx3
  clear hx3 b0 b1 b2
  have HW3 := Lib.hid (HW.out.ext HX3.out)
  have b0 := HW3.out.b0
  have b1 := HW3.out.b1
  have b2 := HW3.out.b2
  generalize hrn : readsF gl fl nl = rn at *
  have HRn := Lib.hid hrn
  clear hrn
  go_wp2_with fail
  refine (HW3.out.numbers (by rw [HRn.out]; exact HPos.out)).mono ?_
  rintro e W4 ⟨va, vc, vl, rfl, hv, hx4⟩
  have HV4 := Lib.hid hv
  have HX4 := Lib.hid (HX3.out.trans hx4)
  clear hv hx4 b0 b1 b2 HW3 HX3
  have HW4 := Lib.hid (HW.out.ext HX4.out)
  have b0 := HW4.out.b0
  have b1 := HW4.out.b1
  have b2 := HW4.out.b2
  go_wp2_with fail
  refine (HW4.out.wrong (by rw [HRn.out]; exact HPos.out)).mono ?_
  rintro e W5 ⟨rfl, hx5⟩
  have HV5 := Lib.hid (HV4.out.ext hx5)
  have HX5 := Lib.hid (HX4.out.trans hx5)
  clear hx5 b0 b1 b2 HW4 HX4 HV4
  have HW5 := Lib.hid (HW.out.ext HX5.out)
  have hpos := HPos.out
  have dr : decide ((rn : Int) < 1) = false := decide_eq_false (by omega)
  have dr2 : decide (rn < 1) = false := decide_eq_false (by omega)
  have dr3 : ¬ rn = 0 := by omega
  go_wp2_with fail
  clear dr dr2 dr3 hpos
  obtain ⟨-, -, hs⟩ := HV5.out.sl
  have hvl := HV5.out.len
  have hn1 := HNn.out.1
  dsimp only at hs
  obtain ⟨vb, vo, rfl, hcs⟩ : ∃ vb vo, va = some ⟨vb, vo, none⟩ ∧ ∀ i (h : i < vl.length) j, j < 1 → W5.cell? ⟨vb, vo + i * 1 + j, none⟩ = some (slC vl[i] j) := by
    rcases hs with hs | hs
    · omega
    · exact hs
  have HCs := Lib.hid hcs
  have HVl := Lib.hid hvl
  clear hs hvl hn1 hcs
  refine wp_loop (InvO W5 D2 rB fB rn n0 rc vc (some ⟨rb, 0, none⟩) (some ⟨vb, vo, none⟩) z) (fun a _ => n0 - (intOf (a.tmps.getD 83 undef)).toNat) (InvO.of 0 rfl (Nat.zero_le _)) ?_
  rintro ac wr ⟨X, k, rfl, hk, rfl⟩
  conv => arg 4; dsimp only [frO9]
  by_cases hlt : k < n0
  · have dk : decide ((k : Int) < (n0 : Int)) = true := decide_eq_true (by omega)
    have hwk : IntKind.i64.wrap ((k : Int) + 1) = ((k + 1 : Nat) : Int) := by have := HNn.out; rw [IntWalk.i64_in _ (by omega)]; omega
    have hck := HX5.out.cell (HRc.out k hlt)
    have hkl : k < vl.length := by rw [HVl.out]; exact hlt
    have hmem := (numK_mem (gp := fl) (nm := nl) (ap := apart gl) (P := gl.length + 1) (by have := HNn.out; omega) (j := fl.length - k) (x := rl[k]?.getD 0) (by omega)).2 ⟨_, HRd.out, by have := HNn.out; rw [show fl.length - (fl.length - k) = k by omega]⟩
    rw [← HV5.out.num k hkl] at hmem
    obtain ⟨x, hx⟩ : ∃ x, rl[k]?.getD 0 = x := ⟨_, rfl⟩
    rw [hx] at hck hmem
    have hc0 := HCs.out k hkl 0 (by omega)
    have hks := HV5.out.each _ (List.getElem_mem hkl)
    obtain ⟨lk, hlk⟩ : ∃ lk, vl[k] = lk := ⟨_, rfl⟩
    rw [hlk] at hmem hc0 hks
    obtain ⟨la, lc, ll'⟩ := lk
    dsimp only at hmem
    obtain ⟨ll, hll⟩ : ∃ ll, ll'.length = ll := ⟨_, rfl⟩
    have hc1 : W5.cell? ⟨vb, vo + k, none⟩ = some (.slice la ll lc) := by rw [← hll]; simpa [slC] using hc0
    have hct : ll'.contains x = true := by simpa using hmem
    have HKs := Lib.hid hks
    have HLl := Lib.hid hll
    have HCt := Lib.hid hct
    have i0 : (0 : Int) ≤ (k : Int) := by omega
    have i1 : (k : Int) < (n0 : Int) := by omega
    clear hmem hc0 hks hlk hll hct hx
    go_wp2_with fail
    refine (contains_any la ll lc ll' x W5 HLl.out HKs.out).mono ?_
    rintro e w' ⟨rfl, rfl⟩
    rw [HCt.out]
    go_wp2_with fail
    refine ⟨InvO.of (k + 1) ?_ (by omega), ?_⟩
    · simp [frO9]
    · simp [intOf, frO9]; omega
  · have dk : decide ((k : Int) < (n0 : Int)) = false := decide_eq_false (by omega)
    obtain rfl : k = n0 := by omega
    clear hlt hk HRc HRd
    repeat (first | exact read_tail14' _ w W5 D2 a1 n1 c1 rB fB m gc fn fc k nc rc vc rn ga fa na (some ⟨rb, 0, none⟩) (some ⟨vb, vo, none⟩) gl fl nl vl z HW5 HV5 HRn rfl | go_step)
end Go.Proofs.Ytfognlealnhodaa
