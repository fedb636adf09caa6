/-
  What PillarBlamed has in memory: the roll, the finds whose gaps are moved, and their boxes; what Readings and Wrong answer of them there; slices.Delete of a number where all other memory stays.
  PillarBlamed's drawn region that copies the finds without the number of a stone: what it leaves, whichever order is drawn.
-/
import Derived.Test.YtfognlealnhodaaY1
import Derived.Test.YtfognlealnhodaaY3
import Derived.Test.YtfognlealnhodaaY0
import Derived.RegionTactic
import Derived.Deep.CutBlock
namespace Go.Proofs.Ytfognlealnhodaa
open Go.RowKit

set_option maxRecDepth 100000 in
set_option maxHeartbeats 1000000 in
theorem delete_keepI (g c i : Nat) (l : List Int) (w : World) (hrow : RowI w g l c) (hl : l.length ≤ 1000000) (hcm : c ≤ maxLen) (hi : i < l.length) :
    Calls Try.prog 28 #[.slice (some ⟨g, 0, none⟩) l.length c, .int .i64 (i : Int), .int .i64 ((i : Int) + 1)] w fun e w' =>
      e = .returned (.slice (some ⟨g, 0, none⟩) (l.eraseIdx i).length c) ∧ RowI w' g (l.eraseIdx i) c ∧ Keep (fun k => k ≠ g) w w' := by
  obtain ⟨he1, he2⟩ := erase_moveI l i hi
  obtain ⟨iq, hq, hq0, hq1, hq2⟩ := info_parts info3
  have HQ := Lib.hid hq; clear hq hq0 hq2
  have HQ1 := Lib.hid hq1; clear hq1
  have hrd : RowI w.drew g l c := hrow.ext (Ext.refl w).drew
  have HR0 := Lib.hid hrd
  have hm := hrd.move (o := i) (l.drop (i + 1)) (by rw [List.length_drop]; omega)
  clear hrd
  have HR := Lib.hid hm; clear hm
  have HE1 := Lib.hid he1; clear he1
  have HE2 := Lib.hid he2; clear he2
  have hlc := hrow.le
  clear hrow
  have hcm' : c ≤ 9223372036854775807 := by unfold maxLen at hcm; omega
  have hel : (l.eraseIdx i).length = l.length - 1 := by rw [List.length_eraseIdx, if_pos hi]
  have HEL := Lib.hid hel; clear hel
  have i0 : (0 : Int) ≤ (i : Int) := by omega
  have i1 : (0 : Int) ≤ (i : Int) + 1 := by omega
  have i2 : (i : Int) + 1 ≤ (l.length : Int) := by omega
  have ic : i ≤ c := by omega
  have i3 : ((i : Int) == (i : Int) + 1) = false := by rw [beq_eq_false_iff_ne]; omega
  go_enter Try.func28, Try.ntmps28
  go_wp2_with fail
  go_region_law (first
    | (refine step_append_room rfl (.tmp 22) (.tmp 25) 25 rfl 3 iq 1 Try.underlying25 HQ.out HQ1.out g 0 i c ?_ (if c = i + 1 then ⟨g, 0, none⟩ else ⟨g, i + 1, none⟩) (l.length - (i + 1)) (c - (i + 1)) (intsV (l.drop (i + 1))) ?_ ?_ ?_ ?_ ?_ ?_ ?_; (simp [Act.put, Act.eval]); (simp only [Act.put, Act.eval]; simp; split <;> rfl); (rw [intsV_length, List.length_drop]; omega); (intro j u hu; have hj : j < (l.drop (i + 1)).length := (by rw [← intsV_length]; exact (List.getElem?_eq_some_iff.1 hu).1); rw [intsV_get _ _ hj] at hu; rw [List.length_drop] at hj; rw [if_neg (by omega), ← hu, List.getElem_drop, Addr.add_lit]; exact HR0.out.cell (i + 1 + j) (by omega)); (intro u hu; unfold intsV at hu; obtain ⟨x, _, rfl⟩ := List.mem_map.1 hu; rfl); omega; (intro j hj; rw [intsV_length, List.length_drop] at hj; exact ⟨by rw [show 0 + i * 1 + j = i + j by omega, HR0.out.cell (i + j) (by omega)]; rfl, HR0.out.frozen _⟩)))
  rw [show i + (l.length - (i + 1)) = l.length - 1 by omega]
  have HW : Hid (RowI (w.drew.setCells g i (intsV (l.drop (i + 1)))) g (l.take i ++ l.drop (i + 1) ++ l.drop (i + (l.drop (i + 1)).length)) c) := HR
  obtain ⟨W1, hW1⟩ : ∃ W1, w.drew.setCells g i (intsV (l.drop (i + 1))) = W1 := ⟨_, rfl⟩
  have HB1 : Hid (Keep (fun k => k ≠ g) w W1) := by rw [← hW1]; exact keep_setCells g (fun _ h => h rfl) _ _ _ (Keep.refl _ w).drew
  rw [hW1] at HW ⊢
  clear hW1 HR HR0
  have hcl : ∀ ty, (Builtin.clear_ #[25] ty #[.slice (some ⟨g, l.length - 1, none⟩) (l.length - (l.length - 1)) (c - (l.length - 1))]).run Try.prog W1 = .ok (.tuple #[]) (W1.setCells g (l.length - 1) (List.replicate (l.length - (l.length - 1)) (.int .i64 0))) :=
    fun ty => Lib.run_clear_slice W1 25 3 ty (.int .i64 0) Try.underlying25 zeroValue3 rfl rfl g (l.length - 1) _ _ (by omega) (fun t ht => by rw [HW.out.cell (l.length - 1 + t) (by rw [HE2.out]; omega)]; rfl) (fun t ht => HW.out.frozen _)
  have k0 : (0 : Int) ≤ ((l.length - 1 : Nat) : Int) := by omega
  have k1 : l.length - 1 ≤ l.length := by omega
  have k2 : l.length ≤ c := hlc
  go_wp2_with fail
  all_goals
    try (have hc' : c = i + 1 := by assumption
         subst hc')
    go_ret
    refine ⟨by rw [HEL.out]; rfl, ?_, keep_setCells g (fun _ h => h rfl) _ _ _ HB1.out⟩
    have h := (HW.out.take (l.length - 1)).cells_past (List.replicate (l.length - (l.length - 1)) (.int .i64 0)) (o := l.length - 1) (by rw [List.length_take, HE2.out]; omega)
    rw [HE1.out] at h
    exact h

theorem RowI.own {w : World} {g c base : Nat} {l : List Int} (h : RowI w g l c) (hb : base ≤ g) (hc : c ≤ maxLen) : w.ownsRow base 3 1 (.slice (some ⟨g, 0, none⟩) l.length c) l.length (intsV l) := by
  obtain ⟨cur, h1, h2, h3, h4⟩ := h
  refine ⟨by rw [intsV_length, Nat.mul_one], .inr ⟨g, c, cur, rfl, hb, h1, h3, hc, by omega, ?_⟩⟩
  apply List.ext_getElem?
  intro i
  rw [List.getElem?_take, Nat.mul_one]
  by_cases e : i < l.length
  · rw [if_pos e, Array.getElem?_toList, h4 i e, intsV_get _ _ e]
  · rw [if_neg e, List.getElem?_eq_none (by rw [intsV_length]; omega)]
structure BW (w u : World) (rB fB g mg gc fn fc n0 nc : Nat) (ga na : Option Addr) (gl L : List (Nat × Nat)) (nl : List Int) : Prop where
  hx : Ext w u
  b0 : u.cell? ⟨rB, 0, none⟩ = some (.slice ga mg gc)
  b1 : u.cell? ⟨fB, 0, none⟩ = some (.slice (some ⟨g, 0, none⟩) fn fc)
  b2 : u.cell? ⟨fB, 1, none⟩ = some (.slice na n0 nc)
  sl : IsSl 2 spC u ⟨ga, gc, gl⟩
  gs : RowP u g L fc
  ns : IsSl 1 numI u ⟨na, nc, nl⟩
  l1 : gl.length = mg
  l2 : L.length = fn
  l3 : nl.length = n0
  g0 : w.heap.size ≤ g
  ne : rB ≠ g ∧ fB ≠ g
  nb : ∀ b off, ga = some ⟨b, off, none⟩ ∨ na = some ⟨b, off, none⟩ → b ≠ g
  ok : OkSt gl L nl
  bd : ∀ x ∈ L, x.2 ≤ 2000
section
variable {w u u' : World} {rB fB g mg gc fn fc n0 nc : Nat} {ga na : Option Addr} {gl L : List (Nat × Nat)} {nl : List Int}
theorem BW.ext (h : BW w u rB fB g mg gc fn fc n0 nc ga na gl L nl) (x : Ext u u') : BW w u' rB fB g mg gc fn fc n0 nc ga na gl L nl :=
  ⟨h.hx.trans x, x.cell h.b0, x.cell h.b1, x.cell h.b2, h.sl.ext x, h.gs.ext x, h.ns.ext x, h.l1, h.l2, h.l3, h.g0, h.ne, h.nb, h.ok, h.bd⟩
/-- A gap is moved. -/
theorem BW.put (h : BW w u rB fB g mg gc fn fc n0 nc ga na gl L nl) {j : Nat} (hj : j < fn) (x : Nat × Nat) (hx : 1 ≤ x.1 ∧ x.1 ≤ x.2 ∧ x.2 ≤ 2000) : BW w ((u.setCell ⟨g, j * 2, none⟩ (.int .i64 (x.1 : Int))).setCell ⟨g, j * 2 + 1, none⟩ (.int .i64 (x.2 : Int))) rB fB g mg gc fn fc n0 nc ga na gl (L.set j x) nl := by
  have hk : Keep (fun b => b ≠ g) u ((u.setCell ⟨g, j * 2, none⟩ (.int .i64 (x.1 : Int))).setCell ⟨g, j * 2 + 1, none⟩ (.int .i64 (x.2 : Int))) := ((Keep.refl _ _).setCell _ _ (fun _ h => h rfl)).setCell _ _ (fun _ h => h rfl)
  refine ⟨((Keep.of_ext (D := fun _ => True) h.hx).transD hk (fun i hi _ => by have := h.g0; omega)).to_ext (fun _ _ => trivial), hk.cell h.b0 h.ne.1, hk.cell h.b1 h.ne.2, hk.cell h.b2 h.ne.2, h.sl.keep hk (fun b off e _ => h.nb b off (.inl e)), h.gs.put j x (by rw [h.l2]; exact hj), h.ns.keep hk (fun b off e _ => h.nb b off (.inr e)), h.l1, by rw [List.length_set]; exact h.l2, h.l3, h.g0, h.ne, h.nb, h.ok.put j x (by omega), fun y hy => ?_⟩
  rcases List.mem_or_eq_of_mem_set hy with hy | rfl
  · exact h.bd y hy
  · exact hx.2.2
theorem BW.len (h : BW w u rB fB g mg gc fn fc n0 nc ga na gl L nl) : fn + 1 = n0 ∧ n0 ≤ 40 ∧ 1 ≤ mg ∧ mg ≤ 39 := by
  have h1 := h.ok.gl
  have h2 := h.ok.n2
  have h3 := h.ok.r1
  have h4 := h.ok.r2
  rw [h.l2, h.l3] at h1
  rw [h.l3] at h2
  rw [h.l1] at h3 h4
  exact ⟨h1, h2, h3, h4⟩
theorem BW.readings (h : BW w u rB fB g mg gc fn fc n0 nc ga na gl L nl) : Calls Try.prog 33 #[.agg #[.slice ga mg gc], .agg #[.slice (some ⟨g, 0, none⟩) fn fc, .slice na n0 nc]] u fun e w' => e = .returned (.tuple #[.int .i64 (readsF gl L nl : Int), .int .i64 0]) ∧ Ext u w' := by
  have hh := Readings_ok ⟨ga, gc, gl⟩ ⟨⟨some ⟨g, 0, none⟩, fc, L⟩, ⟨na, nc, nl⟩⟩ u h.sl ⟨h.gs.sl (by have := h.len; have := h.l2; omega), h.ns⟩ h.ok
  dsimp only [FV.v] at hh
  rw [h.l1, h.l2, h.l3] at hh
  exact hh
theorem BW.wrongNo (h : BW w u rB fB g mg gc fn fc n0 nc ga na gl L nl) (hr : 0 < readsF gl L nl) : Calls Try.prog 35 #[.agg #[.slice ga mg gc], .agg #[.slice (some ⟨g, 0, none⟩) fn fc, .slice na n0 nc]] u fun e w' => e = .returned (.tuple #[.slice none 0 0, .int .i64 10]) ∧ Ext u w' := by
  have hh := Wrong_no ⟨ga, gc, gl⟩ ⟨⟨some ⟨g, 0, none⟩, fc, L⟩, ⟨na, nc, nl⟩⟩ u h.sl ⟨h.gs.sl (by have := h.len; have := h.l2; omega), h.ns⟩ h.ok hr
  dsimp only [FV.v] at hh
  rw [h.l1, h.l2, h.l3] at hh
  exact hh
theorem BW.wrongOk (h : BW w u rB fB g mg gc fn fc n0 nc ga na gl L nl) (hr : readsF gl L nl = 0) (hn2 : 2 ≤ n0) : Calls Try.prog 35 #[.agg #[.slice ga mg gc], .agg #[.slice (some ⟨g, 0, none⟩) fn fc, .slice na n0 nc]] u fun e w' => ∃ a c l, e = .returned (.tuple #[.slice a l.length c, .int .i64 0]) ∧ l = wrongF gl L nl ∧ w'.ownsRow u.heap.size 3 1 (.slice a l.length c) l.length (nums l) ∧ Ext u w' := by
  have hh := Wrong_okN ⟨ga, gc, gl⟩ ⟨⟨some ⟨g, 0, none⟩, fc, L⟩, ⟨na, nc, nl⟩⟩ u h.sl ⟨h.gs.sl (by have := h.len; have := h.l2; omega), h.ns⟩ h.ok hr (by rw [h.l3]; exact hn2) (by rw [h.l3]; exact h.len.2.1)
  dsimp only [FV.v] at hh
  rw [h.l1, h.l2, h.l3] at hh
  exact hh
/-- Finds without a stone, wherever they lie. -/
theorem BW.few (h : BW w u rB fB g mg gc fn fc n0 nc ga na gl L nl) (hn2 : 2 ≤ n0) {i : Nat} (hi : i < n0) {a1 a2 : Option Addr} {c1 c2 : Nat} (h1 : IsSl 2 spC u ⟨a1, c1, lessG L n0 i⟩) (h2 : IsSl 1 numI u ⟨a2, c2, nl.eraseIdx i⟩) : Calls Try.prog 33 #[.agg #[.slice ga mg gc], .agg #[.slice a1 (fn - 1) c1, .slice a2 (n0 - 1) c2]] u fun e w' => e = .returned (.tuple #[.int .i64 (readsF gl (lessG L n0 i) (nl.eraseIdx i) : Int), .int .i64 0]) ∧ Ext u w' := by
  have hl := h.len
  have hh := Readings_ok ⟨ga, gc, gl⟩ ⟨⟨a1, c1, lessG L n0 i⟩, ⟨a2, c2, nl.eraseIdx i⟩⟩ u h.sl ⟨h1, h2⟩ (h.ok.less h.l3 hn2 hi (fun x hx => by have := h.bd x hx; omega))
  dsimp only [FV.v] at hh
  have e1 : (lessG L n0 i).length = fn - 1 := by have := lessG_lenM L n0 i hn2 (by rw [h.l2]; exact hl.1) hi; omega
  have e2 : (nl.eraseIdx i).length = n0 - 1 := by rw [List.length_eraseIdx, if_pos (by rw [h.l3]; exact hi), h.l3]
  rw [h.l1, e1, e2] at hh
  exact hh
theorem set_erase (L : List (Nat × Nat)) (n i : Nat) (x : Nat × Nat) (hg : L.length + 1 = n) (h1 : 1 ≤ i) (h2 : i + 1 < n) (hx : x = ((L[i - 1]?.getD (0, 0)).1 + (L[i]?.getD (0, 0)).1, (L[i - 1]?.getD (0, 0)).2 + (L[i]?.getD (0, 0)).2)) : (L.set (i - 1) x).eraseIdx i = lessG L n i := by
  unfold lessG
  simp only [if_neg (show ¬ i = 0 by omega), if_neg (show ¬ i = n - 1 by omega)]
  rw [← hx, List.eraseIdx_eq_take_drop_succ, List.drop_set_of_lt (by omega)]
  congr 1
  rw [show i = (i - 1) + 1 by omega, List.take_succ_eq_append_getElem (by rw [List.length_set]; omega)]
  simp only [Nat.add_sub_cancel]
  rw [List.getElem_set_self, List.take_set_of_le (Nat.le_refl _)]
end
end Go.Proofs.Ytfognlealnhodaa

namespace Go.Proofs.Ytfognlealnhodaa
open Go.RowKit

noncomputable def reg9_30 : Code := ((Try.f9.body.bind (regA 30)).getD .skip)
def frB30 (rB fB k i ln lc q : Nat) (la : Option Addr) (X : Nat → Value) : Array Value := #[X 0, X 1, X 2, X 3, X 4, X 5, X 6, .pointer (some ⟨rB, 0, none⟩), .pointer (some ⟨fB, 0, none⟩), X 9, .int .i64 (k : Int), X 11, X 12, X 13, X 14, X 15, X 16, X 17, X 18, .int .i64 (i : Int), X 20, X 21, X 22, X 23, X 24, X 25, X 26, X 27, X 28, X 29, X 30, X 31, X 32, X 33, X 34, X 35, X 36, X 37, X 38, X 39, X 40, X 41, X 42, X 43, X 44, X 45, X 46, X 47, X 48, X 49, X 50, X 51, X 52, X 53, X 54, X 55, X 56, X 57, X 58, X 59, X 60, X 61, X 62, X 63, X 64, X 65, X 66, X 67, X 68, X 69, X 70, X 71, X 72, X 73, X 74, X 75, X 76, X 77, X 78, X 79, X 80, X 81, X 82, X 83, X 84, X 85, X 86, X 87, X 88, X 89, X 90, X 91, X 92, X 93, X 94, X 95, X 96, X 97, X 98, X 99, X 100, X 101, X 102, X 103, X 104, X 105, X 106, X 107, X 108, X 109, X 110, X 111, X 112, X 113, X 114, X 115, X 116, X 117, X 118, X 119, X 120, X 121, X 122, X 123, X 124, X 125, X 126, X 127, X 128, X 129, X 130, X 131, X 132, X 133, X 134, X 135, X 136, X 137, X 138, X 139, X 140, X 141, X 142, X 143, X 144, X 145, X 146, X 147, X 148, X 149, X 150, X 151, X 152, X 153, X 154, X 155, X 156, X 157, X 158, X 159, X 160, X 161, X 162, .slice la ln lc, .int .i64 (ln : Int), .int .i64 (q : Int), X 166, X 167, X 168, X 169, X 170, X 171, X 172, X 173, X 174, X 175, X 176, X 177, X 178, X 179, X 180, X 181, X 182, X 183, X 184, X 185, X 186, X 187, X 188, X 189, X 190, X 191, X 192, X 193, X 194, X 195, X 196, X 197, X 198, X 199, X 200, X 201, X 202, X 203, X 204, X 205, X 206, X 207, X 208, X 209, X 210, X 211, X 212, X 213, X 214, X 215, X 216, X 217, X 218, X 219, X 220, X 221, X 222, X 223, X 224, X 225, X 226, X 227, X 228, X 229, X 230, X 231, X 232, X 233, X 234, X 235, X 236, X 237, X 238, X 239, X 240, X 241, X 242, X 243, X 244, X 245, X 246, X 247, X 248, X 249, X 250, X 251, X 252, X 253, X 254, X 255, X 256, X 257, X 258, X 259, X 260, X 261, X 262]
def frB33 (rB fB k i ln lc q xB : Nat) (la : Option Addr) (X : Nat → Value) : Array Value := #[X 0, X 1, X 2, X 3, X 4, X 5, X 6, .pointer (some ⟨rB, 0, none⟩), .pointer (some ⟨fB, 0, none⟩), X 9, .int .i64 (k : Int), X 11, X 12, X 13, X 14, X 15, X 16, X 17, X 18, .int .i64 (i : Int), .pointer (some ⟨xB, 0, none⟩), X 21, X 22, X 23, X 24, X 25, X 26, X 27, X 28, X 29, X 30, X 31, X 32, X 33, X 34, X 35, X 36, X 37, X 38, X 39, X 40, X 41, X 42, X 43, X 44, X 45, X 46, X 47, X 48, X 49, X 50, X 51, X 52, X 53, X 54, X 55, X 56, X 57, X 58, X 59, X 60, X 61, X 62, X 63, X 64, X 65, X 66, X 67, X 68, X 69, X 70, X 71, X 72, X 73, X 74, X 75, X 76, X 77, X 78, X 79, X 80, X 81, X 82, X 83, X 84, X 85, X 86, X 87, X 88, X 89, X 90, X 91, X 92, X 93, X 94, X 95, X 96, X 97, X 98, X 99, X 100, X 101, X 102, X 103, X 104, X 105, X 106, X 107, X 108, X 109, X 110, X 111, X 112, X 113, X 114, X 115, X 116, X 117, X 118, X 119, X 120, X 121, X 122, X 123, X 124, X 125, X 126, X 127, X 128, X 129, X 130, X 131, X 132, X 133, X 134, X 135, X 136, X 137, X 138, X 139, X 140, X 141, X 142, X 143, X 144, X 145, X 146, X 147, X 148, X 149, X 150, X 151, X 152, X 153, X 154, X 155, X 156, X 157, X 158, X 159, X 160, X 161, X 162, .slice la ln lc, .int .i64 (ln : Int), .int .i64 (q : Int), X 166, X 167, X 168, X 169, X 170, X 171, X 172, X 173, X 174, X 175, X 176, X 177, X 178, X 179, X 180, X 181, X 182, X 183, X 184, X 185, X 186, X 187, X 188, X 189, X 190, X 191, X 192, X 193, X 194, X 195, X 196, X 197, X 198, X 199, X 200, X 201, X 202, X 203, X 204, X 205, X 206, X 207, X 208, X 209, X 210, X 211, X 212, X 213, X 214, X 215, X 216, X 217, X 218, X 219, X 220, X 221, X 222, X 223, X 224, X 225, X 226, X 227, X 228, X 229, X 230, X 231, X 232, X 233, X 234, X 235, X 236, X 237, X 238, X 239, X 240, X 241, X 242, X 243, X 244, X 245, X 246, X 247, X 248, X 249, X 250, X 251, X 252, X 253, X 254, X 255, X 256, X 257, X 258, X 259, X 260, X 261, X 262]

set_option maxRecDepth 1000000 in
set_option maxHeartbeats 16000000 in
theorem blamed_r30 (t : Array Value) (rB fB k i ln lc q fn fc n0 nc : Nat) (la fa na : Option Addr) (L : List (Nat × Nat)) (nl : List Int) (V : World) (Q : Exit → Act → World → Prop) (ht : t = frB30 rB fB k i ln lc q la (fun j => t.getD j undef)) (HF : Hid (∀ u, Ext V u → u.cell? ⟨fB, 0, none⟩ = some (.slice fa fn fc) ∧ u.cell? ⟨fB, 1, none⟩ = some (.slice na n0 nc))) (HG : Hid (∀ u, Ext V u → Calls Try.prog 36 #[.slice fa fn fc] u fun e w' => ∃ a' c', e = .returned (.slice a' fn c') ∧ w'.ownsRow u.heap.size 28 2 (.slice a' fn c') fn (flat 2 spC L) ∧ Ext u w')) (HN : Hid (∀ u, Ext V u → Calls Try.prog 29 #[.slice na n0 nc] u fun e w' => ∃ a' c', e = .returned (.slice a' n0 c') ∧ w'.ownsRow u.heap.size 3 1 (.slice a' n0 c') n0 (intsV nl) ∧ Ext u w')) (hl3 : nl.length = n0) (hi0 : i < n0) (hm0 : n0 ≤ 40)
    (HQ : Hid (∀ (t : Array Value) (a1 : Option Addr) (c1 g2 c2 xB : Nat) (W : World), t = frB33 rB fB k i ln lc q xB la (fun j => t.getD j undef) → c2 ≤ maxLen → Hid (Mm V [⟨28, 2, .slice a1 fn c1, fn, flat 2 spC L⟩, ⟨3, 1, .slice (some ⟨g2, 0, none⟩) (n0 - 1) c2, n0 - 1, intsV (nl.eraseIdx i)⟩] [(xB, .cells #[.slice a1 fn c1, .slice (some ⟨g2, 0, none⟩) (n0 - 1) c2] 66)] W) → Q .normal ⟨t, []⟩ W)) :
    Code.wp Try.prog reg9_30 Q ⟨t, []⟩ V := by
  have HL3 := Lib.hid hl3
  have HDel : Hid (∀ (W : World) (g c : Nat), RowI W g nl c → c ≤ maxLen → Calls Try.prog 28 #[.slice (some ⟨g, 0, none⟩) n0 c, .int .i64 (i : Int), .int .i64 ((i : Int) + 1)] W fun e w' => e = .returned (.slice (some ⟨g, 0, none⟩) (n0 - 1) c) ∧ (V.heap.size ≤ g → c ≤ maxLen → w'.ownsRow V.heap.size 3 1 (.slice (some ⟨g, 0, none⟩) (n0 - 1) c) (n0 - 1) (intsV (nl.eraseIdx i))) ∧ Keep (fun b => b ≠ g) W w') := fun W g c hr hc => by
    have h := delete_keepI g c i nl W hr (by omega) hc (by omega)
    have e : (nl.eraseIdx i).length = n0 - 1 := by rw [List.length_eraseIdx, if_pos (by omega), hl3]
    rw [hl3] at h
    refine h.mono ?_
    rintro e' w' ⟨he, h1, h2⟩
    rw [e] at he
    refine ⟨he, fun hb hc' => ?_, h2⟩
    have q := h1.own hb hc'
    rw [e] at q
    exact q
  have hwi : IntKind.i64.wrap ((i : Int) + 1) = (i : Int) + 1 := IntWalk.i64_in _ (by omega)
  have hn0 : 0 < n0 := by omega
  clear hl3 hi0 hm0
  rw [ht]
  generalize (fun j => t.getD j undef) = X at *
  clear ht t
  conv => arg 2; whnf
  conv => arg 4; dsimp only [frB30]
  have H0 : Hid (Mm V [] [] V.drew) := Mm.start.ext (Ext.refl V).drew
  refine wp_region_noPanic ?_
  refine wp_region_last [] (fun u => u.cell? ⟨fB, 0, none⟩ = some (.slice fa fn fc) ∧ u.cell? ⟨fB, 1, none⟩ = some (.slice na n0 nc)) (by kernel_rfl) (HF.out _ H0.out.to_ext) (fun hHeld => ?_)
  generalize V.drew = V0 at *
  refine wpAnyF_take [1, 2, 5, 9, 10, 12] (i := 0) (v := ?_) rfl (by kernel_rfl) (by kernel_rfl) (by kernel_rfl) (by kernel_rfl) (fun _ _ _ h => h) (Or.inl ⟨by rfl, ?_⟩) (by assumption) ?_
  rotate_left
  · intro wS hSw
    (try dsimp only at hSw)
    go_simp
    try with_reducible rfl
  try simp only [Act.put, List.setIfInBounds_toArray]
  refine wpAnyF_take [2, 5, 9, 10, 12] (i := 1) (v := ?_) rfl (by kernel_rfl) (by kernel_rfl) (by kernel_rfl) (by kernel_rfl) (fun _ _ _ h => h) (Or.inl ⟨by rfl, ?_⟩) (by assumption) ?_
  rotate_left
  · intro wS hSw
    (try dsimp only at hSw)
    go_simp
    try with_reducible rfl
  try simp only [Act.put]
  refine wpAnyF_take [4, 5, 9, 10, 12] (i := 3) (v := ?_) rfl (by kernel_rfl) (by kernel_rfl) (by kernel_rfl) (by kernel_rfl) (fun _ _ _ h => h) (Or.inl ⟨by rfl, ?_⟩) (by assumption) ?_
  rotate_left
  · intro wS hSw
    (try dsimp only at hSw)
    go_simp
    try with_reducible rfl
  try simp only [Act.put]
  refine wpAnyF_take [5, 9, 10, 12] (i := 4) (v := ?_) rfl (by kernel_rfl) (by kernel_rfl) (by kernel_rfl) (by kernel_rfl) (fun _ _ _ h => h) (Or.inl ⟨by rfl, ?_⟩) (by assumption) ?_
  rotate_left
  · intro wS hSw
    (try dsimp only at hSw)
    go_simp
    try with_reducible rfl
  try simp only [Act.put]
  refine wpAnyF_take [9, 10, 12] (i := 6) (v := ?_) rfl (by kernel_rfl) (by kernel_rfl) (by kernel_rfl) (by kernel_rfl) (fun _ _ _ h => h) (Or.inl ⟨by rfl, ?_⟩) (by assumption) ?_
  rotate_left
  · intro wS hSw
    (try dsimp only at hSw)
    go_simp
    try with_reducible rfl
  try simp only [Act.put]
  refine wpAnyF_take [8, 9, 10, 12] (i := 7) (v := ?_) rfl (by kernel_rfl) (by kernel_rfl) (by kernel_rfl) (by kernel_rfl) (fun _ _ _ h => h) (Or.inl ⟨by rfl, ?_⟩) (by assumption) ?_
  rotate_left
  · intro wS hSw
    (try dsimp only at hSw)
    go_simp
    try with_reducible rfl
  try simp only [Act.put]
  refine wpAnyF_take [9, 10, 12] (i := 8) (v := ?_) rfl (by kernel_rfl) (by kernel_rfl) (by kernel_rfl) (by kernel_rfl) (fun _ _ _ h => h) (Or.inl ⟨by rfl, ?_⟩) (by assumption) ?_
  rotate_left
  · intro wS hSw
    (try dsimp only at hSw)
    go_simp
    try with_reducible rfl
  try simp only [Act.put]
  refine wpAnyF_ready (rs := [2, 11]) (by kernel_rfl) rfl (AllReadyF.cons rfl (fun K hK => ?_) (AllReadyF.cons rfl (fun K hK => ?_) AllReadyF.nil))
  · -- 2
    go_simp
    go_at_call 36
    refine (HG.out _ H0.out.to_ext).mono ?_
    rintro e V1 ⟨a1, c1, rfl, ho, hx⟩
    have H2 := Lib.hid (H0.out.addRow hx ho)
    clear H0 ho hx
    refine hK.out _ _ (HF.out _ H2.out.to_ext) (fun hHeld => ?_)
    clear hK K
    try simp only [Act.put, List.setIfInBounds_toArray, List.set_cons_zero, List.set_cons_succ]
    refine wpAnyF_ready (rs := [5, 11]) (by kernel_rfl) rfl (AllReadyF.cons rfl (fun K hK => ?_) (AllReadyF.cons rfl (fun K hK => ?_) AllReadyF.nil))
    · -- 5
      go_simp
      go_at_call 29
      refine (HN.out _ H2.out.to_ext).mono ?_
      rintro e V3 ⟨a2, c2, rfl, ho, hx⟩
      have H4 := Lib.hid (H2.out.addRow hx ho)
      clear H2 ho hx
      obtain ⟨g2, rfl, hg2, hc2⟩ := own_place (H4.out.row 1 _ rfl) hn0
      have HG2 : Hid (V.heap.size ≤ g2 ∧ c2 ≤ maxLen) := ⟨hg2, hc2⟩
      clear hg2 hc2
      refine hK.out _ _ (HF.out _ H4.out.to_ext) (fun hHeld => ?_)
      clear hK K
      try simp only [Act.put, List.setIfInBounds_toArray, List.set_cons_zero, List.set_cons_succ]
      refine wpAnyF_ready (rs := [9, 11]) (by kernel_rfl) rfl (AllReadyF.cons rfl (fun K hK => ?_) (AllReadyF.cons rfl (fun K hK => ?_) AllReadyF.nil))
      · -- 9
        go_simp
        go_at_call 28
        have hri : RowI V3 g2 nl c2 := by
          have h := H4.out.row 1 _ rfl
          dsimp only at h
          rw [← HL3.out] at h
          exact (RowI.of_own h).1
        refine (HDel.out V3 g2 c2 hri HG2.out.2).mono ?_
        rintro e V5 ⟨rfl, hrd, hkd⟩
        have H6 := Lib.hid (H4.out.turned (i := 1) rfl (hkd.mono (fun b _ h e => h (by subst e; rfl))) (hrd HG2.out.1 HG2.out.2) (fun b h => .inl h))
        clear H4 hrd hkd hri
        refine hK.out _ _ (HF.out _ H6.out.to_ext) (fun hHeld => ?_)
        clear hK K
        try simp only [Act.put, List.setIfInBounds_toArray, List.set_cons_zero, List.set_cons_succ]
        refine wpAnyF_take [12] (i := 10) (v := ?_) rfl (by kernel_rfl) (by kernel_rfl) (by kernel_rfl) (by kernel_rfl) (fun _ _ _ h => h) (Or.inl ⟨by rfl, ?_⟩) (by assumption) ?_
        rotate_left
        · intro wS hSw
          (try dsimp only at hSw)
          go_simp
          try with_reducible rfl
        try simp only [Act.put, List.setIfInBounds_toArray]
        refine wpAnyF_ready (rs := [11]) (by kernel_rfl) rfl (AllReadyF.cons rfl (fun K hK => ?_) AllReadyF.nil)
        go_simp
        have H8 := Lib.hid (H6.out.new (.cells #[.slice none 0 0, .slice none 0 0] 66))
        clear H6
        generalize hz : V5.heap.size = xB at *
        clear hz
        generalize hw : V5.alloc _ = V7 at *
        clear hw
        refine hK.out _ _ (HF.out _ H8.out.to_ext) (fun hHeld => ?_)
        clear hK K
        try simp only [Act.put, List.setIfInBounds_toArray, List.set_cons_zero, List.set_cons_succ]
        refine wpAnyF_ready (rs := [12]) (by kernel_rfl) rfl (AllReadyF.cons rfl (fun K hK => ?_) AllReadyF.nil)
        have y0 := H8.out.cell 0 (j := 0) rfl rfl
        have y1 := H8.out.cell 0 (j := 1) rfl rfl
        have z0 := H8.out.frozen 0 (j := 0) rfl
        have z1 := H8.out.frozen 0 (j := 1) rfl
        go_simp
        have H10 := Lib.hid ((H8.out.cellPut (j := 0) 0 rfl (.slice a1 fn c1)).cellPut (j := 1) 0 rfl (.slice (some ⟨g2, 0, none⟩) (n0 - 1) c2))
        clear H8 y0 y1 z0 z1
        generalize (V7.setCell ⟨xB, 0, none⟩ (.slice a1 fn c1)).setCell ⟨xB, 1, none⟩ (.slice (some ⟨g2, 0, none⟩) (n0 - 1) c2) = V9 at *
        refine hK.out _ _ (HF.out _ H10.out.to_ext) (fun hHeld => ?_)
        clear hK K
        try simp only [Act.put, List.setIfInBounds_toArray, List.set_cons_zero, List.set_cons_succ]
        refine wpAnyF_done (by kernel_rfl) ?_
        exact HQ.out _ a1 c1 g2 c2 xB _ rfl HG2.out.2 H10
      · -- 11
        go_simp
        have H6 := Lib.hid (H4.out.new (.cells #[.slice none 0 0, .slice none 0 0] 66))
        clear H4
        generalize hz : V3.heap.size = xB at *
        clear hz
        generalize hw : V3.alloc _ = V5 at *
        clear hw
        refine hK.out _ _ (HF.out _ H6.out.to_ext) (fun hHeld => ?_)
        clear hK K
        try simp only [Act.put, List.setIfInBounds_toArray, List.set_cons_zero, List.set_cons_succ]
        refine wpAnyF_ready (rs := [9]) (by kernel_rfl) rfl (AllReadyF.cons rfl (fun K hK => ?_) AllReadyF.nil)
        go_simp
        go_at_call 28
        have hri : RowI V5 g2 nl c2 := by
          have h := H6.out.row 1 _ rfl
          dsimp only at h
          rw [← HL3.out] at h
          exact (RowI.of_own h).1
        refine (HDel.out V5 g2 c2 hri HG2.out.2).mono ?_
        rintro e V7 ⟨rfl, hrd, hkd⟩
        have H8 := Lib.hid (H6.out.turned (i := 1) rfl (hkd.mono (fun b _ h e => h (by subst e; rfl))) (hrd HG2.out.1 HG2.out.2) (fun b h => .inl h))
        clear H6 hrd hkd hri
        refine hK.out _ _ (HF.out _ H8.out.to_ext) (fun hHeld => ?_)
        clear hK K
        try simp only [Act.put, List.setIfInBounds_toArray, List.set_cons_zero, List.set_cons_succ]
        refine wpAnyF_take [12] (i := 10) (v := ?_) rfl (by kernel_rfl) (by kernel_rfl) (by kernel_rfl) (by kernel_rfl) (fun _ _ _ h => h) (Or.inl ⟨by rfl, ?_⟩) (by assumption) ?_
        rotate_left
        · intro wS hSw
          (try dsimp only at hSw)
          go_simp
          try with_reducible rfl
        try simp only [Act.put, List.setIfInBounds_toArray]
        refine wpAnyF_ready (rs := [12]) (by kernel_rfl) rfl (AllReadyF.cons rfl (fun K hK => ?_) AllReadyF.nil)
        have y0 := H8.out.cell 0 (j := 0) rfl rfl
        have y1 := H8.out.cell 0 (j := 1) rfl rfl
        have z0 := H8.out.frozen 0 (j := 0) rfl
        have z1 := H8.out.frozen 0 (j := 1) rfl
        go_simp
        have H10 := Lib.hid ((H8.out.cellPut (j := 0) 0 rfl (.slice a1 fn c1)).cellPut (j := 1) 0 rfl (.slice (some ⟨g2, 0, none⟩) (n0 - 1) c2))
        clear H8 y0 y1 z0 z1
        generalize (V7.setCell ⟨xB, 0, none⟩ (.slice a1 fn c1)).setCell ⟨xB, 1, none⟩ (.slice (some ⟨g2, 0, none⟩) (n0 - 1) c2) = V9 at *
        refine hK.out _ _ (HF.out _ H10.out.to_ext) (fun hHeld => ?_)
        clear hK K
        try simp only [Act.put, List.setIfInBounds_toArray, List.set_cons_zero, List.set_cons_succ]
        refine wpAnyF_done (by kernel_rfl) ?_
        exact HQ.out _ a1 c1 g2 c2 xB _ rfl HG2.out.2 H10
    · -- 11
      go_simp
      have H4 := Lib.hid (H2.out.new (.cells #[.slice none 0 0, .slice none 0 0] 66))
      clear H2
      generalize hz : V1.heap.size = xB at *
      clear hz
      generalize hw : V1.alloc _ = V3 at *
      clear hw
      refine hK.out _ _ (HF.out _ H4.out.to_ext) (fun hHeld => ?_)
      clear hK K
      try simp only [Act.put, List.setIfInBounds_toArray, List.set_cons_zero, List.set_cons_succ]
      refine wpAnyF_ready (rs := [5]) (by kernel_rfl) rfl (AllReadyF.cons rfl (fun K hK => ?_) AllReadyF.nil)
      go_simp
      go_at_call 29
      refine (HN.out _ H4.out.to_ext).mono ?_
      rintro e V5 ⟨a2, c2, rfl, ho, hx⟩
      have H6 := Lib.hid (H4.out.addRow hx ho)
      clear H4 ho hx
      obtain ⟨g2, rfl, hg2, hc2⟩ := own_place (H6.out.row 1 _ rfl) hn0
      have HG2 : Hid (V.heap.size ≤ g2 ∧ c2 ≤ maxLen) := ⟨hg2, hc2⟩
      clear hg2 hc2
      refine hK.out _ _ (HF.out _ H6.out.to_ext) (fun hHeld => ?_)
      clear hK K
      try simp only [Act.put, List.setIfInBounds_toArray, List.set_cons_zero, List.set_cons_succ]
      refine wpAnyF_ready (rs := [9]) (by kernel_rfl) rfl (AllReadyF.cons rfl (fun K hK => ?_) AllReadyF.nil)
      go_simp
      go_at_call 28
      have hri : RowI V5 g2 nl c2 := by
        have h := H6.out.row 1 _ rfl
        dsimp only at h
        rw [← HL3.out] at h
        exact (RowI.of_own h).1
      refine (HDel.out V5 g2 c2 hri HG2.out.2).mono ?_
      rintro e V7 ⟨rfl, hrd, hkd⟩
      have H8 := Lib.hid (H6.out.turned (i := 1) rfl (hkd.mono (fun b _ h e => h (by subst e; rfl))) (hrd HG2.out.1 HG2.out.2) (fun b h => .inl h))
      clear H6 hrd hkd hri
      refine hK.out _ _ (HF.out _ H8.out.to_ext) (fun hHeld => ?_)
      clear hK K
      try simp only [Act.put, List.setIfInBounds_toArray, List.set_cons_zero, List.set_cons_succ]
      refine wpAnyF_take [12] (i := 10) (v := ?_) rfl (by kernel_rfl) (by kernel_rfl) (by kernel_rfl) (by kernel_rfl) (fun _ _ _ h => h) (Or.inl ⟨by rfl, ?_⟩) (by assumption) ?_
      rotate_left
      · intro wS hSw
        (try dsimp only at hSw)
        go_simp
        try with_reducible rfl
      try simp only [Act.put, List.setIfInBounds_toArray]
      refine wpAnyF_ready (rs := [12]) (by kernel_rfl) rfl (AllReadyF.cons rfl (fun K hK => ?_) AllReadyF.nil)
      have y0 := H8.out.cell 0 (j := 0) rfl rfl
      have y1 := H8.out.cell 0 (j := 1) rfl rfl
      have z0 := H8.out.frozen 0 (j := 0) rfl
      have z1 := H8.out.frozen 0 (j := 1) rfl
      go_simp
      have H10 := Lib.hid ((H8.out.cellPut (j := 0) 0 rfl (.slice a1 fn c1)).cellPut (j := 1) 0 rfl (.slice (some ⟨g2, 0, none⟩) (n0 - 1) c2))
      clear H8 y0 y1 z0 z1
      generalize (V7.setCell ⟨xB, 0, none⟩ (.slice a1 fn c1)).setCell ⟨xB, 1, none⟩ (.slice (some ⟨g2, 0, none⟩) (n0 - 1) c2) = V9 at *
      refine hK.out _ _ (HF.out _ H10.out.to_ext) (fun hHeld => ?_)
      clear hK K
      try simp only [Act.put, List.setIfInBounds_toArray, List.set_cons_zero, List.set_cons_succ]
      refine wpAnyF_done (by kernel_rfl) ?_
      exact HQ.out _ a1 c1 g2 c2 xB _ rfl HG2.out.2 H10
  · -- 11
    go_simp
    have H2 := Lib.hid (H0.out.new (.cells #[.slice none 0 0, .slice none 0 0] 66))
    clear H0
    generalize hz : V0.heap.size = xB at *
    clear hz
    generalize hw : V0.alloc _ = V1 at *
    clear hw
    refine hK.out _ _ (HF.out _ H2.out.to_ext) (fun hHeld => ?_)
    clear hK K
    try simp only [Act.put, List.setIfInBounds_toArray, List.set_cons_zero, List.set_cons_succ]
    refine wpAnyF_ready (rs := [2]) (by kernel_rfl) rfl (AllReadyF.cons rfl (fun K hK => ?_) AllReadyF.nil)
    go_simp
    go_at_call 36
    refine (HG.out _ H2.out.to_ext).mono ?_
    rintro e V3 ⟨a1, c1, rfl, ho, hx⟩
    have H4 := Lib.hid (H2.out.addRow hx ho)
    clear H2 ho hx
    refine hK.out _ _ (HF.out _ H4.out.to_ext) (fun hHeld => ?_)
    clear hK K
    try simp only [Act.put, List.setIfInBounds_toArray, List.set_cons_zero, List.set_cons_succ]
    refine wpAnyF_ready (rs := [5]) (by kernel_rfl) rfl (AllReadyF.cons rfl (fun K hK => ?_) AllReadyF.nil)
    go_simp
    go_at_call 29
    refine (HN.out _ H4.out.to_ext).mono ?_
    rintro e V5 ⟨a2, c2, rfl, ho, hx⟩
    have H6 := Lib.hid (H4.out.addRow hx ho)
    clear H4 ho hx
    obtain ⟨g2, rfl, hg2, hc2⟩ := own_place (H6.out.row 1 _ rfl) hn0
    have HG2 : Hid (V.heap.size ≤ g2 ∧ c2 ≤ maxLen) := ⟨hg2, hc2⟩
    clear hg2 hc2
    refine hK.out _ _ (HF.out _ H6.out.to_ext) (fun hHeld => ?_)
    clear hK K
    try simp only [Act.put, List.setIfInBounds_toArray, List.set_cons_zero, List.set_cons_succ]
    refine wpAnyF_ready (rs := [9]) (by kernel_rfl) rfl (AllReadyF.cons rfl (fun K hK => ?_) AllReadyF.nil)
    go_simp
    go_at_call 28
    have hri : RowI V5 g2 nl c2 := by
      have h := H6.out.row 1 _ rfl
      dsimp only at h
      rw [← HL3.out] at h
      exact (RowI.of_own h).1
    refine (HDel.out V5 g2 c2 hri HG2.out.2).mono ?_
    rintro e V7 ⟨rfl, hrd, hkd⟩
    have H8 := Lib.hid (H6.out.turned (i := 1) rfl (hkd.mono (fun b _ h e => h (by subst e; rfl))) (hrd HG2.out.1 HG2.out.2) (fun b h => .inl h))
    clear H6 hrd hkd hri
    refine hK.out _ _ (HF.out _ H8.out.to_ext) (fun hHeld => ?_)
    clear hK K
    try simp only [Act.put, List.setIfInBounds_toArray, List.set_cons_zero, List.set_cons_succ]
    refine wpAnyF_take [12] (i := 10) (v := ?_) rfl (by kernel_rfl) (by kernel_rfl) (by kernel_rfl) (by kernel_rfl) (fun _ _ _ h => h) (Or.inl ⟨by rfl, ?_⟩) (by assumption) ?_
    rotate_left
    · intro wS hSw
      (try dsimp only at hSw)
      go_simp
      try with_reducible rfl
    try simp only [Act.put, List.setIfInBounds_toArray]
    refine wpAnyF_ready (rs := [12]) (by kernel_rfl) rfl (AllReadyF.cons rfl (fun K hK => ?_) AllReadyF.nil)
    have y0 := H8.out.cell 0 (j := 0) rfl rfl
    have y1 := H8.out.cell 0 (j := 1) rfl rfl
    have z0 := H8.out.frozen 0 (j := 0) rfl
    have z1 := H8.out.frozen 0 (j := 1) rfl
    go_simp
    have H10 := Lib.hid ((H8.out.cellPut (j := 0) 0 rfl (.slice a1 fn c1)).cellPut (j := 1) 0 rfl (.slice (some ⟨g2, 0, none⟩) (n0 - 1) c2))
    clear H8 y0 y1 z0 z1
    generalize (V7.setCell ⟨xB, 0, none⟩ (.slice a1 fn c1)).setCell ⟨xB, 1, none⟩ (.slice (some ⟨g2, 0, none⟩) (n0 - 1) c2) = V9 at *
    refine hK.out _ _ (HF.out _ H10.out.to_ext) (fun hHeld => ?_)
    clear hK K
    try simp only [Act.put, List.setIfInBounds_toArray, List.set_cons_zero, List.set_cons_succ]
    refine wpAnyF_done (by kernel_rfl) ?_
    exact HQ.out _ a1 c1 g2 c2 xB _ rfl HG2.out.2 H10
end Go.Proofs.Ytfognlealnhodaa
