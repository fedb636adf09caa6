/-
  The region of Made that appends a place, its span and its true height, whichever order is drawn: what it leaves. The three lists must lie in memory of their own, apart.
-/
import Derived.Test.YtfognlealnhodaaMA
import Derived.RegionTactic
import Derived.Deep.CutBlock
import Derived.Test.YtfognlealnhodaaFO
import Derived.Deep.RegionHeld3
namespace Go.Proofs.Ytfognlealnhodaa
open Go.RowKit

/-- A region by its number. -/
def regA (n : Nat) : Code → Option Code
  | .region k o d => if k = n then some (.region k o d) else none
  | .seq a b => match regA n a with | some c => some c | none => regA n b
  | .cond _ a b => match regA n a with | some c => some c | none => regA n b
  | .block _ c => regA n c
  | .loop c => regA n c
  | .scope c => regA n c
  | _ => none
noncomputable def reg11_12 : Code := ((Try.f11.body.bind (regA 12)).getD .skip)
def slN (n : Nat) : Nat := if n ≤ 13 then 48 + n else if n = 14 then 62 else if n = 16 then 63 else 9
/-- The slots at the region. -/
def fr12 (q : R12) (D most R cnt ix : Nat) (X x : Nat → Value) : Array Value := #[.pointer (some ⟨D, 0, none⟩), .int .i64 (most : Int), X 2, X 3, .pointer (some ⟨R, 0, none⟩), .slice none 0 0, .pointer (some ⟨q.p, 0, none⟩), X 7, .int .i64 (q.at' : Int), x 18, .int .i64 (q.h : Int), .pointer (some ⟨q.sB, 0, none⟩), X 12, X 13, X 14, X 15, X 16, X 17, X 18, X 19, X 20, X 21, X 22, X 23, X 24, X 25, X 26, X 27, .int .i64 (cnt : Int), .int .i64 (ix : Int), X 30, X 31, X 32, X 33, X 34, X 35, X 36, X 37, X 38, X 39, X 40, X 41, X 42, X 43, X 44, X 45, X 46, X 47, x 0, x 1, x 2, x 3, x 4, x 5, x 6, x 7, x 8, x 9, x 10, x 11, x 12, x 13, x 14, x 16, X 64, X 65, X 66, X 67, X 68, X 69, X 70]

set_option maxRecDepth 1000000 in
set_option maxHeartbeats 16000000 in
theorem made_r12 (q : R12) (D most R cnt ix : Nat) (t : Array Value) (v : World) (Q : Exit → Act → World → Prop) (ht : t = fr12 q D most R cnt ix (fun i => t.getD i undef) (fun n => t.getD (slN n) undef)) (h9 : t.getD 9 undef = .slice q.T.a q.T.l.length q.T.c)
    (hp : q.p < q.n0) (hsz : q.n0 ≤ v.heap.size) (hbox : v.heap[q.p]? = some (.cells #[.slice q.A.a q.A.l.length q.A.c, .slice q.G.a q.G.l.length q.G.c, .int .i64 (q.T0 : Int), .int .i64 (q.B0 : Int), .int .i64 (q.B1 : Int)] 30 (0, 0)))
    (hsb : v.heap[q.sB]? = some (.cells #[.int .i64 (q.lo : Int), .int .i64 (q.hi : Int)] 28 (0, 0))) (hA : v.ownsRow q.n0 3 1 q.A.v q.A.l.length (nums q.A.l)) (hG : v.ownsRow q.n0 28 2 q.G.v q.G.l.length (flat 2 spC q.G.l)) (hT : v.ownsRow q.n0 3 1 q.T.v q.T.l.length (nums q.T.l))
    (hap : ∀ k, q.A.v.ownBlock = some k → q.T.v.ownBlock ≠ some k) (hl : q.A.l.length ≤ 1000 ∧ q.G.l.length ≤ 1000 ∧ q.T.l.length ≤ 1000)
    (HQ : Hid (∀ (X x : Nat → Value) (W : World) (L : Nat → Prop), (∀ i, i < 19 → L i) → I12 q v L x W → Q .normal ⟨fr12 q D most R cnt ix X x, []⟩ W)) :
    Code.wp Try.prog reg11_12 Q ⟨t, []⟩ v := by
  obtain ⟨i3, hi3, hz3, hs3, hb3⟩ := info_parts info3
  obtain ⟨i28, hi28, hz⟩ := Option.map_eq_some_iff.1 info28c
  simp only [Prod.mk.injEq] at hz
  obtain ⟨hz28, hs28, hb28⟩ := hz
  have HIn : Hid (I12 q v (fun _ => False) (fun n => t.getD (slN n) undef) v.drew ∧ (fun n => t.getD (slN n) undef) 18 = .slice q.T.a q.T.l.length q.T.c) := by
    refine ⟨⟨fun _ _ h => h.elim, (Keep.refl _ v).drew, hsz, ⟨_, _, hbox, fun _ => rfl, fun h => h.elim, fun _ => rfl, fun h => h.elim⟩, fun _ => hsb, fun h => h.elim, fun h => h.elim, fun h => h.elim, fun _ => own_ext hA (Ext.refl v).drew, fun h => h.elim, fun _ => own_ext hG (Ext.refl v).drew, fun h => h.elim, fun _ => own_ext hT (Ext.refl v).drew, fun h => h.elim, fun h => h.elim⟩, h9⟩
  have HT9 : Hid (t = fr12 q D most R cnt ix (fun i => t.getD i undef) (fun n => t.getD (slN n) undef)) := ht
  have HP := Lib.hid hp
  have HAp := Lib.hid hap
  have HL := Lib.hid hl
  clear hp hsz hbox hsb hA hG hT hap hl h9 ht
  conv => arg 2; whnf
  refine wp_region_inv2 (by kernel_rfl) (by kernel_rfl) (fun L a w => ∃ (X x : Nat → Value), a = ⟨fr12 q D most R cnt ix X x, []⟩ ∧ I12 q v L x w ∧ (¬ L 18 → x 18 = .slice q.T.a q.T.l.length q.T.c)) ?_ ?_ ?_
  · exact ⟨_, _, congrArg (fun z => Act.mk z []) HT9.out, HIn.out.1, fun _ => HIn.out.2⟩
  · rintro L b V i o ⟨X, x, rfl, hI, hx18⟩ hcl hn ho hwait
    have hi : i < 19 := (Array.getElem?_eq_some_iff.1 ho).1
    have HI := Lib.hid hI
    have HX18 := Lib.hid hx18
    have HNo := Lib.hid hn
    have HCl := Lib.hid hcl
    clear hI hn hcl hx18 HIn HT9 HQ
    obtain rfl | rfl | rfl | rfl | rfl | rfl | rfl | rfl | rfl | rfl | rfl | rfl | rfl | rfl | rfl | rfl | rfl | rfl | rfl : i = 0 ∨ i = 1 ∨ i = 2 ∨ i = 3 ∨ i = 4 ∨ i = 5 ∨ i = 6 ∨ i = 7 ∨ i = 8 ∨ i = 9 ∨ i = 10 ∨ i = 11 ∨ i = 12 ∨ i = 13 ∨ i = 14 ∨ i = 15 ∨ i = 16 ∨ i = 17 ∨ i = 18 := by omega
    all_goals (simp only [List.getElem?_toArray, List.getElem?_cons_zero, List.getElem?_cons_succ, Option.some.injEq] at ho)
    all_goals (dsimp only [fr12])
    · subst ho
      have N0 : Hid (¬ L 0) := HNo.out
      have N1 : Hid (¬ L 1) := fun h => N0.out (HCl.out 1 _ h rfl { on := 0, ground := Ground.data } (by simp) rfl)
      have N4 : Hid (¬ L 4) := fun h => N1.out (HCl.out 4 _ h rfl { on := 1, ground := Ground.data } (by simp) rfl)
      have N9 : Hid (¬ L 9) := fun h => N4.out (HCl.out 9 _ h rfl { on := 4, ground := Ground.chain } (by simp) rfl)
      have N13 : Hid (¬ L 13) := fun h => N9.out (HCl.out 13 _ h rfl { on := 9, ground := Ground.chain } (by simp) rfl)
      have N15 : Hid (¬ L 15) := fun h => N13.out (HCl.out 15 _ h rfl { on := 13, ground := Ground.chain } (by simp) rfl)
      have N17 : Hid (¬ L 17) := fun h => N15.out (HCl.out 17 _ h rfl { on := 15, ground := Ground.chain } (by simp) rfl)
      have N18 : Hid (¬ L 18) := fun h => N17.out (HCl.out 18 _ h rfl { on := 17, ground := Ground.chain } (by simp) rfl)
      clear hwait
      refine wpOp_step rfl (fun K' hK => ?_)
      have HKK := Lib.hid hK
      clear hK
      go_simp
      refine HKK.out _ _ ⟨X, updV x 0 (simE q 0), rfl, ?_⟩
      exact ⟨HI.out.simple 0 (by unfold smp; omega), fun h => by rw [updV_other (by omega)]; exact HX18.out (fun hh => h (.inr hh))⟩
    · subst ho
      have N1 : Hid (¬ L 1) := HNo.out
      have N4 : Hid (¬ L 4) := fun h => N1.out (HCl.out 4 _ h rfl { on := 1, ground := Ground.data } (by simp) rfl)
      have N9 : Hid (¬ L 9) := fun h => N4.out (HCl.out 9 _ h rfl { on := 4, ground := Ground.chain } (by simp) rfl)
      have N13 : Hid (¬ L 13) := fun h => N9.out (HCl.out 13 _ h rfl { on := 9, ground := Ground.chain } (by simp) rfl)
      have N15 : Hid (¬ L 15) := fun h => N13.out (HCl.out 15 _ h rfl { on := 13, ground := Ground.chain } (by simp) rfl)
      have N17 : Hid (¬ L 17) := fun h => N15.out (HCl.out 17 _ h rfl { on := 15, ground := Ground.chain } (by simp) rfl)
      have N18 : Hid (¬ L 18) := fun h => N17.out (HCl.out 18 _ h rfl { on := 17, ground := Ground.chain } (by simp) rfl)
      have l0 : Hid (L 0) := hwait { on := 0, ground := Ground.data } (by simp) rfl
      clear hwait
      have e0 : x 0 = .pointer (some ⟨q.p, 0, none⟩) := HI.out.sim 0 (by unfold smp; omega) l0.out
      have E0 := Lib.hid e0
      refine wpOp_step rfl (fun K' hK => ?_)
      have HKK := Lib.hid hK
      clear hK
      obtain ⟨u0, u1, hbx, k1, -, k3, -⟩ := HI.out.box
      have y0 : V.cell? ⟨q.p, 0, none⟩ = some (.slice q.A.a q.A.l.length q.A.c) := by rw [cell_at hbx, ← k1 N15.out]; rfl
      clear hbx k1 k3
      rw [e0]
      clear e0
      go_simp
      refine HKK.out _ _ ⟨X, updV (updV x 0 (.pointer (some ⟨q.p, 0, none⟩))) 1 (simE q 1), rfl, ?_⟩
      rw [updV_self E0.out]
      exact ⟨HI.out.simple 1 (by unfold smp; omega), fun h => by rw [updV_other (by omega)]; exact HX18.out (fun hh => h (.inr hh))⟩
    · subst ho
      have N2 : Hid (¬ L 2) := HNo.out
      have N3 : Hid (¬ L 3) := fun h => N2.out (HCl.out 3 _ h rfl { on := 2, ground := Ground.data } (by simp) rfl)
      have N4 : Hid (¬ L 4) := fun h => N3.out (HCl.out 4 _ h rfl { on := 3, ground := Ground.data } (by simp) rfl)
      have N9 : Hid (¬ L 9) := fun h => N4.out (HCl.out 9 _ h rfl { on := 4, ground := Ground.chain } (by simp) rfl)
      have N13 : Hid (¬ L 13) := fun h => N9.out (HCl.out 13 _ h rfl { on := 9, ground := Ground.chain } (by simp) rfl)
      have N15 : Hid (¬ L 15) := fun h => N13.out (HCl.out 15 _ h rfl { on := 13, ground := Ground.chain } (by simp) rfl)
      have N17 : Hid (¬ L 17) := fun h => N15.out (HCl.out 17 _ h rfl { on := 15, ground := Ground.chain } (by simp) rfl)
      have N18 : Hid (¬ L 18) := fun h => N17.out (HCl.out 18 _ h rfl { on := 17, ground := Ground.chain } (by simp) rfl)
      clear hwait
      refine wpOp_step rfl (fun K' hK => ?_)
      have HKK := Lib.hid hK
      clear hK
      go_simp
      refine HKK.out _ _ ⟨X, updV x 2 (simE q 2), rfl, ?_⟩
      exact ⟨HI.out.simple 2 (by unfold smp; omega), fun h => by rw [updV_other (by omega)]; exact HX18.out (fun hh => h (.inr hh))⟩
    · subst ho
      have N3 : Hid (¬ L 3) := HNo.out
      have N4 : Hid (¬ L 4) := fun h => N3.out (HCl.out 4 _ h rfl { on := 3, ground := Ground.data } (by simp) rfl)
      have N9 : Hid (¬ L 9) := fun h => N4.out (HCl.out 9 _ h rfl { on := 4, ground := Ground.chain } (by simp) rfl)
      have N13 : Hid (¬ L 13) := fun h => N9.out (HCl.out 13 _ h rfl { on := 9, ground := Ground.chain } (by simp) rfl)
      have N15 : Hid (¬ L 15) := fun h => N13.out (HCl.out 15 _ h rfl { on := 13, ground := Ground.chain } (by simp) rfl)
      have N17 : Hid (¬ L 17) := fun h => N15.out (HCl.out 17 _ h rfl { on := 15, ground := Ground.chain } (by simp) rfl)
      have N18 : Hid (¬ L 18) := fun h => N17.out (HCl.out 18 _ h rfl { on := 17, ground := Ground.chain } (by simp) rfl)
      have l2 : Hid (L 2) := hwait { on := 2, ground := Ground.data } (by simp) rfl
      clear hwait
      have e2 : x 2 = .int .i64 (q.at' : Int) := HI.out.sim 2 (by unfold smp; omega) l2.out
      have E2 := Lib.hid e2
      refine wpOp_step rfl (fun K' hK => ?_)
      have HKK := Lib.hid hK
      clear hK
      rw [e2]
      clear e2
      go_simp
      refine HKK.out _ _ ⟨X, updV (updV x 2 (.int .i64 (q.at' : Int))) 3 (.slice (some ⟨V.heap.size, 0, none⟩) 1 1), rfl, ?_⟩
      rw [updV_self E2.out]
      exact ⟨(HI.out.ext ((Ext.refl V).alloc (.cells (nums [q.at']).toArray 3))).mark 3 _ (by omega) (fun h => absurd h (by unfold smp; omega)) (fun _ => ⟨V.heap.size, rfl, World.alloc_heap_new _ _⟩) (fun e => absurd e (by omega)) (fun e => absurd e (by omega)), fun h => by rw [updV_other (by omega)]; exact HX18.out (fun hh => h (.inr hh))⟩
    · subst ho
      have N4 : Hid (¬ L 4) := HNo.out
      have N9 : Hid (¬ L 9) := fun h => N4.out (HCl.out 9 _ h rfl { on := 4, ground := Ground.chain } (by simp) rfl)
      have N13 : Hid (¬ L 13) := fun h => N9.out (HCl.out 13 _ h rfl { on := 9, ground := Ground.chain } (by simp) rfl)
      have N15 : Hid (¬ L 15) := fun h => N13.out (HCl.out 15 _ h rfl { on := 13, ground := Ground.chain } (by simp) rfl)
      have N17 : Hid (¬ L 17) := fun h => N15.out (HCl.out 17 _ h rfl { on := 15, ground := Ground.chain } (by simp) rfl)
      have N18 : Hid (¬ L 18) := fun h => N17.out (HCl.out 18 _ h rfl { on := 17, ground := Ground.chain } (by simp) rfl)
      have l1 : Hid (L 1) := hwait { on := 1, ground := Ground.data } (by simp) rfl
      have l3 : Hid (L 3) := hwait { on := 3, ground := Ground.data } (by simp) rfl
      clear hwait
      have e1 : x 1 = .slice q.A.a q.A.l.length q.A.c := HI.out.sim 1 (by unfold smp; omega) l1.out
      have E1 := Lib.hid e1
      refine wpOp_step rfl (fun K' hK => ?_)
      have HKK := Lib.hid hK
      clear hK
      have la : Hid (L 3) := l3
      obtain ⟨b, hb, hblk⟩ := HI.out.a3 la.out
      have hblk2 := hblk HNo.out
      have HBk := Lib.hid hblk2
      have EB := Lib.hid hb
      clear hblk hblk2
      rw [e1]
      clear e1
      rw [hb]
      clear hb
      have hown := HI.out.rA0 HNo.out
      have hln := HL.out
      refine step_append_lies _ rfl (.tmp 49) (.tmp 51) 25 rfl q.n0 3 i3 (.int .i64 0) 1 8 Try.underlying25 hi3 hz3 hs3 hb3 rfl (by decide) q.A.v q.A.l.length (nums q.A.l) ?_ hown ⟨b, 0, none⟩ 1 1 (nums [q.at']) ?_ rfl (World.news_of_block HBk.out) (nums_one _) (by decide) (by unfold maxLen; omega) (by omega) HI.out.big _ rfl ?_
      · rfl
      · rfl
      · intro g1 cap1 V2 hown2 hgrow hwh hgl
        refine HKK.out _ _ ⟨X, updV (updV (updV x 1 (.slice q.A.a q.A.l.length q.A.c)) 3 (.slice (some ⟨b, 0, none⟩) 1 1)) 4 (.slice (some ⟨g1, 0, none⟩) (q.A.l.length + 1) cap1), rfl, ?_⟩
        rw [updV_self E1.out, updV_self EB.out]
        rw [← nums_append] at hown2
        exact ⟨HI.out.app4 HP.out HAp.out N4.out N9.out N13.out N15.out N17.out N18.out hown2 hgrow hwh, fun h => by rw [updV_other (by omega)]; exact HX18.out (fun hh => h (.inr hh))⟩
    · subst ho
      have N5 : Hid (¬ L 5) := HNo.out
      have N6 : Hid (¬ L 6) := fun h => N5.out (HCl.out 6 _ h rfl { on := 5, ground := Ground.data } (by simp) rfl)
      have N9 : Hid (¬ L 9) := fun h => N6.out (HCl.out 9 _ h rfl { on := 6, ground := Ground.data } (by simp) rfl)
      have N13 : Hid (¬ L 13) := fun h => N9.out (HCl.out 13 _ h rfl { on := 9, ground := Ground.chain } (by simp) rfl)
      have N15 : Hid (¬ L 15) := fun h => N13.out (HCl.out 15 _ h rfl { on := 13, ground := Ground.chain } (by simp) rfl)
      have N17 : Hid (¬ L 17) := fun h => N15.out (HCl.out 17 _ h rfl { on := 15, ground := Ground.chain } (by simp) rfl)
      have N18 : Hid (¬ L 18) := fun h => N17.out (HCl.out 18 _ h rfl { on := 17, ground := Ground.chain } (by simp) rfl)
      clear hwait
      refine wpOp_step rfl (fun K' hK => ?_)
      have HKK := Lib.hid hK
      clear hK
      go_simp
      refine HKK.out _ _ ⟨X, updV x 5 (simE q 5), rfl, ?_⟩
      exact ⟨HI.out.simple 5 (by unfold smp; omega), fun h => by rw [updV_other (by omega)]; exact HX18.out (fun hh => h (.inr hh))⟩
    · subst ho
      have N6 : Hid (¬ L 6) := HNo.out
      have N9 : Hid (¬ L 9) := fun h => N6.out (HCl.out 9 _ h rfl { on := 6, ground := Ground.data } (by simp) rfl)
      have N13 : Hid (¬ L 13) := fun h => N9.out (HCl.out 13 _ h rfl { on := 9, ground := Ground.chain } (by simp) rfl)
      have N15 : Hid (¬ L 15) := fun h => N13.out (HCl.out 15 _ h rfl { on := 13, ground := Ground.chain } (by simp) rfl)
      have N17 : Hid (¬ L 17) := fun h => N15.out (HCl.out 17 _ h rfl { on := 15, ground := Ground.chain } (by simp) rfl)
      have N18 : Hid (¬ L 18) := fun h => N17.out (HCl.out 18 _ h rfl { on := 17, ground := Ground.chain } (by simp) rfl)
      have l5 : Hid (L 5) := hwait { on := 5, ground := Ground.data } (by simp) rfl
      clear hwait
      have e5 : x 5 = .pointer (some ⟨q.p, 1, none⟩) := HI.out.sim 5 (by unfold smp; omega) l5.out
      have E5 := Lib.hid e5
      refine wpOp_step rfl (fun K' hK => ?_)
      have HKK := Lib.hid hK
      clear hK
      obtain ⟨u0, u1, hbx, k1, -, k3, -⟩ := HI.out.box
      have y0 : V.cell? ⟨q.p, 1, none⟩ = some (.slice q.G.a q.G.l.length q.G.c) := by rw [cell_at hbx, ← k3 N17.out]; rfl
      clear hbx k1 k3
      rw [e5]
      clear e5
      go_simp
      refine HKK.out _ _ ⟨X, updV (updV x 5 (.pointer (some ⟨q.p, 1, none⟩))) 6 (simE q 6), rfl, ?_⟩
      rw [updV_self E5.out]
      exact ⟨HI.out.simple 6 (by unfold smp; omega), fun h => by rw [updV_other (by omega)]; exact HX18.out (fun hh => h (.inr hh))⟩
    · subst ho
      have N7 : Hid (¬ L 7) := HNo.out
      have N8 : Hid (¬ L 8) := fun h => N7.out (HCl.out 8 _ h rfl { on := 7, ground := Ground.data } (by simp) rfl)
      have N9 : Hid (¬ L 9) := fun h => N8.out (HCl.out 9 _ h rfl { on := 8, ground := Ground.data } (by simp) rfl)
      have N13 : Hid (¬ L 13) := fun h => N9.out (HCl.out 13 _ h rfl { on := 9, ground := Ground.chain } (by simp) rfl)
      have N15 : Hid (¬ L 15) := fun h => N13.out (HCl.out 15 _ h rfl { on := 13, ground := Ground.chain } (by simp) rfl)
      have N17 : Hid (¬ L 17) := fun h => N15.out (HCl.out 17 _ h rfl { on := 15, ground := Ground.chain } (by simp) rfl)
      have N18 : Hid (¬ L 18) := fun h => N17.out (HCl.out 18 _ h rfl { on := 17, ground := Ground.chain } (by simp) rfl)
      clear hwait
      refine wpOp_step rfl (fun K' hK => ?_)
      have HKK := Lib.hid hK
      clear hK
      obtain ⟨y0, y1, -, -⟩ := box2 (HI.out.sbx N9.out)
      go_simp
      refine HKK.out _ _ ⟨X, updV x 7 (simE q 7), rfl, ?_⟩
      exact ⟨HI.out.simple 7 (by unfold smp; omega), fun h => by rw [updV_other (by omega)]; exact HX18.out (fun hh => h (.inr hh))⟩
    · subst ho
      have N8 : Hid (¬ L 8) := HNo.out
      have N9 : Hid (¬ L 9) := fun h => N8.out (HCl.out 9 _ h rfl { on := 8, ground := Ground.data } (by simp) rfl)
      have N13 : Hid (¬ L 13) := fun h => N9.out (HCl.out 13 _ h rfl { on := 9, ground := Ground.chain } (by simp) rfl)
      have N15 : Hid (¬ L 15) := fun h => N13.out (HCl.out 15 _ h rfl { on := 13, ground := Ground.chain } (by simp) rfl)
      have N17 : Hid (¬ L 17) := fun h => N15.out (HCl.out 17 _ h rfl { on := 15, ground := Ground.chain } (by simp) rfl)
      have N18 : Hid (¬ L 18) := fun h => N17.out (HCl.out 18 _ h rfl { on := 17, ground := Ground.chain } (by simp) rfl)
      have l7 : Hid (L 7) := hwait { on := 7, ground := Ground.data } (by simp) rfl
      clear hwait
      have e7 : x 7 = .agg #[.int .i64 (q.lo : Int), .int .i64 (q.hi : Int)] := HI.out.sim 7 (by unfold smp; omega) l7.out
      have E7 := Lib.hid e7
      refine wpOp_step rfl (fun K' hK => ?_)
      have HKK := Lib.hid hK
      clear hK
      rw [e7]
      clear e7
      go_simp
      refine HKK.out _ _ ⟨X, updV (updV x 7 (.agg #[.int .i64 (q.lo : Int), .int .i64 (q.hi : Int)])) 8 (.slice (some ⟨V.heap.size, 0, none⟩) 1 1), rfl, ?_⟩
      rw [updV_self E7.out]
      exact ⟨(HI.out.ext ((Ext.refl V).alloc (.cells (flat 2 spC [(q.lo, q.hi)]).toArray 28))).mark 8 _ (by omega) (fun h => absurd h (by unfold smp; omega)) (fun e => absurd e (by omega)) (fun _ => ⟨V.heap.size, rfl, World.alloc_heap_new _ _⟩) (fun e => absurd e (by omega)), fun h => by rw [updV_other (by omega)]; exact HX18.out (fun hh => h (.inr hh))⟩
    · subst ho
      have N9 : Hid (¬ L 9) := HNo.out
      have N13 : Hid (¬ L 13) := fun h => N9.out (HCl.out 13 _ h rfl { on := 9, ground := Ground.chain } (by simp) rfl)
      have N15 : Hid (¬ L 15) := fun h => N13.out (HCl.out 15 _ h rfl { on := 13, ground := Ground.chain } (by simp) rfl)
      have N17 : Hid (¬ L 17) := fun h => N15.out (HCl.out 17 _ h rfl { on := 15, ground := Ground.chain } (by simp) rfl)
      have N18 : Hid (¬ L 18) := fun h => N17.out (HCl.out 18 _ h rfl { on := 17, ground := Ground.chain } (by simp) rfl)
      have L4 : Hid (L 4) := hwait { on := 4, ground := Ground.chain } (by simp) rfl
      have l6 : Hid (L 6) := hwait { on := 6, ground := Ground.data } (by simp) rfl
      have l8 : Hid (L 8) := hwait { on := 8, ground := Ground.data } (by simp) rfl
      clear hwait
      have e6 : x 6 = .slice q.G.a q.G.l.length q.G.c := HI.out.sim 6 (by unfold smp; omega) l6.out
      have E6 := Lib.hid e6
      refine wpOp_step rfl (fun K' hK => ?_)
      have HKK := Lib.hid hK
      clear hK
      have la : Hid (L 8) := l8
      obtain ⟨b, hb, hblk⟩ := HI.out.a8 la.out
      have hblk2 := hblk HNo.out
      have HBk := Lib.hid hblk2
      have EB := Lib.hid hb
      clear hblk hblk2
      rw [e6]
      clear e6
      rw [hb]
      clear hb
      have hown := HI.out.rG0 HNo.out
      have hln := HL.out
      refine step_append_lies _ rfl (.tmp 54) (.tmp 56) 26 rfl q.n0 28 i28 (.agg #[.int .i64 0, .int .i64 0]) 2 16 Try.underlying26 hi28 hz28 hs28 hb28 rfl (by decide) q.G.v q.G.l.length (flat 2 spC q.G.l) ?_ hown ⟨b, 0, none⟩ 1 1 (flat 2 spC [(q.lo, q.hi)]) ?_ rfl (World.news_of_block HBk.out) (spans_one _) (by decide) (by unfold maxLen; omega) (by omega) HI.out.big _ rfl ?_
      · rfl
      · rfl
      · intro g1 cap1 V2 hown2 hgrow hwh hgl
        refine HKK.out _ _ ⟨X, updV (updV (updV x 6 (.slice q.G.a q.G.l.length q.G.c)) 8 (.slice (some ⟨b, 0, none⟩) 1 1)) 9 (.slice (some ⟨g1, 0, none⟩) (q.G.l.length + 1) cap1), rfl, ?_⟩
        rw [updV_self E6.out, updV_self EB.out]
        rw [← flat_append] at hown2
        exact ⟨HI.out.app9 HP.out L4.out N9.out N13.out N15.out N17.out N18.out hown2 hgrow, fun h => by rw [updV_other (by omega)]; exact HX18.out (fun hh => h (.inr hh))⟩
    · subst ho
      have N10 : Hid (¬ L 10) := HNo.out
      have N13 : Hid (¬ L 13) := fun h => N10.out (HCl.out 13 _ h rfl { on := 10, ground := Ground.data } (by simp) rfl)
      have N15 : Hid (¬ L 15) := fun h => N13.out (HCl.out 15 _ h rfl { on := 13, ground := Ground.chain } (by simp) rfl)
      have N17 : Hid (¬ L 17) := fun h => N15.out (HCl.out 17 _ h rfl { on := 15, ground := Ground.chain } (by simp) rfl)
      have N18 : Hid (¬ L 18) := fun h => N17.out (HCl.out 18 _ h rfl { on := 17, ground := Ground.chain } (by simp) rfl)
      clear hwait
      refine wpOp_step rfl (fun K' hK => ?_)
      have HKK := Lib.hid hK
      clear hK
      have e18 : x 18 = .slice q.T.a q.T.l.length q.T.c := HX18.out N18.out
      have E18 := Lib.hid e18
      rw [e18]
      clear e18
      go_simp
      refine HKK.out _ _ ⟨X, updV (updV x 18 (.slice q.T.a q.T.l.length q.T.c)) 10 (simE q 10), rfl, ?_⟩
      rw [updV_self E18.out]
      exact ⟨HI.out.simple 10 (by unfold smp; omega), fun h => by rw [updV_other (by omega)]; exact HX18.out (fun hh => h (.inr hh))⟩
    · subst ho
      have N11 : Hid (¬ L 11) := HNo.out
      have N12 : Hid (¬ L 12) := fun h => N11.out (HCl.out 12 _ h rfl { on := 11, ground := Ground.data } (by simp) rfl)
      have N13 : Hid (¬ L 13) := fun h => N12.out (HCl.out 13 _ h rfl { on := 12, ground := Ground.data } (by simp) rfl)
      have N15 : Hid (¬ L 15) := fun h => N13.out (HCl.out 15 _ h rfl { on := 13, ground := Ground.chain } (by simp) rfl)
      have N17 : Hid (¬ L 17) := fun h => N15.out (HCl.out 17 _ h rfl { on := 15, ground := Ground.chain } (by simp) rfl)
      have N18 : Hid (¬ L 18) := fun h => N17.out (HCl.out 18 _ h rfl { on := 17, ground := Ground.chain } (by simp) rfl)
      clear hwait
      refine wpOp_step rfl (fun K' hK => ?_)
      have HKK := Lib.hid hK
      clear hK
      go_simp
      refine HKK.out _ _ ⟨X, updV x 11 (simE q 11), rfl, ?_⟩
      exact ⟨HI.out.simple 11 (by unfold smp; omega), fun h => by rw [updV_other (by omega)]; exact HX18.out (fun hh => h (.inr hh))⟩
    · subst ho
      have N12 : Hid (¬ L 12) := HNo.out
      have N13 : Hid (¬ L 13) := fun h => N12.out (HCl.out 13 _ h rfl { on := 12, ground := Ground.data } (by simp) rfl)
      have N15 : Hid (¬ L 15) := fun h => N13.out (HCl.out 15 _ h rfl { on := 13, ground := Ground.chain } (by simp) rfl)
      have N17 : Hid (¬ L 17) := fun h => N15.out (HCl.out 17 _ h rfl { on := 15, ground := Ground.chain } (by simp) rfl)
      have N18 : Hid (¬ L 18) := fun h => N17.out (HCl.out 18 _ h rfl { on := 17, ground := Ground.chain } (by simp) rfl)
      have l11 : Hid (L 11) := hwait { on := 11, ground := Ground.data } (by simp) rfl
      clear hwait
      have e11 : x 11 = .int .i64 (q.h : Int) := HI.out.sim 11 (by unfold smp; omega) l11.out
      have E11 := Lib.hid e11
      refine wpOp_step rfl (fun K' hK => ?_)
      have HKK := Lib.hid hK
      clear hK
      rw [e11]
      clear e11
      go_simp
      refine HKK.out _ _ ⟨X, updV (updV x 11 (.int .i64 (q.h : Int))) 12 (.slice (some ⟨V.heap.size, 0, none⟩) 1 1), rfl, ?_⟩
      rw [updV_self E11.out]
      exact ⟨(HI.out.ext ((Ext.refl V).alloc (.cells (nums [q.h]).toArray 3))).mark 12 _ (by omega) (fun h => absurd h (by unfold smp; omega)) (fun e => absurd e (by omega)) (fun e => absurd e (by omega)) (fun _ => ⟨V.heap.size, rfl, World.alloc_heap_new _ _, fun h4 e => by have := (own_type (HI.out.rA0 h4) e).2.1; omega⟩), fun h => by rw [updV_other (by omega)]; exact HX18.out (fun hh => h (.inr hh))⟩
    · subst ho
      have N13 : Hid (¬ L 13) := HNo.out
      have N15 : Hid (¬ L 15) := fun h => N13.out (HCl.out 15 _ h rfl { on := 13, ground := Ground.chain } (by simp) rfl)
      have N17 : Hid (¬ L 17) := fun h => N15.out (HCl.out 17 _ h rfl { on := 15, ground := Ground.chain } (by simp) rfl)
      have N18 : Hid (¬ L 18) := fun h => N17.out (HCl.out 18 _ h rfl { on := 17, ground := Ground.chain } (by simp) rfl)
      have L9 : Hid (L 9) := hwait { on := 9, ground := Ground.chain } (by simp) rfl
      have L4 : Hid (L 4) := HCl.out 9 _ L9.out rfl { on := 4, ground := Ground.chain } (by simp) rfl
      have l10 : Hid (L 10) := hwait { on := 10, ground := Ground.data } (by simp) rfl
      have l12 : Hid (L 12) := hwait { on := 12, ground := Ground.data } (by simp) rfl
      clear hwait
      have e10 : x 10 = .slice q.T.a q.T.l.length q.T.c := HI.out.sim 10 (by unfold smp; omega) l10.out
      have E10 := Lib.hid e10
      refine wpOp_step rfl (fun K' hK => ?_)
      have HKK := Lib.hid hK
      clear hK
      have la : Hid (L 12) := l12
      obtain ⟨b, hb, hblk⟩ := HI.out.a12 la.out
      have hblk2 := (hblk HNo.out).1
      have HBk := Lib.hid hblk2
      have EB := Lib.hid hb
      clear hblk hblk2
      rw [e10]
      clear e10
      rw [hb]
      clear hb
      have hown := HI.out.rT0 HNo.out
      have hln := HL.out
      refine step_append_lies _ rfl (.tmp 58) (.tmp 60) 25 rfl q.n0 3 i3 (.int .i64 0) 1 8 Try.underlying25 hi3 hz3 hs3 hb3 rfl (by decide) q.T.v q.T.l.length (nums q.T.l) ?_ hown ⟨b, 0, none⟩ 1 1 (nums [q.h]) ?_ rfl (World.news_of_block HBk.out) (nums_one _) (by decide) (by unfold maxLen; omega) (by omega) HI.out.big _ rfl ?_
      · rfl
      · rfl
      · intro g1 cap1 V2 hown2 hgrow hwh hgl
        refine HKK.out _ _ ⟨X, updV (updV (updV x 10 (.slice q.T.a q.T.l.length q.T.c)) 12 (.slice (some ⟨b, 0, none⟩) 1 1)) 13 (.slice (some ⟨g1, 0, none⟩) (q.T.l.length + 1) cap1), rfl, ?_⟩
        rw [updV_self E10.out, updV_self EB.out]
        rw [← nums_append] at hown2
        exact ⟨HI.out.app13 HP.out L4.out L9.out N13.out N15.out N17.out N18.out hown2 hgrow hwh, fun h => by rw [updV_other (by omega)]; exact HX18.out (fun hh => h (.inr hh))⟩
    · subst ho
      have N14 : Hid (¬ L 14) := HNo.out
      have N15 : Hid (¬ L 15) := fun h => N14.out (HCl.out 15 _ h rfl { on := 14, ground := Ground.data } (by simp) rfl)
      have N17 : Hid (¬ L 17) := fun h => N15.out (HCl.out 17 _ h rfl { on := 15, ground := Ground.chain } (by simp) rfl)
      have N18 : Hid (¬ L 18) := fun h => N17.out (HCl.out 18 _ h rfl { on := 17, ground := Ground.chain } (by simp) rfl)
      clear hwait
      refine wpOp_step rfl (fun K' hK => ?_)
      have HKK := Lib.hid hK
      clear hK
      go_simp
      refine HKK.out _ _ ⟨X, updV x 14 (simE q 14), rfl, ?_⟩
      exact ⟨HI.out.simple 14 (by unfold smp; omega), fun h => by rw [updV_other (by omega)]; exact HX18.out (fun hh => h (.inr hh))⟩
    · subst ho
      have N15 : Hid (¬ L 15) := HNo.out
      have N17 : Hid (¬ L 17) := fun h => N15.out (HCl.out 17 _ h rfl { on := 15, ground := Ground.chain } (by simp) rfl)
      have N18 : Hid (¬ L 18) := fun h => N17.out (HCl.out 18 _ h rfl { on := 17, ground := Ground.chain } (by simp) rfl)
      have L13 : Hid (L 13) := hwait { on := 13, ground := Ground.chain } (by simp) rfl
      have L9 : Hid (L 9) := HCl.out 13 _ L13.out rfl { on := 9, ground := Ground.chain } (by simp) rfl
      have L4 : Hid (L 4) := HCl.out 9 _ L9.out rfl { on := 4, ground := Ground.chain } (by simp) rfl
      have l14 : Hid (L 14) := hwait { on := 14, ground := Ground.data } (by simp) rfl
      clear hwait
      have e14 : x 14 = .pointer (some ⟨q.p, 0, none⟩) := HI.out.sim 14 (by unfold smp; omega) l14.out
      have E14 := Lib.hid e14
      refine wpOp_step rfl (fun K' hK => ?_)
      have HKK := Lib.hid hK
      clear hK
      obtain ⟨g, c, hs, -⟩ := HI.out.rA1 L4.out
      have ES := Lib.hid hs
      have HS := Lib.hid (HI.out.st HP.out 15 (by omega) L4.out L9.out L13.out N18.out)
      obtain ⟨u0, u1, hbx, -⟩ := HI.out.box
      have y0 : V.cell? ⟨q.p, 0, none⟩ = some u0 := (cell_at hbx 0).trans rfl
      have f0 : V.frozen? ⟨q.p, 0, none⟩ = false := by simp [World.frozen?, hbx]
      clear hbx
      rw [e14]
      clear e14
      rw [hs]
      clear hs
      go_simp
      refine HKK.out _ _ ⟨X, (updV (updV x 14 (.pointer (some ⟨q.p, 0, none⟩))) 4 (.slice (some ⟨g, 0, none⟩) (q.A.l.length + 1) c)), rfl, ?_⟩
      rw [updV_self E14.out, updV_self ES.out]
      have h := HS.out
      rw [if_pos rfl, if_pos rfl] at h
      rw [ES.out] at h
      exact ⟨h, fun h9 => HX18.out (fun hh => h9 (.inr hh))⟩
    · subst ho
      have N16 : Hid (¬ L 16) := HNo.out
      have N17 : Hid (¬ L 17) := fun h => N16.out (HCl.out 17 _ h rfl { on := 16, ground := Ground.data } (by simp) rfl)
      have N18 : Hid (¬ L 18) := fun h => N17.out (HCl.out 18 _ h rfl { on := 17, ground := Ground.chain } (by simp) rfl)
      clear hwait
      refine wpOp_step rfl (fun K' hK => ?_)
      have HKK := Lib.hid hK
      clear hK
      go_simp
      refine HKK.out _ _ ⟨X, updV x 16 (simE q 16), rfl, ?_⟩
      exact ⟨HI.out.simple 16 (by unfold smp; omega), fun h => by rw [updV_other (by omega)]; exact HX18.out (fun hh => h (.inr hh))⟩
    · subst ho
      have N17 : Hid (¬ L 17) := HNo.out
      have N18 : Hid (¬ L 18) := fun h => N17.out (HCl.out 18 _ h rfl { on := 17, ground := Ground.chain } (by simp) rfl)
      have L15 : Hid (L 15) := hwait { on := 15, ground := Ground.chain } (by simp) rfl
      have L13 : Hid (L 13) := HCl.out 15 _ L15.out rfl { on := 13, ground := Ground.chain } (by simp) rfl
      have L9 : Hid (L 9) := HCl.out 13 _ L13.out rfl { on := 9, ground := Ground.chain } (by simp) rfl
      have L4 : Hid (L 4) := HCl.out 9 _ L9.out rfl { on := 4, ground := Ground.chain } (by simp) rfl
      have l16 : Hid (L 16) := hwait { on := 16, ground := Ground.data } (by simp) rfl
      clear hwait
      have e16 : x 16 = .pointer (some ⟨q.p, 1, none⟩) := HI.out.sim 16 (by unfold smp; omega) l16.out
      have E16 := Lib.hid e16
      refine wpOp_step rfl (fun K' hK => ?_)
      have HKK := Lib.hid hK
      clear hK
      obtain ⟨g, c, hs, -⟩ := HI.out.rG1 L9.out
      have ES := Lib.hid hs
      have HS := Lib.hid (HI.out.st HP.out 17 (by omega) L4.out L9.out L13.out N18.out)
      obtain ⟨u0, u1, hbx, -⟩ := HI.out.box
      have y0 : V.cell? ⟨q.p, 1, none⟩ = some u1 := (cell_at hbx 1).trans rfl
      have f0 : V.frozen? ⟨q.p, 1, none⟩ = false := by simp [World.frozen?, hbx]
      clear hbx
      rw [e16]
      clear e16
      rw [hs]
      clear hs
      go_simp
      refine HKK.out _ _ ⟨X, (updV (updV x 16 (.pointer (some ⟨q.p, 1, none⟩))) 9 (.slice (some ⟨g, 0, none⟩) (q.G.l.length + 1) c)), rfl, ?_⟩
      rw [updV_self E16.out, updV_self ES.out]
      have h := HS.out
      rw [if_neg (by omega), if_neg (by omega)] at h
      rw [ES.out] at h
      exact ⟨h, fun h9 => HX18.out (fun hh => h9 (.inr hh))⟩
    · subst ho
      have N18 : Hid (¬ L 18) := HNo.out
      have L17 : Hid (L 17) := hwait { on := 17, ground := Ground.chain } (by simp) rfl
      have L15 : Hid (L 15) := HCl.out 17 _ L17.out rfl { on := 15, ground := Ground.chain } (by simp) rfl
      have L13 : Hid (L 13) := HCl.out 15 _ L15.out rfl { on := 13, ground := Ground.chain } (by simp) rfl
      have L9 : Hid (L 9) := HCl.out 13 _ L13.out rfl { on := 9, ground := Ground.chain } (by simp) rfl
      have L4 : Hid (L 4) := HCl.out 9 _ L9.out rfl { on := 4, ground := Ground.chain } (by simp) rfl
      clear hwait
      refine wpOp_step rfl (fun K' hK => ?_)
      have HKK := Lib.hid hK
      clear hK
      obtain ⟨g, c, hs, -⟩ := HI.out.rT1 L13.out
      have ES := Lib.hid hs
      rw [hs]
      clear hs
      go_simp
      refine HKK.out _ _ ⟨X, updV (updV x 13 (.slice (some ⟨g, 0, none⟩) (q.T.l.length + 1) c)) 18 (.slice (some ⟨g, 0, none⟩) (q.T.l.length + 1) c), rfl, ?_⟩
      rw [updV_self ES.out]
      have h := HI.out.as18 L4.out L9.out L13.out
      rw [ES.out] at h
      exact ⟨h, fun h9 => (h9 (.inl rfl)).elim⟩
  · rintro L b V ⟨X, x, rfl, hI, -⟩ hL
    exact HQ.out X x V L (fun i hi => hL i hi) hI
end Go.Proofs.Ytfognlealnhodaa
