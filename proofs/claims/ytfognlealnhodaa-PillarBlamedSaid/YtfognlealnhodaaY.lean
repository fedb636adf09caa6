/-
  Mend of package pillar returns pillars that hold without a lost one, or ErrNone if there are none, or ErrArg if it is the first one or the last one. The profile must lie in memory as told and be right, and the pillars must hold.
-/
import Derived.Test.YtfognlealnhodaaO
import Derived.Test.YtfognlealnhodaaV
namespace Go.Proofs.Ytfognlealnhodaa
open Go.RowKit

set_option maxRecDepth 100000 in
set_option maxHeartbeats 2000000 in
theorem mend_ok (v : PV) (s : SL Nat) (m : Nat) (w : World) (hp : IsP w v) (hk : OkP v.p) (hs : IsSl 1 num w s) (hl : ∀ x ∈ s.l, x < v.at'.l.length) (ho : holdsF (allF true v.p) v.at'.l.length s.l = true) (hm : m + 2 < s.l.length) (hlen : s.l.length ≤ 1000) (M : List Nat)
    (hM : fewF (needsF (allF true v.p) v.at'.l.length (s.l[m + 2]?.getD 0) (s.l[m + 1]?.getD 0)) (allF true v.p) v.at'.l.length (s.l[m]?.getD 0) = M) (R : List Nat) (hR : (if M.length = 0 then [] else s.l.take m ++ (M ++ s.l.drop (m + 3))) = R) :
    Calls Try.prog 30 #[v.v, .slice s.a s.l.length s.c, .int .i64 ((m : Int) + 1)] w fun e w' => ∃ a c, e = .returned (.tuple #[.slice a R.length c, .int .i64 (if R.length = 0 then 7 else 0)]) ∧ w'.ownsRow w.heap.size 3 1 (.slice a R.length c) R.length (nums R) ∧ Ext w w' := by
  have HF := Lib.hid (five_new w v)
  have HX := Lib.hid ((Ext.refl w).alloc (.cells #[.slice v.at'.a v.at'.l.length v.at'.c, .slice v.gr.a v.gr.l.length v.gr.c, .int .i64 (v.T : Int), .int .i64 (v.lo : Int), .int .i64 (v.hi : Int)] 30))
  have HP := Lib.hid hp
  have HK := Lib.hid hk
  have HC := Lib.hid (fun w1 (h : Ext w w1) => checkPillars_ok v s w1 (hp.ext h) hk (hs.ext h) hl)
  have hn1 := hk.n1
  have hn2 := hk.n2
  dsimp only at hn1 hn2
  have HH : Hid (∀ (B : Nat) (w1 : World), Wk w1 B true v (allF true v.p) → Ext w w1 → Calls Try.prog 43 #[.pointer (some ⟨B, 0, none⟩), .slice s.a s.l.length s.c] w1 fun e w' => e = .returned (.bool true) ∧ Ext w1 w') := by
    intro B w1 h hx
    have q := holds_any B true v _ s w1 h (by omega) (by omega) (hs.ext hx) hl
    rwa [ho] at q
  have HMe : Hid (∀ (B : Nat) (w1 : World), Wk w1 B true v (allF true v.p) → Ext w w1 → Calls Try.prog 60 #[.pointer (some ⟨B, 0, none⟩), .slice s.a s.l.length s.c, .int .i64 ((m : Int) + 1)] w1 fun e w' => ∃ a c, e = .returned (.slice a R.length c) ∧ w'.ownsRow w.heap.size 3 1 (.slice a R.length c) R.length (nums R) ∧ Ext w1 w') := by
    intro B w1 h hx
    refine Calls.mono (mended_any B true v _ s m w1 h (by omega) (hs.ext hx) hl hm hlen M hM R hR) ?_
    rintro e w' ⟨a, c, rfl, hw2, hx2⟩
    exact ⟨a, c, rfl, own_mono hw2 hx.size, hx2⟩
  have b1 : decide ((1 : Int) ≤ (m : Int) + 1) = true := decide_eq_true (by omega)
  have b2 : decide ((m : Int) + 1 ≤ (s.l.length : Int) - 2) = true := decide_eq_true (by omega)
  have HB : Hid (∀ w1, Calls Try.prog 59 #[.int .i64 ((m : Int) + 1), .int .i64 1, .int .i64 ((s.l.length : Int) - 2)] w1 fun e w' => e = .returned (.bool true) ∧ w1 = w') := fun w1 => by
    have q := between_any ((m : Int) + 1) 1 ((s.l.length : Int) - 2) w1
    rwa [b1, b2] at q
  obtain ⟨z, hzz⟩ : ∃ z : Int, (if R.length = 0 then (7 : Int) else 0) = z := ⟨_, rfl⟩
  rw [hzz]
  have HZZ := Lib.hid hzz
  clear hp hk hs hl ho hM hR hn1 hn2 b1 b2 hzz
  obtain ⟨c0, c1, c2, c3, c4⟩ := HF.out
  go_enter Try.func30, Try.ntmps30
  go_wp2_with fail
  clear c0 c1 c2 c3 c4
  refine (HC.out _ HX.out).mono ?_
  rintro e w1 ⟨rfl, hx1⟩
  have HX1 : Hid (Ext w w1) := HX.out.trans hx1
  have HF1 := Lib.hid (HF.out.ext hx1)
  clear hx1 HX HF HC
  obtain ⟨c0, c1, c2, c3, c4⟩ := HF1.out
  go_wp2_with fail
  clear c0 c1 c2 c3 c4
  refine (inDark_any v _ (HP.out.ext HX1.out) HK.out).mono ?_
  rintro e w2 ⟨B, rfl, hW, hle, hx2⟩
  have HX2 : Hid (Ext w w2) := HX1.out.trans hx2
  have HW := Lib.hid hW
  have HLe := Lib.hid hle
  clear hx2 hW hle
  go_wp2_with fail
  refine (HH.out _ _ HW.out HX2.out).mono ?_
  rintro e w3 ⟨rfl, hx3⟩
  have HX3 : Hid (Ext w w3) := HX2.out.trans hx3
  have HW3 := Lib.hid (HW.out.ext hx3)
  clear hx3
  go_wp2_with (go_at_call 59; refine (HB.out _).mono ?_; rintro e w' ⟨rfl, rfl⟩)
  refine (HMe.out _ _ HW3.out HX3.out).mono ?_
  rintro e w4 ⟨a, c, rfl, ho4, hx4⟩
  have HX4 : Hid (Ext w w4) := HX3.out.trans hx4
  have HO4 := Lib.hid ho4
  clear hx4 ho4
  by_cases hz : R.length = 0
  · have dz : ((R.length : Int) == 0) = true := by rw [beq_iff_eq]; omega
    have HZ := Lib.hid hz
    clear hz
    go_wp2
    go_ret2
    refine ⟨none, 0, by rw [← HZZ.out, if_pos HZ.out, HZ.out]; rfl, ?_, HX4.out⟩
    rw [List.eq_nil_of_length_eq_zero HZ.out]; exact World.ownsRow_nil _ _ _ _
  · have dz : ((R.length : Int) == 0) = false := by rw [beq_eq_false_iff_ne]; omega
    have HZ := Lib.hid hz
    clear hz
    go_wp2
    go_ret2
    exact ⟨a, c, by rw [← HZZ.out, if_neg HZ.out]; rfl, HO4.out, HX4.out⟩

set_option maxRecDepth 100000 in
set_option maxHeartbeats 2000000 in
theorem mend_arg (v : PV) (s : SL Nat) (w : World) (hp : IsP w v) (hk : OkP v.p) (hs : IsSl 1 num w s) (hl : ∀ x ∈ s.l, x < v.at'.l.length) (ho : holdsF (allF true v.p) v.at'.l.length s.l = true) (hm : s.l.length = 2) :
    Calls Try.prog 30 #[v.v, .slice s.a s.l.length s.c, .int .i64 1] w fun e w' => e = .returned (.tuple #[.slice none 0 0, .int .i64 2]) ∧ Ext w w' := by
  have HF := Lib.hid (five_new w v)
  have HX := Lib.hid ((Ext.refl w).alloc (.cells #[.slice v.at'.a v.at'.l.length v.at'.c, .slice v.gr.a v.gr.l.length v.gr.c, .int .i64 (v.T : Int), .int .i64 (v.lo : Int), .int .i64 (v.hi : Int)] 30))
  have HP := Lib.hid hp
  have HK := Lib.hid hk
  have HC := Lib.hid (fun w1 (h : Ext w w1) => checkPillars_ok v s w1 (hp.ext h) hk (hs.ext h) hl)
  have hn1 := hk.n1
  have hn2 := hk.n2
  dsimp only at hn1 hn2
  have HH : Hid (∀ (B : Nat) (w1 : World), Wk w1 B true v (allF true v.p) → Ext w w1 → Calls Try.prog 43 #[.pointer (some ⟨B, 0, none⟩), .slice s.a s.l.length s.c] w1 fun e w' => e = .returned (.bool true) ∧ Ext w1 w') := by
    intro B w1 h hx
    have q := holds_any B true v _ s w1 h (by omega) (by omega) (hs.ext hx) hl
    rwa [ho] at q
  have HB : Hid (∀ w1, Calls Try.prog 59 #[.int .i64 1, .int .i64 1, .int .i64 0] w1 fun e w' => e = .returned (.bool false) ∧ w1 = w') := fun w1 => between_any 1 1 0 w1
  rw [hm] at HH HC ⊢
  clear hp hk hs hl ho hn1 hn2
  obtain ⟨c0, c1, c2, c3, c4⟩ := HF.out
  go_enter Try.func30, Try.ntmps30
  go_wp2_with fail
  clear c0 c1 c2 c3 c4
  refine (HC.out _ HX.out).mono ?_
  rintro e w1 ⟨rfl, hx1⟩
  have HX1 : Hid (Ext w w1) := HX.out.trans hx1
  have HF1 := Lib.hid (HF.out.ext hx1)
  clear hx1 HX HF HC
  obtain ⟨c0, c1, c2, c3, c4⟩ := HF1.out
  go_wp2_with fail
  clear c0 c1 c2 c3 c4
  refine (inDark_any v _ (HP.out.ext HX1.out) HK.out).mono ?_
  rintro e w2 ⟨B, rfl, hW, hle, hx2⟩
  have HX2 : Hid (Ext w w2) := HX1.out.trans hx2
  have HW := Lib.hid hW
  have HLe := Lib.hid hle
  clear hx2 hW hle
  go_wp2_with fail
  refine (HH.out _ _ HW.out HX2.out).mono ?_
  rintro e w3 ⟨rfl, hx3⟩
  have HX3 : Hid (Ext w w3) := HX2.out.trans hx3
  have HW3 := Lib.hid (HW.out.ext hx3)
  clear hx3
  clear HW3
  go_wp2_with (go_at_call 59; refine (HB.out _).mono ?_; rintro e w' ⟨rfl, rfl⟩)
  go_ret2
  exact ⟨rfl, HX3.out⟩
end Go.Proofs.Ytfognlealnhodaa
