/-
  mended of package pillar returns pillars without a lost one, between whose neighbours the fewest others stand, or nothing if there are none, in new memory; nothing that was there is turned. The profile at work must lie in memory as told.
-/
import Derived.Test.YtfognlealnhodaaU
import Derived.Test.YtfognlealnhodaaJ
namespace Go.Proofs.Ytfognlealnhodaa
open Go.RowKit

theorem three_sl (w : World) (T : TypeId) (x y z : SL Nat) : IsSl 1 slC (w.alloc (.cells #[x.v, y.v, z.v] T)) ⟨some ⟨w.heap.size, 0, none⟩, 3, [x, y, z]⟩ := by
  refine ⟨Nat.le_refl _, (show 3 ≤ 1000000 by omega), .inr ⟨w.heap.size, 0, rfl, fun i hi j hj => ?_⟩⟩
  obtain rfl : j = 0 := by omega
  have hi3 : i < 3 := hi
  rw [cell_at (alloc_new rfl)]
  rcases (show i = 0 ∨ i = 1 ∨ i = 2 by omega) with rfl | rfl | rfl <;> rfl

theorem sl_take {w : World} {a : Option Addr} {c m : Nat} {l : List Nat} (h : IsSl 1 num w ⟨a, c, l⟩) (hm : m ≤ l.length) : IsSl 1 num w ⟨a, c, l.take m⟩ := by
  obtain ⟨h1, h2, h3⟩ := h
  dsimp only at h1 h2 h3
  refine ⟨by simp only [List.length_take]; omega, by simp only [List.length_take]; omega, ?_⟩
  rcases h3 with h3 | ⟨b, off, ha, hc⟩
  · exact .inl (by simp only [List.length_take]; omega)
  · refine .inr ⟨b, off, ha, fun i hi j hj => ?_⟩
    simp only [List.length_take] at hi
    have q := hc i (by omega) j hj
    simpa using q
theorem sl_drop {w : World} {b off c p : Nat} {l : List Nat} (h : IsSl 1 num w ⟨some ⟨b, off, none⟩, c, l⟩) (hp : p ≤ l.length) : IsSl 1 num w ⟨if c = p then some ⟨b, off, none⟩ else some ⟨b, off + p, none⟩, c - p, l.drop p⟩ := by
  obtain ⟨h1, h2, h3⟩ := h
  dsimp only at h1 h2 h3
  refine ⟨by simp only [List.length_drop]; omega, by simp only [List.length_drop]; omega, ?_⟩
  by_cases hcp : c = p
  · exact .inl (by simp only [List.length_drop]; omega)
  · rcases h3 with h3 | ⟨b', off', ha, hc⟩
    · exact .inl (by simp only [List.length_drop]; omega)
    · simp only [Option.some.injEq, Addr.mk.injEq, and_true] at ha
      obtain ⟨rfl, rfl⟩ := ha
      refine .inr ⟨b, off + p, by simp only [hcp, if_false], fun i hi j hj => ?_⟩
      simp only [List.length_drop] at hi
      obtain rfl : j = 0 := by omega
      have q := hc (p + i) (by omega) 0 hj
      rw [List.getElem_drop]
      simpa [Nat.add_assoc] using q
theorem own_some {w : World} {base : Nat} {a : Option Addr} {n c : Nat} {xs : List Value} (h : w.ownsRow base 3 1 (.slice a n c) n xs) (hn : n ≠ 0) : a ≠ none := by
  rcases h.2 with ⟨h2, h3⟩ | ⟨g, cap, cur, h2, _⟩
  · exact absurd h3 hn
  · simp only [Value.slice.injEq] at h2
    rw [h2.1]; exact fun e => by cases e

/-- Pillars without the lost one behind the first m + 1, with others between its neighbours. -/
def mendF (N : Nat → Nat → Int → Nat → Option Nat) (S : Nat → Nat → Bool) (n : Nat) (l : List Nat) (m : Nat) : List Nat :=
  let M := fewF (N n (l[m + 2]?.getD 0) (l[m + 1]?.getD 0)) S n (l[m]?.getD 0)
  if M.length = 0 then [] else l.take m ++ (M ++ l.drop (m + 3))

set_option maxRecDepth 100000 in
set_option maxHeartbeats 4000000 in
theorem mended_any (B : Nat) (d : Bool) (v : PV) (S : Nat → Nat → Bool) (s : SL Nat) (m : Nat) (w : World) (hw : Wk w B d v S) (hn : v.at'.l.length ≤ 40) (hs : IsSl 1 num w s) (hl : ∀ x ∈ s.l, x < v.at'.l.length) (hm : m + 2 < s.l.length) (hlen : s.l.length ≤ 1000) (M : List Nat)
    (hM : fewF (needsF S v.at'.l.length (s.l[m + 2]?.getD 0) (s.l[m + 1]?.getD 0)) S v.at'.l.length (s.l[m]?.getD 0) = M) (R : List Nat) (hR : (if M.length = 0 then [] else s.l.take m ++ (M ++ s.l.drop (m + 3))) = R) :
    Calls Try.prog 60 #[.pointer (some ⟨B, 0, none⟩), .slice s.a s.l.length s.c, .int .i64 ((m : Int) + 1)] w fun e w' => ∃ a c, e = .returned (.slice a R.length c) ∧ w'.ownsRow w.heap.size 3 1 (.slice a R.length c) R.length (nums R) ∧ Ext w w' := by
  have hb : ∀ k, k < s.l.length → s.l[k]?.getD 0 < v.at'.l.length := fun k hk => by rw [List.getElem?_eq_getElem hk]; exact hl _ (List.getElem_mem hk)
  have b0 := hb m (by omega)
  have b1 := hb (m + 1) (by omega)
  have b2 := hb (m + 2) (by omega)
  have HFw : Hid (∀ w1, Ext w w1 → Calls Try.prog 41 #[.pointer (some ⟨B, 0, none⟩), .int .i64 ((s.l[m]?.getD 0 : Nat) : Int), .int .i64 ((s.l[m + 2]?.getD 0 : Nat) : Int), .int .i64 ((s.l[m + 1]?.getD 0 : Nat) : Int)] w1 fun e w' => ∃ a c, e = .returned (.slice a M.length c) ∧ w'.ownsRow w.heap.size 3 1 (.slice a M.length c) M.length (nums M) ∧ Ext w1 w') := by
    intro w1 hx
    have q := fewest_any B d v S (s.l[m]?.getD 0) (s.l[m + 2]?.getD 0) ((s.l[m + 1]?.getD 0 : Nat) : Int) w1 (hw.ext hx) hn b0 b2 (by omega)
    rw [hM] at q
    refine Calls.mono q ?_
    rintro e w' ⟨a, c, rfl, ho, hx2⟩
    exact ⟨a, c, rfl, own_mono ho hx.size, hx2⟩
  obtain ⟨sa, sc, l⟩ := s
  have HSl := Lib.hid hs
  obtain ⟨h1, h2, h3⟩ := hs
  dsimp only at h1 h2 h3 hl hm hlen hM hR hb b0 b1 b2 HFw ⊢
  obtain ⟨b, off, rfl, hc⟩ := h3.resolve_left (by omega)
  have HC : Hid (∀ k, k < l.length → ∀ w', Ext w w' → w'.cell? ⟨b, off + k, none⟩ = some (.int .i64 ((l[k]?.getD 0 : Nat) : Int))) := fun k hk w' h => by
    have := h.cell (hc k hk 0 (by omega)); rw [List.getElem?_eq_getElem hk]; simpa [num] using this
  have HC0 : Hid (∀ w', Ext w w' → w'.cell? ⟨b, off + m, none⟩ = some (.int .i64 ((l[m]?.getD 0 : Nat) : Int)) ∧ w'.cell? ⟨b, off + (m + 2), none⟩ = some (.int .i64 ((l[m + 2]?.getD 0 : Nat) : Int)) ∧ w'.cell? ⟨b, off + (m + 1), none⟩ = some (.int .i64 ((l[m + 1]?.getD 0 : Nat) : Int))) := fun w' h => ⟨HC.out m (by omega) w' h, HC.out (m + 2) (by omega) w' h, HC.out (m + 1) (by omega) w' h⟩
  have HR := Lib.hid hR
  have HM2 : Hid (M.length ≤ 1000) := by
    show _ ≤ _; rw [← hM]; unfold fewF fwL; rw [List.length_map, List.length_range]
    cases hq : needsF S v.at'.l.length (l[m + 2]?.getD 0) (l[m + 1]?.getD 0) (l[m]?.getD 0) with
    | none => simp
    | some q => have := needTo_le S v.at'.l.length (l[m + 2]?.getD 0) ((l[m + 1]?.getD 0 : Nat) : Int) (l[m + 2]?.getD 0) _ q hq; simp; omega
  clear hw hl hM hR hb hc h3 HC
  generalize l[m]?.getD 0 = x0 at *
  generalize l[m + 1]?.getD 0 = x1 at *
  generalize l[m + 2]?.getD 0 = x2 at *
  obtain ⟨q, hq⟩ : ∃ q, m + 2 = q := ⟨_, rfl⟩
  have w1 : IntKind.i64.wrap ((m : Int) + 1 - 1) = (m : Int) := by rw [show (m : Int) + 1 - 1 = (m : Int) by omega]; exact IntWalk.i64_in _ (by omega)
  have w2 : IntKind.i64.wrap ((m : Int) + 1 + 1) = (q : Int) := by rw [show (m : Int) + 1 + 1 = (q : Int) by omega]; exact IntWalk.i64_in _ (by omega)
  have w3 : IntKind.i64.wrap ((m : Int) + (1 + 1)) = (q : Int) := by rw [show (m : Int) + (1 + 1) = (q : Int) by omega]; exact IntWalk.i64_in _ (by omega)
  have w4 : IntKind.i64.wrap ((m : Int) + 2) = (q : Int) := by rw [show (m : Int) + 2 = (q : Int) by omega]; exact IntWalk.i64_in _ (by omega)
  have w0 : IntKind.i64.wrap (m : Int) = (m : Int) := IntWalk.i64_in _ (by omega)
  have i1 : (0 : Int) ≤ (m : Int) := by omega
  have i2 : (q : Int) < (l.length : Int) := by omega
  have i3 : (m : Int) < (l.length : Int) := by omega
  have i4 : (m : Int) + 1 < (l.length : Int) := by omega
  have i5 : (0 : Int) ≤ (m : Int) + 1 := by omega
  have i6 : (0 : Int) ≤ (q : Int) := by omega
  clear b0 b1 b2 hn
  rw [hq] at HC0
  obtain ⟨c0, c1, c2⟩ := HC0.out w (Ext.refl w)
  go_enter Try.func60, Try.ntmps60
  go_wp2_with fail
  have HRf := Lib.hid (Ext.refl w)
  go_region_held3 (fun w' => w'.cell? ⟨b, off + m, none⟩ = some (.int .i64 (x0 : Int)) ∧ w'.cell? ⟨b, off + q, none⟩ = some (.int .i64 (x2 : Int)) ∧ w'.cell? ⟨b, off + (m + 1), none⟩ = some (.int .i64 (x1 : Int))) ((refine HC0.out _ ?_; (repeat (first | exact HRf.out | refine Ext.trans ?_ (by assumption) | refine Ext.alloc ?_ _ | refine Ext.drew ?_))))
    (first | (go_at_call 41; refine (HFw.out _ ?_).mono ?_; (repeat (first | exact HRf.out | refine Ext.trans ?_ (by assumption) | refine Ext.alloc ?_ _ | refine Ext.drew ?_)); rintro e wa ⟨a, c, rfl, ho, hxa⟩))
  have hr2 : Ext w wa := by
    (repeat (first | exact HRf.out | refine Ext.trans ?_ (by assumption) | refine Ext.alloc ?_ _ | refine Ext.drew ?_))
  have HX2 := Lib.hid hr2
  have HO := Lib.hid ho
  clear hr2 ho hxa c0 c1 c2
  by_cases hz : M.length = 0
  · have dz : ((M.length : Int) == 0) = true := by rw [beq_iff_eq]; omega
    have HRz : Hid (R = []) := by show _ = _; rw [← HR.out, if_pos hz]
    clear hz
    go_wp2
    go_ret
    exact ⟨none, 0, by rw [HRz.out]; rfl, by rw [HRz.out]; exact World.ownsRow_nil _ _ _ _, HX2.out⟩
  · have dz : ((M.length : Int) == 0) = false := by rw [beq_eq_false_iff_ne]; omega
    have HRz : Hid (R = l.take m ++ (M ++ l.drop (m + 3))) := by show _ = _; rw [← HR.out, if_neg hz]
    have HZ := Lib.hid hz
    clear hz
    obtain ⟨p, hp⟩ : ∃ p, m + 3 = p := ⟨_, rfl⟩
    have w5 : IntKind.i64.wrap ((m : Int) + 1 + 2) = (p : Int) := by rw [show (m : Int) + 1 + 2 = (p : Int) by omega]; exact IntWalk.i64_in _ (by omega)
    have w6 : IntKind.i64.wrap ((m : Int) + (1 + 2)) = (p : Int) := by rw [show (m : Int) + (1 + 2) = (p : Int) by omega]; exact IntWalk.i64_in _ (by omega)
    have w7 : IntKind.i64.wrap ((m : Int) + 3) = (p : Int) := by rw [show (m : Int) + 3 = (p : Int) by omega]; exact IntWalk.i64_in _ (by omega)
    have j1 : (m : Int) ≤ (sc : Int) := by omega
    have j2 : (p : Int) ≤ (l.length : Int) := by omega
    have j3 : (0 : Int) ≤ (p : Int) := by omega
    have j4 : (l.length : Int) ≤ (sc : Int) := by omega
    have HCat : Hid (Calls Try.prog 79 #[.slice (some ⟨wa.heap.size, 0, none⟩) 3 3] ((wa.alloc (.cells #[.slice (some ⟨b, off, none⟩) m sc, .slice a M.length c, .slice (if sc = p then some ⟨b, off, none⟩ else some ⟨b, off + p, none⟩) (l.length - p) (sc - p)] 25)).drew) fun e w' => ∃ a c, e = .returned (.slice a R.length c) ∧ w'.ownsRow w.heap.size 3 1 (.slice a R.length c) R.length (nums R) ∧ Ext w w') := by
      have e1 : (l.take m).length = m := by rw [List.length_take]; omega
      have e2 : (l.drop p).length = l.length - p := by rw [List.length_drop]
      have hx : Ext wa ((wa.alloc (.cells #[.slice (some ⟨b, off, none⟩) m sc, .slice a M.length c, .slice (if sc = p then some ⟨b, off, none⟩ else some ⟨b, off + p, none⟩) (l.length - p) (sc - p)] 25)).drew) := ((Ext.refl wa).alloc _).drew
      have q0 := three_sl wa 25 ⟨some ⟨b, off, none⟩, sc, l.take m⟩ ⟨a, c, M⟩ ⟨if sc = p then some ⟨b, off, none⟩ else some ⟨b, off + p, none⟩, sc - p, l.drop p⟩
      simp only [SL.v, e1, e2] at q0
      have hM2 := HM2.out
      have hz := HZ.out
      have hsl := (HSl.out.ext HX2.out).ext hx
      have hRl : R.length ≤ 1000000 := by rw [HRz.out]; simp only [List.length_append, List.length_take, List.length_drop]; omega
      refine Calls.mono (concat_any ⟨some ⟨wa.heap.size, 0, none⟩, 3, [⟨some ⟨b, off, none⟩, sc, l.take m⟩, ⟨a, c, M⟩, ⟨if sc = p then some ⟨b, off, none⟩ else some ⟨b, off + p, none⟩, sc - p, l.drop p⟩]⟩ _ (q0.ext ((Ext.refl _).drew)) ?_ R ?_ hRl) ?_
      · intro x hx2
        simp only [List.mem_cons, List.not_mem_nil, or_false] at hx2
        rcases hx2 with rfl | rfl | rfl
        · exact ⟨sl_take hsl (by omega), fun e => by cases e⟩
        · exact ⟨own_sl (own_ext HO.out hx) (by omega), own_some HO.out hz⟩
        · refine ⟨sl_drop hsl (by omega), fun e => ?_⟩
          dsimp only at e
          split at e <;> cases e
      · rw [HRz.out, hp]
        simp [catTo]
      · rintro e w' ⟨a', c', rfl, ho, hx2⟩
        exact ⟨a', c', rfl, own_mono ho (by have h9 := HX2.out.size; have h8 := hx.size; omega), (HX2.out.trans hx).trans hx2⟩
    obtain ⟨Z3, hite⟩ : ∃ Z3, (if sc = p then some (⟨b, off, none⟩ : Addr) else some ⟨b, off + p, none⟩) = Z3 := ⟨_, rfl⟩
    rw [hite] at HCat
    go_wp2_with fail
    go_region_held3 (fun _ => True) (trivial)
      (first | (go_at_call 79; refine HCat.out.mono ?_; rintro e wb ⟨a5, c5, rfl, ho5, hx5⟩))
    have HO5 := Lib.hid ho5
    have HX5 := Lib.hid hx5
    clear ho5 hx5
    go_wp2
    go_ret
    exact ⟨a5, c5, rfl, HO5.out, HX5.out⟩
end Go.Proofs.Ytfognlealnhodaa
