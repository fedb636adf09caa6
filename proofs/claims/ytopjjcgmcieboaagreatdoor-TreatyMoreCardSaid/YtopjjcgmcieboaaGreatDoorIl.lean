/-
  add of package treaty marks what other steps mark, too, and turns nothing else. The marks must lie in memory as told.
-/
import Derived.Test.YtopjjcgmcieboaaGreatDoorIk
import Derived.Test.YtopjjcgmcieboaaGreatDoorIa
namespace Go.Proofs.YtopjjcgmcieboaaGreatDoor
open Go.RowKit

/-- Marks joined, up to step q and place n. -/
def orG (T U : Nat → Nat → Bool) (q n f t : Nat) : Bool := if f < q ∨ (f = q ∧ t < n) then T f t || U f t else T f t
theorem orG_succ (T U : Nat → Nat → Bool) (q n : Nat) : orG T U q (n + 1) = upd (orG T U q n) q n (T q n || U q n) := by
  funext f t
  unfold upd orG
  by_cases e : f = q ∧ t = n
  · obtain ⟨rfl, rfl⟩ := e; simp
  · rw [if_neg e]
    by_cases h : f < q ∨ (f = q ∧ t < n)
    · rw [if_pos h, if_pos (by omega)]
    · rw [if_neg h, if_neg (by omega)]
theorem orG_at (T U : Nat → Nat → Bool) (q n : Nat) : orG T U q n q n = T q n := by unfold orG; rw [if_neg (by omega)]
theorem Mrk.congr {w : World} {B : Nat} {T T' : Nat → Nat → Bool} (h : Mrk w B T) (he : ∀ f t, f < 11 → t < 12 → T f t = T' f t) : Mrk w B T' := by
  obtain ⟨cs, h1, h2, h3⟩ := h
  exact ⟨cs, h1, h2, fun f t hf ht => by rw [h3 f t hf ht, he f t hf ht]⟩
theorem Mrk.keep {a b : World} {B : Nat} {T : Nat → Nat → Bool} {D : Nat → Prop} (h : Mrk a B T) (k : Keep D a b) (hd : D B) : Mrk b B T := by
  obtain ⟨cs, h1, h2⟩ := h; exact ⟨cs, k.heap h1 hd, h2⟩

set_option maxRecDepth 100000 in
set_option maxHeartbeats 2000000 in
theorem add_any (b : Nat) (T U : Nat → Nat → Bool) (cs : Array Value) (w : World) (hb : Mrk w b T) (hsz : cs.size = 132) (hU : ∀ f t, f < 11 → t < 12 → cs[f * 12 + t]? = some (.bool (U f t))) :
    Calls Tryz.prog 48 #[.pointer (some ⟨b, 0, none⟩), .agg cs] w fun e w' => e = .returned (.tuple #[]) ∧ Mrk w' b (fun f t => T f t || U f t) ∧ Keep (fun k => k ≠ b) w w' := by
  have hlt := hb.lt
  have HLt := Lib.hid hlt; clear hlt
  have hU0 : Mrk (w.alloc (.cells cs 88)) w.heap.size U := ⟨cs, World.alloc_heap_new w _, hsz, hU⟩
  have HU0 := Lib.hid hU0; clear hU0
  have HB0 : Hid (Mrk (w.alloc (.cells cs 88)) b (orG T U 0 0)) := (hb.ext ((Ext.refl w).alloc _)).congr (fun f t _ _ => by unfold orG; rw [if_neg (by omega)])
  have HK0 : Hid (Keep (fun k => k ≠ b) w (w.alloc (.cells cs 88))) := (Keep.refl _ w).alloc _
  have hinf : (Tryz.prog.info? 88).map (·.size) = some cs.size := by rw [hsz]; kernel_rfl
  have HInf := Lib.hid hinf; clear hinf
  clear hb hU hsz
  go_enter Tryz.func48, Tryz.ntmps48
  go_wp2_with fail
  generalize hV0 : w.alloc (.cells cs 88) = V0 at *
  clear hV0
  have HNe : Hid (w.heap.size ≠ b) := by have := HLt.out; show _ ≠ _; omega
  generalize hob : w.heap.size = ob at *
  clear hob
  go_loopw [6] (fun i wr => ∃ q : Nat, q ≤ 11 ∧ i = .int .i64 q ∧ Hid (Mrk wr b (orG T U q 0)) ∧ Hid (Mrk wr ob U) ∧ Hid (Keep (fun k => k ≠ b) w wr)) (fun i _ => 11 - (intOf i).toNat)
  case atStart => exact ⟨0, by omega, rfl, HB0, HU0, HK0⟩
  case round =>
    clear HB0 HU0 HK0
    obtain ⟨wo, rfl⟩ : ∃ wo : World, wo = wr := ⟨_, rfl⟩
    obtain ⟨q, hq, rfl, HB, HU, HK⟩ := hrel
    by_cases hltq : q < 11
    · have dq : decide ((q : Int) < 11) = true := decide_eq_true (by omega)
      have dq' : (q : Int) < 11 := by omega
      go_wp2_with fail
      go_loopw [9] (fun i wr => ∃ n : Nat, n ≤ 12 ∧ i = .int .i64 n ∧ Hid (Mrk wr b (orG T U q n)) ∧ Hid (Mrk wr ob U) ∧ Hid (Keep (fun k => k ≠ b) w wr)) (fun i _ => 12 - (intOf i).toNat)
      case atStart => exact ⟨0, by omega, rfl, HB, HU, HK⟩
      case round =>
        clear HB HU HK
        obtain ⟨wx, rfl⟩ : ∃ wx : World, wx = wr := ⟨_, rfl⟩
        obtain ⟨n, hn, rfl, HB, HU, HK⟩ := hrel
        by_cases hltn : n < 12
        · have dn : decide ((n : Int) < 12) = true := decide_eq_true (by omega)
          have dn' : (n : Int) < 12 := by omega
          have i1 : (0 : Int) ≤ q := by omega
          have i2 : (0 : Int) ≤ n := by omega
          have c1 := HB.out.cell q n (by omega) (by omega)
          rw [orG_at] at c1
          have c2 := HU.out.cell q n (by omega) (by omega)
          have f1 := HB.out.frozen (q * 12 + n)
          have hset := HB.out.set q n (by omega) (by omega) (T q n || U q n)
          rw [← orG_succ] at hset
          have HSet := Lib.hid hset; clear hset
          have KS : Hid (Keep (fun k => k ≠ b) w (wx.setCell ⟨b, q * 12 + n, none⟩ (.bool (T q n || U q n)))) := HK.out.setCell _ _ (fun _ h => h rfl)
          have US : Hid (Mrk (wx.setCell ⟨b, q * 12 + n, none⟩ (.bool (T q n || U q n))) ob U) := HU.out.other _ HNe.out
          cases hT : T q n
          · rw [hT] at c1 HSet KS US
            cases hUu : U q n
            · rw [hUu] at c2 HSet KS US
              clear hT hUu
              go_wp2_with fail
              go_region
              go_wp2
              go_roundw
              case rel => exact ⟨n + 1, by omega, by go_num, HSet.out.ext (Ext.refl _).drew, US.out.ext (Ext.refl _).drew, KS.out.drew⟩
              case measure => simp [intOf]; omega
            · rw [hUu] at c2 HSet KS US
              clear hT hUu
              go_wp2_with fail
              go_region
              go_wp2
              go_roundw
              case rel => exact ⟨n + 1, by omega, by go_num, HSet.out.ext (Ext.refl _).drew, US.out.ext (Ext.refl _).drew, KS.out.drew⟩
              case measure => simp [intOf]; omega
          · rw [hT] at c1 HSet KS US
            have e1 : (true || U q n) = true := rfl
            rw [e1] at HSet KS US
            generalize U q n = u at c2
            clear hT e1
            go_wp2_with fail
            go_region
            go_wp2
            go_roundw
            case rel => exact ⟨n + 1, by omega, by go_num, HSet.out.ext (Ext.refl _).drew, US.out.ext (Ext.refl _).drew, KS.out.drew⟩
            case measure => simp [intOf]; omega
        · have hne : n = 12 := by omega
          subst hne
          have HB' : Hid (Mrk wx b (orG T U (q + 1) 0)) := HB.out.congr (fun f t _ ht => by unfold orG; by_cases h : f < q ∨ (f = q ∧ t < 12); rw [if_pos h, if_pos (by omega)]; rw [if_neg h, if_neg (by omega)])
          go_wp2
          go_roundw
          case rel => exact ⟨q + 1, by omega, by go_num, HB', HU, HK⟩
          case measure => simp [intOf]; omega
    · have hqe : q = 11 := by omega
      subst hqe
      go_wp2
      go_end0
      exact ⟨rfl, HB.out.congr (fun f t hf _ => by unfold orG; rw [if_pos (.inl hf)]), HK.out⟩
end Go.Proofs.YtopjjcgmcieboaaGreatDoor
