/-
  read of package treaty puts a treaty to work in a reading: in new memory, with the table of where each leg can lead, and turns nothing that was there. The treaty must lie in memory as told and be valid, and the reading be one of it.
-/
import Derived.Test.YtopjjcgmcieboaaGreatDoorRa
import Derived.Deep.RegionHeld3
namespace Go.Proofs.YtopjjcgmcieboaaGreatDoor
open Go.RowKit

/-- The treaty's copy lies in block B. -/
def TB (w : World) (B : Nat) (t : TV) : Prop := w.heap[B]? = some (.cells #[.int .i64 (t.P : Int), .slice t.ways.a t.ways.l.length t.ways.c, .slice t.words.a t.words.l.length t.words.c, .slice t.starts.a t.starts.l.length t.starts.c, .slice t.legs.a t.legs.l.length t.legs.c] 28)

theorem one_of_tab {l : List Value} {T : Nat → Nat → Bool} (hl : l.length = 144) (h : ∀ f t, f < 12 → t < 12 → l.toArray[f * 12 + t]? = some (.bool (T f t))) : ∀ v ∈ l, v.oneCell' = true := by
  intro v hv
  obtain ⟨i, hi, rfl⟩ := List.mem_iff_getElem.1 hv
  have := h (i / 12) (i % 12) (by omega) (by omega)
  rw [show i / 12 * 12 + i % 12 = i by omega, List.getElem?_toArray, List.getElem?_eq_getElem hi, Option.some.injEq] at this
  rw [this]; rfl

theorem heap_setCells_other {w : World} {B g : Nat} {o : Obj} (h : w.heap[B]? = some o) (vs : List Value) (i : Nat) (hne : B ≠ g) : (w.setCells g i vs).heap[B]? = some o := by
  induction vs generalizing w i with
  | nil => exact h
  | cons v r ih => exact ih (by rw [Below.heap_setCell _ _ _ _ hne]; exact h) (i + 1)

set_option maxRecDepth 100000 in
set_option maxHeartbeats 4000000 in
theorem read_any (t : TV) (r : SL Nat) (w : World) (ht : IsT w t) (hk : OkT t) (hr : IsSl 1 num w r) (hR : RdOk t r.l) :
    Calls Tryz.prog 33 #[t.v, .slice r.a r.l.length r.c] w fun e w' => ∃ p, e = .returned (.pointer (some ⟨p, 0, none⟩)) ∧ IsWork w' p t (leadsOf t r.l) ∧ Ext w w' := by
  have hN10 := hk.legs
  have hlegs := ht.legs
  have HT := Lib.hid ht; clear ht
  have HK := Lib.hid hk; clear hk
  have HR := Lib.hid hr; clear hr
  have HRd := Lib.hid hR; clear hR
  have hTB0 : TB (w.alloc (.cells #[.int .i64 (t.P : Int), .slice t.ways.a t.ways.l.length t.ways.c, .slice t.words.a t.words.l.length t.words.c, .slice t.starts.a t.starts.l.length t.starts.c, .slice t.legs.a t.legs.l.length t.legs.c] 28)) w.heap.size t := World.alloc_heap_new w _
  have hWk0 := zeroWk (w.alloc (.cells #[.int .i64 (t.P : Int), .slice t.ways.a t.ways.l.length t.ways.c, .slice t.words.a t.words.l.length t.words.c, .slice t.starts.a t.starts.l.length t.starts.c, .slice t.legs.a t.legs.l.length t.legs.c] 28)) t
  rw [World.size_alloc] at hWk0
  have HTB0 := Lib.hid hTB0; clear hTB0
  have HWk0 := Lib.hid hWk0; clear hWk0
  obtain ⟨hg1, hg2, hg3⟩ := hlegs
  have HL3 := Lib.hid hg3; clear hg3
  have HDl : Hid ((dist t.ways.l).length ≤ 1000) := by have := dist_length t.ways.l; have := HK.out.ways; show _ ≤ _; omega
  have HW12 : Hid (∀ x ∈ dist t.ways.l, x.1 < 12 ∧ x.2.1 < 12) := fun x hx => by
    have := HK.out.way x (dist_mem' _ x hx); have := HK.out.p2; omega
  go_enter Tryz.func33, Tryz.ntmps33
  go_wp2_with fail
  refine (distinct_any t.ways.a _ t.ways.c t.ways.l _ rfl (by have := HK.out.ways; omega) (HT.out.ways.ext (((Ext.refl w).alloc _).alloc _))).mono ?_
  rintro e w1 ⟨a', c', rfl, hs1, hx1⟩
  have HTB1 : Hid (TB w1 w.heap.size t) := hx1.block (((Ext.refl _).alloc _).block HTB0.out)
  have HWk1 := Lib.hid (HWk0.out.ext hx1)
  have HX1 : Hid (Ext w w1) := (((Ext.refl w).alloc _).alloc _).trans hx1
  have HS1 := Lib.hid hs1; clear hs1 hx1
  clear HTB0 HWk0
  have HWk1z : Hid (Wk w1 (w.heap.size + 1) t (leadsTo t r.l 0)) := by
    have e0 : leadsTo t r.l 0 = fun _ _ _ => false := by funext k; simp [leadsTo]
    rw [e0]; exact HWk1
  have HAp := Lib.hid (fun (b off : Nat) (h1 : a' = some ⟨b, off, none⟩) (h2 : 0 < (dist t.ways.l).length) => ways_apart HWk1.out HS1.out h2 b off h1)
  have hc4 := cell_at HTB1.out 4
  simp only [List.getElem?_toArray, List.getElem?_cons_succ, List.getElem?_cons_zero] at hc4
  go_wp2_with fail
  clear hc4
  go_loopw [18] (fun i wr => ∃ n : Nat, n ≤ t.legs.l.length ∧ i = .int .i64 n ∧ Hid (TB wr w.heap.size t) ∧ Hid (Wk wr (w.heap.size + 1) t (leadsTo t r.l n)) ∧ Hid (Ext w wr) ∧ Hid (DExt (w.heap.size + 1) w1 wr)) (fun i _ => t.legs.l.length - (intOf i).toNat)
  case atStart => exact ⟨0, Nat.zero_le _, rfl, HTB1, HWk1z, HX1, DExt.refl _ _⟩
  case round =>
    clear HTB1 HWk1 HX1 HWk1z
    obtain ⟨wo, rfl⟩ : ∃ wo : World, wo = wr := ⟨_, rfl⟩
    obtain ⟨n, hn, rfl, HTB, HWk, HX, HD⟩ := hrel
    by_cases hlt : n < t.legs.l.length
    · have dn : decide ((n : Int) < (t.legs.l.length : Int)) = true := by simpa using hlt
      obtain ⟨b, off, hla, hc⟩ := HL3.out.resolve_left (by omega)
      have c0 := HX.out.cell (hc n hlt 0 (by omega))
      have c1 := HX.out.cell (hc n hlt 1 (by omega))
      have hxm : t.legs.l[n] ∈ t.legs.l := List.getElem_mem hlt
      have hLn : leadsOf t r.l n = leadF (dist t.ways.l) (legMean t r.l t.legs.l[n]).1 (legMean t r.l t.legs.l[n]).2 := by unfold leadsOf; simp [hlt]
      generalize t.legs.l[n] = x at *
      have HXm := Lib.hid hxm; clear hxm
      have HLn := Lib.hid hLn; clear hLn
      simp only [legC, if_true, if_neg (show ¬ (1 : Nat) = 0 by omega), Nat.add_zero] at c0 c1
      have i0 : (0 : Int) ≤ n := by omega
      have i1 : (n : Int) < 10 := by omega
      rw [hla]
      go_wp2_with fail
      have HLa := Lib.hid hla; clear hla
      have hle : Ext wo (wo.alloc (.cells #[.int .i64 (x.1 : Int), .int .i64 x.2] 63)) := (Ext.refl wo).alloc _
      have hn1 := World.alloc_heap_new wo (.cells #[.int .i64 (x.1 : Int), .int .i64 x.2] 63)
      have hvs : (wo.alloc (.cells #[.int .i64 (x.1 : Int), .int .i64 x.2] 63)).heap.size = wo.heap.size + 1 := World.size_alloc _ _
      generalize wo.alloc (.cells #[.int .i64 (x.1 : Int), .int .i64 x.2] 63) = V at *
      have v0 := cell_at hn1 0
      have v1 := cell_at hn1 1
      have t0 := cell_at (hle.block HTB.out) 0
      have t1 := cell_at (hle.block HTB.out) 1
      have t2 := cell_at (hle.block HTB.out) 2
      have t3 := cell_at (hle.block HTB.out) 3
      have t4 := cell_at (hle.block HTB.out) 4
      simp only [List.getElem?_toArray, List.getElem?_cons_succ, List.getElem?_cons_zero] at v0 v1 t0 t1 t2 t3 t4
      have HW := Lib.hid (HX.out.size)
      have HVw : Hid (Ext w V) := HX.out.trans hle
      have HSV : Hid (∀ V', DExt (w.heap.size + 1) V V' → IsSl 3 wayC V' ⟨a', c', dist t.ways.l⟩) := fun V' h' => sl_dext HS1.out ((HD.out.ext hle).trans h') (fun b' off' h1 h2 => HAp.out b' off' h1 h2)
      have HWV : Hid (Wk V (w.heap.size + 1) t (leadsTo t r.l n)) := HWk.out.ext hle
      have HTV : Hid (TB V w.heap.size t) := hle.block HTB.out
      have HDV : Hid (DExt (w.heap.size + 1) w1 V) := HD.out.ext hle
      have hlt2 := lt_of_cell v0
      have HPl := Lib.hid (show w.heap.size + 1 < wo.heap.size by obtain ⟨cs0, q0, _⟩ := HWk.out; exact (Array.getElem?_eq_some_iff.1 q0).1)
      clear c0 c1 hc hn1 HTB HWk HX HD
      have KS : Hid (∀ V', DExt (w.heap.size + 1) V V' → V'.cell? ⟨w.heap.size, 0, none⟩ = some (.int .i64 (t.P : Int)) ∧ V'.cell? ⟨w.heap.size, 1, none⟩ = some (.slice t.ways.a t.ways.l.length t.ways.c) ∧ V'.cell? ⟨w.heap.size, 2, none⟩ = some (.slice t.words.a t.words.l.length t.words.c) ∧
          V'.cell? ⟨w.heap.size, 3, none⟩ = some (.slice t.starts.a t.starts.l.length t.starts.c) ∧ V'.cell? ⟨w.heap.size, 4, none⟩ = some (.slice t.legs.a t.legs.l.length t.legs.c) ∧ V'.cell? ⟨wo.heap.size, 0, none⟩ = some (.int .i64 (x.1 : Int)) ∧ V'.cell? ⟨wo.heap.size, 1, none⟩ = some (.int .i64 x.2)) := by
        intro V' h'
        have hp := HPl.out
        exact ⟨h'.cell t0 (by show w.heap.size ≠ _; omega), h'.cell t1 (by show w.heap.size ≠ _; omega), h'.cell t2 (by show w.heap.size ≠ _; omega), h'.cell t3 (by show w.heap.size ≠ _; omega), h'.cell t4 (by show w.heap.size ≠ _; omega), h'.cell v0 (by show wo.heap.size ≠ _; omega), h'.cell v1 (by show wo.heap.size ≠ _; omega)⟩
      clear v0 v1 t0 t1 t2 t3 t4 hlt2 hle
      go_region_held3 (fun V' => V'.cell? ⟨w.heap.size, 0, none⟩ = some (.int .i64 (t.P : Int)) ∧ V'.cell? ⟨w.heap.size, 1, none⟩ = some (.slice t.ways.a t.ways.l.length t.ways.c) ∧ V'.cell? ⟨w.heap.size, 2, none⟩ = some (.slice t.words.a t.words.l.length t.words.c) ∧
          V'.cell? ⟨w.heap.size, 3, none⟩ = some (.slice t.starts.a t.starts.l.length t.starts.c) ∧ V'.cell? ⟨w.heap.size, 4, none⟩ = some (.slice t.legs.a t.legs.l.length t.legs.c) ∧ V'.cell? ⟨wo.heap.size, 0, none⟩ = some (.int .i64 (x.1 : Int)) ∧ V'.cell? ⟨wo.heap.size, 1, none⟩ = some (.int .i64 x.2))
        ((refine KS.out _ ?_; repeat (first | exact DExt.refl _ _ | exact X2.out | exact X1.out | refine dext_setCells ?_ _ _ | refine DExt.drew' ?_)))
        (first
          | (go_at_call 76; refine (meaning_leg t x r _ (HT.out.ext HVw.out.drew) HK.out (HR.out.ext HVw.out.drew) HRd.out HXm.out).mono ?_; rintro e v1 ⟨m, rfl, hk1, he1, hm1, hx1⟩; have X1 : Hid (DExt (w.heap.size + 1) V v1) := (DExt.refl _ _).drew'.ext hx1; have Y1 : Hid (Ext V v1) := (Ext.refl V).drew.trans hx1; have HK1 := Lib.hid hk1; have HE1 := Lib.hid he1; have HM1 := Lib.hid hm1; clear hk1 he1 hm1 hx1)
          | (go_at_call 75; refine (follow_any a' _ c' (dist t.ways.l) m _ rfl HDl.out (HSV.out _ X1.out) HM1.out HW12.out).mono ?_; rintro e v2 ⟨cs, rfl, hcs, hce, hx2⟩; obtain ⟨l, rfl⟩ : ∃ l : List Value, cs = l.toArray := ⟨cs.toList, by simp⟩; have X2 : Hid (DExt (w.heap.size + 1) V v2) := X1.out.ext hx2; have Y2 : Hid (Ext V v2) := Y1.out.trans hx2; have hl144 : Hid (l.length = 144) := hcs; have hinf : (Tryz.prog.info? 110).map (·.size) = some l.length := (by rw [hl144.out]; kernel_rfl); have h1c : ∀ v ∈ l, v.oneCell' = true := one_of_tab hl144.out hce; have hth : v2.there (w.heap.size + 1) (5 + n * 144) l.length := (by rw [hl144.out]; exact (HWV.out.ext Y2.out).there n (by omega)); have hth2 : v2.there (w.heap.size + 1) (5 + n * 144) 144 := (HWV.out.ext Y2.out).there n (by omega); have HCE := Lib.hid hce; clear hcs hce hx2))
      go_wp2_with fail
      go_roundw
      case rel =>
        have hp := HPl.out
        refine ⟨n + 1, by omega, by go_num, ?_, ?_, ?_, ?_⟩
        · exact heap_setCells_other (Y2.out.block HTV.out) _ _ (by omega)
        · refine (HWV.out.ext Y2.out).set n (by omega) l hl144.out (leadsOf t r.l n) (fun f g hf hg => ?_) (leadsTo t r.l (n + 1)) (fun k => ?_)
          · rw [HLn.out, ← HK1.out, ← HE1.out]; have := HCE.out f g hf hg; simpa using this
          · unfold leadsTo
            by_cases e : k = n
            · rw [if_pos e, if_pos (by omega), e]
            · rw [if_neg e]
              by_cases e2 : k < n
              · rw [if_pos e2, if_pos (by omega)]
              · rw [if_neg e2, if_neg (by omega)]
        · exact Ext.of (below_setCells (HVw.out.trans Y2.out) (by omega) _ _)
        · exact dext_setCells ((HDV.out).trans X2.out) _ _
      case measure => simp [intOf]; omega
    · have hne : n = t.legs.l.length := by omega
      subst hne
      go_wp2
      go_ret
      refine ⟨_, rfl, ?_, HX.out⟩
      have e0 : leadsTo t r.l t.legs.l.length = leadsOf t r.l := by
        funext k
        unfold leadsTo leadsOf
        by_cases e : k < t.legs.l.length
        · rw [if_pos e]
        · rw [if_neg e]; simp [List.getElem?_eq_none (Nat.le_of_not_lt e)]
      rw [← e0]; exact HWk.out.is
end Go.Proofs.YtopjjcgmcieboaaGreatDoor
