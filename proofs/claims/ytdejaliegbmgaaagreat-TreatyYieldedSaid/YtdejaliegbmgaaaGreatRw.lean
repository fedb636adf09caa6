/-
  Several texts in one. read of package treaty puts a treaty to work in new memory. open and hasLine of package treaty where not all legs count: they tell whether some line keeps all legs that count, and turn nothing that was there. The treaty at work must lie in memory as told, and answer where legs can lead.
-/
import Derived.Test.YtdejaliegbmgaaaGreatRb
import Derived.Test.YtdejaliegbmgaaaGreatS
import Derived.Test.YtdejaliegbmgaaaGreatH
namespace Go.Proofs.YtdejaliegbmgaaaGreat
open Go.RowKit
set_option maxRecDepth 100000 in
set_option maxHeartbeats 4000000 in
theorem readN_any (t : TV) (r : SL Nat) (w : World) (ht : IsT w t) (hk : OkT t) (hr : IsSl 1 num w r) (hR : RdOk t r.l) :
    Calls Tryz.prog 69 #[t.v, .slice r.a r.l.length r.c] w fun e w' => ∃ p, e = .returned (.pointer (some ⟨p, 0, none⟩)) ∧ IsWork w' p t (leadsOf t r.l) ∧ Ext w w' ∧ w.heap.size ≤ p := by
  have hN10 := hk.legs
  have hlegs := ht.legs
  have HT := Lib.hid ht; clear ht
  have HK := Lib.hid hk; clear hk
  have HR := Lib.hid hr; clear hr
  have HRd := Lib.hid hR; clear hR
  have hTB0 : TB (w.alloc (.cells #[.int .i64 (t.P : Int), .slice t.ways.a t.ways.l.length t.ways.c, .slice t.words.a t.words.l.length t.words.c, .slice t.starts.a t.starts.l.length t.starts.c, .slice t.legs.a t.legs.l.length t.legs.c] 27)) w.heap.size t := World.alloc_heap_new w _
  have hWk0 := zeroWk (w.alloc (.cells #[.int .i64 (t.P : Int), .slice t.ways.a t.ways.l.length t.ways.c, .slice t.words.a t.words.l.length t.words.c, .slice t.starts.a t.starts.l.length t.starts.c, .slice t.legs.a t.legs.l.length t.legs.c] 27)) t
  rw [World.size_alloc] at hWk0
  have HTB0 := Lib.hid hTB0; clear hTB0
  have HWk0 := Lib.hid hWk0; clear hWk0
  obtain ⟨hg1, hg2, hg3⟩ := hlegs
  have HL3 := Lib.hid hg3; clear hg3
  have HDl : Hid ((dist t.ways.l).length ≤ 1000) := by have := dist_length t.ways.l; have := HK.out.ways; show _ ≤ _; omega
  have HW12 : Hid (∀ x ∈ dist t.ways.l, x.1 < 12 ∧ x.2.1 < 12) := fun x hx => by
    have := HK.out.way x (dist_mem' _ x hx); have := HK.out.p2; omega
  go_enter Tryz.func69, Tryz.ntmps69
  go_wp2_with fail
  refine (distinct_any t.ways.a _ t.ways.c t.ways.l _ rfl (by have := HK.out.ways; omega) (HT.out.ways.ext (((Ext.refl w).alloc _).alloc _))).mono ?_
  rintro e w1 ⟨a', c', rfl, hs1, hx1⟩
  have HTB1 : Hid (TB w1 w.heap.size t) := hx1.block (((Ext.refl _).alloc _).block HTB0.out)
  have HWk1 := Lib.hid (HWk0.out.ext hx1)
  have HX1 : Hid (Ext w w1) := (((Ext.refl w).alloc _).alloc _).trans hx1
  have HS1 := Lib.hid hs1; clear hs1 hx1
  clear HTB0 HWk0
  have HWk1z : Hid (Wk w1 (w.heap.size + 1) t (leadsTo t r.l 0)) := by
    have e0 : leadsTo t r.l 0 = fun _ _ _ => false := by funext k; simp [leadsTo]
    rw [e0]; exact HWk1
  have HAp := Lib.hid (fun (b off : Nat) (h1 : a' = some ⟨b, off, none⟩) (h2 : 0 < (dist t.ways.l).length) => ways_apart HWk1.out HS1.out h2 b off h1)
  have hc4 := cell_at HTB1.out 4
  simp only [List.getElem?_toArray, List.getElem?_cons_succ, List.getElem?_cons_zero] at hc4
  go_wp2_with fail
  clear hc4
  go_loopw [18] (fun i wr => ∃ n : Nat, n ≤ t.legs.l.length ∧ i = .int .i64 n ∧ Hid (TB wr w.heap.size t) ∧ Hid (Wk wr (w.heap.size + 1) t (leadsTo t r.l n)) ∧ Hid (Ext w wr) ∧ Hid (DExt (w.heap.size + 1) w1 wr)) (fun i _ => t.legs.l.length - (intOf i).toNat)
  case atStart => exact ⟨0, Nat.zero_le _, rfl, HTB1, HWk1z, HX1, DExt.refl _ _⟩
  case round =>
    clear HTB1 HWk1 HX1 HWk1z
    obtain ⟨wo, rfl⟩ : ∃ wo : World, wo = wr := ⟨_, rfl⟩
    obtain ⟨n, hn, rfl, HTB, HWk, HX, HD⟩ := hrel
    by_cases hlt : n < t.legs.l.length
    · have dn : decide ((n : Int) < (t.legs.l.length : Int)) = true := by simpa using hlt
      obtain ⟨b, off, hla, hc⟩ := HL3.out.resolve_left (by omega)
      have c0 := HX.out.cell (hc n hlt 0 (by omega))
      have c1 := HX.out.cell (hc n hlt 1 (by omega))
      have hxm : t.legs.l[n] ∈ t.legs.l := List.getElem_mem hlt
      have hLn : leadsOf t r.l n = leadF (dist t.ways.l) (legMean t r.l t.legs.l[n]).1 (legMean t r.l t.legs.l[n]).2 := by unfold leadsOf; simp [hlt]
      generalize t.legs.l[n] = x at *
      have HXm := Lib.hid hxm; clear hxm
      have HLn := Lib.hid hLn; clear hLn
      simp only [legC, if_true, if_neg (show ¬ (1 : Nat) = 0 by omega), Nat.add_zero] at c0 c1
      have i0 : (0 : Int) ≤ n := by omega
      have i1 : (n : Int) < 10 := by omega
      rw [hla]
      go_wp2_with fail
      have HLa := Lib.hid hla; clear hla
      have hle : Ext wo (wo.alloc (.cells #[.int .i64 (x.1 : Int), .int .i64 x.2] 86)) := (Ext.refl wo).alloc _
      have hn1 := World.alloc_heap_new wo (.cells #[.int .i64 (x.1 : Int), .int .i64 x.2] 86)
      have hvs : (wo.alloc (.cells #[.int .i64 (x.1 : Int), .int .i64 x.2] 86)).heap.size = wo.heap.size + 1 := World.size_alloc _ _
      generalize wo.alloc (.cells #[.int .i64 (x.1 : Int), .int .i64 x.2] 86) = V at *
      have v0 := cell_at hn1 0
      have v1 := cell_at hn1 1
      have t0 := cell_at (hle.block HTB.out) 0
      have t1 := cell_at (hle.block HTB.out) 1
      have t2 := cell_at (hle.block HTB.out) 2
      have t3 := cell_at (hle.block HTB.out) 3
      have t4 := cell_at (hle.block HTB.out) 4
      simp only [List.getElem?_toArray, List.getElem?_cons_succ, List.getElem?_cons_zero] at v0 v1 t0 t1 t2 t3 t4
      have HW := Lib.hid (HX.out.size)
      have HVw : Hid (Ext w V) := HX.out.trans hle
      have HSV : Hid (∀ V', DExt (w.heap.size + 1) V V' → IsSl 3 wayC V' ⟨a', c', dist t.ways.l⟩) := fun V' h' => sl_dext HS1.out ((HD.out.ext hle).trans h') (fun b' off' h1 h2 => HAp.out b' off' h1 h2)
      have HWV : Hid (Wk V (w.heap.size + 1) t (leadsTo t r.l n)) := HWk.out.ext hle
      have HTV : Hid (TB V w.heap.size t) := hle.block HTB.out
      have HDV : Hid (DExt (w.heap.size + 1) w1 V) := HD.out.ext hle
      have hlt2 := lt_of_cell v0
      have HPl := Lib.hid (show w.heap.size + 1 < wo.heap.size by obtain ⟨cs0, q0, _⟩ := HWk.out; exact (Array.getElem?_eq_some_iff.1 q0).1)
      clear c0 c1 hc hn1 HTB HWk HX HD
      have KS : Hid (∀ V', DExt (w.heap.size + 1) V V' → V'.cell? ⟨w.heap.size, 0, none⟩ = some (.int .i64 (t.P : Int)) ∧ V'.cell? ⟨w.heap.size, 1, none⟩ = some (.slice t.ways.a t.ways.l.length t.ways.c) ∧ V'.cell? ⟨w.heap.size, 2, none⟩ = some (.slice t.words.a t.words.l.length t.words.c) ∧
          V'.cell? ⟨w.heap.size, 3, none⟩ = some (.slice t.starts.a t.starts.l.length t.starts.c) ∧ V'.cell? ⟨w.heap.size, 4, none⟩ = some (.slice t.legs.a t.legs.l.length t.legs.c) ∧ V'.cell? ⟨wo.heap.size, 0, none⟩ = some (.int .i64 (x.1 : Int)) ∧ V'.cell? ⟨wo.heap.size, 1, none⟩ = some (.int .i64 x.2)) := by
        intro V' h'
        have hp := HPl.out
        exact ⟨h'.cell t0 (by show w.heap.size ≠ _; omega), h'.cell t1 (by show w.heap.size ≠ _; omega), h'.cell t2 (by show w.heap.size ≠ _; omega), h'.cell t3 (by show w.heap.size ≠ _; omega), h'.cell t4 (by show w.heap.size ≠ _; omega), h'.cell v0 (by show wo.heap.size ≠ _; omega), h'.cell v1 (by show wo.heap.size ≠ _; omega)⟩
      clear v0 v1 t0 t1 t2 t3 t4 hlt2 hle
      go_region_held3 (fun V' => V'.cell? ⟨w.heap.size, 0, none⟩ = some (.int .i64 (t.P : Int)) ∧ V'.cell? ⟨w.heap.size, 1, none⟩ = some (.slice t.ways.a t.ways.l.length t.ways.c) ∧ V'.cell? ⟨w.heap.size, 2, none⟩ = some (.slice t.words.a t.words.l.length t.words.c) ∧
          V'.cell? ⟨w.heap.size, 3, none⟩ = some (.slice t.starts.a t.starts.l.length t.starts.c) ∧ V'.cell? ⟨w.heap.size, 4, none⟩ = some (.slice t.legs.a t.legs.l.length t.legs.c) ∧ V'.cell? ⟨wo.heap.size, 0, none⟩ = some (.int .i64 (x.1 : Int)) ∧ V'.cell? ⟨wo.heap.size, 1, none⟩ = some (.int .i64 x.2))
        ((refine KS.out _ ?_; repeat (first | exact DExt.refl _ _ | exact X2.out | exact X1.out | refine dext_setCells ?_ _ _ | refine DExt.drew' ?_)))
        (first
          | (go_at_call 111; refine (meaning_leg t x r _ (HT.out.ext HVw.out.drew) HK.out (HR.out.ext HVw.out.drew) HRd.out HXm.out).mono ?_; rintro e v1 ⟨m, rfl, hk1, he1, hm1, hx1⟩; have X1 : Hid (DExt (w.heap.size + 1) V v1) := (DExt.refl _ _).drew'.ext hx1; have Y1 : Hid (Ext V v1) := (Ext.refl V).drew.trans hx1; have HK1 := Lib.hid hk1; have HE1 := Lib.hid he1; have HM1 := Lib.hid hm1; clear hk1 he1 hm1 hx1)
          | (go_at_call 110; refine (follow_any a' _ c' (dist t.ways.l) m _ rfl HDl.out (HSV.out _ X1.out) HM1.out HW12.out).mono ?_; rintro e v2 ⟨cs, rfl, hcs, hce, hx2⟩; obtain ⟨l, rfl⟩ : ∃ l : List Value, cs = l.toArray := ⟨cs.toList, by simp⟩; have X2 : Hid (DExt (w.heap.size + 1) V v2) := X1.out.ext hx2; have Y2 : Hid (Ext V v2) := Y1.out.trans hx2; have hl144 : Hid (l.length = 144) := hcs; have hinf : (Tryz.prog.info? 132).map (·.size) = some l.length := (by rw [hl144.out]; kernel_rfl); have h1c : ∀ v ∈ l, v.oneCell' = true := one_of_tab hl144.out hce; have hth : v2.there (w.heap.size + 1) (5 + n * 144) l.length := (by rw [hl144.out]; exact (HWV.out.ext Y2.out).there n (by omega)); have hth2 : v2.there (w.heap.size + 1) (5 + n * 144) 144 := (HWV.out.ext Y2.out).there n (by omega); have HCE := Lib.hid hce; clear hcs hce hx2))
      go_wp2_with fail
      go_roundw
      case rel =>
        have hp := HPl.out
        refine ⟨n + 1, by omega, by go_num, ?_, ?_, ?_, ?_⟩
        · exact heap_setCells_other (Y2.out.block HTV.out) _ _ (by omega)
        · refine (HWV.out.ext Y2.out).set n (by omega) l hl144.out (leadsOf t r.l n) (fun f g hf hg => ?_) (leadsTo t r.l (n + 1)) (fun k => ?_)
          · rw [HLn.out, ← HK1.out, ← HE1.out]; have := HCE.out f g hf hg; simpa using this
          · unfold leadsTo
            by_cases e : k = n
            · rw [if_pos e, if_pos (by omega), e]
            · rw [if_neg e]
              by_cases e2 : k < n
              · rw [if_pos e2, if_pos (by omega)]
              · rw [if_neg e2, if_neg (by omega)]
        · exact Ext.of (below_setCells (HVw.out.trans Y2.out) (by omega) _ _)
        · exact dext_setCells ((HDV.out).trans X2.out) _ _
      case measure => simp [intOf]; omega
    · have hne : n = t.legs.l.length := by omega
      subst hne
      go_wp2
      go_ret
      refine ⟨_, rfl, ?_, HX.out, Nat.le_succ _⟩
      have e0 : leadsTo t r.l t.legs.l.length = leadsOf t r.l := by
        funext k
        unfold leadsTo leadsOf
        by_cases e : k < t.legs.l.length
        · rw [if_pos e]
        · rw [if_neg e]; simp [List.getElem?_eq_none (Nat.le_of_not_lt e)]
      rw [← e0]; exact HWk.out.is
end Go.Proofs.YtdejaliegbmgaaaGreat

namespace Go.Proofs.YtdejaliegbmgaaaGreat
open Go.RowKit

/-- A treaty at work in block p that answers where legs can lead: L. -/
structure WorkAt (w : World) (p : Nat) (t : TV) (L : Nat → Nat → Nat → Bool) : Prop where
  c0 : w.cell? ⟨p, 0, none⟩ = some (.int .i64 (t.P : Int))
  c3 : w.cell? ⟨p, 3, none⟩ = some (.slice t.starts.a t.starts.l.length t.starts.c)
  c4 : w.cell? ⟨p, 4, none⟩ = some (.slice t.legs.a t.legs.l.length t.legs.c)
  lead : ∀ w', Ext w w' → ∀ k f g : Nat, k < 10 → f < 12 → g < 12 → Calls Tryz.prog 75 #[.pointer (some ⟨p, 0, none⟩), .int .i64 (k : Int), .int .i64 (f : Int), .int .i64 (g : Int)] w' fun e w'' => e = .returned (.bool (L k f g)) ∧ w' = w''

set_option maxRecDepth 100000 in
set_option maxHeartbeats 4000000 in
theorem openW_any (p : Nat) (t : TV) (L : Nat → Nat → Nat → Bool) (w : World) (hw : WorkAt w p t L) (hP12 : t.P ≤ 12) (hN10 : t.legs.l.length ≤ 10) :
    Calls Tryz.prog 113 #[.pointer (some ⟨p, 0, none⟩)] w fun e w' => ∃ cs : Array Value, e = .returned (.agg cs) ∧ cs.size = 132 ∧ (∀ f g, f < 11 → g < 12 → cs[f * 12 + g]? = some (.bool (openK L t.P t.legs.l.length t.legs.l.length f g))) ∧ Ext w w' := by
  have HW := Lib.hid hw
  have hc0 := hw.c0
  have hc4 := hw.c4
  clear hw
  have HCW : Hid (w.cell? ⟨p, 0, none⟩ = some (.int .i64 (t.P : Int)) ∧ w.cell? ⟨p, 4, none⟩ = some (.slice t.legs.a t.legs.l.length t.legs.c)) := ⟨hc0, hc4⟩
  have hpw := lt_of_cell hc0
  dsimp only at hpw
  generalize hN : t.legs.l.length = N at *
  generalize hPP : t.P = P at *
  have HN := Lib.hid hN; clear hN
  have HPP := Lib.hid hPP; clear hPP
  have hT0 := zeroMrk (w.alloc (.cells Tryz.zeroCells147 147))
  rw [World.size_alloc] at hT0
  have HT0 := Lib.hid hT0; clear hT0
  have HB0 : Hid (OB w ((w.alloc (.cells Tryz.zeroCells147 147)).alloc (.cells Tryz.zeroCells147 147))) := ((Ext.refl _).alloc _).laid
  have HE0 : Hid (Ext w ((w.alloc (.cells Tryz.zeroCells147 147)).alloc (.cells Tryz.zeroCells147 147))) := ((Ext.refl w).alloc _).alloc _
  go_enter Tryz.func113, Tryz.ntmps113
  go_wp2_with fail
  go_loopw [16] (fun i wr => ∃ k : Nat, k ≤ P ∧ i = .int .i64 k ∧ Hid (Mrk wr (w.heap.size + 1) (openS N k)) ∧ Hid (OB w wr) ∧ Hid (Ext w wr)) (fun i _ => P - (intOf i).toNat)
  case atStart => exact ⟨0, Nat.zero_le _, rfl, HT0, HB0, HE0⟩
  case round =>
    obtain ⟨k, hk, rfl, HT, HB, HX⟩ := hrel
    have hl4 := HX.out.cell HCW.out.2
    have hTl := HT.out.lt
    by_cases hlt : k < P
    · have dk : decide ((k : Int) < (P : Int)) = true := by simpa using hlt
      have g1 := HT.out.cell N k (by omega) (by omega)
      have f1 := HT.out.frozen (N * 12 + k)
      have i1 : (0 : Int) ≤ k := by omega
      have i2 : (k : Int) < 12 := by omega
      have i3 : (0 : Int) ≤ N := by omega
      have i4 : (N : Int) < 11 := by omega
      generalize openS N k N k = v1 at g1
      go_wp2
      go_roundw
      case rel => exact ⟨k + 1, by omega, by go_num, HT.out.set N k (by omega) (by omega) true, HB.out.set _ _, HX.out.setCell (by show w.heap.size ≤ w.heap.size + 1; omega) _⟩
      case measure => simp [intOf]; omega
    · have hke : k = P := by omega
      subst hke
      clear hc0 hc4
      go_wp2_with fail
      go_loopw [6] (fun i wr => ∃ r j : Nat, r + j = N ∧ i = .int .i64 ((r : Int) - 1) ∧ Hid (Mrk wr (w.heap.size + 1) (openK L k N j)) ∧ Hid (OB w wr) ∧ Hid (Ext w wr)) (fun i _ => (intOf i + 1).toNat)
      case atStart => exact ⟨N, 0, by omega, rfl, HT, HB, HX⟩
      case round =>
        clear HT HB HX hl4 hTl
        obtain ⟨wo, rfl⟩ : ∃ wo : World, wo = wr := ⟨_, rfl⟩
        obtain ⟨r, j, hrj, rfl, HT, HB, HX⟩ := hrel
        have hTl := HT.out.lt
        cases r with
        | succ q =>
          have eq1 : (((q + 1 : Nat) : Int) - 1) = (q : Int) := by omega
          rw [eq1]
          clear eq1
          have hcp := HX.out.cell HCW.out.1
          have hqN : q < 10 := by omega
          have dq : decide ((0 : Int) ≤ (q : Int)) = true := decide_eq_true (by omega)
          have hqj : N - (j + 1) = q := by omega
          have HQJ := Lib.hid hqj; clear hqj
          have HRJ := Lib.hid hrj; clear hrj
          go_wp2_with fail
          go_loopw [45] (fun i wr => ∃ f : Nat, f ≤ k ∧ i = .int .i64 f ∧ Hid (Mrk wr (w.heap.size + 1) (openF L k q f (openK L k N j))) ∧ Hid (OB w wr) ∧ Hid (Ext w wr)) (fun i _ => k - (intOf i).toNat)
          case atStart => exact ⟨0, by omega, rfl, HT, HB, HX⟩
          case round =>
            clear HT HB HX hTl hcp
            obtain ⟨wx, rfl⟩ : ∃ wx : World, wx = wr := ⟨_, rfl⟩
            obtain ⟨f, hf, rfl, HT, HB, HX⟩ := hrel
            have hcp := HX.out.cell HCW.out.1
            by_cases hltf : f < k
            · have df : decide ((f : Int) < (k : Int)) = true := by simpa using hltf
              go_wp2_with fail
              go_loopw [53] (fun i wr => ∃ g : Nat, g ≤ k ∧ i = .int .i64 g ∧ Hid (Mrk wr (w.heap.size + 1) (openG L q f g (openF L k q f (openK L k N j)))) ∧ Hid (OB w wr) ∧ Hid (Ext w wr)) (fun i _ => k - (intOf i).toNat)
              case atStart => exact ⟨0, by omega, rfl, HT, HB, HX⟩
              case round =>
                clear HT HB HX hcp
                obtain ⟨g, hg, rfl, HT, HB, HX⟩ := hrel
                by_cases hltg : g < k
                · have dg : decide ((g : Int) < (k : Int)) = true := by simpa using hltg
                  have g1 := HT.out.cell (q + 1) g (by omega) (by omega)
                  have g2 := HT.out.cell q f (by omega) (by omega)
                  have f2 := HT.out.frozen (q * 12 + f)
                  have HCL := Lib.hid (HW.out.lead wr HX.out q f g hqN (by omega) (by omega))
                  have i1 : (0 : Int) ≤ q := by omega
                  have i2 : (q : Int) < 11 := by omega
                  have i3 : (0 : Int) ≤ f := by omega
                  have i4 : (f : Int) < 12 := by omega
                  have i5 : (0 : Int) ≤ g := by omega
                  have i6 : (g : Int) < 12 := by omega
                  have i7 : (0 : Int) ≤ (q : Int) + 1 := by omega
                  have i8 : (q : Int) + 1 < 11 := by omega
                  have hst := openG_succ L q f g (openF L k q f (openK L k N j))
                  generalize openG L q f g (openF L k q f (openK L k N j)) = T at *
                  have HS := Lib.hid hst; clear hst
                  generalize T q f = v2 at g2
                  cases hA : T (q + 1) g
                  · rw [hA] at g1
                    have HS2 : Hid (openG L q f (g + 1) (openF L k q f (openK L k N j)) = T) := by have := HS.out; rw [hA] at this; simpa [Hid] using this
                    clear hA
                    go_wp2
                    go_roundw
                    case rel => exact ⟨g + 1, by omega, by go_num, by rw [HS2.out]; exact HT, HB, HX⟩
                    case measure => simp [intOf]; omega
                  · rw [hA] at g1
                    cases hB : L q f g
                    · have HS2 : Hid (openG L q f (g + 1) (openF L k q f (openK L k N j)) = T) := by have := HS.out; rw [hA, hB] at this; simpa [Hid] using this
                      rw [hB] at HCL
                      clear hA hB
                      go_wp2_with (go_at_call 75; refine HCL.out.mono ?_; rintro e w' ⟨rfl, rfl⟩)
                      go_roundw
                      case rel => exact ⟨g + 1, by omega, by go_num, by rw [HS2.out]; exact HT, HB, HX⟩
                      case measure => simp [intOf]; omega
                    · have HS2 : Hid (openG L q f (g + 1) (openF L k q f (openK L k N j)) = upd T q f true) := by have := HS.out; rw [hA, hB] at this; simpa [Hid] using this
                      rw [hB] at HCL
                      clear hA hB
                      go_wp2_with (go_at_call 75; refine HCL.out.mono ?_; rintro e w' ⟨rfl, rfl⟩)
                      go_roundw
                      case rel => exact ⟨g + 1, by omega, by go_num, by rw [HS2.out]; exact HT.out.set q f (by omega) (by omega) true, HB.out.set _ _, HX.out.setCell (by show w.heap.size ≤ w.heap.size + 1; omega) _⟩
                      case measure => simp [intOf]; omega
                · have hge : g = k := by omega
                  subst hge
                  go_wp2
                  go_roundw
                  case rel => exact ⟨f + 1, by omega, by go_num, HT, HB, HX⟩
                  case measure => simp [intOf]; omega
            · have hfe : f = k := by omega
              subst hfe
              go_wp2
              go_roundw
              case rel => exact ⟨q, j + 1, by have := HRJ.out; omega, rfl, by show Mrk _ _ (openF L f (N - (j + 1)) f (openK L f N j)); rw [HQJ.out]; exact HT.out, HB, HX⟩
              case measure => simp [intOf]
        | zero =>
          have hjN : j = N := by omega
          have HJN := Lib.hid hjN; clear hjN hrj
          obtain ⟨cs, hcs, hsz, hce⟩ := HT.out
          have HCE := Lib.hid hce; clear hce
          have HCS := Lib.hid hcs; clear hcs
          have hinf : (Tryz.prog.info? 147).map (·.size) = some cs.size := by rw [hsz]; kernel_rfl
          have HInf := Lib.hid hinf; clear hinf
          have HSz := Lib.hid hsz; clear hsz
          have HOne := Lib.hid (mrk_one HSz.out HCE.out)
          have hzs : Tryz.zeroCells147.size = cs.size := by rw [HSz.out]; kernel_rfl
          have HZs := Lib.hid hzs; clear hzs
          go_wp2_with (first | (refine wpList_load_row rfl 147 (.tmp 4) rfl (w.heap.size + 1) rfl 147 cs (0, 0) _ HCS.out Tryz.underlying147 rfl HInf.out ?_) | (refine wpList_store_row rfl 147 (.tmp 2) (.tmp 75) rfl w.heap.size cs rfl rfl 147 Tryz.zeroCells147 HB.out HInf.out HZs.out HOne.out ?_))
          refine bodyPost_ret (v := .agg cs) (results_cell_row rfl _ _ w.heap.size 147 cs (0, 0) _ rfl (setRow_heap _ _ _ _ _ _ HB.out) Tryz.underlying147 rfl HInf.out) rfl ?_
          refine ⟨cs, rfl, HSz.out, fun f' g' hf' hg' => ?_, HX.out.setRow (Nat.le_refl _) _⟩
          rw [HCE.out f' g' hf' hg', HJN.out]

set_option maxRecDepth 100000 in
set_option maxHeartbeats 1000000 in
theorem hasLineW_any (p : Nat) (t : TV) (L : Nat → Nat → Nat → Bool) (w : World) (hw : WorkAt w p t L) (ht : IsSl 1 num w t.starts) (hP12 : t.P ≤ 12) (hN10 : t.legs.l.length ≤ 10) (hst : ∀ x ∈ t.starts.l, x < t.P) :
    Calls Tryz.prog 89 #[.pointer (some ⟨p, 0, none⟩)] w fun e w' => e = .returned (.bool (hasB t L)) ∧ Ext w w' := by
  have HO := Lib.hid (openW_any p t L w hw hP12 hN10)
  have HT := Lib.hid ht; clear ht
  have HST := Lib.hid hst; clear hst
  have hc3 := hw.c3
  clear hw
  have HC3 := Lib.hid hc3
  have hpw := lt_of_cell hc3
  dsimp only at hpw
  go_enter Tryz.func89, Tryz.ntmps89
  go_wp2_with fail
  refine HO.out.mono ?_
  rintro e w1 ⟨cs, rfl, hsz, hce, hx⟩
  have HSz := Lib.hid hsz; clear hsz
  have HCE := Lib.hid hce; clear hce
  have HX := Lib.hid hx
  have hinf : (Tryz.prog.info? 147).map (·.size) = some cs.size := by rw [HSz.out]; kernel_rfl
  have HInf := Lib.hid hinf; clear hinf
  have HOne := Lib.hid (mrk_one HSz.out HCE.out)
  have hzs : Tryz.zeroCells147.size = cs.size := by rw [HSz.out]; kernel_rfl
  have HZs := Lib.hid hzs; clear hzs
  have hc3' := hx.cell hc3
  have hpw1 := lt_of_cell hc3'
  dsimp only at hpw1
  clear hx
  have hN0 := World.alloc_heap_new w1 (.cells Tryz.zeroCells147 147)
  have HN0 := Lib.hid hN0; clear hN0
  have e3 : Ext w1 ((w1.alloc (.cells Tryz.zeroCells147 147)).setRow w1.heap.size cs) := ((Ext.refl w1).alloc _).setRow (Nat.le_refl _) cs
  have hcs3 := e3.cell hc3'
  have hrow3 : ((w1.alloc (.cells Tryz.zeroCells147 147)).setRow w1.heap.size cs).heap[w1.heap.size]? = some (.cells cs 147 (0, 0)) := setRow_heap _ _ _ _ _ _ HN0.out
  have hM3 : Mrk ((w1.alloc (.cells Tryz.zeroCells147 147)).setRow w1.heap.size cs) w1.heap.size (openK L t.P t.legs.l.length t.legs.l.length) := ⟨cs, hrow3, HSz.out, HCE.out⟩
  have E3 := Lib.hid (HX.out.trans e3); clear e3 hrow3
  have HM3 := Lib.hid hM3; clear hM3
  go_wp2_with (first
    | (refine wpList_store_row rfl 147 (.tmp 3) (.tmp 5) rfl w1.heap.size cs rfl rfl 147 Tryz.zeroCells147 HN0.out HInf.out HZs.out HOne.out ?_; generalize (w1.alloc (.cells Tryz.zeroCells147 147)).setRow w1.heap.size cs = W3 at *)
    | (go_at_call 122; refine (containsFunc_any 123 _ (fun x => x < 12) (fun x => openK L t.P t.legs.l.length t.legs.l.length 0 x) _ _ _ t.starts.l _ enters_123 rfl (HT.out.ext E3.out) (fun x hx w' hw' => ?_) (fun x hx => Nat.lt_of_lt_of_le (HST.out x hx) hP12)).mono ?_))
  · refine (hasLine1_any x w1.heap.size _ w' (HM3.out.ext hw') hx).mono ?_
    rintro e w'' ⟨rfl, rfl⟩
    exact ⟨rfl, Ext.refl _⟩
  · rintro e w4 ⟨rfl, hx4⟩
    have HX4 := Lib.hid (E3.out.trans hx4); clear hx4
    have hb : (t.starts.l.any fun x => openK L t.P t.legs.l.length t.legs.l.length 0 x) = hasB t L := rfl
    rw [hb]
    clear hb
    generalize hr : hasB t L = r
    have HR := Lib.hid hr; clear hr
    go_wp2
    go_ret
    exact ⟨by rw [HR.out]; rfl, HX4.out⟩
end Go.Proofs.YtdejaliegbmgaaaGreat
