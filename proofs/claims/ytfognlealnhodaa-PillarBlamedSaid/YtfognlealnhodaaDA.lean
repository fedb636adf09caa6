/-
  drawn, of the statements on pillars, draws a truth of a profile, and a bend, of a deck: the heights lie in new memory; the deck alone is turned. The profile must lie in memory as told, not where the deck lies.
-/
import Derived.Test.YtfognlealnhodaaR
import Derived.Test.YtfognlealnhodaaG
namespace Go.Proofs.Ytfognlealnhodaa
open Go.RowKit

/-- A number of a span, as it is drawn. -/
theorem inB_of {r : Int} {s : Nat × Nat} (hs : s.1 ≤ s.2) (h1 : (s.1 : Int) ≤ r) (h2 : r ≤ (s.2 : Int) ∨ r = (s.1 : Int)) : ∃ x : Nat, r = (x : Int) ∧ inB x s = true := by
  refine ⟨r.toNat, by omega, ?_⟩
  simp only [inB, Bool.and_eq_true, decide_eq_true_eq]
  omega

theorem truthTo_snoc {out : List Nat} {g : List (Nat × Nat)} {q x : Nat} (hl : out.length = q) (h : truthTo out g q = true) {sp : Nat × Nat} (hg : g[q]? = some sp) (hx : inB x sp = true) : truthTo (out ++ [x]) g (q + 1) = true := by
  rw [truthTo_true]
  intro k hk
  rcases Nat.lt_succ_iff_lt_or_eq.1 hk with h' | rfl
  · rw [List.getElem?_append_left (by omega)]; exact truthTo_true.1 h k h'
  · rw [List.getElem?_append_right (by omega), hl, Nat.sub_self, hg]; exact hx
theorem IsDeck.bytes {w : World} {D n c k : Nat} {a : Option Addr} (h : IsDeck w D a n c k) : ∀ b off, a = some ⟨b, off, none⟩ → 0 < n → b < w.heap.size := by
  intro b off ha hn
  obtain ⟨s, h1, h2, ⟨h3, h4, h5⟩, h6⟩ := h
  obtain ⟨b', off', ha', hc⟩ := h5.resolve_left (by omega)
  rw [ha] at ha'
  simp only [Option.some.injEq, Addr.mk.injEq, and_true] at ha'
  obtain ⟨rfl, rfl⟩ := ha'
  obtain ⟨x, _, hx⟩ := hc 0 hn
  refine Nat.lt_of_not_le fun hle => ?_
  simp [World.cell?, Array.getElem?_eq_none hle] at hx

set_option maxRecDepth 100000 in
set_option maxHeartbeats 2000000 in
theorem drawn_any (D : Nat) (a : Option Addr) (n c k : Nat) (v : PV) (w : World) (hd : IsDeck w D a n c k) (hk : k ≤ 900000) (hp : IsP w v) (hn : v.gr.l.length ≤ 40) (hg : ∀ s ∈ v.gr.l, s.1 ≤ s.2 ∧ s.2 ≤ 1000) (hb : v.lo ≤ v.hi ∧ v.hi ≤ 1000) (hD : ∀ b off, v.gr.a = some ⟨b, off, none⟩ → b ≠ D) :
    Calls Try.prog 16 #[.pointer (some ⟨D, 0, none⟩), v.v] w fun e w' => ∃ (a' : Option Addr) (c' : Nat) (out : List Nat) (bend k' : Nat), e = .returned (.tuple #[.slice a' out.length c', .int .i64 (bend : Int)]) ∧ w'.ownsRow w.heap.size 3 1 (.slice a' out.length c') out.length (nums out) ∧ out.length = v.gr.l.length ∧ truthTo out v.gr.l out.length = true ∧ inB bend (v.lo, v.hi) = true ∧ IsDeck w' D a n c k' ∧ k' ≤ k + v.gr.l.length + 1 ∧ Keep (fun x => x ≠ D) w w' := by
  obtain ⟨i0, hi, hz0, hz1, hz2⟩ := info_parts info3
  have HF := Lib.hid (five_new w v)
  have HX := Lib.hid ((Ext.refl w).alloc (.cells #[.slice v.at'.a v.at'.l.length v.at'.c, .slice v.gr.a v.gr.l.length v.gr.c, .int .i64 (v.T : Int), .int .i64 (v.lo : Int), .int .i64 (v.hi : Int)] 30))
  have HG := Lib.hid hp.gr
  have HDk := Lib.hid hd
  have HGb := Lib.hid hg
  have HB := Lib.hid hb
  have HD := Lib.hid hD
  have HDl : Hid (D < w.heap.size) := hd.lt
  have HBy := Lib.hid hd.bytes
  clear hp hd hg hb hD
  obtain ⟨c0, c1, c2, c3, c4⟩ := HF.out
  go_enter Try.func16, Try.ntmps16
  go_wp2_with fail
  go_loopw [6, 12] (fun u i wr => ∃ (q : Nat) (a' : Option Addr) (c' : Nat) (out : List Nat) (k' : Nat), q ≤ v.gr.l.length ∧ i = .int .i64 q ∧ out.length = q ∧ u = .slice a' out.length c' ∧ k' ≤ k + q ∧ Hid (wr.ownsRow (w.heap.size + 1) 3 1 (.slice a' out.length c') out.length (nums out)) ∧ Hid (truthTo out v.gr.l q = true) ∧ Hid (IsDeck wr D a n c k') ∧ Hid (Keep (fun x => x ≠ D) (w.alloc (.cells #[.slice v.at'.a v.at'.l.length v.at'.c, .slice v.gr.a v.gr.l.length v.gr.c, .int .i64 (v.T : Int), .int .i64 (v.lo : Int), .int .i64 (v.hi : Int)] 30)) wr)) (fun _ i _ => v.gr.l.length - (intOf i).toNat)
  case atStart => exact ⟨0, none, 0, [], k, Nat.zero_le _, rfl, rfl, rfl, by omega, World.ownsRow_nil _ _ _ _, rfl, HDk.out.ext ((Ext.refl w).alloc _), Keep.refl _ _⟩
  case round =>
    obtain ⟨wo, rfl⟩ : ∃ wo : World, wo = wr := ⟨_, rfl⟩
    obtain ⟨q, a', c', out, k', hq, rfl, hol, rfl, hk', HO, HT, HDk2, HKp⟩ := hrel
    have HFo := HF.out
    have HOl := Lib.hid hol
    clear hol
    by_cases hlt : q < v.gr.l.length
    · obtain ⟨b2, off2, hga, hc2⟩ := HG.out.2.2.resolve_left (by omega)
      have hbd := HD.out b2 off2 hga
      have hsp : v.gr.l[q]? = some v.gr.l[q] := List.getElem?_eq_getElem hlt
      obtain ⟨hs1, hs2⟩ := HGb.out _ (List.getElem_mem hlt)
      have hcell1 : wo.cell? ⟨b2, off2 + q * 2, none⟩ = some (Value.int .i64 (v.gr.l[q].1 : Int)) := by have := HKp.out.cell (HX.out.cell (hc2 q hlt 0 (by omega))) hbd; simpa [spC] using this
      have hcell2 : wo.cell? ⟨b2, off2 + q * 2 + 1, none⟩ = some (Value.int .i64 (v.gr.l[q].2 : Int)) := by have := HKp.out.cell (HX.out.cell (hc2 q hlt 1 (by omega))) hbd; simpa [spC] using this
      clear hc2
      have HSp := Lib.hid hsp
      generalize v.gr.l[q] = sp at *
      clear hsp
      have HSz : Hid (w.heap.size + 1 ≤ wo.heap.size) := by have := HKp.out.size; rw [World.size_alloc] at this; exact this
      have HBt := Lib.hid (dbetween_any D a n c k' (sp.1 : Int) (sp.2 : Int) (wo.alloc (.cells #[.int .i64 (sp.1 : Int), .int .i64 (sp.2 : Int)] 28)) (HDk2.out.ext ((Ext.refl wo).alloc _)) (by omega) (by omega) (by omega) (by omega))
      rw [hga]
      go_wp2_with fail
      refine HBt.out.mono ?_
      rintro e w2 ⟨r, k2, hr1, hr2, hk2, rfl, hd2, hg2⟩
      obtain ⟨x, rfl, hx⟩ := inB_of hs1 hr1 hr2
      have hdl := HDl.out
      have hsz := HSz.out
      have HO2 : Hid (w2.ownsRow (w.heap.size + 1) 3 1 (.slice a' out.length c') out.length (nums out)) := (own_ext HO.out ((Ext.refl wo).alloc _)).kept hg2 (.inr fun e => by have := own_lt HO.out D e; omega)
      have HK2 : Hid (Keep (fun x => x ≠ D) (w.alloc (.cells #[.slice v.at'.a v.at'.l.length v.at'.c, .slice v.gr.a v.gr.l.length v.gr.c, .int .i64 (v.T : Int), .int .i64 (v.lo : Int), .int .i64 (v.hi : Int)] 30)) w2) := (HKp.out.alloc _).grown hg2 (fun k e _ => by cases e; exact fun h => h rfl)
      have HD2 := Lib.hid hd2
      have HS2 : Hid (w.heap.size + 1 ≤ w2.heap.size) := by have := hg2.size; rw [World.size_alloc] at this; show _ ≤ _; omega
      have HXi := Lib.hid hx
      have HN := Lib.hid (new_cells w2 (nums [x]) 3)
      have hol := HOl.out
      have hmx : out.length + 1 ≤ maxLen := by unfold maxLen; omega
      have hmb : (out.length + 1) * 8 ≤ 140737488355328 := by omega
      clear hol
      have hs2 := HS2.out
      have hb6 : w.heap.size + 1 ≤ (w2.alloc (.cells (nums [x]).toArray 3)).heap.size := by rw [World.size_alloc]; omega
      clear hg2 hd2 hx hr1 hr2 hcell1 hcell2
      go_wp2_with (at_builtin; go_must (refine wpList_append_own _ rfl _ _ 25 rfl (w.heap.size + 1) 3 i0 (.int .i64 0) 1 8 Try.underlying25 hi hz0 hz1 hz2 rfl (by decide) _ out.length (nums out) rfl (own_ext HO2.out ((Ext.refl w2).alloc _)) ⟨w2.heap.size, 0, none⟩ 1 1 (nums [x]) rfl rfl HN.out (nums_one [x]) hmx hmb hb6 ?_); intro v' w5 hown hgrow _)
      obtain ⟨a5, c5, rfl⟩ := own_form hown
      rw [← nums_append, show out.length + 1 = (out ++ [x]).length by simp] at hown
      have hK5 : Keep (fun x => x ≠ D) (w.alloc (.cells #[.slice v.at'.a v.at'.l.length v.at'.c, .slice v.gr.a v.gr.l.length v.gr.c, .int .i64 (v.T : Int), .int .i64 (v.lo : Int), .int .i64 (v.hi : Int)] 30)) w5 := (HK2.out.alloc _).grown hgrow (fun k e h => by have := own_lt HO2.out k e; rw [World.size_alloc] at h; omega)
      have hD5 : IsDeck w5 D a n c k2 := (HD2.out.ext ((Ext.refl w2).alloc _)).grown hgrow (own_lt HO2.out) (by omega) (fun b off ha h0 => by have := HBy.out b off ha h0; omega)
      have HO5 := Lib.hid hown
      clear hown hgrow
      have hol := HOl.out
      go_roundw
      case rel => exact ⟨q + 1, a5, c5, out ++ [x], k2, by omega, by go_num, by simp [hol], by simp, by omega, HO5.out, truthTo_snoc hol HT.out HSp.out HXi.out, hD5, by rw [← hga]; exact hK5⟩
      case measure => simp [intOf]; omega
    · obtain rfl : q = v.gr.l.length := by omega
      obtain ⟨b0, b1⟩ := HB.out
      obtain ⟨c0, c1, c2, c3, c4⟩ := HFo
      have hbd : w.heap.size ≠ D := by have := HDl.out; omega
      have c3' : wo.cell? ⟨w.heap.size, 3, none⟩ = some (.int .i64 (v.lo : Int)) := HKp.out.cell c3 hbd
      have c4' : wo.cell? ⟨w.heap.size, 4, none⟩ = some (.int .i64 (v.hi : Int)) := HKp.out.cell c4 hbd
      clear c0 c1 c2 c3 c4 hbd
      have HBt := Lib.hid (dbetween_any D a n c k' (v.lo : Int) (v.hi : Int) wo HDk2.out (by omega) (by omega) (by omega) (by omega))
      go_wp2_with fail
      refine HBt.out.mono ?_
      rintro e w2 ⟨r, k2, hr1, hr2, hk2, rfl, hd2, hg2⟩
      obtain ⟨x, rfl, hx⟩ := inB_of (s := (v.lo, v.hi)) b0 hr1 hr2
      have HO2 : Hid (w2.ownsRow (w.heap.size + 1) 3 1 (.slice a' out.length c') out.length (nums out)) := HO.out.kept hg2 (.inr fun e => by have := own_lt HO.out D e; have := HDl.out; omega)
      have HK2 : Hid (Keep (fun x => x ≠ D) w w2) := Keep.trans (Keep.of_ext HX.out) (HKp.out.grown hg2 (fun k e _ => by cases e; exact fun h => h rfl))
      have HD2 := Lib.hid hd2
      have HXi := Lib.hid hx
      clear hg2 hd2 hx hr1 hr2
      go_wp2
      go_ret2
      have hol := HOl.out
      exact ⟨a', c', out, x, k2, rfl, own_mono HO2.out (by omega), hol, by rw [hol]; exact HT.out, HXi.out, HD2.out, by omega, HK2.out⟩
end Go.Proofs.Ytfognlealnhodaa
