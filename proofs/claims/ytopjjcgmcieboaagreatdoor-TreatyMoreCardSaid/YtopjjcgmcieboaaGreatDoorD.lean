/-
  Several texts in one. The questions that Check of package treaty asks of each meaning, leg and word are answered as the text says, and nothing that was there is turned. The treaty must lie in memory as told. Parts of Check of package treaty answer that all is well for a treaty that is valid, and turn nothing that was there. The treaty must lie in memory as told, and be valid.
-/
import Derived.Test.YtopjjcgmcieboaaGreatDoorB
namespace Go.Proofs.YtopjjcgmcieboaaGreatDoor
open Go.RowKit

def IsMean (w : World) (m : MV) : Prop := IsSl 1 num w m.k ∧ IsSl 1 num w m.e
def IsWord (w : World) (s : SL MV) : Prop := IsSl 2 meanC w s ∧ ∀ m ∈ s.l, IsMean w m
theorem IsMean.ext {w w' : World} {m : MV} (h : IsMean w m) (k : Ext w w') : IsMean w' m := ⟨h.1.ext k, h.2.ext k⟩
theorem IsWord.ext {w w' : World} {s : SL MV} (h : IsWord w s) (k : Ext w w') : IsWord w' s := ⟨h.1.ext k, fun m hm => (h.2 m hm).ext k⟩

theorem cell_at {w : World} {b : Nat} {cs : Array Value} {T : TypeId} {fr : Nat × Nat} (h : w.heap[b]? = some (.cells cs T fr)) (i : Nat) : w.cell? ⟨b, i, none⟩ = cs[i]? := by
  simp [World.cell?, h]
/-- A block that was just laid, behind whatever else has extended the world. -/
theorem Ext.laid {w w1 : World} {o : Obj} (h : Ext (w.alloc o) w1) : w1.heap[w.heap.size]? = some o := h.block (World.alloc_heap_new w o)
theorem Ext.unlaid {w w1 : World} {o : Obj} (h : Ext (w.alloc o) w1) : Ext w w1 := ((Ext.refl w).alloc o).trans h

theorem check1_any (m : MV) (x : Int) (hx : 0 ≤ x ∧ x ≤ 1000000) (b b2 : Nat) (w : World) (hm : IsMean w m)
    (hc : w.cell? ⟨b, 0, none⟩ = some (.func (.func 101) #[] #[.pointer (some ⟨b2, 0, none⟩)])) (hc2 : w.cell? ⟨b2, 0, none⟩ = some (.int .i64 x)) :
    Calls Tryz.prog 63 #[meanV m, .pointer (some ⟨b, 0, none⟩)] w fun e w' => e = .returned (.bool (m.k.l.all (lessB x))) ∧ Ext w w' := by
  have HC2 := Lib.hid hc2; clear hc2
  have HM := Lib.hid hm; clear hm
  have hb := lt_of_cell hc
  go_enter Tryz.func63, Tryz.ntmps63
  go_wp2_with fail
  refine (isAll_ok x hx b2 _ (((Ext.refl w).alloc _).cell HC2.out) _ _ _ m.k.l rfl (HM.out.1.ext ((Ext.refl w).alloc _))).mono ?_
  rintro e w1 ⟨rfl, hx1⟩
  have HX1 := Lib.hid (((Ext.refl w).alloc _).trans hx1); clear hx1
  go_wp2
  go_ret
  exact ⟨rfl, HX1.out⟩

theorem check2_any (m : MV) (x : Int) (hx : 0 ≤ x ∧ x ≤ 1000000) (b b2 : Nat) (w : World) (hm : IsMean w m)
    (hc : w.cell? ⟨b, 0, none⟩ = some (.func (.func 101) #[] #[.pointer (some ⟨b2, 0, none⟩)])) (hc2 : w.cell? ⟨b2, 0, none⟩ = some (.int .i64 x)) :
    Calls Tryz.prog 65 #[meanV m, .pointer (some ⟨b, 0, none⟩)] w fun e w' => e = .returned (.bool (m.e.l.all (lessB x))) ∧ Ext w w' := by
  have HC2 := Lib.hid hc2; clear hc2
  have HM := Lib.hid hm; clear hm
  have hb := lt_of_cell hc
  go_enter Tryz.func65, Tryz.ntmps65
  go_wp2_with fail
  refine (isAll_ok x hx b2 _ (((Ext.refl w).alloc _).cell HC2.out) _ _ _ m.e.l rfl (HM.out.2.ext ((Ext.refl w).alloc _))).mono ?_
  rintro e w1 ⟨rfl, hx1⟩
  have HX1 := Lib.hid (((Ext.refl w).alloc _).trans hx1); clear hx1
  go_wp2
  go_ret
  exact ⟨rfl, HX1.out⟩

theorem check4_ok (m : MV) (w : World) (hm : IsMean w m) (hk : m.k.l.Pairwise (· < ·)) (he : m.e.l.Pairwise (· < ·)) :
    Calls Tryz.prog 68 #[meanV m] w fun e w' => e = .returned (.bool true) ∧ Ext w w' := by
  have HM := Lib.hid hm; clear hm
  have HK := Lib.hid hk; clear hk
  have HE := Lib.hid he; clear he
  go_enter Tryz.func68, Tryz.ntmps68
  go_wp2_with fail
  refine (increasing_ok _ _ _ m.k.l _ rfl (HM.out.1.ext ((Ext.refl w).alloc _)) HK.out).mono ?_
  rintro e w1 ⟨rfl, hx1⟩
  have hc1 := cell_at hx1.laid 1
  simp only [List.getElem?_toArray, List.getElem?_cons_succ, List.getElem?_cons_zero] at hc1
  have HX := Lib.hid hx1; clear hx1
  go_wp2_with fail
  refine (increasing_ok _ _ _ m.e.l _ rfl (HM.out.2.ext HX.out.unlaid) HE.out).mono ?_
  rintro e w2 ⟨rfl, hx2⟩
  have HX2 := Lib.hid (HX.out.unlaid.trans hx2); clear hx2
  go_wp2
  go_ret
  exact ⟨rfl, HX2.out⟩

/-- What is asked of a leg: its word is one, and the other one, too, or it is none. -/
def legB (x : Int) (g : Nat × Int) : Bool := lessB x g.1 && (g.2 == -1 || (decide (0 ≤ g.2) && decide (g.2 ≤ x - 1)))

set_option maxHeartbeats 400000 in
theorem check3_ok (g : Nat × Int) (x : Int) (hx : 0 ≤ x ∧ x ≤ 1000000) (b b2 : Nat) (w : World)
    (hc : w.cell? ⟨b, 0, none⟩ = some (.func (.func 101) #[] #[.pointer (some ⟨b2, 0, none⟩)])) (hc2 : w.cell? ⟨b2, 0, none⟩ = some (.int .i64 x)) (hg : (g.1 : Int) < x)
    (ho : g.2 = -1 ∨ (0 ≤ g.2 ∧ g.2 < x)) :
    Calls Tryz.prog 67 #[legV g, .pointer (some ⟨b, 0, none⟩)] w fun e w' => e = .returned (.bool true) ∧ Ext w w' := by
  obtain ⟨g1, g2⟩ := g
  dsimp only at hg ho
  have HC2 := Lib.hid hc2; clear hc2
  have hb := lt_of_cell hc
  have t1 : (decide ((0 : Int) ≤ (g1 : Int)) && decide ((g1 : Int) ≤ x - 1)) = true := by simp; omega
  have T1 := Lib.hid t1; clear t1
  have HE : ∀ args w, (callFunc 101 args).run Tryz.prog w = .ok (.enter 101 args) w := enters_101
  rcases ho with rfl | ⟨h0, h1⟩
  · go_enter Tryz.func67, Tryz.ntmps67
    go_wp2_with fail
    refine (under1_any _ x b2 _ hx (((Ext.refl w).alloc _).cell HC2.out)).mono ?_
    rintro e w1 ⟨rfl, rfl⟩
    rw [T1.out]
    go_wp2
    go_ret
    exact ⟨rfl, (Ext.refl w).alloc _⟩
  · have t2 : (decide ((0 : Int) ≤ g2) && decide (g2 ≤ x - 1)) = true := by simp; omega
    have T2 := Lib.hid t2; clear t2
    have hne : (g2 == -1) = false := by rw [beq_eq_false_iff_ne]; omega
    go_enter Tryz.func67, Tryz.ntmps67
    go_wp2_with fail
    refine (under1_any _ x b2 _ hx (((Ext.refl w).alloc _).cell HC2.out)).mono ?_
    rintro e w1 ⟨rfl, rfl⟩
    rw [T1.out]
    go_wp2_with fail
    refine (under1_any _ x b2 _ hx (((Ext.refl w).alloc _).cell HC2.out)).mono ?_
    rintro e w1 ⟨rfl, rfl⟩
    rw [T2.out]
    go_wp2
    go_ret
    exact ⟨rfl, (Ext.refl w).alloc _⟩

set_option maxHeartbeats 400000 in
/-- every(word, holds), where the cell at b holds the function value. -/
theorem everyMeaning1_any (g : Nat) (cap : Array Value) (D : MV → Prop) (p : MV → Bool) (b : Nat) (s : SL MV) (w : World) (hE : Enters Tryz.prog g)
    (hc : w.cell? ⟨b, 0, none⟩ = some (.func (.func g) #[] cap)) (hv : IsSl 2 meanC w s) (hD : ∀ x ∈ s.l, D x) (hp : Asks Tryz.prog g cap (fun x : MV => #[meanV x]) D p w) :
    Calls Tryz.prog 102 #[.slice s.a s.l.length s.c, .pointer (some ⟨b, 0, none⟩)] w fun e w' => e = .returned (.bool (s.l.all p)) ∧ Ext w w' := by
  have HV := Lib.hid hv; clear hv
  have HP := Lib.hid hp; clear hp
  have HD := Lib.hid hD; clear hD
  have HE := Lib.hid hE; clear hE
  go_enter Tryz.func102, Tryz.ntmps102
  go_wp2_with fail
  refine (every_mean g cap D p _ _ _ s.l w HE.out rfl HV.out HD.out HP.out).mono ?_
  rintro e w1 ⟨rfl, hx1⟩
  have HX1 := Lib.hid hx1; clear hx1
  go_wp2
  go_ret
  exact ⟨rfl, HX1.out⟩

/-- A treaty: its number of places, and its four slices. -/
structure TV where
  P : Nat
  ways : SL (Nat × Nat × Nat)
  words : SL (SL MV)
  starts : SL Nat
  legs : SL (Nat × Int)
abbrev TV.v (t : TV) : Value := .agg #[.int .i64 (t.P : Int), .slice t.ways.a t.ways.l.length t.ways.c, .slice t.words.a t.words.l.length t.words.c, .slice t.starts.a t.starts.l.length t.starts.c, .slice t.legs.a t.legs.l.length t.legs.c]
structure IsT (w : World) (t : TV) : Prop where
  ways : IsSl 3 wayC w t.ways
  words : IsSl 1 slC w t.words
  word : ∀ s ∈ t.words.l, IsWord w s
  starts : IsSl 1 num w t.starts
  legs : IsSl 2 legC w t.legs
theorem IsT.ext {w w' : World} {t : TV} (h : IsT w t) (k : Ext w w') : IsT w' t :=
  ⟨h.ways.ext k, h.words.ext k, fun s hs => (h.word s hs).ext k, h.starts.ext k, h.legs.ext k⟩

theorem enters_102 : Enters Tryz.prog 102 := fun args w => Proofs.enters_of Tryz.func102 (by kernel_rfl) rfl args w

set_option maxHeartbeats 400000 in
theorem everyMeaning_any (g : Nat) (cap : Array Value) (D : MV → Prop) (p : MV → Bool) (t : TV) (w : World) (hE : Enters Tryz.prog g)
    (ht : IsT w t) (hD : ∀ s ∈ t.words.l, ∀ x ∈ s.l, D x) (hp : Asks Tryz.prog g cap (fun x : MV => #[meanV x]) D p w) :
    Calls Tryz.prog 62 #[t.v, .func (.func g) #[] cap] w fun e w' => e = .returned (.bool (t.words.l.all fun s => s.l.all p)) ∧ Ext w w' := by
  have HT := Lib.hid ht; clear ht
  have HP := Lib.hid hp; clear hp
  have HD := Lib.hid hD; clear hD
  have HE := Lib.hid hE; clear hE
  go_enter Tryz.func62, Tryz.ntmps62
  go_wp2_with fail
  refine (every_word 102 _ (fun s => IsWord w s ∧ ∀ x ∈ s.l, D x) (fun s => s.l.all p) _ _ _ t.words.l _ enters_102 rfl (HT.out.words.ext (((Ext.refl w).alloc _).alloc _)) (fun s hs => ⟨HT.out.word s hs, HD.out s hs⟩) ?_).mono ?_
  · rintro s ⟨hs, hsd⟩ w' hw
    have e0 : Ext w w' := (((Ext.refl w).alloc _).alloc _).trans hw
    refine everyMeaning1_any g cap D p (w.heap.size + 1) s w' HE.out ?_ (hs.1.ext e0) hsd (HP.out.ext e0)
    have := hw.laid
    rw [World.size_alloc] at this
    exact cell_at this 0
  · rintro e w1 ⟨rfl, hx1⟩
    have HX1 := Lib.hid ((((Ext.refl w).alloc _).alloc _).trans hx1); clear hx1
    go_wp2
    go_ret
    exact ⟨rfl, HX1.out⟩
end Go.Proofs.YtopjjcgmcieboaaGreatDoor

namespace Go.Proofs.YtopjjcgmcieboaaGreatDoor
open Go.RowKit

/-- A treaty that is valid. -/
structure OkT (t : TV) : Prop where
  p1 : 1 ≤ t.P
  p2 : t.P ≤ 12
  ways : t.ways.l.length ≤ 40
  words : t.words.l.length ≤ 6
  starts1 : 1 ≤ t.starts.l.length
  starts2 : t.starts.l.length ≤ t.P
  legs : t.legs.l.length ≤ 10
  word : ∀ s ∈ t.words.l, 1 ≤ s.l.length ∧ s.l.length ≤ 4
  way : ∀ x ∈ t.ways.l, x.1 < t.P ∧ x.2.1 < t.P ∧ x.1 ≠ x.2.1 ∧ x.2.2 ≤ 7
  kinds : ∀ s ∈ t.words.l, ∀ m ∈ s.l, (∀ k ∈ m.k.l, k ≤ 7) ∧ m.k.l.Pairwise (· < ·)
  ends : ∀ s ∈ t.words.l, ∀ m ∈ s.l, (∀ k ∈ m.e.l, k < t.P) ∧ m.e.l.Pairwise (· < ·)
  start : (∀ s ∈ t.starts.l, s < t.P) ∧ t.starts.l.Pairwise (· < ·)
  leg : ∀ g ∈ t.legs.l, g.1 < t.words.l.length ∧ (g.2 = -1 ∨ (0 ≤ g.2 ∧ g.2 < t.words.l.length))
  many : (t.words.l.map (·.l.length)).foldl (· * ·) 1 ≤ 256

theorem between_ok (n a b : Int) (w : World) (h : a ≤ n ∧ n ≤ b) :
    Calls Tryz.prog 92 #[.int .i64 n, .int .i64 a, .int .i64 b] w fun e w' => e = .returned (.bool true) ∧ w = w' := by
  refine (between_any n a b w).mono ?_
  rintro e w' ⟨rfl, rfl⟩
  simp [h.1, h.2]

theorem ac1_any (s : SL MV) (w : World) (h : 1 ≤ s.l.length ∧ s.l.length ≤ 4) :
    Calls Tryz.prog 100 #[.slice s.a s.l.length s.c] w fun e w' => e = .returned (.bool true) ∧ Ext w w' := by
  go_enter Tryz.func100, Tryz.ntmps100
  go_wp2_with fail
  refine (between_ok _ _ _ _ (by omega)).mono ?_
  rintro e w' ⟨rfl, rfl⟩
  go_wp2
  go_ret
  exact ⟨rfl, Ext.refl _⟩
theorem enters_100 : Enters Tryz.prog 100 := fun args w => Proofs.enters_of Tryz.func100 (by kernel_rfl) rfl args w

set_option maxHeartbeats 400000 in
theorem allowed_ok (t : TV) (w : World) (ht : IsT w t) (hk : OkT t) :
    Calls Tryz.prog 59 #[t.v] w fun e w' => e = .returned (.bool true) ∧ Ext w w' := by
  have HT := Lib.hid ht; clear ht
  have HK := Lib.hid hk; clear hk
  have d1 : decide ((t.ways.l.length : Int) ≤ 40) = true := by have := HK.out.ways; simp; omega
  have d2 : decide ((t.words.l.length : Int) ≤ 6) = true := by have := HK.out.words; simp; omega
  have d3 : decide ((t.legs.l.length : Int) ≤ 10) = true := by have := HK.out.legs; simp; omega
  have hp := HK.out.p1
  have hp2 := HK.out.p2
  have hs1 := HK.out.starts1
  have hs2 := HK.out.starts2
  go_enter Tryz.func59, Tryz.ntmps59
  go_wp2_with fail
  refine (between_ok _ _ _ _ (by omega)).mono ?_
  rintro e w' ⟨rfl, rfl⟩
  go_wp2_with fail
  refine (between_ok _ _ _ _ (by omega)).mono ?_
  rintro e w' ⟨rfl, rfl⟩
  go_wp2_with fail
  refine (every_word 100 #[] (fun s => s ∈ t.words.l) (fun _ => true) _ _ _ t.words.l _ enters_100 rfl (HT.out.words.ext ((Ext.refl w).alloc _)) (fun s hs => hs) ?_).mono ?_
  · intro s hs w' hw
    exact ac1_any s w' (HK.out.word s hs)
  · rintro e w1 ⟨rfl, hx1⟩
    have HX1 := Lib.hid (((Ext.refl w).alloc _).trans hx1); clear hx1
    have hall : (t.words.l.all fun _ => true) = true := by simp
    rw [hall]
    clear hall
    go_wp2
    go_ret
    exact ⟨rfl, HX1.out⟩

set_option maxHeartbeats 400000 in
theorem checkWay_ok (t : TV) (x : Nat × Nat × Nat) (w : World) (hp : t.P ≤ 12) (hx : x.1 < t.P ∧ x.2.1 < t.P ∧ x.1 ≠ x.2.1 ∧ x.2.2 ≤ 7) :
    Calls Tryz.prog 60 #[t.v, wayV x] w fun e w' => e = .returned (.int .i64 0) ∧ Ext w w' := by
  obtain ⟨x1, x2, x3⟩ := x
  dsimp only at hx
  obtain ⟨h1, h2, h3, h4⟩ := hx
  have t1 : (decide ((0 : Int) ≤ (x1 : Int)) && decide ((x1 : Int) ≤ (t.P : Int) - 1)) = true := by simp; omega
  have T1 := Lib.hid t1; clear t1
  have t2 : (decide ((0 : Int) ≤ (x2 : Int)) && decide ((x2 : Int) ≤ (t.P : Int) - 1)) = true := by simp; omega
  have T2 := Lib.hid t2; clear t2
  have hne : ((x1 : Int) == (x2 : Int)) = false := by rw [beq_eq_false_iff_ne]; omega
  have HE : ∀ args w, (callFunc 101 args).run Tryz.prog w = .ok (.enter 101 args) w := enters_101
  go_enter Tryz.func60, Tryz.ntmps60
  go_wp2_with fail
  refine (under_any _ _).mono ?_
  rintro e w' ⟨rfl, rfl⟩
  go_wp2_with fail
  refine (under1_any _ (t.P : Int) _ _ (by omega) ?_).mono ?_
  · go_simp
  rintro e w1 ⟨rfl, rfl⟩
  rw [T1.out]
  go_wp2_with fail
  refine (under1_any _ (t.P : Int) _ _ (by omega) ?_).mono ?_
  · go_simp
  rintro e w1 ⟨rfl, rfl⟩
  rw [T2.out]
  go_wp2_with fail
  refine (between_ok _ _ _ _ (by omega)).mono ?_
  rintro e w' ⟨rfl, rfl⟩
  go_wp2
  go_ret
  exact ⟨rfl, ((((Ext.refl w).alloc _).alloc _).alloc _)⟩

/-- The number of readings of the first k words. -/
def prodTo (l : List (SL MV)) (k : Nat) : Nat := ((l.take k).map (·.l.length)).foldl (· * ·) 1
theorem prodTo_succ (l : List (SL MV)) (k : Nat) (h : k < l.length) : prodTo l (k + 1) = prodTo l k * l[k].l.length := by
  unfold prodTo; rw [List.take_succ_eq_append_getElem h]; simp only [List.map_append, List.map_cons, List.map_nil, List.foldl_append, List.foldl_cons, List.foldl_nil]
theorem prodTo_le (l : List (SL MV)) (hl : ∀ s ∈ l, 1 ≤ s.l.length ∧ s.l.length ≤ 4) : ∀ k, k ≤ l.length → prodTo l k ≤ 4 ^ k
  | 0, _ => by simp [prodTo]
  | k + 1, h => by
    rw [prodTo_succ _ _ (by omega), Nat.pow_succ]
    exact Nat.mul_le_mul (prodTo_le l hl k (by omega)) (hl _ (List.getElem_mem _)).2

set_option maxHeartbeats 400000 in
theorem countReadings_ok (t : TV) (w : World) (ht : IsT w t) (hk : OkT t) :
    Calls Tryz.prog 70 #[t.v] w fun e w' => e = .returned (.int .i64 (prodTo t.words.l t.words.l.length : Int)) ∧ Ext w w' := by
  have hwl := hk.words
  have HL := Lib.hid (prodTo_le t.words.l hk.word)
  obtain ⟨h1, h2, h3⟩ := ht.words
  have H3 := Lib.hid h3; clear h3 ht hk
  obtain ⟨P, ways, ⟨a, c, l⟩, starts, legs⟩ := t
  dsimp only [TV.v] at *
  go_enter Tryz.func70, Tryz.ntmps70
  go_wp2
  go_loopw [3, 9] (fun n i wr => ∃ k : Nat, k ≤ l.length ∧ i = .int .i64 k ∧ n = .int .i64 (prodTo l k : Int) ∧ Ext w wr) (fun _ i _ => l.length - (intOf i).toNat)
  case atStart => exact ⟨0, Nat.zero_le _, rfl, by simp [prodTo], (Ext.refl _).alloc _⟩
  case round =>
    obtain ⟨k, hk, rfl, rfl, hext⟩ := hrel
    by_cases hlt : k < l.length
    · obtain ⟨b, off, rfl, hc⟩ := H3.out.resolve_left (by show ¬ l.length = 0; omega)
      have hcell : wr.cell? ⟨b, off + k, none⟩ = some (.slice l[k].a l[k].l.length l[k].c) := by have := hext.cell (hc k hlt 0 (by omega)); simpa [slC] using this
      have hb4 := HL.out (k + 1) (by show k + 1 ≤ l.length; omega)
      have hb5 : 4 ^ (k + 1) ≤ 4 ^ 6 := Nat.pow_le_pow_right (by omega) (by omega)
      have hs := prodTo_succ l k hlt
      have hq : prodTo l (k + 1) ≤ 4096 := by omega
      clear hc hb4 hb5
      generalize hx : l[k] = x at *
      clear hx
      have hm : ((prodTo l k : Nat) : Int) * (x.l.length : Int) = ((prodTo l (k + 1) : Nat) : Int) := by rw [hs]; simp
      have HQ : Hid (∃ q, q = prodTo l (k + 1)) := ⟨_, rfl⟩
      generalize hqq : prodTo l (k + 1) = q at *
      have HX := Lib.hid hext; clear hext
      have HS := Lib.hid hqq; clear hqq hs HQ
      go_wp2
      go_roundw
      case rel => exact ⟨k + 1, by omega, by go_num, by rw [HS.out], HX.out⟩
      case measure => simp [intOf]; omega
    · have HX := Lib.hid hext; clear hext
      have hke : k = l.length := by omega
      subst hke
      go_wp2
      go_ret
      exact ⟨rfl, HX.out⟩

end Go.Proofs.YtopjjcgmcieboaaGreatDoor
