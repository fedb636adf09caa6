/-
  lines of package treaty yields all lines that keep all legs, in their order. The treaty at work must lie in memory as told, and the loop's body must keep what is not its own.
-/
import Derived.Test.YtopjjcgmcieboaaGreatDoorIf
import Derived.Test.YtopjjcgmcieboaaGreatDoorZ
import Derived.Test.YtopjjcgmcieboaaGreatDoorRb
import Derived.Deep.RegionHeld3
import Derived.Deep.MidRow
import Derived.Laws.EntriesVeiled
namespace Go.Proofs.YtopjjcgmcieboaaGreatDoor
open Go.RowKit
attribute [local go_sem] Oper.semAt_some

/-- All lines of a treaty at work. -/
def linesR (t : TV) (L : Nat → Nat → Nat → Bool) : List (List Nat) := t.starts.l.flatMap fun s => if openK L t.P t.legs.l.length t.legs.l.length 0 s then lnF L t.P t.legs.l.length t.legs.l.length s else []
/-- Those that begin at one of the first k starts. -/
def linesTo (t : TV) (L : Nat → Nat → Nat → Bool) (k : Nat) : List (List Nat) := (t.starts.l.take k).flatMap fun s => if openK L t.P t.legs.l.length t.legs.l.length 0 s then lnF L t.P t.legs.l.length t.legs.l.length s else []
theorem linesTo_succ (t : TV) (L : Nat → Nat → Nat → Bool) (k : Nat) (h : k < t.starts.l.length) : linesTo t L (k + 1) = linesTo t L k ++ if openK L t.P t.legs.l.length t.legs.l.length 0 t.starts.l[k] then lnF L t.P t.legs.l.length t.legs.l.length t.starts.l[k] else [] := by
  simp only [linesTo, List.take_succ_eq_append_getElem h, List.flatMap_append, List.flatMap_cons, List.flatMap_nil, List.append_nil]
theorem linesTo_all (t : TV) (L : Nat → Nat → Nat → Bool) : linesTo t L t.starts.l.length = linesR t L := by simp [linesTo, linesR]
theorem linesTo_prefix (t : TV) (L : Nat → Nat → Nat → Bool) (k : Nat) : linesTo t L k <+: linesR t L := by
  unfold linesTo linesR
  rw [← List.take_append_drop k t.starts.l]
  simp only [List.flatMap_append]
  rw [List.take_append_drop]
  exact List.prefix_append _ _

theorem there_of {w : World} {b n : Nat} {cs : Array Value} {T : TypeId} (h : w.heap[b]? = some (.cells cs T (0, 0))) (hn : n ≤ cs.size) : w.there b 0 n := fun j hj => by
  refine ⟨?_, by simp [World.frozen?, h]⟩
  rw [cell_at h, Nat.zero_add, Array.getElem?_eq_getElem (by omega)]; rfl
theorem there_set {w : World} {b n : Nat} (h : w.there b 0 n) (a : Addr) (v : Value) (hne : a.block ≠ b) : (w.setCell a v).there b 0 n := fun j hj => by
  obtain ⟨h1, h2⟩ := h j hj
  refine ⟨?_, by rw [World.frozen?_setCell]; exact h2⟩
  rw [World.cell?_of_block (w := w) (w' := w.setCell a v) (a := ⟨b, 0 + j, none⟩) (Below.heap_setCell _ _ _ _ (fun e => hne e.symm))]; exact h1

/-- The box of canLead, not yet written, and the marks, not yet written. -/
noncomputable abbrev boxA : Obj := .cells #[.nilFunc] 83
noncomputable abbrev boxB : Obj := .cells Tryz.zeroCells88 88

abbrev fA (p : Nat) : Value := .func (.func 45) #[.pointer (some ⟨p, 0, none⟩)] #[]
theorem zs147 : (132 : Nat) ≤ Tryz.zeroCells88.size := by
  have : Tryz.zeroCells88.size = 132 := by kernel_rfl
  omega
theorem box_in {X v1 : World} {o : Obj} (h : Ext (X.alloc o) v1) : v1.heap[X.heap.size]? = some o := h.block (World.alloc_heap_new X o)
theorem box_facts {w : World} {b : Nat} (h : w.heap[b]? = some boxA) : w.cell? ⟨b, 0, none⟩ = some .nilFunc ∧ w.frozen? ⟨b, 0, none⟩ = false := ⟨(cell_at h 0).trans rfl, by simp [World.frozen?, h]⟩
theorem factsC (v1 : World) (p : Nat) : ((v1.alloc (.cells #[fA p] 83)).alloc boxB).there (v1.heap.size + 1) 0 132 ∧ ((v1.alloc boxB).alloc (.cells #[fA p] 83)).there v1.heap.size 0 132 := by
  refine ⟨there_of (cs := Tryz.zeroCells88) (T := 88) ?_ zs147, there_of (cs := Tryz.zeroCells88) (T := 88) ?_ zs147⟩
  · have := World.alloc_heap_new (v1.alloc (.cells #[fA p] 83)) boxB; rwa [World.size_alloc] at this
  · exact ((Ext.refl _).alloc _).block (World.alloc_heap_new v1 boxB)
theorem factsA (X v1 : World) (p : Nat) (h : Ext (X.alloc boxA) v1) : (v1.cell? ⟨X.heap.size, 0, none⟩ = some .nilFunc ∧ v1.frozen? ⟨X.heap.size, 0, none⟩ = false) ∧ ((v1.alloc boxB).cell? ⟨X.heap.size, 0, none⟩ = some .nilFunc ∧ (v1.alloc boxB).frozen? ⟨X.heap.size, 0, none⟩ = false) ∧
    ((v1.alloc boxB).setCell ⟨X.heap.size, 0, none⟩ (fA p)).there v1.heap.size 0 132 := by
  have h1 := box_in h
  have hl : X.heap.size < v1.heap.size := by have := h.size; rw [World.size_alloc] at this; omega
  exact ⟨box_facts h1, box_facts (((Ext.refl v1).alloc boxB).block h1), there_set (there_of (cs := Tryz.zeroCells88) (T := 88) (World.alloc_heap_new v1 boxB) zs147) _ _ (by show X.heap.size ≠ _; omega)⟩
theorem factsAB (X v1 : World) (p : Nat) (h : Ext ((X.alloc boxA).alloc boxB) v1) : (v1.setCell ⟨X.heap.size, 0, none⟩ (fA p)).there (X.heap.size + 1) 0 132 := by
  have h1 := box_in h
  rw [World.size_alloc] at h1
  exact there_set (there_of (cs := Tryz.zeroCells88) (T := 88) h1 zs147) _ _ (by show X.heap.size ≠ _; omega)
theorem factsBA (X v1 : World) (p : Nat) (h : Ext ((X.alloc boxB).alloc boxA) v1) : (v1.cell? ⟨X.heap.size + 1, 0, none⟩ = some .nilFunc ∧ v1.frozen? ⟨X.heap.size + 1, 0, none⟩ = false) ∧ (v1.setCell ⟨X.heap.size + 1, 0, none⟩ (fA p)).there X.heap.size 0 132 := by
  have h1 := box_in h
  rw [World.size_alloc] at h1
  have h2 := box_in (Ext.trans ((Ext.refl (X.alloc boxB)).alloc boxA) h)
  exact ⟨box_facts h1, there_set (there_of (cs := Tryz.zeroCells88) (T := 88) h2 zs147) _ _ (by show X.heap.size + 1 ≠ _; omega)⟩
theorem factsB (X v1 : World) (p : Nat) (h : Ext (X.alloc boxB) v1) : (v1.alloc (.cells #[fA p] 83)).there X.heap.size 0 132 :=
  there_of (cs := Tryz.zeroCells88) (T := 88) (((Ext.refl v1).alloc _).block (box_in h)) zs147

theorem new2 (v1 : World) (o o' : Obj) : ((v1.alloc o).alloc o').heap[v1.heap.size + 1]? = some o' := by
  have := World.alloc_heap_new (v1.alloc o) o'; rwa [World.size_alloc] at this
theorem box_in2 {X v1 : World} {o o' : Obj} (h : Ext ((X.alloc o).alloc o') v1) : v1.heap[X.heap.size]? = some o ∧ v1.heap[X.heap.size + 1]? = some o' := ⟨box_in (Ext.trans ((Ext.refl _).alloc _) h), h.block (new2 X o o')⟩

/-- What lies behind the first assignments of lines. -/
def LinA (t : TV) (L : Nat → Nat → Nat → Bool) (l p wb yb : Nat) (V : World) (a' : Act) (W' : World) : Prop :=
  ∃ (cb ob : Nat) (u9 u10 u11 u12 : Value), a' = { tmps := #[.func (.yield l) #[] #[], .pointer (some ⟨wb, 0, none⟩), .pointer (some ⟨yb, 0, none⟩), .pointer (some ⟨cb, 0, none⟩), .pointer (some ⟨ob, 0, none⟩), undef, undef, undef, undef, u9, u10, u11, u12, undef, undef, undef, undef, undef, undef, undef, undef, undef, undef, undef, undef, undef, undef, undef, undef, undef, undef, undef, undef, undef, undef, undef, undef, undef, undef, undef, undef, undef, undef], defers := [] } ∧
    Ext V W' ∧ V.heap.size ≤ cb ∧ V.heap.size ≤ ob ∧ cb ≠ ob ∧ cb < W'.heap.size ∧ ob < W'.heap.size ∧ W'.cell? ⟨cb, 0, none⟩ = some (.func (.func 45) #[.pointer (some ⟨p, 0, none⟩)] #[]) ∧ Mrk W' ob (openK L t.P t.legs.l.length t.legs.l.length)

theorem lin_close (t : TV) (L : Nat → Nat → Nat → Bool) (l p wb yb : Nat) (V F : World) (cb ob : Nat) (l1 : List Value) (u9 u10 u11 u12 : Value) (hF : Ext V F) (h1 : V.heap.size ≤ cb) (h2 : V.heap.size ≤ ob) (hne : cb ≠ ob)
    (hc : F.heap[cb]? = some (.cells #[fA p] 83 (0, 0))) (ho : F.heap[ob]? = some boxB) (hl : l1.length = 132) (hce : ∀ f g, f < 11 → g < 12 → l1.toArray[f * 12 + g]? = some (.bool (openK L t.P t.legs.l.length t.legs.l.length f g))) :
    LinA t L l p wb yb V { tmps := #[.func (.yield l) #[] #[], .pointer (some ⟨wb, 0, none⟩), .pointer (some ⟨yb, 0, none⟩), .pointer (some ⟨cb, 0, none⟩), .pointer (some ⟨ob, 0, none⟩), undef, undef, undef, undef, u9, u10, u11, u12, undef, undef, undef, undef, undef, undef, undef, undef, undef, undef, undef, undef, undef, undef, undef, undef, undef, undef, undef, undef, undef, undef, undef, undef, undef, undef, undef, undef, undef, undef], defers := [] } (F.setCells ob 0 l1) := by
  have hcl := (Array.getElem?_eq_some_iff.1 hc).1
  have hol := (Array.getElem?_eq_some_iff.1 ho).1
  have hx : Ext F (F.setCells ob 0 l1) ∨ True := .inr trivial
  have hcs : (F.setCells ob 0 l1).heap[cb]? = some (.cells #[fA p] 83 (0, 0)) := heap_setCells_other hc l1 0 hne
  obtain ⟨cs', q1, q2, q3, q4⟩ := heap_setCells l1 0 F Tryz.zeroCells88 ho (by have := zs147; omega)
  have hsz : F.heap.size ≤ (F.setCells ob 0 l1).heap.size := (below_setCells (Below.refl 0 F) (Nat.zero_le _) l1 0).size
  have hz : Tryz.zeroCells88.size = 132 := by kernel_rfl
  refine ⟨cb, ob, u9, u10, u11, u12, rfl, Ext.of (below_setCells hF h2 l1 0), h1, h2, hne, by omega, by omega, (cell_at hcs 0).trans rfl, cs', q1, by rw [q2, hz], fun f g hf hg => ?_⟩
  have := q3 (f * 12 + g) (by omega)
  rw [Nat.zero_add] at this
  rw [this]
  have h3 := hce f g hf hg
  simpa using h3

set_option maxRecDepth 100000 in
set_option maxHeartbeats 4000000 in
theorem lines1_gives (t : TV) (L : Nat → Nat → Nat → Bool) (p wb : Nat) (wa w0 : World) (M : Nat → Prop) (hk : OkT t) (hst : IsSl 1 num wa t.starts) (hx0 : Ext wa w0) (hw : IsWork w0 p t L) (hwb : w0.cell? ⟨wb, 0, none⟩ = some (.pointer (some ⟨p, 0, none⟩)))
    (hM : ∀ k, k < wa.heap.size → M k) (hMp : M p) (hMw : M wb) :
    Gives Tryz.prog 77 #[.pointer (some ⟨wb, 0, none⟩)] M (linesR t L) w0 := by
  intro l J Jx W hW hJ hJx hY h0
  have HJ := Lib.hid hJ; clear hJ
  have HJx := Lib.hid hJx; clear hJx
  have HY := Lib.hid hY; clear hY
  have H0 := Lib.hid h0; clear h0
  have HK := Lib.hid hk; clear hk
  have HSt := Lib.hid hst; clear hst
  have HM := Lib.hid hM; clear hM
  have HXa : Hid (Ext wa W) := hx0.trans hW
  have hpl : p < w0.heap.size := by obtain ⟨cs, q1, _⟩ := hw; exact (Array.getElem?_eq_some_iff.1 q1).1
  have hwl : wb < w0.heap.size := lt_of_cell hwb
  have HXs : Hid (wa.heap.size ≤ w0.heap.size) := hx0.size
  have HPl : Hid (p < w0.heap.size ∧ wb < w0.heap.size ∧ w0.heap.size ≤ W.heap.size) := ⟨hpl, hwl, hW.size⟩
  have HWk : Hid (IsWork (W.alloc (.cells #[.func (.yield l) #[] #[]] 45)) p t L) := (hw.ext hW).ext ((Ext.refl W).alloc _)
  have cw : (W.alloc (.cells #[.func (.yield l) #[] #[]] 45)).cell? ⟨wb, 0, none⟩ = some (.pointer (some ⟨p, 0, none⟩)) := ((Ext.refl W).alloc _).cell (hW.cell hwb)
  have hyb := World.alloc_heap_new W (.cells #[.func (.yield l) #[] #[]] 45)
  have hXV : Ext W (W.alloc (.cells #[.func (.yield l) #[] #[]] 45)) := (Ext.refl W).alloc _
  have hsV : (W.alloc (.cells #[.func (.yield l) #[] #[]] 45)).heap.size = W.heap.size + 1 := World.size_alloc _ _
  clear hx0 hw hwb hpl hwl
  go_enter Tryz.func77, Tryz.ntmps77
  go_wp2_with fail
  generalize W.alloc (.cells #[.func (.yield l) #[] #[]] 45) = V at *
  have HYb := Lib.hid hyb; clear hyb
  have HXV := Lib.hid hXV; clear hXV
  have HsV := Lib.hid hsV; clear hsV
  refine wp_mono (Q := fun e a' W' => match e with | .normal => LinA t L l p wb W.heap.size V a' W' | _ => False) ?_ ?_
  · have KS : Hid (∀ V', Ext V V' → V'.cell? ⟨wb, 0, none⟩ = some (.pointer (some ⟨p, 0, none⟩))) := fun V' h => h.cell cw
    have hp2 := HK.out.p2
    have hN10 := HK.out.legs
    go_region_held3 (fun V' => V'.cell? ⟨wb, 0, none⟩ = some (.pointer (some ⟨p, 0, none⟩)))
      ((refine KS.out _ ?_; repeat (first | exact Ext.refl _ | exact X1.out | refine Ext.drew ?_ | refine Ext.alloc ?_ _ | refine Ext.setCell ?_ (by first | exact Nat.le_refl _ | omega | (simp; omega) | simp) _ | refine Ext.of (below_setCells (Ext.below ?_) (by first | exact Nat.le_refl _ | omega | (simp; omega) | simp) _ _))))
      (first
        | (go_at_call 78; refine (open_any p t L V.drew (HWk.out.ext (Ext.refl V).drew) hp2 hN10).mono ?_; rintro e v1 ⟨cs, rfl, hsz, hce, hx0⟩; obtain ⟨l1, rfl⟩ : ∃ l1 : List Value, cs = l1.toArray := ⟨cs.toList, by simp⟩;
            have X1 : Hid (Ext V v1) := ((Ext.refl V).drew).trans hx0;
            have hl1 : l1.length = 132 := (by simpa using hsz);
            have hinf : (Tryz.prog.info? 88).map (·.size) = some l1.length := (by rw [hl1]; kernel_rfl);
            have h1c : ∀ v ∈ l1, v.oneCell' = true := (fun v hv => Array.all_eq_true_iff_forall_mem.1 (mrk_one hsz hce) v (by simpa using hv));
            have hv1 : V.heap.size ≤ v1.heap.size := X1.out.size;
            obtain ⟨T1, T2⟩ := factsC v1 p; have HX0 := Lib.hid hx0; have HCe := Lib.hid hce; clear hx0 hce)
        | (go_at_call 78; refine (open_any p t L (V.alloc boxA).drew (HWk.out.ext ((Ext.refl V).alloc _).drew) hp2 hN10).mono ?_; rintro e v1 ⟨cs, rfl, hsz, hce, hx0⟩; obtain ⟨l1, rfl⟩ : ∃ l1 : List Value, cs = l1.toArray := ⟨cs.toList, by simp⟩;
            have X1 : Hid (Ext V v1) := (((Ext.refl V).alloc _).drew).trans hx0;
            have hl1 : l1.length = 132 := (by simpa using hsz);
            have hinf : (Tryz.prog.info? 88).map (·.size) = some l1.length := (by rw [hl1]; kernel_rfl);
            have h1c : ∀ v ∈ l1, v.oneCell' = true := (fun v hv => Array.all_eq_true_iff_forall_mem.1 (mrk_one hsz hce) v (by simpa using hv));
            have hv1 : V.heap.size ≤ v1.heap.size := X1.out.size;
            obtain ⟨⟨ka1, ka2⟩, ⟨ka3, ka4⟩, TA⟩ := factsA V v1 p ((Ext.refl _).drew.trans hx0); have HA : Hid (v1.heap[V.heap.size]? = some boxA) := box_in ((Ext.refl _).drew.trans hx0); have HX0 := Lib.hid hx0; have HCe := Lib.hid hce; clear hx0 hce)
        | (go_at_call 78; refine (open_any p t L (V.alloc boxB).drew (HWk.out.ext ((Ext.refl V).alloc _).drew) hp2 hN10).mono ?_; rintro e v1 ⟨cs, rfl, hsz, hce, hx0⟩; obtain ⟨l1, rfl⟩ : ∃ l1 : List Value, cs = l1.toArray := ⟨cs.toList, by simp⟩;
            have X1 : Hid (Ext V v1) := (((Ext.refl V).alloc _).drew).trans hx0;
            have hl1 : l1.length = 132 := (by simpa using hsz);
            have hinf : (Tryz.prog.info? 88).map (·.size) = some l1.length := (by rw [hl1]; kernel_rfl);
            have h1c : ∀ v ∈ l1, v.oneCell' = true := (fun v hv => Array.all_eq_true_iff_forall_mem.1 (mrk_one hsz hce) v (by simpa using hv));
            have hv1 : V.heap.size ≤ v1.heap.size := X1.out.size;
            have TB := factsB V v1 p ((Ext.refl _).drew.trans hx0); have HB0 : Hid (v1.heap[V.heap.size]? = some boxB) := box_in ((Ext.refl _).drew.trans hx0); have HX0 := Lib.hid hx0; have HCe := Lib.hid hce; clear hx0 hce)
        | (go_at_call 78; refine (open_any p t L ((V.alloc boxA).alloc boxB).drew (HWk.out.ext (((Ext.refl V).alloc _).alloc _).drew) hp2 hN10).mono ?_; rintro e v1 ⟨cs, rfl, hsz, hce, hx0⟩; obtain ⟨l1, rfl⟩ : ∃ l1 : List Value, cs = l1.toArray := ⟨cs.toList, by simp⟩;
            have X1 : Hid (Ext V v1) := ((((Ext.refl V).alloc _).alloc _).drew).trans hx0;
            have hl1 : l1.length = 132 := (by simpa using hsz);
            have hinf : (Tryz.prog.info? 88).map (·.size) = some l1.length := (by rw [hl1]; kernel_rfl);
            have h1c : ∀ v ∈ l1, v.oneCell' = true := (fun v hv => Array.all_eq_true_iff_forall_mem.1 (mrk_one hsz hce) v (by simpa using hv));
            have hv1 : V.heap.size ≤ v1.heap.size := X1.out.size;
            have TAB := factsAB V v1 p ((Ext.refl _).drew.trans hx0); have HA : Hid (v1.heap[V.heap.size]? = some boxA) := (box_in2 ((Ext.refl _).drew.trans hx0)).1; have HB1 : Hid (v1.heap[V.heap.size + 1]? = some boxB) := (box_in2 ((Ext.refl _).drew.trans hx0)).2; obtain ⟨⟨ka1, ka2⟩, ⟨ka3, ka4⟩, TA⟩ := factsA V v1 p (Ext.trans (((Ext.refl _).alloc _).drew) hx0); have HX0 := Lib.hid hx0; have HCe := Lib.hid hce; clear hx0 hce)
        | (go_at_call 78; refine (open_any p t L ((V.alloc boxB).alloc boxA).drew (HWk.out.ext (((Ext.refl V).alloc _).alloc _).drew) hp2 hN10).mono ?_; rintro e v1 ⟨cs, rfl, hsz, hce, hx0⟩; obtain ⟨l1, rfl⟩ : ∃ l1 : List Value, cs = l1.toArray := ⟨cs.toList, by simp⟩;
            have X1 : Hid (Ext V v1) := ((((Ext.refl V).alloc _).alloc _).drew).trans hx0;
            have hl1 : l1.length = 132 := (by simpa using hsz);
            have hinf : (Tryz.prog.info? 88).map (·.size) = some l1.length := (by rw [hl1]; kernel_rfl);
            have h1c : ∀ v ∈ l1, v.oneCell' = true := (fun v hv => Array.all_eq_true_iff_forall_mem.1 (mrk_one hsz hce) v (by simpa using hv));
            have hv1 : V.heap.size ≤ v1.heap.size := X1.out.size;
            obtain ⟨⟨kb1, kb2⟩, TBA⟩ := factsBA V v1 p ((Ext.refl _).drew.trans hx0); have HB0 : Hid (v1.heap[V.heap.size]? = some boxB) := (box_in2 ((Ext.refl _).drew.trans hx0)).1; have HA1 : Hid (v1.heap[V.heap.size + 1]? = some boxA) := (box_in2 ((Ext.refl _).drew.trans hx0)).2; have HX0 := Lib.hid hx0; have HCe := Lib.hid hce; clear hx0 hce))
    all_goals
      refine lin_close t L l p wb _ V _ _ _ l1 _ _ _ _ ?_ ?_ ?_ ?_ ?_ ?_ hl1 HCe.out
      · repeat (first | exact X1.out | refine Ext.alloc ?_ _ | refine Ext.setCell ?_ (by first | exact Nat.le_refl _ | exact Nat.le_succ _) _)
      · first | exact Nat.le_refl _ | omega
      · first | exact Nat.le_refl _ | omega
      · first | omega | (have := (Array.getElem?_eq_some_iff.1 HA.out).1; omega) | (have := (Array.getElem?_eq_some_iff.1 HB0.out).1; omega)
      · first | exact ((Ext.refl _).alloc _).block (World.alloc_heap_new v1 _) | exact new2 v1 _ _ | exact World.alloc_heap_new v1 _ | exact heap_setCell_same (((Ext.refl v1).alloc boxB).block HA.out) _ | exact heap_setCell_same HA.out _ | exact heap_setCell_same HA1.out _
      · first | exact new2 v1 _ _ | exact ((Ext.refl _).alloc _).block (World.alloc_heap_new v1 _) | exact ((Ext.refl _).alloc _).block HB0.out | exact (Below.heap_setCell _ _ _ _ (by show v1.heap.size ≠ V.heap.size; have := lt_of_cell ka1; simp only at this; omega)).trans (World.alloc_heap_new v1 boxB) | exact (Below.heap_setCell _ _ _ _ (by show V.heap.size + 1 ≠ V.heap.size; omega)).trans HB1.out | exact (Below.heap_setCell _ _ _ _ (by show V.heap.size ≠ V.heap.size + 1; omega)).trans HB0.out
  · intro e a' V1 h
    cases e with
    | normal =>
      obtain ⟨cb, ob, u9, u10, u11, u12, rfl, hx, h1, h2, hne, hcl, hol, hcc, hMk⟩ := h
      have HXv := Lib.hid hx
      have HMk := Lib.hid hMk; clear hMk
      have HCc := Lib.hid hcc; clear hcc
      have cw1 := hx.cell cw
      have HW1 : Hid (IsWork V1 p t L) := HWk.out.ext hx
      have HYb1 : Hid (V1.cell? ⟨W.heap.size, 0, none⟩ = some (.func (.yield l) #[] #[])) := (cell_at (hx.block HYb.out) 0).trans rfl
      have hpl2 : p < V1.heap.size ∧ wb < V1.heap.size ∧ W.heap.size < V1.heap.size := by
        have := HPl.out; have := HsV.out; have := hx.size; omega
      have HB : Hid (V.heap.size ≤ cb ∧ V.heap.size ≤ ob ∧ cb ≠ ob ∧ cb < V1.heap.size ∧ ob < V1.heap.size) := ⟨h1, h2, hne, hcl, hol⟩
      clear h1 h2 hne hcl hol hx
      obtain ⟨csw, w1, w2, w3, w4, w5, w6, w7, w8⟩ := HW1.out
      have cS := (cell_at w1 3).trans w5
      have cL := (cell_at w1 4).trans w6
      clear w1 w2 w3 w4 w5 w6 w7 w8 csw
      have hN10 := HK.out.legs
      have hmk := run_make_row' (P := Tryz.prog) 25 3 (.int .i64 0) 8 Tryz.underlying25 info3 rfl .i64 .i64 (t.legs.l.length + 1) (by omega) (by omega)
      rw [made0] at hmk
      rw [show (((t.legs.l.length + 1 : Nat)) : Int) = (t.legs.l.length : Int) + 1 by omega] at hmk
      have n0' : (0 : Int) ≤ (t.legs.l.length : Int) := by omega
      have n10 : (t.legs.l.length : Int) ≤ 10 := by omega
      obtain ⟨V2, hV2⟩ : ∃ V2, (((V1.alloc (.cells (nums (List.replicate (t.legs.l.length + 1) 0)).toArray 3)).alloc (.cells #[.slice (some ⟨V1.heap.size, 0, none⟩) (t.legs.l.length + 1) (t.legs.l.length + 1)] 25)).alloc (.cells #[.func (.func 79) #[] #[.pointer (some ⟨V1.heap.size + 1, 0, none⟩), .pointer (some ⟨wb, 0, none⟩), .pointer (some ⟨W.heap.size, 0, none⟩), .pointer (some ⟨ob, 0, none⟩), .pointer (some ⟨cb, 0, none⟩), .pointer (some ⟨V1.heap.size + 1 + 1, 0, none⟩)]] 116)) = V2 := ⟨_, rfl⟩
      have hX2 : Ext V1 V2 := by rw [← hV2]; exact (((Ext.refl V1).alloc _).alloc _).alloc _
      have hr2 : Row V2 V1.heap.size (List.replicate (t.legs.l.length + 1) 0) (t.legs.l.length + 1) := by
        rw [← hV2]
        refine ⟨_, (((Ext.refl _).alloc _).alloc _).block (World.alloc_heap_new V1 _), by simp [nums_length], by simp, fun i hi => ?_⟩
        rw [List.getElem?_toArray, nums_get _ i (by simpa using hi)]
      have hl2 : V2.cell? ⟨V1.heap.size + 1, 0, none⟩ = some (.slice (some ⟨V1.heap.size, 0, none⟩) (t.legs.l.length + 1) (t.legs.l.length + 1)) := by
        rw [← hV2]; exact ((Ext.refl _).alloc _).cell ((cell_at (new2 V1 _ _) 0).trans rfl)
      have hg2 : V2.cell? ⟨V1.heap.size + 1 + 1, 0, none⟩ = some (.func (.func 79) #[] #[.pointer (some ⟨V1.heap.size + 1, 0, none⟩), .pointer (some ⟨wb, 0, none⟩), .pointer (some ⟨W.heap.size, 0, none⟩), .pointer (some ⟨ob, 0, none⟩), .pointer (some ⟨cb, 0, none⟩), .pointer (some ⟨V1.heap.size + 1 + 1, 0, none⟩)]) := by
        rw [← hV2]
        have := new2 (V1.alloc (.cells (nums (List.replicate (t.legs.l.length + 1) 0)).toArray 3)) (.cells #[.slice (some ⟨V1.heap.size, 0, none⟩) (t.legs.l.length + 1) (t.legs.l.length + 1)] 25) (.cells #[.func (.func 79) #[] #[.pointer (some ⟨V1.heap.size + 1, 0, none⟩), .pointer (some ⟨wb, 0, none⟩), .pointer (some ⟨W.heap.size, 0, none⟩), .pointer (some ⟨ob, 0, none⟩), .pointer (some ⟨cb, 0, none⟩), .pointer (some ⟨V1.heap.size + 1 + 1, 0, none⟩)]] 116)
        rw [World.size_alloc] at this
        exact (cell_at this 0).trans rfl
      have hs2 : V2.heap.size = V1.heap.size + 3 := by rw [← hV2]; simp
      have cw2 := hX2.cell cw1
      have cS2 := hX2.cell cS
      have HX2 := Lib.hid hX2
      have HR2 := Lib.hid hr2
      have HG2 : Hid (GoW t L l ⟨p, wb, W.heap.size, cb, ob, V1.heap.size + 1, V1.heap.size, V1.heap.size + 1 + 1⟩ V2) := ⟨HW1.out.ext hX2, cw2, hX2.cell HYb1.out, hX2.cell HCc.out, HMk.out.ext hX2, hl2, hg2⟩
      have HS2 := Lib.hid hs2
      have HV2 := Lib.hid hV2
      clear cw hX2 hr2 hl2 hg2 hs2
      rw [← hV2] at cw2 cS2
      clear hV2
      have HPl2 := Lib.hid hpl2; clear hpl2
      simp only [Exit.then]
      go_wp2_with fail
      clear hmk cw2 cS2 cw1 cS cL
      rw [HV2.out]
      have hgo := goOn_any t L l ⟨p, wb, W.heap.size, cb, ob, V1.heap.size + 1, V1.heap.size, V1.heap.size + 1 + 1⟩ w0.heap.size W.heap.size (V1.heap.size + 3) M (fun s X => J (V1.heap.size + 3) s X ∧ Ext wa X) (Jx (V1.heap.size + 3)) (linesR t L) HK.out
        (by show W.heap.size ≤ V1.heap.size; have := HPl2.out; omega) (by show V1.heap.size < _; omega)
        (by have := HPl2.out; have := HB.out; refine ⟨?_, ?_, ?_, ?_, ?_, ?_, ?_⟩ <;> dsimp only <;> omega)
        (by
          have h1 := HPl.out; have h2 := HPl2.out; have h3 := HB.out; have h4 := HsV.out
          refine ⟨.inl ⟨h1.1, hMp⟩, .inl ⟨h1.2.1, hMw⟩, .inr ⟨?_, ?_⟩, .inr ⟨?_, ?_⟩, .inr ⟨?_, ?_⟩, .inr ⟨?_, ?_⟩, .inr ⟨?_, ?_⟩⟩ <;> dsimp only <;> omega)
        (fun s A B h k => ⟨HJ.out _ _ _ _ (by have := HPl2.out; omega) h.1 k, ext_keep h.2 k (fun i hi => .inl (by have := HXa.out.size; omega))⟩)
        (fun pre s X hX hJX hp hl ho => (HY.out _ pre s X (by have := HPl2.out; omega) hX hJX.1 hp hl ho).mono (fun e X' h => by
          rcases h with ⟨he, hj, hk⟩ | h
          · exact .inl ⟨he, ⟨hj, ext_keep hJX.2 hk (fun i hi => .inl ⟨by have := HXs.out; omega, HM.out i hi⟩)⟩, hk⟩
          · exact .inr h))
      have HGo := Lib.hid hgo; clear hgo
      have HJ2 : Hid (J (V1.heap.size + 3) (linesTo t L 0) V2 ∧ Ext wa V2) := ⟨HJ.out _ _ _ _ (by have := HPl2.out; omega) (H0.out _ (by have := HPl2.out; omega)) (Keep.of_ext (HXV.out.trans (HXv.out.trans HX2.out))), HXa.out.trans (HXV.out.trans (HXv.out.trans HX2.out))⟩
      have HZ2 : Hid (V1.heap.size + 3 ≤ V2.heap.size) := by rw [HS2.out]; exact Nat.le_refl _
      go_loopw [28] (fun i wr => ∃ k : Nat, k ≤ t.starts.l.length ∧ i = .int .i64 (k : Int) ∧ Hid (J (V1.heap.size + 3) (linesTo t L k) wr ∧ Ext wa wr) ∧ Hid (GoW t L l ⟨p, wb, W.heap.size, cb, ob, V1.heap.size + 1, V1.heap.size, V1.heap.size + 1 + 1⟩ wr) ∧
          Hid (∃ Lst, Row wr V1.heap.size Lst (t.legs.l.length + 1) ∧ Lst.length = t.legs.l.length + 1) ∧ Hid (V1.heap.size + 3 ≤ wr.heap.size)) (fun i _ => t.starts.l.length - (intOf i).toNat)
      case atStart => exact ⟨0, Nat.zero_le _, rfl, HJ2, HG2, ⟨_, HR2.out, by simp⟩, HZ2⟩
      case round =>
        clear HJ2 HG2 HR2 HZ2 HX2 HXv HV2 HS2
        obtain ⟨wo, rfl⟩ : ∃ wo : World, wo = wr := ⟨_, rfl⟩
        obtain ⟨k, hkk, rfl, HJk, HGk, HRk, HZk⟩ := hrel
        by_cases hlt : k < t.starts.l.length
        · have dk : decide ((k : Int) < (t.starts.l.length : Int)) = true := decide_eq_true (by omega)
          obtain ⟨bs, os, hsa, hsc⟩ := HSt.out.2.2.resolve_left (by show ¬ t.starts.l.length = 0; omega)
          have cst : wo.cell? ⟨bs, os + k, none⟩ = some (.int .i64 (t.starts.l[k] : Int)) := by have := HJk.out.2.cell (hsc k hlt 0 (by omega)); simpa [num] using this
          have hsP := HK.out.start.1 _ (List.getElem_mem hlt)
          have hP2 := HK.out.p2
          have hsu := linesTo_succ t L k hlt
          have hpf := linesTo_prefix t L (k + 1)
          obtain ⟨g1, g2, g3, g4, g5, g6, g7⟩ := HGk.out
          have c5 := g5.cell 0 t.starts.l[k] (by omega) (by omega)
          rw [Nat.zero_mul, Nat.zero_add] at c5
          clear g1 g2 g3 g4 g5 g6 hsc
          rw [hsa]
          generalize t.starts.l[k] = s at *
          have s0 : (0 : Int) ≤ s := by omega
          have s1 : (s : Int) < 12 := by omega
          have k0 : (0 : Int) ≤ k := by omega
          have k1 : (k : Int) < (t.starts.l.length : Int) := by omega
          have k2 : (k : Int) < 12 := by have := HK.out.starts2; omega
          have HSa := Lib.hid hsa; clear hsa
          rcases hO : openK L t.P t.legs.l.length t.legs.l.length 0 s with _ | _
          · rw [hO] at c5 hsu
            have HSu : Hid (linesTo t L (k + 1) = linesTo t L k) := by show _ = _; simpa using hsu
            clear hsu hO hpf
            go_wp2_with fail
            go_roundw
            case rel => exact ⟨k + 1, by omega, by go_num, by rw [HSu.out]; exact HJk, HGk, HRk, HZk⟩
            case measure => simp [intOf]; omega
          · rw [hO] at c5 hsu
            have HSu : Hid (linesTo t L (k + 1) = linesTo t L k ++ lnF L t.P t.legs.l.length t.legs.l.length s) := by show _ = _; simpa using hsu
            have HPf := Lib.hid hpf
            obtain ⟨Lst, hrow, hlen⟩ := HRk.out
            have hcall := HGo.out t.legs.l.length 0 s wo (linesTo t L k) Lst (by omega) hsP HGk.out hrow hlen HJk.out HZk.out (by
              have := HPf.out; rw [HSu.out] at this; simpa using this)
            have emap : (lnF L t.P t.legs.l.length t.legs.l.length s).map (Lst.take 0 ++ ·) = lnF L t.P t.legs.l.length t.legs.l.length s := by simp
            rw [emap, show (((0 : Nat)) : Int) = 0 from rfl] at hcall
            have HCall := Lib.hid hcall; clear hcall emap
            clear hsu hO hpf hrow
            go_wp2_with (go_at_call 79; refine HCall.out.mono ?_; clear HCall; rintro e w2 (⟨rfl, hJ2, hG2, hR2, hZ2⟩ | ⟨rfl, q, hq, hx2⟩))
            · have HJ2 := Lib.hid hJ2; clear hJ2
              have HG2 := Lib.hid hG2; clear hG2
              have HR2 := Lib.hid hR2; clear hR2
              have HZ2 := Lib.hid hZ2; clear hZ2
              go_wp2_with fail
              go_roundw
              case rel =>
                obtain ⟨Lst2, r1, r2, r3⟩ := HR2.out
                exact ⟨k + 1, by omega, by go_num, by rw [HSu.out]; exact HJ2, HG2, ⟨Lst2, r1, r2⟩, HZ2⟩
              case measure => simp [intOf]; omega
            · have HX2 := Lib.hid hx2; clear hx2
              have HQ := Lib.hid hq; clear hq
              go_wp2
              refine bodyPost_ret (results_none rfl _ _ _) rfl ?_
              refine ⟨⟨_, rfl⟩, V1.heap.size + 3, by have := HPl2.out; omega, .inr ⟨_, ?_, HX2.out⟩⟩
              refine List.IsPrefix.trans ?_ HPf.out
              rw [HSu.out]
              exact List.prefix_append_right_inj _ |>.2 HQ.out
        · have hke : k = t.starts.l.length := by omega
          subst hke
          go_wp2
          go_end0
          refine ⟨⟨_, rfl⟩, V1.heap.size + 3, by have := HPl2.out; omega, .inl ?_⟩
          rw [← linesTo_all]; exact HJk.out.1
    | _ => exact h.elim
end Go.Proofs.YtopjjcgmcieboaaGreatDoor
