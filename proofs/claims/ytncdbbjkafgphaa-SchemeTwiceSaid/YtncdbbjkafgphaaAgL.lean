/- What the laws of stage 8 share: types by value, and the page's small builders. -/
import Derived.Test.YtncdbbjkafgphaaAgV
import Derived.Test.YtncdbbjkafgphaaTqS
namespace Go.Proofs.Ytncdbbjkafgphaa
open Go Go.RowKit
open Tp (T)

/-- What a type's value says. -/
def TV (t : T) (k n : Int) (m : Nat) : Prop := t.kind = k ∧ t.num = n ∧ t.kids.length = m
theorem TV.mk (t : T) : ∃ k n m, TV t k n m := ⟨_, _, _, rfl, rfl, rfl⟩
theorem tv_of {t : T} {k n : Int} {m : Nat} (h : TV t k n m) (a : Option Addr) (c : Nat) : tv t a c = .agg #[.int .i64 k, .int .i64 n, .slice a m c] := by
  obtain ⟨rfl, rfl, rfl⟩ := h; rfl
theorem TV.kidl {k n : Int} {l : List T} {m : Nat} (h : l.length = m) : TV (.mk k n l) k n m := ⟨rfl, rfl, h⟩
def Mt (t u : T) : T := if Tp.ok t u = true then Tp.meet t u else .mk 0 0 []
/-- A type in a box. -/
structure BoxT (w : World) (b : Nat) (t : T) (k n : Int) (m : Nat) (a : Option Addr) (c : Nat) : Prop where
  says : TV t k n m
  box : w.heap[b]? = some (.cells #[.int .i64 k, .int .i64 n, .slice a m c] 24 (0, 0))
  ty : TyAt (LT w.heap.size) w t a c
theorem BoxT.lt {w : World} {b : Nat} {t : T} {k n : Int} {m : Nat} {a : Option Addr} {c : Nat} (h : BoxT w b t k n m a c) : b < w.heap.size := (Array.getElem?_eq_some_iff.1 h.box).1
theorem ty_later {w w' : World} {t : T} {a : Option Addr} {c : Nat} (h : TyAt (LT w.heap.size) w t a c) (hb : Below w.heap.size w w') : TyAt (LT w'.heap.size) w' t a c := h.below hb (fun _ h => h) (fun _ h => Nat.lt_of_lt_of_le h hb.size)
theorem BoxT.later {w w' : World} {b : Nat} {t : T} {k n : Int} {m : Nat} {a : Option Addr} {c : Nat} (h : BoxT w b t k n m a c) (hb : Below w.heap.size w w') : BoxT w' b t k n m a c := ⟨h.says, (hb.block b h.lt).trans h.box, ty_later h.ty hb⟩
theorem BoxT.cells {w : World} {b : Nat} {t : T} {k n : Int} {m : Nat} {a : Option Addr} {c : Nat} (h : BoxT w b t k n m a c) : w.cell? ⟨b, 0, none⟩ = some (.int .i64 k) ∧ w.cell? ⟨b, 1, none⟩ = some (.int .i64 n) ∧ w.cell? ⟨b, 2, none⟩ = some (.slice a m c) := ⟨cell_box h.box rfl rfl, cell_box h.box rfl rfl, cell_box h.box rfl rfl⟩
theorem i64_nat {k : Int} (h0 : 0 ≤ k) (h : k ≤ 1000) : I64 k := by unfold I64; omega
theorem leaf_at {G : Nat → Prop} {w : World} {k : Int} (h : I64 k) : TyAt G w (.mk k 0 []) none 0 := ⟨h, (show I64 0 from i64_nat (by decide) (by decide)), Nat.le_refl _, Nat.zero_le _, (show KidsAt G w [] none by simp [KidsAt])⟩

theorem row_at2 {H : Nat → Prop} {F : World} {g : Nat} {t u : T} {k n k' n' : Int} {m m' : Nat} {a a' : Option Addr} {c c' : Nat} (hv : TV t k n m) (hv' : TV u k' n' m') (hg : F.heap[g]? = some (.cells #[.int .i64 k, .int .i64 n, .slice a m c, .int .i64 k', .int .i64 n', .slice a' m' c'] 24))
    (hgH : H g) (ht : TyAt H F t a c) (hu : TyAt H F u a' c') : KidsAt H F [t, u] (some ⟨g, 0, none⟩) := by
  obtain ⟨rfl, rfl, rfl⟩ := hv
  obtain ⟨rfl, rfl, rfl⟩ := hv'
  refine KidsAt.of_nodes hgH [t, u] 0 (fun i hi => ?_)
  have hi2 : i = 0 ∨ i = 1 := by simp at hi; omega
  rcases hi2 with rfl | rfl
  · exact NodeAt.mk' ht (cell_box hg rfl rfl) (cell_box hg rfl rfl) (cell_box hg rfl rfl)
  · exact NodeAt.mk' hu (cell_box hg rfl rfl) (cell_box hg rfl rfl) (cell_box hg rfl rfl)
theorem row_at1 {F : World} {g : Nat} {t : T} {k n : Int} {m : Nat} {a : Option Addr} {c : Nat} (hv : TV t k n m) (hg : F.heap[g]? = some (.cells #[.int .i64 k, .int .i64 n, .slice a m c] 24))
    (ht : TyAt (LT F.heap.size) F t a c) : KidsAt (LT F.heap.size) F [t] (some ⟨g, 0, none⟩) := by
  obtain ⟨rfl, rfl, rfl⟩ := hv
  refine KidsAt.of_nodes (G := LT _) (show g < F.heap.size from (Array.getElem?_eq_some_iff.1 hg).1) [t] 0 (fun i hi => ?_)
  obtain rfl : i = 0 := by simpa using hi
  exact NodeAt.mk' ht (cell_box hg rfl rfl) (cell_box hg rfl rfl) (cell_box hg rfl rfl)
set_option maxRecDepth 100000 in
theorem leaf_any (k : Int) (w : World) : Calls Try.prog 32 #[.int .i64 k] w fun e w' => e = .returned (.agg #[.int .i64 k, .int .i64 0, .slice none 0 0]) ∧ Below w.heap.size w w' := by
  have hx := World.alloc_heap_new w (.cells #[.int .i64 k, .int .i64 0, .slice none 0 0] 24)
  have hb : Below w.heap.size w (w.alloc (.cells #[.int .i64 k, .int .i64 0, .slice none 0 0] 24)) := (Below.refl _ _).alloc (Nat.le_refl _) _
  go_enter Try.func32, Try.ntmps32
  go_wp2_with fail
  exact bodyPost_ret_by (v := .agg #[.int .i64 k, .int .i64 0, .slice none 0 0]) (results_cell_row (p := 2) (ty := 24) (by kernel_rfl) _ _ w.heap.size 24 _ (0, 0) _ rfl hx Try.underlying24 rfl (by kernel_rfl)) rfl ⟨rfl, hb⟩
/-- A type that a call has built. -/
def TyRes (t : T) (m : Nat) (w : World) (e : Ending) (w' : World) : Prop := ∃ g, e = .returned (.agg #[.int .i64 t.kind, .int .i64 t.num, .slice (some ⟨g, 0, none⟩) m m]) ∧ TyAt (LT w'.heap.size) w' t (some ⟨g, 0, none⟩) m ∧ Below w.heap.size w w'

set_option maxRecDepth 100000 in
set_option maxHeartbeats 2000000 in
theorem two_anyG (G : Nat → Prop) (kk : Int) (hkk : I64 kk) (t : T) (k n : Int) (m : Nat) (a : Option Addr) (c : Nat) (u : T) (k' n' : Int) (m' : Nat) (a' : Option Addr) (c' : Nat) (w : World) (hv : TV t k n m) (hv' : TV u k' n' m') (hG : ∀ b, G b → b < w.heap.size) (ht : TyAt G w t a c) (hu : TyAt G w u a' c') :
    Calls Try.prog 45 #[.int .i64 kk, .agg #[.int .i64 k, .int .i64 n, .slice a m c], .agg #[.int .i64 k', .int .i64 n', .slice a' m' c']] w fun e w' => ∃ g, e = .returned (.agg #[.int .i64 kk, .int .i64 0, .slice (some ⟨g, 0, none⟩) 2 2]) ∧ TyAt (fun b => G b ∨ (w.heap.size ≤ b ∧ b < w'.heap.size)) w' (.mk kk 0 [t, u]) (some ⟨g, 0, none⟩) 2 ∧ Below w.heap.size w w' := by
  obtain ⟨W2, hW2⟩ : ∃ W2, [Obj.cells #[.int .i64 k, .int .i64 n, .slice a m c] 24, .cells #[.int .i64 k', .int .i64 n', .slice a' m' c'] 24, .cells #[.int .i64 0, .int .i64 0, .slice none 0 0] 24].foldl World.alloc w = W2 := ⟨_, rfl⟩
  have hb2 : Below w.heap.size w W2 := by rw [← hW2]; exact al_below _ _ (Nat.le_refl _)
  have hx0 : W2.heap[w.heap.size]? = some (.cells #[.int .i64 k, .int .i64 n, .slice a m c] 24) := by rw [← hW2]; exact al_get _ w 0 _ rfl
  have hx1 : W2.heap[w.heap.size + 1]? = some (.cells #[.int .i64 k', .int .i64 n', .slice a' m' c'] 24) := by rw [← hW2]; exact al_get _ w 1 _ rfl
  have hx2 : W2.heap[w.heap.size + 1 + 1]? = some (.cells #[.int .i64 0, .int .i64 0, .slice none 0 0] 24) := by rw [← hW2]; exact al_get _ w 2 _ rfl
  have hs2 : W2.heap.size = w.heap.size + 3 := by rw [← hW2]; exact al_size _ _
  have c0 : W2.cell? ⟨w.heap.size, 0, none⟩ = some (.int .i64 k) := cell_box hx0 rfl rfl
  have c1 : W2.cell? ⟨w.heap.size, 1, none⟩ = some (.int .i64 n) := cell_box hx0 rfl rfl
  have c2 : W2.cell? ⟨w.heap.size, 2, none⟩ = some (.slice a m c) := cell_box hx0 rfl rfl
  have d0 : W2.cell? ⟨w.heap.size + 1, 0, none⟩ = some (.int .i64 k') := cell_box hx1 rfl rfl
  have d1 : W2.cell? ⟨w.heap.size + 1, 1, none⟩ = some (.int .i64 n') := cell_box hx1 rfl rfl
  have d2 : W2.cell? ⟨w.heap.size + 1, 2, none⟩ = some (.slice a' m' c') := cell_box hx1 rfl rfl
  obtain ⟨W3, hW3⟩ : ∃ W3, W2.alloc (.cells #[.int .i64 k, .int .i64 n, .slice a m c, .int .i64 k', .int .i64 n', .slice a' m' c'] 24) = W3 := ⟨_, rfl⟩
  have hb3 : Below W2.heap.size W2 W3 := by rw [← hW3]; exact (Below.refl _ _).alloc (Nat.le_refl _) _
  have HN3 := Lib.hid (show W3.heap[W2.heap.size]? = some (.cells #[.int .i64 k, .int .i64 n, .slice a m c, .int .i64 k', .int .i64 n', .slice a' m' c'] 24) by rw [← hW3]; exact World.alloc_heap_new W2 _)
  have hr3 : W3.heap[w.heap.size + 1 + 1]? = _ := (hb3.block _ (by omega)).trans hx2
  have r0 : W3.cell? ⟨w.heap.size + 1 + 1, 0, none⟩ = some (.int .i64 0) := cell_box hr3 rfl rfl
  have r1 : W3.cell? ⟨w.heap.size + 1 + 1, 1, none⟩ = some (.int .i64 0) := cell_box hr3 rfl rfl
  have r2 : W3.cell? ⟨w.heap.size + 1 + 1, 2, none⟩ = some (.slice none 0 0) := cell_box hr3 rfl rfl
  have f0 : W3.frozen? ⟨w.heap.size + 1 + 1, 0, none⟩ = false := IsC.frozen ⟨_, _, hr3⟩
  have f1 : W3.frozen? ⟨w.heap.size + 1 + 1, 1, none⟩ = false := IsC.frozen ⟨_, _, hr3⟩
  have f2 : W3.frozen? ⟨w.heap.size + 1 + 1, 2, none⟩ = false := IsC.frozen ⟨_, _, hr3⟩
  have HW2 := Lib.hid (show ((w.alloc (.cells #[.int .i64 k, .int .i64 n, .slice a m c] 24)).alloc (.cells #[.int .i64 k', .int .i64 n', .slice a' m' c'] 24)).alloc (.cells #[.int .i64 0, .int .i64 0, .slice none 0 0] 24) = W2 from hW2)
  have HW3 := Lib.hid hW3; have HB2 := Lib.hid hb2; have HB3 := Lib.hid hb3; have HR3 := Lib.hid hr3; have HS2 := Lib.hid hs2
  have HKK := Lib.hid hkk; have HV := Lib.hid hv; have HV' := Lib.hid hv'; have HT := Lib.hid ht; have HU := Lib.hid hu
  clear hW2 hW3 hb2 hb3 hx0 hx1 hx2 hr3 hs2 hv hv' ht hu hkk
  go_enter Try.func45, Try.ntmps45
  go_upto_region 1 with fail
  rw [HW2.out]
  go_wp2_with (rw [HW3.out])
  have hF := box_set3 (v0 := .int .i64 kk) (v1 := .int .i64 0) (v2 := .slice (some ⟨W2.heap.size, 0, none⟩) 2 2) HR3.out
  have hT := set3_turns W3 (w.heap.size + 1 + 1) (.int .i64 kk) (.int .i64 0) (.slice (some ⟨W2.heap.size, 0, none⟩) 2 2)
  have hO := fun k (hk : k ≠ w.heap.size + 1 + 1) => set3_other (V := W3) (v0 := .int .i64 kk) (v1 := .int .i64 0) (v2 := .slice (some ⟨W2.heap.size, 0, none⟩) 2 2) hk
  clear c0 c1 c2 d0 d1 d2 r0 r1 r2 f0 f1 f2
  generalize ((W3.setCell ⟨w.heap.size + 1 + 1, 0, none⟩ (.int .i64 kk)).setCell ⟨w.heap.size + 1 + 1, 1, none⟩ (.int .i64 0)).setCell ⟨w.heap.size + 1 + 1, 2, none⟩ (.slice (some ⟨W2.heap.size, 0, none⟩) 2 2) = F at hF hT hO ⊢
  have hbw : Below w.heap.size w W3 := HB2.out.trans (HB3.out.mono HB2.out.size)
  have hbF : Below w.heap.size w F := (hT.mono (M' := fun k => w.heap.size ≤ k) (fun k _ hk => by rw [show k = w.heap.size + 1 + 1 from hk]; omega)).below hbw (fun _ h => h) hbw.size
  have hg : F.heap[W2.heap.size]? = _ := (hO _ (by have := HS2.out; omega)).trans HN3.out
  have hk := row_at2 (H := fun b => G b ∨ (w.heap.size ≤ b ∧ b < F.heap.size)) HV.out HV'.out hg (.inr ⟨HB2.out.size, (Array.getElem?_eq_some_iff.1 hg).1⟩) (HT.out.below hbF hG (fun _ h => .inl h)) (HU.out.below hbF hG (fun _ h => .inl h))
  refine bodyPost_ret_by (v := .agg #[.int .i64 kk, .int .i64 0, .slice (some ⟨W2.heap.size, 0, none⟩) 2 2]) (results_cell_row (p := 6) (ty := 24) (by kernel_rfl) _ _ (w.heap.size + 1 + 1) 24 _ (0, 0) _ rfl hF Try.underlying24 rfl (by kernel_rfl)) rfl ⟨W2.heap.size, rfl, ?_, hbF⟩
  exact ⟨HKK.out, (show I64 0 from i64_nat (by decide) (by decide)), Nat.le_refl _, (show 2 ≤ maxLen by unfold maxLen; omega), hk⟩

theorem two_any (kk : Int) (hkk : I64 kk) (t : T) (k n : Int) (m : Nat) (a : Option Addr) (c : Nat) (u : T) (k' n' : Int) (m' : Nat) (a' : Option Addr) (c' : Nat) (w : World) (hv : TV t k n m) (hv' : TV u k' n' m') (ht : TyAt (LT w.heap.size) w t a c) (hu : TyAt (LT w.heap.size) w u a' c') :
    Calls Try.prog 45 #[.int .i64 kk, .agg #[.int .i64 k, .int .i64 n, .slice a m c], .agg #[.int .i64 k', .int .i64 n', .slice a' m' c']] w (TyRes (.mk kk 0 [t, u]) 2 w) := by
  refine (two_anyG (LT w.heap.size) kk hkk t k n m a c u k' n' m' a' c' w hv hv' (fun _ h => h) ht hu).mono ?_
  rintro e w' ⟨g, he, hty, hb⟩
  exact ⟨g, he, hty.below (Below.refl w'.heap.size w') (fun b h => h.elim (fun h => Nat.lt_of_lt_of_le h hb.size) (fun h => h.2)) (fun b h => h.elim (fun h => Nat.lt_of_lt_of_le h hb.size) (fun h => h.2)), hb⟩

set_option maxRecDepth 100000 in
set_option maxHeartbeats 2000000 in
theorem list_any (t : T) (k n : Int) (m : Nat) (a : Option Addr) (c : Nat) (w : World) (hv : TV t k n m) (ht : TyAt (LT w.heap.size) w t a c) :
    Calls Try.prog 46 #[.agg #[.int .i64 k, .int .i64 n, .slice a m c]] w (TyRes (.mk 8 0 [t]) 1 w) := by
  obtain ⟨W2, hW2⟩ : ∃ W2, [Obj.cells #[.int .i64 k, .int .i64 n, .slice a m c] 24, .cells #[.int .i64 0, .int .i64 0, .slice none 0 0] 24].foldl World.alloc w = W2 := ⟨_, rfl⟩
  have hb2 : Below w.heap.size w W2 := by rw [← hW2]; exact al_below _ _ (Nat.le_refl _)
  have hx0 : W2.heap[w.heap.size]? = some (.cells #[.int .i64 k, .int .i64 n, .slice a m c] 24) := by rw [← hW2]; exact al_get _ w 0 _ rfl
  have hx2 : W2.heap[w.heap.size + 1]? = some (.cells #[.int .i64 0, .int .i64 0, .slice none 0 0] 24) := by rw [← hW2]; exact al_get _ w 1 _ rfl
  have hs2 : W2.heap.size = w.heap.size + 2 := by rw [← hW2]; exact al_size _ _
  have c0 : W2.cell? ⟨w.heap.size, 0, none⟩ = some (.int .i64 k) := cell_box hx0 rfl rfl
  have c1 : W2.cell? ⟨w.heap.size, 1, none⟩ = some (.int .i64 n) := cell_box hx0 rfl rfl
  have c2 : W2.cell? ⟨w.heap.size, 2, none⟩ = some (.slice a m c) := cell_box hx0 rfl rfl
  obtain ⟨W3, hW3⟩ : ∃ W3, W2.alloc (.cells #[.int .i64 k, .int .i64 n, .slice a m c] 24) = W3 := ⟨_, rfl⟩
  have hb3 : Below W2.heap.size W2 W3 := by rw [← hW3]; exact (Below.refl _ _).alloc (Nat.le_refl _) _
  have HN3 := Lib.hid (show W3.heap[W2.heap.size]? = some (.cells #[.int .i64 k, .int .i64 n, .slice a m c] 24) by rw [← hW3]; exact World.alloc_heap_new W2 _)
  have hr3 : W3.heap[w.heap.size + 1]? = _ := (hb3.block _ (by omega)).trans hx2
  have r0 : W3.cell? ⟨w.heap.size + 1, 0, none⟩ = some (.int .i64 0) := cell_box hr3 rfl rfl
  have r1 : W3.cell? ⟨w.heap.size + 1, 1, none⟩ = some (.int .i64 0) := cell_box hr3 rfl rfl
  have r2 : W3.cell? ⟨w.heap.size + 1, 2, none⟩ = some (.slice none 0 0) := cell_box hr3 rfl rfl
  have f0 : W3.frozen? ⟨w.heap.size + 1, 0, none⟩ = false := IsC.frozen ⟨_, _, hr3⟩
  have f1 : W3.frozen? ⟨w.heap.size + 1, 1, none⟩ = false := IsC.frozen ⟨_, _, hr3⟩
  have f2 : W3.frozen? ⟨w.heap.size + 1, 2, none⟩ = false := IsC.frozen ⟨_, _, hr3⟩
  have HW2 := Lib.hid (show (w.alloc (.cells #[.int .i64 k, .int .i64 n, .slice a m c] 24)).alloc (.cells #[.int .i64 0, .int .i64 0, .slice none 0 0] 24) = W2 from hW2)
  have HW3 := Lib.hid hW3; have HB2 := Lib.hid hb2; have HB3 := Lib.hid hb3; have HR3 := Lib.hid hr3; have HS2 := Lib.hid hs2; have HV := Lib.hid hv; have HT := Lib.hid ht
  clear hW2 hW3 hb2 hb3 hx0 hx2 hr3 hs2 hv ht
  go_enter Try.func46, Try.ntmps46
  go_upto_region 1 with fail
  rw [HW2.out]
  go_wp2_with (rw [HW3.out])
  have hF := box_set3 (v0 := .int .i64 8) (v1 := .int .i64 0) (v2 := .slice (some ⟨W2.heap.size, 0, none⟩) 1 1) HR3.out
  have hT := set3_turns W3 (w.heap.size + 1) (.int .i64 8) (.int .i64 0) (.slice (some ⟨W2.heap.size, 0, none⟩) 1 1)
  have hO := fun k (hk : k ≠ w.heap.size + 1) => set3_other (V := W3) (v0 := .int .i64 8) (v1 := .int .i64 0) (v2 := .slice (some ⟨W2.heap.size, 0, none⟩) 1 1) hk
  clear c0 c1 c2 r0 r1 r2 f0 f1 f2
  generalize ((W3.setCell ⟨w.heap.size + 1, 0, none⟩ (.int .i64 8)).setCell ⟨w.heap.size + 1, 1, none⟩ (.int .i64 0)).setCell ⟨w.heap.size + 1, 2, none⟩ (.slice (some ⟨W2.heap.size, 0, none⟩) 1 1) = F at hF hT hO ⊢
  have hbw : Below w.heap.size w W3 := HB2.out.trans (HB3.out.mono HB2.out.size)
  have hbF : Below w.heap.size w F := (hT.mono (M' := fun k => w.heap.size ≤ k) (fun k _ hk => by rw [show k = w.heap.size + 1 from hk]; omega)).below hbw (fun _ h => h) hbw.size
  have hg : F.heap[W2.heap.size]? = _ := (hO _ (by have := HS2.out; omega)).trans HN3.out
  have hk := row_at1 HV.out hg (ty_later HT.out hbF)
  refine bodyPost_ret_by (v := .agg #[.int .i64 8, .int .i64 0, .slice (some ⟨W2.heap.size, 0, none⟩) 1 1]) (results_cell_row (p := 2) (ty := 24) (by kernel_rfl) _ _ (w.heap.size + 1) 24 _ (0, 0) _ rfl hF Try.underlying24 rfl (by kernel_rfl)) rfl ⟨W2.heap.size, rfl, ?_, hbF⟩
  exact ⟨(show I64 8 from i64_nat (by decide) (by decide)), (show I64 0 from i64_nat (by decide) (by decide)), Nat.le_refl _, (show 1 ≤ maxLen by unfold maxLen; omega), hk⟩

/-- What Meet hands back, whatever came of it. -/
def MtRes (t u : T) (w : World) (e : Ending) (w' : World) : Prop := ∃ k n m a c, TV (Mt t u) k n m ∧ e = .returned (.tuple #[.agg #[.int .i64 k, .int .i64 n, .slice a m c], .bool (Tp.ok t u)]) ∧ TyAt (LT w'.heap.size) w' (Mt t u) a c ∧ Below w.heap.size w w'
theorem ks_any {t u : T} {k n k' n' : Int} {m m' : Nat} {a a' : Option Addr} {c c' : Nat} {w : World} (hv : TV t k n m) (hv' : TV u k' n' m') (ht : TyAt (LT w.heap.size) w t a c) (hu : TyAt (LT w.heap.size) w u a' c') :
    Calls Try.prog 17 #[.agg #[.int .i64 k, .int .i64 n, .slice a m c], .agg #[.int .i64 k', .int .i64 n', .slice a' m' c']] w fun e w' => e = .returned (.bool (Tp.same t u)) ∧ Below w.heap.size w w' := by
  rw [← tv_of hv, ← tv_of hv']
  exact ksame_any _ t u a c a' c' w (Nat.le_refl _) ht hu
theorem wo_any (q : Int) {t : T} {k n : Int} {m : Nat} {a : Option Addr} {c : Nat} {w : World} (hv : TV t k n m) (ht : TyAt (LT w.heap.size) w t a c) :
    Calls Try.prog 28 #[.agg #[.int .i64 k, .int .i64 n, .slice a m c], .int .i64 q] w fun e w' => e = .returned (.bool (Tp.without q t)) ∧ Below w.heap.size w w' := by
  rw [← tv_of hv]
  exact rwithout_any q _ t a c w (Nat.le_refl _) ht
end Go.Proofs.Ytncdbbjkafgphaa
