/- What the laws of stage 8 share: types by value, and the page's small builders. -/
import Derived.Test.YteolbbgnkbcfmaaAgP
import Derived.Test.YteolbbgnkbcfmaaTrA
import Derived.Test.YteolbbgnkbcfmaaTnB
import Derived.Test.YteolbbgnkbcfmaaTqB
namespace Go.Proofs.Yteolbbgnkbcfmaa
open Go Go.RowKit
open Tp (T)

theorem al_size : ∀ (l : List Obj) (w : World), (l.foldl World.alloc w).heap.size = w.heap.size + l.length
  | [], _ => rfl
  | o :: r, w => by rw [List.foldl_cons, al_size r, World.size_alloc, List.length_cons]; omega
theorem al_below : ∀ (l : List Obj) (w : World) {n : Nat} (_ : n ≤ w.heap.size), Below n w (l.foldl World.alloc w)
  | [], _, _, _ => Below.refl _ _
  | o :: r, w, n, h => by
    have h1 : Below n w (w.alloc o) := (Below.refl _ _).alloc h _
    exact h1.trans (al_below r (w.alloc o) (by rw [World.size_alloc]; omega))
theorem al_get : ∀ (l : List Obj) (w : World) (i : Nat) (o : Obj), l[i]? = some o → (l.foldl World.alloc w).heap[w.heap.size + i]? = some o
  | [], _, _, _, h => by simp at h
  | x :: r, w, 0, o, h => by
    have e : x = o := by simpa using h
    subst e
    have h1 := al_below r (w.alloc x) (n := w.heap.size + 1) (by rw [World.size_alloc]; exact Nat.le_refl _)
    exact (h1.block w.heap.size (Nat.lt_succ_self _)).trans (World.alloc_heap_new w x)
  | x :: r, w, i + 1, o, h => by
    have h1 := al_get r (w.alloc x) i o (by simpa using h)
    rw [World.size_alloc] at h1
    rw [show w.heap.size + (i + 1) = w.heap.size + 1 + i from by omega]
    exact h1
theorem al_old (l : List Obj) (w : World) (k : Nat) (h : k < w.heap.size) : (l.foldl World.alloc w).heap[k]? = w.heap[k]? := (al_below l w (n := w.heap.size) (Nat.le_refl _)).block k h
def IsC (V : World) (k : Nat) : Prop := ∃ A ty, V.heap[k]? = some (.cells A ty (0, 0))
theorem IsC.frozen {V : World} {k o : Nat} (h : IsC V k) : V.frozen? ⟨k, o, none⟩ = false := by
  obtain ⟨A, ty, h⟩ := h
  simp [World.frozen?, h]
theorem set_turns (V : World) (p : Addr) (v : Value) : Turns (fun k => k = p.block) V (V.setCell p v) := Turns.setCell V p v rfl
theorem box_set {V : World} {b i : Nat} {A : Array Value} {ty : TypeId} {v : Value} (h : V.heap[b]? = some (.cells A ty (0, 0))) : (V.setCell ⟨b, i, none⟩ v).heap[b]? = some (.cells (A.setIfInBounds i v) ty (0, 0)) := by
  obtain ⟨hlt, hk⟩ := Array.getElem?_eq_some_iff.1 h
  show (V.heap.modify b _)[b]? = _
  rw [Array.getElem?_eq_getElem (by rw [Array.size_modify]; exact hlt), Array.getElem_modify_self, hk]
  rfl
theorem box_set3 {V : World} {b : Nat} {x0 x1 x2 v0 v1 v2 : Value} {ty : TypeId} (h : V.heap[b]? = some (.cells #[x0, x1, x2] ty (0, 0))) : (((V.setCell ⟨b, 0, none⟩ v0).setCell ⟨b, 1, none⟩ v1).setCell ⟨b, 2, none⟩ v2).heap[b]? = some (.cells #[v0, v1, v2] ty (0, 0)) :=
  box_set (box_set (box_set h))
theorem set3_other {V : World} {b k : Nat} {v0 v1 v2 : Value} (h : k ≠ b) : (((V.setCell ⟨b, 0, none⟩ v0).setCell ⟨b, 1, none⟩ v1).setCell ⟨b, 2, none⟩ v2).heap[k]? = V.heap[k]? :=
  (Below.heap_setCell _ _ _ k h).trans ((Below.heap_setCell _ _ _ k h).trans (Below.heap_setCell _ _ _ k h))
theorem set3_turns (V : World) (b : Nat) (v0 v1 v2 : Value) : Turns (fun k => k = b) V (((V.setCell ⟨b, 0, none⟩ v0).setCell ⟨b, 1, none⟩ v1).setCell ⟨b, 2, none⟩ v2) :=
  ((set_turns V ⟨b, 0, none⟩ v0).trans (set_turns _ ⟨b, 1, none⟩ v1)).trans (set_turns _ ⟨b, 2, none⟩ v2)

/-- What a type's value says. -/
def TV (t : T) (k n : Int) (m : Nat) : Prop := t.kind = k ∧ t.num = n ∧ t.kids.length = m
theorem TV.mk (t : T) : ∃ k n m, TV t k n m := ⟨_, _, _, rfl, rfl, rfl⟩
theorem tv_of {t : T} {k n : Int} {m : Nat} (h : TV t k n m) (a : Option Addr) (c : Nat) : tv t a c = .agg #[.int .i64 k, .int .i64 n, .slice a m c] := by
  obtain ⟨rfl, rfl, rfl⟩ := h; rfl
theorem TV.kidl {k n : Int} {l : List T} {m : Nat} (h : l.length = m) : TV (.mk k n l) k n m := ⟨rfl, rfl, h⟩
/-- A type in a box. -/
structure BoxT (w : World) (b : Nat) (t : T) (k n : Int) (m : Nat) (a : Option Addr) (c : Nat) : Prop where
  says : TV t k n m
  box : w.heap[b]? = some (.cells #[.int .i64 k, .int .i64 n, .slice a m c] 26 (0, 0))
  ty : TyAt (LT w.heap.size) w t a c
theorem BoxT.lt {w : World} {b : Nat} {t : T} {k n : Int} {m : Nat} {a : Option Addr} {c : Nat} (h : BoxT w b t k n m a c) : b < w.heap.size := (Array.getElem?_eq_some_iff.1 h.box).1
theorem ty_later {w w' : World} {t : T} {a : Option Addr} {c : Nat} (h : TyAt (LT w.heap.size) w t a c) (hb : Below w.heap.size w w') : TyAt (LT w'.heap.size) w' t a c := h.below hb (fun _ h => h) (fun _ h => Nat.lt_of_lt_of_le h hb.size)
theorem BoxT.later {w w' : World} {b : Nat} {t : T} {k n : Int} {m : Nat} {a : Option Addr} {c : Nat} (h : BoxT w b t k n m a c) (hb : Below w.heap.size w w') : BoxT w' b t k n m a c := ⟨h.says, (hb.block b h.lt).trans h.box, ty_later h.ty hb⟩
theorem BoxT.cells {w : World} {b : Nat} {t : T} {k n : Int} {m : Nat} {a : Option Addr} {c : Nat} (h : BoxT w b t k n m a c) : w.cell? ⟨b, 0, none⟩ = some (.int .i64 k) ∧ w.cell? ⟨b, 1, none⟩ = some (.int .i64 n) ∧ w.cell? ⟨b, 2, none⟩ = some (.slice a m c) := ⟨cell_box h.box rfl rfl, cell_box h.box rfl rfl, cell_box h.box rfl rfl⟩
theorem i64_nat {k : Int} (h0 : 0 ≤ k) (h : k ≤ 1000) : I64 k := by unfold I64; omega
theorem leaf_at {G : Nat → Prop} {w : World} {k : Int} (h : I64 k) : TyAt G w (.mk k 0 []) none 0 := ⟨h, (show I64 0 from i64_nat (by decide) (by decide)), Nat.le_refl _, Nat.zero_le _, (show KidsAt G w [] none by simp [KidsAt])⟩

theorem row_at2 {H : Nat → Prop} {F : World} {g : Nat} {t u : T} {k n k' n' : Int} {m m' : Nat} {a a' : Option Addr} {c c' : Nat} (hv : TV t k n m) (hv' : TV u k' n' m') (hg : F.heap[g]? = some (.cells #[.int .i64 k, .int .i64 n, .slice a m c, .int .i64 k', .int .i64 n', .slice a' m' c'] 26))
    (hgH : H g) (ht : TyAt H F t a c) (hu : TyAt H F u a' c') : KidsAt H F [t, u] (some ⟨g, 0, none⟩) := by
  obtain ⟨rfl, rfl, rfl⟩ := hv
  obtain ⟨rfl, rfl, rfl⟩ := hv'
  refine KidsAt.of_nodes hgH [t, u] 0 (fun i hi => ?_)
  have hi2 : i = 0 ∨ i = 1 := by simp at hi; omega
  rcases hi2 with rfl | rfl
  · exact NodeAt.mk' ht (cell_box hg rfl rfl) (cell_box hg rfl rfl) (cell_box hg rfl rfl)
  · exact NodeAt.mk' hu (cell_box hg rfl rfl) (cell_box hg rfl rfl) (cell_box hg rfl rfl)
theorem row_at1 {F : World} {g : Nat} {t : T} {k n : Int} {m : Nat} {a : Option Addr} {c : Nat} (hv : TV t k n m) (hg : F.heap[g]? = some (.cells #[.int .i64 k, .int .i64 n, .slice a m c] 26))
    (ht : TyAt (LT F.heap.size) F t a c) : KidsAt (LT F.heap.size) F [t] (some ⟨g, 0, none⟩) := by
  obtain ⟨rfl, rfl, rfl⟩ := hv
  refine KidsAt.of_nodes (G := LT _) (show g < F.heap.size from (Array.getElem?_eq_some_iff.1 hg).1) [t] 0 (fun i hi => ?_)
  obtain rfl : i = 0 := by simpa using hi
  exact NodeAt.mk' ht (cell_box hg rfl rfl) (cell_box hg rfl rfl) (cell_box hg rfl rfl)
set_option maxRecDepth 100000 in
theorem leaf_any (k : Int) (w : World) : Calls Try.prog 55 #[.int .i64 k] w fun e w' => e = .returned (.agg #[.int .i64 k, .int .i64 0, .slice none 0 0]) ∧ Below w.heap.size w w' := by
  have hx := World.alloc_heap_new w (.cells #[.int .i64 k, .int .i64 0, .slice none 0 0] 26)
  have hb : Below w.heap.size w (w.alloc (.cells #[.int .i64 k, .int .i64 0, .slice none 0 0] 26)) := (Below.refl _ _).alloc (Nat.le_refl _) _
  go_enter Try.func55, Try.ntmps55
  go_wp2_with fail
  exact bodyPost_ret_by (v := .agg #[.int .i64 k, .int .i64 0, .slice none 0 0]) (results_cell_row (p := 2) (ty := 26) (by kernel_rfl) _ _ w.heap.size 26 _ (0, 0) _ rfl hx Try.underlying26 rfl (by kernel_rfl)) rfl ⟨rfl, hb⟩
/-- A type that a call has built. -/
def TyRes (t : T) (m : Nat) (w : World) (e : Ending) (w' : World) : Prop := ∃ g, e = .returned (.agg #[.int .i64 t.kind, .int .i64 t.num, .slice (some ⟨g, 0, none⟩) m m]) ∧ TyAt (LT w'.heap.size) w' t (some ⟨g, 0, none⟩) m ∧ Below w.heap.size w w'

set_option maxRecDepth 100000 in
set_option maxHeartbeats 2000000 in
theorem two_anyG (G : Nat → Prop) (kk : Int) (hkk : I64 kk) (t : T) (k n : Int) (m : Nat) (a : Option Addr) (c : Nat) (u : T) (k' n' : Int) (m' : Nat) (a' : Option Addr) (c' : Nat) (w : World) (hv : TV t k n m) (hv' : TV u k' n' m') (hG : ∀ b, G b → b < w.heap.size) (ht : TyAt G w t a c) (hu : TyAt G w u a' c') :
    Calls Try.prog 47 #[.int .i64 kk, .agg #[.int .i64 k, .int .i64 n, .slice a m c], .agg #[.int .i64 k', .int .i64 n', .slice a' m' c']] w fun e w' => ∃ g, e = .returned (.agg #[.int .i64 kk, .int .i64 0, .slice (some ⟨g, 0, none⟩) 2 2]) ∧ TyAt (fun b => G b ∨ (w.heap.size ≤ b ∧ b < w'.heap.size)) w' (.mk kk 0 [t, u]) (some ⟨g, 0, none⟩) 2 ∧ Below w.heap.size w w' := by
  obtain ⟨W2, hW2⟩ : ∃ W2, [Obj.cells #[.int .i64 k, .int .i64 n, .slice a m c] 26, .cells #[.int .i64 k', .int .i64 n', .slice a' m' c'] 26, .cells #[.int .i64 0, .int .i64 0, .slice none 0 0] 26].foldl World.alloc w = W2 := ⟨_, rfl⟩
  have hb2 : Below w.heap.size w W2 := by rw [← hW2]; exact al_below _ _ (Nat.le_refl _)
  have hx0 : W2.heap[w.heap.size]? = some (.cells #[.int .i64 k, .int .i64 n, .slice a m c] 26) := by rw [← hW2]; exact al_get _ w 0 _ rfl
  have hx1 : W2.heap[w.heap.size + 1]? = some (.cells #[.int .i64 k', .int .i64 n', .slice a' m' c'] 26) := by rw [← hW2]; exact al_get _ w 1 _ rfl
  have hx2 : W2.heap[w.heap.size + 1 + 1]? = some (.cells #[.int .i64 0, .int .i64 0, .slice none 0 0] 26) := by rw [← hW2]; exact al_get _ w 2 _ rfl
  have hs2 : W2.heap.size = w.heap.size + 3 := by rw [← hW2]; exact al_size _ _
  have c0 : W2.cell? ⟨w.heap.size, 0, none⟩ = some (.int .i64 k) := cell_box hx0 rfl rfl
  have c1 : W2.cell? ⟨w.heap.size, 1, none⟩ = some (.int .i64 n) := cell_box hx0 rfl rfl
  have c2 : W2.cell? ⟨w.heap.size, 2, none⟩ = some (.slice a m c) := cell_box hx0 rfl rfl
  have d0 : W2.cell? ⟨w.heap.size + 1, 0, none⟩ = some (.int .i64 k') := cell_box hx1 rfl rfl
  have d1 : W2.cell? ⟨w.heap.size + 1, 1, none⟩ = some (.int .i64 n') := cell_box hx1 rfl rfl
  have d2 : W2.cell? ⟨w.heap.size + 1, 2, none⟩ = some (.slice a' m' c') := cell_box hx1 rfl rfl
  obtain ⟨W3, hW3⟩ : ∃ W3, W2.alloc (.cells #[.int .i64 k, .int .i64 n, .slice a m c, .int .i64 k', .int .i64 n', .slice a' m' c'] 26) = W3 := ⟨_, rfl⟩
  have hb3 : Below W2.heap.size W2 W3 := by rw [← hW3]; exact (Below.refl _ _).alloc (Nat.le_refl _) _
  have HN3 := Lib.hid (show W3.heap[W2.heap.size]? = some (.cells #[.int .i64 k, .int .i64 n, .slice a m c, .int .i64 k', .int .i64 n', .slice a' m' c'] 26) by rw [← hW3]; exact World.alloc_heap_new W2 _)
  have hr3 : W3.heap[w.heap.size + 1 + 1]? = _ := (hb3.block _ (by omega)).trans hx2
  have r0 : W3.cell? ⟨w.heap.size + 1 + 1, 0, none⟩ = some (.int .i64 0) := cell_box hr3 rfl rfl
  have r1 : W3.cell? ⟨w.heap.size + 1 + 1, 1, none⟩ = some (.int .i64 0) := cell_box hr3 rfl rfl
  have r2 : W3.cell? ⟨w.heap.size + 1 + 1, 2, none⟩ = some (.slice none 0 0) := cell_box hr3 rfl rfl
  have f0 : W3.frozen? ⟨w.heap.size + 1 + 1, 0, none⟩ = false := IsC.frozen ⟨_, _, hr3⟩
  have f1 : W3.frozen? ⟨w.heap.size + 1 + 1, 1, none⟩ = false := IsC.frozen ⟨_, _, hr3⟩
  have f2 : W3.frozen? ⟨w.heap.size + 1 + 1, 2, none⟩ = false := IsC.frozen ⟨_, _, hr3⟩
  have HW2 := Lib.hid (show ((w.alloc (.cells #[.int .i64 k, .int .i64 n, .slice a m c] 26)).alloc (.cells #[.int .i64 k', .int .i64 n', .slice a' m' c'] 26)).alloc (.cells #[.int .i64 0, .int .i64 0, .slice none 0 0] 26) = W2 from hW2)
  have HW3 := Lib.hid hW3; have HB2 := Lib.hid hb2; have HB3 := Lib.hid hb3; have HR3 := Lib.hid hr3; have HS2 := Lib.hid hs2
  have HKK := Lib.hid hkk; have HV := Lib.hid hv; have HV' := Lib.hid hv'; have HT := Lib.hid ht; have HU := Lib.hid hu
  clear hW2 hW3 hb2 hb3 hx0 hx1 hx2 hr3 hs2 hv hv' ht hu hkk
  go_enter Try.func47, Try.ntmps47
  go_upto_region 1 with fail
  rw [HW2.out]
  go_wp2_with (rw [HW3.out])
  have hF := box_set3 (v0 := .int .i64 kk) (v1 := .int .i64 0) (v2 := .slice (some ⟨W2.heap.size, 0, none⟩) 2 2) HR3.out
  have hT := set3_turns W3 (w.heap.size + 1 + 1) (.int .i64 kk) (.int .i64 0) (.slice (some ⟨W2.heap.size, 0, none⟩) 2 2)
  have hO := fun k (hk : k ≠ w.heap.size + 1 + 1) => set3_other (V := W3) (v0 := .int .i64 kk) (v1 := .int .i64 0) (v2 := .slice (some ⟨W2.heap.size, 0, none⟩) 2 2) hk
  clear c0 c1 c2 d0 d1 d2 r0 r1 r2 f0 f1 f2
  generalize ((W3.setCell ⟨w.heap.size + 1 + 1, 0, none⟩ (.int .i64 kk)).setCell ⟨w.heap.size + 1 + 1, 1, none⟩ (.int .i64 0)).setCell ⟨w.heap.size + 1 + 1, 2, none⟩ (.slice (some ⟨W2.heap.size, 0, none⟩) 2 2) = F at hF hT hO ⊢
  have hbw : Below w.heap.size w W3 := HB2.out.trans (HB3.out.mono HB2.out.size)
  have hbF : Below w.heap.size w F := (hT.mono (M' := fun k => w.heap.size ≤ k) (fun k _ hk => by rw [show k = w.heap.size + 1 + 1 from hk]; omega)).below hbw (fun _ h => h) hbw.size
  have hg : F.heap[W2.heap.size]? = _ := (hO _ (by have := HS2.out; omega)).trans HN3.out
  have hk := row_at2 (H := fun b => G b ∨ (w.heap.size ≤ b ∧ b < F.heap.size)) HV.out HV'.out hg (.inr ⟨HB2.out.size, (Array.getElem?_eq_some_iff.1 hg).1⟩) (HT.out.below hbF hG (fun _ h => .inl h)) (HU.out.below hbF hG (fun _ h => .inl h))
  refine bodyPost_ret_by (v := .agg #[.int .i64 kk, .int .i64 0, .slice (some ⟨W2.heap.size, 0, none⟩) 2 2]) (results_cell_row (p := 6) (ty := 26) (by kernel_rfl) _ _ (w.heap.size + 1 + 1) 26 _ (0, 0) _ rfl hF Try.underlying26 rfl (by kernel_rfl)) rfl ⟨W2.heap.size, rfl, ?_, hbF⟩
  exact ⟨HKK.out, (show I64 0 from i64_nat (by decide) (by decide)), Nat.le_refl _, (show 2 ≤ maxLen by unfold maxLen; omega), hk⟩

theorem two_any (kk : Int) (hkk : I64 kk) (t : T) (k n : Int) (m : Nat) (a : Option Addr) (c : Nat) (u : T) (k' n' : Int) (m' : Nat) (a' : Option Addr) (c' : Nat) (w : World) (hv : TV t k n m) (hv' : TV u k' n' m') (ht : TyAt (LT w.heap.size) w t a c) (hu : TyAt (LT w.heap.size) w u a' c') :
    Calls Try.prog 47 #[.int .i64 kk, .agg #[.int .i64 k, .int .i64 n, .slice a m c], .agg #[.int .i64 k', .int .i64 n', .slice a' m' c']] w (TyRes (.mk kk 0 [t, u]) 2 w) := by
  refine (two_anyG (LT w.heap.size) kk hkk t k n m a c u k' n' m' a' c' w hv hv' (fun _ h => h) ht hu).mono ?_
  rintro e w' ⟨g, he, hty, hb⟩
  exact ⟨g, he, hty.below (Below.refl w'.heap.size w') (fun b h => h.elim (fun h => Nat.lt_of_lt_of_le h hb.size) (fun h => h.2)) (fun b h => h.elim (fun h => Nat.lt_of_lt_of_le h hb.size) (fun h => h.2)), hb⟩

/-- What Meet hands back, whatever came of it. -/
theorem ks_any {t u : T} {k n k' n' : Int} {m m' : Nat} {a a' : Option Addr} {c c' : Nat} {w : World} (hv : TV t k n m) (hv' : TV u k' n' m') (ht : TyAt (LT w.heap.size) w t a c) (hu : TyAt (LT w.heap.size) w u a' c') :
    Calls Try.prog 28 #[.agg #[.int .i64 k, .int .i64 n, .slice a m c], .agg #[.int .i64 k', .int .i64 n', .slice a' m' c']] w fun e w' => e = .returned (.bool (Tp.same t u)) ∧ Below w.heap.size w w' := by
  rw [← tv_of hv, ← tv_of hv']
  exact ksame_any _ t u a c a' c' w (Nat.le_refl _) ht hu
theorem wo_any (q : Int) {t : T} {k n : Int} {m : Nat} {a : Option Addr} {c : Nat} {w : World} (hv : TV t k n m) (ht : TyAt (LT w.heap.size) w t a c) :
    Calls Try.prog 48 #[.agg #[.int .i64 k, .int .i64 n, .slice a m c], .int .i64 q] w fun e w' => e = .returned (.bool (Tp.without q t)) ∧ Below w.heap.size w w' := by
  rw [← tv_of hv]
  exact rwithout_any q _ t a c w (Nat.le_refl _) ht
theorem sz_any {t : T} {k n : Int} {m : Nat} {a : Option Addr} {c : Nat} {w : World} (hv : TV t k n m) (ht : TyAt (LT w.heap.size) w t a c) (hs : Tp.size t ≤ 10000) :
    Calls Try.prog 86 #[.agg #[.int .i64 k, .int .i64 n, .slice a m c]] w fun e w' => e = .returned (.int .i64 (Tp.size t : Int)) ∧ Below w.heap.size w w' := by
  rw [← tv_of hv]
  exact rsize_any _ t a c w (Nat.le_refl _) hs ht
end Go.Proofs.Yteolbbgnkbcfmaa
