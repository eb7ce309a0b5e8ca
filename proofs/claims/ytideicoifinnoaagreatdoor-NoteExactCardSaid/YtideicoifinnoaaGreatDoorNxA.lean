/- Boxes and rows of types for the laws of layer 4 (as in stage 3's texts, without the functions that this seat lacks). -/
import Derived.Test.YtideicoifinnoaaGreatDoorTqB
import Derived.Test.YtideicoifinnoaaGreatDoorTkA
namespace Go.Proofs.YtideicoifinnoaaGreatDoor
open Go Go.RowKit
open Tp (T)

theorem sz_le {t : T} (h : Tp.size t ≤ 600) : Tp.size t ≤ 10000 := by omega
/-- Two types in boxes of the call's own. -/
theorem box_two {w : World} {t u : T} {a b : Option Addr} {cap cap' : Nat} (ht : TyAt (LT w.heap.size) w t a cap) (hu : TyAt (LT w.heap.size) w u b cap') {k n k' n' : Int} {m m' : Nat} {W : World}
    (hW : (w.alloc (.cells #[.int .i64 k, .int .i64 n, .slice a m cap] 24)).alloc (.cells #[.int .i64 k', .int .i64 n', .slice b m' cap'] 24) = W) :
    (∀ w', Below (w.heap.size + 2) W w' → w'.cell? ⟨w.heap.size, 0, none⟩ = some (.int .i64 k) ∧ w'.cell? ⟨w.heap.size, 1, none⟩ = some (.int .i64 n) ∧ w'.cell? ⟨w.heap.size, 2, none⟩ = some (.slice a m cap) ∧
      w'.cell? ⟨w.heap.size + 1, 0, none⟩ = some (.int .i64 k') ∧ w'.cell? ⟨w.heap.size + 1, 1, none⟩ = some (.int .i64 n') ∧ w'.cell? ⟨w.heap.size + 1, 2, none⟩ = some (.slice b m' cap')) ∧
    (∀ w', Below (w.heap.size + 2) W w' → TyAt (LT w'.heap.size) w' t a cap) ∧ (∀ w', Below (w.heap.size + 2) W w' → TyAt (LT w'.heap.size) w' u b cap') ∧
    (∀ w', Below (w.heap.size + 2) W w' → w.heap.size + 2 ≤ w'.heap.size) ∧ (∀ w', Below (w.heap.size + 2) W w' → Below w.heap.size w w') := by
  subst hW
  have hbase : Below w.heap.size w ((w.alloc (.cells #[.int .i64 k, .int .i64 n, .slice a m cap] 24)).alloc (.cells #[.int .i64 k', .int .i64 n', .slice b m' cap'] 24)) := ((Below.refl _ _).alloc (Nat.le_refl _) _).alloc (by simp) _
  have hs : ∀ w', Below (w.heap.size + 2) ((w.alloc (.cells #[.int .i64 k, .int .i64 n, .slice a m cap] 24)).alloc (.cells #[.int .i64 k', .int .i64 n', .slice b m' cap'] 24)) w' → w.heap.size + 2 ≤ w'.heap.size := fun w' hb => by have := hb.size; rw [World.size_alloc, World.size_alloc] at this; omega
  refine ⟨fun w' hb => ?_, fun w' hb => ?_, fun w' hb => ?_, hs, fun w' hb => ?_⟩
  · have h1 := box1 w #[.int .i64 k, .int .i64 n, .slice a m cap] #[.int .i64 k', .int .i64 n', .slice b m' cap'] 24 24
    have h2 := box2 w #[.int .i64 k, .int .i64 n, .slice a m cap] #[.int .i64 k', .int .i64 n', .slice b m' cap'] 24 24
    have e1 := hb.block w.heap.size (by omega)
    have e2 := hb.block (w.heap.size + 1) (by omega)
    exact ⟨cell_box h1 e1 rfl, cell_box h1 e1 rfl, cell_box h1 e1 rfl, cell_box h2 e2 rfl, cell_box h2 e2 rfl, cell_box h2 e2 rfl⟩
  · exact ht.below (hbase.trans (hb.mono (by omega))) (fun _ h => h) (fun _ h => Nat.lt_of_lt_of_le h (Nat.le_trans (Nat.le_add_right _ 2) (hs w' hb)))
  · exact hu.below (hbase.trans (hb.mono (by omega))) (fun _ h => h) (fun _ h => Nat.lt_of_lt_of_le h (Nat.le_trans (Nat.le_add_right _ 2) (hs w' hb)))
  · exact hbase.trans (hb.mono (by omega))
/-- A row of two. -/
theorem row_two {w1 : World} {t u : T} {a b : Option Addr} {cap cap' : Nat} (ht : TyAt (LT w1.heap.size) w1 t a cap) (hu : TyAt (LT w1.heap.size) w1 u b cap') {k n k' n' : Int} {m m' : Nat} (hk : t.kind = k) (hn : t.num = n) (hm : t.kids.length = m) (hk' : u.kind = k') (hn' : u.num = n') (hm' : u.kids.length = m') :
    KidsAt (LT (w1.alloc (.cells #[.int .i64 k, .int .i64 n, .slice a m cap, .int .i64 k', .int .i64 n', .slice b m' cap'] 24)).heap.size) (w1.alloc (.cells #[.int .i64 k, .int .i64 n, .slice a m cap, .int .i64 k', .int .i64 n', .slice b m' cap'] 24)) [t, u] (some ⟨w1.heap.size, 0, none⟩) := by
  subst hk hn hm hk' hn' hm'
  refine KidsAt.of_nodes (G := LT _) (by unfold LT; simp) [t, u] 0 (fun i hi => ?_)
  have h := World.alloc_heap_new w1 (.cells #[.int .i64 t.kind, .int .i64 t.num, .slice a t.kids.length cap, .int .i64 u.kind, .int .i64 u.num, .slice b u.kids.length cap'] 24)
  have hi2 : i = 0 ∨ i = 1 := by simp at hi; omega
  rcases hi2 with rfl | rfl
  · exact NodeAt.mk' (ht.below ((Below.refl w1.heap.size w1).alloc (Nat.le_refl _) _) (fun _ h => h) (fun b h => (by unfold LT at *; rw [World.size_alloc]; omega))) (cell_box h rfl rfl) (cell_box h rfl rfl) (cell_box h rfl rfl)
  · exact NodeAt.mk' (hu.below ((Below.refl w1.heap.size w1).alloc (Nat.le_refl _) _) (fun _ h => h) (fun b h => (by unfold LT at *; rw [World.size_alloc]; omega))) (cell_box h rfl rfl) (cell_box h rfl rfl) (cell_box h rfl rfl)
theorem sizes_two (t u : T) : Tp.sizes [t, u] = Tp.size t + Tp.size u := by simp [Tp.sizes]
/-- The parts of a pair, a function, a list. -/
theorem two_right (k : Int) (hk : k = 7 ∨ k = 9) (t u : T) : Tp.right (.mk k 0 [t, u]) = (Tp.right t && Tp.right u) := by
  rcases hk with rfl | rfl <;> simp [Tp.right, Tp.rights, Tp.nodeRight, Tp.arity]
theorem list_right (t : T) : Tp.right (.mk 8 0 [t]) = Tp.right t := by simp [Tp.right, Tp.rights, Tp.nodeRight, Tp.arity]
theorem two_size (k n : Int) (t u : T) : Tp.size (.mk k n [t, u]) = Tp.size t + Tp.size u + 1 := by simp [Tp.size, Tp.sizes]
theorem one_size (k n : Int) (t : T) : Tp.size (.mk k n [t]) = Tp.size t + 1 := by simp [Tp.size, Tp.sizes]
theorem two_without (q k n : Int) (hk : k ≠ q) (t u : T) : Tp.without q (.mk k n [t, u]) = (Tp.without q t && Tp.without q u) := by simp [Tp.without, Tp.withouts, hk]
/-- A type that the call has built: a row of kids, a box. -/
theorem built_ty {w1 wp : World} {kk : Int} {l : List T} {R : Array Value} {n : Nat} (hI : I64 kk) (hn : l.length = n) (hn2 : n ≤ 2)
    (hK : KidsAt (LT (w1.alloc (.cells R 24)).heap.size) (w1.alloc (.cells R 24)) l (some ⟨w1.heap.size, 0, none⟩)) (hp : (w1.alloc (.cells R 24)).alloc (.cells #[.int .i64 kk, .int .i64 0, .slice (some ⟨w1.heap.size, 0, none⟩) n n] 24) = wp) :
    wp.heap[w1.heap.size + 1]? = some (.cells #[.int .i64 kk, .int .i64 0, .slice (some ⟨w1.heap.size, 0, none⟩) n n] 24) ∧ TyAt (LT wp.heap.size) wp (.mk kk 0 l) (some ⟨w1.heap.size, 0, none⟩) n ∧ Below w1.heap.size w1 wp ∧ wp.heap.size = w1.heap.size + 2 := by
  subst hp
  refine ⟨box2 w1 R _ _ _, ⟨hI, by show I64 0; unfold I64; omega, by rw [show (T.mk kk 0 l).kids = l from rfl, hn]; exact Nat.le_refl _, by unfold maxLen; omega, ?_⟩, ((Below.refl _ _).alloc (Nat.le_refl _) _).alloc (by simp) _, by simp⟩
  exact hK.below ((Below.refl (w1.alloc (.cells R 24)).heap.size _).alloc (Nat.le_refl _) _) (fun _ h => h) (fun x h => (by unfold LT at *; rw [World.size_alloc]; omega))
/-- Three types in boxes of the call's own. -/
theorem box_three {w : World} {t u v : T} {a b c : Option Addr} {cap cap' cap2 : Nat} (ht : TyAt (LT w.heap.size) w t a cap) (hu : TyAt (LT w.heap.size) w u b cap') (hv : TyAt (LT w.heap.size) w v c cap2) {k n k' n' k2 n2 : Int} {m m' m2 : Nat} {W : World}
    (hW : ((w.alloc (.cells #[.int .i64 k, .int .i64 n, .slice a m cap] 24)).alloc (.cells #[.int .i64 k', .int .i64 n', .slice b m' cap'] 24)).alloc (.cells #[.int .i64 k2, .int .i64 n2, .slice c m2 cap2] 24) = W) :
    (∀ w', Below (w.heap.size + 3) W w' → w'.cell? ⟨w.heap.size, 0, none⟩ = some (.int .i64 k) ∧ w'.cell? ⟨w.heap.size, 1, none⟩ = some (.int .i64 n) ∧ w'.cell? ⟨w.heap.size, 2, none⟩ = some (.slice a m cap) ∧
      w'.cell? ⟨w.heap.size + 1, 0, none⟩ = some (.int .i64 k') ∧ w'.cell? ⟨w.heap.size + 1, 1, none⟩ = some (.int .i64 n') ∧ w'.cell? ⟨w.heap.size + 1, 2, none⟩ = some (.slice b m' cap') ∧
      w'.cell? ⟨w.heap.size + 2, 0, none⟩ = some (.int .i64 k2) ∧ w'.cell? ⟨w.heap.size + 2, 1, none⟩ = some (.int .i64 n2) ∧ w'.cell? ⟨w.heap.size + 2, 2, none⟩ = some (.slice c m2 cap2)) ∧
    (∀ w', Below (w.heap.size + 3) W w' → TyAt (LT w'.heap.size) w' t a cap) ∧ (∀ w', Below (w.heap.size + 3) W w' → TyAt (LT w'.heap.size) w' u b cap') ∧ (∀ w', Below (w.heap.size + 3) W w' → TyAt (LT w'.heap.size) w' v c cap2) ∧
    (∀ w', Below (w.heap.size + 3) W w' → w.heap.size + 3 ≤ w'.heap.size) ∧ (∀ w', Below (w.heap.size + 3) W w' → Below w.heap.size w w') ∧ W.heap.size = w.heap.size + 3 := by
  obtain ⟨W2, hW2⟩ : ∃ W2, (w.alloc (.cells #[.int .i64 k, .int .i64 n, .slice a m cap] 24)).alloc (.cells #[.int .i64 k', .int .i64 n', .slice b m' cap'] 24) = W2 := ⟨_, rfl⟩
  obtain ⟨h1, h2, h3, h4, h5⟩ := box_two ht hu hW2
  rw [hW2] at hW
  have hs2 : W2.heap.size = w.heap.size + 2 := by rw [← hW2]; simp
  have hs3 : W.heap.size = w.heap.size + 3 := by rw [← hW]; simp [hs2]
  have hb2 : Below (w.heap.size + 2) W2 W := by rw [← hW]; exact (Below.refl _ _).alloc (by omega) _
  have hup : ∀ w', Below (w.heap.size + 3) W w' → Below (w.heap.size + 2) W2 w' := fun w' h => hb2.trans (h.mono (by omega))
  have hnew : W.heap[w.heap.size + 2]? = some (.cells #[.int .i64 k2, .int .i64 n2, .slice c m2 cap2] 24) := by rw [← hW, ← hs2]; exact World.alloc_heap_new W2 _
  refine ⟨fun w' hb => ?_, fun w' hb => h2 w' (hup w' hb), fun w' hb => h3 w' (hup w' hb), fun w' hb => ?_, fun w' hb => by have := hb.size; omega, fun w' hb => h5 w' (hup w' hb), hs3⟩
  · obtain ⟨e1, e2, e3, e4, e5, e6⟩ := h1 w' (hup w' hb)
    have e := hb.block (w.heap.size + 2) (by omega)
    exact ⟨e1, e2, e3, e4, e5, e6, cell_box hnew e rfl, cell_box hnew e rfl, cell_box hnew e rfl⟩
  · exact hv.below (h5 w' (hup w' hb)) (fun _ h => h) (fun _ h => by have := hb.size; unfold LT at *; omega)
/-- A row of three. -/
theorem row_three {w1 : World} {t u v : T} {a b c : Option Addr} {cap cap' cap2 : Nat} (ht : TyAt (LT w1.heap.size) w1 t a cap) (hu : TyAt (LT w1.heap.size) w1 u b cap') (hv : TyAt (LT w1.heap.size) w1 v c cap2) {k n k' n' k2 n2 : Int} {m m' m2 : Nat} (hk : t.kind = k) (hn : t.num = n) (hm : t.kids.length = m) (hk' : u.kind = k') (hn' : u.num = n') (hm' : u.kids.length = m') (hk2 : v.kind = k2) (hn2 : v.num = n2) (hm2 : v.kids.length = m2) :
    KidsAt (LT (w1.alloc (.cells #[.int .i64 k, .int .i64 n, .slice a m cap, .int .i64 k', .int .i64 n', .slice b m' cap', .int .i64 k2, .int .i64 n2, .slice c m2 cap2] 24)).heap.size) (w1.alloc (.cells #[.int .i64 k, .int .i64 n, .slice a m cap, .int .i64 k', .int .i64 n', .slice b m' cap', .int .i64 k2, .int .i64 n2, .slice c m2 cap2] 24)) [t, u, v] (some ⟨w1.heap.size, 0, none⟩) := by
  subst hk hn hm hk' hn' hm' hk2 hn2 hm2
  refine KidsAt.of_nodes (G := LT _) (by unfold LT; simp) [t, u, v] 0 (fun i hi => ?_)
  have h := World.alloc_heap_new w1 (.cells #[.int .i64 t.kind, .int .i64 t.num, .slice a t.kids.length cap, .int .i64 u.kind, .int .i64 u.num, .slice b u.kids.length cap', .int .i64 v.kind, .int .i64 v.num, .slice c v.kids.length cap2] 24)
  have hi2 : i = 0 ∨ i = 1 ∨ i = 2 := by simp at hi; omega
  rcases hi2 with rfl | rfl | rfl
  · exact NodeAt.mk' (ht.below ((Below.refl w1.heap.size w1).alloc (Nat.le_refl _) _) (fun _ h => h) (fun b h => (by unfold LT at *; rw [World.size_alloc]; omega))) (cell_box h rfl rfl) (cell_box h rfl rfl) (cell_box h rfl rfl)
  · exact NodeAt.mk' (hu.below ((Below.refl w1.heap.size w1).alloc (Nat.le_refl _) _) (fun _ h => h) (fun b h => (by unfold LT at *; rw [World.size_alloc]; omega))) (cell_box h rfl rfl) (cell_box h rfl rfl) (cell_box h rfl rfl)
  · exact NodeAt.mk' (hv.below ((Below.refl w1.heap.size w1).alloc (Nat.le_refl _) _) (fun _ h => h) (fun b h => (by unfold LT at *; rw [World.size_alloc]; omega))) (cell_box h rfl rfl) (cell_box h rfl rfl) (cell_box h rfl rfl)
theorem sizes_three (t u v : T) : Tp.sizes [t, u, v] = Tp.size t + Tp.size u + Tp.size v := by simp [Tp.sizes]; omega
end Go.Proofs.YtideicoifinnoaaGreatDoor
