/- What the laws of stage 9 share: three right types, in boxes. -/
import Derived.Test.YtncdbbjkafgphaaPbA
namespace Go.Proofs.Ytncdbbjkafgphaa
open Go Go.RowKit
open Tp (T)

theorem trip_right {t u v : T} (h : (!decide (600 < Tp.sizes [t, u, v]) && Tp.rights [t, u, v]) = true) : Tp.right t = true ∧ Tp.right u = true ∧ Tp.right v = true ∧ Tp.size t + Tp.size u + Tp.size v ≤ 600 := by
  by_cases hc : 600 < Tp.sizes [t, u, v]
  · rw [decide_eq_true hc] at h; simp at h
  · rw [decide_eq_false hc] at h
    simp only [Bool.not_false, Bool.true_and, Tp.rights, Bool.and_eq_true] at h
    simp only [Tp.sizes] at hc
    exact ⟨h.1, h.2.1, h.2.2.1, by omega⟩
theorem row_three {w1 : World} {t u v : T} {a b d : Option Addr} {c c' c2 : Nat} {k n k' n' k2 n2 : Int} {m m' m2 : Nat} (hv : TV t k n m) (hv' : TV u k' n' m') (hv2 : TV v k2 n2 m2) (ht : TyAt (LT w1.heap.size) w1 t a c) (hu : TyAt (LT w1.heap.size) w1 u b c') (hx : TyAt (LT w1.heap.size) w1 v d c2) :
    KidsAt (LT (w1.alloc (.cells #[.int .i64 k, .int .i64 n, .slice a m c, .int .i64 k', .int .i64 n', .slice b m' c', .int .i64 k2, .int .i64 n2, .slice d m2 c2] 24)).heap.size) (w1.alloc (.cells #[.int .i64 k, .int .i64 n, .slice a m c, .int .i64 k', .int .i64 n', .slice b m' c', .int .i64 k2, .int .i64 n2, .slice d m2 c2] 24)) [t, u, v] (some ⟨w1.heap.size, 0, none⟩) := by
  obtain ⟨rfl, rfl, rfl⟩ := hv
  obtain ⟨rfl, rfl, rfl⟩ := hv'
  obtain ⟨rfl, rfl, rfl⟩ := hv2
  have hg := World.alloc_heap_new w1 (.cells #[.int .i64 t.kind, .int .i64 t.num, .slice a t.kids.length c, .int .i64 u.kind, .int .i64 u.num, .slice b u.kids.length c', .int .i64 v.kind, .int .i64 v.num, .slice d v.kids.length c2] 24)
  have hb : Below w1.heap.size w1 (w1.alloc (.cells #[.int .i64 t.kind, .int .i64 t.num, .slice a t.kids.length c, .int .i64 u.kind, .int .i64 u.num, .slice b u.kids.length c', .int .i64 v.kind, .int .i64 v.num, .slice d v.kids.length c2] 24)) := (Below.refl _ _).alloc (Nat.le_refl _) _
  generalize w1.alloc (.cells #[.int .i64 t.kind, .int .i64 t.num, .slice a t.kids.length c, .int .i64 u.kind, .int .i64 u.num, .slice b u.kids.length c', .int .i64 v.kind, .int .i64 v.num, .slice d v.kids.length c2] 24) = W at hg hb ⊢
  refine KidsAt.of_nodes (G := LT _) (show w1.heap.size < W.heap.size from (Array.getElem?_eq_some_iff.1 hg).1) [t, u, v] 0 (fun i hi => ?_)
  have hi3 : i = 0 ∨ i = 1 ∨ i = 2 := by simp at hi; omega
  rcases hi3 with rfl | rfl | rfl
  · exact NodeAt.mk' (ty_later ht hb) (cell_box hg rfl rfl) (cell_box hg rfl rfl) (cell_box hg rfl rfl)
  · exact NodeAt.mk' (ty_later hu hb) (cell_box hg rfl rfl) (cell_box hg rfl rfl) (cell_box hg rfl rfl)
  · exact NodeAt.mk' (ty_later hx hb) (cell_box hg rfl rfl) (cell_box hg rfl rfl) (cell_box hg rfl rfl)
theorem box_three {w W : World} {t u v : T} {a b d : Option Addr} {c c' c2 : Nat} {k n k' n' k2 n2 : Int} {m m' m2 : Nat} (hv : TV t k n m) (hv' : TV u k' n' m') (hv2 : TV v k2 n2 m2) (ht : TyAt (LT w.heap.size) w t a c) (hu : TyAt (LT w.heap.size) w u b c') (hx : TyAt (LT w.heap.size) w v d c2)
    (hW : ((w.alloc (.cells #[.int .i64 k, .int .i64 n, .slice a m c] 24)).alloc (.cells #[.int .i64 k', .int .i64 n', .slice b m' c'] 24)).alloc (.cells #[.int .i64 k2, .int .i64 n2, .slice d m2 c2] 24) = W) :
    BoxT W w.heap.size t k n m a c ∧ BoxT W (w.heap.size + 1) u k' n' m' b c' ∧ BoxT W (w.heap.size + 1 + 1) v k2 n2 m2 d c2 ∧ Below w.heap.size w W := by
  have hl : [Obj.cells #[.int .i64 k, .int .i64 n, .slice a m c] 24, .cells #[.int .i64 k', .int .i64 n', .slice b m' c'] 24, .cells #[.int .i64 k2, .int .i64 n2, .slice d m2 c2] 24].foldl World.alloc w = W := hW
  have hb : Below w.heap.size w W := by rw [← hl]; exact al_below _ _ (Nat.le_refl _)
  exact ⟨⟨hv, by rw [← hl]; exact al_get _ w 0 _ rfl, ty_later ht hb⟩, ⟨hv', by rw [← hl]; exact al_get _ w 1 _ rfl, ty_later hu hb⟩, ⟨hv2, by rw [← hl]; exact al_get _ w 2 _ rfl, ty_later hx hb⟩, hb⟩
theorem bl_right {a b : T} (ha : Tp.right a = true) (hb : Tp.right b = true) : Tp.bl a b = Tp.below a b := by unfold Tp.bl; rw [ha, hb]; rfl
theorem dyn_right : Tp.right (.mk 5 0 []) = true := by simp [Tp.right, Tp.rights, Tp.nodeRight, Tp.arity]

end Go.Proofs.Ytncdbbjkafgphaa
