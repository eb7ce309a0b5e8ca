/- The law TypSame: three types in boxes; a copy; the walk. -/
import Derived.Test.YtlmcklicnmbhdaaTqS
import Derived.Test.YtlmcklicnmbhdaaSeqA
namespace Go.Proofs.Ytlmcklicnmbhdaa
open Go Go.RowKit
open Tp (T)

/-- Three types in boxes of the call's own. -/
theorem box_three {w : World} {t u v : T} {a b c : Option Addr} {cap cap' cap2 : Nat} (ht : TyAt (LT w.heap.size) w t a cap) (hu : TyAt (LT w.heap.size) w u b cap') (hv : TyAt (LT w.heap.size) w v c cap2) {k n k' n' k2 n2 : Int} {m m' m2 : Nat} {W : World}
    (hW : ((w.alloc (.cells #[.int .i64 k, .int .i64 n, .slice a m cap] 24)).alloc (.cells #[.int .i64 k', .int .i64 n', .slice b m' cap'] 24)).alloc (.cells #[.int .i64 k2, .int .i64 n2, .slice c m2 cap2] 24) = W) :
    (∀ w', Below (w.heap.size + 3) W w' → w'.cell? ⟨w.heap.size, 0, none⟩ = some (.int .i64 k) ∧ w'.cell? ⟨w.heap.size, 1, none⟩ = some (.int .i64 n) ∧ w'.cell? ⟨w.heap.size, 2, none⟩ = some (.slice a m cap) ∧
      w'.cell? ⟨w.heap.size + 1, 0, none⟩ = some (.int .i64 k') ∧ w'.cell? ⟨w.heap.size + 1, 1, none⟩ = some (.int .i64 n') ∧ w'.cell? ⟨w.heap.size + 1, 2, none⟩ = some (.slice b m' cap') ∧
      w'.cell? ⟨w.heap.size + 2, 0, none⟩ = some (.int .i64 k2) ∧ w'.cell? ⟨w.heap.size + 2, 1, none⟩ = some (.int .i64 n2) ∧ w'.cell? ⟨w.heap.size + 2, 2, none⟩ = some (.slice c m2 cap2)) ∧
    (∀ w', Below (w.heap.size + 3) W w' → TyAt (LT w'.heap.size) w' t a cap) ∧ (∀ w', Below (w.heap.size + 3) W w' → TyAt (LT w'.heap.size) w' u b cap') ∧ (∀ w', Below (w.heap.size + 3) W w' → TyAt (LT w'.heap.size) w' v c cap2) ∧
    (∀ w', Below (w.heap.size + 3) W w' → w.heap.size + 3 ≤ w'.heap.size) ∧ (∀ w', Below (w.heap.size + 3) W w' → Below w.heap.size w w') ∧ W.heap.size = w.heap.size + 3 := by
  obtain ⟨W2, hW2⟩ : ∃ W2, (w.alloc (.cells #[.int .i64 k, .int .i64 n, .slice a m cap] 24)).alloc (.cells #[.int .i64 k', .int .i64 n', .slice b m' cap'] 24) = W2 := ⟨_, rfl⟩
  obtain ⟨h1, h2, h3, h4, h5⟩ := box_two ht hu hW2
  rw [hW2] at hW
  have hs2 : W2.heap.size = w.heap.size + 2 := by rw [← hW2]; simp
  have hs3 : W.heap.size = w.heap.size + 3 := by rw [← hW]; simp [hs2]
  have hb2 : Below (w.heap.size + 2) W2 W := by rw [← hW]; exact (Below.refl _ _).alloc (by omega) _
  have hup : ∀ w', Below (w.heap.size + 3) W w' → Below (w.heap.size + 2) W2 w' := fun w' h => hb2.trans (h.mono (by omega))
  have hnew : W.heap[w.heap.size + 2]? = some (.cells #[.int .i64 k2, .int .i64 n2, .slice c m2 cap2] 24) := by rw [← hW, ← hs2]; exact World.alloc_heap_new W2 _
  refine ⟨fun w' hb => ?_, fun w' hb => h2 w' (hup w' hb), fun w' hb => h3 w' (hup w' hb), fun w' hb => ?_, fun w' hb => by have := hb.size; omega, fun w' hb => h5 w' (hup w' hb), hs3⟩
  · obtain ⟨e1, e2, e3, e4, e5, e6⟩ := h1 w' (hup w' hb)
    have e := hb.block (w.heap.size + 2) (by omega)
    exact ⟨e1, e2, e3, e4, e5, e6, cell_box hnew e rfl, cell_box hnew e rfl, cell_box hnew e rfl⟩
  · exact hv.below (h5 w' (hup w' hb)) (fun _ h => h) (fun _ h => by have := hb.size; unfold LT at *; omega)
/-- A row of three. -/
theorem row_three {w1 : World} {t u v : T} {a b c : Option Addr} {cap cap' cap2 : Nat} (ht : TyAt (LT w1.heap.size) w1 t a cap) (hu : TyAt (LT w1.heap.size) w1 u b cap') (hv : TyAt (LT w1.heap.size) w1 v c cap2) {k n k' n' k2 n2 : Int} {m m' m2 : Nat} (hk : t.kind = k) (hn : t.num = n) (hm : t.kids.length = m) (hk' : u.kind = k') (hn' : u.num = n') (hm' : u.kids.length = m') (hk2 : v.kind = k2) (hn2 : v.num = n2) (hm2 : v.kids.length = m2) :
    KidsAt (LT (w1.alloc (.cells #[.int .i64 k, .int .i64 n, .slice a m cap, .int .i64 k', .int .i64 n', .slice b m' cap', .int .i64 k2, .int .i64 n2, .slice c m2 cap2] 24)).heap.size) (w1.alloc (.cells #[.int .i64 k, .int .i64 n, .slice a m cap, .int .i64 k', .int .i64 n', .slice b m' cap', .int .i64 k2, .int .i64 n2, .slice c m2 cap2] 24)) [t, u, v] (some ⟨w1.heap.size, 0, none⟩) := by
  subst hk hn hm hk' hn' hm' hk2 hn2 hm2
  refine KidsAt.of_nodes (G := LT _) (by unfold LT; simp) [t, u, v] 0 (fun i hi => ?_)
  have h := World.alloc_heap_new w1 (.cells #[.int .i64 t.kind, .int .i64 t.num, .slice a t.kids.length cap, .int .i64 u.kind, .int .i64 u.num, .slice b u.kids.length cap', .int .i64 v.kind, .int .i64 v.num, .slice c v.kids.length cap2] 24)
  have hi2 : i = 0 ∨ i = 1 ∨ i = 2 := by simp at hi; omega
  rcases hi2 with rfl | rfl | rfl
  · exact NodeAt.mk' (ht.below ((Below.refl w1.heap.size w1).alloc (Nat.le_refl _) _) (fun _ h => h) (fun b h => (by unfold LT at *; rw [World.size_alloc]; omega))) (cell_box h rfl rfl) (cell_box h rfl rfl) (cell_box h rfl rfl)
  · exact NodeAt.mk' (hu.below ((Below.refl w1.heap.size w1).alloc (Nat.le_refl _) _) (fun _ h => h) (fun b h => (by unfold LT at *; rw [World.size_alloc]; omega))) (cell_box h rfl rfl) (cell_box h rfl rfl) (cell_box h rfl rfl)
  · exact NodeAt.mk' (hv.below ((Below.refl w1.heap.size w1).alloc (Nat.le_refl _) _) (fun _ h => h) (fun b h => (by unfold LT at *; rw [World.size_alloc]; omega))) (cell_box h rfl rfl) (cell_box h rfl rfl) (cell_box h rfl rfl)
theorem sizes_three (t u v : T) : Tp.sizes [t, u, v] = Tp.size t + Tp.size u + Tp.size v := by simp [Tp.sizes]; omega
/-- A copy is a type of the call's own. -/
theorem ktype_ty (t : T) (a : Option Addr) (cap : Nat) (w : World) (h : Tp.size t ≤ 10000) (hty : TyAt (LT w.heap.size) w t a cap) :
    Calls Try.prog 9 #[tv t a cap] w fun e w' => ∃ a' cap', e = .returned (tv t a' cap') ∧ TyAt (LT w'.heap.size) w' t a' cap' ∧ Below w.heap.size w w' :=
  (ktype_any (Tp.size t) t a cap w (Nat.le_refl _) h hty).mono fun _ _ ⟨a', cap', _, h1, h2, h3, h4, h5, h6⟩ =>
    ⟨a', cap', h1, TyAt.below (TyPost.ty h2 h3 h4 h5) (Below.refl _ _) (fun _ h => h.2) (fun _ h => h.2), h6⟩
end Go.Proofs.Ytlmcklicnmbhdaa
