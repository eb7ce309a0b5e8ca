/- The law TypParts: its beginning. -/
import Derived.Test.YtaaapdfdedknfaaTqV
import Derived.Deep.RegionLaw
namespace Go.Proofs.Ytaaapdfdedknfaa
open Go Go.RowKit
open Tp (T)

/-- Two types in boxes of the call's own. -/
theorem box_two {w : World} {t u : T} {a b : Option Addr} {cap cap' : Nat} (ht : TyAt (LT w.heap.size) w t a cap) (hu : TyAt (LT w.heap.size) w u b cap') {k n k' n' : Int} {m m' : Nat} {W : World}
    (hW : (w.alloc (.cells #[.int .i64 k, .int .i64 n, .slice a m cap] 26)).alloc (.cells #[.int .i64 k', .int .i64 n', .slice b m' cap'] 26) = W) :
    (∀ w', Below (w.heap.size + 2) W w' → w'.cell? ⟨w.heap.size, 0, none⟩ = some (.int .i64 k) ∧ w'.cell? ⟨w.heap.size, 1, none⟩ = some (.int .i64 n) ∧ w'.cell? ⟨w.heap.size, 2, none⟩ = some (.slice a m cap) ∧
      w'.cell? ⟨w.heap.size + 1, 0, none⟩ = some (.int .i64 k') ∧ w'.cell? ⟨w.heap.size + 1, 1, none⟩ = some (.int .i64 n') ∧ w'.cell? ⟨w.heap.size + 1, 2, none⟩ = some (.slice b m' cap')) ∧
    (∀ w', Below (w.heap.size + 2) W w' → TyAt (LT w'.heap.size) w' t a cap) ∧ (∀ w', Below (w.heap.size + 2) W w' → TyAt (LT w'.heap.size) w' u b cap') ∧
    (∀ w', Below (w.heap.size + 2) W w' → w.heap.size + 2 ≤ w'.heap.size) ∧ (∀ w', Below (w.heap.size + 2) W w' → Below w.heap.size w w') := by
  subst hW
  have hbase : Below w.heap.size w ((w.alloc (.cells #[.int .i64 k, .int .i64 n, .slice a m cap] 26)).alloc (.cells #[.int .i64 k', .int .i64 n', .slice b m' cap'] 26)) := ((Below.refl _ _).alloc (Nat.le_refl _) _).alloc (by simp) _
  have hs : ∀ w', Below (w.heap.size + 2) ((w.alloc (.cells #[.int .i64 k, .int .i64 n, .slice a m cap] 26)).alloc (.cells #[.int .i64 k', .int .i64 n', .slice b m' cap'] 26)) w' → w.heap.size + 2 ≤ w'.heap.size := fun w' hb => by have := hb.size; rw [World.size_alloc, World.size_alloc] at this; omega
  refine ⟨fun w' hb => ?_, fun w' hb => ?_, fun w' hb => ?_, hs, fun w' hb => ?_⟩
  · have h1 := box1 w #[.int .i64 k, .int .i64 n, .slice a m cap] #[.int .i64 k', .int .i64 n', .slice b m' cap'] 26 26
    have h2 := box2 w #[.int .i64 k, .int .i64 n, .slice a m cap] #[.int .i64 k', .int .i64 n', .slice b m' cap'] 26 26
    have e1 := hb.block w.heap.size (by omega)
    have e2 := hb.block (w.heap.size + 1) (by omega)
    exact ⟨cell_box h1 e1 rfl, cell_box h1 e1 rfl, cell_box h1 e1 rfl, cell_box h2 e2 rfl, cell_box h2 e2 rfl, cell_box h2 e2 rfl⟩
  · exact ht.below (hbase.trans (hb.mono (by omega))) (fun _ h => h) (fun _ h => Nat.lt_of_lt_of_le h (Nat.le_trans (Nat.le_add_right _ 2) (hs w' hb)))
  · exact hu.below (hbase.trans (hb.mono (by omega))) (fun _ h => h) (fun _ h => Nat.lt_of_lt_of_le h (Nat.le_trans (Nat.le_add_right _ 2) (hs w' hb)))
  · exact hbase.trans (hb.mono (by omega))
/-- A row of two. -/
theorem row_two {w1 : World} {t u : T} {a b : Option Addr} {cap cap' : Nat} (ht : TyAt (LT w1.heap.size) w1 t a cap) (hu : TyAt (LT w1.heap.size) w1 u b cap') {k n k' n' : Int} {m m' : Nat} (hk : t.kind = k) (hn : t.num = n) (hm : t.kids.length = m) (hk' : u.kind = k') (hn' : u.num = n') (hm' : u.kids.length = m') :
    KidsAt (LT (w1.alloc (.cells #[.int .i64 k, .int .i64 n, .slice a m cap, .int .i64 k', .int .i64 n', .slice b m' cap'] 26)).heap.size) (w1.alloc (.cells #[.int .i64 k, .int .i64 n, .slice a m cap, .int .i64 k', .int .i64 n', .slice b m' cap'] 26)) [t, u] (some ⟨w1.heap.size, 0, none⟩) := by
  subst hk hn hm hk' hn' hm'
  refine KidsAt.of_nodes (G := LT _) (by unfold LT; simp) [t, u] 0 (fun i hi => ?_)
  have h := World.alloc_heap_new w1 (.cells #[.int .i64 t.kind, .int .i64 t.num, .slice a t.kids.length cap, .int .i64 u.kind, .int .i64 u.num, .slice b u.kids.length cap'] 26)
  have hi2 : i = 0 ∨ i = 1 := by simp at hi; omega
  rcases hi2 with rfl | rfl
  · exact NodeAt.mk' (ht.below ((Below.refl w1.heap.size w1).alloc (Nat.le_refl _) _) (fun _ h => h) (fun b h => (by unfold LT at *; rw [World.size_alloc]; omega))) (cell_box h rfl rfl) (cell_box h rfl rfl) (cell_box h rfl rfl)
  · exact NodeAt.mk' (hu.below ((Below.refl w1.heap.size w1).alloc (Nat.le_refl _) _) (fun _ h => h) (fun b h => (by unfold LT at *; rw [World.size_alloc]; omega))) (cell_box h rfl rfl) (cell_box h rfl rfl) (cell_box h rfl rfl)
theorem sizes_two (t u : T) : Tp.sizes [t, u] = Tp.size t + Tp.size u := by simp [Tp.sizes]
/-- The parts of a pair, a function, a list. -/
theorem two_right (k : Int) (hk : k = 7 ∨ k = 9) (t u : T) : Tp.right (.mk k 0 [t, u]) = (Tp.right t && Tp.right u) := by
  rcases hk with rfl | rfl <;> simp [Tp.right, Tp.rights, Tp.nodeRight, Tp.arity]
theorem list_right (t : T) : Tp.right (.mk 8 0 [t]) = Tp.right t := by simp [Tp.right, Tp.rights, Tp.nodeRight, Tp.arity]
theorem two_size (k n : Int) (t u : T) : Tp.size (.mk k n [t, u]) = Tp.size t + Tp.size u + 1 := by simp [Tp.size, Tp.sizes]
theorem one_size (k n : Int) (t : T) : Tp.size (.mk k n [t]) = Tp.size t + 1 := by simp [Tp.size, Tp.sizes]
theorem two_depth (k n : Int) (t u : T) : Tp.depth (.mk k n [t, u]) = max (Tp.depth t) (Tp.depth u) + 1 := by simp [Tp.depth, Tp.depths]
theorem one_depth (k n : Int) (t : T) : Tp.depth (.mk k n [t]) = Tp.depth t + 1 := by simp [Tp.depth, Tp.depths]
theorem two_without (q k n : Int) (hk : k ≠ q) (t u : T) : Tp.without q (.mk k n [t, u]) = (Tp.without q t && Tp.without q u) := by simp [Tp.without, Tp.withouts, hk]
theorem two_vars (t u : T) : Tp.vars (.mk 7 0 [t, u]) [] = Tp.vars u (Tp.vars t []) := by simp [Tp.vars, Tp.varss, Tp.addVar]
theorem two_unlike (t u : T) : Tp.same (.mk 7 0 [t, u]) (.mk 9 0 [t, u]) = false := by
  rw [Bool.eq_false_iff]
  intro h
  have := (Tp.same_iff _ _).1 h
  injection this with h1
  omega
/-- What is there stays, at its place; what comes is there. -/
theorem addVar_pre (k n : Int) (acc : List Int) : ∃ m, Tp.addVar k n acc = acc ++ m := by
  unfold Tp.addVar
  split
  · exact ⟨_, rfl⟩
  · exact ⟨[], by simp⟩
mutual
theorem vars_pre : ∀ (t : T) (acc : List Int), ∃ m, Tp.vars t acc = acc ++ m
  | .mk k n l, acc => by
    obtain ⟨m1, h1⟩ := addVar_pre k n acc
    obtain ⟨m2, h2⟩ := varss_pre l (Tp.addVar k n acc)
    exact ⟨m1 ++ m2, by simp only [Tp.vars]; rw [h2, h1, List.append_assoc]⟩
theorem varss_pre : ∀ (l : List T) (acc : List Int), ∃ m, Tp.varss l acc = acc ++ m
  | [], acc => ⟨[], by simp [Tp.varss]⟩
  | t :: r, acc => by
    obtain ⟨m1, h1⟩ := vars_pre t acc
    obtain ⟨m2, h2⟩ := varss_pre r (Tp.vars t acc)
    exact ⟨m1 ++ m2, by simp only [Tp.varss]; rw [h2, h1, List.append_assoc]⟩
end
/-- The same numbers come, whatever is there already. -/
structure Over (a b c : List Int) : Prop where
  sub : ∀ x ∈ b, x ∈ c
  len : c.length ≤ a.length + b.length
theorem Over.step {a b c : List Int} (h : Over a b c) (k n : Int) : Over a (Tp.addVar k n b) (Tp.addVar k n c) := by
  unfold Tp.addVar
  by_cases hk : k = 6
  · by_cases hb : n ∈ b
    · simpa [hk, hb, h.sub n hb] using h
    · by_cases hc : n ∈ c
      · simp only [hk, hb, hc, not_true, not_false_eq_true, and_true, and_false, if_true, if_false]
        refine ⟨fun x hx => ?_, by rw [List.length_append]; have := h.len; omega⟩
        rcases List.mem_append.1 hx with hx | hx
        · exact h.sub x hx
        · rw [List.mem_singleton.1 hx]; exact hc
      · simp only [hk, hb, hc, not_false_eq_true, and_true, if_true]
        refine ⟨fun x hx => ?_, by rw [List.length_append, List.length_append]; have := h.len; simp only [List.length_singleton]; omega⟩
        rcases List.mem_append.1 hx with hx | hx
        · exact List.mem_append_left _ (h.sub x hx)
        · exact List.mem_append_right _ hx
  · simpa [hk] using h
mutual
theorem vars_over : ∀ (t : T) (a b c : List Int), Over a b c → Over a (Tp.vars t b) (Tp.vars t c)
  | .mk k n l, a, b, c, h => by simp only [Tp.vars]; exact varss_over l a _ _ (h.step k n)
theorem varss_over : ∀ (l : List T) (a b c : List Int), Over a b c → Over a (Tp.varss l b) (Tp.varss l c)
  | [], a, b, c, h => by simpa [Tp.varss] using h
  | t :: r, a, b, c, h => by simp only [Tp.varss]; exact varss_over r a _ _ (vars_over t a b c h)
end
theorem pair_over (t u : T) : Over (Tp.vars t []) (Tp.vars u []) (Tp.vars u (Tp.vars t [])) :=
  vars_over u _ _ _ ⟨fun _ h => (by cases h), by simp⟩
/-- A type that the call has built: a row of kids, a box. -/
theorem built_ty {w1 wp : World} {kk : Int} {l : List T} {R : Array Value} {n : Nat} (hI : I64 kk) (hn : l.length = n) (hn2 : n ≤ 2)
    (hK : KidsAt (LT (w1.alloc (.cells R 26)).heap.size) (w1.alloc (.cells R 26)) l (some ⟨w1.heap.size, 0, none⟩)) (hp : (w1.alloc (.cells R 26)).alloc (.cells #[.int .i64 kk, .int .i64 0, .slice (some ⟨w1.heap.size, 0, none⟩) n n] 26) = wp) :
    wp.heap[w1.heap.size + 1]? = some (.cells #[.int .i64 kk, .int .i64 0, .slice (some ⟨w1.heap.size, 0, none⟩) n n] 26) ∧ TyAt (LT wp.heap.size) wp (.mk kk 0 l) (some ⟨w1.heap.size, 0, none⟩) n ∧ Below w1.heap.size w1 wp ∧ wp.heap.size = w1.heap.size + 2 := by
  subst hp
  refine ⟨box2 w1 R _ _ _, ⟨hI, by show I64 0; unfold I64; omega, by rw [show (T.mk kk 0 l).kids = l from rfl, hn]; exact Nat.le_refl _, by unfold maxLen; omega, ?_⟩, ((Below.refl _ _).alloc (Nat.le_refl _) _).alloc (by simp) _, by simp⟩
  exact hK.below ((Below.refl (w1.alloc (.cells R 26)).heap.size _).alloc (Nat.le_refl _) _) (fun _ h => h) (fun x h => (by unfold LT at *; rw [World.size_alloc]; omega))
end Go.Proofs.Ytaaapdfdedknfaa
