/- typ.Same: two types gone down at once, by a stack of the call's own. -/
import Derived.Test.YtncdbbjkafgphaaTyV
import Derived.Deep.RegionHeld3
namespace Go.Proofs.Ytncdbbjkafgphaa
open Go Go.RowKit
open Tp (T)

/-- What is still to be compared: types and as many others, one at least. -/
structure En2 where
  xs : List T
  a : Option Addr
  ca : Nat
  ys : List T
  b : Option Addr
  cb : Nat
def en2Cells (e : En2) : List Value := [.slice e.a e.xs.length e.ca, .slice e.b e.ys.length e.cb]
def st2Cells (S : List En2) : List Value := S.flatMap en2Cells
theorem st2Cells_length : ∀ S : List En2, (st2Cells S).length = S.length * 2
  | [] => rfl
  | e :: r => by
    have := st2Cells_length r
    simp only [st2Cells, List.flatMap_cons, List.length_append, List.length_cons, en2Cells, List.length_nil] at this ⊢
    omega
theorem st2Cells_snoc (S : List En2) (e : En2) : st2Cells (S ++ [e]) = st2Cells S ++ en2Cells e := by simp [st2Cells]
def En2.good (n : Nat) (w : World) (e : En2) : Prop := e.xs ≠ [] ∧ e.xs.length = e.ys.length ∧ SlAt (LT n) w e.xs e.a e.ca ∧ SlAt (LT n) w e.ys e.b e.cb
def msz (R : List En2) : Nat := (R.map fun e => Tp.sizes e.xs).sum
theorem elem_sm : Try.prog.underlying 99 = some (.slice (Try.prog.elem 99)) := by kernel_rfl
theorem size_sm (w : World) : (sizeOf (Try.prog.elem 99)).run Try.prog w = .ok 2 w := by kernel_rfl
theorem info_sm : (Try.prog.info? 98).map (fun i => (i.zero, i.size, i.bytes)) = some (some (.agg #[.slice none 0 0, .slice none 0 0]), 2, 48) := by kernel_rfl
theorem sm_pop (g n cap k : Nat) (hk : k ≤ n) (hn : n ≤ cap) (w' : World) :
    (Instr.slice 99 (.slice (some ⟨g, 0, none⟩) n cap) none (some (.int .i64 (k : Int))) none).run Try.prog w' = .ok (.slice (some ⟨g, 0, none⟩) k cap) w' := by
  rw [run_slice_h w' _ _ n cap elem_sm .i64 (k : Int) (by omega) (by omega), size_sm]
  simp [Result.andThen, sliced, add_flat]
theorem own_top2 {w : World} {base : Nat} {v : Value} {R : List En2} {e : En2} (h : w.ownsRow base 98 2 v (R.length + 1) (st2Cells (e :: R).reverse)) :
    ∃ g cap, v = .slice (some ⟨g, 0, none⟩) (R.length + 1) cap ∧ base ≤ g ∧ g < w.heap.size ∧ R.length + 1 ≤ cap ∧ cap ≤ maxLen ∧ w.cell? ⟨g, R.length * 2, none⟩ = some (.slice e.a e.xs.length e.ca) ∧
      w.cell? ⟨g, R.length * 2 + 1, none⟩ = some (.slice e.b e.ys.length e.cb) ∧ w.ownsRow base 98 2 (.slice (some ⟨g, 0, none⟩) R.length cap) R.length (st2Cells R.reverse) := by
  rw [List.reverse_cons, st2Cells_snoc] at h
  obtain ⟨h1, h2 | ⟨g, cap, cur, h3, h4, h5, h6, h7, h8, h9⟩⟩ := id h
  · omega
  · subst h3
    have hlen := st2Cells_length R.reverse
    rw [List.length_reverse] at hlen
    have hc := h.cells (g := g) rfl
    refine ⟨g, cap, rfl, h4, (Array.getElem?_eq_some_iff.1 h5).1, h6, h7, ?_, ?_, own_take h (Nat.le_succ _) hlen⟩
    · have := hc (R.length * 2) (.slice e.a e.xs.length e.ca) (by rw [← hlen, List.getElem?_append_right (Nat.le_refl _), Nat.sub_self]; rfl)
      rwa [add_flat, Nat.zero_add] at this
    · have := hc (R.length * 2 + 1) (.slice e.b e.ys.length e.cb) (by rw [← hlen, List.getElem?_append_right (by omega), Nat.add_sub_cancel_left]; rfl)
      rwa [add_flat, Nat.zero_add] at this
/-- Between two rounds. -/
structure Cmp (n : Nat) (t u : T) (R : List En2) (v : Value) (w : World) : Prop where
  own : w.ownsRow n 98 2 v R.length (st2Cells R.reverse)
  each : ∀ e ∈ R, e.good n w
  same : Tp.same t u = R.all fun e => Tp.sames e.xs e.ys
  small : msz R ≤ 1000000
theorem good2_below {n : Nat} {w w' : World} (hb : Below n w w') {e : En2} (h : e.good n w) : e.good n w' :=
  ⟨h.1, h.2.1, h.2.2.1.below hb (fun _ h => h) (fun _ h => h), h.2.2.2.below hb (fun _ h => h) (fun _ h => h)⟩
theorem len_msz {R : List En2} {n : Nat} {w : World} (h : ∀ e ∈ R, e.good n w) : R.length ≤ msz R := by
  induction R with
  | nil => simp
  | cons e r ih =>
    have h1 := ih fun e he => h e (List.mem_cons_of_mem _ he)
    have h2 := List.length_pos_iff.2 (h e (by simp)).1
    have := Tp.length_le_sizes e.xs
    simp only [msz, List.map_cons, List.sum_cons, List.length_cons] at h1 ⊢
    omega
theorem same_node (x y : T) : Tp.same x y = ((decide (x.kind = y.kind) && decide (x.num = y.num) && decide (x.kids.length = y.kids.length)) && Tp.sames x.kids y.kids) := by
  cases x; cases y; rfl
/-- The top is not alike: it is not the same. -/
theorem cmp_no {n : Nat} {t u x y : T} {R : List En2} {v : Value} {w : World} {a b : Option Addr} {ca cb : Nat} {r s : List T} (h : Cmp n t u (⟨x :: r, a, ca, y :: s, b, cb⟩ :: R) v w)
    (hno : (decide (x.kind = y.kind) && decide (x.num = y.num) && decide (x.kids.length = y.kids.length)) = false) : Tp.same t u = false := by
  rw [h.same, List.all_cons]
  show (Tp.sames (x :: r) (y :: s) && _) = false
  simp only [Tp.sames, same_node x y, hno, Bool.false_and]
/-- BEHIND A ROUND. -/
theorem cmp_next {n : Nat} {t u x y : T} {R E : List En2} {v v' : Value} {w w' : World} {a b : Option Addr} {ca cb : Nat} {r s : List T} (h : Cmp n t u (⟨x :: r, a, ca, y :: s, b, cb⟩ :: R) v w)
    (hyes : (decide (x.kind = y.kind) && decide (x.num = y.num) && decide (x.kids.length = y.kids.length)) = true) (hb : Below n w w')
    (hE : ∀ e ∈ E, e.good n w) (hA : (E.all fun e => Tp.sames e.xs e.ys) = (Tp.sames r s && Tp.sames x.kids y.kids)) (hS : msz E = Tp.sizes r + Tp.sizes x.kids)
    (hown : w'.ownsRow n 98 2 v' (E ++ R).length (st2Cells (E ++ R).reverse)) : Cmp n t u (E ++ R) v' w' ∧ msz (E ++ R) < msz (⟨x :: r, a, ca, y :: s, b, cb⟩ :: R) := by
  have e1 : msz (E ++ R) = msz E + msz R := by simp [msz]
  have e2 : msz (⟨x :: r, a, ca, y :: s, b, cb⟩ :: R) = 1 + Tp.sizes x.kids + Tp.sizes r + msz R := by
    cases x with
    | mk k m l => simp [msz, Tp.sizes, Tp.size, Tp.T.kids]; omega
  have hsm := h.small
  refine ⟨⟨hown, fun e he => ?_, ?_, by omega⟩, by omega⟩
  · rcases List.mem_append.1 he with he | he
    · exact good2_below hb (hE e he)
    · exact good2_below hb (h.each e (List.mem_cons_of_mem _ he))
  · rw [h.same, List.all_append, hA, List.all_cons]
    show (Tp.sames (x :: r) (y :: s) && _) = _
    simp only [Tp.sames, same_node x y, hyes, Bool.true_and]
    rw [Bool.and_comm (Tp.sames r s)]
theorem below_get {n : Nat} {w w' : World} (h : Below n w w') {k : Nat} {o : Obj} (hk : w.heap[k]? = some o) (hn : k < n) : w'.heap[k]? = some o := (h.block k hn).trans hk
theorem cmp_start {w : World} {t u : T} {a a' : Option Addr} {cap cap' : Nat} (hty : TyAt (LT w.heap.size) w t a cap) (hty' : TyAt (LT w.heap.size) w u a' cap') (hsz : Tp.size t ≤ 1000000) :
    Cmp (w.heap.size + 1 + 1 + 1 + 1) t u [⟨[t], some ⟨w.heap.size + 1 + 1, 0, none⟩, 1, [u], some ⟨w.heap.size + 1 + 1 + 1, 0, none⟩, 1⟩] (.slice (some ⟨w.heap.size + 1 + 1 + 1 + 1, 0, none⟩) 1 1)
      (((((w.alloc (.cells #[.int .i64 t.kind, .int .i64 t.num, .slice a t.kids.length cap] 24)).alloc (.cells #[.int .i64 u.kind, .int .i64 u.num, .slice a' u.kids.length cap'] 24)).alloc (.cells #[.int .i64 t.kind, .int .i64 t.num, .slice a t.kids.length cap] 24)).alloc
        (.cells #[.int .i64 u.kind, .int .i64 u.num, .slice a' u.kids.length cap'] 24)).alloc (.cells #[.slice (some ⟨w.heap.size + 1 + 1, 0, none⟩) 1 1, .slice (some ⟨w.heap.size + 1 + 1 + 1, 0, none⟩) 1 1] 98)) := by
  obtain ⟨A, hA⟩ : ∃ A, (w.alloc (.cells #[.int .i64 t.kind, .int .i64 t.num, .slice a t.kids.length cap] 24)).alloc (.cells #[.int .i64 u.kind, .int .i64 u.num, .slice a' u.kids.length cap'] 24) = A := ⟨_, rfl⟩
  have hs : A.heap.size = w.heap.size + 1 + 1 := by rw [← hA]; simp
  have hb : Below w.heap.size w A := by rw [← hA]; exact ((Below.refl _ _).alloc (Nat.le_refl _) _).alloc (by simp) _
  rw [hA]
  obtain ⟨B, hB⟩ : ∃ B, ((A.alloc (.cells #[.int .i64 t.kind, .int .i64 t.num, .slice a t.kids.length cap] 24)).alloc (.cells #[.int .i64 u.kind, .int .i64 u.num, .slice a' u.kids.length cap'] 24)).alloc (.cells #[.slice (some ⟨w.heap.size + 1 + 1, 0, none⟩) 1 1, .slice (some ⟨w.heap.size + 1 + 1 + 1, 0, none⟩) 1 1] 98) = B := ⟨_, rfl⟩
  have h1 : B.heap[w.heap.size + 1 + 1]? = some (.cells #[.int .i64 t.kind, .int .i64 t.num, .slice a t.kids.length cap] 24) := by
    rw [← hB, ← hs]; exact (Below.heap_alloc _ _ _ (by simp <;> omega)).trans (box1 _ _ _ _ _)
  have h2 : B.heap[w.heap.size + 1 + 1 + 1]? = some (.cells #[.int .i64 u.kind, .int .i64 u.num, .slice a' u.kids.length cap'] 24) := by
    rw [← hB, ← hs]; exact (Below.heap_alloc _ _ _ (by simp)).trans (box2 _ _ _ _ _)
  have h3 : B.heap[w.heap.size + 1 + 1 + 1 + 1]? = some (.cells #[.slice (some ⟨w.heap.size + 1 + 1, 0, none⟩) 1 1, .slice (some ⟨w.heap.size + 1 + 1 + 1, 0, none⟩) 1 1] 98) := by
    have := World.alloc_heap_new ((A.alloc (.cells #[.int .i64 t.kind, .int .i64 t.num, .slice a t.kids.length cap] 24)).alloc (.cells #[.int .i64 u.kind, .int .i64 u.num, .slice a' u.kids.length cap'] 24)) (.cells #[.slice (some ⟨w.heap.size + 1 + 1, 0, none⟩) 1 1, .slice (some ⟨w.heap.size + 1 + 1 + 1, 0, none⟩) 1 1] 98)
    rw [hB, World.size_alloc, World.size_alloc, hs] at this; exact this
  have hb2 : Below w.heap.size w B := by
    rw [← hB]; exact ((hb.alloc (by omega) _).alloc (by simp <;> omega) _).alloc (by simp <;> omega) _
  rw [hB]
  refine ⟨⟨rfl, .inr ⟨_, 1, _, rfl, Nat.le_refl _, h3, Nat.le_refl _, by unfold maxLen; omega, rfl, rfl⟩⟩, fun e he => ?_, by simp [Tp.sames], by simp [msz, Tp.sizes]; omega⟩
  obtain rfl := List.mem_singleton.1 he
  refine ⟨by simp, rfl, ⟨by simp, by unfold maxLen; simp, ?_⟩, ⟨by simp, by unfold maxLen; simp, ?_⟩⟩ <;> dsimp only
  · refine KidsAt.of_nodes (G := LT (w.heap.size + 1 + 1 + 1 + 1)) (b := w.heap.size + 1 + 1) (by unfold LT; omega) [t] 0 (fun i hi => ?_)
    obtain rfl : i = 0 := by simpa using hi
    exact NodeAt.mk' (hty.below hb2 (fun b h => h) (fun b h => Nat.lt_of_lt_of_le h (by omega))) (cell_box h1 rfl rfl) (cell_box h1 rfl rfl) (cell_box h1 rfl rfl)
  · refine KidsAt.of_nodes (G := LT (w.heap.size + 1 + 1 + 1 + 1)) (b := w.heap.size + 1 + 1 + 1) (by unfold LT; omega) [u] 0 (fun i hi => ?_)
    obtain rfl : i = 0 := by simpa using hi
    exact NodeAt.mk' (hty'.below hb2 (fun b h => h) (fun b h => Nat.lt_of_lt_of_le h (by omega))) (cell_box h2 rfl rfl) (cell_box h2 rfl rfl) (cell_box h2 rfl rfl)
theorem old3 {w : World} {b o : Nat} {v : Value} (h : w.cell? ⟨b, o, none⟩ = some v) (o1 o2 o3 : Obj) : (((w.alloc o1).alloc o2).alloc o3).drew.cell? ⟨b, o, none⟩ = some v := by
  have hl : b < w.heap.size := cell_lt h
  exact (((((Below.refl w.heap.size w).alloc (Nat.le_refl _) o1).alloc (by simp) o2).alloc (by simp <;> omega) o3).cell (p := ⟨b, o, none⟩) hl).trans h
theorem three {w : World} (A B C : Array Value) (s u v : TypeId) :
    ((((w.alloc (.cells A s)).alloc (.cells B u)).alloc (.cells C v)).drew.heap[w.heap.size]? = some (.cells A s)) ∧ ((((w.alloc (.cells A s)).alloc (.cells B u)).alloc (.cells C v)).drew.heap[w.heap.size + 1]? = some (.cells B u)) ∧
    ((((w.alloc (.cells A s)).alloc (.cells B u)).alloc (.cells C v)).drew.heap[w.heap.size + 1 + 1]? = some (.cells C v)) ∧ Below w.heap.size w (((w.alloc (.cells A s)).alloc (.cells B u)).alloc (.cells C v)).drew := by
  refine ⟨(Below.heap_alloc ((w.alloc (.cells A s)).alloc (.cells B u)) _ _ (by simp <;> omega)).trans (box1 _ _ _ _ _), (Below.heap_alloc ((w.alloc (.cells A s)).alloc (.cells B u)) _ _ (by simp)).trans (box2 _ _ _ _ _), ?_, ((((Below.refl w.heap.size w).alloc (Nat.le_refl _) _).alloc (by simp) _).alloc (by simp <;> omega) _).drew⟩
  have := World.alloc_heap_new ((w.alloc (.cells A s)).alloc (.cells B u)) (.cells C v)
  rw [World.size_alloc, World.size_alloc] at this; exact this
theorem b48 {r : Nat} (h : r ≤ 1000000) : (r + 1) * 48 ≤ 140737488355328 ∧ (r + 1 + 1) * 48 ≤ 140737488355328 ∧ r + 1 ≤ maxLen ∧ r + 1 + 1 ≤ maxLen := by unfold maxLen; omega
theorem two_slices (a : Option Addr) (n c : Nat) (a' : Option Addr) (n' c' : Nat) : ∀ u ∈ [Value.slice a n c, .slice a' n' c'], u.oneCell' = true := by
  intro u hu
  simp only [List.mem_cons, List.not_mem_nil, or_false] at hu
  rcases hu with rfl | rfl <;> rfl
/-- append, as it stands to what lay below. -/
theorem below_push {n : Nat} {A B C : World} {o : Obj} {row : Option Nat} (h : Below n A B) (hg : (B.alloc o).grownBy C row) (hrow : ∀ k, row = some k → n ≤ k) (hn : n ≤ B.heap.size) : Below n A C :=
  (h.alloc hn o).grown hg (by rw [World.size_alloc]; omega) hrow
theorem cmp_end {n : Nat} {t u x y : T} {R E : List En2} {v v' : Value} {w0 w w' : World} {a b : Option Addr} {ca cb : Nat} {r s : List T} (h : Cmp n t u (⟨x :: r, a, ca, y :: s, b, cb⟩ :: R) v w)
    (hyes : (decide (x.kind = y.kind) && decide (x.num = y.num) && decide (x.kids.length = y.kids.length)) = true) (h0 : Below w0.heap.size w0 w) (hn0 : w0.heap.size ≤ n) (hn : n ≤ w.heap.size) (hb : Below n w w')
    (hE : ∀ e ∈ E, e.good n w) (hA : (E.all fun e => Tp.sames e.xs e.ys) = (Tp.sames r s && Tp.sames x.kids y.kids)) (hS : msz E = Tp.sizes r + Tp.sizes x.kids)
    (hown : w'.ownsRow n 98 2 v' (E ++ R).length (st2Cells (E ++ R).reverse)) : msz (E ++ R) < msz (⟨x :: r, a, ca, y :: s, b, cb⟩ :: R) ∧ (∃ R', Cmp n t u R' v' w' ∧ Below w0.heap.size w0 w' ∧ n ≤ w'.heap.size ∧ msz (E ++ R) = msz R') := by
  obtain ⟨k1, k2⟩ := cmp_next h hyes hb hE hA hS hown
  exact ⟨k2, _, k1, h0.trans (hb.mono hn0), Nat.le_trans hn hb.size, rfl⟩
theorem tail_slat {n : Nat} {w : World} {x : T} {r : List T} {b o cap : Nat} (h : SlAt (LT n) w (x :: r) (some ⟨b, o, none⟩) cap) : SlAt (LT n) w r (some ⟨b, o + 3, none⟩) (cap - 1) := by
  obtain ⟨h1, h2, h3⟩ := h
  refine ⟨?_, by omega, h3.tail⟩
  simp only [List.length_cons] at h1; omega
end Go.Proofs.Ytncdbbjkafgphaa
