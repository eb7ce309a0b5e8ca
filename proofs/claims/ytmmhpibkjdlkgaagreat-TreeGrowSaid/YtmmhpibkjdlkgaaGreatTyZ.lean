/- typ.Same: two types gone down at once, by a stack of the call's own. typ.Same, walked. -/
import Derived.Test.YtmmhpibkjdlkgaaGreatTyS
import Derived.Deep.RegionHeld3
import Derived.Deep.DeepCutAuto
import Derived.Deep.CutRange
namespace Go.Proofs.YtmmhpibkjdlkgaaGreat
open Go Go.RowKit
open Tp (T)

/-- What is still to be compared: types and as many others, one at least. -/
structure En2 where
  xs : List T
  a : Option Addr
  ca : Nat
  ys : List T
  b : Option Addr
  cb : Nat
def en2Cells (e : En2) : List Value := [.slice e.a e.xs.length e.ca, .slice e.b e.ys.length e.cb]
def st2Cells (S : List En2) : List Value := S.flatMap en2Cells
theorem st2Cells_length : ∀ S : List En2, (st2Cells S).length = S.length * 2
  | [] => rfl
  | e :: r => by
    have := st2Cells_length r
    simp only [st2Cells, List.flatMap_cons, List.length_append, List.length_cons, en2Cells, List.length_nil] at this ⊢
    omega
theorem st2Cells_snoc (S : List En2) (e : En2) : st2Cells (S ++ [e]) = st2Cells S ++ en2Cells e := by simp [st2Cells]
def En2.good (n : Nat) (w : World) (e : En2) : Prop := e.xs ≠ [] ∧ e.xs.length = e.ys.length ∧ SlAt (LT n) w e.xs e.a e.ca ∧ SlAt (LT n) w e.ys e.b e.cb
def msz (R : List En2) : Nat := (R.map fun e => Tp.sizes e.xs).sum
theorem elem_sm : Tryz.prog.underlying 156 = some (.slice (Tryz.prog.elem 156)) := by kernel_rfl
theorem size_sm (w : World) : (sizeOf (Tryz.prog.elem 156)).run Tryz.prog w = .ok 2 w := by kernel_rfl
theorem info_sm : (Tryz.prog.info? 155).map (fun i => (i.zero, i.size, i.bytes)) = some (some (.agg #[.slice none 0 0, .slice none 0 0]), 2, 48) := by kernel_rfl
theorem sm_pop (g n cap k : Nat) (hk : k ≤ n) (hn : n ≤ cap) (w' : World) :
    (Instr.slice 156 (.slice (some ⟨g, 0, none⟩) n cap) none (some (.int .i64 (k : Int))) none).run Tryz.prog w' = .ok (.slice (some ⟨g, 0, none⟩) k cap) w' := by
  rw [run_slice_h w' _ _ n cap elem_sm .i64 (k : Int) (by omega) (by omega), size_sm]
  simp [Result.andThen, sliced, add_flat]
theorem own_top2 {w : World} {base : Nat} {v : Value} {R : List En2} {e : En2} (h : w.ownsRow base 155 2 v (R.length + 1) (st2Cells (e :: R).reverse)) :
    ∃ g cap, v = .slice (some ⟨g, 0, none⟩) (R.length + 1) cap ∧ base ≤ g ∧ g < w.heap.size ∧ R.length + 1 ≤ cap ∧ cap ≤ maxLen ∧ w.cell? ⟨g, R.length * 2, none⟩ = some (.slice e.a e.xs.length e.ca) ∧
      w.cell? ⟨g, R.length * 2 + 1, none⟩ = some (.slice e.b e.ys.length e.cb) ∧ w.ownsRow base 155 2 (.slice (some ⟨g, 0, none⟩) R.length cap) R.length (st2Cells R.reverse) := by
  rw [List.reverse_cons, st2Cells_snoc] at h
  obtain ⟨h1, h2 | ⟨g, cap, cur, h3, h4, h5, h6, h7, h8, h9⟩⟩ := id h
  · omega
  · subst h3
    have hlen := st2Cells_length R.reverse
    rw [List.length_reverse] at hlen
    have hc := h.cells (g := g) rfl
    refine ⟨g, cap, rfl, h4, (Array.getElem?_eq_some_iff.1 h5).1, h6, h7, ?_, ?_, own_take h (Nat.le_succ _) hlen⟩
    · have := hc (R.length * 2) (.slice e.a e.xs.length e.ca) (by rw [← hlen, List.getElem?_append_right (Nat.le_refl _), Nat.sub_self]; rfl)
      rwa [add_flat, Nat.zero_add] at this
    · have := hc (R.length * 2 + 1) (.slice e.b e.ys.length e.cb) (by rw [← hlen, List.getElem?_append_right (by omega), Nat.add_sub_cancel_left]; rfl)
      rwa [add_flat, Nat.zero_add] at this
/-- Between two rounds. -/
structure Cmp (n : Nat) (t u : T) (R : List En2) (v : Value) (w : World) : Prop where
  own : w.ownsRow n 155 2 v R.length (st2Cells R.reverse)
  each : ∀ e ∈ R, e.good n w
  same : Tp.same t u = R.all fun e => Tp.sames e.xs e.ys
  small : msz R ≤ 10000
theorem good2_below {n : Nat} {w w' : World} (hb : Below n w w') {e : En2} (h : e.good n w) : e.good n w' :=
  ⟨h.1, h.2.1, h.2.2.1.below hb (fun _ h => h) (fun _ h => h), h.2.2.2.below hb (fun _ h => h) (fun _ h => h)⟩
theorem len_msz {R : List En2} {n : Nat} {w : World} (h : ∀ e ∈ R, e.good n w) : R.length ≤ msz R := by
  induction R with
  | nil => simp
  | cons e r ih =>
    have h1 := ih fun e he => h e (List.mem_cons_of_mem _ he)
    have h2 := List.length_pos_iff.2 (h e (by simp)).1
    have := Tp.length_le_sizes e.xs
    simp only [msz, List.map_cons, List.sum_cons, List.length_cons] at h1 ⊢
    omega
theorem same_node (x y : T) : Tp.same x y = ((decide (x.kind = y.kind) && decide (x.num = y.num) && decide (x.kids.length = y.kids.length)) && Tp.sames x.kids y.kids) := by
  cases x; cases y; rfl
/-- The top is not alike: it is not the same. -/
theorem cmp_no {n : Nat} {t u x y : T} {R : List En2} {v : Value} {w : World} {a b : Option Addr} {ca cb : Nat} {r s : List T} (h : Cmp n t u (⟨x :: r, a, ca, y :: s, b, cb⟩ :: R) v w)
    (hno : (decide (x.kind = y.kind) && decide (x.num = y.num) && decide (x.kids.length = y.kids.length)) = false) : Tp.same t u = false := by
  rw [h.same, List.all_cons]
  show (Tp.sames (x :: r) (y :: s) && _) = false
  simp only [Tp.sames, same_node x y, hno, Bool.false_and]
/-- BEHIND A ROUND. -/
theorem cmp_next {n : Nat} {t u x y : T} {R E : List En2} {v v' : Value} {w w' : World} {a b : Option Addr} {ca cb : Nat} {r s : List T} (h : Cmp n t u (⟨x :: r, a, ca, y :: s, b, cb⟩ :: R) v w)
    (hyes : (decide (x.kind = y.kind) && decide (x.num = y.num) && decide (x.kids.length = y.kids.length)) = true) (hb : Below n w w')
    (hE : ∀ e ∈ E, e.good n w) (hA : (E.all fun e => Tp.sames e.xs e.ys) = (Tp.sames r s && Tp.sames x.kids y.kids)) (hS : msz E = Tp.sizes r + Tp.sizes x.kids)
    (hown : w'.ownsRow n 155 2 v' (E ++ R).length (st2Cells (E ++ R).reverse)) : Cmp n t u (E ++ R) v' w' ∧ msz (E ++ R) < msz (⟨x :: r, a, ca, y :: s, b, cb⟩ :: R) := by
  have e1 : msz (E ++ R) = msz E + msz R := by simp [msz]
  have e2 : msz (⟨x :: r, a, ca, y :: s, b, cb⟩ :: R) = 1 + Tp.sizes x.kids + Tp.sizes r + msz R := by
    cases x with
    | mk k m l => simp [msz, Tp.sizes, Tp.size, Tp.T.kids]; omega
  have hsm := h.small
  refine ⟨⟨hown, fun e he => ?_, ?_, by omega⟩, by omega⟩
  · rcases List.mem_append.1 he with he | he
    · exact good2_below hb (hE e he)
    · exact good2_below hb (h.each e (List.mem_cons_of_mem _ he))
  · rw [h.same, List.all_append, hA, List.all_cons]
    show (Tp.sames (x :: r) (y :: s) && _) = _
    simp only [Tp.sames, same_node x y, hyes, Bool.true_and]
    rw [Bool.and_comm (Tp.sames r s)]
theorem below_get {n : Nat} {w w' : World} (h : Below n w w') {k : Nat} {o : Obj} (hk : w.heap[k]? = some o) (hn : k < n) : w'.heap[k]? = some o := (h.block k hn).trans hk
theorem cmp_start {w : World} {t u : T} {a a' : Option Addr} {cap cap' : Nat} (hty : TyAt (LT w.heap.size) w t a cap) (hty' : TyAt (LT w.heap.size) w u a' cap') (hsz : Tp.size t ≤ 10000) :
    Cmp (w.heap.size + 1 + 1 + 1 + 1) t u [⟨[t], some ⟨w.heap.size + 1 + 1, 0, none⟩, 1, [u], some ⟨w.heap.size + 1 + 1 + 1, 0, none⟩, 1⟩] (.slice (some ⟨w.heap.size + 1 + 1 + 1 + 1, 0, none⟩) 1 1)
      (((((w.alloc (.cells #[.int .i64 t.kind, .int .i64 t.num, .slice a t.kids.length cap] 26)).alloc (.cells #[.int .i64 u.kind, .int .i64 u.num, .slice a' u.kids.length cap'] 26)).alloc (.cells #[.int .i64 t.kind, .int .i64 t.num, .slice a t.kids.length cap] 26)).alloc
        (.cells #[.int .i64 u.kind, .int .i64 u.num, .slice a' u.kids.length cap'] 26)).alloc (.cells #[.slice (some ⟨w.heap.size + 1 + 1, 0, none⟩) 1 1, .slice (some ⟨w.heap.size + 1 + 1 + 1, 0, none⟩) 1 1] 155)) := by
  obtain ⟨A, hA⟩ : ∃ A, (w.alloc (.cells #[.int .i64 t.kind, .int .i64 t.num, .slice a t.kids.length cap] 26)).alloc (.cells #[.int .i64 u.kind, .int .i64 u.num, .slice a' u.kids.length cap'] 26) = A := ⟨_, rfl⟩
  have hs : A.heap.size = w.heap.size + 1 + 1 := by rw [← hA]; simp
  have hb : Below w.heap.size w A := by rw [← hA]; exact ((Below.refl _ _).alloc (Nat.le_refl _) _).alloc (by simp) _
  rw [hA]
  obtain ⟨B, hB⟩ : ∃ B, ((A.alloc (.cells #[.int .i64 t.kind, .int .i64 t.num, .slice a t.kids.length cap] 26)).alloc (.cells #[.int .i64 u.kind, .int .i64 u.num, .slice a' u.kids.length cap'] 26)).alloc (.cells #[.slice (some ⟨w.heap.size + 1 + 1, 0, none⟩) 1 1, .slice (some ⟨w.heap.size + 1 + 1 + 1, 0, none⟩) 1 1] 155) = B := ⟨_, rfl⟩
  have h1 : B.heap[w.heap.size + 1 + 1]? = some (.cells #[.int .i64 t.kind, .int .i64 t.num, .slice a t.kids.length cap] 26) := by
    rw [← hB, ← hs]; exact (Below.heap_alloc _ _ _ (by simp <;> omega)).trans (box1 _ _ _ _ _)
  have h2 : B.heap[w.heap.size + 1 + 1 + 1]? = some (.cells #[.int .i64 u.kind, .int .i64 u.num, .slice a' u.kids.length cap'] 26) := by
    rw [← hB, ← hs]; exact (Below.heap_alloc _ _ _ (by simp)).trans (box2 _ _ _ _ _)
  have h3 : B.heap[w.heap.size + 1 + 1 + 1 + 1]? = some (.cells #[.slice (some ⟨w.heap.size + 1 + 1, 0, none⟩) 1 1, .slice (some ⟨w.heap.size + 1 + 1 + 1, 0, none⟩) 1 1] 155) := by
    have := World.alloc_heap_new ((A.alloc (.cells #[.int .i64 t.kind, .int .i64 t.num, .slice a t.kids.length cap] 26)).alloc (.cells #[.int .i64 u.kind, .int .i64 u.num, .slice a' u.kids.length cap'] 26)) (.cells #[.slice (some ⟨w.heap.size + 1 + 1, 0, none⟩) 1 1, .slice (some ⟨w.heap.size + 1 + 1 + 1, 0, none⟩) 1 1] 155)
    rw [hB, World.size_alloc, World.size_alloc, hs] at this; exact this
  have hb2 : Below w.heap.size w B := by
    rw [← hB]; exact ((hb.alloc (by omega) _).alloc (by simp <;> omega) _).alloc (by simp <;> omega) _
  rw [hB]
  refine ⟨⟨rfl, .inr ⟨_, 1, _, rfl, Nat.le_refl _, h3, Nat.le_refl _, by unfold maxLen; omega, rfl, rfl⟩⟩, fun e he => ?_, by simp [Tp.sames], by simp [msz, Tp.sizes]; omega⟩
  obtain rfl := List.mem_singleton.1 he
  refine ⟨by simp, rfl, ⟨by simp, by unfold maxLen; simp, ?_⟩, ⟨by simp, by unfold maxLen; simp, ?_⟩⟩ <;> dsimp only
  · refine KidsAt.of_nodes (G := LT (w.heap.size + 1 + 1 + 1 + 1)) (b := w.heap.size + 1 + 1) (by unfold LT; omega) [t] 0 (fun i hi => ?_)
    obtain rfl : i = 0 := by simpa using hi
    exact NodeAt.mk' (hty.below hb2 (fun b h => h) (fun b h => Nat.lt_of_lt_of_le h (by omega))) (cell_box h1 rfl rfl) (cell_box h1 rfl rfl) (cell_box h1 rfl rfl)
  · refine KidsAt.of_nodes (G := LT (w.heap.size + 1 + 1 + 1 + 1)) (b := w.heap.size + 1 + 1 + 1) (by unfold LT; omega) [u] 0 (fun i hi => ?_)
    obtain rfl : i = 0 := by simpa using hi
    exact NodeAt.mk' (hty'.below hb2 (fun b h => h) (fun b h => Nat.lt_of_lt_of_le h (by omega))) (cell_box h2 rfl rfl) (cell_box h2 rfl rfl) (cell_box h2 rfl rfl)
theorem old3 {w : World} {b o : Nat} {v : Value} (h : w.cell? ⟨b, o, none⟩ = some v) (o1 o2 o3 : Obj) : (((w.alloc o1).alloc o2).alloc o3).drew.cell? ⟨b, o, none⟩ = some v := by
  have hl : b < w.heap.size := cell_lt h
  exact (((((Below.refl w.heap.size w).alloc (Nat.le_refl _) o1).alloc (by simp) o2).alloc (by simp <;> omega) o3).cell (p := ⟨b, o, none⟩) hl).trans h
theorem three {w : World} (A B C : Array Value) (s u v : TypeId) :
    ((((w.alloc (.cells A s)).alloc (.cells B u)).alloc (.cells C v)).drew.heap[w.heap.size]? = some (.cells A s)) ∧ ((((w.alloc (.cells A s)).alloc (.cells B u)).alloc (.cells C v)).drew.heap[w.heap.size + 1]? = some (.cells B u)) ∧
    ((((w.alloc (.cells A s)).alloc (.cells B u)).alloc (.cells C v)).drew.heap[w.heap.size + 1 + 1]? = some (.cells C v)) ∧ Below w.heap.size w (((w.alloc (.cells A s)).alloc (.cells B u)).alloc (.cells C v)).drew := by
  refine ⟨(Below.heap_alloc ((w.alloc (.cells A s)).alloc (.cells B u)) _ _ (by simp <;> omega)).trans (box1 _ _ _ _ _), (Below.heap_alloc ((w.alloc (.cells A s)).alloc (.cells B u)) _ _ (by simp)).trans (box2 _ _ _ _ _), ?_, ((((Below.refl w.heap.size w).alloc (Nat.le_refl _) _).alloc (by simp) _).alloc (by simp <;> omega) _).drew⟩
  have := World.alloc_heap_new ((w.alloc (.cells A s)).alloc (.cells B u)) (.cells C v)
  rw [World.size_alloc, World.size_alloc] at this; exact this
theorem b48 {r : Nat} (h : r ≤ 10000) : (r + 1) * 48 ≤ 140737488355328 ∧ (r + 1 + 1) * 48 ≤ 140737488355328 ∧ r + 1 ≤ maxLen ∧ r + 1 + 1 ≤ maxLen := by unfold maxLen; omega
theorem two_slices (a : Option Addr) (n c : Nat) (a' : Option Addr) (n' c' : Nat) : ∀ u ∈ [Value.slice a n c, .slice a' n' c'], u.oneCell' = true := by
  intro u hu
  simp only [List.mem_cons, List.not_mem_nil, or_false] at hu
  rcases hu with rfl | rfl <;> rfl
/-- append, as it stands to what lay below. -/
theorem below_push {n : Nat} {A B C : World} {o : Obj} {row : Option Nat} (h : Below n A B) (hg : (B.alloc o).grownBy C row) (hrow : ∀ k, row = some k → n ≤ k) (hn : n ≤ B.heap.size) : Below n A C :=
  (h.alloc hn o).grown hg (by rw [World.size_alloc]; omega) hrow
theorem cmp_end {n : Nat} {t u x y : T} {R E : List En2} {v v' : Value} {w0 w w' : World} {a b : Option Addr} {ca cb : Nat} {r s : List T} (h : Cmp n t u (⟨x :: r, a, ca, y :: s, b, cb⟩ :: R) v w)
    (hyes : (decide (x.kind = y.kind) && decide (x.num = y.num) && decide (x.kids.length = y.kids.length)) = true) (h0 : Below w0.heap.size w0 w) (hn0 : w0.heap.size ≤ n) (hn : n ≤ w.heap.size) (hb : Below n w w')
    (hE : ∀ e ∈ E, e.good n w) (hA : (E.all fun e => Tp.sames e.xs e.ys) = (Tp.sames r s && Tp.sames x.kids y.kids)) (hS : msz E = Tp.sizes r + Tp.sizes x.kids)
    (hown : w'.ownsRow n 155 2 v' (E ++ R).length (st2Cells (E ++ R).reverse)) : msz (E ++ R) < msz (⟨x :: r, a, ca, y :: s, b, cb⟩ :: R) ∧ (∃ R', Cmp n t u R' v' w' ∧ Below w0.heap.size w0 w' ∧ n ≤ w'.heap.size ∧ msz (E ++ R) = msz R') := by
  obtain ⟨k1, k2⟩ := cmp_next h hyes hb hE hA hS hown
  exact ⟨k2, _, k1, h0.trans (hb.mono hn0), Nat.le_trans hn hb.size, rfl⟩
theorem tail_slat {n : Nat} {w : World} {x : T} {r : List T} {b o cap : Nat} (h : SlAt (LT n) w (x :: r) (some ⟨b, o, none⟩) cap) : SlAt (LT n) w r (some ⟨b, o + 3, none⟩) (cap - 1) := by
  obtain ⟨h1, h2, h3⟩ := h
  refine ⟨?_, by omega, h3.tail⟩
  simp only [List.length_cons] at h1; omega
end Go.Proofs.YtmmhpibkjdlkgaaGreat
namespace Go.Proofs.YtmmhpibkjdlkgaaGreat
open Go Go.RowKit
open Tp (T)

set_option maxRecDepth 100000 in
set_option maxHeartbeats 4000000 in
theorem same_any (t u : T) (a : Option Addr) (cap : Nat) (a' : Option Addr) (cap' : Nat) (w : World) (hsz : Tp.size t ≤ 10000) (hty : TyAt (LT w.heap.size) w t a cap) (hty' : TyAt (LT w.heap.size) w u a' cap') :
    Calls Tryz.prog 97 #[tv t a cap, tv u a' cap'] w fun e w' => e = .returned (.bool (Tp.same t u)) ∧ Below w.heap.size w w' := by
  have HTY := Lib.hid hty; have HTY' := Lib.hid hty'; clear hty hty'
  obtain ⟨k0, hk0⟩ : ∃ k0, t.kind = k0 := ⟨_, rfl⟩
  obtain ⟨n0, hn0⟩ : ∃ n0, t.num = n0 := ⟨_, rfl⟩
  obtain ⟨m0, hm0⟩ : ∃ m0, t.kids.length = m0 := ⟨_, rfl⟩
  obtain ⟨k1, hk1⟩ : ∃ k0, u.kind = k0 := ⟨_, rfl⟩
  obtain ⟨n1, hn1⟩ : ∃ n0, u.num = n0 := ⟨_, rfl⟩
  obtain ⟨m1, hm1⟩ : ∃ m0, u.kids.length = m0 := ⟨_, rfl⟩
  unfold tv
  rw [hk0, hn0, hm0, hk1, hn1, hm1]
  obtain ⟨res, hres⟩ : ∃ res, Tp.same t u = res := ⟨_, rfl⟩
  rw [hres]
  have HRES := Lib.hid hres
  have HK := Lib.hid hk0; have HN := Lib.hid hn0; have HM := Lib.hid hm0; have HK1 := Lib.hid hk1; have HN1 := Lib.hid hn1; have HM1 := Lib.hid hm1
  clear hk0 hn0 hm0 hk1 hn1 hm1 hres
  go_enter Tryz.func97, Tryz.ntmps97
  go_wp2_with fail
  have hst := cmp_start HTY.out HTY'.out hsz
  rw [HK.out, HN.out, HM.out, HK1.out, HN1.out, HM1.out] at hst
  have HST := Lib.hid hst; clear hst
  have HB0 := Lib.hid (show Below w.heap.size w (((((w.alloc (.cells #[.int .i64 k0, .int .i64 n0, .slice a m0 cap] 26)).alloc (.cells #[.int .i64 k1, .int .i64 n1, .slice a' m1 cap'] 26)).alloc (.cells #[.int .i64 k0, .int .i64 n0, .slice a m0 cap] 26)).alloc
        (.cells #[.int .i64 k1, .int .i64 n1, .slice a' m1 cap'] 26)).alloc (.cells #[.slice (some ⟨w.heap.size + 1 + 1, 0, none⟩) 1 1, .slice (some ⟨w.heap.size + 1 + 1 + 1, 0, none⟩) 1 1] 155)) from (((((Below.refl _ _).alloc (Nat.le_refl _) _).alloc (by simp) _).alloc (by simp <;> omega) _).alloc (by simp <;> omega) _).alloc (by simp <;> omega) _)
  go_loopg [5] (Tp.size t) (fun gk v wr => ∃ R, Cmp (w.heap.size + 1 + 1 + 1 + 1) t u R v wr ∧ Below w.heap.size w wr ∧ w.heap.size + 1 + 1 + 1 + 1 ≤ wr.heap.size ∧ gk = msz R)
  case atStart => exact ⟨_, HST.out, HB0.out, by simp, by simp [msz, Tp.sizes]⟩
  case round =>
    obtain ⟨R, hC, hb, hn, rfl⟩ := hrel
    have HC := Lib.hid hC; have HB := Lib.hid hb; have HN4 := Lib.hid hn
    clear hC hb hn HST HB0
    cases R with
    | nil =>
      obtain ⟨av, cv, rfl⟩ := own_shapeT HC.out.own
      have hr : res = true := by rw [← HRES.out, HC.out.same]; rfl
      have HR := Lib.hid hr; clear hr
      go_wp2_with fail
      go_ret
      exact ⟨ret_boolT HR.out.symm, HB.out⟩
    | cons e R =>
      obtain ⟨g, cap3, rfl, hg1, hg2, hcp, hcm, h0, h1, hown⟩ := own_top2 (v := u5) HC.out.own
      have hgood := HC.out.each e (by simp)
      obtain ⟨ne, hlen, hsa, hsb⟩ := id hgood
      obtain ⟨l1, ea, ca, l2, eb, cb⟩ := e
      dsimp only at h0 h1 ne hlen hsa hsb hgood
      cases l1 with
      | nil => exact absurd rfl ne
      | cons x rs =>
        cases l2 with
        | nil => cases hlen
        | cons y ss =>
          obtain ⟨b, o, rfl, hGb, hnode, htail⟩ := hsa.2.2.head
          obtain ⟨xa, xcap, hxty, x0, x1, x2⟩ := hnode.ty
          obtain ⟨b', o', rfl, hGb', hnode', htail'⟩ := hsb.2.2.head
          obtain ⟨ya, ycap, hyty, y0, y1, y2⟩ := hnode'.ty
          obtain ⟨xk, hxk⟩ : ∃ z, x.kind = z := ⟨_, rfl⟩
          obtain ⟨xn, hxn⟩ : ∃ z, x.num = z := ⟨_, rfl⟩
          obtain ⟨xm, hxm⟩ : ∃ z, x.kids.length = z := ⟨_, rfl⟩
          obtain ⟨yk, hyk⟩ : ∃ z, y.kind = z := ⟨_, rfl⟩
          obtain ⟨yn, hyn⟩ : ∃ z, y.num = z := ⟨_, rfl⟩
          obtain ⟨ym, hym⟩ : ∃ z, y.kids.length = z := ⟨_, rfl⟩
          obtain ⟨rm, hrm⟩ : ∃ z, rs.length = z := ⟨_, rfl⟩
          obtain ⟨r, hr⟩ : ∃ z, R.length = z := ⟨_, rfl⟩
          have hss : ss.length = rm := by rw [← hrm]; simpa using hlen.symm
          rw [hr] at h0 h1 hcp hown ⊢
          rw [hxk] at x0; rw [hxn] at x1; rw [hxm] at x2
          rw [hyk] at y0; rw [hyn] at y1; rw [hym] at y2
          rw [List.length_cons, hrm] at h0; rw [List.length_cons, hss] at h1
          have hR : r ≤ 10000 := by have h1 := len_msz HC.out.each; have h2 := HC.out.small; rw [List.length_cons, hr] at h1; omega
          have hbB : b < wr.heap.size := cell_lt x0
          have hbB' : b' < wr.heap.size := cell_lt y0
          have HXK := Lib.hid hxk; have HXN := Lib.hid hxn; have HXM := Lib.hid hxm; have HYK := Lib.hid hyk; have HYN := Lib.hid hyn; have HYM := Lib.hid hym; have HRM := Lib.hid hrm; have HSS := Lib.hid hss; have HR := Lib.hid hr
          have HXTY := Lib.hid hxty; have HYTY := Lib.hid hyty; have HOWN := Lib.hid hown; have HSA := Lib.hid hsa; have HSB := Lib.hid hsb; have HG1 := Lib.hid hg1; have HG2 := Lib.hid hg2; have HCP := Lib.hid hcp; have HCM := Lib.hid hcm; have HRR := Lib.hid hR
          clear hxk hxn hxm hyk hyn hym hrm hss hr ne hlen hxty hyty htail htail' hown hsa hsb hGb hGb' hnode hnode' hgood
          have h32 := fun w1 => alike_any x y xa xcap ya ycap w1 (Nat.le_trans HXTY.out.2.2.1 HXTY.out.2.2.2.1) (Nat.le_trans HYTY.out.2.2.1 HYTY.out.2.2.2.1)
          unfold tv at h32
          rw [HXK.out, HXN.out, HXM.out, HYK.out, HYN.out, HYM.out] at h32
          obtain ⟨al, hal⟩ : ∃ al, (decide (xk = yk) && decide (xn = yn) && decide (xm = ym)) = al := ⟨_, rfl⟩
          rw [hal] at h32
          have hal' : (decide (x.kind = y.kind) && decide (x.num = y.num) && decide (x.kids.length = y.kids.length)) = al := by rw [HXK.out, HXN.out, HXM.out, HYK.out, HYN.out, HYM.out]; exact hal
          have HAL := Lib.hid hal; have HAL' := Lib.hid hal'; have H32 := Lib.hid h32; clear hal hal' h32
          go_upto_region 5 with fail
          go_cut [8, 9] (fun v8 v9 wx => ∃ B8 B9, v8 = .pointer (some ⟨B8, 0, none⟩) ∧ v9 = .pointer (some ⟨B9, 0, none⟩) ∧ wr.heap.size ≤ B8 ∧ wr.heap.size ≤ B9 ∧ wx.heap[B8]? = some (.cells #[.int .i64 xk, .int .i64 xn, .slice xa xm xcap] 26) ∧ wx.heap[B9]? = some (.cells #[.int .i64 yk, .int .i64 yn, .slice ya ym ycap] 26) ∧
            wx.heap[wr.heap.size]? = some (.cells #[.slice (some ⟨b, o, none⟩) (rm + 1) ca, .slice (some ⟨b', o', none⟩) (rm + 1) cb] 155) ∧ Below wr.heap.size wr wx)
          case first =>
            go_region_held3 (fun w' => w'.cell? ⟨wr.heap.size, 0, none⟩ = some (.slice (some ⟨b, o, none⟩) (rm + 1) ca) ∧ w'.cell? ⟨wr.heap.size, 1, none⟩ = some (.slice (some ⟨b', o', none⟩) (rm + 1) cb) ∧
                w'.cell? ⟨b, o, none⟩ = some (.int .i64 xk) ∧ w'.cell? ⟨b, o + 1, none⟩ = some (.int .i64 xn) ∧ w'.cell? ⟨b, o + 2, none⟩ = some (.slice xa xm xcap) ∧
                w'.cell? ⟨b', o', none⟩ = some (.int .i64 yk) ∧ w'.cell? ⟨b', o' + 1, none⟩ = some (.int .i64 yn) ∧ w'.cell? ⟨b', o' + 2, none⟩ = some (.slice ya ym ycap))
              (first | (go_keep; done) | (refine ⟨?_, ?_, ?_, ?_, ?_, ?_, ?_, ?_⟩ <;> first | exact old3 (by assumption) _ _ _ | go_keep))
              (fail)
            all_goals
              go_wp2_with fail
              go_meet
              obtain ⟨q1, q2, q3, q4⟩ := three (w := wr) #[.slice (some ⟨b, o, none⟩) (rm + 1) ca, .slice (some ⟨b', o', none⟩) (rm + 1) cb] #[.int .i64 xk, .int .i64 xn, .slice xa xm xcap] #[.int .i64 yk, .int .i64 yn, .slice ya ym ycap] 155 26 26
              obtain ⟨p1, p2, p3, p4⟩ := three (w := wr) #[.slice (some ⟨b, o, none⟩) (rm + 1) ca, .slice (some ⟨b', o', none⟩) (rm + 1) cb] #[.int .i64 yk, .int .i64 yn, .slice ya ym ycap] #[.int .i64 xk, .int .i64 xn, .slice xa xm xcap] 155 26 26
              first
              | exact ⟨_, _, rfl, rfl, by omega, by omega, q2, q3, q1, q4⟩
              | exact ⟨_, _, rfl, rfl, by omega, by omega, p3, p2, p1, p4⟩
          case rest =>
            obtain ⟨B8, B9, rfl, rfl, hB8, hB9, b8, b9, b7, hbx⟩ := hcut
            have c70 : wc.cell? ⟨wr.heap.size, 0, none⟩ = some (.slice (some ⟨b, o, none⟩) (rm + 1) ca) := cell_box b7 rfl rfl
            have c8 : wc.cell? ⟨B8, 0, none⟩ = some (.int .i64 xk) := cell_box b8 rfl rfl
            have c81 : wc.cell? ⟨B8, 1, none⟩ = some (.int .i64 xn) := cell_box b8 rfl rfl
            have c82 : wc.cell? ⟨B8, 2, none⟩ = some (.slice xa xm xcap) := cell_box b8 rfl rfl
            have c9 : wc.cell? ⟨B9, 0, none⟩ = some (.int .i64 yk) := cell_box b9 rfl rfl
            have c91 : wc.cell? ⟨B9, 1, none⟩ = some (.int .i64 yn) := cell_box b9 rfl rfl
            have c92 : wc.cell? ⟨B9, 2, none⟩ = some (.slice ya ym ycap) := cell_box b9 rfl rfl
            have HB7 := Lib.hid b7; have HB8 := Lib.hid b8; have HB9 := Lib.hid b9; have HBX := Lib.hid hbx; have HL8 := Lib.hid hB8; have HL9 := Lib.hid hB9
            clear b7 b8 b9 hbx hB8 hB9 x0 x1 x2 y0 y1 y2 h0 h1
            cases al with
            | false =>
              go_wp2_with (go_at_call 125; refine (H32.out _).mono ?_; rintro e w6 ⟨rfl, hb6⟩)
              go_ret
              exact ⟨ret_boolT (by rw [← HRES.out]; exact (cmp_no HC.out HAL'.out).symm), HB.out.trans ((HBX.out.trans (hb6.mono HBX.out.size)).mono HB.out.size)⟩
            | true =>
              have hxy : ym = xm := by have := HAL.out; simp only [Bool.and_eq_true, decide_eq_true_eq] at this; exact this.2.symm
              subst hxy
              have HW6 := Lib.hid (show ∀ w6, Below wc.heap.size wc w6 → w6.heap[wr.heap.size]? = some (.cells #[.slice (some ⟨b, o, none⟩) (rm + 1) ca, .slice (some ⟨b', o', none⟩) (rm + 1) cb] 155) ∧ w6.heap[B8]? = some (.cells #[.int .i64 xk, .int .i64 xn, .slice xa ym xcap] 26) ∧
                  w6.heap[B9]? = some (.cells #[.int .i64 yk, .int .i64 yn, .slice ya ym ycap] 26) ∧ Below wr.heap.size wr w6 ∧ w6.ownsRow (w.heap.size + 1 + 1 + 1 + 1) 155 2 (.slice (some ⟨g, 0, none⟩) r cap3) r (st2Cells R.reverse) from fun w6 h6 =>
                ⟨below_get h6 HB7.out (Array.getElem?_eq_some_iff.1 HB7.out).1, below_get h6 HB8.out (Array.getElem?_eq_some_iff.1 HB8.out).1, below_get h6 HB9.out (Array.getElem?_eq_some_iff.1 HB9.out).1, HBX.out.trans (h6.mono HBX.out.size),
                  own_same HOWN.out (fun y hy => by injection hy with hy; subst hy; exact (HBX.out.trans (h6.mono HBX.out.size)).block _ HG2.out)⟩)
              obtain ⟨k48, k48', kml, kml'⟩ := b48 HRR.out
              have B1 := Lib.hid k48; have B2 := Lib.hid k48'; have B3 := Lib.hid kml; have B4 := Lib.hid kml'
              clear k48 k48' kml kml'
              obtain ⟨i0, hi, hz0, hz1, hz2⟩ := info_parts info_sm
              have HF := Lib.hid (fun E v5 W5 => cmp_end (E := E) (v' := v5) (w' := W5) HC.out HAL'.out HB.out (by omega) HN4.out)
              have GT := Lib.hid (show rs ≠ [] → En2.good (w.heap.size + 1 + 1 + 1 + 1) wr ⟨rs, some ⟨b, o + 3, none⟩, ca - 1, ss, some ⟨b', o' + 3, none⟩, cb - 1⟩ from fun h => ⟨h, by rw [HRM.out, HSS.out], tail_slat HSA.out, tail_slat HSB.out⟩)
              have GK := Lib.hid (show x.kids ≠ [] → En2.good (w.heap.size + 1 + 1 + 1 + 1) wr ⟨x.kids, xa, xcap, y.kids, ya, ycap⟩ from fun h => ⟨h, by rw [HXM.out, HYM.out], HXTY.out.2.2, HYTY.out.2.2⟩)
              have hpop := sm_pop g (r + 1) cap3 r (by omega) HCP.out
              have HGN := Lib.hid (show ∀ k, (Value.slice (some ⟨g, 0, none⟩) r cap3).ownBlock = some k → (w.heap.size + 1 + 1 + 1 + 1) ≤ k from fun k hk => by injection hk with hk; subst hk; exact HG1.out)
              rcases Nat.eq_zero_or_pos rm with hz | hz
              · have hrs : rs = [] := List.eq_nil_of_length_eq_zero (by rw [HRM.out]; exact hz)
                have hss : ss = [] := List.eq_nil_of_length_eq_zero (by rw [HSS.out]; exact hz)
                have HRS := Lib.hid hrs; have HSS' := Lib.hid hss; clear hrs hss
                subst hz
                rcases Nat.eq_zero_or_pos ym with hm | hm
                · have hks : x.kids = [] := List.eq_nil_of_length_eq_zero (by rw [HXM.out]; exact hm)
                  have hks' : y.kids = [] := List.eq_nil_of_length_eq_zero (by rw [HYM.out]; exact hm)
                  have HKS := Lib.hid hks; have HKS' := Lib.hid hks'; clear hks hks'
                  subst hm
                  go_wp2_with (go_at_call 125; refine (H32.out _).mono ?_; rintro e w6 ⟨rfl, hb6⟩; obtain ⟨l7, l8, l9, hwr, how⟩ := HW6.out w6 hb6; have hz6 : wr.heap.size < w6.heap.size := (Array.getElem?_eq_some_iff.1 l7).1; have d70 : w6.cell? ⟨wr.heap.size, 0, none⟩ = some (.slice (some ⟨b, o, none⟩) (0 + 1) ca) := cell_box l7 rfl rfl; have d71 : w6.cell? ⟨wr.heap.size, 1, none⟩ = some (.slice (some ⟨b', o', none⟩) (0 + 1) cb) := cell_box l7 rfl rfl; have d8 : w6.cell? ⟨B8, 2, none⟩ = some (.slice xa 0 xcap) := cell_box l8 rfl rfl; have d9 : w6.cell? ⟨B9, 2, none⟩ = some (.slice ya 0 ycap) := cell_box l9 rfl rfl; have L7 := Lib.hid l7; have L8 := Lib.hid l8; have L9 := Lib.hid l9; have HWR := Lib.hid hwr; have HOW := Lib.hid how; clear l7 l8 l9 hwr how hb6 c70 c8 c81 c82 c9 c91 c92)
                  have F := HF.out [] (.slice (some ⟨g, 0, none⟩) r cap3) w6 (HWR.out.mono HN4.out) (fun _ h => by cases h) (by rw [HRS.out, HSS'.out, HKS.out, HKS'.out]; simp [Tp.sames]) (by rw [HRS.out, HKS.out]; rfl) (by rw [List.nil_append, HR.out]; exact HOW.out)
                  go_roundg (msz ([] ++ R))
                  case measure => exact F.1
                  case rel => exact F.2
                · have hks : x.kids ≠ [] := List.length_pos_iff.1 (by rw [HXM.out]; exact hm)
                  have HKN := Lib.hid hks; clear hks
                  go_wp2_with (first | (go_at_call 125; refine (H32.out _).mono ?_; rintro e w6 ⟨rfl, hb6⟩; obtain ⟨l7, l8, l9, hwr, how⟩ := HW6.out w6 hb6; have hz6 : wr.heap.size < w6.heap.size := (Array.getElem?_eq_some_iff.1 l7).1; have d70 : w6.cell? ⟨wr.heap.size, 0, none⟩ = some (.slice (some ⟨b, o, none⟩) (0 + 1) ca) := cell_box l7 rfl rfl; have d71 : w6.cell? ⟨wr.heap.size, 1, none⟩ = some (.slice (some ⟨b', o', none⟩) (0 + 1) cb) := cell_box l7 rfl rfl; have d8 : w6.cell? ⟨B8, 2, none⟩ = some (.slice xa ym xcap) := cell_box l8 rfl rfl; have d9 : w6.cell? ⟨B9, 2, none⟩ = some (.slice ya ym ycap) := cell_box l9 rfl rfl; have L7 := Lib.hid l7; have L8 := Lib.hid l8; have L9 := Lib.hid l9; have HWR := Lib.hid hwr; have HOW := Lib.hid how; clear l7 l8 l9 hwr how hb6 c70 c8 c81 c82 c9 c91 c92) | (at_builtin; refine wpList_append_lies _ rfl (.tmp 59) (.tmp 65) 156 rfl (w.heap.size + 1 + 1 + 1 + 1) 155 i0 (.agg #[.slice none 0 0, .slice none 0 0]) 2 48 Tryz.underlying156 hi hz0 hz1 hz2 rfl (by decide) (.slice (some ⟨g, 0, none⟩) r cap3) r (st2Cells R.reverse) rfl (HOW.out.alloc _) ⟨w6.heap.size, 0, none⟩ 1 1 [.slice xa ym xcap, .slice ya ym ycap] rfl rfl (World.news_of_block (World.alloc_heap_new w6 _)) (two_slices _ _ _ _ _ _) (by decide) B3.out B1.out (Nat.le_trans HN4.out (Nat.le_trans (Nat.le_of_lt hz6) (by simp))) _ rfl ?_; intro g2 cap2 w8 own2 gr2 ly2 _))
                  have hbe := below_push (HWR.out.mono HN4.out) gr2 HGN.out (Nat.le_trans HN4.out (Nat.le_of_lt hz6))
                  have F := HF.out [⟨x.kids, xa, xcap, y.kids, ya, ycap⟩] (.slice (some ⟨g2, 0, none⟩) (r + 1) cap2) w8 hbe (List.forall_mem_cons.2 ⟨GK.out HKN.out, fun _ h => by cases h⟩) (by rw [HRS.out, HSS'.out]; simp [Tp.sames]) (by rw [HRS.out]; simp [msz, Tp.sizes])
                    (by rw [List.singleton_append, List.length_cons, List.reverse_cons, st2Cells_snoc, HR.out]; simp only [en2Cells, HXM.out, HYM.out]; exact own2)
                  go_roundg (msz ([⟨x.kids, xa, xcap, y.kids, ya, ycap⟩] ++ R))
                  case measure => exact F.1
                  case rel => exact F.2
              · have hrs : rs ≠ [] := List.length_pos_iff.1 (by rw [HRM.out]; exact hz)
                have HRN := Lib.hid hrs; clear hrs
                have hta := list_tail b o (rm + 1) ca (by omega) (by have := HSA.out.1; rw [List.length_cons, HRM.out] at this; exact this)
                have htb := list_tail b' o' (rm + 1) cb (by omega) (by have := HSB.out.1; rw [List.length_cons, HSS.out] at this; exact this)
                rw [Nat.add_sub_cancel] at hta htb
                rcases Nat.eq_zero_or_pos ym with hm | hm
                · have hks : x.kids = [] := List.eq_nil_of_length_eq_zero (by rw [HXM.out]; exact hm)
                  have hks' : y.kids = [] := List.eq_nil_of_length_eq_zero (by rw [HYM.out]; exact hm)
                  have HKS := Lib.hid hks; have HKS' := Lib.hid hks'; clear hks hks'
                  subst hm
                  go_upto_region 10 with (go_at_call 125; refine (H32.out _).mono ?_; rintro e w6 ⟨rfl, hb6⟩; obtain ⟨l7, l8, l9, hwr, how⟩ := HW6.out w6 hb6; have hz6 : wr.heap.size < w6.heap.size := (Array.getElem?_eq_some_iff.1 l7).1; have d70 : w6.cell? ⟨wr.heap.size, 0, none⟩ = some (.slice (some ⟨b, o, none⟩) (rm + 1) ca) := cell_box l7 rfl rfl; have d71 : w6.cell? ⟨wr.heap.size, 1, none⟩ = some (.slice (some ⟨b', o', none⟩) (rm + 1) cb) := cell_box l7 rfl rfl; have d8 : w6.cell? ⟨B8, 2, none⟩ = some (.slice xa 0 xcap) := cell_box l8 rfl rfl; have d9 : w6.cell? ⟨B9, 2, none⟩ = some (.slice ya 0 ycap) := cell_box l9 rfl rfl; have L7 := Lib.hid l7; have L8 := Lib.hid l8; have L9 := Lib.hid l9; have HWR := Lib.hid hwr; have HOW := Lib.hid how; clear l7 l8 l9 hwr how hb6 c70 c8 c81 c82 c9 c91 c92)
                  go_region_law (first | (refine step_append_lies _ ?_ (.tmp 45) (.tmp 53) 156 ?_ (w.heap.size + 1 + 1 + 1 + 1) 155 i0 (.agg #[.slice none 0 0, .slice none 0 0]) 2 48 Tryz.underlying156 hi hz0 hz1 hz2 ?_ ?_ (.slice (some ⟨g, 0, none⟩) r cap3) r (st2Cells R.reverse) ?_ ?_ ⟨w6.heap.size, 0, none⟩ 1 1 [.slice (some ⟨b, o + 3, none⟩) rm (ca - 1), .slice (some ⟨b', o' + 3, none⟩) rm (cb - 1)] ?_ ?_ ?_ ?_ ?_ ?_ ?_ ?_ (w6.heap.size + 1) ?_ ?_; (· rfl); (· rfl); (· rfl); (· decide); (· rfl); (· exact HOW.out.alloc _); (· rfl); (· rfl); (· exact World.news_of_block (World.alloc_heap_new w6 _)); (· exact two_slices _ _ _ _ _ _); (· decide); (· exact B3.out); (· exact B1.out); (· exact Nat.le_trans HN4.out (Nat.le_trans (Nat.le_of_lt hz6) (by simp))); (· simp); intro g1 cap1 w7 own1 gr1 ly1 _))
                  all_goals
                    have gr1' := undrew gr1
                    have hbe := below_push (HWR.out.mono HN4.out) gr1' HGN.out (Nat.le_trans HN4.out (Nat.le_of_lt hz6))
                    have F := HF.out [⟨rs, some ⟨b, o + 3, none⟩, ca - 1, ss, some ⟨b', o' + 3, none⟩, cb - 1⟩] (.slice (some ⟨g1, 0, none⟩) (r + 1) cap1) w7 hbe (List.forall_mem_cons.2 ⟨GT.out HRN.out, fun _ h => by cases h⟩) (by rw [HKS.out, HKS'.out]; simp [Tp.sames]) (by rw [HKS.out]; simp [msz, Tp.sizes])
                      (by rw [List.singleton_append, List.length_cons, List.reverse_cons, st2Cells_snoc, HR.out]; simp only [en2Cells, HRM.out, HSS.out]; exact own1)
                    have FF := Lib.hid F
                    have e8 : w7.cell? ⟨B8, 2, none⟩ = some (.slice xa 0 xcap) := cell_box L8.out (far_block gr1' (Array.getElem?_eq_some_iff.1 L8.out).1 (Nat.ne_of_gt (Nat.lt_of_lt_of_le HG2.out HL8.out))) rfl
                    clear F gr1 gr1' ly1 own1 hbe d70 d71 d8 d9 hta htb hpop hi hz0 hz1 hz2
                    go_wp2_with fail
                    go_roundg (msz ([⟨rs, some ⟨b, o + 3, none⟩, ca - 1, ss, some ⟨b', o' + 3, none⟩, cb - 1⟩] ++ R))
                    case measure => exact FF.out.1
                    case rel => exact FF.out.2
                · have hks : x.kids ≠ [] := List.length_pos_iff.1 (by rw [HXM.out]; exact hm)
                  have HKN := Lib.hid hks; clear hks
                  go_upto_region 10 with (go_at_call 125; refine (H32.out _).mono ?_; rintro e w6 ⟨rfl, hb6⟩; obtain ⟨l7, l8, l9, hwr, how⟩ := HW6.out w6 hb6; have hz6 : wr.heap.size < w6.heap.size := (Array.getElem?_eq_some_iff.1 l7).1; have d70 : w6.cell? ⟨wr.heap.size, 0, none⟩ = some (.slice (some ⟨b, o, none⟩) (rm + 1) ca) := cell_box l7 rfl rfl; have d71 : w6.cell? ⟨wr.heap.size, 1, none⟩ = some (.slice (some ⟨b', o', none⟩) (rm + 1) cb) := cell_box l7 rfl rfl; have d8 : w6.cell? ⟨B8, 2, none⟩ = some (.slice xa ym xcap) := cell_box l8 rfl rfl; have d9 : w6.cell? ⟨B9, 2, none⟩ = some (.slice ya ym ycap) := cell_box l9 rfl rfl; have L7 := Lib.hid l7; have L8 := Lib.hid l8; have L9 := Lib.hid l9; have HWR := Lib.hid hwr; have HOW := Lib.hid how; clear l7 l8 l9 hwr how hb6 c70 c8 c81 c82 c9 c91 c92)
                  go_region_law (first | (refine step_append_lies _ ?_ (.tmp 45) (.tmp 53) 156 ?_ (w.heap.size + 1 + 1 + 1 + 1) 155 i0 (.agg #[.slice none 0 0, .slice none 0 0]) 2 48 Tryz.underlying156 hi hz0 hz1 hz2 ?_ ?_ (.slice (some ⟨g, 0, none⟩) r cap3) r (st2Cells R.reverse) ?_ ?_ ⟨w6.heap.size, 0, none⟩ 1 1 [.slice (some ⟨b, o + 3, none⟩) rm (ca - 1), .slice (some ⟨b', o' + 3, none⟩) rm (cb - 1)] ?_ ?_ ?_ ?_ ?_ ?_ ?_ ?_ (w6.heap.size + 1) ?_ ?_; (· rfl); (· rfl); (· rfl); (· decide); (· rfl); (· exact HOW.out.alloc _); (· rfl); (· rfl); (· exact World.news_of_block (World.alloc_heap_new w6 _)); (· exact two_slices _ _ _ _ _ _); (· decide); (· exact B3.out); (· exact B1.out); (· exact Nat.le_trans HN4.out (Nat.le_trans (Nat.le_of_lt hz6) (by simp))); (· simp); intro g1 cap1 w7 own1 gr1 ly1 _))
                  all_goals
                    have gr1' := undrew gr1
                    have hbe := below_push (HWR.out.mono HN4.out) gr1' HGN.out (Nat.le_trans HN4.out (Nat.le_of_lt hz6))
                    have e8 : w7.cell? ⟨B8, 2, none⟩ = some (.slice xa ym xcap) := cell_box L8.out (far_block gr1' (Array.getElem?_eq_some_iff.1 L8.out).1 (Nat.ne_of_gt (Nat.lt_of_lt_of_le HG2.out HL8.out))) rfl
                    have e9 : w7.cell? ⟨B9, 2, none⟩ = some (.slice ya ym ycap) := cell_box L9.out (far_block gr1' (Array.getElem?_eq_some_iff.1 L9.out).1 (Nat.ne_of_gt (Nat.lt_of_lt_of_le HG2.out HL9.out))) rfl
                    have HBE := Lib.hid hbe; have HOW1 := Lib.hid own1
                    clear gr1 gr1' ly1 own1 hbe d70 d71 d8 d9 hta htb hpop
                    go_wp2_with (at_builtin; refine wpList_append_lies _ rfl (.tmp 59) (.tmp 65) 156 rfl (w.heap.size + 1 + 1 + 1 + 1) 155 i0 (.agg #[.slice none 0 0, .slice none 0 0]) 2 48 Tryz.underlying156 hi hz0 hz1 hz2 rfl (by decide) (.slice (some ⟨g1, 0, none⟩) (r + 1) cap1) (r + 1) (st2Cells R.reverse ++ [.slice (some ⟨b, o + 3, none⟩) rm (ca - 1), .slice (some ⟨b', o' + 3, none⟩) rm (cb - 1)]) rfl (HOW1.out.alloc _) ⟨w7.heap.size, 0, none⟩ 1 1 [.slice xa ym xcap, .slice ya ym ycap] rfl rfl (World.news_of_block (World.alloc_heap_new w7 _)) (two_slices _ _ _ _ _ _) (by decide) B4.out B2.out (Nat.le_trans HN4.out (Nat.le_trans HBE.out.size (by simp))) _ rfl ?_; intro g2 cap2 w8 own2 gr2 ly2 _)
                    have hbe2 := below_push HBE.out gr2 (fun k hk => (HOW1.out.lt k hk).1) (Nat.le_trans HN4.out HBE.out.size)
                    have F := HF.out [⟨x.kids, xa, xcap, y.kids, ya, ycap⟩, ⟨rs, some ⟨b, o + 3, none⟩, ca - 1, ss, some ⟨b', o' + 3, none⟩, cb - 1⟩] (.slice (some ⟨g2, 0, none⟩) (r + 1 + 1) cap2) w8 hbe2 (List.forall_mem_cons.2 ⟨GK.out HKN.out, List.forall_mem_cons.2 ⟨GT.out HRN.out, fun _ h => by cases h⟩⟩) (by simp [Bool.and_comm]) (by simp [msz]; omega)
                      (by simp only [List.cons_append, List.nil_append, List.length_cons, List.reverse_cons, st2Cells_snoc, HR.out, en2Cells, HRM.out, HSS.out, HXM.out, HYM.out]; exact own2)
                    go_roundg (msz ([⟨x.kids, xa, xcap, y.kids, ya, ycap⟩, ⟨rs, some ⟨b, o + 3, none⟩, ca - 1, ss, some ⟨b', o' + 3, none⟩, cb - 1⟩] ++ R))
                    case measure => exact F.1
                    case rel => exact F.2
end Go.Proofs.YtmmhpibkjdlkgaaGreat
