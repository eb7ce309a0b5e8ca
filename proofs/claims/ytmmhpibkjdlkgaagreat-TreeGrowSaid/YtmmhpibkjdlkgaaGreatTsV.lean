/- A walk through two trees at once by a stack of the iterator's own: the visits, plainly, and the stack between two rounds. Of whatever pairs of trees. tree.ofBoth's closures: where a kid of both is. tree.ofBoth, visits and nodes over two trees: what they hand back. tree.visits' closure over two patterns at once, walked. -/
import Derived.Test.YtmmhpibkjdlkgaaGreatTeR
import Derived.Test.YtmmhpibkjdlkgaaGreatTxA
import Derived.Test.YtmmhpibkjdlkgaaGreatTeG
import Derived.Laws.ResultCell
import Derived.Laws.Rows
namespace Go.Proofs.YtmmhpibkjdlkgaaGreat
open Go Go.RowKit Go.Shelf

/-- A visit of two nodes. -/
structure V2 (T : Type) where
  t : T
  p : Option Addr
  q : Option Addr
  i : Nat
  d : Nat
namespace V2
variable {T : Type}
def key (x : V2 T) : T × Nat × Nat := (x.t, x.i, x.d)
def cells (x : V2 T) : List Value := [.pointer x.p, .pointer x.q, .int .i64 (x.i : Int), .int .i64 (x.d : Int)]
def enc (x : V2 T) : Array Value := #[.agg #[.pointer x.p, .pointer x.q, .int .i64 (x.i : Int), .int .i64 (x.d : Int)]]
/-- The same node, one kid on. -/
def on (x : V2 T) : V2 T := { x with i := x.i + 1 }
end V2
variable {T : Type}
def v2Cells (S : List (V2 T)) : List Value := S.flatMap V2.cells
def v2Todo (S : Shape T) (R : List (V2 T)) : List (T × Nat × Nat) := R.flatMap fun e => S.vk e.t e.i e.d
theorem v2Cells_length : ∀ S : List (V2 T), (v2Cells S).length = S.length * 4
  | [] => rfl
  | e :: r => by
    have := v2Cells_length r
    simp only [v2Cells, List.flatMap_cons, List.length_append, List.length_cons, V2.cells, List.length_nil] at this ⊢
    omega
theorem v2Cells_snoc (S : List (V2 T)) (e : V2 T) : v2Cells (S ++ [e]) = v2Cells S ++ e.cells := by simp [v2Cells]
theorem v2Todo_len (S : Shape T) : ∀ R : List (V2 T), R.length ≤ (v2Todo S R).length
  | [] => Nat.le_refl _
  | e :: r => by
    have h1 := v2Todo_len S r
    obtain ⟨q, hq⟩ := vk_head S e.t e.i e.d
    simp only [v2Todo, List.flatMap_cons, List.length_append, hq, List.length_cons] at h1 ⊢
    omega
/-- Each entry's depth is its place. -/
def deps2 : List (V2 T) → Prop
  | [] => True
  | e :: r => e.d = r.length + 1 ∧ deps2 r
/-- What is known of a visit when it is handed over. -/
def v2Ok (S : Shape T) (t0 : T) (pre : List (V2 T)) (x : V2 T) : Prop :=
  (∃ rest, pre.map V2.key ++ x.key :: rest = S.vk t0 0 1) ∧ (0 < x.i → ∃ y ∈ pre, y.t = x.t ∧ y.p = x.p ∧ y.q = x.q ∧ y.d = x.d ∧ y.i + 1 = x.i) ∧ x.i ≤ (S.kids x.t).length ∧ 0 < x.d
def v2All (S : Shape T) (t0 : T) (xs : List (V2 T)) : Prop := xs.map V2.key = S.vk t0 0 1
/-- What the stack is between two rounds. -/
structure V2Stk (S : Shape T) (t0 : T) (e : TypeId) (base : Nat) (M : Nat → Prop) (R : List (V2 T)) (pre : List (V2 T)) (v : Value) (w : World) (ok : (Nat → Prop) → List (V2 T) → V2 T → World → Prop) : Prop where
  own : w.ownsRow base e 4 v R.length (v2Cells R.reverse)
  mine : ∀ g, v.ownBlock = some g → M g
  dep : deps2 R
  todo : pre.map V2.key ++ v2Todo S R = S.vk t0 0 1
  each : ∀ x ∈ R, x.i ≤ pre.length ∧ x.i ≤ (S.kids x.t).length ∧ (0 < x.i → ∃ y ∈ pre, y.t = x.t ∧ y.p = x.p ∧ y.q = x.q ∧ y.d = x.d ∧ y.i + 1 = x.i)
  low : ∀ x r, R = x :: r → ∀ y ∈ r, 0 < y.i
  top : ∀ x r, R = x :: r → x.i = 0 → ok M pre x w
/-- The top of the stack, and the stack without it. -/
theorem v2_top {w : World} {base : Nat} {e : TypeId} {v : Value} {R : List (V2 T)} {x : V2 T} (h : w.ownsRow base e 4 v (R.length + 1) (v2Cells (x :: R).reverse)) :
    ∃ g cap, v = .slice (some ⟨g, 0, none⟩) (R.length + 1) cap ∧ base ≤ g ∧ g < w.heap.size ∧ R.length + 1 ≤ cap ∧ cap ≤ maxLen ∧ w.cell? ⟨g, R.length * 4, none⟩ = some (.pointer x.p) ∧ w.cell? ⟨g, R.length * 4 + 1, none⟩ = some (.pointer x.q) ∧
      w.cell? ⟨g, R.length * 4 + 2, none⟩ = some (.int .i64 (x.i : Int)) ∧ w.cell? ⟨g, R.length * 4 + 3, none⟩ = some (.int .i64 (x.d : Int)) ∧ w.ownsRow base e 4 (.slice (some ⟨g, 0, none⟩) R.length cap) R.length (v2Cells R.reverse) := by
  rw [List.reverse_cons, v2Cells_snoc] at h
  obtain ⟨h1, h2 | ⟨g, cap, cur, h3, h4, h5, h6, h7, h8, h9⟩⟩ := id h
  · omega
  · subst h3
    have hlen := v2Cells_length R.reverse
    rw [List.length_reverse] at hlen
    have hc := h.cells (g := g) rfl
    refine ⟨g, cap, rfl, h4, (Array.getElem?_eq_some_iff.1 h5).1, h6, h7, ?_, ?_, ?_, ?_, own_take h (Nat.le_succ _) hlen⟩
    · have := hc (R.length * 4) (.pointer x.p) (by rw [← hlen, List.getElem?_append_right (Nat.le_refl _), Nat.sub_self]; rfl)
      rwa [add_flat, Nat.zero_add] at this
    · have := hc (R.length * 4 + 1) (.pointer x.q) (by rw [← hlen, List.getElem?_append_right (by omega), Nat.add_sub_cancel_left]; rfl)
      rwa [add_flat, Nat.zero_add] at this
    · have := hc (R.length * 4 + 2) (.int .i64 (x.i : Int)) (by rw [← hlen, List.getElem?_append_right (by omega), Nat.add_sub_cancel_left]; rfl)
      rwa [add_flat, Nat.zero_add] at this
    · have := hc (R.length * 4 + 3) (.int .i64 (x.d : Int)) (by rw [← hlen, List.getElem?_append_right (by omega), Nat.add_sub_cancel_left]; rfl)
      rwa [add_flat, Nat.zero_add] at this
/-- 'open[top].kids++'. -/
theorem v2_bump {w : World} {base : Nat} {e : TypeId} {g cap : Nat} {R : List (V2 T)} {x : V2 T} (h : w.ownsRow base e 4 (.slice (some ⟨g, 0, none⟩) (R.length + 1) cap) (R.length + 1) (v2Cells (x :: R).reverse)) :
    (w.setCell ⟨g, R.length * 4 + 2, none⟩ (.int .i64 ((x.i : Int) + 1))).ownsRow base e 4 (.slice (some ⟨g, 0, none⟩) (R.length + 1) cap) (R.length + 1) (v2Cells (x.on :: R).reverse) := by
  have hlen := v2Cells_length R.reverse
  rw [List.length_reverse] at hlen
  have := (h.stored (R.length * 4 + 2) (.int .i64 ((x.i : Int) + 1))).1
  rw [List.reverse_cons, v2Cells_snoc] at this
  rw [List.reverse_cons, v2Cells_snoc]
  have hse : ∀ (l m : List Value) (i : Nat) (u : Value), l.length ≤ i → (l ++ m).set i u = l ++ m.set (i - l.length) u := fun l m i u h => by simp [List.set_append, Nat.not_lt.2 h]
  rw [hse _ _ _ _ (by omega), hlen, Nat.add_sub_cancel_left] at this
  exact this
section
variable {S : Shape T} {t0 : T} {et : TypeId} {base : Nat} {M M5 : Nat → Prop} {R pre : List (V2 T)} {x : V2 T} {v v5 : Value} {w W5 : World} {ok : (Nat → Prop) → List (V2 T) → V2 T → World → Prop}
theorem V2Stk.len (h : V2Stk S t0 et base M R pre v w ok) : R.length + pre.length ≤ (S.vk t0 0 1).length := by
  have h1 := v2Todo_len S R
  have h2 := congrArg List.length h.todo
  rw [List.length_append, List.length_map] at h2
  omega
theorem V2Stk.at (h : V2Stk S t0 et base M (x :: R) pre v w ok) : v2Ok S t0 pre x := by
  obtain ⟨q, hq⟩ := vk_head S x.t x.i x.d
  obtain ⟨_, h2, h3⟩ := h.each x (by simp)
  refine ⟨⟨q ++ v2Todo S R, ?_⟩, h3, h2, ?_⟩
  · have := h.todo
    simp only [v2Todo, List.flatMap_cons, hq] at this
    rw [← this]; rfl
  · have := h.dep.1; omega
theorem V2Stk.pop (h : V2Stk S t0 et base M (x :: R) pre v w ok) (hx : ¬ x.i < (S.kids x.t).length) (hown : W5.ownsRow base et 4 v5 R.length (v2Cells R.reverse)) (hm : ∀ g, v5.ownBlock = some g → M5 g) :
    V2Stk S t0 et base M5 R (pre ++ [x]) v5 W5 ok ∧ (v2Todo S R).length < (v2Todo S (x :: R)).length := by
  have e1 : v2Todo S (x :: R) = x.key :: v2Todo S R := by simp only [v2Todo, List.flatMap_cons, S.last _ _ _ hx]; rfl
  refine ⟨⟨hown, hm, h.dep.2, ?_, fun y hy => ?_, ?_, ?_⟩, by rw [e1]; simp⟩
  · have := h.todo
    rw [e1] at this
    rw [← this]; simp
  · obtain ⟨a, b, c⟩ := h.each y (List.mem_cons_of_mem _ hy)
    refine ⟨by rw [List.length_append]; omega, b, fun hi => ?_⟩
    obtain ⟨z, hz, k⟩ := c hi
    exact ⟨z, List.mem_append_left _ hz, k⟩
  · rintro y r rfl z hz
    exact h.low x (y :: r) rfl z (List.mem_cons_of_mem _ hz)
  · rintro y r rfl hi
    have := h.low x (y :: r) rfl y (by simp)
    omega
theorem V2Stk.push {p q : Option Addr} (h : V2Stk S t0 et base M (x :: R) pre v w ok) (hx : x.i < (S.kids x.t).length) (hown : W5.ownsRow base et 4 v5 (R.length + 1 + 1) (v2Cells ((⟨(S.kids x.t)[x.i], p, q, 0, x.d + 1⟩ : V2 T) :: x.on :: R).reverse)) (hm : ∀ g, v5.ownBlock = some g → M5 g)
    (hok : ok M5 (pre ++ [x]) ⟨(S.kids x.t)[x.i], p, q, 0, x.d + 1⟩ W5) :
    V2Stk S t0 et base M5 (⟨(S.kids x.t)[x.i], p, q, 0, x.d + 1⟩ :: x.on :: R) (pre ++ [x]) v5 W5 ok ∧ (v2Todo S ((⟨(S.kids x.t)[x.i], p, q, 0, x.d + 1⟩ : V2 T) :: x.on :: R)).length < (v2Todo S (x :: R)).length := by
  have e1 : v2Todo S (x :: R) = x.key :: v2Todo S ((⟨(S.kids x.t)[x.i], p, q, 0, x.d + 1⟩ : V2 T) :: x.on :: R) := by simp only [v2Todo, List.flatMap_cons, S.more _ _ _ hx, V2.on, List.cons_append, List.append_assoc]; rfl
  refine ⟨⟨hown, hm, ⟨by have := h.dep.1; simp [this], h.dep.1, h.dep.2⟩, ?_, fun y hy => ?_, ?_, ?_⟩, by rw [e1]; simp⟩
  · have := h.todo
    rw [e1] at this
    rw [← this]; simp
  · have up : ∀ {y : V2 T}, y ∈ x :: R → y.i ≤ (pre ++ [x]).length ∧ y.i ≤ (S.kids y.t).length ∧ (0 < y.i → ∃ z ∈ pre ++ [x], z.t = y.t ∧ z.p = y.p ∧ z.q = y.q ∧ z.d = y.d ∧ z.i + 1 = y.i) := fun {y} hy => by
      obtain ⟨a, b, c⟩ := h.each y hy
      refine ⟨by rw [List.length_append]; omega, b, fun hi => ?_⟩
      obtain ⟨z, hz, k⟩ := c hi
      exact ⟨z, List.mem_append_left _ hz, k⟩
    rcases List.mem_cons.1 hy with rfl | hy
    · exact ⟨Nat.zero_le _, Nat.zero_le _, fun hi => absurd hi (Nat.lt_irrefl 0)⟩
    · rcases List.mem_cons.1 hy with rfl | hy
      · obtain ⟨a, _, _⟩ := h.each x (by simp)
        refine ⟨?_, hx, fun _ => ⟨x, by simp, rfl, rfl, rfl, rfl, rfl⟩⟩
        rw [List.length_append]; show x.i + 1 ≤ _; simp; exact a
      · exact up (List.mem_cons_of_mem _ hy)
  · intro y r hyr z hz
    injection hyr with _ e2
    subst e2
    rcases List.mem_cons.1 hz with rfl | hz
    · exact Nat.succ_pos _
    · exact h.low x R rfl z hz
  · intro y r hyr _
    injection hyr with e2 _
    subst e2
    exact hok
/-- At the start: the root alone. -/
theorem V2Stk.start {p0 q0 : Option Addr} (hown : W5.ownsRow base et 4 v5 1 (v2Cells [⟨t0, p0, q0, 0, 1⟩])) (hm : ∀ g, v5.ownBlock = some g → M g) (hok : ok M [] ⟨t0, p0, q0, 0, 1⟩ W5) :
    V2Stk S t0 et base M [⟨t0, p0, q0, 0, 1⟩] [] v5 W5 ok := by
  refine ⟨hown, hm, ⟨rfl, trivial⟩, by simp [v2Todo], fun y hy => ?_, ?_, ?_⟩
  · obtain rfl := List.mem_singleton.1 hy
    exact ⟨Nat.zero_le _, Nat.zero_le _, fun hi => absurd hi (Nat.lt_irrefl 0)⟩
  · intro y r hyr z hz
    injection hyr with _ e2
    subst e2; cases hz
  · intro y r hyr _
    injection hyr with e2 _
    subst e2; exact hok
theorem V2Stk.ends (h : V2Stk S t0 et base M [] pre v w ok) : v2All S t0 pre := by have := h.todo; simpa [v2Todo, v2All] using this
end
end Go.Proofs.YtmmhpibkjdlkgaaGreat
namespace Go.Proofs.YtmmhpibkjdlkgaaGreat
open Go Go.RowKit

/-- Where kid i lies, of a row that begins at a and whose elements have c cells. -/
def kidAt (c : Nat) (a : Option Addr) (i : Nat) : Option Addr := match a with | some ⟨b, o, none⟩ => some ⟨b, o + i * c, none⟩ | x => x
set_option maxRecDepth 100000 in
set_option maxHeartbeats 2000000 in
theorem ofBothE_any (b o n cap b' o' n' cap' Bo i : Nat) (a a' : Option Addr) (w : World) (hlt : b < w.heap.size ∧ b' < w.heap.size ∧ Bo < w.heap.size) (c0 : w.cell? ⟨Bo, 0, none⟩ = some (.func (.func 51) #[] #[]))
    (e15 : w.cell? ⟨b, o + 15, none⟩ = some (.slice a n cap)) (f15 : w.cell? ⟨b', o' + 15, none⟩ = some (.slice a' n' cap')) (ha : 0 < n → ∃ b o, a = some ⟨b, o, none⟩) (ha' : 0 < n' → ∃ b o, a' = some ⟨b, o, none⟩) :
    Calls Tryz.prog 124 #[.agg #[.pointer (some ⟨b, o, none⟩), .pointer (some ⟨b', o', none⟩)], .int .i64 (i : Int), .pointer (some ⟨Bo, 0, none⟩)] w fun e w' =>
      (∃ p q, e = .returned (.tuple #[.agg #[.pointer p, .pointer q], .bool (decide (i < n) && decide (i < n'))]) ∧ (i < n → p = kidAt 16 a i) ∧ (i < n' → q = kidAt 16 a' i)) ∧ Below w.heap.size w w' := by
  have hk1 : ∀ W, Below w.heap.size w W → Calls Tryz.prog 51 #[.pointer (some ⟨b, o, none⟩), .int .i64 (i : Int)] W fun e w' => (∃ p, e = .returned (.tuple #[.pointer p, .bool (decide (i < n))]) ∧ (i < n → p = kidAt 16 a i)) ∧ W = w' := fun W hb =>
    (exprKid_any b o n cap i a W ((hb.cell (p := ⟨b, o + 15, none⟩) hlt.1).trans e15) ha).mono (by
      rintro e w' ⟨(⟨h1, kb, ko, rfl, rfl⟩ | ⟨h1, rfl⟩), rfl⟩
      · exact ⟨⟨some ⟨kb, ko + i * 16, none⟩, by rw [decide_eq_true h1], fun _ => rfl⟩, rfl⟩
      · exact ⟨⟨none, by rw [decide_eq_false h1], fun h => absurd h h1⟩, rfl⟩)
  have hk2 : ∀ W, Below w.heap.size w W → Calls Tryz.prog 51 #[.pointer (some ⟨b', o', none⟩), .int .i64 (i : Int)] W fun e w' => (∃ p, e = .returned (.tuple #[.pointer p, .bool (decide (i < n'))]) ∧ (i < n' → p = kidAt 16 a' i)) ∧ W = w' := fun W hb =>
    (exprKid_any b' o' n' cap' i a' W ((hb.cell (p := ⟨b', o' + 15, none⟩) hlt.2.1).trans f15) ha').mono (by
      rintro e w' ⟨(⟨h1, kb, ko, rfl, rfl⟩ | ⟨h1, rfl⟩), rfl⟩
      · exact ⟨⟨some ⟨kb, ko + i * 16, none⟩, by rw [decide_eq_true h1], fun _ => rfl⟩, rfl⟩
      · exact ⟨⟨none, by rw [decide_eq_false h1], fun h => absurd h h1⟩, rfl⟩)
  obtain ⟨b1, hb1⟩ : ∃ b, decide (i < n) = b := ⟨_, rfl⟩
  obtain ⟨b2, hb2⟩ : ∃ b, decide (i < n') = b := ⟨_, rfl⟩
  rw [hb1] at hk1 ⊢
  rw [hb2] at hk2 ⊢
  obtain ⟨W2, hW2⟩ : ∃ W2, (w.alloc (.cells #[.pointer (some ⟨b, o, none⟩), .pointer (some ⟨b', o', none⟩)] 124)).alloc (.cells #[.pointer none, .pointer none] 124) = W2 := ⟨_, rfl⟩
  have hbw : Below w.heap.size w W2 := by rw [← hW2]; exact ((Below.refl _ _).alloc (Nat.le_refl _) _).alloc (by simp) _
  have HK1 := Lib.hid hk1; have HK2 := Lib.hid hk2; have HBW := Lib.hid hbw; have HW2 := Lib.hid hW2
  have d0 : W2.cell? ⟨Bo, 0, none⟩ = some (.func (.func 51) #[] #[]) := (hbw.cell (p := ⟨Bo, 0, none⟩) hlt.2.2).trans c0
  have hx0 : W2.heap[w.heap.size]? = some (.cells #[.pointer (some ⟨b, o, none⟩), .pointer (some ⟨b', o', none⟩)] 124) := by rw [← hW2]; exact (Below.heap_alloc _ _ _ (by simp)).trans (World.alloc_heap_new w _)
  have hx1 : W2.heap[w.heap.size + 1]? = some (.cells #[.pointer none, .pointer none] 124) := by rw [← hW2]; exact box2 _ _ _ _ _
  have g0 : W2.cell? ⟨w.heap.size, 0, none⟩ = some (.pointer (some ⟨b, o, none⟩)) := cell_box hx0 rfl rfl
  have g1 : W2.cell? ⟨w.heap.size, 1, none⟩ = some (.pointer (some ⟨b', o', none⟩)) := cell_box hx0 rfl rfl
  have g2 : W2.cell? ⟨w.heap.size + 1, 0, none⟩ = some (.pointer none) := cell_box hx1 rfl rfl
  have g3 : W2.cell? ⟨w.heap.size + 1, 1, none⟩ = some (.pointer none) := cell_box hx1 rfl rfl
  have g4 : ∀ j, W2.frozen? ⟨w.heap.size + 1, j, none⟩ = false := fun j => by simp [World.frozen?, hx1]
  have HX1 := Lib.hid hx1
  clear hk1 hk2 hbw hW2 hx0 hx1 c0 e15 f15 ha ha' hb1 hb2 hlt
  go_enter Tryz.func124, Tryz.ntmps124
  go_upto_region 1 with fail
  rw [HW2.out]
  go_wp2_with fail
  refine (HK1.out W2 HBW.out).mono ?_
  rintro e w' ⟨⟨p, rfl, hp⟩, rfl⟩
  have HP := Lib.hid hp
  clear hp
  go_wp2_with fail
  refine (HK2.out W2 HBW.out).mono ?_
  rintro e w' ⟨⟨q, rfl, hq⟩, rfl⟩
  have HQ := Lib.hid hq
  have hres := heap_setCell_same _ _ 1 _ _ (.pointer q) (heap_setCell_same W2 _ 0 _ _ (.pointer p) HX1.out)
  have hres2 : ((W2.setCell ⟨w.heap.size + 1, 0, none⟩ (.pointer p)).setCell ⟨w.heap.size + 1, 1, none⟩ (.pointer q)).heap[w.heap.size + 1]? = some (.cells #[.pointer p, .pointer q] 124) := hres
  have hlow : Below w.heap.size w ((W2.setCell ⟨w.heap.size + 1, 0, none⟩ (.pointer p)).setCell ⟨w.heap.size + 1, 1, none⟩ (.pointer q)) :=
    (HBW.out.setCell (p := ⟨w.heap.size + 1, 0, none⟩) (Nat.le_succ _) _).setCell (p := ⟨w.heap.size + 1, 1, none⟩) (Nat.le_succ _) _
  have HRES := Lib.hid hres2; have HLOW := Lib.hid hlow
  clear hq hres hres2 hlow
  go_wp2_with fail
  all_goals
    rename_i hb
    obtain ⟨W3, hW3⟩ : ∃ W3, (W2.setCell ⟨w.heap.size + 1, 0, none⟩ (.pointer p)).setCell ⟨w.heap.size + 1, 1, none⟩ (.pointer q) = W3 := ⟨_, rfl⟩
    have hr := HRES.out
    have hl := HLOW.out
    rw [hW3] at hr hl ⊢
    cases b1 <;> first | (exact absurd rfl hb) | (cases hb; done) | skip
  · refine bodyPost_ret_by (v := .tuple #[.agg #[.pointer p, .pointer q], .bool b2]) ?_ rfl ?_
    · rw [results_cell_tmp (p := 5) (u := 6) (ty := 124) (by kernel_rfl)]
      simp [asAddr, Result.andThen, run_loadVar_row W3 _ 124 124 _ _ _ hr Tryz.underlying124 rfl (by kernel_rfl)]
    · exact ⟨⟨p, q, by simp, HP.out, HQ.out⟩, hl⟩
  · refine bodyPost_ret_by (v := .tuple #[.agg #[.pointer p, .pointer q], .bool false]) ?_ rfl ?_
    · rw [results_cell_tmp (p := 5) (u := 6) (ty := 124) (by kernel_rfl)]
      simp [asAddr, Result.andThen, run_loadVar_row W3 _ 124 124 _ _ _ hr Tryz.underlying124 rfl (by kernel_rfl)]
    · exact ⟨⟨p, q, by simp, HP.out, HQ.out⟩, hl⟩
theorem pc_below {n b o cap : Nat} {t : Tr.P} {a : Option Addr} {w W : World} (hb : Below n w W) (hl : b < n) (h : PCells w b o t a cap) : PCells W b o t a cap := by
  obtain ⟨e0, e1, e2, e3, e4, e5, e6⟩ := h
  exact ⟨(hb.cell (p := ⟨b, o, none⟩) hl).trans e0, (hb.cell (p := ⟨b, o + 1, none⟩) hl).trans e1, (hb.cell (p := ⟨b, o + 2, none⟩) hl).trans e2, (hb.cell (p := ⟨b, o + 3, none⟩) hl).trans e3, (hb.cell (p := ⟨b, o + 4, none⟩) hl).trans e4, (hb.cell (p := ⟨b, o + 5, none⟩) hl).trans e5, (hb.cell (p := ⟨b, o + 6, none⟩) hl).trans e6⟩
set_option maxRecDepth 100000 in
set_option maxHeartbeats 2000000 in
theorem ofBothP_any (b o cap b' o' cap' Bo i : Nat) (t t' : Tr.P) (a a' : Option Addr) (w : World) (hlt : b < w.heap.size ∧ b' < w.heap.size ∧ Bo < w.heap.size) (c0 : w.cell? ⟨Bo, 0, none⟩ = some (.func (.func 80) #[] #[]))
    (e15 : PCells w b o t a cap) (f15 : PCells w b' o' t' a' cap') (ha : 0 < t.kids.length → ∃ b o, a = some ⟨b, o, none⟩) (ha' : 0 < t'.kids.length → ∃ b o, a' = some ⟨b, o, none⟩) :
    Calls Tryz.prog 153 #[.agg #[.pointer (some ⟨b, o, none⟩), .pointer (some ⟨b', o', none⟩)], .int .i64 (i : Int), .pointer (some ⟨Bo, 0, none⟩)] w fun e w' =>
      (∃ p q, e = .returned (.tuple #[.agg #[.pointer p, .pointer q], .bool (decide (i < t.kids.length) && decide (i < t'.kids.length))]) ∧ (i < t.kids.length → p = kidAt 7 a i) ∧ (i < t'.kids.length → q = kidAt 7 a' i)) ∧ Below w.heap.size w w' := by
  have hk1 : ∀ W, Below w.heap.size w W → Calls Tryz.prog 80 #[.pointer (some ⟨b, o, none⟩), .int .i64 (i : Int)] W fun e w' => (∃ p, e = .returned (.tuple #[.pointer p, .bool (decide (i < t.kids.length))]) ∧ (i < t.kids.length → p = kidAt 7 a i)) ∧ W = w' := fun W hb =>
    (patKid_any b o t a cap i W (pc_below hb hlt.1 e15) ha).mono (by
      rintro e w' ⟨(⟨h1, kb, ko, rfl, rfl⟩ | ⟨h1, rfl⟩), rfl⟩
      · exact ⟨⟨some ⟨kb, ko + i * 7, none⟩, by rw [decide_eq_true h1], fun _ => rfl⟩, rfl⟩
      · exact ⟨⟨none, by rw [decide_eq_false h1], fun h => absurd h h1⟩, rfl⟩)
  have hk2 : ∀ W, Below w.heap.size w W → Calls Tryz.prog 80 #[.pointer (some ⟨b', o', none⟩), .int .i64 (i : Int)] W fun e w' => (∃ p, e = .returned (.tuple #[.pointer p, .bool (decide (i < t'.kids.length))]) ∧ (i < t'.kids.length → p = kidAt 7 a' i)) ∧ W = w' := fun W hb =>
    (patKid_any b' o' t' a' cap' i W (pc_below hb hlt.2.1 f15) ha').mono (by
      rintro e w' ⟨(⟨h1, kb, ko, rfl, rfl⟩ | ⟨h1, rfl⟩), rfl⟩
      · exact ⟨⟨some ⟨kb, ko + i * 7, none⟩, by rw [decide_eq_true h1], fun _ => rfl⟩, rfl⟩
      · exact ⟨⟨none, by rw [decide_eq_false h1], fun h => absurd h h1⟩, rfl⟩)
  obtain ⟨b1, hb1⟩ : ∃ b, decide (i < t.kids.length) = b := ⟨_, rfl⟩
  obtain ⟨b2, hb2⟩ : ∃ b, decide (i < t'.kids.length) = b := ⟨_, rfl⟩
  rw [hb1] at hk1 ⊢
  rw [hb2] at hk2 ⊢
  obtain ⟨W2, hW2⟩ : ∃ W2, (w.alloc (.cells #[.pointer (some ⟨b, o, none⟩), .pointer (some ⟨b', o', none⟩)] 175)).alloc (.cells #[.pointer none, .pointer none] 175) = W2 := ⟨_, rfl⟩
  have hbw : Below w.heap.size w W2 := by rw [← hW2]; exact ((Below.refl _ _).alloc (Nat.le_refl _) _).alloc (by simp) _
  have HK1 := Lib.hid hk1; have HK2 := Lib.hid hk2; have HBW := Lib.hid hbw; have HW2 := Lib.hid hW2
  have d0 : W2.cell? ⟨Bo, 0, none⟩ = some (.func (.func 80) #[] #[]) := (hbw.cell (p := ⟨Bo, 0, none⟩) hlt.2.2).trans c0
  have hx0 : W2.heap[w.heap.size]? = some (.cells #[.pointer (some ⟨b, o, none⟩), .pointer (some ⟨b', o', none⟩)] 175) := by rw [← hW2]; exact (Below.heap_alloc _ _ _ (by simp)).trans (World.alloc_heap_new w _)
  have hx1 : W2.heap[w.heap.size + 1]? = some (.cells #[.pointer none, .pointer none] 175) := by rw [← hW2]; exact box2 _ _ _ _ _
  have g0 : W2.cell? ⟨w.heap.size, 0, none⟩ = some (.pointer (some ⟨b, o, none⟩)) := cell_box hx0 rfl rfl
  have g1 : W2.cell? ⟨w.heap.size, 1, none⟩ = some (.pointer (some ⟨b', o', none⟩)) := cell_box hx0 rfl rfl
  have g2 : W2.cell? ⟨w.heap.size + 1, 0, none⟩ = some (.pointer none) := cell_box hx1 rfl rfl
  have g3 : W2.cell? ⟨w.heap.size + 1, 1, none⟩ = some (.pointer none) := cell_box hx1 rfl rfl
  have g4 : ∀ j, W2.frozen? ⟨w.heap.size + 1, j, none⟩ = false := fun j => by simp [World.frozen?, hx1]
  have HX1 := Lib.hid hx1
  clear hk1 hk2 hbw hW2 hx0 hx1 c0 e15 f15 ha ha' hb1 hb2 hlt
  go_enter Tryz.func153, Tryz.ntmps153
  go_upto_region 1 with fail
  rw [HW2.out]
  go_wp2_with fail
  refine (HK1.out W2 HBW.out).mono ?_
  rintro e w' ⟨⟨p, rfl, hp⟩, rfl⟩
  have HP := Lib.hid hp
  clear hp
  go_wp2_with fail
  refine (HK2.out W2 HBW.out).mono ?_
  rintro e w' ⟨⟨q, rfl, hq⟩, rfl⟩
  have HQ := Lib.hid hq
  have hres := heap_setCell_same _ _ 1 _ _ (.pointer q) (heap_setCell_same W2 _ 0 _ _ (.pointer p) HX1.out)
  have hres2 : ((W2.setCell ⟨w.heap.size + 1, 0, none⟩ (.pointer p)).setCell ⟨w.heap.size + 1, 1, none⟩ (.pointer q)).heap[w.heap.size + 1]? = some (.cells #[.pointer p, .pointer q] 175) := hres
  have hlow : Below w.heap.size w ((W2.setCell ⟨w.heap.size + 1, 0, none⟩ (.pointer p)).setCell ⟨w.heap.size + 1, 1, none⟩ (.pointer q)) :=
    (HBW.out.setCell (p := ⟨w.heap.size + 1, 0, none⟩) (Nat.le_succ _) _).setCell (p := ⟨w.heap.size + 1, 1, none⟩) (Nat.le_succ _) _
  have HRES := Lib.hid hres2; have HLOW := Lib.hid hlow
  clear hq hres hres2 hlow
  go_wp2_with fail
  all_goals
    rename_i hb
    obtain ⟨W3, hW3⟩ : ∃ W3, (W2.setCell ⟨w.heap.size + 1, 0, none⟩ (.pointer p)).setCell ⟨w.heap.size + 1, 1, none⟩ (.pointer q) = W3 := ⟨_, rfl⟩
    have hr := HRES.out
    have hl := HLOW.out
    rw [hW3] at hr hl ⊢
    cases b1 <;> first | (exact absurd rfl hb) | (cases hb; done) | skip
  · refine bodyPost_ret_by (v := .tuple #[.agg #[.pointer p, .pointer q], .bool b2]) ?_ rfl ?_
    · rw [results_cell_tmp (p := 5) (u := 6) (ty := 175) (by kernel_rfl)]
      simp [asAddr, Result.andThen, run_loadVar_row W3 _ 175 175 _ _ _ hr Tryz.underlying175 rfl (by kernel_rfl)]
    · exact ⟨⟨p, q, by simp, HP.out, HQ.out⟩, hl⟩
  · refine bodyPost_ret_by (v := .tuple #[.agg #[.pointer p, .pointer q], .bool false]) ?_ rfl ?_
    · rw [results_cell_tmp (p := 5) (u := 6) (ty := 175) (by kernel_rfl)]
      simp [asAddr, Result.andThen, run_loadVar_row W3 _ 175 175 _ _ _ hr Tryz.underlying175 rfl (by kernel_rfl)]
    · exact ⟨⟨p, q, by simp, HP.out, HQ.out⟩, hl⟩
end Go.Proofs.YtmmhpibkjdlkgaaGreat
namespace Go.Proofs.YtmmhpibkjdlkgaaGreat
open Go Go.RowKit Go.Shelf

attribute [local go_sem] Oper.semAt_some

theorem ofBothP_new (k : Value) (hk : ∃ f, k = .func f #[] #[]) (w : World) :
    Calls Tryz.prog 139 #[k] w fun e w' => e = .returned (.func (.func 153) #[] #[.pointer (some ⟨w.heap.size, 0, none⟩)]) ∧ w' = w.alloc (.cells #[k] 135) := by
  obtain ⟨f, rfl⟩ := hk
  go_enter Tryz.func139, Tryz.ntmps139
  go_wp2
  go_ret
  exact ⟨rfl, rfl⟩
theorem visits2P_any (p q : Option Addr) (k : Value) (hk : ∃ f c, k = .func f #[] c) (w : World) :
    Calls Tryz.prog 152 #[.agg #[.pointer p, .pointer q], k] w fun e w' => e = .returned (.func (.func 160) #[] #[.pointer (some ⟨w.heap.size, 0, none⟩), .pointer (some ⟨w.heap.size + 1, 0, none⟩)]) ∧ w' = (w.alloc (.cells #[.pointer p, .pointer q] 175)).alloc (.cells #[k] 177) := by
  obtain ⟨f, c, rfl⟩ := hk
  go_enter Tryz.func152, Tryz.ntmps152
  go_wp2
  go_ret
  exact ⟨rfl, rfl⟩
theorem nodes2P_any (p q : Option Addr) (k : Value) (hk : ∃ f c, k = .func f #[] c) (w : World) :
    Calls Tryz.prog 138 #[.agg #[.pointer p, .pointer q], k] w fun e w' => e = .returned (.func (.func 151) #[] #[.pointer (some ⟨w.heap.size, 0, none⟩), .pointer (some ⟨w.heap.size + 1, 0, none⟩)]) ∧ w' = (w.alloc (.cells #[.pointer p, .pointer q] 175)).alloc (.cells #[k] 177) := by
  obtain ⟨f, c, rfl⟩ := hk
  go_enter Tryz.func138, Tryz.ntmps138
  go_wp2
  go_ret
  exact ⟨rfl, rfl⟩
theorem ofBothE_new (k : Value) (hk : ∃ f, k = .func f #[] #[]) (w : World) :
    Calls Tryz.prog 96 #[k] w fun e w' => e = .returned (.func (.func 124) #[] #[.pointer (some ⟨w.heap.size, 0, none⟩)]) ∧ w' = w.alloc (.cells #[k] 114) := by
  obtain ⟨f, rfl⟩ := hk
  go_enter Tryz.func96, Tryz.ntmps96
  go_wp2
  go_ret
  exact ⟨rfl, rfl⟩
theorem visits2E_any (p q : Option Addr) (k : Value) (hk : ∃ f c, k = .func f #[] c) (w : World) :
    Calls Tryz.prog 123 #[.agg #[.pointer p, .pointer q], k] w fun e w' => e = .returned (.func (.func 137) #[] #[.pointer (some ⟨w.heap.size, 0, none⟩), .pointer (some ⟨w.heap.size + 1, 0, none⟩)]) ∧ w' = (w.alloc (.cells #[.pointer p, .pointer q] 124)).alloc (.cells #[k] 126) := by
  obtain ⟨f, c, rfl⟩ := hk
  go_enter Tryz.func123, Tryz.ntmps123
  go_wp2
  go_ret
  exact ⟨rfl, rfl⟩
theorem nodes2E_any (p q : Option Addr) (k : Value) (hk : ∃ f c, k = .func f #[] c) (w : World) :
    Calls Tryz.prog 95 #[.agg #[.pointer p, .pointer q], k] w fun e w' => e = .returned (.func (.func 122) #[] #[.pointer (some ⟨w.heap.size, 0, none⟩), .pointer (some ⟨w.heap.size + 1, 0, none⟩)]) ∧ w' = (w.alloc (.cells #[.pointer p, .pointer q] 124)).alloc (.cells #[k] 126) := by
  obtain ⟨f, c, rfl⟩ := hk
  go_enter Tryz.func95, Tryz.ntmps95
  go_wp2
  go_ret
  exact ⟨rfl, rfl⟩
end Go.Proofs.YtmmhpibkjdlkgaaGreat
namespace Go.Proofs.YtmmhpibkjdlkgaaGreat
open Go Go.RowKit Go.Shelf

attribute [local go_sem] Oper.semAt_some

/-- Where a walk over two trees goes on from a visit; the call may make memory. -/
def Next2 {T : Type} (kf Bo : Nat) (S : Shape T) (W1 : World) (y : V2 T) (K : V2 T → Prop) : Prop :=
  y.i ≤ (S.kids y.t).length → Calls Tryz.prog kf #[.agg #[.pointer y.p, .pointer y.q], .int .i64 (y.i : Int), .pointer (some ⟨Bo, 0, none⟩)] W1 fun e W' => Turns (fun _ => False) W1 W' ∧
    ((∃ h : y.i < (S.kids y.t).length, ∃ p' q', e = .returned (.tuple #[.agg #[.pointer p', .pointer q'], .bool true]) ∧ K ⟨(S.kids y.t)[y.i], p', q', 0, y.d + 1⟩) ∨ (¬ y.i < (S.kids y.t).length ∧ ∃ p q, e = .returned (.tuple #[.agg #[.pointer p, .pointer q], .bool false])))
theorem info_v2P : (Tryz.prog.info? 197).map (fun i => (i.zero, i.size, i.bytes)) = some (some (.agg #[.pointer none, .pointer none, .int .i64 0, .int .i64 0]), 4, 32) := by kernel_rfl
theorem elem_v2P : Tryz.prog.underlying 205 = some (.slice (Tryz.prog.elem 205)) := by kernel_rfl
theorem size_v2P (w : World) : (sizeOf (Tryz.prog.elem 205)).run Tryz.prog w = .ok 4 w := by kernel_rfl
theorem v2P_pop (g n cap k : Nat) (hk : k ≤ n) (hn : n ≤ cap) (w' : World) :
    (Instr.slice 205 (.slice (some ⟨g, 0, none⟩) n cap) none (some (.int .i64 (k : Int))) none).run Tryz.prog w' = .ok (.slice (some ⟨g, 0, none⟩) k cap) w' := by
  rw [run_slice_h w' _ _ n cap elem_v2P .i64 (k : Int) (by omega) (by omega), size_v2P]
  simp [Result.andThen, sliced, add_flat]
theorem v2P_start {T : Type} {S : Shape T} {t0 : T} {p0 q0 : Option Addr} {W : World} {ok : (Nat → Prop) → List (V2 T) → V2 T → World → Prop}
    (hok : ok (fun k => k = W.heap.size) [] ⟨t0, p0, q0, 0, 1⟩ (W.alloc (.cells #[.pointer p0, .pointer q0, .int .i64 0, .int .i64 1] 197))) :
    V2Stk S t0 197 W.heap.size (fun k => k = W.heap.size) [⟨t0, p0, q0, 0, 1⟩] [] (.slice (some ⟨W.heap.size, 0, none⟩) 1 1) (W.alloc (.cells #[.pointer p0, .pointer q0, .int .i64 0, .int .i64 1] 197)) ok :=
  V2Stk.start ⟨rfl, .inr ⟨W.heap.size, 1, _, rfl, Nat.le_refl _, World.alloc_heap_new W _, Nat.le_refl _, by unfold maxLen; omega, rfl, rfl⟩⟩ (fun g hg => by injection hg with hg; exact hg.symm) hok

theorem v2_cells (p q : Option Addr) (i d : Int) : ∀ u ∈ [Value.pointer p, .pointer q, .int .i64 i, .int .i64 d], u.oneCell' = true := by
  intro u hu
  simp only [List.mem_cons, List.not_mem_nil, or_false] at hu
  rcases hu with rfl | rfl | rfl | rfl <;> rfl
theorem v2_b1 {r : Nat} (h : r + 1 ≤ 1000000) : r + 1 + 1 ≤ maxLen := by unfold maxLen; omega
theorem v2_b2 {r : Nat} (h : r + 1 ≤ 1000000) : (r + 1 + 1) * 32 ≤ 140737488355328 := by omega

set_option maxRecDepth 100000 in
set_option maxHeartbeats 4000000 in
theorem visits2P_walk {T : Type} (S : Shape T) (t0 : T) (hsz : (S.vk t0 0 1).length ≤ 1000000) (Fr : Nat → Prop) (Bt Bk Bo l : Nat) (p0 q0 : Option Addr) (J Jx : (Nat → Prop) → List (V2 T) → World → Prop) (ok : (Nat → Prop) → List (V2 T) → V2 T → World → Prop) (W : World)
    (hJ : ∀ s, Ab W.heap.size fun M W' => J M s W') (hJx : ∀ s, Ab W.heap.size fun M W' => Jx M s W') (hO : ∀ s x, Ab W.heap.size fun M W' => ok M s x W') (hx0 : ok (fun _ => False) [] ⟨t0, p0, q0, 0, 1⟩ W)
    (hnx : ∀ M pre y W1, J M pre W1 → (∀ k, M k → W.heap.size ≤ k ∧ k < W1.heap.size) → W.heap.size ≤ W1.heap.size → y ∈ pre → Next2 153 Bo S W1 y fun x => ok M pre x W1)
    (hY : ∀ M pre x W1, J M pre W1 → (∀ k, M k → W.heap.size ≤ k ∧ k < W1.heap.size) → W.heap.size ≤ W1.heap.size → v2Ok S t0 pre x → (x.i = 0 → ok M pre x W1) → YieldAt Fence.wide 8 Tryz.prog l x.enc W1 fun e W' =>
      (e = .returned (.bool true) ∧ J M (pre ++ [x]) W' ∧ Turns (fun k => Fr k ∧ ¬ M k) W1 W') ∨ (e = .returned (.bool false) ∧ Jx M (pre ++ [x]) W' ∧ Turns (fun k => Fr k ∧ ¬ M k) W1 W'))
    (h0 : J (fun _ => False) [] W) (c0 : W.cell? ⟨Bt, 0, none⟩ = some (.pointer p0)) (c0' : W.cell? ⟨Bt, 1, none⟩ = some (.pointer q0)) (c1 : W.cell? ⟨Bk, 0, none⟩ = some (.func (.func 153) #[] #[.pointer (some ⟨Bo, 0, none⟩)])) (hBk : ¬ Fr Bk) :
    CallsIn Fence.wide 9 Tryz.prog 160 #[.func (.yield l) #[] #[], .pointer (some ⟨Bt, 0, none⟩), .pointer (some ⟨Bk, 0, none⟩)] W fun e W' => (∃ v, e = .returned v) ∧
      ((∃ M xs, v2All S t0 xs ∧ J M xs W' ∧ ∀ k, M k → W.heap.size ≤ k ∧ k < W'.heap.size) ∨ (∃ M pre, Jx M pre W' ∧ ∀ k, M k → W.heap.size ≤ k ∧ k < W'.heap.size)) := by
  have HY := Lib.hid hY; have HJ := Lib.hid hJ; have HX := Lib.hid hJx; have HO := Lib.hid hO; have HNX := Lib.hid hnx; clear hY hJ hJx hO hnx
  have hBW : Bk < W.heap.size := cell_lt c1
  refine callsIn_of_wp Tryz.func160 rfl trivial ?_ rfl
  simp only [Tryz.ntmps160, List.size_toArray, List.length_cons, List.length_nil, Nat.reduceAdd, Nat.reduceSub, Array.replicate_succ, Array.replicate_zero, List.push_toArray, List.append_toArray, List.nil_append, List.cons_append]
  gi_wp2
  gi_loopg [4] (S.vk t0 0 1).length (fun gk v wr => ∃ M R pre, V2Stk S t0 197 W.heap.size M R pre v wr ok ∧ J M pre wr ∧ (∀ k, M k → W.heap.size ≤ k ∧ k < wr.heap.size) ∧ W.heap.size ≤ wr.heap.size ∧ wr.cell? ⟨Bk, 0, none⟩ = some (.func (.func 153) #[] #[.pointer (some ⟨Bo, 0, none⟩)]) ∧ gk = (v2Todo S R).length)
  case atStart =>
    refine ⟨_, _, _, v2P_start (HO.out [] _ (fun _ => False) _ W _ hx0 (fun _ h => h.elim) (Turns.alloc _ _ _) (fun k hk => ⟨.inr (by omega), by simp; omega⟩)), HJ.out [] (fun _ => False) _ W _ h0 (fun _ h => h.elim) (Turns.alloc _ _ _) (fun k hk => ⟨.inr (by omega), by simp; omega⟩), fun k hk => ⟨by omega, by simp; omega⟩, by simp, ?_, by simp [v2Todo]⟩
    exact (World.cell?_of_block (a := ⟨Bk, 0, none⟩) (Below.heap_alloc _ _ _ hBW)).trans c1
  case round =>
    obtain ⟨M, R, pre, hS, hj, hM, hbs, ck, rfl⟩ := hrel
    have HS' := Lib.hid hS; have HJ' := Lib.hid hj; have HM' := Lib.hid hM; have HB := Lib.hid hbs
    clear hS hj hM hbs
    cases R with
    | nil =>
      obtain ⟨av, cv, rfl⟩ := own_shapeT HS'.out.own
      gi_wp2
      go_end0
      exact ⟨⟨_, rfl⟩, .inl ⟨M, pre, HS'.out.ends, HJ'.out, HM'.out⟩⟩
    | cons x R =>
      obtain ⟨g, cap, rfl, hg1, hg2, hcp, hcm, r0, rq, r1, r2, hown⟩ := v2_top (v := u4) HS'.out.own
      obtain ⟨r, hr⟩ : ∃ y, R.length = y := ⟨_, rfl⟩
      rw [hr] at r0 rq r1 r2 hcp hown ⊢
      obtain ⟨hxi, hxk, _⟩ := HS'.out.each x (by simp)
      have hlen := HS'.out.len
      rw [List.length_cons, hr] at hlen
      have hri : r + 1 ≤ 1000000 ∧ x.i ≤ 1000000 := by omega
      have hxd : (x.d : Int) = (r : Int) + 1 := by have := HS'.out.dep.1; rw [this, hr]; rfl
      obtain ⟨xi, hxi'⟩ : ∃ y, x.i = y := ⟨_, rfl⟩
      obtain ⟨xp, hxp'⟩ : ∃ y, x.p = y := ⟨_, rfl⟩
      obtain ⟨xq, hxq'⟩ : ∃ y, x.q = y := ⟨_, rfl⟩
      rw [hxi'] at r1 hri; rw [hxp'] at r0; rw [hxq'] at rq; rw [hxd] at r2
      have hbB : Bk < wr.heap.size := cell_lt ck
      have HMU := Lib.hid (show ∀ k, (M k ∨ k = wr.heap.size) → W.heap.size ≤ k ∧ k < wr.heap.size + 1 from fun k hk => by
        rcases hk with h | h
        · have := HM'.out k h; omega
        · have := HB.out; omega)
      obtain ⟨W1, hW1⟩ : ∃ W1, wr.alloc (.cells #[.pointer xp, .pointer xq, .int .i64 (xi : Int), .int .i64 ((r : Int) + 1)] 197) = W1 := ⟨_, rfl⟩
      have hT1 : Turns (fun _ => False) wr W1 := by rw [← hW1]; exact Turns.alloc _ _ _
      have hs1 : W1.heap.size = wr.heap.size + 1 := by rw [← hW1]; simp
      obtain ⟨fn, tmps, assign, body, hy, hRd⟩ := HY.out (fun k => M k ∨ k = wr.heap.size) pre x W1
        (HJ.out pre M _ wr _ HJ'.out HM'.out (hT1.mono fun _ _ h => h.elim) (fun k hk => ⟨hk.elim .inl (fun h => .inr (by omega)), by rw [hs1]; exact (HMU.out k hk).2⟩)) (fun k hk => ⟨(HMU.out k hk).1, by rw [hs1]; exact (HMU.out k hk).2⟩) (by have := HB.out; omega) HS'.out.at
        (fun hi => HO.out pre x M _ wr _ (HS'.out.top x R rfl hi) HM'.out (hT1.mono fun _ _ h => h.elim) (fun k hk => ⟨hk.elim .inl (fun h => .inr (by omega)), by rw [hs1]; exact (HMU.out k hk).2⟩))
      simp only [V2.enc, hxi', hxp', hxq', hxd] at hy
      have HRI := Lib.hid hri; have HXI := Lib.hid hxi'; have HXP := Lib.hid hxp'; have HXQ := Lib.hid hxq'; have HXD := Lib.hid hxd; have HXK := Lib.hid hxk; have HOWN := Lib.hid hown; have HCP := Lib.hid hcp; have HCM := Lib.hid hcm; have HG1 := Lib.hid hg1; have HG2 := Lib.hid hg2; have HT1 := Lib.hid hT1; have HS1 := Lib.hid hs1; have HR := Lib.hid hr; have HW1 := Lib.hid hW1; have HBB := Lib.hid hbB
      obtain ⟨hr1, hx1⟩ := hri
      clear hxi' hxp' hxq' hxd hxk hown hcp hcm hg1 hg2 hT1 hs1 hr hlen hxi hbB
      gi_upto_region 4 with fail
      try rw [hW1]
      have hb1 : W1.heap[wr.heap.size]? = some (.cells #[.pointer xp, .pointer xq, .int .i64 (xi : Int), .int .i64 ((r : Int) + 1)] 197) := by rw [← hW1]; exact World.alloc_heap_new wr _
      have d0 : W1.cell? ⟨wr.heap.size, 0, none⟩ = some (.pointer xp) := cell_box hb1 rfl rfl
      have dq : W1.cell? ⟨wr.heap.size, 1, none⟩ = some (.pointer xq) := cell_box hb1 rfl rfl
      have d1 : W1.cell? ⟨wr.heap.size, 2, none⟩ = some (.int .i64 (xi : Int)) := cell_box hb1 rfl rfl
      have d2 : W1.cell? ⟨wr.heap.size, 3, none⟩ = some (.int .i64 ((r : Int) + 1)) := cell_box hb1 rfl rfl
      have HB1 := Lib.hid hb1
      clear hb1 hW1
      gi_wp2
      refine hRd.mono ?_
      clear d0 dq d1 d2 r0 rq r1 r2 hy
      rintro e W3 (⟨rfl, hJ3, hT3⟩ | ⟨rfl, hJx3, hT3⟩)
      · have HT3 := Lib.hid hT3
        have hs3 : wr.heap.size + 1 ≤ W3.heap.size := by rw [← HS1.out]; exact hT3.size
        have hblk : ∀ k, k < wr.heap.size → (M k ∨ ¬ Fr k) → W3.heap[k]? = wr.heap[k]? := fun k hk h =>
          (HT3.out.block k (by rw [HS1.out]; omega) (fun h' => h.elim (fun m => h'.2 (.inl m)) (fun f => f h'.1))).trans (HT1.out.block k hk (fun h => h))
        have hbx : W3.heap[wr.heap.size]? = W1.heap[wr.heap.size]? := HT3.out.block _ (by rw [HS1.out]; omega) (fun h' => h'.2 (.inr rfl))
        have e0 : W3.cell? ⟨wr.heap.size, 0, none⟩ = some (.pointer xp) := cell_box HB1.out hbx rfl
        have eq : W3.cell? ⟨wr.heap.size, 1, none⟩ = some (.pointer xq) := cell_box HB1.out hbx rfl
        have e1 : W3.cell? ⟨wr.heap.size, 2, none⟩ = some (.int .i64 (xi : Int)) := cell_box HB1.out hbx rfl
        have e2 : W3.cell? ⟨wr.heap.size, 3, none⟩ = some (.int .i64 ((r : Int) + 1)) := cell_box HB1.out hbx rfl
        have ck3 : W3.cell? ⟨Bk, 0, none⟩ = some (.func (.func 153) #[] #[.pointer (some ⟨Bo, 0, none⟩)]) := (World.cell?_of_block (a := ⟨Bk, 0, none⟩) (hblk Bk HBB.out (.inr hBk))).trans ck
        have hMg : M g := HS'.out.mine g rfl
        have HMG := Lib.hid hMg
        have own3 : W3.ownsRow W.heap.size 197 4 (.slice (some ⟨g, 0, none⟩) (r + 1) cap) (r + 1) (v2Cells (x :: R).reverse) := own_same (by have := HS'.out.own; rw [List.length_cons, HR.out] at this; exact this) (fun y hy => hblk y (by injection hy with hy; subst hy; exact HG2.out) (.inl (by injection hy with hy; subst hy; exact hMg)))
        have pop3 : W3.ownsRow W.heap.size 197 4 (.slice (some ⟨g, 0, none⟩) r cap) r (v2Cells R.reverse) := own_same HOWN.out (fun y hy => hblk y (by injection hy with hy; subst hy; exact HG2.out) (.inl (by injection hy with hy; subst hy; exact hMg)))
        have hkid := HNX.out (fun k => M k ∨ k = wr.heap.size) (pre ++ [x]) x W3 hJ3 (fun k hk => ⟨(HMU.out k hk).1, Nat.lt_of_lt_of_le (HMU.out k hk).2 hs3⟩) (Nat.le_trans HB.out (by omega)) (by simp) HXK.out
        rw [HXP.out, HXQ.out, HXI.out] at hkid
        have HKID := Lib.hid hkid
        have HOWN3 := Lib.hid own3; have HPOP3 := Lib.hid pop3; have HBLK := Lib.hid hblk; have HJ3 := Lib.hid hJ3; have HS3 := Lib.hid hs3
        clear own3 pop3 hblk hJ3 hT3 hbx hMg hs3 hkid
        gi_wp2
        refine ⟨trivial, callsIn_wide.2 (HKID.out.mono ?_)⟩
        rintro e W' ⟨hTk, hres⟩
        rcases hres with ⟨hk, p', q', rfl, hok⟩ | ⟨hk, p, q, rfl⟩
        · obtain ⟨W5, hW5⟩ : ∃ W5, W'.alloc (.cells #[.pointer p', .pointer q'] 175) = W5 := ⟨_, rfl⟩
          have hT3k : Turns (fun _ => False) W3 W5 := by rw [← hW5]; exact hTk.trans (Turns.alloc _ _ _)
          have hb5 : W5.heap[W'.heap.size]? = some (.cells #[.pointer p', .pointer q'] 175) := by rw [← hW5]; exact World.alloc_heap_new W' _
          have keep : ∀ k, k < W3.heap.size → W5.heap[k]? = W3.heap[k]? := fun k hk => hT3k.block k hk (fun h => h)
          have hwr : wr.heap.size < W3.heap.size := HS3.out
          have ck4 : W5.cell? ⟨Bk, 0, none⟩ = some (.func (.func 153) #[] #[.pointer (some ⟨Bo, 0, none⟩)]) := (World.cell?_of_block (a := ⟨Bk, 0, none⟩) (keep Bk (cell_lt ck3))).trans ck3
          have f0 : W5.cell? ⟨wr.heap.size, 3, none⟩ = some (.int .i64 ((r : Int) + 1)) := (World.cell?_of_block (a := ⟨wr.heap.size, 3, none⟩) (keep _ hwr)).trans e2
          have own4 := own_same HOWN3.out (fun y hy => keep y (HOWN3.out.lt y hy).2)
          have pop4 := own_same HPOP3.out (fun y hy => keep y (HPOP3.out.lt y hy).2)
          have hs4 : wr.heap.size + 1 ≤ W5.heap.size := Nat.le_trans HS3.out hT3k.size
          have hJ4 := HJ.out (pre ++ [x]) (fun k => M k ∨ k = wr.heap.size) (fun k => M k ∨ k = wr.heap.size) W3 W5 HJ3.out (fun k hk => ⟨(HMU.out k hk).1, Nat.lt_of_lt_of_le (HMU.out k hk).2 HS3.out⟩) (hT3k.mono fun _ _ h => h.elim) (fun k hk => ⟨.inl hk, Nat.lt_of_lt_of_le (HMU.out k hk).2 hs4⟩)
          have n0 : W5.cell? ⟨W'.heap.size, 0, none⟩ = some (.pointer p') := cell_box hb5 rfl rfl
          have n1 : W5.cell? ⟨W'.heap.size, 1, none⟩ = some (.pointer q') := cell_box hb5 rfl rfl
          have hng : g < W'.heap.size := by have := HG2.out; have := HS3.out; have := hTk.size; omega
          have hnw : wr.heap.size < W'.heap.size := by have := HS3.out; have := hTk.size; omega
          have HOWN4 := Lib.hid own4; have HPOP4 := Lib.hid pop4; have HJ4 := Lib.hid hJ4; have HS4 := Lib.hid hs4; have HTK := Lib.hid hT3k; have HCK4 := Lib.hid ck4; have HNG := Lib.hid hng; have HNW := Lib.hid hnw; have HW5 := Lib.hid hW5
          clear own4 pop4 hJ4 hs4 keep hwr hTk hT3k e0 eq e1 e2 ck3 ck4 hb5 hng hnw hW5
          have hok4 := HO.out (pre ++ [x]) _ (fun k => M k ∨ k = wr.heap.size) (fun k => M k ∨ k = wr.heap.size) W3 W5 hok (fun k hk => ⟨(HMU.out k hk).1, Nat.lt_of_lt_of_le (HMU.out k hk).2 HS3.out⟩) (HTK.out.mono fun _ _ h => h.elim) (fun k hk => ⟨.inl hk, Nat.lt_of_lt_of_le (HMU.out k hk).2 HS4.out⟩)
          have HOK := Lib.hid hok4
          clear hok hok4
          obtain ⟨g', cap', hgc, hg1, hg2, hcp, hcm, r0, rq, r1, r2, hown⟩ := v2_top (R := R) (x := x) (w := W5) (base := W.heap.size) (e := 197) (v := .slice (some ⟨g, 0, none⟩) (r + 1) cap) (by rw [HR.out]; exact HOWN4.out)
          injection hgc with hgc hgr hgc2
          clear hgr
          injection hgc with hgc
          injection hgc with hgc
          subst hgc hgc2
          rw [HR.out] at r0 rq r1 r2 hcp
          rw [HXI.out] at r1
          clear hown hcp hcm hg1 hg2
          have hfz := HOWN4.out.frozenAt (r * 4 + 2)
          gi_upto_region 7 with fail
          rw [HW5.out]
          gi_upto_region 8 with fail
          have hbump := v2_bump (R := R) (x := x) (w := W5) (base := W.heap.size) (e := 197) (g := g) (cap := cap) (by rw [HR.out]; exact HOWN4.out)
          rw [HR.out, HXI.out] at hbump
          have HT4 := Lib.hid (show Turns (fun k => M k ∨ k = wr.heap.size) W5 (W5.setCell ⟨g, r * 4 + 2, none⟩ (.int .i64 ((xi : Int) + 1))) from Turns.setCell _ _ _ (.inl HMG.out))
          have hne : ∀ k, k ≠ g → (W5.setCell ⟨g, r * 4 + 2, none⟩ (.int .i64 ((xi : Int) + 1))).heap[k]? = W5.heap[k]? := fun k hk => Below.heap_setCell _ _ _ _ hk
          have f2 : (W5.setCell ⟨g, r * 4 + 2, none⟩ (.int .i64 ((xi : Int) + 1))).cell? ⟨wr.heap.size, 3, none⟩ = some (.int .i64 ((r : Int) + 1)) := (World.cell?_of_block (a := ⟨wr.heap.size, 3, none⟩) (hne _ (by have := HG2.out; dsimp only; omega))).trans f0
          have f3 : (W5.setCell ⟨g, r * 4 + 2, none⟩ (.int .i64 ((xi : Int) + 1))).cell? ⟨W'.heap.size, 0, none⟩ = some (.pointer p') := (World.cell?_of_block (a := ⟨W'.heap.size, 0, none⟩) (hne _ (by have := HNG.out; dsimp only; omega))).trans n0
          have f4 : (W5.setCell ⟨g, r * 4 + 2, none⟩ (.int .i64 ((xi : Int) + 1))).cell? ⟨W'.heap.size, 1, none⟩ = some (.pointer q') := (World.cell?_of_block (a := ⟨W'.heap.size, 1, none⟩) (hne _ (by have := HNG.out; dsimp only; omega))).trans n1
          clear hne r0 rq r1 r2 hfz f0 n0 n1
          generalize W5.setCell ⟨g, r * 4 + 2, none⟩ (.int .i64 ((xi : Int) + 1)) = W4 at hbump HT4 f2 f3 f4 ⊢
          have HBU := Lib.hid hbump
          clear hbump
          obtain ⟨i0, hi, hz0, hz1, hz2⟩ := info_parts info_v2P
          have HBB4 := Lib.hid (show W.heap.size ≤ (W4.alloc (.cells #[.pointer p', .pointer q', .int .i64 0, .int .i64 ((r : Int) + 1 + 1)] 197)).heap.size from by have := HT4.out.size; have := HS4.out; have := HB.out; simp; omega)
          gi_wp2_with (gi_at_builtin; refine wpListIn_append_lies _ rfl (.tmp 44) (.tmp 50) 205 rfl W.heap.size 197 i0 (.agg #[.pointer none, .pointer none, .int .i64 0, .int .i64 0]) 4 32 Tryz.underlying205 hi hz0 hz1 hz2 rfl (by decide) (.slice (some ⟨g, 0, none⟩) (r + 1) cap) (r + 1) (v2Cells (x.on :: R).reverse) rfl (HBU.out.alloc _) ⟨W4.heap.size, 0, none⟩ 1 1 [.pointer p', .pointer q', .int .i64 0, .int .i64 ((r : Int) + 1 + 1)] rfl rfl (World.news_of_block (World.alloc_heap_new W4 _)) (v2_cells _ _ _ _) (by decide) (v2_b1 HRI.out.1) (v2_b2 HRI.out.1) HBB4.out ?_; intro g1 cap1 w1 hown1 hgr1 hly1)
          have hx2 := HXI.out
          subst hx2
          have hT5 : Turns (fun k => M k ∨ k = wr.heap.size) W5 w1 := push_turns HT4.out hgr1 (fun k h _ => by cases h; exact .inl HMG.out)
          have hs5 := hT5.size
          have kidc : (⟨(S.kids x.t)[x.i], p', q', 0, x.d + 1⟩ : V2 T).cells = [.pointer p', .pointer q', .int .i64 0, .int .i64 ((r : Int) + 1 + 1)] := by
            show [Value.pointer p', .pointer q', .int .i64 ((0 : Nat) : Int), .int .i64 ((x.d + 1 : Nat) : Int)] = _
            rw [Int.natCast_add, HXD.out]; rfl
          have F := HS'.out.push (p := p') (q := q') (v5 := .slice (some ⟨g1, 0, none⟩) (r + 1 + 1) cap1) (W5 := w1) (M5 := fun k => ((M k ∨ k = wr.heap.size) ∨ W5.heap.size ≤ k) ∧ k < w1.heap.size) hk (by rw [HR.out, List.reverse_cons, v2Cells_snoc, kidc]; exact hown1)
            (fun y h => by
              injection h with h; subst h
              refine ⟨?_, (hown1.lt _ rfl).2⟩
              rcases lies_at hly1 with h | h
              · exact .inl (.inl (by rw [h]; exact HMG.out))
              · exact .inr (Nat.le_trans HT4.out.size h))
            (HO.out _ _ _ _ W5 w1 HOK.out (fun k h => ⟨(HMU.out k h).1, Nat.lt_of_lt_of_le (HMU.out k h).2 HS4.out⟩) hT5 (fun k h => h))
          have FF := Lib.hid F
          have HS5 := Lib.hid hs5; have HT5 := Lib.hid hT5
          clear F
          gi_roundg (v2Todo S ((⟨(S.kids x.t)[x.i], p', q', 0, x.d + 1⟩ : V2 T) :: x.on :: R)).length
          case measure => exact FF.out.2
          case rel =>
            refine ⟨_, _, _, FF.out.1, HJ.out _ _ _ W5 w1 HJ4.out (fun k h => ⟨(HMU.out k h).1, Nat.lt_of_lt_of_le (HMU.out k h).2 HS4.out⟩) HT5.out (fun k h => h), fun k h => ⟨?_, h.2⟩, ?_, ?_, rfl⟩
            · rcases h.1 with h | h
              · exact (HMU.out k h).1
              · exact Nat.le_trans (Nat.le_trans HB.out (Nat.le_of_succ_le HS4.out)) h
            · exact Nat.le_trans (Nat.le_trans HB.out (Nat.le_of_succ_le HS4.out)) HS5.out
            · exact (World.cell?_of_block (a := ⟨Bk, 0, none⟩) (HT5.out.block Bk (Nat.lt_of_lt_of_le HBB.out (Nat.le_of_succ_le HS4.out)) (fun h => by have := (HMU.out Bk h).1; omega))).trans HCK4.out
        · obtain ⟨W5, hW5⟩ : ∃ W5, W'.alloc (.cells #[.pointer p, .pointer q] 175) = W5 := ⟨_, rfl⟩
          have hT3k : Turns (fun _ => False) W3 W5 := by rw [← hW5]; exact hTk.trans (Turns.alloc _ _ _)
          have keep : ∀ k, k < W3.heap.size → W5.heap[k]? = W3.heap[k]? := fun k hk => hT3k.block k hk (fun h => h)
          have ck4 : W5.cell? ⟨Bk, 0, none⟩ = some (.func (.func 153) #[] #[.pointer (some ⟨Bo, 0, none⟩)]) := (World.cell?_of_block (a := ⟨Bk, 0, none⟩) (keep Bk (cell_lt ck3))).trans ck3
          have pop4 := own_same HPOP3.out (fun y hy => keep y (HPOP3.out.lt y hy).2)
          have hs4 : wr.heap.size + 1 ≤ W5.heap.size := Nat.le_trans HS3.out hT3k.size
          have hJ4 := HJ.out (pre ++ [x]) (fun k => M k ∨ k = wr.heap.size) (fun k => M k ∨ k = wr.heap.size) W3 W5 HJ3.out (fun k hk => ⟨(HMU.out k hk).1, Nat.lt_of_lt_of_le (HMU.out k hk).2 HS3.out⟩) (hT3k.mono fun _ _ h => h.elim) (fun k hk => ⟨.inl hk, Nat.lt_of_lt_of_le (HMU.out k hk).2 hs4⟩)
          have HPOP4 := Lib.hid pop4; have HJ4 := Lib.hid hJ4; have HS4 := Lib.hid hs4; have HCK4 := Lib.hid ck4; have HW5 := Lib.hid hW5
          clear pop4 hJ4 hs4 keep hTk hT3k e0 eq e1 e2 ck3 ck4 hW5
          have HK := Lib.hid hk
          clear hk
          have hpop := v2P_pop g (r + 1) cap r (by omega) HCP.out
          gi_wp2
          rw [HW5.out]
          gi_roundg (v2Todo S R).length
          case measure => exact (HS'.out.pop (by rw [HXI.out]; exact HK.out) (by rw [HR.out]; exact HPOP4.out) (M5 := M) (fun y hy => by injection hy with hy; subst hy; exact HMG.out)).2
          case rel => exact ⟨fun k => M k ∨ k = wr.heap.size, R, pre ++ [x], (HS'.out.pop (by rw [HXI.out]; exact HK.out) (by rw [HR.out]; exact HPOP4.out) (fun y hy => by injection hy with hy; subst hy; exact .inl HMG.out)).1, HJ4.out, fun k hk => ⟨(HMU.out k hk).1, Nat.lt_of_lt_of_le (HMU.out k hk).2 HS4.out⟩, Nat.le_trans HB.out (Nat.le_of_succ_le HS4.out), HCK4.out, rfl⟩
      · gi_wp2
        refine bodyPost_ret (results_none rfl _ _ _) rfl ?_
        exact ⟨⟨_, rfl⟩, .inr ⟨_, _, hJx3, fun k hk => ⟨(HMU.out k hk).1, Nat.lt_of_lt_of_le (HMU.out k hk).2 (Nat.le_trans (Nat.le_of_eq HS1.out.symm) hT3.size)⟩⟩⟩
end Go.Proofs.YtmmhpibkjdlkgaaGreat
