/- agree.both: its stack, and what a walk over two rows of types is told. -/
import Derived.Test.YteolbbgnkbcfmaaAgR
import Derived.Test.YteolbbgnkbcfmaaAgP
import Derived.Test.YteolbbgnkbcfmaaTyN
namespace Go.Proofs.Yteolbbgnkbcfmaa
open Go Go.RowKit Go.Shelf
open Tp (T)

/-- What lies on the stack: types of a, and as many of b, one at least. -/
structure En where
  x : T
  y : T
  xs : List T
  ys : List T
  xb : Nat
  xo : Nat
  xc : Nat
  yb : Nat
  yo : Nat
  yc : Nat
def En.px (e : En) : Option Addr := some ⟨e.xb, e.xo, none⟩
def En.py (e : En) : Option Addr := some ⟨e.yb, e.yo, none⟩
def En.wf (e : En) : Prop := e.ys.length = e.xs.length ∧ e.xs.length + 1 ≤ e.xc ∧ e.xc ≤ maxLen ∧ e.ys.length + 1 ≤ e.yc ∧ e.yc ≤ maxLen
def En.next (e : En) : List En := match e.xs, e.ys with
  | x :: xs, y :: ys => [⟨x, y, xs, ys, e.xb, e.xo + 3, e.xc - 1, e.yb, e.yo + 3, e.yc - 1⟩]
  | _, _ => []
def enCells (e : En) : List Value := [.slice e.px (e.xs.length + 1) e.xc, .slice e.py (e.ys.length + 1) e.yc]
def enCs (S : List En) : List Value := S.flatMap enCells
def enTodo (S : List En) : List (T × T) := S.flatMap fun e => (e.x, e.y) :: e.xs.zip e.ys
def enSz (S : List En) : Nat := (S.map fun e => Tp.size e.x + Tp.sizes e.xs).sum
def enEnc (e : En) : Array Value := #[.pointer e.px, .pointer e.py]
def enAt (s : List En) (x : En) : Prop := ∃ r, s = x :: r
/-- What the iterator reads of the first pair. -/
def enRd (s : List En) (W : World) : Prop := ∀ e r, s = e :: r → W.cell? ⟨e.xb, e.xo, none⟩ = some (.int .i64 e.x.kind) ∧ W.cell? ⟨e.yb, e.yo, none⟩ = some (.int .i64 e.y.kind)
/-- What is still to come behind a round. -/
def enGo (s : List En) (x : En) (W : World) (s' : List En) : Prop := ∃ r, s = x :: r ∧ ((Tp.ends x.x x.y = true ∧ s' = x.next ++ r) ∨
  (Tp.ends x.x x.y = false ∧ x.x.kids = [] ∧ (∃ a c, W.cell? ⟨x.xb, x.xo + 2, none⟩ = some (.slice a 0 c)) ∧ s' = x.next ++ r) ∨
  (Tp.ends x.x x.y = false ∧ ∃ n : En, x.x.kids = n.x :: n.xs ∧ x.y.kids = n.y :: n.ys ∧ n.wf ∧ W.cell? ⟨x.xb, x.xo + 2, none⟩ = some (.slice n.px (n.xs.length + 1) n.xc) ∧ W.cell? ⟨x.yb, x.yo + 2, none⟩ = some (.slice n.py (n.ys.length + 1) n.yc) ∧ s' = n :: (x.next ++ r)))
theorem enGo.moved {s : List En} {x : En} {A B : World} {s' : List En} (h : ∀ b o, b < A.heap.size → A.cell? ⟨b, o, none⟩ ≠ none → B.cell? ⟨b, o, none⟩ = A.cell? ⟨b, o, none⟩) (hg : enGo s x A s') : enGo s x B s' := by
  have m : ∀ {b o v}, A.cell? ⟨b, o, none⟩ = some v → B.cell? ⟨b, o, none⟩ = some v := fun {b o v} hc => (h b o (cell_lt hc) (by rw [hc]; exact fun h => by cases h)).trans hc
  obtain ⟨r, rfl, hg⟩ := hg
  refine ⟨r, rfl, ?_⟩
  rcases hg with hg | ⟨h1, h2, ⟨a, c, h3⟩, h4⟩ | ⟨h1, n, h2, h3, h4, h5, h6, h7⟩
  · exact .inl hg
  · exact .inr (.inl ⟨h1, h2, ⟨a, c, m h3⟩, h4⟩)
  · exact .inr (.inr ⟨h1, n, h2, h3, h4, m h5, m h6, h7⟩)

theorem enCs_length : ∀ S : List En, (enCs S).length = S.length * 2
  | [] => rfl
  | e :: r => by
    have := enCs_length r
    simp only [enCs, List.flatMap_cons, List.length_append, List.length_cons, enCells, List.length_nil] at this ⊢
    omega
theorem enCs_snoc (S : List En) (e : En) : enCs (S ++ [e]) = enCs S ++ enCells e := by simp [enCs]
theorem enSz_cons (e : En) (S : List En) : enSz (e :: S) = Tp.size e.x + Tp.sizes e.xs + enSz S := by simp [enSz]
theorem enSz_append (R S : List En) : enSz (R ++ S) = enSz R + enSz S := by simp [enSz, List.sum_append]
theorem enSz_len : ∀ S : List En, S.length ≤ enSz S
  | [] => Nat.zero_le _
  | e :: r => by
    have := enSz_len r
    have := Tp.size_pos e.x
    rw [enSz_cons, List.length_cons]; omega
theorem next_sz {e : En} (h : e.wf) : enSz e.next = Tp.sizes e.xs := by
  obtain ⟨x, y, xs, ys, _, _, _, _, _, _⟩ := e
  have h1 := h.1
  cases xs with
  | nil => simp [En.next, enSz, Tp.sizes]
  | cons a r =>
    cases ys with
    | nil => simp at h1
    | cons b s => simp [En.next, enSz, Tp.sizes]
theorem next_todo {e : En} : enTodo e.next = e.xs.zip e.ys := by
  obtain ⟨x, y, xs, ys, _, _, _, _, _, _⟩ := e
  cases xs with
  | nil => simp [En.next, enTodo]
  | cons a r =>
    cases ys with
    | nil => simp [En.next, enTodo]
    | cons b s => simp [En.next, enTodo]
theorem next_wf {e : En} (h : e.wf) : ∀ n ∈ e.next, n.wf := by
  obtain ⟨x, y, xs, ys, _, _, _, _, _, _⟩ := e
  obtain ⟨h1, h2, h3, h4, h5⟩ := h
  cases xs with
  | nil => simp [En.next]
  | cons a r =>
    cases ys with
    | nil => simp at h1
    | cons b s =>
      intro n hn
      simp only [En.next, List.mem_singleton] at hn
      subst hn
      simp only [En.wf, List.length_cons] at h1 h2 h3 h4 h5 ⊢
      omega
theorem kids_sz {t x : T} {xs : List T} (h : t.kids = x :: xs) : Tp.size x + Tp.sizes xs + 1 = Tp.size t := by
  cases t with
  | mk k n l => simp only [Tp.T.kids] at h; subst h; simp [Tp.size, Tp.sizes]
/-- Behind a round less is to come. -/
theorem go_less {s : List En} {x : En} {W : World} {s' : List En} (h : enGo s x W s') (hw : ∀ e ∈ s, e.wf) : enSz s' < enSz s ∧ ∀ e ∈ s', e.wf := by
  obtain ⟨r, rfl, hg⟩ := h
  have hx := hw x (by simp)
  have hp := Tp.size_pos x.x
  have hn := next_sz hx
  have hwn : ∀ e ∈ x.next ++ r, e.wf := fun e he => (List.mem_append.1 he).elim (next_wf hx e) (fun h => hw e (List.mem_cons_of_mem _ h))
  rcases hg with ⟨_, rfl⟩ | ⟨_, _, _, rfl⟩ | ⟨_, n, h1, h2, h3, _, _, rfl⟩
  · rw [enSz_append, enSz_cons]; exact ⟨by omega, hwn⟩
  · rw [enSz_append, enSz_cons]; exact ⟨by omega, hwn⟩
  · have := kids_sz h1
    rw [enSz_cons, enSz_append, enSz_cons]
    exact ⟨by omega, fun e he => (List.mem_cons.1 he).elim (fun h => h ▸ h3) (hwn e)⟩

theorem elem_en : Try.prog.underlying 175 = some (.slice (Try.prog.elem 175)) := by kernel_rfl
theorem size_en (w : World) : (sizeOf (Try.prog.elem 175)).run Try.prog w = .ok 2 w := by kernel_rfl
theorem info_en : (Try.prog.info? 174).map (fun i => (i.zero, i.size, i.bytes)) = some (some (.agg #[.slice none 0 0, .slice none 0 0]), 2, 48) := by kernel_rfl
theorem en_pop (g n cap k : Nat) (hk : k ≤ n) (hn : n ≤ cap) (w' : World) :
    (Instr.slice 175 (.slice (some ⟨g, 0, none⟩) n cap) none (some (.int .i64 (k : Int))) none).run Try.prog w' = .ok (.slice (some ⟨g, 0, none⟩) k cap) w' := by
  rw [run_slice_h w' _ _ n cap elem_en .i64 (k : Int) (by omega) (by omega), size_en]
  simp [Result.andThen, sliced, add_flat]
/-- The top of the stack, and the stack without it. -/
theorem en_top {w : World} {base : Nat} {v : Value} {R : List En} {e : En} (h : w.ownsRow base 174 2 v (R.length + 1) (enCs (e :: R).reverse)) :
    ∃ g cap, v = .slice (some ⟨g, 0, none⟩) (R.length + 1) cap ∧ base ≤ g ∧ g < w.heap.size ∧ R.length + 1 ≤ cap ∧ cap ≤ maxLen ∧ w.cell? ⟨g, R.length * 2, none⟩ = some (.slice e.px (e.xs.length + 1) e.xc) ∧
      w.cell? ⟨g, R.length * 2 + 1, none⟩ = some (.slice e.py (e.ys.length + 1) e.yc) ∧ w.ownsRow base 174 2 (.slice (some ⟨g, 0, none⟩) R.length cap) R.length (enCs R.reverse) := by
  rw [List.reverse_cons, enCs_snoc] at h
  obtain ⟨h1, h2 | ⟨g, cap, cur, h3, h4, h5, h6, h7, h8, h9⟩⟩ := id h
  · omega
  · subst h3
    have hlen := enCs_length R.reverse
    rw [List.length_reverse] at hlen
    have hc := h.cells (g := g) rfl
    refine ⟨g, cap, rfl, h4, (Array.getElem?_eq_some_iff.1 h5).1, h6, h7, ?_, ?_, own_take h (Nat.le_succ _) hlen⟩
    · have := hc (R.length * 2) (.slice e.px (e.xs.length + 1) e.xc) (by rw [← hlen, List.getElem?_append_right (Nat.le_refl _), Nat.sub_self]; rfl)
      rwa [add_flat, Nat.zero_add] at this
    · have := hc (R.length * 2 + 1) (.slice e.py (e.ys.length + 1) e.yc) (by rw [← hlen, List.getElem?_append_right (by omega), Nat.add_sub_cancel_left]; rfl)
      rwa [add_flat, Nat.zero_add] at this
theorem en_two (a : Option Addr) (n c : Nat) (a' : Option Addr) (n' c' : Nat) : ∀ u ∈ [Value.slice a n c, .slice a' n' c'], u.oneCell' = true := by
  intro u hu
  simp only [List.mem_cons, List.not_mem_nil, or_false] at hu
  rcases hu with rfl | rfl <;> rfl
theorem b48 {r : Nat} (h : r ≤ 10000) : (r + 1) * 48 ≤ 140737488355328 ∧ (r + 1 + 1) * 48 ≤ 140737488355328 ∧ r + 1 ≤ maxLen ∧ r + 1 + 1 ≤ maxLen := by unfold maxLen; omega
theorem en_push {w : World} {base g cap : Nat} {R : List En} {n : En} (h : w.ownsRow base 174 2 (.slice (some ⟨g, 0, none⟩) (R.length + 1) cap) (R.length + 1) (enCs R.reverse ++ enCells n)) :
    w.ownsRow base 174 2 (.slice (some ⟨g, 0, none⟩) (n :: R).length cap) (n :: R).length (enCs (n :: R).reverse) := by
  rw [List.reverse_cons, enCs_snoc]; exact h
theorem en_start {W : World} {e : En} : (W.alloc (.cells #[.slice e.px (e.xs.length + 1) e.xc, .slice e.py (e.ys.length + 1) e.yc] 174)).ownsRow W.heap.size 174 2 (.slice (some ⟨W.heap.size, 0, none⟩) 1 1) 1 (enCs [e]) :=
  ⟨rfl, .inr ⟨W.heap.size, 1, _, rfl, Nat.le_refl _, World.alloc_heap_new W _, Nat.le_refl _, by unfold maxLen; omega, rfl, rfl⟩⟩
end Go.Proofs.Yteolbbgnkbcfmaa
