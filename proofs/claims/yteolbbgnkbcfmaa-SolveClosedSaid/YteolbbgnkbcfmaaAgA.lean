/- What a walk over two types that nobody writes goes on with. -/
import Derived.Test.YteolbbgnkbcfmaaAgS
namespace Go.Proofs.Yteolbbgnkbcfmaa
open Go Go.RowKit Go.Shelf
open Tp (T)

/-- An entry as it lies in the blocks below n. -/
structure EnL (n : Nat) (W : World) (e : En) : Prop where
  wf : e.wf
  xk : KidsAt (LT n) W (e.x :: e.xs) e.px
  yk : KidsAt (LT n) W (e.y :: e.ys) e.py
  xr : Tp.rights (e.x :: e.xs) = true
  yr : Tp.rights (e.y :: e.ys) = true
  xz : Tp.sizes (e.x :: e.xs) ≤ 10000
  yz : Tp.sizes (e.y :: e.ys) ≤ 10000
theorem EnL.next {n : Nat} {W : World} {e : En} (h : EnL n W e) : ∀ d ∈ e.next, EnL n W d := by
  intro d hd
  have hw := next_wf h.wf d hd
  obtain ⟨x, y, xs, ys, xb, xo, xc, yb, yo, yc⟩ := e
  cases xs with
  | nil => simp [En.next] at hd
  | cons a r =>
    cases ys with
    | nil => simp [En.next] at hd
    | cons b s =>
      simp only [En.next, List.mem_singleton] at hd
      subst hd
      have h1 := h.xr; have h2 := h.yr; have h3 := h.xz; have h4 := h.yz
      dsimp only at h1 h2 h3 h4
      simp only [Tp.sizes] at h3 h4
      exact ⟨hw, (h.xk).tail, (h.yk).tail, (Tp.rights_cons h1).2, (Tp.rights_cons h2).2, by simp only [Tp.sizes]; omega, by simp only [Tp.sizes]; omega⟩
theorem EnL.heads {n : Nat} {W : World} {e : En} (h : EnL n W e) : NodeAt (LT n) W e.x e.xb e.xo ∧ NodeAt (LT n) W e.y e.yb e.yo ∧ e.xb < n ∧ e.yb < n := by
  obtain ⟨b, o, h1, h2, h3, _⟩ := h.xk.head
  obtain ⟨b', o', h1', h2', h3', _⟩ := h.yk.head
  injection h1 with h1; injection h1 with p1 p2 p3; subst p1 p2
  injection h1' with h1'; injection h1' with p1 p2 p3; subst p1 p2
  exact ⟨h3, h3', h2, h2'⟩
theorem fit_alike {x y : T} (hf : Tp.fit x y = true) (he : Tp.ends x y = false) : x.kind = y.kind ∧ x.num = y.num := by
  simp only [Tp.ends, Bool.or_eq_false_iff, decide_eq_false_iff_not] at he
  simpa [Tp.fit, he.1, he.2] using hf
theorem kids_alike {x y : T} (hx : Tp.right x = true) (hy : Tp.right y = true) (hk : x.kind = y.kind) : x.kids.length = y.kids.length := by
  cases x with
  | mk k n l =>
    cases y with
    | mk k' n' l' =>
      have h1 := (Tp.right_node hx).1
      have h2 := (Tp.right_node hy).1
      simp only [Tp.T.kind] at hk
      simp only [Tp.T.kids]
      subst hk
      omega
theorem kids_right {x : T} (hx : Tp.right x = true) : Tp.rights x.kids = true := by
  cases x with
  | mk k n l => exact (Tp.right_node hx).2.1
theorem kids_sizes (x : T) : Tp.sizes x.kids + 1 = Tp.size x := by
  cases x with
  | mk k n l => simp [Tp.T.kids, Tp.size]
theorem entodo_cons (e : En) (r : List En) : Tp.agz (enTodo (e :: r)) = (Tp.agree e.x e.y && Tp.agz (e.xs.zip e.ys) && Tp.agz (enTodo r)) := by
  have : enTodo (e :: r) = ((e.x, e.y) :: e.xs.zip e.ys) ++ enTodo r := by simp [enTodo]
  rw [this, Tp.agz_append]
  simp [Tp.agz]
theorem entodo_app (r s : List En) : enTodo (r ++ s) = enTodo r ++ enTodo s := by simp [enTodo]
/-- A pair that fits: what is next. -/
theorem agree_go {n : Nat} {W V : World} {e : En} {r : List En} (he : EnL n W e) (hb : Below n W V) (hf : Tp.fit e.x e.y = true) (hr : ∀ d ∈ r, EnL n W d) :
    ∃ s', enGo (e :: r) e V s' ∧ (∀ d ∈ s', EnL n W d) ∧ Tp.agz (enTodo s') = Tp.agz (enTodo (e :: r)) := by
  have hall : ∀ d ∈ e.next ++ r, EnL n W d := fun d hd => (List.mem_append.1 hd).elim (he.next d) (hr d)
  have htd : Tp.agz (enTodo (e :: r)) = ((Tp.ends e.x e.y || Tp.agz (e.x.kids.zip e.y.kids)) && Tp.agz (enTodo (e.next ++ r))) := by
    rw [entodo_cons, Tp.agree_node, hf, Bool.true_and, entodo_app, Tp.agz_append, next_todo, Bool.and_assoc]
  cases hE : Tp.ends e.x e.y with
  | true => exact ⟨e.next ++ r, ⟨r, rfl, .inl ⟨hE, rfl⟩⟩, hall, by rw [htd, hE]; simp⟩
  | false =>
    obtain ⟨hk, hn⟩ := fit_alike hf hE
    have hxr := (Tp.rights_cons he.xr).1
    have hyr := (Tp.rights_cons he.yr).1
    have hl := kids_alike hxr hyr hk
    obtain ⟨hx, hy, hxb, hyb⟩ := he.heads
    obtain ⟨a, cap, hxt, _, _, hx2⟩ := hx.ty
    obtain ⟨a', cap', hyt, _, _, hy2⟩ := hy.ty
    have vx : V.cell? ⟨e.xb, e.xo + 2, none⟩ = some (.slice a e.x.kids.length cap) := (hb.cell (p := ⟨e.xb, e.xo + 2, none⟩) hxb).trans hx2
    have vy : V.cell? ⟨e.yb, e.yo + 2, none⟩ = some (.slice a' e.y.kids.length cap') := (hb.cell (p := ⟨e.yb, e.yo + 2, none⟩) hyb).trans hy2
    cases hxk : e.x.kids with
    | nil =>
      rw [hxk] at vx
      exact ⟨e.next ++ r, ⟨r, rfl, .inr (.inl ⟨hE, hxk, ⟨a, cap, vx⟩, rfl⟩)⟩, hall, by rw [htd, hE, hxk]; simp [Tp.agz]⟩
    | cons x' xs' =>
      cases hyk : e.y.kids with
      | nil => rw [hxk, hyk] at hl; simp at hl
      | cons y' ys' =>
        obtain ⟨q1, q2, q3⟩ := hxt.2.2
        obtain ⟨q1', q2', q3'⟩ := hyt.2.2
        have hsx := kids_sizes e.x; have hsy := kids_sizes e.y
        have hrx := kids_right hxr; have hry := kids_right hyr
        have zx := he.xz; have zy := he.yz
        rw [hxk] at vx q1 q3 hsx hrx hl
        rw [hyk] at vy q1' q3' hsy hry hl
        obtain ⟨b, o, rfl, _⟩ := q3.head
        obtain ⟨b', o', rfl, _⟩ := q3'.head
        simp only [List.length_cons] at hl q1 q1' vx vy
        simp only [Tp.sizes] at zx zy hsx hsy
        have hw : (⟨x', y', xs', ys', b, o, cap, b', o', cap'⟩ : En).wf := ⟨by dsimp only; omega, q1, q2, by dsimp only; omega, q2'⟩
        have hd0 : EnL n W ⟨x', y', xs', ys', b, o, cap, b', o', cap'⟩ := ⟨hw, q3, q3', hrx, hry, by simp only [Tp.sizes]; omega, by simp only [Tp.sizes]; omega⟩
        refine ⟨⟨x', y', xs', ys', b, o, cap, b', o', cap'⟩ :: (e.next ++ r), ⟨r, rfl, .inr (.inr ⟨hE, _, hxk, hyk, hw, vx, vy, rfl⟩)⟩, fun d hd => (List.mem_cons.1 hd).elim (fun h => h ▸ hd0) (hall d), ?_⟩
        rw [htd, hE, hxk, hyk, entodo_cons, Bool.false_or]
        simp [Tp.agz, Bool.and_assoc]
theorem Turns.of_below {W V : World} (h : Below W.heap.size W V) : Turns (fun _ => False) W V := ⟨h.os, h.tape, h.output, h.size, fun k hk _ => h.block k hk⟩
end Go.Proofs.Yteolbbgnkbcfmaa
