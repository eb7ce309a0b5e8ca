/- agree.Meet, walked. -/
import Derived.Test.YtncdbbjkafgphaaAgT
namespace Go.Proofs.Ytncdbbjkafgphaa
open Go Go.RowKit Go.Shelf
open Tp (T)

attribute [local go_sem] Oper.semAt_some

/-- Do two types agree; what Meet hands back. -/
def Tp.ok (t u : T) : Bool := Tp.right t && Tp.right u && Tp.agree t u
def MeetPost (G : Nat → Prop) (t u : T) (w : World) (e : Ending) (w' : World) : Prop := Below w.heap.size w w' ∧
  ((Tp.ok t u = true ∧ ∃ ma mc, e = .returned (.tuple #[tv (Tp.meet t u) ma mc, .bool true]) ∧ TyAt (fun b => G b ∨ (w.heap.size ≤ b ∧ b < w'.heap.size)) w' (Tp.meet t u) ma mc) ∨ (Tp.ok t u = false ∧ e = .returned (.tuple #[.agg #[.int .i64 0, .int .i64 0, .slice none 0 0], .bool false])))
theorem KidsAt.real {G : Nat → Prop} {W : World} : ∀ (l : List T) (a : Option Addr), KidsAt G W l a → KidsAt (fun b => G b ∧ b < W.heap.size) W l a := by
  have hn : ∀ (sz : Nat), (∀ (t : T) (b o : Nat), Tp.size t ≤ sz → NodeAt G W t b o → NodeAt (fun b => G b ∧ b < W.heap.size) W t b o) ∧ (∀ (l : List T) (a : Option Addr), Tp.sizes l ≤ sz → KidsAt G W l a → KidsAt (fun b => G b ∧ b < W.heap.size) W l a) := by
    intro sz
    induction sz with
    | zero =>
      refine ⟨fun t b o h => by have := Tp.size_pos t; omega, fun l a h hk => ?_⟩
      cases l with
      | nil => simp [KidsAt]
      | cons t r => have := Tp.size_pos t; simp only [Tp.sizes] at h; omega
    | succ sz ih =>
      have node : ∀ (t : T) (b o : Nat), Tp.size t ≤ sz + 1 → NodeAt G W t b o → NodeAt (fun b => G b ∧ b < W.heap.size) W t b o := fun t b o h hx => by
        obtain ⟨a, cap, q1, q2, q3, q4⟩ := hx.ty
        have hs := kids_sizes t
        exact NodeAt.mk' ⟨q1.1, q1.2.1, q1.2.2.1, q1.2.2.2.1, ih.2 _ _ (by omega) q1.2.2.2.2⟩ q2 q3 q4
      have kids : ∀ (l : List T) (a : Option Addr), Tp.sizes l ≤ sz + 1 → KidsAt G W l a → KidsAt (fun b => G b ∧ b < W.heap.size) W l a := fun l => by
        induction l with
        | nil => intro a _ _; simp [KidsAt]
        | cons t r ihl =>
          intro a h hk
          obtain ⟨b, o, rfl, h2, h3, h4⟩ := hk.head
          obtain ⟨_, _, _, q2, _⟩ := h3.ty
          simp only [Tp.sizes] at h
          simp only [KidsAt]
          exact ⟨b, o, rfl, ⟨h2, cell_lt q2⟩, node t b o (by omega) h3, ihl _ (by omega) h4⟩
      exact ⟨node, kids⟩
  exact fun l a h => (hn (Tp.sizes l)).2 l a (Nat.le_refl _) h

theorem box_set {V : World} {b i : Nat} {A : Array Value} {ty : TypeId} {v : Value} (h : V.heap[b]? = some (.cells A ty (0, 0))) : (V.setCell ⟨b, i, none⟩ v).heap[b]? = some (.cells (A.setIfInBounds i v) ty (0, 0)) := by
  obtain ⟨hlt, hk⟩ := Array.getElem?_eq_some_iff.1 h
  show (V.heap.modify b _)[b]? = _
  rw [Array.getElem?_eq_getElem (by rw [Array.size_modify]; exact hlt), Array.getElem_modify_self, hk]
  rfl
theorem box_set3 {V : World} {b : Nat} {x0 x1 x2 v0 v1 v2 : Value} {ty : TypeId} (h : V.heap[b]? = some (.cells #[x0, x1, x2] ty (0, 0))) : (((V.setCell ⟨b, 0, none⟩ v0).setCell ⟨b, 1, none⟩ v1).setCell ⟨b, 2, none⟩ v2).heap[b]? = some (.cells #[v0, v1, v2] ty (0, 0)) :=
  box_set (box_set (box_set h))
theorem set3_other {V : World} {b k : Nat} {v0 v1 v2 : Value} (h : k ≠ b) : (((V.setCell ⟨b, 0, none⟩ v0).setCell ⟨b, 1, none⟩ v1).setCell ⟨b, 2, none⟩ v2).heap[k]? = V.heap[k]? :=
  (Below.heap_setCell _ _ _ k h).trans ((Below.heap_setCell _ _ _ k h).trans (Below.heap_setCell _ _ _ k h))
theorem set3_turns (V : World) (b : Nat) (v0 v1 v2 : Value) : Turns (fun k => k = b) V (((V.setCell ⟨b, 0, none⟩ v0).setCell ⟨b, 1, none⟩ v1).setCell ⟨b, 2, none⟩ v2) :=
  ((set_turns V ⟨b, 0, none⟩ v0).trans (set_turns _ ⟨b, 1, none⟩ v1)).trans (set_turns _ ⟨b, 2, none⟩ v2)

theorem MJ.keep {Gx : Nat → Prop} {n mb rb : Nat} {w W : World} {R : T} {M : Nat → Prop} {s : List En} {V : World} (h : MJ Gx n mb rb w W R M s V) : ∀ b o, G0 Gx n mb rb b → V.cell? ⟨b, o, none⟩ = W.cell? ⟨b, o, none⟩ := by
  obtain ⟨⟨_, _, h2⟩, _⟩ := h
  exact h2.keep
theorem MJ.news {Gx : Nat → Prop} {n mb rb : Nat} {w W : World} {R : T} {M : Nat → Prop} {s : List En} {V : World} (h : MJ Gx n mb rb w W R M s V) {l : List T} {a : Option Addr} (hk : KidsAt (G0 Gx n mb rb) W l a) : ∃ news : List Value, news.length = l.length * 3 ∧ (∀ b o, a = some ⟨b, o, none⟩ → ∀ j u, news[j]? = some u → V.cell? ⟨b, o + j, none⟩ = some u) ∧ (∀ u ∈ news, u.oneCell' = true) ∧
    ∀ i (h : i < l.length), ∃ a cap, TyAt (G0 Gx n mb rb) W l[i] a cap ∧ news[i * 3]? = some (.int .i64 l[i].kind) ∧ news[i * 3 + 1]? = some (.int .i64 l[i].num) ∧ news[i * 3 + 2]? = some (.slice a l[i].kids.length cap) := by
  cases l with
  | nil => exact ⟨[], rfl, (fun b o _ j u h => by simp at h), (fun u h => by cases h), (fun i h => by simp at h)⟩
  | cons x r =>
    obtain ⟨b, o, rfl, hg, _⟩ := id hk.head
    obtain ⟨news, n1, n2, n3, n4⟩ := kids_news (x :: r) b o hk
    refine ⟨news, n1, fun b' o' he j u hj => ?_, n3, n4⟩
    injection he with he
    injection he with e1 e2 e3
    subst e1 e2
    exact (h.keep _ _ hg).trans (n2 j u hj)
/-- A pair of nodes of one kind: the kids are cloned. -/
theorem MJ.cloned {Gx : Nat → Prop} {n mb rb : Nat} {w W : World} {R : T} (hGx : ∀ k, w.heap.size ≤ k → Gx k) (hwm : w.heap.size ≤ mb) (hmn : mb < n) (hrm : rb < mb) {M : Nat → Prop} {e : En} {r : List En} {V w5 : World} (h : MJ Gx n mb rb w W R M (e :: r) V) (hM : ∀ k, M k → n ≤ k ∧ k < V.heap.size) (hx5 : ¬ e.x.kind = 5) (hy5 : ¬ e.y.kind = 5)
    {ya : Option Addr} {yc : Nat} (hyt : TyAt (G0 Gx n mb rb) W e.y ya yc) (y2 : V.cell? ⟨e.yb, e.yo + 2, none⟩ = some (.slice ya e.y.kids.length yc)) {news : List Value} {v' : Value}
    (hn4 : ∀ i (h : i < e.x.kids.length), ∃ a cap, TyAt (G0 Gx n mb rb) W e.x.kids[i] a cap ∧ news[i * 3]? = some (.int .i64 e.x.kids[i].kind) ∧ news[i * 3 + 1]? = some (.int .i64 e.x.kids[i].num) ∧ news[i * 3 + 2]? = some (.slice a e.x.kids[i].kids.length cap)) (hb5 : Below V.heap.size V w5)
    (hp : (e.x.kids = [] ∧ ∃ a c, v' = .slice a 0 c ∧ c ≤ maxLen) ∨ (∃ kb c, v' = .slice (some ⟨kb, 0, none⟩) e.x.kids.length c ∧ c ≤ maxLen ∧ e.x.kids.length ≤ c ∧ V.heap.size ≤ kb ∧ kb < w5.heap.size ∧ w5.ownsRow V.heap.size 24 3 (.slice (some ⟨kb, 0, none⟩) e.x.kids.length c) e.x.kids.length news)) :
    Turns (fun k => True ∧ ¬ M k) V (w5.setCell ⟨e.xb, e.xo + 2, none⟩ v') ∧ ∃ s', enGo (e :: r) e (w5.setCell ⟨e.xb, e.xo + 2, none⟩ v') s' ∧ MJ Gx n mb rb w W R M s' (w5.setCell ⟨e.xb, e.xo + 2, none⟩ v') := by
  have hE : Tp.ends e.x e.y = false := by simp [Tp.ends, hx5, hy5]
  have h5 := h.later (by omega) hM (Turns.of_below' hb5)
  obtain ⟨⟨xa, xc, hxt, x0, x1, x2⟩, _⟩ := h5.heads
  obtain ⟨_, _, _, hnM, how, hxr, hyr, hfit, hxl, hyg⟩ := h.heads
  have hT : Turns (fun k => True ∧ ¬ M k) V (w5.setCell ⟨e.xb, e.xo + 2, none⟩ v') := ((Turns.of_below' hb5).mono (fun _ _ h => h.elim)).trans ((set_turns w5 ⟨e.xb, e.xo + 2, none⟩ v').mono (fun k _ hk => ⟨trivial, by rw [show k = e.xb from hk]; exact hnM⟩))
  have hc2 : (w5.setCell ⟨e.xb, e.xo + 2, none⟩ v').cell? ⟨e.xb, e.xo + 2, none⟩ = some v' := by apply World.cell?_setCell_same; exact x2
  refine ⟨hT, ?_⟩
  have leaf : ∀ a c, v' = .slice a 0 c → c ≤ maxLen → e.x.kids = [] → ∃ s', enGo (e :: r) e (w5.setCell ⟨e.xb, e.xo + 2, none⟩ v') s' ∧ MJ Gx n mb rb w W R M s' (w5.setCell ⟨e.xb, e.xo + 2, none⟩ v') := fun a c hv hc hk => by
    subst hv
    exact ⟨e.next ++ r, ⟨r, rfl, .inr (.inl ⟨hE, hk, ⟨a, c, hc2⟩, rfl⟩)⟩, h5.leaf hwm hmn hrm hE hk a c hc⟩
  rcases hp with ⟨hk, a, c, hv, hc⟩ | ⟨kb, c, hv, hc, hlc, hkb, hkl, hown⟩
  · exact leaf a c hv hc hk
  · have hal := kids_alike hxr hyr (fit_alike hfit hE).1
    cases hxk : e.x.kids with
    | nil => exact leaf _ c (by rw [hv, hxk]; rfl) hc hxk
    | cons x' xs' =>
      cases hyk : e.y.kids with
      | nil => rw [hxk, hyk] at hal; simp at hal
      | cons y' ys' =>
        obtain ⟨q1, q2, q3⟩ := hyt.2.2
        have hrx := kids_right hxr; have hry := kids_right hyr
        have hown' := hown
        rw [hyk] at q1 q3 y2 hry
        rw [hxk] at hrx hlc
        obtain ⟨b', o', rfl, _⟩ := q3.head
        rw [hxk, hyk] at hal
        simp only [List.length_cons] at hal q1 hlc
        have hw : (⟨x', y', xs', ys', kb, 0, c, b', o', yc⟩ : En).wf := ⟨by dsimp only; omega, hlc, hc, by dsimp only; omega, q2⟩
        have hme : EnM (G0 Gx n mb rb) W ⟨x', y', xs', ys', kb, 0, c, b', o', yc⟩ := ⟨hw, q3, hrx, hry⟩
        have hpos := clone_at (m := e.y.kids) hn4 hown
        rw [hxk, hyk] at hpos
        have hpush := h.push hGx hwm hmn hrm hM hb5 hkb hkl (IsC.row hown) hme hxk hyk rfl rfl hE hpos
        subst hv
        refine ⟨⟨x', y', xs', ys', kb, 0, c, b', o', yc⟩ :: (e.next ++ r), ⟨r, rfl, .inr (.inr ⟨hE, _, hxk, hyk, hw, ?_, ?_, rfl⟩)⟩, hpush⟩
        · rw [hc2, hxk]; rfl
        · refine (set_far (fun hh => ?_)).trans ((hb5.cell (p := ⟨e.yb, e.yo + 2, none⟩) (Nat.lt_of_lt_of_le hyg.1 h.big)).trans y2)
          have e1 : e.xb = e.yb := hh.1
          have := hyg.1; have := hyg.2.1
          rcases how with h | h <;> omega

end Go.Proofs.Ytncdbbjkafgphaa
