/- agree.Meet, walked. -/
import Derived.Test.YtcnnahmchjeakaaAgT
import Derived.Test.YtcnnahmchjeakaaClT
namespace Go.Proofs.Ytcnnahmchjeakaa
open Go Go.RowKit Go.Shelf
open Tp (T)

attribute [local go_sem] Oper.semAt_some

/-- Do two types agree; what Meet hands back. -/
def Tp.ok (t u : T) : Bool := Tp.right t && Tp.right u && Tp.agree t u
def MeetPost (G : Nat → Prop) (t u : T) (w : World) (e : Ending) (w' : World) : Prop := Below w.heap.size w w' ∧
  ((Tp.ok t u = true ∧ ∃ ma mc, e = .returned (.tuple #[tv (Tp.meet t u) ma mc, .bool true]) ∧ TyAt (fun b => G b ∨ (w.heap.size ≤ b ∧ b < w'.heap.size)) w' (Tp.meet t u) ma mc) ∨ (Tp.ok t u = false ∧ e = .returned (.tuple #[.agg #[.int .i64 0, .int .i64 0, .slice none 0 0], .bool false])))
theorem KidsAt.real {G : Nat → Prop} {W : World} : ∀ (l : List T) (a : Option Addr), KidsAt G W l a → KidsAt (fun b => G b ∧ b < W.heap.size) W l a := by
  have hn : ∀ (sz : Nat), (∀ (t : T) (b o : Nat), Tp.size t ≤ sz → NodeAt G W t b o → NodeAt (fun b => G b ∧ b < W.heap.size) W t b o) ∧ (∀ (l : List T) (a : Option Addr), Tp.sizes l ≤ sz → KidsAt G W l a → KidsAt (fun b => G b ∧ b < W.heap.size) W l a) := by
    intro sz
    induction sz with
    | zero =>
      refine ⟨fun t b o h => by have := Tp.size_pos t; omega, fun l a h hk => ?_⟩
      cases l with
      | nil => simp [KidsAt]
      | cons t r => have := Tp.size_pos t; simp only [Tp.sizes] at h; omega
    | succ sz ih =>
      have node : ∀ (t : T) (b o : Nat), Tp.size t ≤ sz + 1 → NodeAt G W t b o → NodeAt (fun b => G b ∧ b < W.heap.size) W t b o := fun t b o h hx => by
        obtain ⟨a, cap, q1, q2, q3, q4⟩ := hx.ty
        have hs := kids_sizes t
        exact NodeAt.mk' ⟨q1.1, q1.2.1, q1.2.2.1, q1.2.2.2.1, ih.2 _ _ (by omega) q1.2.2.2.2⟩ q2 q3 q4
      have kids : ∀ (l : List T) (a : Option Addr), Tp.sizes l ≤ sz + 1 → KidsAt G W l a → KidsAt (fun b => G b ∧ b < W.heap.size) W l a := fun l => by
        induction l with
        | nil => intro a _ _; simp [KidsAt]
        | cons t r ihl =>
          intro a h hk
          obtain ⟨b, o, rfl, h2, h3, h4⟩ := hk.head
          obtain ⟨_, _, _, q2, _⟩ := h3.ty
          simp only [Tp.sizes] at h
          simp only [KidsAt]
          exact ⟨b, o, rfl, ⟨h2, cell_lt q2⟩, node t b o (by omega) h3, ihl _ (by omega) h4⟩
      exact ⟨node, kids⟩
  exact fun l a h => (hn (Tp.sizes l)).2 l a (Nat.le_refl _) h

theorem box_set {V : World} {b i : Nat} {A : Array Value} {ty : TypeId} {v : Value} (h : V.heap[b]? = some (.cells A ty (0, 0))) : (V.setCell ⟨b, i, none⟩ v).heap[b]? = some (.cells (A.setIfInBounds i v) ty (0, 0)) := by
  obtain ⟨hlt, hk⟩ := Array.getElem?_eq_some_iff.1 h
  show (V.heap.modify b _)[b]? = _
  rw [Array.getElem?_eq_getElem (by rw [Array.size_modify]; exact hlt), Array.getElem_modify_self, hk]
  rfl
theorem box_set3 {V : World} {b : Nat} {x0 x1 x2 v0 v1 v2 : Value} {ty : TypeId} (h : V.heap[b]? = some (.cells #[x0, x1, x2] ty (0, 0))) : (((V.setCell ⟨b, 0, none⟩ v0).setCell ⟨b, 1, none⟩ v1).setCell ⟨b, 2, none⟩ v2).heap[b]? = some (.cells #[v0, v1, v2] ty (0, 0)) :=
  box_set (box_set (box_set h))
theorem set3_other {V : World} {b k : Nat} {v0 v1 v2 : Value} (h : k ≠ b) : (((V.setCell ⟨b, 0, none⟩ v0).setCell ⟨b, 1, none⟩ v1).setCell ⟨b, 2, none⟩ v2).heap[k]? = V.heap[k]? :=
  (Below.heap_setCell _ _ _ k h).trans ((Below.heap_setCell _ _ _ k h).trans (Below.heap_setCell _ _ _ k h))
theorem set3_turns (V : World) (b : Nat) (v0 v1 v2 : Value) : Turns (fun k => k = b) V (((V.setCell ⟨b, 0, none⟩ v0).setCell ⟨b, 1, none⟩ v1).setCell ⟨b, 2, none⟩ v2) :=
  ((set_turns V ⟨b, 0, none⟩ v0).trans (set_turns _ ⟨b, 1, none⟩ v1)).trans (set_turns _ ⟨b, 2, none⟩ v2)

theorem MJ.keep {Gx : Nat → Prop} {n mb rb : Nat} {w W : World} {R : T} {M : Nat → Prop} {s : List En} {V : World} (h : MJ Gx n mb rb w W R M s V) : ∀ b o, G0 Gx n mb rb b → V.cell? ⟨b, o, none⟩ = W.cell? ⟨b, o, none⟩ := by
  obtain ⟨⟨_, _, h2⟩, _⟩ := h
  exact h2.keep
theorem MJ.news {Gx : Nat → Prop} {n mb rb : Nat} {w W : World} {R : T} {M : Nat → Prop} {s : List En} {V : World} (h : MJ Gx n mb rb w W R M s V) {l : List T} {a : Option Addr} (hk : KidsAt (G0 Gx n mb rb) W l a) : ∃ news : List Value, news.length = l.length * 3 ∧ (∀ b o, a = some ⟨b, o, none⟩ → ∀ j u, news[j]? = some u → V.cell? ⟨b, o + j, none⟩ = some u) ∧ (∀ u ∈ news, u.oneCell' = true) ∧
    ∀ i (h : i < l.length), ∃ a cap, TyAt (G0 Gx n mb rb) W l[i] a cap ∧ news[i * 3]? = some (.int .i64 l[i].kind) ∧ news[i * 3 + 1]? = some (.int .i64 l[i].num) ∧ news[i * 3 + 2]? = some (.slice a l[i].kids.length cap) := by
  cases l with
  | nil => exact ⟨[], rfl, (fun b o _ j u h => by simp at h), (fun u h => by cases h), (fun i h => by simp at h)⟩
  | cons x r =>
    obtain ⟨b, o, rfl, hg, _⟩ := id hk.head
    obtain ⟨news, n1, n2, n3, n4⟩ := kids_news (x :: r) b o hk
    refine ⟨news, n1, fun b' o' he j u hj => ?_, n3, n4⟩
    injection he with he
    injection he with e1 e2 e3
    subst e1 e2
    exact (h.keep _ _ hg).trans (n2 j u hj)
/-- A pair of nodes of one kind: the kids are cloned. -/
theorem MJ.cloned {Gx : Nat → Prop} {n mb rb : Nat} {w W : World} {R : T} (hGx : ∀ k, w.heap.size ≤ k → Gx k) (hwm : w.heap.size ≤ mb) (hmn : mb < n) (hrm : rb < mb) {M : Nat → Prop} {e : En} {r : List En} {V w5 : World} (h : MJ Gx n mb rb w W R M (e :: r) V) (hM : ∀ k, M k → n ≤ k ∧ k < V.heap.size) (hx5 : ¬ e.x.kind = 5) (hy5 : ¬ e.y.kind = 5)
    {ya : Option Addr} {yc : Nat} (hyt : TyAt (G0 Gx n mb rb) W e.y ya yc) (y2 : V.cell? ⟨e.yb, e.yo + 2, none⟩ = some (.slice ya e.y.kids.length yc)) {news : List Value} {v' : Value}
    (hn4 : ∀ i (h : i < e.x.kids.length), ∃ a cap, TyAt (G0 Gx n mb rb) W e.x.kids[i] a cap ∧ news[i * 3]? = some (.int .i64 e.x.kids[i].kind) ∧ news[i * 3 + 1]? = some (.int .i64 e.x.kids[i].num) ∧ news[i * 3 + 2]? = some (.slice a e.x.kids[i].kids.length cap)) (hb5 : Below V.heap.size V w5)
    (hp : (e.x.kids = [] ∧ ∃ a c, v' = .slice a 0 c ∧ c ≤ maxLen) ∨ (∃ kb c, v' = .slice (some ⟨kb, 0, none⟩) e.x.kids.length c ∧ c ≤ maxLen ∧ e.x.kids.length ≤ c ∧ V.heap.size ≤ kb ∧ kb < w5.heap.size ∧ w5.ownsRow V.heap.size 24 3 (.slice (some ⟨kb, 0, none⟩) e.x.kids.length c) e.x.kids.length news)) :
    Turns (fun k => True ∧ ¬ M k) V (w5.setCell ⟨e.xb, e.xo + 2, none⟩ v') ∧ ∃ s', enGo (e :: r) e (w5.setCell ⟨e.xb, e.xo + 2, none⟩ v') s' ∧ MJ Gx n mb rb w W R M s' (w5.setCell ⟨e.xb, e.xo + 2, none⟩ v') := by
  have hE : Tp.ends e.x e.y = false := by simp [Tp.ends, hx5, hy5]
  have h5 := h.later (by omega) hM (Turns.of_below' hb5)
  obtain ⟨⟨xa, xc, hxt, x0, x1, x2⟩, _⟩ := h5.heads
  obtain ⟨_, _, _, hnM, how, hxr, hyr, hfit, hxl, hyg⟩ := h.heads
  have hT : Turns (fun k => True ∧ ¬ M k) V (w5.setCell ⟨e.xb, e.xo + 2, none⟩ v') := ((Turns.of_below' hb5).mono (fun _ _ h => h.elim)).trans ((set_turns w5 ⟨e.xb, e.xo + 2, none⟩ v').mono (fun k _ hk => ⟨trivial, by rw [show k = e.xb from hk]; exact hnM⟩))
  have hc2 : (w5.setCell ⟨e.xb, e.xo + 2, none⟩ v').cell? ⟨e.xb, e.xo + 2, none⟩ = some v' := by apply World.cell?_setCell_same; exact x2
  refine ⟨hT, ?_⟩
  have leaf : ∀ a c, v' = .slice a 0 c → c ≤ maxLen → e.x.kids = [] → ∃ s', enGo (e :: r) e (w5.setCell ⟨e.xb, e.xo + 2, none⟩ v') s' ∧ MJ Gx n mb rb w W R M s' (w5.setCell ⟨e.xb, e.xo + 2, none⟩ v') := fun a c hv hc hk => by
    subst hv
    exact ⟨e.next ++ r, ⟨r, rfl, .inr (.inl ⟨hE, hk, ⟨a, c, hc2⟩, rfl⟩)⟩, h5.leaf hwm hmn hrm hE hk a c hc⟩
  rcases hp with ⟨hk, a, c, hv, hc⟩ | ⟨kb, c, hv, hc, hlc, hkb, hkl, hown⟩
  · exact leaf a c hv hc hk
  · have hal := kids_alike hxr hyr (fit_alike hfit hE).1
    cases hxk : e.x.kids with
    | nil => exact leaf _ c (by rw [hv, hxk]; rfl) hc hxk
    | cons x' xs' =>
      cases hyk : e.y.kids with
      | nil => rw [hxk, hyk] at hal; simp at hal
      | cons y' ys' =>
        obtain ⟨q1, q2, q3⟩ := hyt.2.2
        have hrx := kids_right hxr; have hry := kids_right hyr
        have hown' := hown
        rw [hyk] at q1 q3 y2 hry
        rw [hxk] at hrx hlc
        obtain ⟨b', o', rfl, _⟩ := q3.head
        rw [hxk, hyk] at hal
        simp only [List.length_cons] at hal q1 hlc
        have hw : (⟨x', y', xs', ys', kb, 0, c, b', o', yc⟩ : En).wf := ⟨by dsimp only; omega, hlc, hc, by dsimp only; omega, q2⟩
        have hme : EnM (G0 Gx n mb rb) W ⟨x', y', xs', ys', kb, 0, c, b', o', yc⟩ := ⟨hw, q3, hrx, hry⟩
        have hpos := clone_at (m := e.y.kids) hn4 hown
        rw [hxk, hyk] at hpos
        have hpush := h.push hGx hwm hmn hrm hM hb5 hkb hkl (IsC.row hown) hme hxk hyk rfl rfl hE hpos
        subst hv
        refine ⟨⟨x', y', xs', ys', kb, 0, c, b', o', yc⟩ :: (e.next ++ r), ⟨r, rfl, .inr (.inr ⟨hE, _, hxk, hyk, hw, ?_, ?_, rfl⟩)⟩, hpush⟩
        · rw [hc2, hxk]; rfl
        · refine (set_far (fun hh => ?_)).trans ((hb5.cell (p := ⟨e.yb, e.yo + 2, none⟩) (Nat.lt_of_lt_of_le hyg.1 h.big)).trans y2)
          have e1 : e.xb = e.yb := hh.1
          have := hyg.1; have := hyg.2.1
          rcases how with h | h <;> omega

set_option maxRecDepth 100000 in
set_option maxHeartbeats 4000000 in
theorem meetf_anyG (G : Nat → Prop) (t : T) (a : Option Addr) (cap : Nat) (u : T) (b : Option Addr) (cap' : Nat) (w : World) (hG : ∀ k, G k → k < w.heap.size) (hst : Tp.size t ≤ 10000) (hsu : Tp.size u ≤ 10000) (hty : TyAt G w t a cap) (hty' : TyAt G w u b cap') :
    Calls Try.prog 21 #[tv t a cap, tv u b cap'] w (MeetPost G t u w) := by
  obtain ⟨Gx, hGx⟩ : ∃ Gx : Nat → Prop, Gx = fun k => G k ∨ w.heap.size ≤ k := ⟨_, rfl⟩
  have HGX := Lib.hid (show ∀ k, w.heap.size ≤ k → Gx k from fun k h => by rw [hGx]; exact .inr h)
  have HGY := Lib.hid (show ∀ k, G k → Gx k from fun k h => by rw [hGx]; exact .inl h)
  have HGZ := Lib.hid (show ∀ k, Gx k → G k ∨ w.heap.size ≤ k from fun k h => by rw [hGx] at h; exact h)
  have HG := Lib.hid hG
  clear hGx
  refine callsIn_wide (n := 9) |>.1 ?_
  obtain ⟨k0, hk0⟩ : ∃ k0, t.kind = k0 := ⟨_, rfl⟩
  obtain ⟨n0, hn0⟩ : ∃ n0, t.num = n0 := ⟨_, rfl⟩
  obtain ⟨m0, hm0⟩ : ∃ m0, t.kids.length = m0 := ⟨_, rfl⟩
  obtain ⟨k9, hk9⟩ : ∃ k0, u.kind = k0 := ⟨_, rfl⟩
  obtain ⟨n9, hn9⟩ : ∃ n0, u.num = n0 := ⟨_, rfl⟩
  obtain ⟨m9, hm9⟩ : ∃ m0, u.kids.length = m0 := ⟨_, rfl⟩
  have hct := fun w1 (hb : Below w.heap.size w w1) => agree_any t a cap u b cap' w1 hst hsu (hty.below hb hG (fun b h => Nat.lt_of_lt_of_le (hG b h) hb.size)) (hty'.below hb hG (fun b h => Nat.lt_of_lt_of_le (hG b h) hb.size))
  obtain ⟨ok, hok⟩ : ∃ r, (Tp.right t && Tp.right u && Tp.agree t u) = r := ⟨_, rfl⟩
  have HOK := Lib.hid (show Tp.ok t u = ok from hok)
  rw [hok] at hct
  have HBO := Lib.hid (fun pa na ca pb nb cb w => both_any pa na ca pb nb cb w)
  unfold tv at hct ⊢
  rw [hk0, hn0, hm0, hk9, hn9, hm9] at hct
  rw [hk0, hn0, hm0, hk9, hn9, hm9]
  have HCT := Lib.hid hct; have HTY := Lib.hid hty; have HTU := Lib.hid hty'
  have HK0 := Lib.hid hk0; have HN0 := Lib.hid hn0; have HM0 := Lib.hid hm0; have HK9 := Lib.hid hk9; have HN9 := Lib.hid hn9; have HM9 := Lib.hid hm9; have HOK' := Lib.hid hok
  clear hG hct hty hty' hk0 hn0 hm0 hk9 hn9 hm9 hok
  refine callsIn_of_wp_marks Try.func21 rfl trivial ?_ rfl
  simp only [Try.ntmps21, List.size_toArray, List.length_cons, List.length_nil, Nat.reduceAdd, Nat.reduceSub, Array.replicate_succ, Array.replicate_zero, List.push_toArray, List.append_toArray, List.nil_append, List.cons_append]
  obtain ⟨W2, hW2⟩ : ∃ W2, [Obj.cells #[.int .i64 k0, .int .i64 n0, .slice a m0 cap] 24, .cells #[.int .i64 k9, .int .i64 n9, .slice b m9 cap'] 24, .cells #[.int .i64 0, .int .i64 0, .slice none 0 0] 24].foldl World.alloc w = W2 := ⟨_, rfl⟩
  have hb2 : Below w.heap.size w W2 := by rw [← hW2]; exact al_below _ _ (Nat.le_refl _)
  have hx0 : W2.heap[w.heap.size]? = some (.cells #[.int .i64 k0, .int .i64 n0, .slice a m0 cap] 24) := by rw [← hW2]; exact al_get _ w 0 _ rfl
  have hx1 : W2.heap[w.heap.size + 1]? = some (.cells #[.int .i64 k9, .int .i64 n9, .slice b m9 cap'] 24) := by rw [← hW2]; exact al_get _ w 1 _ rfl
  have hx2 : W2.heap[w.heap.size + 1 + 1]? = some (.cells #[.int .i64 0, .int .i64 0, .slice none 0 0] 24) := by rw [← hW2]; exact al_get _ w 2 _ rfl
  have hs2 : W2.heap.size = w.heap.size + 3 := by rw [← hW2]; exact al_size _ _
  have HB2 := Lib.hid hb2; have HX2 := Lib.hid hx2; have HS2 := Lib.hid hs2
  have HW2 := Lib.hid (show ((w.alloc (.cells #[.int .i64 k0, .int .i64 n0, .slice a m0 cap] 24)).alloc (.cells #[.int .i64 k9, .int .i64 n9, .slice b m9 cap'] 24)).alloc (.cells #[.int .i64 0, .int .i64 0, .slice none 0 0] 24) = W2 from hW2)
  have HCELL := Lib.hid (show ∀ w1, Below W2.heap.size W2 w1 → w1.cell? ⟨w.heap.size, 0, none⟩ = some (.int .i64 k0) ∧ w1.cell? ⟨w.heap.size, 1, none⟩ = some (.int .i64 n0) ∧ w1.cell? ⟨w.heap.size, 2, none⟩ = some (.slice a m0 cap) ∧ w1.cell? ⟨w.heap.size + 1, 0, none⟩ = some (.int .i64 k9) ∧ w1.cell? ⟨w.heap.size + 1, 1, none⟩ = some (.int .i64 n9) ∧ w1.cell? ⟨w.heap.size + 1, 2, none⟩ = some (.slice b m9 cap') from fun w1 h =>
    ⟨cell_box hx0 (h.block _ (by omega)) rfl, cell_box hx0 (h.block _ (by omega)) rfl, cell_box hx0 (h.block _ (by omega)) rfl, cell_box hx1 (h.block _ (by omega)) rfl, cell_box hx1 (h.block _ (by omega)) rfl, cell_box hx1 (h.block _ (by omega)) rfl⟩)
  have HLT := Lib.hid (show w.heap.size + 1 + 1 < W2.heap.size from by omega)
  have HGE := Lib.hid (show w.heap.size ≤ w.heap.size + 1 + 1 from by omega)
  clear hb2 hx0 hx1 hx2 hs2 hW2
  gi_upto_region 1 with fail
  rw [HW2.out]
  obtain ⟨c0, c1, c2, d0, d1, d2⟩ := HCELL.out _ (Below.refl _ _)
  cases ok with
  | false =>
    gi_wp2_with (refine ⟨trivial, ?_⟩; gi_at_call 23; (with_reducible refine (callsIn_wide.2 (HCT.out _ HB2.out)).mono ?_); clear c0 c1 c2 d0 d1 d2; rintro e w1 ⟨rfl, hb1⟩; obtain ⟨c0, c1, c2, d0, d1, d2⟩ := HCELL.out w1 hb1; have hr1 := (hb1.block _ HLT.out).trans HX2.out; have r0 : w1.cell? ⟨w.heap.size + 1 + 1, 0, none⟩ = some (.int .i64 0) := cell_box hr1 rfl rfl; have r1 : w1.cell? ⟨w.heap.size + 1 + 1, 1, none⟩ = some (.int .i64 0) := cell_box hr1 rfl rfl; have r2 : w1.cell? ⟨w.heap.size + 1 + 1, 2, none⟩ = some (.slice none 0 0) := cell_box hr1 rfl rfl; have f0 : w1.frozen? ⟨w.heap.size + 1 + 1, 0, none⟩ = false := IsC.frozen ⟨_, _, hr1⟩; have f1 : w1.frozen? ⟨w.heap.size + 1 + 1, 1, none⟩ = false := IsC.frozen ⟨_, _, hr1⟩; have f2 : w1.frozen? ⟨w.heap.size + 1 + 1, 2, none⟩ = false := IsC.frozen ⟨_, _, hr1⟩; have HR1 := Lib.hid hr1; have HB1 := Lib.hid hb1; clear hr1 hb1)
    have hF := box_set3 (v0 := .int .i64 0) (v1 := .int .i64 0) (v2 := .slice none 0 0) HR1.out
    have HF := Lib.hid hF
    have hbF : Below w.heap.size w (((w1.setCell ⟨w.heap.size + 1 + 1, 0, none⟩ (.int .i64 0)).setCell ⟨w.heap.size + 1 + 1, 1, none⟩ (.int .i64 0)).setCell ⟨w.heap.size + 1 + 1, 2, none⟩ (.slice none 0 0)) := (((HB2.out.trans (HB1.out.mono HB2.out.size)).setCell HGE.out _).setCell HGE.out _).setCell HGE.out _
    clear c0 c1 c2 d0 d1 d2 r0 r1 r2 f0 f1 f2
    generalize ((w1.setCell ⟨w.heap.size + 1 + 1, 0, none⟩ (.int .i64 0)).setCell ⟨w.heap.size + 1 + 1, 1, none⟩ (.int .i64 0)).setCell ⟨w.heap.size + 1 + 1, 2, none⟩ (.slice none 0 0) = F at hF HF hbF ⊢
    refine ⟨.tuple #[.agg #[.int .i64 0, .int .i64 0, .slice none 0 0], .bool false], ?_, hbF, .inr ⟨HOK.out, rfl⟩⟩
    rw [results_cell_tmp (p := 4) (u := 5) (ty := 24) (by kernel_rfl)]
    simp [asAddr, Result.andThen, run_loadVar_row F _ 24 24 _ _ _ hF Try.underlying24 rfl (by kernel_rfl)]
  | true =>
    gi_wp2_with (first | (refine ⟨trivial, ?_⟩; gi_at_call 23; (with_reducible refine (callsIn_wide.2 (HCT.out _ HB2.out)).mono ?_); clear c0 c1 c2 d0 d1 d2; rintro e w3 ⟨rfl, hb4⟩; obtain ⟨c0, c1, c2, d0, d1, d2⟩ := HCELL.out w3 hb4; have hz2 : w.heap.size + 1 + 1 < w3.heap.size := Nat.lt_of_lt_of_le HLT.out hb4.size; have hz1 : w.heap.size + 1 < w3.heap.size := Nat.lt_of_succ_lt hz2; have hz0 : w.heap.size < w3.heap.size := Nat.lt_of_succ_lt hz1; have HB4 := Lib.hid hb4; clear hb4) | (refine ⟨trivial, ?_⟩; gi_at_call 34; (with_reducible refine (callsIn_wide.2 (HBO.out _ _ _ _ _ _ _)).mono ?_); rintro e w' ⟨rfl, rfl⟩))
    obtain ⟨W4, hW4⟩ : ∃ W4, [Obj.cells #[.int .i64 k0, .int .i64 n0, .slice a m0 cap] 24, .cells #[.int .i64 k9, .int .i64 n9, .slice b m9 cap'] 24, .cells #[.slice (some ⟨w3.heap.size, 0, none⟩) 1 1] 22, .cells #[.slice (some ⟨w3.heap.size + 1, 0, none⟩) 1 1] 22].foldl World.alloc w3 = W4 := ⟨_, rfl⟩
    rw [show (((w3.alloc (.cells #[.int .i64 k0, .int .i64 n0, .slice a m0 cap] 24)).alloc (.cells #[.int .i64 k9, .int .i64 n9, .slice b m9 cap'] 24)).alloc (.cells #[.slice (some ⟨w3.heap.size, 0, none⟩) 1 1] 22)).alloc (.cells #[.slice (some ⟨w3.heap.size + 1, 0, none⟩) 1 1] 22) = W4 from hW4]
    have hs4 : W4.heap.size = w3.heap.size + 4 := by rw [← hW4]; exact al_size _ _
    have hb34 : Below w3.heap.size w3 W4 := by rw [← hW4]; exact al_below _ _ (Nat.le_refl _)
    have hy0 : W4.heap[w3.heap.size]? = some (.cells #[.int .i64 k0, .int .i64 n0, .slice a m0 cap] 24) := by rw [← hW4]; exact al_get _ w3 0 _ rfl
    have hy1 : W4.heap[w3.heap.size + 1]? = some (.cells #[.int .i64 k9, .int .i64 n9, .slice b m9 cap'] 24) := by rw [← hW4]; exact al_get _ w3 1 _ rfl
    have hy2 : W4.heap[w3.heap.size + 1 + 1]? = some (.cells #[.slice (some ⟨w3.heap.size, 0, none⟩) 1 1] 22) := by rw [← hW4]; exact al_get _ w3 2 _ rfl
    have hy3 : W4.heap[w3.heap.size + 1 + 1 + 1]? = some (.cells #[.slice (some ⟨w3.heap.size + 1, 0, none⟩) 1 1] 22) := by rw [← hW4]; exact al_get _ w3 3 _ rfl
    have hbw4 : Below w.heap.size w W4 := (HB2.out.trans (HB4.out.mono HB2.out.size)).trans (hb34.mono (Nat.le_of_lt hz0))
    have hr4 : W4.heap[w.heap.size + 1 + 1]? = some (.cells #[.int .i64 0, .int .i64 0, .slice none 0 0] 24) := (hb34.block _ hz2).trans ((HB4.out.block _ HLT.out).trans HX2.out)
    have hLw : ∀ k, G k → G0 Gx W4.heap.size w3.heap.size (w.heap.size + 1 + 1) k := fun k h => by have : k < w.heap.size := HG.out k h; exact ⟨by omega, by omega, by omega, HGY.out k h⟩
    have htx : XAt (G0 Gx W4.heap.size w3.heap.size (w.heap.size + 1 + 1)) W4 W4 t w3.heap.size 0 := ⟨a, cap, HTY.out.below hbw4 HG.out hLw, by rw [HK0.out]; exact cell_box hy0 rfl rfl, by rw [HN0.out]; exact cell_box hy0 rfl rfl, by rw [HM0.out]; exact cell_box hy0 rfl rfl⟩
    have hun : NodeAt (G0 Gx W4.heap.size w3.heap.size (w.heap.size + 1 + 1)) W4 u (w3.heap.size + 1) 0 := NodeAt.mk' (HTU.out.below hbw4 HG.out hLw) (by rw [HK9.out]; exact cell_box hy1 rfl rfl) (by rw [HN9.out]; exact cell_box hy1 rfl rfl) (by rw [HM9.out]; exact cell_box hy1 rfl rfl)
    have hoks : Tp.right t = true ∧ Tp.right u = true ∧ Tp.agree t u = true := by have := HOK'.out; simp only [Bool.and_eq_true] at this; exact ⟨this.1.1, this.1.2, this.2⟩
    have hwf : (⟨t, u, [], [], w3.heap.size, 0, 1, w3.heap.size + 1, 0, 1⟩ : En).wf := ⟨rfl, Nat.le_refl _, by show 1 ≤ maxLen; unfold maxLen; omega, Nat.le_refl _, by show 1 ≤ maxLen; unfold maxLen; omega⟩
    have hem : EnM (G0 Gx W4.heap.size w3.heap.size (w.heap.size + 1 + 1)) W4 ⟨t, u, [], [], w3.heap.size, 0, 1, w3.heap.size + 1, 0, 1⟩ :=
      ⟨hwf, by simp only [KidsAt]; exact ⟨_, _, rfl, (show G0 Gx W4.heap.size w3.heap.size (w.heap.size + 1 + 1) (w3.heap.size + 1) from ⟨by omega, by omega, by omega, HGX.out _ (by omega)⟩), hun, trivial⟩, by simp [Tp.rights, hoks.1], by simp [Tp.rights, hoks.2.1]⟩
    have hmj : MJ Gx W4.heap.size w3.heap.size (w.heap.size + 1 + 1) w W4 (Tp.meet t u) (fun _ => False) [⟨t, u, [], [], w3.heap.size, 0, 1, w3.heap.size + 1, 0, 1⟩] W4 := by
      refine ⟨⟨fun k => k = w3.heap.size, fun k hk => by obtain rfl : k = w3.heap.size := hk; exact ⟨.inl rfl, by omega, fun h => h, ⟨_, _, hy0⟩⟩, ?_⟩, fun e he => List.mem_singleton.1 he ▸ hem, by simp [enTodo, Tp.agz, hoks.2.2], Nat.le_refl _, hbw4, hr4, fun h => h⟩
      have hpd : pend [⟨t, u, [], [], w3.heap.size, 0, 1, w3.heap.size + 1, 0, 1⟩] = [⟨w3.heap.size, 0, t, u⟩] := rfl
      rw [hpd]
      exact ⟨fun p hp => by rw [List.mem_singleton.1 hp], fun k hk hg => hg.2.1 hk, fun _ _ _ => rfl, fun p hp => by rw [List.mem_singleton.1 hp]; exact htx, List.pairwise_singleton _ _, fun V' _ hl => hl ⟨w3.heap.size, 0, t, u⟩ (by simp)⟩
    have hwm : w.heap.size ≤ w3.heap.size := Nat.le_of_lt hz0
    have hmn : w3.heap.size < W4.heap.size := by omega
    have HMJ := Lib.hid hmj; have HBW4 := Lib.hid hbw4; have HS4 := Lib.hid hs4; have HZ2 := Lib.hid hz2; have HWM := Lib.hid hwm; have HMN := Lib.hid hmn
    clear hmj hbw4 hr4 hLw htx hun hb34 hW4 c0 c1 c2 d0 d1 d2 hz0 hz1 hz2 hem hoks hwm hmn hy0 hy1
    refine wpIn_range_st (gf := 38) (lb := #[.pointer (some ⟨w3.heap.size + 1 + 1, 0, none⟩), .pointer (some ⟨w3.heap.size + 1 + 1 + 1, 0, none⟩)]) rfl (enters_of Try.func38 (by kernel_rfl) rfl)
      (both_seq ⟨t, u, [], [], w3.heap.size, 0, 1, w3.heap.size + 1, 0, 1⟩ hwf (by simp only [enSz, List.map_cons, List.map_nil, Tp.sizes, List.sum_cons, List.sum_nil]; omega) (fun _ => True) (w3.heap.size + 1 + 1) (w3.heap.size + 1 + 1 + 1) W4 hy2 hy3)
      (fun s x A B s' h hg => hg.moved h) (Below.refl _ _) (fun _ _ => trivial) (fun _ => rfl)
      (fun M s V => MJ Gx W4.heap.size w3.heap.size (w.heap.size + 1 + 1) w W4 (Tp.meet t u) M s V)
      (fun _ _ _ _ => False)
      (fun x a' _ _ => a' = { tmps := #[.agg #[.int .i64 k0, .int .i64 n0, .slice a m0 cap], .agg #[.int .i64 k9, .int .i64 n9, .slice b m9 cap'], .pointer (some ⟨w.heap.size, 0, none⟩), .pointer (some ⟨w.heap.size + 1, 0, none⟩), .pointer (some ⟨w.heap.size + 1 + 1, 0, none⟩), .bool false, .slice (some ⟨w3.heap.size, 0, none⟩) 1 1, .pointer x.px, .pointer x.py, .agg #[.int .i64 k0, .int .i64 n0, .slice a m0 cap], .agg #[.int .i64 k9, .int .i64 n9, .slice b m9 cap'], .bool true, .bool false, undef, .agg #[.int .i64 k0, .int .i64 n0, .slice a m0 cap], .slice (some ⟨w3.heap.size, 0, none⟩) 1 1, .slice (some ⟨w3.heap.size, 0, none⟩) 1 1, .agg #[.int .i64 k9, .int .i64 n9, .slice b m9 cap'], .slice (some ⟨w3.heap.size + 1, 0, none⟩) 1 1, .func (.func 38) #[] #[.pointer (some ⟨w3.heap.size + 1 + 1, 0, none⟩), .pointer (some ⟨w3.heap.size + 1 + 1 + 1, 0, none⟩)], .pointer x.px, .pointer x.py, undef, undef, undef, undef, undef, undef, undef, undef, undef, undef, undef, undef, undef, undef, undef, undef, undef, undef, undef, undef, undef, undef, undef, undef, undef, undef, undef, undef], defers := [] })
      (fun s => MJ.ab HBW4.out.size s) (fun _ _ => Ab.pure _ _) (fun _ _ => Ab.pure _ _) HMJ.out ?rd ?assign ?body ?done ?stop
    case rd =>
      rintro M s V hmj _ _ e r rfl
      obtain ⟨⟨_, _, _, h1, _⟩, ⟨_, _, _, h2, _⟩, _⟩ := hmj.heads
      exact ⟨h1, h2⟩
    case assign =>
      intro l M s x V K hi hM hle hok hK
      clear hi hok hy2 hy3 hs4
      gi_wp2
      exact hK _ _ (Turns.refl _ _) (by simp [enEnc])
    case body =>
      rintro l M s x a' V hmj hM hle ⟨r, rfl⟩ rfl
      obtain ⟨⟨xa, xc, hxt, x0, x1, x2⟩, ⟨ya, yc, hyt, y0, y1, y2⟩, hIC, hnM, how, hxr, hyr, hfit, hxl, hyg⟩ := hmj.heads
      have HMJ' := Lib.hid hmj; have HM := Lib.hid hM; have HXT := Lib.hid hxt; have HYT := Lib.hid hyt; have HIC := Lib.hid hIC; have HNM := Lib.hid hnM; have HXR := Lib.hid hxr; have HYR := Lib.hid hyr; have HFIT := Lib.hid hfit; have HXL := Lib.hid hxl; have HYG := Lib.hid hyg
      have HX0 := Lib.hid x0; have HX1 := Lib.hid x1; have HX2' := Lib.hid x2; have HY0 := Lib.hid y0; have HY1 := Lib.hid y1; have HY2 := Lib.hid y2
      have f0 : V.frozen? ⟨x.xb, x.xo, none⟩ = false := hIC.frozen
      have f1 : V.frozen? ⟨x.xb, x.xo + 1, none⟩ = false := hIC.frozen
      have f2 : V.frozen? ⟨x.xb, x.xo + 2, none⟩ = false := hIC.frozen
      clear hmj hM hxt hyt hIC hnM how hxr hyr hfit hxl hyg hy2 hy3 hs4 hle
      by_cases hx5 : x.x.kind = 5
      · have HD := Lib.hid (HMJ'.out.dyn HWM.out HMN.out HZ2.out hx5 HYT.out)
        have hgo := Lib.hid (show ∀ V', enGo (x :: r) x V' (x.next ++ r) from fun V' => ⟨r, rfl, .inl ⟨by simp [Tp.ends, hx5], rfl⟩⟩)
        rw [hx5] at x0
        clear hx5
        obtain ⟨ky, hky⟩ : ∃ y, x.y.kind = y := ⟨_, rfl⟩
        obtain ⟨ny, hny⟩ : ∃ y, x.y.num = y := ⟨_, rfl⟩
        obtain ⟨my, hmy⟩ : ∃ y, x.y.kids.length = y := ⟨_, rfl⟩
        rw [hky, hny, hmy] at HD
        rw [hky] at y0; rw [hny] at y1; rw [hmy] at y2
        clear hky hny hmy
        simp only [En.px, En.py]
        gi_wp2
        refine ⟨?_, x.next ++ r, hgo.out _, HD.out⟩
        exact (((set_turns V ⟨x.xb, x.xo, none⟩ _).trans (set_turns _ ⟨x.xb, x.xo + 1, none⟩ _)).trans (set_turns _ ⟨x.xb, x.xo + 2, none⟩ _)).mono (fun k _ hk => ⟨trivial, by rw [show k = x.xb from hk]; exact HNM.out⟩)
      · have g5 : (x.x.kind == 5) = false := by simp [hx5]
        by_cases hy5 : x.y.kind = 5
        · have HD := Lib.hid (HMJ'.out.same HWM.out HMN.out HZ2.out hx5 hy5)
          have hgo := Lib.hid (show ∀ V', enGo (x :: r) x V' (x.next ++ r) from fun V' => ⟨r, rfl, .inl ⟨by simp [Tp.ends, hy5], rfl⟩⟩)
          rw [hy5] at y0
          clear hx5 hy5
          simp only [En.px, En.py]
          gi_wp2
          exact ⟨Turns.refl _ _, x.next ++ r, hgo.out _, HD.out⟩
        · have g6 : (x.y.kind == 5) = false := by simp [hy5]
          obtain ⟨news, n1, n2, n3, n4⟩ := HMJ'.out.news HXT.out.2.2.2.2
          have hcl := cloneT_row x.x.kids xa xc news V (kids_two HXR.out) n1 HXT.out.2.2.2.2 n2 n3
          obtain ⟨kx, hkx⟩ : ∃ y, x.x.kind = y := ⟨_, rfl⟩
          obtain ⟨ky, hky⟩ : ∃ y, x.y.kind = y := ⟨_, rfl⟩
          obtain ⟨mx, hmx⟩ : ∃ y, x.x.kids.length = y := ⟨_, rfl⟩
          rw [hmx] at hcl x2
          rw [hkx] at g5 x0; rw [hky] at g6 y0
          have HCL := Lib.hid hcl; have HN4 := Lib.hid n4; have HX5 := Lib.hid hx5; have HY5 := Lib.hid hy5
          clear hkx hky hmx hcl n1 n2 n3 n4 hx5 hy5 x1 y1 y2 f0 f1 f2
          simp only [En.px, En.py]
          gi_wp2_with (refine ⟨trivial, ?_⟩; gi_at_call 35; (with_reducible refine (CallsIn.inRound l (callsIn_wide.2 HCL.out)).mono ?_); clear x0 x2 y0; rintro e w5 ⟨v', rfl, hb5, hcase⟩; obtain ⟨sa, sn, sc, hv⟩ : ∃ a n c, v' = .slice a n c := hcase.elim (fun ⟨_, a, c, h, _⟩ => ⟨a, 0, c, h⟩) (fun ⟨_, _, h, _⟩ => ⟨_, _, _, h⟩); subst hv; have h5 := HMJ'.out.later HBW4.out.size HM.out (Turns.of_below' hb5); have hd5 := h5.heads; obtain ⟨⟨_, _, _, _, _, z2⟩, _, hIC5, _⟩ := hd5; have fz2 : w5.frozen? ⟨x.xb, x.xo + 2, none⟩ = false := hIC5.frozen; have HB5 := Lib.hid hb5; have HCASE := Lib.hid hcase; clear hb5 hcase h5 hIC5)
          exact HMJ'.out.cloned HGX.out HWM.out HMN.out HZ2.out HM.out HX5.out HY5.out HYT.out HY2.out HN4.out HB5.out HCASE.out
    case done =>
      rintro D M s V hD hMD hM rfl hmj hK
      obtain ⟨⟨Ow, ho, hinv⟩, _, _, hbig, hbel, hbox⟩ := hmj
      have hroot := hinv.fin V (fun _ _ _ _ => rfl) (fun p hp => by simp [pend] at hp)
      obtain ⟨ma, mc, hmt, m0', m1', m2'⟩ := hroot.ty
      obtain ⟨mk, hmk⟩ : ∃ y, (Tp.meet t u).kind = y := ⟨_, rfl⟩
      obtain ⟨mn, hmn'⟩ : ∃ y, (Tp.meet t u).num = y := ⟨_, rfl⟩
      obtain ⟨ml, hml⟩ : ∃ y, (Tp.meet t u).kids.length = y := ⟨_, rfl⟩
      rw [hmk] at m0'; rw [hmn'] at m1'; rw [hml] at m2'
      have r0 : V.cell? ⟨w.heap.size + 1 + 1, 0, none⟩ = some (.int .i64 0) := cell_box hbox.1 rfl rfl
      have r1 : V.cell? ⟨w.heap.size + 1 + 1, 1, none⟩ = some (.int .i64 0) := cell_box hbox.1 rfl rfl
      have r2 : V.cell? ⟨w.heap.size + 1 + 1, 2, none⟩ = some (.slice none 0 0) := cell_box hbox.1 rfl rfl
      have f0 : V.frozen? ⟨w.heap.size + 1 + 1, 0, none⟩ = false := IsC.frozen ⟨_, _, hbox.1⟩
      have f1 : V.frozen? ⟨w.heap.size + 1 + 1, 1, none⟩ = false := IsC.frozen ⟨_, _, hbox.1⟩
      have f2 : V.frozen? ⟨w.heap.size + 1 + 1, 2, none⟩ = false := IsC.frozen ⟨_, _, hbox.1⟩
      have hDr : w.heap.size + 1 + 1 ≠ D := by have := HZ2.out; omega
      have HMT := Lib.hid hmt; have HK' := Lib.hid hK; have HBX := Lib.hid hbox.1; have HBEL := Lib.hid hbel; have HD := Lib.hid hD; have HMK := Lib.hid hmk; have HMN' := Lib.hid hmn'; have HML := Lib.hid hml; have HDR := Lib.hid hDr
      clear hmt hK hbox hbel hD hmk hmn' hml ho hinv hbig hroot hMD hM hy2 hy3 hs4 hDr
      gi_wp2
      have hF := box_set3 (v0 := .int .i64 mk) (v1 := .int .i64 mn) (v2 := .slice ma ml mc) HBX.out
      have hT := set3_turns V (w.heap.size + 1 + 1) (.int .i64 mk) (.int .i64 mn) (.slice ma ml mc)
      have hO := fun k (hk : k ≠ w.heap.size + 1 + 1) => set3_other (V := V) (v0 := .int .i64 mk) (v1 := .int .i64 mn) (v2 := .slice ma ml mc) hk
      clear r0 r1 r2 f0 f1 f2 m0' m1' m2'
      generalize ((V.setCell ⟨w.heap.size + 1 + 1, 0, none⟩ (.int .i64 mk)).setCell ⟨w.heap.size + 1 + 1, 1, none⟩ (.int .i64 mn)).setCell ⟨w.heap.size + 1 + 1, 2, none⟩ (.slice ma ml mc) = F at hF hT hO ⊢
      have hKF := (hO D (fun e => HDR.out e.symm)).trans HK'.out
      refine ⟨by simp, .inl ⟨_, _, rfl, run_takeDeferred hKF, ?_⟩⟩
      have hgF : (F.putObj D (.deferred none)).heap[w.heap.size + 1 + 1]? = _ := (World.putObj_heap_other HDR.out).trans hF
      obtain ⟨F2, hF2⟩ : ∃ F2, F.putObj D (.deferred none) = F2 := ⟨_, rfl⟩
      have hDl : D < F.heap.size := (Array.getElem?_eq_some_iff.1 hKF).1
      have hD2 : F2.heap[D]? = some (.deferred none) := by rw [← hF2]; exact World.putObj_heap_same hDl
      have hO2 : ∀ k, k ≠ w.heap.size + 1 + 1 → k ≠ D → F2.heap[k]? = V.heap[k]? := fun k h1 h2 => by rw [← hF2]; exact (World.putObj_heap_other h2).trans (hO k h1)
      have hT2 : Turns (fun k => w.heap.size ≤ k) V F2 := by
        rw [← hF2]
        exact (hT.mono (fun k _ hk => by rw [show k = w.heap.size + 1 + 1 from hk]; exact HGE.out)).trans (Turns.putObj F D _ (by have := HD.out; have := HBW4.out.size; omega))
      have hbl : Below w.heap.size w F2 := hT2.below HBEL.out (fun _ h => h) HBEL.out.size
      rw [hF2] at hgF ⊢
      have hty : TyAt (fun b => G b ∨ (w.heap.size ≤ b ∧ b < F2.heap.size)) F2 (Tp.meet t u) ma mc := by
        obtain ⟨q1, q2, q3, q4, q5⟩ := HMT.out
        refine ⟨q1, q2, q3, q4, KidsAt.mono (fun b o hb => ?_) (fun b hb => (HGZ.out b hb.1.2).imp id (fun h => ⟨h, Nat.lt_of_lt_of_le hb.2 hT2.size⟩)) _ _ (KidsAt.real _ _ q5)⟩
        by_cases e : b = D
        · subst e
          rw [show F2.cell? ⟨b, o, none⟩ = none from by simp [World.cell?, hD2], show V.cell? ⟨b, o, none⟩ = none from by simp [World.cell?, HK'.out]]
        · exact World.cell?_of_block (a := ⟨b, o, none⟩) (hO2 b hb.1.1 e)
      refine ⟨.tuple #[.agg #[.int .i64 mk, .int .i64 mn, .slice ma ml mc], .bool true], ?_, hbl, .inl ⟨HOK.out, ma, mc, ?_, hty⟩⟩
      · rw [results_cell_tmp (p := 4) (u := 5) (ty := 24) (by kernel_rfl)]
        simp [asAddr, Result.andThen, run_loadVar_row F2 _ 24 24 _ _ _ hgF Try.underlying24 rfl (by kernel_rfl)]
      · unfold tv
        rw [HMK.out, HMN'.out, HML.out]
    case stop =>
      rintro D M c s V hD hMD hM h hK
      exact h.elim
end Go.Proofs.Ytcnnahmchjeakaa
