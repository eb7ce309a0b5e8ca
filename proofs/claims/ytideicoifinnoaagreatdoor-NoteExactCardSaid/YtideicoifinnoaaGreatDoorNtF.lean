/- note.Text: what its loop keeps. -/
import Derived.Test.YtideicoifinnoaaGreatDoorNtA
import Derived.Test.YtideicoifinnoaaGreatDoorNtD
import Derived.Test.YtideicoifinnoaaGreatDoorNtE
import Derived.Test.YtideicoifinnoaaGreatDoorTyS
namespace Go.Proofs.YtideicoifinnoaaGreatDoor
open Go Go.RowKit
open Tp (T)
open Nt (Pc)

theorem I64.wd {n : Int} (h : I64 n) : Wd.inI64 n := by unfold I64 at h; unfold Wd.inI64; omega
/-- A right type: a leaf, a list, a pair or a function. -/
theorem right_cases : ∀ t : T, Tp.right t = true → (0 ≤ t.num ∧ t.num ≤ 1048576) ∧ (t.kids = [] ∨ (∃ n x, t = .mk 8 n [x] ∧ Tp.right x = true) ∨ (∃ k n x y, (k = 7 ∨ k = 9) ∧ t = .mk k n [x, y] ∧ Tp.right x = true ∧ Tp.right y = true))
  | .mk k n l, h => by
    simp only [Tp.right, Tp.nodeRight, Bool.and_eq_true, Bool.or_eq_true, decide_eq_true_eq] at h
    obtain ⟨⟨⟨⟨h1, h2⟩, h3⟩, _⟩, h5⟩ := h
    refine ⟨⟨h2, h3⟩, ?_⟩
    match l, h1, h5 with
    | [], _, _ => exact .inl rfl
    | [x], h1, h5 =>
      simp only [Tp.arity, List.length_cons, List.length_nil] at h1
      have hk : k = 8 := by (repeat' split at h1) <;> first | assumption | omega
      subst hk
      simp only [Tp.rights, Bool.and_eq_true] at h5
      exact .inr (.inl ⟨n, x, rfl, h5.1⟩)
    | [x, y], h1, h5 =>
      simp only [Tp.arity, List.length_cons, List.length_nil] at h1
      have hk : k = 7 ∨ k = 9 := by (repeat' split at h1) <;> first | assumption | omega
      simp only [Tp.rights, Bool.and_eq_true] at h5
      exact .inr (.inr ⟨k, n, x, y, hk, rfl, h5.1, h5.2.1⟩)
    | x :: y :: z :: r, h1, _ =>
      exfalso
      simp only [Tp.arity, List.length_cons] at h1
      (repeat' split at h1) <;> omega
mutual
theorem right_fits : ∀ t : T, Tp.right t = true → Nt.fits t
  | .mk k n l, h => by
    have h1 := (right_cases _ h).1
    simp only [Tp.T.num] at h1
    simp only [Tp.right, Bool.and_eq_true] at h
    exact ⟨by unfold Wd.inI64; omega, rights_fits l h.2⟩
theorem rights_fits : ∀ l : List T, Tp.rights l = true → Nt.fitss l
  | [], _ => trivial
  | t :: r, h => by
    simp only [Tp.rights, Bool.and_eq_true] at h
    exact ⟨right_fits t h.1, rights_fits r h.2⟩
end
/-- What may lie on the stack. -/
def PcOk (n0 : Nat) (w0 : World) (p : Pc) : Prop := (∃ s, p = Nt.txt s) ∨ (p.s = [] ∧ Tp.right p.t = true ∧ TyAt (LT n0) w0 p.t p.a p.cap)
theorem enc_ok {n0 : Nat} {w0 : World} {t : T} {a : Option Addr} {cap : Nat} (hr : Tp.right t = true) (h : TyAt (LT n0) w0 t a cap) : ∀ p ∈ Nt.enc t a cap, PcOk n0 w0 p := by
  intro p hp
  unfold Nt.enc at hp
  split at hp
  · simp only [List.mem_singleton] at hp; subst hp; exact .inr ⟨rfl, hr, h⟩
  · simp only [List.mem_cons, List.not_mem_nil, or_false] at hp
    rcases hp with rfl | rfl | rfl
    · exact .inl ⟨_, rfl⟩
    · exact .inr ⟨rfl, hr, h⟩
    · exact .inl ⟨_, rfl⟩
/-- The builder stays where the blocks of its types stay. -/
theorem bld_same {B b : Nat} {bs : List Value} {w w' : World} (h : Lib.IsBuilder 45 5 B b bs w)
    (hs : ∀ (k : Nat) (cur : Array Value) (t : TypeId) (fz : Nat × Nat), (t = 45 ∨ t = 5) → w.heap[k]? = some (Obj.cells cur t fz) → w'.heap[k]? = w.heap[k]?) : Lib.IsBuilder 45 5 B b bs w' := by
  have key : ∀ p, Lib.BuilderAt 45 5 B b p bs w → Lib.BuilderAt 45 5 B b p bs w' := by
    rintro p ⟨h1, v, h2, h3, h4⟩
    refine ⟨h1, v, (hs b _ _ _ (.inl rfl) h2).trans h2, ?_, h4⟩
    obtain ⟨e1, e2 | ⟨g, cap, cur, e3, e4, e5, e6⟩⟩ := h3
    · exact ⟨e1, .inl e2⟩
    · exact ⟨e1, .inr ⟨g, cap, cur, e3, e4, (hs g _ _ _ (.inr rfl) e5).trans e5, e6⟩⟩
  exact h.imp (key _) (key _)
theorem bld_below {B b : Nat} {bs : List Value} {w w' : World} (h : Lib.IsBuilder 45 5 B b bs w) (hb : Below w.heap.size w w') : Lib.IsBuilder 45 5 B b bs w' :=
  bld_same h fun k _ _ _ _ hk => hb.block k (Array.getElem?_eq_some_iff.1 hk).1
/-- Behind an append onto a row of pieces. -/
theorem bld_grown {B b g n cap : Nat} {bs : List Value} {w w' : World} {xs : List Value} (h : Lib.IsBuilder 45 5 B b bs w) (hg : w.grownBy w' (some g)) (hown : w.ownsRow B 47 4 (.slice (some ⟨g, 0, none⟩) n cap) n xs) : Lib.IsBuilder 45 5 B b bs w' :=
  bld_same h fun k cur t fz ht hk => by
    refine hg.block k (Array.getElem?_eq_some_iff.1 hk).1 (fun e => ?_)
    injection e with e
    subst e
    obtain ⟨_, ⟨h1, _⟩ | ⟨g', _, _, h1, _, h3, _⟩⟩ := hown
    · cases h1
    · injection h1 with h1
      injection h1 with h1
      injection h1 with h1
      subst h1
      rw [h3] at hk
      injection hk with hk
      injection hk with _ hk
      subst hk
      rcases ht with ht | ht <;> revert ht <;> decide
/-- A row of pieces stays where the builder is written. -/
theorem PcRow.keeps {B b : Nat} {bs : List Value} {w w' : World} {v : Value} {l : List Pc} (h : PcRow B w v l) (hb : Lib.IsBuilder 45 5 B b bs w) (hk : Keeps b w w') : PcRow B w' v l :=
  own_same h fun g hg => by
    obtain ⟨_, ⟨h1, _⟩ | ⟨g', _, cur, h1, _, h3, _⟩⟩ := id h
    · rw [h1] at hg; cases hg
    · rw [h1] at hg
      injection hg with hg
      subst hg
      refine hk g' (Array.getElem?_eq_some_iff.1 h3).1 (fun e => ?_) (fun c f e => ?_)
      · subst e
        rcases hb with ⟨_, v', hb, _⟩ | ⟨_, v', hb, _⟩ <;>
        · rw [h3] at hb
          injection hb with hb
          injection hb with _ hb
          revert hb; decide
      · rw [h3] at e
        injection e with e
        injection e with _ e
        revert e; decide
/-- The top of the stack, and the stack without it. -/
theorem pc_top {w : World} {base : Nat} {v : Value} {R : List Pc} {p : Pc} (h : PcRow base w v (p :: R).reverse) :
    ∃ g cap, v = .slice (some ⟨g, 0, none⟩) (R.length + 1) cap ∧ base ≤ g ∧ g < w.heap.size ∧ R.length + 1 ≤ cap ∧ cap ≤ maxLen ∧ w.cell? ⟨g, R.length * 4, none⟩ = some (.int .i64 p.t.kind) ∧ w.cell? ⟨g, R.length * 4 + 1, none⟩ = some (.int .i64 p.t.num) ∧
      w.cell? ⟨g, R.length * 4 + 2, none⟩ = some (.slice p.a p.t.kids.length p.cap) ∧ w.cell? ⟨g, R.length * 4 + 3, none⟩ = some (.string ⟨p.s.toArray⟩) ∧ PcRow base w (.slice (some ⟨g, 0, none⟩) R.length cap) R.reverse := by
  unfold PcRow at h ⊢
  rw [List.reverse_cons, pcCells_append, pcCells_cons, pcCells_nil, List.append_nil, List.length_append, List.length_reverse] at h
  obtain ⟨h1, h2 | ⟨g, cap, cur, h3, h4, h5, h6, h7, h8, h9⟩⟩ := id h
  · simp at h2
  · subst h3
    have hlen := pcCells_len R.reverse
    rw [List.length_reverse] at hlen
    have hc := h.cells (g := g) rfl
    have key : ∀ j u, (pcRow p)[j]? = some u → w.cell? ⟨g, R.length * 4 + j, none⟩ = some u := fun j u hu => by
      have := hc (R.length * 4 + j) u (by rw [List.getElem?_append_right (by omega), hlen, Nat.add_sub_cancel_left]; exact hu)
      rwa [add_flat, Nat.zero_add] at this
    exact ⟨g, cap, rfl, h4, (Array.getElem?_eq_some_iff.1 h5).1, h6, h7, key 0 _ rfl, key 1 _ rfl, key 2 _ rfl, key 3 _ rfl, by rw [List.length_reverse]; exact own_take h (Nat.le_succ _) hlen⟩
theorem text_kids {t : T} (h : t.kids = []) : Nt.text t = Nt.leafTx t.kind t.num := by
  cases t with
  | mk k n l => simp only [Tp.T.kids] at h; subst h; exact Nt.text_leaf k n
/-- What note.pieces hands back, of a right type that has kids. -/
theorem pieces_any (t : T) (a : Option Addr) (cap n0 : Nat) (w0 w : World) (hr : Tp.right t = true) (hk : t.kids ≠ []) (h : TyAt (LT n0) w0 t a cap) (hb : Below n0 w0 w) (hn0 : n0 ≤ w.heap.size) :
    Calls Tryz.prog 18 #[tv t a cap] w fun e w' => ∃ v l, e = .returned v ∧ PcRow w.heap.size w' v l ∧ 0 < l.length ∧ l.length ≤ 7 ∧ Nt.rens l = Nt.text t ∧ Nt.wts l < 8 * Tp.size t ∧ (∀ p ∈ l, PcOk n0 w0 p) ∧ Below w.heap.size w w' := by
  rcases (right_cases t hr).2 with h0 | ⟨n, x, rfl, hx⟩ | ⟨k, n, x, y, hkk, rfl, hx, hy⟩
  · exact absurd h0 hk
  · refine (pieces_one n x a cap n0 w0 w h hb hn0).mono ?_
    rintro e w' ⟨v, xa, xc, rfl, hrow, htx, hb'⟩
    refine ⟨v, _, rfl, hrow, by simp, ?_, ?_, ?_, ?_, hb'⟩
    · have := enc_le x xa xc; simp; omega
    · rw [Nt.rens_append, Nt.rens_enc, Nt.rens_cons, Nt.rens_nil, Nt.ren_txt, List.append_nil, Nt.text_one]
    · rw [Nt.wts_append, Nt.wts_cons, Nt.wts_nil, Nt.wt_txt]
      have := Nt.wts_enc x xa xc
      simp only [Tp.size, Tp.sizes]
      omega
    · intro p hp
      rcases List.mem_append.1 hp with hp | hp
      · exact enc_ok hx htx p hp
      · simp only [List.mem_singleton] at hp; subst hp; exact .inl ⟨_, rfl⟩
  · refine (pieces_two k hkk n x y a cap n0 w0 w h hb hn0).mono ?_
    rintro e w' ⟨v, xa, xc, ya, yc, rfl, hrow, htx, hty, hb'⟩
    refine ⟨v, _, rfl, hrow, by simp; omega, ?_, ?_, ?_, ?_, hb'⟩
    · have := enc_le x xa xc; have := enc_le y ya yc; simp; omega
    · rw [Nt.rens_append, Nt.rens_enc, Nt.rens_cons, Nt.ren_txt, Nt.rens_enc, Nt.text_two]
    · rw [Nt.wts_append, Nt.wts_cons, Nt.wt_txt]
      have := Nt.wts_enc x xa xc
      have := Nt.wts_enc y ya yc
      simp only [Tp.size, Tp.sizes]
      omega
    · intro p hp
      rcases List.mem_append.1 hp with hp | hp
      · exact enc_ok hx htx p hp
      · rcases List.mem_cons.1 hp with rfl | hp
        · exact .inl ⟨_, rfl⟩
        · exact enc_ok hy hty p hp
end Go.Proofs.YtideicoifinnoaaGreatDoor
