/- prec.below: two types gone down at once, by a stack of the call's own: what the walk needs. -/
import Derived.Test.YtgambiohchcfdaaPrP
import Derived.Test.YtgambiohchcfdaaTrE
import Derived.Test.YtgambiohchcfdaaArP
import Derived.Deep.RegionHeld3
import Derived.Deep.DeepCutAuto
import Derived.Deep.CutRange
import Derived.Deep.RegionLaw
namespace Go.Proofs.Ytgambiohchcfdaa
open Go Go.RowKit
open Tp (T)

/-- A pair that is still to be looked at. -/
structure En3 where
  x : T
  a : Option Addr
  ca : Nat
  y : T
  b : Option Addr
  cb : Nat
def en3Cells (e : En3) : List Value := [.int .i64 e.x.kind, .int .i64 e.x.num, .slice e.a e.x.kids.length e.ca, .int .i64 e.y.kind, .int .i64 e.y.num, .slice e.b e.y.kids.length e.cb]
def st3Cells (S : List En3) : List Value := S.flatMap en3Cells
theorem st3Cells_length : ∀ S : List En3, (st3Cells S).length = S.length * 6
  | [] => rfl
  | e :: r => by
    have := st3Cells_length r
    simp only [st3Cells, List.flatMap_cons, List.length_append, List.length_cons, en3Cells, List.length_nil] at this ⊢
    omega
theorem st3Cells_snoc (S : List En3) (e : En3) : st3Cells (S ++ [e]) = st3Cells S ++ en3Cells e := by simp [st3Cells]
def En3.key (e : En3) : T × T := (e.x, e.y)
def En3.good (n : Nat) (w : World) (e : En3) : Prop := TyAt (LT n) w e.x e.a e.ca ∧ TyAt (LT n) w e.y e.b e.cb ∧ Tp.right e.x = true ∧ Tp.right e.y = true
def psz (R : List En3) : Nat := (R.map fun e => Tp.size e.x).sum
theorem elem_pr : Try.prog.underlying 93 = some (.slice (Try.prog.elem 93)) := by kernel_rfl
theorem size_pr (w : World) : (sizeOf (Try.prog.elem 93)).run Try.prog w = .ok 6 w := by kernel_rfl
theorem info_pr : (Try.prog.info? 92).map (fun i => (i.zero, i.size, i.bytes)) = some (some (.agg #[.int .i64 0, .int .i64 0, .slice none 0 0, .int .i64 0, .int .i64 0, .slice none 0 0]), 6, 80) := by kernel_rfl
theorem pr_pop (g n cap k : Nat) (hk : k ≤ n) (hn : n ≤ cap) (w' : World) :
    (Instr.slice 93 (.slice (some ⟨g, 0, none⟩) n cap) none (some (.int .i64 (k : Int))) none).run Try.prog w' = .ok (.slice (some ⟨g, 0, none⟩) k cap) w' := by
  rw [run_slice_h w' _ _ n cap elem_pr .i64 (k : Int) (by omega) (by omega), size_pr]
  simp [Result.andThen, sliced, add_flat]
theorem own_top3 {w : World} {base : Nat} {v : Value} {R : List En3} {e : En3} (h : w.ownsRow base 92 6 v (R.length + 1) (st3Cells (e :: R).reverse)) :
    ∃ g cap, v = .slice (some ⟨g, 0, none⟩) (R.length + 1) cap ∧ base ≤ g ∧ g < w.heap.size ∧ R.length + 1 ≤ cap ∧ cap ≤ maxLen ∧ (∀ i u, (en3Cells e)[i]? = some u → w.cell? ⟨g, R.length * 6 + i, none⟩ = some u) ∧
      w.ownsRow base 92 6 (.slice (some ⟨g, 0, none⟩) R.length cap) R.length (st3Cells R.reverse) := by
  rw [List.reverse_cons, st3Cells_snoc] at h
  obtain ⟨h1, h2 | ⟨g, cap, cur, h3, h4, h5, h6, h7, h8, h9⟩⟩ := id h
  · omega
  · subst h3
    have hlen := st3Cells_length R.reverse
    rw [List.length_reverse] at hlen
    have hc := h.cells (g := g) rfl
    refine ⟨g, cap, rfl, h4, (Array.getElem?_eq_some_iff.1 h5).1, h6, h7, fun i u hu => ?_, own_take h (Nat.le_succ _) hlen⟩
    have := hc (R.length * 6 + i) u (by rw [← hlen, List.getElem?_append_right (by omega), Nat.add_sub_cancel_left]; exact hu)
    rwa [add_flat, Nat.zero_add] at this
/-- Between two rounds: 'res' is what the call is to hand back. -/
structure Bel (n : Nat) (res : Bool) (R : List En3) (v : Value) (w : World) : Prop where
  own : w.ownsRow n 92 6 v R.length (st3Cells R.reverse)
  each : ∀ e ∈ R, e.good n w
  same : Tp.blz (R.map En3.key) = res
  small : psz R ≤ 1000000
theorem good3_below {n : Nat} {w w' : World} (hb : Below n w w') {e : En3} (h : e.good n w) : e.good n w' :=
  ⟨h.1.below hb (fun _ h => h) (fun _ h => h), h.2.1.below hb (fun _ h => h) (fun _ h => h), h.2.2⟩
theorem len_psz (R : List En3) : R.length ≤ psz R := by
  induction R with
  | nil => simp
  | cons e r ih =>
    have := Tp.size_pos e.x
    simp only [psz, List.map_cons, List.sum_cons, List.length_cons] at ih ⊢
    omega
theorem psz_cons (e : En3) (R : List En3) : psz (e :: R) = Tp.size e.x + psz R := by simp [psz]
theorem psz_append (E R : List En3) : psz (E ++ R) = psz E + psz R := by simp [psz]
/-- What the kids that were laid on the stack are: the last of them is the top. -/
def Laid (x y : T) (k : Nat) (E : List En3) : Prop := E.map En3.key = ((x.kids.zip y.kids).take k).reverse
theorem Laid.len {x y : T} {k : Nat} {E : List En3} (h : Laid x y k E) (hk : k ≤ x.kids.length) (hl : x.kids.length = y.kids.length) : E.length = k := by
  have h1 := congrArg List.length h
  simp only [List.length_map, List.length_reverse, List.length_take, List.length_zip] at h1
  omega
theorem Laid.psz {x y : T} {k : Nat} {E : List En3} (h : Laid x y k E) (hl : x.kids.length = y.kids.length) : psz E = Tp.sizes (x.kids.take k) := by
  have h1 : E.map (fun e => Tp.size e.x) = ((x.kids.take k).map Tp.size).reverse := by
    have e1 : E.map (fun e => Tp.size e.x) = (E.map En3.key).map (fun p => Tp.size p.1) := by simp [En3.key, Function.comp_def]
    rw [e1, h, List.map_reverse]
    congr 1
    rw [List.map_take, List.map_take]
    congr 1
    have : (x.kids.zip y.kids).map (fun p => Tp.size p.1) = ((x.kids.zip y.kids).map Prod.fst).map Tp.size := by simp [Function.comp_def]
    rw [this, List.map_fst_zip (by omega)]
  have hs : ∀ l : List T, (l.map Tp.size).sum = Tp.sizes l := by
    intro l; induction l with
    | nil => rfl
    | cons a r ih => simp only [List.map_cons, List.sum_cons, Tp.sizes, ih]
  unfold Go.Proofs.Ytgambiohchcfdaa.psz
  rw [h1, List.sum_reverse, hs]
theorem Laid.push {x y : T} {k : Nat} {E : List En3} {e : En3} (h : Laid x y k E) (hk : k < x.kids.length) (hk' : k < y.kids.length) (hx : e.x = x.kids[k]) (hy : e.y = y.kids[k]) : Laid x y (k + 1) (e :: E) := by
  unfold Laid at h ⊢
  rw [List.map_cons, h, List.take_succ_eq_append_getElem (by rw [List.length_zip]; omega), List.reverse_append]
  simp [En3.key, hx, hy]
/-- In the round of a pair that goes on: k of the kids lie on the stack. -/
structure BelK (n : Nat) (x y : T) (R E : List En3) (k : Nat) (v : Value) (w : World) : Prop where
  own : w.ownsRow n 92 6 v (E.length + R.length) (st3Cells (E ++ R).reverse)
  each : ∀ e ∈ E, e.good n w
  rest : ∀ e ∈ R, e.good n w
  laid : Laid x y k E
theorem box_far3 {B n : Nat} {w : World} {v : Value} {xs : List Value} {b : Nat} {A : Array Value} {s : TypeId} (h : w.ownsRow B 92 6 v n xs) (hb : w.heap[b]? = some (.cells A s)) (hs : s ≠ 92) : v.ownBlock ≠ some b := fun e => by
  rcases h.2 with ⟨h1, _⟩ | ⟨g, cap, cur, h1, _, h3, _⟩
  · rw [h1] at e; cases e
  · rw [h1] at e; injection e with e; dsimp only at e; rw [e, hb] at h3; injection h3 with h3; injection h3 with h4 h5; exact hs h5
/-- The top is not below: the answer is false. -/
theorem bel_no {n : Nat} {res : Bool} {R : List En3} {e : En3} {v : Value} {w : World} (h : Bel n res (e :: R) v w) (hno : Tp.below e.x e.y = false) : res = false := by
  rw [← h.same]
  show ((e :: R).map En3.key).all _ = false
  rw [List.map_cons, List.all_cons]
  show (Tp.below e.x e.y && _) = false
  rw [hno]; rfl
/-- The top is below, whatever its kids are: the rest stays. -/
theorem bel_drop {n : Nat} {res : Bool} {R : List En3} {e : En3} {v v' : Value} {w w' : World} (h : Bel n res (e :: R) v w) (hyes : Tp.below e.x e.y = true) (hb : Below n w w') (hown : w'.ownsRow n 92 6 v' R.length (st3Cells R.reverse)) :
    psz R < psz (e :: R) ∧ Bel n res R v' w' := by
  have h1 := psz_cons e R
  have h2 := Tp.size_pos e.x
  have h3 := h.small
  refine ⟨by omega, hown, fun e' he => good3_below hb (h.each e' (List.mem_cons_of_mem _ he)), ?_, by omega⟩
  have h4 := h.same
  change (Tp.below e.x e.y && Tp.blz (R.map En3.key)) = res at h4
  rw [hyes] at h4
  exact h4
/-- All its kids lie on the stack. -/
theorem bel_next {n : Nat} {res : Bool} {R E : List En3} {x y : T} {a b : Option Addr} {ca cb : Nat} {v v' : Value} {w w' : World} (h : Bel n res (⟨x, a, ca, y, b, cb⟩ :: R) v w) (hl : x.kids.length = y.kids.length)
    (hyes : Tp.below x y = Tp.blz (x.kids.zip y.kids)) (hk : BelK n x y R E x.kids.length v' w') : psz (E ++ R) < psz (⟨x, a, ca, y, b, cb⟩ :: R) ∧ Bel n res (E ++ R) v' w' := by
  have h1 := psz_cons ⟨x, a, ca, y, b, cb⟩ R
  have h2 := psz_append E R
  have h3 := h.small
  have h4 := hk.laid.psz hl
  rw [List.take_of_length_le (Nat.le_refl _)] at h4
  have h5 := size_kids x
  dsimp only at h1
  refine ⟨by omega, by rw [List.length_append]; exact hk.own, fun e he => (List.mem_append.1 he).elim (hk.each e) (hk.rest e), ?_, by omega⟩
  have h6 := h.same
  change (Tp.below x y && Tp.blz (R.map En3.key)) = res at h6
  rw [List.map_append, Tp.blz_append, hk.laid, Tp.blz_reverse, List.take_of_length_le (by rw [List.length_zip]; omega), ← hyes]
  exact h6
/-- One kid more. -/
theorem belK_push {n k g2 cap2 : Nat} {x y : T} {R E : List En3} {e : En3} {v : Value} {w w2 : World} (h : BelK n x y R E k v w) (hk : k < x.kids.length) (hk' : k < y.kids.length) (hx : e.x = x.kids[k]) (hy : e.y = y.kids[k]) (he : e.good n w)
    (hb : Below n w w2) (hown : w2.ownsRow n 92 6 (.slice (some ⟨g2, 0, none⟩) (E.length + R.length + 1) cap2) (E.length + R.length + 1) (st3Cells (E ++ R).reverse ++ en3Cells e)) :
    BelK n x y R (e :: E) (k + 1) (.slice (some ⟨g2, 0, none⟩) (E.length + R.length + 1) cap2) w2 := by
  refine ⟨?_, fun e' he' => ?_, fun e' he' => good3_below hb (h.rest e' he'), h.laid.push hk hk' hx hy⟩
  · rw [List.cons_append, List.reverse_cons, st3Cells_snoc, List.length_cons, show E.length + 1 + R.length = E.length + R.length + 1 from by omega]
    exact hown
  · rcases List.mem_cons.1 he' with rfl | he'
    · exact good3_below hb he
    · exact good3_below hb (h.each e' he')
theorem below_get {n : Nat} {w w' : World} (h : Below n w w') {k : Nat} {o : Obj} (hk : w.heap[k]? = some o) (hn : k < n) : w'.heap[k]? = some o := (h.block k hn).trans hk
theorem bel_start {w : World} {t u : T} {a a' : Option Addr} {cap cap' : Nat} {k n k' n' : Int} {m m' : Nat} (hv : TV t k n m) (hv' : TV u k' n' m') (hty : TyAt (LT w.heap.size) w t a cap) (hty' : TyAt (LT w.heap.size) w u a' cap') (hr : Tp.right t = true) (hr' : Tp.right u = true) (hsz : Tp.size t ≤ 1000000) {W : World}
    (hW : ((w.alloc (.cells #[.int .i64 k, .int .i64 n, .slice a m cap] 24)).alloc (.cells #[.int .i64 k', .int .i64 n', .slice a' m' cap'] 24)).alloc
        (.cells #[.int .i64 k, .int .i64 n, .slice a m cap, .int .i64 k', .int .i64 n', .slice a' m' cap'] 92) = W) :
    Bel (w.heap.size + 1 + 1) (Tp.below t u) [⟨t, a, cap, u, a', cap'⟩] (.slice (some ⟨w.heap.size + 1 + 1, 0, none⟩) 1 1) W ∧ Below w.heap.size w W ∧ w.heap.size + 1 + 1 + 1 = W.heap.size := by
  obtain ⟨rfl, rfl, rfl⟩ := hv
  obtain ⟨rfl, rfl, rfl⟩ := hv'
  have hb : Below w.heap.size w W := by rw [← hW]; exact (((Below.refl _ _).alloc (Nat.le_refl _) _).alloc (by simp) _).alloc (by simp <;> omega) _
  have h2 : W.heap[w.heap.size + 1 + 1]? = some (.cells #[.int .i64 t.kind, .int .i64 t.num, .slice a t.kids.length cap, .int .i64 u.kind, .int .i64 u.num, .slice a' u.kids.length cap'] 92) := by
    have := World.alloc_heap_new ((w.alloc (.cells #[.int .i64 t.kind, .int .i64 t.num, .slice a t.kids.length cap] 24)).alloc (.cells #[.int .i64 u.kind, .int .i64 u.num, .slice a' u.kids.length cap'] 24)) (.cells #[.int .i64 t.kind, .int .i64 t.num, .slice a t.kids.length cap, .int .i64 u.kind, .int .i64 u.num, .slice a' u.kids.length cap'] 92)
    rw [World.size_alloc, World.size_alloc, hW] at this; exact this
  have hz : w.heap.size + 1 + 1 + 1 = W.heap.size := by rw [← hW]; simp
  refine ⟨⟨⟨rfl, .inr ⟨_, 1, _, rfl, Nat.le_refl _, h2, Nat.le_refl _, by unfold maxLen; omega, rfl, rfl⟩⟩, fun e he => ?_, ?_, by simp [psz]; exact hsz⟩, hb, hz⟩
  · obtain rfl := List.mem_singleton.1 he
    exact ⟨hty.below hb (fun _ h => h) (fun b h => (show b < w.heap.size + 1 + 1 from Nat.lt_of_lt_of_le h (by omega))), hty'.below hb (fun _ h => h) (fun b h => (show b < w.heap.size + 1 + 1 from Nat.lt_of_lt_of_le h (by omega))), hr, hr'⟩
  · show (Tp.below t u && true) = Tp.below t u
    rw [Bool.and_true]
theorem below_push {n : Nat} {A B C : World} {o : Obj} {row : Option Nat} (h : Below n A B) (hg : (B.alloc o).grownBy C row) (hrow : ∀ k, row = some k → n ≤ k) (hn : n ≤ B.heap.size) : Below n A C :=
  (h.alloc hn o).grown hg (by rw [World.size_alloc]; omega) hrow
theorem b80 {r : Nat} (h : r ≤ 1000000) : (r + 1) * 80 ≤ 140737488355328 ∧ r + 1 ≤ maxLen := by unfold maxLen; omega
theorem six_cells (k n k' n' : Int) (a a' : Option Addr) (m c m' c' : Nat) : ∀ u ∈ [Value.int .i64 k, .int .i64 n, .slice a m c, .int .i64 k', .int .i64 n', .slice a' m' c'], u.oneCell' = true := by
  intro u hu
  simp only [List.mem_cons, List.not_mem_nil, or_false] at hu
  rcases hu with rfl | rfl | rfl | rfl | rfl | rfl <;> rfl
/-- Two boxes of zeros, made and written. -/
theorem put_pair {V W F : World} {p q : Nat} {k n k' n' : Int} {a a' : Option Addr} {m c m' c' : Nat}
    (hW : (V.alloc (.cells #[.int .i64 0, .int .i64 0, .slice none 0 0] 24)).alloc (.cells #[.int .i64 0, .int .i64 0, .slice none 0 0] 24) = W) (hpq : (p = V.heap.size ∧ q = V.heap.size + 1) ∨ (p = V.heap.size + 1 ∧ q = V.heap.size))
    (hF : ((((((W.setCell ⟨p, 0, none⟩ (.int .i64 k)).setCell ⟨p, 1, none⟩ (.int .i64 n)).setCell ⟨p, 2, none⟩ (.slice a m c)).setCell ⟨q, 0, none⟩ (.int .i64 k')).setCell ⟨q, 1, none⟩ (.int .i64 n')).setCell ⟨q, 2, none⟩ (.slice a' m' c')) = F) :
    V.heap.size ≤ p ∧ V.heap.size ≤ q ∧ F.heap[p]? = some (.cells #[.int .i64 k, .int .i64 n, .slice a m c] 24) ∧ F.heap[q]? = some (.cells #[.int .i64 k', .int .i64 n', .slice a' m' c'] 24) ∧ Below V.heap.size V F := by
  have hb : Below V.heap.size V W := by rw [← hW]; exact ((Below.refl _ _).alloc (Nat.le_refl _) _).alloc (by simp) _
  have h1 : W.heap[V.heap.size]? = some (.cells #[.int .i64 0, .int .i64 0, .slice none 0 0] 24) := by rw [← hW]; exact box1 _ _ _ _ _
  have h2 : W.heap[V.heap.size + 1]? = some (.cells #[.int .i64 0, .int .i64 0, .slice none 0 0] 24) := by rw [← hW]; exact box2 _ _ _ _ _
  have zp : W.heap[p]? = some (.cells #[.int .i64 0, .int .i64 0, .slice none 0 0] 24) := by rcases hpq with ⟨rfl, _⟩ | ⟨rfl, _⟩ <;> assumption
  have zq : W.heap[q]? = some (.cells #[.int .i64 0, .int .i64 0, .slice none 0 0] 24) := by rcases hpq with ⟨_, rfl⟩ | ⟨_, rfl⟩ <;> assumption
  have hp : V.heap.size ≤ p := by omega
  have hq : V.heap.size ≤ q := by omega
  have hne : q ≠ p := by omega
  refine ⟨hp, hq, ?_, ?_, ?_⟩
  · rw [← hF]; exact (set3_other (fun h => hne h.symm)).trans (box_set3 zp)
  · rw [← hF]; exact box_set3 ((set3_other hne).trans zq)
  · rw [← hF]; exact (((((hb.setCell hp _).setCell hp _).setCell hp _).setCell hq _).setCell hq _).setCell hq _
end Go.Proofs.Ytgambiohchcfdaa
