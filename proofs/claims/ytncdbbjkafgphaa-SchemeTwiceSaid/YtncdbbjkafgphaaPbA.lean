/- prec.below: two types gone down at once, by a stack of the call's own: what the walk needs. prec.below, walked. prec.right, prec.Below, walked. prec.Ground, walked. The sample of stage 9's laws, walked. -/
import Derived.Test.YtncdbbjkafgphaaPrP
import Derived.Test.YtncdbbjkafgphaaTrE
import Derived.Test.YtncdbbjkafgphaaArP
import Derived.Deep.RegionHeld3
import Derived.Deep.DeepCutAuto
import Derived.Deep.CutRange
import Derived.Deep.RegionLaw
import Derived.Test.YtncdbbjkafgphaaTqB
import Derived.Test.YtncdbbjkafgphaaSeqA
namespace Go.Proofs.Ytncdbbjkafgphaa
open Go Go.RowKit
open Tp (T)

/-- A pair that is still to be looked at. -/
structure En3 where
  x : T
  a : Option Addr
  ca : Nat
  y : T
  b : Option Addr
  cb : Nat
def en3Cells (e : En3) : List Value := [.int .i64 e.x.kind, .int .i64 e.x.num, .slice e.a e.x.kids.length e.ca, .int .i64 e.y.kind, .int .i64 e.y.num, .slice e.b e.y.kids.length e.cb]
def st3Cells (S : List En3) : List Value := S.flatMap en3Cells
theorem st3Cells_length : ∀ S : List En3, (st3Cells S).length = S.length * 6
  | [] => rfl
  | e :: r => by
    have := st3Cells_length r
    simp only [st3Cells, List.flatMap_cons, List.length_append, List.length_cons, en3Cells, List.length_nil] at this ⊢
    omega
theorem st3Cells_snoc (S : List En3) (e : En3) : st3Cells (S ++ [e]) = st3Cells S ++ en3Cells e := by simp [st3Cells]
def En3.key (e : En3) : T × T := (e.x, e.y)
def En3.good (n : Nat) (w : World) (e : En3) : Prop := TyAt (LT n) w e.x e.a e.ca ∧ TyAt (LT n) w e.y e.b e.cb ∧ Tp.right e.x = true ∧ Tp.right e.y = true
def psz (R : List En3) : Nat := (R.map fun e => Tp.size e.x).sum
theorem elem_pr : Try.prog.underlying 93 = some (.slice (Try.prog.elem 93)) := by kernel_rfl
theorem size_pr (w : World) : (sizeOf (Try.prog.elem 93)).run Try.prog w = .ok 6 w := by kernel_rfl
theorem info_pr : (Try.prog.info? 92).map (fun i => (i.zero, i.size, i.bytes)) = some (some (.agg #[.int .i64 0, .int .i64 0, .slice none 0 0, .int .i64 0, .int .i64 0, .slice none 0 0]), 6, 80) := by kernel_rfl
theorem pr_pop (g n cap k : Nat) (hk : k ≤ n) (hn : n ≤ cap) (w' : World) :
    (Instr.slice 93 (.slice (some ⟨g, 0, none⟩) n cap) none (some (.int .i64 (k : Int))) none).run Try.prog w' = .ok (.slice (some ⟨g, 0, none⟩) k cap) w' := by
  rw [run_slice_h w' _ _ n cap elem_pr .i64 (k : Int) (by omega) (by omega), size_pr]
  simp [Result.andThen, sliced, add_flat]
theorem own_top3 {w : World} {base : Nat} {v : Value} {R : List En3} {e : En3} (h : w.ownsRow base 92 6 v (R.length + 1) (st3Cells (e :: R).reverse)) :
    ∃ g cap, v = .slice (some ⟨g, 0, none⟩) (R.length + 1) cap ∧ base ≤ g ∧ g < w.heap.size ∧ R.length + 1 ≤ cap ∧ cap ≤ maxLen ∧ (∀ i u, (en3Cells e)[i]? = some u → w.cell? ⟨g, R.length * 6 + i, none⟩ = some u) ∧
      w.ownsRow base 92 6 (.slice (some ⟨g, 0, none⟩) R.length cap) R.length (st3Cells R.reverse) := by
  rw [List.reverse_cons, st3Cells_snoc] at h
  obtain ⟨h1, h2 | ⟨g, cap, cur, h3, h4, h5, h6, h7, h8, h9⟩⟩ := id h
  · omega
  · subst h3
    have hlen := st3Cells_length R.reverse
    rw [List.length_reverse] at hlen
    have hc := h.cells (g := g) rfl
    refine ⟨g, cap, rfl, h4, (Array.getElem?_eq_some_iff.1 h5).1, h6, h7, fun i u hu => ?_, own_take h (Nat.le_succ _) hlen⟩
    have := hc (R.length * 6 + i) u (by rw [← hlen, List.getElem?_append_right (by omega), Nat.add_sub_cancel_left]; exact hu)
    rwa [add_flat, Nat.zero_add] at this
/-- Between two rounds: 'res' is what the call is to hand back. -/
structure Bel (n : Nat) (res : Bool) (R : List En3) (v : Value) (w : World) : Prop where
  own : w.ownsRow n 92 6 v R.length (st3Cells R.reverse)
  each : ∀ e ∈ R, e.good n w
  same : Tp.blz (R.map En3.key) = res
  small : psz R ≤ 1000000
theorem good3_below {n : Nat} {w w' : World} (hb : Below n w w') {e : En3} (h : e.good n w) : e.good n w' :=
  ⟨h.1.below hb (fun _ h => h) (fun _ h => h), h.2.1.below hb (fun _ h => h) (fun _ h => h), h.2.2⟩
theorem len_psz (R : List En3) : R.length ≤ psz R := by
  induction R with
  | nil => simp
  | cons e r ih =>
    have := Tp.size_pos e.x
    simp only [psz, List.map_cons, List.sum_cons, List.length_cons] at ih ⊢
    omega
theorem psz_cons (e : En3) (R : List En3) : psz (e :: R) = Tp.size e.x + psz R := by simp [psz]
theorem psz_append (E R : List En3) : psz (E ++ R) = psz E + psz R := by simp [psz]
/-- What the kids that were laid on the stack are: the last of them is the top. -/
def Laid (x y : T) (k : Nat) (E : List En3) : Prop := E.map En3.key = ((x.kids.zip y.kids).take k).reverse
theorem Laid.len {x y : T} {k : Nat} {E : List En3} (h : Laid x y k E) (hk : k ≤ x.kids.length) (hl : x.kids.length = y.kids.length) : E.length = k := by
  have h1 := congrArg List.length h
  simp only [List.length_map, List.length_reverse, List.length_take, List.length_zip] at h1
  omega
theorem Laid.psz {x y : T} {k : Nat} {E : List En3} (h : Laid x y k E) (hl : x.kids.length = y.kids.length) : psz E = Tp.sizes (x.kids.take k) := by
  have h1 : E.map (fun e => Tp.size e.x) = ((x.kids.take k).map Tp.size).reverse := by
    have e1 : E.map (fun e => Tp.size e.x) = (E.map En3.key).map (fun p => Tp.size p.1) := by simp [En3.key, Function.comp_def]
    rw [e1, h, List.map_reverse]
    congr 1
    rw [List.map_take, List.map_take]
    congr 1
    have : (x.kids.zip y.kids).map (fun p => Tp.size p.1) = ((x.kids.zip y.kids).map Prod.fst).map Tp.size := by simp [Function.comp_def]
    rw [this, List.map_fst_zip (by omega)]
  have hs : ∀ l : List T, (l.map Tp.size).sum = Tp.sizes l := by
    intro l; induction l with
    | nil => rfl
    | cons a r ih => simp only [List.map_cons, List.sum_cons, Tp.sizes, ih]
  unfold Go.Proofs.Ytncdbbjkafgphaa.psz
  rw [h1, List.sum_reverse, hs]
theorem Laid.push {x y : T} {k : Nat} {E : List En3} {e : En3} (h : Laid x y k E) (hk : k < x.kids.length) (hk' : k < y.kids.length) (hx : e.x = x.kids[k]) (hy : e.y = y.kids[k]) : Laid x y (k + 1) (e :: E) := by
  unfold Laid at h ⊢
  rw [List.map_cons, h, List.take_succ_eq_append_getElem (by rw [List.length_zip]; omega), List.reverse_append]
  simp [En3.key, hx, hy]
/-- In the round of a pair that goes on: k of the kids lie on the stack. -/
structure BelK (n : Nat) (x y : T) (R E : List En3) (k : Nat) (v : Value) (w : World) : Prop where
  own : w.ownsRow n 92 6 v (E.length + R.length) (st3Cells (E ++ R).reverse)
  each : ∀ e ∈ E, e.good n w
  rest : ∀ e ∈ R, e.good n w
  laid : Laid x y k E
theorem box_far3 {B n : Nat} {w : World} {v : Value} {xs : List Value} {b : Nat} {A : Array Value} {s : TypeId} (h : w.ownsRow B 92 6 v n xs) (hb : w.heap[b]? = some (.cells A s)) (hs : s ≠ 92) : v.ownBlock ≠ some b := fun e => by
  rcases h.2 with ⟨h1, _⟩ | ⟨g, cap, cur, h1, _, h3, _⟩
  · rw [h1] at e; cases e
  · rw [h1] at e; injection e with e; dsimp only at e; rw [e, hb] at h3; injection h3 with h3; injection h3 with h4 h5; exact hs h5
/-- The top is not below: the answer is false. -/
theorem bel_no {n : Nat} {res : Bool} {R : List En3} {e : En3} {v : Value} {w : World} (h : Bel n res (e :: R) v w) (hno : Tp.below e.x e.y = false) : res = false := by
  rw [← h.same]
  show ((e :: R).map En3.key).all _ = false
  rw [List.map_cons, List.all_cons]
  show (Tp.below e.x e.y && _) = false
  rw [hno]; rfl
/-- The top is below, whatever its kids are: the rest stays. -/
theorem bel_drop {n : Nat} {res : Bool} {R : List En3} {e : En3} {v v' : Value} {w w' : World} (h : Bel n res (e :: R) v w) (hyes : Tp.below e.x e.y = true) (hb : Below n w w') (hown : w'.ownsRow n 92 6 v' R.length (st3Cells R.reverse)) :
    psz R < psz (e :: R) ∧ Bel n res R v' w' := by
  have h1 := psz_cons e R
  have h2 := Tp.size_pos e.x
  have h3 := h.small
  refine ⟨by omega, hown, fun e' he => good3_below hb (h.each e' (List.mem_cons_of_mem _ he)), ?_, by omega⟩
  have h4 := h.same
  change (Tp.below e.x e.y && Tp.blz (R.map En3.key)) = res at h4
  rw [hyes] at h4
  exact h4
/-- All its kids lie on the stack. -/
theorem bel_next {n : Nat} {res : Bool} {R E : List En3} {x y : T} {a b : Option Addr} {ca cb : Nat} {v v' : Value} {w w' : World} (h : Bel n res (⟨x, a, ca, y, b, cb⟩ :: R) v w) (hl : x.kids.length = y.kids.length)
    (hyes : Tp.below x y = Tp.blz (x.kids.zip y.kids)) (hk : BelK n x y R E x.kids.length v' w') : psz (E ++ R) < psz (⟨x, a, ca, y, b, cb⟩ :: R) ∧ Bel n res (E ++ R) v' w' := by
  have h1 := psz_cons ⟨x, a, ca, y, b, cb⟩ R
  have h2 := psz_append E R
  have h3 := h.small
  have h4 := hk.laid.psz hl
  rw [List.take_of_length_le (Nat.le_refl _)] at h4
  have h5 := size_kids x
  dsimp only at h1
  refine ⟨by omega, by rw [List.length_append]; exact hk.own, fun e he => (List.mem_append.1 he).elim (hk.each e) (hk.rest e), ?_, by omega⟩
  have h6 := h.same
  change (Tp.below x y && Tp.blz (R.map En3.key)) = res at h6
  rw [List.map_append, Tp.blz_append, hk.laid, Tp.blz_reverse, List.take_of_length_le (by rw [List.length_zip]; omega), ← hyes]
  exact h6
/-- One kid more. -/
theorem belK_push {n k g2 cap2 : Nat} {x y : T} {R E : List En3} {e : En3} {v : Value} {w w2 : World} (h : BelK n x y R E k v w) (hk : k < x.kids.length) (hk' : k < y.kids.length) (hx : e.x = x.kids[k]) (hy : e.y = y.kids[k]) (he : e.good n w)
    (hb : Below n w w2) (hown : w2.ownsRow n 92 6 (.slice (some ⟨g2, 0, none⟩) (E.length + R.length + 1) cap2) (E.length + R.length + 1) (st3Cells (E ++ R).reverse ++ en3Cells e)) :
    BelK n x y R (e :: E) (k + 1) (.slice (some ⟨g2, 0, none⟩) (E.length + R.length + 1) cap2) w2 := by
  refine ⟨?_, fun e' he' => ?_, fun e' he' => good3_below hb (h.rest e' he'), h.laid.push hk hk' hx hy⟩
  · rw [List.cons_append, List.reverse_cons, st3Cells_snoc, List.length_cons, show E.length + 1 + R.length = E.length + R.length + 1 from by omega]
    exact hown
  · rcases List.mem_cons.1 he' with rfl | he'
    · exact good3_below hb he
    · exact good3_below hb (h.each e' he')
theorem below_get {n : Nat} {w w' : World} (h : Below n w w') {k : Nat} {o : Obj} (hk : w.heap[k]? = some o) (hn : k < n) : w'.heap[k]? = some o := (h.block k hn).trans hk
theorem bel_start {w : World} {t u : T} {a a' : Option Addr} {cap cap' : Nat} {k n k' n' : Int} {m m' : Nat} (hv : TV t k n m) (hv' : TV u k' n' m') (hty : TyAt (LT w.heap.size) w t a cap) (hty' : TyAt (LT w.heap.size) w u a' cap') (hr : Tp.right t = true) (hr' : Tp.right u = true) (hsz : Tp.size t ≤ 1000000) {W : World}
    (hW : ((w.alloc (.cells #[.int .i64 k, .int .i64 n, .slice a m cap] 24)).alloc (.cells #[.int .i64 k', .int .i64 n', .slice a' m' cap'] 24)).alloc
        (.cells #[.int .i64 k, .int .i64 n, .slice a m cap, .int .i64 k', .int .i64 n', .slice a' m' cap'] 92) = W) :
    Bel (w.heap.size + 1 + 1) (Tp.below t u) [⟨t, a, cap, u, a', cap'⟩] (.slice (some ⟨w.heap.size + 1 + 1, 0, none⟩) 1 1) W ∧ Below w.heap.size w W ∧ w.heap.size + 1 + 1 + 1 = W.heap.size := by
  obtain ⟨rfl, rfl, rfl⟩ := hv
  obtain ⟨rfl, rfl, rfl⟩ := hv'
  have hb : Below w.heap.size w W := by rw [← hW]; exact (((Below.refl _ _).alloc (Nat.le_refl _) _).alloc (by simp) _).alloc (by simp <;> omega) _
  have h2 : W.heap[w.heap.size + 1 + 1]? = some (.cells #[.int .i64 t.kind, .int .i64 t.num, .slice a t.kids.length cap, .int .i64 u.kind, .int .i64 u.num, .slice a' u.kids.length cap'] 92) := by
    have := World.alloc_heap_new ((w.alloc (.cells #[.int .i64 t.kind, .int .i64 t.num, .slice a t.kids.length cap] 24)).alloc (.cells #[.int .i64 u.kind, .int .i64 u.num, .slice a' u.kids.length cap'] 24)) (.cells #[.int .i64 t.kind, .int .i64 t.num, .slice a t.kids.length cap, .int .i64 u.kind, .int .i64 u.num, .slice a' u.kids.length cap'] 92)
    rw [World.size_alloc, World.size_alloc, hW] at this; exact this
  have hz : w.heap.size + 1 + 1 + 1 = W.heap.size := by rw [← hW]; simp
  refine ⟨⟨⟨rfl, .inr ⟨_, 1, _, rfl, Nat.le_refl _, h2, Nat.le_refl _, by unfold maxLen; omega, rfl, rfl⟩⟩, fun e he => ?_, ?_, by simp [psz]; exact hsz⟩, hb, hz⟩
  · obtain rfl := List.mem_singleton.1 he
    exact ⟨hty.below hb (fun _ h => h) (fun b h => (show b < w.heap.size + 1 + 1 from Nat.lt_of_lt_of_le h (by omega))), hty'.below hb (fun _ h => h) (fun b h => (show b < w.heap.size + 1 + 1 from Nat.lt_of_lt_of_le h (by omega))), hr, hr'⟩
  · show (Tp.below t u && true) = Tp.below t u
    rw [Bool.and_true]
theorem below_push {n : Nat} {A B C : World} {o : Obj} {row : Option Nat} (h : Below n A B) (hg : (B.alloc o).grownBy C row) (hrow : ∀ k, row = some k → n ≤ k) (hn : n ≤ B.heap.size) : Below n A C :=
  (h.alloc hn o).grown hg (by rw [World.size_alloc]; omega) hrow
theorem b80 {r : Nat} (h : r ≤ 1000000) : (r + 1) * 80 ≤ 140737488355328 ∧ r + 1 ≤ maxLen := by unfold maxLen; omega
theorem six_cells (k n k' n' : Int) (a a' : Option Addr) (m c m' c' : Nat) : ∀ u ∈ [Value.int .i64 k, .int .i64 n, .slice a m c, .int .i64 k', .int .i64 n', .slice a' m' c'], u.oneCell' = true := by
  intro u hu
  simp only [List.mem_cons, List.not_mem_nil, or_false] at hu
  rcases hu with rfl | rfl | rfl | rfl | rfl | rfl <;> rfl
/-- Two boxes of zeros, made and written. -/
theorem put_pair {V W F : World} {p q : Nat} {k n k' n' : Int} {a a' : Option Addr} {m c m' c' : Nat}
    (hW : (V.alloc (.cells #[.int .i64 0, .int .i64 0, .slice none 0 0] 24)).alloc (.cells #[.int .i64 0, .int .i64 0, .slice none 0 0] 24) = W) (hpq : (p = V.heap.size ∧ q = V.heap.size + 1) ∨ (p = V.heap.size + 1 ∧ q = V.heap.size))
    (hF : ((((((W.setCell ⟨p, 0, none⟩ (.int .i64 k)).setCell ⟨p, 1, none⟩ (.int .i64 n)).setCell ⟨p, 2, none⟩ (.slice a m c)).setCell ⟨q, 0, none⟩ (.int .i64 k')).setCell ⟨q, 1, none⟩ (.int .i64 n')).setCell ⟨q, 2, none⟩ (.slice a' m' c')) = F) :
    V.heap.size ≤ p ∧ V.heap.size ≤ q ∧ F.heap[p]? = some (.cells #[.int .i64 k, .int .i64 n, .slice a m c] 24) ∧ F.heap[q]? = some (.cells #[.int .i64 k', .int .i64 n', .slice a' m' c'] 24) ∧ Below V.heap.size V F := by
  have hb : Below V.heap.size V W := by rw [← hW]; exact ((Below.refl _ _).alloc (Nat.le_refl _) _).alloc (by simp) _
  have h1 : W.heap[V.heap.size]? = some (.cells #[.int .i64 0, .int .i64 0, .slice none 0 0] 24) := by rw [← hW]; exact box1 _ _ _ _ _
  have h2 : W.heap[V.heap.size + 1]? = some (.cells #[.int .i64 0, .int .i64 0, .slice none 0 0] 24) := by rw [← hW]; exact box2 _ _ _ _ _
  have zp : W.heap[p]? = some (.cells #[.int .i64 0, .int .i64 0, .slice none 0 0] 24) := by rcases hpq with ⟨rfl, _⟩ | ⟨rfl, _⟩ <;> assumption
  have zq : W.heap[q]? = some (.cells #[.int .i64 0, .int .i64 0, .slice none 0 0] 24) := by rcases hpq with ⟨_, rfl⟩ | ⟨_, rfl⟩ <;> assumption
  have hp : V.heap.size ≤ p := by omega
  have hq : V.heap.size ≤ q := by omega
  have hne : q ≠ p := by omega
  refine ⟨hp, hq, ?_, ?_, ?_⟩
  · rw [← hF]; exact (set3_other (fun h => hne h.symm)).trans (box_set3 zp)
  · rw [← hF]; exact box_set3 ((set3_other hne).trans zq)
  · rw [← hF]; exact (((((hb.setCell hp _).setCell hp _).setCell hp _).setCell hq _).setCell hq _).setCell hq _
end Go.Proofs.Ytncdbbjkafgphaa
namespace Go.Proofs.Ytncdbbjkafgphaa
open Go Go.RowKit
open Tp (T)

theorem wrap_k {k : Nat} (h : k ≤ 1000000) : Value.int .i64 (wrap64 ((k : Int) + 1)) = .int .i64 ((k + 1 : Nat) : Int) := by
  rw [show wrap64 ((k : Int) + 1) = ((k + 1 : Nat) : Int) from by unfold wrap64; omega]
theorem pair_drew (w : World) (A B : Array Value) (s u : TypeId) : (((w.alloc (.cells A s)).alloc (.cells B u)).drew).heap[w.heap.size]? = some (.cells A s) ∧ (((w.alloc (.cells A s)).alloc (.cells B u)).drew).heap[w.heap.size + 1]? = some (.cells B u) ∧ Below w.heap.size w (((w.alloc (.cells A s)).alloc (.cells B u)).drew) :=
  ⟨box1 w A B s u, box2 w A B s u, (((Below.refl _ _).alloc (Nat.le_refl _) _).alloc (by simp) _).drew⟩
set_option maxRecDepth 100000 in
set_option maxHeartbeats 4000000 in
theorem pbelow_any (t u : T) (k0 n0 : Int) (m0 : Nat) (a : Option Addr) (cap : Nat) (k9 n9 : Int) (m9 : Nat) (a' : Option Addr) (cap' : Nat) (w : World) (hv : TV t k0 n0 m0) (hv' : TV u k9 n9 m9) (hsz : Tp.size t ≤ 1000000) (hr : Tp.right t = true) (hr' : Tp.right u = true) (hty : TyAt (LT w.heap.size) w t a cap) (hty' : TyAt (LT w.heap.size) w u a' cap') :
    Calls Try.prog 53 #[.agg #[.int .i64 k0, .int .i64 n0, .slice a m0 cap], .agg #[.int .i64 k9, .int .i64 n9, .slice a' m9 cap']] w fun e w' => e = .returned (.bool (Tp.below t u)) ∧ Below w.heap.size w w' := by
  obtain ⟨W3, hW3⟩ : ∃ W, ((w.alloc (.cells #[.int .i64 k0, .int .i64 n0, .slice a m0 cap] 24)).alloc (.cells #[.int .i64 k9, .int .i64 n9, .slice a' m9 cap'] 24)).alloc
        (.cells #[.int .i64 k0, .int .i64 n0, .slice a m0 cap, .int .i64 k9, .int .i64 n9, .slice a' m9 cap'] 92) = W := ⟨_, rfl⟩
  obtain ⟨hst, hb0, hz0⟩ := bel_start hv hv' hty hty' hr hr' hsz hW3
  obtain ⟨res, hres⟩ : ∃ r, Tp.below t u = r := ⟨_, rfl⟩
  rw [hres] at hst ⊢
  have HST := Lib.hid hst; have HB0 := Lib.hid hb0; have HW3 := Lib.hid hW3; have HZ0 := Lib.hid hz0
  clear hst hb0 hW3 hz0 hv hv' hty hty' hr hr' hsz hres
  go_enter Try.func53, Try.ntmps53
  go_upto_region 2 with fail
  rw [HW3.out]
  go_wp2_with fail
  go_loopg [5] (Tp.size t) (fun gk v wr => ∃ R, Bel (w.heap.size + 1 + 1) res R v wr ∧ Below w.heap.size w wr ∧ w.heap.size + 1 + 1 ≤ wr.heap.size ∧ gk = psz R)
  case atStart => exact ⟨_, HST.out, HB0.out, by have := HZ0.out; omega, by simp [psz]⟩
  case round =>
    obtain ⟨R, hC, hb, hn, rfl⟩ := hrel
    have HC := Lib.hid hC; have HB := Lib.hid hb; have HN4 := Lib.hid hn
    clear hC hb hn HST HB0
    cases R with
    | nil =>
      obtain ⟨av, cv, rfl⟩ := own_shapeT HC.out.own
      have HR := Lib.hid (show true = res from HC.out.same)
      go_wp2_with fail
      go_ret
      exact ⟨ret_boolT HR.out, HB.out⟩
    | cons e R =>
      obtain ⟨g, cap3, rfl, hg1, hg2, hcp, hcm, hcl, hown⟩ := own_top3 (v := u5) HC.out.own
      have hgood := HC.out.each e (by simp)
      obtain ⟨x, xa, xcap, y, ya, ycap⟩ := e
      obtain ⟨hxty, hyty, hrx, hry⟩ := id hgood
      obtain ⟨xk, xn, xm, hvx⟩ := TV.mk x
      obtain ⟨yk, yn, ym, hvy⟩ := TV.mk y
      obtain ⟨r, hr⟩ : ∃ z, R.length = z := ⟨_, rfl⟩
      have hx0 := hcl 0 _ rfl; rw [Nat.add_zero] at hx0; have hx1 := hcl 1 _ rfl; have hx2 := hcl 2 _ rfl; have hy0 := hcl 3 _ rfl; have hy1 := hcl 4 _ rfl; have hy2 := hcl 5 _ rfl
      dsimp only at hx0 hx1 hx2 hy0 hy1 hy2 hxty hyty hrx hry
      rw [hvx.1] at hx0; rw [hvx.2.1] at hx1; rw [hvx.2.2] at hx2; rw [hvy.1] at hy0; rw [hvy.2.1] at hy1; rw [hvy.2.2] at hy2
      rw [hr] at hx0 hx1 hx2 hy0 hy1 hy2 hcp hown ⊢
      have hR : r + 1 ≤ 1000000 := by have h1 := len_psz (⟨x, xa, xcap, y, ya, ycap⟩ :: R); have h2 := HC.out.small; rw [List.length_cons, hr] at h1; omega
      have hpop := pr_pop g (r + 1) cap3 r (by omega) hcp
      have HXTY := Lib.hid hxty; have HYTY := Lib.hid hyty; have HOWN := Lib.hid hown; have HG1 := Lib.hid hg1; have HG2 := Lib.hid hg2; have HCP := Lib.hid hcp; have HCM := Lib.hid hcm; have HRR := Lib.hid hR; have HR := Lib.hid hr; have HVX := Lib.hid hvx; have HVY := Lib.hid hvy; have HRX := Lib.hid hrx; have HRY := Lib.hid hry
      clear hcl hgood hxty hyty hown hg1 hr hvx hvy hrx hry hcm
      go_upto_region 4 with fail
      go_cut [7, 8] (fun v7 v8 wx => ∃ B7 B8, v7 = .pointer (some ⟨B7, 0, none⟩) ∧ v8 = .pointer (some ⟨B8, 0, none⟩) ∧ wr.heap.size ≤ B7 ∧ wr.heap.size ≤ B8 ∧ wx.heap[B7]? = some (.cells #[.int .i64 xk, .int .i64 xn, .slice xa xm xcap] 24) ∧ wx.heap[B8]? = some (.cells #[.int .i64 yk, .int .i64 yn, .slice ya ym ycap] 24) ∧ Below wr.heap.size wr wx)
      case first =>
        have hi0 : (0 : Int) ≤ (r : Int) := Int.natCast_nonneg r
        have hi1 : (r : Int) < (r : Int) + 1 := Int.lt_succ _
        have hi2 : (r : Int) < ((r + 1 : Nat) : Int) := by omega
        go_region_held3 (fun w' => w'.cell? ⟨g, r * 6, none⟩ = some (.int .i64 xk) ∧ w'.cell? ⟨g, r * 6 + 1, none⟩ = some (.int .i64 xn) ∧ w'.cell? ⟨g, r * 6 + 2, none⟩ = some (.slice xa xm xcap) ∧
            w'.cell? ⟨g, r * 6 + 3, none⟩ = some (.int .i64 yk) ∧ w'.cell? ⟨g, r * 6 + 4, none⟩ = some (.int .i64 yn) ∧ w'.cell? ⟨g, r * 6 + 5, none⟩ = some (.slice ya ym ycap))
          (first | (go_keep; done) | skip)
          (fail)
        all_goals
          go_wp2_with fail
          go_meet
          obtain ⟨q1, q2, q3⟩ := pair_drew wr #[.int .i64 xk, .int .i64 xn, .slice xa xm xcap] #[.int .i64 yk, .int .i64 yn, .slice ya ym ycap] 24 24
          obtain ⟨p1, p2, p3⟩ := pair_drew wr #[.int .i64 yk, .int .i64 yn, .slice ya ym ycap] #[.int .i64 xk, .int .i64 xn, .slice xa xm xcap] 24 24
          first
          | exact ⟨_, _, rfl, rfl, by omega, by omega, q1, q2, q3⟩
          | exact ⟨_, _, rfl, rfl, by omega, by omega, p2, p1, p3⟩
      case rest =>
        obtain ⟨B7, B8, rfl, rfl, hB7, hB8, b7, b8, hbx⟩ := hcut
        have c70 : wc.cell? ⟨B7, 0, none⟩ = some (.int .i64 xk) := cell_box b7 rfl rfl
        have c71 : wc.cell? ⟨B7, 1, none⟩ = some (.int .i64 xn) := cell_box b7 rfl rfl
        have c72 : wc.cell? ⟨B7, 2, none⟩ = some (.slice xa xm xcap) := cell_box b7 rfl rfl
        have c80 : wc.cell? ⟨B8, 0, none⟩ = some (.int .i64 yk) := cell_box b8 rfl rfl
        have c81 : wc.cell? ⟨B8, 1, none⟩ = some (.int .i64 yn) := cell_box b8 rfl rfl
        have c82 : wc.cell? ⟨B8, 2, none⟩ = some (.slice ya ym ycap) := cell_box b8 rfl rfl
        have HBw := Lib.hid (show Below (w.heap.size + 1 + 1) wr wc from hbx.mono HN4.out)
        have HBc := Lib.hid (show Below w.heap.size w wc from HB.out.trans (HBw.out.mono (by omega)))
        have HOWc := Lib.hid (show wc.ownsRow (w.heap.size + 1 + 1) 92 6 (.slice (some ⟨g, 0, none⟩) r cap3) r (st3Cells R.reverse) from own_same HOWN.out (fun z hz => by injection hz with hz; subst hz; exact hbx.block _ HG2.out))
        have HB7 := Lib.hid b7; have HB8 := Lib.hid b8
        clear hB7 hB8 b7 b8 hbx hx0 hx1 hx2 hy0 hy1 hy2 hg2
        have hbl := Tp.below_node x y
        rw [HVX.out.1, HVX.out.2.1, HVY.out.1, HVY.out.2.1] at hbl
        have HBL := Lib.hid hbl; clear hbl
        by_cases hd : yk = 5
        · have gd : (yk == 5) = true := by simp [hd]
          have F := bel_drop (e := ⟨x, xa, xcap, y, ya, ycap⟩) (v' := .slice (some ⟨g, 0, none⟩) r cap3) (w' := wc) HC.out (by show Tp.below x y = true; rw [HBL.out, decide_eq_true hd]; rfl) HBw.out (by rw [HR.out]; exact HOWc.out)
          have FF := Lib.hid F; clear F hd
          go_wp2_with fail
          go_roundg (psz R)
          case measure => exact FF.out.1
          case rel => exact ⟨R, FF.out.2, HBc.out, by have := HBw.out.size; have := HN4.out; omega, rfl⟩
        · have gd : (yk == 5) = false := by simp [hd]
          by_cases hk : xk = yk
          · have gk : (xk == yk) = true := by simp [hk]
            have gk' : (xk != yk) = false := by simp [hk]
            by_cases hn' : xn = yn
            · have gn : (xn == yn) = true := by simp [hn']
              have gn' : (xn != yn) = false := by simp [hn']
              have hlk : xm = ym := by
                have h1 := Tp.right_node (k := x.kind) (n := x.num) (l := x.kids) (by cases x; exact HRX.out)
                have h2 := Tp.right_node (k := y.kind) (n := y.num) (l := y.kids) (by cases y; exact HRY.out)
                have e1 := h1.1; have e2 := h2.1
                rw [HVX.out.1, HVX.out.2.2] at e1; rw [HVY.out.1, HVY.out.2.2, ← hk] at e2
                omega
              have HYES := Lib.hid (show Tp.below x y = Tp.blz (x.kids.zip y.kids) by rw [HBL.out, decide_eq_false hd, decide_eq_true hk, decide_eq_true hn']; rfl)
              subst hlk
              clear hd hk hn'
              go_wp2_with fail
              go_loopg [5, 51] xm (fun gk v v51 wx => ∃ E k, k ≤ xm ∧ v51 = .int .i64 (k : Int) ∧ BelK (w.heap.size + 1 + 1) x y R E k v wx ∧ wx.heap[B7]? = some (.cells #[.int .i64 xk, .int .i64 xn, .slice xa xm xcap] 24) ∧ wx.heap[B8]? = some (.cells #[.int .i64 yk, .int .i64 yn, .slice ya xm ycap] 24) ∧ Below (w.heap.size + 1 + 1) wr wx ∧ gk = xm - k)
              case atStart => exact ⟨[], 0, Nat.zero_le _, rfl, ⟨by rw [List.length_nil, Nat.zero_add, List.nil_append, HR.out]; exact HOWc.out, (fun _ h => by cases h), fun e he => good3_below HBw.out (HC.out.each e (List.mem_cons_of_mem _ he)), by unfold Laid; simp⟩, HB7.out, HB8.out, HBw.out, rfl⟩
              case round =>
                obtain ⟨E, k, hkm, rfl, hbk, b7, b8, hbx, rfl⟩ := hrel
                obtain ⟨av, cv, rfl⟩ := own_shapeT hbk.own
                have HBK := Lib.hid hbk; have HBX := Lib.hid hbx
                have d72 := cell_box (i := 2) b7 rfl rfl
                have d82 := cell_box (i := 2) b8 rfl rfl
                have HB7' := Lib.hid b7; have HB8' := Lib.hid b8
                clear hbk hbx b7 b8
                by_cases hlt : k < xm
                · have hkx : k < x.kids.length := by rw [HVX.out.2.2]; exact hlt
                  have hky : k < y.kids.length := by rw [HVY.out.2.2]; exact hlt
                  obtain ⟨b, o, za, zcap, rfl, hbn, hz, z0, z1, z2⟩ := kid_in HXTY.out HBX.out hkx
                  obtain ⟨b', o', z'a, z'cap, rfl, hbn', hz', z'0, z'1, z'2⟩ := kid_in HYTY.out HBX.out hky
                  have HZ := Lib.hid hz; have HZ' := Lib.hid hz'
                  obtain ⟨zk, zn, zm, hvz⟩ := TV.mk x.kids[k]
                  obtain ⟨z'k, z'n, z'm, hvz'⟩ := TV.mk y.kids[k]
                  rw [hvz.1] at z0; rw [hvz.2.1] at z1; rw [hvz.2.2] at z2; rw [hvz'.1] at z'0; rw [hvz'.2.1] at z'1; rw [hvz'.2.2] at z'2
                  have HVZ := Lib.hid hvz; have HVZ' := Lib.hid hvz'
                  have hq : E.length + R.length ≤ 1000000 := by
                    have h1 := HBK.out.laid.psz (by rw [HVX.out.2.2, HVY.out.2.2])
                    have h2 := len_psz E; have h3 := len_psz R; have h4 := HC.out.small
                    have h5 := psz_cons ⟨x, some ⟨b, o, none⟩, xcap, y, some ⟨b', o', none⟩, ycap⟩ R
                    have h6 := sizes_take_le x.kids k; have h7 := size_kids x
                    dsimp only at h5
                    omega
                  have hk10 : k ≤ 1000000 := by
                    have h4 := HC.out.small
                    have h5 := psz_cons ⟨x, some ⟨b, o, none⟩, xcap, y, some ⟨b', o', none⟩, ycap⟩ R
                    have h6 := Tp.length_le_sizes x.kids; have h7 := size_kids x
                    dsimp only at h5
                    omega
                  have HK10 := Lib.hid hk10; clear hk10
                  obtain ⟨k80, kml⟩ := b80 hq
                  have B1 := Lib.hid k80; have B2 := Lib.hid kml
                  have hx := HBK.out.own
                  obtain ⟨q, hqq⟩ : ∃ q, E.length + R.length = q := ⟨_, rfl⟩
                  rw [hqq] at hx ⊢
                  have HX := Lib.hid hx; have HQ := Lib.hid hqq
                  have HF7 := Lib.hid (box_far3 hx HB7'.out (by decide)); have HF8 := Lib.hid (box_far3 hx HB8'.out (by decide))
                  have hi0 : (0 : Int) ≤ (k : Int) := Int.natCast_nonneg k
                  have hi1 : (k : Int) < (xm : Int) := by omega
                  obtain ⟨i0, hi, hz0, hz1, hz2⟩ := info_parts info_pr
                  rw [hqq] at k80 kml
                  have HNX := Lib.hid (show w.heap.size + 1 + 1 ≤ wr.heap.size by have := HBX.out.size; have := HN4.out; omega)
                  clear hz hz' hvz hvz' hq k80 kml hx hqq hbn hbn'
                  go_upto_region 12 with fail
                  go_region_law (first | (refine step_append_lies _ ?_ (.tmp 54) (.tmp 66) 93 ?_ (w.heap.size + 1 + 1) 92 i0 (.agg #[.int .i64 0, .int .i64 0, .slice none 0 0, .int .i64 0, .int .i64 0, .slice none 0 0]) 6 80 Try.underlying93 hi hz0 hz1 hz2 ?_ ?_ (.slice av q cv) q (st3Cells (E ++ R).reverse) ?_ ?_ ⟨wr.heap.size, 0, none⟩ 1 1 [.int .i64 zk, .int .i64 zn, .slice za zm zcap, .int .i64 z'k, .int .i64 z'n, .slice z'a z'm z'cap] ?_ ?_ ?_ ?_ ?_ ?_ ?_ ?_ (wr.heap.size + 1) ?_ ?_; (· rfl); (· rfl); (· rfl); (· decide); (· rfl); (· exact HX.out.alloc _); (· rfl); (· rfl); (· exact World.news_of_block (World.alloc_heap_new wr _)); (· exact six_cells _ _ _ _ _ _ _ _ _ _); (· decide); (· rw [← HQ.out]; exact B2.out); (· rw [← HQ.out]; exact B1.out); (· exact Nat.le_trans HNX.out (by simp)); (· simp); intro g1 cap1 w7 own1 gr1 ly1 _))
                  all_goals
                    have gr1' := undrew gr1
                    have hbe := below_push (n := w.heap.size + 1 + 1) (Below.refl _ _) gr1' (fun z hz => (HX.out.lt z hz).1) HNX.out
                    have e7 := (gr1'.block B7 (by have := (Array.getElem?_eq_some_iff.1 HB7'.out).1; rw [World.size_alloc]; omega) (fun e => HF7.out e.symm)).trans ((Below.heap_alloc _ _ _ (Array.getElem?_eq_some_iff.1 HB7'.out).1).trans HB7'.out)
                    have e8 := (gr1'.block B8 (by have := (Array.getElem?_eq_some_iff.1 HB8'.out).1; rw [World.size_alloc]; omega) (fun e => HF8.out e.symm)).trans ((Below.heap_alloc _ _ _ (Array.getElem?_eq_some_iff.1 HB8'.out).1).trans HB8'.out)
                    have hnx := belK_push (g2 := g1) (cap2 := cap1) (w2 := w7) HBK.out hkx hky (e := ⟨x.kids[k], za, zcap, y.kids[k], z'a, z'cap⟩) rfl rfl ⟨HZ.out, HZ'.out, rights_at (kids_right HRX.out) k hkx, rights_at (kids_right HRY.out) k hky⟩ hbe (by rw [HQ.out]; simp only [en3Cells, HVZ.out.1, HVZ.out.2.1, HVZ.out.2.2, HVZ'.out.1, HVZ'.out.2.1, HVZ'.out.2.2]; exact own1)
                    rw [HQ.out] at hnx
                    have HNXT := Lib.hid hnx; have E7 := Lib.hid e7; have E8 := Lib.hid e8; have HBE := Lib.hid (HBX.out.trans hbe)
                    clear gr1 gr1' ly1 own1 hbe e7 e8 hnx z0 z1 z2 z'0 z'1 z'2 hi0 hi1 hi hz0 hz1 hz2 d72 d82
                    go_wp2_with fail
                    go_roundg (xm - (k + 1))
                    case measure => omega
                    case rel => exact ⟨_, k + 1, by omega, by exact wrap_k HK10.out, HNXT.out, E7.out, E8.out, HBE.out, rfl⟩
                · obtain rfl : k = xm := by omega
                  have F := bel_next HC.out (by rw [HVX.out.2.2, HVY.out.2.2]) HYES.out (by rw [HVX.out.2.2]; exact HBK.out)
                  have FF := Lib.hid F; clear F
                  go_wp2_with fail
                  go_roundg (psz (E ++ R))
                  case measure => exact FF.out.1
                  case rel => exact ⟨_, FF.out.2, HB.out.trans (HBX.out.mono (by omega)), by have := HBX.out.size; have := HN4.out; omega, rfl⟩
            · have gn : (xn == yn) = false := by simp [hn']
              have gn' : (xn != yn) = true := by simp [hn']
              have HF := Lib.hid (bel_no (e := ⟨x, xa, xcap, y, ya, ycap⟩) HC.out (by show Tp.below x y = false; rw [HBL.out, decide_eq_false hd, decide_eq_false hn', Bool.and_false]; rfl))
              clear hd hk hn'
              go_wp2_with fail
              go_ret
              exact ⟨ret_boolT HF.out.symm, HBc.out⟩
          · have gk : (xk == yk) = false := by simp [hk]
            have gk' : (xk != yk) = true := by simp [hk]
            have HF := Lib.hid (bel_no (e := ⟨x, xa, xcap, y, ya, ycap⟩) HC.out (by show Tp.below x y = false; rw [HBL.out, decide_eq_false hd, decide_eq_false hk]; rfl))
            clear hd hk
            go_wp2_with fail
            go_ret
            exact ⟨ret_boolT HF.out.symm, HBc.out⟩
end Go.Proofs.Ytncdbbjkafgphaa
namespace Go.Proofs.Ytncdbbjkafgphaa
open Go Go.RowKit
open Tp (T)

theorem ck_any {t : T} {k n : Int} {m : Nat} {a : Option Addr} {c : Nat} {w : World} (hv : TV t k n m) (ht : TyAt (LT w.heap.size) w t a c) (hs : Tp.size t ≤ 1000000) :
    Calls Try.prog 55 #[.agg #[.int .i64 k, .int .i64 n, .slice a m c]] w fun e w' => e = .returned (.int .i64 (errOf (Tp.right t))) ∧ Below w.heap.size w w' := by
  rw [← tv_of hv]
  exact check_any t a c w hs ht
set_option maxRecDepth 100000 in
theorem pright_any {t : T} {k n : Int} {m : Nat} {a : Option Addr} {c : Nat} {w : World} (hv : TV t k n m) (ht : TyAt (LT w.heap.size) w t a c) (hs : Tp.size t ≤ 1000000) :
    Calls Try.prog 52 #[.agg #[.int .i64 k, .int .i64 n, .slice a m c]] w fun e w' => e = .returned (.bool (Tp.right t)) ∧ Below w.heap.size w w' := by
  obtain ⟨W1, hW1⟩ : ∃ W, w.alloc (.cells #[.int .i64 k, .int .i64 n, .slice a m c] 24) = W := ⟨_, rfl⟩
  have hb1 : Below w.heap.size w W1 := by rw [← hW1]; exact (Below.refl _ _).alloc (Nat.le_refl _) _
  have hbx : BoxT W1 w.heap.size t k n m a c := ⟨hv, by rw [← hW1]; exact World.alloc_heap_new w _, ty_later ht hb1⟩
  have hc := ck_any hbx.says hbx.ty hs
  obtain ⟨c0, c1, c2⟩ := hbx.cells
  obtain ⟨r, hr⟩ : ∃ r, Tp.right t = r := ⟨_, rfl⟩
  rw [hr] at hc ⊢
  have HC := Lib.hid hc; have HW1 := Lib.hid hW1; have HB1 := Lib.hid hb1
  clear hc hW1 hb1 hbx hv ht hs hr
  go_enter Try.func52, Try.ntmps52
  go_upto_region 1 with fail
  rw [HW1.out]
  go_wp2_with fail
  refine HC.out.mono ?_
  clear c0 c1 c2
  rintro e w2 ⟨rfl, hb⟩
  have HB2 := Lib.hid (HB1.out.tr hb (Nat.le_refl _)); clear hb
  cases r with
  | true =>
    have h0 : errOf true = 0 := rfl
    rw [h0]
    go_wp2_with fail
    go_ret
    exact ⟨rfl, HB2.out⟩
  | false =>
    have h0 : errOf false = 1 := rfl
    rw [h0]
    go_wp2_with fail
    go_ret
    exact ⟨rfl, HB2.out⟩
set_option maxRecDepth 100000 in
set_option maxHeartbeats 1000000 in
theorem bl_any {t u : T} {k n k' n' : Int} {m m' : Nat} {a a' : Option Addr} {c c' : Nat} {w : World} (hv : TV t k n m) (hv' : TV u k' n' m') (ht : TyAt (LT w.heap.size) w t a c) (hu : TyAt (LT w.heap.size) w u a' c') (hs : Tp.size t ≤ 1000000) (hs' : Tp.size u ≤ 1000000) :
    Calls Try.prog 31 #[.agg #[.int .i64 k, .int .i64 n, .slice a m c], .agg #[.int .i64 k', .int .i64 n', .slice a' m' c']] w fun e w' => e = .returned (.bool (Tp.bl t u)) ∧ Below w.heap.size w w' := by
  obtain ⟨W2, hW2⟩ : ∃ W2, (w.alloc (.cells #[.int .i64 k, .int .i64 n, .slice a m c] 24)).alloc (.cells #[.int .i64 k', .int .i64 n', .slice a' m' c'] 24) = W2 := ⟨_, rfl⟩
  have hb2 : Below w.heap.size w W2 := by rw [← hW2]; exact ((Below.refl _ _).alloc (Nat.le_refl _) _).alloc (by simp) _
  have bx : BoxT W2 w.heap.size t k n m a c := ⟨hv, by rw [← hW2]; exact box1 _ _ _ _ _, ty_later ht hb2⟩
  have bu : BoxT W2 (w.heap.size + 1) u k' n' m' a' c' := ⟨hv', by rw [← hW2]; exact box2 _ _ _ _ _, ty_later hu hb2⟩
  have hct := fun x (h : Below W2.heap.size W2 x) => pright_any (w := x) (bx.later h).says (bx.later h).ty hs
  have hcu := fun x (h : Below W2.heap.size W2 x) => pright_any (w := x) (bu.later h).says (bu.later h).ty hs'
  have hcb := fun x (h : Below W2.heap.size W2 x) (h1 : Tp.right t = true) (h2 : Tp.right u = true) => pbelow_any t u k n m a c k' n' m' a' c' x (bx.later h).says (bu.later h).says hs h1 h2 (bx.later h).ty (bu.later h).ty
  have HCELL := Lib.hid (fun x (h : Below W2.heap.size W2 x) => (⟨(bx.later h).cells, (bu.later h).cells⟩ : _ ∧ _))
  obtain ⟨⟨c0, c1, c2⟩, ⟨d0, d1, d2⟩⟩ := HCELL.out W2 (Below.refl _ _)
  unfold Tp.bl
  obtain ⟨r, hr⟩ : ∃ r, Tp.right t = r := ⟨_, rfl⟩
  obtain ⟨r', hr'⟩ : ∃ r, Tp.right u = r := ⟨_, rfl⟩
  rw [hr] at hct hcb ⊢
  rw [hr'] at hcu hcb ⊢
  have HCT := Lib.hid hct; have HCU := Lib.hid hcu; have HCB := Lib.hid hcb; have HW2 := Lib.hid hW2; have HB2 := Lib.hid hb2
  clear hct hcu hcb hW2 hb2 bx bu hv hv' ht hu hs hs' hr hr'
  go_enter Try.func31, Try.ntmps31
  go_upto_region 1 with fail
  rw [HW2.out]
  cases r with
  | false =>
    go_wp2_with (go_at_call 52; with_reducible refine (HCT.out _ (Below.refl _ _)).mono ?_; clear c0 c1 c2 d0 d1 d2; rintro e w3 ⟨rfl, hb⟩; have HB3 := Lib.hid hb; clear hb; obtain ⟨⟨c0, c1, c2⟩, ⟨d0, d1, d2⟩⟩ := HCELL.out w3 HB3.out)
    go_ret
    exact ⟨rfl, HB2.out.tr HB3.out (Nat.le_refl _)⟩
  | true =>
    cases r' with
    | false =>
      go_wp2_with (first | (go_at_call 52; with_reducible refine (HCT.out _ (Below.refl _ _)).mono ?_; clear c0 c1 c2 d0 d1 d2; rintro e w3 ⟨rfl, hb⟩; have HB3 := Lib.hid hb; clear hb; obtain ⟨⟨c0, c1, c2⟩, ⟨d0, d1, d2⟩⟩ := HCELL.out w3 HB3.out) | (go_at_call 52; with_reducible refine (HCU.out _ HB3.out).mono ?_; clear c0 c1 c2 d0 d1 d2; rintro e w4 ⟨rfl, hb⟩; have HB4 := Lib.hid (HB3.out.tr hb (Nat.le_refl _)); clear hb; obtain ⟨⟨c0, c1, c2⟩, ⟨d0, d1, d2⟩⟩ := HCELL.out w4 HB4.out))
      go_ret
      exact ⟨rfl, HB2.out.tr HB4.out (Nat.le_refl _)⟩
    | true =>
      go_wp2_with (first | (go_at_call 52; with_reducible refine (HCT.out _ (Below.refl _ _)).mono ?_; clear c0 c1 c2 d0 d1 d2; rintro e w3 ⟨rfl, hb⟩; have HB3 := Lib.hid hb; clear hb; obtain ⟨⟨c0, c1, c2⟩, ⟨d0, d1, d2⟩⟩ := HCELL.out w3 HB3.out) | (go_at_call 52; with_reducible refine (HCU.out _ HB3.out).mono ?_; clear c0 c1 c2 d0 d1 d2; rintro e w4 ⟨rfl, hb⟩; have HB4 := Lib.hid (HB3.out.tr hb (Nat.le_refl _)); clear hb; obtain ⟨⟨c0, c1, c2⟩, ⟨d0, d1, d2⟩⟩ := HCELL.out w4 HB4.out) | (go_at_call 53; with_reducible refine (HCB.out _ HB4.out trivial trivial).mono ?_; clear c0 c1 c2 d0 d1 d2; rintro e w5 ⟨rfl, hb⟩; have HB5 := Lib.hid (HB4.out.tr hb (Nat.le_refl _)); clear hb))
      go_ret
      exact ⟨ret_boolT (by simp), HB2.out.tr HB5.out (Nat.le_refl _)⟩
end Go.Proofs.Ytncdbbjkafgphaa
namespace Go.Proofs.Ytncdbbjkafgphaa
open Go Go.RowKit
open Tp (T)

theorem zero_three {y : World} {bb : Nat} {ty : TypeId} (h : y.heap[bb]? = some (.cells #[.int .i64 0, .int .i64 0, .slice none 0 0] ty (0, 0))) : y.cell? ⟨bb, 0, none⟩ = some (.int .i64 0) ∧ y.cell? ⟨bb, 1, none⟩ = some (.int .i64 0) ∧ y.cell? ⟨bb, 2, none⟩ = some (.slice none 0 0) ∧ y.frozen? ⟨bb, 0, none⟩ = false ∧ y.frozen? ⟨bb, 1, none⟩ = false ∧ y.frozen? ⟨bb, 2, none⟩ = false :=
  ⟨cell_box h rfl rfl, cell_box h rfl rfl, cell_box h rfl rfl, IsC.frozen ⟨_, _, h⟩, IsC.frozen ⟨_, _, h⟩, IsC.frozen ⟨_, _, h⟩⟩
theorem put3 {B : Nat} {W y : World} {bb : Nat} {v0 v1 v2 : Value} (hB : Below B W y) (hbb : B ≤ bb) : Below B W (((y.setCell ⟨bb, 0, none⟩ v0).setCell ⟨bb, 1, none⟩ v1).setCell ⟨bb, 2, none⟩ v2) :=
  ((hB.setCell hbb _).setCell hbb _).setCell hbb _
theorem far_row {B n b : Nat} {A C : World} {o o' : Obj} {v : Value} {xs : List Value} (hg : (A.alloc o).grownBy C v.ownBlock) (hb : A.heap[b]? = some o') (h : A.ownsRow B 24 3 v n xs) (hlt : b < B) : C.heap[b]? = some o' := by
  have h1 := (Array.getElem?_eq_some_iff.1 hb).1
  exact ((hg.block b (by rw [World.size_alloc]; omega) (fun e => by have := (h.lt b e.symm).1; omega)).trans (Below.heap_alloc _ _ _ h1)).trans hb
def dke : Ke := ⟨.mk 5 0 [], none, 0⟩
theorem dke_cells (k : Nat) : rowCells (List.replicate (k + 1) dke) = rowCells (List.replicate k dke) ++ [.int .i64 5, .int .i64 0, .slice none 0 0] := by
  rw [List.replicate_succ', rowCells_snoc]; rfl
theorem dke_slAt {w : World} {B k cap : Nat} {a : Option Addr} (h : w.ownsRow B 24 3 (.slice a k cap) k (rowCells (List.replicate k dke))) : SlAt (LT w.heap.size) w (Tp.dyns k) a cap := by
  have h2 := row_slAt (G := LT w.heap.size) (ks := List.replicate k dke) (by rw [List.length_replicate]; exact h) (fun g hg => (h.lt g hg).2) (fun e he => by rw [List.eq_of_mem_replicate he]; exact leaf_at (i64_nat (by decide) (by decide)))
  have e : (List.replicate k dke).map Ke.t = Tp.dyns k := by simp [dke, Tp.dyns]
  rwa [e] at h2
/-- What Ground hands back, whatever came of it. -/
def GrRes (t : T) (w : World) (e : Ending) (w' : World) : Prop := ∃ k n m a c, TV (Tp.grd t) k n m ∧ e = .returned (.tuple #[.agg #[.int .i64 k, .int .i64 n, .slice a m c], .bool (Tp.hasG t)]) ∧ TyAt (LT w'.heap.size) w' (Tp.grd t) a c ∧ Below w.heap.size w w'
theorem grd_no {t : T} {w w' : World} {e : Ending} (h : Tp.hasG t = false) (he : e = .returned (.tuple #[.agg #[.int .i64 0, .int .i64 0, .slice none 0 0], .bool false])) (hb : Below w.heap.size w w') : GrRes t w e w' := by
  have hg : Tp.grd t = .mk 0 0 [] := by unfold Tp.grd; rw [h]; rfl
  exact ⟨0, 0, 0, none, 0, by rw [hg]; exact ⟨rfl, rfl, rfl⟩, by rw [h, he], by rw [hg]; exact leaf_at (i64_nat (by decide) (by decide)), hb⟩
end Go.Proofs.Ytncdbbjkafgphaa
namespace Go.Proofs.Ytncdbbjkafgphaa
open Go Go.RowKit
open Tp (T)

theorem wake9_ok : Tp.bl (funT 1 1) (funT 5 1) = true ∧ Tp.bl (funT 5 1) (funT 1 1) = false ∧ Tp.hasG (funT 1 1) = true ∧ Tp.grd (funT 1 1) = funT 5 5 ∧ Tp.hasG (.mk 5 0 []) = false := by
  have h : Tp.hasG (funT 1 1) = true := by simp [funT, Tp.hasG, Tp.right, Tp.rights, Tp.nodeRight, Tp.arity, Tp.T.kind]
  refine ⟨?_, ?_, h, ?_, ?_⟩
  · simp [funT, Tp.bl, Tp.right, Tp.rights, Tp.nodeRight, Tp.arity, Tp.below, Tp.belows]
  · simp [funT, Tp.bl, Tp.right, Tp.rights, Tp.nodeRight, Tp.arity, Tp.below, Tp.belows]
  · unfold Tp.grd; rw [if_pos h]; rfl
  · simp [Tp.hasG, Tp.T.kind]
/-- Two leaves and a function, in a box. -/
theorem box_new {w3 W4 : World} {t : T} {k n : Int} {m : Nat} {a : Option Addr} {c : Nat} (hv : TV t k n m) (ht : TyAt (LT w3.heap.size) w3 t a c) (hW : w3.alloc (.cells #[.int .i64 k, .int .i64 n, .slice a m c] 24) = W4) : BoxT W4 w3.heap.size t k n m a c ∧ Below w3.heap.size w3 W4 := by
  have hb : Below w3.heap.size w3 W4 := by rw [← hW]; exact (Below.refl _ _).alloc (Nat.le_refl _) _
  exact ⟨⟨hv, by rw [← hW]; exact World.alloc_heap_new w3 _, ty_later ht hb⟩, hb⟩

end Go.Proofs.Ytncdbbjkafgphaa
