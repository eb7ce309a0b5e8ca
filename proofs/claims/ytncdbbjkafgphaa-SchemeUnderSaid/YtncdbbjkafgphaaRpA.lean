/- scheme.replaced: types put for variables, row by row, each row a copy: what the walk needs. scheme.replaced: one entry of a row more. scheme.replaced: what the arms of a round write. scheme.replaced, walked. -/
import Derived.Test.YtncdbbjkafgphaaUgA
import Derived.Test.YtncdbbjkafgphaaUgW
import Derived.Test.YtncdbbjkafgphaaScP
import Derived.Test.YtncdbbjkafgphaaClT
namespace Go.Proofs.Ytncdbbjkafgphaa
open Go Go.RowKit
open Tp (T Bd)
/-- All blocks but the call's own two. -/
abbrev GB (n0 : Nat) : Nat → Prop := fun z => z < n0 ∨ n0 + 2 ≤ z
mutual
theorem node_lt {G : Nat → Prop} {W : World} : ∀ (t : T) (b o : Nat), NodeAt G W t b o → NodeAt (fun z => G z ∧ z < W.heap.size) W t b o
  | .mk k n l, b, o, h => by
    simp only [NodeAt] at h ⊢
    obtain ⟨h1, h2, h3, h4, a, cap, h5, h6, h7, h8⟩ := h
    exact ⟨h1, h2, h3, h4, a, cap, h5, h6, h7, kids_lt l a h8⟩
theorem kids_lt {G : Nat → Prop} {W : World} : ∀ (l : List T) (a : Option Addr), KidsAt G W l a → KidsAt (fun z => G z ∧ z < W.heap.size) W l a
  | [], _, _ => by simp [KidsAt]
  | t :: r, a, h => by
    simp only [KidsAt] at h ⊢
    obtain ⟨b, o, h1, h2, h3, h4⟩ := h
    obtain ⟨_, _, _, c0, _⟩ := h3.ty
    exact ⟨b, o, h1, ⟨h2, cell_lt c0⟩, node_lt t b o h3, kids_lt r _ h4⟩
end
/-- A row that is still to be looked through: its block, its room, what lies in it. -/
structure Pq where
  kb : Nat
  cap : Nat
  ks : List Ke
def Pq.ts (p : Pq) : List T := p.ks.map Ke.t
def pnV (p : Pq) : Value := .slice (some ⟨p.kb, 0, none⟩) p.ks.length p.cap
/-- It lies as it was copied. -/
structure PqAt (n0 : Nat) (W : World) (p : Pq) : Prop where
  blk : ∃ A, W.heap[p.kb]? = some (.cells A 24)
  cells : ∀ j u, (rowCells p.ks)[j]? = some u → W.cell? ⟨p.kb, j, none⟩ = some u
  each : ∀ e ∈ p.ks, TyAt (LT n0) W e.t e.a e.cap
  room : p.ks.length ≤ p.cap ∧ p.cap ≤ maxLen
  some' : p.ks ≠ []
  right : ∀ e ∈ p.ks, Tp.right e.t = true
theorem PqAt.same {n0 : Nat} {W W' : World} {p : Pq} (h : PqAt n0 W p) (hk : W'.heap[p.kb]? = W.heap[p.kb]?) (hn : ∀ z, z < n0 → W'.heap[z]? = W.heap[z]?) : PqAt n0 W' p :=
  ⟨by obtain ⟨A, hA⟩ := h.blk; exact ⟨A, hk.trans hA⟩, fun j u hu => (World.cell?_of_block (a := ⟨p.kb, j, none⟩) hk).trans (h.cells j u hu), fun e he => ty_same hn (fun _ h => h) (h.each e he), h.room, h.some', h.right⟩
/-- What is written for an entry: what comes out, but that its kids may be still to be looked through. -/
def EntOk (L : List Bd) (n0 : Nat) (V : World) (kb j : Nat) (x : T) (E : List Pq) : Prop := ∃ (y : T) (a : Option Addr) (c : Nat), y = Tp.sub L x ∧ V.cell? ⟨kb, j * 3, none⟩ = some (.int .i64 y.kind) ∧ V.cell? ⟨kb, j * 3 + 1, none⟩ = some (.int .i64 y.num) ∧ V.cell? ⟨kb, j * 3 + 2, none⟩ = some (.slice a y.kids.length c) ∧
  I64 y.kind ∧ I64 y.num ∧ y.kids.length ≤ c ∧ c ≤ maxLen ∧ (KidsAt (LT n0) V y.kids a ∨ ∃ p ∈ E, a = some ⟨p.kb, 0, none⟩ ∧ y.kids = Tp.subs L p.ts)
theorem EntOk.same {L : List Bd} {n0 : Nat} {V V' : World} {kb j : Nat} {x : T} {E E' : List Pq} (h : EntOk L n0 V kb j x E) (hc : ∀ i, i < 3 → V'.cell? ⟨kb, j * 3 + i, none⟩ = V.cell? ⟨kb, j * 3 + i, none⟩) (hn : ∀ z, z < n0 → V'.heap[z]? = V.heap[z]?) (hE : ∀ p ∈ E, p ∈ E') : EntOk L n0 V' kb j x E' := by
  obtain ⟨y, a, c, h1, h2, h3, h4, h5, h6, h7, h8, h9⟩ := h
  refine ⟨y, a, c, h1, (hc 0 (by omega)).trans h2, (hc 1 (by omega)).trans h3, (hc 2 (by omega)).trans h4, h5, h6, h7, h8, h9.imp (fun h => ?_) (fun ⟨p, hp, h⟩ => ⟨p, hE p hp, h⟩)⟩
  exact KidsAt.mono (fun b o hb => World.cell?_of_block (a := ⟨b, o, none⟩) (hn b hb)) (fun _ h => h) _ _ h
/-- In whatever world the rows that are left come to lie as what is put makes them, the whole lies as it is to. -/
def Root (L : List Bd) (n0 : Nat) (t : T) (wb : Nat) (D : List Nat) (P : List Pq) (V : World) : Prop := ∀ V' : World, (∀ z, z < n0 ∨ z ∈ D → V'.heap[z]? = V.heap[z]?) → (∀ p ∈ P, KidsAt (GB n0) V' (Tp.subs L p.ts) (some ⟨p.kb, 0, none⟩)) → KidsAt (GB n0) V' [Tp.sub L t] (some ⟨wb, 0, none⟩)
theorem root_done {L : List Bd} {n0 : Nat} {V V1 : World} {t : T} {wb : Nat} {D : List Nat} {P E : List Pq} {p : Pq} (h : Root L n0 t wb D (p :: P) V) (hV : ∀ z, z < n0 ∨ z ∈ D → V1.heap[z]? = V.heap[z]?) (hkb : n0 + 2 ≤ p.kb) (he : ∀ j (hj : j < p.ts.length), EntOk L n0 V1 p.kb j p.ts[j] E) : Root L n0 t wb (p.kb :: D) (E ++ P) V1 := by
  intro V' hV' hP
  refine h V' (fun z hz => (hV' z (hz.imp id (List.mem_cons_of_mem _))).trans (hV z hz)) (fun q hq => ?_)
  rcases List.mem_cons.1 hq with rfl | hq
  · refine KidsAt.of_nodes (.inr hkb) _ _ fun j hj => ?_
    rw [Tp.subs_len] at hj
    have hs : (Tp.subs L q.ts)[j]'(by rw [Tp.subs_len]; exact hj) = Tp.sub L q.ts[j] := Tp.subs_get L _ j hj _
    rw [hs]
    obtain ⟨y, a, c, rfl, h2, h3, h4, h5, h6, h7, h8, h9⟩ := he j hj
    have hkq : V'.heap[q.kb]? = V1.heap[q.kb]? := hV' _ (.inr (by simp))
    have hc : ∀ i, V'.cell? ⟨q.kb, i, none⟩ = V1.cell? ⟨q.kb, i, none⟩ := fun i => World.cell?_of_block (a := ⟨q.kb, i, none⟩) hkq
    refine NodeAt.mk' (a := a) (cap := c) ⟨h5, h6, h7, h8, ?_⟩ ?_ ?_ ?_
    · rcases h9 with h9 | ⟨p2, hp2, h10, h11⟩
      · exact KidsAt.mono (fun b o hb => World.cell?_of_block (a := ⟨b, o, none⟩) (hV' b (.inl hb))) (fun _ h => .inl h) _ _ h9
      · rw [h11, h10]; exact hP p2 (List.mem_append_left _ hp2)
    · rw [Nat.zero_add, hc]; exact h2
    · rw [Nat.zero_add, hc]; exact h3
    · rw [Nat.zero_add, hc]; exact h4
  · exact hP q (List.mem_append_right _ hq)
def pnsz (R : List Pq) : Nat := (R.map fun p => Tp.sizes p.ts).sum
theorem pnsz_cons (p : Pq) (R : List Pq) : pnsz (p :: R) = Tp.sizes p.ts + pnsz R := rfl
theorem pnsz_append (E R : List Pq) : pnsz (E ++ R) = pnsz E + pnsz R := by simp [pnsz]
def pnRow (R : List Pq) : List Value := R.map pnV
theorem info_sl : (Try.prog.info? 22).map (fun i => (i.zero, i.size, i.bytes)) = some (some (.slice none 0 0), 1, 24) := by kernel_rfl
theorem elem_sl : Try.prog.underlying 73 = some (.slice (Try.prog.elem 73)) := by kernel_rfl
theorem size_sl (w : World) : (sizeOf (Try.prog.elem 73)).run Try.prog w = .ok 1 w := by kernel_rfl
theorem sl_pop (g n cap k : Nat) (hk : k ≤ n) (hn : n ≤ cap) (w' : World) :
    (Instr.slice 73 (.slice (some ⟨g, 0, none⟩) n cap) none (some (.int .i64 (k : Int))) none).run Try.prog w' = .ok (.slice (some ⟨g, 0, none⟩) k cap) w' := by
  rw [run_slice_h w' _ _ n cap elem_sl .i64 (k : Int) (by omega) (by omega), size_sl]
  simp [Result.andThen, sliced, add_flat]
theorem own_topS {w : World} {base : Nat} {v : Value} {R : List Pq} {p : Pq} (h : w.ownsRow base 22 1 v (R.length + 1) (pnRow (p :: R).reverse)) :
    ∃ g cap, v = .slice (some ⟨g, 0, none⟩) (R.length + 1) cap ∧ base ≤ g ∧ g < w.heap.size ∧ R.length + 1 ≤ cap ∧ cap ≤ maxLen ∧ w.cell? ⟨g, R.length, none⟩ = some (pnV p) ∧ w.ownsRow base 22 1 (.slice (some ⟨g, 0, none⟩) R.length cap) R.length (pnRow R.reverse) := by
  rw [List.reverse_cons] at h
  unfold pnRow at h
  rw [List.map_append] at h
  obtain ⟨h1, h2 | ⟨g, cap, cur, h3, h4, h5, h6, h7, h8, h9⟩⟩ := id h
  · omega
  · subst h3
    have hlen : (R.reverse.map pnV).length = R.length := by simp
    have hc := h.cells (g := g) rfl
    refine ⟨g, cap, rfl, h4, (Array.getElem?_eq_some_iff.1 h5).1, h6, h7, ?_, own_take h (Nat.le_succ _) (by show (R.reverse.map pnV).length = _; rw [hlen, Nat.mul_one])⟩
    have := hc R.length (pnV p) (by rw [List.getElem?_append_right (by rw [hlen]; exact Nat.le_refl _), hlen, Nat.sub_self]; rfl)
    rwa [add_flat, Nat.zero_add] at this
set_option maxRecDepth 100000 in
theorem append_sl {w : World} {ops : Array Oper} {rest : List Oper} {o : Oper} {act : Act} {Q : Exit → Act → World → Prop} (hgd : o.guard = none) (s x : Operand)
    (ho : o.op = .call { callee := .builtin .append, args := #[s, x], argTypes := #[73, 73] })
    (base : Nat) (v : Value) (k : Nat) (R : List Pq) (hs : act.eval s = v) (hown : w.ownsRow base 22 1 v k (pnRow R)) (p : Pq) (hb : Nat) (hx : act.eval x = .slice (some ⟨hb, 0, none⟩) 1 1) (hc : w.heap[hb]? = some (.cells #[pnV p] 22))
    (hlen : k ≤ 4 * 1000000) (hbase : base ≤ w.heap.size)
    (h : ∀ g cap w', w'.ownsRow base 22 1 (.slice (some ⟨g, 0, none⟩) (k + 1) cap) (k + 1) (pnRow (R ++ [p])) → w.grownBy w' v.ownBlock → (v.ownBlock = some g ∨ g = w.heap.size) → wpList Try.prog ops Q rest (act.put o.dst (.slice (some ⟨g, 0, none⟩) (k + 1) cap)) w') : wpList Try.prog ops Q (o :: rest) act w := by
  obtain ⟨i0, hi, hz0, hz1, hz2⟩ := info_parts info_sl
  obtain ⟨b1, b2⟩ := b32u hlen
  refine wpList_plain hgd fun K hK => ?_
  refine wp_append_lies w s x 73 ho base 22 i0 (.slice none 0 0) 1 24 Try.underlying73 hi hz0 hz1 hz2 rfl (by decide) v k (pnRow R) hs hown ⟨hb, 0, none⟩ 1 1 [pnV p] hx rfl ?_ (by intro u hu; rw [List.mem_singleton.1 hu]; rfl) (by decide) b2 (by omega) hbase w.heap.size rfl fun g cap w' h1 h2 h3 _ => hK _ _ (h g cap w' (by unfold pnRow at h1 ⊢; rw [List.map_append]; exact h1) h2 h3)
  intro j u hu
  match j with
  | 0 => injection hu with hu; subst hu; rw [add_flat]; exact cell_box hc rfl rfl
  | j + 1 => simp at hu
/-- Between two rounds: R is left, the top first; D was looked through. -/
structure RpS (L : List Bd) (t : T) (w : World) (R : List Pq) (D : List Nat) (v6 : Value) (wr : World) : Prop where
  root : Root L w.heap.size t (w.heap.size + 2) D R wr
  each : ∀ p ∈ R, PqAt w.heap.size wr p
  nod : (R.map Pq.kb ++ D).Nodup
  new : ∀ z ∈ R.map Pq.kb ++ D, w.heap.size + 2 ≤ z ∧ z < wr.heap.size
  row : wr.ownsRow (w.heap.size + 2) 22 1 v6 R.length (pnRow R.reverse)
  res : wr.heap[w.heap.size + 1]? = some (.cells #[.int .i64 0, .int .i64 0, .slice none 0 0] 24)
  keep : Below w.heap.size w wr
  small : pnsz R ≤ 1000000
  dt : ∀ z ∈ D, ∃ A, wr.heap[z]? = some (.cells A 24)
theorem pnsz_len : ∀ (R : List Pq), (∀ p ∈ R, p.ks ≠ []) → R.length ≤ pnsz R
  | [], _ => by simp
  | p :: R, h => by
    have ih := pnsz_len R fun q hq => h q (List.mem_cons_of_mem _ hq)
    have h1 := Tp.length_le_sizes p.ts
    have h2 : p.ts.length ≠ 0 := by
      unfold Pq.ts
      rw [List.length_map]
      exact fun e => h p (by simp) (List.eq_nil_of_length_eq_zero e)
    rw [pnsz_cons, List.length_cons]; omega
/-- k entries of the top's row written. -/
structure RpK (L : List Bd) (w : World) (p : Pq) (R E : List Pq) (D : List Nat) (k : Nat) (v6 : Value) (V : World) : Prop where
  done : ∀ j (hj : j < p.ts.length), j < k → EntOk L w.heap.size V p.kb j p.ts[j] E
  left : ∀ j, k ≤ j → ∀ i, i < 3 → ∀ u, (rowCells p.ks)[j * 3 + i]? = some u → V.cell? ⟨p.kb, j * 3 + i, none⟩ = some u
  blk : ∃ A, V.heap[p.kb]? = some (.cells A 24)
  eachE : ∀ q ∈ E, PqAt w.heap.size V q
  eachR : ∀ q ∈ R, PqAt w.heap.size V q
  nod : ((E ++ R).map Pq.kb ++ p.kb :: D).Nodup
  new : ∀ z ∈ (E ++ R).map Pq.kb ++ p.kb :: D, w.heap.size + 2 ≤ z ∧ z < V.heap.size
  row : V.ownsRow (w.heap.size + 2) 22 1 v6 (E ++ R).length (pnRow (E ++ R).reverse)
  res : V.heap[w.heap.size + 1]? = some (.cells #[.int .i64 0, .int .i64 0, .slice none 0 0] 24)
  keep : Below w.heap.size w V
  size : pnsz E + k ≤ Tp.sizes (p.ts.take k)
/-- All entries written: the row is done. -/
theorem RpK.close {L : List Bd} {t : T} {w V V0 : World} {p : Pq} {R E : List Pq} {D : List Nat} {v6 v6' : Value} (h0 : RpS L t w (p :: R) D v6' V0) (h : RpK L w p R E D p.ts.length v6 V) (hD : ∀ z ∈ D, V.heap[z]? = V0.heap[z]?) : pnsz (E ++ R) < pnsz (p :: R) ∧ RpS L t w (E ++ R) (p.kb :: D) v6 V := by
  have h1 := h.size
  rw [List.take_length] at h1
  have h2 : 0 < p.ts.length := by
    have := (h0.each p (by simp)).some'
    unfold Pq.ts
    rw [List.length_map]
    exact List.length_pos_iff.2 this
  have h3 : pnsz (E ++ R) < pnsz (p :: R) := by rw [pnsz_append, pnsz_cons]; omega
  refine ⟨h3, ?_, fun q hq => (List.mem_append.1 hq).elim (h.eachE q) (h.eachR q), h.nod, h.new, h.row, h.res, h.keep, by have := h0.small; omega, fun z hz => ?_⟩
  · refine root_done h0.root (fun z hz => ?_) (h.new p.kb (by simp)).1 (fun j hj => h.done j hj hj)
    rcases hz with hz | hz
    · exact (h.keep.block z hz).trans (h0.keep.block z hz).symm
    · exact hD z hz
  · rcases List.mem_cons.1 hz with rfl | hz
    · exact h.blk
    · obtain ⟨A, hA⟩ := h0.dt z hz
      exact ⟨A, (hD z hz).trans hA⟩
/-- The top is taken off. -/
theorem RpS.open {L : List Bd} {t : T} {w V : World} {p : Pq} {R : List Pq} {D : List Nat} {v6 v6' : Value} (h : RpS L t w (p :: R) D v6' V) (hrow : V.ownsRow (w.heap.size + 2) 22 1 v6 R.length (pnRow R.reverse)) : RpK L w p R [] D 0 v6 V := by
  have hp := h.each p (by simp)
  refine ⟨fun j _ hj => by omega, fun j _ i _ u hu => hp.cells _ u hu, hp.blk, (fun _ h => by cases h), fun q hq => h.each q (List.mem_cons_of_mem _ hq), ?_, fun z hz => h.new z ?_, by rw [List.nil_append]; exact hrow, h.res, h.keep, by simp [pnsz, Tp.sizes]⟩
  · have hn := h.nod
    rw [List.map_cons, List.cons_append] at hn
    rw [List.nil_append]
    exact List.perm_middle.symm.nodup hn
  · rw [List.nil_append] at hz
    rw [List.map_cons, List.cons_append]
    exact List.perm_middle.mem_iff.1 hz
end Go.Proofs.Ytncdbbjkafgphaa
namespace Go.Proofs.Ytncdbbjkafgphaa
open Go Go.RowKit
open Tp (T Bd)
/-- What a round turns: the row's entry, and the stack. -/
structure RpT (w : World) (kb k : Nat) (v6 : Value) (V V' : World) : Prop where
  other : ∀ z, z < V.heap.size → z ≠ kb → v6.ownBlock ≠ some z → V'.heap[z]? = V.heap[z]?
  cell : ∀ i, i < k * 3 ∨ k * 3 + 3 ≤ i → V'.cell? ⟨kb, i, none⟩ = V.cell? ⟨kb, i, none⟩
  blk : ∃ A, V'.heap[kb]? = some (.cells A 24)
  size : V.heap.size ≤ V'.heap.size
  keep : Below w.heap.size w V'
theorem RpK.far {L : List Bd} {w V : World} {p : Pq} {R E : List Pq} {D : List Nat} {k : Nat} {v6 : Value} (h : RpK L w p R E D k v6 V) {z : Nat} {A : Array Value} (hz : V.heap[z]? = some (.cells A 24)) : v6.ownBlock ≠ some z := own_ne h.row hz (by decide)
theorem RpK.all {L : List Bd} {w V V' : World} {p : Pq} {R E : List Pq} {D : List Nat} {k : Nat} {v6 : Value} (h : RpK L w p R E D k v6 V) (ht : RpT w p.kb k v6 V V') {q : Pq} (hq : q ∈ E ++ R) : PqAt w.heap.size V' q := by
  have hq' : PqAt w.heap.size V q := (List.mem_append.1 hq).elim (h.eachE q) (h.eachR q)
  obtain ⟨A, hA⟩ := hq'.blk
  have hne : q.kb ≠ p.kb := fun e => by
    have := h.nod
    rw [List.nodup_append] at this
    exact this.2.2 q.kb (List.mem_map_of_mem hq) p.kb (by simp) e
  exact hq'.same (ht.other q.kb (Array.getElem?_eq_some_iff.1 hA).1 hne (h.far hA)) (fun z hz => (ht.keep.block z hz).trans (h.keep.block z hz).symm)
theorem RpK.old {L : List Bd} {w V V' : World} {p : Pq} {R E E' : List Pq} {D : List Nat} {k : Nat} {v6 : Value} (h : RpK L w p R E D k v6 V) (ht : RpT w p.kb k v6 V V') (hE : ∀ q ∈ E, q ∈ E') (hk : k < p.ts.length) (he : EntOk L w.heap.size V' p.kb k p.ts[k] E') :
    (∀ j (hj : j < p.ts.length), j < k + 1 → EntOk L w.heap.size V' p.kb j p.ts[j] E') ∧ (∀ j, k + 1 ≤ j → ∀ i, i < 3 → ∀ u, (rowCells p.ks)[j * 3 + i]? = some u → V'.cell? ⟨p.kb, j * 3 + i, none⟩ = some u) ∧ V'.heap[w.heap.size + 1]? = some (.cells #[.int .i64 0, .int .i64 0, .slice none 0 0] 24) := by
  refine ⟨fun j hj hjk => ?_, fun j hj i hi u hu => ?_, ?_⟩
  · by_cases hjk' : j < k
    · exact (h.done j hj hjk').same (fun i hi => ht.cell _ (.inl (by omega))) (fun z hz => (ht.keep.block z hz).trans (h.keep.block z hz).symm) hE
    · obtain rfl : j = k := by omega
      exact he
  · rw [ht.cell _ (.inr (by omega))]
    exact h.left j (by omega) i hi u hu
  · have h1 := (h.new p.kb (by simp)).1
    exact (ht.other _ (Array.getElem?_eq_some_iff.1 h.res).1 (by omega) (h.far h.res)).trans h.res
theorem ts_take {p : Pq} {k : Nat} (hk : k < p.ts.length) : Tp.sizes (p.ts.take (k + 1)) = Tp.sizes (p.ts.take k) + Tp.size p.ts[k] := by
  rw [List.take_succ_eq_append_getElem hk, Tp.sizes_append]
  simp [Tp.sizes]
/-- No row more. -/
theorem RpK.step0 {L : List Bd} {w V V' : World} {p : Pq} {R E : List Pq} {D : List Nat} {k : Nat} {v6 : Value} (h : RpK L w p R E D k v6 V) (ht : RpT w p.kb k v6 V V') (hrow : V'.ownsRow (w.heap.size + 2) 22 1 v6 (E ++ R).length (pnRow (E ++ R).reverse)) (hk : k < p.ts.length) (he : EntOk L w.heap.size V' p.kb k p.ts[k] E) : RpK L w p R E D (k + 1) v6 V' := by
  obtain ⟨h1, h2, h3⟩ := h.old ht (fun _ h => h) hk he
  refine ⟨h1, h2, ht.blk, fun q hq => h.all ht (List.mem_append_left _ hq), fun q hq => h.all ht (List.mem_append_right _ hq), h.nod, fun z hz => ⟨(h.new z hz).1, Nat.lt_of_lt_of_le (h.new z hz).2 ht.size⟩, hrow, h3, ht.keep, ?_⟩
  rw [ts_take hk]
  have := h.size
  have := Tp.size_pos p.ts[k]
  omega
/-- A row more: the entry's kids, copied. -/
theorem RpK.step1 {L : List Bd} {w V V' : World} {p q : Pq} {R E : List Pq} {D : List Nat} {k : Nat} {v6 v6' : Value} (h : RpK L w p R E D k v6 V) (ht : RpT w p.kb k v6 V V') (hrow : V'.ownsRow (w.heap.size + 2) 22 1 v6' ((q :: E) ++ R).length (pnRow ((q :: E) ++ R).reverse)) (hk : k < p.ts.length)
    (hq : PqAt w.heap.size V' q) (hq1 : V.heap.size ≤ q.kb) (hqs : q.ts = p.ts[k].kids) (he : EntOk L w.heap.size V' p.kb k p.ts[k] (q :: E)) : RpK L w p R (q :: E) D (k + 1) v6' V' := by
  obtain ⟨h1, h2, h3⟩ := h.old ht (fun _ h => List.mem_cons_of_mem _ h) hk he
  obtain ⟨A, hA⟩ := hq.blk
  refine ⟨h1, h2, ht.blk, fun r hr => ?_, fun r hr => h.all ht (List.mem_append_right _ hr), ?_, fun z hz => ?_, hrow, h3, ht.keep, ?_⟩
  · rcases List.mem_cons.1 hr with rfl | hr
    · exact hq
    · exact h.all ht (List.mem_append_left _ hr)
  · rw [List.cons_append, List.map_cons, List.cons_append]
    exact List.nodup_cons.2 ⟨fun hm => by have := (h.new _ hm).2; omega, h.nod⟩
  · rw [List.cons_append, List.map_cons, List.cons_append] at hz
    rcases List.mem_cons.1 hz with rfl | hz
    · exact ⟨by have := h.keep.size; have := (h.new p.kb (by simp)).2; have := (h.new p.kb (by simp)).1; omega, (Array.getElem?_eq_some_iff.1 hA).1⟩
    · exact ⟨(h.new z hz).1, Nat.lt_of_lt_of_le (h.new z hz).2 ht.size⟩
  · rw [ts_take hk, pnsz_cons, hqs]
    have := h.size
    have : Tp.size p.ts[k] = Tp.sizes p.ts[k].kids + 1 := by cases p.ts[k]; rfl
    omega
def RpPost (y : T) (w : World) (e : Ending) (w' : World) : Prop := ∃ a c, e = .returned (tv y a c) ∧ TyAt (LT w'.heap.size) w' y a c ∧ Below w.heap.size w w'
end Go.Proofs.Ytncdbbjkafgphaa
namespace Go.Proofs.Ytncdbbjkafgphaa
open Go Go.RowKit
open Tp (T Bd)
theorem sub_look {L : List Bd} {x u : T} (hk : x.kind = 6) (h : Tp.look L x.num = some u) : Tp.sub L x = u := by cases x; dsimp only [T.kind] at hk; subst hk; exact Tp.sub_var h
theorem sub_stay {L : List Bd} {x : T} (hk : x.kind = 6) (h : Tp.look L x.num = none) : Tp.sub L x = x := by
  cases x; dsimp only [T.kind, T.num] at hk h; subst hk; simp [Tp.sub, h]
theorem sub_in {L : List Bd} {x : T} (hk : x.kind ≠ 6) : Tp.sub L x = .mk x.kind x.num (Tp.subs L x.kids) := by cases x; exact Tp.sub_node hk
/-- Two boxes at most, and the row's entry: what a round turns. -/
theorem rpt_set {w : World} {kb k : Nat} {v6 : Value} {V V1 V' : World} (hkeep : Below w.heap.size w V) (hA : ∃ A, V.heap[kb]? = some (.cells A 24)) (hkb : w.heap.size ≤ kb) (h1 : Below V.heap.size V V1) (hT : Turns (fun z => z = kb) V1 V') (hc : ∀ i, i < k * 3 ∨ k * 3 + 3 ≤ i → V'.cell? ⟨kb, i, none⟩ = V1.cell? ⟨kb, i, none⟩) (hb : ∃ A, V'.heap[kb]? = some (.cells A 24)) : RpT w kb k v6 V V' := by
  obtain ⟨A, hA⟩ := hA
  have hkl := (Array.getElem?_eq_some_iff.1 hA).1
  refine ⟨fun z hz hne _ => (hT.block z (Nat.lt_of_lt_of_le hz h1.size) hne).trans (h1.block z hz), fun i hi => (hc i hi).trans (World.cell?_of_block (a := ⟨kb, i, none⟩) (h1.block kb hkl)), hb, Nat.le_trans h1.size hT.size, ?_⟩
  exact hT.below (hkeep.trans (h1.mono hkeep.size)) (fun z hz => by rw [hz]; exact hkb) (Nat.le_trans hkeep.size h1.size)
theorem set_cellsT {V : World} {kb j : Nat} {u : Value} (h : ∃ A, V.heap[kb]? = some (.cells A 24)) : ∃ A, (V.setCell ⟨kb, j, none⟩ u).heap[kb]? = some (.cells A 24) := by
  obtain ⟨A, hA⟩ := h
  exact ⟨_, heap_setCell_same V kb j A _ u hA⟩
theorem far3 {V : World} {kb k i : Nat} {u : Value} (j : Nat) (hj : j < 3) (hi : i < k * 3 ∨ k * 3 + 3 ≤ i) : (V.setCell ⟨kb, k * 3 + j, none⟩ u).cell? ⟨kb, i, none⟩ = V.cell? ⟨kb, i, none⟩ := set_far (by dsimp only; omega)
theorem far3' {V : World} {kb k : Nat} {u : Value} (i j : Nat) (h : i ≠ j) : (V.setCell ⟨kb, k * 3 + j, none⟩ u).cell? ⟨kb, k * 3 + i, none⟩ = V.cell? ⟨kb, k * 3 + i, none⟩ := set_far (by dsimp only; omega)
/-- A whole entry is written. -/
theorem RpK.put3 {L : List Bd} {w V V1 : World} {p : Pq} {R E : List Pq} {D : List Nat} {k : Nat} {v6 : Value} (h : RpK L w p R E D k v6 V) (h1 : Below V.heap.size V V1) {c0 c1 c2 : Value} (y0 : V1.cell? ⟨p.kb, k * 3, none⟩ = some c0) (y1 : V1.cell? ⟨p.kb, k * 3 + 1, none⟩ = some c1) (y2 : V1.cell? ⟨p.kb, k * 3 + 2, none⟩ = some c2) (u0 u1 u2 : Value) :
    ∃ V', ((V1.setCell ⟨p.kb, k * 3, none⟩ u0).setCell ⟨p.kb, k * 3 + 1, none⟩ u1).setCell ⟨p.kb, k * 3 + 2, none⟩ u2 = V' ∧ RpT w p.kb k v6 V V' ∧ V'.ownsRow (w.heap.size + 2) 22 1 v6 (E ++ R).length (pnRow (E ++ R).reverse) ∧ V'.cell? ⟨p.kb, k * 3, none⟩ = some u0 ∧ V'.cell? ⟨p.kb, k * 3 + 1, none⟩ = some u1 ∧ V'.cell? ⟨p.kb, k * 3 + 2, none⟩ = some u2 ∧ (∀ z ∈ D, V'.heap[z]? = V.heap[z]?) := by
  refine ⟨_, rfl, ?_⟩
  obtain ⟨A, hA⟩ := h.blk
  have hkl := (Array.getElem?_eq_some_iff.1 hA).1
  have hA1 : ∃ A, V1.heap[p.kb]? = some (.cells A 24) := ⟨A, (h1.block _ hkl).trans hA⟩
  have hT : Turns (fun z => z = p.kb) V1 (((V1.setCell ⟨p.kb, k * 3, none⟩ u0).setCell ⟨p.kb, k * 3 + 1, none⟩ u1).setCell ⟨p.kb, k * 3 + 2, none⟩ u2) := by
    refine Turns.trans (B := (V1.setCell ⟨p.kb, k * 3, none⟩ u0).setCell ⟨p.kb, k * 3 + 1, none⟩ u1) (Turns.trans (B := V1.setCell ⟨p.kb, k * 3, none⟩ u0) ?_ ?_) ?_
    · exact Turns.setCell V1 ⟨p.kb, k * 3, none⟩ u0 (M := fun z => z = p.kb) rfl
    · exact Turns.setCell _ ⟨p.kb, k * 3 + 1, none⟩ u1 (M := fun z => z = p.kb) rfl
    · exact Turns.setCell _ ⟨p.kb, k * 3 + 2, none⟩ u2 (M := fun z => z = p.kb) rfl
  have hoth : ∀ z, z < V.heap.size → z ≠ p.kb → (((V1.setCell ⟨p.kb, k * 3, none⟩ u0).setCell ⟨p.kb, k * 3 + 1, none⟩ u1).setCell ⟨p.kb, k * 3 + 2, none⟩ u2).heap[z]? = V.heap[z]? := fun z hz hne => (hT.block z (Nat.lt_of_lt_of_le hz h1.size) hne).trans (h1.block z hz)
  have hkb : w.heap.size ≤ p.kb := by have := (h.new p.kb (by simp)).1; omega
  refine ⟨rpt_set h.keep h.blk hkb h1 hT (fun i hi => (far3 2 (by omega) hi).trans ((far3 1 (by omega) hi).trans (far3 0 (by omega) hi))) (set_cellsT (set_cellsT (set_cellsT hA1))), own_same h.row (fun z hz => hoth z (h.row.lt z hz).2 (fun e => h.far hA (e ▸ hz))), ?_, ?_, ?_, fun z hz => hoth z (h.new z (by simp [hz])).2 (fun e => ?_)⟩
  · refine (far3' 0 2 (by omega)).trans ((far3' 0 1 (by omega)).trans ?_)
    apply World.cell?_setCell_same
    exact y0
  · refine (far3' 1 2 (by omega)).trans ?_
    apply World.cell?_setCell_same
    exact (far3' 1 0 (by omega)).trans y1
  · apply World.cell?_setCell_same
    exact (far3' 2 1 (by omega)).trans ((far3' 2 0 (by omega)).trans y2)
  · have hn := h.nod
    rw [List.nodup_append] at hn
    exact (List.nodup_cons.1 hn.2.1).1 (e ▸ hz)
/-- The kids of an entry are copied, and their row goes on the stack. -/
theorem RpK.put1 {L : List Bd} {w V V1 W4 : World} {p q : Pq} {R E : List Pq} {D : List Nat} {k : Nat} {v6 : Value} {o : Obj} (h : RpK L w p R E D k v6 V) (h1 : Below V.heap.size V V1) {c2 : Value} (y2 : V1.cell? ⟨p.kb, k * 3 + 2, none⟩ = some c2) (u2 : Value)
    (hq : V.heap.size ≤ q.kb) (hqa : PqAt w.heap.size V1 q) (hg : ((V1.setCell ⟨p.kb, k * 3 + 2, none⟩ u2).alloc o).grownBy W4 v6.ownBlock) :
    RpT w p.kb k v6 V W4 ∧ PqAt w.heap.size W4 q ∧ W4.cell? ⟨p.kb, k * 3, none⟩ = V.cell? ⟨p.kb, k * 3, none⟩ ∧ W4.cell? ⟨p.kb, k * 3 + 1, none⟩ = V.cell? ⟨p.kb, k * 3 + 1, none⟩ ∧ W4.cell? ⟨p.kb, k * 3 + 2, none⟩ = some u2 ∧ (∀ z ∈ D, (∃ A, V.heap[z]? = some (.cells A 24)) → W4.heap[z]? = V.heap[z]?) := by
  obtain ⟨A, hA⟩ := h.blk
  have hkl := (Array.getElem?_eq_some_iff.1 hA).1
  have hkb : w.heap.size ≤ p.kb := by have := (h.new p.kb (by simp)).1; omega
  have hsz : (V1.setCell ⟨p.kb, k * 3 + 2, none⟩ u2).heap.size = V1.heap.size := size_setCell _ _ _
  have hblk : ∀ z, z < V1.heap.size → v6.ownBlock ≠ some z → W4.heap[z]? = (V1.setCell ⟨p.kb, k * 3 + 2, none⟩ u2).heap[z]? := fun z hz hne => (hg.block z (by rw [World.size_alloc, hsz]; omega) (fun e => hne e.symm)).trans (Below.heap_alloc _ _ _ (by rw [hsz]; exact hz))
  have hset : ∀ z, z ≠ p.kb → (V1.setCell ⟨p.kb, k * 3 + 2, none⟩ u2).heap[z]? = V1.heap[z]? := fun z hne => Below.heap_setCell _ _ _ z (fun e => hne e)
  have hlow : ∀ z, v6.ownBlock = some z → w.heap.size + 2 ≤ z ∧ z < V.heap.size := h.row.lt
  have hoth : ∀ z, z < V.heap.size → z ≠ p.kb → v6.ownBlock ≠ some z → W4.heap[z]? = V.heap[z]? := fun z hz hne ho => (hblk z (Nat.lt_of_lt_of_le hz h1.size) ho).trans ((hset z hne).trans (h1.block z hz))
  have hpk : W4.heap[p.kb]? = (V1.setCell ⟨p.kb, k * 3 + 2, none⟩ u2).heap[p.kb]? := hblk _ (Nat.lt_of_lt_of_le hkl h1.size) (h.far hA)
  have hc : ∀ i, W4.cell? ⟨p.kb, i, none⟩ = (V1.setCell ⟨p.kb, k * 3 + 2, none⟩ u2).cell? ⟨p.kb, i, none⟩ := fun i => World.cell?_of_block (a := ⟨p.kb, i, none⟩) hpk
  have hcv : ∀ i, V1.cell? ⟨p.kb, i, none⟩ = V.cell? ⟨p.kb, i, none⟩ := fun i => World.cell?_of_block (a := ⟨p.kb, i, none⟩) (h1.block _ hkl)
  have hs1 := h1.size
  have hs2 := hg.size
  rw [World.size_alloc, hsz] at hs2
  have hs3 := h.keep.size
  obtain ⟨Aq, hAq⟩ := hqa.blk
  have hql := (Array.getElem?_eq_some_iff.1 hAq).1
  refine ⟨⟨hoth, fun i hi => (hc i).trans ((far3 2 (by omega) hi).trans (hcv i)), ?_, by omega, ⟨hg.os.trans (h1.os.trans h.keep.os), hg.tape.trans (h1.tape.trans h.keep.tape), hg.output.trans (h1.output.trans h.keep.output), by omega, fun z hz => (hoth z (by omega) (by omega) (fun e => by have := (hlow z e).1; omega)).trans (h.keep.block z hz)⟩⟩, hqa.same ?_ ?_, (hc _).trans ((far3' 0 2 (by omega)).trans (hcv _)), (hc _).trans ((far3' 1 2 (by omega)).trans (hcv _)), (hc _).trans ?_, fun z hz ht => ?_⟩
  · rw [hpk]; exact set_cellsT ⟨A, (h1.block _ hkl).trans hA⟩
  · exact (hblk _ hql (fun e => by have := (hlow _ e).2; omega)).trans (hset _ (by omega))
  · intro z hz
    exact (hblk z (by omega) (fun e => by have := (hlow z e).1; omega)).trans (hset _ (by omega))
  · apply World.cell?_setCell_same
    exact y2
  · obtain ⟨A', hA'⟩ := ht
    refine hoth z (h.new z (by simp [hz])).2 (fun e => ?_) (h.far hA')
    have hn := h.nod
    rw [List.nodup_append] at hn
    exact (List.nodup_cons.1 hn.2.1).1 (e ▸ hz)
theorem row_one' (ks : List Ke) : ∀ u ∈ rowCells ks, u.oneCell' = true := by
  intro u hu
  simp only [rowCells, List.mem_flatMap] at hu
  obtain ⟨e, _, he⟩ := hu
  simp only [keCells, List.mem_cons, List.not_mem_nil, or_false] at he
  rcases he with rfl | rfl | rfl <;> rfl
end Go.Proofs.Ytncdbbjkafgphaa
namespace Go.Proofs.Ytncdbbjkafgphaa
open Go Go.RowKit
open Tp (T Bd)
theorem rights_mem : ∀ (l : List T), Tp.rights l = true → ∀ x ∈ l, Tp.right x = true
  | [], _, _, h => by cases h
  | t :: r, h, x, hx => by
    obtain ⟨h1, h2⟩ := Tp.rights_cons h
    rcases List.mem_cons.1 hx with rfl | hx
    · exact h1
    · exact rights_mem r h2 x hx
set_option maxRecDepth 100000 in
set_option maxHeartbeats 8000000 in
theorem replaced_any (L : List Bd) (M : TMap) (nm mb : Nat) (t : T) (k0 n0 : Int) (m0 : Nat) (a : Option Addr) (cap : Nat) (w : World) (hv : TV t k0 n0 m0) (ht : Tp.right t = true) (hty : TyAt (LT w.heap.size) w t a cap) (hm : TMAt w mb nm M) (hM : ∀ n, Tp.look L n = (M n).map Ke.t)
    (hMt : ∀ n e, M n = some e → TyAt (LT w.heap.size) w e.t e.a e.cap) (hs : Tp.size t ≤ 1000000) :
    Calls Try.prog 38 #[.agg #[.int .i64 k0, .int .i64 n0, .slice a m0 cap], .map (some mb)] w (RpPost (Tp.sub L t) w) := by
  obtain ⟨W4, hW4⟩ : ∃ W, (((w.alloc (.cells #[.int .i64 k0, .int .i64 n0, .slice a m0 cap] 24)).alloc (.cells #[.int .i64 0, .int .i64 0, .slice none 0 0] 24)).alloc (.cells #[.int .i64 k0, .int .i64 n0, .slice a m0 cap] 24)).alloc (.cells #[.slice (some ⟨w.heap.size + 2, 0, none⟩) 1 1] 22) = W := ⟨_, rfl⟩
  have hb4 : Below w.heap.size w W4 := by rw [← hW4]; exact ((((Below.refl _ _).alloc (Nat.le_refl _) _).alloc (by simp) _).alloc (by simp; omega) _).alloc (by simp; omega) _
  have hst : RpS L t w [⟨w.heap.size + 2, 1, [⟨t, a, cap⟩]⟩] [] (.slice (some ⟨w.heap.size + 3, 0, none⟩) 1 1) W4 := by
    have hsz : W4.heap.size = w.heap.size + 4 := by rw [← hW4]; simp
    have hx2 : W4.heap[w.heap.size + 2]? = some (.cells #[.int .i64 k0, .int .i64 n0, .slice a m0 cap] 24) := by
      rw [← hW4]
      refine (Below.heap_alloc _ _ _ (by simp)).trans ?_
      have := World.alloc_heap_new ((w.alloc (.cells #[.int .i64 k0, .int .i64 n0, .slice a m0 cap] 24)).alloc (.cells #[.int .i64 0, .int .i64 0, .slice none 0 0] 24)) (.cells #[.int .i64 k0, .int .i64 n0, .slice a m0 cap] 24)
      rw [World.size_alloc, World.size_alloc] at this; exact this
    have hx1 : W4.heap[w.heap.size + 1]? = some (.cells #[.int .i64 0, .int .i64 0, .slice none 0 0] 24) := by
      rw [← hW4]
      exact (Below.heap_alloc _ _ _ (by simp)).trans ((Below.heap_alloc _ _ _ (by simp)).trans (box2 _ _ _ _ _))
    have hx3 : W4.heap[w.heap.size + 3]? = some (.cells #[.slice (some ⟨w.heap.size + 2, 0, none⟩) 1 1] 22) := by
      have := World.alloc_heap_new (((w.alloc (.cells #[.int .i64 k0, .int .i64 n0, .slice a m0 cap] 24)).alloc (.cells #[.int .i64 0, .int .i64 0, .slice none 0 0] 24)).alloc (.cells #[.int .i64 k0, .int .i64 n0, .slice a m0 cap] 24)) (.cells #[.slice (some ⟨w.heap.size + 2, 0, none⟩) 1 1] 22)
      rw [World.size_alloc, World.size_alloc, World.size_alloc, hW4] at this; exact this
    refine ⟨fun V' _ hP => ?_, fun p hp => ?_, by simp, fun z hz => ?_, ?_, hx1, hb4, by simp [pnsz, Pq.ts, Tp.sizes]; exact hs, (fun _ h => by cases h)⟩
    · have := hP _ (List.mem_singleton.2 rfl)
      exact this
    · obtain rfl := List.mem_singleton.1 hp
      refine ⟨⟨_, hx2⟩, fun j u hu => ?_, fun e he => ?_, ⟨Nat.le_refl _, by show 1 ≤ maxLen; unfold maxLen; omega⟩, by simp, fun e he => ?_⟩
      · simp only [rowCells, keCells, List.flatMap_cons, List.flatMap_nil, hv.1, hv.2.1, hv.2.2, List.append_nil] at hu
        exact cell_box hx2 rfl (by rw [← hu]; simp)
      · obtain rfl := List.mem_singleton.1 he
        exact hty.below hb4 (fun _ h => h) (fun _ h => h)
      · obtain rfl := List.mem_singleton.1 he
        exact ht
    · simp at hz; subst hz; omega
    · have := own_mk (B := w.heap.size + 2) (sz := 1) (n := 1) (cap := 1) hx3 (by omega) (Nat.le_refl _) (by unfold maxLen; omega) rfl
      exact this
  have HST := Lib.hid hst; have HW4 := Lib.hid hW4; have HB4 := Lib.hid hb4; have HM := Lib.hid hm; have HML := Lib.hid hM; have HMT := Lib.hid hMt; have HMB := Lib.hid hm.lt
  clear hst hW4 hb4 hm hM hMt hs hty ht hv
  go_enter Try.func38, Try.ntmps38
  go_upto_region 3 with fail
  rw [HW4.out]
  go_loopg [6] (pnsz [⟨w.heap.size + 2, 1, [⟨t, a, cap⟩]⟩]) (fun gk v6 wr => ∃ R D, RpS L t w R D v6 wr ∧ gk = pnsz R)
  case atStart => exact ⟨_, _, HST.out, rfl⟩
  case round =>
    obtain ⟨R, D, hr, rfl⟩ := hrel
    have HR := Lib.hid hr; clear hr HST
    cases R with
    | nil =>
      obtain ⟨av, cv, rfl⟩ := own_shapeT HR.out.row
      have hroot := HR.out.root wr (fun _ _ => rfl) (fun _ h => by cases h)
      have hnode := (kids_lt _ _ hroot).head
      obtain ⟨b, o, he, hb, hn, _⟩ := hnode
      injection he with he
      injection he with he1 he2
      subst he1 he2
      have hn := hn
      obtain ⟨ya, yc, hty, y0, y1, y2⟩ := hn.ty
      obtain ⟨y, hy⟩ : ∃ y, Tp.sub L t = y := ⟨_, rfl⟩
      rw [hy] at y0 y1 y2 hty ⊢
      obtain ⟨yk, yn, ym, hvy⟩ := TV.mk y
      rw [hvy.1] at y0; rw [hvy.2.1] at y1; rw [hvy.2.2] at y2
      have f0 : wr.frozen? ⟨w.heap.size + 1, 0, none⟩ = false := IsC.frozen ⟨_, _, HR.out.res⟩
      have f1 : wr.frozen? ⟨w.heap.size + 1, 1, none⟩ = false := IsC.frozen ⟨_, _, HR.out.res⟩
      have f2 : wr.frozen? ⟨w.heap.size + 1, 2, none⟩ = false := IsC.frozen ⟨_, _, HR.out.res⟩
      have r0 : wr.cell? ⟨w.heap.size + 1, 0, none⟩ = some (.int .i64 0) := cell_box HR.out.res rfl rfl
      have r1 : wr.cell? ⟨w.heap.size + 1, 1, none⟩ = some (.int .i64 0) := cell_box HR.out.res rfl rfl
      have r2 : wr.cell? ⟨w.heap.size + 1, 2, none⟩ = some (.slice none 0 0) := cell_box HR.out.res rfl rfl
      have HTY := Lib.hid hty; have HVY := Lib.hid hvy; have HY := Lib.hid hy
      clear hroot hn hb hty hvy hy
      rw [Nat.add_zero] at y0 
      go_wp2_with fail
      refine bodyPost_ret (v := .agg #[.int .i64 yk, .int .i64 yn, .slice ya ym yc]) (by simp [results, Try.f38, go_sem, r0, r1, r2]) rfl ?_
      rw [HY.out]
      refine ⟨ya, yc, by rw [tv_of HVY.out], ?_, ((HR.out.keep.setCell (Nat.le_succ _) _).setCell (Nat.le_succ _) _).setCell (Nat.le_succ _) _⟩
      refine ty_same (fun z hz => ?_) (fun z hz => ?_) HTY.out
      · rcases hz.1 with hz1 | hz1 <;> exact set3_other (by omega)
      · rw [size_setCell, size_setCell, size_setCell]; exact hz.2
    | cons p R =>
      obtain ⟨g, cap3, rfl, hg1, hg2, hcp, hcm, hx0, hrow⟩ := own_topS (v := u6) HR.out.row
      obtain ⟨r, hr⟩ : ∃ z, R.length = z := ⟨_, rfl⟩
      rw [hr] at hx0 hcp hrow ⊢
      obtain ⟨V0, rfl⟩ : ∃ V, V = wr := ⟨_, rfl⟩
      have hpn := HR.out.each p (by simp)
      obtain ⟨m, hm⟩ : ∃ m, p.ks.length = m := ⟨_, rfl⟩
      unfold pnV at hx0
      rw [hm] at hx0
      have hm10 : m ≤ 1000000 := by
        have h1 := HR.out.small
        rw [pnsz_cons] at h1
        have h2 := Tp.length_le_sizes p.ts
        unfold Pq.ts at h2 h1
        rw [List.length_map, hm] at h2
        omega
      have hpop := sl_pop g (r + 1) cap3 r (by omega) hcp
      have hwr : wrap64 (r : Int) = (r : Int) := by unfold wrap64; unfold maxLen at hcm; omega
      obtain ⟨i1, i2⟩ := pt_int (Nat.lt_succ_self r)
      have i3 : (r : Int) < (r : Int) + 1 := Int.lt_succ _
      have hop := HR.out.open (v6 := .slice (some ⟨g, 0, none⟩) r cap3) (by rw [hr]; exact hrow)
      have HWR := Lib.hid hwr; have HOP := Lib.hid hop; have HM' := Lib.hid hm; have HRL := Lib.hid hr; have HM10 := Lib.hid hm10; have HPN := Lib.hid hpn
      clear hop hr hm10 hrow hg1 hcm hwr hpn
      go_upto_region 5 with fail
      rw [HWR.out]
      go_wp2_with fail
      clear hx0 hpop i1 i2 i3 hg2 hcp
      go_loopg [6, 32] m (fun gk v6 v32 wx => ∃ (E : List Pq) (k : Nat), v32 = .int .i64 (k : Int) ∧ k ≤ m ∧ RpK L w p R E D k v6 wx ∧ (∀ z ∈ D, wx.heap[z]? = V0.heap[z]?) ∧ gk = m - k)
      case atStart => exact ⟨[], 0, rfl, Nat.zero_le _, HOP.out, fun _ _ => rfl, rfl⟩
      case round =>
        obtain ⟨E, k, rfl, hkm, hk, hd, rfl⟩ := hrel
        obtain ⟨oa, oc, rfl⟩ := own_shapeT hk.row
        obtain ⟨ol, hol⟩ : ∃ z, (E ++ R).length = z := ⟨_, rfl⟩
        rw [hol] at hk ⊢
        have HK := Lib.hid hk; have HDD := Lib.hid hd; have HOL := Lib.hid hol
        clear hk hd HOP hol
        by_cases hlt : k < m
        · have hkl : k < p.ks.length := by rw [HM'.out]; exact hlt
          obtain ⟨x, xa, xc, hxe⟩ : ∃ x xa xc, p.ks[k] = ⟨x, xa, xc⟩ := ⟨_, _, _, rfl⟩
          obtain ⟨xk, xn, xm, hvx⟩ := TV.mk x
          have hcx : ∀ j, j < 3 → ∀ u, (keCells ⟨x, xa, xc⟩)[j]? = some u → wr.cell? ⟨p.kb, k * 3 + j, none⟩ = some u := fun j hj u hu => HK.out.left k (Nat.le_refl _) j hj u (by rw [rowCells_at p.ks k hkl j hj, hxe]; exact hu)
          have x0 : wr.cell? ⟨p.kb, k * 3, none⟩ = some (.int .i64 xk) := by rw [← hvx.1]; exact hcx 0 (by omega) _ rfl
          have x1 : wr.cell? ⟨p.kb, k * 3 + 1, none⟩ = some (.int .i64 xn) := by rw [← hvx.2.1]; exact hcx 1 (by omega) _ rfl
          have x2 : wr.cell? ⟨p.kb, k * 3 + 2, none⟩ = some (.slice xa xm xc) := by rw [← hvx.2.2]; exact hcx 2 (by omega) _ rfl
          obtain ⟨i1, i2⟩ := pt_int hlt
          have hmem : (⟨x, xa, xc⟩ : Ke) ∈ p.ks := by rw [← hxe]; exact List.getElem_mem hkl
          have htx := HPN.out.each _ hmem
          have hrx := HPN.out.right _ hmem
          dsimp only at htx hrx
          have hkt : k < p.ts.length := by unfold Pq.ts; rw [List.length_map]; exact hkl
          have hts : p.ts[k] = x := by simp [Pq.ts, hxe]
          have hxI : I64 xn := by rw [← hvx.2.1]; exact htx.2.1
          have hkbl : p.kb < wr.heap.size := by obtain ⟨A, hA⟩ := HK.out.blk; exact (Array.getElem?_eq_some_iff.1 hA).1
          have HX2 := Lib.hid (World.alloc_heap_new wr (.cells #[.int .i64 xk, .int .i64 xn, .slice xa xm xc] 24))
          have HVX := Lib.hid hvx; have HTX := Lib.hid htx; have HRX := Lib.hid hrx; have HTS := Lib.hid (show ∃ h : k < p.ts.length, p.ts[k] = x from ⟨hkt, hts⟩); have HXI := Lib.hid hxI
          clear hxe hvx hcx hmem htx hrx hkt hts hxI hkl
          have fkb : ∀ j, wr.frozen? ⟨p.kb, j, none⟩ = false := fun j => by obtain ⟨A, hA⟩ := HK.out.blk; exact IsC.frozen ⟨A, _, hA⟩
          have HFK := Lib.hid fkb; have HKBL := Lib.hid hkbl
          clear fkb
          obtain ⟨Wx, hWx⟩ : ∃ W, wr.alloc (.cells #[.int .i64 xk, .int .i64 xn, .slice xa xm xc] 24) = W := ⟨_, rfl⟩
          have hbx : Below wr.heap.size wr Wx := by rw [← hWx]; exact (Below.refl _ _).alloc (Nat.le_refl _) _
          have hxb : Wx.heap[wr.heap.size]? = some (.cells #[.int .i64 xk, .int .i64 xn, .slice xa xm xc] 24) := by rw [← hWx]; exact World.alloc_heap_new _ _
          have HBX := Lib.hid hbx; have HXB := Lib.hid hxb; have HWX := Lib.hid hWx
          have HX0 := Lib.hid x0; have HX1 := Lib.hid x1; have HX2 := Lib.hid x2
          have hsw : w.heap.size ≤ wr.heap.size := HK.out.keep.size
          have HSW := Lib.hid hsw
          have hkb2 : w.heap.size ≤ p.kb := by have := (HK.out.new p.kb (by simp)).1; omega
          have HKB2 := Lib.hid hkb2
          have hdne : ∀ z ∈ D, z < wr.heap.size ∧ z ≠ p.kb ∧ (Value.slice oa ol oc).ownBlock ≠ some z := fun z hz => by
            have h1 := HK.out.nod
            rw [List.nodup_append] at h1
            have h2 := (List.nodup_cons.1 h1.2.1).1
            obtain ⟨A, hA⟩ := HR.out.dt z hz
            exact ⟨(HK.out.new z (by simp [hz])).2, fun e => h2 (e ▸ hz), HK.out.far ((HDD.out z hz).trans hA)⟩
          have HDN := Lib.hid hdne
          clear hWx hbx hxb hkbl hsw hkb2 hdne
          go_upto_region 10 with fail
          rw [HWX.out]
          have b0 : Wx.cell? ⟨wr.heap.size, 0, none⟩ = some (.int .i64 xk) := cell_box HXB.out rfl rfl
          have b1 : Wx.cell? ⟨wr.heap.size, 1, none⟩ = some (.int .i64 xn) := cell_box HXB.out rfl rfl
          have b2 : Wx.cell? ⟨wr.heap.size, 2, none⟩ = some (.slice xa xm xc) := cell_box HXB.out rfl rfl
          clear x0 x1 x2
          by_cases h6 : xk = 6
          · have g6 : (xk == 6) = true := by simp [h6]
            have H6 := Lib.hid h6
            have hlk := tm_look (W := Wx) (HM.out.same (HBX.out.block mb (Nat.lt_of_lt_of_le HMB.out HSW.out) |>.trans (HK.out.keep.block mb HMB.out))) HXI.out true
            clear h6
            cases hMx : M xn with
            | none =>
              have htm : tmV M xn = .agg #[.int .i64 0, .int .i64 0, .slice none 0 0] := by unfold tmV; rw [hMx]
              rw [htm, hMx] at hlk
              have HMX := Lib.hid hMx
              clear htm hMx
              go_wp2_with fail
              have hby : Below wr.heap.size wr (Wx.alloc (.cells #[.int .i64 0, .int .i64 0, .slice none 0 0] 24)) := HBX.out.alloc HBX.out.size _
              generalize Wx.alloc (.cells #[.int .i64 0, .int .i64 0, .slice none 0 0] 24) = Wy at hby ⊢
              have hcy : ∀ i, Wy.cell? ⟨p.kb, i, none⟩ = wr.cell? ⟨p.kb, i, none⟩ := fun i => World.cell?_of_block (a := ⟨p.kb, i, none⟩) (hby.block _ HKBL.out)
              have hT : RpT w p.kb k (.slice oa ol oc) wr Wy := rpt_set HK.out.keep HK.out.blk HKB2.out hby (Turns.refl _ _) (fun _ _ => rfl) (by obtain ⟨A, hA⟩ := HK.out.blk; exact ⟨A, (hby.block _ HKBL.out).trans hA⟩)
              have hrow : Wy.ownsRow (w.heap.size + 2) 22 1 (.slice oa ol oc) (E ++ R).length (pnRow (E ++ R).reverse) := own_same HK.out.row (fun z hz => hby.block z (HK.out.row.lt z hz).2)
              obtain ⟨hkt, hts⟩ := HTS.out
              have hent : EntOk L w.heap.size Wy p.kb k p.ts[k] E := by
                refine ⟨x, xa, xc, ?_, by rw [hcy, HVX.out.1]; exact HX0.out, by rw [hcy, HVX.out.2.1]; exact HX1.out, by rw [hcy, HVX.out.2.2]; exact HX2.out, HTX.out.1, HTX.out.2.1, HTX.out.2.2.1, HTX.out.2.2.2.1, .inl ?_⟩
                · rw [hts]
                  exact (sub_stay (HVX.out.1.trans H6.out) (by rw [HML.out, HVX.out.2.1, HMX.out]; rfl)).symm
                · have := ty_same (fun z hz => (hT.keep.block z hz).trans (HR.out.keep.block z hz).symm) (fun _ h => h) HTX.out
                  exact this.2.2.2.2
              have hnx := HK.out.step0 hT hrow hkt hent
              go_roundg (m - (k + 1))
              case measure => omega
              case rel => exact ⟨E, k + 1, wrap_k4 (by have := HM10.out; omega), hlt, hnx, fun z hz => (hby.block z (HDN.out z hz).1).trans (HDD.out z hz), rfl⟩
            | some ie =>
              obtain ⟨it, ia, ic⟩ := ie
              obtain ⟨ik, iN, im, hvi⟩ := TV.mk it
              have htm : tmV M xn = .agg #[.int .i64 ik, .int .i64 iN, .slice ia im ic] := by unfold tmV; rw [hMx]; simp only [keV, hvi.1, hvi.2.1, hvi.2.2]
              rw [htm, hMx] at hlk
              have hti := HMT.out xn _ hMx
              dsimp only at hti
              have HMX := Lib.hid hMx; have HVI := Lib.hid hvi; have HTI := Lib.hid hti
              have hby : Below wr.heap.size wr (Wx.alloc (.cells #[.int .i64 ik, .int .i64 iN, .slice ia im ic] 24)) := HBX.out.alloc HBX.out.size _
              have hcy : ∀ i, (Wx.alloc (.cells #[.int .i64 ik, .int .i64 iN, .slice ia im ic] 24)).cell? ⟨p.kb, i, none⟩ = wr.cell? ⟨p.kb, i, none⟩ := fun i => World.cell?_of_block (a := ⟨p.kb, i, none⟩) (hby.block _ HKBL.out)
              have hfy : ∀ i, (Wx.alloc (.cells #[.int .i64 ik, .int .i64 iN, .slice ia im ic] 24)).frozen? ⟨p.kb, i, none⟩ = false := fun i => (World.frozen?_of_block (a := ⟨p.kb, i, none⟩) (hby.block _ HKBL.out)).trans (HFK.out i)
              have y0 := (hcy (k * 3)).trans HX0.out
              have y1 := (hcy (k * 3 + 1)).trans HX1.out
              have y2 := (hcy (k * 3 + 2)).trans HX2.out
              have f0 := hfy (k * 3)
              have f1 := hfy (k * 3 + 1)
              have f2 := hfy (k * 3 + 2)
              have HBY := Lib.hid hby; have HCY := Lib.hid hcy
              clear htm hMx hvi hti hby hcy hfy
              go_wp2_with fail
              obtain ⟨V', hV', hT, hrow, z0, z1, z2, hd'⟩ := HK.out.put3 HBY.out y0 y1 y2 (.int .i64 ik) (.int .i64 iN) (.slice ia im ic)
              rw [hV']
              obtain ⟨hkt, hts⟩ := HTS.out
              have hent : EntOk L w.heap.size V' p.kb k p.ts[k] E := by
                refine ⟨it, ia, ic, ?_, by rw [HVI.out.1]; exact z0, by rw [HVI.out.2.1]; exact z1, by rw [HVI.out.2.2]; exact z2, HTI.out.1, HTI.out.2.1, HTI.out.2.2.1, HTI.out.2.2.2.1, .inl ?_⟩
                · rw [hts]
                  exact (sub_look (HVX.out.1.trans H6.out) (by rw [HML.out, HVX.out.2.1, HMX.out]; rfl)).symm
                · have := ty_same (fun z hz => hT.keep.block z hz) (fun _ h => h) HTI.out
                  exact this.2.2.2.2
              have hnx := HK.out.step0 hT hrow hkt hent
              clear hV' z0 z1 z2 y0 y1 y2 f0 f1 f2
              go_roundg (m - (k + 1))
              case measure => omega
              case rel => exact ⟨E, k + 1, wrap_k4 (by have := HM10.out; omega), hlt, hnx, fun z hz => (hd' z hz).trans (HDD.out z hz), rfl⟩
          · have g6 : (xk == 6) = false := by simp [h6]
            have H6 := Lib.hid h6
            clear h6
            by_cases hm0 : 0 < xm
            · obtain ⟨ks, hks, hkty, hkc⟩ := kids_ke x.kids xa HTX.out.2.2.2.2
              have hne : x.kids ≠ [] := fun e => by have h := HVX.out.2.2; rw [e] at h; simp at h; omega
              obtain ⟨bx, ox, hxa, hbx, hcc⟩ := hkc hne
              have hlen : ks.length = xm := by rw [← HVX.out.2.2, ← hks, List.length_map]
              have hcl := cloneT_row x.kids xa xc (rowCells ks) Wx (kids_two HRX.out) (by rw [rowCells_length, hlen, HVX.out.2.2]) HTX.out.2.2.2.2 (fun b o h j u hu => by
                rw [hxa] at h; injection h with h; injection h with h1 h2; subst h1 h2
                refine (World.cell?_of_block (a := ⟨bx, ox + j, none⟩) ?_).trans (hcc j u hu)
                exact (HBX.out.block bx (Nat.lt_of_lt_of_le hbx HSW.out)).trans ((HK.out.keep.block bx hbx).trans (HR.out.keep.block bx hbx).symm)) (row_one' ks)
              rw [HVX.out.2.2] at hcl
              have HCL := Lib.hid hcl; have HKS := Lib.hid hks; have HKTY := Lib.hid hkty; have HNN := Lib.hid hne; have HLEN := Lib.hid hlen
              have i0 : (0 : Int) < (xm : Int) := by omega
              have HY2 := Lib.hid (show Wx.cell? ⟨p.kb, k * 3 + 2, none⟩ = some (.slice xa xm xc) from (World.cell?_of_block (a := ⟨p.kb, k * 3 + 2, none⟩) (HBX.out.block _ HKBL.out)).trans HX2.out)
              have HF2 := Lib.hid (show Wx.frozen? ⟨p.kb, k * 3 + 2, none⟩ = false from (World.frozen?_of_block (a := ⟨p.kb, k * 3 + 2, none⟩) (HBX.out.block _ HKBL.out)).trans (HFK.out _))
              have hkx : p.kb < Wx.heap.size := Nat.lt_of_lt_of_le HKBL.out HBX.out.size
              have HKX := Lib.hid hkx
              clear hks hkty hkc hne hxa hbx hcc hlen hcl hkx hm0
              go_upto_region 15 with fail
              have hol4 : ol ≤ 4 * 1000000 := by
                have h1 := HR.out.small
                have h2 := HK.out.size
                have h3 := pnsz_len (E ++ R) (fun q hq => ((List.mem_append.1 hq).elim (HK.out.eachE q) (HK.out.eachR q)).some')
                have h4 := Tp.sizes_append (p.ts.take k) (p.ts.drop k)
                rw [List.take_append_drop] at h4
                rw [pnsz_cons] at h1
                rw [HOL.out, pnsz_append] at h3
                omega
              have HOL4 := Lib.hid hol4
              clear hol4
              go_upto_region 16 with (go_at_call 56; (with_reducible refine HCL.out.mono ?_); rintro e w5 ⟨v', rfl, hb5, hcase⟩; obtain ⟨kb2, c2, rfl, hc2, hlc, hk1, hk2, hown⟩ := hcase.resolve_left (fun h => HNN.out h.1); rw [HVX.out.2.2] at hlc hown ⊢; have y2 : w5.cell? ⟨p.kb, k * 3 + 2, none⟩ = some (.slice xa xm xc) := (World.cell?_of_block (a := ⟨p.kb, k * 3 + 2, none⟩) (hb5.block _ HKX.out)).trans HY2.out; have f2 : w5.frozen? ⟨p.kb, k * 3 + 2, none⟩ = false := (World.frozen?_of_block (a := ⟨p.kb, k * 3 + 2, none⟩) (hb5.block _ HKX.out)).trans HF2.out; have HB5 := Lib.hid hb5; have HC2 := Lib.hid hc2; have HLC := Lib.hid hlc; have HK1 := Lib.hid hk1; have HK3 := Lib.hid hk2; have HOWN := Lib.hid hown; clear hb5 hc2 hlc hk1 hk2 hown hcase b0 b1 b2)
              have Y2 := Lib.hid y2
              clear y2 f2
              obtain ⟨V5, hV5⟩ : ∃ V, w5.setCell ⟨p.kb, k * 3 + 2, none⟩ (.slice (some ⟨kb2, 0, none⟩) xm c2) = V := ⟨_, rfl⟩
              rw [hV5]
              have hby : Below wr.heap.size wr w5 := HBX.out.trans (HB5.out.mono HBX.out.size)
              have hs5 : V5.heap.size = w5.heap.size := by rw [← hV5]; exact size_setCell _ _ _
              have z2 : V5.cell? ⟨p.kb, k * 3 + 2, none⟩ = some (.slice (some ⟨kb2, 0, none⟩) xm c2) := by rw [← hV5]; apply World.cell?_setCell_same; exact Y2.out
              have hc5 : (V5.alloc (.cells #[.slice (some ⟨kb2, 0, none⟩) xm c2] 22)).heap[V5.heap.size]? = some (.cells #[pnV ⟨kb2, c2, ks⟩] 22) := by unfold pnV; rw [HLEN.out]; exact World.alloc_heap_new _ _
              have hrow5 : (V5.alloc (.cells #[.slice (some ⟨kb2, 0, none⟩) xm c2] 22)).ownsRow (w.heap.size + 2) 22 1 (.slice oa ol oc) ol (pnRow (E ++ R).reverse) := by
                have h1 := own_same (w' := V5) HK.out.row (fun z hz => by
                  rw [← hV5]
                  refine (Below.heap_setCell _ _ _ z (fun e => ?_)).trans (hby.block z (HK.out.row.lt z hz).2)
                  obtain ⟨A, hA⟩ := HK.out.blk
                  have e' : z = p.kb := e
                  exact HK.out.far hA (e' ▸ hz))
                rw [HOL.out] at h1
                exact h1.alloc _
              have hbase : w.heap.size + 2 ≤ (V5.alloc (.cells #[.slice (some ⟨kb2, 0, none⟩) xm c2] 22)).heap.size := by
                have h1 := (HK.out.new p.kb (by simp)); have h2 := hby.size; rw [World.size_alloc, hs5]; omega
              have HV5 := Lib.hid hV5; have HBY := Lib.hid hby; have HROW5 := Lib.hid hrow5; have HC5 := Lib.hid hc5; have HBASE := Lib.hid hbase
              clear hV5 hby hs5 hc5 hrow5 hbase
              go_wp2_with (at_builtin; refine append_sl rfl _ _ rfl (w.heap.size + 2) (.slice oa ol oc) ol (E ++ R).reverse rfl HROW5.out ⟨kb2, c2, ks⟩ V5.heap.size rfl HC5.out HOL4.out HBASE.out ?_; intro g7 cp7 w7 hown7 hg7 hl7; have HOWN7 := Lib.hid hown7; have HG7 := Lib.hid hg7; clear hown7 hg7 hl7)
              have hq : PqAt w.heap.size w5 ⟨kb2, c2, ks⟩ := by
                refine ⟨?_, fun j u hu => ?_, fun e he => ?_, ⟨by show ks.length ≤ c2; rw [HLEN.out]; exact HLC.out, HC2.out⟩, ?_, fun e he => ?_⟩
                · obtain ⟨_, ⟨h, _⟩ | ⟨g', cap', cur, h3, h4, h5, _⟩⟩ := id HOWN.out
                  · omega
                  · injection h3 with h3; injection h3 with h3; injection h3 with h3; subst h3
                    exact ⟨_, h5⟩
                · have := HOWN.out.cells (g := kb2) rfl j u hu
                  rwa [add_flat, Nat.zero_add] at this
                · exact ty_same (fun z hz => (HBY.out.block z (Nat.lt_of_lt_of_le hz HSW.out)).trans ((HK.out.keep.block z hz).trans (HR.out.keep.block z hz).symm)) (fun _ h => h) (HKTY.out e he)
                · intro e
                  dsimp only at e
                  have h := HLEN.out
                  rw [e] at h
                  simp at h; omega
                · exact rights_mem _ (kids_right HRX.out) _ (by rw [← HKS.out]; exact List.mem_map_of_mem he)
              obtain ⟨hT, hq', w0, w1, w2, hd'⟩ := HK.out.put1 HBY.out Y2.out (.slice (some ⟨kb2, 0, none⟩) xm c2) (q := ⟨kb2, c2, ks⟩) (Nat.le_trans HBX.out.size HK1.out) hq (by rw [HV5.out]; exact HG7.out)
              obtain ⟨hkt, hts⟩ := HTS.out
              have hrow : w7.ownsRow (w.heap.size + 2) 22 1 (.slice (some ⟨g7, 0, none⟩) (ol + 1) cp7) ((⟨kb2, c2, ks⟩ :: E) ++ R).length (pnRow ((⟨kb2, c2, ks⟩ :: E) ++ R).reverse) := by
                rw [List.cons_append, List.length_cons, HOL.out, List.reverse_cons]; exact HOWN7.out
              have hent : EntOk L w.heap.size w7 p.kb k p.ts[k] (⟨kb2, c2, ks⟩ :: E) := by
                refine ⟨.mk x.kind x.num (Tp.subs L x.kids), some ⟨kb2, 0, none⟩, c2, ?_, w0.trans (HX0.out.trans (by rw [← HVX.out.1]; rfl)), w1.trans (HX1.out.trans (by rw [← HVX.out.2.1]; rfl)), w2.trans ?_, HTX.out.1, HTX.out.2.1, ?_, HC2.out, .inr ⟨⟨kb2, c2, ks⟩, List.mem_cons_self, rfl, ?_⟩⟩
                · rw [hts]; exact (sub_in (by rw [HVX.out.1]; exact H6.out)).symm
                · show _ = some (Value.slice _ (Tp.subs L x.kids).length c2)
                  rw [Tp.subs_len, HVX.out.2.2]
                · show (Tp.subs L x.kids).length ≤ c2
                  rw [Tp.subs_len, HVX.out.2.2]; exact HLC.out
                · show Tp.subs L x.kids = Tp.subs L (ks.map Ke.t)
                  rw [HKS.out]
              have hnx := HK.out.step1 hT hrow hkt hq' (Nat.le_trans HBX.out.size HK1.out) (by rw [hts]; exact HKS.out) hent
              go_roundg (m - (k + 1))
              case measure => omega
              case rel => exact ⟨⟨kb2, c2, ks⟩ :: E, k + 1, wrap_k4 (by have := HM10.out; omega), hlt, hnx, fun z hz => (hd' z hz (by obtain ⟨A, hA⟩ := HR.out.dt z hz; exact ⟨A, (HDD.out z hz).trans hA⟩)).trans (HDD.out z hz), rfl⟩
            · obtain rfl : xm = 0 := by omega
              go_wp2_with fail
              have hnil : x.kids = [] := List.eq_nil_of_length_eq_zero HVX.out.2.2
              have hT : RpT w p.kb k (.slice oa ol oc) wr Wx := rpt_set HK.out.keep HK.out.blk HKB2.out HBX.out (Turns.refl _ _) (fun _ _ => rfl) (by obtain ⟨A, hA⟩ := HK.out.blk; exact ⟨A, (HBX.out.block _ HKBL.out).trans hA⟩)
              have hrow : Wx.ownsRow (w.heap.size + 2) 22 1 (.slice oa ol oc) (E ++ R).length (pnRow (E ++ R).reverse) := own_same HK.out.row (fun z hz => HBX.out.block z (HK.out.row.lt z hz).2)
              obtain ⟨hkt, hts⟩ := HTS.out
              have hcy : ∀ i, Wx.cell? ⟨p.kb, i, none⟩ = wr.cell? ⟨p.kb, i, none⟩ := fun i => World.cell?_of_block (a := ⟨p.kb, i, none⟩) (HBX.out.block _ HKBL.out)
              have hent : EntOk L w.heap.size Wx p.kb k p.ts[k] E := by
                refine ⟨.mk x.kind x.num [], xa, xc, ?_, by rw [hcy]; exact HX0.out.trans (by rw [← HVX.out.1]; rfl), by rw [hcy]; exact HX1.out.trans (by rw [← HVX.out.2.1]; rfl), by rw [hcy]; exact HX2.out, HTX.out.1, HTX.out.2.1, Nat.zero_le _, HTX.out.2.2.2.1, .inl ?_⟩
                · rw [hts, sub_in (by rw [HVX.out.1]; exact H6.out), hnil]; simp [Tp.subs]
                · simp [T.kids, KidsAt]
              have hnx := HK.out.step0 hT hrow hkt hent
              go_roundg (m - (k + 1))
              case measure => omega
              case rel => exact ⟨E, k + 1, wrap_k4 (by have := HM10.out; omega), hlt, hnx, fun z hz => (HBX.out.block z (HDN.out z hz).1).trans (HDD.out z hz), rfl⟩
        · obtain rfl : m = k := by omega
          have hkk : p.ts.length = m := by unfold Pq.ts; rw [List.length_map]; exact HM'.out
          have hcl := RpK.close HR.out (by rw [hkk]; exact HK.out) HDD.out
          have HCL := Lib.hid hcl
          clear hcl hkk
          go_wp2_with fail
          go_roundg (pnsz (E ++ R))
          case measure => exact HCL.out.1
          case rel => exact ⟨E ++ R, _, HCL.out.2, rfl⟩
end Go.Proofs.Ytncdbbjkafgphaa
