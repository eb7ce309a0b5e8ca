/- What a round of agree.Meet does to the tree of the meet. -/
import Derived.Test.YtncdbbjkafgphaaAgM
namespace Go.Proofs.Ytncdbbjkafgphaa
open Go Go.RowKit Go.Shelf
open Tp (T)

/-- A block of plain cells. -/
def IsC (V : World) (k : Nat) : Prop := ∃ A ty, V.heap[k]? = some (.cells A ty (0, 0))
theorem IsC.frozen {V : World} {k o : Nat} (h : IsC V k) : V.frozen? ⟨k, o, none⟩ = false := by
  obtain ⟨A, ty, h⟩ := h
  simp [World.frozen?, h]
theorem IsC.block {V B : World} {k : Nat} (h : IsC V k) (hb : B.heap[k]? = V.heap[k]?) : IsC B k := by
  obtain ⟨A, ty, h⟩ := h
  exact ⟨A, ty, hb.trans h⟩
theorem IsC.set {V : World} {k : Nat} (h : IsC V k) (p : Addr) (v : Value) : IsC (V.setCell p v) k := by
  obtain ⟨A, ty, h⟩ := h
  by_cases e : p.block = k
  · subst e
    obtain ⟨hlt, hk⟩ := Array.getElem?_eq_some_iff.1 h
    refine ⟨if p.spot.isSome then A else A.setIfInBounds p.off v, ty, ?_⟩
    show (V.heap.modify p.block _)[p.block]? = _
    rw [Array.getElem?_eq_getElem (by rw [Array.size_modify]; exact hlt), Array.getElem_modify_self, hk]
  · exact ⟨A, ty, (Below.heap_setCell V p v k (fun h => e h.symm)).trans h⟩
theorem Turns.of_below' {W V : World} (h : Below W.heap.size W V) : Turns (fun _ => False) W V := ⟨h.os, h.tape, h.output, h.size, fun k hk _ => h.block k hk⟩
theorem meets_get : ∀ (l m : List T) (i : Nat) (h : i < (Tp.meets l m).length) (h1 : i < l.length) (h2 : i < m.length), (Tp.meets l m)[i] = Tp.meet l[i] m[i]
  | [], _, _, _, h1, _ => by simp at h1
  | _ :: _, [], _, _, _, h2 => by simp at h2
  | a :: r, b :: s, 0, _, _, _ => rfl
  | a :: r, b :: s, i + 1, h, h1, h2 => by
    simp only [Tp.meets, List.getElem_cons_succ]
    exact meets_get r s i (by simpa [Tp.meets] using h) (by simpa using h1) (by simpa using h2)
theorem meet_kids {x y : T} (hE : Tp.ends x y = false) : Tp.meet x y = .mk x.kind x.num (Tp.meets x.kids y.kids) := by
  simp only [Tp.ends, Bool.or_eq_false_iff, decide_eq_false_iff_not] at hE
  cases x with
  | mk k n l =>
    cases y with
    | mk k' n' l' =>
      simp only [Tp.T.kind] at hE
      simp only [Tp.meet, hE.1, hE.2, if_false, Tp.T.kind, Tp.T.num, Tp.T.kids]
theorem meet_dyn {x y : T} (h : x.kind = 5) : Tp.meet x y = y := by
  cases x with
  | mk k n l =>
    cases y with
    | mk k' n' l' => simp only [Tp.T.kind] at h; simp [Tp.meet, h]
theorem meet_any {x y : T} (h : x.kind ≠ 5) (h' : y.kind = 5) : Tp.meet x y = x := by
  cases x with
  | mk k n l =>
    cases y with
    | mk k' n' l' => simp only [Tp.T.kind] at h h'; simp [Tp.meet, h, h']
def G0 (Gx : Nat → Prop) (n mb rb : Nat) : Nat → Prop := fun k => k < n ∧ k ≠ mb ∧ k ≠ rb ∧ Gx k
def Hb (Gx : Nat → Prop) (rb : Nat) : Nat → Prop := fun k => k ≠ rb ∧ Gx k
/-- An entry's other side, and what its types are. -/
structure EnM (G : Nat → Prop) (W : World) (e : En) : Prop where
  wf : e.wf
  yk : KidsAt G W (e.y :: e.ys) e.py
  xr : Tp.rights (e.x :: e.xs) = true
  yr : Tp.rights (e.y :: e.ys) = true
theorem EnM.next {G : Nat → Prop} {W : World} {e : En} (h : EnM G W e) : ∀ d ∈ e.next, EnM G W d := by
  intro d hd
  have hw := next_wf h.wf d hd
  obtain ⟨x, y, xs, ys, xb, xo, xc, yb, yo, yc⟩ := e
  cases xs with
  | nil => simp [En.next] at hd
  | cons a r =>
    cases ys with
    | nil => simp [En.next] at hd
    | cons b s =>
      simp only [En.next, List.mem_singleton] at hd
      subst hd
      exact ⟨hw, (h.yk).tail, (Tp.rights_cons h.xr).2, (Tp.rights_cons h.yr).2⟩
structure MJ (Gx : Nat → Prop) (n mb rb : Nat) (w W : World) (R : T) (M : Nat → Prop) (s : List En) (V : World) : Prop where
  tree : ∃ Ow : Nat → Prop, (∀ k, Ow k → (k = mb ∨ n ≤ k) ∧ k < V.heap.size ∧ ¬ M k ∧ IsC V k) ∧ MInv (G0 Gx n mb rb) (Hb Gx rb) W R mb Ow (pend s) V
  ents : ∀ e ∈ s, EnM (G0 Gx n mb rb) W e
  ag : Tp.agz (enTodo s) = true
  big : n ≤ V.heap.size
  bel : Below w.heap.size w V
  box : V.heap[rb]? = some (.cells #[.int .i64 0, .int .i64 0, .slice none 0 0] 24) ∧ ¬ M rb
theorem MJ.ab {Gx : Nat → Prop} {n mb rb : Nat} {w W : World} {R : T} (hwn : w.heap.size ≤ n) (s : List En) : Ab n fun M V => MJ Gx n mb rb w W R M s V := by
  intro M M' A B h hM hT hM'
  obtain ⟨⟨Ow, h1, h2⟩, h3, h4, h5, h6, h7⟩ := h
  have hg : ∀ k, G0 Gx n mb rb k → B.heap[k]? = A.heap[k]? := fun k hk => hT.block k (Nat.lt_of_lt_of_le hk.1 h5) (fun m => by have := (hM k m).1; have := hk.1; omega)
  have ho : ∀ k, Ow k → B.heap[k]? = A.heap[k]? := fun k hk => hT.block k (h1 k hk).2.1 (h1 k hk).2.2.1
  refine ⟨⟨Ow, fun k hk => ⟨(h1 k hk).1, Nat.lt_of_lt_of_le (h1 k hk).2.1 hT.size, fun m => ?_, (h1 k hk).2.2.2.block (ho k hk)⟩, h2.moved fun b o hb => World.cell?_of_block (a := ⟨b, o, none⟩) (hb.elim (hg b) (ho b))⟩, h3, h4, Nat.le_trans h5 hT.size, hT.below h6 (fun k x => Nat.le_trans hwn (hM k x).1) h6.size, hT.heap h7.1 h7.2, fun m => ?_⟩
  · rcases (hM' k m).1 with x | x
    · exact (h1 k hk).2.2.1 x
    · have := (h1 k hk).2.1; omega
  · rcases (hM' rb m).1 with x | x
    · exact h7.2 x
    · have := (Array.getElem?_eq_some_iff.1 h7.1).1; omega
theorem MJ.later {Gx : Nat → Prop} {n mb rb : Nat} {w W : World} {R : T} (hwn : w.heap.size ≤ n) {s : List En} {M : Nat → Prop} {V B : World} (h : MJ Gx n mb rb w W R M s V) (hM : ∀ k, M k → n ≤ k ∧ k < V.heap.size) (hT : Turns (fun _ => False) V B) : MJ Gx n mb rb w W R M s B :=
  MJ.ab hwn s M M V B h hM (hT.mono fun _ _ h => h.elim) (fun k hk => ⟨.inl hk, Nat.lt_of_lt_of_le (hM k hk).2 hT.size⟩)
/-- What the first pair is, in the world at hand. -/
theorem MJ.heads {Gx : Nat → Prop} {n mb rb : Nat} {w W : World} {R : T} {M : Nat → Prop} {e : En} {r : List En} {V : World} (h : MJ Gx n mb rb w W R M (e :: r) V) :
    XAt (G0 Gx n mb rb) W V e.x e.xb e.xo ∧ (∃ ya yc, TyAt (G0 Gx n mb rb) W e.y ya yc ∧ V.cell? ⟨e.yb, e.yo, none⟩ = some (.int .i64 e.y.kind) ∧ V.cell? ⟨e.yb, e.yo + 1, none⟩ = some (.int .i64 e.y.num) ∧ V.cell? ⟨e.yb, e.yo + 2, none⟩ = some (.slice ya e.y.kids.length yc)) ∧
      IsC V e.xb ∧ ¬ M e.xb ∧ (e.xb = mb ∨ n ≤ e.xb) ∧ Tp.right e.x = true ∧ Tp.right e.y = true ∧ Tp.fit e.x e.y = true ∧ e.xb < V.heap.size ∧ G0 Gx n mb rb e.yb := by
  obtain ⟨⟨Ow, h1, h2⟩, h3, h4, h5, h6, h7⟩ := h
  have hp : (⟨e.xb, e.xo, e.x, e.y⟩ : Pn) ∈ pend (e :: r) := by rw [pend_cons]; simp
  have he := h3 e (by simp)
  obtain ⟨b, o, q1, q2, q3, _⟩ := he.yk.head
  injection q1 with q1
  injection q1 with e1 e2 e3
  subst e1 e2
  obtain ⟨ya, yc, y0, y1, y2, y3⟩ := q3.ty
  have how := h1 _ (h2.own _ hp)
  refine ⟨h2.lies _ hp, ⟨ya, yc, y0, (h2.keep _ _ q2).trans y1, (h2.keep _ _ q2).trans y2, (h2.keep _ _ q2).trans y3⟩, how.2.2.2, how.2.2.1, how.1, (Tp.rights_cons he.xr).1, (Tp.rights_cons he.yr).1, ?_, how.2.1, q2⟩
  rw [entodo_cons, Tp.agree_node] at h4
  simp only [Bool.and_eq_true] at h4
  exact h4.1.1.1
theorem agz_next {e : En} {r : List En} (h : Tp.agz (enTodo (e :: r)) = true) : Tp.agz (enTodo (e.next ++ r)) = true ∧ (Tp.ends e.x e.y = false → Tp.agz (e.x.kids.zip e.y.kids) = true) := by
  rw [entodo_cons, Tp.agree_node] at h
  simp only [Bool.and_eq_true, Bool.or_eq_true] at h
  refine ⟨by rw [entodo_app, Tp.agz_append, next_todo, Bool.and_eq_true]; exact ⟨h.1.2, h.2⟩, fun hE => h.1.1.2.resolve_left (by rw [hE]; decide)⟩
/-- The first place is written: it lies as it will. -/
theorem MJ.done {Gx : Nat → Prop} {n mb rb : Nat} {w W : World} {R : T} (hwm : w.heap.size ≤ mb) (hmn : mb < n) (hrm : rb < mb) {M : Nat → Prop} {e : En} {r : List En} {V B : World} (h : MJ Gx n mb rb w W R M (e :: r) V) (hT : Turns (fun k => k = e.xb) V B) (hs : B.heap.size = V.heap.size)
    (hk : ∀ o, ¬ (e.xo ≤ o ∧ o < e.xo + 3) → B.cell? ⟨e.xb, o, none⟩ = V.cell? ⟨e.xb, o, none⟩) (hc : IsC V e.xb → IsC B e.xb) (hx : XAt (G0 Gx n mb rb) W B (Tp.meet e.x e.y) e.xb e.xo) : MJ Gx n mb rb w W R M (e.next ++ r) B := by
  have hd := h.heads
  obtain ⟨⟨Ow, h1, h2⟩, h3, h4, h5, h6, h7⟩ := h
  rw [pend_cons] at h2
  have hxo := h2.own _ (List.mem_cons_self)
  have hblk : ∀ k, k ≠ e.xb → k < V.heap.size → B.heap[k]? = V.heap[k]? := fun k hk hl => hT.block k hl hk
  have hcell : ∀ b o, (G0 Gx n mb rb b ∨ Ow b) → ¬ (⟨e.xb, e.xo, e.x, e.y⟩ : Pn).has b o → B.cell? ⟨b, o, none⟩ = V.cell? ⟨b, o, none⟩ := fun b o hb hn => by
    by_cases e1 : b = e.xb
    · subst e1; exact hk o (fun hh => hn ⟨rfl, hh.1, hh.2⟩)
    · exact World.cell?_of_block (a := ⟨b, o, none⟩) (hblk b e1 (hb.elim (fun hb => Nat.lt_of_lt_of_le hb.1 h5) (fun hb => (h1 b hb).2.1)))
  have hpd := List.pairwise_cons.1 h2.dis
  refine ⟨⟨Ow, fun k hk' => ⟨(h1 k hk').1, by rw [hs]; exact (h1 k hk').2.1, (h1 k hk').2.2.1, ?_⟩, h2.done hcell fun V' he => ?_⟩, fun d hd => ?_, (agz_next h4).1, by rw [hs]; exact h5, ?_, ?_, h7.2⟩
  · by_cases e1 : k = e.xb
    · subst e1; exact hc (h1 _ hk').2.2.2
    · exact (h1 k hk').2.2.2.block (hblk k e1 (h1 k hk').2.1)
  · refine XAt.stays (p := ⟨e.xb, e.xo, e.x, e.y⟩) (fun _ hk => hk.2.2) hx (fun b o hb => ?_) hxo (fun q hq => h2.own q (List.mem_cons_of_mem _ hq)) h2.apart hpd.1 he
    exact (hcell b o (.inl hb) (fun hh => h2.apart _ hxo (by rw [hh.1]; exact hb))).trans (h2.keep b o hb)
  · rcases List.mem_append.1 hd with hd | hd
    · exact (h3 e (by simp)).next d hd
    · exact h3 d (List.mem_cons_of_mem _ hd)
  · exact hT.below h6 (fun k hk => by rw [hk]; rcases hd.2.2.2.2.1 with h | h <;> omega) h6.size
  · exact hT.heap h7.1 (fun hh => by rcases hd.2.2.2.2.1 with h | h <;> omega)
theorem set_far {V : World} {p : Addr} {v : Value} {b o : Nat} (h : ¬ (p.block = b ∧ p.off = o)) : (V.setCell p v).cell? ⟨b, o, none⟩ = V.cell? ⟨b, o, none⟩ :=
  by apply World.cell?_setCell_other; intro e; exact h (by rw [e]; exact ⟨rfl, rfl⟩)
theorem set_size (V : World) (p : Addr) (v : Value) : (V.setCell p v).heap.size = V.heap.size := by simp [World.setCell]
theorem set_turns (V : World) (p : Addr) (v : Value) : Turns (fun k => k = p.block) V (V.setCell p v) := Turns.setCell V p v rfl
/-- The first place has its own kids in a new block. -/
theorem MJ.push {Gx : Nat → Prop} {n mb rb : Nat} {w W : World} {R : T} (hGx : ∀ k, w.heap.size ≤ k → Gx k) (hwm : w.heap.size ≤ mb) (hmn : mb < n) (hrm : rb < mb) {M : Nat → Prop} {e m : En} {r : List En} {A V : World} {kb : Nat} (h : MJ Gx n mb rb w W R M (e :: r) A) (hM : ∀ k, M k → n ≤ k ∧ k < A.heap.size) (hAV : Below A.heap.size A V)
    (hkb : A.heap.size ≤ kb) (hkl : kb < V.heap.size) (hkc : IsC V kb) (hme : EnM (G0 Gx n mb rb) W m) (hmx : e.x.kids = m.x :: m.xs) (hmy : e.y.kids = m.y :: m.ys) (hmb : m.xb = kb) (hmo : m.xo = 0)
    (hE : Tp.ends e.x e.y = false) (hmq : ∀ q ∈ pos kb 0 (m.x :: m.xs) (m.y :: m.ys), XAt (G0 Gx n mb rb) W V q.x q.b q.o) :
    MJ Gx n mb rb w W R M (m :: (e.next ++ r)) (V.setCell ⟨e.xb, e.xo + 2, none⟩ (.slice (some ⟨kb, 0, none⟩) e.x.kids.length m.xc)) := by
  have hd := h.heads
  have hwn : w.heap.size ≤ n := by omega
  have h' := h.later hwn hM (Turns.of_below' hAV)
  have hd' := h'.heads
  obtain ⟨⟨Ow, h1, h2⟩, h3, h4, h5, h6, h7⟩ := h
  have hcV : ∀ b o, (G0 Gx n mb rb b ∨ Ow b) → V.cell? ⟨b, o, none⟩ = A.cell? ⟨b, o, none⟩ := fun b o hb => hAV.cell (p := ⟨b, o, none⟩) (hb.elim (fun hb => Nat.lt_of_lt_of_le hb.1 h5) (fun hb => (h1 b hb).2.1))
  have h2V := h2.moved hcV
  rw [pend_cons] at h2V
  have hxo := h2V.own _ (List.mem_cons_self)
  have hkO : ¬ Ow kb := fun hk => by have := (h1 kb hk).2.1; omega
  have hne : kb ≠ e.xb := fun e1 => hkO (e1 ▸ hxo)
  have hpd := List.pairwise_cons.1 h2V.dis
  obtain ⟨B, hB⟩ : ∃ B, V.setCell ⟨e.xb, e.xo + 2, none⟩ (.slice (some ⟨kb, 0, none⟩) e.x.kids.length m.xc) = B := ⟨_, rfl⟩
  have hs : B.heap.size = V.heap.size := by rw [← hB]; exact set_size _ _ _
  have hT : Turns (fun k => k = e.xb) V B := by rw [← hB]; exact set_turns V ⟨e.xb, e.xo + 2, none⟩ _
  have hblk : ∀ k, k ≠ e.xb → B.heap[k]? = V.heap[k]? := fun k hk => by rw [← hB]; exact Below.heap_setCell _ _ _ _ hk
  have hset : ∀ b o, ¬ (e.xb = b ∧ e.xo + 2 = o) → B.cell? ⟨b, o, none⟩ = V.cell? ⟨b, o, none⟩ := fun b o hh => by rw [← hB]; exact set_far hh
  obtain ⟨xa, xcap, hxt, x0, x1, x2⟩ := hd'.1
  have b2 : B.cell? ⟨e.xb, e.xo + 2, none⟩ = some (.slice (some ⟨kb, 0, none⟩) e.x.kids.length m.xc) := by rw [← hB]; apply World.cell?_setCell_same; exact x2
  have hcell : ∀ b o, (G0 Gx n mb rb b ∨ Ow b) → ¬ (⟨e.xb, e.xo, e.x, e.y⟩ : Pn).has b o → B.cell? ⟨b, o, none⟩ = V.cell? ⟨b, o, none⟩ := fun b o hb hn => hset b o (fun hh => hn ⟨hh.1, by dsimp only; omega, by dsimp only; omega⟩)
  rw [hB]
  refine ⟨⟨fun k => Ow k ∨ k = kb, fun k hk => ?_, ?_⟩, fun d hdm => ?_, ?_, by rw [hs]; exact Nat.le_trans h5 hAV.size, ?_, ?_, h7.2⟩
  · rcases hk with hk | rfl
    · have q := h1 k hk
      refine ⟨q.1, by rw [hs]; exact Nat.lt_of_lt_of_le q.2.1 hAV.size, q.2.2.1, ?_⟩
      have q4 := q.2.2.2.block (hAV.block k q.2.1)
      rw [← hB]; exact q4.set _ _
    · refine ⟨.inr (by omega), by rw [hs]; exact hkl, fun hm => by have := (hM k hm).2; omega, hkc.block (hblk k hne)⟩
  · rw [pend_new, hmb, hmo]
    refine h2V.push (kb := kb) hcell hkO (fun hg => by have := hg.1; omega) (fun q hq => ⟨(pos_mem _ _ _ _ q hq).1, (hmq q hq).moved fun i hi => ?_⟩) (pos_off _ _ _ _) fun V' he hl => ?_
    · rw [(pos_mem _ _ _ _ q hq).1]; exact hset _ _ (fun hh => hne hh.1.symm)
    · have hst : ∀ i, i < 3 → V'.cell? ⟨e.xb, e.xo + i, none⟩ = B.cell? ⟨e.xb, e.xo + i, none⟩ := fun i hi => he _ _ (.inr (.inl hxo)) (fun q hq => by
        rcases List.mem_append.1 hq with hq | hq
        · exact fun hh => hne ((pos_mem _ _ _ _ q hq).1 ▸ hh.1)
        · exact has_off (hpd.1 q hq) i hi)
      have y0 : V'.cell? ⟨e.xb, e.xo, none⟩ = some (.int .i64 e.x.kind) := (hst 0 (by omega)).trans ((hset _ _ (by omega)).trans x0)
      have y1 : V'.cell? ⟨e.xb, e.xo + 1, none⟩ = some (.int .i64 e.x.num) := (hst 1 (by omega)).trans ((hset _ _ (by omega)).trans x1)
      have y2 : V'.cell? ⟨e.xb, e.xo + 2, none⟩ = _ := (hst 2 (by omega)).trans b2
      have hlen : e.y.kids.length = e.x.kids.length := by rw [hmx, hmy, List.length_cons, List.length_cons, hme.wf.1]
      have hml : (Tp.meets e.x.kids e.y.kids).length = e.x.kids.length := Tp.meets_length _ _ hlen.symm
      have hkids : KidsAt (Hb Gx rb) V' (Tp.meets e.x.kids e.y.kids) (some ⟨kb, 0, none⟩) := KidsAt.of_nodes (show Hb Gx rb kb from ⟨fun h => by omega, hGx kb (by omega)⟩) _ 0 (fun i hi => by
        have hi1 : i < e.x.kids.length := by omega
        have hi2 : i < e.y.kids.length := by omega
        have hg := pos_get e.x.kids e.y.kids kb 0 i hi1 hi2
        have := hl _ (by rw [← hmx, ← hmy]; exact hg)
        rw [meets_get _ _ i hi hi1 hi2]
        exact this)
      have hmt : Tp.meet e.x e.y = .mk e.x.kind e.x.num (Tp.meets e.x.kids e.y.kids) := meet_kids hE
      dsimp only
      rw [hmt]
      simp only [NodeAt]
      refine ⟨hxt.1, hxt.2.1, y0, y1, some ⟨kb, 0, none⟩, m.xc, by rw [hml]; exact y2, ?_, hme.wf.2.2.1, hkids⟩
      rw [hml, hmx, List.length_cons]; exact hme.wf.2.1
  · rcases List.mem_cons.1 hdm with rfl | hdm
    · exact hme
    · rcases List.mem_append.1 hdm with hdm | hdm
      · exact (h3 e (by simp)).next d hdm
      · exact h3 d (List.mem_cons_of_mem _ hdm)
  · have q := agz_next h4
    rw [entodo_cons, q.1, Bool.and_true]
    have := q.2 hE
    rw [hmx, hmy, List.zip_cons_cons] at this
    simpa [Tp.agz] using this
  · exact hT.below (h6.trans (hAV.mono h6.size)) (fun k hk => by rw [hk]; rcases hd.2.2.2.2.1 with h | h <;> omega) (h6.trans (hAV.mono h6.size)).size
  · exact hT.heap ((hAV.block rb (Array.getElem?_eq_some_iff.1 h7.1).1).trans h7.1) (fun hh => by rcases hd.2.2.2.2.1 with h | h <;> omega)
/-- The first type is a ?: the other one is written in its place. -/
theorem MJ.dyn {Gx : Nat → Prop} {n mb rb : Nat} {w W : World} {R : T} (hwm : w.heap.size ≤ mb) (hmn : mb < n) (hrm : rb < mb) {M : Nat → Prop} {e : En} {r : List En} {V : World} (h : MJ Gx n mb rb w W R M (e :: r) V) (hx5 : e.x.kind = 5) {ya : Option Addr} {yc : Nat} (hy : TyAt (G0 Gx n mb rb) W e.y ya yc) :
    MJ Gx n mb rb w W R M (e.next ++ r) (((V.setCell ⟨e.xb, e.xo, none⟩ (.int .i64 e.y.kind)).setCell ⟨e.xb, e.xo + 1, none⟩ (.int .i64 e.y.num)).setCell ⟨e.xb, e.xo + 2, none⟩ (.slice ya e.y.kids.length yc)) := by
  obtain ⟨⟨xa, xc, hxt, x0, x1, x2⟩, _⟩ := h.heads
  have c1 : (V.setCell ⟨e.xb, e.xo, none⟩ (.int .i64 e.y.kind)).cell? ⟨e.xb, e.xo + 1, none⟩ = _ := (set_far (by dsimp only; omega)).trans x1
  have c2 : ((V.setCell ⟨e.xb, e.xo, none⟩ (.int .i64 e.y.kind)).setCell ⟨e.xb, e.xo + 1, none⟩ (.int .i64 e.y.num)).cell? ⟨e.xb, e.xo + 2, none⟩ = _ := (set_far (by dsimp only; omega)).trans ((set_far (by dsimp only; omega)).trans x2)
  refine h.done hwm hmn hrm ?_ (by rw [set_size, set_size, set_size]) (fun o ho => ?_) (fun hc => ((hc.set _ _).set _ _).set _ _) ⟨ya, yc, ?_, ?_, ?_, ?_⟩
  · exact ((set_turns V ⟨e.xb, e.xo, none⟩ _).trans (set_turns _ ⟨e.xb, e.xo + 1, none⟩ _)).trans (set_turns _ ⟨e.xb, e.xo + 2, none⟩ _)
  · exact (set_far (by dsimp only; omega)).trans ((set_far (by dsimp only; omega)).trans (set_far (by dsimp only; omega)))
  · rw [meet_dyn hx5]; exact hy
  · rw [meet_dyn hx5]
    refine (set_far (by dsimp only; omega)).trans ((set_far (by dsimp only; omega)).trans ?_)
    apply World.cell?_setCell_same; exact x0
  · rw [meet_dyn hx5]
    refine (set_far (by dsimp only; omega)).trans ?_
    apply World.cell?_setCell_same; exact c1
  · rw [meet_dyn hx5]
    apply World.cell?_setCell_same; exact c2
/-- The other type is a ?: nothing is written. -/
theorem MJ.same {Gx : Nat → Prop} {n mb rb : Nat} {w W : World} {R : T} (hwm : w.heap.size ≤ mb) (hmn : mb < n) (hrm : rb < mb) {M : Nat → Prop} {e : En} {r : List En} {V : World} (h : MJ Gx n mb rb w W R M (e :: r) V) (hx5 : e.x.kind ≠ 5) (hy5 : e.y.kind = 5) : MJ Gx n mb rb w W R M (e.next ++ r) V :=
  h.done hwm hmn hrm (Turns.refl _ _) rfl (fun _ _ => rfl) id (by rw [meet_any hx5 hy5]; exact h.heads.1)
/-- A leaf beside a leaf. -/
theorem MJ.leaf {Gx : Nat → Prop} {n mb rb : Nat} {w W : World} {R : T} (hwm : w.heap.size ≤ mb) (hmn : mb < n) (hrm : rb < mb) {M : Nat → Prop} {e : En} {r : List En} {V : World} (h : MJ Gx n mb rb w W R M (e :: r) V) (hE : Tp.ends e.x e.y = false) (hxk : e.x.kids = []) (a : Option Addr) (c : Nat) (hc : c ≤ maxLen) :
    MJ Gx n mb rb w W R M (e.next ++ r) (V.setCell ⟨e.xb, e.xo + 2, none⟩ (.slice a 0 c)) := by
  obtain ⟨⟨xa, xc, hxt, x0, x1, x2⟩, _⟩ := h.heads
  have hmt : Tp.meet e.x e.y = .mk e.x.kind e.x.num [] := by rw [meet_kids hE, hxk]; simp [Tp.meets]
  refine h.done hwm hmn hrm (set_turns V ⟨e.xb, e.xo + 2, none⟩ _) (set_size _ _ _) (fun o ho => set_far (by dsimp only; omega)) (fun hc => hc.set _ _) ⟨a, c, ?_, ?_, ?_, ?_⟩
  · rw [hmt]; exact ⟨hxt.1, hxt.2.1, Nat.zero_le _, hc, by simp [Tp.T.kids, KidsAt]⟩
  · rw [hmt]; exact (set_far (by dsimp only; omega)).trans x0
  · rw [hmt]; exact (set_far (by dsimp only; omega)).trans x1
  · rw [hmt]; apply World.cell?_setCell_same; exact x2
/-- The places of a row that was cloned. -/
theorem clone_at {G : Nat → Prop} {W V : World} {base : Nat} {e : TypeId} {l m : List T} {kb cap : Nat} {news : List Value}
    (hn4 : ∀ i (h : i < l.length), ∃ a cap, TyAt G W l[i] a cap ∧ news[i * 3]? = some (.int .i64 l[i].kind) ∧ news[i * 3 + 1]? = some (.int .i64 l[i].num) ∧ news[i * 3 + 2]? = some (.slice a l[i].kids.length cap))
    (hown : V.ownsRow base e 3 (.slice (some ⟨kb, 0, none⟩) l.length cap) l.length news) : ∀ q ∈ pos kb 0 l m, XAt G W V q.x q.b q.o := by
  intro q hq
  obtain ⟨_, i, h1, h2, rfl⟩ := pos_mem _ _ _ _ q hq
  obtain ⟨a, c, q1, q2, q3, q4⟩ := hn4 i h1
  have hc := hown.cells (g := kb) rfl
  refine ⟨a, c, q1, ?_, ?_, ?_⟩
  · have := hc _ _ q2; rwa [add_flat] at this
  · have := hc _ _ q3; rwa [add_flat] at this
  · have := hc _ _ q4; rwa [add_flat] at this
theorem IsC.row {V : World} {base : Nat} {e : TypeId} {sz n kb cap : Nat} {xs : List Value} (h : V.ownsRow base e sz (.slice (some ⟨kb, 0, none⟩) n cap) n xs) : IsC V kb := by
  rcases h.2 with ⟨h1, _⟩ | ⟨g, cap', cur, h1, _, h3, _⟩
  · cases h1
  · injection h1 with h1
    injection h1 with h1
    injection h1 with h1
    subst h1
    exact ⟨_, _, h3⟩
theorem kids_two {x : T} (h : Tp.right x = true) : x.kids.length ≤ 2 := by
  cases x with
  | mk k n l =>
    have := (Tp.right_node h).1
    simp only [Tp.T.kids]
    unfold Tp.arity at this
    split at this
    · omega
    · split at this
      · omega
      · split at this <;> omega
end Go.Proofs.Ytncdbbjkafgphaa
