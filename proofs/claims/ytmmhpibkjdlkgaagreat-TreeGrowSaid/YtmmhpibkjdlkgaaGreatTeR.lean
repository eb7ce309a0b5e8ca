/- A range over a function whose iterator asks, between two rounds, where to go on: what it hands over next is said of the world at hand. A walk through a tree by a stack of the iterator's own: the visits, plainly, and the stack between two rounds. Of whatever trees. tree.visits' closure over patterns, walked. tree.visits over patterns: what it hands back, and the iterator's contract. tree.nodes: what it hands back. tree.nodes' closure over patterns: the nodes are the visits at which no kid is gone yet. tree.nodes' closure over patterns, walked. Patterns as a shape: their visits and nodes, plainly; the iterator's contract of tree.nodes over patterns. Expressions, plainly; their visits and nodes. Expressions that lie in memory: a node takes sixteen cells, its kids a slice. -/
import Derived.Test.YtmmhpibkjdlkgaaGreatTpP
import Derived.Laws.OwnMore
import Derived.Test.YtmmhpibkjdlkgaaGreatPure
namespace Go.Proofs.YtmmhpibkjdlkgaaGreat
open Go Go.RowKit

/-- WHAT THE ITERATOR OWES: it begins at x0, and goes on where 'Next' leads from what it has handed over. -/
def SeqAt {α : Type} (P : Program) (g : Nat) (lb : Array Value) (encs : α → Array Value) (S : List α → Prop) (okp : List α → α → Prop) (fresh : α → Prop) (x0 : α) (Next : World → α → (α → Prop) → Prop) (Fr : Nat → Prop) (w : World) : Prop :=
  ∀ (l : Nat) (J Jx : (Nat → Prop) → List α → World → Prop) (ok : (Nat → Prop) → List α → α → World → Prop) (W : World), Below w.heap.size w W → (∀ s, Ab W.heap.size fun M W' => J M s W') → (∀ s, Ab W.heap.size fun M W' => Jx M s W') →
    (∀ s x, Ab W.heap.size fun M W' => ok M s x W') → ok (fun _ => False) [] x0 W →
    (∀ M pre y W1, J M pre W1 → (∀ k, M k → W.heap.size ≤ k ∧ k < W1.heap.size) → W.heap.size ≤ W1.heap.size → y ∈ pre → Next W1 y fun x => ok M pre x W1) →
    (∀ M pre x W1, J M pre W1 → (∀ k, M k → W.heap.size ≤ k ∧ k < W1.heap.size) → W.heap.size ≤ W1.heap.size → okp pre x → (fresh x → ok M pre x W1) → YieldAt Fence.wide 8 P l (encs x) W1 fun e W' =>
      (e = .returned (.bool true) ∧ J M (pre ++ [x]) W' ∧ Turns (fun k => Fr k ∧ ¬ M k) W1 W') ∨ (e = .returned (.bool false) ∧ Jx M (pre ++ [x]) W' ∧ Turns (fun k => Fr k ∧ ¬ M k) W1 W')) →
    J (fun _ => False) [] W →
    Calls P g (#[.func (.yield l) #[] #[]] ++ lb) W fun e W' => (∃ v, e = .returned v) ∧
      ((∃ M xs, S xs ∧ J M xs W' ∧ ∀ k, M k → W.heap.size ≤ k ∧ k < W'.heap.size) ∨ (∃ M pre, Jx M pre W' ∧ ∀ k, M k → W.heap.size ≤ k ∧ k < W'.heap.size))

/-- HOW THE BODY OF A ROUND MAY BE LEFT. -/
def atPost {α : Type} (Fr : Nat → Prop) (M : Nat → Prop) (I : (Nat → Prop) → List α → World → Prop) (Ix : Code → (Nat → Prop) → List α → World → Prop) (xs : List α) (W : World) : Exit → Act → World → Prop
  | .normal, _, W' => Turns (fun k => Fr k ∧ ¬ M k) W W' ∧ I M xs W'
  | .ret, _, W' => Turns (fun k => Fr k ∧ ¬ M k) W W' ∧ Ix .ret M xs W'
  | .exit id, _, W' => Turns (fun k => Fr k ∧ ¬ M k) W W' ∧ Ix (.exit id) M xs W'
  | .goto t, _, W' => Turns (fun k => Fr k ∧ ¬ M k) W W' ∧ Ix (.goto t) M xs W'
  | .panic _, _, _ => False
  | .outgrown, _, _ => False

/-- **THE STATEMENT's LAW.** -/
theorem wpIn_range_at {P : Program} {α : Type} {g : Operand} {ps : Array Tmp} {assign body : Code} {Q : Exit → Act → World → Prop} {a : Act} {w : World}
    {gf : Nat} {lb : Array Value} (hg : a.eval g = .func (.func gf) #[] lb) (eg : ∀ args w, (callFunc gf args).run P w = .ok (.enter gf args) w)
    {encs : α → Array Value} {S : List α → Prop} {okp : List α → α → Prop} {fresh : α → Prop} {x0 : α} {Next : World → α → (α → Prop) → Prop} {Fr : Nat → Prop} {w0 : World} (hseq : SeqAt P gf lb encs S okp fresh x0 Next Fr w0)
    (hN : ∀ W y (K K' : α → Prop), (∀ x, K x → K' x) → Next W y K → Next W y K') (hb0 : Below w0.heap.size w0 w) (hFr : ∀ k, w.heap.size ≤ k → Fr k) (hps : ∀ x, (encs x).size = ps.size)
    (I : (Nat → Prop) → List α → World → Prop) (ok : (Nat → Prop) → List α → α → World → Prop) (Ix : Code → (Nat → Prop) → List α → World → Prop) (Ax : α → Act → (Nat → Prop) → World → Prop)
    (hI : ∀ s, Ab w.heap.size fun M W => I M s W) (hIx : ∀ c s, Ab w.heap.size fun M W => Ix c M s W) (hAx : ∀ x a', Ab w.heap.size fun M W => Ax x a' M W) (h0 : I (fun _ => False) [] w)
    (hO : ∀ s x, Ab w.heap.size fun M W => ok M s x W) (hx0 : ok (fun _ => False) [] x0 w)
    (hnext : ∀ M pre y W, I M pre W → (∀ k, M k → w.heap.size ≤ k ∧ k < W.heap.size) → w.heap.size ≤ W.heap.size → y ∈ pre → Next W y fun x => ok M pre x W)
    (hassign : ∀ (l : Nat) (M : Nat → Prop) (pre : List α) (x : α) (W : World) (K : Act → World → Prop), I M pre W → (∀ k, M k → w.heap.size ≤ k ∧ k < W.heap.size) → okp pre x → (fresh x → ok M pre x W) →
      (∀ a' W', Turns (fun _ => False) W W' → Ax x a' M W' → K a' W') →
      assign.wpIn (Fence.wide.inRound l) 8 P (Exit.then K (fun _ _ _ => False)) { tmps := (ps.zip (encs x)).foldl (fun t (p, v) => t.setIfInBounds p v) a.tmps, defers := [] } W)
    (hbody : ∀ (l : Nat) (M : Nat → Prop) (pre : List α) (x : α) (a' : Act) (W : World), I M pre W → (∀ k, M k → w.heap.size ≤ k ∧ k < W.heap.size) → w.heap.size ≤ W.heap.size → okp pre x → (fresh x → ok M pre x W) → Ax x a' M W →
      body.wpIn (Fence.wide.inRound l) 8 P (atPost Fr M I Ix (pre ++ [x]) W) a' W)
    (hdone : ∀ (D : Nat) (M : Nat → Prop) (xs : List α) (W : World), w.heap.size ≤ D → M D → (∀ k, M k → w.heap.size ≤ k ∧ k < W.heap.size) → S xs → I M xs W → W.heap[D]? = some (.deferred (some [])) → Q .normal { a with defers := { target := .collected D, args := #[] } :: a.defers } W)
    (hstop : ∀ (D : Nat) (M : Nat → Prop) (c : Code) (pre : List α) (W : World), w.heap.size ≤ D → M D → (∀ k, M k → w.heap.size ≤ k ∧ k < W.heap.size) → Ix c M pre W → W.heap[D]? = some (.deferred (some [])) → c.wpIn Fence.wide 9 P Q { a with defers := { target := .collected D, args := #[] } :: a.defers } W) :
    (Code.rangeFunc g ps assign body).wpIn Fence.wide 9 P Q a w := by
  refine wpIn_rangeFunc ?_
  intro fn hfn
  rw [show Fence.wide.round = none from rfl]
  obtain ⟨rec, hrec⟩ : ∃ rec : LoopState → Option Code → Loop, rec = fun st pe => { state := st, pending := pe, fn, tmps := a.tmps, params := ps, assign, body, defers := w.heap.size } := ⟨_, rfl⟩
  obtain ⟨W1, hW1⟩ : ∃ W1, (w.alloc (.deferred (some []))).alloc (.loop (rec .ready none)) = W1 := ⟨_, rfl⟩
  have hsz : W1.heap.size = w.heap.size + 2 := by rw [← hW1]; simp
  have hL1 : W1.heap[w.heap.size + 1]? = some (.loop (rec .ready none)) := by
    rw [← hW1]; have := World.alloc_heap_new (w.alloc (.deferred (some []))) (.loop (rec .ready none)); rwa [World.size_alloc] at this
  have hK1 : W1.heap[w.heap.size]? = some (.deferred (some [])) := by
    rw [← hW1]; exact (Below.heap_alloc _ _ _ (by simp)).trans (World.alloc_heap_new w _)
  have hT1 : Turns (fun _ => False) w W1 := by rw [← hW1]; exact (Turns.alloc _ _ _).trans (Turns.alloc _ _ _)
  have hb1 : Below w0.heap.size w0 W1 := hT1.below hb0 (fun _ h => h.elim) hb0.size
  obtain ⟨plus, hplus⟩ : ∃ plus : (Nat → Prop) → Nat → Prop, plus = fun M k => M k ∨ k = w.heap.size ∨ k = w.heap.size + 1 := ⟨_, rfl⟩
  have pl : ∀ M k, plus M k ↔ (M k ∨ k = w.heap.size ∨ k = w.heap.size + 1) := fun M k => by rw [hplus]
  have hI1 : I (plus fun _ => False) [] W1 := hI [] _ _ w W1 h0 (fun _ h => h.elim) hT1 (fun k hk => by
    rcases (pl _ _).1 hk with h | h
    · exact h.elim
    · exact ⟨Or.inr (by omega), by omega⟩)
  refine ⟨w.heap.size + 1, [{ target := .collected w.heap.size, args := #[] }], W1, { target := .fn (.func gf) lb, args := #[.func (.yield (w.heap.size + 1)) #[] #[]] }, W1, gf,
    #[.func (.yield (w.heap.size + 1)) #[] #[]] ++ lb, W1, ?_, ?_, ?_, ?_, fun h => (by cases h), ?_⟩
  · rw [← hW1, hrec]; exact run_enterLoop_outer _ _ _ _ _
  · simp only [resolve, hg]
    simp [go_sem]
  · intro f' _; trivial
  · simp [invoke, go_sem, eg]
  · refine callsIn_wide.2 ?_
    -- the blocks of whoever owns M, the loop's two beside them
    have up : ∀ {M : Nat → Prop} {A : World}, (∀ k, M k → W1.heap.size ≤ k ∧ k < A.heap.size) → W1.heap.size ≤ A.heap.size → ∀ k, plus M k → w.heap.size ≤ k ∧ k < A.heap.size := fun h hA k hk => by
      rcases (pl _ _).1 hk with x | x
      · have := h k x; omega
      · omega
    have nL : ∀ {M : Nat → Prop} {A : World}, (∀ k, M k → W1.heap.size ≤ k ∧ k < A.heap.size) → ¬ M (w.heap.size + 1) := fun h x => by have := h _ x; omega
    have nD : ∀ {M : Nat → Prop} {A : World}, (∀ k, M k → W1.heap.size ≤ k ∧ k < A.heap.size) → ¬ M w.heap.size := fun h x => by have := h _ x; omega
    -- what abides M's steps abides them with the loop's two blocks beside
    have lift : ∀ {p : (Nat → Prop) → World → Prop}, Ab w.heap.size p → ∀ (M M' : Nat → Prop) (A B : World), p (plus M) A → W1.heap.size ≤ A.heap.size → (∀ k, M k → W1.heap.size ≤ k ∧ k < A.heap.size) → Turns (plus M) A B → (∀ k, M' k → (M k ∨ A.heap.size ≤ k) ∧ k < B.heap.size) → p (plus M') B :=
      fun hp M M' A B h hA hM hT hM' => hp _ _ A B h (up hM hA) hT (fun k hk => by
        have := hT.size
        rcases (pl _ _).1 hk with x | x
        · obtain ⟨y, z⟩ := hM' k x
          exact ⟨y.elim (fun y => .inl ((pl _ _).2 (.inl y))) .inr, z⟩
        · exact ⟨.inl ((pl _ _).2 (.inr x)), by omega⟩)
    refine (hseq (w.heap.size + 1)
      (fun M pre W => I (plus M) pre W ∧ W.heap[w.heap.size + 1]? = some (.loop (rec .ready none)) ∧ W.heap[w.heap.size]? = some (.deferred (some [])))
      (fun M pre W => ∃ c, Ix c (plus M) pre W ∧ W.heap[w.heap.size + 1]? = some (.loop (rec .done (some c))) ∧ W.heap[w.heap.size]? = some (.deferred (some [])))
      (fun M pre x W => ok (plus M) pre x W ∧ W1.heap.size ≤ W.heap.size)
      W1 hb1 ?_ ?_ ?_ ?_ ?_ ?_ ⟨hI1, hL1, hK1⟩).mono ?_
    · rintro s M M' A B ⟨hi, hl, hk⟩ hM hT hM'
      have hA : W1.heap.size ≤ A.heap.size := by have := (Array.getElem?_eq_some_iff.1 hl).1; omega
      exact ⟨lift (hI s) M M' A B hi hA hM (hT.mono fun k _ h => (pl _ _).2 (.inl h)) hM', hT.heap hl (nL hM), hT.heap hk (nD hM)⟩
    · rintro s M M' A B ⟨c, hi, hl, hk⟩ hM hT hM'
      have hA : W1.heap.size ≤ A.heap.size := by have := (Array.getElem?_eq_some_iff.1 hl).1; omega
      exact ⟨c, lift (hIx c s) M M' A B hi hA hM (hT.mono fun k _ h => (pl _ _).2 (.inl h)) hM', hT.heap hl (nL hM), hT.heap hk (nD hM)⟩
    · rintro s x M M' A B ⟨h, hA⟩ hM hT hM'
      exact ⟨lift (hO s x) M M' A B h hA hM (hT.mono fun k _ h => (pl _ _).2 (.inl h)) hM', Nat.le_trans hA hT.size⟩
    · exact ⟨hO [] x0 _ _ w W1 hx0 (fun _ h => h.elim) hT1 (fun k hk => by
        rcases (pl _ _).1 hk with h | h
        · exact h.elim
        · exact ⟨Or.inr (by omega), by omega⟩), Nat.le_refl _⟩
    · rintro M pre y W ⟨hi, hl, hk⟩ hM hA hy
      exact hN _ _ _ _ (fun x hx => ⟨hx, hA⟩) (hnext (plus M) pre y W hi (up hM hA) (by omega) hy)
    · -- ONE ROUND
      rintro M pre x W ⟨hi, hl, hk⟩ hM hA hokp hok1
      have hok : fresh x → ok (plus M) pre x W := fun h => (hok1 h).1
      have hy := run_yield (P := P) (args := encs x) hl (by rw [hrec]; exact hps x)
      rw [hrec] at hy
      refine ⟨fn, _, assign, body, hy, roundIn_of_wpIn hfn (hassign _ (plus M) pre x W _ hi (up hM hA) hokp hok fun a' W' hT' hax => ?_)⟩
      have hl' : W'.heap[w.heap.size + 1]? = some (.loop (rec .ready none)) := hT'.heap hl (fun h => h)
      have hk' : W'.heap[w.heap.size]? = some (.deferred (some [])) := hT'.heap hk (fun h => h)
      have hA' : W1.heap.size ≤ W'.heap.size := Nat.le_trans hA hT'.size
      have hM1 : ∀ k, M k → W1.heap.size ≤ k ∧ k < W'.heap.size := fun k h => ⟨(hM k h).1, Nat.lt_of_lt_of_le (hM k h).2 hT'.size⟩
      refine ⟨_, run_beginRound hl' (by rw [hrec]), ?_⟩
      obtain ⟨W2, hW2⟩ : ∃ W2, W'.putObj (w.heap.size + 1) (.loop { rec .ready none with state := .busy }) = W2 := ⟨_, rfl⟩
      have hlt' : w.heap.size + 1 < W'.heap.size := by omega
      have hs2 : W2.heap.size = W'.heap.size := by rw [← hW2]; simp
      have hl2 : W2.heap[w.heap.size + 1]? = some (.loop { rec .ready none with state := .busy }) := by rw [← hW2]; exact World.putObj_heap_same hlt'
      have hk2 : W2.heap[w.heap.size]? = some (.deferred (some [])) := by rw [← hW2]; exact (World.putObj_heap_other (by omega)).trans hk'
      have hT2 : Turns (plus M) W' W2 := by rw [← hW2]; exact Turns.putObj _ _ _ ((pl _ _).2 (.inr (.inr rfl)))
      rw [hW2]
      have hi2 : I (plus M) pre W2 := lift (hI pre) M M W W2 hi hA hM ((hT'.mono fun _ _ h => h.elim).trans hT2) (fun k h => ⟨.inl h, by have := (hM1 k h).2; omega⟩)
      have hax2 : Ax x a' (plus M) W2 := lift (hAx x a') M M W' W2 hax hA' hM1 hT2 (fun k h => ⟨.inl h, by have := (hM1 k h).2; omega⟩)
      have hok2 : fresh x → ok (plus M) pre x W2 := fun hf => lift (hO pre x) M M W W2 (hok hf) hA hM ((hT'.mono fun _ _ h => h.elim).trans hT2) (fun k h => ⟨.inl h, by have := (hM1 k h).2; omega⟩)
      refine wpIn_mono (hbody _ (plus M) pre x a' W2 hi2 (up (fun k h => ⟨(hM1 k h).1, by rw [hs2]; exact (hM1 k h).2⟩) (by omega)) (by omega) hokp hok2 hax2) ?_
      have hTW : Turns (fun k => Fr k ∧ ¬ M k) W W2 := (hT'.mono fun _ _ h => h.elim).trans (by rw [← hW2]; exact Turns.putObj _ _ _ ⟨hFr _ (by omega), nL hM⟩)
      have fin : ∀ (jump : Option Code) (W3 : World), Turns (fun k => Fr k ∧ ¬ plus M k) W2 W3 → ∃ W4,
          (Instr.endRound (w.heap.size + 1) jump).run P W3 = .ok (.bool jump.isNone) W4 ∧ W4.heap[w.heap.size + 1]? = some (.loop (rec (if jump.isNone then .ready else .done) jump)) ∧
          W4.heap[w.heap.size]? = some (.deferred (some [])) ∧ Turns (plus M) W3 W4 ∧ Turns (fun k => Fr k ∧ ¬ M k) W W4 ∧ W4.heap.size = W3.heap.size := fun jump W3 hk3 => by
        have hl3 := hk3.heap hl2 (fun h => h.2 ((pl _ _).2 (.inr (.inr rfl))))
        have hd3 := hk3.heap hk2 (fun h => h.2 ((pl _ _).2 (.inr (.inl rfl))))
        have := run_endRound (P := P) jump hl3
        refine ⟨_, this, ?_, ?_, ?_, ?_, by simp⟩
        · rw [hrec]; exact World.putObj_heap_same (Array.getElem?_eq_some_iff.1 hl3).1
        · exact (World.putObj_heap_other (by omega)).trans hd3
        · exact Turns.putObj _ _ _ ((pl _ _).2 (.inr (.inr rfl)))
        · exact (hTW.trans (hk3.mono fun k _ h => ⟨h.1, fun m => h.2 ((pl _ _).2 (.inl m))⟩)).trans (Turns.putObj _ _ _ ⟨hFr _ (by omega), nL hM⟩)
      have hM3 : ∀ {W3 : World}, W2.heap.size ≤ W3.heap.size → ∀ k, M k → W1.heap.size ≤ k ∧ k < W3.heap.size := fun h k m => by have := hM1 k m; omega
      rintro e a3 W3 hp
      cases e with
      | normal =>
        obtain ⟨hk3, hi3⟩ := hp
        obtain ⟨W4, hr, hl4, hk4, ht4, hT4, hs4⟩ := fin none W3 hk3
        have h3 := hM3 hk3.size
        have h23 := hk3.size
        exact ⟨_, _, hr, .inl ⟨rfl, ⟨lift (hI _) M M W3 W4 hi3 (by omega) h3 ht4 (fun k h => ⟨.inl h, by rw [hs4]; exact (h3 k h).2⟩), hl4, hk4⟩, hT4⟩⟩
      | ret =>
        obtain ⟨hk3, hi3⟩ := hp
        obtain ⟨W4, hr, hl4, hk4, ht4, hT4, hs4⟩ := fin (some .ret) W3 hk3
        have h3 := hM3 hk3.size
        have h23 := hk3.size
        exact ⟨_, _, hr, .inr ⟨rfl, ⟨.ret, lift (hIx _ _) M M W3 W4 hi3 (by omega) h3 ht4 (fun k h => ⟨.inl h, by rw [hs4]; exact (h3 k h).2⟩), hl4, hk4⟩, hT4⟩⟩
      | exit id =>
        obtain ⟨hk3, hi3⟩ := hp
        obtain ⟨W4, hr, hl4, hk4, ht4, hT4, hs4⟩ := fin (some (.exit id)) W3 hk3
        have h3 := hM3 hk3.size
        have h23 := hk3.size
        exact ⟨_, _, hr, .inr ⟨rfl, ⟨.exit id, lift (hIx _ _) M M W3 W4 hi3 (by omega) h3 ht4 (fun k h => ⟨.inl h, by rw [hs4]; exact (h3 k h).2⟩), hl4, hk4⟩, hT4⟩⟩
      | goto t =>
        obtain ⟨hk3, hi3⟩ := hp
        obtain ⟨W4, hr, hl4, hk4, ht4, hT4, hs4⟩ := fin (some (.goto t)) W3 hk3
        have h3 := hM3 hk3.size
        have h23 := hk3.size
        exact ⟨_, _, hr, .inr ⟨rfl, ⟨.goto t, lift (hIx _ _) M M W3 W4 hi3 (by omega) h3 ht4 (fun k h => ⟨.inl h, by rw [hs4]; exact (h3 k h).2⟩), hl4, hk4⟩, hT4⟩⟩
      | panic ch => exact hp.elim
      | outgrown => exact hp.elim
    · -- BEHIND THE ITERATOR
      have last : ∀ {p : (Nat → Prop) → World → Prop}, Ab w.heap.size p → ∀ (M : Nat → Prop) (W2 : World) (o : Obj), p (plus M) W2 → W1.heap.size ≤ W2.heap.size → (∀ k, M k → W1.heap.size ≤ k ∧ k < W2.heap.size) → p (plus M) (W2.putObj (w.heap.size + 1) o) := fun hp M W2 o h hA hM =>
        lift hp M M W2 _ h hA hM (Turns.putObj _ _ _ ((pl _ _).2 (.inr (.inr rfl)))) (fun k m => ⟨.inl m, by rw [World.putObj_size]; exact (hM k m).2⟩)
      rintro e W2 ⟨⟨v, rfl⟩, (⟨M, xs, hS, ⟨hi, hl, hk⟩, hM⟩ | ⟨M, pre, ⟨c, hi, hl, hk⟩, hM⟩)⟩
      · have hA : W1.heap.size ≤ W2.heap.size := by have := (Array.getElem?_eq_some_iff.1 hl).1; omega
        exact ⟨none, _, by have := run_endLoop (P := P) hl (by rw [hrec]; simp); rw [hrec] at this; exact this, hdone _ _ xs _ (Nat.le_refl _) ((pl _ _).2 (.inr (.inl rfl))) (fun k h => by rw [World.putObj_size]; exact up hM hA k h) hS (last (hI xs) M W2 _ hi hA hM) ((World.putObj_heap_other (by omega)).trans hk)⟩
      · have hA : W1.heap.size ≤ W2.heap.size := by have := (Array.getElem?_eq_some_iff.1 hl).1; omega
        exact ⟨some c, _, by have := run_endLoop (P := P) hl (by rw [hrec]; simp); rw [hrec] at this; exact this, hstop _ _ c pre _ (Nat.le_refl _) ((pl _ _).2 (.inr (.inl rfl))) (fun k h => by rw [World.putObj_size]; exact up hM hA k h) (last (hIx c pre) M W2 _ hi hA hM) ((World.putObj_heap_other (by omega)).trans hk)⟩
end Go.Proofs.YtmmhpibkjdlkgaaGreat
namespace Go.Proofs.YtmmhpibkjdlkgaaGreat
open Go Go.RowKit Go.Shelf

/-- What a walk goes through: the kids of a node, and the visits that are left at a node of which i kids are gone, at depth d. -/
structure Shape (T : Type) where
  kids : T → List T
  vk : T → Nat → Nat → List (T × Nat × Nat)
  more : ∀ t i d (h : i < (kids t).length), vk t i d = (t, i, d) :: (vk (kids t)[i] 0 (d + 1) ++ vk t (i + 1) d)
  last : ∀ t i d, ¬ i < (kids t).length → vk t i d = [(t, i, d)]
/-- A visit. -/
structure Vi (T : Type) where
  t : T
  p : Option Addr
  i : Nat
  d : Nat
namespace Vi
variable {T : Type}
def key (x : Vi T) : T × Nat × Nat := (x.t, x.i, x.d)
def cells (x : Vi T) : List Value := [.pointer x.p, .int .i64 (x.i : Int), .int .i64 (x.d : Int)]
def enc (x : Vi T) : Array Value := #[.agg #[.pointer x.p, .int .i64 (x.i : Int), .int .i64 (x.d : Int)]]
/-- The same node, one kid on. -/
def on (x : Vi T) : Vi T := { x with i := x.i + 1 }
end Vi
variable {T : Type}
def vCells (S : List (Vi T)) : List Value := S.flatMap Vi.cells
def vTodo (S : Shape T) (R : List (Vi T)) : List (T × Nat × Nat) := R.flatMap fun e => S.vk e.t e.i e.d
theorem vCells_length : ∀ S : List (Vi T), (vCells S).length = S.length * 3
  | [] => rfl
  | e :: r => by
    have := vCells_length r
    simp only [vCells, List.flatMap_cons, List.length_append, List.length_cons, Vi.cells, List.length_nil] at this ⊢
    omega
theorem vCells_snoc (S : List (Vi T)) (e : Vi T) : vCells (S ++ [e]) = vCells S ++ e.cells := by simp [vCells]
theorem vk_head (S : Shape T) (t : T) (i d : Nat) : ∃ r, S.vk t i d = (t, i, d) :: r := by
  by_cases h : i < (S.kids t).length
  · exact ⟨_, S.more t i d h⟩
  · exact ⟨_, S.last t i d h⟩
theorem vTodo_len (S : Shape T) : ∀ R : List (Vi T), R.length ≤ (vTodo S R).length
  | [] => Nat.le_refl _
  | e :: r => by
    have h1 := vTodo_len S r
    obtain ⟨q, hq⟩ := vk_head S e.t e.i e.d
    simp only [vTodo, List.flatMap_cons, List.length_append, hq, List.length_cons] at h1 ⊢
    omega
/-- Each entry's depth is its place. -/
def deps : List (Vi T) → Prop
  | [] => True
  | e :: r => e.d = r.length + 1 ∧ deps r
/-- What is known of a visit when it is handed over. -/
def viOk (S : Shape T) (t0 : T) (pre : List (Vi T)) (x : Vi T) : Prop :=
  (∃ rest, pre.map Vi.key ++ x.key :: rest = S.vk t0 0 1) ∧ (0 < x.i → ∃ y ∈ pre, y.t = x.t ∧ y.p = x.p ∧ y.d = x.d ∧ y.i + 1 = x.i) ∧ x.i ≤ (S.kids x.t).length ∧ 0 < x.d
def viAll (S : Shape T) (t0 : T) (xs : List (Vi T)) : Prop := xs.map Vi.key = S.vk t0 0 1
/-- What the stack is between two rounds. -/
structure VStk (S : Shape T) (t0 : T) (e : TypeId) (base : Nat) (M : Nat → Prop) (R : List (Vi T)) (pre : List (Vi T)) (v : Value) (w : World) (ok : (Nat → Prop) → List (Vi T) → Vi T → World → Prop) : Prop where
  own : w.ownsRow base e 3 v R.length (vCells R.reverse)
  mine : ∀ g, v.ownBlock = some g → M g
  dep : deps R
  todo : pre.map Vi.key ++ vTodo S R = S.vk t0 0 1
  each : ∀ x ∈ R, x.i ≤ pre.length ∧ x.i ≤ (S.kids x.t).length ∧ (0 < x.i → ∃ y ∈ pre, y.t = x.t ∧ y.p = x.p ∧ y.d = x.d ∧ y.i + 1 = x.i)
  low : ∀ x r, R = x :: r → ∀ y ∈ r, 0 < y.i
  top : ∀ x r, R = x :: r → x.i = 0 → ok M pre x w
/-- The top of the stack, and the stack without it. -/
theorem v_top {w : World} {base : Nat} {e : TypeId} {v : Value} {R : List (Vi T)} {x : Vi T} (h : w.ownsRow base e 3 v (R.length + 1) (vCells (x :: R).reverse)) :
    ∃ g cap, v = .slice (some ⟨g, 0, none⟩) (R.length + 1) cap ∧ base ≤ g ∧ g < w.heap.size ∧ R.length + 1 ≤ cap ∧ cap ≤ maxLen ∧ w.cell? ⟨g, R.length * 3, none⟩ = some (.pointer x.p) ∧
      w.cell? ⟨g, R.length * 3 + 1, none⟩ = some (.int .i64 (x.i : Int)) ∧ w.cell? ⟨g, R.length * 3 + 2, none⟩ = some (.int .i64 (x.d : Int)) ∧ w.ownsRow base e 3 (.slice (some ⟨g, 0, none⟩) R.length cap) R.length (vCells R.reverse) := by
  rw [List.reverse_cons, vCells_snoc] at h
  obtain ⟨h1, h2 | ⟨g, cap, cur, h3, h4, h5, h6, h7, h8, h9⟩⟩ := id h
  · omega
  · subst h3
    have hlen := vCells_length R.reverse
    rw [List.length_reverse] at hlen
    have hc := h.cells (g := g) rfl
    refine ⟨g, cap, rfl, h4, (Array.getElem?_eq_some_iff.1 h5).1, h6, h7, ?_, ?_, ?_, own_take h (Nat.le_succ _) hlen⟩
    · have := hc (R.length * 3) (.pointer x.p) (by rw [← hlen, List.getElem?_append_right (Nat.le_refl _), Nat.sub_self]; rfl)
      rwa [add_flat, Nat.zero_add] at this
    · have := hc (R.length * 3 + 1) (.int .i64 (x.i : Int)) (by rw [← hlen, List.getElem?_append_right (by omega), Nat.add_sub_cancel_left]; rfl)
      rwa [add_flat, Nat.zero_add] at this
    · have := hc (R.length * 3 + 2) (.int .i64 (x.d : Int)) (by rw [← hlen, List.getElem?_append_right (by omega), Nat.add_sub_cancel_left]; rfl)
      rwa [add_flat, Nat.zero_add] at this
/-- 'open[top].kids++'. -/
theorem v_bump {w : World} {base : Nat} {e : TypeId} {g cap : Nat} {R : List (Vi T)} {x : Vi T} (h : w.ownsRow base e 3 (.slice (some ⟨g, 0, none⟩) (R.length + 1) cap) (R.length + 1) (vCells (x :: R).reverse)) :
    (w.setCell ⟨g, R.length * 3 + 1, none⟩ (.int .i64 ((x.i : Int) + 1))).ownsRow base e 3 (.slice (some ⟨g, 0, none⟩) (R.length + 1) cap) (R.length + 1) (vCells (x.on :: R).reverse) := by
  have hlen := vCells_length R.reverse
  rw [List.length_reverse] at hlen
  have := (h.stored (R.length * 3 + 1) (.int .i64 ((x.i : Int) + 1))).1
  rw [List.reverse_cons, vCells_snoc] at this
  rw [List.reverse_cons, vCells_snoc]
  have hse : ∀ (l m : List Value) (i : Nat) (u : Value), l.length ≤ i → (l ++ m).set i u = l ++ m.set (i - l.length) u := fun l m i u h => by simp [List.set_append, Nat.not_lt.2 h]
  rw [hse _ _ _ _ (by omega), hlen, Nat.add_sub_cancel_left] at this
  exact this
section
variable {S : Shape T} {t0 : T} {et : TypeId} {base : Nat} {M M5 : Nat → Prop} {R pre : List (Vi T)} {x : Vi T} {v v5 : Value} {w W5 : World} {ok : (Nat → Prop) → List (Vi T) → Vi T → World → Prop}
theorem VStk.len (h : VStk S t0 et base M R pre v w ok) : R.length + pre.length ≤ (S.vk t0 0 1).length := by
  have h1 := vTodo_len S R
  have h2 := congrArg List.length h.todo
  rw [List.length_append, List.length_map] at h2
  omega
theorem VStk.at (h : VStk S t0 et base M (x :: R) pre v w ok) : viOk S t0 pre x := by
  obtain ⟨q, hq⟩ := vk_head S x.t x.i x.d
  obtain ⟨_, h2, h3⟩ := h.each x (by simp)
  refine ⟨⟨q ++ vTodo S R, ?_⟩, h3, h2, ?_⟩
  · have := h.todo
    simp only [vTodo, List.flatMap_cons, hq] at this
    rw [← this]; rfl
  · have := h.dep.1; omega
theorem VStk.pop (h : VStk S t0 et base M (x :: R) pre v w ok) (hx : ¬ x.i < (S.kids x.t).length) (hown : W5.ownsRow base et 3 v5 R.length (vCells R.reverse)) (hm : ∀ g, v5.ownBlock = some g → M5 g) :
    VStk S t0 et base M5 R (pre ++ [x]) v5 W5 ok ∧ (vTodo S R).length < (vTodo S (x :: R)).length := by
  have e1 : vTodo S (x :: R) = x.key :: vTodo S R := by simp only [vTodo, List.flatMap_cons, S.last _ _ _ hx]; rfl
  refine ⟨⟨hown, hm, h.dep.2, ?_, fun y hy => ?_, ?_, ?_⟩, by rw [e1]; simp⟩
  · have := h.todo
    rw [e1] at this
    rw [← this]; simp
  · obtain ⟨a, b, c⟩ := h.each y (List.mem_cons_of_mem _ hy)
    refine ⟨by rw [List.length_append]; omega, b, fun hi => ?_⟩
    obtain ⟨z, hz, k⟩ := c hi
    exact ⟨z, List.mem_append_left _ hz, k⟩
  · rintro y r rfl z hz
    exact h.low x (y :: r) rfl z (List.mem_cons_of_mem _ hz)
  · rintro y r rfl hi
    have := h.low x (y :: r) rfl y (by simp)
    omega
theorem VStk.push {p : Option Addr} (h : VStk S t0 et base M (x :: R) pre v w ok) (hx : x.i < (S.kids x.t).length) (hown : W5.ownsRow base et 3 v5 (R.length + 1 + 1) (vCells ((⟨(S.kids x.t)[x.i], p, 0, x.d + 1⟩ : Vi T) :: x.on :: R).reverse)) (hm : ∀ g, v5.ownBlock = some g → M5 g)
    (hok : ok M5 (pre ++ [x]) ⟨(S.kids x.t)[x.i], p, 0, x.d + 1⟩ W5) :
    VStk S t0 et base M5 (⟨(S.kids x.t)[x.i], p, 0, x.d + 1⟩ :: x.on :: R) (pre ++ [x]) v5 W5 ok ∧ (vTodo S ((⟨(S.kids x.t)[x.i], p, 0, x.d + 1⟩ : Vi T) :: x.on :: R)).length < (vTodo S (x :: R)).length := by
  have e1 : vTodo S (x :: R) = x.key :: vTodo S ((⟨(S.kids x.t)[x.i], p, 0, x.d + 1⟩ : Vi T) :: x.on :: R) := by simp only [vTodo, List.flatMap_cons, S.more _ _ _ hx, Vi.on, List.cons_append, List.append_assoc]; rfl
  refine ⟨⟨hown, hm, ⟨by have := h.dep.1; simp [this], h.dep.1, h.dep.2⟩, ?_, fun y hy => ?_, ?_, ?_⟩, by rw [e1]; simp⟩
  · have := h.todo
    rw [e1] at this
    rw [← this]; simp
  · have up : ∀ {y : Vi T}, y ∈ x :: R → y.i ≤ (pre ++ [x]).length ∧ y.i ≤ (S.kids y.t).length ∧ (0 < y.i → ∃ z ∈ pre ++ [x], z.t = y.t ∧ z.p = y.p ∧ z.d = y.d ∧ z.i + 1 = y.i) := fun {y} hy => by
      obtain ⟨a, b, c⟩ := h.each y hy
      refine ⟨by rw [List.length_append]; omega, b, fun hi => ?_⟩
      obtain ⟨z, hz, k⟩ := c hi
      exact ⟨z, List.mem_append_left _ hz, k⟩
    rcases List.mem_cons.1 hy with rfl | hy
    · exact ⟨Nat.zero_le _, Nat.zero_le _, fun hi => absurd hi (Nat.lt_irrefl 0)⟩
    · rcases List.mem_cons.1 hy with rfl | hy
      · obtain ⟨a, _, _⟩ := h.each x (by simp)
        refine ⟨?_, hx, fun _ => ⟨x, by simp, rfl, rfl, rfl, rfl⟩⟩
        rw [List.length_append]; show x.i + 1 ≤ _; simp; exact a
      · exact up (List.mem_cons_of_mem _ hy)
  · intro y r hyr z hz
    injection hyr with _ e2
    subst e2
    rcases List.mem_cons.1 hz with rfl | hz
    · exact Nat.succ_pos _
    · exact h.low x R rfl z hz
  · intro y r hyr _
    injection hyr with e2 _
    subst e2
    exact hok
/-- At the start: the root alone. -/
theorem VStk.start {p0 : Option Addr} (hown : W5.ownsRow base et 3 v5 1 (vCells [⟨t0, p0, 0, 1⟩])) (hm : ∀ g, v5.ownBlock = some g → M g) (hok : ok M [] ⟨t0, p0, 0, 1⟩ W5) :
    VStk S t0 et base M [⟨t0, p0, 0, 1⟩] [] v5 W5 ok := by
  refine ⟨hown, hm, ⟨rfl, trivial⟩, by simp [vTodo], fun y hy => ?_, ?_, ?_⟩
  · obtain rfl := List.mem_singleton.1 hy
    exact ⟨Nat.zero_le _, Nat.zero_le _, fun hi => absurd hi (Nat.lt_irrefl 0)⟩
  · intro y r hyr z hz
    injection hyr with _ e2
    subst e2; cases hz
  · intro y r hyr _
    injection hyr with e2 _
    subst e2; exact hok
theorem VStk.ends (h : VStk S t0 et base M [] pre v w ok) : viAll S t0 pre := by have := h.todo; simpa [vTodo, viAll] using this
end
end Go.Proofs.YtmmhpibkjdlkgaaGreat
namespace Go.Proofs.YtmmhpibkjdlkgaaGreat
open Go Go.RowKit Go.Shelf

attribute [local go_sem] Oper.semAt_some

/-- Where a walk goes on from a visit. -/
def NextP {T : Type} (kf : Nat) (S : Shape T) (W1 : World) (y : Vi T) (K : Vi T → Prop) : Prop :=
  y.i ≤ (S.kids y.t).length → Calls Tryz.prog kf #[.pointer y.p, .int .i64 (y.i : Int)] W1 fun e W' => W' = W1 ∧
    ((∃ h : y.i < (S.kids y.t).length, ∃ p', e = .returned (.tuple #[.pointer p', .bool true]) ∧ K ⟨(S.kids y.t)[y.i], p', 0, y.d + 1⟩) ∨ (¬ y.i < (S.kids y.t).length ∧ ∃ q, e = .returned (.tuple #[.pointer q, .bool false])))
theorem info_vi : (Tryz.prog.info? 141).map (fun i => (i.zero, i.size, i.bytes)) = some (some (.agg #[.pointer none, .int .i64 0, .int .i64 0]), 3, 24) := by kernel_rfl
theorem elem_vi : Tryz.prog.underlying 164 = some (.slice (Tryz.prog.elem 164)) := by kernel_rfl
theorem size_vi (w : World) : (sizeOf (Tryz.prog.elem 164)).run Tryz.prog w = .ok 3 w := by kernel_rfl
theorem vi_pop (g n cap k : Nat) (hk : k ≤ n) (hn : n ≤ cap) (w' : World) :
    (Instr.slice 164 (.slice (some ⟨g, 0, none⟩) n cap) none (some (.int .i64 (k : Int))) none).run Tryz.prog w' = .ok (.slice (some ⟨g, 0, none⟩) k cap) w' := by
  rw [run_slice_h w' _ _ n cap elem_vi .i64 (k : Int) (by omega) (by omega), size_vi]
  simp [Result.andThen, sliced, add_flat]
theorem vi_start {T : Type} {S : Shape T} {t0 : T} {p0 : Option Addr} {W : World} {ok : (Nat → Prop) → List (Vi T) → Vi T → World → Prop}
    (hok : ok (fun k => k = W.heap.size) [] ⟨t0, p0, 0, 1⟩ (W.alloc (.cells #[.pointer p0, .int .i64 0, .int .i64 1] 141))) :
    VStk S t0 141 W.heap.size (fun k => k = W.heap.size) [⟨t0, p0, 0, 1⟩] [] (.slice (some ⟨W.heap.size, 0, none⟩) 1 1) (W.alloc (.cells #[.pointer p0, .int .i64 0, .int .i64 1] 141)) ok :=
  VStk.start ⟨rfl, .inr ⟨W.heap.size, 1, _, rfl, Nat.le_refl _, World.alloc_heap_new W _, Nat.le_refl _, by unfold maxLen; omega, rfl, rfl⟩⟩ (fun g hg => by injection hg with hg; exact hg.symm) hok

theorem vi_cells (p : Option Addr) (i d : Int) : ∀ u ∈ [Value.pointer p, .int .i64 i, .int .i64 d], u.oneCell' = true := by
  intro u hu
  simp only [List.mem_cons, List.not_mem_nil, or_false] at hu
  rcases hu with rfl | rfl | rfl <;> rfl
theorem vi_b1 {r : Nat} (h : r + 1 ≤ 1000000) : r + 1 + 1 ≤ maxLen := by unfold maxLen; omega
theorem vi_b2 {r : Nat} (h : r + 1 ≤ 1000000) : (r + 1 + 1) * 24 ≤ 140737488355328 := by omega

set_option maxRecDepth 100000 in
set_option maxHeartbeats 4000000 in
theorem visitsP_walk {T : Type} (S : Shape T) (t0 : T) (hsz : (S.vk t0 0 1).length ≤ 1000000) (Fr : Nat → Prop) (Bt Bk l : Nat) (p0 : Option Addr) (J Jx : (Nat → Prop) → List (Vi T) → World → Prop) (ok : (Nat → Prop) → List (Vi T) → Vi T → World → Prop) (W : World)
    (hJ : ∀ s, Ab W.heap.size fun M W' => J M s W') (hJx : ∀ s, Ab W.heap.size fun M W' => Jx M s W') (hO : ∀ s x, Ab W.heap.size fun M W' => ok M s x W') (hx0 : ok (fun _ => False) [] ⟨t0, p0, 0, 1⟩ W)
    (hnx : ∀ M pre y W1, J M pre W1 → (∀ k, M k → W.heap.size ≤ k ∧ k < W1.heap.size) → W.heap.size ≤ W1.heap.size → y ∈ pre → NextP 80 S W1 y fun x => ok M pre x W1)
    (hY : ∀ M pre x W1, J M pre W1 → (∀ k, M k → W.heap.size ≤ k ∧ k < W1.heap.size) → W.heap.size ≤ W1.heap.size → viOk S t0 pre x → (x.i = 0 → ok M pre x W1) → YieldAt Fence.wide 8 Tryz.prog l x.enc W1 fun e W' =>
      (e = .returned (.bool true) ∧ J M (pre ++ [x]) W' ∧ Turns (fun k => Fr k ∧ ¬ M k) W1 W') ∨ (e = .returned (.bool false) ∧ Jx M (pre ++ [x]) W' ∧ Turns (fun k => Fr k ∧ ¬ M k) W1 W'))
    (h0 : J (fun _ => False) [] W) (c0 : W.cell? ⟨Bt, 0, none⟩ = some (.pointer p0)) (c1 : W.cell? ⟨Bk, 0, none⟩ = some (.func (.func 80) #[] #[])) (hBk : ¬ Fr Bk) :
    CallsIn Fence.wide 9 Tryz.prog 134 #[.func (.yield l) #[] #[], .pointer (some ⟨Bt, 0, none⟩), .pointer (some ⟨Bk, 0, none⟩)] W fun e W' => (∃ v, e = .returned v) ∧
      ((∃ M xs, viAll S t0 xs ∧ J M xs W' ∧ ∀ k, M k → W.heap.size ≤ k ∧ k < W'.heap.size) ∨ (∃ M pre, Jx M pre W' ∧ ∀ k, M k → W.heap.size ≤ k ∧ k < W'.heap.size)) := by
  have HY := Lib.hid hY; have HJ := Lib.hid hJ; have HX := Lib.hid hJx; have HO := Lib.hid hO; have HNX := Lib.hid hnx; clear hY hJ hJx hO hnx
  have hBW : Bk < W.heap.size := cell_lt c1
  refine callsIn_of_wp Tryz.func134 rfl trivial ?_ rfl
  simp only [Tryz.ntmps134, List.size_toArray, List.length_cons, List.length_nil, Nat.reduceAdd, Nat.reduceSub, Array.replicate_succ, Array.replicate_zero, List.push_toArray, List.append_toArray, List.nil_append, List.cons_append]
  gi_wp2
  gi_loopg [4] (S.vk t0 0 1).length (fun gk v wr => ∃ M R pre, VStk S t0 141 W.heap.size M R pre v wr ok ∧ J M pre wr ∧ (∀ k, M k → W.heap.size ≤ k ∧ k < wr.heap.size) ∧ W.heap.size ≤ wr.heap.size ∧ wr.cell? ⟨Bk, 0, none⟩ = some (.func (.func 80) #[] #[]) ∧ gk = (vTodo S R).length)
  case atStart =>
    refine ⟨_, _, _, vi_start (HO.out [] _ (fun _ => False) _ W _ hx0 (fun _ h => h.elim) (Turns.alloc _ _ _) (fun k hk => ⟨.inr (by omega), by simp; omega⟩)), HJ.out [] (fun _ => False) _ W _ h0 (fun _ h => h.elim) (Turns.alloc _ _ _) (fun k hk => ⟨.inr (by omega), by simp; omega⟩), fun k hk => ⟨by omega, by simp; omega⟩, by simp, ?_, by simp [vTodo]⟩
    exact (World.cell?_of_block (a := ⟨Bk, 0, none⟩) (Below.heap_alloc _ _ _ hBW)).trans c1
  case round =>
    obtain ⟨M, R, pre, hS, hj, hM, hbs, ck, rfl⟩ := hrel
    have HS' := Lib.hid hS; have HJ' := Lib.hid hj; have HM' := Lib.hid hM; have HB := Lib.hid hbs
    clear hS hj hM hbs
    cases R with
    | nil =>
      obtain ⟨av, cv, rfl⟩ := own_shapeT HS'.out.own
      gi_wp2
      go_end0
      exact ⟨⟨_, rfl⟩, .inl ⟨M, pre, HS'.out.ends, HJ'.out, HM'.out⟩⟩
    | cons x R =>
      obtain ⟨g, cap, rfl, hg1, hg2, hcp, hcm, r0, r1, r2, hown⟩ := v_top (v := u4) HS'.out.own
      obtain ⟨r, hr⟩ : ∃ y, R.length = y := ⟨_, rfl⟩
      rw [hr] at r0 r1 r2 hcp hown ⊢
      obtain ⟨hxi, hxk, _⟩ := HS'.out.each x (by simp)
      have hlen := HS'.out.len
      rw [List.length_cons, hr] at hlen
      have hri : r + 1 ≤ 1000000 ∧ x.i ≤ 1000000 := by omega
      have hxd : (x.d : Int) = (r : Int) + 1 := by have := HS'.out.dep.1; rw [this, hr]; rfl
      obtain ⟨xi, hxi'⟩ : ∃ y, x.i = y := ⟨_, rfl⟩
      obtain ⟨xp, hxp'⟩ : ∃ y, x.p = y := ⟨_, rfl⟩
      rw [hxi'] at r1 hri; rw [hxp'] at r0; rw [hxd] at r2
      have hbB : Bk < wr.heap.size := cell_lt ck
      have HMU := Lib.hid (show ∀ k, (M k ∨ k = wr.heap.size) → W.heap.size ≤ k ∧ k < wr.heap.size + 1 from fun k hk => by
        rcases hk with h | h
        · have := HM'.out k h; omega
        · have := HB.out; omega)
      obtain ⟨W1, hW1⟩ : ∃ W1, wr.alloc (.cells #[.pointer xp, .int .i64 (xi : Int), .int .i64 ((r : Int) + 1)] 141) = W1 := ⟨_, rfl⟩
      have hT1 : Turns (fun _ => False) wr W1 := by rw [← hW1]; exact Turns.alloc _ _ _
      have hs1 : W1.heap.size = wr.heap.size + 1 := by rw [← hW1]; simp
      obtain ⟨fn, tmps, assign, body, hy, hRd⟩ := HY.out (fun k => M k ∨ k = wr.heap.size) pre x W1
        (HJ.out pre M _ wr _ HJ'.out HM'.out (hT1.mono fun _ _ h => h.elim) (fun k hk => ⟨hk.elim .inl (fun h => .inr (by omega)), by rw [hs1]; exact (HMU.out k hk).2⟩)) (fun k hk => ⟨(HMU.out k hk).1, by rw [hs1]; exact (HMU.out k hk).2⟩) (by have := HB.out; omega) HS'.out.at
        (fun hi => HO.out pre x M _ wr _ (HS'.out.top x R rfl hi) HM'.out (hT1.mono fun _ _ h => h.elim) (fun k hk => ⟨hk.elim .inl (fun h => .inr (by omega)), by rw [hs1]; exact (HMU.out k hk).2⟩))
      simp only [Vi.enc, hxi', hxp', hxd] at hy
      have HRI := Lib.hid hri; have HXI := Lib.hid hxi'; have HXP := Lib.hid hxp'; have HXD := Lib.hid hxd; have HXK := Lib.hid hxk; have HOWN := Lib.hid hown; have HCP := Lib.hid hcp; have HCM := Lib.hid hcm; have HG1 := Lib.hid hg1; have HG2 := Lib.hid hg2; have HT1 := Lib.hid hT1; have HS1 := Lib.hid hs1; have HR := Lib.hid hr; have HW1 := Lib.hid hW1; have HBB := Lib.hid hbB
      obtain ⟨hr1, hx1⟩ := hri
      clear hxi' hxp' hxd hxk hown hcp hcm hg1 hg2 hT1 hs1 hr hlen hxi hbB
      gi_upto_region 4 with fail
      try rw [hW1]
      have hb1 : W1.heap[wr.heap.size]? = some (.cells #[.pointer xp, .int .i64 (xi : Int), .int .i64 ((r : Int) + 1)] 141) := by rw [← hW1]; exact World.alloc_heap_new wr _
      have d0 : W1.cell? ⟨wr.heap.size, 0, none⟩ = some (.pointer xp) := cell_box hb1 rfl rfl
      have d1 : W1.cell? ⟨wr.heap.size, 1, none⟩ = some (.int .i64 (xi : Int)) := cell_box hb1 rfl rfl
      have d2 : W1.cell? ⟨wr.heap.size, 2, none⟩ = some (.int .i64 ((r : Int) + 1)) := cell_box hb1 rfl rfl
      have HB1 := Lib.hid hb1
      clear hb1 hW1
      gi_wp2
      refine hRd.mono ?_
      clear d0 d1 d2 r0 r1 r2 hy
      rintro e W3 (⟨rfl, hJ3, hT3⟩ | ⟨rfl, hJx3, hT3⟩)
      · have HT3 := Lib.hid hT3
        have hs3 : wr.heap.size + 1 ≤ W3.heap.size := by rw [← HS1.out]; exact hT3.size
        have hblk : ∀ k, k < wr.heap.size → (M k ∨ ¬ Fr k) → W3.heap[k]? = wr.heap[k]? := fun k hk h =>
          (HT3.out.block k (by rw [HS1.out]; omega) (fun h' => h.elim (fun m => h'.2 (.inl m)) (fun f => f h'.1))).trans (HT1.out.block k hk (fun h => h))
        have hbx : W3.heap[wr.heap.size]? = W1.heap[wr.heap.size]? := HT3.out.block _ (by rw [HS1.out]; omega) (fun h' => h'.2 (.inr rfl))
        have e0 : W3.cell? ⟨wr.heap.size, 0, none⟩ = some (.pointer xp) := cell_box HB1.out hbx rfl
        have e1 : W3.cell? ⟨wr.heap.size, 1, none⟩ = some (.int .i64 (xi : Int)) := cell_box HB1.out hbx rfl
        have e2 : W3.cell? ⟨wr.heap.size, 2, none⟩ = some (.int .i64 ((r : Int) + 1)) := cell_box HB1.out hbx rfl
        have ck3 : W3.cell? ⟨Bk, 0, none⟩ = some (.func (.func 80) #[] #[]) := (World.cell?_of_block (a := ⟨Bk, 0, none⟩) (hblk Bk HBB.out (.inr hBk))).trans ck
        have hMg : M g := HS'.out.mine g rfl
        have HMG := Lib.hid hMg
        have own3 : W3.ownsRow W.heap.size 141 3 (.slice (some ⟨g, 0, none⟩) (r + 1) cap) (r + 1) (vCells (x :: R).reverse) := own_same (by have := HS'.out.own; rw [List.length_cons, HR.out] at this; exact this) (fun y hy => hblk y (by injection hy with hy; subst hy; exact HG2.out) (.inl (by injection hy with hy; subst hy; exact hMg)))
        have pop3 : W3.ownsRow W.heap.size 141 3 (.slice (some ⟨g, 0, none⟩) r cap) r (vCells R.reverse) := own_same HOWN.out (fun y hy => hblk y (by injection hy with hy; subst hy; exact HG2.out) (.inl (by injection hy with hy; subst hy; exact hMg)))
        have hkid := HNX.out (fun k => M k ∨ k = wr.heap.size) (pre ++ [x]) x W3 hJ3 (fun k hk => ⟨(HMU.out k hk).1, Nat.lt_of_lt_of_le (HMU.out k hk).2 hs3⟩) (Nat.le_trans HB.out (by omega)) (by simp) HXK.out
        rw [HXP.out, HXI.out] at hkid
        have HKID := Lib.hid hkid; have HOWN3 := Lib.hid own3; have HPOP3 := Lib.hid pop3; have HBLK := Lib.hid hblk; have HJ3 := Lib.hid hJ3; have HS3 := Lib.hid hs3
        clear hkid own3 pop3 hblk hJ3 hT3 hbx hMg hs3
        gi_wp2
        refine ⟨trivial, callsIn_wide.2 (HKID.out.mono ?_)⟩
        rintro e W' ⟨rfl, (⟨hk, p', rfl, hok⟩ | ⟨hk, q, rfl⟩)⟩
        · have HOK := Lib.hid hok
          clear hok
          obtain ⟨g', cap', hgc, hg1, hg2, hcp, hcm, r0, r1, r2, hown⟩ := v_top (R := R) (x := x) (w := W') (base := W.heap.size) (e := 141) (v := .slice (some ⟨g, 0, none⟩) (r + 1) cap) (by rw [HR.out]; exact HOWN3.out)
          injection hgc with hgc hgr hgc2
          clear hgr
          injection hgc with hgc
          injection hgc with hgc
          subst hgc hgc2
          rw [HR.out] at r0 r1 r2 hcp
          rw [HXI.out] at r1
          clear hown hcp hcm hg1 hg2
          have hfz := HOWN3.out.frozenAt (r * 3 + 1)
          gi_upto_region 8 with fail
          have hbump := v_bump (R := R) (x := x) (w := W') (base := W.heap.size) (e := 141) (g := g) (cap := cap) (by rw [HR.out]; exact HOWN3.out)
          rw [HR.out, HXI.out] at hbump
          have HT4 := Lib.hid (show Turns (fun k => M k ∨ k = wr.heap.size) W' (W'.setCell ⟨g, r * 3 + 1, none⟩ (.int .i64 ((xi : Int) + 1))) from Turns.setCell _ _ _ (.inl HMG.out))
          have hne : (W'.setCell ⟨g, r * 3 + 1, none⟩ (.int .i64 ((xi : Int) + 1))).heap[wr.heap.size]? = W'.heap[wr.heap.size]? := Below.heap_setCell _ _ _ _ (by have := HG2.out; dsimp only; omega)
          have f2 : (W'.setCell ⟨g, r * 3 + 1, none⟩ (.int .i64 ((xi : Int) + 1))).cell? ⟨wr.heap.size, 2, none⟩ = some (.int .i64 ((r : Int) + 1)) := (World.cell?_of_block (a := ⟨wr.heap.size, 2, none⟩) hne).trans e2
          clear hne e0 e1 e2 r0 r1 r2 hfz
          generalize W'.setCell ⟨g, r * 3 + 1, none⟩ (.int .i64 ((xi : Int) + 1)) = W4 at hbump HT4 f2 ⊢
          have HBU := Lib.hid hbump
          clear hbump
          obtain ⟨i0, hi, hz0, hz1, hz2⟩ := info_parts info_vi
          have HBB4 := Lib.hid (show W.heap.size ≤ (W4.alloc (.cells #[.pointer p', .int .i64 0, .int .i64 ((r : Int) + 1 + 1)] 141)).heap.size from by have := HT4.out.size; have := HS3.out; have := HB.out; simp; omega)
          gi_wp2_with (gi_at_builtin; refine wpListIn_append_lies _ rfl (.tmp 44) (.tmp 50) 164 rfl W.heap.size 141 i0 (.agg #[.pointer none, .int .i64 0, .int .i64 0]) 3 24 Tryz.underlying164 hi hz0 hz1 hz2 rfl (by decide) (.slice (some ⟨g, 0, none⟩) (r + 1) cap) (r + 1) (vCells (x.on :: R).reverse) rfl (HBU.out.alloc _) ⟨W4.heap.size, 0, none⟩ 1 1 [.pointer p', .int .i64 0, .int .i64 ((r : Int) + 1 + 1)] rfl rfl (World.news_of_block (World.alloc_heap_new W4 _)) (vi_cells _ _ _) (by decide) (vi_b1 HRI.out.1) (vi_b2 HRI.out.1) HBB4.out ?_; intro g1 cap1 w1 hown1 hgr1 hly1)
          have hx2 := HXI.out
          subst hx2
          have hT5 : Turns (fun k => M k ∨ k = wr.heap.size) W' w1 := push_turns HT4.out hgr1 (fun k h _ => by cases h; exact .inl HMG.out)
          have hs5 := hT5.size
          have kidc : (⟨(S.kids x.t)[x.i], p', 0, x.d + 1⟩ : Vi T).cells = [.pointer p', .int .i64 0, .int .i64 ((r : Int) + 1 + 1)] := by
            show [Value.pointer p', .int .i64 ((0 : Nat) : Int), .int .i64 ((x.d + 1 : Nat) : Int)] = _
            rw [Int.natCast_add, HXD.out]; rfl
          have F := HS'.out.push (p := p') (v5 := .slice (some ⟨g1, 0, none⟩) (r + 1 + 1) cap1) (W5 := w1) (M5 := fun k => ((M k ∨ k = wr.heap.size) ∨ W'.heap.size ≤ k) ∧ k < w1.heap.size) hk (by rw [HR.out, List.reverse_cons, vCells_snoc, kidc]; exact hown1)
            (fun y h => by
              injection h with h; subst h
              refine ⟨?_, (hown1.lt _ rfl).2⟩
              rcases lies_at hly1 with h | h
              · exact .inl (.inl (by rw [h]; exact HMG.out))
              · exact .inr (Nat.le_trans HT4.out.size h))
            (HO.out _ _ _ _ W' w1 HOK.out (fun k h => ⟨(HMU.out k h).1, Nat.lt_of_lt_of_le (HMU.out k h).2 HS3.out⟩) hT5 (fun k h => h))
          have FF := Lib.hid F
          have HS5 := Lib.hid hs5; have HT5 := Lib.hid hT5
          clear F
          gi_roundg (vTodo S ((⟨(S.kids x.t)[x.i], p', 0, x.d + 1⟩ : Vi T) :: x.on :: R)).length
          case measure => exact FF.out.2
          case rel =>
            refine ⟨_, _, _, FF.out.1, HJ.out _ _ _ W' w1 HJ3.out (fun k h => ⟨(HMU.out k h).1, Nat.lt_of_lt_of_le (HMU.out k h).2 HS3.out⟩) HT5.out (fun k h => h), fun k h => ⟨?_, h.2⟩, ?_, ?_, rfl⟩
            · rcases h.1 with h | h
              · exact (HMU.out k h).1
              · exact Nat.le_trans (Nat.le_trans HB.out (Nat.le_of_succ_le HS3.out)) h
            · exact Nat.le_trans (Nat.le_trans HB.out (Nat.le_of_succ_le HS3.out)) HS5.out
            · exact (World.cell?_of_block (a := ⟨Bk, 0, none⟩) (HT5.out.block Bk (Nat.lt_of_lt_of_le HBB.out (Nat.le_of_succ_le HS3.out)) (fun h => by have := (HMU.out Bk h).1; omega))).trans ck3
        · have HK := Lib.hid hk
          clear hk
          have hpop := vi_pop g (r + 1) cap r (by omega) HCP.out
          gi_wp2
          gi_roundg (vTodo S R).length
          case measure => exact (HS'.out.pop (by rw [HXI.out]; exact HK.out) (by rw [HR.out]; exact HPOP3.out) (M5 := M) (fun y hy => by injection hy with hy; subst hy; exact HMG.out)).2
          case rel => exact ⟨fun k => M k ∨ k = wr.heap.size, R, pre ++ [x], (HS'.out.pop (by rw [HXI.out]; exact HK.out) (by rw [HR.out]; exact HPOP3.out) (fun y hy => by injection hy with hy; subst hy; exact .inl HMG.out)).1, HJ3.out, fun k hk => ⟨(HMU.out k hk).1, Nat.lt_of_lt_of_le (HMU.out k hk).2 HS3.out⟩, Nat.le_trans HB.out (Nat.le_of_succ_le HS3.out), ck3, rfl⟩
      · gi_wp2
        refine bodyPost_ret (results_none rfl _ _ _) rfl ?_
        exact ⟨⟨_, rfl⟩, .inr ⟨_, _, hJx3, fun k hk => ⟨(HMU.out k hk).1, Nat.lt_of_lt_of_le (HMU.out k hk).2 (Nat.le_trans (Nat.le_of_eq HS1.out.symm) hT3.size)⟩⟩⟩
end Go.Proofs.YtmmhpibkjdlkgaaGreat
namespace Go.Proofs.YtmmhpibkjdlkgaaGreat
open Go Go.RowKit Go.Shelf

attribute [local go_sem] Oper.semAt_some

theorem visitsP_seq {T : Type} (S : Shape T) (t0 : T) (hsz : (S.vk t0 0 1).length ≤ 1000000) (Fr : Nat → Prop) (Bt Bk : Nat) (p0 : Option Addr) (w : World) (c0 : w.cell? ⟨Bt, 0, none⟩ = some (.pointer p0)) (c1 : w.cell? ⟨Bk, 0, none⟩ = some (.func (.func 80) #[] #[])) (hBk : ¬ Fr Bk) :
    SeqAt Tryz.prog 134 #[.pointer (some ⟨Bt, 0, none⟩), .pointer (some ⟨Bk, 0, none⟩)] Vi.enc (viAll S t0) (viOk S t0) (fun x => x.i = 0) ⟨t0, p0, 0, 1⟩ (NextP 80 S) Fr w := fun l J Jx ok W hW hJ hJx hO hx0 hnx hY h0 => by
  have k0 := (World.cell?_of_block (a := ⟨Bt, 0, none⟩) (hW.block Bt (cell_lt c0))).trans c0
  have k1 := (World.cell?_of_block (a := ⟨Bk, 0, none⟩) (hW.block Bk (cell_lt c1))).trans c1
  exact callsIn_wide.1 (visitsP_walk S t0 hsz Fr Bt Bk l p0 J Jx ok W hJ hJx hO hx0 hnx hY h0 k0 k1 hBk)
theorem visitsP_any (p k : Value) (hp : ∃ a, p = .pointer a) (hk : ∃ f, k = .func f #[] #[]) (w : World) :
    Calls Tryz.prog 111 #[p, k] w fun e w' => e = .returned (.func (.func 134) #[] #[.pointer (some ⟨w.heap.size, 0, none⟩), .pointer (some ⟨w.heap.size + 1, 0, none⟩)]) ∧ w' = (w.alloc (.cells #[p] 73)).alloc (.cells #[k] 135) := by
  obtain ⟨a, rfl⟩ := hp
  obtain ⟨f, rfl⟩ := hk
  go_enter Tryz.func111, Tryz.ntmps111
  go_wp2
  go_ret
  exact ⟨rfl, rfl⟩
theorem nodesP_any (p k : Value) (hp : ∃ a, p = .pointer a) (hk : ∃ f, k = .func f #[] #[]) (w : World) :
    Calls Tryz.prog 79 #[p, k] w fun e w' => e = .returned (.func (.func 110) #[] #[.pointer (some ⟨w.heap.size, 0, none⟩), .pointer (some ⟨w.heap.size + 1, 0, none⟩)]) ∧ w' = (w.alloc (.cells #[p] 73)).alloc (.cells #[k] 135) := by
  obtain ⟨a, rfl⟩ := hp
  obtain ⟨f, rfl⟩ := hk
  go_enter Tryz.func79, Tryz.ntmps79
  go_wp2
  go_ret
  exact ⟨rfl, rfl⟩
end Go.Proofs.YtmmhpibkjdlkgaaGreat
namespace Go.Proofs.YtmmhpibkjdlkgaaGreat
open Go Go.RowKit Go.Shelf

attribute [local go_sem] Oper.semAt_some

theorem Ab.plus {base base' : Nat} {p : (Nat → Prop) → World → Prop} (hp : Ab base p) (E : Nat → Prop) (hE : ∀ k, E k → base ≤ k ∧ k < base') (hb : base ≤ base') : Ab base' fun M W => base' ≤ W.heap.size ∧ p (fun k => M k ∨ E k) W := by
  rintro M M' A B ⟨hA, h⟩ hM hT hM'
  refine ⟨Nat.le_trans hA hT.size, hp _ _ A B h (fun k hk => ?_) (hT.mono fun k _ h => .inl h) (fun k hk => ?_)⟩
  · rcases hk with h | h
    · exact ⟨Nat.le_trans hb (hM k h).1, (hM k h).2⟩
    · exact ⟨(hE k h).1, Nat.lt_of_lt_of_le (hE k h).2 hA⟩
  · rcases hk with h | h
    · exact ⟨(hM' k h).1.imp .inl id, (hM' k h).2⟩
    · exact ⟨.inl (.inr h), Nat.lt_of_lt_of_le (hE k h).2 (Nat.le_trans hA hT.size)⟩
variable {T : Type}
def nod (pre : List (Vi T)) : List (Vi T) := pre.filter fun x => x.i == 0
def nKeys (S : Shape T) (t0 : T) : List (T × Nat × Nat) := (S.vk t0 0 1).filter fun k => k.2.1 == 0
def Vi.enc2 (x : Vi T) : Array Value := #[.pointer x.p, .int .i64 (x.d : Int)]
def noAll (S : Shape T) (t0 : T) (xs : List (Vi T)) : Prop := xs.map Vi.key = nKeys S t0
def noOk (S : Shape T) (t0 : T) (pre : List (Vi T)) (x : Vi T) : Prop := (∃ rest, pre.map Vi.key ++ x.key :: rest = nKeys S t0) ∧ x.i = 0 ∧ 0 < x.d
/-- Where a walk over nodes goes on from one that it has come to. -/
def NextN (kf : Nat) (S : Shape T) (W : World) (y : Vi T) (K : Vi T → Prop) : Prop := ∀ i, NextP kf S W { y with i := i } K
theorem nod_keys (l : List (Vi T)) : (nod l).map Vi.key = (l.map Vi.key).filter fun k => k.2.1 == 0 := by
  rw [nod, List.filter_map]; rfl
theorem nod_snoc0 (pre : List (Vi T)) (x : Vi T) (h : x.i = 0) : nod (pre ++ [x]) = nod pre ++ [x] := by simp [nod, h]
theorem nod_snoc1 (pre : List (Vi T)) (x : Vi T) (h : ¬ x.i = 0) : nod (pre ++ [x]) = nod pre := by simp [nod, h]
theorem noOk_of {S : Shape T} {t0 : T} {pre : List (Vi T)} {x : Vi T} (h : viOk S t0 pre x) (hx : x.i = 0) : noOk S t0 (nod pre) x := by
  obtain ⟨⟨rest, hr⟩, _, _, hd⟩ := h
  refine ⟨⟨rest.filter fun k => k.2.1 == 0, ?_⟩, hx, hd⟩
  rw [nKeys, ← hr, nod_keys, List.filter_append, List.filter_cons]
  simp [Vi.key, hx]
theorem noAll_of {S : Shape T} {t0 : T} {xs : List (Vi T)} (h : viAll S t0 xs) : noAll S t0 (nod xs) := by
  rw [noAll, nod_keys, nKeys, ← h]
/-- Every node visited was visited first. -/
def firsts (pre : List (Vi T)) : Prop := ∀ y ∈ pre, ({ y with i := 0 } : Vi T) ∈ pre
theorem firsts_snoc {S : Shape T} {t0 : T} {pre : List (Vi T)} {x : Vi T} (h : firsts pre) (hx : viOk S t0 pre x) : firsts (pre ++ [x]) := by
  intro y hy
  rcases List.mem_append.1 hy with hy | hy
  · exact List.mem_append_left _ (h y hy)
  · obtain rfl := List.mem_singleton.1 hy
    by_cases hi : y.i = 0
    · exact List.mem_append_right _ (by cases y; simp at hi; simp [hi])
    · obtain ⟨z, hz, e1, e2, e3, e4⟩ := hx.2.1 (by omega)
      have := h z hz
      refine List.mem_append_left _ ?_
      have e : ({ y with i := 0 } : Vi T) = { z with i := 0 } := by cases y; cases z; simp at e1 e2 e3; simp [e1, e2, e3]
      rw [e]; exact this
theorem nod_mem {pre : List (Vi T)} (h : firsts pre) {y : Vi T} (hy : y ∈ pre) : ({ y with i := 0 } : Vi T) ∈ nod pre := by
  simp only [nod, List.mem_filter]
  exact ⟨h y hy, rfl⟩
theorem NextP.mono {kf : Nat} {S : Shape T} {W : World} {y : Vi T} {K K' : Vi T → Prop} (hK : ∀ x, K x → K' x) (h : NextP kf S W y K) : NextP kf S W y K' := fun hi => (h hi).mono fun _ _ ⟨h1, h2⟩ => ⟨h1, h2.imp (fun ⟨a, p, b, c⟩ => ⟨a, p, b, hK _ c⟩) id⟩
end Go.Proofs.YtmmhpibkjdlkgaaGreat
namespace Go.Proofs.YtmmhpibkjdlkgaaGreat
open Go Go.RowKit Go.Shelf

attribute [local go_sem] Oper.semAt_some

/-- At the fence that asks nothing a round runs within another's as it runs outside. -/
theorem round_in {n m l l' : Nat} {P : Program} {f : FuncId} {tmps : Array Value} {assign body : Code} {w : World} {R : Ending → World → Prop} (h : RoundIn Fence.wide n P l f tmps assign body w R) : RoundIn (Fence.wide.inRound l') m P l f tmps assign body w R :=
  ⟨h.1, fun c cs _ => h.2 c cs (by simp [Fence.room, Fence.wide])⟩
set_option maxRecDepth 100000 in
set_option maxHeartbeats 4000000 in
theorem nodesP_walk {T : Type} (S : Shape T) (t0 : T) (hsz : (S.vk t0 0 1).length ≤ 1000000) (Fr : Nat → Prop) (Bt Bk l : Nat) (p0 : Option Addr) (J Jx : (Nat → Prop) → List (Vi T) → World → Prop) (ok : (Nat → Prop) → List (Vi T) → Vi T → World → Prop) (W : World)
    (hJ : ∀ s, Ab W.heap.size fun M W' => J M s W') (hJx : ∀ s, Ab W.heap.size fun M W' => Jx M s W') (hO : ∀ s x, Ab W.heap.size fun M W' => ok M s x W') (hx0 : ok (fun _ => False) [] ⟨t0, p0, 0, 1⟩ W)
    (hnx : ∀ M pre y W1, J M pre W1 → (∀ k, M k → W.heap.size ≤ k ∧ k < W1.heap.size) → W.heap.size ≤ W1.heap.size → y ∈ pre → NextN 80 S W1 y fun x => ok M pre x W1)
    (hY : ∀ M pre x W1, J M pre W1 → (∀ k, M k → W.heap.size ≤ k ∧ k < W1.heap.size) → W.heap.size ≤ W1.heap.size → noOk S t0 pre x → ok M pre x W1 → YieldAt Fence.wide 8 Tryz.prog l x.enc2 W1 fun e W' =>
      (e = .returned (.bool true) ∧ J M (pre ++ [x]) W' ∧ Turns (fun k => Fr k ∧ ¬ M k) W1 W') ∨ (e = .returned (.bool false) ∧ Jx M (pre ++ [x]) W' ∧ Turns (fun k => Fr k ∧ ¬ M k) W1 W'))
    (h0 : J (fun _ => False) [] W) (hFr : ∀ k, W.heap.size ≤ k → Fr k) (c0 : W.cell? ⟨Bt, 0, none⟩ = some (.pointer p0)) (c1 : W.cell? ⟨Bk, 0, none⟩ = some (.func (.func 80) #[] #[])) :
    CallsIn Fence.wide 9 Tryz.prog 110 #[.func (.yield l) #[] #[], .pointer (some ⟨Bt, 0, none⟩), .pointer (some ⟨Bk, 0, none⟩)] W fun e W' => (∃ v, e = .returned v) ∧
      ((∃ M xs, noAll S t0 xs ∧ J M xs W' ∧ ∀ k, M k → W.heap.size ≤ k ∧ k < W'.heap.size) ∨ (∃ M pre, Jx M pre W' ∧ ∀ k, M k → W.heap.size ≤ k ∧ k < W'.heap.size)) := by
  have HY := Lib.hid hY; have HJ := Lib.hid hJ; have HX := Lib.hid hJx; have HO := Lib.hid hO; have HNX := Lib.hid hnx; have HFR := Lib.hid hFr; clear hY hJ hJx hO hnx hFr
  have HV := Lib.hid (visitsP_any (.pointer p0) (.func (.func 80) #[] #[]) ⟨_, rfl⟩ ⟨_, rfl⟩)
  have hl0 : Bt < W.heap.size := cell_lt c0
  have hl1 : Bk < W.heap.size := cell_lt c1
  have c0' : (W.alloc (.cells #[.func (.yield l) #[] #[]] 136)).cell? ⟨Bt, 0, none⟩ = some (.pointer p0) := (World.cell?_of_block (a := ⟨Bt, 0, none⟩) (Below.heap_alloc _ _ _ hl0)).trans c0
  have c1' : (W.alloc (.cells #[.func (.yield l) #[] #[]] 136)).cell? ⟨Bk, 0, none⟩ = some (.func (.func 80) #[] #[]) := (World.cell?_of_block (a := ⟨Bk, 0, none⟩) (Below.heap_alloc _ _ _ hl1)).trans c1
  refine callsIn_of_wp_marks Tryz.func110 rfl trivial ?_ rfl
  simp only [Tryz.ntmps110, List.size_toArray, List.length_cons, List.length_nil, Nat.reduceAdd, Nat.reduceSub, Array.replicate_succ, Array.replicate_zero, List.push_toArray, List.append_toArray, List.nil_append, List.cons_append]
  gi_wp2_with (refine ⟨trivial, ?_⟩; gi_at_call 111; refine (callsIn_wide.2 (HV.out _)).mono ?_; rintro e w' ⟨rfl, rfl⟩)
  clear c0 c1 c0' c1' hl0 hl1
  obtain ⟨W3, hW3⟩ : ∃ W3, ((W.alloc (.cells #[.func (.yield l) #[] #[]] 136)).alloc (.cells #[.pointer p0] 73)).alloc (.cells #[.func (.func 80) #[] #[]] 135) = W3 := ⟨_, rfl⟩
  try rw [hW3]
  have hs3 : W3.heap.size = W.heap.size + 3 := by rw [← hW3]; simp
  have hT3 : Turns (fun _ => False) W W3 := by rw [← hW3]; exact ((Turns.alloc _ _ _).trans (Turns.alloc _ _ _)).trans (Turns.alloc _ _ _)
  have hy3 : W3.heap[W.heap.size]? = some (.cells #[.func (.yield l) #[] #[]] 136) := by rw [← hW3]; exact (Below.heap_alloc _ _ _ (by simp; omega)).trans (box1 _ _ _ _ _)
  have hp3 : W3.cell? ⟨W.heap.size + 1, 0, none⟩ = some (.pointer p0) := by rw [← hW3]; exact cell_box (box2 _ _ _ _ _) (Below.heap_alloc _ _ _ (by simp)) rfl
  have hk3 : W3.cell? ⟨W.heap.size + 2, 0, none⟩ = some (.func (.func 80) #[] #[]) := by
    have := World.alloc_heap_new ((W.alloc (.cells #[.func (.yield l) #[] #[]] 136)).alloc (.cells #[.pointer p0] 73)) (.cells #[.func (.func 80) #[] #[]] 135)
    rw [hW3] at this
    simp at this
    exact cell_box this rfl rfl
  obtain ⟨E, hE⟩ : ∃ E : Nat → Prop, E = fun k => W.heap.size ≤ k ∧ k < W.heap.size + 3 := ⟨_, rfl⟩
  have he : ∀ k, E k ↔ (W.heap.size ≤ k ∧ k < W.heap.size + 3) := fun k => by rw [hE]
  have hEb : ∀ k, E k → W.heap.size ≤ k ∧ k < W3.heap.size := fun k h => by have := (he k).1 h; omega
  have hle3 : W.heap.size ≤ W3.heap.size := by omega
  have up : ∀ {M : Nat → Prop} {A : World}, (∀ k, M k → W3.heap.size ≤ k ∧ k < A.heap.size) → W3.heap.size ≤ A.heap.size → ∀ k, (M k ∨ E k) → W.heap.size ≤ k ∧ k < A.heap.size := fun h hA k hk => by
    rcases hk with x | x
    · have := h k x; omega
    · have := (he k).1 x; omega
  have hst : ∀ {p : (Nat → Prop) → World → Prop}, Ab W.heap.size p → p (fun _ => False) W → W3.heap.size ≤ W3.heap.size ∧ p (fun k => False ∨ E k) W3 := fun hp h => ⟨Nat.le_refl _, hp _ _ W W3 h (fun _ h => h.elim) hT3 (fun k hk => by
    rcases hk with h | h
    · exact h.elim
    · have := (he k).1 h; exact ⟨.inr (by omega), by omega⟩)⟩
  have hFE : ∀ k, W3.heap.size ≤ k → Fr k ∧ ¬ E k := fun k h => ⟨HFR.out k (by omega), fun h' => by have := (he k).1 h'; omega⟩
  have nY : ∀ {M : Nat → Prop} {A : World}, (∀ k, M k → W3.heap.size ≤ k ∧ k < A.heap.size) → ¬ M W.heap.size := fun h x => by have := h _ x; omega
  refine wpIn_range_at (gf := 134) (lb := #[.pointer (some ⟨W.heap.size + 1, 0, none⟩), .pointer (some ⟨W.heap.size + 2, 0, none⟩)]) rfl (enters_of Tryz.func134 (by kernel_rfl) rfl)
    (visitsP_seq S t0 hsz (fun k => Fr k ∧ ¬ E k) (W.heap.size + 1) (W.heap.size + 2) p0 W3 hp3 hk3 (fun h => h.2 ((he _).2 ⟨by omega, by omega⟩)))
    (fun _ _ _ _ hK h => NextP.mono hK h) (Below.refl _ _) hFE (fun _ => rfl)
    (fun M pre V => (W3.heap.size ≤ V.heap.size ∧ J (fun k => M k ∨ E k) (nod pre) V) ∧ (V.heap[W.heap.size]? = some (.cells #[.func (.yield l) #[] #[]] 136) ∧ ¬ M W.heap.size) ∧ firsts pre)
    (fun M pre x V => W3.heap.size ≤ V.heap.size ∧ ok (fun k => M k ∨ E k) (nod pre) x V)
    (fun c M pre V => c = .ret ∧ W3.heap.size ≤ V.heap.size ∧ Jx (fun k => M k ∨ E k) (nod pre) V)
    (fun x a' M V => ∃ A, a' = { tmps := #[.func (.yield l) #[] #[], .pointer (some ⟨Bt, 0, none⟩), .pointer (some ⟨Bk, 0, none⟩), .pointer (some ⟨W.heap.size, 0, none⟩), .pointer (some ⟨A, 0, none⟩), .pointer p0, .func (.func 80) #[] #[], .func (.func 134) #[] #[.pointer (some ⟨W.heap.size + 1, 0, none⟩), .pointer (some ⟨W.heap.size + 2, 0, none⟩)], .agg #[.pointer x.p, .int .i64 (x.i : Int), .int .i64 (x.d : Int)], undef, undef, undef, undef, undef, undef, undef, undef, undef, undef, undef, undef], defers := [] } ∧ V.heap[A]? = some (.cells #[.pointer x.p, .int .i64 (x.i : Int), .int .i64 (x.d : Int)] 141) ∧ ¬ M A)
    (fun s => Ab.and (Ab.plus (HJ.out (nod s)) E hEb hle3) (Ab.and (Ab.block _ _ _) (Ab.pure _ _))) (fun _ s => Ab.and (Ab.pure _ _) (Ab.plus (HX.out (nod s)) E hEb hle3)) (fun _ _ => Ab.ex fun _ => Ab.and (Ab.pure _ _) (Ab.block _ _ _))
    ⟨hst (HJ.out []) h0, ⟨hy3, fun h => h⟩, fun _ h => by cases h⟩ (fun s x => Ab.plus (HO.out (nod s) x) E hEb hle3) (hst (HO.out [] _) hx0) ?next ?assign ?body ?done ?stop
  case next =>
    rintro M pre y V ⟨⟨h1, h2⟩, _, h3⟩ hM hV hy
    exact NextP.mono (fun x hx => ⟨h1, hx⟩) (HNX.out _ _ _ V h2 (up hM hV) (Nat.le_trans hle3 hV) (nod_mem h3 hy) y.i)
  case assign =>
    intro l' M pre x V K hi hM hok hf hK
    clear hp3 hk3 hy3
    simp [Vi.enc]
    gi_wp2
    refine hK _ _ (Turns.alloc _ _ _) ⟨V.heap.size, rfl, World.alloc_heap_new V _, fun h => by have := (hM _ h).2; omega⟩
  case body =>
    rintro l' M pre x a' V ⟨⟨h1, h2⟩, ⟨h3, h4⟩, h5⟩ hM hle hok hf ⟨A, rfl, h6, h7⟩
    clear hp3 hk3 hy3
    have h60 : V.cell? ⟨A, 0, none⟩ = some (.pointer x.p) := cell_box h6 rfl rfl
    have h61 : V.cell? ⟨A, 1, none⟩ = some (.int .i64 (x.i : Int)) := cell_box h6 rfl rfl
    have h62 : V.cell? ⟨A, 2, none⟩ = some (.int .i64 (x.d : Int)) := cell_box h6 rfl rfl
    have h30 : V.cell? ⟨W.heap.size, 0, none⟩ = some (.func (.yield l) #[] #[]) := cell_box h3 rfl rfl
    have H3 := Lib.hid h3
    clear h3 h6
    by_cases hi : x.i = 0
    · have hc : ((x.i : Int) == 0) = true := by rw [hi]; rfl
      obtain ⟨fn, tmps, assign, body, hy, hRd⟩ := HY.out (fun k => M k ∨ E k) (nod pre) x V h2 (up hM hle) (Nat.le_trans hle3 hle) (noOk_of hok hi) (hf hi).2
      simp only [Vi.enc2] at hy
      gi_wp2
      refine (round_in hRd).mono ?_
      rintro e V2 (⟨rfl, hJ2, hT2⟩ | ⟨rfl, hJ2, hT2⟩)
      · gi_wp2
        exact ⟨hT2.mono (fun k _ h => ⟨⟨h.1, fun e => h.2 (.inr e)⟩, fun m => h.2 (.inl m)⟩), ⟨⟨Nat.le_trans h1 hT2.size, by rw [nod_snoc0 _ _ hi]; exact hJ2⟩, ⟨hT2.heap H3.out (fun h => h.2 (.inr ((he _).2 ⟨Nat.le_refl _, by omega⟩))), h4⟩, firsts_snoc h5 hok⟩⟩
      · gi_wp2
        exact ⟨hT2.mono (fun k _ h => ⟨⟨h.1, fun e => h.2 (.inr e)⟩, fun m => h.2 (.inl m)⟩), rfl, Nat.le_trans h1 hT2.size, by rw [nod_snoc0 _ _ hi]; exact hJ2⟩
    · have hc : ((x.i : Int) == 0) = false := by simpa using hi
      gi_wp2
      refine ⟨(fun _ h => by cases h), ?_⟩
      gi_wp2
      exact ⟨Turns.refl _ _, ⟨⟨h1, by rw [nod_snoc1 _ _ hi]; exact h2⟩, ⟨H3.out, h4⟩, firsts_snoc h5 hok⟩⟩
  case done =>
    rintro D M xs V hD hMD hM hS ⟨⟨h1, h2⟩, _⟩ hK
    clear hp3 hk3 hy3
    gi_wp2
    refine ⟨by simp, .inl ⟨_, _, rfl, run_takeDeferred hK, ?_⟩⟩
    exact ⟨_, results_none rfl _ _ _, ⟨_, rfl⟩, .inl ⟨fun k => M k ∨ E k, nod xs, noAll_of hS, HJ.out _ _ _ V _ h2 (up hM h1) (Turns.putObj V D _ (.inl hMD)) (fun k h => ⟨.inl h, by rw [World.putObj_size]; exact (up hM h1 k h).2⟩), fun k h => by rw [World.putObj_size]; exact up hM h1 k h⟩⟩
  case stop =>
    rintro D M c pre V hD hMD hM ⟨rfl, h1, h2⟩ hK
    clear hp3 hk3 hy3
    gi_wp2
    refine ⟨by simp, .inl ⟨_, _, rfl, run_takeDeferred hK, ?_⟩⟩
    exact ⟨_, results_none rfl _ _ _, ⟨_, rfl⟩, .inr ⟨fun k => M k ∨ E k, nod pre, HX.out _ _ _ V _ h2 (up hM h1) (Turns.putObj V D _ (.inl hMD)) (fun k h => ⟨.inl h, by rw [World.putObj_size]; exact (up hM h1 k h).2⟩), fun k h => by rw [World.putObj_size]; exact up hM h1 k h⟩⟩
end Go.Proofs.YtmmhpibkjdlkgaaGreat
namespace Go.Proofs.YtmmhpibkjdlkgaaGreat
open Go Go.RowKit Go.Shelf
open Tr (P)

namespace Tr
mutual
def vis : P → Nat → List (P × Nat × Nat) | .mk k f t n nm s l, d => visK (.mk k f t n nm s l) l 0 d
def visK : P → List P → Nat → Nat → List (P × Nat × Nat)
  | t, [], i, d => [(t, i, d)]
  | t, x :: r, i, d => (t, i, d) :: (vis x (d + 1) ++ visK t r (i + 1) d)
end
mutual
/-- The nodes, with their depths, in the order of the tree. -/
def pre : P → Nat → List (P × Nat × Nat) | .mk k f t n nm s l, d => (.mk k f t n nm s l, 0, d) :: pres l (d + 1)
def pres : List P → Nat → List (P × Nat × Nat) | [], _ => [] | x :: r, d => pre x d ++ pres r d
end
theorem vis_kids (p : P) (d : Nat) : vis p d = visK p p.kids 0 d := by cases p; rfl
def shape : Shape P where
  kids := P.kids
  vk t i d := visK t (t.kids.drop i) i d
  more t i d h := by
    rw [List.drop_eq_getElem_cons h, visK, List.drop_zero, vis_kids]
  last t i d h := by rw [List.drop_eq_nil_of_le (by omega), visK]
mutual
theorem vis_len : ∀ (p : P) (d : Nat), (vis p d).length + 1 = 2 * size p
  | .mk k f t n nm s l, d => by rw [vis, visK_len _ l 0 d, size]; omega
theorem visK_len : ∀ (t : P) (l : List P) (i d : Nat), (visK t l i d).length = 2 * sizes l + 1
  | t, [], i, d => by simp [visK, sizes]
  | t, x :: r, i, d => by
    have h1 := vis_len x (d + 1)
    have h2 := visK_len t r (i + 1) d
    simp only [visK, sizes, List.length_cons, List.length_append, h2]
    omega
end
mutual
theorem vis_nodes : ∀ (p : P) (d : Nat), ((vis p d).filter fun k => k.2.1 == 0) = pre p d
  | .mk k f t n nm s l, d => by rw [vis, visK_nodes _ l 0 d, pre]; rfl
theorem visK_nodes : ∀ (t : P) (l : List P) (i d : Nat), ((visK t l i d).filter fun k => k.2.1 == 0) = (if i = 0 then [(t, 0, d)] else []) ++ pres l (d + 1)
  | t, [], i, d => by
    by_cases h : i = 0
    · simp [visK, pres, h]
    · simp [visK, pres, h]
  | t, x :: r, i, d => by
    have h1 := vis_nodes x (d + 1)
    have h2 := visK_nodes t r (i + 1) d
    rw [if_neg (by omega), List.nil_append] at h2
    rw [visK, List.filter_cons, List.filter_append, h1, h2, pres]
    by_cases h : i = 0
    · simp [h]
    · simp [h]
end
theorem nKeys_shape (p : P) : nKeys shape p = pre p 1 := by
  show ((visK p (p.kids.drop 0) 0 1).filter fun k => k.2.1 == 0) = _
  rw [List.drop_zero, ← vis_kids, vis_nodes]
theorem vk_len (p : P) : (shape.vk p 0 1).length ≤ 2 * size p := by
  have := vis_len p 1
  rw [vis_kids] at this
  show (visK p (p.kids.drop 0) 0 1).length ≤ _
  rw [List.drop_zero]; omega
end Tr
theorem nodesP_seq {T : Type} (S : Shape T) (t0 : T) (hsz : (S.vk t0 0 1).length ≤ 1000000) (Fr : Nat → Prop) (Bt Bk : Nat) (p0 : Option Addr) (w : World) (hFr : ∀ k, w.heap.size ≤ k → Fr k) (c0 : w.cell? ⟨Bt, 0, none⟩ = some (.pointer p0)) (c1 : w.cell? ⟨Bk, 0, none⟩ = some (.func (.func 80) #[] #[])) :
    SeqAt Tryz.prog 110 #[.pointer (some ⟨Bt, 0, none⟩), .pointer (some ⟨Bk, 0, none⟩)] Vi.enc2 (noAll S t0) (noOk S t0) (fun _ => True) ⟨t0, p0, 0, 1⟩ (NextN 80 S) Fr w := fun l J Jx ok W hW hJ hJx hO hx0 hnx hY h0 => by
  have k0 := (World.cell?_of_block (a := ⟨Bt, 0, none⟩) (hW.block Bt (cell_lt c0))).trans c0
  have k1 := (World.cell?_of_block (a := ⟨Bk, 0, none⟩) (hW.block Bk (cell_lt c1))).trans c1
  exact callsIn_wide.1 (nodesP_walk S t0 hsz Fr Bt Bk l p0 J Jx ok W hJ hJx hO hx0 hnx (fun M pre x W1 a b c d e => hY M pre x W1 a b c d (fun _ => e)) h0 (fun k h => hFr k (Nat.le_trans hW.size h)) k0 k1)
end Go.Proofs.YtmmhpibkjdlkgaaGreat
namespace Go.Proofs.YtmmhpibkjdlkgaaGreat
open Go Go.RowKit Go.Shelf

namespace Ex
/-- An expression: kind, from, to, name, argument, number, text, operator, two annotations, patterns, kids. -/
inductive E where
  | mk (k f t : Int) (nm ar : List UInt8) (n : Int) (s : List UInt8) (op : Int) (A B : Tp.T) (ps : List Tr.P) (l : List E)
def E.kind : E → Int | .mk k _ _ _ _ _ _ _ _ _ _ _ => k
def E.frm : E → Int | .mk _ f _ _ _ _ _ _ _ _ _ _ => f
def E.til : E → Int | .mk _ _ t _ _ _ _ _ _ _ _ _ => t
def E.nm : E → List UInt8 | .mk _ _ _ s _ _ _ _ _ _ _ _ => s
def E.ar : E → List UInt8 | .mk _ _ _ _ s _ _ _ _ _ _ _ => s
def E.num : E → Int | .mk _ _ _ _ _ n _ _ _ _ _ _ => n
def E.s : E → List UInt8 | .mk _ _ _ _ _ _ s _ _ _ _ _ => s
def E.op : E → Int | .mk _ _ _ _ _ _ _ o _ _ _ _ => o
def E.a : E → Tp.T | .mk _ _ _ _ _ _ _ _ x _ _ _ => x
def E.b : E → Tp.T | .mk _ _ _ _ _ _ _ _ _ x _ _ => x
def E.pats : E → List Tr.P | .mk _ _ _ _ _ _ _ _ _ _ ps _ => ps
def E.kids : E → List E | .mk _ _ _ _ _ _ _ _ _ _ _ l => l
mutual
def size : E → Nat | .mk _ _ _ _ _ _ _ _ _ _ _ l => sizes l + 1
def sizes : List E → Nat | [] => 0 | p :: r => size p + sizes r
end
theorem size_pos (p : E) : 0 < size p := by cases p; simp [size]
theorem size_kids (p : E) : size p = sizes p.kids + 1 := by cases p; rfl
end Ex
open Ex (E)
namespace Ex
mutual
def vis : E → Nat → List (E × Nat × Nat) | .mk k f t nm ar n s op A B ps l, d => visK (.mk k f t nm ar n s op A B ps l) l 0 d
def visK : E → List E → Nat → Nat → List (E × Nat × Nat)
  | t, [], i, d => [(t, i, d)]
  | t, x :: r, i, d => (t, i, d) :: (vis x (d + 1) ++ visK t r (i + 1) d)
end
mutual
/-- The nodes, with their depths, in the order of the tree. -/
def pre : E → Nat → List (E × Nat × Nat) | .mk k f t nm ar n s op A B ps l, d => (.mk k f t nm ar n s op A B ps l, 0, d) :: pres l (d + 1)
def pres : List E → Nat → List (E × Nat × Nat) | [], _ => [] | x :: r, d => pre x d ++ pres r d
end
theorem vis_kids (p : E) (d : Nat) : vis p d = visK p p.kids 0 d := by cases p; rfl
def shape : Shape E where
  kids := E.kids
  vk t i d := visK t (t.kids.drop i) i d
  more t i d h := by
    rw [List.drop_eq_getElem_cons h, visK, List.drop_zero, vis_kids]
  last t i d h := by rw [List.drop_eq_nil_of_le (by omega), visK]
mutual
theorem vis_len : ∀ (p : E) (d : Nat), (vis p d).length + 1 = 2 * size p
  | .mk k f t nm ar n s op A B ps l, d => by rw [vis, visK_len _ l 0 d, size]; omega
theorem visK_len : ∀ (t : E) (l : List E) (i d : Nat), (visK t l i d).length = 2 * sizes l + 1
  | t, [], i, d => by simp [visK, sizes]
  | t, x :: r, i, d => by
    have h1 := vis_len x (d + 1)
    have h2 := visK_len t r (i + 1) d
    simp only [visK, sizes, List.length_cons, List.length_append, h2]
    omega
end
mutual
theorem vis_nodes : ∀ (p : E) (d : Nat), ((vis p d).filter fun k => k.2.1 == 0) = pre p d
  | .mk k f t nm ar n s op A B ps l, d => by rw [vis, visK_nodes _ l 0 d, pre]; rfl
theorem visK_nodes : ∀ (t : E) (l : List E) (i d : Nat), ((visK t l i d).filter fun k => k.2.1 == 0) = (if i = 0 then [(t, 0, d)] else []) ++ pres l (d + 1)
  | t, [], i, d => by
    by_cases h : i = 0
    · simp [visK, pres, h]
    · simp [visK, pres, h]
  | t, x :: r, i, d => by
    have h1 := vis_nodes x (d + 1)
    have h2 := visK_nodes t r (i + 1) d
    rw [if_neg (by omega), List.nil_append] at h2
    rw [visK, List.filter_cons, List.filter_append, h1, h2, pres]
    by_cases h : i = 0
    · simp [h]
    · simp [h]
end
theorem nKeys_shape (p : E) : nKeys shape p = pre p 1 := by
  show ((visK p (p.kids.drop 0) 0 1).filter fun k => k.2.1 == 0) = _
  rw [List.drop_zero, ← vis_kids, vis_nodes]
theorem vk_len (p : E) : (shape.vk p 0 1).length ≤ 2 * size p := by
  have := vis_len p 1
  rw [vis_kids] at this
  show (visK p (p.kids.drop 0) 0 1).length ≤ _
  rw [List.drop_zero]; omega
end Ex
end Go.Proofs.YtmmhpibkjdlkgaaGreat
namespace Go.Proofs.YtmmhpibkjdlkgaaGreat
open Go Go.RowKit Go.Shelf
open Ex (E)

/-- What of a node's cells is not its kids. -/
structure EOwn (G : Nat → Prop) (W : World) (e : E) (b o : Nat) : Prop where
  i64 : I64 e.kind ∧ I64 e.num ∧ I64 e.op
  c0 : W.cell? ⟨b, o, none⟩ = some (.int .i64 e.kind)
  c1 : W.cell? ⟨b, o + 1, none⟩ = some (.int .i64 e.frm)
  c2 : W.cell? ⟨b, o + 2, none⟩ = some (.int .i64 e.til)
  c3 : W.cell? ⟨b, o + 3, none⟩ = some (.string ⟨e.nm.toArray⟩)
  c4 : W.cell? ⟨b, o + 4, none⟩ = some (.string ⟨e.ar.toArray⟩)
  c5 : W.cell? ⟨b, o + 5, none⟩ = some (.int .i64 e.num)
  c6 : W.cell? ⟨b, o + 6, none⟩ = some (.string ⟨e.s.toArray⟩)
  c7 : W.cell? ⟨b, o + 7, none⟩ = some (.int .i64 e.op)
  ca : NodeAt G W e.a b (o + 8)
  cb : NodeAt G W e.b b (o + 11)
  pats : ∃ pa pc, W.cell? ⟨b, o + 14, none⟩ = some (.slice pa e.pats.length pc) ∧ e.pats.length ≤ pc ∧ pc ≤ maxLen ∧ PKids G W e.pats pa
mutual
/-- The cells from o on of block b are the expression's. -/
def ENode (G : Nat → Prop) (W : World) : E → Nat → Nat → Prop
  | .mk k f t nm ar n s op A B ps l, b, o => EOwn G W (.mk k f t nm ar n s op A B ps l) b o ∧ ∃ a cap, W.cell? ⟨b, o + 15, none⟩ = some (.slice a l.length cap) ∧ l.length ≤ cap ∧ cap ≤ maxLen ∧ EKids G W l a
def EKids (G : Nat → Prop) (W : World) : List E → Option Addr → Prop
  | [], _ => True
  | p :: r, a => ∃ b o, a = some ⟨b, o, none⟩ ∧ G b ∧ ENode G W p b o ∧ EKids G W r (some ⟨b, o + 16, none⟩)
end
theorem EOwn.mono {G G' : Nat → Prop} {W W' : World} {e : E} {b o : Nat} (hx : EOwn G W e b o) (h : ∀ b o, G b → W'.cell? ⟨b, o, none⟩ = W.cell? ⟨b, o, none⟩) (hn : ∀ b, G b → G' b) (hb : G b) : EOwn G' W' e b o := by
  obtain ⟨h0, h1, h2, h3, h4, h5, h6, h7, h8, ha, hbb, pa, pc, p1, p2, p3, p4⟩ := hx
  exact ⟨h0, (h _ _ hb).trans h1, (h _ _ hb).trans h2, (h _ _ hb).trans h3, (h _ _ hb).trans h4, (h _ _ hb).trans h5, (h _ _ hb).trans h6, (h _ _ hb).trans h7, (h _ _ hb).trans h8, NodeAt.mono h hn _ _ _ hb ha, NodeAt.mono h hn _ _ _ hb hbb, pa, pc, (h _ _ hb).trans p1, p2, p3, PKids.mono h hn _ pa p4⟩
mutual
theorem ENode.mono {G G' : Nat → Prop} {W W' : World} (h : ∀ b o, G b → W'.cell? ⟨b, o, none⟩ = W.cell? ⟨b, o, none⟩) (hn : ∀ b, G b → G' b) : ∀ (p : E) (b o : Nat), G b → ENode G W p b o → ENode G' W' p b o
  | .mk k f t nm ar n s op A B ps l, b, o, hb, hx => by
    simp only [ENode] at hx ⊢
    obtain ⟨h0, a, cap, h7, h8, h9, h10⟩ := hx
    exact ⟨h0.mono h hn hb, a, cap, (h _ _ hb).trans h7, h8, h9, EKids.mono h hn l a h10⟩
theorem EKids.mono {G G' : Nat → Prop} {W W' : World} (h : ∀ b o, G b → W'.cell? ⟨b, o, none⟩ = W.cell? ⟨b, o, none⟩) (hn : ∀ b, G b → G' b) : ∀ (l : List E) (a : Option Addr), EKids G W l a → EKids G' W' l a
  | [], _, _ => by simp [EKids]
  | p :: r, a, hx => by
    simp only [EKids] at hx ⊢
    obtain ⟨b, o, h1, h2, h3, h4⟩ := hx
    exact ⟨b, o, h1, hn b h2, ENode.mono h hn p b o h2 h3, EKids.mono h hn r _ h4⟩
end
theorem ENode.kidsAt {G : Nat → Prop} {W : World} {e : E} {b o : Nat} (h : ENode G W e b o) : EOwn G W e b o ∧ ∃ a cap, W.cell? ⟨b, o + 15, none⟩ = some (.slice a e.kids.length cap) ∧ e.kids.length ≤ cap ∧ cap ≤ maxLen ∧ EKids G W e.kids a := by
  cases e with
  | mk k f t nm ar n s op A B ps l => simp only [ENode] at h; exact h
theorem EKids.nodes {G : Nat → Prop} {W : World} : ∀ (l : List E) (b o : Nat), EKids G W l (some ⟨b, o, none⟩) → ∀ i (h : i < l.length), ENode G W l[i] b (o + i * 16)
  | [], _, _, _, i, h => by simp at h
  | t :: r, b, o, hx, i, h => by
    simp only [EKids] at hx
    obtain ⟨b', o', h1, h2, h3, h4⟩ := hx
    injection h1 with h1
    injection h1 with h1 h1' h1''
    subst h1 h1'
    cases i with
    | zero => rw [Nat.zero_mul, Nat.add_zero]; exact h3
    | succ j =>
      have := EKids.nodes r b (o + 16) h4 j (by simpa using h)
      rw [show o + 16 + j * 16 = o + (j + 1) * 16 from by omega] at this
      exact this
theorem EKids.first {G : Nat → Prop} {W : World} {l : List E} {a : Option Addr} (h : EKids G W l a) (hl : 0 < l.length) : ∃ b o, a = some ⟨b, o, none⟩ ∧ G b ∧ ∀ i (h : i < l.length), ENode G W l[i] b (o + i * 16) := by
  cases l with
  | nil => simp at hl
  | cons t r =>
    have h' := h
    simp only [EKids] at h
    obtain ⟨b, o, h1, h2, h3, h4⟩ := h
    subst h1
    exact ⟨b, o, rfl, h2, EKids.nodes (t :: r) b o h'⟩
end Go.Proofs.YtmmhpibkjdlkgaaGreat
