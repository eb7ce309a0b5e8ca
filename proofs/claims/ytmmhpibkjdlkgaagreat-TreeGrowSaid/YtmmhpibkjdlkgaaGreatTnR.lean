/- A range over an iterator within the body of another range: its law, and the outer range's, which tells the body of its own loop. tree.ownAnnotations: what it hands back; the iterator's contract: the places of the annotations that are not none. -/
import Derived.Test.YtmmhpibkjdlkgaaGreatTeR
import Derived.RangeFuncNested
import Derived.Test.YtmmhpibkjdlkgaaGreatTeG
namespace Go.Proofs.YtmmhpibkjdlkgaaGreat
open Go Go.RowKit

/-- The law of TeR; the body is told of its own loop's record. -/
theorem wpIn_range_own {P : Program} {α : Type} {g : Operand} {ps : Array Tmp} {assign body : Code} {Q : Exit → Act → World → Prop} {a : Act} {w : World}
    {gf : Nat} {lb : Array Value} (hg : a.eval g = .func (.func gf) #[] lb) (eg : ∀ args w, (callFunc gf args).run P w = .ok (.enter gf args) w)
    {encs : α → Array Value} {S : List α → Prop} {okp : List α → α → Prop} {fresh : α → Prop} {x0 : α} {Next : World → α → (α → Prop) → Prop} {Fr : Nat → Prop} {w0 : World} (hseq : SeqAt P gf lb encs S okp fresh x0 Next Fr w0)
    (hN : ∀ W y (K K' : α → Prop), (∀ x, K x → K' x) → Next W y K → Next W y K') (hb0 : Below w0.heap.size w0 w) (hFr : ∀ k, w.heap.size ≤ k → Fr k) (hps : ∀ x, (encs x).size = ps.size)
    (I : (Nat → Prop) → List α → World → Prop) (ok : (Nat → Prop) → List α → α → World → Prop) (Ix : Code → (Nat → Prop) → List α → World → Prop) (Ax : α → Act → (Nat → Prop) → World → Prop)
    (hI : ∀ s, Ab w.heap.size fun M W => I M s W) (hIx : ∀ c s, Ab w.heap.size fun M W => Ix c M s W) (hAx : ∀ x a', Ab w.heap.size fun M W => Ax x a' M W) (h0 : I (fun _ => False) [] w)
    (hO : ∀ s x, Ab w.heap.size fun M W => ok M s x W) (hx0 : ok (fun _ => False) [] x0 w)
    (hnext : ∀ M pre y W, I M pre W → (∀ k, M k → w.heap.size ≤ k ∧ k < W.heap.size) → w.heap.size ≤ W.heap.size → y ∈ pre → Next W y fun x => ok M pre x W)
    (hassign : ∀ (l : Nat) (M : Nat → Prop) (pre : List α) (x : α) (W : World) (K : Act → World → Prop), I M pre W → (∀ k, M k → w.heap.size ≤ k ∧ k < W.heap.size) → okp pre x → (fresh x → ok M pre x W) →
      (∀ a' W', Turns (fun _ => False) W W' → Ax x a' M W' → K a' W') →
      assign.wpIn (Fence.wide.inRound l) 8 P (Exit.then K (fun _ _ _ => False)) { tmps := (ps.zip (encs x)).foldl (fun t (p, v) => t.setIfInBounds p v) a.tmps, defers := [] } W)
    (hbody : ∀ (l : Nat) (M : Nat → Prop) (pre : List α) (x : α) (a' : Act) (W : World), M l → (∃ r, W.heap[l]? = some (.loop r)) → I M pre W → (∀ k, M k → w.heap.size ≤ k ∧ k < W.heap.size) → w.heap.size ≤ W.heap.size → okp pre x → (fresh x → ok M pre x W) → Ax x a' M W →
      body.wpIn (Fence.wide.inRound l) 8 P (atPost Fr M I Ix (pre ++ [x]) W) a' W)
    (hdone : ∀ (D : Nat) (M : Nat → Prop) (xs : List α) (W : World), w.heap.size ≤ D → M D → (∀ k, M k → w.heap.size ≤ k ∧ k < W.heap.size) → S xs → I M xs W → W.heap[D]? = some (.deferred (some [])) → Q .normal { a with defers := { target := .collected D, args := #[] } :: a.defers } W)
    (hstop : ∀ (D : Nat) (M : Nat → Prop) (c : Code) (pre : List α) (W : World), w.heap.size ≤ D → M D → (∀ k, M k → w.heap.size ≤ k ∧ k < W.heap.size) → Ix c M pre W → W.heap[D]? = some (.deferred (some [])) → c.wpIn Fence.wide 9 P Q { a with defers := { target := .collected D, args := #[] } :: a.defers } W) :
    (Code.rangeFunc g ps assign body).wpIn Fence.wide 9 P Q a w := by
  refine wpIn_rangeFunc ?_
  intro fn hfn
  rw [show Fence.wide.round = none from rfl]
  obtain ⟨rec, hrec⟩ : ∃ rec : LoopState → Option Code → Loop, rec = fun st pe => { state := st, pending := pe, fn, tmps := a.tmps, params := ps, assign, body, defers := w.heap.size } := ⟨_, rfl⟩
  obtain ⟨W1, hW1⟩ : ∃ W1, (w.alloc (.deferred (some []))).alloc (.loop (rec .ready none)) = W1 := ⟨_, rfl⟩
  have hsz : W1.heap.size = w.heap.size + 2 := by rw [← hW1]; simp
  have hL1 : W1.heap[w.heap.size + 1]? = some (.loop (rec .ready none)) := by
    rw [← hW1]; have := World.alloc_heap_new (w.alloc (.deferred (some []))) (.loop (rec .ready none)); rwa [World.size_alloc] at this
  have hK1 : W1.heap[w.heap.size]? = some (.deferred (some [])) := by
    rw [← hW1]; exact (Below.heap_alloc _ _ _ (by simp)).trans (World.alloc_heap_new w _)
  have hT1 : Turns (fun _ => False) w W1 := by rw [← hW1]; exact (Turns.alloc _ _ _).trans (Turns.alloc _ _ _)
  have hb1 : Below w0.heap.size w0 W1 := hT1.below hb0 (fun _ h => h.elim) hb0.size
  obtain ⟨plus, hplus⟩ : ∃ plus : (Nat → Prop) → Nat → Prop, plus = fun M k => M k ∨ k = w.heap.size ∨ k = w.heap.size + 1 := ⟨_, rfl⟩
  have pl : ∀ M k, plus M k ↔ (M k ∨ k = w.heap.size ∨ k = w.heap.size + 1) := fun M k => by rw [hplus]
  have hI1 : I (plus fun _ => False) [] W1 := hI [] _ _ w W1 h0 (fun _ h => h.elim) hT1 (fun k hk => by
    rcases (pl _ _).1 hk with h | h
    · exact h.elim
    · exact ⟨Or.inr (by omega), by omega⟩)
  refine ⟨w.heap.size + 1, [{ target := .collected w.heap.size, args := #[] }], W1, { target := .fn (.func gf) lb, args := #[.func (.yield (w.heap.size + 1)) #[] #[]] }, W1, gf,
    #[.func (.yield (w.heap.size + 1)) #[] #[]] ++ lb, W1, ?_, ?_, ?_, ?_, fun h => (by cases h), ?_⟩
  · rw [← hW1, hrec]; exact run_enterLoop_outer _ _ _ _ _
  · simp only [resolve, hg]
    simp [go_sem]
  · intro f' _; trivial
  · simp [invoke, go_sem, eg]
  · refine callsIn_wide.2 ?_
    -- the blocks of whoever owns M, the loop's two beside them
    have up : ∀ {M : Nat → Prop} {A : World}, (∀ k, M k → W1.heap.size ≤ k ∧ k < A.heap.size) → W1.heap.size ≤ A.heap.size → ∀ k, plus M k → w.heap.size ≤ k ∧ k < A.heap.size := fun h hA k hk => by
      rcases (pl _ _).1 hk with x | x
      · have := h k x; omega
      · omega
    have nL : ∀ {M : Nat → Prop} {A : World}, (∀ k, M k → W1.heap.size ≤ k ∧ k < A.heap.size) → ¬ M (w.heap.size + 1) := fun h x => by have := h _ x; omega
    have nD : ∀ {M : Nat → Prop} {A : World}, (∀ k, M k → W1.heap.size ≤ k ∧ k < A.heap.size) → ¬ M w.heap.size := fun h x => by have := h _ x; omega
    -- what abides M's steps abides them with the loop's two blocks beside
    have lift : ∀ {p : (Nat → Prop) → World → Prop}, Ab w.heap.size p → ∀ (M M' : Nat → Prop) (A B : World), p (plus M) A → W1.heap.size ≤ A.heap.size → (∀ k, M k → W1.heap.size ≤ k ∧ k < A.heap.size) → Turns (plus M) A B → (∀ k, M' k → (M k ∨ A.heap.size ≤ k) ∧ k < B.heap.size) → p (plus M') B :=
      fun hp M M' A B h hA hM hT hM' => hp _ _ A B h (up hM hA) hT (fun k hk => by
        have := hT.size
        rcases (pl _ _).1 hk with x | x
        · obtain ⟨y, z⟩ := hM' k x
          exact ⟨y.elim (fun y => .inl ((pl _ _).2 (.inl y))) .inr, z⟩
        · exact ⟨.inl ((pl _ _).2 (.inr x)), by omega⟩)
    refine (hseq (w.heap.size + 1)
      (fun M pre W => I (plus M) pre W ∧ W.heap[w.heap.size + 1]? = some (.loop (rec .ready none)) ∧ W.heap[w.heap.size]? = some (.deferred (some [])))
      (fun M pre W => ∃ c, Ix c (plus M) pre W ∧ W.heap[w.heap.size + 1]? = some (.loop (rec .done (some c))) ∧ W.heap[w.heap.size]? = some (.deferred (some [])))
      (fun M pre x W => ok (plus M) pre x W ∧ W1.heap.size ≤ W.heap.size)
      W1 hb1 ?_ ?_ ?_ ?_ ?_ ?_ ⟨hI1, hL1, hK1⟩).mono ?_
    · rintro s M M' A B ⟨hi, hl, hk⟩ hM hT hM'
      have hA : W1.heap.size ≤ A.heap.size := by have := (Array.getElem?_eq_some_iff.1 hl).1; omega
      exact ⟨lift (hI s) M M' A B hi hA hM (hT.mono fun k _ h => (pl _ _).2 (.inl h)) hM', hT.heap hl (nL hM), hT.heap hk (nD hM)⟩
    · rintro s M M' A B ⟨c, hi, hl, hk⟩ hM hT hM'
      have hA : W1.heap.size ≤ A.heap.size := by have := (Array.getElem?_eq_some_iff.1 hl).1; omega
      exact ⟨c, lift (hIx c s) M M' A B hi hA hM (hT.mono fun k _ h => (pl _ _).2 (.inl h)) hM', hT.heap hl (nL hM), hT.heap hk (nD hM)⟩
    · rintro s x M M' A B ⟨h, hA⟩ hM hT hM'
      exact ⟨lift (hO s x) M M' A B h hA hM (hT.mono fun k _ h => (pl _ _).2 (.inl h)) hM', Nat.le_trans hA hT.size⟩
    · exact ⟨hO [] x0 _ _ w W1 hx0 (fun _ h => h.elim) hT1 (fun k hk => by
        rcases (pl _ _).1 hk with h | h
        · exact h.elim
        · exact ⟨Or.inr (by omega), by omega⟩), Nat.le_refl _⟩
    · rintro M pre y W ⟨hi, hl, hk⟩ hM hA hy
      exact hN _ _ _ _ (fun x hx => ⟨hx, hA⟩) (hnext (plus M) pre y W hi (up hM hA) (by omega) hy)
    · -- ONE ROUND
      rintro M pre x W ⟨hi, hl, hk⟩ hM hA hokp hok1
      have hok : fresh x → ok (plus M) pre x W := fun h => (hok1 h).1
      have hy := run_yield (P := P) (args := encs x) hl (by rw [hrec]; exact hps x)
      rw [hrec] at hy
      refine ⟨fn, _, assign, body, hy, roundIn_of_wpIn hfn (hassign _ (plus M) pre x W _ hi (up hM hA) hokp hok fun a' W' hT' hax => ?_)⟩
      have hl' : W'.heap[w.heap.size + 1]? = some (.loop (rec .ready none)) := hT'.heap hl (fun h => h)
      have hk' : W'.heap[w.heap.size]? = some (.deferred (some [])) := hT'.heap hk (fun h => h)
      have hA' : W1.heap.size ≤ W'.heap.size := Nat.le_trans hA hT'.size
      have hM1 : ∀ k, M k → W1.heap.size ≤ k ∧ k < W'.heap.size := fun k h => ⟨(hM k h).1, Nat.lt_of_lt_of_le (hM k h).2 hT'.size⟩
      refine ⟨_, run_beginRound hl' (by rw [hrec]), ?_⟩
      obtain ⟨W2, hW2⟩ : ∃ W2, W'.putObj (w.heap.size + 1) (.loop { rec .ready none with state := .busy }) = W2 := ⟨_, rfl⟩
      have hlt' : w.heap.size + 1 < W'.heap.size := by omega
      have hs2 : W2.heap.size = W'.heap.size := by rw [← hW2]; simp
      have hl2 : W2.heap[w.heap.size + 1]? = some (.loop { rec .ready none with state := .busy }) := by rw [← hW2]; exact World.putObj_heap_same hlt'
      have hk2 : W2.heap[w.heap.size]? = some (.deferred (some [])) := by rw [← hW2]; exact (World.putObj_heap_other (by omega)).trans hk'
      have hT2 : Turns (plus M) W' W2 := by rw [← hW2]; exact Turns.putObj _ _ _ ((pl _ _).2 (.inr (.inr rfl)))
      rw [hW2]
      have hi2 : I (plus M) pre W2 := lift (hI pre) M M W W2 hi hA hM ((hT'.mono fun _ _ h => h.elim).trans hT2) (fun k h => ⟨.inl h, by have := (hM1 k h).2; omega⟩)
      have hax2 : Ax x a' (plus M) W2 := lift (hAx x a') M M W' W2 hax hA' hM1 hT2 (fun k h => ⟨.inl h, by have := (hM1 k h).2; omega⟩)
      have hok2 : fresh x → ok (plus M) pre x W2 := fun hf => lift (hO pre x) M M W W2 (hok hf) hA hM ((hT'.mono fun _ _ h => h.elim).trans hT2) (fun k h => ⟨.inl h, by have := (hM1 k h).2; omega⟩)
      refine wpIn_mono (hbody _ (plus M) pre x a' W2 ((pl _ _).2 (.inr (.inr rfl))) ⟨_, hl2⟩ hi2 (up (fun k h => ⟨(hM1 k h).1, by rw [hs2]; exact (hM1 k h).2⟩) (by omega)) (by omega) hokp hok2 hax2) ?_
      have hTW : Turns (fun k => Fr k ∧ ¬ M k) W W2 := (hT'.mono fun _ _ h => h.elim).trans (by rw [← hW2]; exact Turns.putObj _ _ _ ⟨hFr _ (by omega), nL hM⟩)
      have fin : ∀ (jump : Option Code) (W3 : World), Turns (fun k => Fr k ∧ ¬ plus M k) W2 W3 → ∃ W4,
          (Instr.endRound (w.heap.size + 1) jump).run P W3 = .ok (.bool jump.isNone) W4 ∧ W4.heap[w.heap.size + 1]? = some (.loop (rec (if jump.isNone then .ready else .done) jump)) ∧
          W4.heap[w.heap.size]? = some (.deferred (some [])) ∧ Turns (plus M) W3 W4 ∧ Turns (fun k => Fr k ∧ ¬ M k) W W4 ∧ W4.heap.size = W3.heap.size := fun jump W3 hk3 => by
        have hl3 := hk3.heap hl2 (fun h => h.2 ((pl _ _).2 (.inr (.inr rfl))))
        have hd3 := hk3.heap hk2 (fun h => h.2 ((pl _ _).2 (.inr (.inl rfl))))
        have := run_endRound (P := P) jump hl3
        refine ⟨_, this, ?_, ?_, ?_, ?_, by simp⟩
        · rw [hrec]; exact World.putObj_heap_same (Array.getElem?_eq_some_iff.1 hl3).1
        · exact (World.putObj_heap_other (by omega)).trans hd3
        · exact Turns.putObj _ _ _ ((pl _ _).2 (.inr (.inr rfl)))
        · exact (hTW.trans (hk3.mono fun k _ h => ⟨h.1, fun m => h.2 ((pl _ _).2 (.inl m))⟩)).trans (Turns.putObj _ _ _ ⟨hFr _ (by omega), nL hM⟩)
      have hM3 : ∀ {W3 : World}, W2.heap.size ≤ W3.heap.size → ∀ k, M k → W1.heap.size ≤ k ∧ k < W3.heap.size := fun h k m => by have := hM1 k m; omega
      rintro e a3 W3 hp
      cases e with
      | normal =>
        obtain ⟨hk3, hi3⟩ := hp
        obtain ⟨W4, hr, hl4, hk4, ht4, hT4, hs4⟩ := fin none W3 hk3
        have h3 := hM3 hk3.size
        have h23 := hk3.size
        exact ⟨_, _, hr, .inl ⟨rfl, ⟨lift (hI _) M M W3 W4 hi3 (by omega) h3 ht4 (fun k h => ⟨.inl h, by rw [hs4]; exact (h3 k h).2⟩), hl4, hk4⟩, hT4⟩⟩
      | ret =>
        obtain ⟨hk3, hi3⟩ := hp
        obtain ⟨W4, hr, hl4, hk4, ht4, hT4, hs4⟩ := fin (some .ret) W3 hk3
        have h3 := hM3 hk3.size
        have h23 := hk3.size
        exact ⟨_, _, hr, .inr ⟨rfl, ⟨.ret, lift (hIx _ _) M M W3 W4 hi3 (by omega) h3 ht4 (fun k h => ⟨.inl h, by rw [hs4]; exact (h3 k h).2⟩), hl4, hk4⟩, hT4⟩⟩
      | exit id =>
        obtain ⟨hk3, hi3⟩ := hp
        obtain ⟨W4, hr, hl4, hk4, ht4, hT4, hs4⟩ := fin (some (.exit id)) W3 hk3
        have h3 := hM3 hk3.size
        have h23 := hk3.size
        exact ⟨_, _, hr, .inr ⟨rfl, ⟨.exit id, lift (hIx _ _) M M W3 W4 hi3 (by omega) h3 ht4 (fun k h => ⟨.inl h, by rw [hs4]; exact (h3 k h).2⟩), hl4, hk4⟩, hT4⟩⟩
      | goto t =>
        obtain ⟨hk3, hi3⟩ := hp
        obtain ⟨W4, hr, hl4, hk4, ht4, hT4, hs4⟩ := fin (some (.goto t)) W3 hk3
        have h3 := hM3 hk3.size
        have h23 := hk3.size
        exact ⟨_, _, hr, .inr ⟨rfl, ⟨.goto t, lift (hIx _ _) M M W3 W4 hi3 (by omega) h3 ht4 (fun k h => ⟨.inl h, by rw [hs4]; exact (h3 k h).2⟩), hl4, hk4⟩, hT4⟩⟩
      | panic ch => exact hp.elim
      | outgrown => exact hp.elim
    · -- BEHIND THE ITERATOR
      have last : ∀ {p : (Nat → Prop) → World → Prop}, Ab w.heap.size p → ∀ (M : Nat → Prop) (W2 : World) (o : Obj), p (plus M) W2 → W1.heap.size ≤ W2.heap.size → (∀ k, M k → W1.heap.size ≤ k ∧ k < W2.heap.size) → p (plus M) (W2.putObj (w.heap.size + 1) o) := fun hp M W2 o h hA hM =>
        lift hp M M W2 _ h hA hM (Turns.putObj _ _ _ ((pl _ _).2 (.inr (.inr rfl)))) (fun k m => ⟨.inl m, by rw [World.putObj_size]; exact (hM k m).2⟩)
      rintro e W2 ⟨⟨v, rfl⟩, (⟨M, xs, hS, ⟨hi, hl, hk⟩, hM⟩ | ⟨M, pre, ⟨c, hi, hl, hk⟩, hM⟩)⟩
      · have hA : W1.heap.size ≤ W2.heap.size := by have := (Array.getElem?_eq_some_iff.1 hl).1; omega
        exact ⟨none, _, by have := run_endLoop (P := P) hl (by rw [hrec]; simp); rw [hrec] at this; exact this, hdone _ _ xs _ (Nat.le_refl _) ((pl _ _).2 (.inr (.inl rfl))) (fun k h => by rw [World.putObj_size]; exact up hM hA k h) hS (last (hI xs) M W2 _ hi hA hM) ((World.putObj_heap_other (by omega)).trans hk)⟩
      · have hA : W1.heap.size ≤ W2.heap.size := by have := (Array.getElem?_eq_some_iff.1 hl).1; omega
        exact ⟨some c, _, by have := run_endLoop (P := P) hl (by rw [hrec]; simp); rw [hrec] at this; exact this, hstop _ _ c pre _ (Nat.le_refl _) ((pl _ _).2 (.inr (.inl rfl))) (fun k h => by rw [World.putObj_size]; exact up hM hA k h) (last (hIx c pre) M W2 _ hi hA hM) ((World.putObj_heap_other (by omega)).trans hk)⟩
/-- The same for a range that stands in the body of another. -/
theorem wpIn_range_in {P : Program} {α : Type} {g : Operand} {ps : Array Tmp} {assign body : Code} {Q : Exit → Act → World → Prop} {a : Act} {w : World}
    {l₀ : Nat} {r₀ : Loop} (hl₀ : w.heap[l₀]? = some (.loop r₀)) {gf : Nat} {lb : Array Value} (hg : a.eval g = .func (.func gf) #[] lb) (eg : ∀ args w, (callFunc gf args).run P w = .ok (.enter gf args) w)
    {encs : α → Array Value} {S : List α → Prop} {okp : List α → α → Prop} {fresh : α → Prop} {x0 : α} {Next : World → α → (α → Prop) → Prop} {Fr : Nat → Prop} {w0 : World} (hseq : SeqAt P gf lb encs S okp fresh x0 Next Fr w0)
    (hN : ∀ W y (K K' : α → Prop), (∀ x, K x → K' x) → Next W y K → Next W y K') (hb0 : Below w0.heap.size w0 w) (hFr : ∀ k, w.heap.size ≤ k → Fr k) (hps : ∀ x, (encs x).size = ps.size)
    (I : (Nat → Prop) → List α → World → Prop) (ok : (Nat → Prop) → List α → α → World → Prop) (Ix : Code → (Nat → Prop) → List α → World → Prop) (Ax : α → Act → (Nat → Prop) → World → Prop)
    (hI : ∀ s, Ab w.heap.size fun M W => I M s W) (hIx : ∀ c s, Ab w.heap.size fun M W => Ix c M s W) (hAx : ∀ x a', Ab w.heap.size fun M W => Ax x a' M W) (h0 : I (fun _ => False) [] w)
    (hO : ∀ s x, Ab w.heap.size fun M W => ok M s x W) (hx0 : ok (fun _ => False) [] x0 w)
    (hnext : ∀ M pre y W, I M pre W → (∀ k, M k → w.heap.size ≤ k ∧ k < W.heap.size) → w.heap.size ≤ W.heap.size → y ∈ pre → Next W y fun x => ok M pre x W)
    (hassign : ∀ (l : Nat) (M : Nat → Prop) (pre : List α) (x : α) (W : World) (K : Act → World → Prop), I M pre W → (∀ k, M k → w.heap.size ≤ k ∧ k < W.heap.size) → okp pre x → (fresh x → ok M pre x W) →
      (∀ a' W', Turns (fun _ => False) W W' → Ax x a' M W' → K a' W') →
      assign.wpIn (Fence.wide.inRound l) 8 P (Exit.then K (fun _ _ _ => False)) { tmps := (ps.zip (encs x)).foldl (fun t (p, v) => t.setIfInBounds p v) a.tmps, defers := [] } W)
    (hbody : ∀ (l : Nat) (M : Nat → Prop) (pre : List α) (x : α) (a' : Act) (W : World), M l → (∃ r, W.heap[l]? = some (.loop r)) → I M pre W → (∀ k, M k → w.heap.size ≤ k ∧ k < W.heap.size) → w.heap.size ≤ W.heap.size → okp pre x → (fresh x → ok M pre x W) → Ax x a' M W →
      body.wpIn (Fence.wide.inRound l) 8 P (atPost Fr M I Ix (pre ++ [x]) W) a' W)
    (hdone : ∀ (M : Nat → Prop) (xs : List α) (W : World), (∀ k, M k → w.heap.size ≤ k ∧ k < W.heap.size) → S xs → I M xs W → Q .normal a W)
    (hstop : ∀ (M : Nat → Prop) (c : Code) (pre : List α) (W : World), (∀ k, M k → w.heap.size ≤ k ∧ k < W.heap.size) → Ix c M pre W → c.wpIn (Fence.wide.inRound l₀) 8 P Q a W) :
    (Code.rangeFunc g ps assign body).wpIn (Fence.wide.inRound l₀) 8 P Q a w := by
  refine wpIn_rangeFunc ?_
  intro fn hfn
  rw [show (Fence.wide.inRound l₀).round = some l₀ from rfl]
  obtain ⟨rec, hrec⟩ : ∃ rec : LoopState → Option Code → Loop, rec = fun st pe => { state := st, pending := pe, fn, tmps := a.tmps, params := ps, assign, body, defers := r₀.defers } := ⟨_, rfl⟩
  obtain ⟨W1, hW1⟩ : ∃ W1, w.alloc (.loop (rec .ready none)) = W1 := ⟨_, rfl⟩
  have hsz : W1.heap.size = w.heap.size + 1 := by rw [← hW1]; simp
  have hL1 : W1.heap[w.heap.size]? = some (.loop (rec .ready none)) := by rw [← hW1]; exact World.alloc_heap_new w _
  have hT1 : Turns (fun _ => False) w W1 := by rw [← hW1]; exact Turns.alloc _ _ _
  have hb1 : Below w0.heap.size w0 W1 := hT1.below hb0 (fun _ h => h.elim) hb0.size
  obtain ⟨plus, hplus⟩ : ∃ plus : (Nat → Prop) → Nat → Prop, plus = fun M k => M k ∨ k = w.heap.size := ⟨_, rfl⟩
  have pl : ∀ M k, plus M k ↔ (M k ∨ k = w.heap.size) := fun M k => by rw [hplus]
  have hI1 : I (plus fun _ => False) [] W1 := hI [] _ _ w W1 h0 (fun _ h => h.elim) hT1 (fun k hk => by
    rcases (pl _ _).1 hk with h | h
    · exact h.elim
    · exact ⟨Or.inr (by omega), by omega⟩)
  refine ⟨w.heap.size, [], W1, { target := .fn (.func gf) lb, args := #[.func (.yield w.heap.size) #[] #[]] }, W1, gf,
    #[.func (.yield w.heap.size) #[] #[]] ++ lb, W1, ?_, ?_, ?_, ?_, fun h => (by cases h), ?_⟩
  · rw [← hW1, hrec]; exact run_enterLoop_inner hl₀ _ _ _ _ _
  · simp only [resolve, hg]
    simp [go_sem]
  · intro f' _; trivial
  · simp [invoke, go_sem, eg]
  · refine CallsIn.inRound l₀ (callsIn_wide.2 ?_)
    -- the blocks of whoever owns M, the loop's two beside them
    have up : ∀ {M : Nat → Prop} {A : World}, (∀ k, M k → W1.heap.size ≤ k ∧ k < A.heap.size) → W1.heap.size ≤ A.heap.size → ∀ k, plus M k → w.heap.size ≤ k ∧ k < A.heap.size := fun h hA k hk => by
      rcases (pl _ _).1 hk with x | x
      · have := h k x; omega
      · omega
    have nL : ∀ {M : Nat → Prop} {A : World}, (∀ k, M k → W1.heap.size ≤ k ∧ k < A.heap.size) → ¬ M w.heap.size := fun h x => by have := h _ x; omega
    -- what abides M's steps abides them with the loop's two blocks beside
    have lift : ∀ {p : (Nat → Prop) → World → Prop}, Ab w.heap.size p → ∀ (M M' : Nat → Prop) (A B : World), p (plus M) A → W1.heap.size ≤ A.heap.size → (∀ k, M k → W1.heap.size ≤ k ∧ k < A.heap.size) → Turns (plus M) A B → (∀ k, M' k → (M k ∨ A.heap.size ≤ k) ∧ k < B.heap.size) → p (plus M') B :=
      fun hp M M' A B h hA hM hT hM' => hp _ _ A B h (up hM hA) hT (fun k hk => by
        have := hT.size
        rcases (pl _ _).1 hk with x | x
        · obtain ⟨y, z⟩ := hM' k x
          exact ⟨y.elim (fun y => .inl ((pl _ _).2 (.inl y))) .inr, z⟩
        · exact ⟨.inl ((pl _ _).2 (.inr x)), by omega⟩)
    refine (hseq w.heap.size
      (fun M pre W => I (plus M) pre W ∧ W.heap[w.heap.size]? = some (.loop (rec .ready none)))
      (fun M pre W => ∃ c, Ix c (plus M) pre W ∧ W.heap[w.heap.size]? = some (.loop (rec .done (some c))))
      (fun M pre x W => ok (plus M) pre x W ∧ W1.heap.size ≤ W.heap.size)
      W1 hb1 ?_ ?_ ?_ ?_ ?_ ?_ ⟨hI1, hL1⟩).mono ?_
    · rintro s M M' A B ⟨hi, hl⟩ hM hT hM'
      have hA : W1.heap.size ≤ A.heap.size := by have := (Array.getElem?_eq_some_iff.1 hl).1; omega
      exact ⟨lift (hI s) M M' A B hi hA hM (hT.mono fun k _ h => (pl _ _).2 (.inl h)) hM', hT.heap hl (nL hM)⟩
    · rintro s M M' A B ⟨c, hi, hl⟩ hM hT hM'
      have hA : W1.heap.size ≤ A.heap.size := by have := (Array.getElem?_eq_some_iff.1 hl).1; omega
      exact ⟨c, lift (hIx c s) M M' A B hi hA hM (hT.mono fun k _ h => (pl _ _).2 (.inl h)) hM', hT.heap hl (nL hM)⟩
    · rintro s x M M' A B ⟨h, hA⟩ hM hT hM'
      exact ⟨lift (hO s x) M M' A B h hA hM (hT.mono fun k _ h => (pl _ _).2 (.inl h)) hM', Nat.le_trans hA hT.size⟩
    · exact ⟨hO [] x0 _ _ w W1 hx0 (fun _ h => h.elim) hT1 (fun k hk => by
        rcases (pl _ _).1 hk with h | h
        · exact h.elim
        · exact ⟨Or.inr (by omega), by omega⟩), Nat.le_refl _⟩
    · rintro M pre y W ⟨hi, hl⟩ hM hA hy
      exact hN _ _ _ _ (fun x hx => ⟨hx, hA⟩) (hnext (plus M) pre y W hi (up hM hA) (by omega) hy)
    · -- ONE ROUND
      rintro M pre x W ⟨hi, hl⟩ hM hA hokp hok1
      have hok : fresh x → ok (plus M) pre x W := fun h => (hok1 h).1
      have hy := run_yield (P := P) (args := encs x) hl (by rw [hrec]; exact hps x)
      rw [hrec] at hy
      refine ⟨fn, _, assign, body, hy, roundIn_of_wpIn hfn (hassign _ (plus M) pre x W _ hi (up hM hA) hokp hok fun a' W' hT' hax => ?_)⟩
      have hl' : W'.heap[w.heap.size]? = some (.loop (rec .ready none)) := hT'.heap hl (fun h => h)
      have hA' : W1.heap.size ≤ W'.heap.size := Nat.le_trans hA hT'.size
      have hM1 : ∀ k, M k → W1.heap.size ≤ k ∧ k < W'.heap.size := fun k h => ⟨(hM k h).1, Nat.lt_of_lt_of_le (hM k h).2 hT'.size⟩
      refine ⟨_, run_beginRound hl' (by rw [hrec]), ?_⟩
      obtain ⟨W2, hW2⟩ : ∃ W2, W'.putObj w.heap.size (.loop { rec .ready none with state := .busy }) = W2 := ⟨_, rfl⟩
      have hlt' : w.heap.size < W'.heap.size := by omega
      have hs2 : W2.heap.size = W'.heap.size := by rw [← hW2]; simp
      have hl2 : W2.heap[w.heap.size]? = some (.loop { rec .ready none with state := .busy }) := by rw [← hW2]; exact World.putObj_heap_same hlt'
      have hT2 : Turns (plus M) W' W2 := by rw [← hW2]; exact Turns.putObj _ _ _ ((pl _ _).2 (.inr rfl))
      rw [hW2]
      have hi2 : I (plus M) pre W2 := lift (hI pre) M M W W2 hi hA hM ((hT'.mono fun _ _ h => h.elim).trans hT2) (fun k h => ⟨.inl h, by have := (hM1 k h).2; omega⟩)
      have hax2 : Ax x a' (plus M) W2 := lift (hAx x a') M M W' W2 hax hA' hM1 hT2 (fun k h => ⟨.inl h, by have := (hM1 k h).2; omega⟩)
      have hok2 : fresh x → ok (plus M) pre x W2 := fun hf => lift (hO pre x) M M W W2 (hok hf) hA hM ((hT'.mono fun _ _ h => h.elim).trans hT2) (fun k h => ⟨.inl h, by have := (hM1 k h).2; omega⟩)
      refine wpIn_mono (hbody _ (plus M) pre x a' W2 ((pl _ _).2 (.inr rfl)) ⟨_, hl2⟩ hi2 (up (fun k h => ⟨(hM1 k h).1, by rw [hs2]; exact (hM1 k h).2⟩) (by omega)) (by omega) hokp hok2 hax2) ?_
      have hTW : Turns (fun k => Fr k ∧ ¬ M k) W W2 := (hT'.mono fun _ _ h => h.elim).trans (by rw [← hW2]; exact Turns.putObj _ _ _ ⟨hFr _ (by omega), nL hM⟩)
      have fin : ∀ (jump : Option Code) (W3 : World), Turns (fun k => Fr k ∧ ¬ plus M k) W2 W3 → ∃ W4,
          (Instr.endRound w.heap.size jump).run P W3 = .ok (.bool jump.isNone) W4 ∧ W4.heap[w.heap.size]? = some (.loop (rec (if jump.isNone then .ready else .done) jump)) ∧
          Turns (plus M) W3 W4 ∧ Turns (fun k => Fr k ∧ ¬ M k) W W4 ∧ W4.heap.size = W3.heap.size := fun jump W3 hk3 => by
        have hl3 := hk3.heap hl2 (fun h => h.2 ((pl _ _).2 (.inr rfl)))
        have := run_endRound (P := P) jump hl3
        refine ⟨_, this, ?_, ?_, ?_, by simp⟩
        · rw [hrec]; exact World.putObj_heap_same (Array.getElem?_eq_some_iff.1 hl3).1
        · exact Turns.putObj _ _ _ ((pl _ _).2 (.inr rfl))
        · exact (hTW.trans (hk3.mono fun k _ h => ⟨h.1, fun m => h.2 ((pl _ _).2 (.inl m))⟩)).trans (Turns.putObj _ _ _ ⟨hFr _ (by omega), nL hM⟩)
      have hM3 : ∀ {W3 : World}, W2.heap.size ≤ W3.heap.size → ∀ k, M k → W1.heap.size ≤ k ∧ k < W3.heap.size := fun h k m => by have := hM1 k m; omega
      rintro e a3 W3 hp
      cases e with
      | normal =>
        obtain ⟨hk3, hi3⟩ := hp
        obtain ⟨W4, hr, hl4, ht4, hT4, hs4⟩ := fin none W3 hk3
        have h3 := hM3 hk3.size
        have h23 := hk3.size
        exact ⟨_, _, hr, .inl ⟨rfl, ⟨lift (hI _) M M W3 W4 hi3 (by omega) h3 ht4 (fun k h => ⟨.inl h, by rw [hs4]; exact (h3 k h).2⟩), hl4⟩, hT4⟩⟩
      | ret =>
        obtain ⟨hk3, hi3⟩ := hp
        obtain ⟨W4, hr, hl4, ht4, hT4, hs4⟩ := fin (some .ret) W3 hk3
        have h3 := hM3 hk3.size
        have h23 := hk3.size
        exact ⟨_, _, hr, .inr ⟨rfl, ⟨.ret, lift (hIx _ _) M M W3 W4 hi3 (by omega) h3 ht4 (fun k h => ⟨.inl h, by rw [hs4]; exact (h3 k h).2⟩), hl4⟩, hT4⟩⟩
      | exit id =>
        obtain ⟨hk3, hi3⟩ := hp
        obtain ⟨W4, hr, hl4, ht4, hT4, hs4⟩ := fin (some (.exit id)) W3 hk3
        have h3 := hM3 hk3.size
        have h23 := hk3.size
        exact ⟨_, _, hr, .inr ⟨rfl, ⟨.exit id, lift (hIx _ _) M M W3 W4 hi3 (by omega) h3 ht4 (fun k h => ⟨.inl h, by rw [hs4]; exact (h3 k h).2⟩), hl4⟩, hT4⟩⟩
      | goto t =>
        obtain ⟨hk3, hi3⟩ := hp
        obtain ⟨W4, hr, hl4, ht4, hT4, hs4⟩ := fin (some (.goto t)) W3 hk3
        have h3 := hM3 hk3.size
        have h23 := hk3.size
        exact ⟨_, _, hr, .inr ⟨rfl, ⟨.goto t, lift (hIx _ _) M M W3 W4 hi3 (by omega) h3 ht4 (fun k h => ⟨.inl h, by rw [hs4]; exact (h3 k h).2⟩), hl4⟩, hT4⟩⟩
      | panic ch => exact hp.elim
      | outgrown => exact hp.elim
    · -- BEHIND THE ITERATOR
      have last : ∀ {p : (Nat → Prop) → World → Prop}, Ab w.heap.size p → ∀ (M : Nat → Prop) (W2 : World) (o : Obj), p (plus M) W2 → W1.heap.size ≤ W2.heap.size → (∀ k, M k → W1.heap.size ≤ k ∧ k < W2.heap.size) → p (plus M) (W2.putObj w.heap.size o) := fun hp M W2 o h hA hM =>
        lift hp M M W2 _ h hA hM (Turns.putObj _ _ _ ((pl _ _).2 (.inr rfl))) (fun k m => ⟨.inl m, by rw [World.putObj_size]; exact (hM k m).2⟩)
      rintro e W2 ⟨⟨v, rfl⟩, (⟨M, xs, hS, ⟨hi, hl⟩, hM⟩ | ⟨M, pre, ⟨c, hi, hl⟩, hM⟩)⟩
      · have hA : W1.heap.size ≤ W2.heap.size := by have := (Array.getElem?_eq_some_iff.1 hl).1; omega
        exact ⟨none, _, by have := run_endLoop (P := P) hl (by rw [hrec]; simp); rw [hrec] at this; exact this, hdone _ xs _ (fun k h => by rw [World.putObj_size]; exact up hM hA k h) hS (last (hI xs) M W2 _ hi hA hM)⟩
      · have hA : W1.heap.size ≤ W2.heap.size := by have := (Array.getElem?_eq_some_iff.1 hl).1; omega
        exact ⟨some c, _, by have := run_endLoop (P := P) hl (by rw [hrec]; simp); rw [hrec] at this; exact this, hstop _ c pre _ (fun k h => by rw [World.putObj_size]; exact up hM hA k h) (last (hIx c pre) M W2 _ hi hA hM)⟩
end Go.Proofs.YtmmhpibkjdlkgaaGreat
namespace Go.Proofs.YtmmhpibkjdlkgaaGreat
open Go Go.RowKit Go.Shelf

attribute [local go_sem] Oper.semAt_some

/-- At these three cells stands a type that is none, or is not. -/
def NoneAt (W : World) (b o : Nat) (v : Bool) : Prop := ∃ (t : Tp.T) (a : Option Addr) (cap : Nat), W.cell? ⟨b, o, none⟩ = some (.int .i64 t.kind) ∧ W.cell? ⟨b, o + 1, none⟩ = some (.int .i64 t.num) ∧ W.cell? ⟨b, o + 2, none⟩ = some (.slice a t.kids.length cap) ∧ Tp.none t = v
theorem NoneAt.below {n : Nat} {W W' : World} {b o : Nat} {v : Bool} (h : NoneAt W b o v) (hb : Below n W W') (hn : b < n) : NoneAt W' b o v := by
  obtain ⟨t, a, cap, h0, h1, h2, h3⟩ := h
  exact ⟨t, a, cap, (hb.cell (p := ⟨b, o, none⟩) hn).trans h0, (hb.cell (p := ⟨b, o + 1, none⟩) hn).trans h1, (hb.cell (p := ⟨b, o + 2, none⟩) hn).trans h2, h3⟩
def annL (b o : Nat) (bA bB : Bool) : List (Option Addr) := (if bA then [] else [some ⟨b, o + 8, none⟩]) ++ (if bB then [] else [some ⟨b, o + 11, none⟩])
def annNext (b o : Nat) (bB : Bool) (W : World) (y : Option Addr) (K : Option Addr → Prop) : Prop := y = some ⟨b, o + 8, none⟩ → NoneAt W b (o + 11) bB ∧ (bB = false → K (some ⟨b, o + 11, none⟩))
theorem ownAnn_any (p : Value) (hp : ∃ a, p = .pointer a) (w : World) :
    Calls Tryz.prog 93 #[p] w fun e w' => e = .returned (.func (.func 120) #[] #[.pointer (some ⟨w.heap.size, 0, none⟩)]) ∧ w' = w.alloc (.cells #[p] 68) := by
  obtain ⟨a, rfl⟩ := hp
  go_enter Tryz.func93, Tryz.ntmps93
  go_wp2
  go_ret
  exact ⟨rfl, rfl⟩
theorem turns_below {M : Nat → Prop} {W W' : World} (h : Below W.heap.size W W') : Turns M W W' := ⟨h.os, h.tape, h.output, h.size, fun k hk _ => h.block k hk⟩
set_option maxRecDepth 100000 in
set_option maxHeartbeats 4000000 in
theorem ownAnn_seq (Fr : Nat → Prop) (Be b o : Nat) (bA bB : Bool) (w : World) (c0 : w.cell? ⟨Be, 0, none⟩ = some (.pointer (some ⟨b, o, none⟩))) (hA : NoneAt w b (o + 8) bA) (hB : NoneAt w b (o + 11) bB) (hBe : ¬ Fr Be) (hb : b < w.heap.size) :
    SeqAt Tryz.prog 120 #[.pointer (some ⟨Be, 0, none⟩)] (fun p : Option Addr => #[.pointer p]) (fun xs => xs = annL b o bA bB) (fun pre x => ∃ rest, pre ++ x :: rest = annL b o bA bB) (fun _ => True)
      (if bA then some ⟨b, o + 11, none⟩ else some ⟨b, o + 8, none⟩) (annNext b o bB) Fr w := fun l J Jx ok W hW hJ hJx hO hx0 hnx hY h0 => by
  have k0 := (World.cell?_of_block (a := ⟨Be, 0, none⟩) (hW.block Be (cell_lt c0))).trans c0
  have hBeW : Be < W.heap.size := Nat.lt_of_lt_of_le (cell_lt c0) hW.size
  have hbW : b < W.heap.size := Nat.lt_of_lt_of_le hb hW.size
  have hA1 := hA.below hW hb
  have hB1 := hB.below hW hb
  obtain ⟨tA, aA, cA, a0, a1, a2, a3⟩ := hA1
  replace a1 : W.cell? ⟨b, o + 9, none⟩ = some (.int .i64 tA.num) := a1
  replace a2 : W.cell? ⟨b, o + 10, none⟩ = some (.slice aA tA.kids.length cA) := a2
  have HNA := Lib.hid (fun W => none_any tA aA cA W)
  have HY := Lib.hid hY; have HJ := Lib.hid hJ; have HX := Lib.hid hJx; have HO := Lib.hid hO; have HNX := Lib.hid hnx; have HX0 := Lib.hid hx0; have H0 := Lib.hid h0; have HB1 := Lib.hid hB1; have HBE := Lib.hid hBe; have HBW := Lib.hid hbW; have HBEW := Lib.hid hBeW
  clear hY hJ hJx hO hnx hx0 h0 hB1 hBe c0 hA hB hW hb hbW
  unfold tv at HNA
  rw [a3] at HNA
  refine callsIn_wide (n := 9) |>.1 ?_
  refine callsIn_of_wp Tryz.func120 rfl trivial ?_ rfl
  simp only [Tryz.ntmps120, List.size_toArray, List.length_cons, List.length_nil, Nat.reduceAdd, Nat.reduceSub, Array.replicate_succ, Array.replicate_zero, List.push_toArray, List.append_toArray, List.nil_append, List.cons_append]
  have hjb : ∀ W1, Below W.heap.size W W1 → ∀ pre, J (fun _ => False) pre W → J (fun _ => False) pre W1 := fun W1 hb pre h => HJ.out pre _ _ W W1 h (fun _ h => h.elim) (turns_below hb) (fun _ h => h.elim)
  have HJB := Lib.hid hjb
  clear hjb
  cases bA with
  | true =>
    gi_wp2_with (refine ⟨trivial, ?_⟩; gi_at_call 119; refine (callsIn_wide.2 (HNA.out _)).mono ?_; rintro e w1 ⟨rfl, hb1⟩; have k1 := (World.cell?_of_block (a := ⟨Be, 0, none⟩) (hb1.block Be HBEW.out)).trans k0; have HB2 := Lib.hid hb1; clear hb1 k0 a0 a1 a2)
    refine ⟨fun _ h => (by cases h), ?_⟩
    have HSZ := Lib.hid HB2.out.size
    have hj1 := HJB.out _ HB2.out [] H0.out
    have HJ1 := Lib.hid hj1
    have ho1 := HO.out [] _ (fun _ => False) (fun _ => False) W w1 HX0.out (fun _ h => h.elim) (turns_below HB2.out) (fun _ h => h.elim)
    have HO1 := Lib.hid ho1
    clear hj1 ho1
    obtain ⟨tB, aB, cB, b0, b1, b2, b3⟩ := HB1.out.below HB2.out HBW.out
    replace b1 : w1.cell? ⟨b, o + 12, none⟩ = some (.int .i64 tB.num) := b1
    replace b2 : w1.cell? ⟨b, o + 13, none⟩ = some (.slice aB tB.kids.length cB) := b2
    have HNB := Lib.hid (fun W => none_any tB aB cB W)
    unfold tv at HNB
    rw [b3] at HNB
    clear b3
    cases bB with
    | true =>
      gi_wp2_with (refine ⟨trivial, ?_⟩; gi_at_call 119; refine (callsIn_wide.2 (HNB.out _)).mono ?_; rintro e w9 ⟨rfl, hb9⟩; have k9 := (World.cell?_of_block (a := ⟨Be, 0, none⟩) (hb9.block Be (Nat.lt_of_lt_of_le HBEW.out HSZ.out))).trans k1; have HB9 := Lib.hid hb9; clear hb9 k1 b0 b1 b2)
      go_end0
      exact ⟨⟨_, rfl⟩, .inl ⟨fun _ => False, [], rfl, HJ.out _ (fun _ => False) (fun _ => False) w1 w9 HJ1.out (fun _ h => h.elim) (turns_below HB9.out) (fun _ h => h.elim), fun _ h => h.elim⟩⟩
    | false =>
      gi_wp2_with (refine ⟨trivial, ?_⟩; gi_at_call 119; refine (callsIn_wide.2 (HNB.out _)).mono ?_; rintro e w9 ⟨rfl, hb9⟩; have k9 := (World.cell?_of_block (a := ⟨Be, 0, none⟩) (hb9.block Be (Nat.lt_of_lt_of_le HBEW.out HSZ.out))).trans k1; have HB9 := Lib.hid hb9; obtain ⟨fn, tmps, assign, body, hy, hRd⟩ := HY.out (fun _ => False) [] (some ⟨b, o + 11, none⟩) w9 (HJ.out _ (fun _ => False) (fun _ => False) w1 w9 HJ1.out (fun _ h => h.elim) (turns_below hb9) (fun _ h => h.elim)) (fun _ h => h.elim) (Nat.le_trans HSZ.out hb9.size) ⟨[], rfl⟩ (fun _ => HO.out _ _ (fun _ => False) (fun _ => False) w1 w9 HO1.out (fun _ h => h.elim) (turns_below hb9) (fun _ h => h.elim)); replace hy : (Instr.yield l #[.pointer ((some ⟨b, o + 11, none⟩))]).run Tryz.prog w9 = _ := hy; clear hb9 k1 b0 b1 b2)
      refine hRd.mono ?_
      rintro e w8 (⟨rfl, hj8, hT8⟩ | ⟨rfl, hj8, hT8⟩)
      · clear hy hRd
        gi_wp2
        go_end0
        exact ⟨⟨_, rfl⟩, .inl ⟨fun _ => False, _, rfl, hj8, fun _ h => h.elim⟩⟩
      · clear hy hRd
        gi_wp2
        go_end0
        exact ⟨⟨_, rfl⟩, .inr ⟨fun _ => False, _, hj8, fun _ h => h.elim⟩⟩
  | false =>
    gi_wp2_with (refine ⟨trivial, ?_⟩; gi_at_call 119; refine (callsIn_wide.2 (HNA.out _)).mono ?_; rintro e w1 ⟨rfl, hb1⟩; have k1 := (World.cell?_of_block (a := ⟨Be, 0, none⟩) (hb1.block Be HBEW.out)).trans k0; have HB2 := Lib.hid hb1; obtain ⟨fn, tmps, assign, body, hy, hRd⟩ := HY.out (fun _ => False) [] (some ⟨b, o + 8, none⟩) w1 (HJB.out _ hb1 [] H0.out) (fun _ h => h.elim) hb1.size ⟨(if bB then [] else [some ⟨b, o + 11, none⟩]), rfl⟩ (fun _ => HO.out [] _ (fun _ => False) (fun _ => False) W w1 HX0.out (fun _ h => h.elim) (turns_below hb1) (fun _ h => h.elim)); replace hy : (Instr.yield l #[.pointer ((some ⟨b, o + 8, none⟩))]).run Tryz.prog w1 = _ := hy; clear hb1 k0 a0 a1 a2)
    refine hRd.mono ?_
    rintro e w2 (⟨rfl, hj2, hT2⟩ | ⟨rfl, hj2, hT2⟩)
    · clear hy hRd
      have k2 := (World.cell?_of_block (a := ⟨Be, 0, none⟩) (hT2.block Be (Nat.lt_of_lt_of_le HBEW.out HB2.out.size) (fun h => HBE.out h.1))).trans k1
      have HSZ := Lib.hid (Nat.le_trans HB2.out.size hT2.size)
      obtain ⟨⟨tB, aB, cB, b0, b1, b2, b3⟩, hok⟩ := HNX.out (fun _ => False) _ (some ⟨b, o + 8, none⟩) w2 hj2 (fun _ h => h.elim) HSZ.out (List.mem_append_right _ (List.mem_singleton.2 rfl)) rfl
      have HJ2 := Lib.hid hj2; have HOK := Lib.hid hok
      clear hj2 hT2 hok k1
      replace b1 : w2.cell? ⟨b, o + 12, none⟩ = some (.int .i64 tB.num) := b1
      replace b2 : w2.cell? ⟨b, o + 13, none⟩ = some (.slice aB tB.kids.length cB) := b2
      have HNB := Lib.hid (fun W => none_any tB aB cB W)
      unfold tv at HNB
      rw [b3] at HNB
      clear b3
      cases bB with
      | true =>
        gi_wp2_with (refine ⟨trivial, ?_⟩; gi_at_call 119; refine (callsIn_wide.2 (HNB.out _)).mono ?_; rintro e w9 ⟨rfl, hb9⟩; have k9 := (World.cell?_of_block (a := ⟨Be, 0, none⟩) (hb9.block Be (Nat.lt_of_lt_of_le HBEW.out HSZ.out))).trans k2; have HB9 := Lib.hid hb9; clear hb9 k2 b0 b1 b2)
        go_end0
        exact ⟨⟨_, rfl⟩, .inl ⟨fun _ => False, ([] ++ [some ⟨b, o + 8, none⟩]), rfl, HJ.out _ (fun _ => False) (fun _ => False) w2 w9 HJ2.out (fun _ h => h.elim) (turns_below HB9.out) (fun _ h => h.elim), fun _ h => h.elim⟩⟩
      | false =>
        gi_wp2_with (refine ⟨trivial, ?_⟩; gi_at_call 119; refine (callsIn_wide.2 (HNB.out _)).mono ?_; rintro e w9 ⟨rfl, hb9⟩; have k9 := (World.cell?_of_block (a := ⟨Be, 0, none⟩) (hb9.block Be (Nat.lt_of_lt_of_le HBEW.out HSZ.out))).trans k2; have HB9 := Lib.hid hb9; obtain ⟨fn, tmps, assign, body, hy, hRd⟩ := HY.out (fun _ => False) ([] ++ [some ⟨b, o + 8, none⟩]) (some ⟨b, o + 11, none⟩) w9 (HJ.out _ (fun _ => False) (fun _ => False) w2 w9 HJ2.out (fun _ h => h.elim) (turns_below hb9) (fun _ h => h.elim)) (fun _ h => h.elim) (Nat.le_trans HSZ.out hb9.size) ⟨[], rfl⟩ (fun _ => HO.out _ _ (fun _ => False) (fun _ => False) w2 w9 (HOK.out (by simp)) (fun _ h => h.elim) (turns_below hb9) (fun _ h => h.elim)); replace hy : (Instr.yield l #[.pointer ((some ⟨b, o + 11, none⟩))]).run Tryz.prog w9 = _ := hy; clear hb9 k2 b0 b1 b2)
        refine hRd.mono ?_
        rintro e w8 (⟨rfl, hj8, hT8⟩ | ⟨rfl, hj8, hT8⟩)
        · clear hy hRd
          gi_wp2
          go_end0
          exact ⟨⟨_, rfl⟩, .inl ⟨fun _ => False, _, rfl, hj8, fun _ h => h.elim⟩⟩
        · clear hy hRd
          gi_wp2
          go_end0
          exact ⟨⟨_, rfl⟩, .inr ⟨fun _ => False, _, hj8, fun _ h => h.elim⟩⟩
    · clear hy hRd k1
      gi_wp2
      refine bodyPost_ret (results_none (by kernel_rfl) _ _ _) rfl ?_
      exact ⟨⟨_, rfl⟩, .inr ⟨fun _ => False, _, hj2, fun _ h => h.elim⟩⟩
end Go.Proofs.YtmmhpibkjdlkgaaGreat
