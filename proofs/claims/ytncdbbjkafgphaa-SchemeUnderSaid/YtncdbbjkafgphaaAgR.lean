/- A range over an iterator whose state is said of the world at hand: what the iterator owes is said of states, what a round owes is the next state. Plain facts on types that agree, and their meet. agree.both: its stack, and what a walk over two rows of types is told. -/
import Derived.Test.YtncdbbjkafgphaaTyR
import Derived.Test.YtncdbbjkafgphaaTpP
import Derived.Test.YtncdbbjkafgphaaTyN
namespace Go.Proofs.Ytncdbbjkafgphaa
open Go Go.RowKit

/-- WHAT THE ITERATOR OWES: from state s0 on; 'At s x' says what it hands over at a state, 'Rd' what it reads at one, 'Go' what state is next, of the world behind the round. -/
def SeqSt {σ α : Type} (P : Program) (g : Nat) (lb : Array Value) (encs : α → Array Value) (Done : σ → Prop) (At : σ → α → Prop) (Go : σ → α → World → σ → Prop) (Rd : σ → World → Prop) (s0 : σ) (Fr : Nat → Prop) (w : World) : Prop :=
  ∀ (l : Nat) (J Jx : (Nat → Prop) → σ → World → Prop) (W : World), Below w.heap.size w W → (∀ s, Ab W.heap.size fun M W' => J M s W') → (∀ s, Ab W.heap.size fun M W' => Jx M s W') →
    (∀ M s W1, J M s W1 → (∀ k, M k → W.heap.size ≤ k ∧ k < W1.heap.size) → W.heap.size ≤ W1.heap.size → Rd s W1) →
    (∀ M s x W1, J M s W1 → (∀ k, M k → W.heap.size ≤ k ∧ k < W1.heap.size) → W.heap.size ≤ W1.heap.size → At s x → YieldAt Fence.wide 8 P l (encs x) W1 fun e W' =>
      (e = .returned (.bool true) ∧ (∃ s', Go s x W' s' ∧ J M s' W') ∧ Turns (fun k => Fr k ∧ ¬ M k) W1 W') ∨ (e = .returned (.bool false) ∧ Jx M s W' ∧ Turns (fun k => Fr k ∧ ¬ M k) W1 W')) →
    J (fun _ => False) s0 W →
    Calls P g (#[.func (.yield l) #[] #[]] ++ lb) W fun e W' => (∃ v, e = .returned v) ∧
      ((∃ M s, Done s ∧ J M s W' ∧ ∀ k, M k → W.heap.size ≤ k ∧ k < W'.heap.size) ∨ (∃ M s, Jx M s W' ∧ ∀ k, M k → W.heap.size ≤ k ∧ k < W'.heap.size))

/-- HOW THE BODY OF A ROUND MAY BE LEFT. -/
def stPost {σ α : Type} (Go : σ → α → World → σ → Prop) (Fr : Nat → Prop) (M : Nat → Prop) (I : (Nat → Prop) → σ → World → Prop) (Ix : Code → (Nat → Prop) → σ → World → Prop) (s : σ) (x : α) (W : World) : Exit → Act → World → Prop
  | .normal, _, W' => Turns (fun k => Fr k ∧ ¬ M k) W W' ∧ ∃ s', Go s x W' s' ∧ I M s' W'
  | .ret, _, W' => Turns (fun k => Fr k ∧ ¬ M k) W W' ∧ Ix .ret M s W'
  | .exit id, _, W' => Turns (fun k => Fr k ∧ ¬ M k) W W' ∧ Ix (.exit id) M s W'
  | .goto t, _, W' => Turns (fun k => Fr k ∧ ¬ M k) W W' ∧ Ix (.goto t) M s W'
  | .panic _, _, _ => False
  | .outgrown, _, _ => False

/-- **THE STATEMENT's LAW.** -/
theorem wpIn_range_st {P : Program} {σ α : Type} {g : Operand} {ps : Array Tmp} {assign body : Code} {Q : Exit → Act → World → Prop} {a : Act} {w : World}
    {gf : Nat} {lb : Array Value} (hg : a.eval g = .func (.func gf) #[] lb) (eg : ∀ args w, (callFunc gf args).run P w = .ok (.enter gf args) w)
    {encs : α → Array Value} {Done : σ → Prop} {At : σ → α → Prop} {Go : σ → α → World → σ → Prop} {Rd : σ → World → Prop} {s0 : σ} {Fr : Nat → Prop} {w0 : World} (hseq : SeqSt P gf lb encs Done At Go Rd s0 Fr w0)
    (hG : ∀ s x (A B : World) s', (∀ b o, b < A.heap.size → A.cell? ⟨b, o, none⟩ ≠ none → B.cell? ⟨b, o, none⟩ = A.cell? ⟨b, o, none⟩) → Go s x A s' → Go s x B s') (hb0 : Below w0.heap.size w0 w) (hFr : ∀ k, w.heap.size ≤ k → Fr k) (hps : ∀ x, (encs x).size = ps.size)
    (I : (Nat → Prop) → σ → World → Prop) (Ix : Code → (Nat → Prop) → σ → World → Prop) (Ax : α → Act → (Nat → Prop) → World → Prop)
    (hI : ∀ s, Ab w.heap.size fun M W => I M s W) (hIx : ∀ c s, Ab w.heap.size fun M W => Ix c M s W) (hAx : ∀ x a', Ab w.heap.size fun M W => Ax x a' M W) (h0 : I (fun _ => False) s0 w)
    (hrd : ∀ M s W, I M s W → (∀ k, M k → w.heap.size ≤ k ∧ k < W.heap.size) → w.heap.size ≤ W.heap.size → Rd s W)
    (hassign : ∀ (l : Nat) (M : Nat → Prop) (s : σ) (x : α) (W : World) (K : Act → World → Prop), I M s W → (∀ k, M k → w.heap.size ≤ k ∧ k < W.heap.size) → w.heap.size ≤ W.heap.size → At s x →
      (∀ a' W', Turns (fun _ => False) W W' → Ax x a' M W' → K a' W') →
      assign.wpIn (Fence.wide.inRound l) 8 P (Exit.then K (fun _ _ _ => False)) { tmps := (ps.zip (encs x)).foldl (fun t (p, v) => t.setIfInBounds p v) a.tmps, defers := [] } W)
    (hbody : ∀ (l : Nat) (M : Nat → Prop) (s : σ) (x : α) (a' : Act) (W : World), I M s W → (∀ k, M k → w.heap.size ≤ k ∧ k < W.heap.size) → w.heap.size ≤ W.heap.size → At s x → Ax x a' M W →
      body.wpIn (Fence.wide.inRound l) 8 P (stPost Go Fr M I Ix s x W) a' W)
    (hdone : ∀ (D : Nat) (M : Nat → Prop) (s : σ) (W : World), w.heap.size ≤ D → M D → (∀ k, M k → w.heap.size ≤ k ∧ k < W.heap.size) → Done s → I M s W → W.heap[D]? = some (.deferred (some [])) → Q .normal { a with defers := { target := .collected D, args := #[] } :: a.defers } W)
    (hstop : ∀ (D : Nat) (M : Nat → Prop) (c : Code) (s : σ) (W : World), w.heap.size ≤ D → M D → (∀ k, M k → w.heap.size ≤ k ∧ k < W.heap.size) → Ix c M s W → W.heap[D]? = some (.deferred (some [])) → c.wpIn Fence.wide 9 P Q { a with defers := { target := .collected D, args := #[] } :: a.defers } W) :
    (Code.rangeFunc g ps assign body).wpIn Fence.wide 9 P Q a w := by
  refine wpIn_rangeFunc ?_
  intro fn hfn
  rw [show Fence.wide.round = none from rfl]
  obtain ⟨rec, hrec⟩ : ∃ rec : LoopState → Option Code → Loop, rec = fun st pe => { state := st, pending := pe, fn, tmps := a.tmps, params := ps, assign, body, defers := w.heap.size } := ⟨_, rfl⟩
  obtain ⟨W1, hW1⟩ : ∃ W1, (w.alloc (.deferred (some []))).alloc (.loop (rec .ready none)) = W1 := ⟨_, rfl⟩
  have hsz : W1.heap.size = w.heap.size + 2 := by rw [← hW1]; simp
  have hL1 : W1.heap[w.heap.size + 1]? = some (.loop (rec .ready none)) := by
    rw [← hW1]; have := World.alloc_heap_new (w.alloc (.deferred (some []))) (.loop (rec .ready none)); rwa [World.size_alloc] at this
  have hK1 : W1.heap[w.heap.size]? = some (.deferred (some [])) := by
    rw [← hW1]; exact (Below.heap_alloc _ _ _ (by simp)).trans (World.alloc_heap_new w _)
  have hT1 : Turns (fun _ => False) w W1 := by rw [← hW1]; exact (Turns.alloc _ _ _).trans (Turns.alloc _ _ _)
  have hb1 : Below w0.heap.size w0 W1 := hT1.below hb0 (fun _ h => h.elim) hb0.size
  obtain ⟨plus, hplus⟩ : ∃ plus : (Nat → Prop) → Nat → Prop, plus = fun M k => M k ∨ k = w.heap.size ∨ k = w.heap.size + 1 := ⟨_, rfl⟩
  have pl : ∀ M k, plus M k ↔ (M k ∨ k = w.heap.size ∨ k = w.heap.size + 1) := fun M k => by rw [hplus]
  have hI1 : I (plus fun _ => False) s0 W1 := hI s0 _ _ w W1 h0 (fun _ h => h.elim) hT1 (fun k hk => by
    rcases (pl _ _).1 hk with h | h
    · exact h.elim
    · exact ⟨Or.inr (by omega), by omega⟩)
  refine ⟨w.heap.size + 1, [{ target := .collected w.heap.size, args := #[] }], W1, { target := .fn (.func gf) lb, args := #[.func (.yield (w.heap.size + 1)) #[] #[]] }, W1, gf,
    #[.func (.yield (w.heap.size + 1)) #[] #[]] ++ lb, W1, ?_, ?_, ?_, ?_, fun h => (by cases h), ?_⟩
  · rw [← hW1, hrec]; exact run_enterLoop_outer _ _ _ _ _
  · simp only [resolve, hg]
    simp [go_sem]
  · intro f' _; trivial
  · simp [invoke, go_sem, eg]
  · refine callsIn_wide.2 ?_
    -- the blocks of whoever owns M, the loop's two beside them
    have up : ∀ {M : Nat → Prop} {A : World}, (∀ k, M k → W1.heap.size ≤ k ∧ k < A.heap.size) → W1.heap.size ≤ A.heap.size → ∀ k, plus M k → w.heap.size ≤ k ∧ k < A.heap.size := fun h hA k hk => by
      rcases (pl _ _).1 hk with x | x
      · have := h k x; omega
      · omega
    have nL : ∀ {M : Nat → Prop} {A : World}, (∀ k, M k → W1.heap.size ≤ k ∧ k < A.heap.size) → ¬ M (w.heap.size + 1) := fun h x => by have := h _ x; omega
    have nD : ∀ {M : Nat → Prop} {A : World}, (∀ k, M k → W1.heap.size ≤ k ∧ k < A.heap.size) → ¬ M w.heap.size := fun h x => by have := h _ x; omega
    -- what abides M's steps abides them with the loop's two blocks beside
    have lift : ∀ {p : (Nat → Prop) → World → Prop}, Ab w.heap.size p → ∀ (M M' : Nat → Prop) (A B : World), p (plus M) A → W1.heap.size ≤ A.heap.size → (∀ k, M k → W1.heap.size ≤ k ∧ k < A.heap.size) → Turns (plus M) A B → (∀ k, M' k → (M k ∨ A.heap.size ≤ k) ∧ k < B.heap.size) → p (plus M') B :=
      fun hp M M' A B h hA hM hT hM' => hp _ _ A B h (up hM hA) hT (fun k hk => by
        have := hT.size
        rcases (pl _ _).1 hk with x | x
        · obtain ⟨y, z⟩ := hM' k x
          exact ⟨y.elim (fun y => .inl ((pl _ _).2 (.inl y))) .inr, z⟩
        · exact ⟨.inl ((pl _ _).2 (.inr x)), by omega⟩)
    refine (hseq (w.heap.size + 1)
      (fun M pre W => I (plus M) pre W ∧ W.heap[w.heap.size + 1]? = some (.loop (rec .ready none)) ∧ W.heap[w.heap.size]? = some (.deferred (some [])))
      (fun M pre W => ∃ c, Ix c (plus M) pre W ∧ W.heap[w.heap.size + 1]? = some (.loop (rec .done (some c))) ∧ W.heap[w.heap.size]? = some (.deferred (some [])))
      W1 hb1 ?_ ?_ ?_ ?_ ⟨hI1, hL1, hK1⟩).mono ?_
    · rintro s M M' A B ⟨hi, hl, hk⟩ hM hT hM'
      have hA : W1.heap.size ≤ A.heap.size := by have := (Array.getElem?_eq_some_iff.1 hl).1; omega
      exact ⟨lift (hI s) M M' A B hi hA hM (hT.mono fun k _ h => (pl _ _).2 (.inl h)) hM', hT.heap hl (nL hM), hT.heap hk (nD hM)⟩
    · rintro s M M' A B ⟨c, hi, hl, hk⟩ hM hT hM'
      have hA : W1.heap.size ≤ A.heap.size := by have := (Array.getElem?_eq_some_iff.1 hl).1; omega
      exact ⟨c, lift (hIx c s) M M' A B hi hA hM (hT.mono fun k _ h => (pl _ _).2 (.inl h)) hM', hT.heap hl (nL hM), hT.heap hk (nD hM)⟩
    · rintro M s W ⟨hi, hl, hk⟩ hM hA
      exact hrd (plus M) s W hi (up hM hA) (by omega)
    · -- ONE ROUND
      rintro M s x W ⟨hi, hl, hk⟩ hM hA hok
      have hy := run_yield (P := P) (args := encs x) hl (by rw [hrec]; exact hps x)
      rw [hrec] at hy
      refine ⟨fn, _, assign, body, hy, roundIn_of_wpIn hfn (hassign _ (plus M) s x W _ hi (up hM hA) (by omega) hok fun a' W' hT' hax => ?_)⟩
      have hl' : W'.heap[w.heap.size + 1]? = some (.loop (rec .ready none)) := hT'.heap hl (fun h => h)
      have hk' : W'.heap[w.heap.size]? = some (.deferred (some [])) := hT'.heap hk (fun h => h)
      have hA' : W1.heap.size ≤ W'.heap.size := Nat.le_trans hA hT'.size
      have hM1 : ∀ k, M k → W1.heap.size ≤ k ∧ k < W'.heap.size := fun k h => ⟨(hM k h).1, Nat.lt_of_lt_of_le (hM k h).2 hT'.size⟩
      refine ⟨_, run_beginRound hl' (by rw [hrec]), ?_⟩
      obtain ⟨W2, hW2⟩ : ∃ W2, W'.putObj (w.heap.size + 1) (.loop { rec .ready none with state := .busy }) = W2 := ⟨_, rfl⟩
      have hlt' : w.heap.size + 1 < W'.heap.size := by omega
      have hs2 : W2.heap.size = W'.heap.size := by rw [← hW2]; simp
      have hl2 : W2.heap[w.heap.size + 1]? = some (.loop { rec .ready none with state := .busy }) := by rw [← hW2]; exact World.putObj_heap_same hlt'
      have hk2 : W2.heap[w.heap.size]? = some (.deferred (some [])) := by rw [← hW2]; exact (World.putObj_heap_other (by omega)).trans hk'
      have hT2 : Turns (plus M) W' W2 := by rw [← hW2]; exact Turns.putObj _ _ _ ((pl _ _).2 (.inr (.inr rfl)))
      rw [hW2]
      have hi2 : I (plus M) s W2 := lift (hI s) M M W W2 hi hA hM ((hT'.mono fun _ _ h => h.elim).trans hT2) (fun k h => ⟨.inl h, by have := (hM1 k h).2; omega⟩)
      have hax2 : Ax x a' (plus M) W2 := lift (hAx x a') M M W' W2 hax hA' hM1 hT2 (fun k h => ⟨.inl h, by have := (hM1 k h).2; omega⟩)
      refine wpIn_mono (hbody _ (plus M) s x a' W2 hi2 (up (fun k h => ⟨(hM1 k h).1, by rw [hs2]; exact (hM1 k h).2⟩) (by omega)) (by omega) hok hax2) ?_
      have hTW : Turns (fun k => Fr k ∧ ¬ M k) W W2 := (hT'.mono fun _ _ h => h.elim).trans (by rw [← hW2]; exact Turns.putObj _ _ _ ⟨hFr _ (by omega), nL hM⟩)
      have fin : ∀ (jump : Option Code) (W3 : World), Turns (fun k => Fr k ∧ ¬ plus M k) W2 W3 → ∃ W4,
          (Instr.endRound (w.heap.size + 1) jump).run P W3 = .ok (.bool jump.isNone) W4 ∧ W4.heap[w.heap.size + 1]? = some (.loop (rec (if jump.isNone then .ready else .done) jump)) ∧
          W4.heap[w.heap.size]? = some (.deferred (some [])) ∧ Turns (plus M) W3 W4 ∧ Turns (fun k => Fr k ∧ ¬ M k) W W4 ∧ W4.heap.size = W3.heap.size ∧ (∀ b o, b < W3.heap.size → W3.cell? ⟨b, o, none⟩ ≠ none → W4.cell? ⟨b, o, none⟩ = W3.cell? ⟨b, o, none⟩) := fun jump W3 hk3 => by
        have hl3 := hk3.heap hl2 (fun h => h.2 ((pl _ _).2 (.inr (.inr rfl))))
        have hd3 := hk3.heap hk2 (fun h => h.2 ((pl _ _).2 (.inr (.inl rfl))))
        have := run_endRound (P := P) jump hl3
        refine ⟨_, this, ?_, ?_, ?_, ?_, by simp, ?_⟩
        · rw [hrec]; exact World.putObj_heap_same (Array.getElem?_eq_some_iff.1 hl3).1
        · exact (World.putObj_heap_other (by omega)).trans hd3
        · exact Turns.putObj _ _ _ ((pl _ _).2 (.inr (.inr rfl)))
        rotate_left
        · intro b o _ hne
          by_cases hb : b = w.heap.size + 1
          · exact absurd (by subst hb; simp [World.cell?, hl3]) hne
          · exact World.cell?_of_block (a := ⟨b, o, none⟩) (World.putObj_heap_other (by dsimp only; omega))
        · exact (hTW.trans (hk3.mono fun k _ h => ⟨h.1, fun m => h.2 ((pl _ _).2 (.inl m))⟩)).trans (Turns.putObj _ _ _ ⟨hFr _ (by omega), nL hM⟩)
      have hM3 : ∀ {W3 : World}, W2.heap.size ≤ W3.heap.size → ∀ k, M k → W1.heap.size ≤ k ∧ k < W3.heap.size := fun h k m => by have := hM1 k m; omega
      rintro e a3 W3 hp
      cases e with
      | normal =>
        obtain ⟨hk3, s', hgo, hi3⟩ := hp
        obtain ⟨W4, hr, hl4, hk4, ht4, hT4, hs4, hc4⟩ := fin none W3 hk3
        have h3 := hM3 hk3.size
        have h23 := hk3.size
        exact ⟨_, _, hr, .inl ⟨rfl, ⟨s', hG _ _ W3 W4 _ hc4 hgo, lift (hI _) M M W3 W4 hi3 (by omega) h3 ht4 (fun k h => ⟨.inl h, by rw [hs4]; exact (h3 k h).2⟩), hl4, hk4⟩, hT4⟩⟩
      | ret =>
        obtain ⟨hk3, hi3⟩ := hp
        obtain ⟨W4, hr, hl4, hk4, ht4, hT4, hs4, _⟩ := fin (some .ret) W3 hk3
        have h3 := hM3 hk3.size
        have h23 := hk3.size
        exact ⟨_, _, hr, .inr ⟨rfl, ⟨.ret, lift (hIx _ _) M M W3 W4 hi3 (by omega) h3 ht4 (fun k h => ⟨.inl h, by rw [hs4]; exact (h3 k h).2⟩), hl4, hk4⟩, hT4⟩⟩
      | exit id =>
        obtain ⟨hk3, hi3⟩ := hp
        obtain ⟨W4, hr, hl4, hk4, ht4, hT4, hs4, _⟩ := fin (some (.exit id)) W3 hk3
        have h3 := hM3 hk3.size
        have h23 := hk3.size
        exact ⟨_, _, hr, .inr ⟨rfl, ⟨.exit id, lift (hIx _ _) M M W3 W4 hi3 (by omega) h3 ht4 (fun k h => ⟨.inl h, by rw [hs4]; exact (h3 k h).2⟩), hl4, hk4⟩, hT4⟩⟩
      | goto t =>
        obtain ⟨hk3, hi3⟩ := hp
        obtain ⟨W4, hr, hl4, hk4, ht4, hT4, hs4, _⟩ := fin (some (.goto t)) W3 hk3
        have h3 := hM3 hk3.size
        have h23 := hk3.size
        exact ⟨_, _, hr, .inr ⟨rfl, ⟨.goto t, lift (hIx _ _) M M W3 W4 hi3 (by omega) h3 ht4 (fun k h => ⟨.inl h, by rw [hs4]; exact (h3 k h).2⟩), hl4, hk4⟩, hT4⟩⟩
      | panic ch => exact hp.elim
      | outgrown => exact hp.elim
    · -- BEHIND THE ITERATOR
      have last : ∀ {p : (Nat → Prop) → World → Prop}, Ab w.heap.size p → ∀ (M : Nat → Prop) (W2 : World) (o : Obj), p (plus M) W2 → W1.heap.size ≤ W2.heap.size → (∀ k, M k → W1.heap.size ≤ k ∧ k < W2.heap.size) → p (plus M) (W2.putObj (w.heap.size + 1) o) := fun hp M W2 o h hA hM =>
        lift hp M M W2 _ h hA hM (Turns.putObj _ _ _ ((pl _ _).2 (.inr (.inr rfl)))) (fun k m => ⟨.inl m, by rw [World.putObj_size]; exact (hM k m).2⟩)
      rintro e W2 ⟨⟨v, rfl⟩, (⟨M, s, hS, ⟨hi, hl, hk⟩, hM⟩ | ⟨M, s, ⟨c, hi, hl, hk⟩, hM⟩)⟩
      · have hA : W1.heap.size ≤ W2.heap.size := by have := (Array.getElem?_eq_some_iff.1 hl).1; omega
        exact ⟨none, _, by have := run_endLoop (P := P) hl (by rw [hrec]; simp); rw [hrec] at this; exact this, hdone _ _ s _ (Nat.le_refl _) ((pl _ _).2 (.inr (.inl rfl))) (fun k h => by rw [World.putObj_size]; exact up hM hA k h) hS (last (hI s) M W2 _ hi hA hM) ((World.putObj_heap_other (by omega)).trans hk)⟩
      · have hA : W1.heap.size ≤ W2.heap.size := by have := (Array.getElem?_eq_some_iff.1 hl).1; omega
        exact ⟨some c, _, by have := run_endLoop (P := P) hl (by rw [hrec]; simp); rw [hrec] at this; exact this, hstop _ _ c s _ (Nat.le_refl _) ((pl _ _).2 (.inr (.inl rfl))) (fun k h => by rw [World.putObj_size]; exact up hM hA k h) (last (hIx c s) M W2 _ hi hA hM) ((World.putObj_heap_other (by omega)).trans hk)⟩
end Go.Proofs.Ytncdbbjkafgphaa
namespace Go.Proofs.Ytncdbbjkafgphaa.Tp
mutual
/-- Do two types agree, if they are right? -/
def agree : T → T → Bool
  | .mk k n l, .mk k' n' l' => if k = 5 then without 6 (.mk k' n' l') else if k' = 5 then without 6 (.mk k n l) else decide (k = k') && decide (n = n') && agrees l l'
def agrees : List T → List T → Bool
  | a :: r, b :: s => agree a b && agrees r s
  | _, _ => true
end
mutual
/-- The meet of types that agree. -/
def meet : T → T → T
  | .mk k n l, .mk k' n' l' => if k = 5 then .mk k' n' l' else if k' = 5 then .mk k n l else .mk k n (meets l l')
def meets : List T → List T → List T
  | a :: r, b :: s => meet a b :: meets r s
  | _, _ => []
end
/-- Is one of two nodes a ?; do two nodes fit, as far as it does not hang on their kids? -/
def ends (x y : T) : Bool := decide (x.kind = 5) || decide (y.kind = 5)
def fit (x y : T) : Bool := if x.kind = 5 then without 6 y else if y.kind = 5 then without 6 x else decide (x.kind = y.kind) && decide (x.num = y.num)
def agz (p : List (T × T)) : Bool := p.all fun q => agree q.1 q.2
theorem agrees_zip : ∀ l m : List T, agrees l m = agz (l.zip m)
  | [], _ => by simp [agrees, agz]
  | _ :: _, [] => by simp [agrees, agz]
  | a :: r, b :: s => by simp only [agrees, List.zip_cons_cons, agz, List.all_cons, agrees_zip r s]
theorem agz_append (p q : List (T × T)) : agz (p ++ q) = (agz p && agz q) := by simp [agz]
theorem agree_node (x y : T) : agree x y = (fit x y && (ends x y || agz (x.kids.zip y.kids))) := by
  cases x with
  | mk k n l =>
    cases y with
    | mk k' n' l' =>
      simp only [agree, fit, ends, T.kind, T.num, T.kids, agrees_zip]
      by_cases h : k = 5
      · simp [h]
      · by_cases h' : k' = 5
        · simp [h, h']
        · simp [h, h']; rfl
theorem right_node {k n : Int} {l : List T} (h : right (.mk k n l) = true) : arity k = l.length ∧ rights l = true ∧ 0 ≤ n ∧ n ≤ 1048576 ∧ (k ≠ 6 → n = 0) := by
  simp only [right, nodeRight, Bool.and_eq_true, decide_eq_true_eq, Bool.or_eq_true] at h
  obtain ⟨⟨⟨⟨h1, h2⟩, h3⟩, h4⟩, h5⟩ := h
  exact ⟨h1, h5, h2, h3, fun h => h4.resolve_left h⟩
theorem right_dyn {n : Int} {l : List T} (h : right (.mk 5 n l) = true) : n = 0 ∧ l = [] := by
  obtain ⟨h1, _, _, _, h5⟩ := right_node h
  refine ⟨h5 (by omega), ?_⟩
  have : l.length = 0 := by simp [arity] at h1; omega
  exact List.length_eq_zero_iff.1 this
theorem kids_len {k n n' : Int} {l l' : List T} (h : right (.mk k n l) = true) (h' : right (.mk k n' l') = true) : l.length = l'.length := by
  have h1 := (right_node h).1
  have h2 := (right_node h').1
  omega
theorem rights_cons {t : T} {r : List T} (h : rights (t :: r) = true) : right t = true ∧ rights r = true := by simpa [rights] using h
mutual
theorem agree_comm : ∀ a b : T, right a = true → right b = true → agree a b = agree b a
  | .mk k n l, .mk k' n' l', ha, hb => by
    simp only [agree]
    by_cases h : k = 5
    · subst h
      by_cases h' : k' = 5
      · subst h'
        obtain ⟨rfl, rfl⟩ := right_dyn ha
        obtain ⟨rfl, rfl⟩ := right_dyn hb
        rfl
      · simp [h']
    · by_cases h' : k' = 5
      · simp [h, h']
      · simp only [h, h', if_false]
        by_cases hk : k = k'
        · subst hk
          rw [agrees_comm l l' (right_node ha).2.1 (right_node hb).2.1, decide_eq_decide.2 (eq_comm (a := n) (b := n'))]
        · have hk' : ¬ k' = k := fun h => hk h.symm
          simp [hk, hk']
theorem agrees_comm : ∀ a b : List T, rights a = true → rights b = true → agrees a b = agrees b a
  | [], [], _, _ => rfl
  | [], _ :: _, _, _ => rfl
  | _ :: _, [], _, _ => rfl
  | a :: r, b :: s, ha, hb => by
    simp only [agrees]
    rw [agree_comm a b (rights_cons ha).1 (rights_cons hb).1, agrees_comm r s (rights_cons ha).2 (rights_cons hb).2]
end
mutual
theorem agree_self : ∀ a : T, right a = true → agree a a = true
  | .mk k n l, ha => by
    simp only [agree]
    by_cases h : k = 5
    · subst h
      obtain ⟨rfl, rfl⟩ := right_dyn ha
      rfl
    · simp only [h, if_false, decide_true, Bool.true_and, agrees_self l (right_node ha).2.1]
theorem agrees_self : ∀ a : List T, rights a = true → agrees a a = true
  | [], _ => rfl
  | a :: r, ha => by simp only [agrees, agree_self a (rights_cons ha).1, agrees_self r (rights_cons ha).2, Bool.and_self]
end
mutual
theorem meet_self : ∀ a : T, meet a a = a
  | .mk k n l => by
    simp only [meet]
    by_cases h : k = 5
    · simp [h]
    · simp only [h, if_false, meets_self l]
theorem meets_self : ∀ a : List T, meets a a = a
  | [] => rfl
  | a :: r => by simp only [meets, meet_self a, meets_self r]
end
mutual
theorem meet_comm : ∀ a b : T, right a = true → right b = true → agree a b = true → meet a b = meet b a
  | .mk k n l, .mk k' n' l', ha, hb, hg => by
    simp only [agree] at hg
    simp only [meet]
    by_cases h : k = 5
    · subst h
      by_cases h' : k' = 5
      · subst h'
        obtain ⟨rfl, rfl⟩ := right_dyn ha
        obtain ⟨rfl, rfl⟩ := right_dyn hb
        rfl
      · simp [h']
    · by_cases h' : k' = 5
      · simp [h, h']
      · simp only [h, h', if_false, Bool.and_eq_true, decide_eq_true_eq] at hg ⊢
        obtain ⟨⟨h1, h2⟩, h3⟩ := hg
        subst h1 h2
        rw [meets_comm l l' (right_node ha).2.1 (right_node hb).2.1 h3]
theorem meets_comm : ∀ a b : List T, rights a = true → rights b = true → agrees a b = true → meets a b = meets b a
  | [], [], _, _, _ => rfl
  | [], _ :: _, _, _, _ => rfl
  | _ :: _, [], _, _, _ => rfl
  | a :: r, b :: s, ha, hb, hg => by
    simp only [agrees, Bool.and_eq_true] at hg
    simp only [meets]
    rw [meet_comm a b (rights_cons ha).1 (rights_cons hb).1 hg.1, meets_comm r s (rights_cons ha).2 (rights_cons hb).2 hg.2]
end
theorem meets_length : ∀ a b : List T, a.length = b.length → (meets a b).length = a.length
  | [], [], _ => rfl
  | a :: r, b :: s, h => by simp only [meets, List.length_cons, meets_length r s (by simpa using h)]
mutual
theorem meet_right : ∀ a b : T, right a = true → right b = true → agree a b = true → right (meet a b) = true
  | .mk k n l, .mk k' n' l', ha, hb, hg => by
    simp only [agree] at hg
    simp only [meet]
    by_cases h : k = 5
    · simpa [h] using hb
    · by_cases h' : k' = 5
      · simpa [h, h'] using ha
      · simp only [h, h', if_false, Bool.and_eq_true, decide_eq_true_eq] at hg ⊢
        obtain ⟨⟨h1, h2⟩, h3⟩ := hg
        subst h1 h2
        have hl := kids_len ha hb
        have hr := meets_right l l' (right_node ha).2.1 (right_node hb).2.1 h3
        simp only [right, meets_length l l' hl, hr, Bool.and_true] at ha ⊢
        exact (Bool.and_eq_true _ _ ▸ ha).1
theorem meets_right : ∀ a b : List T, rights a = true → rights b = true → agrees a b = true → rights (meets a b) = true
  | [], [], _, _, _ => rfl
  | [], _ :: _, _, _, _ => rfl
  | _ :: _, [], _, _, _ => rfl
  | a :: r, b :: s, ha, hb, hg => by
    simp only [agrees, Bool.and_eq_true] at hg
    simp only [meets, rights, meet_right a b (rights_cons ha).1 (rights_cons hb).1 hg.1, meets_right r s (rights_cons ha).2 (rights_cons hb).2 hg.2, Bool.and_self]
end
mutual
theorem without_meet (x : Int) : ∀ a b : T, without x a = true → without x b = true → without x (meet a b) = true
  | .mk k n l, .mk k' n' l', ha, hb => by
    simp only [meet]
    by_cases h : k = 5
    · simpa [h] using hb
    · by_cases h' : k' = 5
      · simpa [h, h'] using ha
      · simp only [h, h', if_false, without, Bool.and_eq_true] at ha hb ⊢
        exact ⟨ha.1, withouts_meets x l l' ha.2 hb.2⟩
theorem withouts_meets (x : Int) : ∀ a b : List T, withouts x a = true → withouts x b = true → withouts x (meets a b) = true
  | [], [], _, _ => rfl
  | [], _ :: _, _, _ => rfl
  | _ :: _, [], _, _ => rfl
  | a :: r, b :: s, ha, hb => by
    simp only [withouts, Bool.and_eq_true] at ha hb
    simp only [meets, withouts, without_meet x a b ha.1 hb.1, withouts_meets x r s ha.2 hb.2, Bool.and_self]
end
theorem meet_alike {k n n' : Int} {l l' : List T} (h : ¬ k = 5) : meet (.mk k n l) (.mk k n' l') = .mk k n (meets l l') := by unfold meet; rw [if_neg h, if_neg h]
theorem agree_alike {k n : Int} {l l' : List T} (h : ¬ k = 5) : agree (.mk k n l) (.mk k n l') = agrees l l' := by unfold agree; rw [if_neg h, if_neg h, decide_eq_true rfl, decide_eq_true rfl]; rfl
mutual
/-- What agrees agrees with its meet, and the meet of that and the first is the meet. -/
theorem agree_meet : ∀ a b : T, right a = true → right b = true → agree a b = true → agree a (meet a b) = true ∧ meet a (meet a b) = meet a b
  | .mk k n l, .mk k' n' l', ha, hb, hg => by
    by_cases h : k = 5
    · subst h
      simp only [agree, if_true] at hg
      simp only [meet, if_true, agree]
      exact ⟨hg, trivial⟩
    · by_cases h' : k' = 5
      · subst h'
        rw [show meet (.mk k n l) (.mk 5 n' l') = .mk k n l from by simp [meet, h]]
        exact ⟨agree_self _ ha, meet_self _⟩
      · simp only [agree, h, h', if_false, Bool.and_eq_true, decide_eq_true_eq] at hg
        obtain ⟨⟨h1, h2⟩, h3⟩ := hg
        subst h1 h2
        obtain ⟨i1, i2⟩ := agrees_meets l l' (right_node ha).2.1 (right_node hb).2.1 (kids_len ha hb) h3
        refine ⟨?_, ?_⟩
        · rw [meet_alike h, agree_alike h]; exact i1
        · rw [meet_alike h, meet_alike h, i2]
  termination_by a => 2 * size a
  decreasing_by all_goals (simp only [size]; omega)
theorem agrees_meets : ∀ a b : List T, rights a = true → rights b = true → a.length = b.length → agrees a b = true → agrees a (meets a b) = true ∧ meets a (meets a b) = meets a b
  | [], [], _, _, _, _ => ⟨rfl, rfl⟩
  | a :: r, b :: s, ha, hb, hl, hg => by
    simp only [agrees, Bool.and_eq_true] at hg
    obtain ⟨i1, i2⟩ := agree_meet a b (rights_cons ha).1 (rights_cons hb).1 hg.1
    obtain ⟨j1, j2⟩ := agrees_meets r s (rights_cons ha).2 (rights_cons hb).2 (by simpa using hl) hg.2
    refine ⟨?_, ?_⟩
    · simp only [meets, agrees, Bool.and_eq_true]; exact ⟨i1, j1⟩
    · simp only [meets]; rw [i2, j2]
  termination_by a => 2 * sizes a + 1
  decreasing_by all_goals (have := size_pos a; simp only [sizes]; omega)
end
mutual
/-- The first is no greater than the meet; a meet of a static one is static. -/
theorem meet_size : ∀ a b : T, right a = true → right b = true → agree a b = true → size a ≤ size (meet a b) ∧ (without 5 a = true → without 5 (meet a b) = true) ∧ size (meet a b) ≤ size a + size b
  | .mk k n l, .mk k' n' l', ha, hb, hg => by
    by_cases h : k = 5
    · subst h
      obtain ⟨rfl, rfl⟩ := right_dyn ha
      simp only [meet, if_true]
      refine ⟨?_, fun h => ?_, by omega⟩
      · simp [size, sizes]
      · simp [without] at h
    · by_cases h' : k' = 5
      · subst h'
        rw [show meet (.mk k n l) (.mk 5 n' l') = .mk k n l from by simp [meet, h]]
        exact ⟨Nat.le_refl _, id, by omega⟩
      · simp only [agree, h, h', if_false, Bool.and_eq_true, decide_eq_true_eq] at hg
        obtain ⟨⟨h1, h2⟩, h3⟩ := hg
        subst h1 h2
        obtain ⟨i1, i2, i3⟩ := meets_size l l' (right_node ha).2.1 (right_node hb).2.1 (kids_len ha hb) h3
        simp only [meet, h, if_false, size, without, Bool.and_eq_true]
        exact ⟨by omega, fun x => ⟨x.1, i2 x.2⟩, by omega⟩
theorem meets_size : ∀ a b : List T, rights a = true → rights b = true → a.length = b.length → agrees a b = true → sizes a ≤ sizes (meets a b) ∧ (withouts 5 a = true → withouts 5 (meets a b) = true) ∧ sizes (meets a b) ≤ sizes a + sizes b
  | [], [], _, _, _, _ => ⟨Nat.le_refl _, id, Nat.zero_le _⟩
  | a :: r, b :: s, ha, hb, hl, hg => by
    simp only [agrees, Bool.and_eq_true] at hg
    obtain ⟨i1, i2, i3⟩ := meet_size a b (rights_cons ha).1 (rights_cons hb).1 hg.1
    obtain ⟨j1, j2, j3⟩ := meets_size r s (rights_cons ha).2 (rights_cons hb).2 (by simpa using hl) hg.2
    simp only [meets, sizes, withouts, Bool.and_eq_true]
    exact ⟨by omega, fun x => ⟨i2 x.1, j2 x.2⟩, by omega⟩
end
mutual
/-- Static types agree just if they are the same. -/
theorem agree_static : ∀ a b : T, right a = true → right b = true → without 5 a = true → without 5 b = true → agree a b = same a b
  | .mk k n l, .mk k' n' l', ha, hb, sa, sb => by
    simp only [without, Bool.and_eq_true, Bool.not_eq_true', decide_eq_false_iff_not] at sa sb
    simp only [agree, same, sa.1, sb.1, if_false]
    by_cases hk : k = k'
    · subst hk
      have hl := kids_len ha hb
      rw [agrees_static l l' (right_node ha).2.1 (right_node hb).2.1 sa.2 sb.2]
      simp [hl]
    · simp [hk]
theorem agrees_static : ∀ a b : List T, rights a = true → rights b = true → withouts 5 a = true → withouts 5 b = true → agrees a b = sames a b
  | [], [], _, _, _, _ => rfl
  | [], _ :: _, _, _, _, _ => rfl
  | _ :: _, [], _, _, _, _ => rfl
  | a :: r, b :: s, ha, hb, sa, sb => by
    simp only [withouts, Bool.and_eq_true] at sa sb
    simp only [agrees, sames, agree_static a b (rights_cons ha).1 (rights_cons hb).1 sa.1 sb.1, agrees_static r s (rights_cons ha).2 (rights_cons hb).2 sa.2 sb.2]
end
end Go.Proofs.Ytncdbbjkafgphaa.Tp
namespace Go.Proofs.Ytncdbbjkafgphaa
open Go Go.RowKit Go.Shelf
open Tp (T)

/-- What lies on the stack: types of a, and as many of b, one at least. -/
structure En where
  x : T
  y : T
  xs : List T
  ys : List T
  xb : Nat
  xo : Nat
  xc : Nat
  yb : Nat
  yo : Nat
  yc : Nat
def En.px (e : En) : Option Addr := some ⟨e.xb, e.xo, none⟩
def En.py (e : En) : Option Addr := some ⟨e.yb, e.yo, none⟩
def En.wf (e : En) : Prop := e.ys.length = e.xs.length ∧ e.xs.length + 1 ≤ e.xc ∧ e.xc ≤ maxLen ∧ e.ys.length + 1 ≤ e.yc ∧ e.yc ≤ maxLen
def En.next (e : En) : List En := match e.xs, e.ys with
  | x :: xs, y :: ys => [⟨x, y, xs, ys, e.xb, e.xo + 3, e.xc - 1, e.yb, e.yo + 3, e.yc - 1⟩]
  | _, _ => []
def enCells (e : En) : List Value := [.slice e.px (e.xs.length + 1) e.xc, .slice e.py (e.ys.length + 1) e.yc]
def enCs (S : List En) : List Value := S.flatMap enCells
def enTodo (S : List En) : List (T × T) := S.flatMap fun e => (e.x, e.y) :: e.xs.zip e.ys
def enSz (S : List En) : Nat := (S.map fun e => Tp.size e.x + Tp.sizes e.xs).sum
def enEnc (e : En) : Array Value := #[.pointer e.px, .pointer e.py]
def enAt (s : List En) (x : En) : Prop := ∃ r, s = x :: r
/-- What the iterator reads of the first pair. -/
def enRd (s : List En) (W : World) : Prop := ∀ e r, s = e :: r → W.cell? ⟨e.xb, e.xo, none⟩ = some (.int .i64 e.x.kind) ∧ W.cell? ⟨e.yb, e.yo, none⟩ = some (.int .i64 e.y.kind)
/-- What is still to come behind a round. -/
def enGo (s : List En) (x : En) (W : World) (s' : List En) : Prop := ∃ r, s = x :: r ∧ ((Tp.ends x.x x.y = true ∧ s' = x.next ++ r) ∨
  (Tp.ends x.x x.y = false ∧ x.x.kids = [] ∧ (∃ a c, W.cell? ⟨x.xb, x.xo + 2, none⟩ = some (.slice a 0 c)) ∧ s' = x.next ++ r) ∨
  (Tp.ends x.x x.y = false ∧ ∃ n : En, x.x.kids = n.x :: n.xs ∧ x.y.kids = n.y :: n.ys ∧ n.wf ∧ W.cell? ⟨x.xb, x.xo + 2, none⟩ = some (.slice n.px (n.xs.length + 1) n.xc) ∧ W.cell? ⟨x.yb, x.yo + 2, none⟩ = some (.slice n.py (n.ys.length + 1) n.yc) ∧ s' = n :: (x.next ++ r)))
theorem enGo.moved {s : List En} {x : En} {A B : World} {s' : List En} (h : ∀ b o, b < A.heap.size → A.cell? ⟨b, o, none⟩ ≠ none → B.cell? ⟨b, o, none⟩ = A.cell? ⟨b, o, none⟩) (hg : enGo s x A s') : enGo s x B s' := by
  have m : ∀ {b o v}, A.cell? ⟨b, o, none⟩ = some v → B.cell? ⟨b, o, none⟩ = some v := fun {b o v} hc => (h b o (cell_lt hc) (by rw [hc]; exact fun h => by cases h)).trans hc
  obtain ⟨r, rfl, hg⟩ := hg
  refine ⟨r, rfl, ?_⟩
  rcases hg with hg | ⟨h1, h2, ⟨a, c, h3⟩, h4⟩ | ⟨h1, n, h2, h3, h4, h5, h6, h7⟩
  · exact .inl hg
  · exact .inr (.inl ⟨h1, h2, ⟨a, c, m h3⟩, h4⟩)
  · exact .inr (.inr ⟨h1, n, h2, h3, h4, m h5, m h6, h7⟩)

theorem enCs_length : ∀ S : List En, (enCs S).length = S.length * 2
  | [] => rfl
  | e :: r => by
    have := enCs_length r
    simp only [enCs, List.flatMap_cons, List.length_append, List.length_cons, enCells, List.length_nil] at this ⊢
    omega
theorem enCs_snoc (S : List En) (e : En) : enCs (S ++ [e]) = enCs S ++ enCells e := by simp [enCs]
theorem enSz_cons (e : En) (S : List En) : enSz (e :: S) = Tp.size e.x + Tp.sizes e.xs + enSz S := by simp [enSz]
theorem enSz_append (R S : List En) : enSz (R ++ S) = enSz R + enSz S := by simp [enSz, List.sum_append]
theorem enSz_len : ∀ S : List En, S.length ≤ enSz S
  | [] => Nat.zero_le _
  | e :: r => by
    have := enSz_len r
    have := Tp.size_pos e.x
    rw [enSz_cons, List.length_cons]; omega
theorem next_sz {e : En} (h : e.wf) : enSz e.next = Tp.sizes e.xs := by
  obtain ⟨x, y, xs, ys, _, _, _, _, _, _⟩ := e
  have h1 := h.1
  cases xs with
  | nil => simp [En.next, enSz, Tp.sizes]
  | cons a r =>
    cases ys with
    | nil => simp at h1
    | cons b s => simp [En.next, enSz, Tp.sizes]
theorem next_todo {e : En} : enTodo e.next = e.xs.zip e.ys := by
  obtain ⟨x, y, xs, ys, _, _, _, _, _, _⟩ := e
  cases xs with
  | nil => simp [En.next, enTodo]
  | cons a r =>
    cases ys with
    | nil => simp [En.next, enTodo]
    | cons b s => simp [En.next, enTodo]
theorem next_wf {e : En} (h : e.wf) : ∀ n ∈ e.next, n.wf := by
  obtain ⟨x, y, xs, ys, _, _, _, _, _, _⟩ := e
  obtain ⟨h1, h2, h3, h4, h5⟩ := h
  cases xs with
  | nil => simp [En.next]
  | cons a r =>
    cases ys with
    | nil => simp at h1
    | cons b s =>
      intro n hn
      simp only [En.next, List.mem_singleton] at hn
      subst hn
      simp only [En.wf, List.length_cons] at h1 h2 h3 h4 h5 ⊢
      omega
theorem kids_sz {t x : T} {xs : List T} (h : t.kids = x :: xs) : Tp.size x + Tp.sizes xs + 1 = Tp.size t := by
  cases t with
  | mk k n l => simp only [Tp.T.kids] at h; subst h; simp [Tp.size, Tp.sizes]
/-- Behind a round less is to come. -/
theorem go_less {s : List En} {x : En} {W : World} {s' : List En} (h : enGo s x W s') (hw : ∀ e ∈ s, e.wf) : enSz s' < enSz s ∧ ∀ e ∈ s', e.wf := by
  obtain ⟨r, rfl, hg⟩ := h
  have hx := hw x (by simp)
  have hp := Tp.size_pos x.x
  have hn := next_sz hx
  have hwn : ∀ e ∈ x.next ++ r, e.wf := fun e he => (List.mem_append.1 he).elim (next_wf hx e) (fun h => hw e (List.mem_cons_of_mem _ h))
  rcases hg with ⟨_, rfl⟩ | ⟨_, _, _, rfl⟩ | ⟨_, n, h1, h2, h3, _, _, rfl⟩
  · rw [enSz_append, enSz_cons]; exact ⟨by omega, hwn⟩
  · rw [enSz_append, enSz_cons]; exact ⟨by omega, hwn⟩
  · have := kids_sz h1
    rw [enSz_cons, enSz_append, enSz_cons]
    exact ⟨by omega, fun e he => (List.mem_cons.1 he).elim (fun h => h ▸ h3) (hwn e)⟩

theorem en_two (a : Option Addr) (n c : Nat) (a' : Option Addr) (n' c' : Nat) : ∀ u ∈ [Value.slice a n c, .slice a' n' c'], u.oneCell' = true := by
  intro u hu
  simp only [List.mem_cons, List.not_mem_nil, or_false] at hu
  rcases hu with rfl | rfl <;> rfl
theorem b48 {r : Nat} (h : r ≤ 1000000) : (r + 1) * 48 ≤ 140737488355328 ∧ (r + 1 + 1) * 48 ≤ 140737488355328 ∧ r + 1 ≤ maxLen ∧ r + 1 + 1 ≤ maxLen := by unfold maxLen; omega
end Go.Proofs.Ytncdbbjkafgphaa
