/- A range over an iterator whose state is said of the world at hand: what the iterator owes is said of states, what a round owes is the next state. -/
import Derived.Test.YteolbbgnkbcfmaaTpP
namespace Go.Proofs.Yteolbbgnkbcfmaa
open Go Go.RowKit

/-- WHAT THE ITERATOR OWES: from state s0 on; 'At s x' says what it hands over at a state, 'Rd' what it reads at one, 'Go' what state is next, of the world behind the round. -/
def SeqSt {σ α : Type} (P : Program) (g : Nat) (lb : Array Value) (encs : α → Array Value) (Done : σ → Prop) (At : σ → α → Prop) (Go : σ → α → World → σ → Prop) (Rd : σ → World → Prop) (s0 : σ) (Fr : Nat → Prop) (w : World) : Prop :=
  ∀ (l : Nat) (J Jx : (Nat → Prop) → σ → World → Prop) (W : World), Below w.heap.size w W → (∀ s, Ab W.heap.size fun M W' => J M s W') → (∀ s, Ab W.heap.size fun M W' => Jx M s W') →
    (∀ M s W1, J M s W1 → (∀ k, M k → W.heap.size ≤ k ∧ k < W1.heap.size) → W.heap.size ≤ W1.heap.size → Rd s W1) →
    (∀ M s x W1, J M s W1 → (∀ k, M k → W.heap.size ≤ k ∧ k < W1.heap.size) → W.heap.size ≤ W1.heap.size → At s x → YieldAt Fence.wide 8 P l (encs x) W1 fun e W' =>
      (e = .returned (.bool true) ∧ (∃ s', Go s x W' s' ∧ J M s' W') ∧ Turns (fun k => Fr k ∧ ¬ M k) W1 W') ∨ (e = .returned (.bool false) ∧ Jx M s W' ∧ Turns (fun k => Fr k ∧ ¬ M k) W1 W')) →
    J (fun _ => False) s0 W →
    Calls P g (#[.func (.yield l) #[] #[]] ++ lb) W fun e W' => (∃ v, e = .returned v) ∧
      ((∃ M s, Done s ∧ J M s W' ∧ ∀ k, M k → W.heap.size ≤ k ∧ k < W'.heap.size) ∨ (∃ M s, Jx M s W' ∧ ∀ k, M k → W.heap.size ≤ k ∧ k < W'.heap.size))

/-- HOW THE BODY OF A ROUND MAY BE LEFT. -/
def stPost {σ α : Type} (Go : σ → α → World → σ → Prop) (Fr : Nat → Prop) (M : Nat → Prop) (I : (Nat → Prop) → σ → World → Prop) (Ix : Code → (Nat → Prop) → σ → World → Prop) (s : σ) (x : α) (W : World) : Exit → Act → World → Prop
  | .normal, _, W' => Turns (fun k => Fr k ∧ ¬ M k) W W' ∧ ∃ s', Go s x W' s' ∧ I M s' W'
  | .ret, _, W' => Turns (fun k => Fr k ∧ ¬ M k) W W' ∧ Ix .ret M s W'
  | .exit id, _, W' => Turns (fun k => Fr k ∧ ¬ M k) W W' ∧ Ix (.exit id) M s W'
  | .goto t, _, W' => Turns (fun k => Fr k ∧ ¬ M k) W W' ∧ Ix (.goto t) M s W'
  | .panic _, _, _ => False
  | .outgrown, _, _ => False

/-- **THE STATEMENT's LAW.** -/
theorem wpIn_range_st {P : Program} {σ α : Type} {g : Operand} {ps : Array Tmp} {assign body : Code} {Q : Exit → Act → World → Prop} {a : Act} {w : World}
    {gf : Nat} {lb : Array Value} (hg : a.eval g = .func (.func gf) #[] lb) (eg : ∀ args w, (callFunc gf args).run P w = .ok (.enter gf args) w)
    {encs : α → Array Value} {Done : σ → Prop} {At : σ → α → Prop} {Go : σ → α → World → σ → Prop} {Rd : σ → World → Prop} {s0 : σ} {Fr : Nat → Prop} {w0 : World} (hseq : SeqSt P gf lb encs Done At Go Rd s0 Fr w0)
    (hG : ∀ s x (A B : World) s', (∀ b o, b < A.heap.size → A.cell? ⟨b, o, none⟩ ≠ none → B.cell? ⟨b, o, none⟩ = A.cell? ⟨b, o, none⟩) → Go s x A s' → Go s x B s') (hb0 : Below w0.heap.size w0 w) (hFr : ∀ k, w.heap.size ≤ k → Fr k) (hps : ∀ x, (encs x).size = ps.size)
    (I : (Nat → Prop) → σ → World → Prop) (Ix : Code → (Nat → Prop) → σ → World → Prop) (Ax : α → Act → (Nat → Prop) → World → Prop)
    (hI : ∀ s, Ab w.heap.size fun M W => I M s W) (hIx : ∀ c s, Ab w.heap.size fun M W => Ix c M s W) (hAx : ∀ x a', Ab w.heap.size fun M W => Ax x a' M W) (h0 : I (fun _ => False) s0 w)
    (hrd : ∀ M s W, I M s W → (∀ k, M k → w.heap.size ≤ k ∧ k < W.heap.size) → w.heap.size ≤ W.heap.size → Rd s W)
    (hassign : ∀ (l : Nat) (M : Nat → Prop) (s : σ) (x : α) (W : World) (K : Act → World → Prop), I M s W → (∀ k, M k → w.heap.size ≤ k ∧ k < W.heap.size) → w.heap.size ≤ W.heap.size → At s x →
      (∀ a' W', Turns (fun _ => False) W W' → Ax x a' M W' → K a' W') →
      assign.wpIn (Fence.wide.inRound l) 8 P (Exit.then K (fun _ _ _ => False)) { tmps := (ps.zip (encs x)).foldl (fun t (p, v) => t.setIfInBounds p v) a.tmps, defers := [] } W)
    (hbody : ∀ (l : Nat) (M : Nat → Prop) (s : σ) (x : α) (a' : Act) (W : World), I M s W → (∀ k, M k → w.heap.size ≤ k ∧ k < W.heap.size) → w.heap.size ≤ W.heap.size → At s x → Ax x a' M W →
      body.wpIn (Fence.wide.inRound l) 8 P (stPost Go Fr M I Ix s x W) a' W)
    (hdone : ∀ (D : Nat) (M : Nat → Prop) (s : σ) (W : World), w.heap.size ≤ D → M D → (∀ k, M k → w.heap.size ≤ k ∧ k < W.heap.size) → Done s → I M s W → W.heap[D]? = some (.deferred (some [])) → Q .normal { a with defers := { target := .collected D, args := #[] } :: a.defers } W)
    (hstop : ∀ (D : Nat) (M : Nat → Prop) (c : Code) (s : σ) (W : World), w.heap.size ≤ D → M D → (∀ k, M k → w.heap.size ≤ k ∧ k < W.heap.size) → Ix c M s W → W.heap[D]? = some (.deferred (some [])) → c.wpIn Fence.wide 9 P Q { a with defers := { target := .collected D, args := #[] } :: a.defers } W) :
    (Code.rangeFunc g ps assign body).wpIn Fence.wide 9 P Q a w := by
  refine wpIn_rangeFunc ?_
  intro fn hfn
  rw [show Fence.wide.round = none from rfl]
  obtain ⟨rec, hrec⟩ : ∃ rec : LoopState → Option Code → Loop, rec = fun st pe => { state := st, pending := pe, fn, tmps := a.tmps, params := ps, assign, body, defers := w.heap.size } := ⟨_, rfl⟩
  obtain ⟨W1, hW1⟩ : ∃ W1, (w.alloc (.deferred (some []))).alloc (.loop (rec .ready none)) = W1 := ⟨_, rfl⟩
  have hsz : W1.heap.size = w.heap.size + 2 := by rw [← hW1]; simp
  have hL1 : W1.heap[w.heap.size + 1]? = some (.loop (rec .ready none)) := by
    rw [← hW1]; have := World.alloc_heap_new (w.alloc (.deferred (some []))) (.loop (rec .ready none)); rwa [World.size_alloc] at this
  have hK1 : W1.heap[w.heap.size]? = some (.deferred (some [])) := by
    rw [← hW1]; exact (Below.heap_alloc _ _ _ (by simp)).trans (World.alloc_heap_new w _)
  have hT1 : Turns (fun _ => False) w W1 := by rw [← hW1]; exact (Turns.alloc _ _ _).trans (Turns.alloc _ _ _)
  have hb1 : Below w0.heap.size w0 W1 := hT1.below hb0 (fun _ h => h.elim) hb0.size
  obtain ⟨plus, hplus⟩ : ∃ plus : (Nat → Prop) → Nat → Prop, plus = fun M k => M k ∨ k = w.heap.size ∨ k = w.heap.size + 1 := ⟨_, rfl⟩
  have pl : ∀ M k, plus M k ↔ (M k ∨ k = w.heap.size ∨ k = w.heap.size + 1) := fun M k => by rw [hplus]
  have hI1 : I (plus fun _ => False) s0 W1 := hI s0 _ _ w W1 h0 (fun _ h => h.elim) hT1 (fun k hk => by
    rcases (pl _ _).1 hk with h | h
    · exact h.elim
    · exact ⟨Or.inr (by omega), by omega⟩)
  refine ⟨w.heap.size + 1, [{ target := .collected w.heap.size, args := #[] }], W1, { target := .fn (.func gf) lb, args := #[.func (.yield (w.heap.size + 1)) #[] #[]] }, W1, gf,
    #[.func (.yield (w.heap.size + 1)) #[] #[]] ++ lb, W1, ?_, ?_, ?_, ?_, fun h => (by cases h), ?_⟩
  · rw [← hW1, hrec]; exact run_enterLoop_outer _ _ _ _ _
  · simp only [resolve, hg]
    simp [go_sem]
  · intro f' _; trivial
  · simp [invoke, go_sem, eg]
  · refine callsIn_wide.2 ?_
    -- the blocks of whoever owns M, the loop's two beside them
    have up : ∀ {M : Nat → Prop} {A : World}, (∀ k, M k → W1.heap.size ≤ k ∧ k < A.heap.size) → W1.heap.size ≤ A.heap.size → ∀ k, plus M k → w.heap.size ≤ k ∧ k < A.heap.size := fun h hA k hk => by
      rcases (pl _ _).1 hk with x | x
      · have := h k x; omega
      · omega
    have nL : ∀ {M : Nat → Prop} {A : World}, (∀ k, M k → W1.heap.size ≤ k ∧ k < A.heap.size) → ¬ M (w.heap.size + 1) := fun h x => by have := h _ x; omega
    have nD : ∀ {M : Nat → Prop} {A : World}, (∀ k, M k → W1.heap.size ≤ k ∧ k < A.heap.size) → ¬ M w.heap.size := fun h x => by have := h _ x; omega
    -- what abides M's steps abides them with the loop's two blocks beside
    have lift : ∀ {p : (Nat → Prop) → World → Prop}, Ab w.heap.size p → ∀ (M M' : Nat → Prop) (A B : World), p (plus M) A → W1.heap.size ≤ A.heap.size → (∀ k, M k → W1.heap.size ≤ k ∧ k < A.heap.size) → Turns (plus M) A B → (∀ k, M' k → (M k ∨ A.heap.size ≤ k) ∧ k < B.heap.size) → p (plus M') B :=
      fun hp M M' A B h hA hM hT hM' => hp _ _ A B h (up hM hA) hT (fun k hk => by
        have := hT.size
        rcases (pl _ _).1 hk with x | x
        · obtain ⟨y, z⟩ := hM' k x
          exact ⟨y.elim (fun y => .inl ((pl _ _).2 (.inl y))) .inr, z⟩
        · exact ⟨.inl ((pl _ _).2 (.inr x)), by omega⟩)
    refine (hseq (w.heap.size + 1)
      (fun M pre W => I (plus M) pre W ∧ W.heap[w.heap.size + 1]? = some (.loop (rec .ready none)) ∧ W.heap[w.heap.size]? = some (.deferred (some [])))
      (fun M pre W => ∃ c, Ix c (plus M) pre W ∧ W.heap[w.heap.size + 1]? = some (.loop (rec .done (some c))) ∧ W.heap[w.heap.size]? = some (.deferred (some [])))
      W1 hb1 ?_ ?_ ?_ ?_ ⟨hI1, hL1, hK1⟩).mono ?_
    · rintro s M M' A B ⟨hi, hl, hk⟩ hM hT hM'
      have hA : W1.heap.size ≤ A.heap.size := by have := (Array.getElem?_eq_some_iff.1 hl).1; omega
      exact ⟨lift (hI s) M M' A B hi hA hM (hT.mono fun k _ h => (pl _ _).2 (.inl h)) hM', hT.heap hl (nL hM), hT.heap hk (nD hM)⟩
    · rintro s M M' A B ⟨c, hi, hl, hk⟩ hM hT hM'
      have hA : W1.heap.size ≤ A.heap.size := by have := (Array.getElem?_eq_some_iff.1 hl).1; omega
      exact ⟨c, lift (hIx c s) M M' A B hi hA hM (hT.mono fun k _ h => (pl _ _).2 (.inl h)) hM', hT.heap hl (nL hM), hT.heap hk (nD hM)⟩
    · rintro M s W ⟨hi, hl, hk⟩ hM hA
      exact hrd (plus M) s W hi (up hM hA) (by omega)
    · -- ONE ROUND
      rintro M s x W ⟨hi, hl, hk⟩ hM hA hok
      have hy := run_yield (P := P) (args := encs x) hl (by rw [hrec]; exact hps x)
      rw [hrec] at hy
      refine ⟨fn, _, assign, body, hy, roundIn_of_wpIn hfn (hassign _ (plus M) s x W _ hi (up hM hA) (by omega) hok fun a' W' hT' hax => ?_)⟩
      have hl' : W'.heap[w.heap.size + 1]? = some (.loop (rec .ready none)) := hT'.heap hl (fun h => h)
      have hk' : W'.heap[w.heap.size]? = some (.deferred (some [])) := hT'.heap hk (fun h => h)
      have hA' : W1.heap.size ≤ W'.heap.size := Nat.le_trans hA hT'.size
      have hM1 : ∀ k, M k → W1.heap.size ≤ k ∧ k < W'.heap.size := fun k h => ⟨(hM k h).1, Nat.lt_of_lt_of_le (hM k h).2 hT'.size⟩
      refine ⟨_, run_beginRound hl' (by rw [hrec]), ?_⟩
      obtain ⟨W2, hW2⟩ : ∃ W2, W'.putObj (w.heap.size + 1) (.loop { rec .ready none with state := .busy }) = W2 := ⟨_, rfl⟩
      have hlt' : w.heap.size + 1 < W'.heap.size := by omega
      have hs2 : W2.heap.size = W'.heap.size := by rw [← hW2]; simp
      have hl2 : W2.heap[w.heap.size + 1]? = some (.loop { rec .ready none with state := .busy }) := by rw [← hW2]; exact World.putObj_heap_same hlt'
      have hk2 : W2.heap[w.heap.size]? = some (.deferred (some [])) := by rw [← hW2]; exact (World.putObj_heap_other (by omega)).trans hk'
      have hT2 : Turns (plus M) W' W2 := by rw [← hW2]; exact Turns.putObj _ _ _ ((pl _ _).2 (.inr (.inr rfl)))
      rw [hW2]
      have hi2 : I (plus M) s W2 := lift (hI s) M M W W2 hi hA hM ((hT'.mono fun _ _ h => h.elim).trans hT2) (fun k h => ⟨.inl h, by have := (hM1 k h).2; omega⟩)
      have hax2 : Ax x a' (plus M) W2 := lift (hAx x a') M M W' W2 hax hA' hM1 hT2 (fun k h => ⟨.inl h, by have := (hM1 k h).2; omega⟩)
      refine wpIn_mono (hbody _ (plus M) s x a' W2 hi2 (up (fun k h => ⟨(hM1 k h).1, by rw [hs2]; exact (hM1 k h).2⟩) (by omega)) (by omega) hok hax2) ?_
      have hTW : Turns (fun k => Fr k ∧ ¬ M k) W W2 := (hT'.mono fun _ _ h => h.elim).trans (by rw [← hW2]; exact Turns.putObj _ _ _ ⟨hFr _ (by omega), nL hM⟩)
      have fin : ∀ (jump : Option Code) (W3 : World), Turns (fun k => Fr k ∧ ¬ plus M k) W2 W3 → ∃ W4,
          (Instr.endRound (w.heap.size + 1) jump).run P W3 = .ok (.bool jump.isNone) W4 ∧ W4.heap[w.heap.size + 1]? = some (.loop (rec (if jump.isNone then .ready else .done) jump)) ∧
          W4.heap[w.heap.size]? = some (.deferred (some [])) ∧ Turns (plus M) W3 W4 ∧ Turns (fun k => Fr k ∧ ¬ M k) W W4 ∧ W4.heap.size = W3.heap.size ∧ (∀ b o, b < W3.heap.size → W3.cell? ⟨b, o, none⟩ ≠ none → W4.cell? ⟨b, o, none⟩ = W3.cell? ⟨b, o, none⟩) := fun jump W3 hk3 => by
        have hl3 := hk3.heap hl2 (fun h => h.2 ((pl _ _).2 (.inr (.inr rfl))))
        have hd3 := hk3.heap hk2 (fun h => h.2 ((pl _ _).2 (.inr (.inl rfl))))
        have := run_endRound (P := P) jump hl3
        refine ⟨_, this, ?_, ?_, ?_, ?_, by simp, ?_⟩
        · rw [hrec]; exact World.putObj_heap_same (Array.getElem?_eq_some_iff.1 hl3).1
        · exact (World.putObj_heap_other (by omega)).trans hd3
        · exact Turns.putObj _ _ _ ((pl _ _).2 (.inr (.inr rfl)))
        rotate_left
        · intro b o _ hne
          by_cases hb : b = w.heap.size + 1
          · exact absurd (by subst hb; simp [World.cell?, hl3]) hne
          · exact World.cell?_of_block (a := ⟨b, o, none⟩) (World.putObj_heap_other (by dsimp only; omega))
        · exact (hTW.trans (hk3.mono fun k _ h => ⟨h.1, fun m => h.2 ((pl _ _).2 (.inl m))⟩)).trans (Turns.putObj _ _ _ ⟨hFr _ (by omega), nL hM⟩)
      have hM3 : ∀ {W3 : World}, W2.heap.size ≤ W3.heap.size → ∀ k, M k → W1.heap.size ≤ k ∧ k < W3.heap.size := fun h k m => by have := hM1 k m; omega
      rintro e a3 W3 hp
      cases e with
      | normal =>
        obtain ⟨hk3, s', hgo, hi3⟩ := hp
        obtain ⟨W4, hr, hl4, hk4, ht4, hT4, hs4, hc4⟩ := fin none W3 hk3
        have h3 := hM3 hk3.size
        have h23 := hk3.size
        exact ⟨_, _, hr, .inl ⟨rfl, ⟨s', hG _ _ W3 W4 _ hc4 hgo, lift (hI _) M M W3 W4 hi3 (by omega) h3 ht4 (fun k h => ⟨.inl h, by rw [hs4]; exact (h3 k h).2⟩), hl4, hk4⟩, hT4⟩⟩
      | ret =>
        obtain ⟨hk3, hi3⟩ := hp
        obtain ⟨W4, hr, hl4, hk4, ht4, hT4, hs4, _⟩ := fin (some .ret) W3 hk3
        have h3 := hM3 hk3.size
        have h23 := hk3.size
        exact ⟨_, _, hr, .inr ⟨rfl, ⟨.ret, lift (hIx _ _) M M W3 W4 hi3 (by omega) h3 ht4 (fun k h => ⟨.inl h, by rw [hs4]; exact (h3 k h).2⟩), hl4, hk4⟩, hT4⟩⟩
      | exit id =>
        obtain ⟨hk3, hi3⟩ := hp
        obtain ⟨W4, hr, hl4, hk4, ht4, hT4, hs4, _⟩ := fin (some (.exit id)) W3 hk3
        have h3 := hM3 hk3.size
        have h23 := hk3.size
        exact ⟨_, _, hr, .inr ⟨rfl, ⟨.exit id, lift (hIx _ _) M M W3 W4 hi3 (by omega) h3 ht4 (fun k h => ⟨.inl h, by rw [hs4]; exact (h3 k h).2⟩), hl4, hk4⟩, hT4⟩⟩
      | goto t =>
        obtain ⟨hk3, hi3⟩ := hp
        obtain ⟨W4, hr, hl4, hk4, ht4, hT4, hs4, _⟩ := fin (some (.goto t)) W3 hk3
        have h3 := hM3 hk3.size
        have h23 := hk3.size
        exact ⟨_, _, hr, .inr ⟨rfl, ⟨.goto t, lift (hIx _ _) M M W3 W4 hi3 (by omega) h3 ht4 (fun k h => ⟨.inl h, by rw [hs4]; exact (h3 k h).2⟩), hl4, hk4⟩, hT4⟩⟩
      | panic ch => exact hp.elim
      | outgrown => exact hp.elim
    · -- BEHIND THE ITERATOR
      have last : ∀ {p : (Nat → Prop) → World → Prop}, Ab w.heap.size p → ∀ (M : Nat → Prop) (W2 : World) (o : Obj), p (plus M) W2 → W1.heap.size ≤ W2.heap.size → (∀ k, M k → W1.heap.size ≤ k ∧ k < W2.heap.size) → p (plus M) (W2.putObj (w.heap.size + 1) o) := fun hp M W2 o h hA hM =>
        lift hp M M W2 _ h hA hM (Turns.putObj _ _ _ ((pl _ _).2 (.inr (.inr rfl)))) (fun k m => ⟨.inl m, by rw [World.putObj_size]; exact (hM k m).2⟩)
      rintro e W2 ⟨⟨v, rfl⟩, (⟨M, s, hS, ⟨hi, hl, hk⟩, hM⟩ | ⟨M, s, ⟨c, hi, hl, hk⟩, hM⟩)⟩
      · have hA : W1.heap.size ≤ W2.heap.size := by have := (Array.getElem?_eq_some_iff.1 hl).1; omega
        exact ⟨none, _, by have := run_endLoop (P := P) hl (by rw [hrec]; simp); rw [hrec] at this; exact this, hdone _ _ s _ (Nat.le_refl _) ((pl _ _).2 (.inr (.inl rfl))) (fun k h => by rw [World.putObj_size]; exact up hM hA k h) hS (last (hI s) M W2 _ hi hA hM) ((World.putObj_heap_other (by omega)).trans hk)⟩
      · have hA : W1.heap.size ≤ W2.heap.size := by have := (Array.getElem?_eq_some_iff.1 hl).1; omega
        exact ⟨some c, _, by have := run_endLoop (P := P) hl (by rw [hrec]; simp); rw [hrec] at this; exact this, hstop _ _ c s _ (Nat.le_refl _) ((pl _ _).2 (.inr (.inl rfl))) (fun k h => by rw [World.putObj_size]; exact up hM hA k h) (last (hIx c s) M W2 _ hi hA hM) ((World.putObj_heap_other (by omega)).trans hk)⟩
end Go.Proofs.Yteolbbgnkbcfmaa
