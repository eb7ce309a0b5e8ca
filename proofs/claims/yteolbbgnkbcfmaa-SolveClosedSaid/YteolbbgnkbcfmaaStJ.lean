/- A range over the roots of a store: the iterator turns the store's two blocks, and so may a round, which hands the store back as it was. -/
import Derived.Test.YteolbbgnkbcfmaaTpP
namespace Go.Proofs.Yteolbbgnkbcfmaa
open Go Go.RowKit

/-- WHAT THE ITERATOR OWES. -/
def SeqSto {μ : Type} (P : Program) (gf : Nat) (lb : Array Value) (Mine : Nat → Prop) (St : μ → World → Prop) (Rnd : List Nat → Nat → μ → Prop) (Fin : List Nat → Prop) (Ok : μ → Prop) (m0 : μ) (w : World) : Prop :=
  ∀ (l : Nat) (J Jx : List Nat → World → Prop) (W : World), Below w.heap.size w W →
    (∀ Y A B, J Y A → Turns Mine A B → J Y B) → (∀ Y A B, Jx Y A → Turns Mine A B → Jx Y B) →
    (∀ Y r m W1, J Y W1 → St m W1 → Rnd Y r m → YieldAt Fence.wide 8 P l #[.int .i64 (r : Int)] W1 fun e W' => (e = .returned (.bool true) ∧ J (Y ++ [r]) W' ∧ St m W') ∨ (e = .returned (.bool false) ∧ Jx (Y ++ [r]) W' ∧ St m W')) →
    St m0 W → J [] W →
    Calls P gf (#[.func (.yield l) #[] #[]] ++ lb) W fun e W' => (∃ v, e = .returned v) ∧ ∃ m, Ok m ∧ St m W' ∧ ((∃ Y, Fin Y ∧ J Y W') ∨ (∃ Y, Jx Y W'))

/-- HOW THE BODY OF A ROUND MAY BE LEFT. -/
def stoPost {μ : Type} (D : Nat) (St : μ → World → Prop) (I : List Nat → World → Prop) (Ix : Code → List Nat → World → Prop) (Y : List Nat) (m : μ) (W : World) : Exit → Act → World → Prop
  | .normal, _, W' => (W'.heap[D]? = W.heap[D]? ∧ W'.heap[D + 1]? = W.heap[D + 1]?) ∧ I Y W' ∧ St m W'
  | .ret, _, W' => (W'.heap[D]? = W.heap[D]? ∧ W'.heap[D + 1]? = W.heap[D + 1]?) ∧ Ix .ret Y W' ∧ St m W'
  | .exit id, _, W' => (W'.heap[D]? = W.heap[D]? ∧ W'.heap[D + 1]? = W.heap[D + 1]?) ∧ Ix (.exit id) Y W' ∧ St m W'
  | .goto t, _, W' => (W'.heap[D]? = W.heap[D]? ∧ W'.heap[D + 1]? = W.heap[D + 1]?) ∧ Ix (.goto t) Y W' ∧ St m W'
  | .panic _, _, _ => False
  | .outgrown, _, _ => False

/-- **THE STATEMENT's LAW.** -/
theorem wpIn_range_sto {μ : Type} {P : Program} {g : Operand} {ps : Array Tmp} {assign body : Code} {Q : Exit → Act → World → Prop} {a : Act} {w : World}
    {gf : Nat} {lb : Array Value} (hg : a.eval g = .func (.func gf) #[] lb) (eg : ∀ args w, (callFunc gf args).run P w = .ok (.enter gf args) w)
    {Mine : Nat → Prop} {St : μ → World → Prop} {Rnd : List Nat → Nat → μ → Prop} {Fin : List Nat → Prop} {Ok : μ → Prop} {m0 : μ} {w0 : World} (hseq : SeqSto P gf lb Mine St Rnd Fin Ok m0 w0) (hb0 : Below w0.heap.size w0 w)
    (hMine : ∀ k, Mine k → k < w.heap.size) (hSt : ∀ m A B, St m A → (∀ k, Mine k → B.heap[k]? = A.heap[k]?) → St m B) (hps : 1 = ps.size)
    (I : List Nat → World → Prop) (Ix : Code → List Nat → World → Prop) (a₁ : Nat → Act)
    (hI : ∀ Y A B, I Y A → Turns (fun k => Mine k ∨ k = w.heap.size ∨ k = w.heap.size + 1) A B → I Y B)
    (hIx : ∀ c Y A B, Ix c Y A → Turns (fun k => Mine k ∨ k = w.heap.size ∨ k = w.heap.size + 1) A B → Ix c Y B)
    (h0 : I [] w) (hm0 : St m0 w)
    (hassign : ∀ (l : Nat) (r : Nat) (W : World) (K : Act → World → Prop), K (a₁ r) W →
      assign.wpIn (Fence.wide.inRound l) 8 P (Exit.then K (fun _ _ _ => False)) { tmps := (ps.zip #[Value.int .i64 (r : Int)]).foldl (fun t (p, v) => t.setIfInBounds p v) a.tmps, defers := [] } W)
    (hbody : ∀ (l : Nat) (Y : List Nat) (r : Nat) (m : μ) (W : World), I Y W → St m W → Rnd Y r m → w.heap.size + 1 < W.heap.size →
      body.wpIn (Fence.wide.inRound l) 8 P (stoPost w.heap.size St I Ix (Y ++ [r]) m W) (a₁ r) W)
    (hdone : ∀ (Y : List Nat) (m : μ) (W : World), Fin Y → Ok m → St m W → I Y W → w.heap.size + 1 < W.heap.size → W.heap[w.heap.size]? = some (.deferred (some [])) → Q .normal { a with defers := { target := .collected w.heap.size, args := #[] } :: a.defers } W)
    (hstop : ∀ (c : Code) (Y : List Nat) (m : μ) (W : World), Ok m → St m W → Ix c Y W → w.heap.size + 1 < W.heap.size → W.heap[w.heap.size]? = some (.deferred (some [])) → c.wpIn Fence.wide 9 P Q { a with defers := { target := .collected w.heap.size, args := #[] } :: a.defers } W) :
    (Code.rangeFunc g ps assign body).wpIn Fence.wide 9 P Q a w := by
  refine wpIn_rangeFunc ?_
  intro fn hfn
  rw [show Fence.wide.round = none from rfl]
  obtain ⟨rec, hrec⟩ : ∃ rec : LoopState → Option Code → Loop, rec = fun st pe => { state := st, pending := pe, fn, tmps := a.tmps, params := ps, assign, body, defers := w.heap.size } := ⟨_, rfl⟩
  obtain ⟨W1, hW1⟩ : ∃ W1, (w.alloc (.deferred (some []))).alloc (.loop (rec .ready none)) = W1 := ⟨_, rfl⟩
  have hsz : W1.heap.size = w.heap.size + 2 := by rw [← hW1]; simp
  have hL1 : W1.heap[w.heap.size + 1]? = some (.loop (rec .ready none)) := by
    rw [← hW1]; have := World.alloc_heap_new (w.alloc (.deferred (some []))) (.loop (rec .ready none)); rwa [World.size_alloc] at this
  have hK1 : W1.heap[w.heap.size]? = some (.deferred (some [])) := by
    rw [← hW1]; exact (Below.heap_alloc _ _ _ (by simp)).trans (World.alloc_heap_new w _)
  have hT1 : Turns (fun _ => False) w W1 := by rw [← hW1]; exact (Turns.alloc _ _ _).trans (Turns.alloc _ _ _)
  have hb1 : Below w0.heap.size w0 W1 := hT1.below hb0 (fun _ h => h.elim) hb0.size
  have hI1 : I [] W1 := hI [] w W1 h0 (hT1.mono fun _ _ h => h.elim)
  have hS1 : St m0 W1 := hSt m0 w W1 hm0 (fun k hk => hT1.block k (hMine k hk) (fun h => h))
  have nL : ¬ Mine (w.heap.size + 1) := fun h => by have := hMine _ h; omega
  have nD : ¬ Mine w.heap.size := fun h => by have := hMine _ h; omega
  have put : ∀ (A : World) (o : Obj), Turns (fun k => Mine k ∨ k = w.heap.size ∨ k = w.heap.size + 1) A (A.putObj (w.heap.size + 1) o) := fun A o => Turns.putObj _ _ _ (.inr (.inr rfl))
  have putS : ∀ (m : μ) (A : World) (o : Obj), St m A → St m (A.putObj (w.heap.size + 1) o) := fun m A o h => hSt m A _ h (fun k hk => World.putObj_heap_other (fun e => nL (e ▸ hk)))
  refine ⟨w.heap.size + 1, [{ target := .collected w.heap.size, args := #[] }], W1, { target := .fn (.func gf) lb, args := #[.func (.yield (w.heap.size + 1)) #[] #[]] }, W1, gf,
    #[.func (.yield (w.heap.size + 1)) #[] #[]] ++ lb, W1, ?_, ?_, ?_, ?_, fun h => (by cases h), ?_⟩
  · rw [← hW1, hrec]; exact run_enterLoop_outer _ _ _ _ _
  · simp only [resolve, hg]
    simp [go_sem]
  · intro f' _; trivial
  · simp [invoke, go_sem, eg]
  · refine callsIn_wide.2 ?_
    refine (hseq (w.heap.size + 1)
      (fun Y W => I Y W ∧ W.heap[w.heap.size + 1]? = some (.loop (rec .ready none)) ∧ W.heap[w.heap.size]? = some (.deferred (some [])))
      (fun Y W => ∃ c, Ix c Y W ∧ W.heap[w.heap.size + 1]? = some (.loop (rec .done (some c))) ∧ W.heap[w.heap.size]? = some (.deferred (some [])))
      W1 hb1 ?_ ?_ ?_ hS1 ⟨hI1, hL1, hK1⟩).mono ?_
    · rintro Y A B ⟨hi, hl, hk⟩ hT
      exact ⟨hI Y A B hi (hT.mono fun _ _ h => .inl h), hT.heap hl nL, hT.heap hk nD⟩
    · rintro Y A B ⟨c, hi, hl, hk⟩ hT
      exact ⟨c, hIx c Y A B hi (hT.mono fun _ _ h => .inl h), hT.heap hl nL, hT.heap hk nD⟩
    · -- ONE ROUND
      rintro Y r m W ⟨hi, hl, hk⟩ hst hrnd
      have hy := run_yield (P := P) (args := #[Value.int .i64 (r : Int)]) hl (by rw [hrec]; exact hps)
      rw [hrec] at hy
      refine ⟨fn, _, assign, body, hy, roundIn_of_wpIn hfn (hassign _ r W _ ?_)⟩
      refine ⟨_, run_beginRound hl (by rw [hrec]), ?_⟩
      obtain ⟨W2, hW2⟩ : ∃ W2, W.putObj (w.heap.size + 1) (.loop { rec .ready none with state := .busy }) = W2 := ⟨_, rfl⟩
      have hlt' : w.heap.size + 1 < W.heap.size := (Array.getElem?_eq_some_iff.1 hl).1
      have hs2 : W2.heap.size = W.heap.size := by rw [← hW2]; simp
      have hl2 : W2.heap[w.heap.size + 1]? = some (.loop { rec .ready none with state := .busy }) := by rw [← hW2]; exact World.putObj_heap_same hlt'
      have hk2 : W2.heap[w.heap.size]? = some (.deferred (some [])) := by rw [← hW2]; exact (World.putObj_heap_other (by omega)).trans hk
      have hi2 : I Y W2 := by rw [← hW2]; exact hI Y W _ hi (put _ _)
      have hst2 : St m W2 := by rw [← hW2]; exact putS m W _ hst
      rw [hW2]
      refine wpIn_mono (hbody _ Y r m W2 hi2 hst2 hrnd (by omega)) ?_
      have fin : ∀ (jump : Option Code) (W3 : World), (W3.heap[w.heap.size]? = W2.heap[w.heap.size]? ∧ W3.heap[w.heap.size + 1]? = W2.heap[w.heap.size + 1]?) → ∃ W4,
          (Instr.endRound (w.heap.size + 1) jump).run P W3 = .ok (.bool jump.isNone) W4 ∧ W4.heap[w.heap.size + 1]? = some (.loop (rec (if jump.isNone then .ready else .done) jump)) ∧
          W4.heap[w.heap.size]? = some (.deferred (some [])) ∧ ∃ o, W4 = W3.putObj (w.heap.size + 1) o := fun jump W3 hk3 => by
        have hl3 := hk3.2.trans hl2
        have hd3 := hk3.1.trans hk2
        have := run_endRound (P := P) jump hl3
        refine ⟨_, this, ?_, ?_, _, rfl⟩
        · rw [hrec]; exact World.putObj_heap_same (Array.getElem?_eq_some_iff.1 hl3).1
        · exact (World.putObj_heap_other (by omega)).trans hd3
      rintro e a3 W3 hp
      cases e with
      | normal =>
        obtain ⟨hk3, hi3, hst3⟩ := hp
        obtain ⟨W4, hr, hl4, hk4, o, rfl⟩ := fin none W3 hk3
        exact ⟨_, _, hr, .inl ⟨rfl, ⟨hI _ W3 _ hi3 (put _ _), hl4, hk4⟩, putS m W3 _ hst3⟩⟩
      | ret =>
        obtain ⟨hk3, hi3, hst3⟩ := hp
        obtain ⟨W4, hr, hl4, hk4, o, rfl⟩ := fin (some .ret) W3 hk3
        exact ⟨_, _, hr, .inr ⟨rfl, ⟨.ret, hIx _ _ W3 _ hi3 (put _ _), hl4, hk4⟩, putS m W3 _ hst3⟩⟩
      | exit id =>
        obtain ⟨hk3, hi3, hst3⟩ := hp
        obtain ⟨W4, hr, hl4, hk4, o, rfl⟩ := fin (some (.exit id)) W3 hk3
        exact ⟨_, _, hr, .inr ⟨rfl, ⟨.exit id, hIx _ _ W3 _ hi3 (put _ _), hl4, hk4⟩, putS m W3 _ hst3⟩⟩
      | goto t =>
        obtain ⟨hk3, hi3, hst3⟩ := hp
        obtain ⟨W4, hr, hl4, hk4, o, rfl⟩ := fin (some (.goto t)) W3 hk3
        exact ⟨_, _, hr, .inr ⟨rfl, ⟨.goto t, hIx _ _ W3 _ hi3 (put _ _), hl4, hk4⟩, putS m W3 _ hst3⟩⟩
      | panic ch => exact hp.elim
      | outgrown => exact hp.elim
    · -- BEHIND THE ITERATOR
      rintro e W2 ⟨⟨v, rfl⟩, m, hok, hst, (⟨Y, hS, hi, hl, hk⟩ | ⟨Y, c, hi, hl, hk⟩)⟩
      · have hlt := (Array.getElem?_eq_some_iff.1 hl).1
        exact ⟨none, _, by have := run_endLoop (P := P) hl (by rw [hrec]; simp); rw [hrec] at this; exact this, hdone Y m _ hS hok (putS m W2 _ hst) (hI Y W2 _ hi (put _ _)) (by rw [World.putObj_size]; exact hlt) ((World.putObj_heap_other (by omega)).trans hk)⟩
      · have hlt := (Array.getElem?_eq_some_iff.1 hl).1
        exact ⟨some c, _, by have := run_endLoop (P := P) hl (by rw [hrec]; simp); rw [hrec] at this; exact this, hstop c Y m _ hok (putS m W2 _ hst) (hIx c Y W2 _ hi (put _ _)) (by rw [World.putObj_size]; exact hlt) ((World.putObj_heap_other (by omega)).trans hk)⟩
end Go.Proofs.Yteolbbgnkbcfmaa
