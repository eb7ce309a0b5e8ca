/- agree.both's contract; agree.fit; a region that draws, with calls, in a round. -/
import Derived.Test.YtncdbbjkafgphaaAgO
import Derived.Test.YtncdbbjkafgphaaTyS
import Derived.Test.YtncdbbjkafgphaaSeqA
import Derived.Test.YtncdbbjkafgphaaTnB
namespace Go.Proofs.Ytncdbbjkafgphaa
open Go Go.RowKit Go.Shelf
open Tp (T)

attribute [local go_sem] Oper.semAt_some

/-- The law for a region that draws, walked in the order of a plan, in a round. -/
theorem wpIn_region_seqR {P : Program} {Q : Exit → Act → World → Prop} {lp n id : Nat} {a : Act} {w : World} {l : List Oper} (plan : List (Nat × Bool)) (hm : P.follows .mixedOrders = true) (hs : Region.noSelect l.toArray = true)
    (hB : (decide (plan.length ≤ l.length) && seqB l.toArray plan (List.range l.length) (Array.replicate l.length false)) = true) (hQ : ∀ c a w (d : Option Tmp) (v : Value), Q (.panic c) (a.put d v) w → Q (.panic c) a w)
    (hd : l.all noDefer = true) (hL : ¬ LetsOut Q)
    (h : wpSeq P l.toArray Q plan l a w.drew) : (Code.region id l.toArray true).wpIn (Fence.wide.inRound lp) n P Q a w := by
  rw [Bool.and_eq_true, decide_eq_true_iff] at hB
  refine wpIn_region_round hm hd hL ?_
  refine wpAny_of_held (S := Below w.heap.size w.drew) _ _ _ _ ?_
  have hl : (List.range l.length).map (fun k => l.toArray[k]?) = l.map some := by
    refine List.ext_getElem (by simp) (fun i h1 h2 => ?_)
    simp only [List.length_map, List.length_range] at h1
    simp [h1]
  have := held_of_seq (P := P) hs hQ plan (List.range l.length) l (Array.replicate l.length false) a w.drew l.toArray.size hl (by simpa using hB.1) hB.2 h
  simpa using this

theorem al_size : ∀ (l : List Obj) (w : World), (l.foldl World.alloc w).heap.size = w.heap.size + l.length
  | [], _ => rfl
  | o :: r, w => by rw [List.foldl_cons, al_size r, World.size_alloc, List.length_cons]; omega
theorem al_below : ∀ (l : List Obj) (w : World) {n : Nat} (_ : n ≤ w.heap.size), Below n w (l.foldl World.alloc w)
  | [], _, _, _ => Below.refl _ _
  | o :: r, w, n, h => by
    have h1 : Below n w (w.alloc o) := (Below.refl _ _).alloc h _
    exact h1.trans (al_below r (w.alloc o) (by rw [World.size_alloc]; omega))
theorem al_get : ∀ (l : List Obj) (w : World) (i : Nat) (o : Obj), l[i]? = some o → (l.foldl World.alloc w).heap[w.heap.size + i]? = some o
  | [], _, _, _, h => by simp at h
  | x :: r, w, 0, o, h => by
    have e : x = o := by simpa using h
    subst e
    have h1 := al_below r (w.alloc x) (n := w.heap.size + 1) (by rw [World.size_alloc]; exact Nat.le_refl _)
    exact (h1.block w.heap.size (Nat.lt_succ_self _)).trans (World.alloc_heap_new w x)
  | x :: r, w, i + 1, o, h => by
    have h1 := al_get r (w.alloc x) i o (by simpa using h)
    rw [World.size_alloc] at h1
    rw [show w.heap.size + (i + 1) = w.heap.size + 1 + i from by omega]
    exact h1
theorem al_old (l : List Obj) (w : World) (k : Nat) (h : k < w.heap.size) : (l.foldl World.alloc w).heap[k]? = w.heap[k]? := (al_below l w (n := w.heap.size) (Nat.le_refl _)).block k h

end Go.Proofs.Ytncdbbjkafgphaa
