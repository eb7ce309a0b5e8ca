/- A row of kids that may share the memory of what a call is handed (as in ArM of stage 8). -/
import Derived.Test.YtcnnahmchjeakaaArP
import Derived.Test.YtcnnahmchjeakaaTkB
namespace Go.Proofs.Ytcnnahmchjeakaa
open Go Go.RowKit
open Tp (T)

/-- What lay below A, and the blocks from B on, but the row's own. -/
def Old2 (A B : Nat) (w : World) (v : Value) : Nat → Prop := fun b => (b < A ∨ B ≤ b) ∧ b < w.heap.size ∧ v.ownBlock ≠ some b
/-- What lay below A, and what is new since w. -/
def Mix (A : Nat) (w w' : World) : Nat → Prop := fun b => (b < A ∨ w.heap.size ≤ b) ∧ b < w'.heap.size
structure RowM (A B : Nat) (w : World) (v : Value) (ks : List Ke) : Prop where
  own : w.ownsRow B 24 3 v ks.length (rowCells ks)
  each : ∀ e ∈ ks, TyAt (Old2 A B w v) w e.t e.a e.cap
theorem RowM.nil (A B : Nat) (w : World) : RowM A B w (.slice none 0 0) [] := ⟨World.ownsRow_nil _ _ _ _, fun _ h => by cases h⟩
theorem RowM.keep {A B : Nat} {w w' : World} {v : Value} {ks : List Ke} (h : RowM A B w v ks) (hs : ∀ k, (k < A ∨ B ≤ k) → k < w.heap.size → w'.heap[k]? = w.heap[k]?) (hz : w.heap.size ≤ w'.heap.size) : RowM A B w' v ks :=
  ⟨own_same h.own fun g hg => hs g (.inr (h.own.lt g hg).1) (h.own.lt g hg).2, fun e he => ty_same (fun k hk => hs k hk.1 hk.2.1) (fun _ hk => ⟨hk.1, Nat.lt_of_lt_of_le hk.2.1 hz, hk.2.2⟩) (h.each e he)⟩
theorem RowM.base {A B B' : Nat} {w : World} {v : Value} {ks : List Ke} (h : RowM A B w v ks) (hB : B' ≤ B) : RowM A B' w v ks :=
  ⟨own_base' h.own hB, fun e he => ty_same (fun _ _ => rfl) (fun _ hk => ⟨hk.1.imp id (Nat.le_trans hB), hk.2.1, hk.2.2⟩) (h.each e he)⟩
theorem RowM.push {A B n : Nat} {w w1 w2 : World} {o : Obj} {g2 cap2 : Nat} {v : Value} {ks : List Ke} {e : Ke} (h : RowM A B w v ks) (hn : ks.length = n) (hA : A ≤ B) (hb : ∀ k, k < w.heap.size → w1.heap[k]? = w.heap[k]?) (hz : w.heap.size ≤ w1.heap.size) (hB : B ≤ w.heap.size)
    (he : TyAt (Mix A w w1) w1 e.t e.a e.cap) (hown : w2.ownsRow B 24 3 (.slice (some ⟨g2, 0, none⟩) (n + 1) cap2) (n + 1) (rowCells ks ++ keCells e)) (hg : (w1.alloc o).grownBy w2 v.ownBlock) (hl : v.ownBlock = some g2 ∨ g2 = w1.heap.size + 1) :
    RowM A B w2 (.slice (some ⟨g2, 0, none⟩) (n + 1) cap2) (ks ++ [e]) := by
  subst hn
  have hsz : w1.heap.size < w2.heap.size := by have := hg.size; rw [World.size_alloc] at this; omega
  have kp : ∀ k, k < w1.heap.size → v.ownBlock ≠ some k → w2.heap[k]? = w1.heap[k]? := fun k hk hn => (hg.block k (by rw [World.size_alloc]; omega) (fun e => hn e.symm)).trans (Below.heap_alloc _ _ _ hk)
  have vlt : ∀ g, v.ownBlock = some g → B ≤ g ∧ g < w.heap.size := fun g hg => h.own.lt g hg
  refine ⟨by rw [rowCells_snoc, List.length_append]; exact hown, fun e' he' => ?_⟩
  rcases List.mem_append.1 he' with he' | he'
  · refine ty_same (fun k hk => (kp k (by have := hk.2.1; omega) hk.2.2).trans (hb k hk.2.1)) (fun k hk => ⟨hk.1, by have := hk.2.1; omega, fun x => ?_⟩) (h.each e' he')
    injection x with x
    dsimp only at x
    rcases hl with y | y
    · exact hk.2.2 (by rw [y, ← x])
    · have := hk.2.1; omega
  · obtain rfl := List.mem_singleton.1 he'
    have hk' : ∀ k, Mix A w w1 k → (k < A ∨ B ≤ k) ∧ k < w2.heap.size ∧ v.ownBlock ≠ some k := fun k hk => by
      obtain ⟨h1, h2⟩ := hk
      refine ⟨by omega, by omega, fun x => ?_⟩
      have := vlt k x
      omega
    refine ty_same (fun k hk => kp k hk.2 (hk' k hk).2.2) (fun k hk => ⟨(hk' k hk).1, (hk' k hk).2.1, fun x => ?_⟩) he
    injection x with x
    dsimp only at x
    rcases hl with y | y
    · exact (hk' k hk).2.2 (by rw [y, ← x])
    · have := hk.2; omega
theorem RowM.kids {A B : Nat} {w : World} {a : Option Addr} {n cap : Nat} {ks : List Ke} (h : RowM A B w (.slice a n cap) ks) : n = ks.length ∧ SlAt (fun b => (b < A ∨ B ≤ b) ∧ b < w.heap.size) w (ks.map Ke.t) a cap := by
  obtain ⟨a', cap', e⟩ := own_shapeT h.own
  injection e with e1 e2 e3
  refine ⟨e2, ?_⟩
  rcases h.own.2 with ⟨h1, h2⟩ | ⟨g, cp, cur, h1, h2, h3, h4, h5, _⟩
  · have hk : ks = [] := List.eq_nil_of_length_eq_zero h2
    injection h1 with q1 q2 q3
    subst q1 q3
    rw [hk]; exact ⟨by simp, by unfold maxLen; omega, by simp [KidsAt]⟩
  · injection h1 with q1 q2 q3
    subst q1
    subst q3
    refine ⟨by rw [List.length_map]; exact h4, h5, KidsAt.of_nodes ⟨.inr h2, (Array.getElem?_eq_some_iff.1 h3).1⟩ _ 0 (fun i hi => ?_)⟩
    have hi' : i < ks.length := by simpa using hi
    have hc := h.own.cells (g := g) rfl
    have k : ∀ j, j < 3 → ∀ u, (keCells ks[i])[j]? = some u → w.cell? ⟨g, 0 + i * 3 + j, none⟩ = some u := fun j hj u hu => by
      have := hc (i * 3 + j) u (by rw [rowCells_at ks i hi' j hj]; exact hu)
      rw [add_flat] at this
      rw [show 0 + i * 3 + j = 0 + (i * 3 + j) from by omega]; exact this
    have ht := ty_same (fun _ _ => rfl) (fun k hk => (⟨hk.1, hk.2.1⟩ : (k < A ∨ B ≤ k) ∧ k < w.heap.size)) (h.each ks[i] (List.getElem_mem hi'))
    have e0 : (ks.map Ke.t)[i] = ks[i].t := by simp
    rw [e0]
    exact NodeAt.mk' ht (k 0 (by omega) _ rfl) (k 1 (by omega) _ rfl) (k 2 (by omega) _ rfl)
/-- A type that comes back: of what lay below A, and of new blocks. -/
def MixPost (A : Nat) (x : T) (wr : World) (e : Ending) (w' : World) : Prop := ∃ k2 n2 m2 a2 c2, TV x k2 n2 m2 ∧ e = .returned (.agg #[.int .i64 k2, .int .i64 n2, .slice a2 m2 c2]) ∧ TyAt (Mix A wr w') w' x a2 c2 ∧ Below wr.heap.size wr w'
theorem mixPost_ret {A : Nat} {x : T} {wr : World} : ∀ e w', MixPost A x wr e w' → ∃ v, e = .returned v := fun _ _ ⟨_, _, _, _, _, _, h, _⟩ => ⟨_, h⟩

end Go.Proofs.Ytcnnahmchjeakaa
