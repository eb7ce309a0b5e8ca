/- What solve.Agree has in memory: the record of its work. -/
import Derived.Test.YteolbbgnkbcfmaaSvA
import Derived.Test.YteolbbgnkbcfmaaSvC
import Derived.Test.YteolbbgnkbcfmaaStL
namespace Go.Proofs.Yteolbbgnkbcfmaa
open Go Go.RowKit
open Tp (T)
open Sg (Of Rt Den Dens Alk Mkd trav travs rootOf kidsOf)
/-- Two nodes that are to agree. -/
structure Pr where
  x : Nat
  y : Nat
  fr : Bool
def prC (p : Pr) : List Value := [.int .i64 (p.x : Int), .int .i64 (p.y : Int), .bool p.fr]
/-- A stack, the top first. -/
def prRow : List Pr → List Value
  | [] => []
  | p :: r => prRow r ++ prC p
theorem prRow_len : ∀ l : List Pr, (prRow l).length = l.length * 3
  | [] => rfl
  | p :: r => by rw [prRow, List.length_append, prRow_len r, List.length_cons]; simp [prC]; omega
/-- The record: b its block, its row of pairs in the blocks from Bs on, its maps. -/
structure WK (Bs b s : Nat) (oa : Option Addr) (oc mb mc nd ns : Nat) (w : World) (P : List Pr) (D : List (Nat × Nat)) (S : IMap) : Prop where
  box : w.heap[b]? = some (.cells #[.pointer (some ⟨s, 0, none⟩), .slice oa P.length oc, .map (some mb), .map (some mc)] 117)
  row : w.ownsRow Bs 113 3 (.slice oa P.length oc) P.length (prRow P)
  dn : DnAt w mb nd D
  st : IMAt w mc ns S
  lb : Bs ≤ b
  lm : Bs ≤ mb
  lc : Bs ≤ mc
  ne : mb ≠ mc
section
variable {Bs b s : Nat} {oa : Option Addr} {oc mb mc nd ns : Nat} {w : World} {P : List Pr} {D : List (Nat × Nat)} {S : IMap}
/-- Its blocks. -/
def WKb (b mb mc : Nat) (oa : Option Addr) (k oc : Nat) (i : Nat) : Prop := i = b ∨ i = mb ∨ i = mc ∨ (Value.slice oa k oc).ownBlock = some i
theorem WK.keep {w' : World} (h : WK Bs b s oa oc mb mc nd ns w P D S) (hs : ∀ i, WKb b mb mc oa P.length oc i → w'.heap[i]? = w.heap[i]?) : WK Bs b s oa oc mb mc nd ns w' P D S :=
  ⟨(hs b (.inl rfl)).trans h.box, own_same h.row (fun g hg => hs g (.inr (.inr (.inr hg)))), h.dn.same (hs mb (.inr (.inl rfl))), h.st.same (hs mc (.inr (.inr (.inl rfl)))), h.lb, h.lm, h.lc, h.ne⟩
theorem WK.lt (h : WK Bs b s oa oc mb mc nd ns w P D S) {i : Nat} (hi : WKb b mb mc oa P.length oc i) : Bs ≤ i ∧ i < w.heap.size := by
  rcases hi with rfl | rfl | rfl | hi
  · exact ⟨h.lb, (Array.getElem?_eq_some_iff.1 h.box).1⟩
  · exact ⟨h.lm, h.dn.lt⟩
  · exact ⟨h.lc, h.st.lt⟩
  · exact h.row.lt i hi
theorem row_cells {w : World} {B n sz : Nat} {e : TypeId} {v : Value} {xs : List Value} {i : Nat} (h : w.ownsRow B e sz v n xs) (hi : v.ownBlock = some i) : ∃ A, w.heap[i]? = some (.cells A e) := by
  rcases h.2 with ⟨h1, _⟩ | ⟨g, cap, cur, h1, _, h3, _⟩
  · subst h1; cases hi
  · subst h1
    have : g = i := by simpa [Value.ownBlock] using hi
    subst this
    exact ⟨_, h3⟩
/-- None of them is the store's. -/
theorem WK.apart {Bv g cap : Nat} {L C K : Int} {H : List SNd} (h : WK Bs b s oa oc mb mc nd ns w P D S) (hsv : SV Bv s g cap L C K w H) {i : Nat} (hi : WKb b mb mc oa P.length oc i) : i ≠ s ∧ i ≠ g := by
  have hg : ∃ A, w.heap[g]? = some (.cells A 88) := by
    obtain ⟨G, _, hown⟩ := hsv.row
    exact row_cells hown rfl
  obtain ⟨A, hA⟩ := hg
  have hs := hsv.box
  have key : ∀ o, w.heap[i]? = some o → (∀ X, o ≠ .cells X 85) → (∀ X, o ≠ .cells X 88) → i ≠ s ∧ i ≠ g := fun o ho h1 h2 => ⟨fun e => by subst e; rw [hs] at ho; injection ho with ho; exact h1 _ ho.symm, fun e => by subst e; rw [hA] at ho; injection ho with ho; exact h2 _ ho.symm⟩
  rcases hi with rfl | rfl | rfl | hi
  · exact key _ h.box (fun X e => by injection e with _ e; exact absurd e (by decide)) (fun X e => by injection e with _ e; exact absurd e (by decide))
  · obtain ⟨o, ho, hn⟩ := h.dn.block
    exact key o ho (fun X => hn _ _) (fun X => hn _ _)
  · obtain ⟨o, ho, hn⟩ := h.st.block
    exact key o ho (fun X => hn _ _) (fun X => hn _ _)
  · obtain ⟨A', hA'⟩ := row_cells h.row hi
    exact key _ hA' (fun X e => by injection e with _ e; exact absurd e (by decide)) (fun X e => by injection e with _ e; exact absurd e (by decide))
theorem WK.kp {Bv g cap : Nat} {L C K : Int} {H : List SNd} {w' : World} (h : WK Bs b s oa oc mb mc nd ns w P D S) (hsv : SV Bv s g cap L C K w H) (hk : Kp w.heap.size (fun k => k = s ∨ k = g) w w') : WK Bs b s oa oc mb mc nd ns w' P D S :=
  h.keep (fun i hi => hk.block i (h.lt hi).2 (fun e => by have := h.apart hsv hi; rcases e with e | e <;> omega))
theorem WK.below {w' : World} (h : WK Bs b s oa oc mb mc nd ns w P D S) (hk : Below w.heap.size w w') : WK Bs b s oa oc mb mc nd ns w' P D S :=
  h.keep (fun i hi => hk.block i (h.lt hi).2)
/-- Its blocks differ. -/
theorem WK.own (h : WK Bs b s oa oc mb mc nd ns w P D S) : b ≠ mb ∧ b ≠ mc ∧ mb ≠ mc ∧ ∀ i, (Value.slice oa P.length oc).ownBlock = some i → i ≠ b ∧ i ≠ mb ∧ i ≠ mc := by
  obtain ⟨o1, h1, n1⟩ := h.dn.block
  obtain ⟨o2, h2, n2⟩ := h.st.block
  refine ⟨fun e => ?_, fun e => ?_, h.ne, fun i hi => ?_⟩
  · subst e; rw [h.box] at h1; injection h1 with h1; exact n1 _ _ h1.symm
  · subst e; rw [h.box] at h2; injection h2 with h2; exact n2 _ _ h2.symm
  · obtain ⟨A, hA⟩ := row_cells h.row hi
    refine ⟨fun e => ?_, fun e => ?_, fun e => ?_⟩
    · subst e; rw [h.box] at hA; injection hA with hA; injection hA with _ hA; exact absurd hA (by decide)
    · subst e; rw [hA] at h1; injection h1 with h1; exact n1 _ _ h1.symm
    · subst e; rw [hA] at h2; injection h2 with h2; exact n2 _ _ h2.symm
end
end Go.Proofs.Yteolbbgnkbcfmaa
