/- suretykeep.Type: a copy. -/
import Derived.Test.YtaaapdfdedknfaaTkA
namespace Go.Proofs.Ytaaapdfdedknfaa
open Go Go.RowKit
open Tp (T)

/-- A kid that has come back. -/
def KidPost (x : T) (wr : World) (e : Ending) (w' : World) : Prop := ∃ a2 c2, e = .returned (tv x a2 c2) ∧ TyAt (fun b => wr.heap.size ≤ b ∧ b < w'.heap.size) w' x a2 c2 ∧ Below wr.heap.size wr w'
theorem kidPost_ret {x : T} {wr : World} : ∀ e w', KidPost x wr e w' → ∃ v, e = .returned v := fun _ _ ⟨_, _, h, _⟩ => ⟨_, h⟩
/-- A box below the row's blocks lies as it lay. -/
theorem far_own {w w6 w7 : World} {o : Obj} {B n sz b : Nat} {e : TypeId} {v : Value} {xs : List Value} {bx : Obj} (hg : (w6.alloc o).grownBy w7 v.ownBlock) (h6 : Below w.heap.size w w6) (hb : w.heap[b]? = some bx) (hown : w.ownsRow B e sz v n xs) (hlt : b < B) : w7.heap[b]? = some bx := by
  have h1 := (Array.getElem?_eq_some_iff.1 hb).1
  have h2 := h6.size
  exact (hg.block b (by rw [World.size_alloc]; omega) (fun e => by have := (hown.lt _ e.symm).1; omega)).trans ((Below.heap_alloc _ _ _ (by omega)).trans ((h6.block b h1).trans hb))

end Go.Proofs.Ytaaapdfdedknfaa
