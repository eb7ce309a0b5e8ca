/- The sample of stage 9's laws, walked. -/
import Derived.Test.YtafekidkikfpcaaPbG
import Derived.Test.YtafekidkikfpcaaSeqA
namespace Go.Proofs.Ytafekidkikfpcaa
open Go Go.RowKit
open Tp (T)

theorem wake9_ok : Tp.bl (funT 1 1) (funT 5 1) = true ∧ Tp.bl (funT 5 1) (funT 1 1) = false ∧ Tp.hasG (funT 1 1) = true ∧ Tp.grd (funT 1 1) = funT 5 5 ∧ Tp.hasG (.mk 5 0 []) = false := by
  have h : Tp.hasG (funT 1 1) = true := by simp [funT, Tp.hasG, Tp.right, Tp.rights, Tp.nodeRight, Tp.arity, Tp.T.kind]
  refine ⟨?_, ?_, h, ?_, ?_⟩
  · simp [funT, Tp.bl, Tp.right, Tp.rights, Tp.nodeRight, Tp.arity, Tp.below, Tp.belows]
  · simp [funT, Tp.bl, Tp.right, Tp.rights, Tp.nodeRight, Tp.arity, Tp.below, Tp.belows]
  · unfold Tp.grd; rw [if_pos h]; rfl
  · simp [Tp.hasG, Tp.T.kind]
/-- Two leaves and a function, in a box. -/
theorem box_new {w3 W4 : World} {t : T} {k n : Int} {m : Nat} {a : Option Addr} {c : Nat} (hv : TV t k n m) (ht : TyAt (LT w3.heap.size) w3 t a c) (hW : w3.alloc (.cells #[.int .i64 k, .int .i64 n, .slice a m c] 24) = W4) : BoxT W4 w3.heap.size t k n m a c ∧ Below w3.heap.size w3 W4 := by
  have hb : Below w3.heap.size w3 W4 := by rw [← hW]; exact (Below.refl _ _).alloc (Nat.le_refl _) _
  exact ⟨⟨hv, by rw [← hW]; exact World.alloc_heap_new w3 _, ty_later ht hb⟩, hb⟩

end Go.Proofs.Ytafekidkikfpcaa
