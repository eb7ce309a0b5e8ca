/- Walks: the page's own answers for types: how great, how deep, right, without a kind; count. Walks: the page's Right, Same; suretykeep's Same; rows of numbers. -/
import Derived.Test.YtmmhpibkjdlkgaaGreatTpP
import Derived.Deep.LoopGhost
import Derived.Deep.QuietTactic
import Derived.BigQuiet
import Derived.Outline
import Derived.IntWalk
import Derived.StillTailTactics
namespace Go.Proofs.YtmmhpibkjdlkgaaGreat
open Go Go.RowKit
open Tp (T)

theorem sizes_take (l : List T) (k : Nat) (h : k < l.length) : Tp.sizes (l.take (k + 1)) = Tp.sizes (l.take k) + Tp.size l[k] := by
  rw [List.take_succ_eq_append_getElem h, Tp.sizes_append]; simp [Tp.sizes]
theorem sizes_take_le (l : List T) (k : Nat) : Tp.sizes (l.take k) ≤ Tp.sizes l := by
  have := Tp.sizes_append (l.take k) (l.drop k)
  rw [List.take_append_drop] at this; omega
theorem size_kid (l : List T) (k : Nat) (h : k < l.length) : Tp.size l[k] ≤ Tp.sizes l := by
  have := sizes_take l k h
  have := sizes_take_le l (k + 1)
  omega
theorem size_kids (t : T) : Tp.size t = Tp.sizes t.kids + 1 := by cases t; rfl
/-- What a loop over the kids reads. -/
theorem kid_at {n : Nat} {w wr : World} {t : T} {a : Option Addr} {cap : Nat} (h : TyAt (LT n) w t a cap) (hb : Below n w wr) (hn : n ≤ w.heap.size) {k : Nat} (hk : k < t.kids.length) :
    ∃ b o xa xcap, a = some ⟨b, o, none⟩ ∧ b < n ∧ TyAt (LT wr.heap.size) wr t.kids[k] xa xcap ∧ wr.cell? ⟨b, o + k * 3, none⟩ = some (.int .i64 t.kids[k].kind) ∧ wr.cell? ⟨b, o + k * 3 + 1, none⟩ = some (.int .i64 t.kids[k].num) ∧
      wr.cell? ⟨b, o + k * 3 + 2, none⟩ = some (.slice xa t.kids[k].kids.length xcap) := by
  have h2 := h.below hb (fun _ h => h) (fun b h => (Nat.lt_of_lt_of_le h (Nat.le_trans hn hb.size) : b < wr.heap.size)) (G' := LT wr.heap.size)
  obtain ⟨b, o, rfl, hbn, hN⟩ := h2.2.2.2.2.first (by omega)
  obtain ⟨b1, o1, e1, hbn1, _⟩ := h.2.2.2.2.first (by omega)
  injection e1 with e1; injection e1 with e1 e2 e3
  obtain ⟨xa, xcap, q1, q2, q3, q4⟩ := (hN k hk).ty
  exact ⟨b, o, xa, xcap, rfl, by rw [e1]; exact hbn1, q1, q2, q3, q4⟩

end Go.Proofs.YtmmhpibkjdlkgaaGreat
namespace Go.Proofs.YtmmhpibkjdlkgaaGreat
open Go Go.RowKit
open Tp (T)

theorem below_drewM {B : Nat} {a w : World} (h : Below B a w) (n : Nat) : Below B a (w.drewN n) := ⟨h.os, h.tape, h.output, h.size, h.block⟩

end Go.Proofs.YtmmhpibkjdlkgaaGreat
