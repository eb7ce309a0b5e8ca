/- The law TypVars. -/
import Derived.Test.YtaaapdfdedknfaaTqB

import Derived.Deep.QuietTactic
namespace Go.Proofs.Ytaaapdfdedknfaa
open Go Go.RowKit
open Tp (T)

theorem elem_int : Try.prog.underlying 27 = some (.slice (Try.prog.elem 27)) := by kernel_rfl
theorem size_int (w : World) : (sizeOf (Try.prog.elem 27)).run Try.prog w = .ok 1 w := by kernel_rfl
theorem int_take (a : Option Addr) (n cap k : Nat) (hc : k ≤ cap) (w' : World) : (Instr.slice 27 (.slice a n cap) none (some (.int .i64 k)) none).run Try.prog w' = .ok (.slice a k cap) w' := by
  have h := run_slice_h w' 27 a n cap elem_int .i64 k (by omega) (by omega)
  rw [h, size_int]
  cases a <;> simp [Result.andThen, sliced, Addr.add]
theorem wp_region_quiet_c {P : Program} {C : World → Prop} {id : Nat} {Q : Exit → Act → World → Prop} {a : Act} {w : World} {l : List Oper} (hm : P.follows .mixedOrders = true) (hB : Region.lexB .any l.toArray = true) (hC : C { w with drawn := w.drawn + 1 })
    (h : wpQuiet P l.toArray C (fun a' => ∀ w', C w' → Q .normal a' w') l a) : (Code.region id l.toArray true).wp P Q a w :=
  wp_region_quiet (C := C) hm hB hC (by simpa using h)
theorem quiet_of {P : Program} {f : FuncId} {args : Array Value} {w W : World} {v : Value} {C : World → Prop} (hC : ∀ w', C w' ↔ Below W.heap.size W w') (hb : C w) (h : Calls P f args w (fun e w' => e = .returned v ∧ Below w.heap.size w w')) :
    Calls P f args w (fun e w' => e = .returned v ∧ C w') :=
  h.mono fun _ w' ⟨h1, h2⟩ => ⟨h1, (hC w').2 (((hC w).1 hb).trans (h2.mono ((hC w).1 hb).size))⟩
theorem row_drewN {w : World} {a : Option Addr} {L : List Int} (h : IntRow w a L) (n : Nat) : IntRow (w.drewN n) a L := h.below (below_drewM (Below.refl w.heap.size w) n) (Nat.le_refl _)
theorem take_len {L : List Int} {l0 k : Nat} (hl : L.length = l0) (h : k < l0) : (L.take k).length = k := by rw [List.length_take]; omega
theorem wrap_next {n : Nat} (h : n ≤ 600) : wrap64 ((n : Int) + 1) = (n : Int) + 1 := by unfold wrap64; omega
theorem wrap_next2 {n : Nat} (h : n ≤ 600) : IntKind.i64.wrap ((n : Int) + 1) = (n : Int) + 1 := by
  simp [IntKind.wrap, IntKind.bits, IntKind.signed]
  omega
theorem rem_i64 {r : Int} (h1 : 0 ≤ r) (h2 : r < 1000) : I64 r := by unfold I64; omega
theorem sz_le {t : T} (h : Tp.size t ≤ 600) : Tp.size t ≤ 10000 := by omega
/-- Two boxes: the class of the worlds in which they lie as they lay. -/
theorem cellsOf3 {w w' : World} {b : Nat} {x y v : Value} {s : TypeId} (h : w.heap[b]? = some (.cells #[x, y, v] s)) (hb : Below w.heap.size w w') : w'.cell? ⟨b, 0, none⟩ = some x ∧ w'.cell? ⟨b, 1, none⟩ = some y ∧ w'.cell? ⟨b, 2, none⟩ = some v := by
  have hlt := (Array.getElem?_eq_some_iff.1 h).1
  exact ⟨cell_box h (hb.block _ hlt) rfl, cell_box h (hb.block _ hlt) rfl, cell_box h (hb.block _ hlt) rfl⟩

end Go.Proofs.Ytaaapdfdedknfaa
