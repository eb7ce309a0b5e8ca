/- prec.Ground, walked. -/
import Derived.Test.YtafekidkikfpcaaPbC
import Derived.Test.YtafekidkikfpcaaTqB
namespace Go.Proofs.Ytafekidkikfpcaa
open Go Go.RowKit
open Tp (T)

theorem zero_three {y : World} {bb : Nat} {ty : TypeId} (h : y.heap[bb]? = some (.cells #[.int .i64 0, .int .i64 0, .slice none 0 0] ty (0, 0))) : y.cell? ⟨bb, 0, none⟩ = some (.int .i64 0) ∧ y.cell? ⟨bb, 1, none⟩ = some (.int .i64 0) ∧ y.cell? ⟨bb, 2, none⟩ = some (.slice none 0 0) ∧ y.frozen? ⟨bb, 0, none⟩ = false ∧ y.frozen? ⟨bb, 1, none⟩ = false ∧ y.frozen? ⟨bb, 2, none⟩ = false :=
  ⟨cell_box h rfl rfl, cell_box h rfl rfl, cell_box h rfl rfl, IsC.frozen ⟨_, _, h⟩, IsC.frozen ⟨_, _, h⟩, IsC.frozen ⟨_, _, h⟩⟩
theorem put3 {B : Nat} {W y : World} {bb : Nat} {v0 v1 v2 : Value} (hB : Below B W y) (hbb : B ≤ bb) : Below B W (((y.setCell ⟨bb, 0, none⟩ v0).setCell ⟨bb, 1, none⟩ v1).setCell ⟨bb, 2, none⟩ v2) :=
  ((hB.setCell hbb _).setCell hbb _).setCell hbb _
theorem far_row {B n b : Nat} {A C : World} {o o' : Obj} {v : Value} {xs : List Value} (hg : (A.alloc o).grownBy C v.ownBlock) (hb : A.heap[b]? = some o') (h : A.ownsRow B 24 3 v n xs) (hlt : b < B) : C.heap[b]? = some o' := by
  have h1 := (Array.getElem?_eq_some_iff.1 hb).1
  exact ((hg.block b (by rw [World.size_alloc]; omega) (fun e => by have := (h.lt b e.symm).1; omega)).trans (Below.heap_alloc _ _ _ h1)).trans hb
def dke : Ke := ⟨.mk 5 0 [], none, 0⟩
theorem dke_cells (k : Nat) : rowCells (List.replicate (k + 1) dke) = rowCells (List.replicate k dke) ++ [.int .i64 5, .int .i64 0, .slice none 0 0] := by
  rw [List.replicate_succ', rowCells_snoc]; rfl
theorem dke_slAt {w : World} {B k cap : Nat} {a : Option Addr} (h : w.ownsRow B 24 3 (.slice a k cap) k (rowCells (List.replicate k dke))) : SlAt (LT w.heap.size) w (Tp.dyns k) a cap := by
  have h2 := row_slAt (G := LT w.heap.size) (ks := List.replicate k dke) (by rw [List.length_replicate]; exact h) (fun g hg => (h.lt g hg).2) (fun e he => by rw [List.eq_of_mem_replicate he]; exact leaf_at (i64_nat (by decide) (by decide)))
  have e : (List.replicate k dke).map Ke.t = Tp.dyns k := by simp [dke, Tp.dyns]
  rwa [e] at h2
/-- What Ground hands back, whatever came of it. -/
def GrRes (t : T) (w : World) (e : Ending) (w' : World) : Prop := ∃ k n m a c, TV (Tp.grd t) k n m ∧ e = .returned (.tuple #[.agg #[.int .i64 k, .int .i64 n, .slice a m c], .bool (Tp.hasG t)]) ∧ TyAt (LT w'.heap.size) w' (Tp.grd t) a c ∧ Below w.heap.size w w'
theorem grd_no {t : T} {w w' : World} {e : Ending} (h : Tp.hasG t = false) (he : e = .returned (.tuple #[.agg #[.int .i64 0, .int .i64 0, .slice none 0 0], .bool false])) (hb : Below w.heap.size w w') : GrRes t w e w' := by
  have hg : Tp.grd t = .mk 0 0 [] := by unfold Tp.grd; rw [h]; rfl
  exact ⟨0, 0, 0, none, 0, by rw [hg]; exact ⟨rfl, rfl, rfl⟩, by rw [h, he], by rw [hg]; exact leaf_at (i64_nat (by decide) (by decide)), hb⟩
end Go.Proofs.Ytafekidkikfpcaa
