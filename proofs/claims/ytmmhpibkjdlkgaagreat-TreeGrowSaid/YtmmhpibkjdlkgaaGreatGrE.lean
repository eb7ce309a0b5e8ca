/- An expression is read out of its sixteen cells: once for all walks. Steps by their runs: a row stored, one expression in a slice, TreeGrow's ascription built. A step of a region in one order, by its run (for loads of sixteen cells). -/
import Derived.Test.YtmmhpibkjdlkgaaGreatTxA
import Derived.BigQuiet
import Derived.Test.YtmmhpibkjdlkgaaGreatSeqA
namespace Go.Proofs.YtmmhpibkjdlkgaaGreat
open Go Go.RowKit
/-- An operation by its run. -/
theorem wpList_exec {P : Program} {w w' : World} {ops : Array Oper} {rest : List Oper} {o : Oper} {a : Act} {Q : Exit → Act → World → Prop} {v : Value} (hg : o.guard = none) (h : (execOp a.eval o).run P w = .ok (.value v) w') (hK : wpList P ops Q rest (a.put o.dst v) w') : wpList P ops Q (o :: rest) a w := by
  refine wpList_plain hg fun K' hK' => ?_
  unfold Oper.wp
  rw [h]
  exact hK' _ _ hK
set_option maxRecDepth 100000 in
set_option maxHeartbeats 4000000 in
theorem exec_load16 {ρ : Operand → Value} {o : Oper} {x : Operand} {W : World} {b : Nat} {v0 v1 v2 v3 v4 v5 v6 v7 v8 v9 v10 v11 v12 v13 v14 v15 : Value} (ho : o.op = .load 30 x) (hx : ρ x = .pointer (some ⟨b, 0, none⟩)) (c0 : W.cell? ⟨b, 0, none⟩ = some v0) (c1 : W.cell? ⟨b, 1, none⟩ = some v1) (c2 : W.cell? ⟨b, 2, none⟩ = some v2) (c3 : W.cell? ⟨b, 3, none⟩ = some v3) (c4 : W.cell? ⟨b, 4, none⟩ = some v4) (c5 : W.cell? ⟨b, 5, none⟩ = some v5) (c6 : W.cell? ⟨b, 6, none⟩ = some v6) (c7 : W.cell? ⟨b, 7, none⟩ = some v7) (c8 : W.cell? ⟨b, 8, none⟩ = some v8) (c9 : W.cell? ⟨b, 9, none⟩ = some v9) (c10 : W.cell? ⟨b, 10, none⟩ = some v10) (c11 : W.cell? ⟨b, 11, none⟩ = some v11) (c12 : W.cell? ⟨b, 12, none⟩ = some v12) (c13 : W.cell? ⟨b, 13, none⟩ = some v13) (c14 : W.cell? ⟨b, 14, none⟩ = some v14) (c15 : W.cell? ⟨b, 15, none⟩ = some v15) :
    (execOp ρ o).run Tryz.prog W = .ok (.value (.agg #[v0, v1, v2, v3, v4, v5, v6, v7, v8, v9, v10, v11, v12, v13, v14, v15])) W := by
  unfold execOp
  rw [ho]
  simp only [hx]
  go_simp
theorem run_bs2 (x0 x1 x2 x3 x4 x5 x6 x7 x8 x9 x10 x11 x12 x13 x14 x15 y0 y1 y2 y3 y4 y5 y6 y7 y8 y9 y10 y11 y12 y13 y14 y15 : Value) (W : World) : (Instr.buildSlice 28 2 #[(0, .agg #[x0, x1, x2, x3, x4, x5, x6, x7, x8, x9, x10, x11, x12, x13, x14, x15]), (1, .agg #[y0, y1, y2, y3, y4, y5, y6, y7, y8, y9, y10, y11, y12, y13, y14, y15])]).run Tryz.prog W = .ok (.slice (some ⟨W.heap.size, 0, none⟩) 2 2) (W.alloc (.cells #[x0, x1, x2, x3, x4, x5, x6, x7, x8, x9, x10, x11, x12, x13, x14, x15, y0, y1, y2, y3, y4, y5, y6, y7, y8, y9, y10, y11, y12, y13, y14, y15] 30)) := by kernel_rfl
theorem exec_bs2 {x0 x1 x2 x3 x4 x5 x6 x7 x8 x9 x10 x11 x12 x13 x14 x15 y0 y1 y2 y3 y4 y5 y6 y7 y8 y9 y10 y11 y12 y13 y14 y15 : Value} {ρ : Operand → Value} {o : Oper} {p q : Operand} {W : World} (ho : o.op = .buildSlice 28 2 #[(0, p), (1, q)]) (hp : ρ p = .agg #[x0, x1, x2, x3, x4, x5, x6, x7, x8, x9, x10, x11, x12, x13, x14, x15]) (hq : ρ q = .agg #[y0, y1, y2, y3, y4, y5, y6, y7, y8, y9, y10, y11, y12, y13, y14, y15]) :
    (execOp ρ o).run Tryz.prog W = .ok (.value (.slice (some ⟨W.heap.size, 0, none⟩) 2 2)) (W.alloc (.cells #[x0, x1, x2, x3, x4, x5, x6, x7, x8, x9, x10, x11, x12, x13, x14, x15, y0, y1, y2, y3, y4, y5, y6, y7, y8, y9, y10, y11, y12, y13, y14, y15] 30)) := by
  have h := run_bs2 x0 x1 x2 x3 x4 x5 x6 x7 x8 x9 x10 x11 x12 x13 x14 x15 y0 y1 y2 y3 y4 y5 y6 y7 y8 y9 y10 y11 y12 y13 y14 y15 W
  unfold execOp
  rw [ho]
  have hm : (#[(0, p), (1, q)] : Array (Nat × Operand)).map (fun y => (y.1, ρ y.2)) = #[(0, .agg #[x0, x1, x2, x3, x4, x5, x6, x7, x8, x9, x10, x11, x12, x13, x14, x15]), (1, .agg #[y0, y1, y2, y3, y4, y5, y6, y7, y8, y9, y10, y11, y12, y13, y14, y15])] := by simp [hp, hq]
  show (do pure (Next.value (← Instr.buildSlice 28 2 ((#[(0, p), (1, q)] : Array (Nat × Operand)).map (fun y => (y.1, ρ y.2))))) : Sem Next).run Tryz.prog W = _
  rw [hm]
  clear hm ho hp hq
  generalize Instr.buildSlice 28 2 #[(0, .agg #[x0, x1, x2, x3, x4, x5, x6, x7, x8, x9, x10, x11, x12, x13, x14, x15]), (1, .agg #[y0, y1, y2, y3, y4, y5, y6, y7, y8, y9, y10, y11, y12, y13, y14, y15])] = B at h ⊢
  go_simp
end Go.Proofs.YtmmhpibkjdlkgaaGreat
namespace Go.Proofs.YtmmhpibkjdlkgaaGreat
open Go Go.RowKit
theorem step_exec {P : Program} {ops : Array Oper} {o : Oper} {a : Act} {w w' : World} {r : Value} {K : Act → World → Prop} {Q : Exit → Act → World → Prop} {E : Prop} (hgd : o.guard = none) (hr : (execOp a.eval o).run P w = .ok (.value r) w') (h : K (a.put o.dst r) w') :
    if Region.wanted o (yielded ops a.tmps) = true then Oper.wp P o a w K Q else E := by
  have hw : Region.wanted o (yielded ops a.tmps) = true := by simp [Region.wanted, hgd]
  rw [if_pos hw]
  unfold Oper.wp
  rw [hr]
  exact h
theorem step_store_row {P : Program} {ops : Array Oper} {o : Oper} {a : Act} {w : World} {K : Act → World → Prop} {Q : Exit → Act → World → Prop} {E : Prop} (hgd : o.guard = none) (ty : TypeId) (x y : Operand) (ho : o.op = .store ty x y)
    (g : Nat) (cells : Array Value) (hx : a.eval x = .pointer (some ⟨g, 0, none⟩)) (hy : a.eval y = .agg cells)
    (t : TypeId) (old : Array Value) (hg : w.heap[g]? = some (.cells old t (0, 0))) (hi : (P.info? ty).map (·.size) = some cells.size)
    (hold : old.size = cells.size) (h1 : cells.all (·.oneCell') = true)
    (h : K (a.put o.dst undef) (w.setRow g cells)) : if Region.wanted o (yielded ops a.tmps) = true then Oper.wp P o a w K Q else E := by
  have hw : Region.wanted o (yielded ops a.tmps) = true := by simp [Region.wanted, hgd]
  rw [if_pos hw]
  exact wp_store_row ty x y ho g cells hx hy t old hg hi hold h1 h
theorem run_bs1 (x0 x1 x2 x3 x4 x5 x6 x7 x8 x9 x10 x11 x12 x13 x14 x15 : Value) (W : World) : (Instr.buildSlice 28 1 #[(0, .agg #[x0, x1, x2, x3, x4, x5, x6, x7, x8, x9, x10, x11, x12, x13, x14, x15])]).run Tryz.prog W = .ok (.slice (some ⟨W.heap.size, 0, none⟩) 1 1) (W.alloc (.cells #[x0, x1, x2, x3, x4, x5, x6, x7, x8, x9, x10, x11, x12, x13, x14, x15] 30)) := by kernel_rfl
theorem exec_bs1 {x0 x1 x2 x3 x4 x5 x6 x7 x8 x9 x10 x11 x12 x13 x14 x15 : Value} {ρ : Operand → Value} {o : Oper} {p : Operand} {W : World} (ho : o.op = .buildSlice 28 1 #[(0, p)]) (hp : ρ p = .agg #[x0, x1, x2, x3, x4, x5, x6, x7, x8, x9, x10, x11, x12, x13, x14, x15]) :
    (execOp ρ o).run Tryz.prog W = .ok (.value (.slice (some ⟨W.heap.size, 0, none⟩) 1 1)) (W.alloc (.cells #[x0, x1, x2, x3, x4, x5, x6, x7, x8, x9, x10, x11, x12, x13, x14, x15] 30)) := by
  have h := run_bs1 x0 x1 x2 x3 x4 x5 x6 x7 x8 x9 x10 x11 x12 x13 x14 x15 W
  unfold execOp
  rw [ho]
  have hm : (#[(0, p)] : Array (Nat × Operand)).map (fun y => (y.1, ρ y.2)) = #[(0, .agg #[x0, x1, x2, x3, x4, x5, x6, x7, x8, x9, x10, x11, x12, x13, x14, x15])] := by simp [hp]
  show (do pure (Next.value (← Instr.buildSlice 28 1 ((#[(0, p)] : Array (Nat × Operand)).map (fun y => (y.1, ρ y.2))))) : Sem Next).run Tryz.prog W = _
  rw [hm]
  clear hm ho hp
  generalize Instr.buildSlice 28 1 #[(0, .agg #[x0, x1, x2, x3, x4, x5, x6, x7, x8, x9, x10, x11, x12, x13, x14, x15])] = B at h ⊢
  go_simp
theorem run_asc (W : World) (b : Nat) : (Instr.build 30 #[(0, .int .i64 15), (7, .agg #[.int .i64 1, .int .i64 0, .slice none 0 0]), (10, .slice (some ⟨b, 0, none⟩) 1 1)]).run Tryz.prog W = .ok (.agg #[.int .i64 15, .int .i64 0, .int .i64 0, .string ⟨#[]⟩, .string ⟨#[]⟩, .int .i64 0, .string ⟨#[]⟩, .int .i64 0, .int .i64 1, .int .i64 0, .slice none 0 0, .int .i64 0, .int .i64 0, .slice none 0 0, .slice none 0 0, .slice (some ⟨b, 0, none⟩) 1 1]) W := by kernel_rfl
theorem exec_asc {ρ : Operand → Value} {o : Oper} {p q : Operand} {b : Nat} {W : World} (ho : o.op = .build 30 #[(0, .const (.int .i64 15)), (7, p), (10, q)]) (hc : ρ (.const (.int .i64 15)) = .int .i64 15) (hp : ρ p = .agg #[.int .i64 1, .int .i64 0, .slice none 0 0]) (hq : ρ q = .slice (some ⟨b, 0, none⟩) 1 1) :
    (execOp ρ o).run Tryz.prog W = .ok (.value (.agg #[.int .i64 15, .int .i64 0, .int .i64 0, .string ⟨#[]⟩, .string ⟨#[]⟩, .int .i64 0, .string ⟨#[]⟩, .int .i64 0, .int .i64 1, .int .i64 0, .slice none 0 0, .int .i64 0, .int .i64 0, .slice none 0 0, .slice none 0 0, .slice (some ⟨b, 0, none⟩) 1 1])) W := by
  have h := run_asc W b
  unfold execOp
  rw [ho]
  have hm : (#[(0, .const (.int .i64 15)), (7, p), (10, q)] : Array (Nat × Operand)).map (fun y => (y.1, ρ y.2)) = #[(0, .int .i64 15), (7, .agg #[.int .i64 1, .int .i64 0, .slice none 0 0]), (10, .slice (some ⟨b, 0, none⟩) 1 1)] := by simp [hp, hq, hc]
  show (do pure (Next.value (← Instr.build 30 ((#[(0, .const (.int .i64 15)), (7, p), (10, q)] : Array (Nat × Operand)).map (fun y => (y.1, ρ y.2))))) : Sem Next).run Tryz.prog W = _
  rw [hm]
  clear hm ho hp hq hc
  generalize Instr.build 30 #[(0, .int .i64 15), (7, .agg #[.int .i64 1, .int .i64 0, .slice none 0 0]), (10, .slice (some ⟨b, 0, none⟩) 1 1)] = B at h ⊢
  go_simp
end Go.Proofs.YtmmhpibkjdlkgaaGreat
namespace Go.Proofs.YtmmhpibkjdlkgaaGreat
open Go Go.RowKit
variable {P : Program} {ops : Array Oper} {Q : Exit → Act → World → Prop}
theorem sx0 {ps : List (Nat × Bool)} {o : Oper} {l : List Oper} {a : Act} {w : World} (hw : Region.wanted o (yielded ops a.tmps) = true) (v : Value) (hr : ∀ x, Below w.heap.size w x → (execOp a.eval o).run P x = .ok (.value v) x) (h : wpSeq P ops Q ps l (a.put o.dst v) w) : wpSeq P ops Q ((0, false) :: ps) (o :: l) a w :=
  sp0 (fun K hK => by rw [if_pos hw]; exact ⟨v, hr, hK _ _ h⟩)
theorem sx1 {ps : List (Nat × Bool)} {o x1 : Oper} {l : List Oper} {a : Act} {w : World} (hw : Region.wanted o (yielded ops a.tmps) = true) (v : Value) (hr : ∀ x, Below w.heap.size w x → (execOp a.eval o).run P x = .ok (.value v) x) (h : wpSeq P ops Q ps (x1 :: l) (a.put o.dst v) w) : wpSeq P ops Q ((1, false) :: ps) (x1 :: o :: l) a w :=
  sp1 (fun K hK => by rw [if_pos hw]; exact ⟨v, hr, hK _ _ h⟩)
theorem sx2 {ps : List (Nat × Bool)} {o x1 x2 : Oper} {l : List Oper} {a : Act} {w : World} (hw : Region.wanted o (yielded ops a.tmps) = true) (v : Value) (hr : ∀ x, Below w.heap.size w x → (execOp a.eval o).run P x = .ok (.value v) x) (h : wpSeq P ops Q ps (x1 :: x2 :: l) (a.put o.dst v) w) : wpSeq P ops Q ((2, false) :: ps) (x1 :: x2 :: o :: l) a w :=
  sp2 (fun K hK => by rw [if_pos hw]; exact ⟨v, hr, hK _ _ h⟩)
end Go.Proofs.YtmmhpibkjdlkgaaGreat
