/- The stack of claims of package sub, in memory. -/
import Derived.Test.YtafekidkikfpcaaSbU
import Derived.Test.YtafekidkikfpcaaPbC
namespace Go.Proofs.Ytafekidkikfpcaa
open Go Go.RowKit
open Tp (T Md)

/-- A claim on the stack. -/
structure EnC where
  m : Md
  x : T
  a : Option Addr
  ca : Nat
  y : T
  b : Option Addr
  cb : Nat
def encCells (e : EnC) : List Value := [.int .i64 (mdv e.m), .int .i64 e.x.kind, .int .i64 e.x.num, .slice e.a e.x.kids.length e.ca, .int .i64 e.y.kind, .int .i64 e.y.num, .slice e.b e.y.kids.length e.cb]
def stcCells (S : List EnC) : List Value := S.flatMap encCells
theorem stcCells_length : ∀ S : List EnC, (stcCells S).length = S.length * 7
  | [] => rfl
  | e :: r => by
    have := stcCells_length r
    simp only [stcCells, List.flatMap_cons, List.length_append, List.length_cons, encCells, List.length_nil] at this ⊢
    omega
theorem stcCells_snoc (S : List EnC) (e : EnC) : stcCells (S ++ [e]) = stcCells S ++ encCells e := by simp [stcCells]
def EnC.key (e : EnC) : Md × T × T := (e.m, e.x, e.y)
def EnC.good (n : Nat) (w : World) (e : EnC) : Prop := TyAt (LT n) w e.x e.a e.ca ∧ TyAt (LT n) w e.y e.b e.cb ∧ Tp.right e.x = true ∧ Tp.right e.y = true
theorem elem_cl : Try.prog.underlying 50 = some (.slice (Try.prog.elem 50)) := by kernel_rfl
theorem size_cl (w : World) : (sizeOf (Try.prog.elem 50)).run Try.prog w = .ok 7 w := by kernel_rfl
theorem info_cl : (Try.prog.info? 49).map (fun i => (i.zero, i.size, i.bytes)) = some (some (.agg #[.int .i64 0, .int .i64 0, .int .i64 0, .slice none 0 0, .int .i64 0, .int .i64 0, .slice none 0 0]), 7, 88) := by kernel_rfl
theorem cl_pop (g n cap k : Nat) (hk : k ≤ n) (hn : n ≤ cap) (w' : World) :
    (Instr.slice 50 (.slice (some ⟨g, 0, none⟩) n cap) none (some (.int .i64 (k : Int))) none).run Try.prog w' = .ok (.slice (some ⟨g, 0, none⟩) k cap) w' := by
  rw [run_slice_h w' _ _ n cap elem_cl .i64 (k : Int) (by omega) (by omega), size_cl]
  simp [Result.andThen, sliced, add_flat]
theorem own_topC {w : World} {base : Nat} {v : Value} {R : List EnC} {e : EnC} (h : w.ownsRow base 49 7 v (R.length + 1) (stcCells (e :: R).reverse)) :
    ∃ g cap, v = .slice (some ⟨g, 0, none⟩) (R.length + 1) cap ∧ base ≤ g ∧ g < w.heap.size ∧ R.length + 1 ≤ cap ∧ cap ≤ maxLen ∧ (∀ i u, (encCells e)[i]? = some u → w.cell? ⟨g, R.length * 7 + i, none⟩ = some u) ∧
      w.ownsRow base 49 7 (.slice (some ⟨g, 0, none⟩) R.length cap) R.length (stcCells R.reverse) := by
  rw [List.reverse_cons, stcCells_snoc] at h
  obtain ⟨h1, h2 | ⟨g, cap, cur, h3, h4, h5, h6, h7, h8, h9⟩⟩ := id h
  · omega
  · subst h3
    have hlen := stcCells_length R.reverse
    rw [List.length_reverse] at hlen
    have hc := h.cells (g := g) rfl
    refine ⟨g, cap, rfl, h4, (Array.getElem?_eq_some_iff.1 h5).1, h6, h7, fun i u hu => ?_, own_take h (Nat.le_succ _) hlen⟩
    have := hc (R.length * 7 + i) u (by rw [← hlen, List.getElem?_append_right (by omega), Nat.add_sub_cancel_left]; exact hu)
    rwa [add_flat, Nat.zero_add] at this
/-- Between two rounds: 'res' is what the call is to hand back. -/
structure Cls (n : Nat) (res : Bool) (R : List EnC) (v : Value) (w : World) : Prop where
  own : w.ownsRow n 49 7 v R.length (stcCells R.reverse)
  each : ∀ e ∈ R, e.good n w
  same : clz (R.map EnC.key) = res
  small : ssz (R.map EnC.key) ≤ 20000
theorem goodC_below {n : Nat} {w w' : World} (hb : Below n w w') {e : EnC} (h : e.good n w) : e.good n w' :=
  ⟨h.1.below hb (fun _ h => h) (fun _ h => h), h.2.1.below hb (fun _ h => h) (fun _ h => h), h.2.2⟩
theorem cls_no {n : Nat} {res : Bool} {R : List EnC} {e : EnC} {v : Value} {w : World} (h : Cls n res (e :: R) v w) (hno : Tp.sd e.m e.x e.y = false) : res = false := by
  rw [← h.same]
  show (Tp.sd e.m e.x e.y && _) = false
  rw [hno]; rfl
theorem cls_drop {n : Nat} {res : Bool} {R : List EnC} {e : EnC} {v v' : Value} {w w' : World} (h : Cls n res (e :: R) v w) (hyes : Tp.sd e.m e.x e.y = true) (hb : Below n w w') (hown : w'.ownsRow n 49 7 v' R.length (stcCells R.reverse)) :
    ssz (R.map EnC.key) < ssz ((e :: R).map EnC.key) ∧ Cls n res R v' w' := by
  have h1 := ssz_cons e.key (R.map EnC.key)
  have h2 := wtC_pos e.key
  have h3 := h.small
  rw [List.map_cons] at h3 ⊢
  refine ⟨by omega, hown, fun e' he => goodC_below hb (h.each e' (List.mem_cons_of_mem _ he)), ?_, by omega⟩
  have h4 := h.same
  change (Tp.sd e.m e.x e.y && clz (R.map EnC.key)) = res at h4
  rw [hyes] at h4
  exact h4
/-- Its kids' claims lie on the stack. -/
theorem cls_next {n : Nat} {res : Bool} {R E : List EnC} {e : EnC} {v v' : Value} {w w' : World} (h : Cls n res (e :: R) v w) (hf : fits e.x e.y = true) (hs : settled e.m e.x e.y = false) (hE : E.map EnC.key = stk e.m e.x e.y e.x.kids.length)
    (hg : ∀ e' ∈ E, e'.good n w') (hb : Below n w w') (hown : w'.ownsRow n 49 7 v' (E.length + R.length) (stcCells (E ++ R).reverse)) : ssz ((E ++ R).map EnC.key) < ssz ((e :: R).map EnC.key) ∧ Cls n res (E ++ R) v' w' := by
  have hgd := h.each e (by simp)
  have h1 := ssz_cons e.key (R.map EnC.key)
  have h2 := ssz_append (E.map EnC.key) (R.map EnC.key)
  have h3 := h.small
  have h4 := stk_wt (m := e.m) hgd.2.2.1 hgd.2.2.2 hf
  rw [← hE] at h4
  have h5 : wtC (e.m, e.x, e.y) = wtC e.key := rfl
  rw [List.map_cons] at h3 ⊢
  rw [← List.map_append] at h2
  refine ⟨by omega, by rw [List.length_append]; exact hown, fun e' he => (List.mem_append.1 he).elim (hg e') (fun he => goodC_below hb (h.each e' (List.mem_cons_of_mem _ he))), ?_, by omega⟩
  have h6 := h.same
  change (Tp.sd e.m e.x e.y && clz (R.map EnC.key)) = res at h6
  rw [List.map_append, clz_append, hE]
  rw [claim_node hgd.2.2.1 hgd.2.2.2 hs, hf, Bool.true_and] at h6
  exact h6
/-- In the round that adds kids: k of them lie on the stack. -/
structure ClK (n : Nat) (m : Md) (x y : T) (R E : List EnC) (k : Nat) (v : Value) (w : World) : Prop where
  own : w.ownsRow n 49 7 v (E.length + R.length) (stcCells (E ++ R).reverse)
  each : ∀ e ∈ E, e.good n w
  laid : E.map EnC.key = stk m x y k
theorem ClK.len {n k : Nat} {m : Md} {x y : T} {R E : List EnC} {v : Value} {w : World} (h : ClK n m x y R E k v w) : E.length = k := by
  have := congrArg List.length h.laid
  rwa [List.length_map, stk_len] at this
theorem clK_push {n k g2 cap2 : Nat} {m : Md} {x y : T} {R E : List EnC} {e : EnC} {v : Value} {w w2 : World} (h : ClK n m x y R E k v w) (hk : e.key = kidC m x y k) (he : e.good n w)
    (hb : Below n w w2) (hown : w2.ownsRow n 49 7 (.slice (some ⟨g2, 0, none⟩) (E.length + R.length + 1) cap2) (E.length + R.length + 1) (stcCells (E ++ R).reverse ++ encCells e)) :
    ClK n m x y R (e :: E) (k + 1) (.slice (some ⟨g2, 0, none⟩) (E.length + R.length + 1) cap2) w2 := by
  refine ⟨?_, fun e' he' => ?_, ?_⟩
  · rw [List.cons_append, List.reverse_cons, stcCells_snoc, List.length_cons, show E.length + 1 + R.length = E.length + R.length + 1 from by omega]
    exact hown
  · rcases List.mem_cons.1 he' with rfl | he'
    · exact goodC_below hb he
    · exact goodC_below hb (h.each e' he')
  · rw [List.map_cons, hk, h.laid]; rfl
theorem b88 {r : Nat} (h : r ≤ 20000) : (r + 1) * 88 ≤ 140737488355328 ∧ r + 1 ≤ maxLen := by unfold maxLen; omega
theorem seven_cells (d k n k' n' : Int) (a a' : Option Addr) (m c m' c' : Nat) : ∀ u ∈ [Value.int .i64 d, .int .i64 k, .int .i64 n, .slice a m c, .int .i64 k', .int .i64 n', .slice a' m' c'], u.oneCell' = true := by
  intro u hu
  simp only [List.mem_cons, List.not_mem_nil, or_false] at hu
  rcases hu with rfl | rfl | rfl | rfl | rfl | rfl | rfl <;> rfl
/-- A claim in a box: its cells. -/
theorem cells_cl {W : World} {B : Nat} {d k n k' n' : Int} {a a' : Option Addr} {m c m' c' : Nat} (h : W.heap[B]? = some (.cells #[.int .i64 d, .int .i64 k, .int .i64 n, .slice a m c, .int .i64 k', .int .i64 n', .slice a' m' c'] 49)) :
    W.cell? ⟨B, 0, none⟩ = some (.int .i64 d) ∧ W.cell? ⟨B, 1, none⟩ = some (.int .i64 k) ∧ W.cell? ⟨B, 2, none⟩ = some (.int .i64 n) ∧ W.cell? ⟨B, 3, none⟩ = some (.slice a m c) ∧ W.cell? ⟨B, 4, none⟩ = some (.int .i64 k') ∧ W.cell? ⟨B, 5, none⟩ = some (.int .i64 n') ∧ W.cell? ⟨B, 6, none⟩ = some (.slice a' m' c') :=
  ⟨cell_box h rfl rfl, cell_box h rfl rfl, cell_box h rfl rfl, cell_box h rfl rfl, cell_box h rfl rfl, cell_box h rfl rfl, cell_box h rfl rfl⟩
theorem box_cl {w W : World} {A : Array Value} {t : TypeId} (hW : w.alloc (.cells A t) = W) : W.heap[w.heap.size]? = some (.cells A t) ∧ Below w.heap.size w W ∧ W.heap.size = w.heap.size + 1 := by
  subst hW
  exact ⟨World.alloc_heap_new w _, (Below.refl _ _).alloc (Nat.le_refl _) _, by simp⟩
/-- The kids of a right type are right, also what stands against them. -/
theorem other_right {y : T} (hy : Tp.right y = true) (k : Nat) (hk : ¬ y.kind = 5 → k < y.kids.length) : Tp.right (other y k) = true := by
  unfold other
  split
  · exact hy
  · rename_i h
    rw [List.getD_eq_getElem?_getD, List.getElem?_eq_getElem (hk h)]
    exact rights_at (kids_right hy) k (hk h)
theorem kid_get {x : T} {k : Nat} (h : k < x.kids.length) : x.kids.getD k nilT = x.kids[k] := by
  rw [List.getD_eq_getElem?_getD, List.getElem?_eq_getElem h]; rfl
end Go.Proofs.Ytafekidkikfpcaa
