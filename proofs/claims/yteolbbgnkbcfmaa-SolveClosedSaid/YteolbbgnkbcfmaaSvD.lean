/- solve.work.pop. -/
import Derived.Test.YteolbbgnkbcfmaaSvB
namespace Go.Proofs.Yteolbbgnkbcfmaa
open Go Go.RowKit Go.Shelf
theorem elem_pr : Try.prog.underlying 114 = some (.slice (Try.prog.elem 114)) := by kernel_rfl
theorem size_pr (w : World) : (sizeOf (Try.prog.elem 114)).run Try.prog w = .ok 3 w := by kernel_rfl
theorem pr_pop (a : Option Addr) (n cap k : Nat) (hk : k ≤ n) (hn : n ≤ cap) (w' : World) :
    (Instr.slice 114 (.slice a n cap) none (some (.int .i64 (k : Int))) none).run Try.prog w' = .ok (.slice a k cap) w' := by
  rw [run_slice_h w' _ _ n cap elem_pr .i64 (k : Int) (by omega) (by omega), size_pr]
  cases a with
  | none => simp [Result.andThen, sliced]
  | some b =>
    obtain ⟨b, o, sp⟩ := b
    simp [Result.andThen, sliced, Addr.add]
section
variable {Bs b s : Nat} {oa : Option Addr} {oc mb mc nd ns : Nat} {w : World} {P : List Pr} {D : List (Nat × Nat)} {S : IMap}
/-- Where the top pair lies. -/
theorem WK.top {p : Pr} (h : WK Bs b s oa oc mb mc nd ns w (p :: P) D S) : ∃ g, oa = some ⟨g, 0, none⟩ ∧ P.length + 1 ≤ oc ∧ oc ≤ maxLen ∧ w.cell? ⟨g, P.length * 3, none⟩ = some (.int .i64 (p.x : Int)) ∧ w.cell? ⟨g, P.length * 3 + 1, none⟩ = some (.int .i64 (p.y : Int)) ∧ w.cell? ⟨g, P.length * 3 + 2, none⟩ = some (.bool p.fr) := by
  have hr := h.row
  rcases hr.2 with ⟨_, h2⟩ | ⟨g, cap, cur, h1, h2, h3, h4, h5, _⟩
  · simp at h2
  · injection h1 with e1 e2 e3
    subst e1 e3
    have hc := hr.cells (g := g) rfl
    have k : ∀ j, j < 3 → ∀ u, (prC p)[j]? = some u → w.cell? ⟨g, P.length * 3 + j, none⟩ = some u := fun j hj u hu => by
      have := hc (P.length * 3 + j) u (by rw [prRow, List.getElem?_append_right (by rw [prRow_len]; omega), prRow_len, Nat.add_sub_cancel_left]; exact hu)
      rw [add_flat, Nat.zero_add] at this; exact this
    have hl : P.length + 1 ≤ oc := by simpa using h4
    exact ⟨g, rfl, hl, h5, k 0 (by omega) _ rfl, k 1 (by omega) _ rfl, k 2 (by omega) _ rfl⟩
set_option maxRecDepth 100000 in
set_option maxHeartbeats 2000000 in
theorem pop13_any {p : Pr} (h : WK Bs b s oa oc mb mc nd ns w (p :: P) D S) :
    Calls Try.prog 88 #[.pointer (some ⟨b, 0, none⟩)] w fun e w' => e = .returned (.agg #[.int .i64 (p.x : Int), .int .i64 (p.y : Int), .bool p.fr]) ∧ WK Bs b s oa oc mb mc nd ns w' P D S ∧ Kp w.heap.size (fun k => k = b) w w' := by
  obtain ⟨g, rfl, hle, hcm, x0, x1, x2⟩ := h.top
  have hbox := h.box
  rw [List.length_cons] at hbox
  obtain ⟨k, hk⟩ : ∃ k, P.length = k := ⟨_, rfl⟩
  have hgb := (h.own.2.2.2 g (by simp [Value.ownBlock])).1
  have hpop := fun w' => pr_pop (some ⟨g, 0, none⟩) (k + 1) oc k (by omega) (by omega) w'
  rw [hk] at x0 x1 x2 hle hbox
  have hblt := (Array.getElem?_eq_some_iff.1 hbox).1
  have hglt := cell_lt x0
  have b1 : w.cell? ⟨b, 1, none⟩ = some (.slice (some ⟨g, 0, none⟩) (k + 1) oc) := cell_box hbox rfl rfl
  have fb : ∀ j, w.frozen? ⟨b, j, none⟩ = false := fun j => by simp [World.frozen?, hbox]
  have hw1 : wrap64 (((k + 1 : Nat) : Int) - 1) = (k : Int) := by unfold maxLen at hcm; unfold wrap64; omega
  have hw3 : wrap64 (k : Int) = (k : Int) := by unfold maxLen at hcm; unfold wrap64; omega
  have hw2 : wrap64 ((k : Int) + 1 - 1) = (k : Int) := by unfold maxLen at hcm; unfold wrap64; omega
  obtain ⟨q0, q1⟩ := pt_int (show k < k + 1 by omega)
  have HBOX := Lib.hid hbox; have HG := Lib.hid hgb; have HK := Lib.hid hk; have HH := Lib.hid h
  have HBL := Lib.hid hblt
  clear hbox hk h hcm
  go_enter Try.func88, Try.ntmps88
  go_wp2_with fail
  obtain ⟨V1, hV1⟩ : ∃ V, w.setCell ⟨b, 1, none⟩ (.slice (some ⟨g, 0, none⟩) k oc) = V := ⟨_, rfl⟩
  rw [hV1]
  have hx : ((V1.alloc (.cells #[.int .i64 (p.x : Int), .int .i64 (p.y : Int), .bool p.fr] 113)).alloc (.cells #[.int .i64 (p.x : Int), .int .i64 (p.y : Int), .bool p.fr] 113)).heap[w.heap.size]? = some (.cells #[.int .i64 (p.x : Int), .int .i64 (p.y : Int), .bool p.fr] 113) := by
    have hz : V1.heap.size = w.heap.size := by rw [← hV1]; exact size_setCell _ _ _
    rw [← hz]; exact (Below.heap_alloc _ _ _ (by rw [World.size_alloc]; omega)).trans (World.alloc_heap_new V1 _)
  have hbel : Below V1.heap.size V1 ((V1.alloc (.cells #[.int .i64 (p.x : Int), .int .i64 (p.y : Int), .bool p.fr] 113)).alloc (.cells #[.int .i64 (p.x : Int), .int .i64 (p.y : Int), .bool p.fr] 113)) := ((Below.refl _ _).alloc (Nat.le_refl _) _).alloc (by simp) _
  have hwk : WK Bs b s (some ⟨g, 0, none⟩) oc mb mc nd ns V1 P D S := by
    have h := HH.out
    have ho := h.own
    have far : ∀ i, i ≠ b → V1.heap[i]? = w.heap[i]? := fun i hi => by rw [← hV1]; exact Below.heap_setCell _ _ _ i hi
    refine ⟨?_, ?_, h.dn.same (far _ (fun e => ho.1 e.symm)), h.st.same (far _ (fun e => ho.2.1 e.symm)), h.lb, h.lm, h.lc, h.ne⟩
    · rw [← hV1, HK.out]; exact box_set HBOX.out
    · have h1 := own_take (k := k) (xs := prRow P) (ys := prC p) h.row (by rw [List.length_cons, HK.out]; omega) (by rw [prRow_len, HK.out])
      rw [HK.out]
      exact own_same h1 (fun i hi => far i (fun e => by
        have hi' : g = i := by simpa [Value.ownBlock] using hi
        have := HG.out; omega))
  have hkp : Kp w.heap.size (fun k => k = b) w V1 := by rw [← hV1]; exact (Kp.refl w.heap.size (fun k => k = b) w).setCell (p := ⟨b, 1, none⟩) (.inr rfl) _
  refine bodyPost_ret_by (v := .agg #[.int .i64 (p.x : Int), .int .i64 (p.y : Int), .bool p.fr]) (results_cell_row (p := 2) (ty := 113) (by kernel_rfl) _ _ w.heap.size 113 _ (0, 0) _ rfl hx Try.underlying113 rfl (by kernel_rfl)) rfl ⟨rfl, hwk.below hbel, hkp.trans ((Kp.of_below hbel).mono (by rw [← hV1, size_setCell]; exact Nat.le_refl _) (fun _ _ h => h))⟩
end
end Go.Proofs.Yteolbbgnkbcfmaa
