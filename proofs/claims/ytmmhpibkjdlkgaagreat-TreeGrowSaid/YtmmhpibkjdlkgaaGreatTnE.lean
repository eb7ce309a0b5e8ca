/- tree.Depth, walked. -/
import Derived.Test.YtmmhpibkjdlkgaaGreatDpP
import Derived.Test.YtmmhpibkjdlkgaaGreatTxA
import Derived.Test.YtmmhpibkjdlkgaaGreatTcK
namespace Go.Proofs.YtmmhpibkjdlkgaaGreat
open Go Go.RowKit Go.Shelf
open Ex (E)

attribute [local go_sem] Oper.semAt_some

namespace Ex
mutual
theorem pre_dle : ∀ (p : E) (d : Nat) (k : E × Nat × Nat), k ∈ pre p d → k.2.2 + 1 ≤ d + size p
  | .mk k0 f t nm ar n s op A B ps l, d, k, h => by
    rw [pre] at h
    rw [size]
    rcases List.mem_cons.1 h with rfl | h
    · show d + 1 ≤ _; omega
    · have := pres_dle l (d + 1) k h; omega
theorem pres_dle : ∀ (l : List E) (d : Nat) (k : E × Nat × Nat), k ∈ pres l d → k.2.2 + 1 ≤ d + sizes l
  | [], d, k, h => by simp [pres] at h
  | x :: r, d, k, h => by
    rw [pres] at h
    rw [sizes]
    rcases List.mem_append.1 h with h | h
    · have := pre_dle x d k h; omega
    · have := pres_dle r d k h; omega
end
end Ex
namespace Tp
mutual
theorem depth_le : ∀ (t : T), depth t ≤ size t
  | .mk k n l => by have := depths_le l; rw [depth, size]; omega
theorem depths_le : ∀ (l : List T), depths l ≤ sizes l
  | [] => by simp [depths]
  | x :: r => by have := depth_le x; have := depths_le r; rw [depths, sizes]; omega
end
end Tp
theorem fdep_le {e : E} (hf : Ex.Fine e) : Ex.fdep e ≤ 10000 := by
  have h1 : top (e.pats.map Tr.depth) ≤ 10000 := top_le fun x hx => by
    obtain ⟨p, hp, rfl⟩ := List.mem_map.1 hx
    exact Nat.le_trans (Tr.depth_le p) (hf.ps p hp).1
  have h2 : Ex.annDepth e.a ≤ 10000 := by unfold Ex.annDepth; split; · omega
                                          · exact Nat.le_trans (Tp.depth_le _) hf.a
  have h3 : Ex.annDepth e.b ≤ 10000 := by unfold Ex.annDepth; split; · omega
                                          · exact Nat.le_trans (Tp.depth_le _) hf.b
  unfold Ex.fdep; omega
/-- How far down a visit leads. -/
def visDep (x : Vi E) : Nat := x.d + Ex.fdep x.t
theorem visDep_all {e : E} {xs : List (Vi E)} (h : noAll Ex.shape e xs) : top (xs.map visDep) = Ex.depth e := by
  rw [noAll, Ex.nKeys_shape] at h
  have e1 : xs.map visDep = (Ex.pre e 1).map fun k => k.2.2 + Ex.fdep k.1 := by rw [← h, List.map_map]; rfl
  rw [e1, Ex.pre_depth e 0, Nat.zero_add]
set_option maxRecDepth 100000 in
set_option maxHeartbeats 4000000 in
theorem edepth_any (e : E) (s : Leads) (w : World) (hf : Ex.FineAll e) (h : ExAt (LT w.heap.size) w e s) :
    Calls Tryz.prog 19 #[ev e s] w fun r w' => r = .returned (.int .i64 (Ex.depth e : Nat)) ∧ Below w.heap.size w w' := by
  refine callsIn_wide (n := 9) |>.1 ?_
  have HE := Lib.hid h; clear h
  have H30 := Lib.hid (fun b w => nodesE_any (.pointer (some ⟨b, 0, none⟩)) (.func (.func 51) #[] #[]) ⟨_, rfl⟩ ⟨_, rfl⟩ w)
  obtain ⟨c, hc⟩ : ∃ c, (evCells e s).toArray = c := ⟨_, rfl⟩
  have hbox : ∀ w, (Instr.box 30 (.agg c)).run Tryz.prog w = .ok (.pointer (some ⟨w.heap.size, 0, none⟩)) (w.alloc (.cells c 30)) := by
    intro w; rw [← hc]; rfl
  unfold ev
  rw [hc]
  have HC := Lib.hid hc
  clear hc
  refine callsIn_of_wp_marks Tryz.func19 rfl trivial ?_ rfl
  simp only [Tryz.ntmps19, List.size_toArray, List.length_cons, List.length_nil, Nat.reduceAdd, Nat.reduceSub, Array.replicate_succ, Array.replicate_zero, List.push_toArray, List.append_toArray, List.nil_append, List.cons_append]
  gi_wp2_with (refine ⟨trivial, ?_⟩; gi_at_call 50; refine (callsIn_wide.2 (H30.out _ _)).mono ?_; rintro e w' ⟨rfl, rfl⟩)
  obtain ⟨W4, hW4⟩ : ∃ W4, [Obj.cells c 30, .cells #[.int .i64 0] 3, .cells #[.pointer (some ⟨w.heap.size, 0, none⟩)] 68, .cells #[.func (.func 51) #[] #[]] 114].foldl World.alloc w = W4 := ⟨_, rfl⟩
  try rw [show (((w.alloc (.cells c 30)).alloc (.cells #[.int .i64 0] 3)).alloc (.cells #[.pointer (some ⟨w.heap.size, 0, none⟩)] 68)).alloc (.cells #[.func (.func 51) #[] #[]] 114) = W4 from hW4]
  have hs4 : W4.heap.size = w.heap.size + 4 := by rw [← hW4]; exact allocs_size _ _
  have hb4 : Below w.heap.size w W4 := by rw [← hW4]; exact allocs_below _ _ (Nat.le_refl _)
  have hx : W4.heap[w.heap.size]? = some (.cells c 30) := by rw [← hW4]; exact allocs_get _ w 0 _ rfl
  have hx1 : W4.heap[w.heap.size + 1]? = some (.cells #[.int .i64 0] 3) := by rw [← hW4]; exact allocs_get _ w 1 _ rfl
  have hx2 : W4.heap[w.heap.size + 1 + 1]? = some (.cells #[.pointer (some ⟨w.heap.size, 0, none⟩)] 68) := by rw [← hW4]; exact allocs_get _ w 2 _ rfl
  have hx3 : W4.heap[w.heap.size + 1 + 1 + 1]? = some (.cells #[.func (.func 51) #[] #[]] 114) := by rw [← hW4]; exact allocs_get _ w 3 _ rfl
  clear hW4
  refine wpIn_range_expr (Bt := w.heap.size + 1 + 1) (Bk := w.heap.size + 1 + 1 + 1) (n := w.heap.size + 1) (b := w.heap.size) (o := 0) (p := e) rfl (by omega)
    ⟨w.heap.size, 0, rfl, Nat.lt_succ_self _, HE.out.boxed hb4 (by rw [HC.out]; exact hx) _ (Nat.le_succ _) (Nat.lt_succ_self _)⟩ (by have := hf.1; omega) (cell_box hx2 rfl rfl) (cell_box hx3 rfl rfl) rfl
    (fun M pre V => (V.heap[w.heap.size + 1]? = some (.cells #[.int .i64 (top (pre.map visDep) : Nat)] 3) ∧ ¬ M (w.heap.size + 1)) ∧ Below w.heap.size w V) (fun _ _ _ _ => False)
    (fun x a' _ _ => a' = { tmps := #[.agg c, .pointer (some ⟨w.heap.size, 0, none⟩), .int .i64 0, .pointer (some ⟨w.heap.size + 1, 0, none⟩), .pointer x.p, .int .i64 (x.d : Int), .func (.func 86) #[] #[.pointer (some ⟨w.heap.size + 1 + 1, 0, none⟩), .pointer (some ⟨w.heap.size + 1 + 1 + 1, 0, none⟩)], .pointer x.p, .int .i64 (x.d : Int), undef, undef, undef, undef, undef, undef, undef], defers := [] })
    (fun s => Ab.and (Ab.block _ _ _) (Ab.below hb4.size w (Nat.le_refl _))) (fun _ _ => Ab.pure _ _) (fun _ _ => Ab.pure _ _) ⟨⟨hx1, fun h => h⟩, hb4⟩ ?assign ?body ?done ?stop
  case assign =>
    intro l M pre x V K hi hM hok hpl hK
    clear hx hx1 hx2 hx3
    gi_wp2
    exact hK _ _ (Turns.refl _ _) (by simp [Vi.enc2])
  case body =>
    rintro l M pre x a' V ⟨⟨hgv, hnM⟩, hbl⟩ hM hle hok ⟨b, o, hxp, hG, hn⟩ rfl
    have hmem := eat_mem hok
    have hfx : Ex.Fine x.t := hf.2 _ hmem
    have hxd : x.d ≤ 10000 := by have := Ex.pre_dle e 1 _ hmem; have := hf.1; simp at *; omega
    have hfd := fdep_le hfx
    have hVs : w.heap.size + 4 ≤ V.heap.size := by rw [← hs4]; exact hle
    have hcall := fieldDepth_any b o x.t V.drew (by show b < V.heap.size; have : b < w.heap.size + 1 := hG; omega) (ENode.mono (W := V) (W' := V.drew) (G := LT (w.heap.size + 1)) (G' := LT V.drew.heap.size) (fun _ _ _ => rfl) (fun y h => (Nat.lt_of_lt_of_le h (by omega) : y < V.heap.size)) _ _ _ hG hn) hfx
    have hsn : top ((pre ++ [x]).map visDep) = max (top (pre.map visDep)) (visDep x) := by rw [List.map_append]; exact top_snoc _ _
    have hvd : visDep x = x.d + Ex.fdep x.t := rfl
    rw [hxp]
    obtain ⟨mx, hmx⟩ : ∃ mx, top (pre.map visDep) = mx := ⟨_, rfl⟩
    obtain ⟨fd, hfd'⟩ : ∃ fd, Ex.fdep x.t = fd := ⟨_, rfl⟩
    obtain ⟨xd, hxd'⟩ : ∃ xd, x.d = xd := ⟨_, rfl⟩
    rw [hfd'] at hcall hfd hvd
    rw [hxd'] at hxd hvd ⊢
    rw [hmx] at hgv hsn
    have d0 : V.cell? ⟨w.heap.size + 1, 0, none⟩ = some (.int .i64 (mx : Int)) := cell_box hgv rfl rfl
    have f0 : V.frozen? ⟨w.heap.size + 1, 0, none⟩ = false := Boxed.frozen hgv
    have HSN := Lib.hid hsn; have HGV := Lib.hid hgv; have HNM := Lib.hid hnM; have HBL := Lib.hid hbl; have HCL := Lib.hid hcall; have HVS := Lib.hid hVs; have HVD := Lib.hid hvd
    clear hx hx1 hx2 hx3 hgv hnM hbl hM hle hok hsn hcall hVs hvd hmem hfx hn hxp hG hb4 hs4 hmx hfd' hxd'
    have hwr : IntKind.i64.wrap ((xd : Int) + (fd : Int)) = (xd : Int) + (fd : Int) := by
      simp [IntKind.wrap, IntKind.bits, IntKind.signed]
      omega
    have hm : (Tryz.prog).follows .mixedOrders = true := by kernel_rfl
    gi_upto_region 5 with fail
    gi_region_with_o (refine ⟨trivial, ?_⟩; gi_at_call 56; refine (CallsIn.inRound l (callsIn_wide.2 HCL.out)).mono ?_; rintro e w1 ⟨rfl, hb1⟩; have hr1 := (hb1.block _ (show w.heap.size + 1 < V.heap.size by have := HVS.out; omega)).trans HGV.out; have f1 : w1.frozen? ⟨w.heap.size + 1, 0, none⟩ = false := Boxed.frozen hr1; have c1 : w1.cell? ⟨w.heap.size + 1, 0, none⟩ = some (.int .i64 (mx : Int)) := cell_box hr1 rfl rfl; have HR1 := Lib.hid hr1; have HB1 := Lib.hid hb1; clear hr1 hb1)
    all_goals gi_wp2
    all_goals
      have hT1 : ∀ X : Nat → Prop, Turns X V w1 := fun X => ⟨HB1.out.os, HB1.out.tape, HB1.out.output, HB1.out.size, fun k hk _ => HB1.out.block k hk⟩
      refine ⟨(hT1 _).trans (Turns.setCell _ _ _ ⟨Nat.le_refl _, HNM.out⟩), ⟨?_, HNM.out⟩, ((hT1 (fun k => w.heap.size ≤ k)).below HBL.out (fun _ h => h) HBL.out.size).setCell (by simp) _⟩
      rw [HSN.out, HVD.out]
      first
      | (rw [show max mx (xd + fd) = xd + fd from by omega]; exact Boxed.set _ HR1.out)
      | (rw [show max mx (xd + fd) = mx from by omega]; exact Boxed.set _ HR1.out)
  case done =>
    rintro D M xs V hD hMD hM hS ⟨⟨hbx, hnM⟩, hbl⟩ hK
    rw [visDep_all hS] at hbx
    have d0 : V.cell? ⟨w.heap.size + 1, 0, none⟩ = some (.int .i64 (Ex.depth e : Nat)) := cell_box hbx rfl rfl
    clear hbx hx hx1 hx2 hx3
    gi_wp2
    refine ⟨by simp, .inl ⟨_, _, rfl, run_takeDeferred hK, ?_⟩⟩
    exact ⟨_, results_tmp rfl _ _ _, rfl, (Turns.putObj (M := fun k => w.heap.size ≤ k) V D _ (by omega)).below hbl (fun _ h => h) hbl.size⟩
  case stop =>
    rintro D M c pre V hD _ _ h _
    exact h.elim
end Go.Proofs.YtmmhpibkjdlkgaaGreat
