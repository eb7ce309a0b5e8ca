/- The law TreeGrow: its walk. -/
import Derived.Test.YtmmhpibkjdlkgaaGreatSmA
import Derived.Test.YtmmhpibkjdlkgaaGreatGrP
import Derived.Test.YtmmhpibkjdlkgaaGreatCnW
import Derived.Test.YtmmhpibkjdlkgaaGreatTwP
import Derived.Test.YtmmhpibkjdlkgaaGreatGrE
import Derived.Sort.CutIn
import Derived.BigQuiet
namespace Go.Proofs.YtmmhpibkjdlkgaaGreat
open Go Go.RowKit
open Ex (E)

/-- Two expressions in boxes of the call's own. -/
theorem ebox_two {w : World} {e f : E} {s t : Leads} (he : ExAt (LT w.heap.size) w e s) (hf : ExAt (LT w.heap.size) w f t) {W : World}
    (hW : [Obj.cells (evCells e s).toArray 30, .cells (evCells f t).toArray 30].foldl World.alloc w = W) :
    (∀ W', Below (w.heap.size + 2) W W' → (∀ i v, (evCells e s)[i]? = some v → W'.cell? ⟨w.heap.size, i, none⟩ = some v) ∧ (∀ i v, (evCells f t)[i]? = some v → W'.cell? ⟨w.heap.size + 1, i, none⟩ = some v) ∧
      ExAt (LT w.heap.size) W' e s ∧ ExAt (LT w.heap.size) W' f t ∧ w.heap.size + 2 ≤ W'.heap.size ∧ Below w.heap.size w W') ∧ W.heap.size = w.heap.size + 2 := by
  have hs : W.heap.size = w.heap.size + 2 := by rw [← hW]; exact allocs_size _ _
  have hb : Below w.heap.size w W := by rw [← hW]; exact allocs_below _ _ (Nat.le_refl _)
  have h0 : W.heap[w.heap.size]? = some (.cells (evCells e s).toArray 30) := by rw [← hW]; exact allocs_get _ w 0 _ rfl
  have h1 : W.heap[w.heap.size + 1]? = some (.cells (evCells f t).toArray 30) := by rw [← hW]; exact allocs_get _ w 1 _ rfl
  refine ⟨fun W' hb' => ?_, hs⟩
  have hbw : Below w.heap.size w W' := hb.trans (hb'.mono (by omega))
  refine ⟨fun i v hv => row_cell ((hb'.block _ (by omega)).trans h0) hv, fun i v hv => row_cell ((hb'.block _ (by omega)).trans h1) hv, he.mono (fun b o h => hbw.cell (p := ⟨b, o, none⟩) h) (fun _ h => h), hf.mono (fun b o h => hbw.cell (p := ⟨b, o, none⟩) h) (fun _ h => h), by have := hb'.size; omega, hbw⟩
/-- The pair of two, where it lies. -/
theorem pair6_at {G : Nat → Prop} {W : World} {e f : E} {s t : Leads} {b : Nat} {ty : TypeId} (h : W.heap[b]? = some (.cells (elCells [(e, s), (f, t)]).toArray ty)) (hb : G b) (he : ExAt G W e s) (hf : ExAt G W f t) : ExAt G W (pair6 e f) (pairL b) := by
  have hz : TyAt G W noT none 0 := ty_leaf G W (i64_small (by omega)) (i64_small (by omega))
  exact ex_at ⟨i64_small (by omega), i64_small (by omega), i64_small (by omega)⟩ hz hz ⟨Nat.le_refl _, Nat.zero_le _⟩ (by show PKids G W [] none; simp [PKids]) ⟨Nat.le_refl _, by show 2 ≤ maxLen; unfold maxLen; omega⟩
    (el_row [(e, s), (f, t)] h hb (fun x hx => by
      simp only [List.mem_cons, List.not_mem_nil, or_false] at hx
      rcases hx with rfl | rfl
      · exact he
      · exact hf))
theorem wrap_in {x : Int} (h1 : -9223372036854775808 ≤ x) (h2 : x ≤ 9223372036854775807) : IntKind.i64.wrap x = x := by
  simp [IntKind.wrap, IntKind.bits, IntKind.signed]
  omega
theorem TyRow.sl {w W : World} {L : List Tp.T} {v : Value} (h : TyRow w L W v) (hb : Below w.heap.size w W) : ∃ a c, v = .slice a L.length c ∧ SlAt (LT W.heap.size) W L a c := by
  by_cases hs : w.heap.size + 1 ≤ W.heap.size
  · exact h.slAt hs
  · obtain ⟨ls, h1, h2, h3⟩ := h
    have hz := hb.size
    rcases h3.2 with ⟨q1, q2⟩ | ⟨g, cp, cur, q1, q2, q3, _⟩
    · have hl : L = [] := List.eq_nil_of_length_eq_zero q2
      subst hl
      exact ⟨none, 0, q1, ⟨Nat.le_refl _, Nat.zero_le _, by simp [KidsAt]⟩⟩
    · have := (Array.getElem?_eq_some_iff.1 q3).1
      omega
theorem TyRow.shape {w W : World} {L : List Tp.T} {v : Value} (h : TyRow w L W v) : ∃ a c, v = .slice a L.length c := by
  obtain ⟨ls, h1, h2, h3⟩ := h
  exact own_shapeT h3
theorem TyRowG.shape {G : Nat → Prop} {w W : World} {L : List Tp.T} {v : Value} (h : TyRowG G w L W v) : ∃ a c, v = .slice a L.length c := by
  obtain ⟨ls, h1, h2, h3⟩ := h
  exact own_shapeT h3
/-- The ascription of one, where it lies. -/
theorem asc_at {G : Nat → Prop} {W : World} {e : E} {s : Leads} {b : Nat} {ty : TypeId} (h : W.heap[b]? = some (.cells (elCells [(e, s)]).toArray ty)) (hb : G b) (he : ExAt G W e s) : ExAt G W (asc15 e) (weL b) := by
  have hz : TyAt G W noT none 0 := ty_leaf G W (i64_small (by omega)) (i64_small (by omega))
  exact ex_at ⟨i64_small (by omega), i64_small (by omega), i64_small (by omega)⟩ (ty_leaf G W (i64_small (by omega)) (i64_small (by omega))) hz ⟨Nat.le_refl _, Nat.zero_le _⟩ (by show PKids G W [] none; simp [PKids]) ⟨Nat.le_refl _, by show 1 ≤ maxLen; unfold maxLen; omega⟩
    (el_row [(e, s)] h hb (fun x hx => by
      obtain rfl := List.mem_singleton.1 hx
      exact he))
set_option maxRecDepth 100000 in
set_option maxHeartbeats 4000000 in
theorem lgrow_any (e : E) (s : Leads) (f : E) (t : Leads) (w : World) (he : ExAt (LT w.heap.size) w e s) (hf : ExAt (LT w.heap.size) w f t) :
    Calls Tryz.prog 8 #[ev e s, ev f t] w fun r w' => r = .returned (.bool true) ∧ Below w.heap.size w w' := by
  obtain ⟨W0, hW0⟩ : ∃ W, [Obj.cells (evCells e s).toArray 30, .cells (evCells f t).toArray 30].foldl World.alloc w = W := ⟨_, rfl⟩
  obtain ⟨hfacts, hsz0⟩ := ebox_two he hf hW0
  obtain ⟨x0, x1, x2, x3, x4, x5, x6, x7, x8, x9, x10, x11, x12, x13, x14, x15, hcx⟩ : ∃ x0 x1 x2 x3 x4 x5 x6 x7 x8 x9 x10 x11 x12 x13 x14 x15, evCells e s = [x0, x1, x2, x3, x4, x5, x6, x7, x8, x9, x10, x11, x12, x13, x14, x15] := ⟨_, _, _, _, _, _, _, _, _, _, _, _, _, _, _, _, rfl⟩
  obtain ⟨y0, y1, y2, y3, y4, y5, y6, y7, y8, y9, y10, y11, y12, y13, y14, y15, hcy⟩ : ∃ y0 y1 y2 y3 y4 y5 y6 y7 y8 y9 y10 y11 y12 y13 y14 y15, evCells f t = [y0, y1, y2, y3, y4, y5, y6, y7, y8, y9, y10, y11, y12, y13, y14, y15] := ⟨_, _, _, _, _, _, _, _, _, _, _, _, _, _, _, _, rfl⟩
  have hX : ev e s = .agg #[x0, x1, x2, x3, x4, x5, x6, x7, x8, x9, x10, x11, x12, x13, x14, x15] := by unfold ev; rw [hcx]
  have hY : ev f t = .agg #[y0, y1, y2, y3, y4, y5, y6, y7, y8, y9, y10, y11, y12, y13, y14, y15] := by unfold ev; rw [hcy]
  have hel : (elCells [(e, s), (f, t)]).toArray = #[x0, x1, x2, x3, x4, x5, x6, x7, x8, x9, x10, x11, x12, x13, x14, x15, y0, y1, y2, y3, y4, y5, y6, y7, y8, y9, y10, y11, y12, y13, y14, y15] := by simp [elCells, hcx, hcy]
  rw [hX, hY]
  rw [hcx, hcy] at hW0 hfacts
  have hce : ∀ W', Below (w.heap.size + 2) W0 W' → W'.cell? ⟨w.heap.size, 0, none⟩ = some x0 ∧ W'.cell? ⟨w.heap.size, 1, none⟩ = some x1 ∧ W'.cell? ⟨w.heap.size, 2, none⟩ = some x2 ∧ W'.cell? ⟨w.heap.size, 3, none⟩ = some x3 ∧ W'.cell? ⟨w.heap.size, 4, none⟩ = some x4 ∧ W'.cell? ⟨w.heap.size, 5, none⟩ = some x5 ∧ W'.cell? ⟨w.heap.size, 6, none⟩ = some x6 ∧ W'.cell? ⟨w.heap.size, 7, none⟩ = some x7 ∧ W'.cell? ⟨w.heap.size, 8, none⟩ = some x8 ∧ W'.cell? ⟨w.heap.size, 9, none⟩ = some x9 ∧ W'.cell? ⟨w.heap.size, 10, none⟩ = some x10 ∧ W'.cell? ⟨w.heap.size, 11, none⟩ = some x11 ∧ W'.cell? ⟨w.heap.size, 12, none⟩ = some x12 ∧ W'.cell? ⟨w.heap.size, 13, none⟩ = some x13 ∧ W'.cell? ⟨w.heap.size, 14, none⟩ = some x14 ∧ W'.cell? ⟨w.heap.size, 15, none⟩ = some x15 := fun W' h => by
    obtain ⟨h1, _⟩ := hfacts W' h
    exact ⟨h1 0 _ rfl, h1 1 _ rfl, h1 2 _ rfl, h1 3 _ rfl, h1 4 _ rfl, h1 5 _ rfl, h1 6 _ rfl, h1 7 _ rfl, h1 8 _ rfl, h1 9 _ rfl, h1 10 _ rfl, h1 11 _ rfl, h1 12 _ rfl, h1 13 _ rfl, h1 14 _ rfl, h1 15 _ rfl⟩
  have hcf : ∀ W', Below (w.heap.size + 2) W0 W' → W'.cell? ⟨w.heap.size + 1, 0, none⟩ = some y0 ∧ W'.cell? ⟨w.heap.size + 1, 1, none⟩ = some y1 ∧ W'.cell? ⟨w.heap.size + 1, 2, none⟩ = some y2 ∧ W'.cell? ⟨w.heap.size + 1, 3, none⟩ = some y3 ∧ W'.cell? ⟨w.heap.size + 1, 4, none⟩ = some y4 ∧ W'.cell? ⟨w.heap.size + 1, 5, none⟩ = some y5 ∧ W'.cell? ⟨w.heap.size + 1, 6, none⟩ = some y6 ∧ W'.cell? ⟨w.heap.size + 1, 7, none⟩ = some y7 ∧ W'.cell? ⟨w.heap.size + 1, 8, none⟩ = some y8 ∧ W'.cell? ⟨w.heap.size + 1, 9, none⟩ = some y9 ∧ W'.cell? ⟨w.heap.size + 1, 10, none⟩ = some y10 ∧ W'.cell? ⟨w.heap.size + 1, 11, none⟩ = some y11 ∧ W'.cell? ⟨w.heap.size + 1, 12, none⟩ = some y12 ∧ W'.cell? ⟨w.heap.size + 1, 13, none⟩ = some y13 ∧ W'.cell? ⟨w.heap.size + 1, 14, none⟩ = some y14 ∧ W'.cell? ⟨w.heap.size + 1, 15, none⟩ = some y15 := fun W' h => by
    obtain ⟨_, h1, _⟩ := hfacts W' h
    exact ⟨h1 0 _ rfl, h1 1 _ rfl, h1 2 _ rfl, h1 3 _ rfl, h1 4 _ rfl, h1 5 _ rfl, h1 6 _ rfl, h1 7 _ rfl, h1 8 _ rfl, h1 9 _ rfl, h1 10 _ rfl, h1 11 _ rfl, h1 12 _ rfl, h1 13 _ rfl, h1 14 _ rfl, h1 15 _ rfl⟩
  have hle : ∀ W', Below (w.heap.size + 2) W0 W' → w.heap.size + 2 ≤ W'.heap.size := fun W' h => (hfacts W' h).2.2.2.2.1
  have hbw : ∀ W', Below (w.heap.size + 2) W0 W' → Below w.heap.size w W' := fun W' h => (hfacts W' h).2.2.2.2.2
  have hee : ∀ W', Below (w.heap.size + 2) W0 W' → ExAt (LT w.heap.size) W' e s := fun W' h => (hfacts W' h).2.2.1
  have hff : ∀ W', Below (w.heap.size + 2) W0 W' → ExAt (LT w.heap.size) W' f t := fun W' h => (hfacts W' h).2.2.2.1
  have hee2 : ∀ W', Below (w.heap.size + 2) W0 W' → ExAt (LT W'.heap.size) W' e s := fun W' h => (hee W' h).mono (fun _ _ _ => rfl) (fun b hb => (Nat.lt_of_lt_of_le hb (by have := hle W' h; omega) : b < W'.heap.size))
  have hff2 : ∀ W', Below (w.heap.size + 2) W0 W' → ExAt (LT W'.heap.size) W' f t := fun W' h => (hff W' h).mono (fun _ _ _ => rfl) (fun b hb => (Nat.lt_of_lt_of_le hb (by have := hle W' h; omega) : b < W'.heap.size))
  have hbx : ∀ w, (Instr.box 30 (.agg #[x0, x1, x2, x3, x4, x5, x6, x7, x8, x9, x10, x11, x12, x13, x14, x15])).run Tryz.prog w = .ok (.pointer (some ⟨w.heap.size, 0, none⟩)) (w.alloc (.cells #[x0, x1, x2, x3, x4, x5, x6, x7, x8, x9, x10, x11, x12, x13, x14, x15] 30)) := fun _ => rfl
  have hby : ∀ w, (Instr.box 30 (.agg #[y0, y1, y2, y3, y4, y5, y6, y7, y8, y9, y10, y11, y12, y13, y14, y15])).run Tryz.prog w = .ok (.pointer (some ⟨w.heap.size, 0, none⟩)) (w.alloc (.cells #[y0, y1, y2, y3, y4, y5, y6, y7, y8, y9, y10, y11, y12, y13, y14, y15] 30)) := fun _ => rfl
  have hbs : ∀ W : World, (Instr.buildSlice 28 2 #[(0, .agg #[x0, x1, x2, x3, x4, x5, x6, x7, x8, x9, x10, x11, x12, x13, x14, x15]), (1, .agg #[y0, y1, y2, y3, y4, y5, y6, y7, y8, y9, y10, y11, y12, y13, y14, y15])]).run Tryz.prog W = .ok (.slice (some ⟨W.heap.size, 0, none⟩) 2 2) (W.alloc (.cells #[x0, x1, x2, x3, x4, x5, x6, x7, x8, x9, x10, x11, x12, x13, x14, x15, y0, y1, y2, y3, y4, y5, y6, y7, y8, y9, y10, y11, y12, y13, y14, y15] 30)) := fun W => by kernel_rfl
  have hbd : ∀ (W : World) (b : Nat), (Instr.build 30 #[(0, .int .i64 6), (10, .slice (some ⟨b, 0, none⟩) 2 2)]).run Tryz.prog W = .ok (.agg #[.int .i64 6, .int .i64 0, .int .i64 0, .string ⟨#[]⟩, .string ⟨#[]⟩, .int .i64 0, .string ⟨#[]⟩, .int .i64 0, .int .i64 0, .int .i64 0, .slice none 0 0, .int .i64 0, .int .i64 0, .slice none 0 0, .slice none 0 0, .slice (some ⟨b, 0, none⟩) 2 2]) W := fun W b => by kernel_rfl
  obtain ⟨hvy, hhvy⟩ : ∃ x, decide (400 < Ex.hv [e, f] 0) = x := ⟨_, rfl⟩
  have hsm : hvy = false → ((Ex.FineAll e ∧ Ex.size e ≤ 401) ∧ (Ex.FineAll f ∧ Ex.size f ≤ 401) ∧ Ex.FineAll (pair6 e f) ∧ Ex.FineAll (asc15 e)) := fun h => Ex.hv_two (of_decide_eq_false (hhvy.trans h))
  have hhv := fun W' (h : Below (w.heap.size + 2) W0 W') => heavy_any [e, f] (some ⟨W'.heap.size, 0, none⟩) 2 (W'.alloc (.cells #[x0, x1, x2, x3, x4, x5, x6, x7, x8, x9, x10, x11, x12, x13, x14, x15, y0, y1, y2, y3, y4, y5, y6, y7, y8, y9, y10, y11, y12, y13, y14, y15] 30)) (by show 2 ≤ 1000; omega)
    (el_row [(e, s), (f, t)] (by rw [hel]; exact World.alloc_heap_new W' _) (by show W'.heap.size < _; rw [World.size_alloc]; omega) (fun x hx => by
      simp only [List.mem_cons, List.not_mem_nil, or_false] at hx
      have hal : Below W'.heap.size W' (W'.alloc (.cells #[x0, x1, x2, x3, x4, x5, x6, x7, x8, x9, x10, x11, x12, x13, x14, x15, y0, y1, y2, y3, y4, y5, y6, y7, y8, y9, y10, y11, y12, y13, y14, y15] 30)) := (Below.refl _ _).alloc (Nat.le_refl _) _
      rcases hx with rfl | rfl
      · exact (hee2 W' h).mono (fun b o hb => hal.cell (p := ⟨b, o, none⟩) hb) (fun b hb => Nat.lt_of_lt_of_le hb hal.size)
      · exact (hff2 W' h).mono (fun b o hb => hal.cell (p := ⟨b, o, none⟩) hb) (fun b hb => Nat.lt_of_lt_of_le hb hal.size)))
  rw [hhvy] at hhv
  replace hhv : ∀ W', Below (w.heap.size + 2) W0 W' → Calls Tryz.prog 9 #[.slice (some ⟨W'.heap.size, 0, none⟩) 2 2] (W'.alloc (.cells #[x0, x1, x2, x3, x4, x5, x6, x7, x8, x9, x10, x11, x12, x13, x14, x15, y0, y1, y2, y3, y4, y5, y6, y7, y8, y9, y10, y11, y12, y13, y14, y15] 30)) fun r w' => r = .returned (.bool hvy) ∧ Below (W'.alloc (.cells #[x0, x1, x2, x3, x4, x5, x6, x7, x8, x9, x10, x11, x12, x13, x14, x15, y0, y1, y2, y3, y4, y5, y6, y7, y8, y9, y10, y11, y12, y13, y14, y15] 30)).heap.size (W'.alloc (.cells #[x0, x1, x2, x3, x4, x5, x6, x7, x8, x9, x10, x11, x12, x13, x14, x15, y0, y1, y2, y3, y4, y5, y6, y7, y8, y9, y10, y11, y12, y13, y14, y15] 30)) w' := hhv
  have HCE := Lib.hid hce; have HCF := Lib.hid hcf; have HLE := Lib.hid hle; have HBW := Lib.hid hbw; have HEE := Lib.hid hee; have HFF := Lib.hid hff; have HEE2 := Lib.hid hee2; have HFF2 := Lib.hid hff2; have HSM := Lib.hid hsm; have HHV := Lib.hid hhv; have HX := Lib.hid hX; have HY := Lib.hid hY; have HEL := Lib.hid hel; have HCX := Lib.hid hcx; have HCY := Lib.hid hcy
  have HW0 := Lib.hid (show (w.alloc (.cells #[x0, x1, x2, x3, x4, x5, x6, x7, x8, x9, x10, x11, x12, x13, x14, x15] 30)).alloc (.cells #[y0, y1, y2, y3, y4, y5, y6, y7, y8, y9, y10, y11, y12, y13, y14, y15] 30) = W0 from hW0)
  have HB0 := Lib.hid (show Below (w.heap.size + 2) W0 W0 from Below.refl _ _)
  have HSZ0 := Lib.hid hsz0
  clear hfacts hce hcf hle hbw hee hff hee2 hff2 hsm hhv hX hY hel hcx hcy hW0 hsz0 he hf hhvy
  go_enter Tryz.func8, Tryz.ntmps8
  go_upto_region 1 with fail
  rw [HW0.out]
  as_aux_lemma =>
  obtain ⟨c0, c1, c2, c3, c4, c5, c6, c7, c8, c9, c10, c11, c12, c13, c14, c15⟩ := HCE.out _ HB0.out
  obtain ⟨d0, d1, d2, d3, d4, d5, d6, d7, d8, d9, d10, d11, d12, d13, d14, d15⟩ := HCF.out _ HB0.out
  iterate 1 (first | go_values | go_skip | go_guarded | go_step | go_upon | go_back)
  refine wpList_exec (o := ⟨some 9, _, _, _, _, _⟩) rfl (exec_load16 rfl rfl c0 c1 c2 c3 c4 c5 c6 c7 c8 c9 c10 c11 c12 c13 c14 c15) ?_
  simp only [Act.put, List.setIfInBounds_toArray, List.set_cons_zero, List.set_cons_succ]
  refine wpList_exec (o := ⟨some 10, _, _, _, _, _⟩) rfl (exec_load16 rfl rfl d0 d1 d2 d3 d4 d5 d6 d7 d8 d9 d10 d11 d12 d13 d14 d15) ?_
  simp only [Act.put, List.setIfInBounds_toArray, List.set_cons_zero, List.set_cons_succ]
  refine wpList_exec (o := ⟨some 11, _, _, _, _, _⟩) rfl (exec_bs2 rfl rfl rfl) ?_
  simp only [Act.put, List.setIfInBounds_toArray, List.set_cons_zero, List.set_cons_succ]
  clear c0 c1 c2 c3 c4 c5 c6 c7 c8 c9 c10 c11 c12 c13 c14 c15 d0 d1 d2 d3 d4 d5 d6 d7 d8 d9 d10 d11 d12 d13 d14 d15
  go_wp2_with fail
  refine (HHV.out _ HB0.out).mono ?_
  rintro r w1 ⟨rfl, hb1⟩
  have HB1 := Lib.hid ((HB0.out.alloc (HLE.out _ HB0.out) _).trans (hb1.mono (by rw [World.size_alloc]; have := HLE.out _ HB0.out; omega)))
  clear hb1
  as_aux_lemma =>
  cases hvy with
  | true =>
    go_wp2_with fail
    go_ret
    exact ⟨rfl, HBW.out _ HB1.out⟩
  | false =>
    obtain ⟨⟨hfe, hse⟩, ⟨hff, hsf⟩, hfp, hfa⟩ := HSM.out rfl
    obtain ⟨c0, c1, c2, c3, c4, c5, c6, c7, c8, c9, c10, c11, c12, c13, c14, c15⟩ := HCE.out _ HB1.out
    obtain ⟨d0, d1, d2, d3, d4, d5, d6, d7, d8, d9, d10, d11, d12, d13, d14, d15⟩ := HCF.out _ HB1.out
    clear hbx hby
    go_upto_region 3 with fail
    iterate 1 (first | go_values | go_skip | go_guarded | go_step | go_upon | go_back)
    refine wpList_exec (o := ⟨some 13, _, _, _, _, _⟩) rfl (exec_load16 rfl rfl c0 c1 c2 c3 c4 c5 c6 c7 c8 c9 c10 c11 c12 c13 c14 c15) ?_
    simp only [Act.put, List.setIfInBounds_toArray, List.set_cons_zero, List.set_cons_succ]
    refine wpList_exec (o := ⟨some 14, _, _, _, _, _⟩) rfl (exec_load16 rfl rfl d0 d1 d2 d3 d4 d5 d6 d7 d8 d9 d10 d11 d12 d13 d14 d15) ?_
    simp only [Act.put, List.setIfInBounds_toArray, List.set_cons_zero, List.set_cons_succ]
    refine wpList_exec (o := ⟨some 15, _, _, _, _, _⟩) rfl (exec_bs2 rfl rfl rfl) ?_
    simp only [Act.put, List.setIfInBounds_toArray, List.set_cons_zero, List.set_cons_succ]
    clear c0 c1 c2 c3 c4 c5 c6 c7 c8 c9 c10 c11 c12 c13 c14 c15 d0 d1 d2 d3 d4 d5 d6 d7 d8 d9 d10 d11 d12 d13 d14 d15
    go_upto_region 4 with fail
    obtain ⟨W4, hW4⟩ : ∃ W4, ((w1.alloc (.cells #[x0, x1, x2, x3, x4, x5, x6, x7, x8, x9, x10, x11, x12, x13, x14, x15, y0, y1, y2, y3, y4, y5, y6, y7, y8, y9, y10, y11, y12, y13, y14, y15] 30)).alloc (.cells #[.int .i64 6, .int .i64 0, .int .i64 0, .string ⟨#[]⟩, .string ⟨#[]⟩, .int .i64 0, .string ⟨#[]⟩, .int .i64 0, .int .i64 0, .int .i64 0, .slice none 0 0, .int .i64 0, .int .i64 0, .slice none 0 0, .slice none 0 0, .slice (some ⟨w1.heap.size, 0, none⟩) 2 2] 30)) = W4 := ⟨_, rfl⟩
    rw [hW4]
    as_aux_lemma =>
    have hW4' : [Obj.cells #[x0, x1, x2, x3, x4, x5, x6, x7, x8, x9, x10, x11, x12, x13, x14, x15, y0, y1, y2, y3, y4, y5, y6, y7, y8, y9, y10, y11, y12, y13, y14, y15] 30, .cells #[.int .i64 6, .int .i64 0, .int .i64 0, .string ⟨#[]⟩, .string ⟨#[]⟩, .int .i64 0, .string ⟨#[]⟩, .int .i64 0, .int .i64 0, .int .i64 0, .slice none 0 0, .int .i64 0, .int .i64 0, .slice none 0 0, .slice none 0 0, .slice (some ⟨w1.heap.size, 0, none⟩) 2 2] 30].foldl World.alloc w1 = W4 := by rw [← hW4]; simp only [List.foldl]
    clear hW4
    have hl1 := HLE.out _ HB1.out
    have hs4 : W4.heap.size = w1.heap.size + 2 := by rw [← hW4']; exact allocs_size _ _
    have hb4 : Below w1.heap.size w1 W4 := by rw [← hW4']; exact allocs_below _ _ (Nat.le_refl _)
    have g0 : W4.heap[w1.heap.size]? = some (.cells #[x0, x1, x2, x3, x4, x5, x6, x7, x8, x9, x10, x11, x12, x13, x14, x15, y0, y1, y2, y3, y4, y5, y6, y7, y8, y9, y10, y11, y12, y13, y14, y15] 30) := by rw [← hW4']; exact allocs_get _ w1 0 _ rfl
    have g1 : W4.heap[w1.heap.size + 1]? = some (.cells #[.int .i64 6, .int .i64 0, .int .i64 0, .string ⟨#[]⟩, .string ⟨#[]⟩, .int .i64 0, .string ⟨#[]⟩, .int .i64 0, .int .i64 0, .int .i64 0, .slice none 0 0, .int .i64 0, .int .i64 0, .slice none 0 0, .slice none 0 0, .slice (some ⟨w1.heap.size, 0, none⟩) 2 2] 30) := by rw [← hW4']; exact allocs_get _ w1 1 _ rfl
    clear hW4'
    have hup : ∀ W', Below (w1.heap.size + 2) W4 W' → Below (w.heap.size + 2) W0 W' := fun W' h => HB1.out.trans ((hb4.mono hl1).trans (h.mono (by omega)))
    have hle4 : ∀ W', Below (w1.heap.size + 2) W4 W' → w1.heap.size + 2 ≤ W'.heap.size := fun W' h => by have := h.size; omega
    have hcp : ∀ W', Below (w1.heap.size + 2) W4 W' → W'.cell? ⟨w1.heap.size + 1, 0, none⟩ = some (.int .i64 6) ∧ W'.cell? ⟨w1.heap.size + 1, 1, none⟩ = some (.int .i64 0) ∧ W'.cell? ⟨w1.heap.size + 1, 2, none⟩ = some (.int .i64 0) ∧ W'.cell? ⟨w1.heap.size + 1, 3, none⟩ = some (.string ⟨#[]⟩) ∧ W'.cell? ⟨w1.heap.size + 1, 4, none⟩ = some (.string ⟨#[]⟩) ∧ W'.cell? ⟨w1.heap.size + 1, 5, none⟩ = some (.int .i64 0) ∧ W'.cell? ⟨w1.heap.size + 1, 6, none⟩ = some (.string ⟨#[]⟩) ∧ W'.cell? ⟨w1.heap.size + 1, 7, none⟩ = some (.int .i64 0) ∧ W'.cell? ⟨w1.heap.size + 1, 8, none⟩ = some (.int .i64 0) ∧ W'.cell? ⟨w1.heap.size + 1, 9, none⟩ = some (.int .i64 0) ∧ W'.cell? ⟨w1.heap.size + 1, 10, none⟩ = some (.slice none 0 0) ∧ W'.cell? ⟨w1.heap.size + 1, 11, none⟩ = some (.int .i64 0) ∧ W'.cell? ⟨w1.heap.size + 1, 12, none⟩ = some (.int .i64 0) ∧ W'.cell? ⟨w1.heap.size + 1, 13, none⟩ = some (.slice none 0 0) ∧ W'.cell? ⟨w1.heap.size + 1, 14, none⟩ = some (.slice none 0 0) ∧ W'.cell? ⟨w1.heap.size + 1, 15, none⟩ = some (.slice (some ⟨w1.heap.size, 0, none⟩) 2 2) := fun W' h => by
      have h1 := (h.block _ (show w1.heap.size + 1 < w1.heap.size + 2 by omega)).trans g1
      exact ⟨cell_box h1 rfl rfl, cell_box h1 rfl rfl, cell_box h1 rfl rfl, cell_box h1 rfl rfl, cell_box h1 rfl rfl, cell_box h1 rfl rfl, cell_box h1 rfl rfl, cell_box h1 rfl rfl, cell_box h1 rfl rfl, cell_box h1 rfl rfl, cell_box h1 rfl rfl, cell_box h1 rfl rfl, cell_box h1 rfl rfl, cell_box h1 rfl rfl, cell_box h1 rfl rfl, cell_box h1 rfl rfl⟩
    have hpp : ∀ W', Below (w1.heap.size + 2) W4 W' → ExAt (LT W'.heap.size) W' (pair6 e f) (pairL w1.heap.size) := fun W' h =>
      pair6_at (by rw [HEL.out]; exact (h.block _ (by omega)).trans g0) (by have := hle4 W' h; show _ < _; omega) (HEE2.out W' (hup W' h)) (HFF2.out W' (hup W' h))
    have hP : ev (pair6 e f) (pairL w1.heap.size) = .agg #[.int .i64 6, .int .i64 0, .int .i64 0, .string ⟨#[]⟩, .string ⟨#[]⟩, .int .i64 0, .string ⟨#[]⟩, .int .i64 0, .int .i64 0, .int .i64 0, .slice none 0 0, .int .i64 0, .int .i64 0, .slice none 0 0, .slice none 0 0, .slice (some ⟨w1.heap.size, 0, none⟩) 2 2] := rfl
    obtain ⟨re, hre⟩ : ∃ x, Ex.right e = x := ⟨_, rfl⟩
    obtain ⟨rf, hrf⟩ : ∃ x, Ex.right f = x := ⟨_, rfl⟩
    obtain ⟨ee, hee⟩ : ∃ x, errOf re = x := ⟨_, rfl⟩
    obtain ⟨ef, hef⟩ : ∃ x, errOf rf = x := ⟨_, rfl⟩
    obtain ⟨ep, hep⟩ : ∃ x, errOf (re && rf) = x := ⟨_, rfl⟩
    have hke := fun W' h => check_anyE e s W' hfe (HEE2.out W' (hup W' h))
    have hkf := fun W' h => check_anyE f t W' hff (HFF2.out W' (hup W' h))
    have hkp := fun W' h => check_anyE (pair6 e f) _ W' hfp (hpp W' h)
    have hse' := fun W' h => esize_any e s W' hfe.1 (HEE2.out W' (hup W' h))
    have hsf' := fun W' h => esize_any f t W' hff.1 (HFF2.out W' (hup W' h))
    have hsp' := fun W' h => esize_any (pair6 e f) _ W' hfp.1 (hpp W' h)
    have hde := fun W' h => edepth_any e s W' hfe (HEE2.out W' (hup W' h))
    have hdf := fun W' h => edepth_any f t W' hff (HFF2.out W' (hup W' h))
    have hdp := fun W' h => edepth_any (pair6 e f) _ W' hfp (hpp W' h)
    have hve := fun W' h => value_any e s W' hfe (HEE2.out W' (hup W' h))
    have hvf := fun W' h => value_any f t W' hff (HFF2.out W' (hup W' h))
    have hvp := fun W' h => value_any (pair6 e f) _ W' hfp (hpp W' h)
    have hae := fun W' h => anns_anyG (LT w.heap.size) e s W' hfe (fun b hb => Nat.lt_of_lt_of_le hb (by have := HLE.out W' (hup W' h); omega)) (HEE.out W' (hup W' h))
    have haf := fun W' h => anns_anyG (LT w.heap.size) f t W' hff (fun b hb => Nat.lt_of_lt_of_le hb (by have := HLE.out W' (hup W' h); omega)) (HFF.out W' (hup W' h))
    have hap := fun W' h => anns_any (pair6 e f) _ W' hfp (hpp W' h)
    have hfr := fun W' h => free_any (pair6 e f) _ W' hfp (hpp W' h)
    have hwk : ∀ W' : World, Calls Tryz.prog 30 #[] W' fun e w' => e = .returned (.bool true) ∧ Below W'.heap.size W' w' := wakes_any
    rw [hP] at hkp hsp' hdp hvp hap hfr
    rw [HX.out] at hke hse' hde hve hae
    rw [HY.out] at hkf hsf' hdf hvf haf
    rw [hre, hee] at hke; rw [hrf, hef] at hkf
    rw [hre] at hve hae; rw [hrf] at hvf haf
    rw [pair6_right, hre, hrf] at hkp hvp hap hfr
    rw [hep] at hkp
    rw [pair6_value] at hvp; rw [pair6_depth] at hdp; rw [pair6_size] at hsp'; rw [pair6_anns] at hap
    have HRE := Lib.hid hre
    have bde := Ex.depth_bd e 1 hfe.2
    have bdf := Ex.depth_bd f 1 hff.2
    have LA := Lib.hid (show (if re = true then Ex.anns e else []).length ≤ 1000 ∧ (if rf = true then Ex.anns f else []).length ≤ 1000 from ⟨by have h1 := Ex.anns_len e; split <;> first | omega | simp, by have h1 := Ex.anns_len f; split <;> first | omega | simp⟩)
    obtain ⟨ne, hne⟩ : ∃ x, Ex.size e = x := ⟨_, rfl⟩
    obtain ⟨nf, hnf⟩ : ∃ x, Ex.size f = x := ⟨_, rfl⟩
    obtain ⟨de, hde9⟩ : ∃ x, Ex.depth e = x := ⟨_, rfl⟩
    obtain ⟨df, hdf9⟩ : ∃ x, Ex.depth f = x := ⟨_, rfl⟩
    obtain ⟨ve, hve9⟩ : ∃ x, Ex.value e = x := ⟨_, rfl⟩
    obtain ⟨vf, hvf9⟩ : ∃ x, Ex.value f = x := ⟨_, rfl⟩
    rw [hne] at hse' bde hsp' hse; rw [hnf] at hsf' bdf hsp' hsf
    rw [hde9] at hde bde hdp; rw [hdf9] at hdf bdf hdp
    rw [hve9] at hve hvp; rw [hvf9] at hvf hvp
    have HUP := Lib.hid hup; have HLE4 := Lib.hid hle4; have HCP := Lib.hid hcp; have HPP := Lib.hid hpp; have HKE := Lib.hid hke; have HKF := Lib.hid hkf; have HKP := Lib.hid hkp; have HSE := Lib.hid hse'; have HSF := Lib.hid hsf'; have HSP := Lib.hid hsp'; have HDE := Lib.hid hde; have HDF := Lib.hid hdf; have HDP := Lib.hid hdp; have HVE := Lib.hid hve; have HVF := Lib.hid hvf; have HVP := Lib.hid hvp; have HAE := Lib.hid hae; have HAF := Lib.hid haf; have HAP := Lib.hid hap; have HFR := Lib.hid hfr; have HWK := Lib.hid hwk; have HQE := Lib.hid hee; have HQF := Lib.hid hef; have HQP := Lib.hid hep; have HFA := Lib.hid hfa; have HRE := Lib.hid hre; have HNE := Lib.hid hne
    have HB4 := Lib.hid (show Below (w1.heap.size + 2) W4 W4 from Below.refl _ _)
    have LE := Lib.hid (show ne ≤ 401 ∧ nf ≤ 401 ∧ de ≤ 10401 ∧ df ≤ 10401 from ⟨hse, hsf, by omega, by omega⟩)
    clear hup hle4 hcp hpp hke hkf hkp hse' hsf' hsp' hde hdf hdp hve hvf hvp hae haf hap hfr hwk hee hef hep hre hrf hne hnf hde9 hdf9 hve9 hvf9 bde bdf hse hsf hfe hff hfp hfa hP g0 g1 hs4 hb4 hl1
    as_aux_lemma =>
      go_cut [6] (fun v wx => v = .bool (re && rf) ∧ Below (w1.heap.size + 2) W4 wx)
      case first =>
        as_aux_lemma =>
        obtain ⟨c0, c1, c2, c3, c4, c5, c6, c7, c8, c9, c10, c11, c12, c13, c14, c15⟩ := HCE.out _ (HUP.out _ HB4.out)
        have hq := HQE.out
        cases re with
        | false =>
          obtain rfl : ee = 1 := hq.symm
          go_wp2_with fail
          refine (HKE.out _ HB4.out).mono ?_
          clear c0 c1 c2 c3 c4 c5 c6 c7 c8 c9 c10 c11 c12 c13 c14 c15 hq
          rintro r w5 ⟨rfl, hb5⟩
          go_wp2_with fail
          go_meet
          exact ⟨rfl, HB4.out.trans (hb5.mono (HLE4.out _ HB4.out))⟩
        | true =>
          obtain rfl : ee = 0 := hq.symm
          go_wp2_with fail
          refine (HKE.out _ HB4.out).mono ?_
          clear c0 c1 c2 c3 c4 c5 c6 c7 c8 c9 c10 c11 c12 c13 c14 c15 hq
          rintro r w5 ⟨rfl, hb5⟩
          have HB5 := Lib.hid (HB4.out.trans (hb5.mono (HLE4.out _ HB4.out)))
          clear hb5
          obtain ⟨d0, d1, d2, d3, d4, d5, d6, d7, d8, d9, d10, d11, d12, d13, d14, d15⟩ := HCF.out _ (HUP.out _ HB5.out)
          have hq := HQF.out
          cases rf with
          | false =>
            obtain rfl : ef = 1 := hq.symm
            go_wp2_with fail
            refine (HKF.out _ HB5.out).mono ?_
            clear d0 d1 d2 d3 d4 d5 d6 d7 d8 d9 d10 d11 d12 d13 d14 d15 hq
            rintro r w6 ⟨rfl, hb6⟩
            go_wp2_with fail
            go_meet
            exact ⟨rfl, HB5.out.trans (hb6.mono (HLE4.out _ HB5.out))⟩
          | true =>
            obtain rfl : ef = 0 := hq.symm
            go_wp2_with fail
            refine (HKF.out _ HB5.out).mono ?_
            clear d0 d1 d2 d3 d4 d5 d6 d7 d8 d9 d10 d11 d12 d13 d14 d15 hq
            rintro r w6 ⟨rfl, hb6⟩
            go_wp2_with fail
            go_meet
            exact ⟨rfl, HB5.out.trans (hb6.mono (HLE4.out _ HB5.out))⟩
      case rest =>
        obtain ⟨rfl, hbc⟩ := hcut
        have HBC := Lib.hid hbc
        clear hbc HB4
        go_upto_region 5 with fail
        as_aux_lemma =>
          obtain ⟨la, hla⟩ : ∃ l, (if re = true then Ex.anns e else []) = l := ⟨_, rfl⟩
          obtain ⟨lf, hlf⟩ : ∃ l, (if rf = true then Ex.anns f else []) = l := ⟨_, rfl⟩
          rw [hla] at HAE LA
          rw [hlf] at HAF LA
          have HLA := Lib.hid hla; have HLF := Lib.hid hlf
          clear hla hlf
          go_cut [7] (fun v wx => ∃ a c, v = .slice a (la ++ lf).length c ∧ SlAt (LT wx.heap.size) wx (la ++ lf) a c ∧ Below (w1.heap.size + 2) W4 wx)
          case first =>
            as_aux_lemma =>
            refine wp_region_held_drew (S := fun W9 => Below (w1.heap.size + 2) W4 W9) (by kernel_rfl) HBC.out.drew (fun hHeld => ?_)
            refine wpAnyH_take (i := 1) (oi := ⟨some 26, _, _, _, _, _⟩) (v := .agg #[x0, x1, x2, x3, x4, x5, x6, x7, x8, x9, x10, x11, x12, x13, x14, x15]) rfl (by kernel_rfl) (by kernel_rfl) (by kernel_rfl) (by first | exact fun _ _ _ h => h | exact fun _ _ _ h => h.elim) (Or.inl ⟨by rfl, fun W9 hSw => (by obtain ⟨c0, c1, c2, c3, c4, c5, c6, c7, c8, c9, c10, c11, c12, c13, c14, c15⟩ := HCE.out W9 (HUP.out W9 hSw); exact exec_load16 rfl rfl c0 c1 c2 c3 c4 c5 c6 c7 c8 c9 c10 c11 c12 c13 c14 c15)⟩) (by assumption) ?_
            simp only [Act.put, List.setIfInBounds_toArray, List.set_cons_zero, List.set_cons_succ]
            refine wpAnyH_take (i := 4) (oi := ⟨some 29, _, _, _, _, _⟩) (v := .agg #[y0, y1, y2, y3, y4, y5, y6, y7, y8, y9, y10, y11, y12, y13, y14, y15]) rfl (by kernel_rfl) (by kernel_rfl) (by kernel_rfl) (by first | exact fun _ _ _ h => h | exact fun _ _ _ h => h.elim) (Or.inl ⟨by rfl, fun W9 hSw => (by obtain ⟨d0, d1, d2, d3, d4, d5, d6, d7, d8, d9, d10, d11, d12, d13, d14, d15⟩ := HCF.out W9 (HUP.out W9 hSw); exact exec_load16 rfl rfl d0 d1 d2 d3 d4 d5 d6 d7 d8 d9 d10 d11 d12 d13 d14 d15)⟩) (by assumption) ?_
            simp only [Act.put, List.setIfInBounds_toArray, List.set_cons_zero, List.set_cons_succ]
            refine wpAnyH_ready (rs := [0, 2]) (by kernel_rfl) (by simp) ?_
            refine AllReadyH.cons (o := ⟨some 25, _, _, _, _, _⟩) rfl (fun K hK => ?_) (AllReadyH.cons (o := ⟨some 27, _, _, _, _, _⟩) rfl (fun K hK => ?_) AllReadyH.nil)
            · go_simp
              have hA1 := (HBC.out.alloc (HLE4.out _ HBC.out) (.cells #[] 26)).drew
              have own0 := empty_row (HLE4.out _ HBC.out)
              refine hK.out _ _ hA1 (fun _ => ?_)
              clear hK K
              try simp only [Act.put, List.setIfInBounds_toArray, List.set_cons_zero, List.set_cons_succ]
              refine wpAnyH_ready (rs := [2]) (by kernel_rfl) (by simp) ?_
              refine AllReadyH.cons (o := ⟨some 27, _, _, _, _, _⟩) rfl (fun K hK => ?_) AllReadyH.nil
              go_simp
              refine (HAE.out _ hA1).mono ?_
              rintro r wb ⟨v27, rfl, ⟨lsA, hlA, htA, ownA⟩, hbA⟩
              have hB1 := hA1.trans (hbA.mono (HLE4.out _ hA1))
              have own25 := own_same own0 (fun g hg => hbA.block g (own0.lt g hg).2)
              dsimp only
              refine hK.out _ _ hB1 (fun _ => ?_)
              clear hK K
              try simp only [Act.put, List.setIfInBounds_toArray, List.set_cons_zero, List.set_cons_succ]
              have hsep : ∀ y, (LT w.heap.size y ∨ y = (wc.alloc (.cells #[] 26)).drew.heap.size) → y < wb.heap.size → y ≠ wc.heap.size := fun y hy _ => by
                have q1 := HLE.out _ HB1.out
                have q2 := HLE4.out _ HBC.out
                have q3 : (wc.alloc (.cells #[] 26)).drew.heap.size = wc.heap.size + 1 := World.size_alloc _ _
                rcases hy with hy | hy
                · have : y < w.heap.size := hy
                  omega
                · omega
              obtain ⟨v28, wd, hap, own28, gr28, bl28, at28⟩ := app_types own25 ownA (by have := LA.out.1; omega) (HLE4.out _ hB1)
              refine wpAnyH_ready (rs := [3]) (by kernel_rfl) (by simp) ?_
              refine AllReadyH.cons (o := ⟨some 28, _, _, _, _, _⟩) rfl (fun K hK => ?_) AllReadyH.nil
              refine step_append_run rfl (.tmp 25) (.tmp 27) 24 rfl hap ?_
              have hB2 := hB1.trans bl28
              refine hK.out _ _ hB2 (fun _ => ?_)
              clear hK K hap
              rw [List.nil_append, Nat.zero_add] at own28
              have ht2 : ∀ x ∈ lsA, TyAt (fun y => y < wd.heap.size ∧ v28.ownBlock ≠ some y) wd x.t x.a x.cap := fun x hx => (htA x hx).grown gr28 (fun y hy hlt h => hsep y hy hlt (by injection h)) (fun y hy hlt => ⟨Nat.lt_of_lt_of_le hlt gr28.size, fun h => by
                rcases at28 with h9 | h9
                · rw [h] at h9; exact hsep y hy hlt (by injection h9)
                · rw [h] at h9; injection h9 with h9; omega⟩)
              try simp only [Act.put, List.setIfInBounds_toArray, List.set_cons_zero, List.set_cons_succ]
              refine wpAnyH_ready (rs := [5]) (by kernel_rfl) (by simp) ?_
              refine AllReadyH.cons (o := ⟨some 30, _, _, _, _, _⟩) rfl (fun K hK => ?_) AllReadyH.nil
              go_simp
              refine (HAF.out _ hB2).mono ?_
              rintro r we ⟨v30, rfl, ⟨lsF, hlF, htF, ownF⟩, hbF⟩
              have hB3 := hB2.trans (hbF.mono (HLE4.out _ hB2))
              have own29 := own_same own28 (fun g hg => hbF.block g (own28.lt g hg).2)
              dsimp only
              refine hK.out _ _ hB3 (fun _ => ?_)
              clear hK K
              obtain ⟨v31, wf, hap, own31, gr31, bl31, _⟩ := app_types own29 ownF (by have := LA.out; omega) (HLE4.out _ hB3)
              try simp only [Act.put, List.setIfInBounds_toArray, List.set_cons_zero, List.set_cons_succ]
              refine wpAnyH_ready (rs := [6]) (by kernel_rfl) (by simp) ?_
              refine AllReadyH.cons (o := ⟨some 31, _, _, _, _, _⟩) rfl (fun K hK => ?_) AllReadyH.nil
              refine step_append_run rfl (.tmp 28) (.tmp 30) 24 rfl hap ?_
              have hB5 := hB3.trans bl31
              refine hK.out _ _ hB5 (fun _ => ?_)
              clear hK K hap
              try simp only [Act.put, List.setIfInBounds_toArray, List.set_cons_zero, List.set_cons_succ]
              refine wpAnyH_ready (rs := [7]) (by kernel_rfl) (by simp) ?_
              refine AllReadyH.cons (o := ⟨some 7, _, _, _, _, _⟩) rfl (fun K hK => ?_) AllReadyH.nil
              go_simp
              refine hK.out _ _ hB5 (fun _ => ?_)
              clear hK K
              refine wpAnyH_done (by kernel_rfl) ?_ _
              obtain ⟨a9, c9, rfl, hsl⟩ := row3_slAt own31 (by rw [← hlA, ← hlF]; simp) (fun x hx => by
                rcases List.mem_append.1 hx with hx | hx
                · exact ((ht2 x hx).below hbF (fun y hy => hy.1) (fun _ h => h)).grown gr31 (fun y hy _ h => hy.2 h.symm) (fun y _ hlt => Nat.lt_of_lt_of_le hlt gr31.size)
                · exact (htF x hx).grown gr31 (fun y hy _ h => by
                    have q := own28.lt y h.symm
                    have q0 := HLE.out _ HB1.out
                    rcases hy with hy | hy
                    · have : y < w.heap.size := hy
                      omega
                    · omega) (fun y _ hlt => Nat.lt_of_lt_of_le hlt gr31.size))
              rw [List.map_append, hlA, hlF] at hsl
              go_wp2_with fail
              go_meet
              exact ⟨a9, c9, by rw [List.length_append], hsl, hB5⟩
            · go_simp
              refine (HAE.out _ hHeld).mono ?_
              rintro r wb ⟨v27, rfl, ⟨lsA, hlA, htA0, ownA0⟩, hbA⟩
              have hB0 := hHeld.trans (hbA.mono (HLE4.out _ hHeld))
              dsimp only
              refine hK.out _ _ hB0 (fun _ => ?_)
              clear hK K
              have own25 := empty_row (HLE4.out _ hB0)
              have hbe := (Below.refl wb.heap.size wb).alloc (Nat.le_refl _) (.cells #[] 26)
              have hB1 := hB0.alloc (HLE4.out _ hB0) (.cells #[] 26)
              have ownA := ownA0.alloc (.cells #[] 26)
              have htA : ∀ x ∈ lsA, TyAt (fun y => (LT w.heap.size y ∨ y = wc.drew.heap.size) ∧ y < wb.heap.size) (wb.alloc (.cells #[] 26)) x.t x.a x.cap := fun x hx => (htA0 x hx).real.below hbe (fun y hy => hy.2) (fun _ h => h)
              try simp only [Act.put, List.setIfInBounds_toArray, List.set_cons_zero, List.set_cons_succ]
              refine wpAnyH_ready (rs := [0]) (by kernel_rfl) (by simp) ?_
              refine AllReadyH.cons (o := ⟨some 25, _, _, _, _, _⟩) rfl (fun K hK => ?_) AllReadyH.nil
              go_simp
              refine hK.out _ _ hB1 (fun _ => ?_)
              clear hK K
              have hsep : ∀ y, ((LT w.heap.size y ∨ y = wc.drew.heap.size) ∧ y < wb.heap.size) → y < (wb.alloc (.cells #[] 26)).heap.size → y ≠ wb.heap.size := fun y hy _ => by omega
              try simp only [Act.put, List.setIfInBounds_toArray, List.set_cons_zero, List.set_cons_succ]
              obtain ⟨v28, wd, hap, own28, gr28, bl28, at28⟩ := app_types own25 ownA (by have := LA.out.1; omega) (HLE4.out _ hB1)
              refine wpAnyH_ready (rs := [3]) (by kernel_rfl) (by simp) ?_
              refine AllReadyH.cons (o := ⟨some 28, _, _, _, _, _⟩) rfl (fun K hK => ?_) AllReadyH.nil
              refine step_append_run rfl (.tmp 25) (.tmp 27) 24 rfl hap ?_
              have hB2 := hB1.trans bl28
              refine hK.out _ _ hB2 (fun _ => ?_)
              clear hK K hap
              rw [List.nil_append, Nat.zero_add] at own28
              have ht2 : ∀ x ∈ lsA, TyAt (fun y => y < wd.heap.size ∧ v28.ownBlock ≠ some y) wd x.t x.a x.cap := fun x hx => (htA x hx).grown gr28 (fun y hy hlt h => hsep y hy hlt (by injection h)) (fun y hy hlt => ⟨Nat.lt_of_lt_of_le hlt gr28.size, fun h => by
                rcases at28 with h9 | h9
                · rw [h] at h9; exact hsep y hy hlt (by injection h9)
                · rw [h] at h9; injection h9 with h9; omega⟩)
              try simp only [Act.put, List.setIfInBounds_toArray, List.set_cons_zero, List.set_cons_succ]
              refine wpAnyH_ready (rs := [5]) (by kernel_rfl) (by simp) ?_
              refine AllReadyH.cons (o := ⟨some 30, _, _, _, _, _⟩) rfl (fun K hK => ?_) AllReadyH.nil
              go_simp
              refine (HAF.out _ hB2).mono ?_
              rintro r we ⟨v30, rfl, ⟨lsF, hlF, htF, ownF⟩, hbF⟩
              have hB3 := hB2.trans (hbF.mono (HLE4.out _ hB2))
              have own29 := own_same own28 (fun g hg => hbF.block g (own28.lt g hg).2)
              dsimp only
              refine hK.out _ _ hB3 (fun _ => ?_)
              clear hK K
              obtain ⟨v31, wf, hap, own31, gr31, bl31, _⟩ := app_types own29 ownF (by have := LA.out; omega) (HLE4.out _ hB3)
              try simp only [Act.put, List.setIfInBounds_toArray, List.set_cons_zero, List.set_cons_succ]
              refine wpAnyH_ready (rs := [6]) (by kernel_rfl) (by simp) ?_
              refine AllReadyH.cons (o := ⟨some 31, _, _, _, _, _⟩) rfl (fun K hK => ?_) AllReadyH.nil
              refine step_append_run rfl (.tmp 28) (.tmp 30) 24 rfl hap ?_
              have hB5 := hB3.trans bl31
              refine hK.out _ _ hB5 (fun _ => ?_)
              clear hK K hap
              try simp only [Act.put, List.setIfInBounds_toArray, List.set_cons_zero, List.set_cons_succ]
              refine wpAnyH_ready (rs := [7]) (by kernel_rfl) (by simp) ?_
              refine AllReadyH.cons (o := ⟨some 7, _, _, _, _, _⟩) rfl (fun K hK => ?_) AllReadyH.nil
              go_simp
              refine hK.out _ _ hB5 (fun _ => ?_)
              clear hK K
              refine wpAnyH_done (by kernel_rfl) ?_ _
              obtain ⟨a9, c9, rfl, hsl⟩ := row3_slAt own31 (by rw [← hlA, ← hlF]; simp) (fun x hx => by
                rcases List.mem_append.1 hx with hx | hx
                · exact ((ht2 x hx).below hbF (fun y hy => hy.1) (fun _ h => h)).grown gr31 (fun y hy _ h => hy.2 h.symm) (fun y _ hlt => Nat.lt_of_lt_of_le hlt gr31.size)
                · exact (htF x hx).grown gr31 (fun y hy _ h => by
                    have q := own28.lt y h.symm
                    have q0 := HLE.out _ HB1.out
                    rcases hy with hy | hy
                    · have : y < w.heap.size := hy
                      omega
                    · omega) (fun y _ hlt => Nat.lt_of_lt_of_le hlt gr31.size))
              rw [List.map_append, hlA, hlF] at hsl
              go_wp2_with fail
              go_meet
              exact ⟨a9, c9, by rw [List.length_append], hsl, hB5⟩
          case rest =>
            as_aux_lemma =>
            obtain rfl := HLA.out
            obtain rfl := HLF.out
            obtain ⟨ra, rc, rfl, hrow, hbc2⟩ := hcut
            have HBD := Lib.hid hbc2; have HROW := Lib.hid hrow
            clear hbc2 hrow HBC
            obtain ⟨ln, hln⟩ : ∃ x, ((if re = true then Ex.anns e else []) ++ (if rf = true then Ex.anns f else [])).length = x := ⟨_, rfl⟩
            rw [hln]
            have HLN := Lib.hid hln
            clear hln
            cases hok : (re && rf) with
            | false =>
              as_aux_lemma =>
              rw [hok] at HVP HAP HFR HQP
              obtain rfl : ep = 1 := HQP.out.symm
              clear HQP
              go_upto_region 7 with fail
              obtain ⟨b0, b1, b2, b3, b4, b5, b6, b7, b8, b9, b10, b11, b12, b13, b14, b15⟩ := HCP.out _ HBD.out
              go_wp2_with fail
              clear b0 b1 b2 b3 b4 b5 b6 b7 b8 b9 b10 b11 b12 b13 b14 b15
              refine (HKP.out _ HBD.out).mono ?_
              rintro r w5 ⟨rfl, hb⟩
              have HB5 := Lib.hid (HBD.out.trans (hb.mono (HLE4.out _ HBD.out)))
              clear hb
              obtain ⟨b0, b1, b2, b3, b4, b5, b6, b7, b8, b9, b10, b11, b12, b13, b14, b15⟩ := HCP.out _ HB5.out
              go_wp2_with fail
              clear b0 b1 b2 b3 b4 b5 b6 b7 b8 b9 b10 b11 b12 b13 b14 b15
              refine (HVP.out _ HB5.out).mono ?_
              rintro r w6 ⟨rfl, hb⟩
              have HB6 := Lib.hid (HB5.out.trans (hb.mono (HLE4.out _ HB5.out)))
              clear hb
              obtain ⟨b0, b1, b2, b3, b4, b5, b6, b7, b8, b9, b10, b11, b12, b13, b14, b15⟩ := HCP.out _ HB6.out
              go_wp2_with fail
              clear b0 b1 b2 b3 b4 b5 b6 b7 b8 b9 b10 b11 b12 b13 b14 b15
              refine (HAP.out _ HB6.out).mono ?_
              rintro r w7 ⟨v7, rfl, ⟨ls7, hl7, _, own7⟩, hb⟩
              have HB7 := Lib.hid (HB6.out.trans (hb.mono (HLE4.out _ HB6.out)))
              obtain ⟨a7, k7, rfl⟩ := own_shapeT own7
              clear hb own7 hl7
              simp only [Bool.false_eq_true, if_false, List.length_nil]
              obtain ⟨b0, b1, b2, b3, b4, b5, b6, b7, b8, b9, b10, b11, b12, b13, b14, b15⟩ := HCP.out _ HB7.out
              go_wp2_with fail
              clear b0 b1 b2 b3 b4 b5 b6 b7 b8 b9 b10 b11 b12 b13 b14 b15
              refine (HFR.out _ HB7.out).mono ?_
              rintro r w8 ⟨v8, rfl, own8, hb⟩
              have HB8 := Lib.hid (HB7.out.trans (hb.mono (HLE4.out _ HB7.out)))
              unfold TxRow at own8
              obtain ⟨a8, k8, rfl⟩ := own_shapeT own8
              clear hb own8
              simp only [Bool.false_eq_true, if_false, List.length_nil]
              go_wp2_with fail
              refine (HWK.out _).mono ?_
              rintro r w9 ⟨rfl, hb⟩
              have HB9 := Lib.hid (HB8.out.trans (hb.mono (HLE4.out _ HB8.out)))
              clear hb
              go_wp2_with fail
              go_ret
              exact ⟨rfl, HBW.out _ (HUP.out _ HB9.out)⟩
            | true =>
              as_aux_lemma =>
              rw [hok] at HVP HAP HFR HQP
              obtain rfl : ep = 0 := HQP.out.symm
              clear HQP HLA HLF
              have HB9 := Lib.hid (fun x (h : Below wc.heap.size wc x) => (HBD.out.trans (h.mono (HLE4.out _ HBD.out)) : Below (w1.heap.size + 2) W4 x))
              have HROW9 := Lib.hid (fun x (h : Below wc.heap.size wc x) => HROW.out.below h (fun _ h => h) (fun b hb => (Nat.lt_of_lt_of_le hb h.size : LT x.heap.size b)))
              go_upto_region 8 with fail
              go_cut [8] (fun v wx => ∃ p8 b8, v = .pointer (some ⟨p8, 0, none⟩) ∧ wx.heap[p8]? = some (.cells #[.int .i64 15, .int .i64 0, .int .i64 0, .string ⟨#[]⟩, .string ⟨#[]⟩, .int .i64 0, .string ⟨#[]⟩, .int .i64 0, .int .i64 1, .int .i64 0, .slice none 0 0, .int .i64 0, .int .i64 0, .slice none 0 0, .slice none 0 0, .slice (some ⟨b8, 0, none⟩) 1 1] 30) ∧ wx.heap[b8]? = some (.cells #[x0, x1, x2, x3, x4, x5, x6, x7, x8, x9, x10, x11, x12, x13, x14, x15] 30) ∧ Below wc.heap.size wc wx)
              case first =>
                as_aux_lemma =>
                have HS := Lib.hid HBD.out.drew
                obtain ⟨V0, hV0⟩ : ∃ V, wc.drew = V := ⟨_, rfl⟩
                have HS0 := Lib.hid (show Below wc.heap.size wc V0 by rw [← hV0]; exact (Below.refl _ _).drew)
                refine wp_region_held_drew (S := fun W9 => Below wc.heap.size wc W9) (by kernel_rfl) (Below.refl _ _).drew (fun hHeld => ?_)
                rw [hV0]
                clear hV0 hHeld HS
                refine wpAnyH_take (i := 1) (oi := ⟨some 58, _, _, _, _, _⟩) (v := .agg #[x0, x1, x2, x3, x4, x5, x6, x7, x8, x9, x10, x11, x12, x13, x14, x15]) rfl (by kernel_rfl) (by kernel_rfl) (by kernel_rfl) (by first | exact fun _ _ _ h => h | exact fun _ _ _ h => h.elim) (Or.inl ⟨by rfl, fun W9 hSw => (by obtain ⟨c0, c1, c2, c3, c4, c5, c6, c7, c8, c9, c10, c11, c12, c13, c14, c15⟩ := HCE.out W9 (HUP.out W9 (HB9.out W9 hSw)); exact exec_load16 rfl rfl c0 c1 c2 c3 c4 c5 c6 c7 c8 c9 c10 c11 c12 c13 c14 c15)⟩) HS0.out ?_
                try simp only [Act.put, List.setIfInBounds_toArray, List.set_cons_zero, List.set_cons_succ]
                refine wpAnyH_ready (rs := [0, 2, 4]) (by kernel_rfl) (by simp) ?_
                refine AllReadyH.cons (o := ⟨some 57, _, _, _, _, _⟩) rfl (fun K hK => ?_) (AllReadyH.cons (o := ⟨some 59, _, _, _, _, _⟩) rfl (fun K hK => ?_) (AllReadyH.cons (o := ⟨some 8, _, _, _, _, _⟩) rfl (fun K hK => ?_) AllReadyH.nil))
                · skip
                  go_simp
                  refine (leaf_one V0).mono ?_
                  rintro r V1 ⟨rfl, hb⟩
                  have HK0 := Lib.hid hb
                  have HS1 := Lib.hid (HS0.out.trans (hb.mono HS0.out.size))
                  clear hb
                  dsimp only
                  refine hK.out _ _ HS1.out (fun _ => ?_)
                  clear hK K
                  try simp only [Act.put, List.setIfInBounds_toArray, List.set_cons_zero, List.set_cons_succ]
                  refine wpAnyH_ready (rs := [2, 4]) (by kernel_rfl) (by simp) ?_
                  refine AllReadyH.cons (o := ⟨some 59, _, _, _, _, _⟩) rfl (fun K hK => ?_) (AllReadyH.cons (o := ⟨some 8, _, _, _, _, _⟩) rfl (fun K hK => ?_) AllReadyH.nil)
                  · skip
                    refine step_exec rfl (exec_bs1 rfl rfl) ?_
                    refine hK.out _ _ (HS1.out.alloc HS1.out.size (.cells #[x0, x1, x2, x3, x4, x5, x6, x7, x8, x9, x10, x11, x12, x13, x14, x15] 30)) (fun _ => ?_)
                    clear hK K
                    try simp only [Act.put, List.setIfInBounds_toArray, List.set_cons_zero, List.set_cons_succ]
                    obtain ⟨V2, hV⟩ : ∃ V, V1.alloc (.cells #[x0, x1, x2, x3, x4, x5, x6, x7, x8, x9, x10, x11, x12, x13, x14, x15] 30) = V := ⟨_, rfl⟩
                    rw [hV]
                    have HK1 := Lib.hid (show Below V1.heap.size V1 V2 by rw [← hV]; exact (Below.refl _ _).alloc (Nat.le_refl _) _)
                    have HZB := Lib.hid (show V2.heap[V1.heap.size]? = some (.cells #[x0, x1, x2, x3, x4, x5, x6, x7, x8, x9, x10, x11, x12, x13, x14, x15] 30) by rw [← hV]; exact World.alloc_heap_new _ _)
                    have HLB := Lib.hid (show V1.heap.size < V2.heap.size by rw [← hV, World.size_alloc]; omega)
                    have HS2 := Lib.hid (HS1.out.trans (HK1.out.mono HS1.out.size))
                    clear hV
                    refine wpAnyH_take (i := 3) (oi := ⟨some 60, _, _, _, _, _⟩) (v := .agg #[.int .i64 15, .int .i64 0, .int .i64 0, .string ⟨#[]⟩, .string ⟨#[]⟩, .int .i64 0, .string ⟨#[]⟩, .int .i64 0, .int .i64 1, .int .i64 0, .slice none 0 0, .int .i64 0, .int .i64 0, .slice none 0 0, .slice none 0 0, .slice (some ⟨V1.heap.size, 0, none⟩) 1 1]) rfl (by kernel_rfl) (by kernel_rfl) (by kernel_rfl) (by first | exact fun _ _ _ h => h | exact fun _ _ _ h => h.elim) (Or.inl ⟨by rfl, fun W9 hSw => (exec_asc rfl rfl rfl rfl)⟩) HS2.out ?_
                    try simp only [Act.put, List.setIfInBounds_toArray, List.set_cons_zero, List.set_cons_succ]
                    refine wpAnyH_ready (rs := [4]) (by kernel_rfl) (by simp) ?_
                    refine AllReadyH.cons (o := ⟨some 8, _, _, _, _, _⟩) rfl (fun K hK => ?_) AllReadyH.nil
                    go_simp
                    refine hK.out _ _ (HS2.out.alloc HS2.out.size (.cells #[.int .i64 0, .int .i64 0, .int .i64 0, .string ⟨#[]⟩, .string ⟨#[]⟩, .int .i64 0, .string ⟨#[]⟩, .int .i64 0, .int .i64 0, .int .i64 0, .slice none 0 0, .int .i64 0, .int .i64 0, .slice none 0 0, .slice none 0 0, .slice none 0 0] 30)) (fun _ => ?_)
                    clear hK K
                    try simp only [Act.put, List.setIfInBounds_toArray, List.set_cons_zero, List.set_cons_succ]
                    obtain ⟨V3, hV⟩ : ∃ V, V2.alloc (.cells #[.int .i64 0, .int .i64 0, .int .i64 0, .string ⟨#[]⟩, .string ⟨#[]⟩, .int .i64 0, .string ⟨#[]⟩, .int .i64 0, .int .i64 0, .int .i64 0, .slice none 0 0, .int .i64 0, .int .i64 0, .slice none 0 0, .slice none 0 0, .slice none 0 0] 30) = V := ⟨_, rfl⟩
                    rw [hV]
                    have HK2 := Lib.hid (show Below V2.heap.size V2 V3 by rw [← hV]; exact (Below.refl _ _).alloc (Nat.le_refl _) _)
                    have HZA := Lib.hid (show V3.heap[V2.heap.size]? = some (.cells #[.int .i64 0, .int .i64 0, .int .i64 0, .string ⟨#[]⟩, .string ⟨#[]⟩, .int .i64 0, .string ⟨#[]⟩, .int .i64 0, .int .i64 0, .int .i64 0, .slice none 0 0, .int .i64 0, .int .i64 0, .slice none 0 0, .slice none 0 0, .slice none 0 0] 30) by rw [← hV]; exact World.alloc_heap_new _ _)
                    have HLA := Lib.hid (show V2.heap.size < V3.heap.size by rw [← hV, World.size_alloc]; omega)
                    have HS3 := Lib.hid (HS2.out.trans (HK2.out.mono HS2.out.size))
                    clear hV
                    have za := ((Below.refl V3.heap.size V3).block _ HLA.out).trans HZA.out
                    have zb := (HK2.out.block _ HLB.out).trans HZB.out
                    have hfin := below_setRow HS3.out HS2.out.size #[.int .i64 15, .int .i64 0, .int .i64 0, .string ⟨#[]⟩, .string ⟨#[]⟩, .int .i64 0, .string ⟨#[]⟩, .int .i64 0, .int .i64 1, .int .i64 0, .slice none 0 0, .int .i64 0, .int .i64 0, .slice none 0 0, .slice none 0 0, .slice (some ⟨V1.heap.size, 0, none⟩) 1 1]
                    refine wpAnyH_ready (rs := [5]) (by kernel_rfl) (by simp) ?_
                    refine AllReadyH.cons (o := ⟨none, _, _, _, _, _⟩) rfl (fun K hK => ?_) AllReadyH.nil
                    refine step_store_row rfl 30 (.tmp 8) (.tmp 60) rfl V2.heap.size #[.int .i64 15, .int .i64 0, .int .i64 0, .string ⟨#[]⟩, .string ⟨#[]⟩, .int .i64 0, .string ⟨#[]⟩, .int .i64 0, .int .i64 1, .int .i64 0, .slice none 0 0, .int .i64 0, .int .i64 0, .slice none 0 0, .slice none 0 0, .slice (some ⟨V1.heap.size, 0, none⟩) 1 1] rfl rfl 30 _ za (by kernel_rfl) rfl (by kernel_rfl) ?_
                    refine hK.out _ _ hfin (fun _ => ?_)
                    clear hK K
                    refine wpAnyH_done (by kernel_rfl) ?_ _
                    go_wp2_with fail
                    go_meet
                    exact ⟨_, _, rfl, setRow_heap _ _ _ _ _ _ za, (setRow_other _ _ _ _ (by have := HK0.out.size; have := HK1.out.size; have := HK2.out.size; have := HLA.out; have := HLB.out; omega)).trans zb, hfin⟩
                  · skip
                    go_simp
                    refine hK.out _ _ (HS1.out.alloc HS1.out.size (.cells #[.int .i64 0, .int .i64 0, .int .i64 0, .string ⟨#[]⟩, .string ⟨#[]⟩, .int .i64 0, .string ⟨#[]⟩, .int .i64 0, .int .i64 0, .int .i64 0, .slice none 0 0, .int .i64 0, .int .i64 0, .slice none 0 0, .slice none 0 0, .slice none 0 0] 30)) (fun _ => ?_)
                    clear hK K
                    try simp only [Act.put, List.setIfInBounds_toArray, List.set_cons_zero, List.set_cons_succ]
                    obtain ⟨V2, hV⟩ : ∃ V, V1.alloc (.cells #[.int .i64 0, .int .i64 0, .int .i64 0, .string ⟨#[]⟩, .string ⟨#[]⟩, .int .i64 0, .string ⟨#[]⟩, .int .i64 0, .int .i64 0, .int .i64 0, .slice none 0 0, .int .i64 0, .int .i64 0, .slice none 0 0, .slice none 0 0, .slice none 0 0] 30) = V := ⟨_, rfl⟩
                    rw [hV]
                    have HK1 := Lib.hid (show Below V1.heap.size V1 V2 by rw [← hV]; exact (Below.refl _ _).alloc (Nat.le_refl _) _)
                    have HZA := Lib.hid (show V2.heap[V1.heap.size]? = some (.cells #[.int .i64 0, .int .i64 0, .int .i64 0, .string ⟨#[]⟩, .string ⟨#[]⟩, .int .i64 0, .string ⟨#[]⟩, .int .i64 0, .int .i64 0, .int .i64 0, .slice none 0 0, .int .i64 0, .int .i64 0, .slice none 0 0, .slice none 0 0, .slice none 0 0] 30) by rw [← hV]; exact World.alloc_heap_new _ _)
                    have HLA := Lib.hid (show V1.heap.size < V2.heap.size by rw [← hV, World.size_alloc]; omega)
                    have HS2 := Lib.hid (HS1.out.trans (HK1.out.mono HS1.out.size))
                    clear hV
                    refine wpAnyH_ready (rs := [2]) (by kernel_rfl) (by simp) ?_
                    refine AllReadyH.cons (o := ⟨some 59, _, _, _, _, _⟩) rfl (fun K hK => ?_) AllReadyH.nil
                    refine step_exec rfl (exec_bs1 rfl rfl) ?_
                    refine hK.out _ _ (HS2.out.alloc HS2.out.size (.cells #[x0, x1, x2, x3, x4, x5, x6, x7, x8, x9, x10, x11, x12, x13, x14, x15] 30)) (fun _ => ?_)
                    clear hK K
                    try simp only [Act.put, List.setIfInBounds_toArray, List.set_cons_zero, List.set_cons_succ]
                    obtain ⟨V3, hV⟩ : ∃ V, V2.alloc (.cells #[x0, x1, x2, x3, x4, x5, x6, x7, x8, x9, x10, x11, x12, x13, x14, x15] 30) = V := ⟨_, rfl⟩
                    rw [hV]
                    have HK2 := Lib.hid (show Below V2.heap.size V2 V3 by rw [← hV]; exact (Below.refl _ _).alloc (Nat.le_refl _) _)
                    have HZB := Lib.hid (show V3.heap[V2.heap.size]? = some (.cells #[x0, x1, x2, x3, x4, x5, x6, x7, x8, x9, x10, x11, x12, x13, x14, x15] 30) by rw [← hV]; exact World.alloc_heap_new _ _)
                    have HLB := Lib.hid (show V2.heap.size < V3.heap.size by rw [← hV, World.size_alloc]; omega)
                    have HS3 := Lib.hid (HS2.out.trans (HK2.out.mono HS2.out.size))
                    clear hV
                    refine wpAnyH_take (i := 3) (oi := ⟨some 60, _, _, _, _, _⟩) (v := .agg #[.int .i64 15, .int .i64 0, .int .i64 0, .string ⟨#[]⟩, .string ⟨#[]⟩, .int .i64 0, .string ⟨#[]⟩, .int .i64 0, .int .i64 1, .int .i64 0, .slice none 0 0, .int .i64 0, .int .i64 0, .slice none 0 0, .slice none 0 0, .slice (some ⟨V2.heap.size, 0, none⟩) 1 1]) rfl (by kernel_rfl) (by kernel_rfl) (by kernel_rfl) (by first | exact fun _ _ _ h => h | exact fun _ _ _ h => h.elim) (Or.inl ⟨by rfl, fun W9 hSw => (exec_asc rfl rfl rfl rfl)⟩) HS3.out ?_
                    try simp only [Act.put, List.setIfInBounds_toArray, List.set_cons_zero, List.set_cons_succ]
                    have za := (HK2.out.block _ HLA.out).trans HZA.out
                    have zb := ((Below.refl V3.heap.size V3).block _ HLB.out).trans HZB.out
                    have hfin := below_setRow HS3.out HS1.out.size #[.int .i64 15, .int .i64 0, .int .i64 0, .string ⟨#[]⟩, .string ⟨#[]⟩, .int .i64 0, .string ⟨#[]⟩, .int .i64 0, .int .i64 1, .int .i64 0, .slice none 0 0, .int .i64 0, .int .i64 0, .slice none 0 0, .slice none 0 0, .slice (some ⟨V2.heap.size, 0, none⟩) 1 1]
                    refine wpAnyH_ready (rs := [5]) (by kernel_rfl) (by simp) ?_
                    refine AllReadyH.cons (o := ⟨none, _, _, _, _, _⟩) rfl (fun K hK => ?_) AllReadyH.nil
                    refine step_store_row rfl 30 (.tmp 8) (.tmp 60) rfl V1.heap.size #[.int .i64 15, .int .i64 0, .int .i64 0, .string ⟨#[]⟩, .string ⟨#[]⟩, .int .i64 0, .string ⟨#[]⟩, .int .i64 0, .int .i64 1, .int .i64 0, .slice none 0 0, .int .i64 0, .int .i64 0, .slice none 0 0, .slice none 0 0, .slice (some ⟨V2.heap.size, 0, none⟩) 1 1] rfl rfl 30 _ za (by kernel_rfl) rfl (by kernel_rfl) ?_
                    refine hK.out _ _ hfin (fun _ => ?_)
                    clear hK K
                    refine wpAnyH_done (by kernel_rfl) ?_ _
                    go_wp2_with fail
                    go_meet
                    exact ⟨_, _, rfl, setRow_heap _ _ _ _ _ _ za, (setRow_other _ _ _ _ (by have := HK0.out.size; have := HK1.out.size; have := HK2.out.size; have := HLA.out; have := HLB.out; omega)).trans zb, hfin⟩
                · skip
                  refine step_exec rfl (exec_bs1 rfl rfl) ?_
                  refine hK.out _ _ (HS0.out.alloc HS0.out.size (.cells #[x0, x1, x2, x3, x4, x5, x6, x7, x8, x9, x10, x11, x12, x13, x14, x15] 30)) (fun _ => ?_)
                  clear hK K
                  try simp only [Act.put, List.setIfInBounds_toArray, List.set_cons_zero, List.set_cons_succ]
                  obtain ⟨V1, hV⟩ : ∃ V, V0.alloc (.cells #[x0, x1, x2, x3, x4, x5, x6, x7, x8, x9, x10, x11, x12, x13, x14, x15] 30) = V := ⟨_, rfl⟩
                  rw [hV]
                  have HK0 := Lib.hid (show Below V0.heap.size V0 V1 by rw [← hV]; exact (Below.refl _ _).alloc (Nat.le_refl _) _)
                  have HZB := Lib.hid (show V1.heap[V0.heap.size]? = some (.cells #[x0, x1, x2, x3, x4, x5, x6, x7, x8, x9, x10, x11, x12, x13, x14, x15] 30) by rw [← hV]; exact World.alloc_heap_new _ _)
                  have HLB := Lib.hid (show V0.heap.size < V1.heap.size by rw [← hV, World.size_alloc]; omega)
                  have HS1 := Lib.hid (HS0.out.trans (HK0.out.mono HS0.out.size))
                  clear hV
                  refine wpAnyH_ready (rs := [0, 4]) (by kernel_rfl) (by simp) ?_
                  refine AllReadyH.cons (o := ⟨some 57, _, _, _, _, _⟩) rfl (fun K hK => ?_) (AllReadyH.cons (o := ⟨some 8, _, _, _, _, _⟩) rfl (fun K hK => ?_) AllReadyH.nil)
                  · skip
                    go_simp
                    refine (leaf_one V1).mono ?_
                    rintro r V2 ⟨rfl, hb⟩
                    have HK1 := Lib.hid hb
                    have HS2 := Lib.hid (HS1.out.trans (hb.mono HS1.out.size))
                    clear hb
                    dsimp only
                    refine hK.out _ _ HS2.out (fun _ => ?_)
                    clear hK K
                    try simp only [Act.put, List.setIfInBounds_toArray, List.set_cons_zero, List.set_cons_succ]
                    refine wpAnyH_take (i := 3) (oi := ⟨some 60, _, _, _, _, _⟩) (v := .agg #[.int .i64 15, .int .i64 0, .int .i64 0, .string ⟨#[]⟩, .string ⟨#[]⟩, .int .i64 0, .string ⟨#[]⟩, .int .i64 0, .int .i64 1, .int .i64 0, .slice none 0 0, .int .i64 0, .int .i64 0, .slice none 0 0, .slice none 0 0, .slice (some ⟨V0.heap.size, 0, none⟩) 1 1]) rfl (by kernel_rfl) (by kernel_rfl) (by kernel_rfl) (by first | exact fun _ _ _ h => h | exact fun _ _ _ h => h.elim) (Or.inl ⟨by rfl, fun W9 hSw => (exec_asc rfl rfl rfl rfl)⟩) HS2.out ?_
                    try simp only [Act.put, List.setIfInBounds_toArray, List.set_cons_zero, List.set_cons_succ]
                    refine wpAnyH_ready (rs := [4]) (by kernel_rfl) (by simp) ?_
                    refine AllReadyH.cons (o := ⟨some 8, _, _, _, _, _⟩) rfl (fun K hK => ?_) AllReadyH.nil
                    go_simp
                    refine hK.out _ _ (HS2.out.alloc HS2.out.size (.cells #[.int .i64 0, .int .i64 0, .int .i64 0, .string ⟨#[]⟩, .string ⟨#[]⟩, .int .i64 0, .string ⟨#[]⟩, .int .i64 0, .int .i64 0, .int .i64 0, .slice none 0 0, .int .i64 0, .int .i64 0, .slice none 0 0, .slice none 0 0, .slice none 0 0] 30)) (fun _ => ?_)
                    clear hK K
                    try simp only [Act.put, List.setIfInBounds_toArray, List.set_cons_zero, List.set_cons_succ]
                    obtain ⟨V3, hV⟩ : ∃ V, V2.alloc (.cells #[.int .i64 0, .int .i64 0, .int .i64 0, .string ⟨#[]⟩, .string ⟨#[]⟩, .int .i64 0, .string ⟨#[]⟩, .int .i64 0, .int .i64 0, .int .i64 0, .slice none 0 0, .int .i64 0, .int .i64 0, .slice none 0 0, .slice none 0 0, .slice none 0 0] 30) = V := ⟨_, rfl⟩
                    rw [hV]
                    have HK2 := Lib.hid (show Below V2.heap.size V2 V3 by rw [← hV]; exact (Below.refl _ _).alloc (Nat.le_refl _) _)
                    have HZA := Lib.hid (show V3.heap[V2.heap.size]? = some (.cells #[.int .i64 0, .int .i64 0, .int .i64 0, .string ⟨#[]⟩, .string ⟨#[]⟩, .int .i64 0, .string ⟨#[]⟩, .int .i64 0, .int .i64 0, .int .i64 0, .slice none 0 0, .int .i64 0, .int .i64 0, .slice none 0 0, .slice none 0 0, .slice none 0 0] 30) by rw [← hV]; exact World.alloc_heap_new _ _)
                    have HLA := Lib.hid (show V2.heap.size < V3.heap.size by rw [← hV, World.size_alloc]; omega)
                    have HS3 := Lib.hid (HS2.out.trans (HK2.out.mono HS2.out.size))
                    clear hV
                    have za := ((Below.refl V3.heap.size V3).block _ HLA.out).trans HZA.out
                    have zb := ((HK1.out.trans (HK2.out.mono HK1.out.size)).block _ HLB.out).trans HZB.out
                    have hfin := below_setRow HS3.out HS2.out.size #[.int .i64 15, .int .i64 0, .int .i64 0, .string ⟨#[]⟩, .string ⟨#[]⟩, .int .i64 0, .string ⟨#[]⟩, .int .i64 0, .int .i64 1, .int .i64 0, .slice none 0 0, .int .i64 0, .int .i64 0, .slice none 0 0, .slice none 0 0, .slice (some ⟨V0.heap.size, 0, none⟩) 1 1]
                    refine wpAnyH_ready (rs := [5]) (by kernel_rfl) (by simp) ?_
                    refine AllReadyH.cons (o := ⟨none, _, _, _, _, _⟩) rfl (fun K hK => ?_) AllReadyH.nil
                    refine step_store_row rfl 30 (.tmp 8) (.tmp 60) rfl V2.heap.size #[.int .i64 15, .int .i64 0, .int .i64 0, .string ⟨#[]⟩, .string ⟨#[]⟩, .int .i64 0, .string ⟨#[]⟩, .int .i64 0, .int .i64 1, .int .i64 0, .slice none 0 0, .int .i64 0, .int .i64 0, .slice none 0 0, .slice none 0 0, .slice (some ⟨V0.heap.size, 0, none⟩) 1 1] rfl rfl 30 _ za (by kernel_rfl) rfl (by kernel_rfl) ?_
                    refine hK.out _ _ hfin (fun _ => ?_)
                    clear hK K
                    refine wpAnyH_done (by kernel_rfl) ?_ _
                    go_wp2_with fail
                    go_meet
                    exact ⟨_, _, rfl, setRow_heap _ _ _ _ _ _ za, (setRow_other _ _ _ _ (by have := HK0.out.size; have := HK1.out.size; have := HK2.out.size; have := HLA.out; have := HLB.out; omega)).trans zb, hfin⟩
                  · skip
                    go_simp
                    refine hK.out _ _ (HS1.out.alloc HS1.out.size (.cells #[.int .i64 0, .int .i64 0, .int .i64 0, .string ⟨#[]⟩, .string ⟨#[]⟩, .int .i64 0, .string ⟨#[]⟩, .int .i64 0, .int .i64 0, .int .i64 0, .slice none 0 0, .int .i64 0, .int .i64 0, .slice none 0 0, .slice none 0 0, .slice none 0 0] 30)) (fun _ => ?_)
                    clear hK K
                    try simp only [Act.put, List.setIfInBounds_toArray, List.set_cons_zero, List.set_cons_succ]
                    obtain ⟨V2, hV⟩ : ∃ V, V1.alloc (.cells #[.int .i64 0, .int .i64 0, .int .i64 0, .string ⟨#[]⟩, .string ⟨#[]⟩, .int .i64 0, .string ⟨#[]⟩, .int .i64 0, .int .i64 0, .int .i64 0, .slice none 0 0, .int .i64 0, .int .i64 0, .slice none 0 0, .slice none 0 0, .slice none 0 0] 30) = V := ⟨_, rfl⟩
                    rw [hV]
                    have HK1 := Lib.hid (show Below V1.heap.size V1 V2 by rw [← hV]; exact (Below.refl _ _).alloc (Nat.le_refl _) _)
                    have HZA := Lib.hid (show V2.heap[V1.heap.size]? = some (.cells #[.int .i64 0, .int .i64 0, .int .i64 0, .string ⟨#[]⟩, .string ⟨#[]⟩, .int .i64 0, .string ⟨#[]⟩, .int .i64 0, .int .i64 0, .int .i64 0, .slice none 0 0, .int .i64 0, .int .i64 0, .slice none 0 0, .slice none 0 0, .slice none 0 0] 30) by rw [← hV]; exact World.alloc_heap_new _ _)
                    have HLA := Lib.hid (show V1.heap.size < V2.heap.size by rw [← hV, World.size_alloc]; omega)
                    have HS2 := Lib.hid (HS1.out.trans (HK1.out.mono HS1.out.size))
                    clear hV
                    refine wpAnyH_ready (rs := [0]) (by kernel_rfl) (by simp) ?_
                    refine AllReadyH.cons (o := ⟨some 57, _, _, _, _, _⟩) rfl (fun K hK => ?_) AllReadyH.nil
                    go_simp
                    refine (leaf_one V2).mono ?_
                    rintro r V3 ⟨rfl, hb⟩
                    have HK2 := Lib.hid hb
                    have HS3 := Lib.hid (HS2.out.trans (hb.mono HS2.out.size))
                    clear hb
                    dsimp only
                    refine hK.out _ _ HS3.out (fun _ => ?_)
                    clear hK K
                    try simp only [Act.put, List.setIfInBounds_toArray, List.set_cons_zero, List.set_cons_succ]
                    refine wpAnyH_take (i := 3) (oi := ⟨some 60, _, _, _, _, _⟩) (v := .agg #[.int .i64 15, .int .i64 0, .int .i64 0, .string ⟨#[]⟩, .string ⟨#[]⟩, .int .i64 0, .string ⟨#[]⟩, .int .i64 0, .int .i64 1, .int .i64 0, .slice none 0 0, .int .i64 0, .int .i64 0, .slice none 0 0, .slice none 0 0, .slice (some ⟨V0.heap.size, 0, none⟩) 1 1]) rfl (by kernel_rfl) (by kernel_rfl) (by kernel_rfl) (by first | exact fun _ _ _ h => h | exact fun _ _ _ h => h.elim) (Or.inl ⟨by rfl, fun W9 hSw => (exec_asc rfl rfl rfl rfl)⟩) HS3.out ?_
                    try simp only [Act.put, List.setIfInBounds_toArray, List.set_cons_zero, List.set_cons_succ]
                    have za := (HK2.out.block _ HLA.out).trans HZA.out
                    have zb := ((HK1.out.trans (HK2.out.mono HK1.out.size)).block _ HLB.out).trans HZB.out
                    have hfin := below_setRow HS3.out HS1.out.size #[.int .i64 15, .int .i64 0, .int .i64 0, .string ⟨#[]⟩, .string ⟨#[]⟩, .int .i64 0, .string ⟨#[]⟩, .int .i64 0, .int .i64 1, .int .i64 0, .slice none 0 0, .int .i64 0, .int .i64 0, .slice none 0 0, .slice none 0 0, .slice (some ⟨V0.heap.size, 0, none⟩) 1 1]
                    refine wpAnyH_ready (rs := [5]) (by kernel_rfl) (by simp) ?_
                    refine AllReadyH.cons (o := ⟨none, _, _, _, _, _⟩) rfl (fun K hK => ?_) AllReadyH.nil
                    refine step_store_row rfl 30 (.tmp 8) (.tmp 60) rfl V1.heap.size #[.int .i64 15, .int .i64 0, .int .i64 0, .string ⟨#[]⟩, .string ⟨#[]⟩, .int .i64 0, .string ⟨#[]⟩, .int .i64 0, .int .i64 1, .int .i64 0, .slice none 0 0, .int .i64 0, .int .i64 0, .slice none 0 0, .slice none 0 0, .slice (some ⟨V0.heap.size, 0, none⟩) 1 1] rfl rfl 30 _ za (by kernel_rfl) rfl (by kernel_rfl) ?_
                    refine hK.out _ _ hfin (fun _ => ?_)
                    clear hK K
                    refine wpAnyH_done (by kernel_rfl) ?_ _
                    go_wp2_with fail
                    go_meet
                    exact ⟨_, _, rfl, setRow_heap _ _ _ _ _ _ za, (setRow_other _ _ _ _ (by have := HK0.out.size; have := HK1.out.size; have := HK2.out.size; have := HLA.out; have := HLB.out; omega)).trans zb, hfin⟩
                · skip
                  go_simp
                  refine hK.out _ _ (HS0.out.alloc HS0.out.size (.cells #[.int .i64 0, .int .i64 0, .int .i64 0, .string ⟨#[]⟩, .string ⟨#[]⟩, .int .i64 0, .string ⟨#[]⟩, .int .i64 0, .int .i64 0, .int .i64 0, .slice none 0 0, .int .i64 0, .int .i64 0, .slice none 0 0, .slice none 0 0, .slice none 0 0] 30)) (fun _ => ?_)
                  clear hK K
                  try simp only [Act.put, List.setIfInBounds_toArray, List.set_cons_zero, List.set_cons_succ]
                  obtain ⟨V1, hV⟩ : ∃ V, V0.alloc (.cells #[.int .i64 0, .int .i64 0, .int .i64 0, .string ⟨#[]⟩, .string ⟨#[]⟩, .int .i64 0, .string ⟨#[]⟩, .int .i64 0, .int .i64 0, .int .i64 0, .slice none 0 0, .int .i64 0, .int .i64 0, .slice none 0 0, .slice none 0 0, .slice none 0 0] 30) = V := ⟨_, rfl⟩
                  rw [hV]
                  have HK0 := Lib.hid (show Below V0.heap.size V0 V1 by rw [← hV]; exact (Below.refl _ _).alloc (Nat.le_refl _) _)
                  have HZA := Lib.hid (show V1.heap[V0.heap.size]? = some (.cells #[.int .i64 0, .int .i64 0, .int .i64 0, .string ⟨#[]⟩, .string ⟨#[]⟩, .int .i64 0, .string ⟨#[]⟩, .int .i64 0, .int .i64 0, .int .i64 0, .slice none 0 0, .int .i64 0, .int .i64 0, .slice none 0 0, .slice none 0 0, .slice none 0 0] 30) by rw [← hV]; exact World.alloc_heap_new _ _)
                  have HLA := Lib.hid (show V0.heap.size < V1.heap.size by rw [← hV, World.size_alloc]; omega)
                  have HS1 := Lib.hid (HS0.out.trans (HK0.out.mono HS0.out.size))
                  clear hV
                  refine wpAnyH_ready (rs := [0, 2]) (by kernel_rfl) (by simp) ?_
                  refine AllReadyH.cons (o := ⟨some 57, _, _, _, _, _⟩) rfl (fun K hK => ?_) (AllReadyH.cons (o := ⟨some 59, _, _, _, _, _⟩) rfl (fun K hK => ?_) AllReadyH.nil)
                  · skip
                    go_simp
                    refine (leaf_one V1).mono ?_
                    rintro r V2 ⟨rfl, hb⟩
                    have HK1 := Lib.hid hb
                    have HS2 := Lib.hid (HS1.out.trans (hb.mono HS1.out.size))
                    clear hb
                    dsimp only
                    refine hK.out _ _ HS2.out (fun _ => ?_)
                    clear hK K
                    try simp only [Act.put, List.setIfInBounds_toArray, List.set_cons_zero, List.set_cons_succ]
                    refine wpAnyH_ready (rs := [2]) (by kernel_rfl) (by simp) ?_
                    refine AllReadyH.cons (o := ⟨some 59, _, _, _, _, _⟩) rfl (fun K hK => ?_) AllReadyH.nil
                    refine step_exec rfl (exec_bs1 rfl rfl) ?_
                    refine hK.out _ _ (HS2.out.alloc HS2.out.size (.cells #[x0, x1, x2, x3, x4, x5, x6, x7, x8, x9, x10, x11, x12, x13, x14, x15] 30)) (fun _ => ?_)
                    clear hK K
                    try simp only [Act.put, List.setIfInBounds_toArray, List.set_cons_zero, List.set_cons_succ]
                    obtain ⟨V3, hV⟩ : ∃ V, V2.alloc (.cells #[x0, x1, x2, x3, x4, x5, x6, x7, x8, x9, x10, x11, x12, x13, x14, x15] 30) = V := ⟨_, rfl⟩
                    rw [hV]
                    have HK2 := Lib.hid (show Below V2.heap.size V2 V3 by rw [← hV]; exact (Below.refl _ _).alloc (Nat.le_refl _) _)
                    have HZB := Lib.hid (show V3.heap[V2.heap.size]? = some (.cells #[x0, x1, x2, x3, x4, x5, x6, x7, x8, x9, x10, x11, x12, x13, x14, x15] 30) by rw [← hV]; exact World.alloc_heap_new _ _)
                    have HLB := Lib.hid (show V2.heap.size < V3.heap.size by rw [← hV, World.size_alloc]; omega)
                    have HS3 := Lib.hid (HS2.out.trans (HK2.out.mono HS2.out.size))
                    clear hV
                    refine wpAnyH_take (i := 3) (oi := ⟨some 60, _, _, _, _, _⟩) (v := .agg #[.int .i64 15, .int .i64 0, .int .i64 0, .string ⟨#[]⟩, .string ⟨#[]⟩, .int .i64 0, .string ⟨#[]⟩, .int .i64 0, .int .i64 1, .int .i64 0, .slice none 0 0, .int .i64 0, .int .i64 0, .slice none 0 0, .slice none 0 0, .slice (some ⟨V2.heap.size, 0, none⟩) 1 1]) rfl (by kernel_rfl) (by kernel_rfl) (by kernel_rfl) (by first | exact fun _ _ _ h => h | exact fun _ _ _ h => h.elim) (Or.inl ⟨by rfl, fun W9 hSw => (exec_asc rfl rfl rfl rfl)⟩) HS3.out ?_
                    try simp only [Act.put, List.setIfInBounds_toArray, List.set_cons_zero, List.set_cons_succ]
                    have za := ((HK1.out.trans (HK2.out.mono HK1.out.size)).block _ HLA.out).trans HZA.out
                    have zb := ((Below.refl V3.heap.size V3).block _ HLB.out).trans HZB.out
                    have hfin := below_setRow HS3.out HS0.out.size #[.int .i64 15, .int .i64 0, .int .i64 0, .string ⟨#[]⟩, .string ⟨#[]⟩, .int .i64 0, .string ⟨#[]⟩, .int .i64 0, .int .i64 1, .int .i64 0, .slice none 0 0, .int .i64 0, .int .i64 0, .slice none 0 0, .slice none 0 0, .slice (some ⟨V2.heap.size, 0, none⟩) 1 1]
                    refine wpAnyH_ready (rs := [5]) (by kernel_rfl) (by simp) ?_
                    refine AllReadyH.cons (o := ⟨none, _, _, _, _, _⟩) rfl (fun K hK => ?_) AllReadyH.nil
                    refine step_store_row rfl 30 (.tmp 8) (.tmp 60) rfl V0.heap.size #[.int .i64 15, .int .i64 0, .int .i64 0, .string ⟨#[]⟩, .string ⟨#[]⟩, .int .i64 0, .string ⟨#[]⟩, .int .i64 0, .int .i64 1, .int .i64 0, .slice none 0 0, .int .i64 0, .int .i64 0, .slice none 0 0, .slice none 0 0, .slice (some ⟨V2.heap.size, 0, none⟩) 1 1] rfl rfl 30 _ za (by kernel_rfl) rfl (by kernel_rfl) ?_
                    refine hK.out _ _ hfin (fun _ => ?_)
                    clear hK K
                    refine wpAnyH_done (by kernel_rfl) ?_ _
                    go_wp2_with fail
                    go_meet
                    exact ⟨_, _, rfl, setRow_heap _ _ _ _ _ _ za, (setRow_other _ _ _ _ (by have := HK0.out.size; have := HK1.out.size; have := HK2.out.size; have := HLA.out; have := HLB.out; omega)).trans zb, hfin⟩
                  · skip
                    refine step_exec rfl (exec_bs1 rfl rfl) ?_
                    refine hK.out _ _ (HS1.out.alloc HS1.out.size (.cells #[x0, x1, x2, x3, x4, x5, x6, x7, x8, x9, x10, x11, x12, x13, x14, x15] 30)) (fun _ => ?_)
                    clear hK K
                    try simp only [Act.put, List.setIfInBounds_toArray, List.set_cons_zero, List.set_cons_succ]
                    obtain ⟨V2, hV⟩ : ∃ V, V1.alloc (.cells #[x0, x1, x2, x3, x4, x5, x6, x7, x8, x9, x10, x11, x12, x13, x14, x15] 30) = V := ⟨_, rfl⟩
                    rw [hV]
                    have HK1 := Lib.hid (show Below V1.heap.size V1 V2 by rw [← hV]; exact (Below.refl _ _).alloc (Nat.le_refl _) _)
                    have HZB := Lib.hid (show V2.heap[V1.heap.size]? = some (.cells #[x0, x1, x2, x3, x4, x5, x6, x7, x8, x9, x10, x11, x12, x13, x14, x15] 30) by rw [← hV]; exact World.alloc_heap_new _ _)
                    have HLB := Lib.hid (show V1.heap.size < V2.heap.size by rw [← hV, World.size_alloc]; omega)
                    have HS2 := Lib.hid (HS1.out.trans (HK1.out.mono HS1.out.size))
                    clear hV
                    refine wpAnyH_ready (rs := [0]) (by kernel_rfl) (by simp) ?_
                    refine AllReadyH.cons (o := ⟨some 57, _, _, _, _, _⟩) rfl (fun K hK => ?_) AllReadyH.nil
                    go_simp
                    refine (leaf_one V2).mono ?_
                    rintro r V3 ⟨rfl, hb⟩
                    have HK2 := Lib.hid hb
                    have HS3 := Lib.hid (HS2.out.trans (hb.mono HS2.out.size))
                    clear hb
                    dsimp only
                    refine hK.out _ _ HS3.out (fun _ => ?_)
                    clear hK K
                    try simp only [Act.put, List.setIfInBounds_toArray, List.set_cons_zero, List.set_cons_succ]
                    refine wpAnyH_take (i := 3) (oi := ⟨some 60, _, _, _, _, _⟩) (v := .agg #[.int .i64 15, .int .i64 0, .int .i64 0, .string ⟨#[]⟩, .string ⟨#[]⟩, .int .i64 0, .string ⟨#[]⟩, .int .i64 0, .int .i64 1, .int .i64 0, .slice none 0 0, .int .i64 0, .int .i64 0, .slice none 0 0, .slice none 0 0, .slice (some ⟨V1.heap.size, 0, none⟩) 1 1]) rfl (by kernel_rfl) (by kernel_rfl) (by kernel_rfl) (by first | exact fun _ _ _ h => h | exact fun _ _ _ h => h.elim) (Or.inl ⟨by rfl, fun W9 hSw => (exec_asc rfl rfl rfl rfl)⟩) HS3.out ?_
                    try simp only [Act.put, List.setIfInBounds_toArray, List.set_cons_zero, List.set_cons_succ]
                    have za := ((HK1.out.trans (HK2.out.mono HK1.out.size)).block _ HLA.out).trans HZA.out
                    have zb := (HK2.out.block _ HLB.out).trans HZB.out
                    have hfin := below_setRow HS3.out HS0.out.size #[.int .i64 15, .int .i64 0, .int .i64 0, .string ⟨#[]⟩, .string ⟨#[]⟩, .int .i64 0, .string ⟨#[]⟩, .int .i64 0, .int .i64 1, .int .i64 0, .slice none 0 0, .int .i64 0, .int .i64 0, .slice none 0 0, .slice none 0 0, .slice (some ⟨V1.heap.size, 0, none⟩) 1 1]
                    refine wpAnyH_ready (rs := [5]) (by kernel_rfl) (by simp) ?_
                    refine AllReadyH.cons (o := ⟨none, _, _, _, _, _⟩) rfl (fun K hK => ?_) AllReadyH.nil
                    refine step_store_row rfl 30 (.tmp 8) (.tmp 60) rfl V0.heap.size #[.int .i64 15, .int .i64 0, .int .i64 0, .string ⟨#[]⟩, .string ⟨#[]⟩, .int .i64 0, .string ⟨#[]⟩, .int .i64 0, .int .i64 1, .int .i64 0, .slice none 0 0, .int .i64 0, .int .i64 0, .slice none 0 0, .slice none 0 0, .slice (some ⟨V1.heap.size, 0, none⟩) 1 1] rfl rfl 30 _ za (by kernel_rfl) rfl (by kernel_rfl) ?_
                    refine hK.out _ _ hfin (fun _ => ?_)
                    clear hK K
                    refine wpAnyH_done (by kernel_rfl) ?_ _
                    go_wp2_with fail
                    go_meet
                    exact ⟨_, _, rfl, setRow_heap _ _ _ _ _ _ za, (setRow_other _ _ _ _ (by have := HK0.out.size; have := HK1.out.size; have := HK2.out.size; have := HLA.out; have := HLB.out; omega)).trans zb, hfin⟩
              case rest =>
                as_aux_lemma =>
                obtain ⟨p8, b8, rfl, h8, hx8, hb⟩ := hcut
                have HB := Lib.hid (HB9.out _ hb)
                have HROWX := Lib.hid (fun x (h : Below wc.heap.size wc x) => HROW9.out x (hb.trans (h.mono hb.size)))
                have HU := Lib.hid (fun x (h : Below wc.heap.size wc x) => (HB.out.trans (h.mono (HLE4.out _ HB.out)) : Below (w1.heap.size + 2) W4 x))
                have hl8 := (Array.getElem?_eq_some_iff.1 h8).1
                have hl9 := (Array.getElem?_eq_some_iff.1 hx8).1
                have hel1 : (elCells [(e, s)]).toArray = #[x0, x1, x2, x3, x4, x5, x6, x7, x8, x9, x10, x11, x12, x13, x14, x15] := by simp [elCells, HCX.out]
                have hasc : ∀ x, Below wc.heap.size wc x → ExAt (LT x.heap.size) x (asc15 e) (weL b8) := fun x h => asc_at (by rw [hel1]; exact (h.block _ hl9).trans hx8) (Nat.lt_of_lt_of_le hl9 h.size) (HEE2.out x (HUP.out x (HU.out x h)))
                have hca : ∀ x, Below wc.heap.size wc x → x.cell? ⟨p8, 0, none⟩ = some (.int .i64 15) ∧ x.cell? ⟨p8, 1, none⟩ = some (.int .i64 0) ∧ x.cell? ⟨p8, 2, none⟩ = some (.int .i64 0) ∧ x.cell? ⟨p8, 3, none⟩ = some (.string ⟨#[]⟩) ∧ x.cell? ⟨p8, 4, none⟩ = some (.string ⟨#[]⟩) ∧ x.cell? ⟨p8, 5, none⟩ = some (.int .i64 0) ∧ x.cell? ⟨p8, 6, none⟩ = some (.string ⟨#[]⟩) ∧ x.cell? ⟨p8, 7, none⟩ = some (.int .i64 0) ∧ x.cell? ⟨p8, 8, none⟩ = some (.int .i64 1) ∧ x.cell? ⟨p8, 9, none⟩ = some (.int .i64 0) ∧ x.cell? ⟨p8, 10, none⟩ = some (.slice none 0 0) ∧ x.cell? ⟨p8, 11, none⟩ = some (.int .i64 0) ∧ x.cell? ⟨p8, 12, none⟩ = some (.int .i64 0) ∧ x.cell? ⟨p8, 13, none⟩ = some (.slice none 0 0) ∧ x.cell? ⟨p8, 14, none⟩ = some (.slice none 0 0) ∧ x.cell? ⟨p8, 15, none⟩ = some (.slice (some ⟨b8, 0, none⟩) 1 1) := fun x h => by
                  have h1 := (h.block _ hl8).trans h8
                  exact ⟨cell_box h1 rfl rfl, cell_box h1 rfl rfl, cell_box h1 rfl rfl, cell_box h1 rfl rfl, cell_box h1 rfl rfl, cell_box h1 rfl rfl, cell_box h1 rfl rfl, cell_box h1 rfl rfl, cell_box h1 rfl rfl, cell_box h1 rfl rfl, cell_box h1 rfl rfl, cell_box h1 rfl rfl, cell_box h1 rfl rfl, cell_box h1 rfl rfl, cell_box h1 rfl rfl, cell_box h1 rfl rfl⟩
                have HCA := Lib.hid hca
                have hfa := (HSM.out trivial).2.2.2
                have hev : ev (asc15 e) (weL b8) = .agg #[.int .i64 15, .int .i64 0, .int .i64 0, .string ⟨#[]⟩, .string ⟨#[]⟩, .int .i64 0, .string ⟨#[]⟩, .int .i64 0, .int .i64 1, .int .i64 0, .slice none 0 0, .int .i64 0, .int .i64 0, .slice none 0 0, .slice none 0 0, .slice (some ⟨b8, 0, none⟩) 1 1] := rfl
                have hva := fun x h => value_any (asc15 e) (weL b8) x hfa (hasc x h)
                have haa := fun x h => anns_any (asc15 e) (weL b8) x hfa (hasc x h)
                rw [hev, asc15_value, Bool.and_false] at hva
                rw [hev, asc15_right, HRE.out] at haa
                obtain ⟨hr1, hr2⟩ : re = true ∧ rf = true := by simpa using hok
                subst hr1
                subst hr2
                simp only [if_true] at hva haa
                have HVA := Lib.hid hva; have HAA := Lib.hid haa
                rw [Bool.true_and] at HVE HVF HVP
                rw [if_pos rfl] at HAP HAE
                have hll : ln = (Ex.anns e ++ Ex.anns f).length := by rw [← HLN.out]; simp
                have hrw9 : ∀ x, Below wc.heap.size wc x → SlAt (LT x.heap.size) x (Ex.anns e ++ Ex.anns f) ra rc := fun x h => by have h2 := HROWX.out x h; rw [if_pos rfl, if_pos rfl] at h2; exact h2
                have HRW9 := Lib.hid hrw9
                have hlae : (Ex.anns e).length ≤ 1000 := by have := LA.out.1; simpa using this
                have haal := asc15_anns e
                obtain ⟨na, hna⟩ : ∃ n, (Ex.anns e).length = n := ⟨_, rfl⟩
                obtain ⟨nb, hnb⟩ : ∃ n, (Ex.anns (asc15 e)).length = n := ⟨_, rfl⟩
                have HNA := Lib.hid hna; have HNB := Lib.hid hnb
                rw [hna] at haal hlae; rw [hnb] at haal
                subst haal
                subst hll
                have HY0 := Lib.hid (Below.refl wc.heap.size wc).drew
                obtain ⟨l1, l2, l3, l4⟩ := LE.out
                clear h8 hx8 hb hl8 hl9 hel1 hasc hca hfa hev hva haa hok hrw9 hna hnb
                go_upto_region 9 with fail
                as_aux_lemma =>
                refine wp_region_seq [(0, false), (0, true), (0, false), (0, false), (0, false), (1, false), (2, false), (0, true), (0, true), (0, true), (0, false), (0, false), (0, false), (0, false), (0, false), (0, false), (1, false), (2, false), (0, true), (0, true), (0, true), (0, false), (0, false), (0, false), (0, false), (0, false), (0, false), (1, false), (0, true), (0, true), (0, false), (0, false), (0, true), (0, false), (0, false), (0, false), (0, false), (0, false), (1, false), (0, true), (0, true), (0, false), (0, false), (0, false), (0, true), (0, false), (0, false), (0, false), (0, false), (2, false), (0, true), (0, false), (0, true), (0, false), (0, false), (0, false), (0, false), (0, false), (0, true), (0, false), (0, false)] (by kernel_rfl) (by kernel_rfl) (by kernel_rfl) (fun _ _ _ d _ h => by cases d <;> exact h) ?_
                with_reducible refine sx0 ?_ (.agg #[.int .i64 6, .int .i64 0, .int .i64 0, .string ⟨#[]⟩, .string ⟨#[]⟩, .int .i64 0, .string ⟨#[]⟩, .int .i64 0, .int .i64 0, .int .i64 0, .slice none 0 0, .int .i64 0, .int .i64 0, .slice none 0 0, .slice none 0 0, .slice (some ⟨w1.heap.size, 0, none⟩) 2 2]) (fun x hx => ?_) ?_
                · rfl
                · obtain ⟨c0, c1, c2, c3, c4, c5, c6, c7, c8, c9, c10, c11, c12, c13, c14, c15⟩ := HCP.out x (HU.out x (HY0.out.trans (hx.mono HY0.out.size)))
                  exact exec_load16 rfl rfl c0 c1 c2 c3 c4 c5 c6 c7 c8 c9 c10 c11 c12 c13 c14 c15
                try simp only [Act.put, List.setIfInBounds_toArray, List.set_cons_zero, List.set_cons_succ]
                first | with_reducible refine sc0 (fun K hK => ?_) | with_reducible refine sc1 (fun K hK => ?_) | with_reducible refine sc2 (fun K hK => ?_) | with_reducible refine sc3 (fun K hK => ?_) | with_reducible refine sc4 (fun K hK => ?_)
                go_simp
                refine (HKP.out _ (HU.out _ HY0.out)).mono ?_
                rintro r z1 ⟨rfl, hb⟩
                have HY1 := Lib.hid (HY0.out.trans (hb.mono HY0.out.size))
                refine ⟨hb, hK _ _ ?_⟩
                clear hK K
                clear hb
                repeat
                  first
                  | (first | with_reducible refine sp0 (fun K hK => ?_) | with_reducible refine sp1 (fun K hK => ?_) | with_reducible refine sp2 (fun K hK => ?_) | with_reducible refine sp3 (fun K hK => ?_) | with_reducible refine sp4 (fun K hK => ?_)
                     go_simp
                     first
                     | (with_reducible refine hK _ _ ?_; clear hK K)
                     | (with_reducible apply Exists.intro
                        refine ⟨fun x hx => ?_, hK _ _ ?_⟩
                        first
                          | (with_reducible exact rfl)
                        clear hK K))
                  | (first | with_reducible refine sk0 ?_ (fun K hK => ?_) | with_reducible refine sk1 ?_ (fun K hK => ?_) | with_reducible refine sk2 ?_ (fun K hK => ?_) | with_reducible refine sk3 ?_ (fun K hK => ?_) | with_reducible refine sk4 ?_ (fun K hK => ?_)
                     rfl
                     go_simp
                     with_reducible refine hK _ _ ?_
                     clear hK K)
                with_reducible refine sx0 ?_ (.agg #[.int .i64 6, .int .i64 0, .int .i64 0, .string ⟨#[]⟩, .string ⟨#[]⟩, .int .i64 0, .string ⟨#[]⟩, .int .i64 0, .int .i64 0, .int .i64 0, .slice none 0 0, .int .i64 0, .int .i64 0, .slice none 0 0, .slice none 0 0, .slice (some ⟨w1.heap.size, 0, none⟩) 2 2]) (fun x hx => ?_) ?_
                · rfl
                · obtain ⟨c0, c1, c2, c3, c4, c5, c6, c7, c8, c9, c10, c11, c12, c13, c14, c15⟩ := HCP.out x (HU.out x (HY1.out.trans (hx.mono HY1.out.size)))
                  exact exec_load16 rfl rfl c0 c1 c2 c3 c4 c5 c6 c7 c8 c9 c10 c11 c12 c13 c14 c15
                try simp only [Act.put, List.setIfInBounds_toArray, List.set_cons_zero, List.set_cons_succ]
                with_reducible refine sx1 ?_ (.agg #[x0, x1, x2, x3, x4, x5, x6, x7, x8, x9, x10, x11, x12, x13, x14, x15]) (fun x hx => ?_) ?_
                · rfl
                · obtain ⟨c0, c1, c2, c3, c4, c5, c6, c7, c8, c9, c10, c11, c12, c13, c14, c15⟩ := HCE.out x (HUP.out x (HU.out x (HY1.out.trans (hx.mono HY1.out.size))))
                  exact exec_load16 rfl rfl c0 c1 c2 c3 c4 c5 c6 c7 c8 c9 c10 c11 c12 c13 c14 c15
                try simp only [Act.put, List.setIfInBounds_toArray, List.set_cons_zero, List.set_cons_succ]
                with_reducible refine sx2 ?_ (.agg #[y0, y1, y2, y3, y4, y5, y6, y7, y8, y9, y10, y11, y12, y13, y14, y15]) (fun x hx => ?_) ?_
                · rfl
                · obtain ⟨c0, c1, c2, c3, c4, c5, c6, c7, c8, c9, c10, c11, c12, c13, c14, c15⟩ := HCF.out x (HUP.out x (HU.out x (HY1.out.trans (hx.mono HY1.out.size))))
                  exact exec_load16 rfl rfl c0 c1 c2 c3 c4 c5 c6 c7 c8 c9 c10 c11 c12 c13 c14 c15
                try simp only [Act.put, List.setIfInBounds_toArray, List.set_cons_zero, List.set_cons_succ]
                first | with_reducible refine sc0 (fun K hK => ?_) | with_reducible refine sc1 (fun K hK => ?_) | with_reducible refine sc2 (fun K hK => ?_) | with_reducible refine sc3 (fun K hK => ?_) | with_reducible refine sc4 (fun K hK => ?_)
                go_simp
                refine (HSP.out _ (HU.out _ HY1.out)).mono ?_
                rintro r z2 ⟨rfl, hb⟩
                have HY2 := Lib.hid (HY1.out.trans (hb.mono HY1.out.size))
                refine ⟨hb, hK _ _ ?_⟩
                clear hK K
                clear hb
                first | with_reducible refine sc0 (fun K hK => ?_) | with_reducible refine sc1 (fun K hK => ?_) | with_reducible refine sc2 (fun K hK => ?_) | with_reducible refine sc3 (fun K hK => ?_) | with_reducible refine sc4 (fun K hK => ?_)
                go_simp
                refine (HSE.out _ (HU.out _ HY2.out)).mono ?_
                rintro r z3 ⟨rfl, hb⟩
                have HY3 := Lib.hid (HY2.out.trans (hb.mono HY2.out.size))
                refine ⟨hb, hK _ _ ?_⟩
                clear hK K
                clear hb
                first | with_reducible refine sc0 (fun K hK => ?_) | with_reducible refine sc1 (fun K hK => ?_) | with_reducible refine sc2 (fun K hK => ?_) | with_reducible refine sc3 (fun K hK => ?_) | with_reducible refine sc4 (fun K hK => ?_)
                go_simp
                refine (HSF.out _ (HU.out _ HY3.out)).mono ?_
                rintro r z4 ⟨rfl, hb⟩
                have HY4 := Lib.hid (HY3.out.trans (hb.mono HY3.out.size))
                refine ⟨hb, hK _ _ ?_⟩
                clear hK K
                clear hb
                repeat
                  first
                  | (first | with_reducible refine sp0 (fun K hK => ?_) | with_reducible refine sp1 (fun K hK => ?_) | with_reducible refine sp2 (fun K hK => ?_) | with_reducible refine sp3 (fun K hK => ?_) | with_reducible refine sp4 (fun K hK => ?_)
                     go_simp
                     first
                     | (with_reducible refine hK _ _ ?_; clear hK K)
                     | (with_reducible apply Exists.intro
                        refine ⟨fun x hx => ?_, hK _ _ ?_⟩
                        first
                          | (with_reducible exact rfl)
                        clear hK K))
                  | (first | with_reducible refine sk0 ?_ (fun K hK => ?_) | with_reducible refine sk1 ?_ (fun K hK => ?_) | with_reducible refine sk2 ?_ (fun K hK => ?_) | with_reducible refine sk3 ?_ (fun K hK => ?_) | with_reducible refine sk4 ?_ (fun K hK => ?_)
                     rfl
                     go_simp
                     with_reducible refine hK _ _ ?_
                     clear hK K)
                have e1 : IntKind.i64.wrap ((ne : Int) + nf) = ne + nf := wrap_in (by omega) (by omega)
                have e2 : IntKind.i64.wrap ((ne : Int) + nf + 1) = ne + nf + 1 := wrap_in (by omega) (by omega)
                have hq : ((ne : Int) + nf + 1 == IntKind.i64.wrap (IntKind.i64.wrap ((ne : Int) + nf) + 1)) = true := by rw [e1, e2]; exact beq_self_eq_true _
                rw [hq]
                clear e1 e2 hq
                with_reducible refine sx0 ?_ (.agg #[.int .i64 6, .int .i64 0, .int .i64 0, .string ⟨#[]⟩, .string ⟨#[]⟩, .int .i64 0, .string ⟨#[]⟩, .int .i64 0, .int .i64 0, .int .i64 0, .slice none 0 0, .int .i64 0, .int .i64 0, .slice none 0 0, .slice none 0 0, .slice (some ⟨w1.heap.size, 0, none⟩) 2 2]) (fun x hx => ?_) ?_
                · rfl
                · obtain ⟨c0, c1, c2, c3, c4, c5, c6, c7, c8, c9, c10, c11, c12, c13, c14, c15⟩ := HCP.out x (HU.out x (HY4.out.trans (hx.mono HY4.out.size)))
                  exact exec_load16 rfl rfl c0 c1 c2 c3 c4 c5 c6 c7 c8 c9 c10 c11 c12 c13 c14 c15
                try simp only [Act.put, List.setIfInBounds_toArray, List.set_cons_zero, List.set_cons_succ]
                with_reducible refine sx1 ?_ (.agg #[x0, x1, x2, x3, x4, x5, x6, x7, x8, x9, x10, x11, x12, x13, x14, x15]) (fun x hx => ?_) ?_
                · rfl
                · obtain ⟨c0, c1, c2, c3, c4, c5, c6, c7, c8, c9, c10, c11, c12, c13, c14, c15⟩ := HCE.out x (HUP.out x (HU.out x (HY4.out.trans (hx.mono HY4.out.size))))
                  exact exec_load16 rfl rfl c0 c1 c2 c3 c4 c5 c6 c7 c8 c9 c10 c11 c12 c13 c14 c15
                try simp only [Act.put, List.setIfInBounds_toArray, List.set_cons_zero, List.set_cons_succ]
                with_reducible refine sx2 ?_ (.agg #[y0, y1, y2, y3, y4, y5, y6, y7, y8, y9, y10, y11, y12, y13, y14, y15]) (fun x hx => ?_) ?_
                · rfl
                · obtain ⟨c0, c1, c2, c3, c4, c5, c6, c7, c8, c9, c10, c11, c12, c13, c14, c15⟩ := HCF.out x (HUP.out x (HU.out x (HY4.out.trans (hx.mono HY4.out.size))))
                  exact exec_load16 rfl rfl c0 c1 c2 c3 c4 c5 c6 c7 c8 c9 c10 c11 c12 c13 c14 c15
                try simp only [Act.put, List.setIfInBounds_toArray, List.set_cons_zero, List.set_cons_succ]
                first | with_reducible refine sc0 (fun K hK => ?_) | with_reducible refine sc1 (fun K hK => ?_) | with_reducible refine sc2 (fun K hK => ?_) | with_reducible refine sc3 (fun K hK => ?_) | with_reducible refine sc4 (fun K hK => ?_)
                go_simp
                refine (HDP.out _ (HU.out _ HY4.out)).mono ?_
                rintro r z5 ⟨rfl, hb⟩
                have HY5 := Lib.hid (HY4.out.trans (hb.mono HY4.out.size))
                refine ⟨hb, hK _ _ ?_⟩
                clear hK K
                clear hb
                first | with_reducible refine sc0 (fun K hK => ?_) | with_reducible refine sc1 (fun K hK => ?_) | with_reducible refine sc2 (fun K hK => ?_) | with_reducible refine sc3 (fun K hK => ?_) | with_reducible refine sc4 (fun K hK => ?_)
                go_simp
                refine (HDE.out _ (HU.out _ HY5.out)).mono ?_
                rintro r z6 ⟨rfl, hb⟩
                have HY6 := Lib.hid (HY5.out.trans (hb.mono HY5.out.size))
                refine ⟨hb, hK _ _ ?_⟩
                clear hK K
                clear hb
                first | with_reducible refine sc0 (fun K hK => ?_) | with_reducible refine sc1 (fun K hK => ?_) | with_reducible refine sc2 (fun K hK => ?_) | with_reducible refine sc3 (fun K hK => ?_) | with_reducible refine sc4 (fun K hK => ?_)
                go_simp
                refine (HDF.out _ (HU.out _ HY6.out)).mono ?_
                rintro r z7 ⟨rfl, hb⟩
                have HY7 := Lib.hid (HY6.out.trans (hb.mono HY6.out.size))
                refine ⟨hb, hK _ _ ?_⟩
                clear hK K
                clear hb
                repeat
                  first
                  | (first | with_reducible refine sp0 (fun K hK => ?_) | with_reducible refine sp1 (fun K hK => ?_) | with_reducible refine sp2 (fun K hK => ?_) | with_reducible refine sp3 (fun K hK => ?_) | with_reducible refine sp4 (fun K hK => ?_)
                     go_simp
                     first
                     | (with_reducible refine hK _ _ ?_; clear hK K)
                     | (with_reducible apply Exists.intro
                        refine ⟨fun x hx => ?_, hK _ _ ?_⟩
                        first
                          | (with_reducible exact rfl)
                        clear hK K))
                  | (first | with_reducible refine sk0 ?_ (fun K hK => ?_) | with_reducible refine sk1 ?_ (fun K hK => ?_) | with_reducible refine sk2 ?_ (fun K hK => ?_) | with_reducible refine sk3 ?_ (fun K hK => ?_) | with_reducible refine sk4 ?_ (fun K hK => ?_)
                     rfl
                     go_simp
                     with_reducible refine hK _ _ ?_
                     clear hK K)
                have e3 : IntKind.i64.wrap (max (de : Int) df + 1) = max (de : Int) df + 1 := wrap_in (by omega) (by omega)
                have hq3 : (((max de df : Nat) : Int) + 1 == IntKind.i64.wrap (max (de : Int) df + 1)) = true := by rw [e3, show ((max de df : Nat) : Int) = max (de : Int) df from by omega]; exact beq_self_eq_true _
                rw [hq3]
                clear e3 hq3
                with_reducible refine sx0 ?_ (.agg #[.int .i64 6, .int .i64 0, .int .i64 0, .string ⟨#[]⟩, .string ⟨#[]⟩, .int .i64 0, .string ⟨#[]⟩, .int .i64 0, .int .i64 0, .int .i64 0, .slice none 0 0, .int .i64 0, .int .i64 0, .slice none 0 0, .slice none 0 0, .slice (some ⟨w1.heap.size, 0, none⟩) 2 2]) (fun x hx => ?_) ?_
                · rfl
                · obtain ⟨c0, c1, c2, c3, c4, c5, c6, c7, c8, c9, c10, c11, c12, c13, c14, c15⟩ := HCP.out x (HU.out x (HY7.out.trans (hx.mono HY7.out.size)))
                  exact exec_load16 rfl rfl c0 c1 c2 c3 c4 c5 c6 c7 c8 c9 c10 c11 c12 c13 c14 c15
                try simp only [Act.put, List.setIfInBounds_toArray, List.set_cons_zero, List.set_cons_succ]
                with_reducible refine sx1 ?_ (.agg #[x0, x1, x2, x3, x4, x5, x6, x7, x8, x9, x10, x11, x12, x13, x14, x15]) (fun x hx => ?_) ?_
                · rfl
                · obtain ⟨c0, c1, c2, c3, c4, c5, c6, c7, c8, c9, c10, c11, c12, c13, c14, c15⟩ := HCE.out x (HUP.out x (HU.out x (HY7.out.trans (hx.mono HY7.out.size))))
                  exact exec_load16 rfl rfl c0 c1 c2 c3 c4 c5 c6 c7 c8 c9 c10 c11 c12 c13 c14 c15
                try simp only [Act.put, List.setIfInBounds_toArray, List.set_cons_zero, List.set_cons_succ]
                first | with_reducible refine sc0 (fun K hK => ?_) | with_reducible refine sc1 (fun K hK => ?_) | with_reducible refine sc2 (fun K hK => ?_) | with_reducible refine sc3 (fun K hK => ?_) | with_reducible refine sc4 (fun K hK => ?_)
                go_simp
                refine (HVP.out _ (HU.out _ HY7.out)).mono ?_
                rintro r z8 ⟨rfl, hb⟩
                have HY8 := Lib.hid (HY7.out.trans (hb.mono HY7.out.size))
                refine ⟨hb, hK _ _ ?_⟩
                clear hK K
                clear hb
                first | with_reducible refine sc0 (fun K hK => ?_) | with_reducible refine sc1 (fun K hK => ?_) | with_reducible refine sc2 (fun K hK => ?_) | with_reducible refine sc3 (fun K hK => ?_) | with_reducible refine sc4 (fun K hK => ?_)
                go_simp
                refine (HVE.out _ (HU.out _ HY8.out)).mono ?_
                rintro r z9 ⟨rfl, hb⟩
                have HY9 := Lib.hid (HY8.out.trans (hb.mono HY8.out.size))
                refine ⟨hb, hK _ _ ?_⟩
                clear hK K
                clear hb
                cases ve
                case' false =>
                  repeat
                    first
                    | (first | with_reducible refine sp0 (fun K hK => ?_) | with_reducible refine sp1 (fun K hK => ?_) | with_reducible refine sp2 (fun K hK => ?_) | with_reducible refine sp3 (fun K hK => ?_) | with_reducible refine sp4 (fun K hK => ?_)
                       go_simp
                       first
                       | (with_reducible refine hK _ _ ?_; clear hK K)
                       | (with_reducible apply Exists.intro
                          refine ⟨fun x hx => ?_, hK _ _ ?_⟩
                          first
                            | (with_reducible exact rfl)
                          clear hK K))
                    | (first | with_reducible refine sk0 ?_ (fun K hK => ?_) | with_reducible refine sk1 ?_ (fun K hK => ?_) | with_reducible refine sk2 ?_ (fun K hK => ?_) | with_reducible refine sk3 ?_ (fun K hK => ?_) | with_reducible refine sk4 ?_ (fun K hK => ?_)
                       rfl
                       go_simp
                       with_reducible refine hK _ _ ?_
                       clear hK K)
                  have HY10 := HY9
                case' true =>
                  with_reducible refine sp0 (fun K hK => ?_)
                  go_simp
                  first
                  | (with_reducible refine hK _ _ ?_; clear hK K)
                  | (with_reducible apply Exists.intro; refine ⟨fun x hx => ?_, hK _ _ ?_⟩; with_reducible exact rfl; clear hK K)
                  with_reducible refine sx0 ?_ (.agg #[y0, y1, y2, y3, y4, y5, y6, y7, y8, y9, y10, y11, y12, y13, y14, y15]) (fun x hx => ?_) ?_
                  · rfl
                  · obtain ⟨c0, c1, c2, c3, c4, c5, c6, c7, c8, c9, c10, c11, c12, c13, c14, c15⟩ := HCF.out x (HUP.out x (HU.out x (HY9.out.trans (hx.mono HY9.out.size))))
                    exact exec_load16 rfl rfl c0 c1 c2 c3 c4 c5 c6 c7 c8 c9 c10 c11 c12 c13 c14 c15
                  try simp only [Act.put, List.setIfInBounds_toArray, List.set_cons_zero, List.set_cons_succ]
                  first | with_reducible refine sc0 (fun K hK => ?_) | with_reducible refine sc1 (fun K hK => ?_) | with_reducible refine sc2 (fun K hK => ?_) | with_reducible refine sc3 (fun K hK => ?_) | with_reducible refine sc4 (fun K hK => ?_)
                  go_simp
                  refine (HVF.out _ (HU.out _ HY9.out)).mono ?_
                  rintro r z10 ⟨rfl, hb⟩
                  have HY10 := Lib.hid (HY9.out.trans (hb.mono HY9.out.size))
                  refine ⟨hb, hK _ _ ?_⟩
                  clear hK K
                  clear hb
                  repeat
                    first
                    | (first | with_reducible refine sp0 (fun K hK => ?_) | with_reducible refine sp1 (fun K hK => ?_) | with_reducible refine sp2 (fun K hK => ?_) | with_reducible refine sp3 (fun K hK => ?_) | with_reducible refine sp4 (fun K hK => ?_)
                       go_simp
                       first
                       | (with_reducible refine hK _ _ ?_; clear hK K)
                       | (with_reducible apply Exists.intro
                          refine ⟨fun x hx => ?_, hK _ _ ?_⟩
                          first
                            | (with_reducible exact rfl)
                          clear hK K))
                    | (first | with_reducible refine sk0 ?_ (fun K hK => ?_) | with_reducible refine sk1 ?_ (fun K hK => ?_) | with_reducible refine sk2 ?_ (fun K hK => ?_) | with_reducible refine sk3 ?_ (fun K hK => ?_) | with_reducible refine sk4 ?_ (fun K hK => ?_)
                       rfl
                       go_simp
                       with_reducible refine hK _ _ ?_
                       clear hK K)
                all_goals
                  with_reducible refine sx0 ?_ (.agg #[.int .i64 6, .int .i64 0, .int .i64 0, .string ⟨#[]⟩, .string ⟨#[]⟩, .int .i64 0, .string ⟨#[]⟩, .int .i64 0, .int .i64 0, .int .i64 0, .slice none 0 0, .int .i64 0, .int .i64 0, .slice none 0 0, .slice none 0 0, .slice (some ⟨w1.heap.size, 0, none⟩) 2 2]) (fun x hx => ?_) ?_
                  · rfl
                  · obtain ⟨c0, c1, c2, c3, c4, c5, c6, c7, c8, c9, c10, c11, c12, c13, c14, c15⟩ := HCP.out x (HU.out x (HY10.out.trans (hx.mono HY10.out.size)))
                    exact exec_load16 rfl rfl c0 c1 c2 c3 c4 c5 c6 c7 c8 c9 c10 c11 c12 c13 c14 c15
                  try simp only [Act.put, List.setIfInBounds_toArray, List.set_cons_zero, List.set_cons_succ]
                  with_reducible refine sp1 (fun K hK => ?_)
                  go_simp
                  first
                  | (with_reducible refine hK _ _ ?_; clear hK K)
                  | (with_reducible apply Exists.intro; refine ⟨fun x hx => ?_, hK _ _ ?_⟩; with_reducible exact rfl; clear hK K)
                  first | with_reducible refine sc0 (fun K hK => ?_) | with_reducible refine sc1 (fun K hK => ?_) | with_reducible refine sc2 (fun K hK => ?_) | with_reducible refine sc3 (fun K hK => ?_) | with_reducible refine sc4 (fun K hK => ?_)
                  go_simp
                  refine (HAP.out _ (HU.out _ HY10.out)).mono ?_
                  rintro r z11 ⟨v9, rfl, row9, hb⟩
                  have HY11 := Lib.hid (HY10.out.trans (hb.mono HY10.out.size))
                  obtain ⟨ap, cp, rfl, hsl⟩ := row9.sl hb
                  have HSL := Lib.hid hsl
                  have hrwn := HRW9.out _ HY11.out
                  have hsa := sameAll_any _ ap cp ra rc _ HSL.out hrwn
                  rw [List.length_append] at hsa
                  have HSA := Lib.hid hsa
                  clear hsl row9 hrwn hsa
                  refine ⟨hb, hK _ _ ?_⟩
                  clear hK K
                  clear hb
                  repeat
                    first
                    | (first | with_reducible refine sp0 (fun K hK => ?_) | with_reducible refine sp1 (fun K hK => ?_) | with_reducible refine sp2 (fun K hK => ?_) | with_reducible refine sp3 (fun K hK => ?_) | with_reducible refine sp4 (fun K hK => ?_)
                       go_simp
                       first
                       | (with_reducible refine hK _ _ ?_; clear hK K)
                       | (with_reducible apply Exists.intro
                          refine ⟨fun x hx => ?_, hK _ _ ?_⟩
                          first
                            | (with_reducible exact rfl)
                          clear hK K))
                    | (first | with_reducible refine sk0 ?_ (fun K hK => ?_) | with_reducible refine sk1 ?_ (fun K hK => ?_) | with_reducible refine sk2 ?_ (fun K hK => ?_) | with_reducible refine sk3 ?_ (fun K hK => ?_) | with_reducible refine sk4 ?_ (fun K hK => ?_)
                       rfl
                       go_simp
                       with_reducible refine hK _ _ ?_
                       clear hK K)
                  first | with_reducible refine sc0 (fun K hK => ?_) | with_reducible refine sc1 (fun K hK => ?_) | with_reducible refine sc2 (fun K hK => ?_) | with_reducible refine sc3 (fun K hK => ?_) | with_reducible refine sc4 (fun K hK => ?_)
                  go_simp
                  try simp only [List.length_append]
                  with_reducible refine (HSA.out).mono ?_
                  rintro r z12 ⟨rfl, hb⟩
                  have HY12 := Lib.hid (HY11.out.trans (hb.mono HY11.out.size))
                  refine ⟨hb, hK _ _ ?_⟩
                  clear hK K
                  clear hb
                  repeat
                    first
                    | (first | with_reducible refine sp0 (fun K hK => ?_) | with_reducible refine sp1 (fun K hK => ?_) | with_reducible refine sp2 (fun K hK => ?_) | with_reducible refine sp3 (fun K hK => ?_) | with_reducible refine sp4 (fun K hK => ?_)
                       go_simp
                       first
                       | (with_reducible refine hK _ _ ?_; clear hK K)
                       | (with_reducible apply Exists.intro
                          refine ⟨fun x hx => ?_, hK _ _ ?_⟩
                          first
                            | (with_reducible exact rfl)
                          clear hK K))
                    | (first | with_reducible refine sk0 ?_ (fun K hK => ?_) | with_reducible refine sk1 ?_ (fun K hK => ?_) | with_reducible refine sk2 ?_ (fun K hK => ?_) | with_reducible refine sk3 ?_ (fun K hK => ?_) | with_reducible refine sk4 ?_ (fun K hK => ?_)
                       rfl
                       go_simp
                       with_reducible refine hK _ _ ?_
                       clear hK K)
                  with_reducible refine sx0 ?_ (.agg #[.int .i64 15, .int .i64 0, .int .i64 0, .string ⟨#[]⟩, .string ⟨#[]⟩, .int .i64 0, .string ⟨#[]⟩, .int .i64 0, .int .i64 1, .int .i64 0, .slice none 0 0, .int .i64 0, .int .i64 0, .slice none 0 0, .slice none 0 0, .slice (some ⟨b8, 0, none⟩) 1 1]) (fun x hx => ?_) ?_
                  · rfl
                  · obtain ⟨c0, c1, c2, c3, c4, c5, c6, c7, c8, c9, c10, c11, c12, c13, c14, c15⟩ := HCA.out x (HY12.out.trans (hx.mono HY12.out.size))
                    exact exec_load16 rfl rfl c0 c1 c2 c3 c4 c5 c6 c7 c8 c9 c10 c11 c12 c13 c14 c15
                  try simp only [Act.put, List.setIfInBounds_toArray, List.set_cons_zero, List.set_cons_succ]
                  first | with_reducible refine sc0 (fun K hK => ?_) | with_reducible refine sc1 (fun K hK => ?_) | with_reducible refine sc2 (fun K hK => ?_) | with_reducible refine sc3 (fun K hK => ?_) | with_reducible refine sc4 (fun K hK => ?_)
                  go_simp
                  refine (HVA.out _ HY12.out).mono ?_
                  rintro r z13 ⟨rfl, hb⟩
                  have HY13 := Lib.hid (HY12.out.trans (hb.mono HY12.out.size))
                  refine ⟨hb, hK _ _ ?_⟩
                  clear hK K
                  clear hb
                  repeat
                    first
                    | (first | with_reducible refine sp0 (fun K hK => ?_) | with_reducible refine sp1 (fun K hK => ?_) | with_reducible refine sp2 (fun K hK => ?_) | with_reducible refine sp3 (fun K hK => ?_) | with_reducible refine sp4 (fun K hK => ?_)
                       go_simp
                       first
                       | (with_reducible refine hK _ _ ?_; clear hK K)
                       | (with_reducible apply Exists.intro
                          refine ⟨fun x hx => ?_, hK _ _ ?_⟩
                          first
                            | (with_reducible exact rfl)
                          clear hK K))
                    | (first | with_reducible refine sk0 ?_ (fun K hK => ?_) | with_reducible refine sk1 ?_ (fun K hK => ?_) | with_reducible refine sk2 ?_ (fun K hK => ?_) | with_reducible refine sk3 ?_ (fun K hK => ?_) | with_reducible refine sk4 ?_ (fun K hK => ?_)
                       rfl
                       go_simp
                       with_reducible refine hK _ _ ?_
                       clear hK K)
                  with_reducible refine sx0 ?_ (.agg #[.int .i64 15, .int .i64 0, .int .i64 0, .string ⟨#[]⟩, .string ⟨#[]⟩, .int .i64 0, .string ⟨#[]⟩, .int .i64 0, .int .i64 1, .int .i64 0, .slice none 0 0, .int .i64 0, .int .i64 0, .slice none 0 0, .slice none 0 0, .slice (some ⟨b8, 0, none⟩) 1 1]) (fun x hx => ?_) ?_
                  · rfl
                  · obtain ⟨c0, c1, c2, c3, c4, c5, c6, c7, c8, c9, c10, c11, c12, c13, c14, c15⟩ := HCA.out x (HY13.out.trans (hx.mono HY13.out.size))
                    exact exec_load16 rfl rfl c0 c1 c2 c3 c4 c5 c6 c7 c8 c9 c10 c11 c12 c13 c14 c15
                  try simp only [Act.put, List.setIfInBounds_toArray, List.set_cons_zero, List.set_cons_succ]
                  with_reducible refine sx2 ?_ (.agg #[x0, x1, x2, x3, x4, x5, x6, x7, x8, x9, x10, x11, x12, x13, x14, x15]) (fun x hx => ?_) ?_
                  · rfl
                  · obtain ⟨c0, c1, c2, c3, c4, c5, c6, c7, c8, c9, c10, c11, c12, c13, c14, c15⟩ := HCE.out x (HUP.out x (HU.out x (HY13.out.trans (hx.mono HY13.out.size))))
                    exact exec_load16 rfl rfl c0 c1 c2 c3 c4 c5 c6 c7 c8 c9 c10 c11 c12 c13 c14 c15
                  try simp only [Act.put, List.setIfInBounds_toArray, List.set_cons_zero, List.set_cons_succ]
                  first | with_reducible refine sc0 (fun K hK => ?_) | with_reducible refine sc1 (fun K hK => ?_) | with_reducible refine sc2 (fun K hK => ?_) | with_reducible refine sc3 (fun K hK => ?_) | with_reducible refine sc4 (fun K hK => ?_)
                  go_simp
                  refine (HAA.out _ HY13.out).mono ?_
                  rintro r z14 ⟨v9, rfl, row9, hb⟩
                  have HY14 := Lib.hid (HY13.out.trans (hb.mono HY13.out.size))
                  obtain ⟨aq, cq, rfl⟩ := row9.shape
                  rw [HNB.out]
                  clear row9
                  refine ⟨hb, hK _ _ ?_⟩
                  clear hK K
                  clear hb
                  repeat
                    first
                    | (first | with_reducible refine sp0 (fun K hK => ?_) | with_reducible refine sp1 (fun K hK => ?_) | with_reducible refine sp2 (fun K hK => ?_) | with_reducible refine sp3 (fun K hK => ?_) | with_reducible refine sp4 (fun K hK => ?_)
                       go_simp
                       first
                       | (with_reducible refine hK _ _ ?_; clear hK K)
                       | (with_reducible apply Exists.intro
                          refine ⟨fun x hx => ?_, hK _ _ ?_⟩
                          first
                            | (with_reducible exact rfl)
                          clear hK K))
                    | (first | with_reducible refine sk0 ?_ (fun K hK => ?_) | with_reducible refine sk1 ?_ (fun K hK => ?_) | with_reducible refine sk2 ?_ (fun K hK => ?_) | with_reducible refine sk3 ?_ (fun K hK => ?_) | with_reducible refine sk4 ?_ (fun K hK => ?_)
                       rfl
                       go_simp
                       with_reducible refine hK _ _ ?_
                       clear hK K)
                  first | with_reducible refine sc0 (fun K hK => ?_) | with_reducible refine sc1 (fun K hK => ?_) | with_reducible refine sc2 (fun K hK => ?_) | with_reducible refine sc3 (fun K hK => ?_) | with_reducible refine sc4 (fun K hK => ?_)
                  go_simp
                  refine (HAE.out _ (HU.out _ HY14.out)).mono ?_
                  rintro r z15 ⟨v9, rfl, row9, hb⟩
                  have HY15 := Lib.hid (HY14.out.trans (hb.mono HY14.out.size))
                  obtain ⟨ax, cx, rfl⟩ := row9.shape
                  rw [HNA.out]
                  clear row9
                  refine ⟨hb, hK _ _ ?_⟩
                  clear hK K
                  clear hb
                  repeat
                    first
                    | (first | with_reducible refine sp0 (fun K hK => ?_) | with_reducible refine sp1 (fun K hK => ?_) | with_reducible refine sp2 (fun K hK => ?_) | with_reducible refine sp3 (fun K hK => ?_) | with_reducible refine sp4 (fun K hK => ?_)
                       go_simp
                       first
                       | (with_reducible refine hK _ _ ?_; clear hK K)
                       | (with_reducible apply Exists.intro
                          refine ⟨fun x hx => ?_, hK _ _ ?_⟩
                          first
                            | (with_reducible exact rfl)
                          clear hK K))
                    | (first | with_reducible refine sk0 ?_ (fun K hK => ?_) | with_reducible refine sk1 ?_ (fun K hK => ?_) | with_reducible refine sk2 ?_ (fun K hK => ?_) | with_reducible refine sk3 ?_ (fun K hK => ?_) | with_reducible refine sk4 ?_ (fun K hK => ?_)
                       rfl
                       go_simp
                       with_reducible refine hK _ _ ?_
                       clear hK K)
                  have e4 : IntKind.i64.wrap ((na : Int) + 1) = na + 1 := wrap_in (by omega) (by omega)
                  have hq4 : ((na : Int) + 1 == IntKind.i64.wrap ((na : Int) + 1)) = true := by rw [e4]; exact beq_self_eq_true _
                  have hq5 : (((na + 1 : Nat) : Int) == IntKind.i64.wrap ((na : Int) + 1)) = true := by rw [e4]; exact beq_self_eq_true _
                  first | rw [hq4] | rw [hq5]
                  clear e4 hq4 hq5
                  repeat
                    first
                    | (first | with_reducible refine sp0 (fun K hK => ?_) | with_reducible refine sp1 (fun K hK => ?_) | with_reducible refine sp2 (fun K hK => ?_) | with_reducible refine sp3 (fun K hK => ?_) | with_reducible refine sp4 (fun K hK => ?_)
                       go_simp
                       first
                       | (with_reducible refine hK _ _ ?_; clear hK K)
                       | (with_reducible apply Exists.intro
                          refine ⟨fun x hx => ?_, hK _ _ ?_⟩
                          first
                            | (with_reducible exact rfl)
                          clear hK K))
                    | (first | with_reducible refine sk0 ?_ (fun K hK => ?_) | with_reducible refine sk1 ?_ (fun K hK => ?_) | with_reducible refine sk2 ?_ (fun K hK => ?_) | with_reducible refine sk3 ?_ (fun K hK => ?_) | with_reducible refine sk4 ?_ (fun K hK => ?_)
                       rfl
                       go_simp
                       with_reducible refine hK _ _ ?_
                       clear hK K)
                  first | with_reducible refine sc0 (fun K hK => ?_) | with_reducible refine sc1 (fun K hK => ?_) | with_reducible refine sc2 (fun K hK => ?_) | with_reducible refine sc3 (fun K hK => ?_) | with_reducible refine sc4 (fun K hK => ?_)
                  go_simp
                  refine (HWK.out _).mono ?_
                  rintro r z16 ⟨rfl, hb⟩
                  have HY16 := Lib.hid (HY15.out.trans (hb.mono HY15.out.size))
                  refine ⟨hb, hK _ _ ?_⟩
                  clear hK K
                  clear hb
                  repeat
                    first
                    | (first | with_reducible refine sp0 (fun K hK => ?_) | with_reducible refine sp1 (fun K hK => ?_) | with_reducible refine sp2 (fun K hK => ?_) | with_reducible refine sp3 (fun K hK => ?_) | with_reducible refine sp4 (fun K hK => ?_)
                       go_simp
                       first
                       | (with_reducible refine hK _ _ ?_; clear hK K)
                       | (with_reducible apply Exists.intro
                          refine ⟨fun x hx => ?_, hK _ _ ?_⟩
                          first
                            | (with_reducible exact rfl)
                          clear hK K))
                    | (first | with_reducible refine sk0 ?_ (fun K hK => ?_) | with_reducible refine sk1 ?_ (fun K hK => ?_) | with_reducible refine sk2 ?_ (fun K hK => ?_) | with_reducible refine sk3 ?_ (fun K hK => ?_) | with_reducible refine sk4 ?_ (fun K hK => ?_)
                       rfl
                       go_simp
                       with_reducible refine hK _ _ ?_
                       clear hK K)
                  with_reducible refine seq_nil ?_
                  go_wp2_with fail
                  go_ret
                  exact ⟨rfl, HBW.out _ (HUP.out _ (HU.out _ HY16.out))⟩
end Go.Proofs.YtmmhpibkjdlkgaaGreat
