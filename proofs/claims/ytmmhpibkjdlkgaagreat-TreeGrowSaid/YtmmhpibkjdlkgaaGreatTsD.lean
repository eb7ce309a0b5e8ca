/- tree.same over two expressions: all nodes of two trees, by what is known of 'alike'. -/
import Derived.Test.YtmmhpibkjdlkgaaGreatTsP
import Derived.Test.YtmmhpibkjdlkgaaGreatTeG
import Derived.Test.YtmmhpibkjdlkgaaGreatTnR
namespace Go.Proofs.YtmmhpibkjdlkgaaGreat
open Go Go.RowKit Go.Shelf
open Tr (P)
open Ex (E)

attribute [local go_sem] Oper.semAt_some

theorem El2At.mono {n m : Nat} {w W : World} {x : V2 (E × E)} (h : El2At (LT n) w x) (hb : Below n w W) (hm : n ≤ m) : El2At (LT m) W x := by
  obtain ⟨b, o, b', o', hp, hq, ⟨hG, hG'⟩, h1, h2⟩ := h
  exact ⟨b, o, b', o', hp, hq, ⟨Nat.lt_of_lt_of_le hG hm, Nat.lt_of_lt_of_le hG' hm⟩, ENode.mono (fun b o hb' => hb.cell (p := ⟨b, o, none⟩) hb') (fun _ h => Nat.lt_of_lt_of_le h hm) _ _ _ hG h1, ENode.mono (fun b o hb' => hb.cell (p := ⟨b, o, none⟩) hb') (fun _ h => Nat.lt_of_lt_of_le h hm) _ _ _ hG' h2⟩
theorem mem2E {p q : E} {pre : List (V2 (E × E))} {x : V2 (E × E)} (hok : no2Ok Ex2.shape (p, q) pre x) : x.key ∈ Ex2.pre p q 1 := by
  obtain ⟨⟨rest, hr⟩, _⟩ := hok
  have := Ex2.nKeys_shape (p, q)
  rw [← show nKeys Ex2.shape (p, q) = Ex2.pre p q 1 from this, ← show n2Keys Ex2.shape (p, q) = nKeys Ex2.shape (p, q) from rfl, ← hr]; simp
theorem not2E {p q : E} {pre : List (V2 (E × E))} {x : V2 (E × E)} (hok : no2Ok Ex2.shape (p, q) pre x) (h : Ex.alike x.t.1 x.t.2 = false) : Ex.same p q = false := by
  have hm := mem2E hok
  rw [← Ex.pre_same p q 1, Bool.eq_false_iff]
  intro ht
  rw [List.all_eq_true] at ht
  have := ht _ hm
  rw [show Ex.alike x.key.1.1 x.key.1.2 = false from h] at this; cases this
set_option maxRecDepth 100000 in
set_option maxHeartbeats 4000000 in
theorem sameE_any (n b o b' o' : Nat) (p q : E) (w : World) (hn : n ≤ w.heap.size) (hpl : El2At (LT n) w ⟨(p, q), some ⟨b, o, none⟩, some ⟨b', o', none⟩, 0, 1⟩) (hsz : Ex.size p ≤ 500000)
    (hal : ∀ (W : World) (x : V2 (E × E)), El2At (LT W.heap.size) W x → x.key ∈ Ex2.pre p q 1 → Calls Tryz.prog 61 #[.pointer x.p, .pointer x.q] W fun e W' => e = .returned (.bool (Ex.alike x.t.1 x.t.2)) ∧ Below W.heap.size W W') :
    Calls Tryz.prog 60 #[.pointer (some ⟨b, o, none⟩), .pointer (some ⟨b', o', none⟩), .func (.func 51) #[] #[], .func (.func 61) #[] #[]] w fun e w' => e = .returned (.bool (Ex.same p q)) ∧ Below w.heap.size w w' := by
  refine callsIn_wide (n := 9) |>.1 ?_
  have HPL := Lib.hid hpl; have HAL := Lib.hid hal
  have HOB := Lib.hid (fun w => ofBothE_new (.func (.func 51) #[] #[]) ⟨_, rfl⟩ w)
  have HND := Lib.hid (fun p q c w => nodes2E_any p q (.func (.func 124) #[] c) ⟨_, _, rfl⟩ w)
  clear hpl hal
  refine callsIn_of_wp_marks Tryz.func60 rfl trivial ?_ rfl
  simp only [Tryz.ntmps60, List.size_toArray, List.length_cons, List.length_nil, Nat.reduceAdd, Nat.reduceSub, Array.replicate_succ, Array.replicate_zero, List.push_toArray, List.append_toArray, List.nil_append, List.cons_append]
  gi_wp2_with (first | (refine ⟨trivial, ?_⟩; gi_at_call 96; refine (callsIn_wide.2 (HOB.out _)).mono ?_; rintro e w' ⟨rfl, rfl⟩) | (refine ⟨trivial, ?_⟩; gi_at_call 95; refine (callsIn_wide.2 (HND.out _ _ _ _)).mono ?_; rintro e w' ⟨rfl, rfl⟩))
  obtain ⟨W5, hW5⟩ : ∃ W5, [Obj.cells #[.func (.func 61) #[] #[]] 79, .cells #[.bool false] 4, .cells #[.func (.func 51) #[] #[]] 114, .cells #[.pointer (some ⟨b, o, none⟩), .pointer (some ⟨b', o', none⟩)] 124, .cells #[.func (.func 124) #[] #[.pointer (some ⟨w.heap.size + 1 + 1, 0, none⟩)]] 126].foldl World.alloc w = W5 := ⟨_, rfl⟩
  try rw [show ((((w.alloc (.cells #[.func (.func 61) #[] #[]] 79)).alloc (.cells #[.bool false] 4)).alloc (.cells #[.func (.func 51) #[] #[]] 114)).alloc (.cells #[.pointer (some ⟨b, o, none⟩), .pointer (some ⟨b', o', none⟩)] 124)).alloc (.cells #[.func (.func 124) #[] #[.pointer (some ⟨w.heap.size + 1 + 1, 0, none⟩)]] 126) = W5 from hW5]
  have hs5 : W5.heap.size = w.heap.size + 5 := by rw [← hW5]; exact allocs_size _ _
  have hb5 : Below w.heap.size w W5 := by rw [← hW5]; exact allocs_below _ _ (Nat.le_refl _)
  have hx0 : W5.heap[w.heap.size]? = some (.cells #[.func (.func 61) #[] #[]] 79) := by rw [← hW5]; exact allocs_get _ w 0 _ rfl
  have hx1 : W5.heap[w.heap.size + 1]? = some (.cells #[.bool false] 4) := by rw [← hW5]; exact allocs_get _ w 1 _ rfl
  have hx2 : W5.heap[w.heap.size + 1 + 1]? = some (.cells #[.func (.func 51) #[] #[]] 114) := by rw [← hW5]; exact allocs_get _ w 2 _ rfl
  have hx3 : W5.heap[w.heap.size + 1 + 1 + 1]? = some (.cells #[.pointer (some ⟨b, o, none⟩), .pointer (some ⟨b', o', none⟩)] 124) := by rw [← hW5]; exact allocs_get _ w 3 _ rfl
  have hx4 : W5.heap[w.heap.size + 1 + 1 + 1 + 1]? = some (.cells #[.func (.func 124) #[] #[.pointer (some ⟨w.heap.size + 1 + 1, 0, none⟩)]] 126) := by rw [← hW5]; exact allocs_get _ w 4 _ rfl
  clear hW5
  refine wpIn_range_expr2 (Bt := w.heap.size + 1 + 1 + 1) (Bk := w.heap.size + 1 + 1 + 1 + 1) (Bo := w.heap.size + 1 + 1) (n := w.heap.size + 1) (b := b) (o := o) (b' := b') (o' := o') (p := p) (q := q) rfl (by omega)
    (HPL.out.mono (hb5.mono hn) (by omega)) hsz (cell_box hx3 rfl rfl) (cell_box hx3 rfl rfl) (cell_box hx4 rfl rfl) hx2 rfl
    (fun M pre V => (V.heap[w.heap.size + 1]? = some (.cells #[.bool false] 4) ∧ ¬ M (w.heap.size + 1)) ∧ Below w.heap.size w V ∧ ((pre.map V2.key).all fun k => Ex.alike k.1.1 k.1.2) = true)
    (fun c M _ V => (V.heap[w.heap.size + 1]? = some (.cells #[.bool false] 4) ∧ ¬ M (w.heap.size + 1)) ∧ Below w.heap.size w V ∧ (c = .ret ∧ Ex.same p q = false))
    (fun x a' M V => ∃ A, a' = { tmps := #[.pointer (some ⟨b, o, none⟩), .pointer (some ⟨b', o', none⟩), .func (.func 51) #[] #[], .func (.func 61) #[] #[], undef, undef, undef, .pointer (some ⟨w.heap.size, 0, none⟩), .pointer (some ⟨w.heap.size + 1, 0, none⟩), .pointer (some ⟨A, 0, none⟩), .pointer (some ⟨b, o, none⟩), .pointer (some ⟨b', o', none⟩), .agg #[.pointer (some ⟨b, o, none⟩), .pointer (some ⟨b', o', none⟩)], .func (.func 51) #[] #[], .func (.func 124) #[] #[.pointer (some ⟨w.heap.size + 1 + 1, 0, none⟩)], .func (.func 122) #[] #[.pointer (some ⟨w.heap.size + 1 + 1 + 1, 0, none⟩), .pointer (some ⟨w.heap.size + 1 + 1 + 1 + 1, 0, none⟩)], .agg #[.pointer x.p, .pointer x.q], .int .i64 (x.d : Int), undef, undef, undef, undef, undef, undef, undef], defers := [] } ∧ V.heap[A]? = some (.cells #[.pointer x.p, .pointer x.q] 124) ∧ ¬ M A)
    (fun s => Ab.and (Ab.block _ _ _) (Ab.and (Ab.below hb5.size w (Nat.le_refl _)) (Ab.pure _ _))) (fun _ _ => Ab.and (Ab.block _ _ _) (Ab.and (Ab.below hb5.size w (Nat.le_refl _)) (Ab.pure _ _))) (fun _ _ => Ab.ex fun _ => Ab.and (Ab.pure _ _) (Ab.block _ _ _)) ⟨⟨hx1, fun h => h⟩, hb5, rfl⟩ ?assign ?body ?done ?stop
  case assign =>
    intro l M pre x V K hi hM hok hpl hK
    clear hx0 hx1 hx2 hx3 hx4 hi hpl
    simp [V2.enc2]
    gi_wp2
    exact hK _ _ (Turns.alloc _ _ _) ⟨V.heap.size, rfl, World.alloc_heap_new V _, fun h => by have := (hM _ h).2; omega⟩
  case body =>
    rintro l M pre x a' V ⟨⟨hr, hrM⟩, hbl, hall⟩ hbn hM hle hok hx2 ⟨A, rfl, hA, hAM⟩
    have hVs : w.heap.size + 5 ≤ V.heap.size := by rw [← hs5]; exact hle
    have hcall := HAL.out V x (hx2.mono hbn (by omega)) (mem2E hok)
    have hno := not2E hok
    have hf := (hbn.block _ (by omega)).trans hx0
    have c0 : V.cell? ⟨w.heap.size, 0, none⟩ = some (.func (.func 61) #[] #[]) := cell_box hf rfl rfl
    have d0 : V.cell? ⟨A, 0, none⟩ = some (.pointer x.p) := cell_box hA rfl rfl
    have d1 : V.cell? ⟨A, 1, none⟩ = some (.pointer x.q) := cell_box hA rfl rfl
    have hsn : (pre ++ [x]).map V2.key = pre.map V2.key ++ [x.key] := by simp
    obtain ⟨bq, hbq⟩ : ∃ b, Ex.alike x.t.1 x.t.2 = b := ⟨_, rfl⟩
    rw [hbq] at hcall hno
    have HR := Lib.hid hr; have HBL := Lib.hid hbl; have HALL := Lib.hid hall; have HRM := Lib.hid hrM; have HVS := Lib.hid hVs; have HCL := Lib.hid hcall; have HNO := Lib.hid hno; have HSN := Lib.hid hsn; have HBQ := Lib.hid hbq
    clear hx0 hx1 hx2 hx3 hx4 hr hbl hall hrM hVs hcall hno hsn hbq hM hle hok hbn hb5 hs5 hf hA hAM
    cases bq with
    | false =>
      have HW := Lib.hid (HNO.out rfl)
      gi_wp2_with (refine ⟨trivial, ?_⟩; gi_at_call 61; refine (CallsIn.inRound l (callsIn_wide.2 HCL.out)).mono ?_; rintro e w1 ⟨rfl, hb1⟩; have hr1 := (hb1.block _ (by have := HVS.out; omega)).trans HR.out; have f1 : w1.frozen? ⟨w.heap.size + 1, 0, none⟩ = false := Boxed.frozen hr1; have c1 : w1.cell? ⟨w.heap.size + 1, 0, none⟩ = some (.bool false) := cell_box hr1 rfl rfl; have HR1 := Lib.hid hr1; have HB1 := Lib.hid hb1; clear hr1 hb1)
      have hT : Turns (fun k => (w.heap.size + 1 ≤ k ∧ k ≠ w.heap.size + 1 + 1) ∧ ¬ M k) V w1 := turns_below HB1.out
      exact ⟨hT.trans (Turns.setCell _ _ _ ⟨⟨Nat.le_refl _, by simp⟩, HRM.out⟩), ⟨Boxed.set _ HR1.out, HRM.out⟩, (HBL.out.trans (HB1.out.mono HBL.out.size)).setCell (by simp) _, rfl, HW.out⟩
    | true =>
      gi_wp2_with (refine ⟨trivial, ?_⟩; gi_at_call 61; refine (CallsIn.inRound l (callsIn_wide.2 HCL.out)).mono ?_; rintro e w1 ⟨rfl, hb1⟩; have HB1 := Lib.hid hb1; clear hb1)
      refine ⟨turns_below HB1.out, ⟨(HB1.out.block _ (by have := HVS.out; omega)).trans HR.out, HRM.out⟩, HBL.out.trans (HB1.out.mono HBL.out.size), ?_⟩
      rw [HSN.out, List.all_append, HALL.out]
      simp [HBQ.out, V2.key]
  case done =>
    rintro D M xs V hD hMD hM hS ⟨⟨hr, hrM⟩, hbl, hall⟩ hK
    have cr : V.cell? ⟨w.heap.size + 1, 0, none⟩ = some (.bool false) := cell_box hr rfl rfl
    have fr : V.frozen? ⟨w.heap.size + 1, 0, none⟩ = false := Boxed.frozen hr
    have hne : w.heap.size + 1 ≠ D := by omega
    have hK' : (V.setCell ⟨w.heap.size + 1, 0, none⟩ (.bool true)).heap[D]? = some (.deferred (some [])) := (Below.heap_setCell _ _ _ D (fun e => hne e.symm)).trans hK
    have hr' : ((V.setCell ⟨w.heap.size + 1, 0, none⟩ (.bool true)).putObj D (.deferred none)).heap[w.heap.size + 1]? = some (.cells #[.bool true] 4) := (World.putObj_heap_other hne).trans (Boxed.set _ hr)
    have hwo : Ex.same p q = true := by
      have e1 := Ex2.nKeys_shape (p, q)
      have e2 : xs.map V2.key = Ex2.pre p q 1 := (show xs.map V2.key = nKeys Ex2.shape (p, q) from hS).trans e1
      rw [← Ex.pre_same p q 1, ← e2]; exact hall
    have HR' := Lib.hid hr'; have HBL := Lib.hid hbl; have HWO := Lib.hid hwo
    clear hx0 hx1 hx2 hx3 hx4 hr hr' hbl hwo hall hS
    gi_wp2
    refine ⟨by simp, .inl ⟨_, _, rfl, run_takeDeferred hK', ?_⟩⟩
    have hc5 := cell_box HR'.out rfl (i := 0) rfl
    refine ⟨.bool true, ?_, by rw [HWO.out], ?_⟩
    · simp [results, Tryz.f60, go_sem, hc5]
    · exact ((Turns.setCell (M := fun k => w.heap.size ≤ k) V ⟨w.heap.size + 1, 0, none⟩ _ (by simp)).trans (Turns.putObj _ D _ (by omega))).below HBL.out (fun _ h => h) HBL.out.size
  case stop =>
    rintro D M c pre V hD hMD hM ⟨⟨hr, hrM⟩, hbl, rfl, hbad⟩ hK
    have hne : w.heap.size + 1 ≠ D := by omega
    have hr' : (V.putObj D (.deferred none)).heap[w.heap.size + 1]? = some (.cells #[.bool false] 4) := (World.putObj_heap_other hne).trans hr
    have HR' := Lib.hid hr'; have HBL := Lib.hid hbl; have HWO := Lib.hid hbad
    clear hx0 hx1 hx2 hx3 hx4 hr hr' hbl hbad
    gi_wp2
    refine ⟨by simp, .inl ⟨_, _, rfl, run_takeDeferred hK, ?_⟩⟩
    have hc5 := cell_box HR'.out rfl (i := 0) rfl
    refine ⟨.bool false, ?_, by rw [HWO.out], ?_⟩
    · simp [results, Tryz.f60, go_sem, hc5]
    · exact (Turns.putObj (M := fun k => w.heap.size ≤ k) _ D _ (by omega)).below HBL.out (fun _ h => h) HBL.out.size
end Go.Proofs.YtmmhpibkjdlkgaaGreat
