/- tree.Value, walked. -/
import Derived.Test.YtmmhpibkjdlkgaaGreatTcK
import Derived.Test.YtmmhpibkjdlkgaaGreatTxF
namespace Go.Proofs.YtmmhpibkjdlkgaaGreat
open Go Go.RowKit Go.Shelf
open Ex (E)

attribute [local go_sem] Oper.semAt_some

namespace Ex
def formOk (k : Int) : Bool := decide (k = 1 ∨ k = 2 ∨ k = 3 ∨ k = 4 ∨ k = 5 ∨ k = 7 ∨ k = 9 ∨ k = 6 ∨ k = 8)
mutual
def value : E → Bool | .mk k _ _ _ _ _ _ _ _ _ _ l => formOk k && (if k = 6 ∨ k = 8 then values l else true)
def values : List E → Bool | [] => true | x :: r => value x && values r
end
mutual
theorem pre_value : ∀ (p : E) (d : Nat), ((fpre p d).all fun k => formOk k.1.kind) = value p
  | .mk k f t nm ar n s op A B ps l, d => by
    have h := pres_value l (d + 1)
    rw [fpre, List.all_cons, value]
    by_cases hk : k = 6 ∨ k = 8
    · rw [if_pos hk, if_pos hk, h]; rfl
    · rw [if_neg hk, if_neg hk]; rfl
theorem pres_value : ∀ (l : List E) (d : Nat), ((fpres l d).all fun k => formOk k.1.kind) = values l
  | [], d => by simp [fpres, values]
  | x :: r, d => by rw [fpres, List.all_append, pre_value x d, pres_value r d, values]
end
end Ex
theorem value_not {e : E} {pre : List (Vi E)} {x : Vi E} (hok : noOk Ex.fshape e pre x) (h : Ex.formOk x.t.kind = false) : Ex.value e = false := by
  obtain ⟨⟨rest, hr⟩, _⟩ := hok
  rw [Ex.nKeys_fshape] at hr
  rw [← Ex.pre_value e 1, ← hr, List.all_append, List.all_cons]
  simp [Vi.key, h]
set_option maxRecDepth 100000 in
set_option maxHeartbeats 4000000 in
theorem value_any (e : E) (s : Leads) (w : World) (hf : Ex.FineAll e) (h : ExAt (LT w.heap.size) w e s) :
    Calls Tryz.prog 25 #[ev e s] w fun r w' => r = .returned (.bool (Ex.right e && Ex.value e)) ∧ Below w.heap.size w w' := by
  have HCK := Lib.hid (fun w1 h => check_anyE e s w1 hf h)
  refine callsIn_wide (n := 9) |>.1 ?_
  have HE := Lib.hid h; clear h
  have H30 := Lib.hid (fun b w => nodesE_any (.pointer (some ⟨b, 0, none⟩)) (.func (.func 66) #[] #[]) ⟨_, rfl⟩ ⟨_, rfl⟩ w)
  obtain ⟨x0, x1, x2, x3, x4, x5, x6, x7, x8, x9, x10, x11, x12, x13, x14, x15, hc⟩ : ∃ x0 x1 x2 x3 x4 x5 x6 x7 x8 x9 x10 x11 x12 x13 x14 x15, evCells e s = [x0, x1, x2, x3, x4, x5, x6, x7, x8, x9, x10, x11, x12, x13, x14, x15] := ⟨_, _, _, _, _, _, _, _, _, _, _, _, _, _, _, _, rfl⟩
  have hbox : ∀ w, (Instr.box 30 (.agg #[x0, x1, x2, x3, x4, x5, x6, x7, x8, x9, x10, x11, x12, x13, x14, x15])).run Tryz.prog w = .ok (.pointer (some ⟨w.heap.size, 0, none⟩)) (w.alloc (.cells #[x0, x1, x2, x3, x4, x5, x6, x7, x8, x9, x10, x11, x12, x13, x14, x15] 30)) := by
    intro w; rfl
  unfold ev at HCK ⊢
  rw [hc] at HCK ⊢
  have HC := Lib.hid hc
  clear hc
  refine callsIn_of_wp_marks Tryz.func25 rfl trivial ?_ rfl
  simp only [Tryz.ntmps25, List.size_toArray, List.length_cons, List.length_nil, Nat.reduceAdd, Nat.reduceSub, Array.replicate_succ, Array.replicate_zero, List.push_toArray, List.append_toArray, List.nil_append, List.cons_append]
  obtain ⟨W2, hW2⟩ : ∃ W2, [Obj.cells #[x0, x1, x2, x3, x4, x5, x6, x7, x8, x9, x10, x11, x12, x13, x14, x15] 30, .cells #[.bool false] 4].foldl World.alloc w = W2 := ⟨_, rfl⟩
  have hb2 : Below w.heap.size w W2 := by rw [← hW2]; exact allocs_below _ _ (Nat.le_refl _)
  have hx0 : W2.heap[w.heap.size]? = some (.cells #[x0, x1, x2, x3, x4, x5, x6, x7, x8, x9, x10, x11, x12, x13, x14, x15] 30) := by rw [← hW2]; exact allocs_get _ w 0 _ rfl
  have hx1 : W2.heap[w.heap.size + 1]? = some (.cells #[.bool false] 4) := by rw [← hW2]; exact allocs_get _ w 1 _ rfl
  have hs2 : W2.heap.size = w.heap.size + 2 := by rw [← hW2]; exact allocs_size _ _
  have HB2 := Lib.hid hb2; have HX0 := Lib.hid hx0; have HX1 := Lib.hid hx1; have HS2 := Lib.hid hs2; have HW2 := Lib.hid (show (w.alloc (.cells #[x0, x1, x2, x3, x4, x5, x6, x7, x8, x9, x10, x11, x12, x13, x14, x15] 30)).alloc (.cells #[.bool false] 4) = W2 from hW2)
  have c0 : W2.cell? ⟨w.heap.size, 0, none⟩ = some x0 := cell_box (i := 0) hx0 rfl rfl
  have c1 : W2.cell? ⟨w.heap.size, 1, none⟩ = some x1 := cell_box (i := 1) hx0 rfl rfl
  have c2 : W2.cell? ⟨w.heap.size, 2, none⟩ = some x2 := cell_box (i := 2) hx0 rfl rfl
  have c3 : W2.cell? ⟨w.heap.size, 3, none⟩ = some x3 := cell_box (i := 3) hx0 rfl rfl
  have c4 : W2.cell? ⟨w.heap.size, 4, none⟩ = some x4 := cell_box (i := 4) hx0 rfl rfl
  have c5 : W2.cell? ⟨w.heap.size, 5, none⟩ = some x5 := cell_box (i := 5) hx0 rfl rfl
  have c6 : W2.cell? ⟨w.heap.size, 6, none⟩ = some x6 := cell_box (i := 6) hx0 rfl rfl
  have c7 : W2.cell? ⟨w.heap.size, 7, none⟩ = some x7 := cell_box (i := 7) hx0 rfl rfl
  have c8 : W2.cell? ⟨w.heap.size, 8, none⟩ = some x8 := cell_box (i := 8) hx0 rfl rfl
  have c9 : W2.cell? ⟨w.heap.size, 9, none⟩ = some x9 := cell_box (i := 9) hx0 rfl rfl
  have c10 : W2.cell? ⟨w.heap.size, 10, none⟩ = some x10 := cell_box (i := 10) hx0 rfl rfl
  have c11 : W2.cell? ⟨w.heap.size, 11, none⟩ = some x11 := cell_box (i := 11) hx0 rfl rfl
  have c12 : W2.cell? ⟨w.heap.size, 12, none⟩ = some x12 := cell_box (i := 12) hx0 rfl rfl
  have c13 : W2.cell? ⟨w.heap.size, 13, none⟩ = some x13 := cell_box (i := 13) hx0 rfl rfl
  have c14 : W2.cell? ⟨w.heap.size, 14, none⟩ = some x14 := cell_box (i := 14) hx0 rfl rfl
  have c15 : W2.cell? ⟨w.heap.size, 15, none⟩ = some x15 := cell_box (i := 15) hx0 rfl rfl
  clear hb2 hx0 hx1 hs2 hW2
  cases hr : Ex.right e with
  | false =>
    rw [hr] at HCK
    gi_upto_region 1 with fail
    rw [HW2.out]
    gi_wp2_with (refine ⟨trivial, ?_⟩; gi_at_call 16; refine (callsIn_wide.2 (HCK.out _ ?_)).mono ?_; (· exact HE.out.mono (fun b o h => HB2.out.cell (p := ⟨b, o, none⟩) h) (fun b h => Nat.lt_of_lt_of_le h HB2.out.size)); rintro e w1 ⟨rfl, hb1⟩; have hr1 := (hb1.block _ (by have := HS2.out; omega)).trans HX1.out; have fr1 : w1.frozen? ⟨w.heap.size + 1, 0, none⟩ = false := Boxed.frozen hr1; have cr1 : w1.cell? ⟨w.heap.size + 1, 0, none⟩ = some (.bool false) := cell_box hr1 rfl rfl; have HR1 := Lib.hid hr1; have HB1 := Lib.hid hb1; clear hr1 hb1)
    refine ⟨.bool false, ?_, rfl, ?_⟩
    · have hc5 := cell_box (Boxed.set (.bool false) HR1.out) rfl (i := 0) rfl
      simp [results, Tryz.f25, go_sem, hc5]
    · exact (HB2.out.trans (HB1.out.mono (by have := HS2.out; omega))).setCell (by simp) _
  | true =>
    rw [hr] at HCK
    gi_upto_region 1 with fail
    rw [HW2.out]
    gi_wp2_with (first | (refine ⟨trivial, ?_⟩; gi_at_call 16; refine (callsIn_wide.2 (HCK.out _ ?_)).mono ?_; (· exact HE.out.mono (fun b o h => HB2.out.cell (p := ⟨b, o, none⟩) h) (fun b h => Nat.lt_of_lt_of_le h HB2.out.size)); rintro e w1 ⟨rfl, hb1⟩; have hr1 := (hb1.block _ (by have := HS2.out; omega)).trans HX1.out; have fr1 : w1.frozen? ⟨w.heap.size + 1, 0, none⟩ = false := Boxed.frozen hr1; have cr1 : w1.cell? ⟨w.heap.size + 1, 0, none⟩ = some (.bool false) := cell_box hr1 rfl rfl; have HR1 := Lib.hid hr1; have HB1 := Lib.hid hb1; clear hr1 hb1) | (refine ⟨trivial, ?_⟩; gi_at_call 50; refine (callsIn_wide.2 (H30.out _ _)).mono ?_; rintro e w' ⟨rfl, rfl⟩))
    obtain ⟨W4, hW4⟩ : ∃ W4, [Obj.cells #[.pointer (some ⟨w.heap.size, 0, none⟩)] 68, .cells #[.func (.func 66) #[] #[]] 114].foldl World.alloc w1 = W4 := ⟨_, rfl⟩
    try rw [show (w1.alloc (.cells #[.pointer (some ⟨w.heap.size, 0, none⟩)] 68)).alloc (.cells #[.func (.func 66) #[] #[]] 114) = W4 from hW4]
    have hs4 : W4.heap.size = w1.heap.size + 2 := by rw [← hW4]; exact allocs_size _ _
    have hb14 : Below w1.heap.size w1 W4 := by rw [← hW4]; exact allocs_below _ _ (Nat.le_refl _)
    have hp1 : w.heap.size + 2 ≤ w1.heap.size := by have := HB1.out.size; have := HS2.out; omega
    have hb1w : Below w.heap.size w w1 := HB2.out.trans (HB1.out.mono (by have := HS2.out; omega))
    have hb4 : Below w.heap.size w W4 := hb1w.trans (hb14.mono (by omega))
    have hx : W4.heap[w.heap.size]? = some (.cells #[x0, x1, x2, x3, x4, x5, x6, x7, x8, x9, x10, x11, x12, x13, x14, x15] 30) := (hb14.block _ (by omega)).trans ((HB1.out.block _ (by have := HS2.out; omega)).trans HX0.out)
    have hx1 : W4.heap[w.heap.size + 1]? = some (.cells #[.bool false] 4) := (hb14.block _ (by omega)).trans HR1.out
    have hx2 : W4.heap[w1.heap.size]? = some (.cells #[.pointer (some ⟨w.heap.size, 0, none⟩)] 68) := by rw [← hW4]; exact allocs_get _ w1 0 _ rfl
    have hx3 : W4.heap[w1.heap.size + 1]? = some (.cells #[.func (.func 66) #[] #[]] 114) := by rw [← hW4]; exact allocs_get _ w1 1 _ rfl
    clear hW4
    refine wpIn_range_form (Bt := w1.heap.size) (Bk := w1.heap.size + 1) (n := w.heap.size + 1) (b := w.heap.size) (o := 0) (p := e) rfl (by omega)
      ⟨w.heap.size, 0, rfl, Nat.lt_succ_self _, HE.out.boxed hb4 (by rw [HC.out]; exact hx) _ (Nat.le_succ _) (Nat.lt_succ_self _)⟩ (by have := hf.1; omega) (cell_box hx2 rfl rfl) (cell_box hx3 rfl rfl) rfl
      (fun M pre V => (V.heap[w.heap.size + 1]? = some (.cells #[.bool false] 4) ∧ ¬ M (w.heap.size + 1)) ∧ Below w.heap.size w V ∧ ((pre.map Vi.key).all fun k => Ex.formOk k.1.kind) = true)
      (fun c M _ V => (V.heap[w.heap.size + 1]? = some (.cells #[.bool false] 4) ∧ ¬ M (w.heap.size + 1)) ∧ Below w.heap.size w V ∧ (c = .ret ∧ Ex.value e = false))
      (fun x a' _ _ => a' = { tmps := #[.agg #[x0, x1, x2, x3, x4, x5, x6, x7, x8, x9, x10, x11, x12, x13, x14, x15], .pointer (some ⟨w.heap.size, 0, none⟩), .pointer (some ⟨w.heap.size + 1, 0, none⟩), .pointer x.p, .agg #[x0, x1, x2, x3, x4, x5, x6, x7, x8, x9, x10, x11, x12, x13, x14, x15], .int .i64 (errOf true), .bool false, .func (.func 86) #[] #[.pointer (some ⟨w1.heap.size, 0, none⟩), .pointer (some ⟨w1.heap.size + 1, 0, none⟩)], .pointer x.p, .int .i64 (x.d : Int), undef, undef, undef, undef, undef, undef, undef, undef, undef, undef, undef, undef, undef, undef, undef], defers := [] })
      (fun s => Ab.and (Ab.block _ _ _) (Ab.and (Ab.below hb4.size w (Nat.le_refl _)) (Ab.pure _ _))) (fun _ _ => Ab.and (Ab.block _ _ _) (Ab.and (Ab.below hb4.size w (Nat.le_refl _)) (Ab.pure _ _))) (fun _ _ => Ab.pure _ _) ⟨⟨hx1, fun h => h⟩, hb4, rfl⟩ ?assign ?body ?done ?stop
    case assign =>
      intro l M pre x V K hi hM hok hpl hK
      clear hx hx1 hx2 hx3 hi hpl c0 c1 c2 c3 c4 c5 c6 c7 c8 c9 c10 c11 c12 c13 c14 c15 cr1 fr1
      gi_wp2
      exact hK _ _ (Turns.refl _ _) (by simp [Vi.enc2])
    case body =>
      rintro l M pre x a' V ⟨⟨hrr, hrM⟩, hbl, hall⟩ hM hle hok ⟨b, o, hxp, hG, hn⟩ rfl
      have e0 := hn.kidsAt.1.c0
      have hrt : V.cell? ⟨w.heap.size + 1, 0, none⟩ = some (.bool false) := cell_box hrr rfl rfl
      have frt : V.frozen? ⟨w.heap.size + 1, 0, none⟩ = false := Boxed.frozen hrr
      have hno := value_not hok
      have hsn := ekeys_snoc pre x
      obtain ⟨k, hkk⟩ : ∃ k, x.t.kind = k := ⟨_, rfl⟩
      rw [hkk] at e0 hno
      rw [hxp]
      have HR := Lib.hid hrr; have HBL := Lib.hid hbl; have HALL := Lib.hid hall; have HRM := Lib.hid hrM; have HNO := Lib.hid hno; have HSN := Lib.hid hsn; have HKK := Lib.hid hkk
      clear hx hx1 hx2 hx3 hrr hbl hall hrM hno hsn hkk hM hle hok hG hn hxp hb4 hs4 hb14 hp1 hb1w cr1 fr1 c0 c1 c2 c3 c4 c5 c6 c7 c8 c9 c10 c11 c12 c13 c14 c15
      by_cases hk : k = 1 ∨ k = 2 ∨ k = 3 ∨ k = 4 ∨ k = 5 ∨ k = 7 ∨ k = 9 ∨ k = 6 ∨ k = 8
      · rcases hk with rfl | rfl | rfl | rfl | rfl | rfl | rfl | rfl | rfl
        all_goals
          gi_wp2
          exact ⟨Turns.refl _ _, ⟨HR.out, HRM.out⟩, HBL.out, by rw [HSN.out, List.all_append, HALL.out]; simp [HKK.out, Ex.formOk]⟩
      · have hf0 : Ex.formOk k = false := decide_eq_false hk
        have HW := Lib.hid (HNO.out hf0)
        have g1 : (k == 1) = false := by simp; omega
        have g2 : (k == 2) = false := by simp; omega
        have g3 : (k == 3) = false := by simp; omega
        have g4 : (k == 4) = false := by simp; omega
        have g5 : (k == 5) = false := by simp; omega
        have g6 : (k == 6) = false := by simp; omega
        have g7 : (k == 7) = false := by simp; omega
        have g8 : (k == 8) = false := by simp; omega
        have g9 : (k == 9) = false := by simp; omega
        clear hk hf0
        gi_wp2
        exact ⟨Turns.setCell _ _ _ ⟨Nat.le_refl _, HRM.out⟩, ⟨Boxed.set _ HR.out, HRM.out⟩, HBL.out.setCell (by simp) _, rfl, HW.out⟩
    case done =>
      rintro D M xs V hD hMD hM hS ⟨⟨hrr, hrM⟩, hbl, hall⟩ hK
      have cr : V.cell? ⟨w.heap.size + 1, 0, none⟩ = some (.bool false) := cell_box hrr rfl rfl
      have fr : V.frozen? ⟨w.heap.size + 1, 0, none⟩ = false := Boxed.frozen hrr
      have hne : w.heap.size + 1 ≠ D := by omega
      have hK' : (V.setCell ⟨w.heap.size + 1, 0, none⟩ (.bool true)).heap[D]? = some (.deferred (some [])) := (Below.heap_setCell _ _ _ D (fun e => hne e.symm)).trans hK
      have hr' : ((V.setCell ⟨w.heap.size + 1, 0, none⟩ (.bool true)).putObj D (.deferred none)).heap[w.heap.size + 1]? = some (.cells #[.bool true] 4) := (World.putObj_heap_other hne).trans (Boxed.set _ hrr)
      have hwo : Ex.value e = true := by
        rw [noAll, Ex.nKeys_fshape] at hS
        rw [← Ex.pre_value e 1, ← hS]; exact hall
      have HR' := Lib.hid hr'; have HBL := Lib.hid hbl; have HWO := Lib.hid hwo
      clear hx hx1 hx2 hx3 hrr hr' hbl hwo hall hS cr1 fr1 c0 c1 c2 c3 c4 c5 c6 c7 c8 c9 c10 c11 c12 c13 c14 c15
      gi_wp2
      refine ⟨by simp, .inl ⟨_, _, rfl, run_takeDeferred hK', ?_⟩⟩
      have hc5 := cell_box HR'.out rfl (i := 0) rfl
      refine ⟨.bool true, ?_, by rw [HWO.out]; rfl, ?_⟩
      · simp [results, Tryz.f25, go_sem, hc5]
      · exact ((Turns.setCell (M := fun k => w.heap.size ≤ k) V ⟨w.heap.size + 1, 0, none⟩ _ (by simp)).trans (Turns.putObj _ D _ (by omega))).below HBL.out (fun _ h => h) HBL.out.size
    case stop =>
      rintro D M c pre V hD hMD hM ⟨⟨hrr, hrM⟩, hbl, rfl, hbad⟩ hK
      have hne : w.heap.size + 1 ≠ D := by omega
      have hr' : (V.putObj D (.deferred none)).heap[w.heap.size + 1]? = some (.cells #[.bool false] 4) := (World.putObj_heap_other hne).trans hrr
      have HR' := Lib.hid hr'; have HBL := Lib.hid hbl; have HWO := Lib.hid hbad
      clear hx hx1 hx2 hx3 hrr hr' hbl hbad cr1 fr1 c0 c1 c2 c3 c4 c5 c6 c7 c8 c9 c10 c11 c12 c13 c14 c15
      gi_wp2
      refine ⟨by simp, .inl ⟨_, _, rfl, run_takeDeferred hK, ?_⟩⟩
      have hc5 := cell_box HR'.out rfl (i := 0) rfl
      refine ⟨.bool false, ?_, by rw [HWO.out]; rfl, ?_⟩
      · simp [results, Tryz.f25, go_sem, hc5]
      · exact (Turns.putObj (M := fun k => w.heap.size ≤ k) _ D _ (by omega)).below HBL.out (fun _ h => h) HBL.out.size
end Go.Proofs.YtmmhpibkjdlkgaaGreat
