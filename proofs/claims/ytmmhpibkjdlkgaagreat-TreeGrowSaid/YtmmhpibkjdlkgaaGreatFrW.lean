/- tree.Free, walked. -/
import Derived.Test.YtmmhpibkjdlkgaaGreatTbE
import Derived.Test.YtmmhpibkjdlkgaaGreatTcK
import Derived.Test.YtmmhpibkjdlkgaaGreatTnB
namespace Go.Proofs.YtmmhpibkjdlkgaaGreat
open Go Go.RowKit Go.Shelf
open Ex (E)

attribute [local go_sem] Oper.semAt_some

theorem own_low {w : World} {b b' : Nat} {e : TypeId} {sz : Nat} {v : Value} {n : Nat} {xs : List Value} (h : w.ownsRow b e sz v n xs) (hb : b' ≤ b) : w.ownsRow b' e sz v n xs := by
  obtain ⟨h1, h2 | ⟨g, cap, cur, h3, h4, h5⟩⟩ := h
  · exact ⟨h1, .inl h2⟩
  · exact ⟨h1, .inr ⟨g, cap, cur, h3, Nat.le_trans hb h4, h5⟩⟩
/-- A row of names of the call's own. -/
def TxRow (w : World) (L : List Nm) (W : World) (v : Value) : Prop := W.ownsRow w.heap.size 9 1 v L.length (L.map strV)
set_option maxRecDepth 100000 in
set_option maxHeartbeats 4000000 in
theorem free_any (e : E) (s : Leads) (w : World) (hf : Ex.FineAll e) (h : ExAt (LT w.heap.size) w e s) :
    Calls Tryz.prog 27 #[ev e s] w fun r w' => ∃ v, r = .returned v ∧ TxRow w (if Ex.right e then Ex.free e else []) w' v ∧ Below w.heap.size w w' := by
  have hmm := @run_makeMap Tryz.prog
  have HCK := Lib.hid (fun w1 h => check_anyE e s w1 hf h)
  refine callsIn_wide (n := 9) |>.1 ?_
  have HE := Lib.hid h; clear h
  have H30 := Lib.hid (fun b w => visitsE_any (.pointer (some ⟨b, 0, none⟩)) (.func (.func 51) #[] #[]) ⟨_, rfl⟩ ⟨_, rfl⟩ w)
  obtain ⟨x0, x1, x2, x3, x4, x5, x6, x7, x8, x9, x10, x11, x12, x13, x14, x15, hc⟩ : ∃ x0 x1 x2 x3 x4 x5 x6 x7 x8 x9 x10 x11 x12 x13 x14 x15, evCells e s = [x0, x1, x2, x3, x4, x5, x6, x7, x8, x9, x10, x11, x12, x13, x14, x15] := ⟨_, _, _, _, _, _, _, _, _, _, _, _, _, _, _, _, rfl⟩
  have hbox : ∀ w, (Instr.box 30 (.agg #[x0, x1, x2, x3, x4, x5, x6, x7, x8, x9, x10, x11, x12, x13, x14, x15])).run Tryz.prog w = .ok (.pointer (some ⟨w.heap.size, 0, none⟩)) (w.alloc (.cells #[x0, x1, x2, x3, x4, x5, x6, x7, x8, x9, x10, x11, x12, x13, x14, x15] 30)) := by
    intro w; rfl
  unfold ev at HCK ⊢
  rw [hc] at HCK ⊢
  have HC := Lib.hid hc
  clear hc
  refine callsIn_of_wp_marks Tryz.func27 rfl trivial ?_ rfl
  simp only [Tryz.ntmps27, List.size_toArray, List.length_cons, List.length_nil, Nat.reduceAdd, Nat.reduceSub, Array.replicate_succ, Array.replicate_zero, List.push_toArray, List.append_toArray, List.nil_append, List.cons_append]
  obtain ⟨W2, hW2⟩ : ∃ W2, [Obj.cells #[x0, x1, x2, x3, x4, x5, x6, x7, x8, x9, x10, x11, x12, x13, x14, x15] 30].foldl World.alloc w = W2 := ⟨_, rfl⟩
  have hb2 : Below w.heap.size w W2 := by rw [← hW2]; exact allocs_below _ _ (Nat.le_refl _)
  have hx0 : W2.heap[w.heap.size]? = some (.cells #[x0, x1, x2, x3, x4, x5, x6, x7, x8, x9, x10, x11, x12, x13, x14, x15] 30) := by rw [← hW2]; exact allocs_get _ w 0 _ rfl
  have hs2 : W2.heap.size = w.heap.size + 1 := by rw [← hW2]; exact allocs_size _ _
  have HB2 := Lib.hid hb2; have HX0 := Lib.hid hx0; have HS2 := Lib.hid hs2; have HW2 := Lib.hid (show w.alloc (.cells #[x0, x1, x2, x3, x4, x5, x6, x7, x8, x9, x10, x11, x12, x13, x14, x15] 30) = W2 from hW2)
  have c0 : W2.cell? ⟨w.heap.size, 0, none⟩ = some x0 := cell_box (i := 0) hx0 rfl rfl
  have c1 : W2.cell? ⟨w.heap.size, 1, none⟩ = some x1 := cell_box (i := 1) hx0 rfl rfl
  have c2 : W2.cell? ⟨w.heap.size, 2, none⟩ = some x2 := cell_box (i := 2) hx0 rfl rfl
  have c3 : W2.cell? ⟨w.heap.size, 3, none⟩ = some x3 := cell_box (i := 3) hx0 rfl rfl
  have c4 : W2.cell? ⟨w.heap.size, 4, none⟩ = some x4 := cell_box (i := 4) hx0 rfl rfl
  have c5 : W2.cell? ⟨w.heap.size, 5, none⟩ = some x5 := cell_box (i := 5) hx0 rfl rfl
  have c6 : W2.cell? ⟨w.heap.size, 6, none⟩ = some x6 := cell_box (i := 6) hx0 rfl rfl
  have c7 : W2.cell? ⟨w.heap.size, 7, none⟩ = some x7 := cell_box (i := 7) hx0 rfl rfl
  have c8 : W2.cell? ⟨w.heap.size, 8, none⟩ = some x8 := cell_box (i := 8) hx0 rfl rfl
  have c9 : W2.cell? ⟨w.heap.size, 9, none⟩ = some x9 := cell_box (i := 9) hx0 rfl rfl
  have c10 : W2.cell? ⟨w.heap.size, 10, none⟩ = some x10 := cell_box (i := 10) hx0 rfl rfl
  have c11 : W2.cell? ⟨w.heap.size, 11, none⟩ = some x11 := cell_box (i := 11) hx0 rfl rfl
  have c12 : W2.cell? ⟨w.heap.size, 12, none⟩ = some x12 := cell_box (i := 12) hx0 rfl rfl
  have c13 : W2.cell? ⟨w.heap.size, 13, none⟩ = some x13 := cell_box (i := 13) hx0 rfl rfl
  have c14 : W2.cell? ⟨w.heap.size, 14, none⟩ = some x14 := cell_box (i := 14) hx0 rfl rfl
  have c15 : W2.cell? ⟨w.heap.size, 15, none⟩ = some x15 := cell_box (i := 15) hx0 rfl rfl
  clear hb2 hx0 hs2 hW2
  cases hr : Ex.right e with
  | false =>
    rw [hr] at HCK
    gi_upto_region 1 with fail
    rw [HW2.out]
    gi_wp2_with (refine ⟨trivial, ?_⟩; gi_at_call 16; refine (callsIn_wide.2 (HCK.out _ ?_)).mono ?_; (· exact HE.out.mono (fun b o h => HB2.out.cell (p := ⟨b, o, none⟩) h) (fun b h => Nat.lt_of_lt_of_le h HB2.out.size)); rintro e w1 ⟨rfl, hb1⟩; have HB1 := Lib.hid hb1; clear hb1)
    refine ⟨_, results_tmp rfl _ _ _, .slice none 0 0, rfl, World.ownsRow_nil _ _ _ _, HB2.out.trans (HB1.out.mono (by have := HS2.out; omega))⟩
  | true =>
    rw [hr] at HCK
    gi_upto_region 1 with fail
    rw [HW2.out]
    gi_wp2_with (first | (refine ⟨trivial, ?_⟩; gi_at_call 16; refine (callsIn_wide.2 (HCK.out _ ?_)).mono ?_; (· exact HE.out.mono (fun b o h => HB2.out.cell (p := ⟨b, o, none⟩) h) (fun b h => Nat.lt_of_lt_of_le h HB2.out.size)); rintro e w1 ⟨rfl, hb1⟩; have HB1 := Lib.hid hb1; clear hb1) | (refine ⟨trivial, ?_⟩; gi_at_call 67; refine (callsIn_wide.2 (H30.out _ _)).mono ?_; rintro e w' ⟨rfl, rfl⟩))
    obtain ⟨B, hB⟩ : ∃ B, w1.heap.size = B := ⟨_, rfl⟩
    obtain ⟨W9, hW9⟩ : ∃ W9, [Obj.map #[] 0, .cells #[.map (some w1.heap.size)] 81, .map #[] 0, .cells #[.map (some (w1.heap.size + 1 + 1))] 82, .cells #[.pointer (some ⟨w.heap.size, 0, none⟩)] 68, .cells #[.func (.func 51) #[] #[]] 114].foldl World.alloc w1 = W9 := ⟨_, rfl⟩
    rw [show (((((w1.alloc (.map #[] 0)).alloc (.cells #[.map (some w1.heap.size)] 81)).alloc (.map #[] 0)).alloc (.cells #[.map (some (w1.heap.size + 1 + 1))] 82)).alloc (.cells #[.pointer (some ⟨w.heap.size, 0, none⟩)] 68)).alloc (.cells #[.func (.func 51) #[] #[]] 114) = W9 from hW9]
    have hs9 : W9.heap.size = w1.heap.size + 6 := by rw [← hW9]; exact allocs_size _ _
    have hb19 : Below w1.heap.size w1 W9 := by rw [← hW9]; exact allocs_below _ _ (Nat.le_refl _)
    have hp1 : w.heap.size + 1 ≤ w1.heap.size := by have := HB1.out.size; have := HS2.out; omega
    have hb9 : Below w.heap.size w W9 := (HB2.out.trans (HB1.out.mono (by have := HS2.out; omega))).trans (hb19.mono (by omega))
    have hx : W9.heap[w.heap.size]? = some (.cells #[x0, x1, x2, x3, x4, x5, x6, x7, x8, x9, x10, x11, x12, x13, x14, x15] 30) := (hb19.block _ (by omega)).trans ((HB1.out.block _ (by have := HS2.out; omega)).trans HX0.out)
    have hen : ENode (LT (w.heap.size + 1)) W9 e w.heap.size 0 := HE.out.boxed hb9 (by rw [HC.out]; exact hx) _ (Nat.le_succ _) (Nat.lt_succ_self _)
    have hy0 : W9.heap[w1.heap.size]? = some (.map #[] 0) := by rw [← hW9]; exact allocs_get _ w1 0 _ rfl
    have hy1 : W9.heap[w1.heap.size + 1]? = some (.cells #[.map (some w1.heap.size)] 81) := by rw [← hW9]; exact allocs_get _ w1 1 _ rfl
    have hy2 : W9.heap[w1.heap.size + 2]? = some (.map #[] 0) := by rw [← hW9]; exact allocs_get _ w1 2 _ rfl
    have hy3 : W9.heap[w1.heap.size + 3]? = some (.cells #[.map (some (w1.heap.size + 1 + 1))] 82) := by rw [← hW9]; exact allocs_get _ w1 3 _ rfl
    have hy4 : W9.heap[w1.heap.size + 4]? = some (.cells #[.pointer (some ⟨w.heap.size, 0, none⟩)] 68) := by rw [← hW9]; exact allocs_get _ w1 4 _ rfl
    have hy5 : W9.heap[w1.heap.size + 5]? = some (.cells #[.func (.func 51) #[] #[]] 114) := by rw [← hW9]; exact allocs_get _ w1 5 _ rfl
    rw [hB] at hs9 hp1 hy0 hy1 hy2 hy3 hy4 hy5 ⊢
    have hcn : CntAt W9 B 0 (cntOf []) := by
      have h1 := cnt_new w1
      rw [hB] at h1
      exact h1.same (hy0.trans (by rw [← hB]; exact (World.alloc_heap_new w1 _).symm))
    have hos : W9.ownsMap Tryz.prog 9 unitElem (B + 1 + 1) 0 (txSet []) := by
      obtain ⟨wm, hwm⟩ : ∃ wm : World, wm.heap.size = B + 1 + 1 := ⟨[Obj.map #[] 0, .map #[] 0].foldl World.alloc w1, by rw [allocs_size, hB]; rfl⟩
      have h1 := World.ownsMap_made (H := Unit) wm Tryz.prog 9 unitElem
      rw [hwm] at h1
      exact map_same h1 (hy2.trans (by rw [← hwm]; exact (World.alloc_heap_new wm _).symm))
    have HCN := Lib.hid hcn; have HOS := Lib.hid hos; have HY1 := Lib.hid hy1; have HY3 := Lib.hid hy3; have HY4 := Lib.hid hy4; have HY5 := Lib.hid hy5; have HEN := Lib.hid hen; have HS9 := Lib.hid hs9; have HP1 := Lib.hid hp1; have HB9 := Lib.hid hb9
    clear hW9 hcn hos hy0 hy1 hy2 hy3 hy4 hy5 hen hs9 hp1 hb9 hb19 hx hB hmm hbox
    clear c0 c1 c2 c3 c4 c5 c6 c7 c8 c9 c10 c11 c12 c13 c14 c15
    refine wpIn_range_own (gf := 100) (lb := #[.pointer (some ⟨B + 1 + 1 + 1 + 1, 0, none⟩), .pointer (some ⟨B + 1 + 1 + 1 + 1 + 1, 0, none⟩)]) rfl (enters_of Tryz.func100 (by kernel_rfl) rfl)
      (visitsE_seq Ex.shape e (Nat.le_trans (Ex.vk_len e) (by have := hf.1; omega)) (fun k => w.heap.size + 1 ≤ k ∧ k ≠ B + 5) (B + 4) (B + 5) (some ⟨w.heap.size, 0, none⟩) W9 (cell_box HY4.out rfl rfl) (cell_box HY5.out rfl rfl) (fun h => h.2 rfl))
      (fun _ _ _ _ hK h => NextP.mono hK h) (Below.refl _ _) (fun k h => by have := HS9.out; have := HP1.out; omega) (fun _ => rfl)
      (fun M pre V => (V.heap[B + 1]? = some (.cells #[.map (some B)] 81) ∧ ¬ M (B + 1)) ∧ (V.heap[B + 3]? = some (.cells #[.map (some (B + 1 + 1))] 82) ∧ ¬ M (B + 3)) ∧
        (∃ N, (CntAt V B N (fSt pre).1 ∧ ¬ M B) ∧ N ≤ pre.length * 20000) ∧ (V.ownsMap Tryz.prog 9 unitElem (B + 1 + 1) (fSt pre).2.length (txSet (fSt pre).2) ∧ ¬ M (B + 1 + 1)) ∧ (w.heap.size + 1 ≤ V.heap.size ∧ ∀ y ∈ pre, ElAt (LT (w.heap.size + 1)) V y) ∧ Below w.heap.size w V)
      (fun _ _ x V => w.heap.size + 1 ≤ V.heap.size ∧ ElAt (LT (w.heap.size + 1)) V x) (fun _ _ _ _ => False)
      (fun x a' M V => ∃ A, a' = { tmps := #[.agg #[x0, x1, x2, x3, x4, x5, x6, x7, x8, x9, x10, x11, x12, x13, x14, x15], .pointer (some ⟨w.heap.size, 0, none⟩), .slice none 0 0, .pointer (some ⟨B + 1, 0, none⟩), .pointer (some ⟨B + 1 + 1 + 1, 0, none⟩), .pointer (some ⟨A, 0, none⟩), undef, undef, .agg #[x0, x1, x2, x3, x4, x5, x6, x7, x8, x9, x10, x11, x12, x13, x14, x15], .int .i64 (errOf true), .bool false, .map (some B), .map (some (B + 1 + 1)), .func (.func 100) #[] #[.pointer (some ⟨B + 1 + 1 + 1 + 1, 0, none⟩), .pointer (some ⟨B + 1 + 1 + 1 + 1 + 1, 0, none⟩)], .agg #[.pointer x.p, .int .i64 (x.i : Int), .int .i64 (x.d : Int)], undef, undef, undef, undef, undef, undef, undef, undef, undef, undef, undef, undef, undef, undef, undef, undef, undef, undef, undef, undef, undef, undef, undef, undef, undef, undef, undef, undef, undef, undef, undef, undef, undef, undef, undef, undef, undef, undef, undef, undef, undef, undef, undef, undef, undef, undef, undef], defers := [] } ∧ V.heap[A]? = some (.cells #[.pointer x.p, .int .i64 (x.i : Int), .int .i64 (x.d : Int)] 87) ∧ ¬ M A)
      (fun s => Ab.and (Ab.block _ _ _) (Ab.and (Ab.block _ _ _) (Ab.and (Ab.ex fun N => Ab.and (Ab.cnt _ _ _ _) (Ab.pure _ _)) (Ab.and (Ab.map _ _ _ _ _ _ _) (Ab.and (ab_eplaces (by have := HS9.out; have := HP1.out; omega) s) (Ab.below HB9.out.size w (Nat.le_refl _))))))) (fun _ _ => Ab.pure _ _) (fun _ _ => Ab.ex fun _ => Ab.and (Ab.pure _ _) (Ab.block _ _ _))
      ⟨⟨HY1.out, fun h => h⟩, ⟨HY3.out, fun h => h⟩, ⟨0, ⟨HCN.out, fun h => h⟩, Nat.zero_le _⟩, ⟨HOS.out, fun h => h⟩, ⟨by have := HS9.out; have := HP1.out; omega, fun _ h => by cases h⟩, HB9.out⟩
      (fun _ x => ab_eplace (by have := HS9.out; have := HP1.out; omega) x) ⟨by have := HS9.out; have := HP1.out; omega, w.heap.size, 0, rfl, Nat.lt_succ_self _, HEN.out⟩ ?next ?assign ?body ?done ?stop
    case next =>
      rintro M pre y V ⟨_, _, _, _, ⟨h1, h2⟩, _⟩ _ _ hy
      exact NextP.mono (fun x hx => ⟨h1, hx⟩) (next_expr (h2 y hy) y.i)
    case assign =>
      intro l' M pre x V K hi hM hok hf' hK
      clear hi
      simp [Vi.enc]
      gi_wp2
      refine hK _ _ (Turns.alloc _ _ _) ⟨V.heap.size, rfl, World.alloc_heap_new V _, fun h => by have := (hM _ h).2; omega⟩
    case body =>
      rintro l' M pre x a' V hMl ⟨r, hl⟩ ⟨⟨h1, h1M⟩, ⟨h3, h3M⟩, ⟨N, ⟨hc, hBM⟩, hN⟩, ⟨hset, hsM⟩, ⟨hn1, hpl⟩, hbl⟩ hM hle hok hfr ⟨A, rfl, hA, hAM⟩
      obtain ⟨hfx, hpre, hxi⟩ := vat_fine hf hok
      obtain ⟨b, o, hxp, hG, hnode⟩ := vat_place hok (fun h => (hfr h).2) hpl
      have hsn := fSt_snoc pre x
      have hlen := fSt_len pre
      rw [hxp] at hA ⊢
      obtain ⟨c9, hc9⟩ : ∃ c9, (fSt pre).1 = c9 := ⟨_, rfl⟩
      obtain ⟨L9, hL9⟩ : ∃ L9, (fSt pre).2 = L9 := ⟨_, rfl⟩
      rw [hc9] at hc; rw [hL9] at hset hlen
      have hsn2 : fSt (pre ++ [x]) = fStep (c9, L9) (x.t, x.i, x.d) := by rw [hsn, ← hc9, ← hL9]
      have a0 : V.cell? ⟨A, 0, none⟩ = some (.pointer (some ⟨b, o, none⟩)) := cell_box hA rfl rfl
      have a1 : V.cell? ⟨A, 1, none⟩ = some (.int .i64 (x.i : Int)) := cell_box hA rfl rfl
      have hw1 : IntKind.i64.wrap ((x.i : Int) - 1) = (x.i : Int) - 1 := by
        simp [IntKind.wrap, IntKind.bits, IntKind.signed]
        omega
      have HBN := Lib.hid (fun p k w => binds_any (.pointer p) ⟨_, rfl⟩ k w)
      have hVB : B + 6 ≤ V.heap.size := by have := HS9.out; omega
      have hlV : l' < V.heap.size := (Array.getElem?_eq_some_iff.1 hl).1
      have hAV : A < V.heap.size := (Array.getElem?_eq_some_iff.1 hA).1
      have H1 := Lib.hid h1; have H3 := Lib.hid h3; have HCC := Lib.hid hc; have HSET := Lib.hid hset; have HPL := Lib.hid hpl; have HBL := Lib.hid hbl; have HL := Lib.hid hl; have HA := Lib.hid hA; have HNODE := Lib.hid hnode; have HSN := Lib.hid hsn2; have HM := Lib.hid hM; have HN := Lib.hid hN; have HLEN := Lib.hid hlen; have HPRE := Lib.hid hpre; have HOK := Lib.hid hok; have HXP := Lib.hid hxp; have HG := Lib.hid hG; have HVB := Lib.hid hVB; have HLV := Lib.hid hlV; have HAV := Lib.hid hAV; have HN1 := Lib.hid hn1; have HFX := Lib.hid hfx
      clear h1 h3 hc hset hpl hbl hl hA hnode hsn hsn2 hM hN hlen hpre hok hxp hG hVB hlV hAV hn1 hfx hle hfr hc9 hL9
      gi_wp2_with (refine ⟨trivial, ?_⟩; gi_at_call 68; refine (CallsIn.inRound l' (callsIn_wide.2 (HBN.out _ _ _))).mono ?_; rintro e w' ⟨rfl, rfl⟩)
      obtain ⟨V1, hV1⟩ : ∃ V1, [Obj.cells #[.pointer (some ⟨b, o, none⟩)] 68, .cells #[.int .i64 ((x.i : Int) - 1)] 3].foldl World.alloc V = V1 := ⟨_, rfl⟩
      rw [show (V.alloc (.cells #[.pointer (some ⟨b, o, none⟩)] 68)).alloc (.cells #[.int .i64 ((x.i : Int) - 1)] 3) = V1 from hV1]
      have hsV1 : V1.heap.size = V.heap.size + 2 := by rw [← hV1]; exact allocs_size _ _
      have hbV1 : Below V.heap.size V V1 := by rw [← hV1]; exact allocs_below _ _ (Nat.le_refl _)
      have hv0 : V1.heap[V.heap.size]? = some (.cells #[.pointer (some ⟨b, o, none⟩)] 68) := by rw [← hV1]; exact allocs_get _ V 0 _ rfl
      have hv1 : V1.heap[V.heap.size + 1]? = some (.cells #[.int .i64 ((x.i : Int) - 1)] 3) := by rw [← hV1]; exact allocs_get _ V 1 _ rfl
      have HV0 := Lib.hid hv0; have HV1 := Lib.hid hv1; have HSV1 := Lib.hid hsV1; have HBV1 := Lib.hid hbV1
      clear hV1 hv0 hv1 hsV1 hbV1 a0 a1
      obtain ⟨kk, hkk⟩ : ∃ kk, (x.i : Int) - 1 = kk := ⟨_, rfl⟩
      have HKK := Lib.hid hkk
      rw [hkk] at HV1 ⊢
      clear hkk hw1
      refine wpIn_range_cnt (z := -1) (Be := V.heap.size) (Bk := V.heap.size + 1) (b := b) (o := o) (n := w.heap.size + 1) (B := B) (N := N) (k := kk) (e := x.t) (c := c9) (mt := 81)
        (A := fun s => { tmps := #[.agg #[x0, x1, x2, x3, x4, x5, x6, x7, x8, x9, x10, x11, x12, x13, x14, x15], .pointer (some ⟨w.heap.size, 0, none⟩), .slice none 0 0, .pointer (some ⟨B + 1, 0, none⟩), .pointer (some ⟨B + 1 + 1 + 1, 0, none⟩), .pointer (some ⟨A, 0, none⟩), .string ⟨s.toArray⟩, undef, .agg #[x0, x1, x2, x3, x4, x5, x6, x7, x8, x9, x10, x11, x12, x13, x14, x15], .int .i64 (errOf true), .bool false, .map (some B), .map (some (B + 1 + 1)), .func (.func 100) #[] #[.pointer (some ⟨B + 1 + 1 + 1 + 1, 0, none⟩), .pointer (some ⟨B + 1 + 1 + 1 + 1 + 1, 0, none⟩)], .agg #[.pointer (some ⟨b, o, none⟩), .int .i64 (x.i : Int), .int .i64 (x.d : Int)], .pointer (some ⟨A, 0, none⟩), .pointer (some ⟨b, o, none⟩), .pointer (some ⟨A, 1, none⟩), .int .i64 (x.i : Int), .int .i64 kk, .func (.func 101) #[] #[.pointer (some ⟨V.heap.size, 0, none⟩), .pointer (some ⟨V.heap.size + 1, 0, none⟩)], .string ⟨s.toArray⟩, undef, undef, undef, undef, undef, undef, undef, undef, undef, undef, undef, undef, undef, undef, undef, undef, undef, undef, undef, undef, undef, undef, undef, undef, undef, undef, undef, undef, undef, undef, undef, undef, undef, undef, undef, undef, undef, undef, undef, undef], defers := [] }) ((HBV1.out.block _ HLV.out).trans HL.out) rfl (cell_box HV0.out rfl rfl) (cell_box HV1.out rfl rfl)
        (ENode.mono (fun y z hy => HBV1.out.cell (p := ⟨y, z, none⟩) (Nat.lt_of_lt_of_le hy HN1.out)) (fun _ h => h) _ _ _ HG.out HNODE.out) HG.out HP1.out (by have := HVB.out; omega) HFX.out rfl (by have := HN.out; have := HPRE.out; omega)
        (HCC.out.same (HBV1.out.block _ HCC.out.lt)) ((HBV1.out.block _ (by have := HVB.out; omega)).trans H1.out) ?as1 ?bd1 ?dn1
      case as1 =>
        intro l2 s2 U K hK
        gi_wp2
        exact hK
      case bd1 =>
        intro l2 s2 U N' c' Q' hs2 hcU hN' hmU hK
        have m0 : U.cell? ⟨B + 1, 0, none⟩ = some (.map (some B)) := cell_box hmU rfl rfl
        have hlk := cnt_look hcU hs2
        obtain ⟨U', hu, hcU', hgr⟩ := cnt_put (z := -1) hcU hN' hs2 (.inr rfl)
        have hbd := hcU.bd s2
        rw [show c' s2 + -1 = c' s2 - 1 from by omega] at hu
        have hw : IntKind.i64.wrap (c' s2 - 1) = c' s2 - 1 := by
          simp [IntKind.wrap, IntKind.bits, IntKind.signed]
          omega
        have HC' := Lib.hid hcU'; have HGR := Lib.hid hgr
        clear hcU hcU' hgr hmU hbd
        gi_wp2
        exact hK _ _ HC'.out HGR.out
      case dn1 =>
        intro U hcU hsU hTU
        obtain ⟨es9, cl9, hmap⟩ := HCC.out.map
        have hAB : A ≠ B := fun e => by have h := HA.out; rw [e, hmap] at h; cases h
        have hlB : l' ≠ B := fun e => by have h := HL.out; rw [e, hmap] at h; cases h
        have hTVU : Turns (fun k => k = B ∨ V.heap.size ≤ k) V U := (turns_below HBV1.out).trans (hTU.mono fun k _ h => by have := HSV1.out; omega)
        have hAU : U.heap[A]? = some (.cells #[.pointer (some ⟨b, o, none⟩), .int .i64 (x.i : Int), .int .i64 (x.d : Int)] 87) := hTVU.heap HA.out (fun h => by have := HAV.out; omega)
        have hlU : U.heap[l']? = some (.loop r) := hTVU.heap HL.out (fun h => by have := HLV.out; omega)
        have hmU := hTVU.heap H1.out (fun h => by have := HVB.out; omega)
        have hnU : ENode (LT (w.heap.size + 1)) U x.t b o := ENode.mono (fun y z hy => World.cell?_of_block (a := ⟨y, z, none⟩) (hTVU.block y (Nat.lt_of_lt_of_le hy HN1.out) (fun h => by have : y < w.heap.size + 1 := hy; have := HVB.out; have := HP1.out; omega))) (fun _ h => h) _ _ _ HG.out HNODE.out
        have a0 : U.cell? ⟨A, 0, none⟩ = some (.pointer (some ⟨b, o, none⟩)) := cell_box hAU rfl rfl
        have a1 : U.cell? ⟨A, 1, none⟩ = some (.int .i64 (x.i : Int)) := cell_box hAU rfl rfl
        have HCU := Lib.hid hcU; have HTVU := Lib.hid hTVU; have HAU := Lib.hid hAU; have HLU := Lib.hid hlU; have HMU := Lib.hid hmU; have HNU := Lib.hid hnU; have HAB := Lib.hid hAB; have HLB := Lib.hid hlB
        clear hcU hTVU hAU hlU hmU hnU hAB hlB hsU hTU hmap
        gi_wp2_with (refine ⟨trivial, ?_⟩; gi_at_call 68; refine (CallsIn.inRound l' (callsIn_wide.2 (HBN.out _ _ _))).mono ?_; rintro e w' ⟨rfl, rfl⟩)
        obtain ⟨V3, hV3⟩ : ∃ V3, [Obj.cells #[.pointer (some ⟨b, o, none⟩)] 68, .cells #[.int .i64 (x.i : Int)] 3].foldl World.alloc U = V3 := ⟨_, rfl⟩
        rw [show (U.alloc (.cells #[.pointer (some ⟨b, o, none⟩)] 68)).alloc (.cells #[.int .i64 (x.i : Int)] 3) = V3 from hV3]
        have hsV3 : V3.heap.size = U.heap.size + 2 := by rw [← hV3]; exact allocs_size _ _
        have hbV3 : Below U.heap.size U V3 := by rw [← hV3]; exact allocs_below _ _ (Nat.le_refl _)
        have hv0 : V3.heap[U.heap.size]? = some (.cells #[.pointer (some ⟨b, o, none⟩)] 68) := by rw [← hV3]; exact allocs_get _ U 0 _ rfl
        have hv1 : V3.heap[U.heap.size + 1]? = some (.cells #[.int .i64 (x.i : Int)] 3) := by rw [← hV3]; exact allocs_get _ U 1 _ rfl
        have hUs : V.heap.size ≤ U.heap.size := HTVU.out.size
        have HW0 := Lib.hid hv0; have HW1 := Lib.hid hv1; have HSV3 := Lib.hid hsV3; have HBV3 := Lib.hid hbV3; have HUS := Lib.hid hUs
        clear hV3 hv0 hv1 hsV3 hbV3 a0 a1 hUs
        refine wpIn_range_cnt (z := 1) (Be := U.heap.size) (Bk := U.heap.size + 1) (b := b) (o := o) (n := w.heap.size + 1) (B := B) (N := N + (bindsL x.t kk).length) (k := (x.i : Int)) (e := x.t) (c := bump (-1) (bindsL x.t kk) c9) (mt := 81)
          (A := fun s => { tmps := #[.agg #[x0, x1, x2, x3, x4, x5, x6, x7, x8, x9, x10, x11, x12, x13, x14, x15], .pointer (some ⟨w.heap.size, 0, none⟩), .slice none 0 0, .pointer (some ⟨B + 1, 0, none⟩), .pointer (some ⟨B + 1 + 1 + 1, 0, none⟩), .pointer (some ⟨A, 0, none⟩), undef, .string ⟨s.toArray⟩, .agg #[x0, x1, x2, x3, x4, x5, x6, x7, x8, x9, x10, x11, x12, x13, x14, x15], .int .i64 (errOf true), .bool false, .map (some B), .map (some (B + 1 + 1)), .func (.func 100) #[] #[.pointer (some ⟨B + 1 + 1 + 1 + 1, 0, none⟩), .pointer (some ⟨B + 1 + 1 + 1 + 1 + 1, 0, none⟩)], .agg #[.pointer (some ⟨b, o, none⟩), .int .i64 (x.i : Int), .int .i64 (x.d : Int)], .pointer (some ⟨A, 0, none⟩), .pointer (some ⟨b, o, none⟩), .pointer (some ⟨A, 1, none⟩), .int .i64 (x.i : Int), .int .i64 kk, .func (.func 101) #[] #[.pointer (some ⟨V.heap.size, 0, none⟩), .pointer (some ⟨V.heap.size + 1, 0, none⟩)], undef, undef, undef, undef, undef, .pointer (some ⟨A, 0, none⟩), .pointer (some ⟨b, o, none⟩), .pointer (some ⟨A, 1, none⟩), .int .i64 (x.i : Int), .func (.func 101) #[] #[.pointer (some ⟨U.heap.size, 0, none⟩), .pointer (some ⟨U.heap.size + 1, 0, none⟩)], .string ⟨s.toArray⟩, undef, undef, undef, undef, undef, undef, undef, undef, undef, undef, undef, undef, undef, undef, undef, undef, undef, undef, undef, undef, undef, undef, undef, undef, undef, undef, undef, undef, undef, undef], defers := [] }) ((HBV3.out.block _ (Nat.lt_of_lt_of_le HLV.out HUS.out)).trans HLU.out) rfl (cell_box HW0.out rfl rfl) (cell_box HW1.out rfl rfl)
          (ENode.mono (fun y z hy => HBV3.out.cell (p := ⟨y, z, none⟩) (Nat.lt_of_lt_of_le hy (Nat.le_trans HN1.out HUS.out))) (fun _ h => h) _ _ _ HG.out HNU.out) HG.out HP1.out (by have := HVB.out; have := HUS.out; omega) HFX.out rfl (by have := HN.out; have := HPRE.out; have := (bindsL_fine HFX.out kk).1; omega)
          (HCU.out.same (HBV3.out.block _ HCU.out.lt)) ((HBV3.out.block _ (by have := HVB.out; have := HUS.out; omega)).trans HMU.out) ?as2 ?bd2 ?dn2
        case as2 =>
          intro l2 s2 U K hK
          gi_wp2
          exact hK
        case bd2 =>
          intro l2 s2 U N' c' Q' hs2 hcU hN' hmU hK
          have m0 : U.cell? ⟨B + 1, 0, none⟩ = some (.map (some B)) := cell_box hmU rfl rfl
          have hlk := cnt_look hcU hs2
          obtain ⟨U', hu, hcU', hgr⟩ := cnt_put (z := 1) hcU hN' hs2 (.inl rfl)
          have hbd := hcU.bd s2
          have hw : IntKind.i64.wrap (c' s2 + 1) = c' s2 + 1 := by
            simp [IntKind.wrap, IntKind.bits, IntKind.signed]
            omega
          have HC' := Lib.hid hcU'; have HGR := Lib.hid hgr
          clear hcU hcU' hgr hmU hbd
          gi_wp2
          exact hK _ _ HC'.out HGR.out
        case dn2 =>
          intro T hcT hsT hTT
          have hTVT : Turns (fun k => k = B ∨ V.heap.size ≤ k) V T := HTVU.out.trans ((turns_below HBV3.out).trans (hTT.mono fun k _ h => by have := HSV3.out; have := HUS.out; omega))
          have hAT := hTVT.heap HA.out (fun h => by have := HAV.out; have := HAB.out; omega)
          have hmT := hTVT.heap H1.out (fun h => by have := HVB.out; omega)
          have h3T := hTVT.heap H3.out (fun h => by have := HVB.out; omega)
          have hbG : b < w.heap.size + 1 := HG.out
          have hnT : ENode (LT (w.heap.size + 1)) T x.t b o := ENode.mono (fun y z hy => World.cell?_of_block (a := ⟨y, z, none⟩) (hTVT.block y (Nat.lt_of_lt_of_le hy HN1.out) (fun h => by have : y < w.heap.size + 1 := hy; have := HVB.out; have := HP1.out; omega))) (fun _ h => h) _ _ _ HG.out HNODE.out
          have a0 : T.cell? ⟨A, 0, none⟩ = some (.pointer (some ⟨b, o, none⟩)) := cell_box hAT rfl rfl
          have m1 : T.cell? ⟨B + 1, 0, none⟩ = some (.map (some B)) := cell_box hmT rfl rfl
          have m3 : T.cell? ⟨B + 1 + 1 + 1, 0, none⟩ = some (.map (some (B + 1 + 1))) := cell_box h3T rfl rfl
          have n0 : T.cell? ⟨b, o, none⟩ = some (.int .i64 x.t.kind) := hnT.kidsAt.1.c0
          have n3 : T.cell? ⟨b, o + 3, none⟩ = some (.string ⟨x.t.nm.toArray⟩) := hnT.kidsAt.1.c3
          have hsetT : T.ownsMap Tryz.prog 9 unitElem (B + 1 + 1) L9.length (txSet L9) := map_same HSET.out (hTVT.block _ (by have := HVB.out; omega) (fun h => by have := HVB.out; omega))
          have hnm := HFX.out.nm
          have hfin : ∀ (W' : World) (L' : List Nm), Turns (fun k => k = B ∨ k = B + 1 + 1 ∨ V.heap.size ≤ k) V W' → CntAt W' B (N + (bindsL x.t kk).length + (bindsL x.t (x.i : Int)).length) (bump 1 (bindsL x.t (x.i : Int)) (bump (-1) (bindsL x.t kk) c9)) →
              W'.ownsMap Tryz.prog 9 unitElem (B + 1 + 1) L'.length (txSet L') → (if x.t.kind = 1 ∧ bump 1 (bindsL x.t (x.i : Int)) (bump (-1) (bindsL x.t kk) c9) x.t.nm = 0 then L9 ++ [x.t.nm] else L9) = L' →
              Turns (fun k => (w.heap.size + 1 ≤ k ∧ k ≠ B + 5) ∧ ¬ M k) V W' ∧ (W'.heap[B + 1]? = some (.cells #[.map (some B)] 81) ∧ ¬ M (B + 1)) ∧ (W'.heap[B + 3]? = some (.cells #[.map (some (B + 1 + 1))] 82) ∧ ¬ M (B + 3)) ∧
                (∃ N, (CntAt W' B N (fSt (pre ++ [x])).1 ∧ ¬ M B) ∧ N ≤ (pre ++ [x]).length * 20000) ∧ (W'.ownsMap Tryz.prog 9 unitElem (B + 1 + 1) (fSt (pre ++ [x])).2.length (txSet (fSt (pre ++ [x])).2) ∧ ¬ M (B + 1 + 1)) ∧ (w.heap.size + 1 ≤ W'.heap.size ∧ ∀ y ∈ pre ++ [x], ElAt (LT (w.heap.size + 1)) W' y) ∧ Below w.heap.size w W' := by
            intro W' L' hT hcW hsW hL
            have hVB := HVB.out
            have hP1 := HP1.out
            have hnM : ∀ k, V.heap.size ≤ k → ¬ M k := fun k hk hm => by have := (HM.out k hm).2; omega
            have hbel : Below (w.heap.size + 1) V W' := hT.below (Below.refl _ _) (fun k h => by omega) HN1.out
            refine ⟨hT.mono fun k _ h => ?_, ⟨hT.heap H1.out (fun h => by omega), h1M⟩, ⟨hT.heap H3.out (fun h => by omega), h3M⟩, ⟨_, ⟨by rw [HSN.out]; unfold fStep; dsimp only; rw [HKK.out]; exact hcW, hBM⟩, ?_⟩, ⟨?_, hsM⟩, ⟨Nat.le_trans HN1.out hT.size, fun y hy => ?_⟩, hT.below HBL.out (fun k h => by omega) HBL.out.size⟩
            · rcases h with rfl | rfl | h
              · exact ⟨⟨by omega, by omega⟩, hBM⟩
              · exact ⟨⟨by omega, by omega⟩, hsM⟩
              · exact ⟨⟨by omega, by omega⟩, hnM k h⟩
            · have := (bindsL_fine HFX.out kk).1
              have := (bindsL_fine HFX.out (x.i : Int)).1
              have := HN.out
              rw [List.length_append, List.length_singleton]; omega
            · rw [HSN.out]; unfold fStep; dsimp only; rw [HKK.out, hL]; exact hsW
            · rcases List.mem_append.1 hy with hy | hy
              · exact (HPL.out y hy).below hbel
              · obtain rfl := List.mem_singleton.1 hy
                exact ElAt.below ⟨b, o, HXP.out, HG.out, HNODE.out⟩ hbel
          have HFIN := Lib.hid hfin; have HTVT := Lib.hid hTVT; have HCT := Lib.hid hcT; have HST := Lib.hid hsetT
          clear hfin hTVT hcT hsetT hAT hmT h3T hnT hsT hTT
          obtain ⟨c2, hc2⟩ : ∃ c2, bump 1 (bindsL x.t (x.i : Int)) (bump (-1) (bindsL x.t kk) c9) = c2 := ⟨_, rfl⟩
          rw [hc2] at HCT HFIN
          obtain ⟨kd, hkd⟩ : ∃ kd, x.t.kind = kd := ⟨_, rfl⟩
          obtain ⟨nm, hnm'⟩ : ∃ nm, x.t.nm = nm := ⟨_, rfl⟩
          rw [hkd] at n0; rw [hnm'] at n3 hnm; rw [hkd, hnm'] at HFIN
          clear hc2 hkd hnm'
          have hm : (Tryz.prog).follows .mixedOrders = true := by kernel_rfl
          by_cases hk : kd = 1
          · subst hk
            have hlk := cnt_look (W := T.drew) (HCT.out.same rfl) hnm
            by_cases hz : c2 nm = 0
            · rw [hz] at hlk
              gi_wp2
              refine wpIn_one ?aA1 ?aW1 (fun R hR => ?aF1) ?aR1
              case aF1 =>
                gi_region_with_o (refine ⟨fun _ h => (by cases h), ?_⟩)
                all_goals exact hR
              have hlm : L9.length < maxLen := by have := HLEN.out; have := HPRE.out; unfold maxLen; omega
              obtain ⟨w2, hu, ho2, hg2⟩ := tx_put (W := T.drew.drew) (map_same HST.out rfl) hlm hnm
              have HO2 := Lib.hid ho2; have HG2 := Lib.hid hg2
              clear ho2 hg2 hlk hlm
              gi_wp2
              refine wpIn_end ?aA4 ?aW4 (fun R hR => ?aF4) ?aR4
              case aF4 =>
                gi_region_with_o fail
                all_goals exact hR
              refine HFIN.out w2 (L9 ++ [nm]) ?_ (HCT.out.same (HG2.out.block B (by have := HCT.out.lt; exact this) (fun e => by injection e with e; omega))) (by rw [List.length_append]; exact HO2.out) (if_pos (by first | exact ⟨trivial, hz⟩ | exact ⟨rfl, hz⟩))
              exact (((HTVT.out.mono fun k _ h => h.elim .inl (fun h => .inr (.inr h))).trans (Turns.drew _ _)).trans (Turns.drew _ _)).trans (Turns.of_grown HG2.out (fun k e => by injection e with e; exact .inr (.inl e.symm)))
            · have gz : (c2 nm == 0) = false := neI hz
              gi_wp2
              refine wpIn_one ?aA2 ?aW2 (fun R hR => ?aF2) ?aR2
              case aF2 =>
                gi_region_with_o (refine ⟨fun _ h => (by cases h), ?_⟩)
                all_goals exact hR
              gi_wp2
              exact HFIN.out T.drew L9 ((HTVT.out.mono fun k _ h => h.elim .inl (fun h => .inr (.inr h))).trans (Turns.drew _ _)) (HCT.out.same rfl) (map_same HST.out rfl) (if_neg fun h => hz h.2)
          · have gk : (kd == 1) = false := neI hk
            gi_wp2
            refine wpIn_one ?aA3 ?aW3 (fun R hR => ?aF3) ?aR3
            case aF3 =>
              gi_region_with_o (refine ⟨fun _ h => (by cases h), ?_⟩)
              all_goals exact hR
            gi_wp2
            exact HFIN.out T.drew L9 ((HTVT.out.mono fun k _ h => h.elim .inl (fun h => .inr (.inr h))).trans (Turns.drew _ _)) (HCT.out.same rfl) (map_same HST.out rfl) (if_neg fun h => hk h.1)
    case done =>
      rintro D M xs V hD hMD hM hS ⟨_, ⟨h3, _⟩, _, ⟨hset, _⟩, _, hbl⟩ hK
      rw [fSt_all hr hS] at hset
      have m3 : V.cell? ⟨B + 1 + 1 + 1, 0, none⟩ = some (.map (some (B + 1 + 1))) := cell_box h3 rfl rfl
      have HKEYS := Lib.hid (fun mb W => callsIn_wide.1 (Tryz.maps_Keys_70 mb W))
      have hml : Maps.size (txSet (Ex.fr e [])) = (strKeys (txSet (Ex.fr e []))).length := by
        obtain ⟨es, h1, _⟩ := txSet_keys (Ex.fr e [])
        rw [h1]; simp [Maps.size, strKeys]
      have hkl := txKeys_len (Ex.fr e [])
      have hfl : (Ex.fr e []).length ≤ 20000 := by
        have h1 := fSt_len xs
        rw [fSt_all hr hS] at h1
        have h2 := congrArg List.length (show xs.map Vi.key = Ex.shape.vk e 0 1 from hS)
        rw [List.length_map] at h2
        have h3 := Ex.vk_len e
        have h4 := hf.1
        have h5 : (Ex.fr e []).length ≤ xs.length := h1
        omega
      have hsort := callsIn_wide.1 (Tryz.slices_Sorted_keys_69_70 (B + 1 + 1) _ _ unitElem V hset (by rw [hml]; unfold maxLen; omega) (by rw [hml]; omega))
      have HSORT := Lib.hid hsort; have HBL := Lib.hid hbl; have HK := Lib.hid hK; have HD := Lib.hid hD
      have hDV : D < V.heap.size := (hM D hMD).2
      have HDV := Lib.hid hDV
      clear h3 hset hbl hml hkl hfl hsort hK hM hS hD hDV
      gi_wp2_with (first | (refine ⟨trivial, ?_⟩; gi_at_call 70; refine (callsIn_wide.2 (HKEYS.out _ _)).mono ?_; rintro e w' ⟨rfl, rfl⟩) | (refine ⟨trivial, ?_⟩; gi_at_call 69; refine (callsIn_wide.2 HSORT.out).mono ?_; rintro _ w9 ⟨v9, ss, rfl, hperm, hrow, _, hb9⟩))
      have hsA : (V.alloc (.cells #[.map (some (B + 1 + 1))] 82)).heap.size = V.heap.size + 1 := World.size_alloc _ _
      rw [hsA] at hrow hb9
      have hbA : Below V.heap.size V (V.alloc (.cells #[.map (some (B + 1 + 1))] 82)) := (Below.refl _ _).alloc (Nat.le_refl _) _
      have hbV : Below V.heap.size V w9 := hbA.trans (hb9.mono (by omega))
      have hKD : w9.heap[D]? = some (.deferred (some [])) := (hbV.block D HDV.out).trans HK.out
      refine ⟨by simp, .inl ⟨_, _, rfl, run_takeDeferred hKD, ?_⟩⟩
      refine ⟨_, results_tmp rfl _ _ _, v9, rfl, ?_, ?_⟩
      · have hw9 := HBL.out.size
        have hsrt : ss.mergeSort (fun x y => decide (x ≤ y)) = Ex.free e := mergeSort_of_perm hperm
        have hlen : ss.length = (Ex.free e).length := by rw [← hsrt, List.length_mergeSort]
        rw [hsrt, hlen] at hrow
        unfold TxRow
        refine own_same (own_low hrow (by omega)) fun g hg => World.putObj_heap_other (fun e => ?_)
        have := (hrow.lt g hg).1
        have := HDV.out
        omega
      · exact (Turns.putObj (M := fun k => w.heap.size ≤ k) w9 D _ (by have := HD.out; have := HB9.out.size; omega)).below (HBL.out.trans (hbV.mono HBL.out.size)) (fun _ h => h) (Nat.le_trans HBL.out.size hbV.size)
    case stop =>
      rintro D M c pre V hD _ _ h _
      exact h.elim
end Go.Proofs.YtmmhpibkjdlkgaaGreat
