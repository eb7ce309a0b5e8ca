/- The sample of stage 11's laws, walked. -/
import Derived.Test.YtncdbbjkafgphaaRpE
import Derived.Test.YtncdbbjkafgphaaPbA
import Derived.Test.YtncdbbjkafgphaaScA
namespace Go.Proofs.Ytncdbbjkafgphaa
open Go Go.RowKit
open Tp (T Bd)
set_option maxRecDepth 100000 in
set_option maxHeartbeats 8000000 in
theorem wakes11_any (w : World) : Calls Try.prog 22 #[] w fun e w' => e = .returned (.bool true) ∧ Below w.heap.size w w' := by
  have h0 : I64 0 := i64_nat (by decide) (by decide)
  have h1 : I64 1 := i64_nat (by decide) (by decide)
  have h4 : I64 4 := i64_nat (by decide) (by decide)
  have h5 : I64 5 := i64_nat (by decide) (by decide)
  have h9 : I64 9 := i64_nat (by decide) (by decide)
  have L1 := Lib.hid (fun w1 => leaf_any 1 w1); have L5 := Lib.hid (fun w1 => leaf_any 5 w1)
  have V4 := Lib.hid (fun w1 => tvar_any 4 w1); have V0 := Lib.hid (fun w1 => tvar_any 0 w1)
  have T44 := Lib.hid (fun (w1 : World) => two_any 9 h9 (.mk 6 4 []) 6 4 0 none 0 (.mk 6 4 []) 6 4 0 none 0 w1 ⟨rfl, rfl, rfl⟩ ⟨rfl, rfl, rfl⟩ (var_at h4) (var_at h4))
  have T00 := Lib.hid (fun (w1 : World) => two_any 9 h9 (.mk 6 0 []) 6 0 0 none 0 (.mk 6 0 []) 6 0 0 none 0 w1 ⟨rfl, rfl, rfl⟩ ⟨rfl, rfl, rfl⟩ (var_at h0) (var_at h0))
  have T11 := Lib.hid (fun (w1 : World) => two_any 9 h9 (.mk 1 0 []) 1 0 0 none 0 (.mk 1 0 []) 1 0 0 none 0 w1 ⟨rfl, rfl, rfl⟩ ⟨rfl, rfl, rfl⟩ (leaf_at h1) (leaf_at h1))
  have T51 := Lib.hid (fun (w1 : World) => two_any 9 h9 (.mk 5 0 []) 5 0 0 none 0 (.mk 1 0 []) 1 0 0 none 0 w1 ⟨rfl, rfl, rfl⟩ ⟨rfl, rfl, rfl⟩ (leaf_at h5) (leaf_at h1))
  have LI5 := Lib.hid (fun (w1 : World) => list_any (.mk 5 0 []) 5 0 0 none 0 w1 ⟨rfl, rfl, rfl⟩ (leaf_at h5))
  have LI0 := Lib.hid (fun (w1 : World) => list_any (.mk 6 0 []) 6 0 0 none 0 w1 ⟨rfl, rfl, rfl⟩ (var_at h0))
  have M05 := Lib.hid (fun (w1 : World) => match_mtc (w := w1) (t := .mk 6 0 []) (u := .mk 5 0 []) (k := 6) (n := 0) (k' := 5) (n' := 0) (m := 0) (m' := 0) (a := none) (a' := none) (c := 0) (c' := 0) ⟨rfl, rfl, rfl⟩ ⟨rfl, rfl, rfl⟩ (var_at h0) (leaf_at h5) (by simp [Tp.size, Tp.sizes]))
  rw [wk_no] at M05
  clear h0 h5 h9
  go_enter Try.func22, Try.ntmps22
  go_wp2_with fail
  refine (V4.out w).mono ?_
  rintro e w1 ⟨rfl, hb⟩
  have HX1 := Lib.hid hb; clear hb
  go_wp2_with fail
  refine (V4.out w1).mono ?_
  rintro e w2 ⟨rfl, hb⟩
  have HX2 := Lib.hid (HX1.out.tr hb (Nat.le_refl _)); clear hb
  go_wp2_with fail
  refine (T44.out w2).mono ?_
  rintro e w3 ⟨g1, rfl, ht, hb⟩
  dsimp only [Tp.T.kind, Tp.T.num]
  obtain ⟨W3, hW3⟩ : ∃ W, w3.alloc (.cells #[.int .i64 9, .int .i64 0, .slice (some ⟨g1, 0, none⟩) 2 2] 24) = W := ⟨_, rfl⟩
  obtain ⟨bx, hb3⟩ := box_new (fv_tv 4) ht hW3
  have HX3 := Lib.hid ((HX2.out.tr hb (Nat.le_refl _)).tr hb3 (Nat.le_refl _)); have BX := Lib.hid bx; have HW3 := Lib.hid hW3
  clear hb ht bx hb3 hW3
  go_upto_region 2 with fail
  rw [HW3.out]
  go_wp2_with fail
  refine (L1.out W3).mono ?_
  rintro e w4 ⟨rfl, hb⟩
  obtain ⟨W4, hW4⟩ : ∃ W, w4.alloc (.cells #[.int .i64 1, .int .i64 0, .slice none 0 0] 24) = W := ⟨_, rfl⟩
  obtain ⟨bi, hb4⟩ := box_new (t := .mk 1 0 []) (k := 1) (n := 0) (m := 0) (a := none) (c := 0) ⟨rfl, rfl, rfl⟩ (leaf_at h1) hW4
  have hd4 := hb.tr hb4 (Nat.le_refl _)
  have BX4 := Lib.hid (BX.out.later hd4); have HX4 := Lib.hid (HX3.out.tr hd4 (Nat.le_refl _)); have BI4 := Lib.hid bi; have HW4 := Lib.hid hW4
  clear hb bi hb4 hW4 hd4
  go_upto_region 3 with fail
  rw [HW4.out]
  obtain ⟨c0, c1, c2⟩ := BX4.out.cells
  obtain ⟨d0, d1, d2⟩ := BI4.out.cells
  obtain ⟨W5, hW5⟩ : ∃ W, W4.alloc (.cells #[.int .i64 4, .int .i64 1, .int .i64 0, .slice none 0 0] 44) = W := ⟨_, rfl⟩
  have hb5 : Below W4.heap.size W4 W5 := by rw [← hW5]; exact (Below.refl _ _).alloc (Nat.le_refl _) _
  have hx5 : W5.heap[W4.heap.size]? = some (.cells #[.int .i64 4, .int .i64 1, .int .i64 0, .slice none 0 0] 44) := by rw [← hW5]; exact World.alloc_heap_new _ _
  have bx5 := BX4.out.later hb5
  have hbd : BindsAt (LT W5.heap.size) W5 [(4, .mk 1 0 [])] (some ⟨W4.heap.size, 0, none⟩) := by
    intro i hi
    have hi0 : i = 0 := by simpa using hi
    subst hi0
    exact ⟨W4.heap.size, 0, none, 0, rfl, (Array.getElem?_eq_some_iff.1 hx5).1, leaf_at h1, cell_box hx5 rfl rfl, cell_box hx5 rfl rfl, cell_box hx5 rfl rfl, cell_box hx5 rfl rfl⟩
  have hsu : Calls Try.prog 13 #[.agg #[.int .i64 9, .int .i64 0, .slice (some ⟨g1, 0, none⟩) 2 2], .slice (some ⟨W4.heap.size, 0, none⟩) 1 1] W5 (SuPost (FV 4) [(4, .mk 1 0 [])] W5) :=
    subst_any [(4, .mk 1 0 [])] (FV 4) 9 0 2 (some ⟨g1, 0, none⟩) 2 (some ⟨W4.heap.size, 0, none⟩) 1 W5 (fv_tv 4) bx5.ty hbd (by simp) (by rw [fv_size]; omega) (fun b hb => by rw [List.mem_singleton.1 hb]; simp [Tp.size, Tp.sizes])
  have HSU := Lib.hid hsu; have HB5 := Lib.hid hb5; have HW5 := Lib.hid hW5
  clear hsu hb5 hx5 bx5 hbd
  go_wp2_with fail

  refine HSU.out.mono ?_
  clear c0 c1 c2 d0 d1 d2 hW5
  rintro e w6 ⟨hb, hcase⟩
  obtain ⟨_, ua, uc, rfl, ht⟩ := hcase.resolve_right (fun h => by have h1 := h.1; rw [wk_sok] at h1; cases h1)
  rw [wk_sub] at ht ⊢
  rw [tv_of (fun_tv 1 1)]
  obtain ⟨W6, hW6⟩ : ∃ W, w6.alloc (.cells #[.int .i64 9, .int .i64 0, .slice ua 2 uc] 24) = W := ⟨_, rfl⟩
  obtain ⟨bu, hb6⟩ := box_new (fun_tv 1 1) ht hW6
  have hd6 := HB5.out.tr (hb.tr hb6 (Nat.le_refl _)) (Nat.le_refl _)
  have BX6 := Lib.hid (BX4.out.later hd6); have BI6 := Lib.hid (BI4.out.later hd6); have HX6 := Lib.hid (HX4.out.tr hd6 (Nat.le_refl _)); have BU6 := Lib.hid bu; have HW6 := Lib.hid hW6
  clear hb ht hcase bu hb6 hW6 hd6
  go_upto_region 4 with fail
  rw [HW6.out]
  obtain ⟨c0, c1, c2⟩ := BX6.out.cells
  obtain ⟨e0, e1, e2⟩ := BU6.out.cells
  have hma := match_mtc (w := W6) BX6.out.says BU6.out.says BX6.out.ty BU6.out.ty (by rw [fv_size]; simp [funT, Tp.size, Tp.sizes])
  rw [wk_mat] at hma
  have HMA := Lib.hid hma; clear hma
  go_wp2_with fail
  refine HMA.out.mono ?_
  clear c0 c1 c2 e0 e1 e2
  rintro e w7 ⟨la, lc, rfl, -, -, hba, hb⟩
  simp only [Option.getD_some, List.length_cons, List.length_nil, Option.isSome_some, Nat.zero_add]
  simp only [Option.getD_some] at hba
  obtain ⟨lb, lo, _, _, rfl, hlb, _, l0, l1, _, _⟩ := hba 0 (by simp)
  simp only [Nat.zero_mul, Nat.add_zero, List.getElem_cons_zero, Tp.T.kind] at l0 l1
  have BX7 := Lib.hid (BX6.out.later hb); have BI7 := Lib.hid (BI6.out.later hb); have BU7 := Lib.hid (BU6.out.later hb); have HX7 := Lib.hid (HX6.out.tr hb (Nat.le_refl _)); have HL7 := Lib.hid (show lb < w7.heap.size ∧ w7.cell? ⟨lb, lo, none⟩ = some (.int .i64 4) ∧ w7.cell? ⟨lb, lo + 1, none⟩ = some (.int .i64 1) from ⟨hlb, l0, l1⟩)
  clear hba hb hlb l0 l1
  go_upto_region 5 with fail
  obtain ⟨c0, c1, c2⟩ := BX7.out.cells
  have hca := canon_any (FV 4) 9 0 2 (some ⟨g1, 0, none⟩) 2 w7 (fv_tv 4) BX7.out.ty (by rw [fv_size]; omega)
  have HCA := Lib.hid hca; clear hca
  go_wp2_with fail
  refine HCA.out.mono ?_
  clear c0 c1 c2
  rintro e w8 ⟨hb, hcase⟩
  obtain ⟨_, ca, cc, rfl, ht⟩ := hcase.resolve_right (fun h => by have h1 := h.1; rw [wk_right 4 (by decide) (by decide)] at h1; cases h1)
  rw [wk_canon] at ht ⊢
  rw [tv_of (fv_tv 0)]
  obtain ⟨W8, hW8⟩ : ∃ W, w8.alloc (.cells #[.int .i64 9, .int .i64 0, .slice ca 2 cc] 24) = W := ⟨_, rfl⟩
  obtain ⟨bc, hb8⟩ := box_new (fv_tv 0) ht hW8
  have hd8 := hb.tr hb8 (Nat.le_refl _)
  have BX8 := Lib.hid (BX7.out.later hd8); have BI8 := Lib.hid (BI7.out.later hd8); have BU8 := Lib.hid (BU7.out.later hd8); have HX8 := Lib.hid (HX7.out.tr hd8 (Nat.le_refl _)); have BC8 := Lib.hid bc; have HW8 := Lib.hid hW8; have HD8 := Lib.hid hd8
  clear hb ht hcase bc hb8 hW8 hd8
  go_upto_region 6 with fail
  rw [HW8.out]
  go_wp2_with fail
  refine (V0.out W8).mono ?_
  rintro e w9 ⟨rfl, hb⟩
  have HD9 := Lib.hid hb; clear hb
  go_wp2_with fail
  refine (L5.out w9).mono ?_
  rintro e w10 ⟨rfl, hb⟩
  have HD10 := Lib.hid (HD9.out.tr hb (Nat.le_refl _)); clear hb
  go_wp2_with fail
  refine (M05.out w10).mono ?_
  rintro e w11 ⟨na, nc, rfl, -, -, -, hb⟩
  simp only [Option.getD_none, List.length_nil, Option.isSome_none]
  have hd11 := HD10.out.tr hb (Nat.le_refl _)
  have bx := BX8.out.later hd11; have bi := BI8.out.later hd11; have bu := BU8.out.later hd11; have bc := BC8.out.later hd11
  have hl : lb < w11.heap.size ∧ w11.cell? ⟨lb, lo, none⟩ = some (.int .i64 4) ∧ w11.cell? ⟨lb, lo + 1, none⟩ = some (.int .i64 1) := by
    have h1 := HD8.out.tr hd11 (Nat.le_refl _)
    obtain ⟨g1, g2, g3⟩ := HL7.out
    exact ⟨Nat.lt_of_lt_of_le g1 h1.size, (h1.cell (p := ⟨lb, lo, none⟩) g1).trans g2, (h1.cell (p := ⟨lb, lo + 1, none⟩) g1).trans g3⟩
  have HX11 := Lib.hid (HX8.out.tr hd11 (Nat.le_refl _))
  have HCELL := Lib.hid (fun x (h : Below w11.heap.size w11 x) => (⟨(bx.later h).cells, (bi.later h).cells, (bu.later h).cells, (bc.later h).cells, (h.cell (p := ⟨lb, lo, none⟩) hl.1).trans hl.2.1, (h.cell (p := ⟨lb, lo + 1, none⟩) hl.1).trans hl.2.2⟩ : _ ∧ _ ∧ _ ∧ _ ∧ _ ∧ _))
  have HLE := Lib.hid (fun x (h : Below w11.heap.size w11 x) => h.size)
  have HSU1 := Lib.hid (fun x (h : Below w11.heap.size w11 x) g (ht : TyAt (LT x.heap.size) x (funT 1 1) (some ⟨g, 0, none⟩) 2) => ks_any (w := x) (bu.later h).says (fun_tv 1 1) (bu.later h).ty ht)
  have HSC := Lib.hid (fun x (h : Below w11.heap.size w11 x) g (ht : TyAt (LT x.heap.size) x (FV 0) (some ⟨g, 0, none⟩) 2) => ks_any (w := x) (bc.later h).says (fv_tv 0) (bc.later h).ty ht)
  have HUN := Lib.hid (fun x (h : Below w11.heap.size w11 x) g (ht : TyAt (LT x.heap.size) x (funT 5 1) (some ⟨g, 0, none⟩) 2) => under_ub (w := x) (bx.later h).says (fun_tv 5 1) (bx.later h).ty ht (by rw [fv_size]; simp [funT, Tp.size, Tp.sizes]))
  have HUL := Lib.hid (fun (x : World) g (ht : TyAt (LT x.heap.size) x (.mk 8 0 [.mk 5 0 []]) (some ⟨g, 0, none⟩) 1) g' (ht' : TyAt (LT x.heap.size) x (.mk 8 0 [.mk 6 0 []]) (some ⟨g', 0, none⟩) 1) => under_ub (w := x) (t := .mk 8 0 [.mk 5 0 []]) (u := .mk 8 0 [.mk 6 0 []]) (k := 8) (n := 0) (m := 1) (k' := 8) (n' := 0) (m' := 1) ⟨rfl, rfl, rfl⟩ ⟨rfl, rfl, rfl⟩ ht ht' (by simp [Tp.size, Tp.sizes]))
  rw [Tp.same_refl] at HSU1 HSC; rw [wk_under] at HUN; rw [wk_not] at HUL
  clear hb hd11 bx bi bu bc hl h1 h4
  go_upto_region 7 with fail
  have HBd := Lib.hid (Below.refl w11.heap.size w11).drew
  obtain ⟨⟨c0, c1, c2⟩, ⟨d0, d1, d2⟩, ⟨e0, e1, e2⟩, ⟨f0, f1, f2⟩, l0, l1⟩ := HCELL.out _ HBd.out
  refine wp_region_seq [(0, false), (0, false), (0, false), (0, false), (0, false), (0, false), (0, true), (0, true), (0, false), (0, false), (0, false), (0, false), (0, false), (0, false), (0, false), (0, false), (0, false), (0, false), (0, false), (0, false), (0, false), (0, false), (0, false), (0, false), (0, false), (0, false), (0, false), (0, false), (0, false), (0, false), (0, false), (0, false), (0, false), (0, false), (0, false), (0, false), (0, false), (0, false), (0, true), (0, true), (0, true), (0, true), (0, false), (0, false), (0, false), (0, false), (0, false), (0, false), (0, false), (1, false), (0, true), (0, true), (0, true), (0, false), (0, false), (0, true), (0, true), (0, true), (0, true), (0, true), (0, false), (0, false), (0, false)] (by kernel_rfl) (by kernel_rfl) (by kernel_rfl) (fun _ _ _ d _ h => by cases d <;> exact h) ?_
  repeat
    first
    | (first | with_reducible refine sp0 (fun K hK => ?_) | with_reducible refine sp1 (fun K hK => ?_) | with_reducible refine sp2 (fun K hK => ?_) | with_reducible refine sp3 (fun K hK => ?_) | with_reducible refine sp4 (fun K hK => ?_)
       go_simp
       first
       | (with_reducible refine hK _ _ ?_; clear hK K)
       | (with_reducible apply Exists.intro
          refine ⟨fun x hx => ?_, hK _ _ ?_⟩
          first
            | (with_reducible exact rfl)
            | (have y0 := keepc hx c0; have y1 := keepc hx c1; have y2 := keepc hx c2; have y3 := keepc hx d0; have y4 := keepc hx d1; have y5 := keepc hx d2; have y6 := keepc hx e0; have y7 := keepc hx e1; have y8 := keepc hx e2; have y9 := keepc hx f0; have y10 := keepc hx f1; have y11 := keepc hx f2; have y12 := keepc hx l0; have y13 := keepc hx l1; go_simp; done)
            | (have y0 := keepc hx c0; have y1 := keepc hx c1; have y2 := keepc hx c2; have y3 := keepc hx d0; have y4 := keepc hx d1; have y5 := keepc hx d2; have y6 := keepc hx e0; have y7 := keepc hx e1; have y8 := keepc hx e2; have y9 := keepc hx f0; have y10 := keepc hx f1; have y11 := keepc hx f2; have y12 := keepc hx l0; have y13 := keepc hx l1; go_simp; with_reducible exact rfl)
          clear hK K))
    | (first | with_reducible refine sk0 ?_ (fun K hK => ?_) | with_reducible refine sk1 ?_ (fun K hK => ?_) | with_reducible refine sk2 ?_ (fun K hK => ?_) | with_reducible refine sk3 ?_ (fun K hK => ?_) | with_reducible refine sk4 ?_ (fun K hK => ?_)
       rfl
       go_simp
       with_reducible refine hK _ _ ?_
       clear hK K)
  first | with_reducible refine sc0 (fun K hK => ?_) | with_reducible refine sc1 (fun K hK => ?_) | with_reducible refine sc2 (fun K hK => ?_) | with_reducible refine sc3 (fun K hK => ?_) | with_reducible refine sc4 (fun K hK => ?_)
  go_simp
  refine (T11.out _).mono ?_
  clear c0 c1 c2 d0 d1 d2 e0 e1 e2 f0 f1 f2 l0 l1
  rintro e x1 ⟨q1, rfl, ht, hb⟩
  dsimp only [Tp.T.kind, Tp.T.num]
  refine ⟨hb, hK _ _ ?_⟩
  clear hK K
  have HE1 := Lib.hid (HBd.out.trans (hb.mono (HLE.out _ HBd.out))); have HT1 := Lib.hid ht; have HS1 := Lib.hid hb
  clear hb ht
  obtain ⟨⟨c0, c1, c2⟩, ⟨d0, d1, d2⟩, ⟨e0, e1, e2⟩, ⟨f0, f1, f2⟩, l0, l1⟩ := HCELL.out _ HE1.out
  repeat
    first
    | (first | with_reducible refine sp0 (fun K hK => ?_) | with_reducible refine sp1 (fun K hK => ?_) | with_reducible refine sp2 (fun K hK => ?_) | with_reducible refine sp3 (fun K hK => ?_) | with_reducible refine sp4 (fun K hK => ?_)
       go_simp
       first
       | (with_reducible refine hK _ _ ?_; clear hK K)
       | (with_reducible apply Exists.intro
          refine ⟨fun x hx => ?_, hK _ _ ?_⟩
          first
            | (with_reducible exact rfl)
            | (have y0 := keepc hx c0; have y1 := keepc hx c1; have y2 := keepc hx c2; have y3 := keepc hx d0; have y4 := keepc hx d1; have y5 := keepc hx d2; have y6 := keepc hx e0; have y7 := keepc hx e1; have y8 := keepc hx e2; have y9 := keepc hx f0; have y10 := keepc hx f1; have y11 := keepc hx f2; have y12 := keepc hx l0; have y13 := keepc hx l1; go_simp; done)
            | (have y0 := keepc hx c0; have y1 := keepc hx c1; have y2 := keepc hx c2; have y3 := keepc hx d0; have y4 := keepc hx d1; have y5 := keepc hx d2; have y6 := keepc hx e0; have y7 := keepc hx e1; have y8 := keepc hx e2; have y9 := keepc hx f0; have y10 := keepc hx f1; have y11 := keepc hx f2; have y12 := keepc hx l0; have y13 := keepc hx l1; go_simp; with_reducible exact rfl)
          clear hK K))
    | (first | with_reducible refine sk0 ?_ (fun K hK => ?_) | with_reducible refine sk1 ?_ (fun K hK => ?_) | with_reducible refine sk2 ?_ (fun K hK => ?_) | with_reducible refine sk3 ?_ (fun K hK => ?_) | with_reducible refine sk4 ?_ (fun K hK => ?_)
       rfl
       go_simp
       with_reducible refine hK _ _ ?_
       clear hK K)
  first | with_reducible refine sc0 (fun K hK => ?_) | with_reducible refine sc1 (fun K hK => ?_) | with_reducible refine sc2 (fun K hK => ?_) | with_reducible refine sc3 (fun K hK => ?_) | with_reducible refine sc4 (fun K hK => ?_)
  go_simp
  refine (HSU1.out _ HE1.out q1 HT1.out).mono ?_
  clear c0 c1 c2 d0 d1 d2 e0 e1 e2 f0 f1 f2 l0 l1
  rintro e x2 ⟨rfl, hb9⟩
  refine ⟨hb9, hK _ _ ?_⟩
  clear hK K
  have HE2 := Lib.hid (HE1.out.trans (hb9.mono (HLE.out _ HE1.out)))
  clear hb9
  obtain ⟨⟨c0, c1, c2⟩, ⟨d0, d1, d2⟩, ⟨e0, e1, e2⟩, ⟨f0, f1, f2⟩, l0, l1⟩ := HCELL.out x2 HE2.out
  repeat
    first
    | (first | with_reducible refine sp0 (fun K hK => ?_) | with_reducible refine sp1 (fun K hK => ?_) | with_reducible refine sp2 (fun K hK => ?_) | with_reducible refine sp3 (fun K hK => ?_) | with_reducible refine sp4 (fun K hK => ?_)
       go_simp
       first
       | (with_reducible refine hK _ _ ?_; clear hK K)
       | (with_reducible apply Exists.intro
          refine ⟨fun x hx => ?_, hK _ _ ?_⟩
          first
            | (with_reducible exact rfl)
            | (have y0 := keepc hx c0; have y1 := keepc hx c1; have y2 := keepc hx c2; have y3 := keepc hx d0; have y4 := keepc hx d1; have y5 := keepc hx d2; have y6 := keepc hx e0; have y7 := keepc hx e1; have y8 := keepc hx e2; have y9 := keepc hx f0; have y10 := keepc hx f1; have y11 := keepc hx f2; have y12 := keepc hx l0; have y13 := keepc hx l1; go_simp; done)
            | (have y0 := keepc hx c0; have y1 := keepc hx c1; have y2 := keepc hx c2; have y3 := keepc hx d0; have y4 := keepc hx d1; have y5 := keepc hx d2; have y6 := keepc hx e0; have y7 := keepc hx e1; have y8 := keepc hx e2; have y9 := keepc hx f0; have y10 := keepc hx f1; have y11 := keepc hx f2; have y12 := keepc hx l0; have y13 := keepc hx l1; go_simp; with_reducible exact rfl)
          clear hK K))
    | (first | with_reducible refine sk0 ?_ (fun K hK => ?_) | with_reducible refine sk1 ?_ (fun K hK => ?_) | with_reducible refine sk2 ?_ (fun K hK => ?_) | with_reducible refine sk3 ?_ (fun K hK => ?_) | with_reducible refine sk4 ?_ (fun K hK => ?_)
       rfl
       go_simp
       with_reducible refine hK _ _ ?_
       clear hK K)
  first | with_reducible refine sc0 (fun K hK => ?_) | with_reducible refine sc1 (fun K hK => ?_) | with_reducible refine sc2 (fun K hK => ?_) | with_reducible refine sc3 (fun K hK => ?_) | with_reducible refine sc4 (fun K hK => ?_)
  go_simp
  refine (V0.out _).mono ?_
  clear c0 c1 c2 d0 d1 d2 e0 e1 e2 f0 f1 f2 l0 l1
  rintro e x3 ⟨rfl, hb9⟩
  refine ⟨hb9, hK _ _ ?_⟩
  clear hK K
  have HE3 := Lib.hid (HE2.out.trans (hb9.mono (HLE.out _ HE2.out)))
  clear hb9
  obtain ⟨⟨c0, c1, c2⟩, ⟨d0, d1, d2⟩, ⟨e0, e1, e2⟩, ⟨f0, f1, f2⟩, l0, l1⟩ := HCELL.out x3 HE3.out
  repeat
    first
    | (first | with_reducible refine sp0 (fun K hK => ?_) | with_reducible refine sp1 (fun K hK => ?_) | with_reducible refine sp2 (fun K hK => ?_) | with_reducible refine sp3 (fun K hK => ?_) | with_reducible refine sp4 (fun K hK => ?_)
       go_simp
       first
       | (with_reducible refine hK _ _ ?_; clear hK K)
       | (with_reducible apply Exists.intro
          refine ⟨fun x hx => ?_, hK _ _ ?_⟩
          first
            | (with_reducible exact rfl)
            | (have y0 := keepc hx c0; have y1 := keepc hx c1; have y2 := keepc hx c2; have y3 := keepc hx d0; have y4 := keepc hx d1; have y5 := keepc hx d2; have y6 := keepc hx e0; have y7 := keepc hx e1; have y8 := keepc hx e2; have y9 := keepc hx f0; have y10 := keepc hx f1; have y11 := keepc hx f2; have y12 := keepc hx l0; have y13 := keepc hx l1; go_simp; done)
            | (have y0 := keepc hx c0; have y1 := keepc hx c1; have y2 := keepc hx c2; have y3 := keepc hx d0; have y4 := keepc hx d1; have y5 := keepc hx d2; have y6 := keepc hx e0; have y7 := keepc hx e1; have y8 := keepc hx e2; have y9 := keepc hx f0; have y10 := keepc hx f1; have y11 := keepc hx f2; have y12 := keepc hx l0; have y13 := keepc hx l1; go_simp; with_reducible exact rfl)
          clear hK K))
    | (first | with_reducible refine sk0 ?_ (fun K hK => ?_) | with_reducible refine sk1 ?_ (fun K hK => ?_) | with_reducible refine sk2 ?_ (fun K hK => ?_) | with_reducible refine sk3 ?_ (fun K hK => ?_) | with_reducible refine sk4 ?_ (fun K hK => ?_)
       rfl
       go_simp
       with_reducible refine hK _ _ ?_
       clear hK K)
  first | with_reducible refine sc0 (fun K hK => ?_) | with_reducible refine sc1 (fun K hK => ?_) | with_reducible refine sc2 (fun K hK => ?_) | with_reducible refine sc3 (fun K hK => ?_) | with_reducible refine sc4 (fun K hK => ?_)
  go_simp
  refine (V0.out _).mono ?_
  clear c0 c1 c2 d0 d1 d2 e0 e1 e2 f0 f1 f2 l0 l1
  rintro e x4 ⟨rfl, hb9⟩
  refine ⟨hb9, hK _ _ ?_⟩
  clear hK K
  have HE4 := Lib.hid (HE3.out.trans (hb9.mono (HLE.out _ HE3.out)))
  clear hb9
  obtain ⟨⟨c0, c1, c2⟩, ⟨d0, d1, d2⟩, ⟨e0, e1, e2⟩, ⟨f0, f1, f2⟩, l0, l1⟩ := HCELL.out x4 HE4.out
  repeat
    first
    | (first | with_reducible refine sp0 (fun K hK => ?_) | with_reducible refine sp1 (fun K hK => ?_) | with_reducible refine sp2 (fun K hK => ?_) | with_reducible refine sp3 (fun K hK => ?_) | with_reducible refine sp4 (fun K hK => ?_)
       go_simp
       first
       | (with_reducible refine hK _ _ ?_; clear hK K)
       | (with_reducible apply Exists.intro
          refine ⟨fun x hx => ?_, hK _ _ ?_⟩
          first
            | (with_reducible exact rfl)
            | (have y0 := keepc hx c0; have y1 := keepc hx c1; have y2 := keepc hx c2; have y3 := keepc hx d0; have y4 := keepc hx d1; have y5 := keepc hx d2; have y6 := keepc hx e0; have y7 := keepc hx e1; have y8 := keepc hx e2; have y9 := keepc hx f0; have y10 := keepc hx f1; have y11 := keepc hx f2; have y12 := keepc hx l0; have y13 := keepc hx l1; go_simp; done)
            | (have y0 := keepc hx c0; have y1 := keepc hx c1; have y2 := keepc hx c2; have y3 := keepc hx d0; have y4 := keepc hx d1; have y5 := keepc hx d2; have y6 := keepc hx e0; have y7 := keepc hx e1; have y8 := keepc hx e2; have y9 := keepc hx f0; have y10 := keepc hx f1; have y11 := keepc hx f2; have y12 := keepc hx l0; have y13 := keepc hx l1; go_simp; with_reducible exact rfl)
          clear hK K))
    | (first | with_reducible refine sk0 ?_ (fun K hK => ?_) | with_reducible refine sk1 ?_ (fun K hK => ?_) | with_reducible refine sk2 ?_ (fun K hK => ?_) | with_reducible refine sk3 ?_ (fun K hK => ?_) | with_reducible refine sk4 ?_ (fun K hK => ?_)
       rfl
       go_simp
       with_reducible refine hK _ _ ?_
       clear hK K)
  first | with_reducible refine sc0 (fun K hK => ?_) | with_reducible refine sc1 (fun K hK => ?_) | with_reducible refine sc2 (fun K hK => ?_) | with_reducible refine sc3 (fun K hK => ?_) | with_reducible refine sc4 (fun K hK => ?_)
  go_simp
  refine (T00.out _).mono ?_
  clear c0 c1 c2 d0 d1 d2 e0 e1 e2 f0 f1 f2 l0 l1
  rintro e x5 ⟨q5, rfl, ht, hb⟩
  dsimp only [Tp.T.kind, Tp.T.num]
  refine ⟨hb, hK _ _ ?_⟩
  clear hK K
  have HE5 := Lib.hid (HE4.out.trans (hb.mono (HLE.out _ HE4.out))); have HT5 := Lib.hid ht; have HS5 := Lib.hid hb
  clear hb ht
  obtain ⟨⟨c0, c1, c2⟩, ⟨d0, d1, d2⟩, ⟨e0, e1, e2⟩, ⟨f0, f1, f2⟩, l0, l1⟩ := HCELL.out _ HE5.out
  repeat
    first
    | (first | with_reducible refine sp0 (fun K hK => ?_) | with_reducible refine sp1 (fun K hK => ?_) | with_reducible refine sp2 (fun K hK => ?_) | with_reducible refine sp3 (fun K hK => ?_) | with_reducible refine sp4 (fun K hK => ?_)
       go_simp
       first
       | (with_reducible refine hK _ _ ?_; clear hK K)
       | (with_reducible apply Exists.intro
          refine ⟨fun x hx => ?_, hK _ _ ?_⟩
          first
            | (with_reducible exact rfl)
            | (have y0 := keepc hx c0; have y1 := keepc hx c1; have y2 := keepc hx c2; have y3 := keepc hx d0; have y4 := keepc hx d1; have y5 := keepc hx d2; have y6 := keepc hx e0; have y7 := keepc hx e1; have y8 := keepc hx e2; have y9 := keepc hx f0; have y10 := keepc hx f1; have y11 := keepc hx f2; have y12 := keepc hx l0; have y13 := keepc hx l1; go_simp; done)
            | (have y0 := keepc hx c0; have y1 := keepc hx c1; have y2 := keepc hx c2; have y3 := keepc hx d0; have y4 := keepc hx d1; have y5 := keepc hx d2; have y6 := keepc hx e0; have y7 := keepc hx e1; have y8 := keepc hx e2; have y9 := keepc hx f0; have y10 := keepc hx f1; have y11 := keepc hx f2; have y12 := keepc hx l0; have y13 := keepc hx l1; go_simp; with_reducible exact rfl)
          clear hK K))
    | (first | with_reducible refine sk0 ?_ (fun K hK => ?_) | with_reducible refine sk1 ?_ (fun K hK => ?_) | with_reducible refine sk2 ?_ (fun K hK => ?_) | with_reducible refine sk3 ?_ (fun K hK => ?_) | with_reducible refine sk4 ?_ (fun K hK => ?_)
       rfl
       go_simp
       with_reducible refine hK _ _ ?_
       clear hK K)
  first | with_reducible refine sc0 (fun K hK => ?_) | with_reducible refine sc1 (fun K hK => ?_) | with_reducible refine sc2 (fun K hK => ?_) | with_reducible refine sc3 (fun K hK => ?_) | with_reducible refine sc4 (fun K hK => ?_)
  go_simp
  refine (HSC.out _ HE5.out q5 HT5.out).mono ?_
  clear c0 c1 c2 d0 d1 d2 e0 e1 e2 f0 f1 f2 l0 l1
  rintro e x6 ⟨rfl, hb9⟩
  refine ⟨hb9, hK _ _ ?_⟩
  clear hK K
  have HE6 := Lib.hid (HE5.out.trans (hb9.mono (HLE.out _ HE5.out)))
  clear hb9
  obtain ⟨⟨c0, c1, c2⟩, ⟨d0, d1, d2⟩, ⟨e0, e1, e2⟩, ⟨f0, f1, f2⟩, l0, l1⟩ := HCELL.out x6 HE6.out
  repeat
    first
    | (first | with_reducible refine sp0 (fun K hK => ?_) | with_reducible refine sp1 (fun K hK => ?_) | with_reducible refine sp2 (fun K hK => ?_) | with_reducible refine sp3 (fun K hK => ?_) | with_reducible refine sp4 (fun K hK => ?_)
       go_simp
       first
       | (with_reducible refine hK _ _ ?_; clear hK K)
       | (with_reducible apply Exists.intro
          refine ⟨fun x hx => ?_, hK _ _ ?_⟩
          first
            | (with_reducible exact rfl)
            | (have y0 := keepc hx c0; have y1 := keepc hx c1; have y2 := keepc hx c2; have y3 := keepc hx d0; have y4 := keepc hx d1; have y5 := keepc hx d2; have y6 := keepc hx e0; have y7 := keepc hx e1; have y8 := keepc hx e2; have y9 := keepc hx f0; have y10 := keepc hx f1; have y11 := keepc hx f2; have y12 := keepc hx l0; have y13 := keepc hx l1; go_simp; done)
            | (have y0 := keepc hx c0; have y1 := keepc hx c1; have y2 := keepc hx c2; have y3 := keepc hx d0; have y4 := keepc hx d1; have y5 := keepc hx d2; have y6 := keepc hx e0; have y7 := keepc hx e1; have y8 := keepc hx e2; have y9 := keepc hx f0; have y10 := keepc hx f1; have y11 := keepc hx f2; have y12 := keepc hx l0; have y13 := keepc hx l1; go_simp; with_reducible exact rfl)
          clear hK K))
    | (first | with_reducible refine sk0 ?_ (fun K hK => ?_) | with_reducible refine sk1 ?_ (fun K hK => ?_) | with_reducible refine sk2 ?_ (fun K hK => ?_) | with_reducible refine sk3 ?_ (fun K hK => ?_) | with_reducible refine sk4 ?_ (fun K hK => ?_)
       rfl
       go_simp
       with_reducible refine hK _ _ ?_
       clear hK K)
  first | with_reducible refine sc0 (fun K hK => ?_) | with_reducible refine sc1 (fun K hK => ?_) | with_reducible refine sc2 (fun K hK => ?_) | with_reducible refine sc3 (fun K hK => ?_) | with_reducible refine sc4 (fun K hK => ?_)
  go_simp
  refine (L5.out _).mono ?_
  clear c0 c1 c2 d0 d1 d2 e0 e1 e2 f0 f1 f2 l0 l1
  rintro e x7 ⟨rfl, hb9⟩
  refine ⟨hb9, hK _ _ ?_⟩
  clear hK K
  have HE7 := Lib.hid (HE6.out.trans (hb9.mono (HLE.out _ HE6.out)))
  clear hb9
  obtain ⟨⟨c0, c1, c2⟩, ⟨d0, d1, d2⟩, ⟨e0, e1, e2⟩, ⟨f0, f1, f2⟩, l0, l1⟩ := HCELL.out x7 HE7.out
  repeat
    first
    | (first | with_reducible refine sp0 (fun K hK => ?_) | with_reducible refine sp1 (fun K hK => ?_) | with_reducible refine sp2 (fun K hK => ?_) | with_reducible refine sp3 (fun K hK => ?_) | with_reducible refine sp4 (fun K hK => ?_)
       go_simp
       first
       | (with_reducible refine hK _ _ ?_; clear hK K)
       | (with_reducible apply Exists.intro
          refine ⟨fun x hx => ?_, hK _ _ ?_⟩
          first
            | (with_reducible exact rfl)
            | (have y0 := keepc hx c0; have y1 := keepc hx c1; have y2 := keepc hx c2; have y3 := keepc hx d0; have y4 := keepc hx d1; have y5 := keepc hx d2; have y6 := keepc hx e0; have y7 := keepc hx e1; have y8 := keepc hx e2; have y9 := keepc hx f0; have y10 := keepc hx f1; have y11 := keepc hx f2; have y12 := keepc hx l0; have y13 := keepc hx l1; go_simp; done)
            | (have y0 := keepc hx c0; have y1 := keepc hx c1; have y2 := keepc hx c2; have y3 := keepc hx d0; have y4 := keepc hx d1; have y5 := keepc hx d2; have y6 := keepc hx e0; have y7 := keepc hx e1; have y8 := keepc hx e2; have y9 := keepc hx f0; have y10 := keepc hx f1; have y11 := keepc hx f2; have y12 := keepc hx l0; have y13 := keepc hx l1; go_simp; with_reducible exact rfl)
          clear hK K))
    | (first | with_reducible refine sk0 ?_ (fun K hK => ?_) | with_reducible refine sk1 ?_ (fun K hK => ?_) | with_reducible refine sk2 ?_ (fun K hK => ?_) | with_reducible refine sk3 ?_ (fun K hK => ?_) | with_reducible refine sk4 ?_ (fun K hK => ?_)
       rfl
       go_simp
       with_reducible refine hK _ _ ?_
       clear hK K)
  first | with_reducible refine sc0 (fun K hK => ?_) | with_reducible refine sc1 (fun K hK => ?_) | with_reducible refine sc2 (fun K hK => ?_) | with_reducible refine sc3 (fun K hK => ?_) | with_reducible refine sc4 (fun K hK => ?_)
  go_simp
  refine (T51.out _).mono ?_
  clear c0 c1 c2 d0 d1 d2 e0 e1 e2 f0 f1 f2 l0 l1
  rintro e x8 ⟨q8, rfl, ht, hb⟩
  dsimp only [Tp.T.kind, Tp.T.num]
  refine ⟨hb, hK _ _ ?_⟩
  clear hK K
  have HE8 := Lib.hid (HE7.out.trans (hb.mono (HLE.out _ HE7.out))); have HT8 := Lib.hid ht; have HS8 := Lib.hid hb
  clear hb ht
  obtain ⟨⟨c0, c1, c2⟩, ⟨d0, d1, d2⟩, ⟨e0, e1, e2⟩, ⟨f0, f1, f2⟩, l0, l1⟩ := HCELL.out _ HE8.out
  repeat
    first
    | (first | with_reducible refine sp0 (fun K hK => ?_) | with_reducible refine sp1 (fun K hK => ?_) | with_reducible refine sp2 (fun K hK => ?_) | with_reducible refine sp3 (fun K hK => ?_) | with_reducible refine sp4 (fun K hK => ?_)
       go_simp
       first
       | (with_reducible refine hK _ _ ?_; clear hK K)
       | (with_reducible apply Exists.intro
          refine ⟨fun x hx => ?_, hK _ _ ?_⟩
          first
            | (with_reducible exact rfl)
            | (have y0 := keepc hx c0; have y1 := keepc hx c1; have y2 := keepc hx c2; have y3 := keepc hx d0; have y4 := keepc hx d1; have y5 := keepc hx d2; have y6 := keepc hx e0; have y7 := keepc hx e1; have y8 := keepc hx e2; have y9 := keepc hx f0; have y10 := keepc hx f1; have y11 := keepc hx f2; have y12 := keepc hx l0; have y13 := keepc hx l1; go_simp; done)
            | (have y0 := keepc hx c0; have y1 := keepc hx c1; have y2 := keepc hx c2; have y3 := keepc hx d0; have y4 := keepc hx d1; have y5 := keepc hx d2; have y6 := keepc hx e0; have y7 := keepc hx e1; have y8 := keepc hx e2; have y9 := keepc hx f0; have y10 := keepc hx f1; have y11 := keepc hx f2; have y12 := keepc hx l0; have y13 := keepc hx l1; go_simp; with_reducible exact rfl)
          clear hK K))
    | (first | with_reducible refine sk0 ?_ (fun K hK => ?_) | with_reducible refine sk1 ?_ (fun K hK => ?_) | with_reducible refine sk2 ?_ (fun K hK => ?_) | with_reducible refine sk3 ?_ (fun K hK => ?_) | with_reducible refine sk4 ?_ (fun K hK => ?_)
       rfl
       go_simp
       with_reducible refine hK _ _ ?_
       clear hK K)
  first | with_reducible refine sc0 (fun K hK => ?_) | with_reducible refine sc1 (fun K hK => ?_) | with_reducible refine sc2 (fun K hK => ?_) | with_reducible refine sc3 (fun K hK => ?_) | with_reducible refine sc4 (fun K hK => ?_)
  go_simp
  refine (HUN.out _ HE8.out q8 HT8.out).mono ?_
  clear c0 c1 c2 d0 d1 d2 e0 e1 e2 f0 f1 f2 l0 l1
  rintro e x9 ⟨rfl, hb9⟩
  refine ⟨hb9, hK _ _ ?_⟩
  clear hK K
  have HE9 := Lib.hid (HE8.out.trans (hb9.mono (HLE.out _ HE8.out)))
  clear hb9
  obtain ⟨⟨c0, c1, c2⟩, ⟨d0, d1, d2⟩, ⟨e0, e1, e2⟩, ⟨f0, f1, f2⟩, l0, l1⟩ := HCELL.out x9 HE9.out
  repeat
    first
    | (first | with_reducible refine sp0 (fun K hK => ?_) | with_reducible refine sp1 (fun K hK => ?_) | with_reducible refine sp2 (fun K hK => ?_) | with_reducible refine sp3 (fun K hK => ?_) | with_reducible refine sp4 (fun K hK => ?_)
       go_simp
       first
       | (with_reducible refine hK _ _ ?_; clear hK K)
       | (with_reducible apply Exists.intro
          refine ⟨fun x hx => ?_, hK _ _ ?_⟩
          first
            | (with_reducible exact rfl)
            | (have y0 := keepc hx c0; have y1 := keepc hx c1; have y2 := keepc hx c2; have y3 := keepc hx d0; have y4 := keepc hx d1; have y5 := keepc hx d2; have y6 := keepc hx e0; have y7 := keepc hx e1; have y8 := keepc hx e2; have y9 := keepc hx f0; have y10 := keepc hx f1; have y11 := keepc hx f2; have y12 := keepc hx l0; have y13 := keepc hx l1; go_simp; done)
            | (have y0 := keepc hx c0; have y1 := keepc hx c1; have y2 := keepc hx c2; have y3 := keepc hx d0; have y4 := keepc hx d1; have y5 := keepc hx d2; have y6 := keepc hx e0; have y7 := keepc hx e1; have y8 := keepc hx e2; have y9 := keepc hx f0; have y10 := keepc hx f1; have y11 := keepc hx f2; have y12 := keepc hx l0; have y13 := keepc hx l1; go_simp; with_reducible exact rfl)
          clear hK K))
    | (first | with_reducible refine sk0 ?_ (fun K hK => ?_) | with_reducible refine sk1 ?_ (fun K hK => ?_) | with_reducible refine sk2 ?_ (fun K hK => ?_) | with_reducible refine sk3 ?_ (fun K hK => ?_) | with_reducible refine sk4 ?_ (fun K hK => ?_)
       rfl
       go_simp
       with_reducible refine hK _ _ ?_
       clear hK K)
  first | with_reducible refine sc0 (fun K hK => ?_) | with_reducible refine sc1 (fun K hK => ?_) | with_reducible refine sc2 (fun K hK => ?_) | with_reducible refine sc3 (fun K hK => ?_) | with_reducible refine sc4 (fun K hK => ?_)
  go_simp
  refine (L5.out _).mono ?_
  clear c0 c1 c2 d0 d1 d2 e0 e1 e2 f0 f1 f2 l0 l1
  rintro e x10 ⟨rfl, hb9⟩
  refine ⟨hb9, hK _ _ ?_⟩
  clear hK K
  have HE10 := Lib.hid (HE9.out.trans (hb9.mono (HLE.out _ HE9.out)))
  clear hb9
  obtain ⟨⟨c0, c1, c2⟩, ⟨d0, d1, d2⟩, ⟨e0, e1, e2⟩, ⟨f0, f1, f2⟩, l0, l1⟩ := HCELL.out x10 HE10.out
  repeat
    first
    | (first | with_reducible refine sp0 (fun K hK => ?_) | with_reducible refine sp1 (fun K hK => ?_) | with_reducible refine sp2 (fun K hK => ?_) | with_reducible refine sp3 (fun K hK => ?_) | with_reducible refine sp4 (fun K hK => ?_)
       go_simp
       first
       | (with_reducible refine hK _ _ ?_; clear hK K)
       | (with_reducible apply Exists.intro
          refine ⟨fun x hx => ?_, hK _ _ ?_⟩
          first
            | (with_reducible exact rfl)
            | (have y0 := keepc hx c0; have y1 := keepc hx c1; have y2 := keepc hx c2; have y3 := keepc hx d0; have y4 := keepc hx d1; have y5 := keepc hx d2; have y6 := keepc hx e0; have y7 := keepc hx e1; have y8 := keepc hx e2; have y9 := keepc hx f0; have y10 := keepc hx f1; have y11 := keepc hx f2; have y12 := keepc hx l0; have y13 := keepc hx l1; go_simp; done)
            | (have y0 := keepc hx c0; have y1 := keepc hx c1; have y2 := keepc hx c2; have y3 := keepc hx d0; have y4 := keepc hx d1; have y5 := keepc hx d2; have y6 := keepc hx e0; have y7 := keepc hx e1; have y8 := keepc hx e2; have y9 := keepc hx f0; have y10 := keepc hx f1; have y11 := keepc hx f2; have y12 := keepc hx l0; have y13 := keepc hx l1; go_simp; with_reducible exact rfl)
          clear hK K))
    | (first | with_reducible refine sk0 ?_ (fun K hK => ?_) | with_reducible refine sk1 ?_ (fun K hK => ?_) | with_reducible refine sk2 ?_ (fun K hK => ?_) | with_reducible refine sk3 ?_ (fun K hK => ?_) | with_reducible refine sk4 ?_ (fun K hK => ?_)
       rfl
       go_simp
       with_reducible refine hK _ _ ?_
       clear hK K)
  first | with_reducible refine sc0 (fun K hK => ?_) | with_reducible refine sc1 (fun K hK => ?_) | with_reducible refine sc2 (fun K hK => ?_) | with_reducible refine sc3 (fun K hK => ?_) | with_reducible refine sc4 (fun K hK => ?_)
  go_simp
  refine (LI5.out _).mono ?_
  clear c0 c1 c2 d0 d1 d2 e0 e1 e2 f0 f1 f2 l0 l1
  rintro e x11 ⟨q11, rfl, ht, hb⟩
  dsimp only [Tp.T.kind, Tp.T.num]
  refine ⟨hb, hK _ _ ?_⟩
  clear hK K
  have HE11 := Lib.hid (HE10.out.trans (hb.mono (HLE.out _ HE10.out))); have HT11 := Lib.hid ht; have HS11 := Lib.hid hb
  clear hb ht
  obtain ⟨⟨c0, c1, c2⟩, ⟨d0, d1, d2⟩, ⟨e0, e1, e2⟩, ⟨f0, f1, f2⟩, l0, l1⟩ := HCELL.out _ HE11.out
  repeat
    first
    | (first | with_reducible refine sp0 (fun K hK => ?_) | with_reducible refine sp1 (fun K hK => ?_) | with_reducible refine sp2 (fun K hK => ?_) | with_reducible refine sp3 (fun K hK => ?_) | with_reducible refine sp4 (fun K hK => ?_)
       go_simp
       first
       | (with_reducible refine hK _ _ ?_; clear hK K)
       | (with_reducible apply Exists.intro
          refine ⟨fun x hx => ?_, hK _ _ ?_⟩
          first
            | (with_reducible exact rfl)
            | (have y0 := keepc hx c0; have y1 := keepc hx c1; have y2 := keepc hx c2; have y3 := keepc hx d0; have y4 := keepc hx d1; have y5 := keepc hx d2; have y6 := keepc hx e0; have y7 := keepc hx e1; have y8 := keepc hx e2; have y9 := keepc hx f0; have y10 := keepc hx f1; have y11 := keepc hx f2; have y12 := keepc hx l0; have y13 := keepc hx l1; go_simp; done)
            | (have y0 := keepc hx c0; have y1 := keepc hx c1; have y2 := keepc hx c2; have y3 := keepc hx d0; have y4 := keepc hx d1; have y5 := keepc hx d2; have y6 := keepc hx e0; have y7 := keepc hx e1; have y8 := keepc hx e2; have y9 := keepc hx f0; have y10 := keepc hx f1; have y11 := keepc hx f2; have y12 := keepc hx l0; have y13 := keepc hx l1; go_simp; with_reducible exact rfl)
          clear hK K))
    | (first | with_reducible refine sk0 ?_ (fun K hK => ?_) | with_reducible refine sk1 ?_ (fun K hK => ?_) | with_reducible refine sk2 ?_ (fun K hK => ?_) | with_reducible refine sk3 ?_ (fun K hK => ?_) | with_reducible refine sk4 ?_ (fun K hK => ?_)
       rfl
       go_simp
       with_reducible refine hK _ _ ?_
       clear hK K)
  first | with_reducible refine sc0 (fun K hK => ?_) | with_reducible refine sc1 (fun K hK => ?_) | with_reducible refine sc2 (fun K hK => ?_) | with_reducible refine sc3 (fun K hK => ?_) | with_reducible refine sc4 (fun K hK => ?_)
  go_simp
  refine (V0.out _).mono ?_
  clear c0 c1 c2 d0 d1 d2 e0 e1 e2 f0 f1 f2 l0 l1
  rintro e x12 ⟨rfl, hb⟩
  refine ⟨hb, hK _ _ ?_⟩
  clear hK K
  have HE12 := Lib.hid (HE11.out.trans (hb.mono (HLE.out _ HE11.out))); have HS12 := Lib.hid hb
  clear hb
  obtain ⟨⟨c0, c1, c2⟩, ⟨d0, d1, d2⟩, ⟨e0, e1, e2⟩, ⟨f0, f1, f2⟩, l0, l1⟩ := HCELL.out _ HE12.out
  repeat
    first
    | (first | with_reducible refine sp0 (fun K hK => ?_) | with_reducible refine sp1 (fun K hK => ?_) | with_reducible refine sp2 (fun K hK => ?_) | with_reducible refine sp3 (fun K hK => ?_) | with_reducible refine sp4 (fun K hK => ?_)
       go_simp
       first
       | (with_reducible refine hK _ _ ?_; clear hK K)
       | (with_reducible apply Exists.intro
          refine ⟨fun x hx => ?_, hK _ _ ?_⟩
          first
            | (with_reducible exact rfl)
            | (have y0 := keepc hx c0; have y1 := keepc hx c1; have y2 := keepc hx c2; have y3 := keepc hx d0; have y4 := keepc hx d1; have y5 := keepc hx d2; have y6 := keepc hx e0; have y7 := keepc hx e1; have y8 := keepc hx e2; have y9 := keepc hx f0; have y10 := keepc hx f1; have y11 := keepc hx f2; have y12 := keepc hx l0; have y13 := keepc hx l1; go_simp; done)
            | (have y0 := keepc hx c0; have y1 := keepc hx c1; have y2 := keepc hx c2; have y3 := keepc hx d0; have y4 := keepc hx d1; have y5 := keepc hx d2; have y6 := keepc hx e0; have y7 := keepc hx e1; have y8 := keepc hx e2; have y9 := keepc hx f0; have y10 := keepc hx f1; have y11 := keepc hx f2; have y12 := keepc hx l0; have y13 := keepc hx l1; go_simp; with_reducible exact rfl)
          clear hK K))
    | (first | with_reducible refine sk0 ?_ (fun K hK => ?_) | with_reducible refine sk1 ?_ (fun K hK => ?_) | with_reducible refine sk2 ?_ (fun K hK => ?_) | with_reducible refine sk3 ?_ (fun K hK => ?_) | with_reducible refine sk4 ?_ (fun K hK => ?_)
       rfl
       go_simp
       with_reducible refine hK _ _ ?_
       clear hK K)
  first | with_reducible refine sc0 (fun K hK => ?_) | with_reducible refine sc1 (fun K hK => ?_) | with_reducible refine sc2 (fun K hK => ?_) | with_reducible refine sc3 (fun K hK => ?_) | with_reducible refine sc4 (fun K hK => ?_)
  go_simp
  refine (LI0.out _).mono ?_
  clear c0 c1 c2 d0 d1 d2 e0 e1 e2 f0 f1 f2 l0 l1
  rintro e x13 ⟨q13, rfl, ht, hb⟩
  dsimp only [Tp.T.kind, Tp.T.num]
  refine ⟨hb, hK _ _ ?_⟩
  clear hK K
  have HE13 := Lib.hid (HE12.out.trans (hb.mono (HLE.out _ HE12.out))); have HT13 := Lib.hid ht; have HS13 := Lib.hid hb
  clear hb ht
  obtain ⟨⟨c0, c1, c2⟩, ⟨d0, d1, d2⟩, ⟨e0, e1, e2⟩, ⟨f0, f1, f2⟩, l0, l1⟩ := HCELL.out _ HE13.out
  repeat
    first
    | (first | with_reducible refine sp0 (fun K hK => ?_) | with_reducible refine sp1 (fun K hK => ?_) | with_reducible refine sp2 (fun K hK => ?_) | with_reducible refine sp3 (fun K hK => ?_) | with_reducible refine sp4 (fun K hK => ?_)
       go_simp
       first
       | (with_reducible refine hK _ _ ?_; clear hK K)
       | (with_reducible apply Exists.intro
          refine ⟨fun x hx => ?_, hK _ _ ?_⟩
          first
            | (with_reducible exact rfl)
            | (have y0 := keepc hx c0; have y1 := keepc hx c1; have y2 := keepc hx c2; have y3 := keepc hx d0; have y4 := keepc hx d1; have y5 := keepc hx d2; have y6 := keepc hx e0; have y7 := keepc hx e1; have y8 := keepc hx e2; have y9 := keepc hx f0; have y10 := keepc hx f1; have y11 := keepc hx f2; have y12 := keepc hx l0; have y13 := keepc hx l1; go_simp; done)
            | (have y0 := keepc hx c0; have y1 := keepc hx c1; have y2 := keepc hx c2; have y3 := keepc hx d0; have y4 := keepc hx d1; have y5 := keepc hx d2; have y6 := keepc hx e0; have y7 := keepc hx e1; have y8 := keepc hx e2; have y9 := keepc hx f0; have y10 := keepc hx f1; have y11 := keepc hx f2; have y12 := keepc hx l0; have y13 := keepc hx l1; go_simp; with_reducible exact rfl)
          clear hK K))
    | (first | with_reducible refine sk0 ?_ (fun K hK => ?_) | with_reducible refine sk1 ?_ (fun K hK => ?_) | with_reducible refine sk2 ?_ (fun K hK => ?_) | with_reducible refine sk3 ?_ (fun K hK => ?_) | with_reducible refine sk4 ?_ (fun K hK => ?_)
       rfl
       go_simp
       with_reducible refine hK _ _ ?_
       clear hK K)
  have HL1213 : Below x11.heap.size x11 x13 := HS12.out.tr HS13.out (Nat.le_refl _)
  first | with_reducible refine sc0 (fun K hK => ?_) | with_reducible refine sc1 (fun K hK => ?_) | with_reducible refine sc2 (fun K hK => ?_) | with_reducible refine sc3 (fun K hK => ?_) | with_reducible refine sc4 (fun K hK => ?_)
  go_simp
  refine (HUL.out _ q11 (ty_later HT11.out (show Below x11.heap.size x11 x13 from HL1213)) q13 HT13.out).mono ?_
  clear c0 c1 c2 d0 d1 d2 e0 e1 e2 f0 f1 f2 l0 l1
  rintro e x14 ⟨rfl, hb9⟩
  refine ⟨hb9, hK _ _ ?_⟩
  clear hK K
  have HE14 := Lib.hid (HE13.out.trans (hb9.mono (HLE.out _ HE13.out)))
  clear hb9
  obtain ⟨⟨c0, c1, c2⟩, ⟨d0, d1, d2⟩, ⟨e0, e1, e2⟩, ⟨f0, f1, f2⟩, l0, l1⟩ := HCELL.out x14 HE14.out
  repeat
    first
    | (first | with_reducible refine sp0 (fun K hK => ?_) | with_reducible refine sp1 (fun K hK => ?_) | with_reducible refine sp2 (fun K hK => ?_) | with_reducible refine sp3 (fun K hK => ?_) | with_reducible refine sp4 (fun K hK => ?_)
       go_simp
       first
       | (with_reducible refine hK _ _ ?_; clear hK K)
       | (with_reducible apply Exists.intro
          refine ⟨fun x hx => ?_, hK _ _ ?_⟩
          first
            | (with_reducible exact rfl)
            | (have y0 := keepc hx c0; have y1 := keepc hx c1; have y2 := keepc hx c2; have y3 := keepc hx d0; have y4 := keepc hx d1; have y5 := keepc hx d2; have y6 := keepc hx e0; have y7 := keepc hx e1; have y8 := keepc hx e2; have y9 := keepc hx f0; have y10 := keepc hx f1; have y11 := keepc hx f2; have y12 := keepc hx l0; have y13 := keepc hx l1; go_simp; done)
            | (have y0 := keepc hx c0; have y1 := keepc hx c1; have y2 := keepc hx c2; have y3 := keepc hx d0; have y4 := keepc hx d1; have y5 := keepc hx d2; have y6 := keepc hx e0; have y7 := keepc hx e1; have y8 := keepc hx e2; have y9 := keepc hx f0; have y10 := keepc hx f1; have y11 := keepc hx f2; have y12 := keepc hx l0; have y13 := keepc hx l1; go_simp; with_reducible exact rfl)
          clear hK K))
    | (first | with_reducible refine sk0 ?_ (fun K hK => ?_) | with_reducible refine sk1 ?_ (fun K hK => ?_) | with_reducible refine sk2 ?_ (fun K hK => ?_) | with_reducible refine sk3 ?_ (fun K hK => ?_) | with_reducible refine sk4 ?_ (fun K hK => ?_)
       rfl
       go_simp
       with_reducible refine hK _ _ ?_
       clear hK K)
  with_reducible refine seq_nil ?_
  clear c0 c1 c2 d0 d1 d2 e0 e1 e2 f0 f1 f2 l0 l1
  go_wp2_with fail
  go_ret
  exact ⟨rfl, HX11.out.tr HE14.out (Nat.le_refl _)⟩
end Go.Proofs.Ytncdbbjkafgphaa
