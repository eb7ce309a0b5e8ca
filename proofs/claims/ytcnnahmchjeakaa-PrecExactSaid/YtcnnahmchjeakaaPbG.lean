/- prec.Ground, walked. -/
import Derived.Test.YtcnnahmchjeakaaPbC
import Derived.Test.YtcnnahmchjeakaaTqB
namespace Go.Proofs.Ytcnnahmchjeakaa
open Go Go.RowKit
open Tp (T)

theorem zero_three {y : World} {bb : Nat} {ty : TypeId} (h : y.heap[bb]? = some (.cells #[.int .i64 0, .int .i64 0, .slice none 0 0] ty (0, 0))) : y.cell? ⟨bb, 0, none⟩ = some (.int .i64 0) ∧ y.cell? ⟨bb, 1, none⟩ = some (.int .i64 0) ∧ y.cell? ⟨bb, 2, none⟩ = some (.slice none 0 0) ∧ y.frozen? ⟨bb, 0, none⟩ = false ∧ y.frozen? ⟨bb, 1, none⟩ = false ∧ y.frozen? ⟨bb, 2, none⟩ = false :=
  ⟨cell_box h rfl rfl, cell_box h rfl rfl, cell_box h rfl rfl, IsC.frozen ⟨_, _, h⟩, IsC.frozen ⟨_, _, h⟩, IsC.frozen ⟨_, _, h⟩⟩
theorem put3 {B : Nat} {W y : World} {bb : Nat} {v0 v1 v2 : Value} (hB : Below B W y) (hbb : B ≤ bb) : Below B W (((y.setCell ⟨bb, 0, none⟩ v0).setCell ⟨bb, 1, none⟩ v1).setCell ⟨bb, 2, none⟩ v2) :=
  ((hB.setCell hbb _).setCell hbb _).setCell hbb _
theorem far_row {B n b : Nat} {A C : World} {o o' : Obj} {v : Value} {xs : List Value} (hg : (A.alloc o).grownBy C v.ownBlock) (hb : A.heap[b]? = some o') (h : A.ownsRow B 24 3 v n xs) (hlt : b < B) : C.heap[b]? = some o' := by
  have h1 := (Array.getElem?_eq_some_iff.1 hb).1
  exact ((hg.block b (by rw [World.size_alloc]; omega) (fun e => by have := (h.lt b e.symm).1; omega)).trans (Below.heap_alloc _ _ _ h1)).trans hb
def dke : Ke := ⟨.mk 5 0 [], none, 0⟩
theorem dke_cells (k : Nat) : rowCells (List.replicate (k + 1) dke) = rowCells (List.replicate k dke) ++ [.int .i64 5, .int .i64 0, .slice none 0 0] := by
  rw [List.replicate_succ', rowCells_snoc]; rfl
theorem dke_slAt {w : World} {B k cap : Nat} {a : Option Addr} (h : w.ownsRow B 24 3 (.slice a k cap) k (rowCells (List.replicate k dke))) : SlAt (LT w.heap.size) w (Tp.dyns k) a cap := by
  have h2 := row_slAt (G := LT w.heap.size) (ks := List.replicate k dke) (by rw [List.length_replicate]; exact h) (fun g hg => (h.lt g hg).2) (fun e he => by rw [List.eq_of_mem_replicate he]; exact leaf_at (i64_nat (by decide) (by decide)))
  have e : (List.replicate k dke).map Ke.t = Tp.dyns k := by simp [dke, Tp.dyns]
  rwa [e] at h2
/-- What Ground hands back, whatever came of it. -/
def GrRes (t : T) (w : World) (e : Ending) (w' : World) : Prop := ∃ k n m a c, TV (Tp.grd t) k n m ∧ e = .returned (.tuple #[.agg #[.int .i64 k, .int .i64 n, .slice a m c], .bool (Tp.hasG t)]) ∧ TyAt (LT w'.heap.size) w' (Tp.grd t) a c ∧ Below w.heap.size w w'
theorem grd_no {t : T} {w w' : World} {e : Ending} (h : Tp.hasG t = false) (he : e = .returned (.tuple #[.agg #[.int .i64 0, .int .i64 0, .slice none 0 0], .bool false])) (hb : Below w.heap.size w w') : GrRes t w e w' := by
  have hg : Tp.grd t = .mk 0 0 [] := by unfold Tp.grd; rw [h]; rfl
  exact ⟨0, 0, 0, none, 0, by rw [hg]; exact ⟨rfl, rfl, rfl⟩, by rw [h, he], by rw [hg]; exact leaf_at (i64_nat (by decide) (by decide)), hb⟩
set_option maxRecDepth 100000 in
set_option maxHeartbeats 4000000 in
theorem grd_any {t : T} {k n : Int} {m : Nat} {a : Option Addr} {c : Nat} {w : World} (hv : TV t k n m) (ht : TyAt (LT w.heap.size) w t a c) (hs : Tp.size t ≤ 10000) :
    Calls Try.prog 12 #[.agg #[.int .i64 k, .int .i64 n, .slice a m c]] w (GrRes t w) := by
  obtain ⟨W2, hW2⟩ : ∃ W2, (w.alloc (.cells #[.int .i64 k, .int .i64 n, .slice a m c] 24)).alloc (.cells #[.int .i64 0, .int .i64 0, .slice none 0 0] 24) = W2 := ⟨_, rfl⟩
  have hb2 : Below w.heap.size w W2 := by rw [← hW2]; exact ((Below.refl _ _).alloc (Nat.le_refl _) _).alloc (by simp) _
  have bx : BoxT W2 w.heap.size t k n m a c := ⟨hv, by rw [← hW2]; exact box1 _ _ _ _ _, ty_later ht hb2⟩
  have hz : W2.heap[w.heap.size + 1]? = some (.cells #[.int .i64 0, .int .i64 0, .slice none 0 0] 24) := by rw [← hW2]; exact box2 _ _ _ _ _
  have hs2 : W2.heap.size = w.heap.size + 2 := by rw [← hW2]; simp
  have hct := pright_any bx.says bx.ty hs
  have hm10 : m ≤ 10000 := by rw [← hv.2.2]; have := Tp.length_le_sizes t.kids; have := size_kids t; omega
  have hik : I64 k := by rw [← hv.1]; exact ht.1
  obtain ⟨c0, c1, c2⟩ := bx.cells
  obtain ⟨r, hr⟩ : ∃ r, Tp.right t = r := ⟨_, rfl⟩
  rw [hr] at hct
  have hno : (r = false ∨ k = 5 ∨ k = 6) → Tp.hasG t = false := by
    rintro (h | h | h) <;> unfold Tp.hasG <;> rw [hr, hv.1]
    · rw [h]; rfl
    · rw [h]; simp
    · rw [h]; simp
  have hyes : r = true → ¬ k = 5 → ¬ k = 6 → Tp.hasG t = true := by intro h1 h2 h3; unfold Tp.hasG; rw [hr, hv.1, h1, decide_eq_false h2, decide_eq_false h3]; rfl
  have HCT := Lib.hid hct; have HW2 := Lib.hid hW2; have HB2 := Lib.hid hb2; have BX := Lib.hid bx; have HZ := Lib.hid hz; have HS2 := Lib.hid hs2; have HNO := Lib.hid hno; have HYES := Lib.hid hyes; have HM10 := Lib.hid hm10; have HV := Lib.hid hv; have HIK := Lib.hid hik
  clear hct hW2 hb2 bx hz hs2 hno hyes hv ht hs hr hm10 hik
  go_enter Try.func12, Try.ntmps12
  go_upto_region 1 with fail
  rw [HW2.out]
  have HCALL := Lib.hid (fun w3 (hb : Below W2.heap.size W2 w3) => show BoxT w3 w.heap.size t k n m a c ∧ w3.heap[w.heap.size + 1]? = some (.cells #[.int .i64 0, .int .i64 0, .slice none 0 0] 24) from ⟨BX.out.later hb, (hb.block _ (by have := HS2.out; omega)).trans HZ.out⟩)
  cases r with
  | false =>
    go_wp2_with (go_at_call 28; with_reducible refine HCT.out.mono ?_; clear c0 c1 c2; rintro e w3 ⟨rfl, hb⟩; have HB3 := Lib.hid hb; clear hb; obtain ⟨hbx, hz3⟩ := HCALL.out w3 HB3.out; obtain ⟨c0, c1, c2⟩ := hbx.cells; obtain ⟨z0, z1, z2, f0, f1, f2⟩ := zero_three hz3; have HBX3 := Lib.hid hbx; have HZ3 := Lib.hid hz3; clear hbx hz3)
    have hF := box_set3 (v0 := .int .i64 0) (v1 := .int .i64 0) (v2 := .slice none 0 0) HZ3.out
    have hbF := put3 (bb := w.heap.size + 1) (v0 := .int .i64 0) (v1 := .int .i64 0) (v2 := .slice none 0 0) (HB2.out.tr HB3.out (Nat.le_refl _)) (Nat.le_succ _)
    clear c0 c1 c2 z0 z1 z2 f0 f1 f2
    generalize ((w3.setCell ⟨w.heap.size + 1, 0, none⟩ (.int .i64 0)).setCell ⟨w.heap.size + 1, 1, none⟩ (.int .i64 0)).setCell ⟨w.heap.size + 1, 2, none⟩ (.slice none 0 0) = F at hF hbF ⊢
    refine bodyPost_ret_by (v := .tuple #[.agg #[.int .i64 0, .int .i64 0, .slice none 0 0], .bool false]) ?_ rfl (grd_no (HNO.out (.inl trivial)) rfl hbF)
    rw [results_cell_tmp (p := 2) (u := 3) (ty := 24) (by kernel_rfl)]
    simp [asAddr, Result.andThen, run_loadVar_row F _ 24 24 _ _ _ hF Try.underlying24 rfl (by kernel_rfl)]
  | true =>
    by_cases h5 : k = 5
    · have g5 : (k == 5) = true := by simp [h5]
      have HH := Lib.hid h5; clear h5
      go_wp2_with (go_at_call 28; with_reducible refine HCT.out.mono ?_; clear c0 c1 c2; rintro e w3 ⟨rfl, hb⟩; have HB3 := Lib.hid hb; clear hb; obtain ⟨hbx, hz3⟩ := HCALL.out w3 HB3.out; obtain ⟨c0, c1, c2⟩ := hbx.cells; obtain ⟨z0, z1, z2, f0, f1, f2⟩ := zero_three hz3; have HBX3 := Lib.hid hbx; have HZ3 := Lib.hid hz3; clear hbx hz3)
      have hF := box_set3 (v0 := .int .i64 0) (v1 := .int .i64 0) (v2 := .slice none 0 0) HZ3.out
      have hbF := put3 (bb := w.heap.size + 1) (v0 := .int .i64 0) (v1 := .int .i64 0) (v2 := .slice none 0 0) (HB2.out.tr HB3.out (Nat.le_refl _)) (Nat.le_succ _)
      clear c0 c1 c2 z0 z1 z2 f0 f1 f2
      generalize ((w3.setCell ⟨w.heap.size + 1, 0, none⟩ (.int .i64 0)).setCell ⟨w.heap.size + 1, 1, none⟩ (.int .i64 0)).setCell ⟨w.heap.size + 1, 2, none⟩ (.slice none 0 0) = F at hF hbF ⊢
      refine bodyPost_ret_by (v := .tuple #[.agg #[.int .i64 0, .int .i64 0, .slice none 0 0], .bool false]) ?_ rfl (grd_no (HNO.out (.inr (.inl HH.out))) rfl hbF)
      rw [results_cell_tmp (p := 2) (u := 3) (ty := 24) (by kernel_rfl)]
      simp [asAddr, Result.andThen, run_loadVar_row F _ 24 24 _ _ _ hF Try.underlying24 rfl (by kernel_rfl)]
    · have g5 : (k == 5) = false := by simp [h5]
      by_cases h6 : k = 6
      · have g6 : (k == 6) = true := by simp [h6]
        have HH := Lib.hid h6; clear h5 h6
        go_wp2_with (go_at_call 28; with_reducible refine HCT.out.mono ?_; clear c0 c1 c2; rintro e w3 ⟨rfl, hb⟩; have HB3 := Lib.hid hb; clear hb; obtain ⟨hbx, hz3⟩ := HCALL.out w3 HB3.out; obtain ⟨c0, c1, c2⟩ := hbx.cells; obtain ⟨z0, z1, z2, f0, f1, f2⟩ := zero_three hz3; have HBX3 := Lib.hid hbx; have HZ3 := Lib.hid hz3; clear hbx hz3)
        have hF := box_set3 (v0 := .int .i64 0) (v1 := .int .i64 0) (v2 := .slice none 0 0) HZ3.out
        have hbF := put3 (bb := w.heap.size + 1) (v0 := .int .i64 0) (v1 := .int .i64 0) (v2 := .slice none 0 0) (HB2.out.tr HB3.out (Nat.le_refl _)) (Nat.le_succ _)
        clear c0 c1 c2 z0 z1 z2 f0 f1 f2
        generalize ((w3.setCell ⟨w.heap.size + 1, 0, none⟩ (.int .i64 0)).setCell ⟨w.heap.size + 1, 1, none⟩ (.int .i64 0)).setCell ⟨w.heap.size + 1, 2, none⟩ (.slice none 0 0) = F at hF hbF ⊢
        refine bodyPost_ret_by (v := .tuple #[.agg #[.int .i64 0, .int .i64 0, .slice none 0 0], .bool false]) ?_ rfl (grd_no (HNO.out (.inr (.inr HH.out))) rfl hbF)
        rw [results_cell_tmp (p := 2) (u := 3) (ty := 24) (by kernel_rfl)]
        simp [asAddr, Result.andThen, run_loadVar_row F _ 24 24 _ _ _ hF Try.underlying24 rfl (by kernel_rfl)]
      · have g6 : (k == 6) = false := by simp [h6]
        have HG := Lib.hid (HYES.out rfl h5 h6)
        clear h5 h6
        go_upto_region 4 with (go_at_call 28; with_reducible refine HCT.out.mono ?_; clear c0 c1 c2; rintro e w3 ⟨rfl, hb⟩; have HB3 := Lib.hid hb; clear hb; obtain ⟨hbx, hz3⟩ := HCALL.out w3 HB3.out; obtain ⟨c0, c1, c2⟩ := hbx.cells; obtain ⟨z0, z1, z2, f0, f1, f2⟩ := zero_three hz3; have HBX3 := Lib.hid hbx; have HZ3 := Lib.hid hz3; clear hbx hz3)
        clear z0 z1 z2 f0 f1 f2
        obtain ⟨W4, hW4⟩ : ∃ W, w3.alloc (.cells #[.int .i64 k, .int .i64 0, .slice none 0 0] 24) = W := ⟨_, rfl⟩
        rw [hW4]
        have hb4 : Below w3.heap.size w3 W4 := by rw [← hW4]; exact (Below.refl _ _).alloc (Nat.le_refl _) _
        have hg4 : W4.heap[w3.heap.size]? = some (.cells #[.int .i64 k, .int .i64 0, .slice none 0 0] 24) := by rw [← hW4]; exact World.alloc_heap_new w3 _
        have hs4 : W4.heap.size = w3.heap.size + 1 := by rw [← hW4]; simp
        have HB4 := Lib.hid hb4; have HG4 := Lib.hid hg4; have HS4 := Lib.hid hs4
        have hbx4 := HBX3.out.later hb4
        clear hW4 hb4 hg4 hs4 c0 c1 c2
        obtain ⟨c0, c1, c2⟩ := hbx4.cells
        clear hbx4
        go_wp2_with fail
        clear c0 c1 c2
        go_loopg [25] m (fun gk i wr => ∃ (j : Nat) (v : Value), j ≤ m ∧ i = .int .i64 (j : Int) ∧ wr.heap[w3.heap.size]? = some (.cells #[.int .i64 k, .int .i64 0, v] 24) ∧ wr.ownsRow (w3.heap.size + 1) 24 3 v j (rowCells (List.replicate j dke)) ∧ Below w3.heap.size W4 wr ∧ gk = m - j)
        case atStart => exact ⟨0, _, Nat.zero_le _, rfl, HG4.out, World.ownsRow_nil _ _ _ _, Below.refl _ _, rfl⟩
        case round =>
          obtain ⟨j, v, hj, rfl, hg, hown, hb, rfl⟩ := hrel
          obtain ⟨av, cv, rfl⟩ := own_shapeT hown
          have g0 : wr.cell? ⟨w3.heap.size, 0, none⟩ = some (.int .i64 k) := cell_box hg rfl rfl
          have g1 : wr.cell? ⟨w3.heap.size, 1, none⟩ = some (.int .i64 0) := cell_box hg rfl rfl
          have g2 : wr.cell? ⟨w3.heap.size, 2, none⟩ = some (.slice av j cv) := cell_box hg rfl rfl
          have HGW := Lib.hid hg; have HOWN := Lib.hid hown; have HBW := Lib.hid hb
          have hlw : w3.heap.size < wr.heap.size := (Array.getElem?_eq_some_iff.1 hg).1
          clear hg hown hb
          by_cases hlt : j < m
          · obtain ⟨k40, kml⟩ := b40 (r := j) (Nat.le_trans (Nat.le_of_lt hlt) HM10.out)
            have B1 := Lib.hid k40; have B2 := Lib.hid kml; have HLW := Lib.hid hlw
            clear k40 kml
            obtain ⟨i0, hi, hz0, hz1, hz2⟩ := info_parts info_ty
            go_wp2_with (at_builtin; refine wpList_append_lies _ rfl (.tmp 28) (.tmp 30) 22 rfl (w3.heap.size + 1) 24 i0 (.agg #[.int .i64 0, .int .i64 0, .slice none 0 0]) 3 40 Try.underlying22 hi hz0 hz1 hz2 rfl (by decide) (.slice av j cv) j (rowCells (List.replicate j dke)) rfl (HOWN.out.alloc _) ⟨wr.heap.size, 0, none⟩ 1 1 [.int .i64 5, .int .i64 0, .slice none 0 0] rfl rfl (World.news_of_block (World.alloc_heap_new wr _)) (three_one _ _ _ _ _) (by decide) B2.out B1.out (by have := HLW.out; simp; omega) _ rfl ?_; intro g2 cap2 w7 own7 gr7 ly7 _; have lu7 := far_row gr7 HGW.out HOWN.out (Nat.lt_succ_self _); have cu7 : w7.cell? ⟨w3.heap.size, 2, none⟩ = some (.slice av j cv) := cell_box lu7 rfl rfl; have fu7 : w7.frozen? ⟨w3.heap.size, 2, none⟩ = false := IsC.frozen ⟨_, _, lu7⟩; have OW7 := Lib.hid own7; have GR7 := Lib.hid gr7; have LU7 := Lib.hid lu7; clear own7 gr7 ly7 lu7)
            have hrow := own_same (w' := w7.setCell ⟨w3.heap.size, 2, none⟩ (.slice (some ⟨g2, 0, none⟩) (j + 1) cap2)) OW7.out (fun z hz => Below.heap_setCell _ _ _ _ (by have := (OW7.out.lt z hz).1; dsimp only; omega))
            rw [← dke_cells] at hrow
            have hbel := ((below_push (Below.refl w3.heap.size wr) GR7.out (fun z hz => by have := (HOWN.out.lt z hz).1; omega) (by omega)).setCell (p := ⟨w3.heap.size, 2, none⟩) (Nat.le_refl _) (.slice (some ⟨g2, 0, none⟩) (j + 1) cap2))
            have HROW := Lib.hid hrow; have HBEL := Lib.hid (HBW.out.trans hbel)
            clear hrow hbel g0 g1 cu7 fu7 hi hz0 hz1 hz2
            go_wp2_with fail
            go_roundg (m - (j + 1))
            case measure => omega
            case rel => exact ⟨j + 1, _, by omega, by exact wrap_k (Nat.le_trans (Nat.le_of_lt hlt) HM10.out), set2 LU7.out, HROW.out, HBEL.out, rfl⟩
          · obtain rfl : j = m := by omega
            have hlz : w.heap.size + 1 < w3.heap.size := (Array.getElem?_eq_some_iff.1 HZ3.out).1
            have hzr : wr.heap[w.heap.size + 1]? = some (.cells #[.int .i64 0, .int .i64 0, .slice none 0 0] 24) := (HBW.out.block _ hlz).trans ((HB4.out.block _ hlz).trans HZ3.out)
            obtain ⟨z0, z1, z2, f0, f1, f2⟩ := zero_three hzr
            have HLZ := Lib.hid hlz
            have HF := Lib.hid (box_set3 (v0 := .int .i64 k) (v1 := .int .i64 0) (v2 := .slice av j cv) hzr)
            have hbw : Below w.heap.size w wr := ((HB2.out.tr HB3.out (Nat.le_refl _)).tr HB4.out (Nat.le_refl _)).trans (HBW.out.mono (by omega))
            have HBF := Lib.hid (put3 (bb := w.heap.size + 1) (v0 := .int .i64 k) (v1 := .int .i64 0) (v2 := .slice av j cv) hbw (Nat.le_succ _))
            have hown2 := own_same (w' := ((wr.setCell ⟨w.heap.size + 1, 0, none⟩ (.int .i64 k)).setCell ⟨w.heap.size + 1, 1, none⟩ (.int .i64 0)).setCell ⟨w.heap.size + 1, 2, none⟩ (.slice av j cv)) HOWN.out (fun z hz => set3_other (by have := (HOWN.out.lt z hz).1; omega))
            have HOW2 := Lib.hid hown2
            clear hzr hlz hbw hown2 hlw
            go_wp2_with fail
            have hF := HF.out; have hbF := HBF.out; have how := HOW2.out
            clear g0 g1 g2 z0 z1 z2 f0 f1 f2
            generalize ((wr.setCell ⟨w.heap.size + 1, 0, none⟩ (.int .i64 k)).setCell ⟨w.heap.size + 1, 1, none⟩ (.int .i64 0)).setCell ⟨w.heap.size + 1, 2, none⟩ (.slice av j cv) = F at hF hbF how ⊢
            have hgr : Tp.grd t = .mk k 0 (Tp.dyns j) := by unfold Tp.grd; rw [if_pos HG.out]; unfold Tp.gnd; rw [HV.out.1, HV.out.2.2]
            have hsl := dke_slAt how
            refine bodyPost_ret_by (v := .tuple #[.agg #[.int .i64 k, .int .i64 0, .slice av j cv], .bool true]) ?_ rfl ⟨k, 0, j, av, cv, by rw [hgr]; exact ⟨rfl, rfl, Tp.dyns_len j⟩, by rw [HG.out], by rw [hgr]; exact ⟨HIK.out, (show I64 0 from i64_nat (by decide) (by decide)), hsl⟩, hbF⟩
            rw [results_cell_tmp (p := 2) (u := 3) (ty := 24) (by kernel_rfl)]
            simp [asAddr, Result.andThen, run_loadVar_row F _ 24 24 _ _ _ hF Try.underlying24 rfl (by kernel_rfl)]
end Go.Proofs.Ytcnnahmchjeakaa
