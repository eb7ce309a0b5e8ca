/- The statements' own sample. -/
import Derived.Test.YtlmcklicnmbhdaaTrF
import Derived.Test.YtlmcklicnmbhdaaTyW
namespace Go.Proofs.Ytlmcklicnmbhdaa
open Go Go.RowKit
open Tp (T)

def WT : T := .mk 9 0 [.mk 6 3 [], .mk 8 0 [.mk 5 0 []]]
theorem wt_size : Tp.size WT = 4 := rfl
theorem wt_depth : Tp.depth WT = 3 := rfl
theorem wt_right : Tp.right WT = true := by decide
theorem wt_static : Tp.without 5 WT = false := by decide
theorem wt_closed : Tp.without 6 WT = false := by decide
theorem wt_vars : Tp.vars WT [] = [3] := by decide
theorem bad_right : Tp.right (.mk 8 0 []) = false := by decide

set_option maxRecDepth 100000 in
set_option maxHeartbeats 4000000 in
theorem wakes_any (w : World) :
    Calls Try.prog 25 #[] w fun e w' => e = .returned (.bool true) ∧ Below w.heap.size w w' := by
  have hty : TyAt (LT (w.heap.size + 2)) (((w.alloc (.cells #[.int .i64 5, .int .i64 0, .slice none 0 0] 24)).alloc (.cells #[.int .i64 6, .int .i64 3, .slice none 0 0, .int .i64 8, .int .i64 0, .slice (some ⟨w.heap.size, 0, none⟩) 1 1] 24)).alloc (.cells #[.int .i64 9, .int .i64 0, .slice (some ⟨w.heap.size + 1, 0, none⟩) 2 2] 24)) WT (some ⟨w.heap.size + 1, 0, none⟩) 2 := by
    obtain ⟨X, hX⟩ : ∃ X, (((w.alloc (.cells #[.int .i64 5, .int .i64 0, .slice none 0 0] 24)).alloc (.cells #[.int .i64 6, .int .i64 3, .slice none 0 0, .int .i64 8, .int .i64 0, .slice (some ⟨w.heap.size, 0, none⟩) 1 1] 24)).alloc (.cells #[.int .i64 9, .int .i64 0, .slice (some ⟨w.heap.size + 1, 0, none⟩) 2 2] 24)) = X := ⟨_, rfl⟩
    have h0 : X.heap[w.heap.size]? = some (.cells #[.int .i64 5, .int .i64 0, .slice none 0 0] 24) := by rw [← hX]; exact (Below.heap_alloc _ _ _ (by simp <;> omega)).trans (box1 _ _ _ _ _)
    have h1 : X.heap[w.heap.size + 1]? = some (.cells #[.int .i64 6, .int .i64 3, .slice none 0 0, .int .i64 8, .int .i64 0, .slice (some ⟨w.heap.size, 0, none⟩) 1 1] 24) := by rw [← hX]; exact (Below.heap_alloc _ _ _ (by simp)).trans (box2 _ _ _ _ _)
    rw [hX]
    have small : ∀ k n : Int, (0 ≤ k ∧ k ≤ 10) → (0 ≤ n ∧ n ≤ 10) → I64 k ∧ I64 n := fun k n h1 h2 => by unfold I64; omega
    have leaf : ∀ k n : Int, (0 ≤ k ∧ k ≤ 10) → (0 ≤ n ∧ n ≤ 10) → TyAt (LT (w.heap.size + 2)) X (.mk k n []) none 0 := fun k n h1 h2 => ⟨(small k n h1 h2).1, (small k n h1 h2).2, by simp [Tp.T.kids], by unfold maxLen; omega, by simp [Tp.T.kids, KidsAt]⟩
    have inner : TyAt (LT (w.heap.size + 2)) X (.mk 8 0 [.mk 5 0 []]) (some ⟨w.heap.size, 0, none⟩) 1 := by
      refine ⟨(small 8 0 (by omega) (by omega)).1, (small 8 0 (by omega) (by omega)).2, by simp [Tp.T.kids], by unfold maxLen; omega, ?_⟩
      refine KidsAt.of_nodes (G := LT (w.heap.size + 2)) (b := w.heap.size) (by unfold LT; omega) [.mk 5 0 []] 0 (fun i hi => ?_)
      obtain rfl : i = 0 := by simpa using hi
      exact NodeAt.mk' (leaf 5 0 (by omega) (by omega)) (cell_box h0 rfl rfl) (cell_box h0 rfl rfl) (cell_box h0 rfl rfl)
    refine ⟨(small 9 0 (by omega) (by omega)).1, (small 9 0 (by omega) (by omega)).2, by simp [WT, Tp.T.kids], by unfold maxLen; omega, ?_⟩
    refine KidsAt.of_nodes (G := LT (w.heap.size + 2)) (b := w.heap.size + 1) (by unfold LT; omega) [.mk 6 3 [], .mk 8 0 [.mk 5 0 []]] 0 (fun i hi => ?_)
    have hi2 : i = 0 ∨ i = 1 := by simp at hi; omega
    rcases hi2 with rfl | rfl
    · exact NodeAt.mk' (leaf 6 3 (by omega) (by omega)) (cell_box h1 rfl rfl) (cell_box h1 rfl rfl) (cell_box h1 rfl rfl)
    · exact NodeAt.mk' inner (cell_box h1 rfl rfl) (cell_box h1 rfl rfl) (cell_box h1 rfl rfl)
  have hb0 : Below (w.heap.size + 3) (((w.alloc (.cells #[.int .i64 5, .int .i64 0, .slice none 0 0] 24)).alloc (.cells #[.int .i64 6, .int .i64 3, .slice none 0 0, .int .i64 8, .int .i64 0, .slice (some ⟨w.heap.size, 0, none⟩) 1 1] 24)).alloc (.cells #[.int .i64 9, .int .i64 0, .slice (some ⟨w.heap.size + 1, 0, none⟩) 2 2] 24)) (((w.alloc (.cells #[.int .i64 5, .int .i64 0, .slice none 0 0] 24)).alloc (.cells #[.int .i64 6, .int .i64 3, .slice none 0 0, .int .i64 8, .int .i64 0, .slice (some ⟨w.heap.size, 0, none⟩) 1 1] 24)).alloc (.cells #[.int .i64 9, .int .i64 0, .slice (some ⟨w.heap.size + 1, 0, none⟩) 2 2] 24)) := Below.refl _ _
  have hbw : Below w.heap.size w (((w.alloc (.cells #[.int .i64 5, .int .i64 0, .slice none 0 0] 24)).alloc (.cells #[.int .i64 6, .int .i64 3, .slice none 0 0, .int .i64 8, .int .i64 0, .slice (some ⟨w.heap.size, 0, none⟩) 1 1] 24)).alloc (.cells #[.int .i64 9, .int .i64 0, .slice (some ⟨w.heap.size + 1, 0, none⟩) 2 2] 24)) := (((Below.refl _ _).alloc (Nat.le_refl _) _).alloc (by simp) _).alloc (by simp <;> omega) _
  have hsz2 : (((w.alloc (.cells #[.int .i64 5, .int .i64 0, .slice none 0 0] 24)).alloc (.cells #[.int .i64 6, .int .i64 3, .slice none 0 0, .int .i64 8, .int .i64 0, .slice (some ⟨w.heap.size, 0, none⟩) 1 1] 24)).alloc (.cells #[.int .i64 9, .int .i64 0, .slice (some ⟨w.heap.size + 1, 0, none⟩) 2 2] 24)).heap.size = w.heap.size + 3 := by simp
  have hcell : ∀ w', Below (w.heap.size + 3) (((w.alloc (.cells #[.int .i64 5, .int .i64 0, .slice none 0 0] 24)).alloc (.cells #[.int .i64 6, .int .i64 3, .slice none 0 0, .int .i64 8, .int .i64 0, .slice (some ⟨w.heap.size, 0, none⟩) 1 1] 24)).alloc (.cells #[.int .i64 9, .int .i64 0, .slice (some ⟨w.heap.size + 1, 0, none⟩) 2 2] 24)) w' → w'.cell? ⟨w.heap.size + 1 + 1, 0, none⟩ = some (.int .i64 9) ∧ w'.cell? ⟨w.heap.size + 1 + 1, 1, none⟩ = some (.int .i64 0) ∧ w'.cell? ⟨w.heap.size + 1 + 1, 2, none⟩ = some (.slice (some ⟨w.heap.size + 1, 0, none⟩) 2 2) := fun w' hb => by
    have h2 : (((w.alloc (.cells #[.int .i64 5, .int .i64 0, .slice none 0 0] 24)).alloc (.cells #[.int .i64 6, .int .i64 3, .slice none 0 0, .int .i64 8, .int .i64 0, .slice (some ⟨w.heap.size, 0, none⟩) 1 1] 24)).alloc (.cells #[.int .i64 9, .int .i64 0, .slice (some ⟨w.heap.size + 1, 0, none⟩) 2 2] 24)).heap[w.heap.size + 1 + 1]? = some (.cells #[.int .i64 9, .int .i64 0, .slice (some ⟨w.heap.size + 1, 0, none⟩) 2 2] 24) := by
      have := World.alloc_heap_new ((w.alloc (.cells #[.int .i64 5, .int .i64 0, .slice none 0 0] 24)).alloc (.cells #[.int .i64 6, .int .i64 3, .slice none 0 0, .int .i64 8, .int .i64 0, .slice (some ⟨w.heap.size, 0, none⟩) 1 1] 24)) (.cells #[.int .i64 9, .int .i64 0, .slice (some ⟨w.heap.size + 1, 0, none⟩) 2 2] 24)
      rw [World.size_alloc, World.size_alloc] at this; exact this
    exact ⟨cell_box h2 (hb.block _ (by omega)) rfl, cell_box h2 (hb.block _ (by omega)) rfl, cell_box h2 (hb.block _ (by omega)) rfl⟩
  have htw : ∀ w', Below (w.heap.size + 3) (((w.alloc (.cells #[.int .i64 5, .int .i64 0, .slice none 0 0] 24)).alloc (.cells #[.int .i64 6, .int .i64 3, .slice none 0 0, .int .i64 8, .int .i64 0, .slice (some ⟨w.heap.size, 0, none⟩) 1 1] 24)).alloc (.cells #[.int .i64 9, .int .i64 0, .slice (some ⟨w.heap.size + 1, 0, none⟩) 2 2] 24)) w' → TyAt (LT w'.heap.size) w' WT (some ⟨w.heap.size + 1, 0, none⟩) 2 := fun w' hb => hty.below hb (fun b h => (Nat.lt_trans h (by omega) : b < w.heap.size + 3)) (fun b h => (Nat.lt_of_lt_of_le h (by have := hb.size; omega) : b < w'.heap.size))
  have hle : ∀ w', Below (w.heap.size + 3) (((w.alloc (.cells #[.int .i64 5, .int .i64 0, .slice none 0 0] 24)).alloc (.cells #[.int .i64 6, .int .i64 3, .slice none 0 0, .int .i64 8, .int .i64 0, .slice (some ⟨w.heap.size, 0, none⟩) 1 1] 24)).alloc (.cells #[.int .i64 9, .int .i64 0, .slice (some ⟨w.heap.size + 1, 0, none⟩) 2 2] 24)) w' → w.heap.size + 3 ≤ w'.heap.size := fun w' hb => by have := hb.size; omega
  have HCELL := Lib.hid hcell; have HTW := Lib.hid htw; have HLE := Lib.hid hle; have HB0 := Lib.hid hb0; have HBW := Lib.hid hbw
  have HBAD := Lib.hid (show ∀ w', TyAt (LT w'.heap.size) w' (.mk 8 0 []) none 0 from fun w' => ⟨(show I64 (8 : Int) from by unfold I64; omega), (show I64 (0 : Int) from by unfold I64; omega), by simp [Tp.T.kids], by unfold maxLen; omega, by simp [Tp.T.kids, KidsAt]⟩)
  clear hcell htw hle hb0 hbw hsz2 hty
  have hck := fun w' hb => check_any WT _ _ w' (by rw [wt_size]; omega) (HTW.out w' hb)
  have hcb := fun w' => check_any (.mk 8 0 []) none 0 w' (by decide) (HBAD.out w')
  have hsz := fun w' hb => size_any WT _ _ w' (by rw [wt_size]; omega) (HTW.out w' hb)
  have hdp := fun w' hb => depth_any WT _ _ w' (by rw [wt_size]; omega) (HTW.out w' hb)
  have hst := fun w' hb => static_any WT _ _ w' (by rw [wt_size]; omega) (HTW.out w' hb)
  have hcl := fun w' hb => closed_any WT _ _ w' (by rw [wt_size]; omega) (HTW.out w' hb)
  have hva := fun w' hb => vars_any WT _ _ w' (by rw [wt_size]; omega) (HTW.out w' hb)
  have hsm := fun w' hb => same_any WT WT _ _ _ _ w' (by rw [wt_size]; omega) (HTW.out w' hb) (HTW.out w' hb)
  rw [wt_right] at hck; rw [bad_right] at hcb; rw [wt_size] at hsz; rw [wt_depth] at hdp; rw [wt_static] at hst; rw [wt_closed] at hcl; rw [wt_vars] at hva; rw [Tp.same_refl] at hsm
  have HCK := Lib.hid hck; have HCB := Lib.hid hcb; have HSZ := Lib.hid hsz; have HDP := Lib.hid hdp; have HST := Lib.hid hst; have HCL := Lib.hid hcl; have HVA := Lib.hid hva; have HSM := Lib.hid hsm
  clear hck hcb hsz hdp hst hcl hva hsm
  go_enter Try.func25, Try.ntmps25
  go_wp2_with fail
  refine (HCK.out _ HB0.out).mono ?_
  rintro e w1 ⟨rfl, hb1⟩
  have b1 := HB0.out.trans (hb1.mono (HLE.out _ HB0.out))
  obtain ⟨c0, c1, c2⟩ := HCELL.out w1 b1
  have HB1 := Lib.hid b1
  clear b1 hb1
  go_wp2_with fail
  clear c0 c1 c2
  refine (HCB.out _).mono ?_
  rintro e w2 ⟨rfl, hb2⟩
  have b2 := HB1.out.trans (hb2.mono (HLE.out _ HB1.out))
  obtain ⟨c0, c1, c2⟩ := HCELL.out w2 b2
  have HB2 := Lib.hid b2
  clear b2 hb2
  go_wp2_with fail
  clear c0 c1 c2
  refine (HSZ.out _ HB2.out).mono ?_
  rintro e w3 ⟨rfl, hb3⟩
  have b3 := HB2.out.trans (hb3.mono (HLE.out _ HB2.out))
  obtain ⟨c0, c1, c2⟩ := HCELL.out w3 b3
  have HB3 := Lib.hid b3
  clear b3 hb3
  go_wp2_with fail
  clear c0 c1 c2
  refine (HDP.out _ HB3.out).mono ?_
  rintro e w4 ⟨rfl, hb4⟩
  have b4 := HB3.out.trans (hb4.mono (HLE.out _ HB3.out))
  obtain ⟨c0, c1, c2⟩ := HCELL.out w4 b4
  have HB4 := Lib.hid b4
  clear b4 hb4
  go_wp2_with fail
  clear c0 c1 c2
  refine (HST.out _ HB4.out).mono ?_
  rintro e w5 ⟨rfl, hb5⟩
  have b5 := HB4.out.trans (hb5.mono (HLE.out _ HB4.out))
  obtain ⟨c0, c1, c2⟩ := HCELL.out w5 b5
  have HB5 := Lib.hid b5
  clear b5 hb5
  go_wp2_with fail
  clear c0 c1 c2
  refine (HCL.out _ HB5.out).mono ?_
  rintro e w6 ⟨rfl, hb6⟩
  have b6 := HB5.out.trans (hb6.mono (HLE.out _ HB5.out))
  obtain ⟨c0, c1, c2⟩ := HCELL.out w6 b6
  have HB6 := Lib.hid b6
  clear b6 hb6
  go_wp2_with fail
  clear c0 c1 c2
  refine (HVA.out _ HB6.out).mono ?_
  rintro e w7 ⟨v7, rfl, own7, hb7⟩
  have b7 := HB6.out.trans (hb7.mono (HLE.out _ HB6.out))
  obtain ⟨a7, c7, rfl⟩ := own_shape' own7
  have HR7 := Lib.hid (IntRow.of_own own7).2
  have HB7 := Lib.hid b7
  clear b7 hb7 own7
  go_wp2_with fail
  refine (ints_any [3] [3] a7 c7 (some ⟨w7.heap.size, 0, none⟩) 1 _ (by decide) (by decide) (HR7.out.below ((Below.refl w7.heap.size w7).alloc (Nat.le_refl _) _) (Nat.le_refl _)) ?_).mono ?_
  · refine Or.inr ⟨w7.heap.size, 0, rfl, by simp, fun i hi => ?_⟩
    obtain rfl : i = 0 := by simpa using hi
    exact cell_box (World.alloc_heap_new w7 _) rfl rfl
  rintro e w8 ⟨rfl, hb8⟩
  have b8 := (HB7.out.alloc (HLE.out _ HB7.out) _).trans (hb8.mono (by rw [World.size_alloc]; have := HLE.out _ HB7.out; omega))
  obtain ⟨c0, c1, c2⟩ := HCELL.out w8 b8
  have HB8 := Lib.hid b8
  clear b8 hb8
  go_wp2_with fail
  refine (HSM.out _ HB8.out).mono ?_
  rintro e w9 ⟨rfl, hb9⟩
  have HB9 := Lib.hid (HB8.out.trans (hb9.mono (HLE.out _ HB8.out)))
  clear hb9 c0 c1 c2
  go_wp2_with fail
  go_ret
  exact ⟨rfl, HBW.out.trans (HB9.out.mono (by omega))⟩
end Go.Proofs.Ytlmcklicnmbhdaa
