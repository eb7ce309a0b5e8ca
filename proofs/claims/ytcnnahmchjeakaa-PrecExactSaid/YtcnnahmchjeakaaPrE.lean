/- The law PrecExact: its walk. -/
import Derived.Test.YtcnnahmchjeakaaPrQ
import Derived.Test.YtcnnahmchjeakaaTkB
import Derived.Deep.RegionLaw
import Derived.Deep.DeepCutAuto
import Derived.Deep.CutRange
namespace Go.Proofs.Ytcnnahmchjeakaa
open Go Go.RowKit
open Tp (T)

theorem copy_any {t : T} {k n : Int} {m : Nat} {a : Option Addr} {c : Nat} {w : World} (hv : TV t k n m) (h : Tp.size t ≤ 10000) (hty : TyAt (LT w.heap.size) w t a c) :
    Calls Try.prog 10 #[.agg #[.int .i64 k, .int .i64 n, .slice a m c]] w fun e w' => ∃ a' c', e = .returned (.agg #[.int .i64 k, .int .i64 n, .slice a' m c']) ∧ TyAt (fun b => w.heap.size ≤ b ∧ b < w'.heap.size) w' t a' c' ∧ Below w.heap.size w w' := by
  have hk := ktype_any (Tp.size t) t a c w (Nat.le_refl _) h hty
  rw [tv_of hv] at hk
  refine hk.mono fun _ _ ⟨a', c', _, h1, h2, h3, h4, h5, h6⟩ => ?_
  rw [tv_of hv] at h1
  exact ⟨a', c', h1, TyPost.ty h2 h3 h4 h5, h6⟩

theorem rr_any {t : T} {k n : Int} {m : Nat} {a : Option Addr} {c : Nat} {w : World} (hv : TV t k n m) (ht : TyAt (LT w.heap.size) w t a c) :
    Calls Try.prog 11 #[.agg #[.int .i64 k, .int .i64 n, .slice a m c]] w fun e w' => e = .returned (.bool (Tp.right t)) ∧ Below w.heap.size w w' := by
  rw [← tv_of hv]
  exact rright_any _ t a c w (Nat.le_refl _) ht
/-- A box of zeros is written. -/
theorem put_half {B : Nat} {W y : World} {bb : Nat} {v0 v1 v2 : Value} (hB : Below B W y) (hbb : B ≤ bb) : Below B W (((y.setCell ⟨bb, 0, none⟩ v0).setCell ⟨bb, 1, none⟩ v1).setCell ⟨bb, 2, none⟩ v2) :=
  ((hB.setCell hbb _).setCell hbb _).setCell hbb _
/-- Two boxes of zeros are written: what lies beside them stays. -/
theorem put_two {B : Nat} {W y F : World} {p5 p6 lo5 hi5 lo6 hi6 : Nat} {t u : T} {k n k' n' : Int} {l l' : Nat} {a a' : Option Addr} {c c' : Nat} (hv : TV t k n l) (hv' : TV u k' n' l') (z5 : y.heap[p5]? = some (.cells #[.int .i64 0, .int .i64 0, .slice none 0 0] 24 (0, 0))) (z6 : y.heap[p6]? = some (.cells #[.int .i64 0, .int .i64 0, .slice none 0 0] 24 (0, 0)))
    (h5 : TyAt (fun b => lo5 ≤ b ∧ b < hi5) y t a c) (h6 : TyAt (fun b => lo6 ≤ b ∧ b < hi6) y u a' c') (hB : Below B W y) (hp5 : B ≤ p5) (hp6 : B ≤ p6) (hne : p6 ≠ p5) (q5 : hi5 ≤ y.heap.size) (q6 : hi6 ≤ y.heap.size) (r5 : p5 < lo5 ∨ hi5 ≤ p5) (r6 : p6 < lo5 ∨ hi5 ≤ p6) (s5 : p5 < lo6 ∨ hi6 ≤ p5) (s6 : p6 < lo6 ∨ hi6 ≤ p6)
    (hF : ((((((y.setCell ⟨p5, 0, none⟩ (.int .i64 k)).setCell ⟨p5, 1, none⟩ (.int .i64 n)).setCell ⟨p5, 2, none⟩ (.slice a l c)).setCell ⟨p6, 0, none⟩ (.int .i64 k')).setCell ⟨p6, 1, none⟩ (.int .i64 n')).setCell ⟨p6, 2, none⟩ (.slice a' l' c')) = F) : BoxT F p5 t k n l a c ∧ BoxT F p6 u k' n' l' a' c' ∧ Below B W F := by
  have hz : F.heap.size = y.heap.size := by rw [← hF]; simp only [size_setCell]
  have hO : ∀ j, j ≠ p5 → j ≠ p6 → F.heap[j]? = y.heap[j]? := fun j h1 h2 => by rw [← hF]; exact (set3_other h2).trans (set3_other h1)
  have b5 : F.heap[p5]? = some (.cells #[.int .i64 k, .int .i64 n, .slice a l c] 24 (0, 0)) := by rw [← hF]; exact (set3_other (fun h => hne h.symm)).trans (box_set3 z5)
  have b6 : F.heap[p6]? = some (.cells #[.int .i64 k', .int .i64 n', .slice a' l' c'] 24 (0, 0)) := by rw [← hF]; exact box_set3 ((set3_other hne).trans z6)
  refine ⟨⟨hv, b5, ty_same (fun j hj => hO j (by omega) (by omega)) (fun j hj => (show j < F.heap.size by omega)) h5⟩, ⟨hv', b6, ty_same (fun j hj => hO j (by omega) (by omega)) (fun j hj => (show j < F.heap.size by omega)) h6⟩, ?_⟩
  rw [← hF]
  exact (((((hB.setCell hp5 _).setCell hp5 _).setCell hp5 _).setCell hp6 _).setCell hp6 _).setCell hp6 _

theorem rb_any {t u : T} {k n k' n' : Int} {m m' : Nat} {a a' : Option Addr} {c c' : Nat} {w : World} (hv : TV t k n m) (hv' : TV u k' n' m') (hr : Tp.right t = true) (hr' : Tp.right u = true) (ht : TyAt (LT w.heap.size) w t a c) (hu : TyAt (LT w.heap.size) w u a' c') :
    Calls Try.prog 15 #[.agg #[.int .i64 k, .int .i64 n, .slice a m c], .agg #[.int .i64 k', .int .i64 n', .slice a' m' c']] w fun e w' => e = .returned (.bool (Tp.below t u)) ∧ Below w.heap.size w w' := by
  rw [← tv_of hv, ← tv_of hv']
  exact rbelow_any _ t u a c a' c' w (Nat.le_refl _) hr hr' ht hu
set_option maxRecDepth 100000 in
set_option maxHeartbeats 8000000 in
theorem lexact9_any (t : T) (a : Option Addr) (cap : Nat) (u : T) (b : Option Addr) (cap' : Nat) (w : World) (hty : TyAt (LT w.heap.size) w t a cap) (hty' : TyAt (LT w.heap.size) w u b cap') :
    Calls Try.prog 3 #[tv t a cap, tv u b cap'] w fun e w' => e = .returned (.bool true) ∧ Below w.heap.size w w' := by
  obtain ⟨k0, n0, m0, hv⟩ := TV.mk t
  obtain ⟨k9, n9, m9, hv'⟩ := TV.mk u
  rw [tv_of hv, tv_of hv']
  obtain ⟨W2, hW2⟩ : ∃ W2, (w.alloc (.cells #[.int .i64 k0, .int .i64 n0, .slice a m0 cap] 24)).alloc (.cells #[.int .i64 k9, .int .i64 n9, .slice b m9 cap'] 24) = W2 := ⟨_, rfl⟩
  have hb2 : Below w.heap.size w W2 := by rw [← hW2]; exact ((Below.refl _ _).alloc (Nat.le_refl _) _).alloc (by simp) _
  have hs2 : W2.heap.size = w.heap.size + 2 := by rw [← hW2]; simp
  have bx : BoxT W2 w.heap.size t k0 n0 m0 a cap := ⟨hv, by rw [← hW2]; exact box1 _ _ _ _ _, ty_later hty hb2⟩
  have bu : BoxT W2 (w.heap.size + 1) u k9 n9 m9 b cap' := ⟨hv', by rw [← hW2]; exact box2 _ _ _ _ _, ty_later hty' hb2⟩
  obtain ⟨rr, hrr⟩ : ∃ r, decide (600 < Tp.sizes [t, u]) = r := ⟨_, rfl⟩
  have hri := heavy_any [t, u] (some ⟨W2.heap.size, 0, none⟩) 2 _ (by simp) (row_two bx.ty bu.ty hv.1 hv.2.1 hv.2.2 hv'.1 hv'.2.1 hv'.2.2)
  rw [hrr] at hri
  have HRI := Lib.hid hri; have HRR := Lib.hid hrr; have HB2 := Lib.hid hb2; have HS2 := Lib.hid hs2; have HW2 := Lib.hid hW2; have BX := Lib.hid bx; have BU := Lib.hid bu
  clear hri hrr hb2 hs2 hW2 hty hty' hv hv'
  go_enter Try.func3, Try.ntmps3
  go_upto_region 1 with fail
  rw [HW2.out]
  obtain ⟨c0, c1, c2⟩ := bx.cells
  obtain ⟨d0, d1, d2⟩ := bu.cells
  clear bx bu
  go_wp2_with fail
  refine HRI.out.mono ?_
  clear c0 c1 c2 d0 d1 d2
  rintro e w3 ⟨rfl, hb3⟩
  have hb23 : Below W2.heap.size W2 w3 := ((Below.refl _ _).alloc (Nat.le_refl _) _).tr hb3 (Nat.le_refl _)
  have BX3 := Lib.hid (BX.out.later hb23); have BU3 := Lib.hid (BU.out.later hb23); have HB3 := Lib.hid (HB2.out.tr hb23 (Nat.le_refl _))
  clear hb3 hb23
  cases rr with
  | true =>
    go_wp2_with fail
    go_ret
    exact ⟨rfl, HB3.out⟩
  | false =>
    have hsz : Tp.size t + Tp.size u ≤ 600 := by have := of_decide_eq_false HRR.out; simp only [Tp.sizes] at this; omega
    have HST := Lib.hid (show Tp.size t ≤ 10000 by omega); have HSU := Lib.hid (show Tp.size u ≤ 10000 by omega)
    clear hsz
    have HCELL := Lib.hid (fun x (h : Below w3.heap.size w3 x) => (⟨(BX3.out.later h).cells, (BU3.out.later h).cells⟩ : _ ∧ _))
    have HCT := Lib.hid (fun x (h : Below w3.heap.size w3 x) => copy_any (w := x) (BX3.out.later h).says HST.out (BX3.out.later h).ty)
    have HCU := Lib.hid (fun x (h : Below w3.heap.size w3 x) => copy_any (w := x) (BU3.out.later h).says HSU.out (BU3.out.later h).ty)
    go_upto_region 3 with fail
    go_cut [5, 6] from 16 (fun v5 v6 wx => ∃ p5 p6 a5 q5 a6 q6, v5 = .pointer (some ⟨p5, 0, none⟩) ∧ v6 = .pointer (some ⟨p6, 0, none⟩) ∧ BoxT wx p5 t k0 n0 m0 a5 q5 ∧ BoxT wx p6 u k9 n9 m9 a6 q6 ∧ Below w3.heap.size w3 wx)
    case first =>
      obtain ⟨V0, hV0⟩ : ∃ V, w3.drew = V := ⟨_, rfl⟩
      have HS0 := Lib.hid (show Below w3.heap.size w3 V0 by rw [← hV0]; exact (Below.refl _ _).drew)
      refine wp_region_held_drew (S := Below w3.heap.size w3) (by kernel_rfl) (Below.refl _ _).drew (fun _ => ?_)
      rw [hV0]
      clear hV0
      refine wpAnyH_take (i := 0) (oi := ⟨some 16, _, _, _, _, _⟩) (v := ?_) rfl (by kernel_rfl) (by kernel_rfl) (by kernel_rfl) (fun _ _ _ h => h) (Or.inl ⟨by rfl, ?_⟩) HS0.out ?_
      rotate_left
      · (intro xx hSw; obtain ⟨⟨c0, c1, c2⟩, ⟨d0, d1, d2⟩⟩ := HCELL.out _ hSw; go_simp; (try with_reducible rfl))
      try simp only [Act.put, List.setIfInBounds_toArray, List.set_cons_zero, List.set_cons_succ]
      refine wpAnyH_take (i := 2) (oi := ⟨some 18, _, _, _, _, _⟩) (v := ?_) rfl (by kernel_rfl) (by kernel_rfl) (by kernel_rfl) (fun _ _ _ h => h) (Or.inl ⟨by rfl, ?_⟩) HS0.out ?_
      rotate_left
      · (intro xx hSw; obtain ⟨⟨c0, c1, c2⟩, ⟨d0, d1, d2⟩⟩ := HCELL.out _ hSw; go_simp; (try with_reducible rfl))
      try simp only [Act.put, List.setIfInBounds_toArray, List.set_cons_zero, List.set_cons_succ]
      refine wpAnyH_ready (rs := [1, 4, 5]) (by kernel_rfl) (by simp) ?_
      refine AllReadyH.cons (o := ⟨some 17, _, _, _, _, _⟩) rfl (fun K hK => ?_) (AllReadyH.cons (o := ⟨some 5, _, _, _, _, _⟩) rfl (fun K hK => ?_) (AllReadyH.cons (o := ⟨some 6, _, _, _, _, _⟩) rfl (fun K hK => ?_) AllReadyH.nil))
      · skip
        go_simp
        refine (HCT.out _ HS0.out).mono ?_
        rintro e V1 ⟨a5, q5, rfl, ht, hb⟩
        have HK0 := Lib.hid hb
        have HS1 := Lib.hid (Go.RowKit.Below.tr HS0.out hb (Nat.le_refl _))
        have HT5 := Lib.hid ht
        clear hb ht
        dsimp only
        refine hK.out _ _ HS1.out (fun _ => ?_)
        clear hK K
        try simp only [Act.put, List.setIfInBounds_toArray, List.set_cons_zero, List.set_cons_succ]
        refine wpAnyH_ready (rs := [3, 4, 5]) (by kernel_rfl) (by simp) ?_
        refine AllReadyH.cons (o := ⟨some 19, _, _, _, _, _⟩) rfl (fun K hK => ?_) (AllReadyH.cons (o := ⟨some 5, _, _, _, _, _⟩) rfl (fun K hK => ?_) (AllReadyH.cons (o := ⟨some 6, _, _, _, _, _⟩) rfl (fun K hK => ?_) AllReadyH.nil))
        · skip
          go_simp
          refine (HCU.out _ HS1.out).mono ?_
          rintro e V2 ⟨a6, q6, rfl, ht, hb⟩
          have HK1 := Lib.hid hb
          have HS2 := Lib.hid (Go.RowKit.Below.tr HS1.out hb (Nat.le_refl _))
          have HT6 := Lib.hid ht
          clear hb ht
          dsimp only
          refine hK.out _ _ HS2.out (fun _ => ?_)
          clear hK K
          try simp only [Act.put, List.setIfInBounds_toArray, List.set_cons_zero, List.set_cons_succ]
          refine wpAnyH_ready (rs := [4, 5]) (by kernel_rfl) (by simp) ?_
          refine AllReadyH.cons (o := ⟨some 5, _, _, _, _, _⟩) rfl (fun K hK => ?_) (AllReadyH.cons (o := ⟨some 6, _, _, _, _, _⟩) rfl (fun K hK => ?_) AllReadyH.nil)
          · skip
            go_simp
            refine hK.out _ _ (HS2.out.alloc HS2.out.size (.cells #[.int .i64 0, .int .i64 0, .slice none 0 0] 24)) (fun _ => ?_)
            clear hK K
            try simp only [Act.put, List.setIfInBounds_toArray, List.set_cons_zero, List.set_cons_succ]
            obtain ⟨V3, hV⟩ : ∃ V, V2.alloc (.cells #[.int .i64 0, .int .i64 0, .slice none 0 0] 24) = V := ⟨_, rfl⟩
            rw [hV]
            have HK2 := Lib.hid (show Below V2.heap.size V2 V3 by rw [← hV]; exact (Below.refl _ _).alloc (Nat.le_refl _) _)
            have HZ5 := Lib.hid (show V3.heap[V2.heap.size]? = some (.cells #[.int .i64 0, .int .i64 0, .slice none 0 0] 24) by rw [← hV]; exact World.alloc_heap_new _ _)
            have HL5 := Lib.hid (show V2.heap.size < V3.heap.size by rw [← hV, World.size_alloc]; omega)
            have HS3 := Lib.hid (Go.RowKit.Below.tr HS2.out HK2.out (Nat.le_refl _))
            clear hV
            refine wpAnyH_ready (rs := [5]) (by kernel_rfl) (by simp) ?_
            refine AllReadyH.cons (o := ⟨some 6, _, _, _, _, _⟩) rfl (fun K hK => ?_) AllReadyH.nil
            go_simp
            refine hK.out _ _ (HS3.out.alloc HS3.out.size (.cells #[.int .i64 0, .int .i64 0, .slice none 0 0] 24)) (fun _ => ?_)
            clear hK K
            try simp only [Act.put, List.setIfInBounds_toArray, List.set_cons_zero, List.set_cons_succ]
            obtain ⟨V4, hV⟩ : ∃ V, V3.alloc (.cells #[.int .i64 0, .int .i64 0, .slice none 0 0] 24) = V := ⟨_, rfl⟩
            rw [hV]
            have HK3 := Lib.hid (show Below V3.heap.size V3 V4 by rw [← hV]; exact (Below.refl _ _).alloc (Nat.le_refl _) _)
            have HZ6 := Lib.hid (show V4.heap[V3.heap.size]? = some (.cells #[.int .i64 0, .int .i64 0, .slice none 0 0] 24) by rw [← hV]; exact World.alloc_heap_new _ _)
            have HL6 := Lib.hid (show V3.heap.size < V4.heap.size by rw [← hV, World.size_alloc]; omega)
            have HS4 := Lib.hid (Go.RowKit.Below.tr HS3.out HK3.out (Nat.le_refl _))
            clear hV
            have z5 := (HK3.out.block _ HL5.out).trans HZ5.out
            have z6 := ((Below.refl V4.heap.size V4).block _ HL6.out).trans HZ6.out
            have hput := fun F hF => put_two (F := F) (hi5 := V1.heap.size) (hi6 := V2.heap.size) (lo5 := V0.heap.size) (lo6 := V1.heap.size) BX3.out.says BU3.out.says z5 z6 (HT5.out.below (Go.RowKit.Below.tr (Go.RowKit.Below.tr HK1.out HK2.out (Nat.le_refl _)) HK3.out (Nat.le_refl _)) (fun _ h => h.2) (fun _ h => h)) (HT6.out.below (Go.RowKit.Below.tr HK2.out HK3.out (Nat.le_refl _)) (fun _ h => h.2) (fun _ h => h)) HS4.out (Nat.le_trans HS0.out.size (by have := HK0.out.size; have := HK1.out.size; have := HK2.out.size; have := HK3.out.size; have := HL5.out; have := HL6.out; omega)) (Nat.le_trans HS0.out.size (by have := HK0.out.size; have := HK1.out.size; have := HK2.out.size; have := HK3.out.size; have := HL5.out; have := HL6.out; omega)) (by have := HK0.out.size; have := HK1.out.size; have := HK2.out.size; have := HK3.out.size; have := HL5.out; have := HL6.out; omega) (by have := HK0.out.size; have := HK1.out.size; have := HK2.out.size; have := HK3.out.size; have := HL5.out; have := HL6.out; omega) (by have := HK0.out.size; have := HK1.out.size; have := HK2.out.size; have := HK3.out.size; have := HL5.out; have := HL6.out; omega) (by have := HK0.out.size; have := HK1.out.size; have := HK2.out.size; have := HK3.out.size; have := HL5.out; have := HL6.out; omega) (by have := HK0.out.size; have := HK1.out.size; have := HK2.out.size; have := HK3.out.size; have := HL5.out; have := HL6.out; omega) (by have := HK0.out.size; have := HK1.out.size; have := HK2.out.size; have := HK3.out.size; have := HL5.out; have := HL6.out; omega) (by have := HK0.out.size; have := HK1.out.size; have := HK2.out.size; have := HK3.out.size; have := HL5.out; have := HL6.out; omega) hF
            have HPUT := Lib.hid hput
            clear hput
            obtain ⟨z50, z51, z52, f50, f51, f52⟩ := zero_three z5
            refine wpAnyH_ready (rs := [6]) (by kernel_rfl) (by simp) ?_
            refine AllReadyH.cons (o := ⟨none, _, _, _, _, _⟩) rfl (fun K hK => ?_) AllReadyH.nil
            go_simp
            refine hK.out _ _ (put_half HS4.out (Nat.le_trans HS0.out.size (by have := HK0.out.size; have := HK1.out.size; have := HK2.out.size; have := HK3.out.size; have := HL5.out; have := HL6.out; omega))) (fun _ => ?_)
            clear hK K
            try simp only [Act.put, List.setIfInBounds_toArray, List.set_cons_zero, List.set_cons_succ]
            clear z50 z51 z52 f50 f51 f52
            have y6 := (set3_other (V := V4) (b := V2.heap.size) (v0 := .int .i64 k0) (v1 := .int .i64 n0) (v2 := .slice a5 m0 q5) (k := V3.heap.size) (by have := HK0.out.size; have := HK1.out.size; have := HK2.out.size; have := HK3.out.size; have := HL5.out; have := HL6.out; omega)).trans z6
            obtain ⟨V5, hV5⟩ : ∃ V, ((V4.setCell ⟨V2.heap.size, 0, none⟩ (.int .i64 k0)).setCell ⟨V2.heap.size, 1, none⟩ (.int .i64 n0)).setCell ⟨V2.heap.size, 2, none⟩ (.slice a5 m0 q5) = V := ⟨_, rfl⟩
            rw [hV5] at y6 ⊢
            have HPU2 := Lib.hid (HPUT.out _ (by rw [hV5]))
            obtain ⟨z60, z61, z62, f60, f61, f62⟩ := zero_three y6
            refine wpAnyH_ready (rs := [7]) (by kernel_rfl) (by simp) ?_
            refine AllReadyH.cons (o := ⟨none, _, _, _, _, _⟩) rfl (fun K hK => ?_) AllReadyH.nil
            go_simp
            refine hK.out _ _ HPU2.out.2.2 (fun _ => ?_)
            clear hK K
            try simp only [Act.put, List.setIfInBounds_toArray, List.set_cons_zero, List.set_cons_succ]
            refine wpAnyH_done (by kernel_rfl) ?_ _
            go_wp2_with fail
            go_meet
            case rel => exact ⟨_, _, _, _, _, _, rfl, rfl, HPU2.out.1, HPU2.out.2.1, HPU2.out.2.2⟩
          · skip
            go_simp
            refine hK.out _ _ (HS2.out.alloc HS2.out.size (.cells #[.int .i64 0, .int .i64 0, .slice none 0 0] 24)) (fun _ => ?_)
            clear hK K
            try simp only [Act.put, List.setIfInBounds_toArray, List.set_cons_zero, List.set_cons_succ]
            obtain ⟨V3, hV⟩ : ∃ V, V2.alloc (.cells #[.int .i64 0, .int .i64 0, .slice none 0 0] 24) = V := ⟨_, rfl⟩
            rw [hV]
            have HK2 := Lib.hid (show Below V2.heap.size V2 V3 by rw [← hV]; exact (Below.refl _ _).alloc (Nat.le_refl _) _)
            have HZ6 := Lib.hid (show V3.heap[V2.heap.size]? = some (.cells #[.int .i64 0, .int .i64 0, .slice none 0 0] 24) by rw [← hV]; exact World.alloc_heap_new _ _)
            have HL6 := Lib.hid (show V2.heap.size < V3.heap.size by rw [← hV, World.size_alloc]; omega)
            have HS3 := Lib.hid (Go.RowKit.Below.tr HS2.out HK2.out (Nat.le_refl _))
            clear hV
            refine wpAnyH_ready (rs := [4]) (by kernel_rfl) (by simp) ?_
            refine AllReadyH.cons (o := ⟨some 5, _, _, _, _, _⟩) rfl (fun K hK => ?_) AllReadyH.nil
            go_simp
            refine hK.out _ _ (HS3.out.alloc HS3.out.size (.cells #[.int .i64 0, .int .i64 0, .slice none 0 0] 24)) (fun _ => ?_)
            clear hK K
            try simp only [Act.put, List.setIfInBounds_toArray, List.set_cons_zero, List.set_cons_succ]
            obtain ⟨V4, hV⟩ : ∃ V, V3.alloc (.cells #[.int .i64 0, .int .i64 0, .slice none 0 0] 24) = V := ⟨_, rfl⟩
            rw [hV]
            have HK3 := Lib.hid (show Below V3.heap.size V3 V4 by rw [← hV]; exact (Below.refl _ _).alloc (Nat.le_refl _) _)
            have HZ5 := Lib.hid (show V4.heap[V3.heap.size]? = some (.cells #[.int .i64 0, .int .i64 0, .slice none 0 0] 24) by rw [← hV]; exact World.alloc_heap_new _ _)
            have HL5 := Lib.hid (show V3.heap.size < V4.heap.size by rw [← hV, World.size_alloc]; omega)
            have HS4 := Lib.hid (Go.RowKit.Below.tr HS3.out HK3.out (Nat.le_refl _))
            clear hV
            have z5 := ((Below.refl V4.heap.size V4).block _ HL5.out).trans HZ5.out
            have z6 := (HK3.out.block _ HL6.out).trans HZ6.out
            have hput := fun F hF => put_two (F := F) (hi5 := V1.heap.size) (hi6 := V2.heap.size) (lo5 := V0.heap.size) (lo6 := V1.heap.size) BX3.out.says BU3.out.says z5 z6 (HT5.out.below (Go.RowKit.Below.tr (Go.RowKit.Below.tr HK1.out HK2.out (Nat.le_refl _)) HK3.out (Nat.le_refl _)) (fun _ h => h.2) (fun _ h => h)) (HT6.out.below (Go.RowKit.Below.tr HK2.out HK3.out (Nat.le_refl _)) (fun _ h => h.2) (fun _ h => h)) HS4.out (Nat.le_trans HS0.out.size (by have := HK0.out.size; have := HK1.out.size; have := HK2.out.size; have := HK3.out.size; have := HL5.out; have := HL6.out; omega)) (Nat.le_trans HS0.out.size (by have := HK0.out.size; have := HK1.out.size; have := HK2.out.size; have := HK3.out.size; have := HL5.out; have := HL6.out; omega)) (by have := HK0.out.size; have := HK1.out.size; have := HK2.out.size; have := HK3.out.size; have := HL5.out; have := HL6.out; omega) (by have := HK0.out.size; have := HK1.out.size; have := HK2.out.size; have := HK3.out.size; have := HL5.out; have := HL6.out; omega) (by have := HK0.out.size; have := HK1.out.size; have := HK2.out.size; have := HK3.out.size; have := HL5.out; have := HL6.out; omega) (by have := HK0.out.size; have := HK1.out.size; have := HK2.out.size; have := HK3.out.size; have := HL5.out; have := HL6.out; omega) (by have := HK0.out.size; have := HK1.out.size; have := HK2.out.size; have := HK3.out.size; have := HL5.out; have := HL6.out; omega) (by have := HK0.out.size; have := HK1.out.size; have := HK2.out.size; have := HK3.out.size; have := HL5.out; have := HL6.out; omega) (by have := HK0.out.size; have := HK1.out.size; have := HK2.out.size; have := HK3.out.size; have := HL5.out; have := HL6.out; omega) hF
            have HPUT := Lib.hid hput
            clear hput
            obtain ⟨z50, z51, z52, f50, f51, f52⟩ := zero_three z5
            refine wpAnyH_ready (rs := [6]) (by kernel_rfl) (by simp) ?_
            refine AllReadyH.cons (o := ⟨none, _, _, _, _, _⟩) rfl (fun K hK => ?_) AllReadyH.nil
            go_simp
            refine hK.out _ _ (put_half HS4.out (Nat.le_trans HS0.out.size (by have := HK0.out.size; have := HK1.out.size; have := HK2.out.size; have := HK3.out.size; have := HL5.out; have := HL6.out; omega))) (fun _ => ?_)
            clear hK K
            try simp only [Act.put, List.setIfInBounds_toArray, List.set_cons_zero, List.set_cons_succ]
            clear z50 z51 z52 f50 f51 f52
            have y6 := (set3_other (V := V4) (b := V3.heap.size) (v0 := .int .i64 k0) (v1 := .int .i64 n0) (v2 := .slice a5 m0 q5) (k := V2.heap.size) (by have := HK0.out.size; have := HK1.out.size; have := HK2.out.size; have := HK3.out.size; have := HL5.out; have := HL6.out; omega)).trans z6
            obtain ⟨V5, hV5⟩ : ∃ V, ((V4.setCell ⟨V3.heap.size, 0, none⟩ (.int .i64 k0)).setCell ⟨V3.heap.size, 1, none⟩ (.int .i64 n0)).setCell ⟨V3.heap.size, 2, none⟩ (.slice a5 m0 q5) = V := ⟨_, rfl⟩
            rw [hV5] at y6 ⊢
            have HPU2 := Lib.hid (HPUT.out _ (by rw [hV5]))
            obtain ⟨z60, z61, z62, f60, f61, f62⟩ := zero_three y6
            refine wpAnyH_ready (rs := [7]) (by kernel_rfl) (by simp) ?_
            refine AllReadyH.cons (o := ⟨none, _, _, _, _, _⟩) rfl (fun K hK => ?_) AllReadyH.nil
            go_simp
            refine hK.out _ _ HPU2.out.2.2 (fun _ => ?_)
            clear hK K
            try simp only [Act.put, List.setIfInBounds_toArray, List.set_cons_zero, List.set_cons_succ]
            refine wpAnyH_done (by kernel_rfl) ?_ _
            go_wp2_with fail
            go_meet
            case rel => exact ⟨_, _, _, _, _, _, rfl, rfl, HPU2.out.1, HPU2.out.2.1, HPU2.out.2.2⟩
        · skip
          go_simp
          refine hK.out _ _ (HS1.out.alloc HS1.out.size (.cells #[.int .i64 0, .int .i64 0, .slice none 0 0] 24)) (fun _ => ?_)
          clear hK K
          try simp only [Act.put, List.setIfInBounds_toArray, List.set_cons_zero, List.set_cons_succ]
          obtain ⟨V2, hV⟩ : ∃ V, V1.alloc (.cells #[.int .i64 0, .int .i64 0, .slice none 0 0] 24) = V := ⟨_, rfl⟩
          rw [hV]
          have HK1 := Lib.hid (show Below V1.heap.size V1 V2 by rw [← hV]; exact (Below.refl _ _).alloc (Nat.le_refl _) _)
          have HZ5 := Lib.hid (show V2.heap[V1.heap.size]? = some (.cells #[.int .i64 0, .int .i64 0, .slice none 0 0] 24) by rw [← hV]; exact World.alloc_heap_new _ _)
          have HL5 := Lib.hid (show V1.heap.size < V2.heap.size by rw [← hV, World.size_alloc]; omega)
          have HS2 := Lib.hid (Go.RowKit.Below.tr HS1.out HK1.out (Nat.le_refl _))
          clear hV
          refine wpAnyH_ready (rs := [3, 5]) (by kernel_rfl) (by simp) ?_
          refine AllReadyH.cons (o := ⟨some 19, _, _, _, _, _⟩) rfl (fun K hK => ?_) (AllReadyH.cons (o := ⟨some 6, _, _, _, _, _⟩) rfl (fun K hK => ?_) AllReadyH.nil)
          · skip
            go_simp
            refine (HCU.out _ HS2.out).mono ?_
            rintro e V3 ⟨a6, q6, rfl, ht, hb⟩
            have HK2 := Lib.hid hb
            have HS3 := Lib.hid (Go.RowKit.Below.tr HS2.out hb (Nat.le_refl _))
            have HT6 := Lib.hid ht
            clear hb ht
            dsimp only
            refine hK.out _ _ HS3.out (fun _ => ?_)
            clear hK K
            try simp only [Act.put, List.setIfInBounds_toArray, List.set_cons_zero, List.set_cons_succ]
            refine wpAnyH_ready (rs := [5]) (by kernel_rfl) (by simp) ?_
            refine AllReadyH.cons (o := ⟨some 6, _, _, _, _, _⟩) rfl (fun K hK => ?_) AllReadyH.nil
            go_simp
            refine hK.out _ _ (HS3.out.alloc HS3.out.size (.cells #[.int .i64 0, .int .i64 0, .slice none 0 0] 24)) (fun _ => ?_)
            clear hK K
            try simp only [Act.put, List.setIfInBounds_toArray, List.set_cons_zero, List.set_cons_succ]
            obtain ⟨V4, hV⟩ : ∃ V, V3.alloc (.cells #[.int .i64 0, .int .i64 0, .slice none 0 0] 24) = V := ⟨_, rfl⟩
            rw [hV]
            have HK3 := Lib.hid (show Below V3.heap.size V3 V4 by rw [← hV]; exact (Below.refl _ _).alloc (Nat.le_refl _) _)
            have HZ6 := Lib.hid (show V4.heap[V3.heap.size]? = some (.cells #[.int .i64 0, .int .i64 0, .slice none 0 0] 24) by rw [← hV]; exact World.alloc_heap_new _ _)
            have HL6 := Lib.hid (show V3.heap.size < V4.heap.size by rw [← hV, World.size_alloc]; omega)
            have HS4 := Lib.hid (Go.RowKit.Below.tr HS3.out HK3.out (Nat.le_refl _))
            clear hV
            have z5 := ((Go.RowKit.Below.tr HK2.out HK3.out (Nat.le_refl _)).block _ HL5.out).trans HZ5.out
            have z6 := ((Below.refl V4.heap.size V4).block _ HL6.out).trans HZ6.out
            have hput := fun F hF => put_two (F := F) (hi5 := V1.heap.size) (hi6 := V3.heap.size) (lo5 := V0.heap.size) (lo6 := V2.heap.size) BX3.out.says BU3.out.says z5 z6 (HT5.out.below (Go.RowKit.Below.tr (Go.RowKit.Below.tr HK1.out HK2.out (Nat.le_refl _)) HK3.out (Nat.le_refl _)) (fun _ h => h.2) (fun _ h => h)) (HT6.out.below HK3.out (fun _ h => h.2) (fun _ h => h)) HS4.out (Nat.le_trans HS0.out.size (by have := HK0.out.size; have := HK1.out.size; have := HK2.out.size; have := HK3.out.size; have := HL5.out; have := HL6.out; omega)) (Nat.le_trans HS0.out.size (by have := HK0.out.size; have := HK1.out.size; have := HK2.out.size; have := HK3.out.size; have := HL5.out; have := HL6.out; omega)) (by have := HK0.out.size; have := HK1.out.size; have := HK2.out.size; have := HK3.out.size; have := HL5.out; have := HL6.out; omega) (by have := HK0.out.size; have := HK1.out.size; have := HK2.out.size; have := HK3.out.size; have := HL5.out; have := HL6.out; omega) (by have := HK0.out.size; have := HK1.out.size; have := HK2.out.size; have := HK3.out.size; have := HL5.out; have := HL6.out; omega) (by have := HK0.out.size; have := HK1.out.size; have := HK2.out.size; have := HK3.out.size; have := HL5.out; have := HL6.out; omega) (by have := HK0.out.size; have := HK1.out.size; have := HK2.out.size; have := HK3.out.size; have := HL5.out; have := HL6.out; omega) (by have := HK0.out.size; have := HK1.out.size; have := HK2.out.size; have := HK3.out.size; have := HL5.out; have := HL6.out; omega) (by have := HK0.out.size; have := HK1.out.size; have := HK2.out.size; have := HK3.out.size; have := HL5.out; have := HL6.out; omega) hF
            have HPUT := Lib.hid hput
            clear hput
            obtain ⟨z50, z51, z52, f50, f51, f52⟩ := zero_three z5
            refine wpAnyH_ready (rs := [6]) (by kernel_rfl) (by simp) ?_
            refine AllReadyH.cons (o := ⟨none, _, _, _, _, _⟩) rfl (fun K hK => ?_) AllReadyH.nil
            go_simp
            refine hK.out _ _ (put_half HS4.out (Nat.le_trans HS0.out.size (by have := HK0.out.size; have := HK1.out.size; have := HK2.out.size; have := HK3.out.size; have := HL5.out; have := HL6.out; omega))) (fun _ => ?_)
            clear hK K
            try simp only [Act.put, List.setIfInBounds_toArray, List.set_cons_zero, List.set_cons_succ]
            clear z50 z51 z52 f50 f51 f52
            have y6 := (set3_other (V := V4) (b := V1.heap.size) (v0 := .int .i64 k0) (v1 := .int .i64 n0) (v2 := .slice a5 m0 q5) (k := V3.heap.size) (by have := HK0.out.size; have := HK1.out.size; have := HK2.out.size; have := HK3.out.size; have := HL5.out; have := HL6.out; omega)).trans z6
            obtain ⟨V5, hV5⟩ : ∃ V, ((V4.setCell ⟨V1.heap.size, 0, none⟩ (.int .i64 k0)).setCell ⟨V1.heap.size, 1, none⟩ (.int .i64 n0)).setCell ⟨V1.heap.size, 2, none⟩ (.slice a5 m0 q5) = V := ⟨_, rfl⟩
            rw [hV5] at y6 ⊢
            have HPU2 := Lib.hid (HPUT.out _ (by rw [hV5]))
            obtain ⟨z60, z61, z62, f60, f61, f62⟩ := zero_three y6
            refine wpAnyH_ready (rs := [7]) (by kernel_rfl) (by simp) ?_
            refine AllReadyH.cons (o := ⟨none, _, _, _, _, _⟩) rfl (fun K hK => ?_) AllReadyH.nil
            go_simp
            refine hK.out _ _ HPU2.out.2.2 (fun _ => ?_)
            clear hK K
            try simp only [Act.put, List.setIfInBounds_toArray, List.set_cons_zero, List.set_cons_succ]
            refine wpAnyH_done (by kernel_rfl) ?_ _
            go_wp2_with fail
            go_meet
            case rel => exact ⟨_, _, _, _, _, _, rfl, rfl, HPU2.out.1, HPU2.out.2.1, HPU2.out.2.2⟩
          · skip
            go_simp
            refine hK.out _ _ (HS2.out.alloc HS2.out.size (.cells #[.int .i64 0, .int .i64 0, .slice none 0 0] 24)) (fun _ => ?_)
            clear hK K
            try simp only [Act.put, List.setIfInBounds_toArray, List.set_cons_zero, List.set_cons_succ]
            obtain ⟨V3, hV⟩ : ∃ V, V2.alloc (.cells #[.int .i64 0, .int .i64 0, .slice none 0 0] 24) = V := ⟨_, rfl⟩
            rw [hV]
            have HK2 := Lib.hid (show Below V2.heap.size V2 V3 by rw [← hV]; exact (Below.refl _ _).alloc (Nat.le_refl _) _)
            have HZ6 := Lib.hid (show V3.heap[V2.heap.size]? = some (.cells #[.int .i64 0, .int .i64 0, .slice none 0 0] 24) by rw [← hV]; exact World.alloc_heap_new _ _)
            have HL6 := Lib.hid (show V2.heap.size < V3.heap.size by rw [← hV, World.size_alloc]; omega)
            have HS3 := Lib.hid (Go.RowKit.Below.tr HS2.out HK2.out (Nat.le_refl _))
            clear hV
            refine wpAnyH_ready (rs := [3]) (by kernel_rfl) (by simp) ?_
            refine AllReadyH.cons (o := ⟨some 19, _, _, _, _, _⟩) rfl (fun K hK => ?_) AllReadyH.nil
            go_simp
            refine (HCU.out _ HS3.out).mono ?_
            rintro e V4 ⟨a6, q6, rfl, ht, hb⟩
            have HK3 := Lib.hid hb
            have HS4 := Lib.hid (Go.RowKit.Below.tr HS3.out hb (Nat.le_refl _))
            have HT6 := Lib.hid ht
            clear hb ht
            dsimp only
            refine hK.out _ _ HS4.out (fun _ => ?_)
            clear hK K
            try simp only [Act.put, List.setIfInBounds_toArray, List.set_cons_zero, List.set_cons_succ]
            have z5 := ((Go.RowKit.Below.tr HK2.out HK3.out (Nat.le_refl _)).block _ HL5.out).trans HZ5.out
            have z6 := (HK3.out.block _ HL6.out).trans HZ6.out
            have hput := fun F hF => put_two (F := F) (hi5 := V1.heap.size) (hi6 := V4.heap.size) (lo5 := V0.heap.size) (lo6 := V3.heap.size) BX3.out.says BU3.out.says z5 z6 (HT5.out.below (Go.RowKit.Below.tr (Go.RowKit.Below.tr HK1.out HK2.out (Nat.le_refl _)) HK3.out (Nat.le_refl _)) (fun _ h => h.2) (fun _ h => h)) (HT6.out.below (Below.refl V4.heap.size V4) (fun _ h => h.2) (fun _ h => h)) HS4.out (Nat.le_trans HS0.out.size (by have := HK0.out.size; have := HK1.out.size; have := HK2.out.size; have := HK3.out.size; have := HL5.out; have := HL6.out; omega)) (Nat.le_trans HS0.out.size (by have := HK0.out.size; have := HK1.out.size; have := HK2.out.size; have := HK3.out.size; have := HL5.out; have := HL6.out; omega)) (by have := HK0.out.size; have := HK1.out.size; have := HK2.out.size; have := HK3.out.size; have := HL5.out; have := HL6.out; omega) (by have := HK0.out.size; have := HK1.out.size; have := HK2.out.size; have := HK3.out.size; have := HL5.out; have := HL6.out; omega) (by have := HK0.out.size; have := HK1.out.size; have := HK2.out.size; have := HK3.out.size; have := HL5.out; have := HL6.out; omega) (by have := HK0.out.size; have := HK1.out.size; have := HK2.out.size; have := HK3.out.size; have := HL5.out; have := HL6.out; omega) (by have := HK0.out.size; have := HK1.out.size; have := HK2.out.size; have := HK3.out.size; have := HL5.out; have := HL6.out; omega) (by have := HK0.out.size; have := HK1.out.size; have := HK2.out.size; have := HK3.out.size; have := HL5.out; have := HL6.out; omega) (by have := HK0.out.size; have := HK1.out.size; have := HK2.out.size; have := HK3.out.size; have := HL5.out; have := HL6.out; omega) hF
            have HPUT := Lib.hid hput
            clear hput
            obtain ⟨z50, z51, z52, f50, f51, f52⟩ := zero_three z5
            refine wpAnyH_ready (rs := [6]) (by kernel_rfl) (by simp) ?_
            refine AllReadyH.cons (o := ⟨none, _, _, _, _, _⟩) rfl (fun K hK => ?_) AllReadyH.nil
            go_simp
            refine hK.out _ _ (put_half HS4.out (Nat.le_trans HS0.out.size (by have := HK0.out.size; have := HK1.out.size; have := HK2.out.size; have := HK3.out.size; have := HL5.out; have := HL6.out; omega))) (fun _ => ?_)
            clear hK K
            try simp only [Act.put, List.setIfInBounds_toArray, List.set_cons_zero, List.set_cons_succ]
            clear z50 z51 z52 f50 f51 f52
            have y6 := (set3_other (V := V4) (b := V1.heap.size) (v0 := .int .i64 k0) (v1 := .int .i64 n0) (v2 := .slice a5 m0 q5) (k := V2.heap.size) (by have := HK0.out.size; have := HK1.out.size; have := HK2.out.size; have := HK3.out.size; have := HL5.out; have := HL6.out; omega)).trans z6
            obtain ⟨V5, hV5⟩ : ∃ V, ((V4.setCell ⟨V1.heap.size, 0, none⟩ (.int .i64 k0)).setCell ⟨V1.heap.size, 1, none⟩ (.int .i64 n0)).setCell ⟨V1.heap.size, 2, none⟩ (.slice a5 m0 q5) = V := ⟨_, rfl⟩
            rw [hV5] at y6 ⊢
            have HPU2 := Lib.hid (HPUT.out _ (by rw [hV5]))
            obtain ⟨z60, z61, z62, f60, f61, f62⟩ := zero_three y6
            refine wpAnyH_ready (rs := [7]) (by kernel_rfl) (by simp) ?_
            refine AllReadyH.cons (o := ⟨none, _, _, _, _, _⟩) rfl (fun K hK => ?_) AllReadyH.nil
            go_simp
            refine hK.out _ _ HPU2.out.2.2 (fun _ => ?_)
            clear hK K
            try simp only [Act.put, List.setIfInBounds_toArray, List.set_cons_zero, List.set_cons_succ]
            refine wpAnyH_done (by kernel_rfl) ?_ _
            go_wp2_with fail
            go_meet
            case rel => exact ⟨_, _, _, _, _, _, rfl, rfl, HPU2.out.1, HPU2.out.2.1, HPU2.out.2.2⟩
        · skip
          go_simp
          refine hK.out _ _ (HS1.out.alloc HS1.out.size (.cells #[.int .i64 0, .int .i64 0, .slice none 0 0] 24)) (fun _ => ?_)
          clear hK K
          try simp only [Act.put, List.setIfInBounds_toArray, List.set_cons_zero, List.set_cons_succ]
          obtain ⟨V2, hV⟩ : ∃ V, V1.alloc (.cells #[.int .i64 0, .int .i64 0, .slice none 0 0] 24) = V := ⟨_, rfl⟩
          rw [hV]
          have HK1 := Lib.hid (show Below V1.heap.size V1 V2 by rw [← hV]; exact (Below.refl _ _).alloc (Nat.le_refl _) _)
          have HZ6 := Lib.hid (show V2.heap[V1.heap.size]? = some (.cells #[.int .i64 0, .int .i64 0, .slice none 0 0] 24) by rw [← hV]; exact World.alloc_heap_new _ _)
          have HL6 := Lib.hid (show V1.heap.size < V2.heap.size by rw [← hV, World.size_alloc]; omega)
          have HS2 := Lib.hid (Go.RowKit.Below.tr HS1.out HK1.out (Nat.le_refl _))
          clear hV
          refine wpAnyH_ready (rs := [3, 4]) (by kernel_rfl) (by simp) ?_
          refine AllReadyH.cons (o := ⟨some 19, _, _, _, _, _⟩) rfl (fun K hK => ?_) (AllReadyH.cons (o := ⟨some 5, _, _, _, _, _⟩) rfl (fun K hK => ?_) AllReadyH.nil)
          · skip
            go_simp
            refine (HCU.out _ HS2.out).mono ?_
            rintro e V3 ⟨a6, q6, rfl, ht, hb⟩
            have HK2 := Lib.hid hb
            have HS3 := Lib.hid (Go.RowKit.Below.tr HS2.out hb (Nat.le_refl _))
            have HT6 := Lib.hid ht
            clear hb ht
            dsimp only
            refine hK.out _ _ HS3.out (fun _ => ?_)
            clear hK K
            try simp only [Act.put, List.setIfInBounds_toArray, List.set_cons_zero, List.set_cons_succ]
            refine wpAnyH_ready (rs := [4]) (by kernel_rfl) (by simp) ?_
            refine AllReadyH.cons (o := ⟨some 5, _, _, _, _, _⟩) rfl (fun K hK => ?_) AllReadyH.nil
            go_simp
            refine hK.out _ _ (HS3.out.alloc HS3.out.size (.cells #[.int .i64 0, .int .i64 0, .slice none 0 0] 24)) (fun _ => ?_)
            clear hK K
            try simp only [Act.put, List.setIfInBounds_toArray, List.set_cons_zero, List.set_cons_succ]
            obtain ⟨V4, hV⟩ : ∃ V, V3.alloc (.cells #[.int .i64 0, .int .i64 0, .slice none 0 0] 24) = V := ⟨_, rfl⟩
            rw [hV]
            have HK3 := Lib.hid (show Below V3.heap.size V3 V4 by rw [← hV]; exact (Below.refl _ _).alloc (Nat.le_refl _) _)
            have HZ5 := Lib.hid (show V4.heap[V3.heap.size]? = some (.cells #[.int .i64 0, .int .i64 0, .slice none 0 0] 24) by rw [← hV]; exact World.alloc_heap_new _ _)
            have HL5 := Lib.hid (show V3.heap.size < V4.heap.size by rw [← hV, World.size_alloc]; omega)
            have HS4 := Lib.hid (Go.RowKit.Below.tr HS3.out HK3.out (Nat.le_refl _))
            clear hV
            have z5 := ((Below.refl V4.heap.size V4).block _ HL5.out).trans HZ5.out
            have z6 := ((Go.RowKit.Below.tr HK2.out HK3.out (Nat.le_refl _)).block _ HL6.out).trans HZ6.out
            have hput := fun F hF => put_two (F := F) (hi5 := V1.heap.size) (hi6 := V3.heap.size) (lo5 := V0.heap.size) (lo6 := V2.heap.size) BX3.out.says BU3.out.says z5 z6 (HT5.out.below (Go.RowKit.Below.tr (Go.RowKit.Below.tr HK1.out HK2.out (Nat.le_refl _)) HK3.out (Nat.le_refl _)) (fun _ h => h.2) (fun _ h => h)) (HT6.out.below HK3.out (fun _ h => h.2) (fun _ h => h)) HS4.out (Nat.le_trans HS0.out.size (by have := HK0.out.size; have := HK1.out.size; have := HK2.out.size; have := HK3.out.size; have := HL5.out; have := HL6.out; omega)) (Nat.le_trans HS0.out.size (by have := HK0.out.size; have := HK1.out.size; have := HK2.out.size; have := HK3.out.size; have := HL5.out; have := HL6.out; omega)) (by have := HK0.out.size; have := HK1.out.size; have := HK2.out.size; have := HK3.out.size; have := HL5.out; have := HL6.out; omega) (by have := HK0.out.size; have := HK1.out.size; have := HK2.out.size; have := HK3.out.size; have := HL5.out; have := HL6.out; omega) (by have := HK0.out.size; have := HK1.out.size; have := HK2.out.size; have := HK3.out.size; have := HL5.out; have := HL6.out; omega) (by have := HK0.out.size; have := HK1.out.size; have := HK2.out.size; have := HK3.out.size; have := HL5.out; have := HL6.out; omega) (by have := HK0.out.size; have := HK1.out.size; have := HK2.out.size; have := HK3.out.size; have := HL5.out; have := HL6.out; omega) (by have := HK0.out.size; have := HK1.out.size; have := HK2.out.size; have := HK3.out.size; have := HL5.out; have := HL6.out; omega) (by have := HK0.out.size; have := HK1.out.size; have := HK2.out.size; have := HK3.out.size; have := HL5.out; have := HL6.out; omega) hF
            have HPUT := Lib.hid hput
            clear hput
            obtain ⟨z50, z51, z52, f50, f51, f52⟩ := zero_three z5
            refine wpAnyH_ready (rs := [6]) (by kernel_rfl) (by simp) ?_
            refine AllReadyH.cons (o := ⟨none, _, _, _, _, _⟩) rfl (fun K hK => ?_) AllReadyH.nil
            go_simp
            refine hK.out _ _ (put_half HS4.out (Nat.le_trans HS0.out.size (by have := HK0.out.size; have := HK1.out.size; have := HK2.out.size; have := HK3.out.size; have := HL5.out; have := HL6.out; omega))) (fun _ => ?_)
            clear hK K
            try simp only [Act.put, List.setIfInBounds_toArray, List.set_cons_zero, List.set_cons_succ]
            clear z50 z51 z52 f50 f51 f52
            have y6 := (set3_other (V := V4) (b := V3.heap.size) (v0 := .int .i64 k0) (v1 := .int .i64 n0) (v2 := .slice a5 m0 q5) (k := V1.heap.size) (by have := HK0.out.size; have := HK1.out.size; have := HK2.out.size; have := HK3.out.size; have := HL5.out; have := HL6.out; omega)).trans z6
            obtain ⟨V5, hV5⟩ : ∃ V, ((V4.setCell ⟨V3.heap.size, 0, none⟩ (.int .i64 k0)).setCell ⟨V3.heap.size, 1, none⟩ (.int .i64 n0)).setCell ⟨V3.heap.size, 2, none⟩ (.slice a5 m0 q5) = V := ⟨_, rfl⟩
            rw [hV5] at y6 ⊢
            have HPU2 := Lib.hid (HPUT.out _ (by rw [hV5]))
            obtain ⟨z60, z61, z62, f60, f61, f62⟩ := zero_three y6
            refine wpAnyH_ready (rs := [7]) (by kernel_rfl) (by simp) ?_
            refine AllReadyH.cons (o := ⟨none, _, _, _, _, _⟩) rfl (fun K hK => ?_) AllReadyH.nil
            go_simp
            refine hK.out _ _ HPU2.out.2.2 (fun _ => ?_)
            clear hK K
            try simp only [Act.put, List.setIfInBounds_toArray, List.set_cons_zero, List.set_cons_succ]
            refine wpAnyH_done (by kernel_rfl) ?_ _
            go_wp2_with fail
            go_meet
            case rel => exact ⟨_, _, _, _, _, _, rfl, rfl, HPU2.out.1, HPU2.out.2.1, HPU2.out.2.2⟩
          · skip
            go_simp
            refine hK.out _ _ (HS2.out.alloc HS2.out.size (.cells #[.int .i64 0, .int .i64 0, .slice none 0 0] 24)) (fun _ => ?_)
            clear hK K
            try simp only [Act.put, List.setIfInBounds_toArray, List.set_cons_zero, List.set_cons_succ]
            obtain ⟨V3, hV⟩ : ∃ V, V2.alloc (.cells #[.int .i64 0, .int .i64 0, .slice none 0 0] 24) = V := ⟨_, rfl⟩
            rw [hV]
            have HK2 := Lib.hid (show Below V2.heap.size V2 V3 by rw [← hV]; exact (Below.refl _ _).alloc (Nat.le_refl _) _)
            have HZ5 := Lib.hid (show V3.heap[V2.heap.size]? = some (.cells #[.int .i64 0, .int .i64 0, .slice none 0 0] 24) by rw [← hV]; exact World.alloc_heap_new _ _)
            have HL5 := Lib.hid (show V2.heap.size < V3.heap.size by rw [← hV, World.size_alloc]; omega)
            have HS3 := Lib.hid (Go.RowKit.Below.tr HS2.out HK2.out (Nat.le_refl _))
            clear hV
            refine wpAnyH_ready (rs := [3]) (by kernel_rfl) (by simp) ?_
            refine AllReadyH.cons (o := ⟨some 19, _, _, _, _, _⟩) rfl (fun K hK => ?_) AllReadyH.nil
            go_simp
            refine (HCU.out _ HS3.out).mono ?_
            rintro e V4 ⟨a6, q6, rfl, ht, hb⟩
            have HK3 := Lib.hid hb
            have HS4 := Lib.hid (Go.RowKit.Below.tr HS3.out hb (Nat.le_refl _))
            have HT6 := Lib.hid ht
            clear hb ht
            dsimp only
            refine hK.out _ _ HS4.out (fun _ => ?_)
            clear hK K
            try simp only [Act.put, List.setIfInBounds_toArray, List.set_cons_zero, List.set_cons_succ]
            have z5 := (HK3.out.block _ HL5.out).trans HZ5.out
            have z6 := ((Go.RowKit.Below.tr HK2.out HK3.out (Nat.le_refl _)).block _ HL6.out).trans HZ6.out
            have hput := fun F hF => put_two (F := F) (hi5 := V1.heap.size) (hi6 := V4.heap.size) (lo5 := V0.heap.size) (lo6 := V3.heap.size) BX3.out.says BU3.out.says z5 z6 (HT5.out.below (Go.RowKit.Below.tr (Go.RowKit.Below.tr HK1.out HK2.out (Nat.le_refl _)) HK3.out (Nat.le_refl _)) (fun _ h => h.2) (fun _ h => h)) (HT6.out.below (Below.refl V4.heap.size V4) (fun _ h => h.2) (fun _ h => h)) HS4.out (Nat.le_trans HS0.out.size (by have := HK0.out.size; have := HK1.out.size; have := HK2.out.size; have := HK3.out.size; have := HL5.out; have := HL6.out; omega)) (Nat.le_trans HS0.out.size (by have := HK0.out.size; have := HK1.out.size; have := HK2.out.size; have := HK3.out.size; have := HL5.out; have := HL6.out; omega)) (by have := HK0.out.size; have := HK1.out.size; have := HK2.out.size; have := HK3.out.size; have := HL5.out; have := HL6.out; omega) (by have := HK0.out.size; have := HK1.out.size; have := HK2.out.size; have := HK3.out.size; have := HL5.out; have := HL6.out; omega) (by have := HK0.out.size; have := HK1.out.size; have := HK2.out.size; have := HK3.out.size; have := HL5.out; have := HL6.out; omega) (by have := HK0.out.size; have := HK1.out.size; have := HK2.out.size; have := HK3.out.size; have := HL5.out; have := HL6.out; omega) (by have := HK0.out.size; have := HK1.out.size; have := HK2.out.size; have := HK3.out.size; have := HL5.out; have := HL6.out; omega) (by have := HK0.out.size; have := HK1.out.size; have := HK2.out.size; have := HK3.out.size; have := HL5.out; have := HL6.out; omega) (by have := HK0.out.size; have := HK1.out.size; have := HK2.out.size; have := HK3.out.size; have := HL5.out; have := HL6.out; omega) hF
            have HPUT := Lib.hid hput
            clear hput
            obtain ⟨z50, z51, z52, f50, f51, f52⟩ := zero_three z5
            refine wpAnyH_ready (rs := [6]) (by kernel_rfl) (by simp) ?_
            refine AllReadyH.cons (o := ⟨none, _, _, _, _, _⟩) rfl (fun K hK => ?_) AllReadyH.nil
            go_simp
            refine hK.out _ _ (put_half HS4.out (Nat.le_trans HS0.out.size (by have := HK0.out.size; have := HK1.out.size; have := HK2.out.size; have := HK3.out.size; have := HL5.out; have := HL6.out; omega))) (fun _ => ?_)
            clear hK K
            try simp only [Act.put, List.setIfInBounds_toArray, List.set_cons_zero, List.set_cons_succ]
            clear z50 z51 z52 f50 f51 f52
            have y6 := (set3_other (V := V4) (b := V2.heap.size) (v0 := .int .i64 k0) (v1 := .int .i64 n0) (v2 := .slice a5 m0 q5) (k := V1.heap.size) (by have := HK0.out.size; have := HK1.out.size; have := HK2.out.size; have := HK3.out.size; have := HL5.out; have := HL6.out; omega)).trans z6
            obtain ⟨V5, hV5⟩ : ∃ V, ((V4.setCell ⟨V2.heap.size, 0, none⟩ (.int .i64 k0)).setCell ⟨V2.heap.size, 1, none⟩ (.int .i64 n0)).setCell ⟨V2.heap.size, 2, none⟩ (.slice a5 m0 q5) = V := ⟨_, rfl⟩
            rw [hV5] at y6 ⊢
            have HPU2 := Lib.hid (HPUT.out _ (by rw [hV5]))
            obtain ⟨z60, z61, z62, f60, f61, f62⟩ := zero_three y6
            refine wpAnyH_ready (rs := [7]) (by kernel_rfl) (by simp) ?_
            refine AllReadyH.cons (o := ⟨none, _, _, _, _, _⟩) rfl (fun K hK => ?_) AllReadyH.nil
            go_simp
            refine hK.out _ _ HPU2.out.2.2 (fun _ => ?_)
            clear hK K
            try simp only [Act.put, List.setIfInBounds_toArray, List.set_cons_zero, List.set_cons_succ]
            refine wpAnyH_done (by kernel_rfl) ?_ _
            go_wp2_with fail
            go_meet
            case rel => exact ⟨_, _, _, _, _, _, rfl, rfl, HPU2.out.1, HPU2.out.2.1, HPU2.out.2.2⟩
      · skip
        go_simp
        refine hK.out _ _ (HS0.out.alloc HS0.out.size (.cells #[.int .i64 0, .int .i64 0, .slice none 0 0] 24)) (fun _ => ?_)
        clear hK K
        try simp only [Act.put, List.setIfInBounds_toArray, List.set_cons_zero, List.set_cons_succ]
        obtain ⟨V1, hV⟩ : ∃ V, V0.alloc (.cells #[.int .i64 0, .int .i64 0, .slice none 0 0] 24) = V := ⟨_, rfl⟩
        rw [hV]
        have HK0 := Lib.hid (show Below V0.heap.size V0 V1 by rw [← hV]; exact (Below.refl _ _).alloc (Nat.le_refl _) _)
        have HZ5 := Lib.hid (show V1.heap[V0.heap.size]? = some (.cells #[.int .i64 0, .int .i64 0, .slice none 0 0] 24) by rw [← hV]; exact World.alloc_heap_new _ _)
        have HL5 := Lib.hid (show V0.heap.size < V1.heap.size by rw [← hV, World.size_alloc]; omega)
        have HS1 := Lib.hid (Go.RowKit.Below.tr HS0.out HK0.out (Nat.le_refl _))
        clear hV
        refine wpAnyH_ready (rs := [1, 5]) (by kernel_rfl) (by simp) ?_
        refine AllReadyH.cons (o := ⟨some 17, _, _, _, _, _⟩) rfl (fun K hK => ?_) (AllReadyH.cons (o := ⟨some 6, _, _, _, _, _⟩) rfl (fun K hK => ?_) AllReadyH.nil)
        · skip
          go_simp
          refine (HCT.out _ HS1.out).mono ?_
          rintro e V2 ⟨a5, q5, rfl, ht, hb⟩
          have HK1 := Lib.hid hb
          have HS2 := Lib.hid (Go.RowKit.Below.tr HS1.out hb (Nat.le_refl _))
          have HT5 := Lib.hid ht
          clear hb ht
          dsimp only
          refine hK.out _ _ HS2.out (fun _ => ?_)
          clear hK K
          try simp only [Act.put, List.setIfInBounds_toArray, List.set_cons_zero, List.set_cons_succ]
          refine wpAnyH_ready (rs := [3, 5]) (by kernel_rfl) (by simp) ?_
          refine AllReadyH.cons (o := ⟨some 19, _, _, _, _, _⟩) rfl (fun K hK => ?_) (AllReadyH.cons (o := ⟨some 6, _, _, _, _, _⟩) rfl (fun K hK => ?_) AllReadyH.nil)
          · skip
            go_simp
            refine (HCU.out _ HS2.out).mono ?_
            rintro e V3 ⟨a6, q6, rfl, ht, hb⟩
            have HK2 := Lib.hid hb
            have HS3 := Lib.hid (Go.RowKit.Below.tr HS2.out hb (Nat.le_refl _))
            have HT6 := Lib.hid ht
            clear hb ht
            dsimp only
            refine hK.out _ _ HS3.out (fun _ => ?_)
            clear hK K
            try simp only [Act.put, List.setIfInBounds_toArray, List.set_cons_zero, List.set_cons_succ]
            refine wpAnyH_ready (rs := [5]) (by kernel_rfl) (by simp) ?_
            refine AllReadyH.cons (o := ⟨some 6, _, _, _, _, _⟩) rfl (fun K hK => ?_) AllReadyH.nil
            go_simp
            refine hK.out _ _ (HS3.out.alloc HS3.out.size (.cells #[.int .i64 0, .int .i64 0, .slice none 0 0] 24)) (fun _ => ?_)
            clear hK K
            try simp only [Act.put, List.setIfInBounds_toArray, List.set_cons_zero, List.set_cons_succ]
            obtain ⟨V4, hV⟩ : ∃ V, V3.alloc (.cells #[.int .i64 0, .int .i64 0, .slice none 0 0] 24) = V := ⟨_, rfl⟩
            rw [hV]
            have HK3 := Lib.hid (show Below V3.heap.size V3 V4 by rw [← hV]; exact (Below.refl _ _).alloc (Nat.le_refl _) _)
            have HZ6 := Lib.hid (show V4.heap[V3.heap.size]? = some (.cells #[.int .i64 0, .int .i64 0, .slice none 0 0] 24) by rw [← hV]; exact World.alloc_heap_new _ _)
            have HL6 := Lib.hid (show V3.heap.size < V4.heap.size by rw [← hV, World.size_alloc]; omega)
            have HS4 := Lib.hid (Go.RowKit.Below.tr HS3.out HK3.out (Nat.le_refl _))
            clear hV
            have z5 := ((Go.RowKit.Below.tr (Go.RowKit.Below.tr HK1.out HK2.out (Nat.le_refl _)) HK3.out (Nat.le_refl _)).block _ HL5.out).trans HZ5.out
            have z6 := ((Below.refl V4.heap.size V4).block _ HL6.out).trans HZ6.out
            have hput := fun F hF => put_two (F := F) (hi5 := V2.heap.size) (hi6 := V3.heap.size) (lo5 := V1.heap.size) (lo6 := V2.heap.size) BX3.out.says BU3.out.says z5 z6 (HT5.out.below (Go.RowKit.Below.tr HK2.out HK3.out (Nat.le_refl _)) (fun _ h => h.2) (fun _ h => h)) (HT6.out.below HK3.out (fun _ h => h.2) (fun _ h => h)) HS4.out (Nat.le_trans HS0.out.size (by have := HK0.out.size; have := HK1.out.size; have := HK2.out.size; have := HK3.out.size; have := HL5.out; have := HL6.out; omega)) (Nat.le_trans HS0.out.size (by have := HK0.out.size; have := HK1.out.size; have := HK2.out.size; have := HK3.out.size; have := HL5.out; have := HL6.out; omega)) (by have := HK0.out.size; have := HK1.out.size; have := HK2.out.size; have := HK3.out.size; have := HL5.out; have := HL6.out; omega) (by have := HK0.out.size; have := HK1.out.size; have := HK2.out.size; have := HK3.out.size; have := HL5.out; have := HL6.out; omega) (by have := HK0.out.size; have := HK1.out.size; have := HK2.out.size; have := HK3.out.size; have := HL5.out; have := HL6.out; omega) (by have := HK0.out.size; have := HK1.out.size; have := HK2.out.size; have := HK3.out.size; have := HL5.out; have := HL6.out; omega) (by have := HK0.out.size; have := HK1.out.size; have := HK2.out.size; have := HK3.out.size; have := HL5.out; have := HL6.out; omega) (by have := HK0.out.size; have := HK1.out.size; have := HK2.out.size; have := HK3.out.size; have := HL5.out; have := HL6.out; omega) (by have := HK0.out.size; have := HK1.out.size; have := HK2.out.size; have := HK3.out.size; have := HL5.out; have := HL6.out; omega) hF
            have HPUT := Lib.hid hput
            clear hput
            obtain ⟨z50, z51, z52, f50, f51, f52⟩ := zero_three z5
            refine wpAnyH_ready (rs := [6]) (by kernel_rfl) (by simp) ?_
            refine AllReadyH.cons (o := ⟨none, _, _, _, _, _⟩) rfl (fun K hK => ?_) AllReadyH.nil
            go_simp
            refine hK.out _ _ (put_half HS4.out (Nat.le_trans HS0.out.size (by have := HK0.out.size; have := HK1.out.size; have := HK2.out.size; have := HK3.out.size; have := HL5.out; have := HL6.out; omega))) (fun _ => ?_)
            clear hK K
            try simp only [Act.put, List.setIfInBounds_toArray, List.set_cons_zero, List.set_cons_succ]
            clear z50 z51 z52 f50 f51 f52
            have y6 := (set3_other (V := V4) (b := V0.heap.size) (v0 := .int .i64 k0) (v1 := .int .i64 n0) (v2 := .slice a5 m0 q5) (k := V3.heap.size) (by have := HK0.out.size; have := HK1.out.size; have := HK2.out.size; have := HK3.out.size; have := HL5.out; have := HL6.out; omega)).trans z6
            obtain ⟨V5, hV5⟩ : ∃ V, ((V4.setCell ⟨V0.heap.size, 0, none⟩ (.int .i64 k0)).setCell ⟨V0.heap.size, 1, none⟩ (.int .i64 n0)).setCell ⟨V0.heap.size, 2, none⟩ (.slice a5 m0 q5) = V := ⟨_, rfl⟩
            rw [hV5] at y6 ⊢
            have HPU2 := Lib.hid (HPUT.out _ (by rw [hV5]))
            obtain ⟨z60, z61, z62, f60, f61, f62⟩ := zero_three y6
            refine wpAnyH_ready (rs := [7]) (by kernel_rfl) (by simp) ?_
            refine AllReadyH.cons (o := ⟨none, _, _, _, _, _⟩) rfl (fun K hK => ?_) AllReadyH.nil
            go_simp
            refine hK.out _ _ HPU2.out.2.2 (fun _ => ?_)
            clear hK K
            try simp only [Act.put, List.setIfInBounds_toArray, List.set_cons_zero, List.set_cons_succ]
            refine wpAnyH_done (by kernel_rfl) ?_ _
            go_wp2_with fail
            go_meet
            case rel => exact ⟨_, _, _, _, _, _, rfl, rfl, HPU2.out.1, HPU2.out.2.1, HPU2.out.2.2⟩
          · skip
            go_simp
            refine hK.out _ _ (HS2.out.alloc HS2.out.size (.cells #[.int .i64 0, .int .i64 0, .slice none 0 0] 24)) (fun _ => ?_)
            clear hK K
            try simp only [Act.put, List.setIfInBounds_toArray, List.set_cons_zero, List.set_cons_succ]
            obtain ⟨V3, hV⟩ : ∃ V, V2.alloc (.cells #[.int .i64 0, .int .i64 0, .slice none 0 0] 24) = V := ⟨_, rfl⟩
            rw [hV]
            have HK2 := Lib.hid (show Below V2.heap.size V2 V3 by rw [← hV]; exact (Below.refl _ _).alloc (Nat.le_refl _) _)
            have HZ6 := Lib.hid (show V3.heap[V2.heap.size]? = some (.cells #[.int .i64 0, .int .i64 0, .slice none 0 0] 24) by rw [← hV]; exact World.alloc_heap_new _ _)
            have HL6 := Lib.hid (show V2.heap.size < V3.heap.size by rw [← hV, World.size_alloc]; omega)
            have HS3 := Lib.hid (Go.RowKit.Below.tr HS2.out HK2.out (Nat.le_refl _))
            clear hV
            refine wpAnyH_ready (rs := [3]) (by kernel_rfl) (by simp) ?_
            refine AllReadyH.cons (o := ⟨some 19, _, _, _, _, _⟩) rfl (fun K hK => ?_) AllReadyH.nil
            go_simp
            refine (HCU.out _ HS3.out).mono ?_
            rintro e V4 ⟨a6, q6, rfl, ht, hb⟩
            have HK3 := Lib.hid hb
            have HS4 := Lib.hid (Go.RowKit.Below.tr HS3.out hb (Nat.le_refl _))
            have HT6 := Lib.hid ht
            clear hb ht
            dsimp only
            refine hK.out _ _ HS4.out (fun _ => ?_)
            clear hK K
            try simp only [Act.put, List.setIfInBounds_toArray, List.set_cons_zero, List.set_cons_succ]
            have z5 := ((Go.RowKit.Below.tr (Go.RowKit.Below.tr HK1.out HK2.out (Nat.le_refl _)) HK3.out (Nat.le_refl _)).block _ HL5.out).trans HZ5.out
            have z6 := (HK3.out.block _ HL6.out).trans HZ6.out
            have hput := fun F hF => put_two (F := F) (hi5 := V2.heap.size) (hi6 := V4.heap.size) (lo5 := V1.heap.size) (lo6 := V3.heap.size) BX3.out.says BU3.out.says z5 z6 (HT5.out.below (Go.RowKit.Below.tr HK2.out HK3.out (Nat.le_refl _)) (fun _ h => h.2) (fun _ h => h)) (HT6.out.below (Below.refl V4.heap.size V4) (fun _ h => h.2) (fun _ h => h)) HS4.out (Nat.le_trans HS0.out.size (by have := HK0.out.size; have := HK1.out.size; have := HK2.out.size; have := HK3.out.size; have := HL5.out; have := HL6.out; omega)) (Nat.le_trans HS0.out.size (by have := HK0.out.size; have := HK1.out.size; have := HK2.out.size; have := HK3.out.size; have := HL5.out; have := HL6.out; omega)) (by have := HK0.out.size; have := HK1.out.size; have := HK2.out.size; have := HK3.out.size; have := HL5.out; have := HL6.out; omega) (by have := HK0.out.size; have := HK1.out.size; have := HK2.out.size; have := HK3.out.size; have := HL5.out; have := HL6.out; omega) (by have := HK0.out.size; have := HK1.out.size; have := HK2.out.size; have := HK3.out.size; have := HL5.out; have := HL6.out; omega) (by have := HK0.out.size; have := HK1.out.size; have := HK2.out.size; have := HK3.out.size; have := HL5.out; have := HL6.out; omega) (by have := HK0.out.size; have := HK1.out.size; have := HK2.out.size; have := HK3.out.size; have := HL5.out; have := HL6.out; omega) (by have := HK0.out.size; have := HK1.out.size; have := HK2.out.size; have := HK3.out.size; have := HL5.out; have := HL6.out; omega) (by have := HK0.out.size; have := HK1.out.size; have := HK2.out.size; have := HK3.out.size; have := HL5.out; have := HL6.out; omega) hF
            have HPUT := Lib.hid hput
            clear hput
            obtain ⟨z50, z51, z52, f50, f51, f52⟩ := zero_three z5
            refine wpAnyH_ready (rs := [6]) (by kernel_rfl) (by simp) ?_
            refine AllReadyH.cons (o := ⟨none, _, _, _, _, _⟩) rfl (fun K hK => ?_) AllReadyH.nil
            go_simp
            refine hK.out _ _ (put_half HS4.out (Nat.le_trans HS0.out.size (by have := HK0.out.size; have := HK1.out.size; have := HK2.out.size; have := HK3.out.size; have := HL5.out; have := HL6.out; omega))) (fun _ => ?_)
            clear hK K
            try simp only [Act.put, List.setIfInBounds_toArray, List.set_cons_zero, List.set_cons_succ]
            clear z50 z51 z52 f50 f51 f52
            have y6 := (set3_other (V := V4) (b := V0.heap.size) (v0 := .int .i64 k0) (v1 := .int .i64 n0) (v2 := .slice a5 m0 q5) (k := V2.heap.size) (by have := HK0.out.size; have := HK1.out.size; have := HK2.out.size; have := HK3.out.size; have := HL5.out; have := HL6.out; omega)).trans z6
            obtain ⟨V5, hV5⟩ : ∃ V, ((V4.setCell ⟨V0.heap.size, 0, none⟩ (.int .i64 k0)).setCell ⟨V0.heap.size, 1, none⟩ (.int .i64 n0)).setCell ⟨V0.heap.size, 2, none⟩ (.slice a5 m0 q5) = V := ⟨_, rfl⟩
            rw [hV5] at y6 ⊢
            have HPU2 := Lib.hid (HPUT.out _ (by rw [hV5]))
            obtain ⟨z60, z61, z62, f60, f61, f62⟩ := zero_three y6
            refine wpAnyH_ready (rs := [7]) (by kernel_rfl) (by simp) ?_
            refine AllReadyH.cons (o := ⟨none, _, _, _, _, _⟩) rfl (fun K hK => ?_) AllReadyH.nil
            go_simp
            refine hK.out _ _ HPU2.out.2.2 (fun _ => ?_)
            clear hK K
            try simp only [Act.put, List.setIfInBounds_toArray, List.set_cons_zero, List.set_cons_succ]
            refine wpAnyH_done (by kernel_rfl) ?_ _
            go_wp2_with fail
            go_meet
            case rel => exact ⟨_, _, _, _, _, _, rfl, rfl, HPU2.out.1, HPU2.out.2.1, HPU2.out.2.2⟩
        · skip
          go_simp
          refine hK.out _ _ (HS1.out.alloc HS1.out.size (.cells #[.int .i64 0, .int .i64 0, .slice none 0 0] 24)) (fun _ => ?_)
          clear hK K
          try simp only [Act.put, List.setIfInBounds_toArray, List.set_cons_zero, List.set_cons_succ]
          obtain ⟨V2, hV⟩ : ∃ V, V1.alloc (.cells #[.int .i64 0, .int .i64 0, .slice none 0 0] 24) = V := ⟨_, rfl⟩
          rw [hV]
          have HK1 := Lib.hid (show Below V1.heap.size V1 V2 by rw [← hV]; exact (Below.refl _ _).alloc (Nat.le_refl _) _)
          have HZ6 := Lib.hid (show V2.heap[V1.heap.size]? = some (.cells #[.int .i64 0, .int .i64 0, .slice none 0 0] 24) by rw [← hV]; exact World.alloc_heap_new _ _)
          have HL6 := Lib.hid (show V1.heap.size < V2.heap.size by rw [← hV, World.size_alloc]; omega)
          have HS2 := Lib.hid (Go.RowKit.Below.tr HS1.out HK1.out (Nat.le_refl _))
          clear hV
          refine wpAnyH_ready (rs := [1]) (by kernel_rfl) (by simp) ?_
          refine AllReadyH.cons (o := ⟨some 17, _, _, _, _, _⟩) rfl (fun K hK => ?_) AllReadyH.nil
          go_simp
          refine (HCT.out _ HS2.out).mono ?_
          rintro e V3 ⟨a5, q5, rfl, ht, hb⟩
          have HK2 := Lib.hid hb
          have HS3 := Lib.hid (Go.RowKit.Below.tr HS2.out hb (Nat.le_refl _))
          have HT5 := Lib.hid ht
          clear hb ht
          dsimp only
          refine hK.out _ _ HS3.out (fun _ => ?_)
          clear hK K
          try simp only [Act.put, List.setIfInBounds_toArray, List.set_cons_zero, List.set_cons_succ]
          refine wpAnyH_ready (rs := [3]) (by kernel_rfl) (by simp) ?_
          refine AllReadyH.cons (o := ⟨some 19, _, _, _, _, _⟩) rfl (fun K hK => ?_) AllReadyH.nil
          go_simp
          refine (HCU.out _ HS3.out).mono ?_
          rintro e V4 ⟨a6, q6, rfl, ht, hb⟩
          have HK3 := Lib.hid hb
          have HS4 := Lib.hid (Go.RowKit.Below.tr HS3.out hb (Nat.le_refl _))
          have HT6 := Lib.hid ht
          clear hb ht
          dsimp only
          refine hK.out _ _ HS4.out (fun _ => ?_)
          clear hK K
          try simp only [Act.put, List.setIfInBounds_toArray, List.set_cons_zero, List.set_cons_succ]
          have z5 := ((Go.RowKit.Below.tr (Go.RowKit.Below.tr HK1.out HK2.out (Nat.le_refl _)) HK3.out (Nat.le_refl _)).block _ HL5.out).trans HZ5.out
          have z6 := ((Go.RowKit.Below.tr HK2.out HK3.out (Nat.le_refl _)).block _ HL6.out).trans HZ6.out
          have hput := fun F hF => put_two (F := F) (hi5 := V3.heap.size) (hi6 := V4.heap.size) (lo5 := V2.heap.size) (lo6 := V3.heap.size) BX3.out.says BU3.out.says z5 z6 (HT5.out.below HK3.out (fun _ h => h.2) (fun _ h => h)) (HT6.out.below (Below.refl V4.heap.size V4) (fun _ h => h.2) (fun _ h => h)) HS4.out (Nat.le_trans HS0.out.size (by have := HK0.out.size; have := HK1.out.size; have := HK2.out.size; have := HK3.out.size; have := HL5.out; have := HL6.out; omega)) (Nat.le_trans HS0.out.size (by have := HK0.out.size; have := HK1.out.size; have := HK2.out.size; have := HK3.out.size; have := HL5.out; have := HL6.out; omega)) (by have := HK0.out.size; have := HK1.out.size; have := HK2.out.size; have := HK3.out.size; have := HL5.out; have := HL6.out; omega) (by have := HK0.out.size; have := HK1.out.size; have := HK2.out.size; have := HK3.out.size; have := HL5.out; have := HL6.out; omega) (by have := HK0.out.size; have := HK1.out.size; have := HK2.out.size; have := HK3.out.size; have := HL5.out; have := HL6.out; omega) (by have := HK0.out.size; have := HK1.out.size; have := HK2.out.size; have := HK3.out.size; have := HL5.out; have := HL6.out; omega) (by have := HK0.out.size; have := HK1.out.size; have := HK2.out.size; have := HK3.out.size; have := HL5.out; have := HL6.out; omega) (by have := HK0.out.size; have := HK1.out.size; have := HK2.out.size; have := HK3.out.size; have := HL5.out; have := HL6.out; omega) (by have := HK0.out.size; have := HK1.out.size; have := HK2.out.size; have := HK3.out.size; have := HL5.out; have := HL6.out; omega) hF
          have HPUT := Lib.hid hput
          clear hput
          obtain ⟨z50, z51, z52, f50, f51, f52⟩ := zero_three z5
          refine wpAnyH_ready (rs := [6]) (by kernel_rfl) (by simp) ?_
          refine AllReadyH.cons (o := ⟨none, _, _, _, _, _⟩) rfl (fun K hK => ?_) AllReadyH.nil
          go_simp
          refine hK.out _ _ (put_half HS4.out (Nat.le_trans HS0.out.size (by have := HK0.out.size; have := HK1.out.size; have := HK2.out.size; have := HK3.out.size; have := HL5.out; have := HL6.out; omega))) (fun _ => ?_)
          clear hK K
          try simp only [Act.put, List.setIfInBounds_toArray, List.set_cons_zero, List.set_cons_succ]
          clear z50 z51 z52 f50 f51 f52
          have y6 := (set3_other (V := V4) (b := V0.heap.size) (v0 := .int .i64 k0) (v1 := .int .i64 n0) (v2 := .slice a5 m0 q5) (k := V1.heap.size) (by have := HK0.out.size; have := HK1.out.size; have := HK2.out.size; have := HK3.out.size; have := HL5.out; have := HL6.out; omega)).trans z6
          obtain ⟨V5, hV5⟩ : ∃ V, ((V4.setCell ⟨V0.heap.size, 0, none⟩ (.int .i64 k0)).setCell ⟨V0.heap.size, 1, none⟩ (.int .i64 n0)).setCell ⟨V0.heap.size, 2, none⟩ (.slice a5 m0 q5) = V := ⟨_, rfl⟩
          rw [hV5] at y6 ⊢
          have HPU2 := Lib.hid (HPUT.out _ (by rw [hV5]))
          obtain ⟨z60, z61, z62, f60, f61, f62⟩ := zero_three y6
          refine wpAnyH_ready (rs := [7]) (by kernel_rfl) (by simp) ?_
          refine AllReadyH.cons (o := ⟨none, _, _, _, _, _⟩) rfl (fun K hK => ?_) AllReadyH.nil
          go_simp
          refine hK.out _ _ HPU2.out.2.2 (fun _ => ?_)
          clear hK K
          try simp only [Act.put, List.setIfInBounds_toArray, List.set_cons_zero, List.set_cons_succ]
          refine wpAnyH_done (by kernel_rfl) ?_ _
          go_wp2_with fail
          go_meet
          case rel => exact ⟨_, _, _, _, _, _, rfl, rfl, HPU2.out.1, HPU2.out.2.1, HPU2.out.2.2⟩
      · skip
        go_simp
        refine hK.out _ _ (HS0.out.alloc HS0.out.size (.cells #[.int .i64 0, .int .i64 0, .slice none 0 0] 24)) (fun _ => ?_)
        clear hK K
        try simp only [Act.put, List.setIfInBounds_toArray, List.set_cons_zero, List.set_cons_succ]
        obtain ⟨V1, hV⟩ : ∃ V, V0.alloc (.cells #[.int .i64 0, .int .i64 0, .slice none 0 0] 24) = V := ⟨_, rfl⟩
        rw [hV]
        have HK0 := Lib.hid (show Below V0.heap.size V0 V1 by rw [← hV]; exact (Below.refl _ _).alloc (Nat.le_refl _) _)
        have HZ6 := Lib.hid (show V1.heap[V0.heap.size]? = some (.cells #[.int .i64 0, .int .i64 0, .slice none 0 0] 24) by rw [← hV]; exact World.alloc_heap_new _ _)
        have HL6 := Lib.hid (show V0.heap.size < V1.heap.size by rw [← hV, World.size_alloc]; omega)
        have HS1 := Lib.hid (Go.RowKit.Below.tr HS0.out HK0.out (Nat.le_refl _))
        clear hV
        refine wpAnyH_ready (rs := [1, 4]) (by kernel_rfl) (by simp) ?_
        refine AllReadyH.cons (o := ⟨some 17, _, _, _, _, _⟩) rfl (fun K hK => ?_) (AllReadyH.cons (o := ⟨some 5, _, _, _, _, _⟩) rfl (fun K hK => ?_) AllReadyH.nil)
        · skip
          go_simp
          refine (HCT.out _ HS1.out).mono ?_
          rintro e V2 ⟨a5, q5, rfl, ht, hb⟩
          have HK1 := Lib.hid hb
          have HS2 := Lib.hid (Go.RowKit.Below.tr HS1.out hb (Nat.le_refl _))
          have HT5 := Lib.hid ht
          clear hb ht
          dsimp only
          refine hK.out _ _ HS2.out (fun _ => ?_)
          clear hK K
          try simp only [Act.put, List.setIfInBounds_toArray, List.set_cons_zero, List.set_cons_succ]
          refine wpAnyH_ready (rs := [3, 4]) (by kernel_rfl) (by simp) ?_
          refine AllReadyH.cons (o := ⟨some 19, _, _, _, _, _⟩) rfl (fun K hK => ?_) (AllReadyH.cons (o := ⟨some 5, _, _, _, _, _⟩) rfl (fun K hK => ?_) AllReadyH.nil)
          · skip
            go_simp
            refine (HCU.out _ HS2.out).mono ?_
            rintro e V3 ⟨a6, q6, rfl, ht, hb⟩
            have HK2 := Lib.hid hb
            have HS3 := Lib.hid (Go.RowKit.Below.tr HS2.out hb (Nat.le_refl _))
            have HT6 := Lib.hid ht
            clear hb ht
            dsimp only
            refine hK.out _ _ HS3.out (fun _ => ?_)
            clear hK K
            try simp only [Act.put, List.setIfInBounds_toArray, List.set_cons_zero, List.set_cons_succ]
            refine wpAnyH_ready (rs := [4]) (by kernel_rfl) (by simp) ?_
            refine AllReadyH.cons (o := ⟨some 5, _, _, _, _, _⟩) rfl (fun K hK => ?_) AllReadyH.nil
            go_simp
            refine hK.out _ _ (HS3.out.alloc HS3.out.size (.cells #[.int .i64 0, .int .i64 0, .slice none 0 0] 24)) (fun _ => ?_)
            clear hK K
            try simp only [Act.put, List.setIfInBounds_toArray, List.set_cons_zero, List.set_cons_succ]
            obtain ⟨V4, hV⟩ : ∃ V, V3.alloc (.cells #[.int .i64 0, .int .i64 0, .slice none 0 0] 24) = V := ⟨_, rfl⟩
            rw [hV]
            have HK3 := Lib.hid (show Below V3.heap.size V3 V4 by rw [← hV]; exact (Below.refl _ _).alloc (Nat.le_refl _) _)
            have HZ5 := Lib.hid (show V4.heap[V3.heap.size]? = some (.cells #[.int .i64 0, .int .i64 0, .slice none 0 0] 24) by rw [← hV]; exact World.alloc_heap_new _ _)
            have HL5 := Lib.hid (show V3.heap.size < V4.heap.size by rw [← hV, World.size_alloc]; omega)
            have HS4 := Lib.hid (Go.RowKit.Below.tr HS3.out HK3.out (Nat.le_refl _))
            clear hV
            have z5 := ((Below.refl V4.heap.size V4).block _ HL5.out).trans HZ5.out
            have z6 := ((Go.RowKit.Below.tr (Go.RowKit.Below.tr HK1.out HK2.out (Nat.le_refl _)) HK3.out (Nat.le_refl _)).block _ HL6.out).trans HZ6.out
            have hput := fun F hF => put_two (F := F) (hi5 := V2.heap.size) (hi6 := V3.heap.size) (lo5 := V1.heap.size) (lo6 := V2.heap.size) BX3.out.says BU3.out.says z5 z6 (HT5.out.below (Go.RowKit.Below.tr HK2.out HK3.out (Nat.le_refl _)) (fun _ h => h.2) (fun _ h => h)) (HT6.out.below HK3.out (fun _ h => h.2) (fun _ h => h)) HS4.out (Nat.le_trans HS0.out.size (by have := HK0.out.size; have := HK1.out.size; have := HK2.out.size; have := HK3.out.size; have := HL5.out; have := HL6.out; omega)) (Nat.le_trans HS0.out.size (by have := HK0.out.size; have := HK1.out.size; have := HK2.out.size; have := HK3.out.size; have := HL5.out; have := HL6.out; omega)) (by have := HK0.out.size; have := HK1.out.size; have := HK2.out.size; have := HK3.out.size; have := HL5.out; have := HL6.out; omega) (by have := HK0.out.size; have := HK1.out.size; have := HK2.out.size; have := HK3.out.size; have := HL5.out; have := HL6.out; omega) (by have := HK0.out.size; have := HK1.out.size; have := HK2.out.size; have := HK3.out.size; have := HL5.out; have := HL6.out; omega) (by have := HK0.out.size; have := HK1.out.size; have := HK2.out.size; have := HK3.out.size; have := HL5.out; have := HL6.out; omega) (by have := HK0.out.size; have := HK1.out.size; have := HK2.out.size; have := HK3.out.size; have := HL5.out; have := HL6.out; omega) (by have := HK0.out.size; have := HK1.out.size; have := HK2.out.size; have := HK3.out.size; have := HL5.out; have := HL6.out; omega) (by have := HK0.out.size; have := HK1.out.size; have := HK2.out.size; have := HK3.out.size; have := HL5.out; have := HL6.out; omega) hF
            have HPUT := Lib.hid hput
            clear hput
            obtain ⟨z50, z51, z52, f50, f51, f52⟩ := zero_three z5
            refine wpAnyH_ready (rs := [6]) (by kernel_rfl) (by simp) ?_
            refine AllReadyH.cons (o := ⟨none, _, _, _, _, _⟩) rfl (fun K hK => ?_) AllReadyH.nil
            go_simp
            refine hK.out _ _ (put_half HS4.out (Nat.le_trans HS0.out.size (by have := HK0.out.size; have := HK1.out.size; have := HK2.out.size; have := HK3.out.size; have := HL5.out; have := HL6.out; omega))) (fun _ => ?_)
            clear hK K
            try simp only [Act.put, List.setIfInBounds_toArray, List.set_cons_zero, List.set_cons_succ]
            clear z50 z51 z52 f50 f51 f52
            have y6 := (set3_other (V := V4) (b := V3.heap.size) (v0 := .int .i64 k0) (v1 := .int .i64 n0) (v2 := .slice a5 m0 q5) (k := V0.heap.size) (by have := HK0.out.size; have := HK1.out.size; have := HK2.out.size; have := HK3.out.size; have := HL5.out; have := HL6.out; omega)).trans z6
            obtain ⟨V5, hV5⟩ : ∃ V, ((V4.setCell ⟨V3.heap.size, 0, none⟩ (.int .i64 k0)).setCell ⟨V3.heap.size, 1, none⟩ (.int .i64 n0)).setCell ⟨V3.heap.size, 2, none⟩ (.slice a5 m0 q5) = V := ⟨_, rfl⟩
            rw [hV5] at y6 ⊢
            have HPU2 := Lib.hid (HPUT.out _ (by rw [hV5]))
            obtain ⟨z60, z61, z62, f60, f61, f62⟩ := zero_three y6
            refine wpAnyH_ready (rs := [7]) (by kernel_rfl) (by simp) ?_
            refine AllReadyH.cons (o := ⟨none, _, _, _, _, _⟩) rfl (fun K hK => ?_) AllReadyH.nil
            go_simp
            refine hK.out _ _ HPU2.out.2.2 (fun _ => ?_)
            clear hK K
            try simp only [Act.put, List.setIfInBounds_toArray, List.set_cons_zero, List.set_cons_succ]
            refine wpAnyH_done (by kernel_rfl) ?_ _
            go_wp2_with fail
            go_meet
            case rel => exact ⟨_, _, _, _, _, _, rfl, rfl, HPU2.out.1, HPU2.out.2.1, HPU2.out.2.2⟩
          · skip
            go_simp
            refine hK.out _ _ (HS2.out.alloc HS2.out.size (.cells #[.int .i64 0, .int .i64 0, .slice none 0 0] 24)) (fun _ => ?_)
            clear hK K
            try simp only [Act.put, List.setIfInBounds_toArray, List.set_cons_zero, List.set_cons_succ]
            obtain ⟨V3, hV⟩ : ∃ V, V2.alloc (.cells #[.int .i64 0, .int .i64 0, .slice none 0 0] 24) = V := ⟨_, rfl⟩
            rw [hV]
            have HK2 := Lib.hid (show Below V2.heap.size V2 V3 by rw [← hV]; exact (Below.refl _ _).alloc (Nat.le_refl _) _)
            have HZ5 := Lib.hid (show V3.heap[V2.heap.size]? = some (.cells #[.int .i64 0, .int .i64 0, .slice none 0 0] 24) by rw [← hV]; exact World.alloc_heap_new _ _)
            have HL5 := Lib.hid (show V2.heap.size < V3.heap.size by rw [← hV, World.size_alloc]; omega)
            have HS3 := Lib.hid (Go.RowKit.Below.tr HS2.out HK2.out (Nat.le_refl _))
            clear hV
            refine wpAnyH_ready (rs := [3]) (by kernel_rfl) (by simp) ?_
            refine AllReadyH.cons (o := ⟨some 19, _, _, _, _, _⟩) rfl (fun K hK => ?_) AllReadyH.nil
            go_simp
            refine (HCU.out _ HS3.out).mono ?_
            rintro e V4 ⟨a6, q6, rfl, ht, hb⟩
            have HK3 := Lib.hid hb
            have HS4 := Lib.hid (Go.RowKit.Below.tr HS3.out hb (Nat.le_refl _))
            have HT6 := Lib.hid ht
            clear hb ht
            dsimp only
            refine hK.out _ _ HS4.out (fun _ => ?_)
            clear hK K
            try simp only [Act.put, List.setIfInBounds_toArray, List.set_cons_zero, List.set_cons_succ]
            have z5 := (HK3.out.block _ HL5.out).trans HZ5.out
            have z6 := ((Go.RowKit.Below.tr (Go.RowKit.Below.tr HK1.out HK2.out (Nat.le_refl _)) HK3.out (Nat.le_refl _)).block _ HL6.out).trans HZ6.out
            have hput := fun F hF => put_two (F := F) (hi5 := V2.heap.size) (hi6 := V4.heap.size) (lo5 := V1.heap.size) (lo6 := V3.heap.size) BX3.out.says BU3.out.says z5 z6 (HT5.out.below (Go.RowKit.Below.tr HK2.out HK3.out (Nat.le_refl _)) (fun _ h => h.2) (fun _ h => h)) (HT6.out.below (Below.refl V4.heap.size V4) (fun _ h => h.2) (fun _ h => h)) HS4.out (Nat.le_trans HS0.out.size (by have := HK0.out.size; have := HK1.out.size; have := HK2.out.size; have := HK3.out.size; have := HL5.out; have := HL6.out; omega)) (Nat.le_trans HS0.out.size (by have := HK0.out.size; have := HK1.out.size; have := HK2.out.size; have := HK3.out.size; have := HL5.out; have := HL6.out; omega)) (by have := HK0.out.size; have := HK1.out.size; have := HK2.out.size; have := HK3.out.size; have := HL5.out; have := HL6.out; omega) (by have := HK0.out.size; have := HK1.out.size; have := HK2.out.size; have := HK3.out.size; have := HL5.out; have := HL6.out; omega) (by have := HK0.out.size; have := HK1.out.size; have := HK2.out.size; have := HK3.out.size; have := HL5.out; have := HL6.out; omega) (by have := HK0.out.size; have := HK1.out.size; have := HK2.out.size; have := HK3.out.size; have := HL5.out; have := HL6.out; omega) (by have := HK0.out.size; have := HK1.out.size; have := HK2.out.size; have := HK3.out.size; have := HL5.out; have := HL6.out; omega) (by have := HK0.out.size; have := HK1.out.size; have := HK2.out.size; have := HK3.out.size; have := HL5.out; have := HL6.out; omega) (by have := HK0.out.size; have := HK1.out.size; have := HK2.out.size; have := HK3.out.size; have := HL5.out; have := HL6.out; omega) hF
            have HPUT := Lib.hid hput
            clear hput
            obtain ⟨z50, z51, z52, f50, f51, f52⟩ := zero_three z5
            refine wpAnyH_ready (rs := [6]) (by kernel_rfl) (by simp) ?_
            refine AllReadyH.cons (o := ⟨none, _, _, _, _, _⟩) rfl (fun K hK => ?_) AllReadyH.nil
            go_simp
            refine hK.out _ _ (put_half HS4.out (Nat.le_trans HS0.out.size (by have := HK0.out.size; have := HK1.out.size; have := HK2.out.size; have := HK3.out.size; have := HL5.out; have := HL6.out; omega))) (fun _ => ?_)
            clear hK K
            try simp only [Act.put, List.setIfInBounds_toArray, List.set_cons_zero, List.set_cons_succ]
            clear z50 z51 z52 f50 f51 f52
            have y6 := (set3_other (V := V4) (b := V2.heap.size) (v0 := .int .i64 k0) (v1 := .int .i64 n0) (v2 := .slice a5 m0 q5) (k := V0.heap.size) (by have := HK0.out.size; have := HK1.out.size; have := HK2.out.size; have := HK3.out.size; have := HL5.out; have := HL6.out; omega)).trans z6
            obtain ⟨V5, hV5⟩ : ∃ V, ((V4.setCell ⟨V2.heap.size, 0, none⟩ (.int .i64 k0)).setCell ⟨V2.heap.size, 1, none⟩ (.int .i64 n0)).setCell ⟨V2.heap.size, 2, none⟩ (.slice a5 m0 q5) = V := ⟨_, rfl⟩
            rw [hV5] at y6 ⊢
            have HPU2 := Lib.hid (HPUT.out _ (by rw [hV5]))
            obtain ⟨z60, z61, z62, f60, f61, f62⟩ := zero_three y6
            refine wpAnyH_ready (rs := [7]) (by kernel_rfl) (by simp) ?_
            refine AllReadyH.cons (o := ⟨none, _, _, _, _, _⟩) rfl (fun K hK => ?_) AllReadyH.nil
            go_simp
            refine hK.out _ _ HPU2.out.2.2 (fun _ => ?_)
            clear hK K
            try simp only [Act.put, List.setIfInBounds_toArray, List.set_cons_zero, List.set_cons_succ]
            refine wpAnyH_done (by kernel_rfl) ?_ _
            go_wp2_with fail
            go_meet
            case rel => exact ⟨_, _, _, _, _, _, rfl, rfl, HPU2.out.1, HPU2.out.2.1, HPU2.out.2.2⟩
        · skip
          go_simp
          refine hK.out _ _ (HS1.out.alloc HS1.out.size (.cells #[.int .i64 0, .int .i64 0, .slice none 0 0] 24)) (fun _ => ?_)
          clear hK K
          try simp only [Act.put, List.setIfInBounds_toArray, List.set_cons_zero, List.set_cons_succ]
          obtain ⟨V2, hV⟩ : ∃ V, V1.alloc (.cells #[.int .i64 0, .int .i64 0, .slice none 0 0] 24) = V := ⟨_, rfl⟩
          rw [hV]
          have HK1 := Lib.hid (show Below V1.heap.size V1 V2 by rw [← hV]; exact (Below.refl _ _).alloc (Nat.le_refl _) _)
          have HZ5 := Lib.hid (show V2.heap[V1.heap.size]? = some (.cells #[.int .i64 0, .int .i64 0, .slice none 0 0] 24) by rw [← hV]; exact World.alloc_heap_new _ _)
          have HL5 := Lib.hid (show V1.heap.size < V2.heap.size by rw [← hV, World.size_alloc]; omega)
          have HS2 := Lib.hid (Go.RowKit.Below.tr HS1.out HK1.out (Nat.le_refl _))
          clear hV
          refine wpAnyH_ready (rs := [1]) (by kernel_rfl) (by simp) ?_
          refine AllReadyH.cons (o := ⟨some 17, _, _, _, _, _⟩) rfl (fun K hK => ?_) AllReadyH.nil
          go_simp
          refine (HCT.out _ HS2.out).mono ?_
          rintro e V3 ⟨a5, q5, rfl, ht, hb⟩
          have HK2 := Lib.hid hb
          have HS3 := Lib.hid (Go.RowKit.Below.tr HS2.out hb (Nat.le_refl _))
          have HT5 := Lib.hid ht
          clear hb ht
          dsimp only
          refine hK.out _ _ HS3.out (fun _ => ?_)
          clear hK K
          try simp only [Act.put, List.setIfInBounds_toArray, List.set_cons_zero, List.set_cons_succ]
          refine wpAnyH_ready (rs := [3]) (by kernel_rfl) (by simp) ?_
          refine AllReadyH.cons (o := ⟨some 19, _, _, _, _, _⟩) rfl (fun K hK => ?_) AllReadyH.nil
          go_simp
          refine (HCU.out _ HS3.out).mono ?_
          rintro e V4 ⟨a6, q6, rfl, ht, hb⟩
          have HK3 := Lib.hid hb
          have HS4 := Lib.hid (Go.RowKit.Below.tr HS3.out hb (Nat.le_refl _))
          have HT6 := Lib.hid ht
          clear hb ht
          dsimp only
          refine hK.out _ _ HS4.out (fun _ => ?_)
          clear hK K
          try simp only [Act.put, List.setIfInBounds_toArray, List.set_cons_zero, List.set_cons_succ]
          have z5 := ((Go.RowKit.Below.tr HK2.out HK3.out (Nat.le_refl _)).block _ HL5.out).trans HZ5.out
          have z6 := ((Go.RowKit.Below.tr (Go.RowKit.Below.tr HK1.out HK2.out (Nat.le_refl _)) HK3.out (Nat.le_refl _)).block _ HL6.out).trans HZ6.out
          have hput := fun F hF => put_two (F := F) (hi5 := V3.heap.size) (hi6 := V4.heap.size) (lo5 := V2.heap.size) (lo6 := V3.heap.size) BX3.out.says BU3.out.says z5 z6 (HT5.out.below HK3.out (fun _ h => h.2) (fun _ h => h)) (HT6.out.below (Below.refl V4.heap.size V4) (fun _ h => h.2) (fun _ h => h)) HS4.out (Nat.le_trans HS0.out.size (by have := HK0.out.size; have := HK1.out.size; have := HK2.out.size; have := HK3.out.size; have := HL5.out; have := HL6.out; omega)) (Nat.le_trans HS0.out.size (by have := HK0.out.size; have := HK1.out.size; have := HK2.out.size; have := HK3.out.size; have := HL5.out; have := HL6.out; omega)) (by have := HK0.out.size; have := HK1.out.size; have := HK2.out.size; have := HK3.out.size; have := HL5.out; have := HL6.out; omega) (by have := HK0.out.size; have := HK1.out.size; have := HK2.out.size; have := HK3.out.size; have := HL5.out; have := HL6.out; omega) (by have := HK0.out.size; have := HK1.out.size; have := HK2.out.size; have := HK3.out.size; have := HL5.out; have := HL6.out; omega) (by have := HK0.out.size; have := HK1.out.size; have := HK2.out.size; have := HK3.out.size; have := HL5.out; have := HL6.out; omega) (by have := HK0.out.size; have := HK1.out.size; have := HK2.out.size; have := HK3.out.size; have := HL5.out; have := HL6.out; omega) (by have := HK0.out.size; have := HK1.out.size; have := HK2.out.size; have := HK3.out.size; have := HL5.out; have := HL6.out; omega) (by have := HK0.out.size; have := HK1.out.size; have := HK2.out.size; have := HK3.out.size; have := HL5.out; have := HL6.out; omega) hF
          have HPUT := Lib.hid hput
          clear hput
          obtain ⟨z50, z51, z52, f50, f51, f52⟩ := zero_three z5
          refine wpAnyH_ready (rs := [6]) (by kernel_rfl) (by simp) ?_
          refine AllReadyH.cons (o := ⟨none, _, _, _, _, _⟩) rfl (fun K hK => ?_) AllReadyH.nil
          go_simp
          refine hK.out _ _ (put_half HS4.out (Nat.le_trans HS0.out.size (by have := HK0.out.size; have := HK1.out.size; have := HK2.out.size; have := HK3.out.size; have := HL5.out; have := HL6.out; omega))) (fun _ => ?_)
          clear hK K
          try simp only [Act.put, List.setIfInBounds_toArray, List.set_cons_zero, List.set_cons_succ]
          clear z50 z51 z52 f50 f51 f52
          have y6 := (set3_other (V := V4) (b := V1.heap.size) (v0 := .int .i64 k0) (v1 := .int .i64 n0) (v2 := .slice a5 m0 q5) (k := V0.heap.size) (by have := HK0.out.size; have := HK1.out.size; have := HK2.out.size; have := HK3.out.size; have := HL5.out; have := HL6.out; omega)).trans z6
          obtain ⟨V5, hV5⟩ : ∃ V, ((V4.setCell ⟨V1.heap.size, 0, none⟩ (.int .i64 k0)).setCell ⟨V1.heap.size, 1, none⟩ (.int .i64 n0)).setCell ⟨V1.heap.size, 2, none⟩ (.slice a5 m0 q5) = V := ⟨_, rfl⟩
          rw [hV5] at y6 ⊢
          have HPU2 := Lib.hid (HPUT.out _ (by rw [hV5]))
          obtain ⟨z60, z61, z62, f60, f61, f62⟩ := zero_three y6
          refine wpAnyH_ready (rs := [7]) (by kernel_rfl) (by simp) ?_
          refine AllReadyH.cons (o := ⟨none, _, _, _, _, _⟩) rfl (fun K hK => ?_) AllReadyH.nil
          go_simp
          refine hK.out _ _ HPU2.out.2.2 (fun _ => ?_)
          clear hK K
          try simp only [Act.put, List.setIfInBounds_toArray, List.set_cons_zero, List.set_cons_succ]
          refine wpAnyH_done (by kernel_rfl) ?_ _
          go_wp2_with fail
          go_meet
          case rel => exact ⟨_, _, _, _, _, _, rfl, rfl, HPU2.out.1, HPU2.out.2.1, HPU2.out.2.2⟩
    case rest =>
    obtain ⟨p5, p6, a5, q5, a6, q6, rfl, rfl, b5, b6, hb⟩ := hcut
    have ba4 := BX3.out.later hb; have bb4 := BU3.out.later hb
    have BA4 := Lib.hid ba4; have BB4 := Lib.hid bb4; have BX4 := Lib.hid b5; have BY4 := Lib.hid b6; have HB4 := Lib.hid (HB3.out.tr hb (Nat.le_refl _))
    have HRA := Lib.hid (fun x (h : Below wc.heap.size wc x) => rr_any (w := x) (ba4.later h).says (ba4.later h).ty)
    have HRB := Lib.hid (fun x (h : Below wc.heap.size wc x) => rr_any (w := x) (bb4.later h).says (bb4.later h).ty)
    have HCELL4 := Lib.hid (fun x (h : Below wc.heap.size wc x) => (⟨(ba4.later h).cells, (bb4.later h).cells⟩ : _ ∧ _))
    clear b5 b6 hb HCELL HCT HCU ba4 bb4
    obtain ⟨rt, hrt⟩ : ∃ r, Tp.right t = r := ⟨_, rfl⟩
    obtain ⟨ru, hru⟩ : ∃ r, Tp.right u = r := ⟨_, rfl⟩
    rw [hrt] at HRA; rw [hru] at HRB
    have HRT := Lib.hid hrt; have HRU := Lib.hid hru
    clear hrt hru
    go_upto_region 4 with fail
    have HBd := Lib.hid (Below.refl wc.heap.size wc)
    obtain ⟨⟨c0, c1, c2⟩, ⟨d0, d1, d2⟩⟩ := HCELL4.out _ HBd.out
    cases rt with
    | false =>
      go_upto_region 5 with (go_at_call 11; (first | with_reducible refine (HRA.out _ HBd.out).mono ?_ | with_reducible refine (HRB.out _ HBd.out).mono ?_); clear c0 c1 c2 d0 d1 d2; rintro e xw ⟨rfl, hb⟩; have HBd := Lib.hid (HBd.out.tr hb (Nat.le_refl _)); clear hb; obtain ⟨⟨c0, c1, c2⟩, ⟨d0, d1, d2⟩⟩ := HCELL4.out _ HBd.out)
      clear c0 c1 c2 d0 d1 d2
      have bx5 := BX4.out.later HBd.out; have by5 := BY4.out.later HBd.out; have ba5 := BA4.out.later HBd.out; have bb5 := BB4.out.later HBd.out
      have HB5 := Lib.hid (HB4.out.tr HBd.out (Nat.le_refl _))
      have BX5 := Lib.hid bx5; have BY5 := Lib.hid by5; have BA5 := Lib.hid ba5; have BB5 := Lib.hid bb5
      clear bx5 by5 ba5 bb5
      obtain ⟨e0, e1, e2⟩ := BX5.out.cells
      go_wp2_with fail
      refine (grd_any BX5.out.says BX5.out.ty HST.out).mono ?_
      clear e0 e1 e2
      rintro e w6 ⟨kg, ng, mg, ag, cg, hvg, rfl, tyg, hb⟩
      obtain ⟨W7, hW7⟩ : ∃ W7, w6.alloc (.cells #[.int .i64 kg, .int .i64 ng, .slice ag mg cg] 24) = W7 := ⟨_, rfl⟩
      obtain ⟨bg, hb7⟩ := box_new hvg tyg hW7
      have hbb := hb.tr hb7 (Nat.le_refl _)
      have BG7 := Lib.hid bg; have BX7 := Lib.hid (BX5.out.later hbb); have BY7 := Lib.hid (BY5.out.later hbb); have BA7 := Lib.hid (BA5.out.later hbb); have BB7 := Lib.hid (BB5.out.later hbb); have HB7 := Lib.hid (HB5.out.tr hbb (Nat.le_refl _)); have HW7 := Lib.hid hW7
      clear hW7 hb7 hbb hvg tyg hb bg HBd HRA HRB HCELL4
      go_upto_region 6 with fail
      rw [HW7.out]
      obtain ⟨W8, hW8⟩ : ∃ W8, W7.alloc (.cells #[.int .i64 0, .int .i64 0, .slice none 0 0] 24) = W8 := ⟨_, rfl⟩
      have hb8 : Below W7.heap.size W7 W8 := by rw [← hW8]; exact (Below.refl _ _).alloc (Nat.le_refl _) _
      have hz8 : W8.heap[W7.heap.size]? = some (.cells #[.int .i64 0, .int .i64 0, .slice none 0 0] 24) := by rw [← hW8]; exact World.alloc_heap_new W7 _
      have ba8 := BA7.out.later hb8
      have HB8 := Lib.hid hb8; have HZ8 := Lib.hid hz8; have HW8 := Lib.hid hW8; have BA8 := Lib.hid ba8
      have hr8 := rr_any ba8.says ba8.ty
      rw [HRT.out] at hr8
      have HR8 := Lib.hid hr8
      clear hb8 hz8 hW8 ba8 hr8
      go_upto_region 8 with fail
      rw [HW8.out]
      obtain ⟨c0, c1, c2⟩ := BA8.out.cells
      go_wp2_with fail
      refine HR8.out.mono ?_
      clear c0 c1 c2
      rintro e w9 ⟨rfl, hb⟩
      have hb79 := HB8.out.tr hb (Nat.le_refl _)
      have hz9 := (hb.block _ (Array.getElem?_eq_some_iff.1 HZ8.out).1).trans HZ8.out
      have HB9 := Lib.hid hb79; have HZ9 := Lib.hid hz9; have BA9 := Lib.hid (BA7.out.later hb79)
      clear hb hb79 hz9
      have hg0 : Tp.hasG t = false := by unfold Tp.hasG; rw [HRT.out]; rfl
      have hgr : Tp.grd t = .mk 0 0 [] := by unfold Tp.grd; rw [hg0]; rfl
      have hbl : Tp.bl t u = false := by unfold Tp.bl; rw [HRT.out]; rfl
      have bh9 : BoxT w9 W7.heap.size (.mk 0 0 []) 0 0 0 none 0 := ⟨⟨rfl, rfl, rfl⟩, HZ9.out, leaf_at (i64_nat (by decide) (by decide))⟩
      have bg9 := BG7.out.later HB9.out
      rw [hgr] at bg9
      rw [hg0]
      have HBF := Lib.hid HB9.out
      have hgx := hgr
      have BH9 := Lib.hid bh9; have BG9 := Lib.hid bg9
      go_upto_region 10 with fail
      have ba9 := BA7.out.later HBF.out; have bb9 := BB7.out.later HBF.out; have bx9 := BX7.out.later HBF.out; have by9 := BY7.out.later HBF.out
      have HXY := Lib.hid (fun x (h : Below w9.heap.size w9 x) => bl_any (w := x) (bx9.later h).says (by9.later h).says (bx9.later h).ty (by9.later h).ty HST.out HSU.out)
      have HGH := Lib.hid (fun x (h : Below w9.heap.size w9 x) => ks_any (w := x) (bg9.later h).says (bh9.later h).says (bg9.later h).ty (bh9.later h).ty)
      have HXA := Lib.hid (fun x (h : Below w9.heap.size w9 x) => ks_any (w := x) (bx9.later h).says (ba9.later h).says (bx9.later h).ty (ba9.later h).ty)
      have HYB := Lib.hid (fun x (h : Below w9.heap.size w9 x) => ks_any (w := x) (by9.later h).says (bb9.later h).says (by9.later h).ty (bb9.later h).ty)
      have HWAK := Lib.hid (fun x (_ : Below w9.heap.size w9 x) => wakes9_any x)
      have HCELL := Lib.hid (fun x (h : Below w9.heap.size w9 x) => (⟨(ba9.later h).cells, (bb9.later h).cells, (bx9.later h).cells, (by9.later h).cells, (bg9.later h).cells, (bh9.later h).cells⟩ : _ ∧ _ ∧ _ ∧ _ ∧ _ ∧ _))
      rw [hbl] at HXY; rw [Tp.same_refl] at HGH; rw [Tp.same_refl] at HXA; rw [Tp.same_refl] at HYB
      have HBd := Lib.hid (Below.refl w9.heap.size w9)
      have HB10 := Lib.hid (HB7.out.tr HBF.out (Nat.le_refl _))
      clear bh9 bg9 ba9 bb9 bx9 by9 hbl hg0 hgr hgx
      obtain ⟨⟨c0, c1, c2⟩, ⟨d0, d1, d2⟩, ⟨e0, e1, e2⟩, ⟨g0, g1, g2⟩, ⟨h0, h1, h2⟩, ⟨i0, i1, i2⟩⟩ := HCELL.out _ HBd.out
      go_wp2_with (first | (go_at_call 14; with_reducible refine (HXY.out _ HBd.out).mono ?_; clear c0 c1 c2 d0 d1 d2 e0 e1 e2 g0 g1 g2 h0 h1 h2 i0 i1 i2; rintro e xw ⟨rfl, hb⟩; have HBd := Lib.hid (HBd.out.tr hb (Nat.le_refl _)); clear hb; obtain ⟨⟨c0, c1, c2⟩, ⟨d0, d1, d2⟩, ⟨e0, e1, e2⟩, ⟨g0, g1, g2⟩, ⟨h0, h1, h2⟩, ⟨i0, i1, i2⟩⟩ := HCELL.out _ HBd.out) | (go_at_call 16; (first | with_reducible refine (HGH.out _ HBd.out).mono ?_ | with_reducible refine (HXA.out _ HBd.out).mono ?_ | with_reducible refine (HYB.out _ HBd.out).mono ?_); clear c0 c1 c2 d0 d1 d2 e0 e1 e2 g0 g1 g2 h0 h1 h2 i0 i1 i2; rintro e xw ⟨rfl, hb⟩; have HBd := Lib.hid (HBd.out.tr hb (Nat.le_refl _)); clear hb; obtain ⟨⟨c0, c1, c2⟩, ⟨d0, d1, d2⟩, ⟨e0, e1, e2⟩, ⟨g0, g1, g2⟩, ⟨h0, h1, h2⟩, ⟨i0, i1, i2⟩⟩ := HCELL.out _ HBd.out) | (go_at_call 17; with_reducible refine (HWAK.out _ HBd.out).mono ?_; clear c0 c1 c2 d0 d1 d2 e0 e1 e2 g0 g1 g2 h0 h1 h2 i0 i1 i2; rintro e xw ⟨rfl, hb⟩; have HBd := Lib.hid (HBd.out.tr hb (Nat.le_refl _)); clear hb; obtain ⟨⟨c0, c1, c2⟩, ⟨d0, d1, d2⟩, ⟨e0, e1, e2⟩, ⟨g0, g1, g2⟩, ⟨h0, h1, h2⟩, ⟨i0, i1, i2⟩⟩ := HCELL.out _ HBd.out))
      go_ret
      exact ⟨rfl, HB10.out.tr HBd.out (Nat.le_refl _)⟩
    | true =>
      cases ru with
      | false =>
        go_upto_region 5 with (go_at_call 11; (first | with_reducible refine (HRA.out _ HBd.out).mono ?_ | with_reducible refine (HRB.out _ HBd.out).mono ?_); clear c0 c1 c2 d0 d1 d2; rintro e xw ⟨rfl, hb⟩; have HBd := Lib.hid (HBd.out.tr hb (Nat.le_refl _)); clear hb; obtain ⟨⟨c0, c1, c2⟩, ⟨d0, d1, d2⟩⟩ := HCELL4.out _ HBd.out)
        clear c0 c1 c2 d0 d1 d2
        have bx5 := BX4.out.later HBd.out; have by5 := BY4.out.later HBd.out; have ba5 := BA4.out.later HBd.out; have bb5 := BB4.out.later HBd.out
        have HB5 := Lib.hid (HB4.out.tr HBd.out (Nat.le_refl _))
        have BX5 := Lib.hid bx5; have BY5 := Lib.hid by5; have BA5 := Lib.hid ba5; have BB5 := Lib.hid bb5
        clear bx5 by5 ba5 bb5
        obtain ⟨e0, e1, e2⟩ := BX5.out.cells
        go_wp2_with fail
        refine (grd_any BX5.out.says BX5.out.ty HST.out).mono ?_
        clear e0 e1 e2
        rintro e w6 ⟨kg, ng, mg, ag, cg, hvg, rfl, tyg, hb⟩
        obtain ⟨W7, hW7⟩ : ∃ W7, w6.alloc (.cells #[.int .i64 kg, .int .i64 ng, .slice ag mg cg] 24) = W7 := ⟨_, rfl⟩
        obtain ⟨bg, hb7⟩ := box_new hvg tyg hW7
        have hbb := hb.tr hb7 (Nat.le_refl _)
        have BG7 := Lib.hid bg; have BX7 := Lib.hid (BX5.out.later hbb); have BY7 := Lib.hid (BY5.out.later hbb); have BA7 := Lib.hid (BA5.out.later hbb); have BB7 := Lib.hid (BB5.out.later hbb); have HB7 := Lib.hid (HB5.out.tr hbb (Nat.le_refl _)); have HW7 := Lib.hid hW7
        clear hW7 hb7 hbb hvg tyg hb bg HBd HRA HRB HCELL4
        go_upto_region 6 with fail
        rw [HW7.out]
        obtain ⟨W8, hW8⟩ : ∃ W8, W7.alloc (.cells #[.int .i64 0, .int .i64 0, .slice none 0 0] 24) = W8 := ⟨_, rfl⟩
        have hb8 : Below W7.heap.size W7 W8 := by rw [← hW8]; exact (Below.refl _ _).alloc (Nat.le_refl _) _
        have hz8 : W8.heap[W7.heap.size]? = some (.cells #[.int .i64 0, .int .i64 0, .slice none 0 0] 24) := by rw [← hW8]; exact World.alloc_heap_new W7 _
        have ba8 := BA7.out.later hb8
        have HB8 := Lib.hid hb8; have HZ8 := Lib.hid hz8; have HW8 := Lib.hid hW8; have BA8 := Lib.hid ba8
        have hr8 := rr_any ba8.says ba8.ty
        rw [HRT.out] at hr8
        have HR8 := Lib.hid hr8
        clear hb8 hz8 hW8 ba8 hr8
        go_upto_region 8 with fail
        rw [HW8.out]
        obtain ⟨c0, c1, c2⟩ := BA8.out.cells
        go_wp2_with fail
        refine HR8.out.mono ?_
        clear c0 c1 c2
        rintro e w9 ⟨rfl, hb⟩
        have hb79 := HB8.out.tr hb (Nat.le_refl _)
        have hz9 := (hb.block _ (Array.getElem?_eq_some_iff.1 HZ8.out).1).trans HZ8.out
        have HB9 := Lib.hid hb79; have HZ9 := Lib.hid hz9; have BA9 := Lib.hid (BA7.out.later hb79)
        clear hb hb79 hz9
        obtain ⟨c0, c1, c2⟩ := BA9.out.cells
        go_wp2_with fail
        refine (rgrd_any BA9.out.says HRT.out BA9.out.ty).mono ?_
        clear c0 c1 c2
        rintro e w10 ⟨kh, nh, mh, ah, ch, hvh, rfl, tyh, hb⟩
        have hl7 : W7.heap.size < w9.heap.size := (Array.getElem?_eq_some_iff.1 HZ9.out).1
        have hz10 := (hb.block _ hl7).trans HZ9.out
        obtain ⟨z0, z1, z2, f0, f1, f2⟩ := zero_three hz10
        obtain ⟨F, hF⟩ : ∃ F, ((w10.setCell ⟨W7.heap.size, 0, none⟩ (.int .i64 kh)).setCell ⟨W7.heap.size, 1, none⟩ (.int .i64 nh)).setCell ⟨W7.heap.size, 2, none⟩ (.slice ah mh ch) = F := ⟨_, rfl⟩
        have hbF : Below W7.heap.size W7 F := by rw [← hF]; exact put3 (HB9.out.tr hb (Nat.le_refl _)) (Nat.le_refl _)
        have hbx : F.heap[W7.heap.size]? = some (.cells #[.int .i64 kh, .int .i64 nh, .slice ah mh ch] 24) := by rw [← hF]; exact box_set3 hz10
        have htF : TyAt (LT F.heap.size) F (Tp.grd t) ah ch := ty_same (fun z hz => by rw [← hF]; exact set3_other (by have := hz.1; omega)) (fun z hz => by show z < F.heap.size; rw [← hF, size_setCell, size_setCell, size_setCell]; exact hz.2) tyh
        have bh9 : BoxT F W7.heap.size (Tp.grd t) kh nh mh ah ch := ⟨hvh, hbx, htF⟩
        have bg9 := BG7.out.later hbF
        have HBF := Lib.hid hbF; have HFF := Lib.hid hF
        have BH9 := Lib.hid bh9; have BG9 := Lib.hid bg9
        clear hF hbF hbx htF hz10 hl7 tyh hvh hb bh9 bg9
        go_upto_region 10 with fail
        rw [HFF.out]
        clear z0 z1 z2 f0 f1 f2
        have bh9 := BH9.out; have bg9 := BG9.out
        have hbl : Tp.bl t u = false := by unfold Tp.bl; rw [HRT.out, HRU.out]; rfl
        have ba9 := BA7.out.later HBF.out; have bb9 := BB7.out.later HBF.out; have bx9 := BX7.out.later HBF.out; have by9 := BY7.out.later HBF.out
        have HXY := Lib.hid (fun x (h : Below F.heap.size F x) => bl_any (w := x) (bx9.later h).says (by9.later h).says (bx9.later h).ty (by9.later h).ty HST.out HSU.out)
        have HGH := Lib.hid (fun x (h : Below F.heap.size F x) => ks_any (w := x) (bg9.later h).says (bh9.later h).says (bg9.later h).ty (bh9.later h).ty)
        have HXA := Lib.hid (fun x (h : Below F.heap.size F x) => ks_any (w := x) (bx9.later h).says (ba9.later h).says (bx9.later h).ty (ba9.later h).ty)
        have HYB := Lib.hid (fun x (h : Below F.heap.size F x) => ks_any (w := x) (by9.later h).says (bb9.later h).says (by9.later h).ty (bb9.later h).ty)
        have HWAK := Lib.hid (fun x (_ : Below F.heap.size F x) => wakes9_any x)
        have HCELL := Lib.hid (fun x (h : Below F.heap.size F x) => (⟨(ba9.later h).cells, (bb9.later h).cells, (bx9.later h).cells, (by9.later h).cells, (bg9.later h).cells, (bh9.later h).cells⟩ : _ ∧ _ ∧ _ ∧ _ ∧ _ ∧ _))
        rw [hbl] at HXY; rw [Tp.same_refl] at HGH; rw [Tp.same_refl] at HXA; rw [Tp.same_refl] at HYB
        obtain ⟨gg, hgg⟩ : ∃ z, Tp.hasG t = z := ⟨_, rfl⟩
        rw [hgg]
        have HBd := Lib.hid (Below.refl F.heap.size F)
        have HB10 := Lib.hid (HB7.out.tr HBF.out (Nat.le_refl _))
        clear bh9 bg9 ba9 bb9 bx9 by9 hbl hgg
        obtain ⟨⟨c0, c1, c2⟩, ⟨d0, d1, d2⟩, ⟨e0, e1, e2⟩, ⟨g0, g1, g2⟩, ⟨h0, h1, h2⟩, ⟨i0, i1, i2⟩⟩ := HCELL.out _ HBd.out
        cases gg
        all_goals
          go_wp2_with (first | (go_at_call 14; with_reducible refine (HXY.out _ HBd.out).mono ?_; clear c0 c1 c2 d0 d1 d2 e0 e1 e2 g0 g1 g2 h0 h1 h2 i0 i1 i2; rintro e xw ⟨rfl, hb⟩; have HBd := Lib.hid (HBd.out.tr hb (Nat.le_refl _)); clear hb; obtain ⟨⟨c0, c1, c2⟩, ⟨d0, d1, d2⟩, ⟨e0, e1, e2⟩, ⟨g0, g1, g2⟩, ⟨h0, h1, h2⟩, ⟨i0, i1, i2⟩⟩ := HCELL.out _ HBd.out) | (go_at_call 16; (first | with_reducible refine (HGH.out _ HBd.out).mono ?_ | with_reducible refine (HXA.out _ HBd.out).mono ?_ | with_reducible refine (HYB.out _ HBd.out).mono ?_); clear c0 c1 c2 d0 d1 d2 e0 e1 e2 g0 g1 g2 h0 h1 h2 i0 i1 i2; rintro e xw ⟨rfl, hb⟩; have HBd := Lib.hid (HBd.out.tr hb (Nat.le_refl _)); clear hb; obtain ⟨⟨c0, c1, c2⟩, ⟨d0, d1, d2⟩, ⟨e0, e1, e2⟩, ⟨g0, g1, g2⟩, ⟨h0, h1, h2⟩, ⟨i0, i1, i2⟩⟩ := HCELL.out _ HBd.out) | (go_at_call 17; with_reducible refine (HWAK.out _ HBd.out).mono ?_; clear c0 c1 c2 d0 d1 d2 e0 e1 e2 g0 g1 g2 h0 h1 h2 i0 i1 i2; rintro e xw ⟨rfl, hb⟩; have HBd := Lib.hid (HBd.out.tr hb (Nat.le_refl _)); clear hb; obtain ⟨⟨c0, c1, c2⟩, ⟨d0, d1, d2⟩, ⟨e0, e1, e2⟩, ⟨g0, g1, g2⟩, ⟨h0, h1, h2⟩, ⟨i0, i1, i2⟩⟩ := HCELL.out _ HBd.out))
          go_ret
          exact ⟨rfl, HB10.out.tr HBd.out (Nat.le_refl _)⟩
      | true =>
        go_upto_region 5 with (go_at_call 11; (first | with_reducible refine (HRA.out _ HBd.out).mono ?_ | with_reducible refine (HRB.out _ HBd.out).mono ?_); clear c0 c1 c2 d0 d1 d2; rintro e xw ⟨rfl, hb⟩; have HBd := Lib.hid (HBd.out.tr hb (Nat.le_refl _)); clear hb; obtain ⟨⟨c0, c1, c2⟩, ⟨d0, d1, d2⟩⟩ := HCELL4.out _ HBd.out)
        clear c0 c1 c2 d0 d1 d2
        have bx5 := BX4.out.later HBd.out; have by5 := BY4.out.later HBd.out; have ba5 := BA4.out.later HBd.out; have bb5 := BB4.out.later HBd.out
        have HB5 := Lib.hid (HB4.out.tr HBd.out (Nat.le_refl _))
        have BX5 := Lib.hid bx5; have BY5 := Lib.hid by5; have BA5 := Lib.hid ba5; have BB5 := Lib.hid bb5
        clear bx5 by5 ba5 bb5
        obtain ⟨e0, e1, e2⟩ := BX5.out.cells
        go_wp2_with fail
        refine (grd_any BX5.out.says BX5.out.ty HST.out).mono ?_
        clear e0 e1 e2
        rintro e w6 ⟨kg, ng, mg, ag, cg, hvg, rfl, tyg, hb⟩
        obtain ⟨W7, hW7⟩ : ∃ W7, w6.alloc (.cells #[.int .i64 kg, .int .i64 ng, .slice ag mg cg] 24) = W7 := ⟨_, rfl⟩
        obtain ⟨bg, hb7⟩ := box_new hvg tyg hW7
        have hbb := hb.tr hb7 (Nat.le_refl _)
        have BG7 := Lib.hid bg; have BX7 := Lib.hid (BX5.out.later hbb); have BY7 := Lib.hid (BY5.out.later hbb); have BA7 := Lib.hid (BA5.out.later hbb); have BB7 := Lib.hid (BB5.out.later hbb); have HB7 := Lib.hid (HB5.out.tr hbb (Nat.le_refl _)); have HW7 := Lib.hid hW7
        clear hW7 hb7 hbb hvg tyg hb bg HBd HRA HRB HCELL4
        go_upto_region 6 with fail
        rw [HW7.out]
        obtain ⟨W8, hW8⟩ : ∃ W8, W7.alloc (.cells #[.int .i64 0, .int .i64 0, .slice none 0 0] 24) = W8 := ⟨_, rfl⟩
        have hb8 : Below W7.heap.size W7 W8 := by rw [← hW8]; exact (Below.refl _ _).alloc (Nat.le_refl _) _
        have hz8 : W8.heap[W7.heap.size]? = some (.cells #[.int .i64 0, .int .i64 0, .slice none 0 0] 24) := by rw [← hW8]; exact World.alloc_heap_new W7 _
        have ba8 := BA7.out.later hb8
        have HB8 := Lib.hid hb8; have HZ8 := Lib.hid hz8; have HW8 := Lib.hid hW8; have BA8 := Lib.hid ba8
        have hr8 := rr_any ba8.says ba8.ty
        rw [HRT.out] at hr8
        have HR8 := Lib.hid hr8
        clear hb8 hz8 hW8 ba8 hr8
        go_upto_region 8 with fail
        rw [HW8.out]
        obtain ⟨c0, c1, c2⟩ := BA8.out.cells
        go_wp2_with fail
        refine HR8.out.mono ?_
        clear c0 c1 c2
        rintro e w9 ⟨rfl, hb⟩
        have hb79 := HB8.out.tr hb (Nat.le_refl _)
        have hz9 := (hb.block _ (Array.getElem?_eq_some_iff.1 HZ8.out).1).trans HZ8.out
        have HB9 := Lib.hid hb79; have HZ9 := Lib.hid hz9; have BA9 := Lib.hid (BA7.out.later hb79)
        clear hb hb79 hz9
        obtain ⟨c0, c1, c2⟩ := BA9.out.cells
        go_wp2_with fail
        refine (rgrd_any BA9.out.says HRT.out BA9.out.ty).mono ?_
        clear c0 c1 c2
        rintro e w10 ⟨kh, nh, mh, ah, ch, hvh, rfl, tyh, hb⟩
        have hl7 : W7.heap.size < w9.heap.size := (Array.getElem?_eq_some_iff.1 HZ9.out).1
        have hz10 := (hb.block _ hl7).trans HZ9.out
        obtain ⟨z0, z1, z2, f0, f1, f2⟩ := zero_three hz10
        obtain ⟨F, hF⟩ : ∃ F, ((w10.setCell ⟨W7.heap.size, 0, none⟩ (.int .i64 kh)).setCell ⟨W7.heap.size, 1, none⟩ (.int .i64 nh)).setCell ⟨W7.heap.size, 2, none⟩ (.slice ah mh ch) = F := ⟨_, rfl⟩
        have hbF : Below W7.heap.size W7 F := by rw [← hF]; exact put3 (HB9.out.tr hb (Nat.le_refl _)) (Nat.le_refl _)
        have hbx : F.heap[W7.heap.size]? = some (.cells #[.int .i64 kh, .int .i64 nh, .slice ah mh ch] 24) := by rw [← hF]; exact box_set3 hz10
        have htF : TyAt (LT F.heap.size) F (Tp.grd t) ah ch := ty_same (fun z hz => by rw [← hF]; exact set3_other (by have := hz.1; omega)) (fun z hz => by show z < F.heap.size; rw [← hF, size_setCell, size_setCell, size_setCell]; exact hz.2) tyh
        have bh9 : BoxT F W7.heap.size (Tp.grd t) kh nh mh ah ch := ⟨hvh, hbx, htF⟩
        have bg9 := BG7.out.later hbF
        have HBF := Lib.hid hbF; have HFF := Lib.hid hF
        have BH9 := Lib.hid bh9; have BG9 := Lib.hid bg9
        clear hF hbF hbx htF hz10 hl7 tyh hvh hb bh9 bg9
        go_upto_region 10 with fail
        rw [HFF.out]
        clear z0 z1 z2 f0 f1 f2
        have bh9 := BH9.out; have bg9 := BG9.out
        have hbl : Tp.bl t u = Tp.below t u := bl_right HRT.out HRU.out
        have ba9 := BA7.out.later HBF.out; have bb9 := BB7.out.later HBF.out; have bx9 := BX7.out.later HBF.out; have by9 := BY7.out.later HBF.out
        have HXY := Lib.hid (fun x (h : Below F.heap.size F x) => bl_any (w := x) (bx9.later h).says (by9.later h).says (bx9.later h).ty (by9.later h).ty HST.out HSU.out)
        have HGH := Lib.hid (fun x (h : Below F.heap.size F x) => ks_any (w := x) (bg9.later h).says (bh9.later h).says (bg9.later h).ty (bh9.later h).ty)
        have HXA := Lib.hid (fun x (h : Below F.heap.size F x) => ks_any (w := x) (bx9.later h).says (ba9.later h).says (bx9.later h).ty (ba9.later h).ty)
        have HYB := Lib.hid (fun x (h : Below F.heap.size F x) => ks_any (w := x) (by9.later h).says (bb9.later h).says (by9.later h).ty (bb9.later h).ty)
        have HWAK := Lib.hid (fun x (_ : Below F.heap.size F x) => wakes9_any x)
        have HRBE := Lib.hid (fun x (h : Below F.heap.size F x) => rb_any (w := x) (ba9.later h).says (bb9.later h).says HRT.out HRU.out (ba9.later h).ty (bb9.later h).ty)
        have HCELL := Lib.hid (fun x (h : Below F.heap.size F x) => (⟨(ba9.later h).cells, (bb9.later h).cells, (bx9.later h).cells, (by9.later h).cells, (bg9.later h).cells, (bh9.later h).cells⟩ : _ ∧ _ ∧ _ ∧ _ ∧ _ ∧ _))
        rw [hbl] at HXY; rw [Tp.same_refl] at HGH; rw [Tp.same_refl] at HXA; rw [Tp.same_refl] at HYB
        obtain ⟨be, hbe⟩ : ∃ z, Tp.below t u = z := ⟨_, rfl⟩
        rw [hbe] at HXY HRBE
        obtain ⟨gg, hgg⟩ : ∃ z, Tp.hasG t = z := ⟨_, rfl⟩
        rw [hgg]
        have HBd := Lib.hid (Below.refl F.heap.size F)
        have HB10 := Lib.hid (HB7.out.tr HBF.out (Nat.le_refl _))
        clear bh9 bg9 ba9 bb9 bx9 by9 hbl hbe hgg
        obtain ⟨⟨c0, c1, c2⟩, ⟨d0, d1, d2⟩, ⟨e0, e1, e2⟩, ⟨g0, g1, g2⟩, ⟨h0, h1, h2⟩, ⟨i0, i1, i2⟩⟩ := HCELL.out _ HBd.out
        cases gg
        all_goals
          cases be
          all_goals
            go_wp2_with (first | (go_at_call 14; with_reducible refine (HXY.out _ HBd.out).mono ?_; clear c0 c1 c2 d0 d1 d2 e0 e1 e2 g0 g1 g2 h0 h1 h2 i0 i1 i2; rintro e xw ⟨rfl, hb⟩; have HBd := Lib.hid (HBd.out.tr hb (Nat.le_refl _)); clear hb; obtain ⟨⟨c0, c1, c2⟩, ⟨d0, d1, d2⟩, ⟨e0, e1, e2⟩, ⟨g0, g1, g2⟩, ⟨h0, h1, h2⟩, ⟨i0, i1, i2⟩⟩ := HCELL.out _ HBd.out) | (go_at_call 15; with_reducible refine (HRBE.out _ HBd.out).mono ?_; clear c0 c1 c2 d0 d1 d2 e0 e1 e2 g0 g1 g2 h0 h1 h2 i0 i1 i2; rintro e xw ⟨rfl, hb⟩; have HBd := Lib.hid (HBd.out.tr hb (Nat.le_refl _)); clear hb; obtain ⟨⟨c0, c1, c2⟩, ⟨d0, d1, d2⟩, ⟨e0, e1, e2⟩, ⟨g0, g1, g2⟩, ⟨h0, h1, h2⟩, ⟨i0, i1, i2⟩⟩ := HCELL.out _ HBd.out) | (go_at_call 16; (first | with_reducible refine (HGH.out _ HBd.out).mono ?_ | with_reducible refine (HXA.out _ HBd.out).mono ?_ | with_reducible refine (HYB.out _ HBd.out).mono ?_); clear c0 c1 c2 d0 d1 d2 e0 e1 e2 g0 g1 g2 h0 h1 h2 i0 i1 i2; rintro e xw ⟨rfl, hb⟩; have HBd := Lib.hid (HBd.out.tr hb (Nat.le_refl _)); clear hb; obtain ⟨⟨c0, c1, c2⟩, ⟨d0, d1, d2⟩, ⟨e0, e1, e2⟩, ⟨g0, g1, g2⟩, ⟨h0, h1, h2⟩, ⟨i0, i1, i2⟩⟩ := HCELL.out _ HBd.out) | (go_at_call 17; with_reducible refine (HWAK.out _ HBd.out).mono ?_; clear c0 c1 c2 d0 d1 d2 e0 e1 e2 g0 g1 g2 h0 h1 h2 i0 i1 i2; rintro e xw ⟨rfl, hb⟩; have HBd := Lib.hid (HBd.out.tr hb (Nat.le_refl _)); clear hb; obtain ⟨⟨c0, c1, c2⟩, ⟨d0, d1, d2⟩, ⟨e0, e1, e2⟩, ⟨g0, g1, g2⟩, ⟨h0, h1, h2⟩, ⟨i0, i1, i2⟩⟩ := HCELL.out _ HBd.out))
            go_ret
            exact ⟨rfl, HB10.out.tr HBd.out (Nat.le_refl _)⟩
end Go.Proofs.Ytcnnahmchjeakaa
