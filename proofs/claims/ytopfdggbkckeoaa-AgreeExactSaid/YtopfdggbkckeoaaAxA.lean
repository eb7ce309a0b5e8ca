/- The law AgreeExact: its walk. -/
import Derived.Test.YtopfdggbkckeoaaArM
import Derived.Deep.RegionLaw
import Derived.Deep.DeepCutAuto
import Derived.Deep.CutRange
namespace Go.Proofs.Ytopfdggbkckeoaa
open Go Go.RowKit
open Tp (T)

theorem copy_any {t : T} {k n : Int} {m : Nat} {a : Option Addr} {c : Nat} {w : World} (hv : TV t k n m) (h : Tp.size t ≤ 10000) (hty : TyAt (LT w.heap.size) w t a c) :
    Calls Try.prog 10 #[.agg #[.int .i64 k, .int .i64 n, .slice a m c]] w fun e w' => ∃ a' c', e = .returned (.agg #[.int .i64 k, .int .i64 n, .slice a' m c']) ∧ TyAt (fun b => w.heap.size ≤ b ∧ b < w'.heap.size) w' t a' c' ∧ Below w.heap.size w w' := by
  have hk := ktype_any (Tp.size t) t a c w (Nat.le_refl _) h hty
  rw [tv_of hv] at hk
  refine hk.mono fun _ _ ⟨a', c', _, h1, h2, h3, h4, h5, h6⟩ => ?_
  rw [tv_of hv] at h1
  exact ⟨a', c', h1, TyPost.ty h2 h3 h4 h5, h6⟩

theorem zero_three {y : World} {bb : Nat} {ty : TypeId} (h : y.heap[bb]? = some (.cells #[.int .i64 0, .int .i64 0, .slice none 0 0] ty (0, 0))) : y.cell? ⟨bb, 0, none⟩ = some (.int .i64 0) ∧ y.cell? ⟨bb, 1, none⟩ = some (.int .i64 0) ∧ y.cell? ⟨bb, 2, none⟩ = some (.slice none 0 0) ∧ y.frozen? ⟨bb, 0, none⟩ = false ∧ y.frozen? ⟨bb, 1, none⟩ = false ∧ y.frozen? ⟨bb, 2, none⟩ = false :=
  ⟨cell_box h rfl rfl, cell_box h rfl rfl, cell_box h rfl rfl, IsC.frozen ⟨_, _, h⟩, IsC.frozen ⟨_, _, h⟩, IsC.frozen ⟨_, _, h⟩⟩
/-- The page's Right and Agree, by letters. -/
theorem rr_any {t : T} {k n : Int} {m : Nat} {a : Option Addr} {c : Nat} {w : World} (hv : TV t k n m) (ht : TyAt (LT w.heap.size) w t a c) :
    Calls Try.prog 11 #[.agg #[.int .i64 k, .int .i64 n, .slice a m c]] w fun e w' => e = .returned (.bool (Tp.right t)) ∧ Below w.heap.size w w' := by
  rw [← tv_of hv]
  exact rright_any _ t a c w (Nat.le_refl _) ht
theorem ra_any {t u : T} {k n k' n' : Int} {m m' : Nat} {a a' : Option Addr} {c c' : Nat} {w : World} (hv : TV t k n m) (hv' : TV u k' n' m') (hr : Tp.right t = true) (hr' : Tp.right u = true) (ht : TyAt (LT w.heap.size) w t a c) (hu : TyAt (LT w.heap.size) w u a' c') :
    Calls Try.prog 12 #[.agg #[.int .i64 k, .int .i64 n, .slice a m c], .agg #[.int .i64 k', .int .i64 n', .slice a' m' c']] w fun e w' => e = .returned (.bool (Tp.agree t u)) ∧ Below w.heap.size w w' := by
  rw [← tv_of hv, ← tv_of hv']
  exact ragree_any _ t u a c a' c' w (Nat.le_refl _) hr hr' ht hu
theorem rm_any {t u : T} {k n k' n' : Int} {m m' : Nat} {a a' : Option Addr} {c c' : Nat} {w : World} (hv : TV t k n m) (hv' : TV u k' n' m') (ho : Tp.ok t u = true) (ht : TyAt (LT w.heap.size) w t a c) (hu : TyAt (LT w.heap.size) w u a' c') (hs : Tp.size t ≤ 10000) :
    Calls Try.prog 17 #[.agg #[.int .i64 k, .int .i64 n, .slice a m c], .agg #[.int .i64 k', .int .i64 n', .slice a' m' c']] w fun e w' => ∃ k2 n2 m2 a2 c2, TV (Mt t u) k2 n2 m2 ∧ e = .returned (.agg #[.int .i64 k2, .int .i64 n2, .slice a2 m2 c2]) ∧ TyAt (LT w'.heap.size) w' (Mt t u) a2 c2 ∧ Below w.heap.size w w' := by
  obtain ⟨h1, h2, h3⟩ := ok_parts ho
  refine (rmeet_any w.heap.size _ t u k n m a c k' n' m' a' c' w hv hv' (Nat.le_refl _) hs h1 h2 h3 (Nat.le_refl _) ht hu).mono fun e w' ⟨k2, n2, m2, a2, c2, q1, q2, q3, q4⟩ => ?_
  have e : Mt t u = Tp.meet t u := by unfold Mt; rw [if_pos ho]
  rw [e]
  exact ⟨k2, n2, m2, a2, c2, q1, q2, q3.below (Below.refl _ _) (fun _ h => h.2) (fun _ h => h.2), q4⟩
/-- A box of zeros is written. -/
theorem put_half {B : Nat} {W y : World} {bb : Nat} {v0 v1 v2 : Value} (hB : Below B W y) (hbb : B ≤ bb) : Below B W (((y.setCell ⟨bb, 0, none⟩ v0).setCell ⟨bb, 1, none⟩ v1).setCell ⟨bb, 2, none⟩ v2) :=
  ((hB.setCell hbb _).setCell hbb _).setCell hbb _
/-- Two boxes of zeros are written: what lies beside them stays. -/
theorem put_two {B : Nat} {W y F : World} {p5 p6 lo5 hi5 lo6 hi6 : Nat} {t u : T} {k n k' n' : Int} {l l' : Nat} {a a' : Option Addr} {c c' : Nat} (hv : TV t k n l) (hv' : TV u k' n' l') (z5 : y.heap[p5]? = some (.cells #[.int .i64 0, .int .i64 0, .slice none 0 0] 24 (0, 0))) (z6 : y.heap[p6]? = some (.cells #[.int .i64 0, .int .i64 0, .slice none 0 0] 24 (0, 0)))
    (h5 : TyAt (fun b => lo5 ≤ b ∧ b < hi5) y t a c) (h6 : TyAt (fun b => lo6 ≤ b ∧ b < hi6) y u a' c') (hB : Below B W y) (hp5 : B ≤ p5) (hp6 : B ≤ p6) (hne : p6 ≠ p5) (q5 : hi5 ≤ y.heap.size) (q6 : hi6 ≤ y.heap.size) (r5 : p5 < lo5 ∨ hi5 ≤ p5) (r6 : p6 < lo5 ∨ hi5 ≤ p6) (s5 : p5 < lo6 ∨ hi6 ≤ p5) (s6 : p6 < lo6 ∨ hi6 ≤ p6)
    (hF : ((((((y.setCell ⟨p5, 0, none⟩ (.int .i64 k)).setCell ⟨p5, 1, none⟩ (.int .i64 n)).setCell ⟨p5, 2, none⟩ (.slice a l c)).setCell ⟨p6, 0, none⟩ (.int .i64 k')).setCell ⟨p6, 1, none⟩ (.int .i64 n')).setCell ⟨p6, 2, none⟩ (.slice a' l' c')) = F) : BoxT F p5 t k n l a c ∧ BoxT F p6 u k' n' l' a' c' ∧ Below B W F := by
  have hz : F.heap.size = y.heap.size := by rw [← hF]; simp only [size_setCell]
  have hO : ∀ j, j ≠ p5 → j ≠ p6 → F.heap[j]? = y.heap[j]? := fun j h1 h2 => by rw [← hF]; exact (set3_other h2).trans (set3_other h1)
  have b5 : F.heap[p5]? = some (.cells #[.int .i64 k, .int .i64 n, .slice a l c] 24 (0, 0)) := by rw [← hF]; exact (set3_other (fun h => hne h.symm)).trans (box_set3 z5)
  have b6 : F.heap[p6]? = some (.cells #[.int .i64 k', .int .i64 n', .slice a' l' c'] 24 (0, 0)) := by rw [← hF]; exact box_set3 ((set3_other hne).trans z6)
  refine ⟨⟨hv, b5, ty_same (fun j hj => hO j (by omega) (by omega)) (fun j hj => (show j < F.heap.size by omega)) h5⟩, ⟨hv', b6, ty_same (fun j hj => hO j (by omega) (by omega)) (fun j hj => (show j < F.heap.size by omega)) h6⟩, ?_⟩
  rw [← hF]
  exact (((((hB.setCell hp5 _).setCell hp5 _).setCell hp5 _).setCell hp6 _).setCell hp6 _).setCell hp6 _

set_option maxRecDepth 100000 in
set_option maxHeartbeats 8000000 in
theorem lexact_any (t : T) (a : Option Addr) (cap : Nat) (u : T) (b : Option Addr) (cap' : Nat) (w : World) (hty : TyAt (LT w.heap.size) w t a cap) (hty' : TyAt (LT w.heap.size) w u b cap') :
    Calls Try.prog 3 #[tv t a cap, tv u b cap'] w fun e w' => e = .returned (.bool true) ∧ Below w.heap.size w w' := by
  obtain ⟨k0, n0, m0, hv⟩ := TV.mk t
  obtain ⟨k9, n9, m9, hv'⟩ := TV.mk u
  rw [tv_of hv, tv_of hv']
  obtain ⟨W2, hW2⟩ : ∃ W2, (w.alloc (.cells #[.int .i64 k0, .int .i64 n0, .slice a m0 cap] 24)).alloc (.cells #[.int .i64 k9, .int .i64 n9, .slice b m9 cap'] 24) = W2 := ⟨_, rfl⟩
  have hb2 : Below w.heap.size w W2 := by rw [← hW2]; exact ((Below.refl _ _).alloc (Nat.le_refl _) _).alloc (by simp) _
  have hs2 : W2.heap.size = w.heap.size + 2 := by rw [← hW2]; simp
  have bx : BoxT W2 w.heap.size t k0 n0 m0 a cap := ⟨hv, by rw [← hW2]; exact box1 _ _ _ _ _, ty_later hty hb2⟩
  have bu : BoxT W2 (w.heap.size + 1) u k9 n9 m9 b cap' := ⟨hv', by rw [← hW2]; exact box2 _ _ _ _ _, ty_later hty' hb2⟩
  obtain ⟨rr, hrr⟩ : ∃ r, decide (600 < Tp.sizes [t, u]) = r := ⟨_, rfl⟩
  have hri := heavy_any [t, u] (some ⟨W2.heap.size, 0, none⟩) 2 _ (by simp) (row_two bx.ty bu.ty hv.1 hv.2.1 hv.2.2 hv'.1 hv'.2.1 hv'.2.2)
  rw [hrr] at hri
  have HRI := Lib.hid hri; have HRR := Lib.hid hrr; have HB2 := Lib.hid hb2; have HS2 := Lib.hid hs2; have HW2 := Lib.hid hW2; have BX := Lib.hid bx; have BU := Lib.hid bu
  clear hri hrr hb2 hs2 hW2 hty hty' hv hv'
  go_enter Try.func3, Try.ntmps3
  go_upto_region 1 with fail
  rw [HW2.out]
  obtain ⟨c0, c1, c2⟩ := bx.cells
  obtain ⟨d0, d1, d2⟩ := bu.cells
  clear bx bu
  go_wp2_with fail
  refine HRI.out.mono ?_
  clear c0 c1 c2 d0 d1 d2
  rintro e w3 ⟨rfl, hb3⟩
  have hb23 : Below W2.heap.size W2 w3 := ((Below.refl _ _).alloc (Nat.le_refl _) _).tr hb3 (Nat.le_refl _)
  have BX3 := Lib.hid (BX.out.later hb23); have BU3 := Lib.hid (BU.out.later hb23); have HB3 := Lib.hid (HB2.out.tr hb23 (Nat.le_refl _))
  clear hb3 hb23
  cases rr with
  | true =>
    go_wp2_with fail
    go_ret
    exact ⟨rfl, HB3.out⟩
  | false =>
    have hsz : Tp.size t + Tp.size u ≤ 600 := by have := of_decide_eq_false HRR.out; simp only [Tp.sizes] at this; omega
    have HST := Lib.hid (show Tp.size t ≤ 10000 by omega); have HSU := Lib.hid (show Tp.size u ≤ 10000 by omega)
    clear hsz
    have HCELL := Lib.hid (fun x (h : Below w3.heap.size w3 x) => (⟨(BX3.out.later h).cells, (BU3.out.later h).cells⟩ : _ ∧ _))
    have HCT := Lib.hid (fun x (h : Below w3.heap.size w3 x) => copy_any (w := x) (BX3.out.later h).says HST.out (BX3.out.later h).ty)
    have HCU := Lib.hid (fun x (h : Below w3.heap.size w3 x) => copy_any (w := x) (BU3.out.later h).says HSU.out (BU3.out.later h).ty)
    go_upto_region 3 with fail
    go_cut [5, 6] from 14 (fun v5 v6 wx => ∃ p5 p6 a5 q5 a6 q6, v5 = .pointer (some ⟨p5, 0, none⟩) ∧ v6 = .pointer (some ⟨p6, 0, none⟩) ∧ BoxT wx p5 t k0 n0 m0 a5 q5 ∧ BoxT wx p6 u k9 n9 m9 a6 q6 ∧ Below w3.heap.size w3 wx)
    case first =>
      obtain ⟨V0, hV0⟩ : ∃ V, w3.drew = V := ⟨_, rfl⟩
      have HS0 := Lib.hid (show Below w3.heap.size w3 V0 by rw [← hV0]; exact (Below.refl _ _).drew)
      refine wp_region_held_drew (S := Below w3.heap.size w3) (by kernel_rfl) (Below.refl _ _).drew (fun _ => ?_)
      rw [hV0]
      clear hV0
      refine wpAnyH_take (i := 0) (oi := ⟨some 14, _, _, _, _, _⟩) (v := ?_) rfl (by kernel_rfl) (by kernel_rfl) (by kernel_rfl) (fun _ _ _ h => h) (Or.inl ⟨by rfl, ?_⟩) HS0.out ?_
      rotate_left
      · (intro xx hSw; obtain ⟨⟨c0, c1, c2⟩, ⟨d0, d1, d2⟩⟩ := HCELL.out _ hSw; go_simp; (try with_reducible rfl))
      try simp only [Act.put, List.setIfInBounds_toArray, List.set_cons_zero, List.set_cons_succ]
      refine wpAnyH_take (i := 2) (oi := ⟨some 16, _, _, _, _, _⟩) (v := ?_) rfl (by kernel_rfl) (by kernel_rfl) (by kernel_rfl) (fun _ _ _ h => h) (Or.inl ⟨by rfl, ?_⟩) HS0.out ?_
      rotate_left
      · (intro xx hSw; obtain ⟨⟨c0, c1, c2⟩, ⟨d0, d1, d2⟩⟩ := HCELL.out _ hSw; go_simp; (try with_reducible rfl))
      try simp only [Act.put, List.setIfInBounds_toArray, List.set_cons_zero, List.set_cons_succ]
      refine wpAnyH_ready (rs := [1, 4, 5]) (by kernel_rfl) (by simp) ?_
      refine AllReadyH.cons (o := ⟨some 15, _, _, _, _, _⟩) rfl (fun K hK => ?_) (AllReadyH.cons (o := ⟨some 5, _, _, _, _, _⟩) rfl (fun K hK => ?_) (AllReadyH.cons (o := ⟨some 6, _, _, _, _, _⟩) rfl (fun K hK => ?_) AllReadyH.nil))
      · skip
        go_simp
        refine (HCT.out _ HS0.out).mono ?_
        rintro e V1 ⟨a5, q5, rfl, ht, hb⟩
        have HK0 := Lib.hid hb
        have HS1 := Lib.hid (Go.RowKit.Below.tr HS0.out hb (Nat.le_refl _))
        have HT5 := Lib.hid ht
        clear hb ht
        dsimp only
        refine hK.out _ _ HS1.out (fun _ => ?_)
        clear hK K
        try simp only [Act.put, List.setIfInBounds_toArray, List.set_cons_zero, List.set_cons_succ]
        refine wpAnyH_ready (rs := [3, 4, 5]) (by kernel_rfl) (by simp) ?_
        refine AllReadyH.cons (o := ⟨some 17, _, _, _, _, _⟩) rfl (fun K hK => ?_) (AllReadyH.cons (o := ⟨some 5, _, _, _, _, _⟩) rfl (fun K hK => ?_) (AllReadyH.cons (o := ⟨some 6, _, _, _, _, _⟩) rfl (fun K hK => ?_) AllReadyH.nil))
        · skip
          go_simp
          refine (HCU.out _ HS1.out).mono ?_
          rintro e V2 ⟨a6, q6, rfl, ht, hb⟩
          have HK1 := Lib.hid hb
          have HS2 := Lib.hid (Go.RowKit.Below.tr HS1.out hb (Nat.le_refl _))
          have HT6 := Lib.hid ht
          clear hb ht
          dsimp only
          refine hK.out _ _ HS2.out (fun _ => ?_)
          clear hK K
          try simp only [Act.put, List.setIfInBounds_toArray, List.set_cons_zero, List.set_cons_succ]
          refine wpAnyH_ready (rs := [4, 5]) (by kernel_rfl) (by simp) ?_
          refine AllReadyH.cons (o := ⟨some 5, _, _, _, _, _⟩) rfl (fun K hK => ?_) (AllReadyH.cons (o := ⟨some 6, _, _, _, _, _⟩) rfl (fun K hK => ?_) AllReadyH.nil)
          · skip
            go_simp
            refine hK.out _ _ (HS2.out.alloc HS2.out.size (.cells #[.int .i64 0, .int .i64 0, .slice none 0 0] 24)) (fun _ => ?_)
            clear hK K
            try simp only [Act.put, List.setIfInBounds_toArray, List.set_cons_zero, List.set_cons_succ]
            obtain ⟨V3, hV⟩ : ∃ V, V2.alloc (.cells #[.int .i64 0, .int .i64 0, .slice none 0 0] 24) = V := ⟨_, rfl⟩
            rw [hV]
            have HK2 := Lib.hid (show Below V2.heap.size V2 V3 by rw [← hV]; exact (Below.refl _ _).alloc (Nat.le_refl _) _)
            have HZ5 := Lib.hid (show V3.heap[V2.heap.size]? = some (.cells #[.int .i64 0, .int .i64 0, .slice none 0 0] 24) by rw [← hV]; exact World.alloc_heap_new _ _)
            have HL5 := Lib.hid (show V2.heap.size < V3.heap.size by rw [← hV, World.size_alloc]; omega)
            have HS3 := Lib.hid (Go.RowKit.Below.tr HS2.out HK2.out (Nat.le_refl _))
            clear hV
            refine wpAnyH_ready (rs := [5]) (by kernel_rfl) (by simp) ?_
            refine AllReadyH.cons (o := ⟨some 6, _, _, _, _, _⟩) rfl (fun K hK => ?_) AllReadyH.nil
            go_simp
            refine hK.out _ _ (HS3.out.alloc HS3.out.size (.cells #[.int .i64 0, .int .i64 0, .slice none 0 0] 24)) (fun _ => ?_)
            clear hK K
            try simp only [Act.put, List.setIfInBounds_toArray, List.set_cons_zero, List.set_cons_succ]
            obtain ⟨V4, hV⟩ : ∃ V, V3.alloc (.cells #[.int .i64 0, .int .i64 0, .slice none 0 0] 24) = V := ⟨_, rfl⟩
            rw [hV]
            have HK3 := Lib.hid (show Below V3.heap.size V3 V4 by rw [← hV]; exact (Below.refl _ _).alloc (Nat.le_refl _) _)
            have HZ6 := Lib.hid (show V4.heap[V3.heap.size]? = some (.cells #[.int .i64 0, .int .i64 0, .slice none 0 0] 24) by rw [← hV]; exact World.alloc_heap_new _ _)
            have HL6 := Lib.hid (show V3.heap.size < V4.heap.size by rw [← hV, World.size_alloc]; omega)
            have HS4 := Lib.hid (Go.RowKit.Below.tr HS3.out HK3.out (Nat.le_refl _))
            clear hV
            have z5 := (HK3.out.block _ HL5.out).trans HZ5.out
            have z6 := ((Below.refl V4.heap.size V4).block _ HL6.out).trans HZ6.out
            have hput := fun F hF => put_two (F := F) (hi5 := V1.heap.size) (hi6 := V2.heap.size) (lo5 := V0.heap.size) (lo6 := V1.heap.size) BX3.out.says BU3.out.says z5 z6 (HT5.out.below (Go.RowKit.Below.tr (Go.RowKit.Below.tr HK1.out HK2.out (Nat.le_refl _)) HK3.out (Nat.le_refl _)) (fun _ h => h.2) (fun _ h => h)) (HT6.out.below (Go.RowKit.Below.tr HK2.out HK3.out (Nat.le_refl _)) (fun _ h => h.2) (fun _ h => h)) HS4.out (Nat.le_trans HS0.out.size (by have := HK0.out.size; have := HK1.out.size; have := HK2.out.size; have := HK3.out.size; have := HL5.out; have := HL6.out; omega)) (Nat.le_trans HS0.out.size (by have := HK0.out.size; have := HK1.out.size; have := HK2.out.size; have := HK3.out.size; have := HL5.out; have := HL6.out; omega)) (by have := HK0.out.size; have := HK1.out.size; have := HK2.out.size; have := HK3.out.size; have := HL5.out; have := HL6.out; omega) (by have := HK0.out.size; have := HK1.out.size; have := HK2.out.size; have := HK3.out.size; have := HL5.out; have := HL6.out; omega) (by have := HK0.out.size; have := HK1.out.size; have := HK2.out.size; have := HK3.out.size; have := HL5.out; have := HL6.out; omega) (by have := HK0.out.size; have := HK1.out.size; have := HK2.out.size; have := HK3.out.size; have := HL5.out; have := HL6.out; omega) (by have := HK0.out.size; have := HK1.out.size; have := HK2.out.size; have := HK3.out.size; have := HL5.out; have := HL6.out; omega) (by have := HK0.out.size; have := HK1.out.size; have := HK2.out.size; have := HK3.out.size; have := HL5.out; have := HL6.out; omega) (by have := HK0.out.size; have := HK1.out.size; have := HK2.out.size; have := HK3.out.size; have := HL5.out; have := HL6.out; omega) hF
            have HPUT := Lib.hid hput
            clear hput
            obtain ⟨z50, z51, z52, f50, f51, f52⟩ := zero_three z5
            refine wpAnyH_ready (rs := [6]) (by kernel_rfl) (by simp) ?_
            refine AllReadyH.cons (o := ⟨none, _, _, _, _, _⟩) rfl (fun K hK => ?_) AllReadyH.nil
            go_simp
            refine hK.out _ _ (put_half HS4.out (Nat.le_trans HS0.out.size (by have := HK0.out.size; have := HK1.out.size; have := HK2.out.size; have := HK3.out.size; have := HL5.out; have := HL6.out; omega))) (fun _ => ?_)
            clear hK K
            try simp only [Act.put, List.setIfInBounds_toArray, List.set_cons_zero, List.set_cons_succ]
            clear z50 z51 z52 f50 f51 f52
            have y6 := (set3_other (V := V4) (b := V2.heap.size) (v0 := .int .i64 k0) (v1 := .int .i64 n0) (v2 := .slice a5 m0 q5) (k := V3.heap.size) (by have := HK0.out.size; have := HK1.out.size; have := HK2.out.size; have := HK3.out.size; have := HL5.out; have := HL6.out; omega)).trans z6
            obtain ⟨V5, hV5⟩ : ∃ V, ((V4.setCell ⟨V2.heap.size, 0, none⟩ (.int .i64 k0)).setCell ⟨V2.heap.size, 1, none⟩ (.int .i64 n0)).setCell ⟨V2.heap.size, 2, none⟩ (.slice a5 m0 q5) = V := ⟨_, rfl⟩
            rw [hV5] at y6 ⊢
            have HPU2 := Lib.hid (HPUT.out _ (by rw [hV5]))
            obtain ⟨z60, z61, z62, f60, f61, f62⟩ := zero_three y6
            refine wpAnyH_ready (rs := [7]) (by kernel_rfl) (by simp) ?_
            refine AllReadyH.cons (o := ⟨none, _, _, _, _, _⟩) rfl (fun K hK => ?_) AllReadyH.nil
            go_simp
            refine hK.out _ _ HPU2.out.2.2 (fun _ => ?_)
            clear hK K
            try simp only [Act.put, List.setIfInBounds_toArray, List.set_cons_zero, List.set_cons_succ]
            refine wpAnyH_done (by kernel_rfl) ?_ _
            go_wp2_with fail
            go_meet
            case rel => exact ⟨_, _, _, _, _, _, rfl, rfl, HPU2.out.1, HPU2.out.2.1, HPU2.out.2.2⟩
          · skip
            go_simp
            refine hK.out _ _ (HS2.out.alloc HS2.out.size (.cells #[.int .i64 0, .int .i64 0, .slice none 0 0] 24)) (fun _ => ?_)
            clear hK K
            try simp only [Act.put, List.setIfInBounds_toArray, List.set_cons_zero, List.set_cons_succ]
            obtain ⟨V3, hV⟩ : ∃ V, V2.alloc (.cells #[.int .i64 0, .int .i64 0, .slice none 0 0] 24) = V := ⟨_, rfl⟩
            rw [hV]
            have HK2 := Lib.hid (show Below V2.heap.size V2 V3 by rw [← hV]; exact (Below.refl _ _).alloc (Nat.le_refl _) _)
            have HZ6 := Lib.hid (show V3.heap[V2.heap.size]? = some (.cells #[.int .i64 0, .int .i64 0, .slice none 0 0] 24) by rw [← hV]; exact World.alloc_heap_new _ _)
            have HL6 := Lib.hid (show V2.heap.size < V3.heap.size by rw [← hV, World.size_alloc]; omega)
            have HS3 := Lib.hid (Go.RowKit.Below.tr HS2.out HK2.out (Nat.le_refl _))
            clear hV
            refine wpAnyH_ready (rs := [4]) (by kernel_rfl) (by simp) ?_
            refine AllReadyH.cons (o := ⟨some 5, _, _, _, _, _⟩) rfl (fun K hK => ?_) AllReadyH.nil
            go_simp
            refine hK.out _ _ (HS3.out.alloc HS3.out.size (.cells #[.int .i64 0, .int .i64 0, .slice none 0 0] 24)) (fun _ => ?_)
            clear hK K
            try simp only [Act.put, List.setIfInBounds_toArray, List.set_cons_zero, List.set_cons_succ]
            obtain ⟨V4, hV⟩ : ∃ V, V3.alloc (.cells #[.int .i64 0, .int .i64 0, .slice none 0 0] 24) = V := ⟨_, rfl⟩
            rw [hV]
            have HK3 := Lib.hid (show Below V3.heap.size V3 V4 by rw [← hV]; exact (Below.refl _ _).alloc (Nat.le_refl _) _)
            have HZ5 := Lib.hid (show V4.heap[V3.heap.size]? = some (.cells #[.int .i64 0, .int .i64 0, .slice none 0 0] 24) by rw [← hV]; exact World.alloc_heap_new _ _)
            have HL5 := Lib.hid (show V3.heap.size < V4.heap.size by rw [← hV, World.size_alloc]; omega)
            have HS4 := Lib.hid (Go.RowKit.Below.tr HS3.out HK3.out (Nat.le_refl _))
            clear hV
            have z5 := ((Below.refl V4.heap.size V4).block _ HL5.out).trans HZ5.out
            have z6 := (HK3.out.block _ HL6.out).trans HZ6.out
            have hput := fun F hF => put_two (F := F) (hi5 := V1.heap.size) (hi6 := V2.heap.size) (lo5 := V0.heap.size) (lo6 := V1.heap.size) BX3.out.says BU3.out.says z5 z6 (HT5.out.below (Go.RowKit.Below.tr (Go.RowKit.Below.tr HK1.out HK2.out (Nat.le_refl _)) HK3.out (Nat.le_refl _)) (fun _ h => h.2) (fun _ h => h)) (HT6.out.below (Go.RowKit.Below.tr HK2.out HK3.out (Nat.le_refl _)) (fun _ h => h.2) (fun _ h => h)) HS4.out (Nat.le_trans HS0.out.size (by have := HK0.out.size; have := HK1.out.size; have := HK2.out.size; have := HK3.out.size; have := HL5.out; have := HL6.out; omega)) (Nat.le_trans HS0.out.size (by have := HK0.out.size; have := HK1.out.size; have := HK2.out.size; have := HK3.out.size; have := HL5.out; have := HL6.out; omega)) (by have := HK0.out.size; have := HK1.out.size; have := HK2.out.size; have := HK3.out.size; have := HL5.out; have := HL6.out; omega) (by have := HK0.out.size; have := HK1.out.size; have := HK2.out.size; have := HK3.out.size; have := HL5.out; have := HL6.out; omega) (by have := HK0.out.size; have := HK1.out.size; have := HK2.out.size; have := HK3.out.size; have := HL5.out; have := HL6.out; omega) (by have := HK0.out.size; have := HK1.out.size; have := HK2.out.size; have := HK3.out.size; have := HL5.out; have := HL6.out; omega) (by have := HK0.out.size; have := HK1.out.size; have := HK2.out.size; have := HK3.out.size; have := HL5.out; have := HL6.out; omega) (by have := HK0.out.size; have := HK1.out.size; have := HK2.out.size; have := HK3.out.size; have := HL5.out; have := HL6.out; omega) (by have := HK0.out.size; have := HK1.out.size; have := HK2.out.size; have := HK3.out.size; have := HL5.out; have := HL6.out; omega) hF
            have HPUT := Lib.hid hput
            clear hput
            obtain ⟨z50, z51, z52, f50, f51, f52⟩ := zero_three z5
            refine wpAnyH_ready (rs := [6]) (by kernel_rfl) (by simp) ?_
            refine AllReadyH.cons (o := ⟨none, _, _, _, _, _⟩) rfl (fun K hK => ?_) AllReadyH.nil
            go_simp
            refine hK.out _ _ (put_half HS4.out (Nat.le_trans HS0.out.size (by have := HK0.out.size; have := HK1.out.size; have := HK2.out.size; have := HK3.out.size; have := HL5.out; have := HL6.out; omega))) (fun _ => ?_)
            clear hK K
            try simp only [Act.put, List.setIfInBounds_toArray, List.set_cons_zero, List.set_cons_succ]
            clear z50 z51 z52 f50 f51 f52
            have y6 := (set3_other (V := V4) (b := V3.heap.size) (v0 := .int .i64 k0) (v1 := .int .i64 n0) (v2 := .slice a5 m0 q5) (k := V2.heap.size) (by have := HK0.out.size; have := HK1.out.size; have := HK2.out.size; have := HK3.out.size; have := HL5.out; have := HL6.out; omega)).trans z6
            obtain ⟨V5, hV5⟩ : ∃ V, ((V4.setCell ⟨V3.heap.size, 0, none⟩ (.int .i64 k0)).setCell ⟨V3.heap.size, 1, none⟩ (.int .i64 n0)).setCell ⟨V3.heap.size, 2, none⟩ (.slice a5 m0 q5) = V := ⟨_, rfl⟩
            rw [hV5] at y6 ⊢
            have HPU2 := Lib.hid (HPUT.out _ (by rw [hV5]))
            obtain ⟨z60, z61, z62, f60, f61, f62⟩ := zero_three y6
            refine wpAnyH_ready (rs := [7]) (by kernel_rfl) (by simp) ?_
            refine AllReadyH.cons (o := ⟨none, _, _, _, _, _⟩) rfl (fun K hK => ?_) AllReadyH.nil
            go_simp
            refine hK.out _ _ HPU2.out.2.2 (fun _ => ?_)
            clear hK K
            try simp only [Act.put, List.setIfInBounds_toArray, List.set_cons_zero, List.set_cons_succ]
            refine wpAnyH_done (by kernel_rfl) ?_ _
            go_wp2_with fail
            go_meet
            case rel => exact ⟨_, _, _, _, _, _, rfl, rfl, HPU2.out.1, HPU2.out.2.1, HPU2.out.2.2⟩
        · skip
          go_simp
          refine hK.out _ _ (HS1.out.alloc HS1.out.size (.cells #[.int .i64 0, .int .i64 0, .slice none 0 0] 24)) (fun _ => ?_)
          clear hK K
          try simp only [Act.put, List.setIfInBounds_toArray, List.set_cons_zero, List.set_cons_succ]
          obtain ⟨V2, hV⟩ : ∃ V, V1.alloc (.cells #[.int .i64 0, .int .i64 0, .slice none 0 0] 24) = V := ⟨_, rfl⟩
          rw [hV]
          have HK1 := Lib.hid (show Below V1.heap.size V1 V2 by rw [← hV]; exact (Below.refl _ _).alloc (Nat.le_refl _) _)
          have HZ5 := Lib.hid (show V2.heap[V1.heap.size]? = some (.cells #[.int .i64 0, .int .i64 0, .slice none 0 0] 24) by rw [← hV]; exact World.alloc_heap_new _ _)
          have HL5 := Lib.hid (show V1.heap.size < V2.heap.size by rw [← hV, World.size_alloc]; omega)
          have HS2 := Lib.hid (Go.RowKit.Below.tr HS1.out HK1.out (Nat.le_refl _))
          clear hV
          refine wpAnyH_ready (rs := [3, 5]) (by kernel_rfl) (by simp) ?_
          refine AllReadyH.cons (o := ⟨some 17, _, _, _, _, _⟩) rfl (fun K hK => ?_) (AllReadyH.cons (o := ⟨some 6, _, _, _, _, _⟩) rfl (fun K hK => ?_) AllReadyH.nil)
          · skip
            go_simp
            refine (HCU.out _ HS2.out).mono ?_
            rintro e V3 ⟨a6, q6, rfl, ht, hb⟩
            have HK2 := Lib.hid hb
            have HS3 := Lib.hid (Go.RowKit.Below.tr HS2.out hb (Nat.le_refl _))
            have HT6 := Lib.hid ht
            clear hb ht
            dsimp only
            refine hK.out _ _ HS3.out (fun _ => ?_)
            clear hK K
            try simp only [Act.put, List.setIfInBounds_toArray, List.set_cons_zero, List.set_cons_succ]
            refine wpAnyH_ready (rs := [5]) (by kernel_rfl) (by simp) ?_
            refine AllReadyH.cons (o := ⟨some 6, _, _, _, _, _⟩) rfl (fun K hK => ?_) AllReadyH.nil
            go_simp
            refine hK.out _ _ (HS3.out.alloc HS3.out.size (.cells #[.int .i64 0, .int .i64 0, .slice none 0 0] 24)) (fun _ => ?_)
            clear hK K
            try simp only [Act.put, List.setIfInBounds_toArray, List.set_cons_zero, List.set_cons_succ]
            obtain ⟨V4, hV⟩ : ∃ V, V3.alloc (.cells #[.int .i64 0, .int .i64 0, .slice none 0 0] 24) = V := ⟨_, rfl⟩
            rw [hV]
            have HK3 := Lib.hid (show Below V3.heap.size V3 V4 by rw [← hV]; exact (Below.refl _ _).alloc (Nat.le_refl _) _)
            have HZ6 := Lib.hid (show V4.heap[V3.heap.size]? = some (.cells #[.int .i64 0, .int .i64 0, .slice none 0 0] 24) by rw [← hV]; exact World.alloc_heap_new _ _)
            have HL6 := Lib.hid (show V3.heap.size < V4.heap.size by rw [← hV, World.size_alloc]; omega)
            have HS4 := Lib.hid (Go.RowKit.Below.tr HS3.out HK3.out (Nat.le_refl _))
            clear hV
            have z5 := ((Go.RowKit.Below.tr HK2.out HK3.out (Nat.le_refl _)).block _ HL5.out).trans HZ5.out
            have z6 := ((Below.refl V4.heap.size V4).block _ HL6.out).trans HZ6.out
            have hput := fun F hF => put_two (F := F) (hi5 := V1.heap.size) (hi6 := V3.heap.size) (lo5 := V0.heap.size) (lo6 := V2.heap.size) BX3.out.says BU3.out.says z5 z6 (HT5.out.below (Go.RowKit.Below.tr (Go.RowKit.Below.tr HK1.out HK2.out (Nat.le_refl _)) HK3.out (Nat.le_refl _)) (fun _ h => h.2) (fun _ h => h)) (HT6.out.below HK3.out (fun _ h => h.2) (fun _ h => h)) HS4.out (Nat.le_trans HS0.out.size (by have := HK0.out.size; have := HK1.out.size; have := HK2.out.size; have := HK3.out.size; have := HL5.out; have := HL6.out; omega)) (Nat.le_trans HS0.out.size (by have := HK0.out.size; have := HK1.out.size; have := HK2.out.size; have := HK3.out.size; have := HL5.out; have := HL6.out; omega)) (by have := HK0.out.size; have := HK1.out.size; have := HK2.out.size; have := HK3.out.size; have := HL5.out; have := HL6.out; omega) (by have := HK0.out.size; have := HK1.out.size; have := HK2.out.size; have := HK3.out.size; have := HL5.out; have := HL6.out; omega) (by have := HK0.out.size; have := HK1.out.size; have := HK2.out.size; have := HK3.out.size; have := HL5.out; have := HL6.out; omega) (by have := HK0.out.size; have := HK1.out.size; have := HK2.out.size; have := HK3.out.size; have := HL5.out; have := HL6.out; omega) (by have := HK0.out.size; have := HK1.out.size; have := HK2.out.size; have := HK3.out.size; have := HL5.out; have := HL6.out; omega) (by have := HK0.out.size; have := HK1.out.size; have := HK2.out.size; have := HK3.out.size; have := HL5.out; have := HL6.out; omega) (by have := HK0.out.size; have := HK1.out.size; have := HK2.out.size; have := HK3.out.size; have := HL5.out; have := HL6.out; omega) hF
            have HPUT := Lib.hid hput
            clear hput
            obtain ⟨z50, z51, z52, f50, f51, f52⟩ := zero_three z5
            refine wpAnyH_ready (rs := [6]) (by kernel_rfl) (by simp) ?_
            refine AllReadyH.cons (o := ⟨none, _, _, _, _, _⟩) rfl (fun K hK => ?_) AllReadyH.nil
            go_simp
            refine hK.out _ _ (put_half HS4.out (Nat.le_trans HS0.out.size (by have := HK0.out.size; have := HK1.out.size; have := HK2.out.size; have := HK3.out.size; have := HL5.out; have := HL6.out; omega))) (fun _ => ?_)
            clear hK K
            try simp only [Act.put, List.setIfInBounds_toArray, List.set_cons_zero, List.set_cons_succ]
            clear z50 z51 z52 f50 f51 f52
            have y6 := (set3_other (V := V4) (b := V1.heap.size) (v0 := .int .i64 k0) (v1 := .int .i64 n0) (v2 := .slice a5 m0 q5) (k := V3.heap.size) (by have := HK0.out.size; have := HK1.out.size; have := HK2.out.size; have := HK3.out.size; have := HL5.out; have := HL6.out; omega)).trans z6
            obtain ⟨V5, hV5⟩ : ∃ V, ((V4.setCell ⟨V1.heap.size, 0, none⟩ (.int .i64 k0)).setCell ⟨V1.heap.size, 1, none⟩ (.int .i64 n0)).setCell ⟨V1.heap.size, 2, none⟩ (.slice a5 m0 q5) = V := ⟨_, rfl⟩
            rw [hV5] at y6 ⊢
            have HPU2 := Lib.hid (HPUT.out _ (by rw [hV5]))
            obtain ⟨z60, z61, z62, f60, f61, f62⟩ := zero_three y6
            refine wpAnyH_ready (rs := [7]) (by kernel_rfl) (by simp) ?_
            refine AllReadyH.cons (o := ⟨none, _, _, _, _, _⟩) rfl (fun K hK => ?_) AllReadyH.nil
            go_simp
            refine hK.out _ _ HPU2.out.2.2 (fun _ => ?_)
            clear hK K
            try simp only [Act.put, List.setIfInBounds_toArray, List.set_cons_zero, List.set_cons_succ]
            refine wpAnyH_done (by kernel_rfl) ?_ _
            go_wp2_with fail
            go_meet
            case rel => exact ⟨_, _, _, _, _, _, rfl, rfl, HPU2.out.1, HPU2.out.2.1, HPU2.out.2.2⟩
          · skip
            go_simp
            refine hK.out _ _ (HS2.out.alloc HS2.out.size (.cells #[.int .i64 0, .int .i64 0, .slice none 0 0] 24)) (fun _ => ?_)
            clear hK K
            try simp only [Act.put, List.setIfInBounds_toArray, List.set_cons_zero, List.set_cons_succ]
            obtain ⟨V3, hV⟩ : ∃ V, V2.alloc (.cells #[.int .i64 0, .int .i64 0, .slice none 0 0] 24) = V := ⟨_, rfl⟩
            rw [hV]
            have HK2 := Lib.hid (show Below V2.heap.size V2 V3 by rw [← hV]; exact (Below.refl _ _).alloc (Nat.le_refl _) _)
            have HZ6 := Lib.hid (show V3.heap[V2.heap.size]? = some (.cells #[.int .i64 0, .int .i64 0, .slice none 0 0] 24) by rw [← hV]; exact World.alloc_heap_new _ _)
            have HL6 := Lib.hid (show V2.heap.size < V3.heap.size by rw [← hV, World.size_alloc]; omega)
            have HS3 := Lib.hid (Go.RowKit.Below.tr HS2.out HK2.out (Nat.le_refl _))
            clear hV
            refine wpAnyH_ready (rs := [3]) (by kernel_rfl) (by simp) ?_
            refine AllReadyH.cons (o := ⟨some 17, _, _, _, _, _⟩) rfl (fun K hK => ?_) AllReadyH.nil
            go_simp
            refine (HCU.out _ HS3.out).mono ?_
            rintro e V4 ⟨a6, q6, rfl, ht, hb⟩
            have HK3 := Lib.hid hb
            have HS4 := Lib.hid (Go.RowKit.Below.tr HS3.out hb (Nat.le_refl _))
            have HT6 := Lib.hid ht
            clear hb ht
            dsimp only
            refine hK.out _ _ HS4.out (fun _ => ?_)
            clear hK K
            try simp only [Act.put, List.setIfInBounds_toArray, List.set_cons_zero, List.set_cons_succ]
            have z5 := ((Go.RowKit.Below.tr HK2.out HK3.out (Nat.le_refl _)).block _ HL5.out).trans HZ5.out
            have z6 := (HK3.out.block _ HL6.out).trans HZ6.out
            have hput := fun F hF => put_two (F := F) (hi5 := V1.heap.size) (hi6 := V4.heap.size) (lo5 := V0.heap.size) (lo6 := V3.heap.size) BX3.out.says BU3.out.says z5 z6 (HT5.out.below (Go.RowKit.Below.tr (Go.RowKit.Below.tr HK1.out HK2.out (Nat.le_refl _)) HK3.out (Nat.le_refl _)) (fun _ h => h.2) (fun _ h => h)) (HT6.out.below (Below.refl V4.heap.size V4) (fun _ h => h.2) (fun _ h => h)) HS4.out (Nat.le_trans HS0.out.size (by have := HK0.out.size; have := HK1.out.size; have := HK2.out.size; have := HK3.out.size; have := HL5.out; have := HL6.out; omega)) (Nat.le_trans HS0.out.size (by have := HK0.out.size; have := HK1.out.size; have := HK2.out.size; have := HK3.out.size; have := HL5.out; have := HL6.out; omega)) (by have := HK0.out.size; have := HK1.out.size; have := HK2.out.size; have := HK3.out.size; have := HL5.out; have := HL6.out; omega) (by have := HK0.out.size; have := HK1.out.size; have := HK2.out.size; have := HK3.out.size; have := HL5.out; have := HL6.out; omega) (by have := HK0.out.size; have := HK1.out.size; have := HK2.out.size; have := HK3.out.size; have := HL5.out; have := HL6.out; omega) (by have := HK0.out.size; have := HK1.out.size; have := HK2.out.size; have := HK3.out.size; have := HL5.out; have := HL6.out; omega) (by have := HK0.out.size; have := HK1.out.size; have := HK2.out.size; have := HK3.out.size; have := HL5.out; have := HL6.out; omega) (by have := HK0.out.size; have := HK1.out.size; have := HK2.out.size; have := HK3.out.size; have := HL5.out; have := HL6.out; omega) (by have := HK0.out.size; have := HK1.out.size; have := HK2.out.size; have := HK3.out.size; have := HL5.out; have := HL6.out; omega) hF
            have HPUT := Lib.hid hput
            clear hput
            obtain ⟨z50, z51, z52, f50, f51, f52⟩ := zero_three z5
            refine wpAnyH_ready (rs := [6]) (by kernel_rfl) (by simp) ?_
            refine AllReadyH.cons (o := ⟨none, _, _, _, _, _⟩) rfl (fun K hK => ?_) AllReadyH.nil
            go_simp
            refine hK.out _ _ (put_half HS4.out (Nat.le_trans HS0.out.size (by have := HK0.out.size; have := HK1.out.size; have := HK2.out.size; have := HK3.out.size; have := HL5.out; have := HL6.out; omega))) (fun _ => ?_)
            clear hK K
            try simp only [Act.put, List.setIfInBounds_toArray, List.set_cons_zero, List.set_cons_succ]
            clear z50 z51 z52 f50 f51 f52
            have y6 := (set3_other (V := V4) (b := V1.heap.size) (v0 := .int .i64 k0) (v1 := .int .i64 n0) (v2 := .slice a5 m0 q5) (k := V2.heap.size) (by have := HK0.out.size; have := HK1.out.size; have := HK2.out.size; have := HK3.out.size; have := HL5.out; have := HL6.out; omega)).trans z6
            obtain ⟨V5, hV5⟩ : ∃ V, ((V4.setCell ⟨V1.heap.size, 0, none⟩ (.int .i64 k0)).setCell ⟨V1.heap.size, 1, none⟩ (.int .i64 n0)).setCell ⟨V1.heap.size, 2, none⟩ (.slice a5 m0 q5) = V := ⟨_, rfl⟩
            rw [hV5] at y6 ⊢
            have HPU2 := Lib.hid (HPUT.out _ (by rw [hV5]))
            obtain ⟨z60, z61, z62, f60, f61, f62⟩ := zero_three y6
            refine wpAnyH_ready (rs := [7]) (by kernel_rfl) (by simp) ?_
            refine AllReadyH.cons (o := ⟨none, _, _, _, _, _⟩) rfl (fun K hK => ?_) AllReadyH.nil
            go_simp
            refine hK.out _ _ HPU2.out.2.2 (fun _ => ?_)
            clear hK K
            try simp only [Act.put, List.setIfInBounds_toArray, List.set_cons_zero, List.set_cons_succ]
            refine wpAnyH_done (by kernel_rfl) ?_ _
            go_wp2_with fail
            go_meet
            case rel => exact ⟨_, _, _, _, _, _, rfl, rfl, HPU2.out.1, HPU2.out.2.1, HPU2.out.2.2⟩
        · skip
          go_simp
          refine hK.out _ _ (HS1.out.alloc HS1.out.size (.cells #[.int .i64 0, .int .i64 0, .slice none 0 0] 24)) (fun _ => ?_)
          clear hK K
          try simp only [Act.put, List.setIfInBounds_toArray, List.set_cons_zero, List.set_cons_succ]
          obtain ⟨V2, hV⟩ : ∃ V, V1.alloc (.cells #[.int .i64 0, .int .i64 0, .slice none 0 0] 24) = V := ⟨_, rfl⟩
          rw [hV]
          have HK1 := Lib.hid (show Below V1.heap.size V1 V2 by rw [← hV]; exact (Below.refl _ _).alloc (Nat.le_refl _) _)
          have HZ6 := Lib.hid (show V2.heap[V1.heap.size]? = some (.cells #[.int .i64 0, .int .i64 0, .slice none 0 0] 24) by rw [← hV]; exact World.alloc_heap_new _ _)
          have HL6 := Lib.hid (show V1.heap.size < V2.heap.size by rw [← hV, World.size_alloc]; omega)
          have HS2 := Lib.hid (Go.RowKit.Below.tr HS1.out HK1.out (Nat.le_refl _))
          clear hV
          refine wpAnyH_ready (rs := [3, 4]) (by kernel_rfl) (by simp) ?_
          refine AllReadyH.cons (o := ⟨some 17, _, _, _, _, _⟩) rfl (fun K hK => ?_) (AllReadyH.cons (o := ⟨some 5, _, _, _, _, _⟩) rfl (fun K hK => ?_) AllReadyH.nil)
          · skip
            go_simp
            refine (HCU.out _ HS2.out).mono ?_
            rintro e V3 ⟨a6, q6, rfl, ht, hb⟩
            have HK2 := Lib.hid hb
            have HS3 := Lib.hid (Go.RowKit.Below.tr HS2.out hb (Nat.le_refl _))
            have HT6 := Lib.hid ht
            clear hb ht
            dsimp only
            refine hK.out _ _ HS3.out (fun _ => ?_)
            clear hK K
            try simp only [Act.put, List.setIfInBounds_toArray, List.set_cons_zero, List.set_cons_succ]
            refine wpAnyH_ready (rs := [4]) (by kernel_rfl) (by simp) ?_
            refine AllReadyH.cons (o := ⟨some 5, _, _, _, _, _⟩) rfl (fun K hK => ?_) AllReadyH.nil
            go_simp
            refine hK.out _ _ (HS3.out.alloc HS3.out.size (.cells #[.int .i64 0, .int .i64 0, .slice none 0 0] 24)) (fun _ => ?_)
            clear hK K
            try simp only [Act.put, List.setIfInBounds_toArray, List.set_cons_zero, List.set_cons_succ]
            obtain ⟨V4, hV⟩ : ∃ V, V3.alloc (.cells #[.int .i64 0, .int .i64 0, .slice none 0 0] 24) = V := ⟨_, rfl⟩
            rw [hV]
            have HK3 := Lib.hid (show Below V3.heap.size V3 V4 by rw [← hV]; exact (Below.refl _ _).alloc (Nat.le_refl _) _)
            have HZ5 := Lib.hid (show V4.heap[V3.heap.size]? = some (.cells #[.int .i64 0, .int .i64 0, .slice none 0 0] 24) by rw [← hV]; exact World.alloc_heap_new _ _)
            have HL5 := Lib.hid (show V3.heap.size < V4.heap.size by rw [← hV, World.size_alloc]; omega)
            have HS4 := Lib.hid (Go.RowKit.Below.tr HS3.out HK3.out (Nat.le_refl _))
            clear hV
            have z5 := ((Below.refl V4.heap.size V4).block _ HL5.out).trans HZ5.out
            have z6 := ((Go.RowKit.Below.tr HK2.out HK3.out (Nat.le_refl _)).block _ HL6.out).trans HZ6.out
            have hput := fun F hF => put_two (F := F) (hi5 := V1.heap.size) (hi6 := V3.heap.size) (lo5 := V0.heap.size) (lo6 := V2.heap.size) BX3.out.says BU3.out.says z5 z6 (HT5.out.below (Go.RowKit.Below.tr (Go.RowKit.Below.tr HK1.out HK2.out (Nat.le_refl _)) HK3.out (Nat.le_refl _)) (fun _ h => h.2) (fun _ h => h)) (HT6.out.below HK3.out (fun _ h => h.2) (fun _ h => h)) HS4.out (Nat.le_trans HS0.out.size (by have := HK0.out.size; have := HK1.out.size; have := HK2.out.size; have := HK3.out.size; have := HL5.out; have := HL6.out; omega)) (Nat.le_trans HS0.out.size (by have := HK0.out.size; have := HK1.out.size; have := HK2.out.size; have := HK3.out.size; have := HL5.out; have := HL6.out; omega)) (by have := HK0.out.size; have := HK1.out.size; have := HK2.out.size; have := HK3.out.size; have := HL5.out; have := HL6.out; omega) (by have := HK0.out.size; have := HK1.out.size; have := HK2.out.size; have := HK3.out.size; have := HL5.out; have := HL6.out; omega) (by have := HK0.out.size; have := HK1.out.size; have := HK2.out.size; have := HK3.out.size; have := HL5.out; have := HL6.out; omega) (by have := HK0.out.size; have := HK1.out.size; have := HK2.out.size; have := HK3.out.size; have := HL5.out; have := HL6.out; omega) (by have := HK0.out.size; have := HK1.out.size; have := HK2.out.size; have := HK3.out.size; have := HL5.out; have := HL6.out; omega) (by have := HK0.out.size; have := HK1.out.size; have := HK2.out.size; have := HK3.out.size; have := HL5.out; have := HL6.out; omega) (by have := HK0.out.size; have := HK1.out.size; have := HK2.out.size; have := HK3.out.size; have := HL5.out; have := HL6.out; omega) hF
            have HPUT := Lib.hid hput
            clear hput
            obtain ⟨z50, z51, z52, f50, f51, f52⟩ := zero_three z5
            refine wpAnyH_ready (rs := [6]) (by kernel_rfl) (by simp) ?_
            refine AllReadyH.cons (o := ⟨none, _, _, _, _, _⟩) rfl (fun K hK => ?_) AllReadyH.nil
            go_simp
            refine hK.out _ _ (put_half HS4.out (Nat.le_trans HS0.out.size (by have := HK0.out.size; have := HK1.out.size; have := HK2.out.size; have := HK3.out.size; have := HL5.out; have := HL6.out; omega))) (fun _ => ?_)
            clear hK K
            try simp only [Act.put, List.setIfInBounds_toArray, List.set_cons_zero, List.set_cons_succ]
            clear z50 z51 z52 f50 f51 f52
            have y6 := (set3_other (V := V4) (b := V3.heap.size) (v0 := .int .i64 k0) (v1 := .int .i64 n0) (v2 := .slice a5 m0 q5) (k := V1.heap.size) (by have := HK0.out.size; have := HK1.out.size; have := HK2.out.size; have := HK3.out.size; have := HL5.out; have := HL6.out; omega)).trans z6
            obtain ⟨V5, hV5⟩ : ∃ V, ((V4.setCell ⟨V3.heap.size, 0, none⟩ (.int .i64 k0)).setCell ⟨V3.heap.size, 1, none⟩ (.int .i64 n0)).setCell ⟨V3.heap.size, 2, none⟩ (.slice a5 m0 q5) = V := ⟨_, rfl⟩
            rw [hV5] at y6 ⊢
            have HPU2 := Lib.hid (HPUT.out _ (by rw [hV5]))
            obtain ⟨z60, z61, z62, f60, f61, f62⟩ := zero_three y6
            refine wpAnyH_ready (rs := [7]) (by kernel_rfl) (by simp) ?_
            refine AllReadyH.cons (o := ⟨none, _, _, _, _, _⟩) rfl (fun K hK => ?_) AllReadyH.nil
            go_simp
            refine hK.out _ _ HPU2.out.2.2 (fun _ => ?_)
            clear hK K
            try simp only [Act.put, List.setIfInBounds_toArray, List.set_cons_zero, List.set_cons_succ]
            refine wpAnyH_done (by kernel_rfl) ?_ _
            go_wp2_with fail
            go_meet
            case rel => exact ⟨_, _, _, _, _, _, rfl, rfl, HPU2.out.1, HPU2.out.2.1, HPU2.out.2.2⟩
          · skip
            go_simp
            refine hK.out _ _ (HS2.out.alloc HS2.out.size (.cells #[.int .i64 0, .int .i64 0, .slice none 0 0] 24)) (fun _ => ?_)
            clear hK K
            try simp only [Act.put, List.setIfInBounds_toArray, List.set_cons_zero, List.set_cons_succ]
            obtain ⟨V3, hV⟩ : ∃ V, V2.alloc (.cells #[.int .i64 0, .int .i64 0, .slice none 0 0] 24) = V := ⟨_, rfl⟩
            rw [hV]
            have HK2 := Lib.hid (show Below V2.heap.size V2 V3 by rw [← hV]; exact (Below.refl _ _).alloc (Nat.le_refl _) _)
            have HZ5 := Lib.hid (show V3.heap[V2.heap.size]? = some (.cells #[.int .i64 0, .int .i64 0, .slice none 0 0] 24) by rw [← hV]; exact World.alloc_heap_new _ _)
            have HL5 := Lib.hid (show V2.heap.size < V3.heap.size by rw [← hV, World.size_alloc]; omega)
            have HS3 := Lib.hid (Go.RowKit.Below.tr HS2.out HK2.out (Nat.le_refl _))
            clear hV
            refine wpAnyH_ready (rs := [3]) (by kernel_rfl) (by simp) ?_
            refine AllReadyH.cons (o := ⟨some 17, _, _, _, _, _⟩) rfl (fun K hK => ?_) AllReadyH.nil
            go_simp
            refine (HCU.out _ HS3.out).mono ?_
            rintro e V4 ⟨a6, q6, rfl, ht, hb⟩
            have HK3 := Lib.hid hb
            have HS4 := Lib.hid (Go.RowKit.Below.tr HS3.out hb (Nat.le_refl _))
            have HT6 := Lib.hid ht
            clear hb ht
            dsimp only
            refine hK.out _ _ HS4.out (fun _ => ?_)
            clear hK K
            try simp only [Act.put, List.setIfInBounds_toArray, List.set_cons_zero, List.set_cons_succ]
            have z5 := (HK3.out.block _ HL5.out).trans HZ5.out
            have z6 := ((Go.RowKit.Below.tr HK2.out HK3.out (Nat.le_refl _)).block _ HL6.out).trans HZ6.out
            have hput := fun F hF => put_two (F := F) (hi5 := V1.heap.size) (hi6 := V4.heap.size) (lo5 := V0.heap.size) (lo6 := V3.heap.size) BX3.out.says BU3.out.says z5 z6 (HT5.out.below (Go.RowKit.Below.tr (Go.RowKit.Below.tr HK1.out HK2.out (Nat.le_refl _)) HK3.out (Nat.le_refl _)) (fun _ h => h.2) (fun _ h => h)) (HT6.out.below (Below.refl V4.heap.size V4) (fun _ h => h.2) (fun _ h => h)) HS4.out (Nat.le_trans HS0.out.size (by have := HK0.out.size; have := HK1.out.size; have := HK2.out.size; have := HK3.out.size; have := HL5.out; have := HL6.out; omega)) (Nat.le_trans HS0.out.size (by have := HK0.out.size; have := HK1.out.size; have := HK2.out.size; have := HK3.out.size; have := HL5.out; have := HL6.out; omega)) (by have := HK0.out.size; have := HK1.out.size; have := HK2.out.size; have := HK3.out.size; have := HL5.out; have := HL6.out; omega) (by have := HK0.out.size; have := HK1.out.size; have := HK2.out.size; have := HK3.out.size; have := HL5.out; have := HL6.out; omega) (by have := HK0.out.size; have := HK1.out.size; have := HK2.out.size; have := HK3.out.size; have := HL5.out; have := HL6.out; omega) (by have := HK0.out.size; have := HK1.out.size; have := HK2.out.size; have := HK3.out.size; have := HL5.out; have := HL6.out; omega) (by have := HK0.out.size; have := HK1.out.size; have := HK2.out.size; have := HK3.out.size; have := HL5.out; have := HL6.out; omega) (by have := HK0.out.size; have := HK1.out.size; have := HK2.out.size; have := HK3.out.size; have := HL5.out; have := HL6.out; omega) (by have := HK0.out.size; have := HK1.out.size; have := HK2.out.size; have := HK3.out.size; have := HL5.out; have := HL6.out; omega) hF
            have HPUT := Lib.hid hput
            clear hput
            obtain ⟨z50, z51, z52, f50, f51, f52⟩ := zero_three z5
            refine wpAnyH_ready (rs := [6]) (by kernel_rfl) (by simp) ?_
            refine AllReadyH.cons (o := ⟨none, _, _, _, _, _⟩) rfl (fun K hK => ?_) AllReadyH.nil
            go_simp
            refine hK.out _ _ (put_half HS4.out (Nat.le_trans HS0.out.size (by have := HK0.out.size; have := HK1.out.size; have := HK2.out.size; have := HK3.out.size; have := HL5.out; have := HL6.out; omega))) (fun _ => ?_)
            clear hK K
            try simp only [Act.put, List.setIfInBounds_toArray, List.set_cons_zero, List.set_cons_succ]
            clear z50 z51 z52 f50 f51 f52
            have y6 := (set3_other (V := V4) (b := V2.heap.size) (v0 := .int .i64 k0) (v1 := .int .i64 n0) (v2 := .slice a5 m0 q5) (k := V1.heap.size) (by have := HK0.out.size; have := HK1.out.size; have := HK2.out.size; have := HK3.out.size; have := HL5.out; have := HL6.out; omega)).trans z6
            obtain ⟨V5, hV5⟩ : ∃ V, ((V4.setCell ⟨V2.heap.size, 0, none⟩ (.int .i64 k0)).setCell ⟨V2.heap.size, 1, none⟩ (.int .i64 n0)).setCell ⟨V2.heap.size, 2, none⟩ (.slice a5 m0 q5) = V := ⟨_, rfl⟩
            rw [hV5] at y6 ⊢
            have HPU2 := Lib.hid (HPUT.out _ (by rw [hV5]))
            obtain ⟨z60, z61, z62, f60, f61, f62⟩ := zero_three y6
            refine wpAnyH_ready (rs := [7]) (by kernel_rfl) (by simp) ?_
            refine AllReadyH.cons (o := ⟨none, _, _, _, _, _⟩) rfl (fun K hK => ?_) AllReadyH.nil
            go_simp
            refine hK.out _ _ HPU2.out.2.2 (fun _ => ?_)
            clear hK K
            try simp only [Act.put, List.setIfInBounds_toArray, List.set_cons_zero, List.set_cons_succ]
            refine wpAnyH_done (by kernel_rfl) ?_ _
            go_wp2_with fail
            go_meet
            case rel => exact ⟨_, _, _, _, _, _, rfl, rfl, HPU2.out.1, HPU2.out.2.1, HPU2.out.2.2⟩
      · skip
        go_simp
        refine hK.out _ _ (HS0.out.alloc HS0.out.size (.cells #[.int .i64 0, .int .i64 0, .slice none 0 0] 24)) (fun _ => ?_)
        clear hK K
        try simp only [Act.put, List.setIfInBounds_toArray, List.set_cons_zero, List.set_cons_succ]
        obtain ⟨V1, hV⟩ : ∃ V, V0.alloc (.cells #[.int .i64 0, .int .i64 0, .slice none 0 0] 24) = V := ⟨_, rfl⟩
        rw [hV]
        have HK0 := Lib.hid (show Below V0.heap.size V0 V1 by rw [← hV]; exact (Below.refl _ _).alloc (Nat.le_refl _) _)
        have HZ5 := Lib.hid (show V1.heap[V0.heap.size]? = some (.cells #[.int .i64 0, .int .i64 0, .slice none 0 0] 24) by rw [← hV]; exact World.alloc_heap_new _ _)
        have HL5 := Lib.hid (show V0.heap.size < V1.heap.size by rw [← hV, World.size_alloc]; omega)
        have HS1 := Lib.hid (Go.RowKit.Below.tr HS0.out HK0.out (Nat.le_refl _))
        clear hV
        refine wpAnyH_ready (rs := [1, 5]) (by kernel_rfl) (by simp) ?_
        refine AllReadyH.cons (o := ⟨some 15, _, _, _, _, _⟩) rfl (fun K hK => ?_) (AllReadyH.cons (o := ⟨some 6, _, _, _, _, _⟩) rfl (fun K hK => ?_) AllReadyH.nil)
        · skip
          go_simp
          refine (HCT.out _ HS1.out).mono ?_
          rintro e V2 ⟨a5, q5, rfl, ht, hb⟩
          have HK1 := Lib.hid hb
          have HS2 := Lib.hid (Go.RowKit.Below.tr HS1.out hb (Nat.le_refl _))
          have HT5 := Lib.hid ht
          clear hb ht
          dsimp only
          refine hK.out _ _ HS2.out (fun _ => ?_)
          clear hK K
          try simp only [Act.put, List.setIfInBounds_toArray, List.set_cons_zero, List.set_cons_succ]
          refine wpAnyH_ready (rs := [3, 5]) (by kernel_rfl) (by simp) ?_
          refine AllReadyH.cons (o := ⟨some 17, _, _, _, _, _⟩) rfl (fun K hK => ?_) (AllReadyH.cons (o := ⟨some 6, _, _, _, _, _⟩) rfl (fun K hK => ?_) AllReadyH.nil)
          · skip
            go_simp
            refine (HCU.out _ HS2.out).mono ?_
            rintro e V3 ⟨a6, q6, rfl, ht, hb⟩
            have HK2 := Lib.hid hb
            have HS3 := Lib.hid (Go.RowKit.Below.tr HS2.out hb (Nat.le_refl _))
            have HT6 := Lib.hid ht
            clear hb ht
            dsimp only
            refine hK.out _ _ HS3.out (fun _ => ?_)
            clear hK K
            try simp only [Act.put, List.setIfInBounds_toArray, List.set_cons_zero, List.set_cons_succ]
            refine wpAnyH_ready (rs := [5]) (by kernel_rfl) (by simp) ?_
            refine AllReadyH.cons (o := ⟨some 6, _, _, _, _, _⟩) rfl (fun K hK => ?_) AllReadyH.nil
            go_simp
            refine hK.out _ _ (HS3.out.alloc HS3.out.size (.cells #[.int .i64 0, .int .i64 0, .slice none 0 0] 24)) (fun _ => ?_)
            clear hK K
            try simp only [Act.put, List.setIfInBounds_toArray, List.set_cons_zero, List.set_cons_succ]
            obtain ⟨V4, hV⟩ : ∃ V, V3.alloc (.cells #[.int .i64 0, .int .i64 0, .slice none 0 0] 24) = V := ⟨_, rfl⟩
            rw [hV]
            have HK3 := Lib.hid (show Below V3.heap.size V3 V4 by rw [← hV]; exact (Below.refl _ _).alloc (Nat.le_refl _) _)
            have HZ6 := Lib.hid (show V4.heap[V3.heap.size]? = some (.cells #[.int .i64 0, .int .i64 0, .slice none 0 0] 24) by rw [← hV]; exact World.alloc_heap_new _ _)
            have HL6 := Lib.hid (show V3.heap.size < V4.heap.size by rw [← hV, World.size_alloc]; omega)
            have HS4 := Lib.hid (Go.RowKit.Below.tr HS3.out HK3.out (Nat.le_refl _))
            clear hV
            have z5 := ((Go.RowKit.Below.tr (Go.RowKit.Below.tr HK1.out HK2.out (Nat.le_refl _)) HK3.out (Nat.le_refl _)).block _ HL5.out).trans HZ5.out
            have z6 := ((Below.refl V4.heap.size V4).block _ HL6.out).trans HZ6.out
            have hput := fun F hF => put_two (F := F) (hi5 := V2.heap.size) (hi6 := V3.heap.size) (lo5 := V1.heap.size) (lo6 := V2.heap.size) BX3.out.says BU3.out.says z5 z6 (HT5.out.below (Go.RowKit.Below.tr HK2.out HK3.out (Nat.le_refl _)) (fun _ h => h.2) (fun _ h => h)) (HT6.out.below HK3.out (fun _ h => h.2) (fun _ h => h)) HS4.out (Nat.le_trans HS0.out.size (by have := HK0.out.size; have := HK1.out.size; have := HK2.out.size; have := HK3.out.size; have := HL5.out; have := HL6.out; omega)) (Nat.le_trans HS0.out.size (by have := HK0.out.size; have := HK1.out.size; have := HK2.out.size; have := HK3.out.size; have := HL5.out; have := HL6.out; omega)) (by have := HK0.out.size; have := HK1.out.size; have := HK2.out.size; have := HK3.out.size; have := HL5.out; have := HL6.out; omega) (by have := HK0.out.size; have := HK1.out.size; have := HK2.out.size; have := HK3.out.size; have := HL5.out; have := HL6.out; omega) (by have := HK0.out.size; have := HK1.out.size; have := HK2.out.size; have := HK3.out.size; have := HL5.out; have := HL6.out; omega) (by have := HK0.out.size; have := HK1.out.size; have := HK2.out.size; have := HK3.out.size; have := HL5.out; have := HL6.out; omega) (by have := HK0.out.size; have := HK1.out.size; have := HK2.out.size; have := HK3.out.size; have := HL5.out; have := HL6.out; omega) (by have := HK0.out.size; have := HK1.out.size; have := HK2.out.size; have := HK3.out.size; have := HL5.out; have := HL6.out; omega) (by have := HK0.out.size; have := HK1.out.size; have := HK2.out.size; have := HK3.out.size; have := HL5.out; have := HL6.out; omega) hF
            have HPUT := Lib.hid hput
            clear hput
            obtain ⟨z50, z51, z52, f50, f51, f52⟩ := zero_three z5
            refine wpAnyH_ready (rs := [6]) (by kernel_rfl) (by simp) ?_
            refine AllReadyH.cons (o := ⟨none, _, _, _, _, _⟩) rfl (fun K hK => ?_) AllReadyH.nil
            go_simp
            refine hK.out _ _ (put_half HS4.out (Nat.le_trans HS0.out.size (by have := HK0.out.size; have := HK1.out.size; have := HK2.out.size; have := HK3.out.size; have := HL5.out; have := HL6.out; omega))) (fun _ => ?_)
            clear hK K
            try simp only [Act.put, List.setIfInBounds_toArray, List.set_cons_zero, List.set_cons_succ]
            clear z50 z51 z52 f50 f51 f52
            have y6 := (set3_other (V := V4) (b := V0.heap.size) (v0 := .int .i64 k0) (v1 := .int .i64 n0) (v2 := .slice a5 m0 q5) (k := V3.heap.size) (by have := HK0.out.size; have := HK1.out.size; have := HK2.out.size; have := HK3.out.size; have := HL5.out; have := HL6.out; omega)).trans z6
            obtain ⟨V5, hV5⟩ : ∃ V, ((V4.setCell ⟨V0.heap.size, 0, none⟩ (.int .i64 k0)).setCell ⟨V0.heap.size, 1, none⟩ (.int .i64 n0)).setCell ⟨V0.heap.size, 2, none⟩ (.slice a5 m0 q5) = V := ⟨_, rfl⟩
            rw [hV5] at y6 ⊢
            have HPU2 := Lib.hid (HPUT.out _ (by rw [hV5]))
            obtain ⟨z60, z61, z62, f60, f61, f62⟩ := zero_three y6
            refine wpAnyH_ready (rs := [7]) (by kernel_rfl) (by simp) ?_
            refine AllReadyH.cons (o := ⟨none, _, _, _, _, _⟩) rfl (fun K hK => ?_) AllReadyH.nil
            go_simp
            refine hK.out _ _ HPU2.out.2.2 (fun _ => ?_)
            clear hK K
            try simp only [Act.put, List.setIfInBounds_toArray, List.set_cons_zero, List.set_cons_succ]
            refine wpAnyH_done (by kernel_rfl) ?_ _
            go_wp2_with fail
            go_meet
            case rel => exact ⟨_, _, _, _, _, _, rfl, rfl, HPU2.out.1, HPU2.out.2.1, HPU2.out.2.2⟩
          · skip
            go_simp
            refine hK.out _ _ (HS2.out.alloc HS2.out.size (.cells #[.int .i64 0, .int .i64 0, .slice none 0 0] 24)) (fun _ => ?_)
            clear hK K
            try simp only [Act.put, List.setIfInBounds_toArray, List.set_cons_zero, List.set_cons_succ]
            obtain ⟨V3, hV⟩ : ∃ V, V2.alloc (.cells #[.int .i64 0, .int .i64 0, .slice none 0 0] 24) = V := ⟨_, rfl⟩
            rw [hV]
            have HK2 := Lib.hid (show Below V2.heap.size V2 V3 by rw [← hV]; exact (Below.refl _ _).alloc (Nat.le_refl _) _)
            have HZ6 := Lib.hid (show V3.heap[V2.heap.size]? = some (.cells #[.int .i64 0, .int .i64 0, .slice none 0 0] 24) by rw [← hV]; exact World.alloc_heap_new _ _)
            have HL6 := Lib.hid (show V2.heap.size < V3.heap.size by rw [← hV, World.size_alloc]; omega)
            have HS3 := Lib.hid (Go.RowKit.Below.tr HS2.out HK2.out (Nat.le_refl _))
            clear hV
            refine wpAnyH_ready (rs := [3]) (by kernel_rfl) (by simp) ?_
            refine AllReadyH.cons (o := ⟨some 17, _, _, _, _, _⟩) rfl (fun K hK => ?_) AllReadyH.nil
            go_simp
            refine (HCU.out _ HS3.out).mono ?_
            rintro e V4 ⟨a6, q6, rfl, ht, hb⟩
            have HK3 := Lib.hid hb
            have HS4 := Lib.hid (Go.RowKit.Below.tr HS3.out hb (Nat.le_refl _))
            have HT6 := Lib.hid ht
            clear hb ht
            dsimp only
            refine hK.out _ _ HS4.out (fun _ => ?_)
            clear hK K
            try simp only [Act.put, List.setIfInBounds_toArray, List.set_cons_zero, List.set_cons_succ]
            have z5 := ((Go.RowKit.Below.tr (Go.RowKit.Below.tr HK1.out HK2.out (Nat.le_refl _)) HK3.out (Nat.le_refl _)).block _ HL5.out).trans HZ5.out
            have z6 := (HK3.out.block _ HL6.out).trans HZ6.out
            have hput := fun F hF => put_two (F := F) (hi5 := V2.heap.size) (hi6 := V4.heap.size) (lo5 := V1.heap.size) (lo6 := V3.heap.size) BX3.out.says BU3.out.says z5 z6 (HT5.out.below (Go.RowKit.Below.tr HK2.out HK3.out (Nat.le_refl _)) (fun _ h => h.2) (fun _ h => h)) (HT6.out.below (Below.refl V4.heap.size V4) (fun _ h => h.2) (fun _ h => h)) HS4.out (Nat.le_trans HS0.out.size (by have := HK0.out.size; have := HK1.out.size; have := HK2.out.size; have := HK3.out.size; have := HL5.out; have := HL6.out; omega)) (Nat.le_trans HS0.out.size (by have := HK0.out.size; have := HK1.out.size; have := HK2.out.size; have := HK3.out.size; have := HL5.out; have := HL6.out; omega)) (by have := HK0.out.size; have := HK1.out.size; have := HK2.out.size; have := HK3.out.size; have := HL5.out; have := HL6.out; omega) (by have := HK0.out.size; have := HK1.out.size; have := HK2.out.size; have := HK3.out.size; have := HL5.out; have := HL6.out; omega) (by have := HK0.out.size; have := HK1.out.size; have := HK2.out.size; have := HK3.out.size; have := HL5.out; have := HL6.out; omega) (by have := HK0.out.size; have := HK1.out.size; have := HK2.out.size; have := HK3.out.size; have := HL5.out; have := HL6.out; omega) (by have := HK0.out.size; have := HK1.out.size; have := HK2.out.size; have := HK3.out.size; have := HL5.out; have := HL6.out; omega) (by have := HK0.out.size; have := HK1.out.size; have := HK2.out.size; have := HK3.out.size; have := HL5.out; have := HL6.out; omega) (by have := HK0.out.size; have := HK1.out.size; have := HK2.out.size; have := HK3.out.size; have := HL5.out; have := HL6.out; omega) hF
            have HPUT := Lib.hid hput
            clear hput
            obtain ⟨z50, z51, z52, f50, f51, f52⟩ := zero_three z5
            refine wpAnyH_ready (rs := [6]) (by kernel_rfl) (by simp) ?_
            refine AllReadyH.cons (o := ⟨none, _, _, _, _, _⟩) rfl (fun K hK => ?_) AllReadyH.nil
            go_simp
            refine hK.out _ _ (put_half HS4.out (Nat.le_trans HS0.out.size (by have := HK0.out.size; have := HK1.out.size; have := HK2.out.size; have := HK3.out.size; have := HL5.out; have := HL6.out; omega))) (fun _ => ?_)
            clear hK K
            try simp only [Act.put, List.setIfInBounds_toArray, List.set_cons_zero, List.set_cons_succ]
            clear z50 z51 z52 f50 f51 f52
            have y6 := (set3_other (V := V4) (b := V0.heap.size) (v0 := .int .i64 k0) (v1 := .int .i64 n0) (v2 := .slice a5 m0 q5) (k := V2.heap.size) (by have := HK0.out.size; have := HK1.out.size; have := HK2.out.size; have := HK3.out.size; have := HL5.out; have := HL6.out; omega)).trans z6
            obtain ⟨V5, hV5⟩ : ∃ V, ((V4.setCell ⟨V0.heap.size, 0, none⟩ (.int .i64 k0)).setCell ⟨V0.heap.size, 1, none⟩ (.int .i64 n0)).setCell ⟨V0.heap.size, 2, none⟩ (.slice a5 m0 q5) = V := ⟨_, rfl⟩
            rw [hV5] at y6 ⊢
            have HPU2 := Lib.hid (HPUT.out _ (by rw [hV5]))
            obtain ⟨z60, z61, z62, f60, f61, f62⟩ := zero_three y6
            refine wpAnyH_ready (rs := [7]) (by kernel_rfl) (by simp) ?_
            refine AllReadyH.cons (o := ⟨none, _, _, _, _, _⟩) rfl (fun K hK => ?_) AllReadyH.nil
            go_simp
            refine hK.out _ _ HPU2.out.2.2 (fun _ => ?_)
            clear hK K
            try simp only [Act.put, List.setIfInBounds_toArray, List.set_cons_zero, List.set_cons_succ]
            refine wpAnyH_done (by kernel_rfl) ?_ _
            go_wp2_with fail
            go_meet
            case rel => exact ⟨_, _, _, _, _, _, rfl, rfl, HPU2.out.1, HPU2.out.2.1, HPU2.out.2.2⟩
        · skip
          go_simp
          refine hK.out _ _ (HS1.out.alloc HS1.out.size (.cells #[.int .i64 0, .int .i64 0, .slice none 0 0] 24)) (fun _ => ?_)
          clear hK K
          try simp only [Act.put, List.setIfInBounds_toArray, List.set_cons_zero, List.set_cons_succ]
          obtain ⟨V2, hV⟩ : ∃ V, V1.alloc (.cells #[.int .i64 0, .int .i64 0, .slice none 0 0] 24) = V := ⟨_, rfl⟩
          rw [hV]
          have HK1 := Lib.hid (show Below V1.heap.size V1 V2 by rw [← hV]; exact (Below.refl _ _).alloc (Nat.le_refl _) _)
          have HZ6 := Lib.hid (show V2.heap[V1.heap.size]? = some (.cells #[.int .i64 0, .int .i64 0, .slice none 0 0] 24) by rw [← hV]; exact World.alloc_heap_new _ _)
          have HL6 := Lib.hid (show V1.heap.size < V2.heap.size by rw [← hV, World.size_alloc]; omega)
          have HS2 := Lib.hid (Go.RowKit.Below.tr HS1.out HK1.out (Nat.le_refl _))
          clear hV
          refine wpAnyH_ready (rs := [1]) (by kernel_rfl) (by simp) ?_
          refine AllReadyH.cons (o := ⟨some 15, _, _, _, _, _⟩) rfl (fun K hK => ?_) AllReadyH.nil
          go_simp
          refine (HCT.out _ HS2.out).mono ?_
          rintro e V3 ⟨a5, q5, rfl, ht, hb⟩
          have HK2 := Lib.hid hb
          have HS3 := Lib.hid (Go.RowKit.Below.tr HS2.out hb (Nat.le_refl _))
          have HT5 := Lib.hid ht
          clear hb ht
          dsimp only
          refine hK.out _ _ HS3.out (fun _ => ?_)
          clear hK K
          try simp only [Act.put, List.setIfInBounds_toArray, List.set_cons_zero, List.set_cons_succ]
          refine wpAnyH_ready (rs := [3]) (by kernel_rfl) (by simp) ?_
          refine AllReadyH.cons (o := ⟨some 17, _, _, _, _, _⟩) rfl (fun K hK => ?_) AllReadyH.nil
          go_simp
          refine (HCU.out _ HS3.out).mono ?_
          rintro e V4 ⟨a6, q6, rfl, ht, hb⟩
          have HK3 := Lib.hid hb
          have HS4 := Lib.hid (Go.RowKit.Below.tr HS3.out hb (Nat.le_refl _))
          have HT6 := Lib.hid ht
          clear hb ht
          dsimp only
          refine hK.out _ _ HS4.out (fun _ => ?_)
          clear hK K
          try simp only [Act.put, List.setIfInBounds_toArray, List.set_cons_zero, List.set_cons_succ]
          have z5 := ((Go.RowKit.Below.tr (Go.RowKit.Below.tr HK1.out HK2.out (Nat.le_refl _)) HK3.out (Nat.le_refl _)).block _ HL5.out).trans HZ5.out
          have z6 := ((Go.RowKit.Below.tr HK2.out HK3.out (Nat.le_refl _)).block _ HL6.out).trans HZ6.out
          have hput := fun F hF => put_two (F := F) (hi5 := V3.heap.size) (hi6 := V4.heap.size) (lo5 := V2.heap.size) (lo6 := V3.heap.size) BX3.out.says BU3.out.says z5 z6 (HT5.out.below HK3.out (fun _ h => h.2) (fun _ h => h)) (HT6.out.below (Below.refl V4.heap.size V4) (fun _ h => h.2) (fun _ h => h)) HS4.out (Nat.le_trans HS0.out.size (by have := HK0.out.size; have := HK1.out.size; have := HK2.out.size; have := HK3.out.size; have := HL5.out; have := HL6.out; omega)) (Nat.le_trans HS0.out.size (by have := HK0.out.size; have := HK1.out.size; have := HK2.out.size; have := HK3.out.size; have := HL5.out; have := HL6.out; omega)) (by have := HK0.out.size; have := HK1.out.size; have := HK2.out.size; have := HK3.out.size; have := HL5.out; have := HL6.out; omega) (by have := HK0.out.size; have := HK1.out.size; have := HK2.out.size; have := HK3.out.size; have := HL5.out; have := HL6.out; omega) (by have := HK0.out.size; have := HK1.out.size; have := HK2.out.size; have := HK3.out.size; have := HL5.out; have := HL6.out; omega) (by have := HK0.out.size; have := HK1.out.size; have := HK2.out.size; have := HK3.out.size; have := HL5.out; have := HL6.out; omega) (by have := HK0.out.size; have := HK1.out.size; have := HK2.out.size; have := HK3.out.size; have := HL5.out; have := HL6.out; omega) (by have := HK0.out.size; have := HK1.out.size; have := HK2.out.size; have := HK3.out.size; have := HL5.out; have := HL6.out; omega) (by have := HK0.out.size; have := HK1.out.size; have := HK2.out.size; have := HK3.out.size; have := HL5.out; have := HL6.out; omega) hF
          have HPUT := Lib.hid hput
          clear hput
          obtain ⟨z50, z51, z52, f50, f51, f52⟩ := zero_three z5
          refine wpAnyH_ready (rs := [6]) (by kernel_rfl) (by simp) ?_
          refine AllReadyH.cons (o := ⟨none, _, _, _, _, _⟩) rfl (fun K hK => ?_) AllReadyH.nil
          go_simp
          refine hK.out _ _ (put_half HS4.out (Nat.le_trans HS0.out.size (by have := HK0.out.size; have := HK1.out.size; have := HK2.out.size; have := HK3.out.size; have := HL5.out; have := HL6.out; omega))) (fun _ => ?_)
          clear hK K
          try simp only [Act.put, List.setIfInBounds_toArray, List.set_cons_zero, List.set_cons_succ]
          clear z50 z51 z52 f50 f51 f52
          have y6 := (set3_other (V := V4) (b := V0.heap.size) (v0 := .int .i64 k0) (v1 := .int .i64 n0) (v2 := .slice a5 m0 q5) (k := V1.heap.size) (by have := HK0.out.size; have := HK1.out.size; have := HK2.out.size; have := HK3.out.size; have := HL5.out; have := HL6.out; omega)).trans z6
          obtain ⟨V5, hV5⟩ : ∃ V, ((V4.setCell ⟨V0.heap.size, 0, none⟩ (.int .i64 k0)).setCell ⟨V0.heap.size, 1, none⟩ (.int .i64 n0)).setCell ⟨V0.heap.size, 2, none⟩ (.slice a5 m0 q5) = V := ⟨_, rfl⟩
          rw [hV5] at y6 ⊢
          have HPU2 := Lib.hid (HPUT.out _ (by rw [hV5]))
          obtain ⟨z60, z61, z62, f60, f61, f62⟩ := zero_three y6
          refine wpAnyH_ready (rs := [7]) (by kernel_rfl) (by simp) ?_
          refine AllReadyH.cons (o := ⟨none, _, _, _, _, _⟩) rfl (fun K hK => ?_) AllReadyH.nil
          go_simp
          refine hK.out _ _ HPU2.out.2.2 (fun _ => ?_)
          clear hK K
          try simp only [Act.put, List.setIfInBounds_toArray, List.set_cons_zero, List.set_cons_succ]
          refine wpAnyH_done (by kernel_rfl) ?_ _
          go_wp2_with fail
          go_meet
          case rel => exact ⟨_, _, _, _, _, _, rfl, rfl, HPU2.out.1, HPU2.out.2.1, HPU2.out.2.2⟩
      · skip
        go_simp
        refine hK.out _ _ (HS0.out.alloc HS0.out.size (.cells #[.int .i64 0, .int .i64 0, .slice none 0 0] 24)) (fun _ => ?_)
        clear hK K
        try simp only [Act.put, List.setIfInBounds_toArray, List.set_cons_zero, List.set_cons_succ]
        obtain ⟨V1, hV⟩ : ∃ V, V0.alloc (.cells #[.int .i64 0, .int .i64 0, .slice none 0 0] 24) = V := ⟨_, rfl⟩
        rw [hV]
        have HK0 := Lib.hid (show Below V0.heap.size V0 V1 by rw [← hV]; exact (Below.refl _ _).alloc (Nat.le_refl _) _)
        have HZ6 := Lib.hid (show V1.heap[V0.heap.size]? = some (.cells #[.int .i64 0, .int .i64 0, .slice none 0 0] 24) by rw [← hV]; exact World.alloc_heap_new _ _)
        have HL6 := Lib.hid (show V0.heap.size < V1.heap.size by rw [← hV, World.size_alloc]; omega)
        have HS1 := Lib.hid (Go.RowKit.Below.tr HS0.out HK0.out (Nat.le_refl _))
        clear hV
        refine wpAnyH_ready (rs := [1, 4]) (by kernel_rfl) (by simp) ?_
        refine AllReadyH.cons (o := ⟨some 15, _, _, _, _, _⟩) rfl (fun K hK => ?_) (AllReadyH.cons (o := ⟨some 5, _, _, _, _, _⟩) rfl (fun K hK => ?_) AllReadyH.nil)
        · skip
          go_simp
          refine (HCT.out _ HS1.out).mono ?_
          rintro e V2 ⟨a5, q5, rfl, ht, hb⟩
          have HK1 := Lib.hid hb
          have HS2 := Lib.hid (Go.RowKit.Below.tr HS1.out hb (Nat.le_refl _))
          have HT5 := Lib.hid ht
          clear hb ht
          dsimp only
          refine hK.out _ _ HS2.out (fun _ => ?_)
          clear hK K
          try simp only [Act.put, List.setIfInBounds_toArray, List.set_cons_zero, List.set_cons_succ]
          refine wpAnyH_ready (rs := [3, 4]) (by kernel_rfl) (by simp) ?_
          refine AllReadyH.cons (o := ⟨some 17, _, _, _, _, _⟩) rfl (fun K hK => ?_) (AllReadyH.cons (o := ⟨some 5, _, _, _, _, _⟩) rfl (fun K hK => ?_) AllReadyH.nil)
          · skip
            go_simp
            refine (HCU.out _ HS2.out).mono ?_
            rintro e V3 ⟨a6, q6, rfl, ht, hb⟩
            have HK2 := Lib.hid hb
            have HS3 := Lib.hid (Go.RowKit.Below.tr HS2.out hb (Nat.le_refl _))
            have HT6 := Lib.hid ht
            clear hb ht
            dsimp only
            refine hK.out _ _ HS3.out (fun _ => ?_)
            clear hK K
            try simp only [Act.put, List.setIfInBounds_toArray, List.set_cons_zero, List.set_cons_succ]
            refine wpAnyH_ready (rs := [4]) (by kernel_rfl) (by simp) ?_
            refine AllReadyH.cons (o := ⟨some 5, _, _, _, _, _⟩) rfl (fun K hK => ?_) AllReadyH.nil
            go_simp
            refine hK.out _ _ (HS3.out.alloc HS3.out.size (.cells #[.int .i64 0, .int .i64 0, .slice none 0 0] 24)) (fun _ => ?_)
            clear hK K
            try simp only [Act.put, List.setIfInBounds_toArray, List.set_cons_zero, List.set_cons_succ]
            obtain ⟨V4, hV⟩ : ∃ V, V3.alloc (.cells #[.int .i64 0, .int .i64 0, .slice none 0 0] 24) = V := ⟨_, rfl⟩
            rw [hV]
            have HK3 := Lib.hid (show Below V3.heap.size V3 V4 by rw [← hV]; exact (Below.refl _ _).alloc (Nat.le_refl _) _)
            have HZ5 := Lib.hid (show V4.heap[V3.heap.size]? = some (.cells #[.int .i64 0, .int .i64 0, .slice none 0 0] 24) by rw [← hV]; exact World.alloc_heap_new _ _)
            have HL5 := Lib.hid (show V3.heap.size < V4.heap.size by rw [← hV, World.size_alloc]; omega)
            have HS4 := Lib.hid (Go.RowKit.Below.tr HS3.out HK3.out (Nat.le_refl _))
            clear hV
            have z5 := ((Below.refl V4.heap.size V4).block _ HL5.out).trans HZ5.out
            have z6 := ((Go.RowKit.Below.tr (Go.RowKit.Below.tr HK1.out HK2.out (Nat.le_refl _)) HK3.out (Nat.le_refl _)).block _ HL6.out).trans HZ6.out
            have hput := fun F hF => put_two (F := F) (hi5 := V2.heap.size) (hi6 := V3.heap.size) (lo5 := V1.heap.size) (lo6 := V2.heap.size) BX3.out.says BU3.out.says z5 z6 (HT5.out.below (Go.RowKit.Below.tr HK2.out HK3.out (Nat.le_refl _)) (fun _ h => h.2) (fun _ h => h)) (HT6.out.below HK3.out (fun _ h => h.2) (fun _ h => h)) HS4.out (Nat.le_trans HS0.out.size (by have := HK0.out.size; have := HK1.out.size; have := HK2.out.size; have := HK3.out.size; have := HL5.out; have := HL6.out; omega)) (Nat.le_trans HS0.out.size (by have := HK0.out.size; have := HK1.out.size; have := HK2.out.size; have := HK3.out.size; have := HL5.out; have := HL6.out; omega)) (by have := HK0.out.size; have := HK1.out.size; have := HK2.out.size; have := HK3.out.size; have := HL5.out; have := HL6.out; omega) (by have := HK0.out.size; have := HK1.out.size; have := HK2.out.size; have := HK3.out.size; have := HL5.out; have := HL6.out; omega) (by have := HK0.out.size; have := HK1.out.size; have := HK2.out.size; have := HK3.out.size; have := HL5.out; have := HL6.out; omega) (by have := HK0.out.size; have := HK1.out.size; have := HK2.out.size; have := HK3.out.size; have := HL5.out; have := HL6.out; omega) (by have := HK0.out.size; have := HK1.out.size; have := HK2.out.size; have := HK3.out.size; have := HL5.out; have := HL6.out; omega) (by have := HK0.out.size; have := HK1.out.size; have := HK2.out.size; have := HK3.out.size; have := HL5.out; have := HL6.out; omega) (by have := HK0.out.size; have := HK1.out.size; have := HK2.out.size; have := HK3.out.size; have := HL5.out; have := HL6.out; omega) hF
            have HPUT := Lib.hid hput
            clear hput
            obtain ⟨z50, z51, z52, f50, f51, f52⟩ := zero_three z5
            refine wpAnyH_ready (rs := [6]) (by kernel_rfl) (by simp) ?_
            refine AllReadyH.cons (o := ⟨none, _, _, _, _, _⟩) rfl (fun K hK => ?_) AllReadyH.nil
            go_simp
            refine hK.out _ _ (put_half HS4.out (Nat.le_trans HS0.out.size (by have := HK0.out.size; have := HK1.out.size; have := HK2.out.size; have := HK3.out.size; have := HL5.out; have := HL6.out; omega))) (fun _ => ?_)
            clear hK K
            try simp only [Act.put, List.setIfInBounds_toArray, List.set_cons_zero, List.set_cons_succ]
            clear z50 z51 z52 f50 f51 f52
            have y6 := (set3_other (V := V4) (b := V3.heap.size) (v0 := .int .i64 k0) (v1 := .int .i64 n0) (v2 := .slice a5 m0 q5) (k := V0.heap.size) (by have := HK0.out.size; have := HK1.out.size; have := HK2.out.size; have := HK3.out.size; have := HL5.out; have := HL6.out; omega)).trans z6
            obtain ⟨V5, hV5⟩ : ∃ V, ((V4.setCell ⟨V3.heap.size, 0, none⟩ (.int .i64 k0)).setCell ⟨V3.heap.size, 1, none⟩ (.int .i64 n0)).setCell ⟨V3.heap.size, 2, none⟩ (.slice a5 m0 q5) = V := ⟨_, rfl⟩
            rw [hV5] at y6 ⊢
            have HPU2 := Lib.hid (HPUT.out _ (by rw [hV5]))
            obtain ⟨z60, z61, z62, f60, f61, f62⟩ := zero_three y6
            refine wpAnyH_ready (rs := [7]) (by kernel_rfl) (by simp) ?_
            refine AllReadyH.cons (o := ⟨none, _, _, _, _, _⟩) rfl (fun K hK => ?_) AllReadyH.nil
            go_simp
            refine hK.out _ _ HPU2.out.2.2 (fun _ => ?_)
            clear hK K
            try simp only [Act.put, List.setIfInBounds_toArray, List.set_cons_zero, List.set_cons_succ]
            refine wpAnyH_done (by kernel_rfl) ?_ _
            go_wp2_with fail
            go_meet
            case rel => exact ⟨_, _, _, _, _, _, rfl, rfl, HPU2.out.1, HPU2.out.2.1, HPU2.out.2.2⟩
          · skip
            go_simp
            refine hK.out _ _ (HS2.out.alloc HS2.out.size (.cells #[.int .i64 0, .int .i64 0, .slice none 0 0] 24)) (fun _ => ?_)
            clear hK K
            try simp only [Act.put, List.setIfInBounds_toArray, List.set_cons_zero, List.set_cons_succ]
            obtain ⟨V3, hV⟩ : ∃ V, V2.alloc (.cells #[.int .i64 0, .int .i64 0, .slice none 0 0] 24) = V := ⟨_, rfl⟩
            rw [hV]
            have HK2 := Lib.hid (show Below V2.heap.size V2 V3 by rw [← hV]; exact (Below.refl _ _).alloc (Nat.le_refl _) _)
            have HZ5 := Lib.hid (show V3.heap[V2.heap.size]? = some (.cells #[.int .i64 0, .int .i64 0, .slice none 0 0] 24) by rw [← hV]; exact World.alloc_heap_new _ _)
            have HL5 := Lib.hid (show V2.heap.size < V3.heap.size by rw [← hV, World.size_alloc]; omega)
            have HS3 := Lib.hid (Go.RowKit.Below.tr HS2.out HK2.out (Nat.le_refl _))
            clear hV
            refine wpAnyH_ready (rs := [3]) (by kernel_rfl) (by simp) ?_
            refine AllReadyH.cons (o := ⟨some 17, _, _, _, _, _⟩) rfl (fun K hK => ?_) AllReadyH.nil
            go_simp
            refine (HCU.out _ HS3.out).mono ?_
            rintro e V4 ⟨a6, q6, rfl, ht, hb⟩
            have HK3 := Lib.hid hb
            have HS4 := Lib.hid (Go.RowKit.Below.tr HS3.out hb (Nat.le_refl _))
            have HT6 := Lib.hid ht
            clear hb ht
            dsimp only
            refine hK.out _ _ HS4.out (fun _ => ?_)
            clear hK K
            try simp only [Act.put, List.setIfInBounds_toArray, List.set_cons_zero, List.set_cons_succ]
            have z5 := (HK3.out.block _ HL5.out).trans HZ5.out
            have z6 := ((Go.RowKit.Below.tr (Go.RowKit.Below.tr HK1.out HK2.out (Nat.le_refl _)) HK3.out (Nat.le_refl _)).block _ HL6.out).trans HZ6.out
            have hput := fun F hF => put_two (F := F) (hi5 := V2.heap.size) (hi6 := V4.heap.size) (lo5 := V1.heap.size) (lo6 := V3.heap.size) BX3.out.says BU3.out.says z5 z6 (HT5.out.below (Go.RowKit.Below.tr HK2.out HK3.out (Nat.le_refl _)) (fun _ h => h.2) (fun _ h => h)) (HT6.out.below (Below.refl V4.heap.size V4) (fun _ h => h.2) (fun _ h => h)) HS4.out (Nat.le_trans HS0.out.size (by have := HK0.out.size; have := HK1.out.size; have := HK2.out.size; have := HK3.out.size; have := HL5.out; have := HL6.out; omega)) (Nat.le_trans HS0.out.size (by have := HK0.out.size; have := HK1.out.size; have := HK2.out.size; have := HK3.out.size; have := HL5.out; have := HL6.out; omega)) (by have := HK0.out.size; have := HK1.out.size; have := HK2.out.size; have := HK3.out.size; have := HL5.out; have := HL6.out; omega) (by have := HK0.out.size; have := HK1.out.size; have := HK2.out.size; have := HK3.out.size; have := HL5.out; have := HL6.out; omega) (by have := HK0.out.size; have := HK1.out.size; have := HK2.out.size; have := HK3.out.size; have := HL5.out; have := HL6.out; omega) (by have := HK0.out.size; have := HK1.out.size; have := HK2.out.size; have := HK3.out.size; have := HL5.out; have := HL6.out; omega) (by have := HK0.out.size; have := HK1.out.size; have := HK2.out.size; have := HK3.out.size; have := HL5.out; have := HL6.out; omega) (by have := HK0.out.size; have := HK1.out.size; have := HK2.out.size; have := HK3.out.size; have := HL5.out; have := HL6.out; omega) (by have := HK0.out.size; have := HK1.out.size; have := HK2.out.size; have := HK3.out.size; have := HL5.out; have := HL6.out; omega) hF
            have HPUT := Lib.hid hput
            clear hput
            obtain ⟨z50, z51, z52, f50, f51, f52⟩ := zero_three z5
            refine wpAnyH_ready (rs := [6]) (by kernel_rfl) (by simp) ?_
            refine AllReadyH.cons (o := ⟨none, _, _, _, _, _⟩) rfl (fun K hK => ?_) AllReadyH.nil
            go_simp
            refine hK.out _ _ (put_half HS4.out (Nat.le_trans HS0.out.size (by have := HK0.out.size; have := HK1.out.size; have := HK2.out.size; have := HK3.out.size; have := HL5.out; have := HL6.out; omega))) (fun _ => ?_)
            clear hK K
            try simp only [Act.put, List.setIfInBounds_toArray, List.set_cons_zero, List.set_cons_succ]
            clear z50 z51 z52 f50 f51 f52
            have y6 := (set3_other (V := V4) (b := V2.heap.size) (v0 := .int .i64 k0) (v1 := .int .i64 n0) (v2 := .slice a5 m0 q5) (k := V0.heap.size) (by have := HK0.out.size; have := HK1.out.size; have := HK2.out.size; have := HK3.out.size; have := HL5.out; have := HL6.out; omega)).trans z6
            obtain ⟨V5, hV5⟩ : ∃ V, ((V4.setCell ⟨V2.heap.size, 0, none⟩ (.int .i64 k0)).setCell ⟨V2.heap.size, 1, none⟩ (.int .i64 n0)).setCell ⟨V2.heap.size, 2, none⟩ (.slice a5 m0 q5) = V := ⟨_, rfl⟩
            rw [hV5] at y6 ⊢
            have HPU2 := Lib.hid (HPUT.out _ (by rw [hV5]))
            obtain ⟨z60, z61, z62, f60, f61, f62⟩ := zero_three y6
            refine wpAnyH_ready (rs := [7]) (by kernel_rfl) (by simp) ?_
            refine AllReadyH.cons (o := ⟨none, _, _, _, _, _⟩) rfl (fun K hK => ?_) AllReadyH.nil
            go_simp
            refine hK.out _ _ HPU2.out.2.2 (fun _ => ?_)
            clear hK K
            try simp only [Act.put, List.setIfInBounds_toArray, List.set_cons_zero, List.set_cons_succ]
            refine wpAnyH_done (by kernel_rfl) ?_ _
            go_wp2_with fail
            go_meet
            case rel => exact ⟨_, _, _, _, _, _, rfl, rfl, HPU2.out.1, HPU2.out.2.1, HPU2.out.2.2⟩
        · skip
          go_simp
          refine hK.out _ _ (HS1.out.alloc HS1.out.size (.cells #[.int .i64 0, .int .i64 0, .slice none 0 0] 24)) (fun _ => ?_)
          clear hK K
          try simp only [Act.put, List.setIfInBounds_toArray, List.set_cons_zero, List.set_cons_succ]
          obtain ⟨V2, hV⟩ : ∃ V, V1.alloc (.cells #[.int .i64 0, .int .i64 0, .slice none 0 0] 24) = V := ⟨_, rfl⟩
          rw [hV]
          have HK1 := Lib.hid (show Below V1.heap.size V1 V2 by rw [← hV]; exact (Below.refl _ _).alloc (Nat.le_refl _) _)
          have HZ5 := Lib.hid (show V2.heap[V1.heap.size]? = some (.cells #[.int .i64 0, .int .i64 0, .slice none 0 0] 24) by rw [← hV]; exact World.alloc_heap_new _ _)
          have HL5 := Lib.hid (show V1.heap.size < V2.heap.size by rw [← hV, World.size_alloc]; omega)
          have HS2 := Lib.hid (Go.RowKit.Below.tr HS1.out HK1.out (Nat.le_refl _))
          clear hV
          refine wpAnyH_ready (rs := [1]) (by kernel_rfl) (by simp) ?_
          refine AllReadyH.cons (o := ⟨some 15, _, _, _, _, _⟩) rfl (fun K hK => ?_) AllReadyH.nil
          go_simp
          refine (HCT.out _ HS2.out).mono ?_
          rintro e V3 ⟨a5, q5, rfl, ht, hb⟩
          have HK2 := Lib.hid hb
          have HS3 := Lib.hid (Go.RowKit.Below.tr HS2.out hb (Nat.le_refl _))
          have HT5 := Lib.hid ht
          clear hb ht
          dsimp only
          refine hK.out _ _ HS3.out (fun _ => ?_)
          clear hK K
          try simp only [Act.put, List.setIfInBounds_toArray, List.set_cons_zero, List.set_cons_succ]
          refine wpAnyH_ready (rs := [3]) (by kernel_rfl) (by simp) ?_
          refine AllReadyH.cons (o := ⟨some 17, _, _, _, _, _⟩) rfl (fun K hK => ?_) AllReadyH.nil
          go_simp
          refine (HCU.out _ HS3.out).mono ?_
          rintro e V4 ⟨a6, q6, rfl, ht, hb⟩
          have HK3 := Lib.hid hb
          have HS4 := Lib.hid (Go.RowKit.Below.tr HS3.out hb (Nat.le_refl _))
          have HT6 := Lib.hid ht
          clear hb ht
          dsimp only
          refine hK.out _ _ HS4.out (fun _ => ?_)
          clear hK K
          try simp only [Act.put, List.setIfInBounds_toArray, List.set_cons_zero, List.set_cons_succ]
          have z5 := ((Go.RowKit.Below.tr HK2.out HK3.out (Nat.le_refl _)).block _ HL5.out).trans HZ5.out
          have z6 := ((Go.RowKit.Below.tr (Go.RowKit.Below.tr HK1.out HK2.out (Nat.le_refl _)) HK3.out (Nat.le_refl _)).block _ HL6.out).trans HZ6.out
          have hput := fun F hF => put_two (F := F) (hi5 := V3.heap.size) (hi6 := V4.heap.size) (lo5 := V2.heap.size) (lo6 := V3.heap.size) BX3.out.says BU3.out.says z5 z6 (HT5.out.below HK3.out (fun _ h => h.2) (fun _ h => h)) (HT6.out.below (Below.refl V4.heap.size V4) (fun _ h => h.2) (fun _ h => h)) HS4.out (Nat.le_trans HS0.out.size (by have := HK0.out.size; have := HK1.out.size; have := HK2.out.size; have := HK3.out.size; have := HL5.out; have := HL6.out; omega)) (Nat.le_trans HS0.out.size (by have := HK0.out.size; have := HK1.out.size; have := HK2.out.size; have := HK3.out.size; have := HL5.out; have := HL6.out; omega)) (by have := HK0.out.size; have := HK1.out.size; have := HK2.out.size; have := HK3.out.size; have := HL5.out; have := HL6.out; omega) (by have := HK0.out.size; have := HK1.out.size; have := HK2.out.size; have := HK3.out.size; have := HL5.out; have := HL6.out; omega) (by have := HK0.out.size; have := HK1.out.size; have := HK2.out.size; have := HK3.out.size; have := HL5.out; have := HL6.out; omega) (by have := HK0.out.size; have := HK1.out.size; have := HK2.out.size; have := HK3.out.size; have := HL5.out; have := HL6.out; omega) (by have := HK0.out.size; have := HK1.out.size; have := HK2.out.size; have := HK3.out.size; have := HL5.out; have := HL6.out; omega) (by have := HK0.out.size; have := HK1.out.size; have := HK2.out.size; have := HK3.out.size; have := HL5.out; have := HL6.out; omega) (by have := HK0.out.size; have := HK1.out.size; have := HK2.out.size; have := HK3.out.size; have := HL5.out; have := HL6.out; omega) hF
          have HPUT := Lib.hid hput
          clear hput
          obtain ⟨z50, z51, z52, f50, f51, f52⟩ := zero_three z5
          refine wpAnyH_ready (rs := [6]) (by kernel_rfl) (by simp) ?_
          refine AllReadyH.cons (o := ⟨none, _, _, _, _, _⟩) rfl (fun K hK => ?_) AllReadyH.nil
          go_simp
          refine hK.out _ _ (put_half HS4.out (Nat.le_trans HS0.out.size (by have := HK0.out.size; have := HK1.out.size; have := HK2.out.size; have := HK3.out.size; have := HL5.out; have := HL6.out; omega))) (fun _ => ?_)
          clear hK K
          try simp only [Act.put, List.setIfInBounds_toArray, List.set_cons_zero, List.set_cons_succ]
          clear z50 z51 z52 f50 f51 f52
          have y6 := (set3_other (V := V4) (b := V1.heap.size) (v0 := .int .i64 k0) (v1 := .int .i64 n0) (v2 := .slice a5 m0 q5) (k := V0.heap.size) (by have := HK0.out.size; have := HK1.out.size; have := HK2.out.size; have := HK3.out.size; have := HL5.out; have := HL6.out; omega)).trans z6
          obtain ⟨V5, hV5⟩ : ∃ V, ((V4.setCell ⟨V1.heap.size, 0, none⟩ (.int .i64 k0)).setCell ⟨V1.heap.size, 1, none⟩ (.int .i64 n0)).setCell ⟨V1.heap.size, 2, none⟩ (.slice a5 m0 q5) = V := ⟨_, rfl⟩
          rw [hV5] at y6 ⊢
          have HPU2 := Lib.hid (HPUT.out _ (by rw [hV5]))
          obtain ⟨z60, z61, z62, f60, f61, f62⟩ := zero_three y6
          refine wpAnyH_ready (rs := [7]) (by kernel_rfl) (by simp) ?_
          refine AllReadyH.cons (o := ⟨none, _, _, _, _, _⟩) rfl (fun K hK => ?_) AllReadyH.nil
          go_simp
          refine hK.out _ _ HPU2.out.2.2 (fun _ => ?_)
          clear hK K
          try simp only [Act.put, List.setIfInBounds_toArray, List.set_cons_zero, List.set_cons_succ]
          refine wpAnyH_done (by kernel_rfl) ?_ _
          go_wp2_with fail
          go_meet
          case rel => exact ⟨_, _, _, _, _, _, rfl, rfl, HPU2.out.1, HPU2.out.2.1, HPU2.out.2.2⟩
    case rest =>
    obtain ⟨p5, p6, a5, q5, a6, q6, rfl, rfl, b5, b6, hb⟩ := hcut
    have BA4 := Lib.hid (BX3.out.later hb); have BB4 := Lib.hid (BU3.out.later hb); have BX4 := Lib.hid b5; have BY4 := Lib.hid b6; have HB4 := Lib.hid (HB3.out.tr hb (Nat.le_refl _))
    clear b5 b6 hb HCELL HCT HCU
    obtain ⟨o, ho⟩ : ∃ o, Tp.ok t u = o := ⟨_, rfl⟩
    have HO := Lib.hid ho; clear ho
    go_upto_region 4 with fail
    go_cut [7] from 18 (fun v wx => v = .bool o ∧ Below wc.heap.size wc wx)
    case first =>
      obtain ⟨c0, c1, c2⟩ := BA4.out.cells
      go_wp2_with fail
      refine (rr_any BA4.out.says BA4.out.ty).mono ?_
      clear c0 c1 c2
      rintro e y1 ⟨rfl, hb⟩
      have HY1 := Lib.hid hb; have BA5 := Lib.hid (BA4.out.later hb); have BB5 := Lib.hid (BB4.out.later hb); clear hb
      obtain ⟨rt, hrt⟩ : ∃ r, Tp.right t = r := ⟨_, rfl⟩
      rw [hrt]
      have HRT := Lib.hid hrt; clear hrt
      cases rt with
      | false =>
        have HOF := Lib.hid (show o = false by rw [← HO.out]; unfold Tp.ok; rw [HRT.out]; rfl)
        go_wp2_with fail
        go_meet
        case rel => exact ⟨by rw [HOF.out], HY1.out⟩
      | true =>
        obtain ⟨d0, d1, d2⟩ := BB5.out.cells
        go_wp2_with fail
        refine (rr_any BB5.out.says BB5.out.ty).mono ?_
        clear d0 d1 d2
        rintro e y2 ⟨rfl, hb⟩
        have HY2 := Lib.hid (HY1.out.tr hb (Nat.le_refl _)); have BA6 := Lib.hid (BA5.out.later hb); have BB6 := Lib.hid (BB5.out.later hb); clear hb
        obtain ⟨ru, hru⟩ : ∃ r, Tp.right u = r := ⟨_, rfl⟩
        rw [hru]
        have HRU := Lib.hid hru; clear hru
        cases ru with
        | false =>
          have HOF := Lib.hid (show o = false by rw [← HO.out]; unfold Tp.ok; rw [HRT.out, HRU.out]; rfl)
          go_wp2_with fail
          go_meet
          case rel => exact ⟨by rw [HOF.out], HY2.out⟩
        | true =>
          have HOF := Lib.hid (show o = Tp.agree t u by rw [← HO.out]; unfold Tp.ok; rw [HRT.out, HRU.out]; rfl)
          obtain ⟨c0, c1, c2⟩ := BA6.out.cells
          obtain ⟨d0, d1, d2⟩ := BB6.out.cells
          go_wp2_with fail
          refine (ra_any BA6.out.says BB6.out.says HRT.out HRU.out BA6.out.ty BB6.out.ty).mono ?_
          rw [← HOF.out]
          clear c0 c1 c2 d0 d1 d2
          rintro e y3 ⟨rfl, hb⟩
          have HY3 := Lib.hid (HY2.out.tr hb (Nat.le_refl _)); clear hb
          go_wp2_with fail
          go_meet
          case rel => exact ⟨rfl, HY3.out⟩
    case rest =>
    obtain ⟨rfl, hb⟩ := hcut
    have BA5 := Lib.hid (BA4.out.later hb); have BB5 := Lib.hid (BB4.out.later hb); have BX5 := Lib.hid (BX4.out.later hb); have BY5 := Lib.hid (BY4.out.later hb); have HB5 := Lib.hid (HB4.out.tr hb (Nat.le_refl _))
    clear hb
    go_upto_region 5 with fail
    obtain ⟨c0, c1, c2⟩ := BX5.out.cells
    obtain ⟨d0, d1, d2⟩ := BY5.out.cells
    go_wp2_with fail
    refine (mt_any BX5.out.says BY5.out.says BX5.out.ty BY5.out.ty HST.out HSU.out).mono ?_
    clear c0 c1 c2 d0 d1 d2
    rintro e w6 ⟨km, nm, mm, am, qm, hvm, rfl, tym, hb⟩
    rw [HO.out]
    obtain ⟨W7, hW7⟩ : ∃ W7, w6.alloc (.cells #[.int .i64 km, .int .i64 nm, .slice am mm qm] 24) = W7 := ⟨_, rfl⟩
    have hb7 : Below w6.heap.size w6 W7 := by rw [← hW7]; exact (Below.refl _ _).alloc (Nat.le_refl _) _
    have hbb := hb.tr hb7 (Nat.le_refl _)
    have BM7 := Lib.hid (show BoxT W7 w6.heap.size (Mt t u) km nm mm am qm from ⟨hvm, by rw [← hW7]; exact World.alloc_heap_new w6 _, ty_later tym hb7⟩)
    have BA7 := Lib.hid (BA5.out.later hbb); have BB7 := Lib.hid (BB5.out.later hbb); have BX7 := Lib.hid (BX5.out.later hbb); have BY7 := Lib.hid (BY5.out.later hbb); have HB7 := Lib.hid (HB5.out.tr hbb (Nat.le_refl _)); have HW7 := Lib.hid hW7
    clear hW7 hb7 hbb hvm tym hb
    have HATU := Lib.hid (fun x (h : Below W7.heap.size W7 x) => ag_any (w := x) (BX7.out.later h).says (BY7.out.later h).says (BX7.out.later h).ty (BY7.out.later h).ty HST.out HSU.out)
    have HSXA := Lib.hid (fun x (h : Below W7.heap.size W7 x) => ks_any (w := x) (BX7.out.later h).says (BA7.out.later h).says (BX7.out.later h).ty (BA7.out.later h).ty)
    have HSYB := Lib.hid (fun x (h : Below W7.heap.size W7 x) => ks_any (w := x) (BY7.out.later h).says (BB7.out.later h).says (BY7.out.later h).ty (BB7.out.later h).ty)
    have HWAK := Lib.hid (fun x (_ : Below W7.heap.size W7 x) => wakes_any x)
    have HCELL := Lib.hid (fun x (h : Below W7.heap.size W7 x) => (⟨(BA7.out.later h).cells, (BB7.out.later h).cells, (BX7.out.later h).cells, (BY7.out.later h).cells, (BM7.out.later h).cells⟩ : _ ∧ _ ∧ _ ∧ _ ∧ _))
    rw [HO.out] at HATU
    rw [Tp.same_refl t] at HSXA
    rw [Tp.same_refl u] at HSYB
    go_upto_region 6 with fail
    rw [HW7.out]
    have HY0 := Lib.hid (Below.refl W7.heap.size W7)
    obtain ⟨⟨c0, c1, c2⟩, ⟨d0, d1, d2⟩, ⟨e0, e1, e2⟩, ⟨g0, g1, g2⟩, ⟨h0, h1, h2⟩⟩ := HCELL.out _ HY0.out
    cases o with
    | false =>
      go_wp2_with fail
      refine (HATU.out _ HY0.out).mono ?_
      clear c0 c1 c2 d0 d1 d2 e0 e1 e2 g0 g1 g2 h0 h1 h2
      rintro e y1 ⟨rfl, hb⟩
      have HY1 := Lib.hid (HY0.out.tr hb (Nat.le_refl _)); clear hb
      obtain ⟨⟨c0, c1, c2⟩, ⟨d0, d1, d2⟩, ⟨e0, e1, e2⟩, ⟨g0, g1, g2⟩, ⟨h0, h1, h2⟩⟩ := HCELL.out _ HY1.out
      go_wp2_with fail
      refine (HSXA.out _ HY1.out).mono ?_
      clear c0 c1 c2 d0 d1 d2 e0 e1 e2 g0 g1 g2 h0 h1 h2
      rintro e y2 ⟨rfl, hb⟩
      have HY2 := Lib.hid (HY1.out.tr hb (Nat.le_refl _)); clear hb
      obtain ⟨⟨c0, c1, c2⟩, ⟨d0, d1, d2⟩, ⟨e0, e1, e2⟩, ⟨g0, g1, g2⟩, ⟨h0, h1, h2⟩⟩ := HCELL.out _ HY2.out
      go_wp2_with fail
      refine (HSYB.out _ HY2.out).mono ?_
      clear c0 c1 c2 d0 d1 d2 e0 e1 e2 g0 g1 g2 h0 h1 h2
      rintro e y3 ⟨rfl, hb⟩
      have HY3 := Lib.hid (HY2.out.tr hb (Nat.le_refl _)); clear hb
      obtain ⟨⟨c0, c1, c2⟩, ⟨d0, d1, d2⟩, ⟨e0, e1, e2⟩, ⟨g0, g1, g2⟩, ⟨h0, h1, h2⟩⟩ := HCELL.out _ HY3.out
      have hm0 : Mt t u = .mk 0 0 [] := by unfold Mt; rw [if_neg (by rw [HO.out]; decide)]
      have hsm := BM7.out.says
      rw [hm0] at hsm
      obtain ⟨rfl, rfl, rfl⟩ := hsm
      go_upto_region 9 with fail
      go_wp2_with fail
      refine (HWAK.out _ HY3.out).mono ?_
      clear c0 c1 c2 d0 d1 d2 e0 e1 e2 g0 g1 g2 h0 h1 h2
      rintro e y4 ⟨rfl, hb⟩
      have HY4 := Lib.hid (HY3.out.tr hb (Nat.le_refl _)); clear hb
      go_wp2_with fail
      go_ret
      exact ⟨rfl, HB7.out.tr HY4.out (Nat.le_refl _)⟩
    | true =>
      go_wp2_with fail
      refine (HATU.out _ HY0.out).mono ?_
      clear c0 c1 c2 d0 d1 d2 e0 e1 e2 g0 g1 g2 h0 h1 h2
      rintro e y1 ⟨rfl, hb⟩
      have HY1 := Lib.hid (HY0.out.tr hb (Nat.le_refl _)); clear hb
      obtain ⟨⟨c0, c1, c2⟩, ⟨d0, d1, d2⟩, ⟨e0, e1, e2⟩, ⟨g0, g1, g2⟩, ⟨h0, h1, h2⟩⟩ := HCELL.out _ HY1.out
      go_wp2_with fail
      refine (HSXA.out _ HY1.out).mono ?_
      clear c0 c1 c2 d0 d1 d2 e0 e1 e2 g0 g1 g2 h0 h1 h2
      rintro e y2 ⟨rfl, hb⟩
      have HY2 := Lib.hid (HY1.out.tr hb (Nat.le_refl _)); clear hb
      obtain ⟨⟨c0, c1, c2⟩, ⟨d0, d1, d2⟩, ⟨e0, e1, e2⟩, ⟨g0, g1, g2⟩, ⟨h0, h1, h2⟩⟩ := HCELL.out _ HY2.out
      go_wp2_with fail
      refine (HSYB.out _ HY2.out).mono ?_
      clear c0 c1 c2 d0 d1 d2 e0 e1 e2 g0 g1 g2 h0 h1 h2
      rintro e y3 ⟨rfl, hb⟩
      have HY3 := Lib.hid (HY2.out.tr hb (Nat.le_refl _)); clear hb
      obtain ⟨⟨c0, c1, c2⟩, ⟨d0, d1, d2⟩, ⟨e0, e1, e2⟩, ⟨g0, g1, g2⟩, ⟨h0, h1, h2⟩⟩ := HCELL.out _ HY3.out
      clear c0 c1 c2 d0 d1 d2 e0 e1 e2 g0 g1 g2 h0 h1 h2
      go_upto_region 10 with fail
      have HBd := Lib.hid (HY3.out.drew)
      obtain ⟨⟨c0, c1, c2⟩, ⟨d0, d1, d2⟩, -, -, ⟨h0, h1, h2⟩⟩ := HCELL.out _ HBd.out
      refine wp_region_seq [(0, false), (0, false), (0, false), (0, true), (0, true), (0, false), (0, true), (0, false), (0, false)] (by kernel_rfl) (by kernel_rfl) (by kernel_rfl) (fun _ _ _ d _ h => by cases d <;> exact h) ?_
      repeat
        first
        | (first | with_reducible refine sp0 (fun K hK => ?_) | with_reducible refine sp1 (fun K hK => ?_) | with_reducible refine sp2 (fun K hK => ?_) | with_reducible refine sp3 (fun K hK => ?_) | with_reducible refine sp4 (fun K hK => ?_)
           go_simp
           first
           | (with_reducible refine hK _ _ ?_; clear hK K)
           | (with_reducible apply Exists.intro
              refine ⟨fun x hx => ?_, hK _ _ ?_⟩
              first
                | (with_reducible exact rfl)
                | (have y0 := keepc hx c0; have y1 := keepc hx c1; have y2 := keepc hx c2; have y3 := keepc hx d0; have y4 := keepc hx d1; have y5 := keepc hx d2; have y6 := keepc hx h0; have y7 := keepc hx h1; have y8 := keepc hx h2; go_simp; done)
                | (have y0 := keepc hx c0; have y1 := keepc hx c1; have y2 := keepc hx c2; have y3 := keepc hx d0; have y4 := keepc hx d1; have y5 := keepc hx d2; have y6 := keepc hx h0; have y7 := keepc hx h1; have y8 := keepc hx h2; go_simp; with_reducible exact rfl)
              clear hK K))
        | (first | with_reducible refine sk0 ?_ (fun K hK => ?_) | with_reducible refine sk1 ?_ (fun K hK => ?_) | with_reducible refine sk2 ?_ (fun K hK => ?_) | with_reducible refine sk3 ?_ (fun K hK => ?_) | with_reducible refine sk4 ?_ (fun K hK => ?_)
           rfl
           go_simp
           with_reducible refine hK _ _ ?_
           clear hK K)
      first | with_reducible refine sc0 (fun K hK => ?_) | with_reducible refine sc1 (fun K hK => ?_) | with_reducible refine sc2 (fun K hK => ?_) | with_reducible refine sc3 (fun K hK => ?_) | with_reducible refine sc4 (fun K hK => ?_)
      go_simp
      refine (rm_any (BA7.out.later HBd.out).says (BB7.out.later HBd.out).says HO.out (BA7.out.later HBd.out).ty (BB7.out.later HBd.out).ty HST.out).mono ?_
      clear c0 c1 c2 d0 d1 d2 h0 h1 h2
      rintro e y4 ⟨k2, n2, m2, a2, c2, hv2, rfl, ty2, hb⟩
      have HY4 := Lib.hid (HBd.out.tr hb (Nat.le_refl _))
      have hks := ks_any (BM7.out.later HY4.out).says hv2 (BM7.out.later HY4.out).ty ty2
      rw [Tp.same_refl] at hks
      have HKS := Lib.hid hks
      refine ⟨hb, hK _ _ ?_⟩
      clear hK K
      clear hb hv2 ty2 hks
      repeat
        first
        | (first | with_reducible refine sp0 (fun K hK => ?_) | with_reducible refine sp1 (fun K hK => ?_) | with_reducible refine sp2 (fun K hK => ?_) | with_reducible refine sp3 (fun K hK => ?_) | with_reducible refine sp4 (fun K hK => ?_)
           go_simp
           first
           | (with_reducible refine hK _ _ ?_; clear hK K)
           | (with_reducible apply Exists.intro
              refine ⟨fun x hx => ?_, hK _ _ ?_⟩
              first
                | (with_reducible exact rfl)
              clear hK K))
        | (first | with_reducible refine sk0 ?_ (fun K hK => ?_) | with_reducible refine sk1 ?_ (fun K hK => ?_) | with_reducible refine sk2 ?_ (fun K hK => ?_) | with_reducible refine sk3 ?_ (fun K hK => ?_) | with_reducible refine sk4 ?_ (fun K hK => ?_)
           rfl
           go_simp
           with_reducible refine hK _ _ ?_
           clear hK K)
      first | with_reducible refine sc0 (fun K hK => ?_) | with_reducible refine sc1 (fun K hK => ?_) | with_reducible refine sc2 (fun K hK => ?_) | with_reducible refine sc3 (fun K hK => ?_) | with_reducible refine sc4 (fun K hK => ?_)
      go_simp
      refine (HKS.out).mono ?_
      rintro e y5 ⟨rfl, hb⟩
      have HY5 := Lib.hid (HY4.out.tr hb (Nat.le_refl _))
      refine ⟨hb, hK _ _ ?_⟩
      clear hK K
      clear hb
      repeat
        first
        | (first | with_reducible refine sp0 (fun K hK => ?_) | with_reducible refine sp1 (fun K hK => ?_) | with_reducible refine sp2 (fun K hK => ?_) | with_reducible refine sp3 (fun K hK => ?_) | with_reducible refine sp4 (fun K hK => ?_)
           go_simp
           first
           | (with_reducible refine hK _ _ ?_; clear hK K)
           | (with_reducible apply Exists.intro
              refine ⟨fun x hx => ?_, hK _ _ ?_⟩
              first
                | (with_reducible exact rfl)
              clear hK K))
        | (first | with_reducible refine sk0 ?_ (fun K hK => ?_) | with_reducible refine sk1 ?_ (fun K hK => ?_) | with_reducible refine sk2 ?_ (fun K hK => ?_) | with_reducible refine sk3 ?_ (fun K hK => ?_) | with_reducible refine sk4 ?_ (fun K hK => ?_)
           rfl
           go_simp
           with_reducible refine hK _ _ ?_
           clear hK K)
      first | with_reducible refine sc0 (fun K hK => ?_) | with_reducible refine sc1 (fun K hK => ?_) | with_reducible refine sc2 (fun K hK => ?_) | with_reducible refine sc3 (fun K hK => ?_) | with_reducible refine sc4 (fun K hK => ?_)
      go_simp
      refine (HWAK.out _ HY5.out).mono ?_
      rintro e y6 ⟨rfl, hb⟩
      have HY6 := Lib.hid (HY5.out.tr hb (Nat.le_refl _))
      refine ⟨hb, hK _ _ ?_⟩
      clear hK K
      clear hb
      repeat
        first
        | (first | with_reducible refine sp0 (fun K hK => ?_) | with_reducible refine sp1 (fun K hK => ?_) | with_reducible refine sp2 (fun K hK => ?_) | with_reducible refine sp3 (fun K hK => ?_) | with_reducible refine sp4 (fun K hK => ?_)
           go_simp
           first
           | (with_reducible refine hK _ _ ?_; clear hK K)
           | (with_reducible apply Exists.intro
              refine ⟨fun x hx => ?_, hK _ _ ?_⟩
              first
                | (with_reducible exact rfl)
              clear hK K))
        | (first | with_reducible refine sk0 ?_ (fun K hK => ?_) | with_reducible refine sk1 ?_ (fun K hK => ?_) | with_reducible refine sk2 ?_ (fun K hK => ?_) | with_reducible refine sk3 ?_ (fun K hK => ?_) | with_reducible refine sk4 ?_ (fun K hK => ?_)
           rfl
           go_simp
           with_reducible refine hK _ _ ?_
           clear hK K)
      with_reducible refine seq_nil ?_
      go_wp2_with fail
      go_ret
      exact ⟨rfl, HB7.out.tr HY6.out (Nat.le_refl _)⟩
end Go.Proofs.Ytopfdggbkckeoaa
