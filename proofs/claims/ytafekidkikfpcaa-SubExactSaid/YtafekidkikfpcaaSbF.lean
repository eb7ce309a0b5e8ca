/- The law SubExact: its walk. SubExact: whatever the input, the law returns true, and the arguments read as they did. -/
import Derived.Test.YtafekidkikfpcaaSbE
import Derived.Test.YtafekidkikfpcaaSbK
import Derived.Test.YtafekidkikfpcaaTkB
import Derived.Deep.RegionLaw
import Derived.Deep.DeepCutAuto
import Derived.Deep.CutRange
import Derived.Test.YtafekidkikfpcaaRows
import Derived.ProofKit
import Derived.Carry
namespace Go.Proofs.Ytafekidkikfpcaa
open Go Go.RowKit
open Tp (T Md)

theorem copy_any {t : T} {k n : Int} {m : Nat} {a : Option Addr} {c : Nat} {w : World} (hv : TV t k n m) (h : Tp.size t ≤ 10000) (hty : TyAt (LT w.heap.size) w t a c) :
    Calls Try.prog 10 #[.agg #[.int .i64 k, .int .i64 n, .slice a m c]] w fun e w' => ∃ a' c', e = .returned (.agg #[.int .i64 k, .int .i64 n, .slice a' m c']) ∧ TyAt (fun b => w.heap.size ≤ b ∧ b < w'.heap.size) w' t a' c' ∧ Below w.heap.size w w' := by
  have hk := ktype_any (Tp.size t) t a c w (Nat.le_refl _) h hty
  rw [tv_of hv] at hk
  refine hk.mono fun _ _ ⟨a', c', _, h1, h2, h3, h4, h5, h6⟩ => ?_
  rw [tv_of hv] at h1
  exact ⟨a', c', h1, TyPost.ty h2 h3 h4 h5, h6⟩

theorem rr_any {t : T} {k n : Int} {m : Nat} {a : Option Addr} {c : Nat} {w : World} (hv : TV t k n m) (ht : TyAt (LT w.heap.size) w t a c) :
    Calls Try.prog 11 #[.agg #[.int .i64 k, .int .i64 n, .slice a m c]] w fun e w' => e = .returned (.bool (Tp.right t)) ∧ Below w.heap.size w w' := by
  rw [← tv_of hv]
  exact rright_any _ t a c w (Nat.le_refl _) ht
/-- A box of zeros is written. -/
theorem put_half {B : Nat} {W y : World} {bb : Nat} {v0 v1 v2 : Value} (hB : Below B W y) (hbb : B ≤ bb) : Below B W (((y.setCell ⟨bb, 0, none⟩ v0).setCell ⟨bb, 1, none⟩ v1).setCell ⟨bb, 2, none⟩ v2) :=
  ((hB.setCell hbb _).setCell hbb _).setCell hbb _
/-- Two boxes of zeros are written: what lies beside them stays. -/
theorem put_two {B : Nat} {W y F : World} {p5 p6 lo5 hi5 lo6 hi6 : Nat} {t u : T} {k n k' n' : Int} {l l' : Nat} {a a' : Option Addr} {c c' : Nat} (hv : TV t k n l) (hv' : TV u k' n' l') (z5 : y.heap[p5]? = some (.cells #[.int .i64 0, .int .i64 0, .slice none 0 0] 24 (0, 0))) (z6 : y.heap[p6]? = some (.cells #[.int .i64 0, .int .i64 0, .slice none 0 0] 24 (0, 0)))
    (h5 : TyAt (fun b => lo5 ≤ b ∧ b < hi5) y t a c) (h6 : TyAt (fun b => lo6 ≤ b ∧ b < hi6) y u a' c') (hB : Below B W y) (hp5 : B ≤ p5) (hp6 : B ≤ p6) (hne : p6 ≠ p5) (q5 : hi5 ≤ y.heap.size) (q6 : hi6 ≤ y.heap.size) (r5 : p5 < lo5 ∨ hi5 ≤ p5) (r6 : p6 < lo5 ∨ hi5 ≤ p6) (s5 : p5 < lo6 ∨ hi6 ≤ p5) (s6 : p6 < lo6 ∨ hi6 ≤ p6)
    (hF : ((((((y.setCell ⟨p5, 0, none⟩ (.int .i64 k)).setCell ⟨p5, 1, none⟩ (.int .i64 n)).setCell ⟨p5, 2, none⟩ (.slice a l c)).setCell ⟨p6, 0, none⟩ (.int .i64 k')).setCell ⟨p6, 1, none⟩ (.int .i64 n')).setCell ⟨p6, 2, none⟩ (.slice a' l' c')) = F) : BoxT F p5 t k n l a c ∧ BoxT F p6 u k' n' l' a' c' ∧ Below B W F := by
  have hz : F.heap.size = y.heap.size := by rw [← hF]; simp only [size_setCell]
  have hO : ∀ j, j ≠ p5 → j ≠ p6 → F.heap[j]? = y.heap[j]? := fun j h1 h2 => by rw [← hF]; exact (set3_other h2).trans (set3_other h1)
  have b5 : F.heap[p5]? = some (.cells #[.int .i64 k, .int .i64 n, .slice a l c] 24 (0, 0)) := by rw [← hF]; exact (set3_other (fun h => hne h.symm)).trans (box_set3 z5)
  have b6 : F.heap[p6]? = some (.cells #[.int .i64 k', .int .i64 n', .slice a' l' c'] 24 (0, 0)) := by rw [← hF]; exact box_set3 ((set3_other hne).trans z6)
  refine ⟨⟨hv, b5, ty_same (fun j hj => hO j (by omega) (by omega)) (fun j hj => (show j < F.heap.size by omega)) h5⟩, ⟨hv', b6, ty_same (fun j hj => hO j (by omega) (by omega)) (fun j hj => (show j < F.heap.size by omega)) h6⟩, ?_⟩
  rw [← hF]
  exact (((((hB.setCell hp5 _).setCell hp5 _).setCell hp5 _).setCell hp6 _).setCell hp6 _).setCell hp6 _

theorem rsp_any {t u : T} {k n k' n' : Int} {m m' : Nat} {a a' : Option Addr} {c c' : Nat} {w : World} (hv : TV t k n m) (hv' : TV u k' n' m') (hr : Tp.right t = true) (hr' : Tp.right u = true) (ht : TyAt (LT w.heap.size) w t a c) (hu : TyAt (LT w.heap.size) w u a' c') :
    Calls Try.prog 13 #[.agg #[.int .i64 k, .int .i64 n, .slice a m c], .agg #[.int .i64 k', .int .i64 n', .slice a' m' c'], .bool false] w fun e w' => e = .returned (.bool (Tp.sd .p t u)) ∧ Below w.heap.size w w' := by
  rw [← tv_of hv, ← tv_of hv']
  exact rside_any _ false t u a c a' c' w (Nat.lt_succ_self _) hr hr' ht hu
theorem rsn_any {t u : T} {k n k' n' : Int} {m m' : Nat} {a a' : Option Addr} {c c' : Nat} {w : World} (hv : TV t k n m) (hv' : TV u k' n' m') (hr : Tp.right t = true) (hr' : Tp.right u = true) (ht : TyAt (LT w.heap.size) w t a c) (hu : TyAt (LT w.heap.size) w u a' c') :
    Calls Try.prog 13 #[.agg #[.int .i64 k, .int .i64 n, .slice a m c], .agg #[.int .i64 k', .int .i64 n', .slice a' m' c'], .bool true] w fun e w' => e = .returned (.bool (Tp.sd .n t u)) ∧ Below w.heap.size w w' := by
  rw [← tv_of hv, ← tv_of hv']
  exact rside_any _ true t u a c a' c' w (Nat.lt_succ_self _) hr hr' ht hu
theorem rss_any {t u : T} {k n k' n' : Int} {m m' : Nat} {a a' : Option Addr} {c c' : Nat} {w : World} (hv : TV t k n m) (hv' : TV u k' n' m') (hr : Tp.right t = true) (hr' : Tp.right u = true) (ht : TyAt (LT w.heap.size) w t a c) (hu : TyAt (LT w.heap.size) w u a' c') :
    Calls Try.prog 16 #[.agg #[.int .i64 k, .int .i64 n, .slice a m c], .agg #[.int .i64 k', .int .i64 n', .slice a' m' c']] w fun e w' => e = .returned (.bool (Tp.sd .s t u)) ∧ Below w.heap.size w w' := by
  rw [← tv_of hv, ← tv_of hv']
  exact rsub_any _ t u a c a' c' w (Nat.lt_succ_self _) hr hr' ht hu
set_option maxRecDepth 100000 in
set_option maxHeartbeats 8000000 in
theorem lexact10_any (t : T) (a : Option Addr) (cap : Nat) (u : T) (b : Option Addr) (cap' : Nat) (w : World) (hty : TyAt (LT w.heap.size) w t a cap) (hty' : TyAt (LT w.heap.size) w u b cap') :
    Calls Try.prog 3 #[tv t a cap, tv u b cap'] w fun e w' => e = .returned (.bool true) ∧ Below w.heap.size w w' := by
  obtain ⟨k0, n0, m0, hv⟩ := TV.mk t
  obtain ⟨k9, n9, m9, hv'⟩ := TV.mk u
  rw [tv_of hv, tv_of hv']
  obtain ⟨W2, hW2⟩ : ∃ W2, (w.alloc (.cells #[.int .i64 k0, .int .i64 n0, .slice a m0 cap] 24)).alloc (.cells #[.int .i64 k9, .int .i64 n9, .slice b m9 cap'] 24) = W2 := ⟨_, rfl⟩
  have hb2 : Below w.heap.size w W2 := by rw [← hW2]; exact ((Below.refl _ _).alloc (Nat.le_refl _) _).alloc (by simp) _
  have hs2 : W2.heap.size = w.heap.size + 2 := by rw [← hW2]; simp
  have bx : BoxT W2 w.heap.size t k0 n0 m0 a cap := ⟨hv, by rw [← hW2]; exact box1 _ _ _ _ _, ty_later hty hb2⟩
  have bu : BoxT W2 (w.heap.size + 1) u k9 n9 m9 b cap' := ⟨hv', by rw [← hW2]; exact box2 _ _ _ _ _, ty_later hty' hb2⟩
  obtain ⟨rr, hrr⟩ : ∃ r, decide (600 < Tp.sizes [t, u]) = r := ⟨_, rfl⟩
  have hri := heavy_any [t, u] (some ⟨W2.heap.size, 0, none⟩) 2 _ (by simp) (row_two bx.ty bu.ty hv.1 hv.2.1 hv.2.2 hv'.1 hv'.2.1 hv'.2.2)
  rw [hrr] at hri
  have HRI := Lib.hid hri; have HRR := Lib.hid hrr; have HB2 := Lib.hid hb2; have HS2 := Lib.hid hs2; have HW2 := Lib.hid hW2; have BX := Lib.hid bx; have BU := Lib.hid bu
  clear hri hrr hb2 hs2 hW2 hty hty' hv hv'
  go_enter Try.func3, Try.ntmps3
  go_upto_region 1 with fail
  rw [HW2.out]
  obtain ⟨c0, c1, c2⟩ := bx.cells
  obtain ⟨d0, d1, d2⟩ := bu.cells
  clear bx bu
  go_wp2_with fail
  refine HRI.out.mono ?_
  clear c0 c1 c2 d0 d1 d2
  rintro e w3 ⟨rfl, hb3⟩
  have hb23 : Below W2.heap.size W2 w3 := ((Below.refl _ _).alloc (Nat.le_refl _) _).tr hb3 (Nat.le_refl _)
  have BX3 := Lib.hid (BX.out.later hb23); have BU3 := Lib.hid (BU.out.later hb23); have HB3 := Lib.hid (HB2.out.tr hb23 (Nat.le_refl _))
  clear hb3 hb23
  cases rr with
  | true =>
    go_wp2_with fail
    go_ret
    exact ⟨rfl, HB3.out⟩
  | false =>
    have hsz : Tp.size t + Tp.size u ≤ 600 := by have := of_decide_eq_false HRR.out; simp only [Tp.sizes] at this; omega
    have HST := Lib.hid (show Tp.size t ≤ 10000 by omega); have HSU := Lib.hid (show Tp.size u ≤ 10000 by omega)
    clear hsz
    have HCELL := Lib.hid (fun x (h : Below w3.heap.size w3 x) => (⟨(BX3.out.later h).cells, (BU3.out.later h).cells⟩ : _ ∧ _))
    have HCT := Lib.hid (fun x (h : Below w3.heap.size w3 x) => copy_any (w := x) (BX3.out.later h).says HST.out (BX3.out.later h).ty)
    have HCU := Lib.hid (fun x (h : Below w3.heap.size w3 x) => copy_any (w := x) (BU3.out.later h).says HSU.out (BU3.out.later h).ty)
    go_upto_region 3 with fail
    go_cut [5, 6] from 12 (fun v5 v6 wx => ∃ p5 p6 a5 q5 a6 q6, v5 = .pointer (some ⟨p5, 0, none⟩) ∧ v6 = .pointer (some ⟨p6, 0, none⟩) ∧ BoxT wx p5 t k0 n0 m0 a5 q5 ∧ BoxT wx p6 u k9 n9 m9 a6 q6 ∧ Below w3.heap.size w3 wx)
    case first =>
      obtain ⟨V0, hV0⟩ : ∃ V, w3.drew = V := ⟨_, rfl⟩
      have HS0 := Lib.hid (show Below w3.heap.size w3 V0 by rw [← hV0]; exact (Below.refl _ _).drew)
      refine wp_region_held_drew (S := Below w3.heap.size w3) (by kernel_rfl) (Below.refl _ _).drew (fun _ => ?_)
      rw [hV0]
      clear hV0
      refine wpAnyH_take (i := 0) (oi := ⟨some 12, _, _, _, _, _⟩) (v := ?_) rfl (by kernel_rfl) (by kernel_rfl) (by kernel_rfl) (fun _ _ _ h => h) (Or.inl ⟨by rfl, ?_⟩) HS0.out ?_
      rotate_left
      · (intro xx hSw; obtain ⟨⟨c0, c1, c2⟩, ⟨d0, d1, d2⟩⟩ := HCELL.out _ hSw; go_simp; (try with_reducible rfl))
      try simp only [Act.put, List.setIfInBounds_toArray, List.set_cons_zero, List.set_cons_succ]
      refine wpAnyH_take (i := 2) (oi := ⟨some 14, _, _, _, _, _⟩) (v := ?_) rfl (by kernel_rfl) (by kernel_rfl) (by kernel_rfl) (fun _ _ _ h => h) (Or.inl ⟨by rfl, ?_⟩) HS0.out ?_
      rotate_left
      · (intro xx hSw; obtain ⟨⟨c0, c1, c2⟩, ⟨d0, d1, d2⟩⟩ := HCELL.out _ hSw; go_simp; (try with_reducible rfl))
      try simp only [Act.put, List.setIfInBounds_toArray, List.set_cons_zero, List.set_cons_succ]
      refine wpAnyH_ready (rs := [1, 4, 5]) (by kernel_rfl) (by simp) ?_
      refine AllReadyH.cons (o := ⟨some 13, _, _, _, _, _⟩) rfl (fun K hK => ?_) (AllReadyH.cons (o := ⟨some 5, _, _, _, _, _⟩) rfl (fun K hK => ?_) (AllReadyH.cons (o := ⟨some 6, _, _, _, _, _⟩) rfl (fun K hK => ?_) AllReadyH.nil))
      · skip
        go_simp
        refine (HCT.out _ HS0.out).mono ?_
        rintro e V1 ⟨a5, q5, rfl, ht, hb⟩
        have HK0 := Lib.hid hb
        have HS1 := Lib.hid (Go.RowKit.Below.tr HS0.out hb (Nat.le_refl _))
        have HT5 := Lib.hid ht
        clear hb ht
        dsimp only
        refine hK.out _ _ HS1.out (fun _ => ?_)
        clear hK K
        try simp only [Act.put, List.setIfInBounds_toArray, List.set_cons_zero, List.set_cons_succ]
        refine wpAnyH_ready (rs := [3, 4, 5]) (by kernel_rfl) (by simp) ?_
        refine AllReadyH.cons (o := ⟨some 15, _, _, _, _, _⟩) rfl (fun K hK => ?_) (AllReadyH.cons (o := ⟨some 5, _, _, _, _, _⟩) rfl (fun K hK => ?_) (AllReadyH.cons (o := ⟨some 6, _, _, _, _, _⟩) rfl (fun K hK => ?_) AllReadyH.nil))
        · skip
          go_simp
          refine (HCU.out _ HS1.out).mono ?_
          rintro e V2 ⟨a6, q6, rfl, ht, hb⟩
          have HK1 := Lib.hid hb
          have HS2 := Lib.hid (Go.RowKit.Below.tr HS1.out hb (Nat.le_refl _))
          have HT6 := Lib.hid ht
          clear hb ht
          dsimp only
          refine hK.out _ _ HS2.out (fun _ => ?_)
          clear hK K
          try simp only [Act.put, List.setIfInBounds_toArray, List.set_cons_zero, List.set_cons_succ]
          refine wpAnyH_ready (rs := [4, 5]) (by kernel_rfl) (by simp) ?_
          refine AllReadyH.cons (o := ⟨some 5, _, _, _, _, _⟩) rfl (fun K hK => ?_) (AllReadyH.cons (o := ⟨some 6, _, _, _, _, _⟩) rfl (fun K hK => ?_) AllReadyH.nil)
          · skip
            go_simp
            refine hK.out _ _ (HS2.out.alloc HS2.out.size (.cells #[.int .i64 0, .int .i64 0, .slice none 0 0] 24)) (fun _ => ?_)
            clear hK K
            try simp only [Act.put, List.setIfInBounds_toArray, List.set_cons_zero, List.set_cons_succ]
            obtain ⟨V3, hV⟩ : ∃ V, V2.alloc (.cells #[.int .i64 0, .int .i64 0, .slice none 0 0] 24) = V := ⟨_, rfl⟩
            rw [hV]
            have HK2 := Lib.hid (show Below V2.heap.size V2 V3 by rw [← hV]; exact (Below.refl _ _).alloc (Nat.le_refl _) _)
            have HZ5 := Lib.hid (show V3.heap[V2.heap.size]? = some (.cells #[.int .i64 0, .int .i64 0, .slice none 0 0] 24) by rw [← hV]; exact World.alloc_heap_new _ _)
            have HL5 := Lib.hid (show V2.heap.size < V3.heap.size by rw [← hV, World.size_alloc]; omega)
            have HS3 := Lib.hid (Go.RowKit.Below.tr HS2.out HK2.out (Nat.le_refl _))
            clear hV
            refine wpAnyH_ready (rs := [5]) (by kernel_rfl) (by simp) ?_
            refine AllReadyH.cons (o := ⟨some 6, _, _, _, _, _⟩) rfl (fun K hK => ?_) AllReadyH.nil
            go_simp
            refine hK.out _ _ (HS3.out.alloc HS3.out.size (.cells #[.int .i64 0, .int .i64 0, .slice none 0 0] 24)) (fun _ => ?_)
            clear hK K
            try simp only [Act.put, List.setIfInBounds_toArray, List.set_cons_zero, List.set_cons_succ]
            obtain ⟨V4, hV⟩ : ∃ V, V3.alloc (.cells #[.int .i64 0, .int .i64 0, .slice none 0 0] 24) = V := ⟨_, rfl⟩
            rw [hV]
            have HK3 := Lib.hid (show Below V3.heap.size V3 V4 by rw [← hV]; exact (Below.refl _ _).alloc (Nat.le_refl _) _)
            have HZ6 := Lib.hid (show V4.heap[V3.heap.size]? = some (.cells #[.int .i64 0, .int .i64 0, .slice none 0 0] 24) by rw [← hV]; exact World.alloc_heap_new _ _)
            have HL6 := Lib.hid (show V3.heap.size < V4.heap.size by rw [← hV, World.size_alloc]; omega)
            have HS4 := Lib.hid (Go.RowKit.Below.tr HS3.out HK3.out (Nat.le_refl _))
            clear hV
            have z5 := (HK3.out.block _ HL5.out).trans HZ5.out
            have z6 := ((Below.refl V4.heap.size V4).block _ HL6.out).trans HZ6.out
            have hput := fun F hF => put_two (F := F) (hi5 := V1.heap.size) (hi6 := V2.heap.size) (lo5 := V0.heap.size) (lo6 := V1.heap.size) BX3.out.says BU3.out.says z5 z6 (HT5.out.below (Go.RowKit.Below.tr (Go.RowKit.Below.tr HK1.out HK2.out (Nat.le_refl _)) HK3.out (Nat.le_refl _)) (fun _ h => h.2) (fun _ h => h)) (HT6.out.below (Go.RowKit.Below.tr HK2.out HK3.out (Nat.le_refl _)) (fun _ h => h.2) (fun _ h => h)) HS4.out (Nat.le_trans HS0.out.size (by have := HK0.out.size; have := HK1.out.size; have := HK2.out.size; have := HK3.out.size; have := HL5.out; have := HL6.out; omega)) (Nat.le_trans HS0.out.size (by have := HK0.out.size; have := HK1.out.size; have := HK2.out.size; have := HK3.out.size; have := HL5.out; have := HL6.out; omega)) (by have := HK0.out.size; have := HK1.out.size; have := HK2.out.size; have := HK3.out.size; have := HL5.out; have := HL6.out; omega) (by have := HK0.out.size; have := HK1.out.size; have := HK2.out.size; have := HK3.out.size; have := HL5.out; have := HL6.out; omega) (by have := HK0.out.size; have := HK1.out.size; have := HK2.out.size; have := HK3.out.size; have := HL5.out; have := HL6.out; omega) (by have := HK0.out.size; have := HK1.out.size; have := HK2.out.size; have := HK3.out.size; have := HL5.out; have := HL6.out; omega) (by have := HK0.out.size; have := HK1.out.size; have := HK2.out.size; have := HK3.out.size; have := HL5.out; have := HL6.out; omega) (by have := HK0.out.size; have := HK1.out.size; have := HK2.out.size; have := HK3.out.size; have := HL5.out; have := HL6.out; omega) (by have := HK0.out.size; have := HK1.out.size; have := HK2.out.size; have := HK3.out.size; have := HL5.out; have := HL6.out; omega) hF
            have HPUT := Lib.hid hput
            clear hput
            obtain ⟨z50, z51, z52, f50, f51, f52⟩ := zero_three z5
            refine wpAnyH_ready (rs := [6]) (by kernel_rfl) (by simp) ?_
            refine AllReadyH.cons (o := ⟨none, _, _, _, _, _⟩) rfl (fun K hK => ?_) AllReadyH.nil
            go_simp
            refine hK.out _ _ (put_half HS4.out (Nat.le_trans HS0.out.size (by have := HK0.out.size; have := HK1.out.size; have := HK2.out.size; have := HK3.out.size; have := HL5.out; have := HL6.out; omega))) (fun _ => ?_)
            clear hK K
            try simp only [Act.put, List.setIfInBounds_toArray, List.set_cons_zero, List.set_cons_succ]
            clear z50 z51 z52 f50 f51 f52
            have y6 := (set3_other (V := V4) (b := V2.heap.size) (v0 := .int .i64 k0) (v1 := .int .i64 n0) (v2 := .slice a5 m0 q5) (k := V3.heap.size) (by have := HK0.out.size; have := HK1.out.size; have := HK2.out.size; have := HK3.out.size; have := HL5.out; have := HL6.out; omega)).trans z6
            obtain ⟨V5, hV5⟩ : ∃ V, ((V4.setCell ⟨V2.heap.size, 0, none⟩ (.int .i64 k0)).setCell ⟨V2.heap.size, 1, none⟩ (.int .i64 n0)).setCell ⟨V2.heap.size, 2, none⟩ (.slice a5 m0 q5) = V := ⟨_, rfl⟩
            rw [hV5] at y6 ⊢
            have HPU2 := Lib.hid (HPUT.out _ (by rw [hV5]))
            obtain ⟨z60, z61, z62, f60, f61, f62⟩ := zero_three y6
            refine wpAnyH_ready (rs := [7]) (by kernel_rfl) (by simp) ?_
            refine AllReadyH.cons (o := ⟨none, _, _, _, _, _⟩) rfl (fun K hK => ?_) AllReadyH.nil
            go_simp
            refine hK.out _ _ HPU2.out.2.2 (fun _ => ?_)
            clear hK K
            try simp only [Act.put, List.setIfInBounds_toArray, List.set_cons_zero, List.set_cons_succ]
            refine wpAnyH_done (by kernel_rfl) ?_ _
            go_wp2_with fail
            go_meet
            case rel => exact ⟨_, _, _, _, _, _, rfl, rfl, HPU2.out.1, HPU2.out.2.1, HPU2.out.2.2⟩
          · skip
            go_simp
            refine hK.out _ _ (HS2.out.alloc HS2.out.size (.cells #[.int .i64 0, .int .i64 0, .slice none 0 0] 24)) (fun _ => ?_)
            clear hK K
            try simp only [Act.put, List.setIfInBounds_toArray, List.set_cons_zero, List.set_cons_succ]
            obtain ⟨V3, hV⟩ : ∃ V, V2.alloc (.cells #[.int .i64 0, .int .i64 0, .slice none 0 0] 24) = V := ⟨_, rfl⟩
            rw [hV]
            have HK2 := Lib.hid (show Below V2.heap.size V2 V3 by rw [← hV]; exact (Below.refl _ _).alloc (Nat.le_refl _) _)
            have HZ6 := Lib.hid (show V3.heap[V2.heap.size]? = some (.cells #[.int .i64 0, .int .i64 0, .slice none 0 0] 24) by rw [← hV]; exact World.alloc_heap_new _ _)
            have HL6 := Lib.hid (show V2.heap.size < V3.heap.size by rw [← hV, World.size_alloc]; omega)
            have HS3 := Lib.hid (Go.RowKit.Below.tr HS2.out HK2.out (Nat.le_refl _))
            clear hV
            refine wpAnyH_ready (rs := [4]) (by kernel_rfl) (by simp) ?_
            refine AllReadyH.cons (o := ⟨some 5, _, _, _, _, _⟩) rfl (fun K hK => ?_) AllReadyH.nil
            go_simp
            refine hK.out _ _ (HS3.out.alloc HS3.out.size (.cells #[.int .i64 0, .int .i64 0, .slice none 0 0] 24)) (fun _ => ?_)
            clear hK K
            try simp only [Act.put, List.setIfInBounds_toArray, List.set_cons_zero, List.set_cons_succ]
            obtain ⟨V4, hV⟩ : ∃ V, V3.alloc (.cells #[.int .i64 0, .int .i64 0, .slice none 0 0] 24) = V := ⟨_, rfl⟩
            rw [hV]
            have HK3 := Lib.hid (show Below V3.heap.size V3 V4 by rw [← hV]; exact (Below.refl _ _).alloc (Nat.le_refl _) _)
            have HZ5 := Lib.hid (show V4.heap[V3.heap.size]? = some (.cells #[.int .i64 0, .int .i64 0, .slice none 0 0] 24) by rw [← hV]; exact World.alloc_heap_new _ _)
            have HL5 := Lib.hid (show V3.heap.size < V4.heap.size by rw [← hV, World.size_alloc]; omega)
            have HS4 := Lib.hid (Go.RowKit.Below.tr HS3.out HK3.out (Nat.le_refl _))
            clear hV
            have z5 := ((Below.refl V4.heap.size V4).block _ HL5.out).trans HZ5.out
            have z6 := (HK3.out.block _ HL6.out).trans HZ6.out
            have hput := fun F hF => put_two (F := F) (hi5 := V1.heap.size) (hi6 := V2.heap.size) (lo5 := V0.heap.size) (lo6 := V1.heap.size) BX3.out.says BU3.out.says z5 z6 (HT5.out.below (Go.RowKit.Below.tr (Go.RowKit.Below.tr HK1.out HK2.out (Nat.le_refl _)) HK3.out (Nat.le_refl _)) (fun _ h => h.2) (fun _ h => h)) (HT6.out.below (Go.RowKit.Below.tr HK2.out HK3.out (Nat.le_refl _)) (fun _ h => h.2) (fun _ h => h)) HS4.out (Nat.le_trans HS0.out.size (by have := HK0.out.size; have := HK1.out.size; have := HK2.out.size; have := HK3.out.size; have := HL5.out; have := HL6.out; omega)) (Nat.le_trans HS0.out.size (by have := HK0.out.size; have := HK1.out.size; have := HK2.out.size; have := HK3.out.size; have := HL5.out; have := HL6.out; omega)) (by have := HK0.out.size; have := HK1.out.size; have := HK2.out.size; have := HK3.out.size; have := HL5.out; have := HL6.out; omega) (by have := HK0.out.size; have := HK1.out.size; have := HK2.out.size; have := HK3.out.size; have := HL5.out; have := HL6.out; omega) (by have := HK0.out.size; have := HK1.out.size; have := HK2.out.size; have := HK3.out.size; have := HL5.out; have := HL6.out; omega) (by have := HK0.out.size; have := HK1.out.size; have := HK2.out.size; have := HK3.out.size; have := HL5.out; have := HL6.out; omega) (by have := HK0.out.size; have := HK1.out.size; have := HK2.out.size; have := HK3.out.size; have := HL5.out; have := HL6.out; omega) (by have := HK0.out.size; have := HK1.out.size; have := HK2.out.size; have := HK3.out.size; have := HL5.out; have := HL6.out; omega) (by have := HK0.out.size; have := HK1.out.size; have := HK2.out.size; have := HK3.out.size; have := HL5.out; have := HL6.out; omega) hF
            have HPUT := Lib.hid hput
            clear hput
            obtain ⟨z50, z51, z52, f50, f51, f52⟩ := zero_three z5
            refine wpAnyH_ready (rs := [6]) (by kernel_rfl) (by simp) ?_
            refine AllReadyH.cons (o := ⟨none, _, _, _, _, _⟩) rfl (fun K hK => ?_) AllReadyH.nil
            go_simp
            refine hK.out _ _ (put_half HS4.out (Nat.le_trans HS0.out.size (by have := HK0.out.size; have := HK1.out.size; have := HK2.out.size; have := HK3.out.size; have := HL5.out; have := HL6.out; omega))) (fun _ => ?_)
            clear hK K
            try simp only [Act.put, List.setIfInBounds_toArray, List.set_cons_zero, List.set_cons_succ]
            clear z50 z51 z52 f50 f51 f52
            have y6 := (set3_other (V := V4) (b := V3.heap.size) (v0 := .int .i64 k0) (v1 := .int .i64 n0) (v2 := .slice a5 m0 q5) (k := V2.heap.size) (by have := HK0.out.size; have := HK1.out.size; have := HK2.out.size; have := HK3.out.size; have := HL5.out; have := HL6.out; omega)).trans z6
            obtain ⟨V5, hV5⟩ : ∃ V, ((V4.setCell ⟨V3.heap.size, 0, none⟩ (.int .i64 k0)).setCell ⟨V3.heap.size, 1, none⟩ (.int .i64 n0)).setCell ⟨V3.heap.size, 2, none⟩ (.slice a5 m0 q5) = V := ⟨_, rfl⟩
            rw [hV5] at y6 ⊢
            have HPU2 := Lib.hid (HPUT.out _ (by rw [hV5]))
            obtain ⟨z60, z61, z62, f60, f61, f62⟩ := zero_three y6
            refine wpAnyH_ready (rs := [7]) (by kernel_rfl) (by simp) ?_
            refine AllReadyH.cons (o := ⟨none, _, _, _, _, _⟩) rfl (fun K hK => ?_) AllReadyH.nil
            go_simp
            refine hK.out _ _ HPU2.out.2.2 (fun _ => ?_)
            clear hK K
            try simp only [Act.put, List.setIfInBounds_toArray, List.set_cons_zero, List.set_cons_succ]
            refine wpAnyH_done (by kernel_rfl) ?_ _
            go_wp2_with fail
            go_meet
            case rel => exact ⟨_, _, _, _, _, _, rfl, rfl, HPU2.out.1, HPU2.out.2.1, HPU2.out.2.2⟩
        · skip
          go_simp
          refine hK.out _ _ (HS1.out.alloc HS1.out.size (.cells #[.int .i64 0, .int .i64 0, .slice none 0 0] 24)) (fun _ => ?_)
          clear hK K
          try simp only [Act.put, List.setIfInBounds_toArray, List.set_cons_zero, List.set_cons_succ]
          obtain ⟨V2, hV⟩ : ∃ V, V1.alloc (.cells #[.int .i64 0, .int .i64 0, .slice none 0 0] 24) = V := ⟨_, rfl⟩
          rw [hV]
          have HK1 := Lib.hid (show Below V1.heap.size V1 V2 by rw [← hV]; exact (Below.refl _ _).alloc (Nat.le_refl _) _)
          have HZ5 := Lib.hid (show V2.heap[V1.heap.size]? = some (.cells #[.int .i64 0, .int .i64 0, .slice none 0 0] 24) by rw [← hV]; exact World.alloc_heap_new _ _)
          have HL5 := Lib.hid (show V1.heap.size < V2.heap.size by rw [← hV, World.size_alloc]; omega)
          have HS2 := Lib.hid (Go.RowKit.Below.tr HS1.out HK1.out (Nat.le_refl _))
          clear hV
          refine wpAnyH_ready (rs := [3, 5]) (by kernel_rfl) (by simp) ?_
          refine AllReadyH.cons (o := ⟨some 15, _, _, _, _, _⟩) rfl (fun K hK => ?_) (AllReadyH.cons (o := ⟨some 6, _, _, _, _, _⟩) rfl (fun K hK => ?_) AllReadyH.nil)
          · skip
            go_simp
            refine (HCU.out _ HS2.out).mono ?_
            rintro e V3 ⟨a6, q6, rfl, ht, hb⟩
            have HK2 := Lib.hid hb
            have HS3 := Lib.hid (Go.RowKit.Below.tr HS2.out hb (Nat.le_refl _))
            have HT6 := Lib.hid ht
            clear hb ht
            dsimp only
            refine hK.out _ _ HS3.out (fun _ => ?_)
            clear hK K
            try simp only [Act.put, List.setIfInBounds_toArray, List.set_cons_zero, List.set_cons_succ]
            refine wpAnyH_ready (rs := [5]) (by kernel_rfl) (by simp) ?_
            refine AllReadyH.cons (o := ⟨some 6, _, _, _, _, _⟩) rfl (fun K hK => ?_) AllReadyH.nil
            go_simp
            refine hK.out _ _ (HS3.out.alloc HS3.out.size (.cells #[.int .i64 0, .int .i64 0, .slice none 0 0] 24)) (fun _ => ?_)
            clear hK K
            try simp only [Act.put, List.setIfInBounds_toArray, List.set_cons_zero, List.set_cons_succ]
            obtain ⟨V4, hV⟩ : ∃ V, V3.alloc (.cells #[.int .i64 0, .int .i64 0, .slice none 0 0] 24) = V := ⟨_, rfl⟩
            rw [hV]
            have HK3 := Lib.hid (show Below V3.heap.size V3 V4 by rw [← hV]; exact (Below.refl _ _).alloc (Nat.le_refl _) _)
            have HZ6 := Lib.hid (show V4.heap[V3.heap.size]? = some (.cells #[.int .i64 0, .int .i64 0, .slice none 0 0] 24) by rw [← hV]; exact World.alloc_heap_new _ _)
            have HL6 := Lib.hid (show V3.heap.size < V4.heap.size by rw [← hV, World.size_alloc]; omega)
            have HS4 := Lib.hid (Go.RowKit.Below.tr HS3.out HK3.out (Nat.le_refl _))
            clear hV
            have z5 := ((Go.RowKit.Below.tr HK2.out HK3.out (Nat.le_refl _)).block _ HL5.out).trans HZ5.out
            have z6 := ((Below.refl V4.heap.size V4).block _ HL6.out).trans HZ6.out
            have hput := fun F hF => put_two (F := F) (hi5 := V1.heap.size) (hi6 := V3.heap.size) (lo5 := V0.heap.size) (lo6 := V2.heap.size) BX3.out.says BU3.out.says z5 z6 (HT5.out.below (Go.RowKit.Below.tr (Go.RowKit.Below.tr HK1.out HK2.out (Nat.le_refl _)) HK3.out (Nat.le_refl _)) (fun _ h => h.2) (fun _ h => h)) (HT6.out.below HK3.out (fun _ h => h.2) (fun _ h => h)) HS4.out (Nat.le_trans HS0.out.size (by have := HK0.out.size; have := HK1.out.size; have := HK2.out.size; have := HK3.out.size; have := HL5.out; have := HL6.out; omega)) (Nat.le_trans HS0.out.size (by have := HK0.out.size; have := HK1.out.size; have := HK2.out.size; have := HK3.out.size; have := HL5.out; have := HL6.out; omega)) (by have := HK0.out.size; have := HK1.out.size; have := HK2.out.size; have := HK3.out.size; have := HL5.out; have := HL6.out; omega) (by have := HK0.out.size; have := HK1.out.size; have := HK2.out.size; have := HK3.out.size; have := HL5.out; have := HL6.out; omega) (by have := HK0.out.size; have := HK1.out.size; have := HK2.out.size; have := HK3.out.size; have := HL5.out; have := HL6.out; omega) (by have := HK0.out.size; have := HK1.out.size; have := HK2.out.size; have := HK3.out.size; have := HL5.out; have := HL6.out; omega) (by have := HK0.out.size; have := HK1.out.size; have := HK2.out.size; have := HK3.out.size; have := HL5.out; have := HL6.out; omega) (by have := HK0.out.size; have := HK1.out.size; have := HK2.out.size; have := HK3.out.size; have := HL5.out; have := HL6.out; omega) (by have := HK0.out.size; have := HK1.out.size; have := HK2.out.size; have := HK3.out.size; have := HL5.out; have := HL6.out; omega) hF
            have HPUT := Lib.hid hput
            clear hput
            obtain ⟨z50, z51, z52, f50, f51, f52⟩ := zero_three z5
            refine wpAnyH_ready (rs := [6]) (by kernel_rfl) (by simp) ?_
            refine AllReadyH.cons (o := ⟨none, _, _, _, _, _⟩) rfl (fun K hK => ?_) AllReadyH.nil
            go_simp
            refine hK.out _ _ (put_half HS4.out (Nat.le_trans HS0.out.size (by have := HK0.out.size; have := HK1.out.size; have := HK2.out.size; have := HK3.out.size; have := HL5.out; have := HL6.out; omega))) (fun _ => ?_)
            clear hK K
            try simp only [Act.put, List.setIfInBounds_toArray, List.set_cons_zero, List.set_cons_succ]
            clear z50 z51 z52 f50 f51 f52
            have y6 := (set3_other (V := V4) (b := V1.heap.size) (v0 := .int .i64 k0) (v1 := .int .i64 n0) (v2 := .slice a5 m0 q5) (k := V3.heap.size) (by have := HK0.out.size; have := HK1.out.size; have := HK2.out.size; have := HK3.out.size; have := HL5.out; have := HL6.out; omega)).trans z6
            obtain ⟨V5, hV5⟩ : ∃ V, ((V4.setCell ⟨V1.heap.size, 0, none⟩ (.int .i64 k0)).setCell ⟨V1.heap.size, 1, none⟩ (.int .i64 n0)).setCell ⟨V1.heap.size, 2, none⟩ (.slice a5 m0 q5) = V := ⟨_, rfl⟩
            rw [hV5] at y6 ⊢
            have HPU2 := Lib.hid (HPUT.out _ (by rw [hV5]))
            obtain ⟨z60, z61, z62, f60, f61, f62⟩ := zero_three y6
            refine wpAnyH_ready (rs := [7]) (by kernel_rfl) (by simp) ?_
            refine AllReadyH.cons (o := ⟨none, _, _, _, _, _⟩) rfl (fun K hK => ?_) AllReadyH.nil
            go_simp
            refine hK.out _ _ HPU2.out.2.2 (fun _ => ?_)
            clear hK K
            try simp only [Act.put, List.setIfInBounds_toArray, List.set_cons_zero, List.set_cons_succ]
            refine wpAnyH_done (by kernel_rfl) ?_ _
            go_wp2_with fail
            go_meet
            case rel => exact ⟨_, _, _, _, _, _, rfl, rfl, HPU2.out.1, HPU2.out.2.1, HPU2.out.2.2⟩
          · skip
            go_simp
            refine hK.out _ _ (HS2.out.alloc HS2.out.size (.cells #[.int .i64 0, .int .i64 0, .slice none 0 0] 24)) (fun _ => ?_)
            clear hK K
            try simp only [Act.put, List.setIfInBounds_toArray, List.set_cons_zero, List.set_cons_succ]
            obtain ⟨V3, hV⟩ : ∃ V, V2.alloc (.cells #[.int .i64 0, .int .i64 0, .slice none 0 0] 24) = V := ⟨_, rfl⟩
            rw [hV]
            have HK2 := Lib.hid (show Below V2.heap.size V2 V3 by rw [← hV]; exact (Below.refl _ _).alloc (Nat.le_refl _) _)
            have HZ6 := Lib.hid (show V3.heap[V2.heap.size]? = some (.cells #[.int .i64 0, .int .i64 0, .slice none 0 0] 24) by rw [← hV]; exact World.alloc_heap_new _ _)
            have HL6 := Lib.hid (show V2.heap.size < V3.heap.size by rw [← hV, World.size_alloc]; omega)
            have HS3 := Lib.hid (Go.RowKit.Below.tr HS2.out HK2.out (Nat.le_refl _))
            clear hV
            refine wpAnyH_ready (rs := [3]) (by kernel_rfl) (by simp) ?_
            refine AllReadyH.cons (o := ⟨some 15, _, _, _, _, _⟩) rfl (fun K hK => ?_) AllReadyH.nil
            go_simp
            refine (HCU.out _ HS3.out).mono ?_
            rintro e V4 ⟨a6, q6, rfl, ht, hb⟩
            have HK3 := Lib.hid hb
            have HS4 := Lib.hid (Go.RowKit.Below.tr HS3.out hb (Nat.le_refl _))
            have HT6 := Lib.hid ht
            clear hb ht
            dsimp only
            refine hK.out _ _ HS4.out (fun _ => ?_)
            clear hK K
            try simp only [Act.put, List.setIfInBounds_toArray, List.set_cons_zero, List.set_cons_succ]
            have z5 := ((Go.RowKit.Below.tr HK2.out HK3.out (Nat.le_refl _)).block _ HL5.out).trans HZ5.out
            have z6 := (HK3.out.block _ HL6.out).trans HZ6.out
            have hput := fun F hF => put_two (F := F) (hi5 := V1.heap.size) (hi6 := V4.heap.size) (lo5 := V0.heap.size) (lo6 := V3.heap.size) BX3.out.says BU3.out.says z5 z6 (HT5.out.below (Go.RowKit.Below.tr (Go.RowKit.Below.tr HK1.out HK2.out (Nat.le_refl _)) HK3.out (Nat.le_refl _)) (fun _ h => h.2) (fun _ h => h)) (HT6.out.below (Below.refl V4.heap.size V4) (fun _ h => h.2) (fun _ h => h)) HS4.out (Nat.le_trans HS0.out.size (by have := HK0.out.size; have := HK1.out.size; have := HK2.out.size; have := HK3.out.size; have := HL5.out; have := HL6.out; omega)) (Nat.le_trans HS0.out.size (by have := HK0.out.size; have := HK1.out.size; have := HK2.out.size; have := HK3.out.size; have := HL5.out; have := HL6.out; omega)) (by have := HK0.out.size; have := HK1.out.size; have := HK2.out.size; have := HK3.out.size; have := HL5.out; have := HL6.out; omega) (by have := HK0.out.size; have := HK1.out.size; have := HK2.out.size; have := HK3.out.size; have := HL5.out; have := HL6.out; omega) (by have := HK0.out.size; have := HK1.out.size; have := HK2.out.size; have := HK3.out.size; have := HL5.out; have := HL6.out; omega) (by have := HK0.out.size; have := HK1.out.size; have := HK2.out.size; have := HK3.out.size; have := HL5.out; have := HL6.out; omega) (by have := HK0.out.size; have := HK1.out.size; have := HK2.out.size; have := HK3.out.size; have := HL5.out; have := HL6.out; omega) (by have := HK0.out.size; have := HK1.out.size; have := HK2.out.size; have := HK3.out.size; have := HL5.out; have := HL6.out; omega) (by have := HK0.out.size; have := HK1.out.size; have := HK2.out.size; have := HK3.out.size; have := HL5.out; have := HL6.out; omega) hF
            have HPUT := Lib.hid hput
            clear hput
            obtain ⟨z50, z51, z52, f50, f51, f52⟩ := zero_three z5
            refine wpAnyH_ready (rs := [6]) (by kernel_rfl) (by simp) ?_
            refine AllReadyH.cons (o := ⟨none, _, _, _, _, _⟩) rfl (fun K hK => ?_) AllReadyH.nil
            go_simp
            refine hK.out _ _ (put_half HS4.out (Nat.le_trans HS0.out.size (by have := HK0.out.size; have := HK1.out.size; have := HK2.out.size; have := HK3.out.size; have := HL5.out; have := HL6.out; omega))) (fun _ => ?_)
            clear hK K
            try simp only [Act.put, List.setIfInBounds_toArray, List.set_cons_zero, List.set_cons_succ]
            clear z50 z51 z52 f50 f51 f52
            have y6 := (set3_other (V := V4) (b := V1.heap.size) (v0 := .int .i64 k0) (v1 := .int .i64 n0) (v2 := .slice a5 m0 q5) (k := V2.heap.size) (by have := HK0.out.size; have := HK1.out.size; have := HK2.out.size; have := HK3.out.size; have := HL5.out; have := HL6.out; omega)).trans z6
            obtain ⟨V5, hV5⟩ : ∃ V, ((V4.setCell ⟨V1.heap.size, 0, none⟩ (.int .i64 k0)).setCell ⟨V1.heap.size, 1, none⟩ (.int .i64 n0)).setCell ⟨V1.heap.size, 2, none⟩ (.slice a5 m0 q5) = V := ⟨_, rfl⟩
            rw [hV5] at y6 ⊢
            have HPU2 := Lib.hid (HPUT.out _ (by rw [hV5]))
            obtain ⟨z60, z61, z62, f60, f61, f62⟩ := zero_three y6
            refine wpAnyH_ready (rs := [7]) (by kernel_rfl) (by simp) ?_
            refine AllReadyH.cons (o := ⟨none, _, _, _, _, _⟩) rfl (fun K hK => ?_) AllReadyH.nil
            go_simp
            refine hK.out _ _ HPU2.out.2.2 (fun _ => ?_)
            clear hK K
            try simp only [Act.put, List.setIfInBounds_toArray, List.set_cons_zero, List.set_cons_succ]
            refine wpAnyH_done (by kernel_rfl) ?_ _
            go_wp2_with fail
            go_meet
            case rel => exact ⟨_, _, _, _, _, _, rfl, rfl, HPU2.out.1, HPU2.out.2.1, HPU2.out.2.2⟩
        · skip
          go_simp
          refine hK.out _ _ (HS1.out.alloc HS1.out.size (.cells #[.int .i64 0, .int .i64 0, .slice none 0 0] 24)) (fun _ => ?_)
          clear hK K
          try simp only [Act.put, List.setIfInBounds_toArray, List.set_cons_zero, List.set_cons_succ]
          obtain ⟨V2, hV⟩ : ∃ V, V1.alloc (.cells #[.int .i64 0, .int .i64 0, .slice none 0 0] 24) = V := ⟨_, rfl⟩
          rw [hV]
          have HK1 := Lib.hid (show Below V1.heap.size V1 V2 by rw [← hV]; exact (Below.refl _ _).alloc (Nat.le_refl _) _)
          have HZ6 := Lib.hid (show V2.heap[V1.heap.size]? = some (.cells #[.int .i64 0, .int .i64 0, .slice none 0 0] 24) by rw [← hV]; exact World.alloc_heap_new _ _)
          have HL6 := Lib.hid (show V1.heap.size < V2.heap.size by rw [← hV, World.size_alloc]; omega)
          have HS2 := Lib.hid (Go.RowKit.Below.tr HS1.out HK1.out (Nat.le_refl _))
          clear hV
          refine wpAnyH_ready (rs := [3, 4]) (by kernel_rfl) (by simp) ?_
          refine AllReadyH.cons (o := ⟨some 15, _, _, _, _, _⟩) rfl (fun K hK => ?_) (AllReadyH.cons (o := ⟨some 5, _, _, _, _, _⟩) rfl (fun K hK => ?_) AllReadyH.nil)
          · skip
            go_simp
            refine (HCU.out _ HS2.out).mono ?_
            rintro e V3 ⟨a6, q6, rfl, ht, hb⟩
            have HK2 := Lib.hid hb
            have HS3 := Lib.hid (Go.RowKit.Below.tr HS2.out hb (Nat.le_refl _))
            have HT6 := Lib.hid ht
            clear hb ht
            dsimp only
            refine hK.out _ _ HS3.out (fun _ => ?_)
            clear hK K
            try simp only [Act.put, List.setIfInBounds_toArray, List.set_cons_zero, List.set_cons_succ]
            refine wpAnyH_ready (rs := [4]) (by kernel_rfl) (by simp) ?_
            refine AllReadyH.cons (o := ⟨some 5, _, _, _, _, _⟩) rfl (fun K hK => ?_) AllReadyH.nil
            go_simp
            refine hK.out _ _ (HS3.out.alloc HS3.out.size (.cells #[.int .i64 0, .int .i64 0, .slice none 0 0] 24)) (fun _ => ?_)
            clear hK K
            try simp only [Act.put, List.setIfInBounds_toArray, List.set_cons_zero, List.set_cons_succ]
            obtain ⟨V4, hV⟩ : ∃ V, V3.alloc (.cells #[.int .i64 0, .int .i64 0, .slice none 0 0] 24) = V := ⟨_, rfl⟩
            rw [hV]
            have HK3 := Lib.hid (show Below V3.heap.size V3 V4 by rw [← hV]; exact (Below.refl _ _).alloc (Nat.le_refl _) _)
            have HZ5 := Lib.hid (show V4.heap[V3.heap.size]? = some (.cells #[.int .i64 0, .int .i64 0, .slice none 0 0] 24) by rw [← hV]; exact World.alloc_heap_new _ _)
            have HL5 := Lib.hid (show V3.heap.size < V4.heap.size by rw [← hV, World.size_alloc]; omega)
            have HS4 := Lib.hid (Go.RowKit.Below.tr HS3.out HK3.out (Nat.le_refl _))
            clear hV
            have z5 := ((Below.refl V4.heap.size V4).block _ HL5.out).trans HZ5.out
            have z6 := ((Go.RowKit.Below.tr HK2.out HK3.out (Nat.le_refl _)).block _ HL6.out).trans HZ6.out
            have hput := fun F hF => put_two (F := F) (hi5 := V1.heap.size) (hi6 := V3.heap.size) (lo5 := V0.heap.size) (lo6 := V2.heap.size) BX3.out.says BU3.out.says z5 z6 (HT5.out.below (Go.RowKit.Below.tr (Go.RowKit.Below.tr HK1.out HK2.out (Nat.le_refl _)) HK3.out (Nat.le_refl _)) (fun _ h => h.2) (fun _ h => h)) (HT6.out.below HK3.out (fun _ h => h.2) (fun _ h => h)) HS4.out (Nat.le_trans HS0.out.size (by have := HK0.out.size; have := HK1.out.size; have := HK2.out.size; have := HK3.out.size; have := HL5.out; have := HL6.out; omega)) (Nat.le_trans HS0.out.size (by have := HK0.out.size; have := HK1.out.size; have := HK2.out.size; have := HK3.out.size; have := HL5.out; have := HL6.out; omega)) (by have := HK0.out.size; have := HK1.out.size; have := HK2.out.size; have := HK3.out.size; have := HL5.out; have := HL6.out; omega) (by have := HK0.out.size; have := HK1.out.size; have := HK2.out.size; have := HK3.out.size; have := HL5.out; have := HL6.out; omega) (by have := HK0.out.size; have := HK1.out.size; have := HK2.out.size; have := HK3.out.size; have := HL5.out; have := HL6.out; omega) (by have := HK0.out.size; have := HK1.out.size; have := HK2.out.size; have := HK3.out.size; have := HL5.out; have := HL6.out; omega) (by have := HK0.out.size; have := HK1.out.size; have := HK2.out.size; have := HK3.out.size; have := HL5.out; have := HL6.out; omega) (by have := HK0.out.size; have := HK1.out.size; have := HK2.out.size; have := HK3.out.size; have := HL5.out; have := HL6.out; omega) (by have := HK0.out.size; have := HK1.out.size; have := HK2.out.size; have := HK3.out.size; have := HL5.out; have := HL6.out; omega) hF
            have HPUT := Lib.hid hput
            clear hput
            obtain ⟨z50, z51, z52, f50, f51, f52⟩ := zero_three z5
            refine wpAnyH_ready (rs := [6]) (by kernel_rfl) (by simp) ?_
            refine AllReadyH.cons (o := ⟨none, _, _, _, _, _⟩) rfl (fun K hK => ?_) AllReadyH.nil
            go_simp
            refine hK.out _ _ (put_half HS4.out (Nat.le_trans HS0.out.size (by have := HK0.out.size; have := HK1.out.size; have := HK2.out.size; have := HK3.out.size; have := HL5.out; have := HL6.out; omega))) (fun _ => ?_)
            clear hK K
            try simp only [Act.put, List.setIfInBounds_toArray, List.set_cons_zero, List.set_cons_succ]
            clear z50 z51 z52 f50 f51 f52
            have y6 := (set3_other (V := V4) (b := V3.heap.size) (v0 := .int .i64 k0) (v1 := .int .i64 n0) (v2 := .slice a5 m0 q5) (k := V1.heap.size) (by have := HK0.out.size; have := HK1.out.size; have := HK2.out.size; have := HK3.out.size; have := HL5.out; have := HL6.out; omega)).trans z6
            obtain ⟨V5, hV5⟩ : ∃ V, ((V4.setCell ⟨V3.heap.size, 0, none⟩ (.int .i64 k0)).setCell ⟨V3.heap.size, 1, none⟩ (.int .i64 n0)).setCell ⟨V3.heap.size, 2, none⟩ (.slice a5 m0 q5) = V := ⟨_, rfl⟩
            rw [hV5] at y6 ⊢
            have HPU2 := Lib.hid (HPUT.out _ (by rw [hV5]))
            obtain ⟨z60, z61, z62, f60, f61, f62⟩ := zero_three y6
            refine wpAnyH_ready (rs := [7]) (by kernel_rfl) (by simp) ?_
            refine AllReadyH.cons (o := ⟨none, _, _, _, _, _⟩) rfl (fun K hK => ?_) AllReadyH.nil
            go_simp
            refine hK.out _ _ HPU2.out.2.2 (fun _ => ?_)
            clear hK K
            try simp only [Act.put, List.setIfInBounds_toArray, List.set_cons_zero, List.set_cons_succ]
            refine wpAnyH_done (by kernel_rfl) ?_ _
            go_wp2_with fail
            go_meet
            case rel => exact ⟨_, _, _, _, _, _, rfl, rfl, HPU2.out.1, HPU2.out.2.1, HPU2.out.2.2⟩
          · skip
            go_simp
            refine hK.out _ _ (HS2.out.alloc HS2.out.size (.cells #[.int .i64 0, .int .i64 0, .slice none 0 0] 24)) (fun _ => ?_)
            clear hK K
            try simp only [Act.put, List.setIfInBounds_toArray, List.set_cons_zero, List.set_cons_succ]
            obtain ⟨V3, hV⟩ : ∃ V, V2.alloc (.cells #[.int .i64 0, .int .i64 0, .slice none 0 0] 24) = V := ⟨_, rfl⟩
            rw [hV]
            have HK2 := Lib.hid (show Below V2.heap.size V2 V3 by rw [← hV]; exact (Below.refl _ _).alloc (Nat.le_refl _) _)
            have HZ5 := Lib.hid (show V3.heap[V2.heap.size]? = some (.cells #[.int .i64 0, .int .i64 0, .slice none 0 0] 24) by rw [← hV]; exact World.alloc_heap_new _ _)
            have HL5 := Lib.hid (show V2.heap.size < V3.heap.size by rw [← hV, World.size_alloc]; omega)
            have HS3 := Lib.hid (Go.RowKit.Below.tr HS2.out HK2.out (Nat.le_refl _))
            clear hV
            refine wpAnyH_ready (rs := [3]) (by kernel_rfl) (by simp) ?_
            refine AllReadyH.cons (o := ⟨some 15, _, _, _, _, _⟩) rfl (fun K hK => ?_) AllReadyH.nil
            go_simp
            refine (HCU.out _ HS3.out).mono ?_
            rintro e V4 ⟨a6, q6, rfl, ht, hb⟩
            have HK3 := Lib.hid hb
            have HS4 := Lib.hid (Go.RowKit.Below.tr HS3.out hb (Nat.le_refl _))
            have HT6 := Lib.hid ht
            clear hb ht
            dsimp only
            refine hK.out _ _ HS4.out (fun _ => ?_)
            clear hK K
            try simp only [Act.put, List.setIfInBounds_toArray, List.set_cons_zero, List.set_cons_succ]
            have z5 := (HK3.out.block _ HL5.out).trans HZ5.out
            have z6 := ((Go.RowKit.Below.tr HK2.out HK3.out (Nat.le_refl _)).block _ HL6.out).trans HZ6.out
            have hput := fun F hF => put_two (F := F) (hi5 := V1.heap.size) (hi6 := V4.heap.size) (lo5 := V0.heap.size) (lo6 := V3.heap.size) BX3.out.says BU3.out.says z5 z6 (HT5.out.below (Go.RowKit.Below.tr (Go.RowKit.Below.tr HK1.out HK2.out (Nat.le_refl _)) HK3.out (Nat.le_refl _)) (fun _ h => h.2) (fun _ h => h)) (HT6.out.below (Below.refl V4.heap.size V4) (fun _ h => h.2) (fun _ h => h)) HS4.out (Nat.le_trans HS0.out.size (by have := HK0.out.size; have := HK1.out.size; have := HK2.out.size; have := HK3.out.size; have := HL5.out; have := HL6.out; omega)) (Nat.le_trans HS0.out.size (by have := HK0.out.size; have := HK1.out.size; have := HK2.out.size; have := HK3.out.size; have := HL5.out; have := HL6.out; omega)) (by have := HK0.out.size; have := HK1.out.size; have := HK2.out.size; have := HK3.out.size; have := HL5.out; have := HL6.out; omega) (by have := HK0.out.size; have := HK1.out.size; have := HK2.out.size; have := HK3.out.size; have := HL5.out; have := HL6.out; omega) (by have := HK0.out.size; have := HK1.out.size; have := HK2.out.size; have := HK3.out.size; have := HL5.out; have := HL6.out; omega) (by have := HK0.out.size; have := HK1.out.size; have := HK2.out.size; have := HK3.out.size; have := HL5.out; have := HL6.out; omega) (by have := HK0.out.size; have := HK1.out.size; have := HK2.out.size; have := HK3.out.size; have := HL5.out; have := HL6.out; omega) (by have := HK0.out.size; have := HK1.out.size; have := HK2.out.size; have := HK3.out.size; have := HL5.out; have := HL6.out; omega) (by have := HK0.out.size; have := HK1.out.size; have := HK2.out.size; have := HK3.out.size; have := HL5.out; have := HL6.out; omega) hF
            have HPUT := Lib.hid hput
            clear hput
            obtain ⟨z50, z51, z52, f50, f51, f52⟩ := zero_three z5
            refine wpAnyH_ready (rs := [6]) (by kernel_rfl) (by simp) ?_
            refine AllReadyH.cons (o := ⟨none, _, _, _, _, _⟩) rfl (fun K hK => ?_) AllReadyH.nil
            go_simp
            refine hK.out _ _ (put_half HS4.out (Nat.le_trans HS0.out.size (by have := HK0.out.size; have := HK1.out.size; have := HK2.out.size; have := HK3.out.size; have := HL5.out; have := HL6.out; omega))) (fun _ => ?_)
            clear hK K
            try simp only [Act.put, List.setIfInBounds_toArray, List.set_cons_zero, List.set_cons_succ]
            clear z50 z51 z52 f50 f51 f52
            have y6 := (set3_other (V := V4) (b := V2.heap.size) (v0 := .int .i64 k0) (v1 := .int .i64 n0) (v2 := .slice a5 m0 q5) (k := V1.heap.size) (by have := HK0.out.size; have := HK1.out.size; have := HK2.out.size; have := HK3.out.size; have := HL5.out; have := HL6.out; omega)).trans z6
            obtain ⟨V5, hV5⟩ : ∃ V, ((V4.setCell ⟨V2.heap.size, 0, none⟩ (.int .i64 k0)).setCell ⟨V2.heap.size, 1, none⟩ (.int .i64 n0)).setCell ⟨V2.heap.size, 2, none⟩ (.slice a5 m0 q5) = V := ⟨_, rfl⟩
            rw [hV5] at y6 ⊢
            have HPU2 := Lib.hid (HPUT.out _ (by rw [hV5]))
            obtain ⟨z60, z61, z62, f60, f61, f62⟩ := zero_three y6
            refine wpAnyH_ready (rs := [7]) (by kernel_rfl) (by simp) ?_
            refine AllReadyH.cons (o := ⟨none, _, _, _, _, _⟩) rfl (fun K hK => ?_) AllReadyH.nil
            go_simp
            refine hK.out _ _ HPU2.out.2.2 (fun _ => ?_)
            clear hK K
            try simp only [Act.put, List.setIfInBounds_toArray, List.set_cons_zero, List.set_cons_succ]
            refine wpAnyH_done (by kernel_rfl) ?_ _
            go_wp2_with fail
            go_meet
            case rel => exact ⟨_, _, _, _, _, _, rfl, rfl, HPU2.out.1, HPU2.out.2.1, HPU2.out.2.2⟩
      · skip
        go_simp
        refine hK.out _ _ (HS0.out.alloc HS0.out.size (.cells #[.int .i64 0, .int .i64 0, .slice none 0 0] 24)) (fun _ => ?_)
        clear hK K
        try simp only [Act.put, List.setIfInBounds_toArray, List.set_cons_zero, List.set_cons_succ]
        obtain ⟨V1, hV⟩ : ∃ V, V0.alloc (.cells #[.int .i64 0, .int .i64 0, .slice none 0 0] 24) = V := ⟨_, rfl⟩
        rw [hV]
        have HK0 := Lib.hid (show Below V0.heap.size V0 V1 by rw [← hV]; exact (Below.refl _ _).alloc (Nat.le_refl _) _)
        have HZ5 := Lib.hid (show V1.heap[V0.heap.size]? = some (.cells #[.int .i64 0, .int .i64 0, .slice none 0 0] 24) by rw [← hV]; exact World.alloc_heap_new _ _)
        have HL5 := Lib.hid (show V0.heap.size < V1.heap.size by rw [← hV, World.size_alloc]; omega)
        have HS1 := Lib.hid (Go.RowKit.Below.tr HS0.out HK0.out (Nat.le_refl _))
        clear hV
        refine wpAnyH_ready (rs := [1, 5]) (by kernel_rfl) (by simp) ?_
        refine AllReadyH.cons (o := ⟨some 13, _, _, _, _, _⟩) rfl (fun K hK => ?_) (AllReadyH.cons (o := ⟨some 6, _, _, _, _, _⟩) rfl (fun K hK => ?_) AllReadyH.nil)
        · skip
          go_simp
          refine (HCT.out _ HS1.out).mono ?_
          rintro e V2 ⟨a5, q5, rfl, ht, hb⟩
          have HK1 := Lib.hid hb
          have HS2 := Lib.hid (Go.RowKit.Below.tr HS1.out hb (Nat.le_refl _))
          have HT5 := Lib.hid ht
          clear hb ht
          dsimp only
          refine hK.out _ _ HS2.out (fun _ => ?_)
          clear hK K
          try simp only [Act.put, List.setIfInBounds_toArray, List.set_cons_zero, List.set_cons_succ]
          refine wpAnyH_ready (rs := [3, 5]) (by kernel_rfl) (by simp) ?_
          refine AllReadyH.cons (o := ⟨some 15, _, _, _, _, _⟩) rfl (fun K hK => ?_) (AllReadyH.cons (o := ⟨some 6, _, _, _, _, _⟩) rfl (fun K hK => ?_) AllReadyH.nil)
          · skip
            go_simp
            refine (HCU.out _ HS2.out).mono ?_
            rintro e V3 ⟨a6, q6, rfl, ht, hb⟩
            have HK2 := Lib.hid hb
            have HS3 := Lib.hid (Go.RowKit.Below.tr HS2.out hb (Nat.le_refl _))
            have HT6 := Lib.hid ht
            clear hb ht
            dsimp only
            refine hK.out _ _ HS3.out (fun _ => ?_)
            clear hK K
            try simp only [Act.put, List.setIfInBounds_toArray, List.set_cons_zero, List.set_cons_succ]
            refine wpAnyH_ready (rs := [5]) (by kernel_rfl) (by simp) ?_
            refine AllReadyH.cons (o := ⟨some 6, _, _, _, _, _⟩) rfl (fun K hK => ?_) AllReadyH.nil
            go_simp
            refine hK.out _ _ (HS3.out.alloc HS3.out.size (.cells #[.int .i64 0, .int .i64 0, .slice none 0 0] 24)) (fun _ => ?_)
            clear hK K
            try simp only [Act.put, List.setIfInBounds_toArray, List.set_cons_zero, List.set_cons_succ]
            obtain ⟨V4, hV⟩ : ∃ V, V3.alloc (.cells #[.int .i64 0, .int .i64 0, .slice none 0 0] 24) = V := ⟨_, rfl⟩
            rw [hV]
            have HK3 := Lib.hid (show Below V3.heap.size V3 V4 by rw [← hV]; exact (Below.refl _ _).alloc (Nat.le_refl _) _)
            have HZ6 := Lib.hid (show V4.heap[V3.heap.size]? = some (.cells #[.int .i64 0, .int .i64 0, .slice none 0 0] 24) by rw [← hV]; exact World.alloc_heap_new _ _)
            have HL6 := Lib.hid (show V3.heap.size < V4.heap.size by rw [← hV, World.size_alloc]; omega)
            have HS4 := Lib.hid (Go.RowKit.Below.tr HS3.out HK3.out (Nat.le_refl _))
            clear hV
            have z5 := ((Go.RowKit.Below.tr (Go.RowKit.Below.tr HK1.out HK2.out (Nat.le_refl _)) HK3.out (Nat.le_refl _)).block _ HL5.out).trans HZ5.out
            have z6 := ((Below.refl V4.heap.size V4).block _ HL6.out).trans HZ6.out
            have hput := fun F hF => put_two (F := F) (hi5 := V2.heap.size) (hi6 := V3.heap.size) (lo5 := V1.heap.size) (lo6 := V2.heap.size) BX3.out.says BU3.out.says z5 z6 (HT5.out.below (Go.RowKit.Below.tr HK2.out HK3.out (Nat.le_refl _)) (fun _ h => h.2) (fun _ h => h)) (HT6.out.below HK3.out (fun _ h => h.2) (fun _ h => h)) HS4.out (Nat.le_trans HS0.out.size (by have := HK0.out.size; have := HK1.out.size; have := HK2.out.size; have := HK3.out.size; have := HL5.out; have := HL6.out; omega)) (Nat.le_trans HS0.out.size (by have := HK0.out.size; have := HK1.out.size; have := HK2.out.size; have := HK3.out.size; have := HL5.out; have := HL6.out; omega)) (by have := HK0.out.size; have := HK1.out.size; have := HK2.out.size; have := HK3.out.size; have := HL5.out; have := HL6.out; omega) (by have := HK0.out.size; have := HK1.out.size; have := HK2.out.size; have := HK3.out.size; have := HL5.out; have := HL6.out; omega) (by have := HK0.out.size; have := HK1.out.size; have := HK2.out.size; have := HK3.out.size; have := HL5.out; have := HL6.out; omega) (by have := HK0.out.size; have := HK1.out.size; have := HK2.out.size; have := HK3.out.size; have := HL5.out; have := HL6.out; omega) (by have := HK0.out.size; have := HK1.out.size; have := HK2.out.size; have := HK3.out.size; have := HL5.out; have := HL6.out; omega) (by have := HK0.out.size; have := HK1.out.size; have := HK2.out.size; have := HK3.out.size; have := HL5.out; have := HL6.out; omega) (by have := HK0.out.size; have := HK1.out.size; have := HK2.out.size; have := HK3.out.size; have := HL5.out; have := HL6.out; omega) hF
            have HPUT := Lib.hid hput
            clear hput
            obtain ⟨z50, z51, z52, f50, f51, f52⟩ := zero_three z5
            refine wpAnyH_ready (rs := [6]) (by kernel_rfl) (by simp) ?_
            refine AllReadyH.cons (o := ⟨none, _, _, _, _, _⟩) rfl (fun K hK => ?_) AllReadyH.nil
            go_simp
            refine hK.out _ _ (put_half HS4.out (Nat.le_trans HS0.out.size (by have := HK0.out.size; have := HK1.out.size; have := HK2.out.size; have := HK3.out.size; have := HL5.out; have := HL6.out; omega))) (fun _ => ?_)
            clear hK K
            try simp only [Act.put, List.setIfInBounds_toArray, List.set_cons_zero, List.set_cons_succ]
            clear z50 z51 z52 f50 f51 f52
            have y6 := (set3_other (V := V4) (b := V0.heap.size) (v0 := .int .i64 k0) (v1 := .int .i64 n0) (v2 := .slice a5 m0 q5) (k := V3.heap.size) (by have := HK0.out.size; have := HK1.out.size; have := HK2.out.size; have := HK3.out.size; have := HL5.out; have := HL6.out; omega)).trans z6
            obtain ⟨V5, hV5⟩ : ∃ V, ((V4.setCell ⟨V0.heap.size, 0, none⟩ (.int .i64 k0)).setCell ⟨V0.heap.size, 1, none⟩ (.int .i64 n0)).setCell ⟨V0.heap.size, 2, none⟩ (.slice a5 m0 q5) = V := ⟨_, rfl⟩
            rw [hV5] at y6 ⊢
            have HPU2 := Lib.hid (HPUT.out _ (by rw [hV5]))
            obtain ⟨z60, z61, z62, f60, f61, f62⟩ := zero_three y6
            refine wpAnyH_ready (rs := [7]) (by kernel_rfl) (by simp) ?_
            refine AllReadyH.cons (o := ⟨none, _, _, _, _, _⟩) rfl (fun K hK => ?_) AllReadyH.nil
            go_simp
            refine hK.out _ _ HPU2.out.2.2 (fun _ => ?_)
            clear hK K
            try simp only [Act.put, List.setIfInBounds_toArray, List.set_cons_zero, List.set_cons_succ]
            refine wpAnyH_done (by kernel_rfl) ?_ _
            go_wp2_with fail
            go_meet
            case rel => exact ⟨_, _, _, _, _, _, rfl, rfl, HPU2.out.1, HPU2.out.2.1, HPU2.out.2.2⟩
          · skip
            go_simp
            refine hK.out _ _ (HS2.out.alloc HS2.out.size (.cells #[.int .i64 0, .int .i64 0, .slice none 0 0] 24)) (fun _ => ?_)
            clear hK K
            try simp only [Act.put, List.setIfInBounds_toArray, List.set_cons_zero, List.set_cons_succ]
            obtain ⟨V3, hV⟩ : ∃ V, V2.alloc (.cells #[.int .i64 0, .int .i64 0, .slice none 0 0] 24) = V := ⟨_, rfl⟩
            rw [hV]
            have HK2 := Lib.hid (show Below V2.heap.size V2 V3 by rw [← hV]; exact (Below.refl _ _).alloc (Nat.le_refl _) _)
            have HZ6 := Lib.hid (show V3.heap[V2.heap.size]? = some (.cells #[.int .i64 0, .int .i64 0, .slice none 0 0] 24) by rw [← hV]; exact World.alloc_heap_new _ _)
            have HL6 := Lib.hid (show V2.heap.size < V3.heap.size by rw [← hV, World.size_alloc]; omega)
            have HS3 := Lib.hid (Go.RowKit.Below.tr HS2.out HK2.out (Nat.le_refl _))
            clear hV
            refine wpAnyH_ready (rs := [3]) (by kernel_rfl) (by simp) ?_
            refine AllReadyH.cons (o := ⟨some 15, _, _, _, _, _⟩) rfl (fun K hK => ?_) AllReadyH.nil
            go_simp
            refine (HCU.out _ HS3.out).mono ?_
            rintro e V4 ⟨a6, q6, rfl, ht, hb⟩
            have HK3 := Lib.hid hb
            have HS4 := Lib.hid (Go.RowKit.Below.tr HS3.out hb (Nat.le_refl _))
            have HT6 := Lib.hid ht
            clear hb ht
            dsimp only
            refine hK.out _ _ HS4.out (fun _ => ?_)
            clear hK K
            try simp only [Act.put, List.setIfInBounds_toArray, List.set_cons_zero, List.set_cons_succ]
            have z5 := ((Go.RowKit.Below.tr (Go.RowKit.Below.tr HK1.out HK2.out (Nat.le_refl _)) HK3.out (Nat.le_refl _)).block _ HL5.out).trans HZ5.out
            have z6 := (HK3.out.block _ HL6.out).trans HZ6.out
            have hput := fun F hF => put_two (F := F) (hi5 := V2.heap.size) (hi6 := V4.heap.size) (lo5 := V1.heap.size) (lo6 := V3.heap.size) BX3.out.says BU3.out.says z5 z6 (HT5.out.below (Go.RowKit.Below.tr HK2.out HK3.out (Nat.le_refl _)) (fun _ h => h.2) (fun _ h => h)) (HT6.out.below (Below.refl V4.heap.size V4) (fun _ h => h.2) (fun _ h => h)) HS4.out (Nat.le_trans HS0.out.size (by have := HK0.out.size; have := HK1.out.size; have := HK2.out.size; have := HK3.out.size; have := HL5.out; have := HL6.out; omega)) (Nat.le_trans HS0.out.size (by have := HK0.out.size; have := HK1.out.size; have := HK2.out.size; have := HK3.out.size; have := HL5.out; have := HL6.out; omega)) (by have := HK0.out.size; have := HK1.out.size; have := HK2.out.size; have := HK3.out.size; have := HL5.out; have := HL6.out; omega) (by have := HK0.out.size; have := HK1.out.size; have := HK2.out.size; have := HK3.out.size; have := HL5.out; have := HL6.out; omega) (by have := HK0.out.size; have := HK1.out.size; have := HK2.out.size; have := HK3.out.size; have := HL5.out; have := HL6.out; omega) (by have := HK0.out.size; have := HK1.out.size; have := HK2.out.size; have := HK3.out.size; have := HL5.out; have := HL6.out; omega) (by have := HK0.out.size; have := HK1.out.size; have := HK2.out.size; have := HK3.out.size; have := HL5.out; have := HL6.out; omega) (by have := HK0.out.size; have := HK1.out.size; have := HK2.out.size; have := HK3.out.size; have := HL5.out; have := HL6.out; omega) (by have := HK0.out.size; have := HK1.out.size; have := HK2.out.size; have := HK3.out.size; have := HL5.out; have := HL6.out; omega) hF
            have HPUT := Lib.hid hput
            clear hput
            obtain ⟨z50, z51, z52, f50, f51, f52⟩ := zero_three z5
            refine wpAnyH_ready (rs := [6]) (by kernel_rfl) (by simp) ?_
            refine AllReadyH.cons (o := ⟨none, _, _, _, _, _⟩) rfl (fun K hK => ?_) AllReadyH.nil
            go_simp
            refine hK.out _ _ (put_half HS4.out (Nat.le_trans HS0.out.size (by have := HK0.out.size; have := HK1.out.size; have := HK2.out.size; have := HK3.out.size; have := HL5.out; have := HL6.out; omega))) (fun _ => ?_)
            clear hK K
            try simp only [Act.put, List.setIfInBounds_toArray, List.set_cons_zero, List.set_cons_succ]
            clear z50 z51 z52 f50 f51 f52
            have y6 := (set3_other (V := V4) (b := V0.heap.size) (v0 := .int .i64 k0) (v1 := .int .i64 n0) (v2 := .slice a5 m0 q5) (k := V2.heap.size) (by have := HK0.out.size; have := HK1.out.size; have := HK2.out.size; have := HK3.out.size; have := HL5.out; have := HL6.out; omega)).trans z6
            obtain ⟨V5, hV5⟩ : ∃ V, ((V4.setCell ⟨V0.heap.size, 0, none⟩ (.int .i64 k0)).setCell ⟨V0.heap.size, 1, none⟩ (.int .i64 n0)).setCell ⟨V0.heap.size, 2, none⟩ (.slice a5 m0 q5) = V := ⟨_, rfl⟩
            rw [hV5] at y6 ⊢
            have HPU2 := Lib.hid (HPUT.out _ (by rw [hV5]))
            obtain ⟨z60, z61, z62, f60, f61, f62⟩ := zero_three y6
            refine wpAnyH_ready (rs := [7]) (by kernel_rfl) (by simp) ?_
            refine AllReadyH.cons (o := ⟨none, _, _, _, _, _⟩) rfl (fun K hK => ?_) AllReadyH.nil
            go_simp
            refine hK.out _ _ HPU2.out.2.2 (fun _ => ?_)
            clear hK K
            try simp only [Act.put, List.setIfInBounds_toArray, List.set_cons_zero, List.set_cons_succ]
            refine wpAnyH_done (by kernel_rfl) ?_ _
            go_wp2_with fail
            go_meet
            case rel => exact ⟨_, _, _, _, _, _, rfl, rfl, HPU2.out.1, HPU2.out.2.1, HPU2.out.2.2⟩
        · skip
          go_simp
          refine hK.out _ _ (HS1.out.alloc HS1.out.size (.cells #[.int .i64 0, .int .i64 0, .slice none 0 0] 24)) (fun _ => ?_)
          clear hK K
          try simp only [Act.put, List.setIfInBounds_toArray, List.set_cons_zero, List.set_cons_succ]
          obtain ⟨V2, hV⟩ : ∃ V, V1.alloc (.cells #[.int .i64 0, .int .i64 0, .slice none 0 0] 24) = V := ⟨_, rfl⟩
          rw [hV]
          have HK1 := Lib.hid (show Below V1.heap.size V1 V2 by rw [← hV]; exact (Below.refl _ _).alloc (Nat.le_refl _) _)
          have HZ6 := Lib.hid (show V2.heap[V1.heap.size]? = some (.cells #[.int .i64 0, .int .i64 0, .slice none 0 0] 24) by rw [← hV]; exact World.alloc_heap_new _ _)
          have HL6 := Lib.hid (show V1.heap.size < V2.heap.size by rw [← hV, World.size_alloc]; omega)
          have HS2 := Lib.hid (Go.RowKit.Below.tr HS1.out HK1.out (Nat.le_refl _))
          clear hV
          refine wpAnyH_ready (rs := [1]) (by kernel_rfl) (by simp) ?_
          refine AllReadyH.cons (o := ⟨some 13, _, _, _, _, _⟩) rfl (fun K hK => ?_) AllReadyH.nil
          go_simp
          refine (HCT.out _ HS2.out).mono ?_
          rintro e V3 ⟨a5, q5, rfl, ht, hb⟩
          have HK2 := Lib.hid hb
          have HS3 := Lib.hid (Go.RowKit.Below.tr HS2.out hb (Nat.le_refl _))
          have HT5 := Lib.hid ht
          clear hb ht
          dsimp only
          refine hK.out _ _ HS3.out (fun _ => ?_)
          clear hK K
          try simp only [Act.put, List.setIfInBounds_toArray, List.set_cons_zero, List.set_cons_succ]
          refine wpAnyH_ready (rs := [3]) (by kernel_rfl) (by simp) ?_
          refine AllReadyH.cons (o := ⟨some 15, _, _, _, _, _⟩) rfl (fun K hK => ?_) AllReadyH.nil
          go_simp
          refine (HCU.out _ HS3.out).mono ?_
          rintro e V4 ⟨a6, q6, rfl, ht, hb⟩
          have HK3 := Lib.hid hb
          have HS4 := Lib.hid (Go.RowKit.Below.tr HS3.out hb (Nat.le_refl _))
          have HT6 := Lib.hid ht
          clear hb ht
          dsimp only
          refine hK.out _ _ HS4.out (fun _ => ?_)
          clear hK K
          try simp only [Act.put, List.setIfInBounds_toArray, List.set_cons_zero, List.set_cons_succ]
          have z5 := ((Go.RowKit.Below.tr (Go.RowKit.Below.tr HK1.out HK2.out (Nat.le_refl _)) HK3.out (Nat.le_refl _)).block _ HL5.out).trans HZ5.out
          have z6 := ((Go.RowKit.Below.tr HK2.out HK3.out (Nat.le_refl _)).block _ HL6.out).trans HZ6.out
          have hput := fun F hF => put_two (F := F) (hi5 := V3.heap.size) (hi6 := V4.heap.size) (lo5 := V2.heap.size) (lo6 := V3.heap.size) BX3.out.says BU3.out.says z5 z6 (HT5.out.below HK3.out (fun _ h => h.2) (fun _ h => h)) (HT6.out.below (Below.refl V4.heap.size V4) (fun _ h => h.2) (fun _ h => h)) HS4.out (Nat.le_trans HS0.out.size (by have := HK0.out.size; have := HK1.out.size; have := HK2.out.size; have := HK3.out.size; have := HL5.out; have := HL6.out; omega)) (Nat.le_trans HS0.out.size (by have := HK0.out.size; have := HK1.out.size; have := HK2.out.size; have := HK3.out.size; have := HL5.out; have := HL6.out; omega)) (by have := HK0.out.size; have := HK1.out.size; have := HK2.out.size; have := HK3.out.size; have := HL5.out; have := HL6.out; omega) (by have := HK0.out.size; have := HK1.out.size; have := HK2.out.size; have := HK3.out.size; have := HL5.out; have := HL6.out; omega) (by have := HK0.out.size; have := HK1.out.size; have := HK2.out.size; have := HK3.out.size; have := HL5.out; have := HL6.out; omega) (by have := HK0.out.size; have := HK1.out.size; have := HK2.out.size; have := HK3.out.size; have := HL5.out; have := HL6.out; omega) (by have := HK0.out.size; have := HK1.out.size; have := HK2.out.size; have := HK3.out.size; have := HL5.out; have := HL6.out; omega) (by have := HK0.out.size; have := HK1.out.size; have := HK2.out.size; have := HK3.out.size; have := HL5.out; have := HL6.out; omega) (by have := HK0.out.size; have := HK1.out.size; have := HK2.out.size; have := HK3.out.size; have := HL5.out; have := HL6.out; omega) hF
          have HPUT := Lib.hid hput
          clear hput
          obtain ⟨z50, z51, z52, f50, f51, f52⟩ := zero_three z5
          refine wpAnyH_ready (rs := [6]) (by kernel_rfl) (by simp) ?_
          refine AllReadyH.cons (o := ⟨none, _, _, _, _, _⟩) rfl (fun K hK => ?_) AllReadyH.nil
          go_simp
          refine hK.out _ _ (put_half HS4.out (Nat.le_trans HS0.out.size (by have := HK0.out.size; have := HK1.out.size; have := HK2.out.size; have := HK3.out.size; have := HL5.out; have := HL6.out; omega))) (fun _ => ?_)
          clear hK K
          try simp only [Act.put, List.setIfInBounds_toArray, List.set_cons_zero, List.set_cons_succ]
          clear z50 z51 z52 f50 f51 f52
          have y6 := (set3_other (V := V4) (b := V0.heap.size) (v0 := .int .i64 k0) (v1 := .int .i64 n0) (v2 := .slice a5 m0 q5) (k := V1.heap.size) (by have := HK0.out.size; have := HK1.out.size; have := HK2.out.size; have := HK3.out.size; have := HL5.out; have := HL6.out; omega)).trans z6
          obtain ⟨V5, hV5⟩ : ∃ V, ((V4.setCell ⟨V0.heap.size, 0, none⟩ (.int .i64 k0)).setCell ⟨V0.heap.size, 1, none⟩ (.int .i64 n0)).setCell ⟨V0.heap.size, 2, none⟩ (.slice a5 m0 q5) = V := ⟨_, rfl⟩
          rw [hV5] at y6 ⊢
          have HPU2 := Lib.hid (HPUT.out _ (by rw [hV5]))
          obtain ⟨z60, z61, z62, f60, f61, f62⟩ := zero_three y6
          refine wpAnyH_ready (rs := [7]) (by kernel_rfl) (by simp) ?_
          refine AllReadyH.cons (o := ⟨none, _, _, _, _, _⟩) rfl (fun K hK => ?_) AllReadyH.nil
          go_simp
          refine hK.out _ _ HPU2.out.2.2 (fun _ => ?_)
          clear hK K
          try simp only [Act.put, List.setIfInBounds_toArray, List.set_cons_zero, List.set_cons_succ]
          refine wpAnyH_done (by kernel_rfl) ?_ _
          go_wp2_with fail
          go_meet
          case rel => exact ⟨_, _, _, _, _, _, rfl, rfl, HPU2.out.1, HPU2.out.2.1, HPU2.out.2.2⟩
      · skip
        go_simp
        refine hK.out _ _ (HS0.out.alloc HS0.out.size (.cells #[.int .i64 0, .int .i64 0, .slice none 0 0] 24)) (fun _ => ?_)
        clear hK K
        try simp only [Act.put, List.setIfInBounds_toArray, List.set_cons_zero, List.set_cons_succ]
        obtain ⟨V1, hV⟩ : ∃ V, V0.alloc (.cells #[.int .i64 0, .int .i64 0, .slice none 0 0] 24) = V := ⟨_, rfl⟩
        rw [hV]
        have HK0 := Lib.hid (show Below V0.heap.size V0 V1 by rw [← hV]; exact (Below.refl _ _).alloc (Nat.le_refl _) _)
        have HZ6 := Lib.hid (show V1.heap[V0.heap.size]? = some (.cells #[.int .i64 0, .int .i64 0, .slice none 0 0] 24) by rw [← hV]; exact World.alloc_heap_new _ _)
        have HL6 := Lib.hid (show V0.heap.size < V1.heap.size by rw [← hV, World.size_alloc]; omega)
        have HS1 := Lib.hid (Go.RowKit.Below.tr HS0.out HK0.out (Nat.le_refl _))
        clear hV
        refine wpAnyH_ready (rs := [1, 4]) (by kernel_rfl) (by simp) ?_
        refine AllReadyH.cons (o := ⟨some 13, _, _, _, _, _⟩) rfl (fun K hK => ?_) (AllReadyH.cons (o := ⟨some 5, _, _, _, _, _⟩) rfl (fun K hK => ?_) AllReadyH.nil)
        · skip
          go_simp
          refine (HCT.out _ HS1.out).mono ?_
          rintro e V2 ⟨a5, q5, rfl, ht, hb⟩
          have HK1 := Lib.hid hb
          have HS2 := Lib.hid (Go.RowKit.Below.tr HS1.out hb (Nat.le_refl _))
          have HT5 := Lib.hid ht
          clear hb ht
          dsimp only
          refine hK.out _ _ HS2.out (fun _ => ?_)
          clear hK K
          try simp only [Act.put, List.setIfInBounds_toArray, List.set_cons_zero, List.set_cons_succ]
          refine wpAnyH_ready (rs := [3, 4]) (by kernel_rfl) (by simp) ?_
          refine AllReadyH.cons (o := ⟨some 15, _, _, _, _, _⟩) rfl (fun K hK => ?_) (AllReadyH.cons (o := ⟨some 5, _, _, _, _, _⟩) rfl (fun K hK => ?_) AllReadyH.nil)
          · skip
            go_simp
            refine (HCU.out _ HS2.out).mono ?_
            rintro e V3 ⟨a6, q6, rfl, ht, hb⟩
            have HK2 := Lib.hid hb
            have HS3 := Lib.hid (Go.RowKit.Below.tr HS2.out hb (Nat.le_refl _))
            have HT6 := Lib.hid ht
            clear hb ht
            dsimp only
            refine hK.out _ _ HS3.out (fun _ => ?_)
            clear hK K
            try simp only [Act.put, List.setIfInBounds_toArray, List.set_cons_zero, List.set_cons_succ]
            refine wpAnyH_ready (rs := [4]) (by kernel_rfl) (by simp) ?_
            refine AllReadyH.cons (o := ⟨some 5, _, _, _, _, _⟩) rfl (fun K hK => ?_) AllReadyH.nil
            go_simp
            refine hK.out _ _ (HS3.out.alloc HS3.out.size (.cells #[.int .i64 0, .int .i64 0, .slice none 0 0] 24)) (fun _ => ?_)
            clear hK K
            try simp only [Act.put, List.setIfInBounds_toArray, List.set_cons_zero, List.set_cons_succ]
            obtain ⟨V4, hV⟩ : ∃ V, V3.alloc (.cells #[.int .i64 0, .int .i64 0, .slice none 0 0] 24) = V := ⟨_, rfl⟩
            rw [hV]
            have HK3 := Lib.hid (show Below V3.heap.size V3 V4 by rw [← hV]; exact (Below.refl _ _).alloc (Nat.le_refl _) _)
            have HZ5 := Lib.hid (show V4.heap[V3.heap.size]? = some (.cells #[.int .i64 0, .int .i64 0, .slice none 0 0] 24) by rw [← hV]; exact World.alloc_heap_new _ _)
            have HL5 := Lib.hid (show V3.heap.size < V4.heap.size by rw [← hV, World.size_alloc]; omega)
            have HS4 := Lib.hid (Go.RowKit.Below.tr HS3.out HK3.out (Nat.le_refl _))
            clear hV
            have z5 := ((Below.refl V4.heap.size V4).block _ HL5.out).trans HZ5.out
            have z6 := ((Go.RowKit.Below.tr (Go.RowKit.Below.tr HK1.out HK2.out (Nat.le_refl _)) HK3.out (Nat.le_refl _)).block _ HL6.out).trans HZ6.out
            have hput := fun F hF => put_two (F := F) (hi5 := V2.heap.size) (hi6 := V3.heap.size) (lo5 := V1.heap.size) (lo6 := V2.heap.size) BX3.out.says BU3.out.says z5 z6 (HT5.out.below (Go.RowKit.Below.tr HK2.out HK3.out (Nat.le_refl _)) (fun _ h => h.2) (fun _ h => h)) (HT6.out.below HK3.out (fun _ h => h.2) (fun _ h => h)) HS4.out (Nat.le_trans HS0.out.size (by have := HK0.out.size; have := HK1.out.size; have := HK2.out.size; have := HK3.out.size; have := HL5.out; have := HL6.out; omega)) (Nat.le_trans HS0.out.size (by have := HK0.out.size; have := HK1.out.size; have := HK2.out.size; have := HK3.out.size; have := HL5.out; have := HL6.out; omega)) (by have := HK0.out.size; have := HK1.out.size; have := HK2.out.size; have := HK3.out.size; have := HL5.out; have := HL6.out; omega) (by have := HK0.out.size; have := HK1.out.size; have := HK2.out.size; have := HK3.out.size; have := HL5.out; have := HL6.out; omega) (by have := HK0.out.size; have := HK1.out.size; have := HK2.out.size; have := HK3.out.size; have := HL5.out; have := HL6.out; omega) (by have := HK0.out.size; have := HK1.out.size; have := HK2.out.size; have := HK3.out.size; have := HL5.out; have := HL6.out; omega) (by have := HK0.out.size; have := HK1.out.size; have := HK2.out.size; have := HK3.out.size; have := HL5.out; have := HL6.out; omega) (by have := HK0.out.size; have := HK1.out.size; have := HK2.out.size; have := HK3.out.size; have := HL5.out; have := HL6.out; omega) (by have := HK0.out.size; have := HK1.out.size; have := HK2.out.size; have := HK3.out.size; have := HL5.out; have := HL6.out; omega) hF
            have HPUT := Lib.hid hput
            clear hput
            obtain ⟨z50, z51, z52, f50, f51, f52⟩ := zero_three z5
            refine wpAnyH_ready (rs := [6]) (by kernel_rfl) (by simp) ?_
            refine AllReadyH.cons (o := ⟨none, _, _, _, _, _⟩) rfl (fun K hK => ?_) AllReadyH.nil
            go_simp
            refine hK.out _ _ (put_half HS4.out (Nat.le_trans HS0.out.size (by have := HK0.out.size; have := HK1.out.size; have := HK2.out.size; have := HK3.out.size; have := HL5.out; have := HL6.out; omega))) (fun _ => ?_)
            clear hK K
            try simp only [Act.put, List.setIfInBounds_toArray, List.set_cons_zero, List.set_cons_succ]
            clear z50 z51 z52 f50 f51 f52
            have y6 := (set3_other (V := V4) (b := V3.heap.size) (v0 := .int .i64 k0) (v1 := .int .i64 n0) (v2 := .slice a5 m0 q5) (k := V0.heap.size) (by have := HK0.out.size; have := HK1.out.size; have := HK2.out.size; have := HK3.out.size; have := HL5.out; have := HL6.out; omega)).trans z6
            obtain ⟨V5, hV5⟩ : ∃ V, ((V4.setCell ⟨V3.heap.size, 0, none⟩ (.int .i64 k0)).setCell ⟨V3.heap.size, 1, none⟩ (.int .i64 n0)).setCell ⟨V3.heap.size, 2, none⟩ (.slice a5 m0 q5) = V := ⟨_, rfl⟩
            rw [hV5] at y6 ⊢
            have HPU2 := Lib.hid (HPUT.out _ (by rw [hV5]))
            obtain ⟨z60, z61, z62, f60, f61, f62⟩ := zero_three y6
            refine wpAnyH_ready (rs := [7]) (by kernel_rfl) (by simp) ?_
            refine AllReadyH.cons (o := ⟨none, _, _, _, _, _⟩) rfl (fun K hK => ?_) AllReadyH.nil
            go_simp
            refine hK.out _ _ HPU2.out.2.2 (fun _ => ?_)
            clear hK K
            try simp only [Act.put, List.setIfInBounds_toArray, List.set_cons_zero, List.set_cons_succ]
            refine wpAnyH_done (by kernel_rfl) ?_ _
            go_wp2_with fail
            go_meet
            case rel => exact ⟨_, _, _, _, _, _, rfl, rfl, HPU2.out.1, HPU2.out.2.1, HPU2.out.2.2⟩
          · skip
            go_simp
            refine hK.out _ _ (HS2.out.alloc HS2.out.size (.cells #[.int .i64 0, .int .i64 0, .slice none 0 0] 24)) (fun _ => ?_)
            clear hK K
            try simp only [Act.put, List.setIfInBounds_toArray, List.set_cons_zero, List.set_cons_succ]
            obtain ⟨V3, hV⟩ : ∃ V, V2.alloc (.cells #[.int .i64 0, .int .i64 0, .slice none 0 0] 24) = V := ⟨_, rfl⟩
            rw [hV]
            have HK2 := Lib.hid (show Below V2.heap.size V2 V3 by rw [← hV]; exact (Below.refl _ _).alloc (Nat.le_refl _) _)
            have HZ5 := Lib.hid (show V3.heap[V2.heap.size]? = some (.cells #[.int .i64 0, .int .i64 0, .slice none 0 0] 24) by rw [← hV]; exact World.alloc_heap_new _ _)
            have HL5 := Lib.hid (show V2.heap.size < V3.heap.size by rw [← hV, World.size_alloc]; omega)
            have HS3 := Lib.hid (Go.RowKit.Below.tr HS2.out HK2.out (Nat.le_refl _))
            clear hV
            refine wpAnyH_ready (rs := [3]) (by kernel_rfl) (by simp) ?_
            refine AllReadyH.cons (o := ⟨some 15, _, _, _, _, _⟩) rfl (fun K hK => ?_) AllReadyH.nil
            go_simp
            refine (HCU.out _ HS3.out).mono ?_
            rintro e V4 ⟨a6, q6, rfl, ht, hb⟩
            have HK3 := Lib.hid hb
            have HS4 := Lib.hid (Go.RowKit.Below.tr HS3.out hb (Nat.le_refl _))
            have HT6 := Lib.hid ht
            clear hb ht
            dsimp only
            refine hK.out _ _ HS4.out (fun _ => ?_)
            clear hK K
            try simp only [Act.put, List.setIfInBounds_toArray, List.set_cons_zero, List.set_cons_succ]
            have z5 := (HK3.out.block _ HL5.out).trans HZ5.out
            have z6 := ((Go.RowKit.Below.tr (Go.RowKit.Below.tr HK1.out HK2.out (Nat.le_refl _)) HK3.out (Nat.le_refl _)).block _ HL6.out).trans HZ6.out
            have hput := fun F hF => put_two (F := F) (hi5 := V2.heap.size) (hi6 := V4.heap.size) (lo5 := V1.heap.size) (lo6 := V3.heap.size) BX3.out.says BU3.out.says z5 z6 (HT5.out.below (Go.RowKit.Below.tr HK2.out HK3.out (Nat.le_refl _)) (fun _ h => h.2) (fun _ h => h)) (HT6.out.below (Below.refl V4.heap.size V4) (fun _ h => h.2) (fun _ h => h)) HS4.out (Nat.le_trans HS0.out.size (by have := HK0.out.size; have := HK1.out.size; have := HK2.out.size; have := HK3.out.size; have := HL5.out; have := HL6.out; omega)) (Nat.le_trans HS0.out.size (by have := HK0.out.size; have := HK1.out.size; have := HK2.out.size; have := HK3.out.size; have := HL5.out; have := HL6.out; omega)) (by have := HK0.out.size; have := HK1.out.size; have := HK2.out.size; have := HK3.out.size; have := HL5.out; have := HL6.out; omega) (by have := HK0.out.size; have := HK1.out.size; have := HK2.out.size; have := HK3.out.size; have := HL5.out; have := HL6.out; omega) (by have := HK0.out.size; have := HK1.out.size; have := HK2.out.size; have := HK3.out.size; have := HL5.out; have := HL6.out; omega) (by have := HK0.out.size; have := HK1.out.size; have := HK2.out.size; have := HK3.out.size; have := HL5.out; have := HL6.out; omega) (by have := HK0.out.size; have := HK1.out.size; have := HK2.out.size; have := HK3.out.size; have := HL5.out; have := HL6.out; omega) (by have := HK0.out.size; have := HK1.out.size; have := HK2.out.size; have := HK3.out.size; have := HL5.out; have := HL6.out; omega) (by have := HK0.out.size; have := HK1.out.size; have := HK2.out.size; have := HK3.out.size; have := HL5.out; have := HL6.out; omega) hF
            have HPUT := Lib.hid hput
            clear hput
            obtain ⟨z50, z51, z52, f50, f51, f52⟩ := zero_three z5
            refine wpAnyH_ready (rs := [6]) (by kernel_rfl) (by simp) ?_
            refine AllReadyH.cons (o := ⟨none, _, _, _, _, _⟩) rfl (fun K hK => ?_) AllReadyH.nil
            go_simp
            refine hK.out _ _ (put_half HS4.out (Nat.le_trans HS0.out.size (by have := HK0.out.size; have := HK1.out.size; have := HK2.out.size; have := HK3.out.size; have := HL5.out; have := HL6.out; omega))) (fun _ => ?_)
            clear hK K
            try simp only [Act.put, List.setIfInBounds_toArray, List.set_cons_zero, List.set_cons_succ]
            clear z50 z51 z52 f50 f51 f52
            have y6 := (set3_other (V := V4) (b := V2.heap.size) (v0 := .int .i64 k0) (v1 := .int .i64 n0) (v2 := .slice a5 m0 q5) (k := V0.heap.size) (by have := HK0.out.size; have := HK1.out.size; have := HK2.out.size; have := HK3.out.size; have := HL5.out; have := HL6.out; omega)).trans z6
            obtain ⟨V5, hV5⟩ : ∃ V, ((V4.setCell ⟨V2.heap.size, 0, none⟩ (.int .i64 k0)).setCell ⟨V2.heap.size, 1, none⟩ (.int .i64 n0)).setCell ⟨V2.heap.size, 2, none⟩ (.slice a5 m0 q5) = V := ⟨_, rfl⟩
            rw [hV5] at y6 ⊢
            have HPU2 := Lib.hid (HPUT.out _ (by rw [hV5]))
            obtain ⟨z60, z61, z62, f60, f61, f62⟩ := zero_three y6
            refine wpAnyH_ready (rs := [7]) (by kernel_rfl) (by simp) ?_
            refine AllReadyH.cons (o := ⟨none, _, _, _, _, _⟩) rfl (fun K hK => ?_) AllReadyH.nil
            go_simp
            refine hK.out _ _ HPU2.out.2.2 (fun _ => ?_)
            clear hK K
            try simp only [Act.put, List.setIfInBounds_toArray, List.set_cons_zero, List.set_cons_succ]
            refine wpAnyH_done (by kernel_rfl) ?_ _
            go_wp2_with fail
            go_meet
            case rel => exact ⟨_, _, _, _, _, _, rfl, rfl, HPU2.out.1, HPU2.out.2.1, HPU2.out.2.2⟩
        · skip
          go_simp
          refine hK.out _ _ (HS1.out.alloc HS1.out.size (.cells #[.int .i64 0, .int .i64 0, .slice none 0 0] 24)) (fun _ => ?_)
          clear hK K
          try simp only [Act.put, List.setIfInBounds_toArray, List.set_cons_zero, List.set_cons_succ]
          obtain ⟨V2, hV⟩ : ∃ V, V1.alloc (.cells #[.int .i64 0, .int .i64 0, .slice none 0 0] 24) = V := ⟨_, rfl⟩
          rw [hV]
          have HK1 := Lib.hid (show Below V1.heap.size V1 V2 by rw [← hV]; exact (Below.refl _ _).alloc (Nat.le_refl _) _)
          have HZ5 := Lib.hid (show V2.heap[V1.heap.size]? = some (.cells #[.int .i64 0, .int .i64 0, .slice none 0 0] 24) by rw [← hV]; exact World.alloc_heap_new _ _)
          have HL5 := Lib.hid (show V1.heap.size < V2.heap.size by rw [← hV, World.size_alloc]; omega)
          have HS2 := Lib.hid (Go.RowKit.Below.tr HS1.out HK1.out (Nat.le_refl _))
          clear hV
          refine wpAnyH_ready (rs := [1]) (by kernel_rfl) (by simp) ?_
          refine AllReadyH.cons (o := ⟨some 13, _, _, _, _, _⟩) rfl (fun K hK => ?_) AllReadyH.nil
          go_simp
          refine (HCT.out _ HS2.out).mono ?_
          rintro e V3 ⟨a5, q5, rfl, ht, hb⟩
          have HK2 := Lib.hid hb
          have HS3 := Lib.hid (Go.RowKit.Below.tr HS2.out hb (Nat.le_refl _))
          have HT5 := Lib.hid ht
          clear hb ht
          dsimp only
          refine hK.out _ _ HS3.out (fun _ => ?_)
          clear hK K
          try simp only [Act.put, List.setIfInBounds_toArray, List.set_cons_zero, List.set_cons_succ]
          refine wpAnyH_ready (rs := [3]) (by kernel_rfl) (by simp) ?_
          refine AllReadyH.cons (o := ⟨some 15, _, _, _, _, _⟩) rfl (fun K hK => ?_) AllReadyH.nil
          go_simp
          refine (HCU.out _ HS3.out).mono ?_
          rintro e V4 ⟨a6, q6, rfl, ht, hb⟩
          have HK3 := Lib.hid hb
          have HS4 := Lib.hid (Go.RowKit.Below.tr HS3.out hb (Nat.le_refl _))
          have HT6 := Lib.hid ht
          clear hb ht
          dsimp only
          refine hK.out _ _ HS4.out (fun _ => ?_)
          clear hK K
          try simp only [Act.put, List.setIfInBounds_toArray, List.set_cons_zero, List.set_cons_succ]
          have z5 := ((Go.RowKit.Below.tr HK2.out HK3.out (Nat.le_refl _)).block _ HL5.out).trans HZ5.out
          have z6 := ((Go.RowKit.Below.tr (Go.RowKit.Below.tr HK1.out HK2.out (Nat.le_refl _)) HK3.out (Nat.le_refl _)).block _ HL6.out).trans HZ6.out
          have hput := fun F hF => put_two (F := F) (hi5 := V3.heap.size) (hi6 := V4.heap.size) (lo5 := V2.heap.size) (lo6 := V3.heap.size) BX3.out.says BU3.out.says z5 z6 (HT5.out.below HK3.out (fun _ h => h.2) (fun _ h => h)) (HT6.out.below (Below.refl V4.heap.size V4) (fun _ h => h.2) (fun _ h => h)) HS4.out (Nat.le_trans HS0.out.size (by have := HK0.out.size; have := HK1.out.size; have := HK2.out.size; have := HK3.out.size; have := HL5.out; have := HL6.out; omega)) (Nat.le_trans HS0.out.size (by have := HK0.out.size; have := HK1.out.size; have := HK2.out.size; have := HK3.out.size; have := HL5.out; have := HL6.out; omega)) (by have := HK0.out.size; have := HK1.out.size; have := HK2.out.size; have := HK3.out.size; have := HL5.out; have := HL6.out; omega) (by have := HK0.out.size; have := HK1.out.size; have := HK2.out.size; have := HK3.out.size; have := HL5.out; have := HL6.out; omega) (by have := HK0.out.size; have := HK1.out.size; have := HK2.out.size; have := HK3.out.size; have := HL5.out; have := HL6.out; omega) (by have := HK0.out.size; have := HK1.out.size; have := HK2.out.size; have := HK3.out.size; have := HL5.out; have := HL6.out; omega) (by have := HK0.out.size; have := HK1.out.size; have := HK2.out.size; have := HK3.out.size; have := HL5.out; have := HL6.out; omega) (by have := HK0.out.size; have := HK1.out.size; have := HK2.out.size; have := HK3.out.size; have := HL5.out; have := HL6.out; omega) (by have := HK0.out.size; have := HK1.out.size; have := HK2.out.size; have := HK3.out.size; have := HL5.out; have := HL6.out; omega) hF
          have HPUT := Lib.hid hput
          clear hput
          obtain ⟨z50, z51, z52, f50, f51, f52⟩ := zero_three z5
          refine wpAnyH_ready (rs := [6]) (by kernel_rfl) (by simp) ?_
          refine AllReadyH.cons (o := ⟨none, _, _, _, _, _⟩) rfl (fun K hK => ?_) AllReadyH.nil
          go_simp
          refine hK.out _ _ (put_half HS4.out (Nat.le_trans HS0.out.size (by have := HK0.out.size; have := HK1.out.size; have := HK2.out.size; have := HK3.out.size; have := HL5.out; have := HL6.out; omega))) (fun _ => ?_)
          clear hK K
          try simp only [Act.put, List.setIfInBounds_toArray, List.set_cons_zero, List.set_cons_succ]
          clear z50 z51 z52 f50 f51 f52
          have y6 := (set3_other (V := V4) (b := V1.heap.size) (v0 := .int .i64 k0) (v1 := .int .i64 n0) (v2 := .slice a5 m0 q5) (k := V0.heap.size) (by have := HK0.out.size; have := HK1.out.size; have := HK2.out.size; have := HK3.out.size; have := HL5.out; have := HL6.out; omega)).trans z6
          obtain ⟨V5, hV5⟩ : ∃ V, ((V4.setCell ⟨V1.heap.size, 0, none⟩ (.int .i64 k0)).setCell ⟨V1.heap.size, 1, none⟩ (.int .i64 n0)).setCell ⟨V1.heap.size, 2, none⟩ (.slice a5 m0 q5) = V := ⟨_, rfl⟩
          rw [hV5] at y6 ⊢
          have HPU2 := Lib.hid (HPUT.out _ (by rw [hV5]))
          obtain ⟨z60, z61, z62, f60, f61, f62⟩ := zero_three y6
          refine wpAnyH_ready (rs := [7]) (by kernel_rfl) (by simp) ?_
          refine AllReadyH.cons (o := ⟨none, _, _, _, _, _⟩) rfl (fun K hK => ?_) AllReadyH.nil
          go_simp
          refine hK.out _ _ HPU2.out.2.2 (fun _ => ?_)
          clear hK K
          try simp only [Act.put, List.setIfInBounds_toArray, List.set_cons_zero, List.set_cons_succ]
          refine wpAnyH_done (by kernel_rfl) ?_ _
          go_wp2_with fail
          go_meet
          case rel => exact ⟨_, _, _, _, _, _, rfl, rfl, HPU2.out.1, HPU2.out.2.1, HPU2.out.2.2⟩
    case rest =>
    obtain ⟨p5, p6, a5, q5, a6, q6, rfl, rfl, b5, b6, hb⟩ := hcut
    have ba4 := BX3.out.later hb; have bb4 := BU3.out.later hb
    have BA4 := Lib.hid ba4; have BB4 := Lib.hid bb4; have BX4 := Lib.hid b5; have BY4 := Lib.hid b6; have HB4 := Lib.hid (HB3.out.tr hb (Nat.le_refl _))
    have HRA := Lib.hid (fun x (h : Below wc.heap.size wc x) => rr_any (w := x) (ba4.later h).says (ba4.later h).ty)
    have HRB := Lib.hid (fun x (h : Below wc.heap.size wc x) => rr_any (w := x) (bb4.later h).says (bb4.later h).ty)
    have HCELL4 := Lib.hid (fun x (h : Below wc.heap.size wc x) => (⟨(ba4.later h).cells, (bb4.later h).cells⟩ : _ ∧ _))
    clear b5 b6 hb HCELL HCT HCU ba4 bb4
    obtain ⟨rt, hrt⟩ : ∃ r, Tp.right t = r := ⟨_, rfl⟩
    obtain ⟨ru, hru⟩ : ∃ r, Tp.right u = r := ⟨_, rfl⟩
    rw [hrt] at HRA; rw [hru] at HRB
    have HRT := Lib.hid hrt; have HRU := Lib.hid hru
    clear hrt hru
    go_upto_region 4 with fail
    have HBd := Lib.hid (Below.refl wc.heap.size wc)
    obtain ⟨⟨c0, c1, c2⟩, ⟨d0, d1, d2⟩⟩ := HCELL4.out _ HBd.out
    have HXA := Lib.hid (fun x (h : Below wc.heap.size wc x) => ks_any (w := x) (BX4.out.later h).says (BA4.out.later h).says (BX4.out.later h).ty (BA4.out.later h).ty)
    have HYB := Lib.hid (fun x (h : Below wc.heap.size wc x) => ks_any (w := x) (BY4.out.later h).says (BB4.out.later h).says (BY4.out.later h).ty (BB4.out.later h).ty)
    have HP := Lib.hid (fun x (h : Below wc.heap.size wc x) => pos_any (w := x) (BX4.out.later h).says (BY4.out.later h).says (BX4.out.later h).ty (BY4.out.later h).ty HST.out HSU.out)
    have HNG := Lib.hid (fun x (h : Below wc.heap.size wc x) => neg_any (w := x) (BX4.out.later h).says (BY4.out.later h).says (BX4.out.later h).ty (BY4.out.later h).ty HST.out HSU.out)
    have HSS := Lib.hid (fun x (h : Below wc.heap.size wc x) => sub_any (w := x) (BX4.out.later h).says (BY4.out.later h).says (BX4.out.later h).ty (BY4.out.later h).ty HST.out HSU.out)
    have HWAK := Lib.hid (fun x (_ : Below wc.heap.size wc x) => wakes10_any x)
    have HCELL5 := Lib.hid (fun x (h : Below wc.heap.size wc x) => (⟨(BA4.out.later h).cells, (BB4.out.later h).cells, (BX4.out.later h).cells, (BY4.out.later h).cells⟩ : _ ∧ _ ∧ _ ∧ _))
    rw [Tp.same_refl] at HXA; rw [Tp.same_refl] at HYB
    cases rt with
    | false =>
      have hno : ∀ d, Tp.sb d t u = false := fun d => by unfold Tp.sb; rw [HRT.out]; simp
      rw [hno] at HP HNG HSS
      clear hno
      go_upto_region 5 with (go_at_call 11; (first | with_reducible refine (HRA.out _ HBd.out).mono ?_ | with_reducible refine (HRB.out _ HBd.out).mono ?_); clear c0 c1 c2 d0 d1 d2; rintro e xw ⟨rfl, hb⟩; have HBd := Lib.hid (HBd.out.tr hb (Nat.le_refl _)); clear hb; obtain ⟨⟨c0, c1, c2⟩, ⟨d0, d1, d2⟩⟩ := HCELL4.out _ HBd.out)
      clear c0 c1 c2 d0 d1 d2
      obtain ⟨⟨c0, c1, c2⟩, ⟨d0, d1, d2⟩, ⟨e0, e1, e2⟩, ⟨g0, g1, g2⟩⟩ := HCELL5.out _ HBd.out
      go_wp2_with (first | (go_at_call 12; with_reducible refine (HP.out _ HBd.out).mono ?_; clear c0 c1 c2 d0 d1 d2 e0 e1 e2 g0 g1 g2; rintro e xw ⟨rfl, hb⟩; have HBd := Lib.hid (HBd.out.tr hb (Nat.le_refl _)); clear hb; obtain ⟨⟨c0, c1, c2⟩, ⟨d0, d1, d2⟩, ⟨e0, e1, e2⟩, ⟨g0, g1, g2⟩⟩ := HCELL5.out _ HBd.out) | (go_at_call 14; with_reducible refine (HNG.out _ HBd.out).mono ?_; clear c0 c1 c2 d0 d1 d2 e0 e1 e2 g0 g1 g2; rintro e xw ⟨rfl, hb⟩; have HBd := Lib.hid (HBd.out.tr hb (Nat.le_refl _)); clear hb; obtain ⟨⟨c0, c1, c2⟩, ⟨d0, d1, d2⟩, ⟨e0, e1, e2⟩, ⟨g0, g1, g2⟩⟩ := HCELL5.out _ HBd.out) | (go_at_call 15; with_reducible refine (HSS.out _ HBd.out).mono ?_; clear c0 c1 c2 d0 d1 d2 e0 e1 e2 g0 g1 g2; rintro e xw ⟨rfl, hb⟩; have HBd := Lib.hid (HBd.out.tr hb (Nat.le_refl _)); clear hb; obtain ⟨⟨c0, c1, c2⟩, ⟨d0, d1, d2⟩, ⟨e0, e1, e2⟩, ⟨g0, g1, g2⟩⟩ := HCELL5.out _ HBd.out) | (go_at_call 17; (first | with_reducible refine (HXA.out _ HBd.out).mono ?_ | with_reducible refine (HYB.out _ HBd.out).mono ?_); clear c0 c1 c2 d0 d1 d2 e0 e1 e2 g0 g1 g2; rintro e xw ⟨rfl, hb⟩; have HBd := Lib.hid (HBd.out.tr hb (Nat.le_refl _)); clear hb; obtain ⟨⟨c0, c1, c2⟩, ⟨d0, d1, d2⟩, ⟨e0, e1, e2⟩, ⟨g0, g1, g2⟩⟩ := HCELL5.out _ HBd.out) | (go_at_call 18; with_reducible refine (HWAK.out _ HBd.out).mono ?_; clear c0 c1 c2 d0 d1 d2 e0 e1 e2 g0 g1 g2; rintro e xw ⟨rfl, hb⟩; have HBd := Lib.hid (HBd.out.tr hb (Nat.le_refl _)); clear hb; obtain ⟨⟨c0, c1, c2⟩, ⟨d0, d1, d2⟩, ⟨e0, e1, e2⟩, ⟨g0, g1, g2⟩⟩ := HCELL5.out _ HBd.out))
      go_ret
      exact ⟨rfl, HB4.out.tr HBd.out (Nat.le_refl _)⟩
    | true =>
      cases ru with
      | false =>
        have hno : ∀ d, Tp.sb d t u = false := fun d => by unfold Tp.sb; rw [HRU.out]; simp
        rw [hno] at HP HNG HSS
        clear hno
        go_upto_region 5 with (go_at_call 11; (first | with_reducible refine (HRA.out _ HBd.out).mono ?_ | with_reducible refine (HRB.out _ HBd.out).mono ?_); clear c0 c1 c2 d0 d1 d2; rintro e xw ⟨rfl, hb⟩; have HBd := Lib.hid (HBd.out.tr hb (Nat.le_refl _)); clear hb; obtain ⟨⟨c0, c1, c2⟩, ⟨d0, d1, d2⟩⟩ := HCELL4.out _ HBd.out)
        clear c0 c1 c2 d0 d1 d2
        obtain ⟨⟨c0, c1, c2⟩, ⟨d0, d1, d2⟩, ⟨e0, e1, e2⟩, ⟨g0, g1, g2⟩⟩ := HCELL5.out _ HBd.out
        go_wp2_with (first | (go_at_call 12; with_reducible refine (HP.out _ HBd.out).mono ?_; clear c0 c1 c2 d0 d1 d2 e0 e1 e2 g0 g1 g2; rintro e xw ⟨rfl, hb⟩; have HBd := Lib.hid (HBd.out.tr hb (Nat.le_refl _)); clear hb; obtain ⟨⟨c0, c1, c2⟩, ⟨d0, d1, d2⟩, ⟨e0, e1, e2⟩, ⟨g0, g1, g2⟩⟩ := HCELL5.out _ HBd.out) | (go_at_call 14; with_reducible refine (HNG.out _ HBd.out).mono ?_; clear c0 c1 c2 d0 d1 d2 e0 e1 e2 g0 g1 g2; rintro e xw ⟨rfl, hb⟩; have HBd := Lib.hid (HBd.out.tr hb (Nat.le_refl _)); clear hb; obtain ⟨⟨c0, c1, c2⟩, ⟨d0, d1, d2⟩, ⟨e0, e1, e2⟩, ⟨g0, g1, g2⟩⟩ := HCELL5.out _ HBd.out) | (go_at_call 15; with_reducible refine (HSS.out _ HBd.out).mono ?_; clear c0 c1 c2 d0 d1 d2 e0 e1 e2 g0 g1 g2; rintro e xw ⟨rfl, hb⟩; have HBd := Lib.hid (HBd.out.tr hb (Nat.le_refl _)); clear hb; obtain ⟨⟨c0, c1, c2⟩, ⟨d0, d1, d2⟩, ⟨e0, e1, e2⟩, ⟨g0, g1, g2⟩⟩ := HCELL5.out _ HBd.out) | (go_at_call 17; (first | with_reducible refine (HXA.out _ HBd.out).mono ?_ | with_reducible refine (HYB.out _ HBd.out).mono ?_); clear c0 c1 c2 d0 d1 d2 e0 e1 e2 g0 g1 g2; rintro e xw ⟨rfl, hb⟩; have HBd := Lib.hid (HBd.out.tr hb (Nat.le_refl _)); clear hb; obtain ⟨⟨c0, c1, c2⟩, ⟨d0, d1, d2⟩, ⟨e0, e1, e2⟩, ⟨g0, g1, g2⟩⟩ := HCELL5.out _ HBd.out) | (go_at_call 18; with_reducible refine (HWAK.out _ HBd.out).mono ?_; clear c0 c1 c2 d0 d1 d2 e0 e1 e2 g0 g1 g2; rintro e xw ⟨rfl, hb⟩; have HBd := Lib.hid (HBd.out.tr hb (Nat.le_refl _)); clear hb; obtain ⟨⟨c0, c1, c2⟩, ⟨d0, d1, d2⟩, ⟨e0, e1, e2⟩, ⟨g0, g1, g2⟩⟩ := HCELL5.out _ HBd.out))
        go_ret
        exact ⟨rfl, HB4.out.tr HBd.out (Nat.le_refl _)⟩
      | true =>
        have hsb : ∀ d, Tp.sb d t u = Tp.sd d t u := fun d => Tp.sb_right HRT.out HRU.out
        rw [hsb] at HP HNG HSS
        have HQP := Lib.hid (fun x (h : Below wc.heap.size wc x) => rsp_any (w := x) (BA4.out.later h).says (BB4.out.later h).says HRT.out HRU.out (BA4.out.later h).ty (BB4.out.later h).ty)
        have HQN := Lib.hid (fun x (h : Below wc.heap.size wc x) => rsn_any (w := x) (BA4.out.later h).says (BB4.out.later h).says HRT.out HRU.out (BA4.out.later h).ty (BB4.out.later h).ty)
        have HQS := Lib.hid (fun x (h : Below wc.heap.size wc x) => rss_any (w := x) (BA4.out.later h).says (BB4.out.later h).says HRT.out HRU.out (BA4.out.later h).ty (BB4.out.later h).ty)
        obtain ⟨vp, hvp⟩ : ∃ z, Tp.sd .p t u = z := ⟨_, rfl⟩
        rw [hvp] at HP HQP
        clear hvp
        obtain ⟨vn, hvn⟩ : ∃ z, Tp.sd .n t u = z := ⟨_, rfl⟩
        rw [hvn] at HNG HQN
        clear hvn
        obtain ⟨vs, hvs⟩ : ∃ z, Tp.sd .s t u = z := ⟨_, rfl⟩
        rw [hvs] at HSS HQS
        clear hvs
        clear hsb
        go_upto_region 5 with (go_at_call 11; (first | with_reducible refine (HRA.out _ HBd.out).mono ?_ | with_reducible refine (HRB.out _ HBd.out).mono ?_); clear c0 c1 c2 d0 d1 d2; rintro e xw ⟨rfl, hb⟩; have HBd := Lib.hid (HBd.out.tr hb (Nat.le_refl _)); clear hb; obtain ⟨⟨c0, c1, c2⟩, ⟨d0, d1, d2⟩⟩ := HCELL4.out _ HBd.out)
        cases vp
        all_goals
          cases vn
          all_goals
            cases vs
            all_goals
              clear c0 c1 c2 d0 d1 d2
              obtain ⟨⟨c0, c1, c2⟩, ⟨d0, d1, d2⟩, ⟨e0, e1, e2⟩, ⟨g0, g1, g2⟩⟩ := HCELL5.out _ HBd.out
              go_wp2_with (first | (go_at_call 12; with_reducible refine (HP.out _ HBd.out).mono ?_; clear c0 c1 c2 d0 d1 d2 e0 e1 e2 g0 g1 g2; rintro e xw ⟨rfl, hb⟩; have HBd := Lib.hid (HBd.out.tr hb (Nat.le_refl _)); clear hb; obtain ⟨⟨c0, c1, c2⟩, ⟨d0, d1, d2⟩, ⟨e0, e1, e2⟩, ⟨g0, g1, g2⟩⟩ := HCELL5.out _ HBd.out) | (go_at_call 14; with_reducible refine (HNG.out _ HBd.out).mono ?_; clear c0 c1 c2 d0 d1 d2 e0 e1 e2 g0 g1 g2; rintro e xw ⟨rfl, hb⟩; have HBd := Lib.hid (HBd.out.tr hb (Nat.le_refl _)); clear hb; obtain ⟨⟨c0, c1, c2⟩, ⟨d0, d1, d2⟩, ⟨e0, e1, e2⟩, ⟨g0, g1, g2⟩⟩ := HCELL5.out _ HBd.out) | (go_at_call 15; with_reducible refine (HSS.out _ HBd.out).mono ?_; clear c0 c1 c2 d0 d1 d2 e0 e1 e2 g0 g1 g2; rintro e xw ⟨rfl, hb⟩; have HBd := Lib.hid (HBd.out.tr hb (Nat.le_refl _)); clear hb; obtain ⟨⟨c0, c1, c2⟩, ⟨d0, d1, d2⟩, ⟨e0, e1, e2⟩, ⟨g0, g1, g2⟩⟩ := HCELL5.out _ HBd.out) | (go_at_call 17; (first | with_reducible refine (HXA.out _ HBd.out).mono ?_ | with_reducible refine (HYB.out _ HBd.out).mono ?_); clear c0 c1 c2 d0 d1 d2 e0 e1 e2 g0 g1 g2; rintro e xw ⟨rfl, hb⟩; have HBd := Lib.hid (HBd.out.tr hb (Nat.le_refl _)); clear hb; obtain ⟨⟨c0, c1, c2⟩, ⟨d0, d1, d2⟩, ⟨e0, e1, e2⟩, ⟨g0, g1, g2⟩⟩ := HCELL5.out _ HBd.out) | (go_at_call 18; with_reducible refine (HWAK.out _ HBd.out).mono ?_; clear c0 c1 c2 d0 d1 d2 e0 e1 e2 g0 g1 g2; rintro e xw ⟨rfl, hb⟩; have HBd := Lib.hid (HBd.out.tr hb (Nat.le_refl _)); clear hb; obtain ⟨⟨c0, c1, c2⟩, ⟨d0, d1, d2⟩, ⟨e0, e1, e2⟩, ⟨g0, g1, g2⟩⟩ := HCELL5.out _ HBd.out) | (go_at_call 13; (first | with_reducible refine (HQP.out _ HBd.out).mono ?_ | with_reducible refine (HQN.out _ HBd.out).mono ?_); clear c0 c1 c2 d0 d1 d2 e0 e1 e2 g0 g1 g2; rintro e xw ⟨rfl, hb⟩; have HBd := Lib.hid (HBd.out.tr hb (Nat.le_refl _)); clear hb; obtain ⟨⟨c0, c1, c2⟩, ⟨d0, d1, d2⟩, ⟨e0, e1, e2⟩, ⟨g0, g1, g2⟩⟩ := HCELL5.out _ HBd.out) | (go_at_call 16; with_reducible refine (HQS.out _ HBd.out).mono ?_; clear c0 c1 c2 d0 d1 d2 e0 e1 e2 g0 g1 g2; rintro e xw ⟨rfl, hb⟩; have HBd := Lib.hid (HBd.out.tr hb (Nat.le_refl _)); clear hb; obtain ⟨⟨c0, c1, c2⟩, ⟨d0, d1, d2⟩, ⟨e0, e1, e2⟩, ⟨g0, g1, g2⟩⟩ := HCELL5.out _ HBd.out))
              go_ret
              exact ⟨rfl, HB4.out.tr HBd.out (Nat.le_refl _)⟩
end Go.Proofs.Ytafekidkikfpcaa
namespace Go.Proofs.Ytafekidkikfpcaa.subExact
open Go Go.ChangeShapes Go.WideShapes Go.ChangeAt Go.RowKit

set_option maxRecDepth 100000 in
theorem lifted (os : Os) (started : os.Started) (H : Type) (enc : TypeId × Value → H) :
    ReturnsInHanded {} Try.checked os 3 .any (Rows.subExactSpec.pre6 enc Try.prog Try.f3 Rows.subExactRow.domain false) (Rows.subExactSpec.post enc Try.prog Try.f3 false true false false) := by
  refine returnsInHanded_of_change (C := Try.checked) ownK started (by kernel_rfl) Try.func3
    (ChangeSpec.witness6 (enc := enc) (C := Try.checked) false ⟨#[], #[.agg #[.int .i64 0, .int .i64 0, .slice none 0 0], .agg #[.int .i64 0, .int .i64 0, .slice none 0 0]], []⟩ 8 (by kernel_rfl) (by kernel_rfl) (by kernel_rfl) (by kernel_rfl)) ?_
  intro W base args ds gs before hval0 hW hcnd _
  clear hcnd
  have hval : ∀ (j : Nat) t v, Try.f3.params[j]? = some t → args[j]? = some v → Value.okWide Try.prog W .any base t v := hval0
  have hW' := hW
  obtain ⟨p, q, hA0, hV, rfl, hfz, hnd⟩ := hW
  have hA : DataW.TrodAll enc Try.prog W 0 (fun _ => true) true Try.f3.params.toList args.toList ds p := hA0
  rw [Try.params3] at hA hval
  obtain ⟨v0, vs0, d0, ds0, p0, q0, hargs, rfl, rfl, h0, r0⟩ := trodAll_cons hA
  obtain ⟨v1, vs1, d1, ds1, p1, q1, rfl, rfl, rfl, h1, r1⟩ := trodAll_cons r0
  obtain ⟨rfl, rfl, rfl⟩ := trodAll_nil r1
  obtain rfl : args = #[v0, v1] := by cases args; simp_all
  obtain ⟨rfl, rfl⟩ := trodVars_none hV
  have hk0 := h0
  obtain ⟨t0, a0, cap0, rfl, ht0⟩ := open_ty (hval 0 24 v0 rfl rfl) h0
  have hk1 := h1
  obtain ⟨t1, a1, cap1, rfl, ht1⟩ := open_ty (hval 1 24 v1 rfl rfl) h1
  clear hA0 hval0
  simp only [List.append_nil] at hW'
  have hlt0 : ∀ x ∈ p0, x.block < W.heap.size := fun x hx => hW'.lt x (by simp [hx])
  have hlt1 : ∀ x ∈ p1, x.block < W.heap.size := fun x hx => hW'.lt x (by simp [hx])
  refine (lexact10_any t0 a0 cap0 t1 a1 cap1 W  ht0 ht1).mono fun e W' ⟨he, hb⟩ => ?_
  subst he
  refine ⟨_, rfl, _, _, _, [], p0 ++ (p1 ++ []), [], hW', ?_, ?_, rfl, hb.frame _, fun h => by cases h⟩
  · exact trodAll_cons_mk (shut_bool Try.underlying4 _) trodAll_mk0
  · exact (trodAll_cons_mk (Below.trod laidOut (by kernel_rfl) (of_decide_eq_true (by kernel_rfl)) hk0 hb hlt0) (trodAll_cons_mk (Below.trod laidOut (by kernel_rfl) (of_decide_eq_true (by kernel_rfl)) hk1 hb hlt1) trodAll_mk0))

theorem said : Rows.SubExactSaid :=
  OpenClaim.holds_of_wide 3 Try.f3 rfl rfl rfl rfl rfl rfl rfl ⟨rfl, rfl, rfl, rfl, rfl⟩ rfl rfl rfl rfl rfl (by kernel_rfl) Try.func3 (by kernel_rfl)
    (of_decide_eq_true (by kernel_rfl)) (by unfold Func.isWrapper; first | (rw [if_pos (by decide +kernel)]; kernel_rfl) | (rw [if_neg (by decide +kernel)]; exact ⟨rfl, rfl⟩))
    (fun os started H enc _ => lifted os started H enc)
#print axioms said
end Go.Proofs.Ytafekidkikfpcaa.subExact
