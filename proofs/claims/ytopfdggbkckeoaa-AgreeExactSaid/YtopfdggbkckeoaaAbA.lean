/- The law AgreeBoth: its walk. -/
import Derived.Test.YtopfdggbkckeoaaAgW
namespace Go.Proofs.Ytopfdggbkckeoaa
open Go Go.RowKit
open Tp (T)

theorem ok_comm (t u : T) : Tp.ok t u = Tp.ok u t := by
  unfold Tp.ok
  cases h1 : Tp.right t <;> cases h2 : Tp.right u <;> simp
  exact Tp.agree_comm t u h1 h2
theorem ok_parts {t u : T} (h : Tp.ok t u = true) : Tp.right t = true ∧ Tp.right u = true ∧ Tp.agree t u = true := by
  unfold Tp.ok at h; simp only [Bool.and_eq_true] at h; exact ⟨h.1.1, h.1.2, h.2⟩
theorem Mt_comm (t u : T) : Mt t u = Mt u t := by
  unfold Mt
  rw [ok_comm u t]
  split
  · rename_i h
    obtain ⟨h1, h2, h3⟩ := ok_parts h
    exact Tp.meet_comm t u h1 h2 h3
  · rfl
theorem ok_self {t : T} (h : Tp.right t = true) : Tp.ok t t = true := by unfold Tp.ok; rw [h, Tp.agree_self t h]; rfl
theorem Mt_self {t : T} (h : Tp.right t = true) : Mt t t = t := by unfold Mt; rw [if_pos (ok_self h), Tp.meet_self]
/-- What the laws first ask: two right types, not too great. -/
theorem pair_right {t u : T} (h : (!decide (600 < Tp.sizes [t, u]) && Tp.rights [t, u]) = true) : Tp.right t = true ∧ Tp.right u = true ∧ Tp.size t + Tp.size u ≤ 600 := by
  by_cases hc : 600 < Tp.sizes [t, u]
  · rw [decide_eq_true hc] at h; simp at h
  · rw [decide_eq_false hc] at h
    simp only [Bool.not_false, Bool.true_and, Tp.rights, Bool.and_eq_true] at h
    simp only [Tp.sizes] at hc
    exact ⟨h.1, h.2.1, by omega⟩

set_option maxRecDepth 100000 in
set_option maxHeartbeats 4000000 in
theorem lboth_any (t : T) (a : Option Addr) (cap : Nat) (u : T) (b : Option Addr) (cap' : Nat) (w : World) (hty : TyAt (LT w.heap.size) w t a cap) (hty' : TyAt (LT w.heap.size) w u b cap') :
    Calls Try.prog 4 #[tv t a cap, tv u b cap'] w fun e w' => e = .returned (.bool true) ∧ Below w.heap.size w w' := by
  obtain ⟨k0, n0, m0, hv⟩ := TV.mk t
  obtain ⟨k9, n9, m9, hv'⟩ := TV.mk u
  rw [tv_of hv, tv_of hv']
  obtain ⟨W2, hW2⟩ : ∃ W2, (w.alloc (.cells #[.int .i64 k0, .int .i64 n0, .slice a m0 cap] 24)).alloc (.cells #[.int .i64 k9, .int .i64 n9, .slice b m9 cap'] 24) = W2 := ⟨_, rfl⟩
  have hb2 : Below w.heap.size w W2 := by rw [← hW2]; exact ((Below.refl _ _).alloc (Nat.le_refl _) _).alloc (by simp) _
  have hs2 : W2.heap.size = w.heap.size + 2 := by rw [← hW2]; simp
  have bx : BoxT W2 w.heap.size t k0 n0 m0 a cap := ⟨hv, by rw [← hW2]; exact box1 _ _ _ _ _, ty_later hty hb2⟩
  have bu : BoxT W2 (w.heap.size + 1) u k9 n9 m9 b cap' := ⟨hv', by rw [← hW2]; exact box2 _ _ _ _ _, ty_later hty' hb2⟩
  obtain ⟨rr, hrr⟩ : ∃ r, (!decide (600 < Tp.sizes [t, u]) && Tp.rights [t, u]) = r := ⟨_, rfl⟩
  have hri := lright_any [t, u] (some ⟨W2.heap.size, 0, none⟩) 2 _ (by simp) (row_two bx.ty bu.ty hv.1 hv.2.1 hv.2.2 hv'.1 hv'.2.1 hv'.2.2)
  rw [hrr] at hri
  have HRI := Lib.hid hri; have HRR := Lib.hid hrr; have HB2 := Lib.hid hb2; have HS2 := Lib.hid hs2; have HW2 := Lib.hid hW2; have BX := Lib.hid bx; have BU := Lib.hid bu
  clear hri hrr hb2 hs2 hW2 hty hty' hv hv'
  go_enter Try.func4, Try.ntmps4
  go_upto_region 1 with fail
  rw [HW2.out]
  obtain ⟨c0, c1, c2⟩ := bx.cells
  obtain ⟨d0, d1, d2⟩ := bu.cells
  clear bx bu
  go_wp2_with fail
  refine HRI.out.mono ?_
  clear c0 c1 c2 d0 d1 d2
  rintro e w3 ⟨rfl, hb3⟩
  have hb23 : Below W2.heap.size W2 w3 := ((Below.refl _ _).alloc (Nat.le_refl _) _).tr hb3 (Nat.le_refl _)
  have BX3 := Lib.hid (BX.out.later hb23); have BU3 := Lib.hid (BU.out.later hb23); have HB3 := Lib.hid (HB2.out.tr hb23 (Nat.le_refl _))
  clear hb3 hb23
  cases rr with
  | false =>
    go_wp2_with fail
    go_ret
    exact ⟨rfl, HB3.out⟩
  | true =>
    obtain ⟨hrt, hru, hsz⟩ := pair_right HRR.out
    have HST := Lib.hid (show Tp.size t ≤ 10000 by omega); have HSU := Lib.hid (show Tp.size u ≤ 10000 by omega)
    have HRT := Lib.hid hrt; have HRU := Lib.hid hru
    clear hrt hru hsz
    obtain ⟨c0, c1, c2⟩ := BX3.out.cells
    obtain ⟨d0, d1, d2⟩ := BU3.out.cells
    go_wp2_with fail
    refine (mt_any BX3.out.says BU3.out.says BX3.out.ty BU3.out.ty HST.out HSU.out).mono ?_
    clear c0 c1 c2 d0 d1 d2
    rintro e w4 ⟨k1, n1, m1, a1, p1, hv1, rfl, ty1, hb⟩
    obtain ⟨W5, hW5⟩ : ∃ W5, w4.alloc (.cells #[.int .i64 k1, .int .i64 n1, .slice a1 m1 p1] 24) = W5 := ⟨_, rfl⟩
    have hb5 : Below w4.heap.size w4 W5 := by rw [← hW5]; exact (Below.refl _ _).alloc (Nat.le_refl _) _
    have hbb := hb.tr hb5 (Nat.le_refl _)
    have BM5 := Lib.hid (show BoxT W5 w4.heap.size (Mt t u) k1 n1 m1 a1 p1 from ⟨hv1, by rw [← hW5]; exact World.alloc_heap_new w4 _, ty_later ty1 hb5⟩)
    have BX5 := Lib.hid (BX3.out.later hbb); have BU5 := Lib.hid (BU3.out.later hbb); have HB5 := Lib.hid (HB3.out.tr hbb (Nat.le_refl _)); have HW5 := Lib.hid hW5
    clear hW5 hb5 hbb hv1 ty1 hb
    go_upto_region 4 with fail
    rw [HW5.out]
    obtain ⟨c0, c1, c2⟩ := BX5.out.cells
    obtain ⟨d0, d1, d2⟩ := BU5.out.cells
    go_wp2_with fail
    refine (mt_any BU5.out.says BX5.out.says BU5.out.ty BX5.out.ty HSU.out HST.out).mono ?_
    clear c0 c1 c2 d0 d1 d2
    rintro e w6 ⟨k2, n2, m2, a2, p2, hv2, rfl, ty2, hb⟩
    obtain ⟨W7, hW7⟩ : ∃ W7, w6.alloc (.cells #[.int .i64 k2, .int .i64 n2, .slice a2 m2 p2] 24) = W7 := ⟨_, rfl⟩
    have hb7 : Below w6.heap.size w6 W7 := by rw [← hW7]; exact (Below.refl _ _).alloc (Nat.le_refl _) _
    have hbb := hb.tr hb7 (Nat.le_refl _)
    have BN7 := Lib.hid (show BoxT W7 w6.heap.size (Mt u t) k2 n2 m2 a2 p2 from ⟨hv2, by rw [← hW7]; exact World.alloc_heap_new w6 _, ty_later ty2 hb7⟩)
    have BM7 := Lib.hid (BM5.out.later hbb); have BX7 := Lib.hid (BX5.out.later hbb); have BU7 := Lib.hid (BU5.out.later hbb); have HB7 := Lib.hid (HB5.out.tr hbb (Nat.le_refl _)); have HW7 := Lib.hid hW7
    clear hW7 hb7 hbb hv2 ty2 hb
    go_upto_region 5 with fail
    rw [HW7.out]
    obtain ⟨c0, c1, c2⟩ := BX7.out.cells
    go_wp2_with fail
    refine (mt_any BX7.out.says BX7.out.says BX7.out.ty BX7.out.ty HST.out HST.out).mono ?_
    clear c0 c1 c2
    rintro e w8 ⟨k3, n3, m3, a3, p3, hv3, rfl, ty3, hb⟩
    obtain ⟨W9, hW9⟩ : ∃ W9, w8.alloc (.cells #[.int .i64 k3, .int .i64 n3, .slice a3 m3 p3] 24) = W9 := ⟨_, rfl⟩
    have hb9 : Below w8.heap.size w8 W9 := by rw [← hW9]; exact (Below.refl _ _).alloc (Nat.le_refl _) _
    have hbb := hb.tr hb9 (Nat.le_refl _)
    have bs9 : BoxT W9 w8.heap.size (Mt t t) k3 n3 m3 a3 p3 := ⟨hv3, by rw [← hW9]; exact World.alloc_heap_new w8 _, ty_later ty3 hb9⟩
    have bn9 := BN7.out.later hbb; have bm9 := BM7.out.later hbb; have bx9 := BX7.out.later hbb; have bu9 := BU7.out.later hbb
    have HB9 := Lib.hid (HB7.out.tr hbb (Nat.le_refl _)); have HW9 := Lib.hid hW9
    obtain ⟨o, ho⟩ : ∃ o, Tp.ok t u = o := ⟨_, rfl⟩
    have ho' : Tp.ok u t = o := by rw [ok_comm, ho]
    rw [ho, ho', ok_self HRT.out]
    have HATU := Lib.hid (fun x (h : Below W9.heap.size W9 x) => ag_any (w := x) (bx9.later h).says (bu9.later h).says (bx9.later h).ty (bu9.later h).ty HST.out HSU.out)
    have HAUT := Lib.hid (fun x (h : Below W9.heap.size W9 x) => ag_any (w := x) (bu9.later h).says (bx9.later h).says (bu9.later h).ty (bx9.later h).ty HSU.out HST.out)
    have HATT := Lib.hid (fun x (h : Below W9.heap.size W9 x) => ag_any (w := x) (bx9.later h).says (bx9.later h).says (bx9.later h).ty (bx9.later h).ty HST.out HST.out)
    have HSMN := Lib.hid (fun x (h : Below W9.heap.size W9 x) => ks_any (w := x) (bm9.later h).says (bn9.later h).says (bm9.later h).ty (bn9.later h).ty)
    have HSST := Lib.hid (fun x (h : Below W9.heap.size W9 x) => ks_any (w := x) (bs9.later h).says (bx9.later h).says (bs9.later h).ty (bx9.later h).ty)
    have HWAK := Lib.hid (fun x (_ : Below W9.heap.size W9 x) => wakes_any x)
    have hsmn : Tp.same (Mt t u) (Mt u t) = true := by rw [Mt_comm u t]; exact Tp.same_refl _
    have hsst : Tp.same (Mt t t) t = true := by rw [Mt_self HRT.out]; exact Tp.same_refl _
    have HCELL := Lib.hid (fun x (h : Below W9.heap.size W9 x) => (⟨(bx9.later h).cells, (bu9.later h).cells, (bm9.later h).cells, (bn9.later h).cells, (bs9.later h).cells⟩ : _ ∧ _ ∧ _ ∧ _ ∧ _))
    have HLE := Lib.hid (fun x (h : Below W9.heap.size W9 x) => h.size)
    have HOK := Lib.hid ho; have HOK' := Lib.hid ho'; have HOT := Lib.hid (ok_self HRT.out); have HSM := Lib.hid hsmn; have HSS := Lib.hid hsst
    rw [ho] at HATU; rw [ho'] at HAUT; rw [ok_self HRT.out] at HATT; rw [hsmn] at HSMN; rw [hsst] at HSST
    clear hW9 hb9 hbb hv3 ty3 hb bs9 bn9 bm9 bx9 bu9 ho ho' hsmn hsst
    go_upto_region 6 with fail
    rw [HW9.out]
    have HBd := Lib.hid (Below.refl W9.heap.size W9).drew
    obtain ⟨⟨c0, c1, c2⟩, ⟨d0, d1, d2⟩, ⟨e0, e1, e2⟩, ⟨g0, g1, g2⟩, ⟨h0, h1, h2⟩⟩ := HCELL.out _ HBd.out
    cases o
    all_goals
      refine wp_region_seq [(0, false), (0, false), (1, false), (1, false), (0, true), (0, true), (0, false), (0, false), (0, false), (0, false), (0, true), (0, false), (0, false), (0, false), (0, false), (0, false), (0, true), (0, false), (0, false), (0, false), (0, false), (0, false), (0, false), (0, false), (0, false), (0, false), (0, false), (0, true), (0, false), (0, false), (0, false), (0, false), (0, false), (0, false), (0, false), (0, true), (0, false), (0, false), (0, true), (0, false), (0, false)] (by kernel_rfl) (by kernel_rfl) (by kernel_rfl) (fun _ _ _ d _ h => by cases d <;> exact h) ?_
      repeat
        first
        | (first | with_reducible refine sp0 (fun K hK => ?_) | with_reducible refine sp1 (fun K hK => ?_) | with_reducible refine sp2 (fun K hK => ?_) | with_reducible refine sp3 (fun K hK => ?_) | with_reducible refine sp4 (fun K hK => ?_)
           go_simp
           first
           | (with_reducible refine hK _ _ ?_; clear hK K)
           | (with_reducible apply Exists.intro
              refine ⟨fun x hx => ?_, hK _ _ ?_⟩
              first
                | (with_reducible exact rfl)
                | (have y0 := keepc hx c0; have y1 := keepc hx c1; have y2 := keepc hx c2; have y3 := keepc hx d0; have y4 := keepc hx d1; have y5 := keepc hx d2; have y6 := keepc hx e0; have y7 := keepc hx e1; have y8 := keepc hx e2; have y9 := keepc hx g0; have y10 := keepc hx g1; have y11 := keepc hx g2; have y12 := keepc hx h0; have y13 := keepc hx h1; have y14 := keepc hx h2; go_simp; done)
                | (have y0 := keepc hx c0; have y1 := keepc hx c1; have y2 := keepc hx c2; have y3 := keepc hx d0; have y4 := keepc hx d1; have y5 := keepc hx d2; have y6 := keepc hx e0; have y7 := keepc hx e1; have y8 := keepc hx e2; have y9 := keepc hx g0; have y10 := keepc hx g1; have y11 := keepc hx g2; have y12 := keepc hx h0; have y13 := keepc hx h1; have y14 := keepc hx h2; go_simp; with_reducible exact rfl)
              clear hK K))
        | (first | with_reducible refine sk0 ?_ (fun K hK => ?_) | with_reducible refine sk1 ?_ (fun K hK => ?_) | with_reducible refine sk2 ?_ (fun K hK => ?_) | with_reducible refine sk3 ?_ (fun K hK => ?_) | with_reducible refine sk4 ?_ (fun K hK => ?_)
           rfl
           go_simp
           with_reducible refine hK _ _ ?_
           clear hK K)
      first | with_reducible refine sc0 (fun K hK => ?_) | with_reducible refine sc1 (fun K hK => ?_) | with_reducible refine sc2 (fun K hK => ?_) | with_reducible refine sc3 (fun K hK => ?_) | with_reducible refine sc4 (fun K hK => ?_)
      go_simp
      refine (HATU.out _ HBd.out).mono ?_
      clear c0 c1 c2 d0 d1 d2 e0 e1 e2 g0 g1 g2 h0 h1 h2
      rintro e x1 ⟨rfl, hb9⟩
      refine ⟨hb9, hK _ _ ?_⟩
      clear hK K
      have HX1 := Lib.hid (HBd.out.trans (hb9.mono (HLE.out _ HBd.out)))
      clear hb9
      obtain ⟨⟨c0, c1, c2⟩, ⟨d0, d1, d2⟩, ⟨e0, e1, e2⟩, ⟨g0, g1, g2⟩, ⟨h0, h1, h2⟩⟩ := HCELL.out x1 HX1.out
      repeat
        first
        | (first | with_reducible refine sp0 (fun K hK => ?_) | with_reducible refine sp1 (fun K hK => ?_) | with_reducible refine sp2 (fun K hK => ?_) | with_reducible refine sp3 (fun K hK => ?_) | with_reducible refine sp4 (fun K hK => ?_)
           go_simp
           first
           | (with_reducible refine hK _ _ ?_; clear hK K)
           | (with_reducible apply Exists.intro
              refine ⟨fun x hx => ?_, hK _ _ ?_⟩
              first
                | (with_reducible exact rfl)
                | (have y0 := keepc hx c0; have y1 := keepc hx c1; have y2 := keepc hx c2; have y3 := keepc hx d0; have y4 := keepc hx d1; have y5 := keepc hx d2; have y6 := keepc hx e0; have y7 := keepc hx e1; have y8 := keepc hx e2; have y9 := keepc hx g0; have y10 := keepc hx g1; have y11 := keepc hx g2; have y12 := keepc hx h0; have y13 := keepc hx h1; have y14 := keepc hx h2; go_simp; done)
                | (have y0 := keepc hx c0; have y1 := keepc hx c1; have y2 := keepc hx c2; have y3 := keepc hx d0; have y4 := keepc hx d1; have y5 := keepc hx d2; have y6 := keepc hx e0; have y7 := keepc hx e1; have y8 := keepc hx e2; have y9 := keepc hx g0; have y10 := keepc hx g1; have y11 := keepc hx g2; have y12 := keepc hx h0; have y13 := keepc hx h1; have y14 := keepc hx h2; go_simp; with_reducible exact rfl)
              clear hK K))
        | (first | with_reducible refine sk0 ?_ (fun K hK => ?_) | with_reducible refine sk1 ?_ (fun K hK => ?_) | with_reducible refine sk2 ?_ (fun K hK => ?_) | with_reducible refine sk3 ?_ (fun K hK => ?_) | with_reducible refine sk4 ?_ (fun K hK => ?_)
           rfl
           go_simp
           with_reducible refine hK _ _ ?_
           clear hK K)
      first | with_reducible refine sc0 (fun K hK => ?_) | with_reducible refine sc1 (fun K hK => ?_) | with_reducible refine sc2 (fun K hK => ?_) | with_reducible refine sc3 (fun K hK => ?_) | with_reducible refine sc4 (fun K hK => ?_)
      go_simp
      refine (HAUT.out _ HX1.out).mono ?_
      clear c0 c1 c2 d0 d1 d2 e0 e1 e2 g0 g1 g2 h0 h1 h2
      rintro e x2 ⟨rfl, hb9⟩
      refine ⟨hb9, hK _ _ ?_⟩
      clear hK K
      have HX2 := Lib.hid (HX1.out.trans (hb9.mono (HLE.out _ HX1.out)))
      clear hb9
      obtain ⟨⟨c0, c1, c2⟩, ⟨d0, d1, d2⟩, ⟨e0, e1, e2⟩, ⟨g0, g1, g2⟩, ⟨h0, h1, h2⟩⟩ := HCELL.out x2 HX2.out
      repeat
        first
        | (first | with_reducible refine sp0 (fun K hK => ?_) | with_reducible refine sp1 (fun K hK => ?_) | with_reducible refine sp2 (fun K hK => ?_) | with_reducible refine sp3 (fun K hK => ?_) | with_reducible refine sp4 (fun K hK => ?_)
           go_simp
           first
           | (with_reducible refine hK _ _ ?_; clear hK K)
           | (with_reducible apply Exists.intro
              refine ⟨fun x hx => ?_, hK _ _ ?_⟩
              first
                | (with_reducible exact rfl)
                | (have y0 := keepc hx c0; have y1 := keepc hx c1; have y2 := keepc hx c2; have y3 := keepc hx d0; have y4 := keepc hx d1; have y5 := keepc hx d2; have y6 := keepc hx e0; have y7 := keepc hx e1; have y8 := keepc hx e2; have y9 := keepc hx g0; have y10 := keepc hx g1; have y11 := keepc hx g2; have y12 := keepc hx h0; have y13 := keepc hx h1; have y14 := keepc hx h2; go_simp; done)
                | (have y0 := keepc hx c0; have y1 := keepc hx c1; have y2 := keepc hx c2; have y3 := keepc hx d0; have y4 := keepc hx d1; have y5 := keepc hx d2; have y6 := keepc hx e0; have y7 := keepc hx e1; have y8 := keepc hx e2; have y9 := keepc hx g0; have y10 := keepc hx g1; have y11 := keepc hx g2; have y12 := keepc hx h0; have y13 := keepc hx h1; have y14 := keepc hx h2; go_simp; with_reducible exact rfl)
              clear hK K))
        | (first | with_reducible refine sk0 ?_ (fun K hK => ?_) | with_reducible refine sk1 ?_ (fun K hK => ?_) | with_reducible refine sk2 ?_ (fun K hK => ?_) | with_reducible refine sk3 ?_ (fun K hK => ?_) | with_reducible refine sk4 ?_ (fun K hK => ?_)
           rfl
           go_simp
           with_reducible refine hK _ _ ?_
           clear hK K)
      first | with_reducible refine sc0 (fun K hK => ?_) | with_reducible refine sc1 (fun K hK => ?_) | with_reducible refine sc2 (fun K hK => ?_) | with_reducible refine sc3 (fun K hK => ?_) | with_reducible refine sc4 (fun K hK => ?_)
      go_simp
      refine (HATT.out _ HX2.out).mono ?_
      clear c0 c1 c2 d0 d1 d2 e0 e1 e2 g0 g1 g2 h0 h1 h2
      rintro e x3 ⟨rfl, hb9⟩
      refine ⟨hb9, hK _ _ ?_⟩
      clear hK K
      have HX3 := Lib.hid (HX2.out.trans (hb9.mono (HLE.out _ HX2.out)))
      clear hb9
      obtain ⟨⟨c0, c1, c2⟩, ⟨d0, d1, d2⟩, ⟨e0, e1, e2⟩, ⟨g0, g1, g2⟩, ⟨h0, h1, h2⟩⟩ := HCELL.out x3 HX3.out
      repeat
        first
        | (first | with_reducible refine sp0 (fun K hK => ?_) | with_reducible refine sp1 (fun K hK => ?_) | with_reducible refine sp2 (fun K hK => ?_) | with_reducible refine sp3 (fun K hK => ?_) | with_reducible refine sp4 (fun K hK => ?_)
           go_simp
           first
           | (with_reducible refine hK _ _ ?_; clear hK K)
           | (with_reducible apply Exists.intro
              refine ⟨fun x hx => ?_, hK _ _ ?_⟩
              first
                | (with_reducible exact rfl)
                | (have y0 := keepc hx c0; have y1 := keepc hx c1; have y2 := keepc hx c2; have y3 := keepc hx d0; have y4 := keepc hx d1; have y5 := keepc hx d2; have y6 := keepc hx e0; have y7 := keepc hx e1; have y8 := keepc hx e2; have y9 := keepc hx g0; have y10 := keepc hx g1; have y11 := keepc hx g2; have y12 := keepc hx h0; have y13 := keepc hx h1; have y14 := keepc hx h2; go_simp; done)
                | (have y0 := keepc hx c0; have y1 := keepc hx c1; have y2 := keepc hx c2; have y3 := keepc hx d0; have y4 := keepc hx d1; have y5 := keepc hx d2; have y6 := keepc hx e0; have y7 := keepc hx e1; have y8 := keepc hx e2; have y9 := keepc hx g0; have y10 := keepc hx g1; have y11 := keepc hx g2; have y12 := keepc hx h0; have y13 := keepc hx h1; have y14 := keepc hx h2; go_simp; with_reducible exact rfl)
              clear hK K))
        | (first | with_reducible refine sk0 ?_ (fun K hK => ?_) | with_reducible refine sk1 ?_ (fun K hK => ?_) | with_reducible refine sk2 ?_ (fun K hK => ?_) | with_reducible refine sk3 ?_ (fun K hK => ?_) | with_reducible refine sk4 ?_ (fun K hK => ?_)
           rfl
           go_simp
           with_reducible refine hK _ _ ?_
           clear hK K)
      first | with_reducible refine sc0 (fun K hK => ?_) | with_reducible refine sc1 (fun K hK => ?_) | with_reducible refine sc2 (fun K hK => ?_) | with_reducible refine sc3 (fun K hK => ?_) | with_reducible refine sc4 (fun K hK => ?_)
      go_simp
      refine (HATU.out _ HX3.out).mono ?_
      clear c0 c1 c2 d0 d1 d2 e0 e1 e2 g0 g1 g2 h0 h1 h2
      rintro e x4 ⟨rfl, hb9⟩
      refine ⟨hb9, hK _ _ ?_⟩
      clear hK K
      have HX4 := Lib.hid (HX3.out.trans (hb9.mono (HLE.out _ HX3.out)))
      clear hb9
      obtain ⟨⟨c0, c1, c2⟩, ⟨d0, d1, d2⟩, ⟨e0, e1, e2⟩, ⟨g0, g1, g2⟩, ⟨h0, h1, h2⟩⟩ := HCELL.out x4 HX4.out
      repeat
        first
        | (first | with_reducible refine sp0 (fun K hK => ?_) | with_reducible refine sp1 (fun K hK => ?_) | with_reducible refine sp2 (fun K hK => ?_) | with_reducible refine sp3 (fun K hK => ?_) | with_reducible refine sp4 (fun K hK => ?_)
           go_simp
           first
           | (with_reducible refine hK _ _ ?_; clear hK K)
           | (with_reducible apply Exists.intro
              refine ⟨fun x hx => ?_, hK _ _ ?_⟩
              first
                | (with_reducible exact rfl)
                | (have y0 := keepc hx c0; have y1 := keepc hx c1; have y2 := keepc hx c2; have y3 := keepc hx d0; have y4 := keepc hx d1; have y5 := keepc hx d2; have y6 := keepc hx e0; have y7 := keepc hx e1; have y8 := keepc hx e2; have y9 := keepc hx g0; have y10 := keepc hx g1; have y11 := keepc hx g2; have y12 := keepc hx h0; have y13 := keepc hx h1; have y14 := keepc hx h2; go_simp; done)
                | (have y0 := keepc hx c0; have y1 := keepc hx c1; have y2 := keepc hx c2; have y3 := keepc hx d0; have y4 := keepc hx d1; have y5 := keepc hx d2; have y6 := keepc hx e0; have y7 := keepc hx e1; have y8 := keepc hx e2; have y9 := keepc hx g0; have y10 := keepc hx g1; have y11 := keepc hx g2; have y12 := keepc hx h0; have y13 := keepc hx h1; have y14 := keepc hx h2; go_simp; with_reducible exact rfl)
              clear hK K))
        | (first | with_reducible refine sk0 ?_ (fun K hK => ?_) | with_reducible refine sk1 ?_ (fun K hK => ?_) | with_reducible refine sk2 ?_ (fun K hK => ?_) | with_reducible refine sk3 ?_ (fun K hK => ?_) | with_reducible refine sk4 ?_ (fun K hK => ?_)
           rfl
           go_simp
           with_reducible refine hK _ _ ?_
           clear hK K)
      first | with_reducible refine sc0 (fun K hK => ?_) | with_reducible refine sc1 (fun K hK => ?_) | with_reducible refine sc2 (fun K hK => ?_) | with_reducible refine sc3 (fun K hK => ?_) | with_reducible refine sc4 (fun K hK => ?_)
      go_simp
      refine (HSMN.out _ HX4.out).mono ?_
      clear c0 c1 c2 d0 d1 d2 e0 e1 e2 g0 g1 g2 h0 h1 h2
      rintro e x5 ⟨rfl, hb9⟩
      refine ⟨hb9, hK _ _ ?_⟩
      clear hK K
      have HX5 := Lib.hid (HX4.out.trans (hb9.mono (HLE.out _ HX4.out)))
      clear hb9
      obtain ⟨⟨c0, c1, c2⟩, ⟨d0, d1, d2⟩, ⟨e0, e1, e2⟩, ⟨g0, g1, g2⟩, ⟨h0, h1, h2⟩⟩ := HCELL.out x5 HX5.out
      repeat
        first
        | (first | with_reducible refine sp0 (fun K hK => ?_) | with_reducible refine sp1 (fun K hK => ?_) | with_reducible refine sp2 (fun K hK => ?_) | with_reducible refine sp3 (fun K hK => ?_) | with_reducible refine sp4 (fun K hK => ?_)
           go_simp
           first
           | (with_reducible refine hK _ _ ?_; clear hK K)
           | (with_reducible apply Exists.intro
              refine ⟨fun x hx => ?_, hK _ _ ?_⟩
              first
                | (with_reducible exact rfl)
                | (have y0 := keepc hx c0; have y1 := keepc hx c1; have y2 := keepc hx c2; have y3 := keepc hx d0; have y4 := keepc hx d1; have y5 := keepc hx d2; have y6 := keepc hx e0; have y7 := keepc hx e1; have y8 := keepc hx e2; have y9 := keepc hx g0; have y10 := keepc hx g1; have y11 := keepc hx g2; have y12 := keepc hx h0; have y13 := keepc hx h1; have y14 := keepc hx h2; go_simp; done)
                | (have y0 := keepc hx c0; have y1 := keepc hx c1; have y2 := keepc hx c2; have y3 := keepc hx d0; have y4 := keepc hx d1; have y5 := keepc hx d2; have y6 := keepc hx e0; have y7 := keepc hx e1; have y8 := keepc hx e2; have y9 := keepc hx g0; have y10 := keepc hx g1; have y11 := keepc hx g2; have y12 := keepc hx h0; have y13 := keepc hx h1; have y14 := keepc hx h2; go_simp; with_reducible exact rfl)
              clear hK K))
        | (first | with_reducible refine sk0 ?_ (fun K hK => ?_) | with_reducible refine sk1 ?_ (fun K hK => ?_) | with_reducible refine sk2 ?_ (fun K hK => ?_) | with_reducible refine sk3 ?_ (fun K hK => ?_) | with_reducible refine sk4 ?_ (fun K hK => ?_)
           rfl
           go_simp
           with_reducible refine hK _ _ ?_
           clear hK K)
      first | with_reducible refine sc0 (fun K hK => ?_) | with_reducible refine sc1 (fun K hK => ?_) | with_reducible refine sc2 (fun K hK => ?_) | with_reducible refine sc3 (fun K hK => ?_) | with_reducible refine sc4 (fun K hK => ?_)
      go_simp
      refine (HSST.out _ HX5.out).mono ?_
      clear c0 c1 c2 d0 d1 d2 e0 e1 e2 g0 g1 g2 h0 h1 h2
      rintro e x6 ⟨rfl, hb9⟩
      refine ⟨hb9, hK _ _ ?_⟩
      clear hK K
      have HX6 := Lib.hid (HX5.out.trans (hb9.mono (HLE.out _ HX5.out)))
      clear hb9
      obtain ⟨⟨c0, c1, c2⟩, ⟨d0, d1, d2⟩, ⟨e0, e1, e2⟩, ⟨g0, g1, g2⟩, ⟨h0, h1, h2⟩⟩ := HCELL.out x6 HX6.out
      clear c0 c1 c2 d0 d1 d2 e0 e1 e2 g0 g1 g2 h0 h1 h2
      repeat
        first
        | (first | with_reducible refine sp0 (fun K hK => ?_) | with_reducible refine sp1 (fun K hK => ?_) | with_reducible refine sp2 (fun K hK => ?_) | with_reducible refine sp3 (fun K hK => ?_) | with_reducible refine sp4 (fun K hK => ?_)
           go_simp
           first
           | (with_reducible refine hK _ _ ?_; clear hK K)
           | (with_reducible apply Exists.intro
              refine ⟨fun x hx => ?_, hK _ _ ?_⟩
              first
                | (with_reducible exact rfl)
              clear hK K))
        | (first | with_reducible refine sk0 ?_ (fun K hK => ?_) | with_reducible refine sk1 ?_ (fun K hK => ?_) | with_reducible refine sk2 ?_ (fun K hK => ?_) | with_reducible refine sk3 ?_ (fun K hK => ?_) | with_reducible refine sk4 ?_ (fun K hK => ?_)
           rfl
           go_simp
           with_reducible refine hK _ _ ?_
           clear hK K)
      first | with_reducible refine sc0 (fun K hK => ?_) | with_reducible refine sc1 (fun K hK => ?_) | with_reducible refine sc2 (fun K hK => ?_) | with_reducible refine sc3 (fun K hK => ?_) | with_reducible refine sc4 (fun K hK => ?_)
      go_simp
      refine (HWAK.out _ HX6.out).mono ?_
      rintro e x7 ⟨rfl, hb9⟩
      refine ⟨hb9, hK _ _ ?_⟩
      clear hK K
      have HX7 := Lib.hid (HX6.out.trans (hb9.mono (HLE.out _ HX6.out)))
      clear hb9
      repeat
        first
        | (first | with_reducible refine sp0 (fun K hK => ?_) | with_reducible refine sp1 (fun K hK => ?_) | with_reducible refine sp2 (fun K hK => ?_) | with_reducible refine sp3 (fun K hK => ?_) | with_reducible refine sp4 (fun K hK => ?_)
           go_simp
           first
           | (with_reducible refine hK _ _ ?_; clear hK K)
           | (with_reducible apply Exists.intro
              refine ⟨fun x hx => ?_, hK _ _ ?_⟩
              first
                | (with_reducible exact rfl)
              clear hK K))
        | (first | with_reducible refine sk0 ?_ (fun K hK => ?_) | with_reducible refine sk1 ?_ (fun K hK => ?_) | with_reducible refine sk2 ?_ (fun K hK => ?_) | with_reducible refine sk3 ?_ (fun K hK => ?_) | with_reducible refine sk4 ?_ (fun K hK => ?_)
           rfl
           go_simp
           with_reducible refine hK _ _ ?_
           clear hK K)
      with_reducible refine seq_nil ?_
      go_wp2_with fail
      go_ret
      exact ⟨rfl, HB9.out.tr HX7.out (Nat.le_refl _)⟩
end Go.Proofs.Ytopfdggbkckeoaa
