/- The law PrecGround: its walk. -/
import Derived.Test.YtcnnahmchjeakaaPrT
namespace Go.Proofs.Ytcnnahmchjeakaa
open Go Go.RowKit
open Tp (T)

theorem ground9 {t u : T} (h : Tp.hasG t = true) (h' : Tp.hasG u = true) : Tp.grd t = Tp.gnd t ∧ Tp.hasG (Tp.grd t) = true ∧ Tp.grd (Tp.grd t) = Tp.grd t ∧ Tp.size (Tp.grd t) ≤ Tp.size t ∧ Tp.bl t (Tp.grd t) = true ∧ Tp.same (Tp.grd t) (Tp.grd u) = decide (t.kind = u.kind) ∧ Tp.ok (Tp.grd t) (Tp.grd u) = decide (t.kind = u.kind) ∧ Tp.bl t (Tp.grd u) = decide (t.kind = u.kind) := by
  have e : Tp.grd t = Tp.gnd t := by unfold Tp.grd; rw [if_pos h]
  have e' : Tp.grd u = Tp.gnd u := by unfold Tp.grd; rw [if_pos h']
  have hg := Tp.gnd_has h
  have hr : Tp.right t = true := by simp only [Tp.hasG, Bool.and_eq_true] at h; exact h.1.1
  have e2 : Tp.grd (Tp.gnd t) = Tp.gnd t := by unfold Tp.grd; rw [if_pos hg, Tp.gnd_gnd]
  have hok : Tp.ok (Tp.gnd t) (Tp.gnd u) = decide (t.kind = u.kind) := by unfold Tp.ok; rw [Tp.gnd_right h, Tp.gnd_right h', Tp.gnd_agree h h']; rfl
  rw [e, e']
  refine ⟨rfl, hg, e2, Tp.gnd_size t, ?_, Tp.gnd_same h h', hok, ?_⟩
  · rw [bl_right hr (Tp.gnd_right h), Tp.gnd_below h h]; exact decide_eq_true rfl
  · rw [bl_right hr (Tp.gnd_right h'), Tp.gnd_below h h']
theorem grd_small {t : T} (h : Tp.size t ≤ 10000) : Tp.size (Tp.grd t) ≤ 10000 := by
  unfold Tp.grd
  split
  · exact Nat.le_trans (Tp.gnd_size t) h
  · simp [Tp.size, Tp.sizes]
theorem hasG_kind {t : T} (h : Tp.right t = true) : Tp.hasG t = (!decide (t.kind = 5) && !decide (t.kind = 6)) := by unfold Tp.hasG; rw [h]; rfl

set_option maxRecDepth 100000 in
set_option maxHeartbeats 8000000 in
theorem lground_any (t : T) (a : Option Addr) (cap : Nat) (u : T) (b : Option Addr) (cap' : Nat) (w : World) (hty : TyAt (LT w.heap.size) w t a cap) (hty' : TyAt (LT w.heap.size) w u b cap') :
    Calls Try.prog 7 #[tv t a cap, tv u b cap'] w fun e w' => e = .returned (.bool true) ∧ Below w.heap.size w w' := by
  obtain ⟨k0, n0, m0, hv⟩ := TV.mk t
  obtain ⟨k9, n9, m9, hv'⟩ := TV.mk u
  rw [tv_of hv, tv_of hv']
  obtain ⟨W2, hW2⟩ : ∃ W2, (w.alloc (.cells #[.int .i64 k0, .int .i64 n0, .slice a m0 cap] 24)).alloc (.cells #[.int .i64 k9, .int .i64 n9, .slice b m9 cap'] 24) = W2 := ⟨_, rfl⟩
  have hb2 : Below w.heap.size w W2 := by rw [← hW2]; exact ((Below.refl _ _).alloc (Nat.le_refl _) _).alloc (by simp) _
  have bx : BoxT W2 w.heap.size t k0 n0 m0 a cap := ⟨hv, by rw [← hW2]; exact box1 _ _ _ _ _, ty_later hty hb2⟩
  have bu : BoxT W2 (w.heap.size + 1) u k9 n9 m9 b cap' := ⟨hv', by rw [← hW2]; exact box2 _ _ _ _ _, ty_later hty' hb2⟩
  obtain ⟨rr, hrr⟩ : ∃ r, (!decide (600 < Tp.sizes [t, u]) && Tp.rights [t, u]) = r := ⟨_, rfl⟩
  have hri := lright_any [t, u] (some ⟨W2.heap.size, 0, none⟩) 2 _ (by simp) (row_two bx.ty bu.ty hv.1 hv.2.1 hv.2.2 hv'.1 hv'.2.1 hv'.2.2)
  rw [hrr] at hri
  have HRI := Lib.hid hri; have HRR := Lib.hid hrr; have HB2 := Lib.hid hb2; have HW2 := Lib.hid hW2; have BX := Lib.hid bx; have BU := Lib.hid bu
  clear hri hrr hb2 hW2 hty hty' hv hv'
  go_enter Try.func7, Try.ntmps7
  go_upto_region 1 with fail
  rw [HW2.out]
  obtain ⟨c0, c1, c2⟩ := bx.cells
  obtain ⟨d0, d1, d2⟩ := bu.cells
  clear bx bu
  go_wp2_with fail
  refine HRI.out.mono ?_
  clear c0 c1 c2 d0 d1 d2
  rintro e w3 ⟨rfl, hb3⟩
  have hb23 : Below W2.heap.size W2 w3 := ((Below.refl _ _).alloc (Nat.le_refl _) _).tr hb3 (Nat.le_refl _)
  have BX3 := Lib.hid (BX.out.later hb23); have BU3 := Lib.hid (BU.out.later hb23); have HB3 := Lib.hid (HB2.out.tr hb23 (Nat.le_refl _))
  clear hb3 hb23
  cases rr with
  | false =>
    go_wp2_with fail
    go_ret
    exact ⟨rfl, HB3.out⟩
  | true =>
    obtain ⟨hrt, hru, hsz⟩ := pair_right HRR.out
    have HST := Lib.hid (show Tp.size t ≤ 10000 by omega); have HSU := Lib.hid (show Tp.size u ≤ 10000 by omega)
    have hg0 := hasG_kind hrt; have hg9 := hasG_kind hru
    rw [BX3.out.says.1] at hg0; rw [BU3.out.says.1] at hg9
    have HG0 := Lib.hid hg0; have HG9 := Lib.hid hg9
    clear hrt hru hsz hg0 hg9
    obtain ⟨c0, c1, c2⟩ := BX3.out.cells
    go_wp2_with fail
    refine (grd_any BX3.out.says BX3.out.ty HST.out).mono ?_
    clear c0 c1 c2
    rintro e w4 ⟨k1, n1, m1, a1, p1, hv1, rfl, ty1, hb⟩
    obtain ⟨W5, hW5⟩ : ∃ W5, w4.alloc (.cells #[.int .i64 k1, .int .i64 n1, .slice a1 m1 p1] 24) = W5 := ⟨_, rfl⟩
    obtain ⟨bg, hb5⟩ := box_new hv1 ty1 hW5
    have hbb := hb.tr hb5 (Nat.le_refl _)
    have BG5 := Lib.hid bg; have BX5 := Lib.hid (BX3.out.later hbb); have BU5 := Lib.hid (BU3.out.later hbb); have HB5 := Lib.hid (HB3.out.tr hbb (Nat.le_refl _)); have HW5 := Lib.hid hW5
    clear hW5 hb5 hbb hv1 ty1 hb bg
    go_upto_region 4 with fail
    rw [HW5.out]
    obtain ⟨d0, d1, d2⟩ := BU5.out.cells
    go_wp2_with fail
    refine (grd_any BU5.out.says BU5.out.ty HSU.out).mono ?_
    clear d0 d1 d2
    rintro e w6 ⟨k2, n2, m2, a2, p2, hv2, rfl, ty2, hb⟩
    obtain ⟨W7, hW7⟩ : ∃ W5, w6.alloc (.cells #[.int .i64 k2, .int .i64 n2, .slice a2 m2 p2] 24) = W5 := ⟨_, rfl⟩
    obtain ⟨bh, hb7⟩ := box_new hv2 ty2 hW7
    have hbb := hb.tr hb7 (Nat.le_refl _)
    have BH7 := Lib.hid bh; have BG7 := Lib.hid (BG5.out.later hbb); have BX7 := Lib.hid (BX5.out.later hbb); have BU7 := Lib.hid (BU5.out.later hbb); have HB7 := Lib.hid (HB5.out.tr hbb (Nat.le_refl _)); have HW7 := Lib.hid hW7
    clear hW7 hb7 hbb hv2 ty2 hb bh
    obtain ⟨o0, ho0⟩ : ∃ b, Tp.hasG t = b := ⟨_, rfl⟩
    obtain ⟨o9, ho9⟩ : ∃ b, Tp.hasG u = b := ⟨_, rfl⟩
    rw [ho0, ho9]
    have HO0 := Lib.hid ho0; have HO9 := Lib.hid ho9
    clear ho0 ho9
    go_upto_region 5 with fail
    rw [HW7.out]
    obtain ⟨c0, c1, c2⟩ := BX7.out.cells
    obtain ⟨d0, d1, d2⟩ := BU7.out.cells
    by_cases h5 : k0 = 5
    · have g5 : (k0 != 5) = false := by simp [h5]
      obtain rfl : o0 = false := by rw [← HO0.out, HG0.out, decide_eq_true h5]; rfl
      clear h5
      by_cases h5' : k9 = 5
      · have g5' : (k9 != 5) = false := by simp [h5']
        obtain rfl : o9 = false := by rw [← HO9.out, HG9.out, decide_eq_true h5']; rfl
        clear h5'
        go_wp2_with (go_at_call 17; refine (wakes9_any W7).mono ?_; clear c0 c1 c2 d0 d1 d2; rintro e w8 ⟨rfl, hb⟩; have HB8 := Lib.hid (HB7.out.tr hb (Nat.le_refl _)); clear hb)
        go_ret
        exact ⟨rfl, HB8.out⟩
      · have g5' : (k9 != 5) = true := by simp [h5']
        by_cases h6' : k9 = 6
        · have g6' : (k9 != 6) = false := by simp [h6']
          obtain rfl : o9 = false := by rw [← HO9.out, HG9.out, decide_eq_true h6', Bool.not_true, Bool.and_false]
          clear h5' h6'
          go_wp2_with (go_at_call 17; refine (wakes9_any W7).mono ?_; clear c0 c1 c2 d0 d1 d2; rintro e w8 ⟨rfl, hb⟩; have HB8 := Lib.hid (HB7.out.tr hb (Nat.le_refl _)); clear hb)
          go_ret
          exact ⟨rfl, HB8.out⟩
        · have g6' : (k9 != 6) = true := by simp [h6']
          obtain rfl : o9 = true := by rw [← HO9.out, HG9.out, decide_eq_false h5', decide_eq_false h6']; rfl
          clear h5' h6'
          go_wp2_with (go_at_call 17; refine (wakes9_any W7).mono ?_; clear c0 c1 c2 d0 d1 d2; rintro e w8 ⟨rfl, hb⟩; have HB8 := Lib.hid (HB7.out.tr hb (Nat.le_refl _)); clear hb)
          go_ret
          exact ⟨rfl, HB8.out⟩
    · have g5 : (k0 != 5) = true := by simp [h5]
      by_cases h6 : k0 = 6
      · have g6 : (k0 != 6) = false := by simp [h6]
        obtain rfl : o0 = false := by rw [← HO0.out, HG0.out, decide_eq_true h6, Bool.not_true, Bool.and_false]
        clear h5 h6
        by_cases h5' : k9 = 5
        · have g5' : (k9 != 5) = false := by simp [h5']
          obtain rfl : o9 = false := by rw [← HO9.out, HG9.out, decide_eq_true h5']; rfl
          clear h5'
          go_wp2_with (go_at_call 17; refine (wakes9_any W7).mono ?_; clear c0 c1 c2 d0 d1 d2; rintro e w8 ⟨rfl, hb⟩; have HB8 := Lib.hid (HB7.out.tr hb (Nat.le_refl _)); clear hb)
          go_ret
          exact ⟨rfl, HB8.out⟩
        · have g5' : (k9 != 5) = true := by simp [h5']
          by_cases h6' : k9 = 6
          · have g6' : (k9 != 6) = false := by simp [h6']
            obtain rfl : o9 = false := by rw [← HO9.out, HG9.out, decide_eq_true h6', Bool.not_true, Bool.and_false]
            clear h5' h6'
            go_wp2_with (go_at_call 17; refine (wakes9_any W7).mono ?_; clear c0 c1 c2 d0 d1 d2; rintro e w8 ⟨rfl, hb⟩; have HB8 := Lib.hid (HB7.out.tr hb (Nat.le_refl _)); clear hb)
            go_ret
            exact ⟨rfl, HB8.out⟩
          · have g6' : (k9 != 6) = true := by simp [h6']
            obtain rfl : o9 = true := by rw [← HO9.out, HG9.out, decide_eq_false h5', decide_eq_false h6']; rfl
            clear h5' h6'
            go_wp2_with (go_at_call 17; refine (wakes9_any W7).mono ?_; clear c0 c1 c2 d0 d1 d2; rintro e w8 ⟨rfl, hb⟩; have HB8 := Lib.hid (HB7.out.tr hb (Nat.le_refl _)); clear hb)
            go_ret
            exact ⟨rfl, HB8.out⟩
      · have g6 : (k0 != 6) = true := by simp [h6]
        obtain rfl : o0 = true := by rw [← HO0.out, HG0.out, decide_eq_false h5, decide_eq_false h6]; rfl
        clear h5 h6
        by_cases h5' : k9 = 5
        · have g5' : (k9 != 5) = false := by simp [h5']
          obtain rfl : o9 = false := by rw [← HO9.out, HG9.out, decide_eq_true h5']; rfl
          clear h5'
          go_wp2_with (go_at_call 17; refine (wakes9_any W7).mono ?_; clear c0 c1 c2 d0 d1 d2; rintro e w8 ⟨rfl, hb⟩; have HB8 := Lib.hid (HB7.out.tr hb (Nat.le_refl _)); clear hb)
          go_ret
          exact ⟨rfl, HB8.out⟩
        · have g5' : (k9 != 5) = true := by simp [h5']
          by_cases h6' : k9 = 6
          · have g6' : (k9 != 6) = false := by simp [h6']
            obtain rfl : o9 = false := by rw [← HO9.out, HG9.out, decide_eq_true h6', Bool.not_true, Bool.and_false]
            clear h5' h6'
            go_wp2_with (go_at_call 17; refine (wakes9_any W7).mono ?_; clear c0 c1 c2 d0 d1 d2; rintro e w8 ⟨rfl, hb⟩; have HB8 := Lib.hid (HB7.out.tr hb (Nat.le_refl _)); clear hb)
            go_ret
            exact ⟨rfl, HB8.out⟩
          · have g6' : (k9 != 6) = true := by simp [h6']
            obtain rfl : o9 = true := by rw [← HO9.out, HG9.out, decide_eq_false h5', decide_eq_false h6']; rfl
            clear h5' h6'
            clear c0 c1 c2 d0 d1 d2
            obtain ⟨j1, j2, j3, j4, j5, j6, j7, j8⟩ := ground9 HO0.out HO9.out
            rw [BX7.out.says.1, BU7.out.says.1] at j6 j7 j8
            obtain ⟨zg, hzg⟩ : ∃ z, Tp.size (Tp.grd t) = z := ⟨_, rfl⟩
            obtain ⟨zt, hzt⟩ : ∃ z, Tp.size t = z := ⟨_, rfl⟩
            rw [hzg, hzt] at j4
            have HZL := Lib.hid (show (zg : Int) ≤ (zt : Int) by omega)
            have HZG := Lib.hid hzg; have HZT := Lib.hid hzt
            have J2 := Lib.hid j2; have J3 := Lib.hid j3; have J5 := Lib.hid j5; have J6 := Lib.hid j6; have J7 := Lib.hid j7; have J8 := Lib.hid j8
            clear j1 j2 j3 j4 j5 j6 j7 j8 hzg hzt
            obtain ⟨kk, hkk⟩ : ∃ b, decide (k0 = k9) = b := ⟨_, rfl⟩
            have hke : (k0 == k9) = kk := by rw [← hkk]; by_cases h : k0 = k9 <;> simp [h]
            have HKE := Lib.hid hke; have HKK := Lib.hid hkk
            clear hke hkk
            obtain ⟨c0, c1, c2⟩ := BX7.out.cells
            obtain ⟨d0, d1, d2⟩ := BU7.out.cells
            obtain ⟨e0, e1, e2⟩ := BG7.out.cells
            go_upto_region 9 with fail
            clear c0 c1 c2 d0 d1 d2
            go_wp2_with fail
            refine (grd_any BG7.out.says BG7.out.ty (grd_small HST.out)).mono ?_
            clear e0 e1 e2
            rintro e w8 ⟨k3, n3, m3, a3, p3, hv3, rfl, ty3, hb⟩
            rw [J3.out] at hv3 ty3
            rw [J2.out]
            obtain ⟨W9, hW9⟩ : ∃ W5, w8.alloc (.cells #[.int .i64 k3, .int .i64 n3, .slice a3 m3 p3] 24) = W5 := ⟨_, rfl⟩
            obtain ⟨bk, hb9⟩ := box_new hv3 ty3 hW9
            have hbb := hb.tr hb9 (Nat.le_refl _)
            have bg9 := BG7.out.later hbb; have bx9 := BX7.out.later hbb; have bu9 := BU7.out.later hbb; have bh9 := BH7.out.later hbb; have HB9 := Lib.hid (HB7.out.tr hbb (Nat.le_refl _)); have HW9 := Lib.hid hW9
            have HTG := Lib.hid (fun x (h : Below W9.heap.size W9 x) => bl_any (w := x) (bx9.later h).says (bg9.later h).says (bx9.later h).ty (bg9.later h).ty HST.out (grd_small HST.out))
            have HTH := Lib.hid (fun x (h : Below W9.heap.size W9 x) => bl_any (w := x) (bx9.later h).says (bh9.later h).says (bx9.later h).ty (bh9.later h).ty HST.out (grd_small HSU.out))
            have HKG := Lib.hid (fun x (h : Below W9.heap.size W9 x) => ks_any (w := x) (bk.later h).says (bg9.later h).says (bk.later h).ty (bg9.later h).ty)
            have HGH := Lib.hid (fun x (h : Below W9.heap.size W9 x) => ks_any (w := x) (bg9.later h).says (bh9.later h).says (bg9.later h).ty (bh9.later h).ty)
            have HSG := Lib.hid (fun x (h : Below W9.heap.size W9 x) => sz_any (w := x) (bg9.later h).says (bg9.later h).ty (grd_small HST.out))
            have HSX := Lib.hid (fun x (h : Below W9.heap.size W9 x) => sz_any (w := x) (bx9.later h).says (bx9.later h).ty HST.out)
            have HAG := Lib.hid (fun x (h : Below W9.heap.size W9 x) => ag_any (w := x) (bg9.later h).says (bh9.later h).says (bg9.later h).ty (bh9.later h).ty (grd_small HST.out) (grd_small HSU.out))
            have HWAK := Lib.hid (fun x (_ : Below W9.heap.size W9 x) => wakes9_any x)
            have HCELL := Lib.hid (fun x (h : Below W9.heap.size W9 x) => (⟨(bx9.later h).cells, (bu9.later h).cells, (bg9.later h).cells, (bh9.later h).cells, (bk.later h).cells⟩ : _ ∧ _ ∧ _ ∧ _ ∧ _))
            have HLE := Lib.hid (fun x (h : Below W9.heap.size W9 x) => h.size)
            rw [J5.out] at HTG; rw [Tp.same_refl] at HKG; rw [HZG.out] at HSG; rw [HZT.out] at HSX; rw [J6.out, HKK.out] at HGH; rw [J7.out, HKK.out] at HAG; rw [J8.out, HKK.out] at HTH
            have hzl := HZL.out
            have hke := HKE.out
            clear hv3 ty3 hb hW9 bk hb9 hbb bg9 bx9 bu9 bh9
            go_upto_region 10 with fail
            rw [HW9.out]
            have HBd := Lib.hid (Below.refl W9.heap.size W9).drew
            obtain ⟨⟨c0, c1, c2⟩, ⟨d0, d1, d2⟩, ⟨e0, e1, e2⟩, ⟨g0, g1, g2⟩, ⟨h0, h1, h2⟩⟩ := HCELL.out _ HBd.out
            refine wp_region_seq [(0, false), (0, false), (0, true), (0, false), (0, false), (0, false), (0, false), (0, false), (0, false), (0, true), (0, false), (0, false), (0, false), (1, false), (0, true), (0, true), (0, false), (0, false), (0, false), (0, false), (0, false), (1, false), (1, false), (1, false), (1, false), (1, false), (0, true), (0, false), (0, false), (0, false), (0, false), (0, false), (1, false), (1, false), (1, false), (1, false), (1, false), (0, true), (0, false), (0, false), (0, false), (0, false), (0, false), (1, false), (1, false), (1, false), (1, false), (1, false), (0, true), (0, false), (0, false), (0, false), (0, true), (0, false), (0, false)] (by kernel_rfl) (by kernel_rfl) (by kernel_rfl) (fun _ _ _ d _ h => by cases d <;> exact h) ?_
            repeat
              first
              | (first | with_reducible refine sp0 (fun K hK => ?_) | with_reducible refine sp1 (fun K hK => ?_) | with_reducible refine sp2 (fun K hK => ?_) | with_reducible refine sp3 (fun K hK => ?_) | with_reducible refine sp4 (fun K hK => ?_)
                 go_simp
                 first
                 | (with_reducible refine hK _ _ ?_; clear hK K)
                 | (with_reducible apply Exists.intro
                    refine ⟨fun x hx => ?_, hK _ _ ?_⟩
                    first
                      | (with_reducible exact rfl)
                      | (have y0 := keepc hx c0; have y1 := keepc hx c1; have y2 := keepc hx c2; have y3 := keepc hx d0; have y4 := keepc hx d1; have y5 := keepc hx d2; have y6 := keepc hx e0; have y7 := keepc hx e1; have y8 := keepc hx e2; have y9 := keepc hx g0; have y10 := keepc hx g1; have y11 := keepc hx g2; have y12 := keepc hx h0; have y13 := keepc hx h1; have y14 := keepc hx h2; go_simp; done)
                      | (have y0 := keepc hx c0; have y1 := keepc hx c1; have y2 := keepc hx c2; have y3 := keepc hx d0; have y4 := keepc hx d1; have y5 := keepc hx d2; have y6 := keepc hx e0; have y7 := keepc hx e1; have y8 := keepc hx e2; have y9 := keepc hx g0; have y10 := keepc hx g1; have y11 := keepc hx g2; have y12 := keepc hx h0; have y13 := keepc hx h1; have y14 := keepc hx h2; go_simp; with_reducible exact rfl)
                    clear hK K))
              | (first | with_reducible refine sk0 ?_ (fun K hK => ?_) | with_reducible refine sk1 ?_ (fun K hK => ?_) | with_reducible refine sk2 ?_ (fun K hK => ?_) | with_reducible refine sk3 ?_ (fun K hK => ?_) | with_reducible refine sk4 ?_ (fun K hK => ?_)
                 rfl
                 go_simp
                 with_reducible refine hK _ _ ?_
                 clear hK K)
            first | with_reducible refine sc0 (fun K hK => ?_) | with_reducible refine sc1 (fun K hK => ?_) | with_reducible refine sc2 (fun K hK => ?_) | with_reducible refine sc3 (fun K hK => ?_) | with_reducible refine sc4 (fun K hK => ?_)
            go_simp
            refine (HTG.out _ HBd.out).mono ?_
            clear c0 c1 c2 d0 d1 d2 e0 e1 e2 g0 g1 g2 h0 h1 h2
            rintro e x1 ⟨rfl, hb9⟩
            refine ⟨hb9, hK _ _ ?_⟩
            clear hK K
            have HX1 := Lib.hid (HBd.out.trans (hb9.mono (HLE.out _ HBd.out)))
            clear hb9
            obtain ⟨⟨c0, c1, c2⟩, ⟨d0, d1, d2⟩, ⟨e0, e1, e2⟩, ⟨g0, g1, g2⟩, ⟨h0, h1, h2⟩⟩ := HCELL.out x1 HX1.out
            repeat
              first
              | (first | with_reducible refine sp0 (fun K hK => ?_) | with_reducible refine sp1 (fun K hK => ?_) | with_reducible refine sp2 (fun K hK => ?_) | with_reducible refine sp3 (fun K hK => ?_) | with_reducible refine sp4 (fun K hK => ?_)
                 go_simp
                 first
                 | (with_reducible refine hK _ _ ?_; clear hK K)
                 | (with_reducible apply Exists.intro
                    refine ⟨fun x hx => ?_, hK _ _ ?_⟩
                    first
                      | (with_reducible exact rfl)
                      | (have y0 := keepc hx c0; have y1 := keepc hx c1; have y2 := keepc hx c2; have y3 := keepc hx d0; have y4 := keepc hx d1; have y5 := keepc hx d2; have y6 := keepc hx e0; have y7 := keepc hx e1; have y8 := keepc hx e2; have y9 := keepc hx g0; have y10 := keepc hx g1; have y11 := keepc hx g2; have y12 := keepc hx h0; have y13 := keepc hx h1; have y14 := keepc hx h2; go_simp; done)
                      | (have y0 := keepc hx c0; have y1 := keepc hx c1; have y2 := keepc hx c2; have y3 := keepc hx d0; have y4 := keepc hx d1; have y5 := keepc hx d2; have y6 := keepc hx e0; have y7 := keepc hx e1; have y8 := keepc hx e2; have y9 := keepc hx g0; have y10 := keepc hx g1; have y11 := keepc hx g2; have y12 := keepc hx h0; have y13 := keepc hx h1; have y14 := keepc hx h2; go_simp; with_reducible exact rfl)
                    clear hK K))
              | (first | with_reducible refine sk0 ?_ (fun K hK => ?_) | with_reducible refine sk1 ?_ (fun K hK => ?_) | with_reducible refine sk2 ?_ (fun K hK => ?_) | with_reducible refine sk3 ?_ (fun K hK => ?_) | with_reducible refine sk4 ?_ (fun K hK => ?_)
                 rfl
                 go_simp
                 with_reducible refine hK _ _ ?_
                 clear hK K)
            first | with_reducible refine sc0 (fun K hK => ?_) | with_reducible refine sc1 (fun K hK => ?_) | with_reducible refine sc2 (fun K hK => ?_) | with_reducible refine sc3 (fun K hK => ?_) | with_reducible refine sc4 (fun K hK => ?_)
            go_simp
            refine (HKG.out _ HX1.out).mono ?_
            clear c0 c1 c2 d0 d1 d2 e0 e1 e2 g0 g1 g2 h0 h1 h2
            rintro e x2 ⟨rfl, hb9⟩
            refine ⟨hb9, hK _ _ ?_⟩
            clear hK K
            have HX2 := Lib.hid (HX1.out.trans (hb9.mono (HLE.out _ HX1.out)))
            clear hb9
            obtain ⟨⟨c0, c1, c2⟩, ⟨d0, d1, d2⟩, ⟨e0, e1, e2⟩, ⟨g0, g1, g2⟩, ⟨h0, h1, h2⟩⟩ := HCELL.out x2 HX2.out
            repeat
              first
              | (first | with_reducible refine sp0 (fun K hK => ?_) | with_reducible refine sp1 (fun K hK => ?_) | with_reducible refine sp2 (fun K hK => ?_) | with_reducible refine sp3 (fun K hK => ?_) | with_reducible refine sp4 (fun K hK => ?_)
                 go_simp
                 first
                 | (with_reducible refine hK _ _ ?_; clear hK K)
                 | (with_reducible apply Exists.intro
                    refine ⟨fun x hx => ?_, hK _ _ ?_⟩
                    first
                      | (with_reducible exact rfl)
                      | (have y0 := keepc hx c0; have y1 := keepc hx c1; have y2 := keepc hx c2; have y3 := keepc hx d0; have y4 := keepc hx d1; have y5 := keepc hx d2; have y6 := keepc hx e0; have y7 := keepc hx e1; have y8 := keepc hx e2; have y9 := keepc hx g0; have y10 := keepc hx g1; have y11 := keepc hx g2; have y12 := keepc hx h0; have y13 := keepc hx h1; have y14 := keepc hx h2; go_simp; done)
                      | (have y0 := keepc hx c0; have y1 := keepc hx c1; have y2 := keepc hx c2; have y3 := keepc hx d0; have y4 := keepc hx d1; have y5 := keepc hx d2; have y6 := keepc hx e0; have y7 := keepc hx e1; have y8 := keepc hx e2; have y9 := keepc hx g0; have y10 := keepc hx g1; have y11 := keepc hx g2; have y12 := keepc hx h0; have y13 := keepc hx h1; have y14 := keepc hx h2; go_simp; with_reducible exact rfl)
                    clear hK K))
              | (first | with_reducible refine sk0 ?_ (fun K hK => ?_) | with_reducible refine sk1 ?_ (fun K hK => ?_) | with_reducible refine sk2 ?_ (fun K hK => ?_) | with_reducible refine sk3 ?_ (fun K hK => ?_) | with_reducible refine sk4 ?_ (fun K hK => ?_)
                 rfl
                 go_simp
                 with_reducible refine hK _ _ ?_
                 clear hK K)
            first | with_reducible refine sc0 (fun K hK => ?_) | with_reducible refine sc1 (fun K hK => ?_) | with_reducible refine sc2 (fun K hK => ?_) | with_reducible refine sc3 (fun K hK => ?_) | with_reducible refine sc4 (fun K hK => ?_)
            go_simp
            refine (HSG.out _ HX2.out).mono ?_
            clear c0 c1 c2 d0 d1 d2 e0 e1 e2 g0 g1 g2 h0 h1 h2
            rintro e x3 ⟨rfl, hb9⟩
            refine ⟨hb9, hK _ _ ?_⟩
            clear hK K
            have HX3 := Lib.hid (HX2.out.trans (hb9.mono (HLE.out _ HX2.out)))
            clear hb9
            obtain ⟨⟨c0, c1, c2⟩, ⟨d0, d1, d2⟩, ⟨e0, e1, e2⟩, ⟨g0, g1, g2⟩, ⟨h0, h1, h2⟩⟩ := HCELL.out x3 HX3.out
            repeat
              first
              | (first | with_reducible refine sp0 (fun K hK => ?_) | with_reducible refine sp1 (fun K hK => ?_) | with_reducible refine sp2 (fun K hK => ?_) | with_reducible refine sp3 (fun K hK => ?_) | with_reducible refine sp4 (fun K hK => ?_)
                 go_simp
                 first
                 | (with_reducible refine hK _ _ ?_; clear hK K)
                 | (with_reducible apply Exists.intro
                    refine ⟨fun x hx => ?_, hK _ _ ?_⟩
                    first
                      | (with_reducible exact rfl)
                      | (have y0 := keepc hx c0; have y1 := keepc hx c1; have y2 := keepc hx c2; have y3 := keepc hx d0; have y4 := keepc hx d1; have y5 := keepc hx d2; have y6 := keepc hx e0; have y7 := keepc hx e1; have y8 := keepc hx e2; have y9 := keepc hx g0; have y10 := keepc hx g1; have y11 := keepc hx g2; have y12 := keepc hx h0; have y13 := keepc hx h1; have y14 := keepc hx h2; go_simp; done)
                      | (have y0 := keepc hx c0; have y1 := keepc hx c1; have y2 := keepc hx c2; have y3 := keepc hx d0; have y4 := keepc hx d1; have y5 := keepc hx d2; have y6 := keepc hx e0; have y7 := keepc hx e1; have y8 := keepc hx e2; have y9 := keepc hx g0; have y10 := keepc hx g1; have y11 := keepc hx g2; have y12 := keepc hx h0; have y13 := keepc hx h1; have y14 := keepc hx h2; go_simp; with_reducible exact rfl)
                    clear hK K))
              | (first | with_reducible refine sk0 ?_ (fun K hK => ?_) | with_reducible refine sk1 ?_ (fun K hK => ?_) | with_reducible refine sk2 ?_ (fun K hK => ?_) | with_reducible refine sk3 ?_ (fun K hK => ?_) | with_reducible refine sk4 ?_ (fun K hK => ?_)
                 rfl
                 go_simp
                 with_reducible refine hK _ _ ?_
                 clear hK K)
            first | with_reducible refine sc0 (fun K hK => ?_) | with_reducible refine sc1 (fun K hK => ?_) | with_reducible refine sc2 (fun K hK => ?_) | with_reducible refine sc3 (fun K hK => ?_) | with_reducible refine sc4 (fun K hK => ?_)
            go_simp
            refine (HSX.out _ HX3.out).mono ?_
            clear c0 c1 c2 d0 d1 d2 e0 e1 e2 g0 g1 g2 h0 h1 h2
            rintro e x4 ⟨rfl, hb9⟩
            refine ⟨hb9, hK _ _ ?_⟩
            clear hK K
            have HX4 := Lib.hid (HX3.out.trans (hb9.mono (HLE.out _ HX3.out)))
            clear hb9
            obtain ⟨⟨c0, c1, c2⟩, ⟨d0, d1, d2⟩, ⟨e0, e1, e2⟩, ⟨g0, g1, g2⟩, ⟨h0, h1, h2⟩⟩ := HCELL.out x4 HX4.out
            repeat
              first
              | (first | with_reducible refine sp0 (fun K hK => ?_) | with_reducible refine sp1 (fun K hK => ?_) | with_reducible refine sp2 (fun K hK => ?_) | with_reducible refine sp3 (fun K hK => ?_) | with_reducible refine sp4 (fun K hK => ?_)
                 go_simp
                 first
                 | (with_reducible refine hK _ _ ?_; clear hK K)
                 | (with_reducible apply Exists.intro
                    refine ⟨fun x hx => ?_, hK _ _ ?_⟩
                    first
                      | (with_reducible exact rfl)
                      | (have y0 := keepc hx c0; have y1 := keepc hx c1; have y2 := keepc hx c2; have y3 := keepc hx d0; have y4 := keepc hx d1; have y5 := keepc hx d2; have y6 := keepc hx e0; have y7 := keepc hx e1; have y8 := keepc hx e2; have y9 := keepc hx g0; have y10 := keepc hx g1; have y11 := keepc hx g2; have y12 := keepc hx h0; have y13 := keepc hx h1; have y14 := keepc hx h2; go_simp; done)
                      | (have y0 := keepc hx c0; have y1 := keepc hx c1; have y2 := keepc hx c2; have y3 := keepc hx d0; have y4 := keepc hx d1; have y5 := keepc hx d2; have y6 := keepc hx e0; have y7 := keepc hx e1; have y8 := keepc hx e2; have y9 := keepc hx g0; have y10 := keepc hx g1; have y11 := keepc hx g2; have y12 := keepc hx h0; have y13 := keepc hx h1; have y14 := keepc hx h2; go_simp; with_reducible exact rfl)
                    clear hK K))
              | (first | with_reducible refine sk0 ?_ (fun K hK => ?_) | with_reducible refine sk1 ?_ (fun K hK => ?_) | with_reducible refine sk2 ?_ (fun K hK => ?_) | with_reducible refine sk3 ?_ (fun K hK => ?_) | with_reducible refine sk4 ?_ (fun K hK => ?_)
                 rfl
                 go_simp
                 with_reducible refine hK _ _ ?_
                 clear hK K)
            first | with_reducible refine sc0 (fun K hK => ?_) | with_reducible refine sc1 (fun K hK => ?_) | with_reducible refine sc2 (fun K hK => ?_) | with_reducible refine sc3 (fun K hK => ?_) | with_reducible refine sc4 (fun K hK => ?_)
            go_simp
            refine (HGH.out _ HX4.out).mono ?_
            clear c0 c1 c2 d0 d1 d2 e0 e1 e2 g0 g1 g2 h0 h1 h2
            rintro e x5 ⟨rfl, hb9⟩
            refine ⟨hb9, hK _ _ ?_⟩
            clear hK K
            have HX5 := Lib.hid (HX4.out.trans (hb9.mono (HLE.out _ HX4.out)))
            clear hb9
            obtain ⟨⟨c0, c1, c2⟩, ⟨d0, d1, d2⟩, ⟨e0, e1, e2⟩, ⟨g0, g1, g2⟩, ⟨h0, h1, h2⟩⟩ := HCELL.out x5 HX5.out
            repeat
              first
              | (first | with_reducible refine sp0 (fun K hK => ?_) | with_reducible refine sp1 (fun K hK => ?_) | with_reducible refine sp2 (fun K hK => ?_) | with_reducible refine sp3 (fun K hK => ?_) | with_reducible refine sp4 (fun K hK => ?_)
                 go_simp
                 first
                 | (with_reducible refine hK _ _ ?_; clear hK K)
                 | (with_reducible apply Exists.intro
                    refine ⟨fun x hx => ?_, hK _ _ ?_⟩
                    first
                      | (with_reducible exact rfl)
                      | (have y0 := keepc hx c0; have y1 := keepc hx c1; have y2 := keepc hx c2; have y3 := keepc hx d0; have y4 := keepc hx d1; have y5 := keepc hx d2; have y6 := keepc hx e0; have y7 := keepc hx e1; have y8 := keepc hx e2; have y9 := keepc hx g0; have y10 := keepc hx g1; have y11 := keepc hx g2; have y12 := keepc hx h0; have y13 := keepc hx h1; have y14 := keepc hx h2; go_simp; done)
                      | (have y0 := keepc hx c0; have y1 := keepc hx c1; have y2 := keepc hx c2; have y3 := keepc hx d0; have y4 := keepc hx d1; have y5 := keepc hx d2; have y6 := keepc hx e0; have y7 := keepc hx e1; have y8 := keepc hx e2; have y9 := keepc hx g0; have y10 := keepc hx g1; have y11 := keepc hx g2; have y12 := keepc hx h0; have y13 := keepc hx h1; have y14 := keepc hx h2; go_simp; with_reducible exact rfl)
                    clear hK K))
              | (first | with_reducible refine sk0 ?_ (fun K hK => ?_) | with_reducible refine sk1 ?_ (fun K hK => ?_) | with_reducible refine sk2 ?_ (fun K hK => ?_) | with_reducible refine sk3 ?_ (fun K hK => ?_) | with_reducible refine sk4 ?_ (fun K hK => ?_)
                 rfl
                 go_simp
                 with_reducible refine hK _ _ ?_
                 clear hK K)
            first | with_reducible refine sc0 (fun K hK => ?_) | with_reducible refine sc1 (fun K hK => ?_) | with_reducible refine sc2 (fun K hK => ?_) | with_reducible refine sc3 (fun K hK => ?_) | with_reducible refine sc4 (fun K hK => ?_)
            go_simp
            refine (HAG.out _ HX5.out).mono ?_
            clear c0 c1 c2 d0 d1 d2 e0 e1 e2 g0 g1 g2 h0 h1 h2
            rintro e x6 ⟨rfl, hb9⟩
            refine ⟨hb9, hK _ _ ?_⟩
            clear hK K
            have HX6 := Lib.hid (HX5.out.trans (hb9.mono (HLE.out _ HX5.out)))
            clear hb9
            obtain ⟨⟨c0, c1, c2⟩, ⟨d0, d1, d2⟩, ⟨e0, e1, e2⟩, ⟨g0, g1, g2⟩, ⟨h0, h1, h2⟩⟩ := HCELL.out x6 HX6.out
            repeat
              first
              | (first | with_reducible refine sp0 (fun K hK => ?_) | with_reducible refine sp1 (fun K hK => ?_) | with_reducible refine sp2 (fun K hK => ?_) | with_reducible refine sp3 (fun K hK => ?_) | with_reducible refine sp4 (fun K hK => ?_)
                 go_simp
                 first
                 | (with_reducible refine hK _ _ ?_; clear hK K)
                 | (with_reducible apply Exists.intro
                    refine ⟨fun x hx => ?_, hK _ _ ?_⟩
                    first
                      | (with_reducible exact rfl)
                      | (have y0 := keepc hx c0; have y1 := keepc hx c1; have y2 := keepc hx c2; have y3 := keepc hx d0; have y4 := keepc hx d1; have y5 := keepc hx d2; have y6 := keepc hx e0; have y7 := keepc hx e1; have y8 := keepc hx e2; have y9 := keepc hx g0; have y10 := keepc hx g1; have y11 := keepc hx g2; have y12 := keepc hx h0; have y13 := keepc hx h1; have y14 := keepc hx h2; go_simp; done)
                      | (have y0 := keepc hx c0; have y1 := keepc hx c1; have y2 := keepc hx c2; have y3 := keepc hx d0; have y4 := keepc hx d1; have y5 := keepc hx d2; have y6 := keepc hx e0; have y7 := keepc hx e1; have y8 := keepc hx e2; have y9 := keepc hx g0; have y10 := keepc hx g1; have y11 := keepc hx g2; have y12 := keepc hx h0; have y13 := keepc hx h1; have y14 := keepc hx h2; go_simp; with_reducible exact rfl)
                    clear hK K))
              | (first | with_reducible refine sk0 ?_ (fun K hK => ?_) | with_reducible refine sk1 ?_ (fun K hK => ?_) | with_reducible refine sk2 ?_ (fun K hK => ?_) | with_reducible refine sk3 ?_ (fun K hK => ?_) | with_reducible refine sk4 ?_ (fun K hK => ?_)
                 rfl
                 go_simp
                 with_reducible refine hK _ _ ?_
                 clear hK K)
            first | with_reducible refine sc0 (fun K hK => ?_) | with_reducible refine sc1 (fun K hK => ?_) | with_reducible refine sc2 (fun K hK => ?_) | with_reducible refine sc3 (fun K hK => ?_) | with_reducible refine sc4 (fun K hK => ?_)
            go_simp
            refine (HTH.out _ HX6.out).mono ?_
            clear c0 c1 c2 d0 d1 d2 e0 e1 e2 g0 g1 g2 h0 h1 h2
            rintro e x7 ⟨rfl, hb9⟩
            refine ⟨hb9, hK _ _ ?_⟩
            clear hK K
            have HX7 := Lib.hid (HX6.out.trans (hb9.mono (HLE.out _ HX6.out)))
            clear hb9
            obtain ⟨⟨c0, c1, c2⟩, ⟨d0, d1, d2⟩, ⟨e0, e1, e2⟩, ⟨g0, g1, g2⟩, ⟨h0, h1, h2⟩⟩ := HCELL.out x7 HX7.out
            repeat
              first
              | (first | with_reducible refine sp0 (fun K hK => ?_) | with_reducible refine sp1 (fun K hK => ?_) | with_reducible refine sp2 (fun K hK => ?_) | with_reducible refine sp3 (fun K hK => ?_) | with_reducible refine sp4 (fun K hK => ?_)
                 go_simp
                 first
                 | (with_reducible refine hK _ _ ?_; clear hK K)
                 | (with_reducible apply Exists.intro
                    refine ⟨fun x hx => ?_, hK _ _ ?_⟩
                    first
                      | (with_reducible exact rfl)
                      | (have y0 := keepc hx c0; have y1 := keepc hx c1; have y2 := keepc hx c2; have y3 := keepc hx d0; have y4 := keepc hx d1; have y5 := keepc hx d2; have y6 := keepc hx e0; have y7 := keepc hx e1; have y8 := keepc hx e2; have y9 := keepc hx g0; have y10 := keepc hx g1; have y11 := keepc hx g2; have y12 := keepc hx h0; have y13 := keepc hx h1; have y14 := keepc hx h2; go_simp; done)
                      | (have y0 := keepc hx c0; have y1 := keepc hx c1; have y2 := keepc hx c2; have y3 := keepc hx d0; have y4 := keepc hx d1; have y5 := keepc hx d2; have y6 := keepc hx e0; have y7 := keepc hx e1; have y8 := keepc hx e2; have y9 := keepc hx g0; have y10 := keepc hx g1; have y11 := keepc hx g2; have y12 := keepc hx h0; have y13 := keepc hx h1; have y14 := keepc hx h2; go_simp; with_reducible exact rfl)
                    clear hK K))
              | (first | with_reducible refine sk0 ?_ (fun K hK => ?_) | with_reducible refine sk1 ?_ (fun K hK => ?_) | with_reducible refine sk2 ?_ (fun K hK => ?_) | with_reducible refine sk3 ?_ (fun K hK => ?_) | with_reducible refine sk4 ?_ (fun K hK => ?_)
                 rfl
                 go_simp
                 with_reducible refine hK _ _ ?_
                 clear hK K)
            first | with_reducible refine sc0 (fun K hK => ?_) | with_reducible refine sc1 (fun K hK => ?_) | with_reducible refine sc2 (fun K hK => ?_) | with_reducible refine sc3 (fun K hK => ?_) | with_reducible refine sc4 (fun K hK => ?_)
            go_simp
            refine (HWAK.out _ HX7.out).mono ?_
            clear c0 c1 c2 d0 d1 d2 e0 e1 e2 g0 g1 g2 h0 h1 h2
            rintro e x8 ⟨rfl, hb9⟩
            refine ⟨hb9, hK _ _ ?_⟩
            clear hK K
            have HX8 := Lib.hid (HX7.out.trans (hb9.mono (HLE.out _ HX7.out)))
            clear hb9
            repeat
              first
              | (first | with_reducible refine sp0 (fun K hK => ?_) | with_reducible refine sp1 (fun K hK => ?_) | with_reducible refine sp2 (fun K hK => ?_) | with_reducible refine sp3 (fun K hK => ?_) | with_reducible refine sp4 (fun K hK => ?_)
                 go_simp
                 first
                 | (with_reducible refine hK _ _ ?_; clear hK K)
                 | (with_reducible apply Exists.intro
                    refine ⟨fun x hx => ?_, hK _ _ ?_⟩
                    first
                      | (with_reducible exact rfl)
                    clear hK K))
              | (first | with_reducible refine sk0 ?_ (fun K hK => ?_) | with_reducible refine sk1 ?_ (fun K hK => ?_) | with_reducible refine sk2 ?_ (fun K hK => ?_) | with_reducible refine sk3 ?_ (fun K hK => ?_) | with_reducible refine sk4 ?_ (fun K hK => ?_)
                 rfl
                 go_simp
                 with_reducible refine hK _ _ ?_
                 clear hK K)
            with_reducible refine seq_nil ?_
            go_wp2_with fail
            go_ret
            exact ⟨rfl, HB9.out.tr HX8.out (Nat.le_refl _)⟩
end Go.Proofs.Ytcnnahmchjeakaa
