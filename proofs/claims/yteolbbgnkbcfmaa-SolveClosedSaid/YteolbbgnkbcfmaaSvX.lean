/- SolveClosed: the walk. -/
import Derived.Test.YteolbbgnkbcfmaaSvQ
import Derived.Test.YteolbbgnkbcfmaaSvN
import Derived.Test.YteolbbgnkbcfmaaSvR
import Derived.Test.YteolbbgnkbcfmaaSuJ
import Derived.Test.YteolbbgnkbcfmaaAgB
import Derived.Test.YteolbbgnkbcfmaaTqB
namespace Go.Proofs.Yteolbbgnkbcfmaa
open Go Go.RowKit
open Tp (T)
open Sg (Of Rt Den Dens Alk Mkd trav travs rootOf kidsOf)
theorem pairc_right {t u : T} (h : (!decide (600 < Tp.sizes [t, u]) && Tp.rights [t, u]) = true) : Tp.right t = true ∧ Tp.right u = true ∧ Tp.size t + Tp.size u ≤ 600 := by
  by_cases hc : 600 < Tp.sizes [t, u]
  · rw [decide_eq_true hc] at h; simp at h
  · rw [decide_eq_false hc] at h
    simp only [Bool.not_false, Bool.true_and, Tp.rights, Bool.and_eq_true] at h
    simp only [Tp.sizes] at hc
    exact ⟨h.1, h.2.1, by omega⟩
set_option maxRecDepth 100000 in
set_option maxHeartbeats 8000000 in
theorem lclosed_any (t : T) (a : Option Addr) (cap : Nat) (u : T) (b : Option Addr) (cap' : Nat) (w : World) (hty : TyAt (LT w.heap.size) w t a cap) (hty' : TyAt (LT w.heap.size) w u b cap') :
    Calls Try.prog 9 #[tv t a cap, tv u b cap'] w fun e w' => e = .returned (.bool true) ∧ Below w.heap.size w w' := by
  obtain ⟨k0, n0, m0, hv⟩ := TV.mk t
  obtain ⟨k9, n9, m9, hv'⟩ := TV.mk u
  rw [tv_of hv, tv_of hv']
  obtain ⟨W2, hW2⟩ : ∃ W2, (w.alloc (.cells #[.int .i64 k0, .int .i64 n0, .slice a m0 cap] 26)).alloc (.cells #[.int .i64 k9, .int .i64 n9, .slice b m9 cap'] 26) = W2 := ⟨_, rfl⟩
  have hb2 : Below w.heap.size w W2 := by rw [← hW2]; exact ((Below.refl _ _).alloc (Nat.le_refl _) _).alloc (by simp) _
  have hs2 : W2.heap.size = w.heap.size + 2 := by rw [← hW2]; simp
  have bx : BoxT W2 w.heap.size t k0 n0 m0 a cap := ⟨hv, by rw [← hW2]; exact box1 _ _ _ _ _, ty_later hty hb2⟩
  have bu : BoxT W2 (w.heap.size + 1) u k9 n9 m9 b cap' := ⟨hv', by rw [← hW2]; exact box2 _ _ _ _ _, ty_later hty' hb2⟩
  obtain ⟨rr, hrr⟩ : ∃ r, (!decide (600 < Tp.sizes [t, u]) && Tp.rights [t, u]) = r := ⟨_, rfl⟩
  have hri := lright_any [t, u] (some ⟨W2.heap.size, 0, none⟩) 2 _ (by simp) (row_two bx.ty bu.ty hv.1 hv.2.1 hv.2.2 hv'.1 hv'.2.1 hv'.2.2)
  rw [hrr] at hri
  have HRI := Lib.hid hri; have HRR := Lib.hid hrr; have HB2 := Lib.hid hb2; have HS2 := Lib.hid hs2; have HW2 := Lib.hid hW2; have BX := Lib.hid bx; have BU := Lib.hid bu; have HV := Lib.hid hv; have HV' := Lib.hid hv'
  have FIN := Lib.hid (fun x (h : Below W2.heap.size W2 x) => (show Below w.heap.size w x from hb2.trans (h.mono hb2.size)))
  clear hri hrr hb2 hs2 hW2 hty hty' hv hv'
  go_enter Try.func9, Try.ntmps9
  go_upto_region 1 with fail
  rw [HW2.out]
  obtain ⟨c0, c1, c2⟩ := bx.cells
  obtain ⟨d0, d1, d2⟩ := bu.cells
  clear bx bu
  cases rr with
  | false =>
    go_wp2_with (go_at_call 38; refine HRI.out.mono ?_; clear c0 c1 c2 d0 d1 d2; rintro e w3 ⟨rfl, hb⟩; have HB3 := Lib.hid (((Below.refl W2.heap.size W2).alloc (Nat.le_refl _) _).tr hb (Nat.le_refl _)); clear hb)
    go_ret
    exact ⟨rfl, FIN.out _ HB3.out⟩
  | true =>
  go_wp2_with (go_at_call 38; refine HRI.out.mono ?_; clear c0 c1 c2 d0 d1 d2; rintro e w3 ⟨rfl, hb⟩; have HB3 := Lib.hid (((Below.refl W2.heap.size W2).alloc (Nat.le_refl _) _).tr hb (Nat.le_refl _)); have BX3 := Lib.hid (BX.out.later HB3.out); have BU3 := Lib.hid (BU.out.later HB3.out); obtain ⟨c0, c1, c2⟩ := BX3.out.cells; obtain ⟨d0, d1, d2⟩ := BU3.out.cells; clear hb)
  obtain ⟨hrt, hru, hsz⟩ := pairc_right HRR.out
  have hi1 := inner_le t
  have hi2 := inner_le u
  obtain ⟨wt, hwt⟩ : ∃ q, Tp.without 6 t = q := ⟨_, rfl⟩
  obtain ⟨wu, hwu⟩ : ∃ q, Tp.without 6 u = q := ⟨_, rfl⟩
  have hw1 := wo_any 6 HV.out BX3.out.ty
  rw [hwt] at hw1
  have HRT := Lib.hid hrt; have HRU := Lib.hid hru; have HSZ := Lib.hid hsz; have HI1 := Lib.hid hi1; have HI2 := Lib.hid hi2; have HWT := Lib.hid hwt; have HWU := Lib.hid hwu
  clear hrt hru hsz hi1 hi2 hwt hwu
  refine hw1.mono ?_
  clear hw1 c0 c1 c2 d0 d1 d2
  rintro e w4 ⟨rfl, hb⟩
  have HB4 := Lib.hid (HB3.out.tr hb (Nat.le_refl _))
  have BX4 := Lib.hid (BX.out.later HB4.out); have BU4 := Lib.hid (BU.out.later HB4.out)
  clear hb
  cases wt with
  | false =>
    go_wp2_with fail
    go_ret
    exact ⟨rfl, FIN.out _ HB4.out⟩
  | true =>
  obtain ⟨d0, d1, d2⟩ := BU4.out.cells
  have hw2 := wo_any 6 HV'.out BU4.out.ty
  rw [HWU.out] at hw2
  have HW := Lib.hid hw2
  clear hw2
  go_wp2_with fail
  refine HW.out.mono ?_
  clear HW d0 d1 d2
  rintro e w5 ⟨rfl, hb⟩
  have HB5 := Lib.hid (HB4.out.tr hb (Nat.le_refl _))
  clear hb
  cases wu with
  | false =>
    go_wp2_with fail
    go_ret
    exact ⟨rfl, FIN.out _ HB5.out⟩
  | true =>
  go_wp2_with fail
  refine (new12_any 65536 w5).mono ?_
  rintro e w6 ⟨g1, cap1, rfl, hsv, hb⟩
  rw [show min (max (65536 : Int) 0) 65536 = 65536 from by decide] at hsv
  have HB6 := Lib.hid (HB5.out.tr hb (Nat.le_refl _)); have HZ6 := Lib.hid hb.size
  have BX6 := Lib.hid (BX.out.later HB6.out)
  have hput := put12_anyW hsv ⟨by decide, by decide, by decide, by decide⟩ t a cap w6.heap.size (by have := HSZ.out; omega) (Nat.le_refl _) hb.size BX6.out.ty
  rw [tv_of HV.out] at hput
  obtain ⟨c0, c1, c2⟩ := BX6.out.cells
  have HP := Lib.hid hput; have S6 := Lib.hid hsv
  clear hput hsv hb
  go_wp2_with fail
  refine HP.out.mono ?_
  clear HP c0 c1 c2
  rintro e w7 ⟨hk, h⟩
  rw [if_pos ⟨HRT.out, HWT.out⟩, if_pos (by have := HI1.out; have := HSZ.out; omega)] at h
  obtain ⟨g2, cap2, rfl, hsv, hg2⟩ := h
  have HB7 := Lib.hid (kp_low HB6.out (Nat.le_refl _) HB5.out.size (Nat.le_trans HB5.out.size S6.out.far.1) hk)
  have HZ7 := Lib.hid (Nat.le_trans HZ6.out hk.size)
  have BU7 := Lib.hid (BU.out.later HB7.out)
  have hput := put12_anyW hsv ⟨by omega, by have := HI1.out; have := HSZ.out; omega, by decide, by rw [mkP_len, show (lvs 5).length = 5 from by simp [lvs]]; omega⟩ u b cap' w7.heap.size (by have := HSZ.out; omega) (Nat.le_refl _) HZ7.out BU7.out.ty
  rw [tv_of HV'.out] at hput
  obtain ⟨d0, d1, d2⟩ := BU7.out.cells
  have HP := Lib.hid hput; have S7 := Lib.hid hsv
  clear hput hsv hk hg2
  go_wp2_with fail
  refine HP.out.mono ?_
  clear HP d0 d1 d2
  rintro e w8 ⟨hk, h⟩
  rw [if_pos ⟨HRU.out, HWU.out⟩, if_pos (by have := HI1.out; have := HI2.out; have := HSZ.out; omega)] at h
  obtain ⟨g3, cap3, rfl, hsv, hg3⟩ := h
  have HB8 := Lib.hid (kp_low HB7.out (Nat.le_refl _) HB5.out.size (Nat.le_trans HB5.out.size S7.out.far.1) hk)
  have htwo := two_made HRT.out HRU.out HWT.out HWU.out (show Tp.size t ≤ 600 by have := HSZ.out; omega) (show Tp.size u ≤ 600 by have := HSZ.out; omega)
  obtain ⟨n, hn⟩ : ∃ x, (mkP (lvs 5) t).2 = x := ⟨_, rfl⟩
  obtain ⟨m, hm⟩ : ∃ x, (mkP (mkP (lvs 5) t).1 u).2 = x := ⟨_, rfl⟩
  obtain ⟨G, hG⟩ : ∃ x, (mkP (mkP (lvs 5) t).1 u).1 = x := ⟨_, rfl⟩
  rw [hn, hm, hG] at htwo
  rw [hG] at hsv
  rw [hn, hm]
  obtain ⟨C, hC⟩ : ∃ x : Int, 0 + (inner t : Int) + (inner u : Int) = x := ⟨_, rfl⟩
  have hCb : 0 ≤ C ∧ C ≤ 600 := by have := HI1.out; have := HI2.out; have := HSZ.out; omega
  have hlen : (G.length : Int) = 5 + C := by have := htwo.len; omega
  rw [hC] at hsv
  have S8 := Lib.hid hsv; have TWO := Lib.hid htwo; have HCB := Lib.hid hCb; have HLN := Lib.hid hlen
  clear hsv htwo hn hm hG hC hCb hlen hk hg3
  go_wp2_with fail
  refine (count12_any S8.out).mono ?_
  rintro e wq ⟨rfl, hq⟩
  rw [hq]; clear hq wq
  have hN : G.length * G.length ≤ 605 * 605 := Nat.mul_le_mul (by have := HLN.out; have := HCB.out; omega) (by have := HLN.out; have := HCB.out; omega)
  have hA : Calls Try.prog 35 #[.pointer (some ⟨w5.heap.size, 0, none⟩), .int .i64 (n : Int), .int .i64 (m : Int)] w8 (AgP w5.heap.size w5.heap.size g3 65536 C 0 G (JC G n m) (2 * (G.length * G.length) + 1) w8) :=
    agree13_any (JC G n m) (μC G.length) (G.length + 3) (fun σ h => JC.ok TWO.out.lev (by have := HLN.out; have := HCB.out; omega) (Nat.le_refl _) σ h) (fun σ σ' h hs => h.step hs) S8.out TWO.out.met (by decide) ⟨HCB.out.1, by have := HCB.out; omega, by decide, by have := HLN.out; omega⟩ (by have := HCB.out; omega) (JC.init TWO.out.ca TWO.out.cb) (by simp [μC]) (by omega) (fun σ _ hne => by
      have : 0 < σ.P.length := List.length_pos_iff.2 hne
      unfold μC; omega)
  have HA := Lib.hid hA
  clear hA hN
  go_wp2_with fail
  refine HA.out.mono ?_
  clear HA
  rintro e w9 ⟨l, r, er, σ, H9, g9, cap9, K9, rfl, hk0, hk1, hj, hal, hsv, hmet, hk, hg9, h⟩
  have hl9 : H9.length = G.length := ((hj.al.trans hal).len).symm
  rw [hl9, show C + ((G.length : Int) - (G.length : Int)) = C by omega] at hsv
  have HB9 := Lib.hid (kp_low HB8.out (Nat.le_refl _) HB5.out.size (Nat.le_trans HB5.out.size S8.out.far.1) hk)
  have BX9 := Lib.hid (BX.out.later HB9.out); have BU9 := Lib.hid (BU.out.later HB9.out)
  have S9 := Lib.hid hsv
  have hag := agree_any t a cap u b cap' w9 (by have := HSZ.out; omega) (by have := HSZ.out; omega) BX9.out.ty BU9.out.ty
  rw [tv_of HV.out, tv_of HV'.out, HRT.out, HRU.out, Bool.true_and, Bool.true_and] at hag
  have hfin : (l = 0 ∧ r = 0 ∧ er = 0 ∧ Tp.agree t u = true) ∨ (er = 4 ∧ (l != r) = true ∧ decide (0 < l) = true ∧ decide (0 < r) = true ∧ Tp.agree t u = false) := by
    rcases h with ⟨h1, h2, h3, h4, _⟩ | h
    · exact .inl ⟨h1, h2, h3, TWO.out.agr.1 (hj.fin h4)⟩
    · obtain ⟨q1, q2, q3, q4, q5⟩ := hj.bad h
      refine .inr ⟨q1, by simpa using q2, by simpa using q3.1, by simpa using q4.1, ?_⟩
      cases hh : Tp.agree t u with
      | false => rfl
      | true => exact absurd (TWO.out.agr.2 hh) q5
  obtain ⟨c0, c1, c2⟩ := BX9.out.cells
  obtain ⟨d0, d1, d2⟩ := BU9.out.cells
  clear h hk0 hk1 hj hal hsv hmet hk hg9 hl9
  rcases hfin with ⟨rfl, rfl, rfl, hv⟩ | ⟨rfl, hne, hl0, hr0, hv⟩
  · rw [hv] at hag
    have HAG := Lib.hid hag
    clear hag hv
    go_wp2_with fail
    refine HAG.out.mono ?_
    clear HAG c0 c1 c2 d0 d1 d2
    rintro e w10 ⟨rfl, hb⟩
    have HB10 := Lib.hid (HB9.out.tr hb (Nat.le_refl _)); have S10 := Lib.hid (S9.out.below hb)
    clear hb
    go_wp2_with fail
    refine (count12_any S10.out).mono ?_
    rintro e wq ⟨rfl, hq⟩
    rw [hq]; clear hq wq
    have hcc : (C == C) = true := by simp
    go_wp2_with fail
    refine (wakes13_any w10).mono ?_
    rintro e w11 ⟨rfl, hb⟩
    have HB11 := Lib.hid (HB10.out.tr hb (Nat.le_refl _))
    clear hb hcc
    go_wp2_with fail
    go_ret
    exact ⟨rfl, FIN.out _ HB11.out⟩
  · rw [hv] at hag
    have HAG := Lib.hid hag
    clear hag hv
    go_wp2_with fail
    refine HAG.out.mono ?_
    clear HAG c0 c1 c2 d0 d1 d2
    rintro e w10 ⟨rfl, hb⟩
    have HB10 := Lib.hid (HB9.out.tr hb (Nat.le_refl _)); have S10 := Lib.hid (S9.out.below hb)
    clear hb
    go_wp2_with fail
    refine (count12_any S10.out).mono ?_
    rintro e wq ⟨rfl, hq⟩
    rw [hq]; clear hq wq
    have hcc : (C == C) = true := by simp
    go_wp2_with fail
    refine (wakes13_any w10).mono ?_
    rintro e w11 ⟨rfl, hb⟩
    have HB11 := Lib.hid (HB10.out.tr hb (Nat.le_refl _))
    clear hb hcc
    go_wp2_with fail
    go_ret
    exact ⟨rfl, FIN.out _ HB11.out⟩
end Go.Proofs.Yteolbbgnkbcfmaa
