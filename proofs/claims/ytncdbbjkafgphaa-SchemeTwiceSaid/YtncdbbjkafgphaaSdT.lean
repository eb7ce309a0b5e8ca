/- The law SchemeTwice: its walk (up to the two appends). SchemeTwice: whatever the input, the law returns true, and the arguments read as they did. -/
import Derived.Test.YtncdbbjkafgphaaScK
import Derived.Test.YtncdbbjkafgphaaRows
import Derived.Test.YtncdbbjkafgphaaTfA
import Derived.Test.YtncdbbjkafgphaaTfD
import Derived.ProofKit
import Derived.Carry
namespace Go.Proofs.Ytncdbbjkafgphaa
open Go Go.RowKit
open Tp (T Bd)
theorem hv_facts {L : List Bd} (h : hvBs L = false) : L.length ≤ 40 ∧ ∀ b ∈ L, Tp.size b.2 ≤ 600 := by
  unfold hvBs at h
  rw [Bool.or_eq_false_iff] at h
  refine ⟨by have := of_decide_eq_false h.1; omega, fun b hb => ?_⟩
  have h1 := List.any_eq_false.1 h.2 b hb
  unfold hvB at h1
  simp only [Bool.or_eq_true, not_or, decide_eq_true_eq] at h1
  have h2 := h1.1
  simp only [Tp.sizes] at h2
  omega
theorem small_one {t : T} (h : [t].all Tp.small = true) : Tp.size t ≤ 600 := by
  have h := List.all_eq_true.1 h t (by simp)
  unfold Tp.small at h
  simp only [Bool.and_eq_true, Bool.not_eq_true', decide_eq_false_iff_not] at h
  have h1 := h.1.1
  simp only [Tp.sizes] at h1
  omega
theorem bd_right {L : List Bd} (h : L.all Tp.bdRight = true) : ∀ b ∈ L, Tp.right b.2 = true := fun b hb => by
  have h := List.all_eq_true.1 h b hb
  unfold Tp.bdRight at h
  simp only [Bool.and_eq_true] at h
  exact h.2
set_option maxRecDepth 100000 in
set_option maxHeartbeats 8000000 in
theorem ltwice11_any (t : T) (a : Option Addr) (cap : Nat) (L : List Bd) (la : Option Addr) (ln lc : Nat) (M : List Bd) (ma : Option Addr) (mn mc : Nat) (w : World) (hty : TyAt (LT w.heap.size) w t a cap)
    (hL : ln = L.length ∧ ln ≤ lc ∧ lc ≤ maxLen ∧ BindsAt (LT w.heap.size) w L la ∧ ∀ b ∈ L, I64 b.1) (hM : mn = M.length ∧ mn ≤ mc ∧ mc ≤ maxLen ∧ BindsAt (LT w.heap.size) w M ma ∧ ∀ b ∈ M, I64 b.1) :
    Calls Try.prog 8 #[tv t a cap, .slice la ln lc, .slice ma mn mc] w fun e w' => e = .returned (.bool true) ∧ Below w.heap.size w w' := by
  obtain ⟨k0, n0, m0, hv⟩ := TV.mk t
  rw [tv_of hv]
  obtain ⟨hln, hl1, hl2, hl3, _⟩ := hL
  obtain ⟨hmn, hm1, hm2, hm3, _⟩ := hM
  obtain ⟨W2, hW2⟩ : ∃ W2, w.alloc (.cells #[.int .i64 k0, .int .i64 n0, .slice a m0 cap] 24) = W2 := ⟨_, rfl⟩
  obtain ⟨bx, hb2⟩ := box_new hv hty hW2
  obtain ⟨sm, hsm'⟩ : ∃ r, [t].all Tp.small = r := ⟨_, rfl⟩
  have hsm := small_any [t] (some ⟨W2.heap.size, 0, none⟩) 1 _ (by unfold maxLen; simp) (row_one bx.ty hv.1 hv.2.1 hv.2.2)
  rw [hsm'] at hsm
  have HSM := Lib.hid hsm; have HSS := Lib.hid hsm'; have HB2 := Lib.hid hb2; have HW2 := Lib.hid hW2; have BX := Lib.hid bx; have HLN := Lib.hid hln; have HMN := Lib.hid hmn
  have HLM := Lib.hid (show L.length ≤ maxLen by omega); have HMM := Lib.hid (show M.length ≤ maxLen by omega); have HL := Lib.hid hl3; have HM := Lib.hid hm3
  clear hsm hsm' hb2 hW2 hty hv hln hl1 hl2 hl3 hmn hm1 hm2 hm3
  go_enter Try.func8, Try.ntmps8
  go_upto_region 1 with fail
  rw [HW2.out]
  obtain ⟨c0, c1, c2⟩ := bx.cells
  clear bx
  go_wp2_with fail
  refine HSM.out.mono ?_
  clear c0 c1 c2
  rintro e w3 ⟨rfl, hb3⟩
  have hb23 : Below W2.heap.size W2 w3 := ((Below.refl _ _).alloc (Nat.le_refl _) _).tr hb3 (Nat.le_refl _)
  have BX3 := Lib.hid (BX.out.later hb23); have HB3 := Lib.hid (HB2.out.tr hb23 (Nat.le_refl _))
  clear hb3 hb23
  cases sm with
  | false =>
    go_wp2_with fail
    go_ret
    exact ⟨rfl, HB3.out⟩
  | true =>
    obtain ⟨z, hz⟩ : ∃ z, hvBs L = z := ⟨_, rfl⟩
    have hh := hbinds_any L la lc w3 (HL.out.low HB3.out) HLM.out
    rw [hz, ← HLN.out] at hh
    have HH := Lib.hid hh; have HHL := Lib.hid hz
    clear hh hz
    go_wp2_with fail
    refine HH.out.mono ?_
    rintro e w4 ⟨rfl, hb⟩
    have BX4 := Lib.hid (BX3.out.later hb); have HB4 := Lib.hid (HB3.out.tr hb (Nat.le_refl _))
    clear hb
    cases z with
    | true =>
      go_wp2_with fail
      go_ret
      exact ⟨rfl, HB4.out⟩
    | false =>
      obtain ⟨z, hz⟩ : ∃ z, hvBs M = z := ⟨_, rfl⟩
      have hh := hbinds_any M ma mc w4 (HM.out.low HB4.out) HMM.out
      rw [hz, ← HMN.out] at hh
      have HH' := Lib.hid hh; have HHM := Lib.hid hz
      clear hh hz
      go_wp2_with fail
      refine HH'.out.mono ?_
      rintro e w5 ⟨rfl, hb⟩
      have BX5 := Lib.hid (BX4.out.later hb); have HB5 := Lib.hid (HB4.out.tr hb (Nat.le_refl _))
      clear hb
      cases z with
      | true =>
        go_wp2_with fail
        go_ret
        exact ⟨rfl, HB5.out⟩
      | false =>
        obtain ⟨c0, c1, c2⟩ := BX5.out.cells
        have hr := rright_any (Tp.size t) t a cap w5 (Nat.le_refl _) BX5.out.ty
        rw [tv_of BX5.out.says] at hr
        obtain ⟨z, hz⟩ : ∃ z, Tp.right t = z := ⟨_, rfl⟩
        rw [hz] at hr
        have HR := Lib.hid hr; have HZ := Lib.hid hz
        clear hr hz
        go_wp2_with fail
        refine HR.out.mono ?_
        clear c0 c1 c2
        rintro e w6 ⟨rfl, hb⟩
        have BX6 := Lib.hid (BX5.out.later hb); have HB6 := Lib.hid (HB5.out.tr hb (Nat.le_refl _))
        clear hb
        cases z with
        | false =>
          go_wp2_with fail
          go_ret
          exact ⟨rfl, HB6.out⟩
        | true =>
          obtain ⟨z, hz⟩ : ∃ z, L.all Tp.bdRight = z := ⟨_, rfl⟩
          have hh := rbinds_any L la lc w6 (HL.out.low HB6.out) HLM.out
          rw [hz, ← HLN.out] at hh
          have HRL := Lib.hid hh; have HGL := Lib.hid hz
          clear hh hz
          go_wp2_with fail
          refine HRL.out.mono ?_
          rintro e w7 ⟨rfl, hb⟩
          have BX7 := Lib.hid (BX6.out.later hb); have HB7 := Lib.hid (HB6.out.tr hb (Nat.le_refl _))
          clear hb
          cases z with
          | false =>
            go_wp2_with fail
            go_ret
            exact ⟨rfl, HB7.out⟩
          | true =>
            obtain ⟨z, hz⟩ : ∃ z, M.all Tp.bdRight = z := ⟨_, rfl⟩
            have hh := rbinds_any M ma mc w7 (HM.out.low HB7.out) HMM.out
            rw [hz, ← HMN.out] at hh
            have HRM := Lib.hid hh; have HGM := Lib.hid hz
            clear hh hz
            go_wp2_with fail
            refine HRM.out.mono ?_
            rintro e w8 ⟨rfl, hb⟩
            have BX8 := Lib.hid (BX7.out.later hb); have HB8 := Lib.hid (HB7.out.tr hb (Nat.le_refl _))
            clear hb
            cases z with
            | false =>
              go_wp2_with fail
              go_ret
              exact ⟨rfl, HB8.out⟩
            | true =>
              go_upto_region 3 with fail
              obtain ⟨l1, l2⟩ := hv_facts HHL.out
              obtain ⟨g1, g2⟩ := hv_facts HHM.out
              have L1 := Lib.hid l1; have L2 := Lib.hid l2; have G1 := Lib.hid g1; have G2 := Lib.hid g2
              clear l1 l2 g1 g2
              go_wp2_with fail
              go_loopg [7] ln (fun gk i wr => ∃ k : Nat, k ≤ ln ∧ i = .int .i64 (k : Int) ∧ Below w8.heap.size w8 wr ∧ (∀ b ∈ L.take k, Tp.without 6 b.2 = true) ∧ gk = ln - k)
              case atStart => exact ⟨0, Nat.zero_le _, rfl, Below.refl _ _, (fun b hb => by simp at hb), rfl⟩
              case round =>
                obtain ⟨k, hkm, rfl, hbw, hal, rfl⟩ := hrel
                have HBW := Lib.hid hbw; have HAL := Lib.hid hal
                clear hbw hal
                have HB9 := Lib.hid (HB8.out.tr HBW.out (Nat.le_refl _))
                by_cases hlt : k < ln
                · have hkl : k < L.length := by rw [← HLN.out]; exact hlt
                  obtain ⟨b, o, xa, xc, rfl, hbn, htx, q0, q1, q2, q3⟩ := (HL.out.low HB9.out) k hkl
                  obtain ⟨⟨bn, q⟩, hbk⟩ : ∃ b, L[k] = b := ⟨_, rfl⟩
                  obtain ⟨xk, xn, xm, hvx⟩ := TV.mk q
                  rw [hbk] at htx q0 q1 q2 q3
                  dsimp only at htx q0 q1 q2 q3
                  rw [hvx.1] at q1; rw [hvx.2.1] at q2; rw [hvx.2.2] at q3
                  obtain ⟨i1, i2⟩ := pt_int hlt
                  have hwo := wo_any (w := wr) 6 hvx htx
                  obtain ⟨z, hz⟩ : ∃ z, Tp.without 6 q = z := ⟨_, rfl⟩
                  rw [hz] at hwo
                  have HWO := Lib.hid hwo; have HZQ := Lib.hid hz; have HBK := Lib.hid hbk
                  clear hwo hz htx hbn hvx hbk
                  cases z with
                  | false =>
                    go_wp2_with (first | (go_at_call 28; (with_reducible refine HWO.out.mono ?_); clear q0 q1 q2 q3; rintro e w10 ⟨rfl, hb⟩; have HB10 := Lib.hid (HB9.out.tr hb (Nat.le_refl _)); clear hb) | (go_at_call 22; (with_reducible refine (wakes11_any _).mono ?_); rintro e w11 ⟨rfl, hb⟩; have HB11 := Lib.hid (HB10.out.tr hb (Nat.le_refl _)); clear hb))
                    go_ret
                    exact ⟨rfl, HB11.out⟩
                  | true =>
                    go_wp2_with (go_at_call 28; (with_reducible refine HWO.out.mono ?_); clear q0 q1 q2 q3; rintro e w10 ⟨rfl, hb⟩; have HB10 := Lib.hid (HBW.out.tr hb (Nat.le_refl _)); clear hb)
                    go_roundg (ln - (k + 1))
                    case measure => omega
                    case rel => exact ⟨k + 1, hlt, wrap_k4 (by have := L1.out; have := HLN.out; omega), HB10.out, (fun x hx => by
                      rw [take_more hkl] at hx
                      rcases List.mem_append.1 hx with hx | hx
                      · exact HAL.out x hx
                      · rw [List.mem_singleton.1 hx, HBK.out]; exact HZQ.out), rfl⟩
                · obtain rfl : k = ln := by omega
                  have BX9 := Lib.hid (BX8.out.later HBW.out)
                  go_upto_region 8 with fail
                  have hcl : ∀ b ∈ L, Tp.without 6 b.2 = true := by
                    have h := HAL.out
                    rw [HLN.out, List.take_length] at h
                    exact h
                  have hst : Tp.size t ≤ 600 := small_one HSS.out
                  have hsk : sokL t L = true := by unfold sokL; rw [HZ.out, HGL.out]; rfl
                  obtain ⟨c0, c1, c2⟩ := BX9.out.cells
                  have hsb := subst_any L t k0 n0 m0 a cap la lc wr BX9.out.says BX9.out.ty (HL.out.low HB9.out) (by have := L1.out; omega) (by omega) (fun x hx => by have := L2.out x hx; omega)
                  rw [← HLN.out] at hsb
                  have HSB := Lib.hid hsb; have HST := Lib.hid hst; have HSK := Lib.hid hsk; have HCL := Lib.hid hcl
                  clear hsb hst hsk hcl
                  go_wp2_with fail
                  refine HSB.out.mono ?_
                  clear c0 c1 c2
                  rintro e v1 ⟨hb, hcase⟩
                  obtain ⟨_, ya, yc, rfl, ht⟩ := hcase.resolve_right (fun h => by have h1 := h.1; rw [HSK.out] at h1; cases h1)
                  obtain ⟨y, hy⟩ : ∃ y, Tp.sub L t = y := ⟨_, rfl⟩
                  rw [hy] at ht ⊢
                  obtain ⟨yk, yn, ym, hvy⟩ := TV.mk y
                  rw [tv_of hvy]
                  obtain ⟨V1, hV1⟩ : ∃ W, v1.alloc (.cells #[.int .i64 yk, .int .i64 yn, .slice ya ym yc] 24) = W := ⟨_, rfl⟩
                  obtain ⟨by1, hb1⟩ := box_new hvy ht hV1
                  have hd1 := hb.tr hb1 (Nat.le_refl _)
                  have hry : Tp.right y = true := by rw [← hy]; exact Tp.sub_right (fun x hx => bd_right HGL.out x hx) t HZ.out
                  have hsy : Tp.size y ≤ 360000 := by
                    rw [← hy]
                    have := sub_mul (M := 600) (by omega) (fun n v hv => L2.out _ (Tp.look_mem hv)) t HZ.out
                    have := HST.out
                    omega
                  have BXa := Lib.hid (BX9.out.later hd1); have HBa := Lib.hid (HB9.out.tr hd1 (Nat.le_refl _)); have BYa := Lib.hid by1; have HV1 := Lib.hid hV1; have HRY := Lib.hid hry; have HSY := Lib.hid hsy; have HY := Lib.hid hy
                  clear hb ht hcase by1 hb1 hV1 hd1 hvy hry hsy hy
                  go_upto_region 9 with fail
                  rw [HV1.out]
                  obtain ⟨c0, c1, c2⟩ := BYa.out.cells
                  have hsk : sokL y M = true := by unfold sokL; rw [HRY.out, HGM.out]; rfl
                  have hsb := subst_any M y yk yn ym ya yc ma mc V1 BYa.out.says BYa.out.ty (HM.out.low HBa.out) (by have := G1.out; omega) (by have := HSY.out; omega) (fun x hx => by have := G2.out x hx; omega)
                  rw [← HMN.out] at hsb
                  have HSC := Lib.hid hsb; have HSL := Lib.hid hsk
                  clear hsb hsk
                  go_wp2_with fail
                  refine HSC.out.mono ?_
                  clear c0 c1 c2
                  rintro e v2 ⟨hb, hcase⟩
                  obtain ⟨_, xa, xc, rfl, ht⟩ := hcase.resolve_right (fun h => by have h1 := h.1; rw [HSL.out] at h1; cases h1)
                  obtain ⟨x, hx⟩ : ∃ x, Tp.sub M y = x := ⟨_, rfl⟩
                  rw [hx] at ht ⊢
                  obtain ⟨xk, xn, xm, hvx⟩ := TV.mk x
                  rw [tv_of hvx]
                  obtain ⟨V2, hV2⟩ : ∃ W, v2.alloc (.cells #[.int .i64 xk, .int .i64 xn, .slice xa xm xc] 24) = W := ⟨_, rfl⟩
                  obtain ⟨bx1, hb2⟩ := box_new hvx ht hV2
                  have hd2 := hb.tr hb2 (Nat.le_refl _)
                  have hex : Tp.sub (L ++ M) t = x := by rw [← hx, ← HY.out]; exact (Tp.sub_twice M HCL.out t HZ.out).symm
                  have BXb := Lib.hid (BXa.out.later hd2); have HBb := Lib.hid (HBa.out.tr hd2 (Nat.le_refl _)); have BZb := Lib.hid bx1; have HV2 := Lib.hid hV2; have HEX := Lib.hid hex
                  clear hb ht hcase bx1 hb2 hV2 hd2 hvx hex hx
                  go_upto_region 10 with fail
                  rw [HV2.out]
                  have hxr : Tp.right x = true := by rw [← HEX.out]; exact Tp.sub_right (fun b hb => by rcases List.mem_append.1 hb with hb | hb; exact bd_right HGL.out b hb; exact bd_right HGM.out b hb) t HZ.out
                  have HXR := Lib.hid hxr
                  have HSKT := Lib.hid (show sokL t (L ++ M) = true by unfold sokL; rw [HZ.out, List.all_append, HGL.out, HGM.out]; rfl)
                  obtain ⟨es1, ee1, et1, ec1⟩ := binds_ke L la (HL.out.low HBb.out)
                  obtain ⟨es2, ee2, et2, ec2⟩ := binds_ke M ma (HM.out.low HBb.out)
                  have HE1 := Lib.hid (show es1.length = L.length by rw [← ee1, List.length_map])
                  have HE2 := Lib.hid (show es2.length = M.length by rw [← ee2, List.length_map])
                  have HT1 := Lib.hid (fun x (h : Below V2.heap.size V2 x) => (fun e he => (et1 e he).below h (fun _ h => h) (fun _ h => h) : ∀ e ∈ es1, TyAt (LT V2.heap.size) x e.t e.a e.cap))
                  have HT2 := Lib.hid (fun x (h : Below V2.heap.size V2 x) => (fun e he => (et2 e he).below h (fun _ h => h) (fun _ h => h) : ∀ e ∈ es2, TyAt (LT V2.heap.size) x e.t e.a e.cap))
                  have HC1 := Lib.hid (fun x (h : Below V2.heap.size V2 x) => row_later (fun h0 => ec1 (fun e => h0 (List.map_eq_nil_iff.1 (ee1.trans e)))) h)
                  have HC2 := Lib.hid (fun x (h : Below V2.heap.size V2 x) => row_later (fun h0 => ec2 (fun e => h0 (List.map_eq_nil_iff.1 (ee2.trans e)))) h)
                  have HLE := Lib.hid (show (([] : List BKe) ++ es1 ++ es2).map (fun e => ((e.n, e.t) : Bd)) = L ++ M by rw [List.nil_append, List.map_append, ee1, ee2])
                  have HEL := Lib.hid (show (([] : List BKe) ++ es1 ++ es2).length = (L ++ M).length by rw [← HLE.out, List.length_map])
                  have HCELL := Lib.hid (fun x (h : Below V2.heap.size V2 x) => (BXb.out.later h).cells)
                  clear ee1 et1 ec1 ee2 et2 ec2 hxr
                  go_cut [12, 13] from 69 (fun v12 v13 wx => ∃ bb sa sc, v12 = .pointer (some ⟨bb, 0, none⟩) ∧ v13 = .int .i64 0 ∧ BoxT wx bb x xk xn xm sa sc ∧ Below V2.heap.size V2 wx)
                  case first =>
                    obtain ⟨U0, hU0⟩ : ∃ V, V2.drew = V := ⟨_, rfl⟩
                    have HS0 := Lib.hid (show Below V2.heap.size V2 U0 by rw [← hU0]; exact (Below.refl _ _).drew)
                    refine wp_region_held_drew (S := Below V2.heap.size V2) (by kernel_rfl) (Below.refl _ _).drew (fun _ => ?_)
                    rw [hU0]
                    clear hU0
                    refine wpAnyH_take (i := 0) (oi := ⟨some 70, _, _, _, _, _⟩) (v := ?_) rfl (by kernel_rfl) (by kernel_rfl) (by kernel_rfl) (fun _ _ _ h => h) (Or.inl ⟨by rfl, ?_⟩) HS0.out ?_
                    rotate_left
                    · (intro xx hSw; obtain ⟨c0, c1, c2⟩ := HCELL.out _ hSw; go_simp; (try with_reducible rfl))
                    try simp only [Act.put, List.setIfInBounds_toArray, List.set_cons_zero, List.set_cons_succ]
                    refine wpAnyH_take (i := 2) (oi := ⟨some 72, _, _, _, _, _⟩) (v := ?_) rfl (by kernel_rfl) (by kernel_rfl) (by kernel_rfl) (fun _ _ _ h => h) (Or.inl ⟨by rfl, ?_⟩) HS0.out ?_
                    rotate_left
                    · (intro xx hSw; obtain ⟨c0, c1, c2⟩ := HCELL.out _ hSw; go_simp; (try with_reducible rfl))
                    try simp only [Act.put, List.setIfInBounds_toArray, List.set_cons_zero, List.set_cons_succ]
                    refine wpAnyH_take (i := 4) (oi := ⟨some 74, _, _, _, _, _⟩) (v := ?_) rfl (by kernel_rfl) (by kernel_rfl) (by kernel_rfl) (fun _ _ _ h => h) (Or.inl ⟨by rfl, ?_⟩) HS0.out ?_
                    rotate_left
                    · (intro xx hSw; obtain ⟨c0, c1, c2⟩ := HCELL.out _ hSw; go_simp; (try with_reducible rfl))
                    try simp only [Act.put, List.setIfInBounds_toArray, List.set_cons_zero, List.set_cons_succ]
                    refine wpAnyH_ready (rs := [1, 10]) (by kernel_rfl) (by simp) ?_
                    refine AllReadyH.cons (o := ⟨some 71, _, _, _, _, _⟩) rfl (fun K hK => ?_) (AllReadyH.cons (o := ⟨some 12, _, _, _, _, _⟩) rfl (fun K hK => ?_) AllReadyH.nil)
                    · skip
                      go_simp
                      obtain ⟨U1, hU⟩ : ∃ V, U0.alloc (.cells #[] 44) = V := ⟨_, rfl⟩
                      rw [hU]
                      have HS1 := Lib.hid (show Below V2.heap.size V2 U1 by rw [← hU]; exact HS0.out.alloc HS0.out.size _)
                      have HK1 := Lib.hid (show Below U0.heap.size U0 U1 by rw [← hU]; exact (Below.refl _ _).alloc (Nat.le_refl _) _)
                      obtain ⟨v1, hv1⟩ : ∃ v, Value.slice (some ⟨U0.heap.size, 0, none⟩) 0 0 = v := ⟨_, rfl⟩
                      have HR1 := Lib.hid (show RowLw V2.heap.size U1 v1 [] by rw [← hU, ← hv1]; exact RowLw.made HS0.out.size)
                      rw [hv1]
                      clear hU hv1
                      refine hK.out _ _ HS1.out (fun _ => ?_)
                      clear hK K
                      try simp only [Act.put, List.setIfInBounds_toArray, List.set_cons_zero, List.set_cons_succ]
                      refine wpAnyH_ready (rs := [3, 10]) (by kernel_rfl) (by simp) ?_
                      refine AllReadyH.cons (o := ⟨some 73, _, _, _, _, _⟩) rfl (fun K hK => ?_) (AllReadyH.cons (o := ⟨some 12, _, _, _, _, _⟩) rfl (fun K hK => ?_) AllReadyH.nil)
                      · skip
                        refine step_append_bds (E := _) rfl _ _ rfl V2.heap.size v1 [] es1 rfl HR1.out.own la k lc rfl (by have := HE1.out; have := HLN.out; omega) (HC1.out _ HS1.out) (by have := HE1.out; have := HE2.out; have := L1.out; have := G1.out; simp only [List.length_nil]; omega) HS1.out.size (fun v2 U2 hown hgr => ?_)
                        have hKU : Below V2.heap.size U1 U2 := HR1.out.below hgr HS1.out.size
                        have hsz : U1.heap.size ≤ U2.heap.size := hgr.size
                        have HS2 := Lib.hid (HS1.out.trans hKU)
                        have HR2 := Lib.hid (RowLw.more HR1.out hKU (HT1.out _ HS1.out) hown)
                        clear hown hgr hKU hsz
                        refine hK.out _ _ HS2.out (fun _ => ?_)
                        clear hK K
                        try simp only [Act.put, List.setIfInBounds_toArray, List.set_cons_zero, List.set_cons_succ]
                        refine wpAnyH_ready (rs := [5, 10]) (by kernel_rfl) (by simp) ?_
                        refine AllReadyH.cons (o := ⟨some 75, _, _, _, _, _⟩) rfl (fun K hK => ?_) (AllReadyH.cons (o := ⟨some 12, _, _, _, _, _⟩) rfl (fun K hK => ?_) AllReadyH.nil)
                        · skip
                          refine step_append_bds (E := _) rfl _ _ rfl V2.heap.size v2 ([] ++ es1) es2 rfl HR2.out.own ma mn mc rfl (by have := HE2.out; have := HMN.out; omega) (HC2.out _ HS2.out) (by have := HE1.out; have := HE2.out; have := L1.out; have := G1.out; simp only [List.length_append, List.length_nil]; omega) HS2.out.size (fun v3 U3 hown hgr => ?_)
                          have hKU : Below V2.heap.size U2 U3 := HR2.out.below hgr HS2.out.size
                          have hsz : U2.heap.size ≤ U3.heap.size := hgr.size
                          have HS3 := Lib.hid (HS2.out.trans hKU)
                          have HR3 := Lib.hid (RowLw.more HR2.out hKU (HT2.out _ HS2.out) hown)
                          clear hown hgr hKU hsz
                          refine hK.out _ _ HS3.out (fun _ => ?_)
                          clear hK K
                          try simp only [Act.put, List.setIfInBounds_toArray, List.set_cons_zero, List.set_cons_succ]
                          refine wpAnyH_ready (rs := [6, 10]) (by kernel_rfl) (by simp) ?_
                          refine AllReadyH.cons (o := ⟨some 76, _, _, _, _, _⟩) rfl (fun K hK => ?_) (AllReadyH.cons (o := ⟨some 12, _, _, _, _, _⟩) rfl (fun K hK => ?_) AllReadyH.nil)
                          · skip
                            obtain ⟨ra, rc, hrv, hbd⟩ := HR3.out.binds HS3.out.size
                            rw [HLE.out] at hbd
                            have hsu := subst_any (L ++ M) t k0 n0 m0 a cap ra rc U3 BXb.out.says (BXb.out.later HS3.out).ty hbd (by rw [List.length_append]; have := L1.out; have := G1.out; omega) (by have := HST.out; omega) (fun x hx => by rcases List.mem_append.1 hx with hx | hx; (have := L2.out x hx; omega); (have := G2.out x hx; omega))
                            rw [← HEL.out, ← hrv] at hsu
                            have HSU := Lib.hid hsu
                            clear hsu hbd hrv
                            go_simp
                            refine HSU.out.mono ?_
                            rintro e U4 ⟨hb, hcase⟩
                            obtain ⟨_, sa, sc, rfl, ht⟩ := hcase.resolve_right (fun h => by have h1 := h.1; rw [HSKT.out] at h1; cases h1)
                            rw [HEX.out] at ht ⊢
                            rw [tv_of BZb.out.says]
                            have HK4 := Lib.hid hb
                            have HS4 := Lib.hid (Go.RowKit.Below.tr HS3.out hb (Nat.le_refl _))
                            have HTY := Lib.hid ht
                            clear hb ht hcase HSU
                            dsimp only
                            refine hK.out _ _ HS4.out (fun _ => ?_)
                            clear hK K
                            try simp only [Act.put, List.setIfInBounds_toArray, List.set_cons_zero, List.set_cons_succ]
                            refine wpAnyH_take (i := 7) (oi := ⟨some 69, _, _, _, _, _⟩) (v := ?_) rfl (by kernel_rfl) (by kernel_rfl) (by kernel_rfl) (fun _ _ _ h => h) (Or.inl ⟨by rfl, ?_⟩) HS4.out ?_
                            rotate_left
                            · (intro xx hSw; obtain ⟨c0, c1, c2⟩ := HCELL.out _ hSw; go_simp; (try with_reducible rfl))
                            try simp only [Act.put, List.setIfInBounds_toArray, List.set_cons_zero, List.set_cons_succ]
                            refine wpAnyH_take (i := 8) (oi := ⟨some 77, _, _, _, _, _⟩) (v := ?_) rfl (by kernel_rfl) (by kernel_rfl) (by kernel_rfl) (fun _ _ _ h => h) (Or.inl ⟨by rfl, ?_⟩) HS4.out ?_
                            rotate_left
                            · (intro xx hSw; obtain ⟨c0, c1, c2⟩ := HCELL.out _ hSw; go_simp; (try with_reducible rfl))
                            try simp only [Act.put, List.setIfInBounds_toArray, List.set_cons_zero, List.set_cons_succ]
                            refine wpAnyH_take (i := 9) (oi := ⟨some 78, _, _, _, _, _⟩) (v := ?_) rfl (by kernel_rfl) (by kernel_rfl) (by kernel_rfl) (fun _ _ _ h => h) (Or.inl ⟨by rfl, ?_⟩) HS4.out ?_
                            rotate_left
                            · (intro xx hSw; obtain ⟨c0, c1, c2⟩ := HCELL.out _ hSw; go_simp; (try with_reducible rfl))
                            try simp only [Act.put, List.setIfInBounds_toArray, List.set_cons_zero, List.set_cons_succ]
                            refine wpAnyH_ready (rs := [10]) (by kernel_rfl) (by simp) ?_
                            refine AllReadyH.cons (o := ⟨some 12, _, _, _, _, _⟩) rfl (fun K hK => ?_) AllReadyH.nil
                            go_simp
                            obtain ⟨U5, hU⟩ : ∃ V, U4.alloc (.cells #[.int .i64 0, .int .i64 0, .slice none 0 0] 24) = V := ⟨_, rfl⟩
                            rw [hU]
                            have HS5 := Lib.hid (show Below V2.heap.size V2 U5 by rw [← hU]; exact HS4.out.alloc HS4.out.size _)
                            have HK5 := Lib.hid (show Below U4.heap.size U4 U5 by rw [← hU]; exact (Below.refl _ _).alloc (Nat.le_refl _) _)
                            have HZB := Lib.hid (show U5.heap[U4.heap.size]? = some (.cells #[.int .i64 0, .int .i64 0, .slice none 0 0] 24) by rw [← hU]; exact World.alloc_heap_new _ _)
                            have HLB := Lib.hid (show U4.heap.size < U5.heap.size by rw [← hU, World.size_alloc]; omega)
                            have HBB := Lib.hid HS4.out.size
                            have HTY := Lib.hid (ty_later HTY.out HK5.out)
                            clear hU
                            refine hK.out _ _ HS5.out (fun _ => ?_)
                            clear hK K
                            try simp only [Act.put, List.setIfInBounds_toArray, List.set_cons_zero, List.set_cons_succ]
                            have hpb := put_box (F := _) (bb := U4.heap.size) BZb.out.says (kids_right HXR.out) HZB.out HTY.out HS5.out HBB.out rfl
                            obtain ⟨z0, z1, z2, z3, z4, z5⟩ := zero_facts HZB.out
                            have HPB := Lib.hid hpb
                            refine wpAnyH_ready (rs := [11]) (by kernel_rfl) (by simp) ?_
                            refine AllReadyH.cons (o := ⟨none, _, _, _, _, _⟩) rfl (fun K hK => ?_) AllReadyH.nil
                            go_simp
                            refine hK.out _ _ hpb.2 (fun _ => ?_)
                            clear hK K
                            try simp only [Act.put, List.setIfInBounds_toArray, List.set_cons_zero, List.set_cons_succ]
                            refine wpAnyH_take (i := 12) (oi := ⟨some 13, _, _, _, _, _⟩) (v := ?_) rfl (by kernel_rfl) (by kernel_rfl) (by kernel_rfl) (fun _ _ _ h => h) (Or.inl ⟨by rfl, ?_⟩) hpb.2 ?_
                            rotate_left
                            · (intro xx hSw; obtain ⟨c0, c1, c2⟩ := HCELL.out _ hSw; go_simp; (try with_reducible rfl))
                            try simp only [Act.put, List.setIfInBounds_toArray, List.set_cons_zero, List.set_cons_succ]
                            refine wpAnyH_done (by kernel_rfl) ?_ _
                            go_wp2_with fail
                            go_meet
                            case rel => exact ⟨_, _, _, rfl, rfl, HPB.out.1, HPB.out.2⟩
                          · skip
                            go_simp
                            obtain ⟨U4, hU⟩ : ∃ V, U3.alloc (.cells #[.int .i64 0, .int .i64 0, .slice none 0 0] 24) = V := ⟨_, rfl⟩
                            rw [hU]
                            have HS4 := Lib.hid (show Below V2.heap.size V2 U4 by rw [← hU]; exact HS3.out.alloc HS3.out.size _)
                            have HK4 := Lib.hid (show Below U3.heap.size U3 U4 by rw [← hU]; exact (Below.refl _ _).alloc (Nat.le_refl _) _)
                            have HZB := Lib.hid (show U4.heap[U3.heap.size]? = some (.cells #[.int .i64 0, .int .i64 0, .slice none 0 0] 24) by rw [← hU]; exact World.alloc_heap_new _ _)
                            have HLB := Lib.hid (show U3.heap.size < U4.heap.size by rw [← hU, World.size_alloc]; omega)
                            have HBB := Lib.hid HS3.out.size
                            have HR4 := Lib.hid (HR3.out.step HK4.out HS3.out.size)
                            clear hU
                            refine hK.out _ _ HS4.out (fun _ => ?_)
                            clear hK K
                            try simp only [Act.put, List.setIfInBounds_toArray, List.set_cons_zero, List.set_cons_succ]
                            refine wpAnyH_ready (rs := [6]) (by kernel_rfl) (by simp) ?_
                            refine AllReadyH.cons (o := ⟨some 76, _, _, _, _, _⟩) rfl (fun K hK => ?_) AllReadyH.nil
                            obtain ⟨ra, rc, hrv, hbd⟩ := HR4.out.binds HS4.out.size
                            rw [HLE.out] at hbd
                            have hsu := subst_any (L ++ M) t k0 n0 m0 a cap ra rc U4 BXb.out.says (BXb.out.later HS4.out).ty hbd (by rw [List.length_append]; have := L1.out; have := G1.out; omega) (by have := HST.out; omega) (fun x hx => by rcases List.mem_append.1 hx with hx | hx; (have := L2.out x hx; omega); (have := G2.out x hx; omega))
                            rw [← HEL.out, ← hrv] at hsu
                            have HSU := Lib.hid hsu
                            clear hsu hbd hrv
                            go_simp
                            refine HSU.out.mono ?_
                            rintro e U5 ⟨hb, hcase⟩
                            obtain ⟨_, sa, sc, rfl, ht⟩ := hcase.resolve_right (fun h => by have h1 := h.1; rw [HSKT.out] at h1; cases h1)
                            rw [HEX.out] at ht ⊢
                            rw [tv_of BZb.out.says]
                            have HK5 := Lib.hid hb
                            have HS5 := Lib.hid (Go.RowKit.Below.tr HS4.out hb (Nat.le_refl _))
                            have HTY := Lib.hid ht
                            clear hb ht hcase HSU
                            dsimp only
                            have HZB := Lib.hid ((HK5.out.block _ HLB.out).trans HZB.out)
                            have HLB := Lib.hid (Nat.lt_of_lt_of_le HLB.out HK5.out.size)
                            refine hK.out _ _ HS5.out (fun _ => ?_)
                            clear hK K
                            try simp only [Act.put, List.setIfInBounds_toArray, List.set_cons_zero, List.set_cons_succ]
                            refine wpAnyH_take (i := 7) (oi := ⟨some 69, _, _, _, _, _⟩) (v := ?_) rfl (by kernel_rfl) (by kernel_rfl) (by kernel_rfl) (fun _ _ _ h => h) (Or.inl ⟨by rfl, ?_⟩) HS5.out ?_
                            rotate_left
                            · (intro xx hSw; obtain ⟨c0, c1, c2⟩ := HCELL.out _ hSw; go_simp; (try with_reducible rfl))
                            try simp only [Act.put, List.setIfInBounds_toArray, List.set_cons_zero, List.set_cons_succ]
                            refine wpAnyH_take (i := 8) (oi := ⟨some 77, _, _, _, _, _⟩) (v := ?_) rfl (by kernel_rfl) (by kernel_rfl) (by kernel_rfl) (fun _ _ _ h => h) (Or.inl ⟨by rfl, ?_⟩) HS5.out ?_
                            rotate_left
                            · (intro xx hSw; obtain ⟨c0, c1, c2⟩ := HCELL.out _ hSw; go_simp; (try with_reducible rfl))
                            try simp only [Act.put, List.setIfInBounds_toArray, List.set_cons_zero, List.set_cons_succ]
                            refine wpAnyH_take (i := 9) (oi := ⟨some 78, _, _, _, _, _⟩) (v := ?_) rfl (by kernel_rfl) (by kernel_rfl) (by kernel_rfl) (fun _ _ _ h => h) (Or.inl ⟨by rfl, ?_⟩) HS5.out ?_
                            rotate_left
                            · (intro xx hSw; obtain ⟨c0, c1, c2⟩ := HCELL.out _ hSw; go_simp; (try with_reducible rfl))
                            try simp only [Act.put, List.setIfInBounds_toArray, List.set_cons_zero, List.set_cons_succ]
                            have hpb := put_box (F := _) (bb := U3.heap.size) BZb.out.says (kids_right HXR.out) HZB.out HTY.out HS5.out HBB.out rfl
                            obtain ⟨z0, z1, z2, z3, z4, z5⟩ := zero_facts HZB.out
                            have HPB := Lib.hid hpb
                            refine wpAnyH_ready (rs := [11]) (by kernel_rfl) (by simp) ?_
                            refine AllReadyH.cons (o := ⟨none, _, _, _, _, _⟩) rfl (fun K hK => ?_) AllReadyH.nil
                            go_simp
                            refine hK.out _ _ hpb.2 (fun _ => ?_)
                            clear hK K
                            try simp only [Act.put, List.setIfInBounds_toArray, List.set_cons_zero, List.set_cons_succ]
                            refine wpAnyH_take (i := 12) (oi := ⟨some 13, _, _, _, _, _⟩) (v := ?_) rfl (by kernel_rfl) (by kernel_rfl) (by kernel_rfl) (fun _ _ _ h => h) (Or.inl ⟨by rfl, ?_⟩) hpb.2 ?_
                            rotate_left
                            · (intro xx hSw; obtain ⟨c0, c1, c2⟩ := HCELL.out _ hSw; go_simp; (try with_reducible rfl))
                            try simp only [Act.put, List.setIfInBounds_toArray, List.set_cons_zero, List.set_cons_succ]
                            refine wpAnyH_done (by kernel_rfl) ?_ _
                            go_wp2_with fail
                            go_meet
                            case rel => exact ⟨_, _, _, rfl, rfl, HPB.out.1, HPB.out.2⟩
                        · skip
                          go_simp
                          obtain ⟨U3, hU⟩ : ∃ V, U2.alloc (.cells #[.int .i64 0, .int .i64 0, .slice none 0 0] 24) = V := ⟨_, rfl⟩
                          rw [hU]
                          have HS3 := Lib.hid (show Below V2.heap.size V2 U3 by rw [← hU]; exact HS2.out.alloc HS2.out.size _)
                          have HK3 := Lib.hid (show Below U2.heap.size U2 U3 by rw [← hU]; exact (Below.refl _ _).alloc (Nat.le_refl _) _)
                          have HZB := Lib.hid (show U3.heap[U2.heap.size]? = some (.cells #[.int .i64 0, .int .i64 0, .slice none 0 0] 24) by rw [← hU]; exact World.alloc_heap_new _ _)
                          have HLB := Lib.hid (show U2.heap.size < U3.heap.size by rw [← hU, World.size_alloc]; omega)
                          have HBB := Lib.hid HS2.out.size
                          have HR3 := Lib.hid (HR2.out.step HK3.out HS2.out.size)
                          clear hU
                          refine hK.out _ _ HS3.out (fun _ => ?_)
                          clear hK K
                          try simp only [Act.put, List.setIfInBounds_toArray, List.set_cons_zero, List.set_cons_succ]
                          refine wpAnyH_ready (rs := [5]) (by kernel_rfl) (by simp) ?_
                          refine AllReadyH.cons (o := ⟨some 75, _, _, _, _, _⟩) rfl (fun K hK => ?_) AllReadyH.nil
                          refine step_append_bds (E := _) rfl _ _ rfl V2.heap.size v2 ([] ++ es1) es2 rfl HR3.out.own ma mn mc rfl (by have := HE2.out; have := HMN.out; omega) (HC2.out _ HS3.out) (by have := HE1.out; have := HE2.out; have := L1.out; have := G1.out; simp only [List.length_append, List.length_nil]; omega) HS3.out.size (fun v3 U4 hown hgr => ?_)
                          have hKU : Below V2.heap.size U3 U4 := HR3.out.below hgr HS3.out.size
                          have hsz : U3.heap.size ≤ U4.heap.size := hgr.size
                          have HS4 := Lib.hid (HS3.out.trans hKU)
                          have HR4 := Lib.hid (RowLw.more HR3.out hKU (HT2.out _ HS3.out) hown)
                          have HZB := Lib.hid ((hgr.block _ HLB.out (Ne.symm (HR3.out.far HZB.out))).trans HZB.out)
                          have HLB := Lib.hid (Nat.lt_of_lt_of_le HLB.out hsz)
                          clear hown hgr hKU hsz
                          refine hK.out _ _ HS4.out (fun _ => ?_)
                          clear hK K
                          try simp only [Act.put, List.setIfInBounds_toArray, List.set_cons_zero, List.set_cons_succ]
                          refine wpAnyH_ready (rs := [6]) (by kernel_rfl) (by simp) ?_
                          refine AllReadyH.cons (o := ⟨some 76, _, _, _, _, _⟩) rfl (fun K hK => ?_) AllReadyH.nil
                          obtain ⟨ra, rc, hrv, hbd⟩ := HR4.out.binds HS4.out.size
                          rw [HLE.out] at hbd
                          have hsu := subst_any (L ++ M) t k0 n0 m0 a cap ra rc U4 BXb.out.says (BXb.out.later HS4.out).ty hbd (by rw [List.length_append]; have := L1.out; have := G1.out; omega) (by have := HST.out; omega) (fun x hx => by rcases List.mem_append.1 hx with hx | hx; (have := L2.out x hx; omega); (have := G2.out x hx; omega))
                          rw [← HEL.out, ← hrv] at hsu
                          have HSU := Lib.hid hsu
                          clear hsu hbd hrv
                          go_simp
                          refine HSU.out.mono ?_
                          rintro e U5 ⟨hb, hcase⟩
                          obtain ⟨_, sa, sc, rfl, ht⟩ := hcase.resolve_right (fun h => by have h1 := h.1; rw [HSKT.out] at h1; cases h1)
                          rw [HEX.out] at ht ⊢
                          rw [tv_of BZb.out.says]
                          have HK5 := Lib.hid hb
                          have HS5 := Lib.hid (Go.RowKit.Below.tr HS4.out hb (Nat.le_refl _))
                          have HTY := Lib.hid ht
                          clear hb ht hcase HSU
                          dsimp only
                          have HZB := Lib.hid ((HK5.out.block _ HLB.out).trans HZB.out)
                          have HLB := Lib.hid (Nat.lt_of_lt_of_le HLB.out HK5.out.size)
                          refine hK.out _ _ HS5.out (fun _ => ?_)
                          clear hK K
                          try simp only [Act.put, List.setIfInBounds_toArray, List.set_cons_zero, List.set_cons_succ]
                          refine wpAnyH_take (i := 7) (oi := ⟨some 69, _, _, _, _, _⟩) (v := ?_) rfl (by kernel_rfl) (by kernel_rfl) (by kernel_rfl) (fun _ _ _ h => h) (Or.inl ⟨by rfl, ?_⟩) HS5.out ?_
                          rotate_left
                          · (intro xx hSw; obtain ⟨c0, c1, c2⟩ := HCELL.out _ hSw; go_simp; (try with_reducible rfl))
                          try simp only [Act.put, List.setIfInBounds_toArray, List.set_cons_zero, List.set_cons_succ]
                          refine wpAnyH_take (i := 8) (oi := ⟨some 77, _, _, _, _, _⟩) (v := ?_) rfl (by kernel_rfl) (by kernel_rfl) (by kernel_rfl) (fun _ _ _ h => h) (Or.inl ⟨by rfl, ?_⟩) HS5.out ?_
                          rotate_left
                          · (intro xx hSw; obtain ⟨c0, c1, c2⟩ := HCELL.out _ hSw; go_simp; (try with_reducible rfl))
                          try simp only [Act.put, List.setIfInBounds_toArray, List.set_cons_zero, List.set_cons_succ]
                          refine wpAnyH_take (i := 9) (oi := ⟨some 78, _, _, _, _, _⟩) (v := ?_) rfl (by kernel_rfl) (by kernel_rfl) (by kernel_rfl) (fun _ _ _ h => h) (Or.inl ⟨by rfl, ?_⟩) HS5.out ?_
                          rotate_left
                          · (intro xx hSw; obtain ⟨c0, c1, c2⟩ := HCELL.out _ hSw; go_simp; (try with_reducible rfl))
                          try simp only [Act.put, List.setIfInBounds_toArray, List.set_cons_zero, List.set_cons_succ]
                          have hpb := put_box (F := _) (bb := U2.heap.size) BZb.out.says (kids_right HXR.out) HZB.out HTY.out HS5.out HBB.out rfl
                          obtain ⟨z0, z1, z2, z3, z4, z5⟩ := zero_facts HZB.out
                          have HPB := Lib.hid hpb
                          refine wpAnyH_ready (rs := [11]) (by kernel_rfl) (by simp) ?_
                          refine AllReadyH.cons (o := ⟨none, _, _, _, _, _⟩) rfl (fun K hK => ?_) AllReadyH.nil
                          go_simp
                          refine hK.out _ _ hpb.2 (fun _ => ?_)
                          clear hK K
                          try simp only [Act.put, List.setIfInBounds_toArray, List.set_cons_zero, List.set_cons_succ]
                          refine wpAnyH_take (i := 12) (oi := ⟨some 13, _, _, _, _, _⟩) (v := ?_) rfl (by kernel_rfl) (by kernel_rfl) (by kernel_rfl) (fun _ _ _ h => h) (Or.inl ⟨by rfl, ?_⟩) hpb.2 ?_
                          rotate_left
                          · (intro xx hSw; obtain ⟨c0, c1, c2⟩ := HCELL.out _ hSw; go_simp; (try with_reducible rfl))
                          try simp only [Act.put, List.setIfInBounds_toArray, List.set_cons_zero, List.set_cons_succ]
                          refine wpAnyH_done (by kernel_rfl) ?_ _
                          go_wp2_with fail
                          go_meet
                          case rel => exact ⟨_, _, _, rfl, rfl, HPB.out.1, HPB.out.2⟩
                      · skip
                        go_simp
                        obtain ⟨U2, hU⟩ : ∃ V, U1.alloc (.cells #[.int .i64 0, .int .i64 0, .slice none 0 0] 24) = V := ⟨_, rfl⟩
                        rw [hU]
                        have HS2 := Lib.hid (show Below V2.heap.size V2 U2 by rw [← hU]; exact HS1.out.alloc HS1.out.size _)
                        have HK2 := Lib.hid (show Below U1.heap.size U1 U2 by rw [← hU]; exact (Below.refl _ _).alloc (Nat.le_refl _) _)
                        have HZB := Lib.hid (show U2.heap[U1.heap.size]? = some (.cells #[.int .i64 0, .int .i64 0, .slice none 0 0] 24) by rw [← hU]; exact World.alloc_heap_new _ _)
                        have HLB := Lib.hid (show U1.heap.size < U2.heap.size by rw [← hU, World.size_alloc]; omega)
                        have HBB := Lib.hid HS1.out.size
                        have HR2 := Lib.hid (HR1.out.step HK2.out HS1.out.size)
                        clear hU
                        refine hK.out _ _ HS2.out (fun _ => ?_)
                        clear hK K
                        try simp only [Act.put, List.setIfInBounds_toArray, List.set_cons_zero, List.set_cons_succ]
                        refine wpAnyH_ready (rs := [3]) (by kernel_rfl) (by simp) ?_
                        refine AllReadyH.cons (o := ⟨some 73, _, _, _, _, _⟩) rfl (fun K hK => ?_) AllReadyH.nil
                        refine step_append_bds (E := _) rfl _ _ rfl V2.heap.size v1 [] es1 rfl HR2.out.own la k lc rfl (by have := HE1.out; have := HLN.out; omega) (HC1.out _ HS2.out) (by have := HE1.out; have := HE2.out; have := L1.out; have := G1.out; simp only [List.length_nil]; omega) HS2.out.size (fun v2 U3 hown hgr => ?_)
                        have hKU : Below V2.heap.size U2 U3 := HR2.out.below hgr HS2.out.size
                        have hsz : U2.heap.size ≤ U3.heap.size := hgr.size
                        have HS3 := Lib.hid (HS2.out.trans hKU)
                        have HR3 := Lib.hid (RowLw.more HR2.out hKU (HT1.out _ HS2.out) hown)
                        have HZB := Lib.hid ((hgr.block _ HLB.out (Ne.symm (HR2.out.far HZB.out))).trans HZB.out)
                        have HLB := Lib.hid (Nat.lt_of_lt_of_le HLB.out hsz)
                        clear hown hgr hKU hsz
                        refine hK.out _ _ HS3.out (fun _ => ?_)
                        clear hK K
                        try simp only [Act.put, List.setIfInBounds_toArray, List.set_cons_zero, List.set_cons_succ]
                        refine wpAnyH_ready (rs := [5]) (by kernel_rfl) (by simp) ?_
                        refine AllReadyH.cons (o := ⟨some 75, _, _, _, _, _⟩) rfl (fun K hK => ?_) AllReadyH.nil
                        refine step_append_bds (E := _) rfl _ _ rfl V2.heap.size v2 ([] ++ es1) es2 rfl HR3.out.own ma mn mc rfl (by have := HE2.out; have := HMN.out; omega) (HC2.out _ HS3.out) (by have := HE1.out; have := HE2.out; have := L1.out; have := G1.out; simp only [List.length_append, List.length_nil]; omega) HS3.out.size (fun v3 U4 hown hgr => ?_)
                        have hKU : Below V2.heap.size U3 U4 := HR3.out.below hgr HS3.out.size
                        have hsz : U3.heap.size ≤ U4.heap.size := hgr.size
                        have HS4 := Lib.hid (HS3.out.trans hKU)
                        have HR4 := Lib.hid (RowLw.more HR3.out hKU (HT2.out _ HS3.out) hown)
                        have HZB := Lib.hid ((hgr.block _ HLB.out (Ne.symm (HR3.out.far HZB.out))).trans HZB.out)
                        have HLB := Lib.hid (Nat.lt_of_lt_of_le HLB.out hsz)
                        clear hown hgr hKU hsz
                        refine hK.out _ _ HS4.out (fun _ => ?_)
                        clear hK K
                        try simp only [Act.put, List.setIfInBounds_toArray, List.set_cons_zero, List.set_cons_succ]
                        refine wpAnyH_ready (rs := [6]) (by kernel_rfl) (by simp) ?_
                        refine AllReadyH.cons (o := ⟨some 76, _, _, _, _, _⟩) rfl (fun K hK => ?_) AllReadyH.nil
                        obtain ⟨ra, rc, hrv, hbd⟩ := HR4.out.binds HS4.out.size
                        rw [HLE.out] at hbd
                        have hsu := subst_any (L ++ M) t k0 n0 m0 a cap ra rc U4 BXb.out.says (BXb.out.later HS4.out).ty hbd (by rw [List.length_append]; have := L1.out; have := G1.out; omega) (by have := HST.out; omega) (fun x hx => by rcases List.mem_append.1 hx with hx | hx; (have := L2.out x hx; omega); (have := G2.out x hx; omega))
                        rw [← HEL.out, ← hrv] at hsu
                        have HSU := Lib.hid hsu
                        clear hsu hbd hrv
                        go_simp
                        refine HSU.out.mono ?_
                        rintro e U5 ⟨hb, hcase⟩
                        obtain ⟨_, sa, sc, rfl, ht⟩ := hcase.resolve_right (fun h => by have h1 := h.1; rw [HSKT.out] at h1; cases h1)
                        rw [HEX.out] at ht ⊢
                        rw [tv_of BZb.out.says]
                        have HK5 := Lib.hid hb
                        have HS5 := Lib.hid (Go.RowKit.Below.tr HS4.out hb (Nat.le_refl _))
                        have HTY := Lib.hid ht
                        clear hb ht hcase HSU
                        dsimp only
                        have HZB := Lib.hid ((HK5.out.block _ HLB.out).trans HZB.out)
                        have HLB := Lib.hid (Nat.lt_of_lt_of_le HLB.out HK5.out.size)
                        refine hK.out _ _ HS5.out (fun _ => ?_)
                        clear hK K
                        try simp only [Act.put, List.setIfInBounds_toArray, List.set_cons_zero, List.set_cons_succ]
                        refine wpAnyH_take (i := 7) (oi := ⟨some 69, _, _, _, _, _⟩) (v := ?_) rfl (by kernel_rfl) (by kernel_rfl) (by kernel_rfl) (fun _ _ _ h => h) (Or.inl ⟨by rfl, ?_⟩) HS5.out ?_
                        rotate_left
                        · (intro xx hSw; obtain ⟨c0, c1, c2⟩ := HCELL.out _ hSw; go_simp; (try with_reducible rfl))
                        try simp only [Act.put, List.setIfInBounds_toArray, List.set_cons_zero, List.set_cons_succ]
                        refine wpAnyH_take (i := 8) (oi := ⟨some 77, _, _, _, _, _⟩) (v := ?_) rfl (by kernel_rfl) (by kernel_rfl) (by kernel_rfl) (fun _ _ _ h => h) (Or.inl ⟨by rfl, ?_⟩) HS5.out ?_
                        rotate_left
                        · (intro xx hSw; obtain ⟨c0, c1, c2⟩ := HCELL.out _ hSw; go_simp; (try with_reducible rfl))
                        try simp only [Act.put, List.setIfInBounds_toArray, List.set_cons_zero, List.set_cons_succ]
                        refine wpAnyH_take (i := 9) (oi := ⟨some 78, _, _, _, _, _⟩) (v := ?_) rfl (by kernel_rfl) (by kernel_rfl) (by kernel_rfl) (fun _ _ _ h => h) (Or.inl ⟨by rfl, ?_⟩) HS5.out ?_
                        rotate_left
                        · (intro xx hSw; obtain ⟨c0, c1, c2⟩ := HCELL.out _ hSw; go_simp; (try with_reducible rfl))
                        try simp only [Act.put, List.setIfInBounds_toArray, List.set_cons_zero, List.set_cons_succ]
                        have hpb := put_box (F := _) (bb := U1.heap.size) BZb.out.says (kids_right HXR.out) HZB.out HTY.out HS5.out HBB.out rfl
                        obtain ⟨z0, z1, z2, z3, z4, z5⟩ := zero_facts HZB.out
                        have HPB := Lib.hid hpb
                        refine wpAnyH_ready (rs := [11]) (by kernel_rfl) (by simp) ?_
                        refine AllReadyH.cons (o := ⟨none, _, _, _, _, _⟩) rfl (fun K hK => ?_) AllReadyH.nil
                        go_simp
                        refine hK.out _ _ hpb.2 (fun _ => ?_)
                        clear hK K
                        try simp only [Act.put, List.setIfInBounds_toArray, List.set_cons_zero, List.set_cons_succ]
                        refine wpAnyH_take (i := 12) (oi := ⟨some 13, _, _, _, _, _⟩) (v := ?_) rfl (by kernel_rfl) (by kernel_rfl) (by kernel_rfl) (fun _ _ _ h => h) (Or.inl ⟨by rfl, ?_⟩) hpb.2 ?_
                        rotate_left
                        · (intro xx hSw; obtain ⟨c0, c1, c2⟩ := HCELL.out _ hSw; go_simp; (try with_reducible rfl))
                        try simp only [Act.put, List.setIfInBounds_toArray, List.set_cons_zero, List.set_cons_succ]
                        refine wpAnyH_done (by kernel_rfl) ?_ _
                        go_wp2_with fail
                        go_meet
                        case rel => exact ⟨_, _, _, rfl, rfl, HPB.out.1, HPB.out.2⟩
                    · skip
                      go_simp
                      obtain ⟨U1, hU⟩ : ∃ V, U0.alloc (.cells #[.int .i64 0, .int .i64 0, .slice none 0 0] 24) = V := ⟨_, rfl⟩
                      rw [hU]
                      have HS1 := Lib.hid (show Below V2.heap.size V2 U1 by rw [← hU]; exact HS0.out.alloc HS0.out.size _)
                      have HK1 := Lib.hid (show Below U0.heap.size U0 U1 by rw [← hU]; exact (Below.refl _ _).alloc (Nat.le_refl _) _)
                      have HZB := Lib.hid (show U1.heap[U0.heap.size]? = some (.cells #[.int .i64 0, .int .i64 0, .slice none 0 0] 24) by rw [← hU]; exact World.alloc_heap_new _ _)
                      have HLB := Lib.hid (show U0.heap.size < U1.heap.size by rw [← hU, World.size_alloc]; omega)
                      have HBB := Lib.hid HS0.out.size
                      clear hU
                      refine hK.out _ _ HS1.out (fun _ => ?_)
                      clear hK K
                      try simp only [Act.put, List.setIfInBounds_toArray, List.set_cons_zero, List.set_cons_succ]
                      refine wpAnyH_ready (rs := [1]) (by kernel_rfl) (by simp) ?_
                      refine AllReadyH.cons (o := ⟨some 71, _, _, _, _, _⟩) rfl (fun K hK => ?_) AllReadyH.nil
                      go_simp
                      obtain ⟨U2, hU⟩ : ∃ V, U1.alloc (.cells #[] 44) = V := ⟨_, rfl⟩
                      rw [hU]
                      have HS2 := Lib.hid (show Below V2.heap.size V2 U2 by rw [← hU]; exact HS1.out.alloc HS1.out.size _)
                      have HK2 := Lib.hid (show Below U1.heap.size U1 U2 by rw [← hU]; exact (Below.refl _ _).alloc (Nat.le_refl _) _)
                      obtain ⟨v1, hv1⟩ : ∃ v, Value.slice (some ⟨U1.heap.size, 0, none⟩) 0 0 = v := ⟨_, rfl⟩
                      have HR2 := Lib.hid (show RowLw V2.heap.size U2 v1 [] by rw [← hU, ← hv1]; exact RowLw.made HS1.out.size)
                      rw [hv1]
                      clear hU hv1
                      have HZB := Lib.hid ((HK2.out.block _ HLB.out).trans HZB.out)
                      have HLB := Lib.hid (Nat.lt_of_lt_of_le HLB.out HK2.out.size)
                      refine hK.out _ _ HS2.out (fun _ => ?_)
                      clear hK K
                      try simp only [Act.put, List.setIfInBounds_toArray, List.set_cons_zero, List.set_cons_succ]
                      refine wpAnyH_ready (rs := [3]) (by kernel_rfl) (by simp) ?_
                      refine AllReadyH.cons (o := ⟨some 73, _, _, _, _, _⟩) rfl (fun K hK => ?_) AllReadyH.nil
                      refine step_append_bds (E := _) rfl _ _ rfl V2.heap.size v1 [] es1 rfl HR2.out.own la k lc rfl (by have := HE1.out; have := HLN.out; omega) (HC1.out _ HS2.out) (by have := HE1.out; have := HE2.out; have := L1.out; have := G1.out; simp only [List.length_nil]; omega) HS2.out.size (fun v2 U3 hown hgr => ?_)
                      have hKU : Below V2.heap.size U2 U3 := HR2.out.below hgr HS2.out.size
                      have hsz : U2.heap.size ≤ U3.heap.size := hgr.size
                      have HS3 := Lib.hid (HS2.out.trans hKU)
                      have HR3 := Lib.hid (RowLw.more HR2.out hKU (HT1.out _ HS2.out) hown)
                      have HZB := Lib.hid ((hgr.block _ HLB.out (Ne.symm (HR2.out.far HZB.out))).trans HZB.out)
                      have HLB := Lib.hid (Nat.lt_of_lt_of_le HLB.out hsz)
                      clear hown hgr hKU hsz
                      refine hK.out _ _ HS3.out (fun _ => ?_)
                      clear hK K
                      try simp only [Act.put, List.setIfInBounds_toArray, List.set_cons_zero, List.set_cons_succ]
                      refine wpAnyH_ready (rs := [5]) (by kernel_rfl) (by simp) ?_
                      refine AllReadyH.cons (o := ⟨some 75, _, _, _, _, _⟩) rfl (fun K hK => ?_) AllReadyH.nil
                      refine step_append_bds (E := _) rfl _ _ rfl V2.heap.size v2 ([] ++ es1) es2 rfl HR3.out.own ma mn mc rfl (by have := HE2.out; have := HMN.out; omega) (HC2.out _ HS3.out) (by have := HE1.out; have := HE2.out; have := L1.out; have := G1.out; simp only [List.length_append, List.length_nil]; omega) HS3.out.size (fun v3 U4 hown hgr => ?_)
                      have hKU : Below V2.heap.size U3 U4 := HR3.out.below hgr HS3.out.size
                      have hsz : U3.heap.size ≤ U4.heap.size := hgr.size
                      have HS4 := Lib.hid (HS3.out.trans hKU)
                      have HR4 := Lib.hid (RowLw.more HR3.out hKU (HT2.out _ HS3.out) hown)
                      have HZB := Lib.hid ((hgr.block _ HLB.out (Ne.symm (HR3.out.far HZB.out))).trans HZB.out)
                      have HLB := Lib.hid (Nat.lt_of_lt_of_le HLB.out hsz)
                      clear hown hgr hKU hsz
                      refine hK.out _ _ HS4.out (fun _ => ?_)
                      clear hK K
                      try simp only [Act.put, List.setIfInBounds_toArray, List.set_cons_zero, List.set_cons_succ]
                      refine wpAnyH_ready (rs := [6]) (by kernel_rfl) (by simp) ?_
                      refine AllReadyH.cons (o := ⟨some 76, _, _, _, _, _⟩) rfl (fun K hK => ?_) AllReadyH.nil
                      obtain ⟨ra, rc, hrv, hbd⟩ := HR4.out.binds HS4.out.size
                      rw [HLE.out] at hbd
                      have hsu := subst_any (L ++ M) t k0 n0 m0 a cap ra rc U4 BXb.out.says (BXb.out.later HS4.out).ty hbd (by rw [List.length_append]; have := L1.out; have := G1.out; omega) (by have := HST.out; omega) (fun x hx => by rcases List.mem_append.1 hx with hx | hx; (have := L2.out x hx; omega); (have := G2.out x hx; omega))
                      rw [← HEL.out, ← hrv] at hsu
                      have HSU := Lib.hid hsu
                      clear hsu hbd hrv
                      go_simp
                      refine HSU.out.mono ?_
                      rintro e U5 ⟨hb, hcase⟩
                      obtain ⟨_, sa, sc, rfl, ht⟩ := hcase.resolve_right (fun h => by have h1 := h.1; rw [HSKT.out] at h1; cases h1)
                      rw [HEX.out] at ht ⊢
                      rw [tv_of BZb.out.says]
                      have HK5 := Lib.hid hb
                      have HS5 := Lib.hid (Go.RowKit.Below.tr HS4.out hb (Nat.le_refl _))
                      have HTY := Lib.hid ht
                      clear hb ht hcase HSU
                      dsimp only
                      have HZB := Lib.hid ((HK5.out.block _ HLB.out).trans HZB.out)
                      have HLB := Lib.hid (Nat.lt_of_lt_of_le HLB.out HK5.out.size)
                      refine hK.out _ _ HS5.out (fun _ => ?_)
                      clear hK K
                      try simp only [Act.put, List.setIfInBounds_toArray, List.set_cons_zero, List.set_cons_succ]
                      refine wpAnyH_take (i := 7) (oi := ⟨some 69, _, _, _, _, _⟩) (v := ?_) rfl (by kernel_rfl) (by kernel_rfl) (by kernel_rfl) (fun _ _ _ h => h) (Or.inl ⟨by rfl, ?_⟩) HS5.out ?_
                      rotate_left
                      · (intro xx hSw; obtain ⟨c0, c1, c2⟩ := HCELL.out _ hSw; go_simp; (try with_reducible rfl))
                      try simp only [Act.put, List.setIfInBounds_toArray, List.set_cons_zero, List.set_cons_succ]
                      refine wpAnyH_take (i := 8) (oi := ⟨some 77, _, _, _, _, _⟩) (v := ?_) rfl (by kernel_rfl) (by kernel_rfl) (by kernel_rfl) (fun _ _ _ h => h) (Or.inl ⟨by rfl, ?_⟩) HS5.out ?_
                      rotate_left
                      · (intro xx hSw; obtain ⟨c0, c1, c2⟩ := HCELL.out _ hSw; go_simp; (try with_reducible rfl))
                      try simp only [Act.put, List.setIfInBounds_toArray, List.set_cons_zero, List.set_cons_succ]
                      refine wpAnyH_take (i := 9) (oi := ⟨some 78, _, _, _, _, _⟩) (v := ?_) rfl (by kernel_rfl) (by kernel_rfl) (by kernel_rfl) (fun _ _ _ h => h) (Or.inl ⟨by rfl, ?_⟩) HS5.out ?_
                      rotate_left
                      · (intro xx hSw; obtain ⟨c0, c1, c2⟩ := HCELL.out _ hSw; go_simp; (try with_reducible rfl))
                      try simp only [Act.put, List.setIfInBounds_toArray, List.set_cons_zero, List.set_cons_succ]
                      have hpb := put_box (F := _) (bb := U0.heap.size) BZb.out.says (kids_right HXR.out) HZB.out HTY.out HS5.out HBB.out rfl
                      obtain ⟨z0, z1, z2, z3, z4, z5⟩ := zero_facts HZB.out
                      have HPB := Lib.hid hpb
                      refine wpAnyH_ready (rs := [11]) (by kernel_rfl) (by simp) ?_
                      refine AllReadyH.cons (o := ⟨none, _, _, _, _, _⟩) rfl (fun K hK => ?_) AllReadyH.nil
                      go_simp
                      refine hK.out _ _ hpb.2 (fun _ => ?_)
                      clear hK K
                      try simp only [Act.put, List.setIfInBounds_toArray, List.set_cons_zero, List.set_cons_succ]
                      refine wpAnyH_take (i := 12) (oi := ⟨some 13, _, _, _, _, _⟩) (v := ?_) rfl (by kernel_rfl) (by kernel_rfl) (by kernel_rfl) (fun _ _ _ h => h) (Or.inl ⟨by rfl, ?_⟩) hpb.2 ?_
                      rotate_left
                      · (intro xx hSw; obtain ⟨c0, c1, c2⟩ := HCELL.out _ hSw; go_simp; (try with_reducible rfl))
                      try simp only [Act.put, List.setIfInBounds_toArray, List.set_cons_zero, List.set_cons_succ]
                      refine wpAnyH_done (by kernel_rfl) ?_ _
                      go_wp2_with fail
                      go_meet
                      case rel => exact ⟨_, _, _, rfl, rfl, HPB.out.1, HPB.out.2⟩
                  case rest =>
                  obtain ⟨bb, sa, sc, rfl, rfl, bw, hb⟩ := hcut
                  have BW := Lib.hid bw; have BXc := Lib.hid (BXb.out.later hb); have BZc := Lib.hid (BZb.out.later hb); have HBc := Lib.hid (HBb.out.tr hb (Nat.le_refl _))
                  clear bw hb
                  go_upto_region 11 with fail
                  obtain ⟨c0, c1, c2⟩ := BXc.out.cells
                  have hsb := subst_any [] t k0 n0 m0 a cap none 0 wc BXc.out.says BXc.out.ty (fun i hi => by simp at hi) (by simp) (by have := HST.out; omega) (fun x hx => by cases hx)
                  have HSN := Lib.hid hsb
                  have HSK0 := Lib.hid (show sokL t [] = true by unfold sokL; rw [HZ.out]; rfl)
                  clear hsb
                  go_wp2_with fail
                  refine HSN.out.mono ?_
                  clear c0 c1 c2
                  rintro e v5 ⟨hb, hcase⟩
                  obtain ⟨_, na, nc, rfl, ht⟩ := hcase.resolve_right (fun h => by have h1 := h.1; rw [HSK0.out] at h1; cases h1)
                  rw [Tp.sub_nil] at ht ⊢
                  rw [tv_of BXc.out.says]
                  obtain ⟨V5, hV5⟩ : ∃ W, v5.alloc (.cells #[.int .i64 k0, .int .i64 n0, .slice na m0 nc] 24) = W := ⟨_, rfl⟩
                  obtain ⟨bn, hb5⟩ := box_new BXc.out.says ht hV5
                  have hd5 := hb.tr hb5 (Nat.le_refl _)
                  have BXd := Lib.hid (BXc.out.later hd5); have BZd := Lib.hid (BZc.out.later hd5); have BWd := Lib.hid (BW.out.later hd5); have BN := Lib.hid bn; have HBd := Lib.hid (HBc.out.tr hd5 (Nat.le_refl _)); have HV5 := Lib.hid hV5
                  clear hb ht hcase bn hb5 hV5 hd5
                  go_upto_region 12 with fail
                  rw [HV5.out]
                  have hk1 := fun y (h : Below V5.heap.size V5 y) => ks_any (w := y) (BZd.out.later h).says (BWd.out.later h).says (BZd.out.later h).ty (BWd.out.later h).ty
                  have hk2 := fun y (h : Below V5.heap.size V5 y) => ks_any (w := y) (BN.out.later h).says (BXd.out.later h).says (BN.out.later h).ty (BXd.out.later h).ty
                  simp only [Tp.same_refl] at hk1 hk2
                  have HK1 := Lib.hid hk1; have HK2 := Lib.hid hk2; have HE := Lib.hid (Below.refl V5.heap.size V5)
                  have HCL := Lib.hid (fun y (h : Below V5.heap.size V5 y) => (⟨(BZd.out.later h).cells, (BWd.out.later h).cells, (BN.out.later h).cells, (BXd.out.later h).cells⟩ : _ ∧ _ ∧ _ ∧ _))
                  clear hk1 hk2
                  obtain ⟨⟨c0, c1, c2⟩, ⟨d0, d1, d2⟩, ⟨e0, e1, e2⟩, ⟨g0, g1, g2⟩⟩ := HCL.out _ HE.out
                  go_wp2_with (first | (go_at_call 17; (first | with_reducible refine (HK1.out _ HE.out).mono ?_ | with_reducible refine (HK2.out _ HE.out).mono ?_); clear c0 c1 c2 d0 d1 d2 e0 e1 e2 g0 g1 g2; rintro e xw ⟨rfl, hb⟩; have HE := Lib.hid (HE.out.tr hb (Nat.le_refl _)); clear hb; obtain ⟨⟨c0, c1, c2⟩, ⟨d0, d1, d2⟩, ⟨e0, e1, e2⟩, ⟨g0, g1, g2⟩⟩ := HCL.out _ HE.out) | (go_at_call 22; (with_reducible refine (wakes11_any _).mono ?_); rintro e xw ⟨rfl, hb⟩; have HE := Lib.hid (HE.out.tr hb (Nat.le_refl _)); clear hb))
                  go_ret
                  exact ⟨rfl, HBd.out.tr HE.out (Nat.le_refl _)⟩
end Go.Proofs.Ytncdbbjkafgphaa
namespace Go.Proofs.Ytncdbbjkafgphaa.schemeTwice
open Go Go.ChangeShapes Go.WideShapes Go.ChangeAt Go.RowKit

set_option maxRecDepth 100000 in
theorem lifted (os : Os) (started : os.Started) (H : Type) (enc : TypeId × Value → H) :
    ReturnsInHanded {} Try.checked os 8 .any (Rows.schemeTwiceSpec.pre6 enc Try.prog Try.f8 Rows.schemeTwiceRow.domain false) (Rows.schemeTwiceSpec.post enc Try.prog Try.f8 false true false false) := by
  refine returnsInHanded_of_change (C := Try.checked) ownK started (by kernel_rfl) Try.func8
    (ChangeSpec.witness6 (enc := enc) (C := Try.checked) false ⟨#[], #[.agg #[.int .i64 0, .int .i64 0, .slice none 0 0], .slice none 0 0, .slice none 0 0], []⟩ 8 (by kernel_rfl) (by kernel_rfl) (by kernel_rfl) (by kernel_rfl)) ?_
  intro W base args ds gs before hval0 hW hcnd _
  clear hcnd
  have hval : ∀ (j : Nat) t v, Try.f8.params[j]? = some t → args[j]? = some v → Value.okWide Try.prog W .any base t v := hval0
  have hW' := hW
  obtain ⟨p, q, hA0, hV, rfl, hfz, hnd⟩ := hW
  have hA : DataW.TrodAll enc Try.prog W 0 (fun _ => true) true Try.f8.params.toList args.toList ds p := hA0
  rw [Try.params8] at hA hval
  obtain ⟨v0, vs0, d0, ds0, p0, q0, hargs, rfl, rfl, h0, r0⟩ := trodAll_cons hA
  obtain ⟨v1, vs1, d1, ds1, p1, q1, rfl, rfl, rfl, h1, r1⟩ := trodAll_cons r0
  obtain ⟨v2, vs2, d2, ds2, p2, q2, rfl, rfl, rfl, h2, r2⟩ := trodAll_cons r1
  obtain ⟨rfl, rfl, rfl⟩ := trodAll_nil r2
  obtain rfl : args = #[v0, v1, v2] := by cases args; simp_all
  obtain ⟨rfl, rfl⟩ := trodVars_none hV
  have hk0 := h0
  obtain ⟨t0, a0, cap0, rfl, ht0⟩ := open_ty (hval 0 24 v0 rfl rfl) h0
  have hk1 := h1
  obtain ⟨l1, a1, m1, cap1, rfl, ht1⟩ := open_binds (hval 1 25 v1 rfl rfl) h1
  have hk2 := h2
  obtain ⟨l2, a2, m2, cap2, rfl, ht2⟩ := open_binds (hval 2 25 v2 rfl rfl) h2
  clear hA0 hval0
  simp only [List.append_nil] at hW'
  have hlt0 : ∀ x ∈ p0, x.block < W.heap.size := fun x hx => hW'.lt x (by simp [hx])
  have hlt1 : ∀ x ∈ p1, x.block < W.heap.size := fun x hx => hW'.lt x (by simp [hx])
  have hlt2 : ∀ x ∈ p2, x.block < W.heap.size := fun x hx => hW'.lt x (by simp [hx])
  refine (ltwice11_any t0 a0 cap0 l1 a1 m1 cap1 l2 a2 m2 cap2 W  ht0 ht1 ht2).mono fun e W' ⟨he, hb⟩ => ?_
  subst he
  refine ⟨_, rfl, _, _, _, [], p0 ++ (p1 ++ (p2 ++ [])), [], hW', ?_, ?_, rfl, hb.frame _, fun h => by cases h⟩
  · exact trodAll_cons_mk (shut_bool Try.underlying4 _) trodAll_mk0
  · exact (trodAll_cons_mk (Below.trod laidOut (by kernel_rfl) (of_decide_eq_true (by kernel_rfl)) hk0 hb hlt0) (trodAll_cons_mk (Below.trod laidOut (by kernel_rfl) (of_decide_eq_true (by kernel_rfl)) hk1 hb hlt1) (trodAll_cons_mk (Below.trod laidOut (by kernel_rfl) (of_decide_eq_true (by kernel_rfl)) hk2 hb hlt2) trodAll_mk0)))

theorem said : Rows.SchemeTwiceSaid :=
  OpenClaim.holds_of_wide 8 Try.f8 rfl rfl rfl rfl rfl rfl rfl ⟨rfl, rfl, rfl, rfl, rfl⟩ rfl rfl rfl rfl rfl (by kernel_rfl) Try.func8 (by kernel_rfl)
    (of_decide_eq_true (by kernel_rfl)) (by unfold Func.isWrapper; first | (rw [if_pos (by decide +kernel)]; kernel_rfl) | (rw [if_neg (by decide +kernel)]; exact ⟨rfl, rfl⟩))
    (fun os started H enc _ => lifted os started H enc)
#print axioms said
end Go.Proofs.Ytncdbbjkafgphaa.schemeTwice
