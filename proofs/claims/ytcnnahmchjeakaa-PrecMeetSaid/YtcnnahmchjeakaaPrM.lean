/- The law PrecMeet: its walk. -/
import Derived.Test.YtcnnahmchjeakaaPrT
namespace Go.Proofs.Ytcnnahmchjeakaa
open Go Go.RowKit
open Tp (T)

theorem meet9 {t u v : T} (ht : Tp.right t = true) (hu : Tp.right u = true) (hv : Tp.right v = true) (wt : Tp.without 6 t = true) (wu : Tp.without 6 u = true) :
    (Tp.ok t u = false → (Tp.bl v t && Tp.bl v u) = false) ∧ (Tp.ok t u = true → Tp.bl (Mt t u) t = true ∧ Tp.bl (Mt t u) u = true ∧ (Tp.bl v t && Tp.bl v u) = Tp.bl v (Mt t u)) := by
  have e : Tp.ok t u = Tp.agree t u := by unfold Tp.ok; rw [ht, hu]; rfl
  rw [bl_right hv ht, bl_right hv hu]
  have hboth := fun h1 h2 => Tp.below_both v t u hv ht hu wt wu h1 h2
  refine ⟨fun h => ?_, fun h => ?_⟩
  · rw [e] at h
    cases h1 : Tp.below v t with
    | false => rfl
    | true =>
      cases h2 : Tp.below v u with
      | false => rfl
      | true => have := (hboth h1 h2).1; rw [h] at this; cases this
  · have hg : Tp.agree t u = true := by rw [← e]; exact h
    have hm : Mt t u = Tp.meet t u := by unfold Mt; rw [if_pos h]
    have hr : Tp.right (Tp.meet t u) = true := Tp.meet_right t u ht hu hg
    have b1 := Tp.meet_below t u ht hu hg
    have hg' : Tp.agree u t = true := by rw [Tp.agree_comm u t hu ht]; exact hg
    have b2 : Tp.below (Tp.meet t u) u = true := by rw [Tp.meet_comm t u ht hu hg]; exact Tp.meet_below u t hu ht hg'
    rw [hm, bl_right hr ht, bl_right hr hu, bl_right hv hr]
    refine ⟨b1, b2, ?_⟩
    cases h3 : Tp.below v (Tp.meet t u) with
    | true => rw [Tp.below_trans v _ t hv hr ht h3 b1, Tp.below_trans v _ u hv hr hu h3 b2]; rfl
    | false =>
      cases h1 : Tp.below v t with
      | false => rfl
      | true =>
        cases h2 : Tp.below v u with
        | false => rfl
        | true => have := (hboth h1 h2).2; rw [h3] at this; cases this

set_option maxRecDepth 100000 in
set_option maxHeartbeats 8000000 in
theorem lmeet9_any (t : T) (a : Option Addr) (cap : Nat) (u : T) (b : Option Addr) (cap' : Nat) (v : T) (d : Option Addr) (cap2 : Nat) (w : World) (hty : TyAt (LT w.heap.size) w t a cap) (hty' : TyAt (LT w.heap.size) w u b cap') (hty2 : TyAt (LT w.heap.size) w v d cap2) :
    Calls Try.prog 5 #[tv t a cap, tv u b cap', tv v d cap2] w fun e w' => e = .returned (.bool true) ∧ Below w.heap.size w w' := by
  obtain ⟨k0, n0, m0, hv⟩ := TV.mk t
  obtain ⟨k9, n9, m9, hv'⟩ := TV.mk u
  obtain ⟨k8, n8, m8, hv2⟩ := TV.mk v
  rw [tv_of hv, tv_of hv', tv_of hv2]
  obtain ⟨W3, hW3⟩ : ∃ W, ((w.alloc (.cells #[.int .i64 k0, .int .i64 n0, .slice a m0 cap] 24)).alloc (.cells #[.int .i64 k9, .int .i64 n9, .slice b m9 cap'] 24)).alloc (.cells #[.int .i64 k8, .int .i64 n8, .slice d m8 cap2] 24) = W := ⟨_, rfl⟩
  obtain ⟨bx, bu, bv, hb3⟩ := box_three hv hv' hv2 hty hty' hty2 hW3
  obtain ⟨rr, hrr⟩ : ∃ r, (!decide (600 < Tp.sizes [t, u, v]) && Tp.rights [t, u, v]) = r := ⟨_, rfl⟩
  have hri := lright_any [t, u, v] (some ⟨W3.heap.size, 0, none⟩) 3 _ (by simp) (row_three bx.says bu.says bv.says bx.ty bu.ty bv.ty)
  rw [hrr] at hri
  obtain ⟨wt, hwt⟩ : ∃ r, Tp.without 6 t = r := ⟨_, rfl⟩
  obtain ⟨wu, hwu⟩ : ∃ r, Tp.without 6 u = r := ⟨_, rfl⟩
  have HWT := Lib.hid (fun x (h : Below W3.heap.size W3 x) => wo_any (w := x) 6 (bx.later h).says (bx.later h).ty)
  have HWU := Lib.hid (fun x (h : Below W3.heap.size W3 x) => wo_any (w := x) 6 (bu.later h).says (bu.later h).ty)
  rw [hwt] at HWT; rw [hwu] at HWU
  have HRI := Lib.hid hri; have HRR := Lib.hid hrr; have HB3 := Lib.hid hb3; have HW3 := Lib.hid hW3; have BX := Lib.hid bx; have BU := Lib.hid bu; have BV := Lib.hid bv; have HWT' := Lib.hid hwt; have HWU' := Lib.hid hwu
  have HCEL3 := Lib.hid (fun x (h : Below W3.heap.size W3 x) => (⟨(bx.later h).cells, (bu.later h).cells, (bv.later h).cells⟩ : _ ∧ _ ∧ _))
  clear hri hrr hb3 hW3 hty hty' hty2 hv hv' hv2 hwt hwu
  go_enter Try.func5, Try.ntmps5
  go_upto_region 1 with fail
  rw [HW3.out]
  obtain ⟨c0, c1, c2⟩ := bx.cells
  obtain ⟨d0, d1, d2⟩ := bu.cells
  obtain ⟨e0, e1, e2⟩ := bv.cells
  clear bx bu bv
  cases rr with
  | false =>
    go_wp2_with (go_at_call 18; refine HRI.out.mono ?_; clear c0 c1 c2 d0 d1 d2 e0 e1 e2; rintro e w4 ⟨rfl, hb⟩; have HB4 := Lib.hid (Go.RowKit.Below.tr ((Below.refl W3.heap.size W3).alloc (Nat.le_refl _) _) hb (Nat.le_refl _)); clear hb)
    go_ret
    exact ⟨rfl, HB3.out.tr HB4.out (Nat.le_refl _)⟩
  | true =>
    cases wt with
    | false =>
      go_wp2_with (first | (go_at_call 18; refine HRI.out.mono ?_; clear c0 c1 c2 d0 d1 d2 e0 e1 e2; rintro e w4 ⟨rfl, hb⟩; have HB4 := Lib.hid (Go.RowKit.Below.tr ((Below.refl W3.heap.size W3).alloc (Nat.le_refl _) _) hb (Nat.le_refl _)); clear hb; obtain ⟨⟨c0, c1, c2⟩, ⟨d0, d1, d2⟩, -⟩ := HCEL3.out _ HB4.out) | (go_at_call 20; with_reducible refine (HWT.out _ HB4.out).mono ?_; clear c0 c1 c2 d0 d1 d2; rintro e w5 ⟨rfl, hb⟩; have HB5 := Lib.hid (HB4.out.tr hb (Nat.le_refl _)); clear hb; obtain ⟨⟨c0, c1, c2⟩, ⟨d0, d1, d2⟩, -⟩ := HCEL3.out _ HB5.out))
      go_ret
      exact ⟨rfl, HB3.out.tr HB5.out (Nat.le_refl _)⟩
    | true =>
      cases wu with
      | false =>
        go_wp2_with (first | (go_at_call 18; refine HRI.out.mono ?_; clear c0 c1 c2 d0 d1 d2 e0 e1 e2; rintro e w4 ⟨rfl, hb⟩; have HB4 := Lib.hid (Go.RowKit.Below.tr ((Below.refl W3.heap.size W3).alloc (Nat.le_refl _) _) hb (Nat.le_refl _)); clear hb; obtain ⟨⟨c0, c1, c2⟩, ⟨d0, d1, d2⟩, -⟩ := HCEL3.out _ HB4.out) | (go_at_call 20; with_reducible refine (HWT.out _ HB4.out).mono ?_; clear c0 c1 c2 d0 d1 d2; rintro e w5 ⟨rfl, hb⟩; have HB5 := Lib.hid (HB4.out.tr hb (Nat.le_refl _)); clear hb; obtain ⟨⟨c0, c1, c2⟩, ⟨d0, d1, d2⟩, -⟩ := HCEL3.out _ HB5.out) | (go_at_call 20; with_reducible refine (HWU.out _ HB5.out).mono ?_; clear c0 c1 c2 d0 d1 d2; rintro e w6 ⟨rfl, hb⟩; have HB6 := Lib.hid (HB5.out.tr hb (Nat.le_refl _)); clear hb))
        go_ret
        exact ⟨rfl, HB3.out.tr HB6.out (Nat.le_refl _)⟩
      | true =>
        go_upto_region 3 with (first | (go_at_call 18; refine HRI.out.mono ?_; clear c0 c1 c2 d0 d1 d2 e0 e1 e2; rintro e w4 ⟨rfl, hb⟩; have HB4 := Lib.hid (Go.RowKit.Below.tr ((Below.refl W3.heap.size W3).alloc (Nat.le_refl _) _) hb (Nat.le_refl _)); clear hb; obtain ⟨⟨c0, c1, c2⟩, ⟨d0, d1, d2⟩, -⟩ := HCEL3.out _ HB4.out) | (go_at_call 20; with_reducible refine (HWT.out _ HB4.out).mono ?_; clear c0 c1 c2 d0 d1 d2; rintro e w5 ⟨rfl, hb⟩; have HB5 := Lib.hid (HB4.out.tr hb (Nat.le_refl _)); clear hb; obtain ⟨⟨c0, c1, c2⟩, ⟨d0, d1, d2⟩, -⟩ := HCEL3.out _ HB5.out) | (go_at_call 20; with_reducible refine (HWU.out _ HB5.out).mono ?_; clear c0 c1 c2 d0 d1 d2; rintro e w6 ⟨rfl, hb⟩; have HB6 := Lib.hid (HB5.out.tr hb (Nat.le_refl _)); clear hb))
        obtain ⟨hrt, hru, hrv, hsz⟩ := trip_right HRR.out
        have HST := Lib.hid (show Tp.size t ≤ 10000 by omega); have HSU := Lib.hid (show Tp.size u ≤ 10000 by omega); have HSV := Lib.hid (show Tp.size v ≤ 10000 by omega)
        have hm9 := meet9 hrt hru hrv HWT'.out HWU'.out
        have hms : Tp.size (Mt t u) ≤ 10000 := by
          cases ho : Tp.ok t u with
          | true =>
            have h3 := (ok_parts ho).2.2
            have h4 := (Tp.meet_size t u hrt hru h3).2.2
            have hm : Mt t u = Tp.meet t u := by unfold Mt; rw [if_pos ho]
            rw [hm]; omega
          | false =>
            have hm : Mt t u = .mk 0 0 [] := by unfold Mt; rw [ho]; rfl
            rw [hm]; simp [Tp.size, Tp.sizes]
        have HM9 := Lib.hid hm9; have HMS := Lib.hid hms
        have bx6 := BX.out.later HB6.out; have bu6 := BU.out.later HB6.out; have bv6 := BV.out.later HB6.out
        have HBb := Lib.hid (HB3.out.tr HB6.out (Nat.le_refl _))
        have BX6 := Lib.hid bx6; have BU6 := Lib.hid bu6; have BV6 := Lib.hid bv6
        clear hrt hru hrv hsz hm9 hms
        obtain ⟨c0, c1, c2⟩ := bx6.cells
        obtain ⟨d0, d1, d2⟩ := bu6.cells
        clear bx6 bu6 bv6
        go_wp2_with fail
        refine (mt_any BX6.out.says BU6.out.says BX6.out.ty BU6.out.ty HST.out HSU.out).mono ?_
        clear c0 c1 c2 d0 d1 d2
        rintro e w7 ⟨k1, n1, m1, a1, p1, hv1, rfl, ty1, hb⟩
        obtain ⟨W8, hW8⟩ : ∃ W5, w7.alloc (.cells #[.int .i64 k1, .int .i64 n1, .slice a1 m1 p1] 24) = W5 := ⟨_, rfl⟩
        obtain ⟨bm, hb8⟩ := box_new hv1 ty1 hW8
        have hbb := hb.tr hb8 (Nat.le_refl _)
        have bx8 := BX6.out.later hbb; have bu8 := BU6.out.later hbb; have bv8 := BV6.out.later hbb; have HB8 := Lib.hid (HBb.out.tr hbb (Nat.le_refl _)); have HW8 := Lib.hid hW8
        have HVT := Lib.hid (fun x (h : Below W8.heap.size W8 x) => bl_any (w := x) (bv8.later h).says (bx8.later h).says (bv8.later h).ty (bx8.later h).ty HSV.out HST.out)
        have HVU := Lib.hid (fun x (h : Below W8.heap.size W8 x) => bl_any (w := x) (bv8.later h).says (bu8.later h).says (bv8.later h).ty (bu8.later h).ty HSV.out HSU.out)
        have HVM := Lib.hid (fun x (h : Below W8.heap.size W8 x) => bl_any (w := x) (bv8.later h).says (bm.later h).says (bv8.later h).ty (bm.later h).ty HSV.out HMS.out)
        have HMT := Lib.hid (fun x (h : Below W8.heap.size W8 x) => bl_any (w := x) (bm.later h).says (bx8.later h).says (bm.later h).ty (bx8.later h).ty HMS.out HST.out)
        have HMU := Lib.hid (fun x (h : Below W8.heap.size W8 x) => bl_any (w := x) (bm.later h).says (bu8.later h).says (bm.later h).ty (bu8.later h).ty HMS.out HSU.out)
        have HWAK := Lib.hid (fun x (_ : Below W8.heap.size W8 x) => wakes9_any x)
        have HCELL := Lib.hid (fun x (h : Below W8.heap.size W8 x) => (⟨(bx8.later h).cells, (bu8.later h).cells, (bv8.later h).cells, (bm.later h).cells⟩ : _ ∧ _ ∧ _ ∧ _))
        have HLE := Lib.hid (fun x (h : Below W8.heap.size W8 x) => h.size)
        obtain ⟨vt, hvt⟩ : ∃ b, Tp.bl v t = b := ⟨_, rfl⟩
        obtain ⟨vu, hvu⟩ : ∃ b, Tp.bl v u = b := ⟨_, rfl⟩
        obtain ⟨vm, hvm⟩ : ∃ b, Tp.bl v (Mt t u) = b := ⟨_, rfl⟩
        obtain ⟨o, ho⟩ : ∃ b, Tp.ok t u = b := ⟨_, rfl⟩
        have hm9 := HM9.out
        rw [hvt, hvu, hvm, ho] at hm9
        rw [hvt] at HVT; rw [hvu] at HVU; rw [hvm] at HVM
        rw [ho]
        have HM10 := Lib.hid hm9
        clear hb ty1 hv1 hW8 bm hb8 hbb bx8 bu8 bv8 hvt hvu hvm ho hm9 HM9
        go_upto_region 4 with fail
        rw [HW8.out]
        have HBd := Lib.hid (Below.refl W8.heap.size W8)
        cases o with
        | false =>
          have hno := HM10.out.1 rfl
          obtain ⟨⟨c0, c1, c2⟩, ⟨d0, d1, d2⟩, ⟨e0, e1, e2⟩, ⟨g0, g1, g2⟩⟩ := HCELL.out _ HBd.out
          cases vt with
          | false =>
            clear hno
            go_wp2_with (first | (go_at_call 14; (first | with_reducible refine (HVT.out _ HBd.out).mono ?_ | with_reducible refine (HVU.out _ HBd.out).mono ?_); clear c0 c1 c2 d0 d1 d2 e0 e1 e2 g0 g1 g2; rintro e xw ⟨rfl, hb⟩; have HBd := Lib.hid (HBd.out.tr hb (Nat.le_refl _)); clear hb; obtain ⟨⟨c0, c1, c2⟩, ⟨d0, d1, d2⟩, ⟨e0, e1, e2⟩, ⟨g0, g1, g2⟩⟩ := HCELL.out _ HBd.out) | (go_at_call 17; with_reducible refine (HWAK.out _ HBd.out).mono ?_; clear c0 c1 c2 d0 d1 d2 e0 e1 e2 g0 g1 g2; rintro e xw ⟨rfl, hb⟩; have HBd := Lib.hid (HBd.out.tr hb (Nat.le_refl _)); clear hb))
            go_ret
            exact ⟨rfl, HB8.out.tr HBd.out (Nat.le_refl _)⟩
          | true =>
            cases vu with
            | true => exact absurd hno (by decide)
            | false =>
              clear hno
              go_wp2_with (first | (go_at_call 14; (first | with_reducible refine (HVT.out _ HBd.out).mono ?_ | with_reducible refine (HVU.out _ HBd.out).mono ?_); clear c0 c1 c2 d0 d1 d2 e0 e1 e2 g0 g1 g2; rintro e xw ⟨rfl, hb⟩; have HBd := Lib.hid (HBd.out.tr hb (Nat.le_refl _)); clear hb; obtain ⟨⟨c0, c1, c2⟩, ⟨d0, d1, d2⟩, ⟨e0, e1, e2⟩, ⟨g0, g1, g2⟩⟩ := HCELL.out _ HBd.out) | (go_at_call 17; with_reducible refine (HWAK.out _ HBd.out).mono ?_; clear c0 c1 c2 d0 d1 d2 e0 e1 e2 g0 g1 g2; rintro e xw ⟨rfl, hb⟩; have HBd := Lib.hid (HBd.out.tr hb (Nat.le_refl _)); clear hb))
              go_ret
              exact ⟨rfl, HB8.out.tr HBd.out (Nat.le_refl _)⟩
        | true =>
          obtain ⟨hy1, hy2, hy3⟩ := HM10.out.2 rfl
          rw [hy1] at HMT; rw [hy2] at HMU
          obtain ⟨⟨c0, c1, c2⟩, ⟨d0, d1, d2⟩, ⟨e0, e1, e2⟩, ⟨g0, g1, g2⟩⟩ := HCELL.out _ HBd.out
          cases vt with
          | false =>
            obtain rfl : false = vm := hy3
            clear hy1 hy2
            go_wp2_with (first | (go_at_call 14; (first | with_reducible refine (HVT.out _ HBd.out).mono ?_ | with_reducible refine (HVU.out _ HBd.out).mono ?_ | with_reducible refine (HMT.out _ HBd.out).mono ?_ | with_reducible refine (HMU.out _ HBd.out).mono ?_ | with_reducible refine (HVM.out _ HBd.out).mono ?_); clear c0 c1 c2 d0 d1 d2 e0 e1 e2 g0 g1 g2; rintro e xw ⟨rfl, hb⟩; have HBd := Lib.hid (HBd.out.tr hb (Nat.le_refl _)); clear hb; obtain ⟨⟨c0, c1, c2⟩, ⟨d0, d1, d2⟩, ⟨e0, e1, e2⟩, ⟨g0, g1, g2⟩⟩ := HCELL.out _ HBd.out) | (go_at_call 17; with_reducible refine (HWAK.out _ HBd.out).mono ?_; clear c0 c1 c2 d0 d1 d2 e0 e1 e2 g0 g1 g2; rintro e xw ⟨rfl, hb⟩; have HBd := Lib.hid (HBd.out.tr hb (Nat.le_refl _)); clear hb))
            go_ret
            exact ⟨rfl, HB8.out.tr HBd.out (Nat.le_refl _)⟩
          | true =>
            cases vu with
            | false =>
              obtain rfl : false = vm := hy3
              clear hy1 hy2
              go_wp2_with (first | (go_at_call 14; (first | with_reducible refine (HVT.out _ HBd.out).mono ?_ | with_reducible refine (HVU.out _ HBd.out).mono ?_ | with_reducible refine (HMT.out _ HBd.out).mono ?_ | with_reducible refine (HMU.out _ HBd.out).mono ?_ | with_reducible refine (HVM.out _ HBd.out).mono ?_); clear c0 c1 c2 d0 d1 d2 e0 e1 e2 g0 g1 g2; rintro e xw ⟨rfl, hb⟩; have HBd := Lib.hid (HBd.out.tr hb (Nat.le_refl _)); clear hb; obtain ⟨⟨c0, c1, c2⟩, ⟨d0, d1, d2⟩, ⟨e0, e1, e2⟩, ⟨g0, g1, g2⟩⟩ := HCELL.out _ HBd.out) | (go_at_call 17; with_reducible refine (HWAK.out _ HBd.out).mono ?_; clear c0 c1 c2 d0 d1 d2 e0 e1 e2 g0 g1 g2; rintro e xw ⟨rfl, hb⟩; have HBd := Lib.hid (HBd.out.tr hb (Nat.le_refl _)); clear hb))
              go_ret
              exact ⟨rfl, HB8.out.tr HBd.out (Nat.le_refl _)⟩
            | true =>
              obtain rfl : true = vm := hy3
              clear hy1 hy2
              go_wp2_with (first | (go_at_call 14; (first | with_reducible refine (HVT.out _ HBd.out).mono ?_ | with_reducible refine (HVU.out _ HBd.out).mono ?_ | with_reducible refine (HMT.out _ HBd.out).mono ?_ | with_reducible refine (HMU.out _ HBd.out).mono ?_ | with_reducible refine (HVM.out _ HBd.out).mono ?_); clear c0 c1 c2 d0 d1 d2 e0 e1 e2 g0 g1 g2; rintro e xw ⟨rfl, hb⟩; have HBd := Lib.hid (HBd.out.tr hb (Nat.le_refl _)); clear hb; obtain ⟨⟨c0, c1, c2⟩, ⟨d0, d1, d2⟩, ⟨e0, e1, e2⟩, ⟨g0, g1, g2⟩⟩ := HCELL.out _ HBd.out) | (go_at_call 17; with_reducible refine (HWAK.out _ HBd.out).mono ?_; clear c0 c1 c2 d0 d1 d2 e0 e1 e2 g0 g1 g2; rintro e xw ⟨rfl, hb⟩; have HBd := Lib.hid (HBd.out.tr hb (Nat.le_refl _)); clear hb))
              go_ret
              exact ⟨rfl, HB8.out.tr HBd.out (Nat.le_refl _)⟩
end Go.Proofs.Ytcnnahmchjeakaa
