/- The law SubOrder: its walk. -/
import Derived.Test.YtafekidkikfpcaaSbK
namespace Go.Proofs.Ytafekidkikfpcaa
open Go Go.RowKit
open Tp (T Md)

set_option maxRecDepth 100000 in
set_option maxHeartbeats 8000000 in
theorem lorder10_any (t : T) (a : Option Addr) (cap : Nat) (u : T) (b : Option Addr) (cap' : Nat) (v : T) (d : Option Addr) (cap2 : Nat) (w : World) (hty : TyAt (LT w.heap.size) w t a cap) (hty' : TyAt (LT w.heap.size) w u b cap') (hty2 : TyAt (LT w.heap.size) w v d cap2) :
    Calls Try.prog 6 #[tv t a cap, tv u b cap', tv v d cap2] w fun e w' => e = .returned (.bool true) ∧ Below w.heap.size w w' := by
  obtain ⟨k0, n0, m0, hv⟩ := TV.mk t
  obtain ⟨k9, n9, m9, hv'⟩ := TV.mk u
  obtain ⟨k8, n8, m8, hv2⟩ := TV.mk v
  rw [tv_of hv, tv_of hv', tv_of hv2]
  obtain ⟨W3, hW3⟩ : ∃ W, ((w.alloc (.cells #[.int .i64 k0, .int .i64 n0, .slice a m0 cap] 24)).alloc (.cells #[.int .i64 k9, .int .i64 n9, .slice b m9 cap'] 24)).alloc (.cells #[.int .i64 k8, .int .i64 n8, .slice d m8 cap2] 24) = W := ⟨_, rfl⟩
  obtain ⟨bx, bu, bv, hb3⟩ := box_three hv hv' hv2 hty hty' hty2 hW3
  obtain ⟨rr, hrr⟩ : ∃ r, (!decide (600 < Tp.sizes [t, u, v]) && Tp.rights [t, u, v]) = r := ⟨_, rfl⟩
  have hri := lright_any [t, u, v] (some ⟨W3.heap.size, 0, none⟩) 3 _ (by simp) (row_three bx.says bu.says bv.says bx.ty bu.ty bv.ty)
  rw [hrr] at hri
  have HRI := Lib.hid hri; have HRR := Lib.hid hrr; have HB3 := Lib.hid hb3; have HW3 := Lib.hid hW3; have BX := Lib.hid bx; have BU := Lib.hid bu; have BV := Lib.hid bv
  clear hri hrr hb3 hW3 hty hty' hty2 hv hv' hv2
  go_enter Try.func6, Try.ntmps6
  go_upto_region 1 with fail
  rw [HW3.out]
  obtain ⟨c0, c1, c2⟩ := bx.cells
  obtain ⟨d0, d1, d2⟩ := bu.cells
  obtain ⟨e0, e1, e2⟩ := bv.cells
  clear bx bu bv
  cases rr with
  | false =>
    go_wp2_with (go_at_call 19; refine HRI.out.mono ?_; clear c0 c1 c2 d0 d1 d2 e0 e1 e2; rintro e w4 ⟨rfl, hb⟩; have HB4 := Lib.hid (Go.RowKit.Below.tr ((Below.refl W3.heap.size W3).alloc (Nat.le_refl _) _) hb (Nat.le_refl _)); clear hb)
    go_ret
    exact ⟨rfl, HB3.out.tr HB4.out (Nat.le_refl _)⟩
  | true =>
    obtain ⟨hrt, hru, hrv, hsz⟩ := trip_right HRR.out
    have hst : Tp.size t ≤ 10000 := by omega
    have hsu : Tp.size u ≤ 10000 := by omega
    have hsv : Tp.size v ≤ 10000 := by omega
    go_upto_region 3 with (go_at_call 19; refine HRI.out.mono ?_; clear c0 c1 c2 d0 d1 d2 e0 e1 e2; rintro e w4 ⟨rfl, hb⟩; have HB4 := Lib.hid (Go.RowKit.Below.tr ((Below.refl W3.heap.size W3).alloc (Nat.le_refl _) _) hb (Nat.le_refl _)); clear hb)
    have bx4 := BX.out.later HB4.out; have bu4 := BU.out.later HB4.out; have bv4 := BV.out.later HB4.out
    have HSS := Lib.hid (fun x (h : Below w4.heap.size w4 x) => sub_any (w := x) (bx4.later h).says (bx4.later h).says (bx4.later h).ty (bx4.later h).ty hst hst)
    have HPP := Lib.hid (fun x (h : Below w4.heap.size w4 x) => pos_any (w := x) (bx4.later h).says (bx4.later h).says (bx4.later h).ty (bx4.later h).ty hst hst)
    have HNN := Lib.hid (fun x (h : Below w4.heap.size w4 x) => neg_any (w := x) (bx4.later h).says (bx4.later h).says (bx4.later h).ty (bx4.later h).ty hst hst)
    have HAB := Lib.hid (fun x (h : Below w4.heap.size w4 x) => sub_any (w := x) (bx4.later h).says (bu4.later h).says (bx4.later h).ty (bu4.later h).ty hst hsu)
    have HBC := Lib.hid (fun x (h : Below w4.heap.size w4 x) => sub_any (w := x) (bu4.later h).says (bv4.later h).says (bu4.later h).ty (bv4.later h).ty hsu hsv)
    have HAC := Lib.hid (fun x (h : Below w4.heap.size w4 x) => sub_any (w := x) (bx4.later h).says (bv4.later h).says (bx4.later h).ty (bv4.later h).ty hst hsv)
    have HBA := Lib.hid (fun x (h : Below w4.heap.size w4 x) => sub_any (w := x) (bu4.later h).says (bx4.later h).says (bu4.later h).ty (bx4.later h).ty hsu hst)
    have HSM := Lib.hid (fun x (h : Below w4.heap.size w4 x) => ks_any (w := x) (bx4.later h).says (bu4.later h).says (bx4.later h).ty (bu4.later h).ty)
    have HWAK := Lib.hid (fun x (_ : Below w4.heap.size w4 x) => wakes10_any x)
    have HCELL := Lib.hid (fun x (h : Below w4.heap.size w4 x) => (⟨(bx4.later h).cells, (bu4.later h).cells, (bv4.later h).cells⟩ : _ ∧ _ ∧ _))
    have f3 := fun h1 h2 => Tp.sub_law_anti hrt hru h1 h2
    have f4 := fun h1 h2 => Tp.sub_law_trans hrt hru hrv h1 h2
    rw [Tp.sub_law_refl hrt] at HSS HPP HNN
    obtain ⟨ab, hab⟩ : ∃ z, Tp.sb .s t u = z := ⟨_, rfl⟩
    obtain ⟨ba, hba⟩ : ∃ z, Tp.sb .s u t = z := ⟨_, rfl⟩
    obtain ⟨bc, hbc⟩ : ∃ z, Tp.sb .s u v = z := ⟨_, rfl⟩
    rw [hab] at HAB f3 f4; rw [hba] at HBA f3; rw [hbc] at HBC f4
    have F3 := Lib.hid f3; have F4 := Lib.hid f4
    clear bx4 bu4 bv4 hrt hru hrv hsz hst hsu hsv f3 f4 hab hba hbc
    have HBd := Lib.hid (Below.refl w4.heap.size w4)
    obtain ⟨⟨c0, c1, c2⟩, ⟨d0, d1, d2⟩, ⟨e0, e1, e2⟩⟩ := HCELL.out _ HBd.out
    cases ab with
    | false =>
      go_wp2_with (first | (go_at_call 15; (first | with_reducible refine (HSS.out _ HBd.out).mono ?_ | with_reducible refine (HAB.out _ HBd.out).mono ?_); clear c0 c1 c2 d0 d1 d2 e0 e1 e2; rintro e xw ⟨rfl, hb⟩; have HBd := Lib.hid (HBd.out.tr hb (Nat.le_refl _)); clear hb; obtain ⟨⟨c0, c1, c2⟩, ⟨d0, d1, d2⟩, ⟨e0, e1, e2⟩⟩ := HCELL.out _ HBd.out) | (go_at_call 12; with_reducible refine (HPP.out _ HBd.out).mono ?_; clear c0 c1 c2 d0 d1 d2 e0 e1 e2; rintro e xw ⟨rfl, hb⟩; have HBd := Lib.hid (HBd.out.tr hb (Nat.le_refl _)); clear hb; obtain ⟨⟨c0, c1, c2⟩, ⟨d0, d1, d2⟩, ⟨e0, e1, e2⟩⟩ := HCELL.out _ HBd.out) | (go_at_call 14; with_reducible refine (HNN.out _ HBd.out).mono ?_; clear c0 c1 c2 d0 d1 d2 e0 e1 e2; rintro e xw ⟨rfl, hb⟩; have HBd := Lib.hid (HBd.out.tr hb (Nat.le_refl _)); clear hb; obtain ⟨⟨c0, c1, c2⟩, ⟨d0, d1, d2⟩, ⟨e0, e1, e2⟩⟩ := HCELL.out _ HBd.out) | (go_at_call 18; with_reducible refine (HWAK.out _ HBd.out).mono ?_; clear c0 c1 c2 d0 d1 d2 e0 e1 e2; rintro e xw ⟨rfl, hb⟩; have HBd := Lib.hid (HBd.out.tr hb (Nat.le_refl _)); clear hb; obtain ⟨⟨c0, c1, c2⟩, ⟨d0, d1, d2⟩, ⟨e0, e1, e2⟩⟩ := HCELL.out _ HBd.out))
      go_ret
      exact ⟨rfl, HB3.out.tr (HB4.out.tr HBd.out (Nat.le_refl _)) (Nat.le_refl _)⟩
    | true =>
      cases ba with
      | false =>
        cases bc with
        | false =>
          go_wp2_with (first | (go_at_call 15; (first | with_reducible refine (HSS.out _ HBd.out).mono ?_ | with_reducible refine (HAB.out _ HBd.out).mono ?_ | with_reducible refine (HBC.out _ HBd.out).mono ?_ | with_reducible refine (HBA.out _ HBd.out).mono ?_); clear c0 c1 c2 d0 d1 d2 e0 e1 e2; rintro e xw ⟨rfl, hb⟩; have HBd := Lib.hid (HBd.out.tr hb (Nat.le_refl _)); clear hb; obtain ⟨⟨c0, c1, c2⟩, ⟨d0, d1, d2⟩, ⟨e0, e1, e2⟩⟩ := HCELL.out _ HBd.out) | (go_at_call 12; with_reducible refine (HPP.out _ HBd.out).mono ?_; clear c0 c1 c2 d0 d1 d2 e0 e1 e2; rintro e xw ⟨rfl, hb⟩; have HBd := Lib.hid (HBd.out.tr hb (Nat.le_refl _)); clear hb; obtain ⟨⟨c0, c1, c2⟩, ⟨d0, d1, d2⟩, ⟨e0, e1, e2⟩⟩ := HCELL.out _ HBd.out) | (go_at_call 14; with_reducible refine (HNN.out _ HBd.out).mono ?_; clear c0 c1 c2 d0 d1 d2 e0 e1 e2; rintro e xw ⟨rfl, hb⟩; have HBd := Lib.hid (HBd.out.tr hb (Nat.le_refl _)); clear hb; obtain ⟨⟨c0, c1, c2⟩, ⟨d0, d1, d2⟩, ⟨e0, e1, e2⟩⟩ := HCELL.out _ HBd.out) | (go_at_call 18; with_reducible refine (HWAK.out _ HBd.out).mono ?_; clear c0 c1 c2 d0 d1 d2 e0 e1 e2; rintro e xw ⟨rfl, hb⟩; have HBd := Lib.hid (HBd.out.tr hb (Nat.le_refl _)); clear hb; obtain ⟨⟨c0, c1, c2⟩, ⟨d0, d1, d2⟩, ⟨e0, e1, e2⟩⟩ := HCELL.out _ HBd.out))
          go_ret
          exact ⟨rfl, HB3.out.tr (HB4.out.tr HBd.out (Nat.le_refl _)) (Nat.le_refl _)⟩
        | true =>
          have hac := F4.out rfl rfl
          rw [hac] at HAC
          clear hac
          go_wp2_with (first | (go_at_call 15; (first | with_reducible refine (HSS.out _ HBd.out).mono ?_ | with_reducible refine (HAB.out _ HBd.out).mono ?_ | with_reducible refine (HBC.out _ HBd.out).mono ?_ | with_reducible refine (HBA.out _ HBd.out).mono ?_ | with_reducible refine (HAC.out _ HBd.out).mono ?_); clear c0 c1 c2 d0 d1 d2 e0 e1 e2; rintro e xw ⟨rfl, hb⟩; have HBd := Lib.hid (HBd.out.tr hb (Nat.le_refl _)); clear hb; obtain ⟨⟨c0, c1, c2⟩, ⟨d0, d1, d2⟩, ⟨e0, e1, e2⟩⟩ := HCELL.out _ HBd.out) | (go_at_call 12; with_reducible refine (HPP.out _ HBd.out).mono ?_; clear c0 c1 c2 d0 d1 d2 e0 e1 e2; rintro e xw ⟨rfl, hb⟩; have HBd := Lib.hid (HBd.out.tr hb (Nat.le_refl _)); clear hb; obtain ⟨⟨c0, c1, c2⟩, ⟨d0, d1, d2⟩, ⟨e0, e1, e2⟩⟩ := HCELL.out _ HBd.out) | (go_at_call 14; with_reducible refine (HNN.out _ HBd.out).mono ?_; clear c0 c1 c2 d0 d1 d2 e0 e1 e2; rintro e xw ⟨rfl, hb⟩; have HBd := Lib.hid (HBd.out.tr hb (Nat.le_refl _)); clear hb; obtain ⟨⟨c0, c1, c2⟩, ⟨d0, d1, d2⟩, ⟨e0, e1, e2⟩⟩ := HCELL.out _ HBd.out) | (go_at_call 18; with_reducible refine (HWAK.out _ HBd.out).mono ?_; clear c0 c1 c2 d0 d1 d2 e0 e1 e2; rintro e xw ⟨rfl, hb⟩; have HBd := Lib.hid (HBd.out.tr hb (Nat.le_refl _)); clear hb; obtain ⟨⟨c0, c1, c2⟩, ⟨d0, d1, d2⟩, ⟨e0, e1, e2⟩⟩ := HCELL.out _ HBd.out))
          go_ret
          exact ⟨rfl, HB3.out.tr (HB4.out.tr HBd.out (Nat.le_refl _)) (Nat.le_refl _)⟩
      | true =>
        cases bc with
        | false =>
          have hsm := F3.out rfl rfl
          rw [hsm] at HSM
          clear hsm
          go_wp2_with (first | (go_at_call 15; (first | with_reducible refine (HSS.out _ HBd.out).mono ?_ | with_reducible refine (HAB.out _ HBd.out).mono ?_ | with_reducible refine (HBC.out _ HBd.out).mono ?_ | with_reducible refine (HBA.out _ HBd.out).mono ?_); clear c0 c1 c2 d0 d1 d2 e0 e1 e2; rintro e xw ⟨rfl, hb⟩; have HBd := Lib.hid (HBd.out.tr hb (Nat.le_refl _)); clear hb; obtain ⟨⟨c0, c1, c2⟩, ⟨d0, d1, d2⟩, ⟨e0, e1, e2⟩⟩ := HCELL.out _ HBd.out) | (go_at_call 12; with_reducible refine (HPP.out _ HBd.out).mono ?_; clear c0 c1 c2 d0 d1 d2 e0 e1 e2; rintro e xw ⟨rfl, hb⟩; have HBd := Lib.hid (HBd.out.tr hb (Nat.le_refl _)); clear hb; obtain ⟨⟨c0, c1, c2⟩, ⟨d0, d1, d2⟩, ⟨e0, e1, e2⟩⟩ := HCELL.out _ HBd.out) | (go_at_call 14; with_reducible refine (HNN.out _ HBd.out).mono ?_; clear c0 c1 c2 d0 d1 d2 e0 e1 e2; rintro e xw ⟨rfl, hb⟩; have HBd := Lib.hid (HBd.out.tr hb (Nat.le_refl _)); clear hb; obtain ⟨⟨c0, c1, c2⟩, ⟨d0, d1, d2⟩, ⟨e0, e1, e2⟩⟩ := HCELL.out _ HBd.out) | (go_at_call 17; with_reducible refine (HSM.out _ HBd.out).mono ?_; clear c0 c1 c2 d0 d1 d2 e0 e1 e2; rintro e xw ⟨rfl, hb⟩; have HBd := Lib.hid (HBd.out.tr hb (Nat.le_refl _)); clear hb; obtain ⟨⟨c0, c1, c2⟩, ⟨d0, d1, d2⟩, ⟨e0, e1, e2⟩⟩ := HCELL.out _ HBd.out) | (go_at_call 18; with_reducible refine (HWAK.out _ HBd.out).mono ?_; clear c0 c1 c2 d0 d1 d2 e0 e1 e2; rintro e xw ⟨rfl, hb⟩; have HBd := Lib.hid (HBd.out.tr hb (Nat.le_refl _)); clear hb; obtain ⟨⟨c0, c1, c2⟩, ⟨d0, d1, d2⟩, ⟨e0, e1, e2⟩⟩ := HCELL.out _ HBd.out))
          go_ret
          exact ⟨rfl, HB3.out.tr (HB4.out.tr HBd.out (Nat.le_refl _)) (Nat.le_refl _)⟩
        | true =>
          have hsm := F3.out rfl rfl
          rw [hsm] at HSM
          clear hsm
          have hac := F4.out rfl rfl
          rw [hac] at HAC
          clear hac
          go_wp2_with (first | (go_at_call 15; (first | with_reducible refine (HSS.out _ HBd.out).mono ?_ | with_reducible refine (HAB.out _ HBd.out).mono ?_ | with_reducible refine (HBC.out _ HBd.out).mono ?_ | with_reducible refine (HBA.out _ HBd.out).mono ?_ | with_reducible refine (HAC.out _ HBd.out).mono ?_); clear c0 c1 c2 d0 d1 d2 e0 e1 e2; rintro e xw ⟨rfl, hb⟩; have HBd := Lib.hid (HBd.out.tr hb (Nat.le_refl _)); clear hb; obtain ⟨⟨c0, c1, c2⟩, ⟨d0, d1, d2⟩, ⟨e0, e1, e2⟩⟩ := HCELL.out _ HBd.out) | (go_at_call 12; with_reducible refine (HPP.out _ HBd.out).mono ?_; clear c0 c1 c2 d0 d1 d2 e0 e1 e2; rintro e xw ⟨rfl, hb⟩; have HBd := Lib.hid (HBd.out.tr hb (Nat.le_refl _)); clear hb; obtain ⟨⟨c0, c1, c2⟩, ⟨d0, d1, d2⟩, ⟨e0, e1, e2⟩⟩ := HCELL.out _ HBd.out) | (go_at_call 14; with_reducible refine (HNN.out _ HBd.out).mono ?_; clear c0 c1 c2 d0 d1 d2 e0 e1 e2; rintro e xw ⟨rfl, hb⟩; have HBd := Lib.hid (HBd.out.tr hb (Nat.le_refl _)); clear hb; obtain ⟨⟨c0, c1, c2⟩, ⟨d0, d1, d2⟩, ⟨e0, e1, e2⟩⟩ := HCELL.out _ HBd.out) | (go_at_call 17; with_reducible refine (HSM.out _ HBd.out).mono ?_; clear c0 c1 c2 d0 d1 d2 e0 e1 e2; rintro e xw ⟨rfl, hb⟩; have HBd := Lib.hid (HBd.out.tr hb (Nat.le_refl _)); clear hb; obtain ⟨⟨c0, c1, c2⟩, ⟨d0, d1, d2⟩, ⟨e0, e1, e2⟩⟩ := HCELL.out _ HBd.out) | (go_at_call 18; with_reducible refine (HWAK.out _ HBd.out).mono ?_; clear c0 c1 c2 d0 d1 d2 e0 e1 e2; rintro e xw ⟨rfl, hb⟩; have HBd := Lib.hid (HBd.out.tr hb (Nat.le_refl _)); clear hb; obtain ⟨⟨c0, c1, c2⟩, ⟨d0, d1, d2⟩, ⟨e0, e1, e2⟩⟩ := HCELL.out _ HBd.out))
          go_ret
          exact ⟨rfl, HB3.out.tr (HB4.out.tr HBd.out (Nat.le_refl _)) (Nat.le_refl _)⟩
end Go.Proofs.Ytafekidkikfpcaa
