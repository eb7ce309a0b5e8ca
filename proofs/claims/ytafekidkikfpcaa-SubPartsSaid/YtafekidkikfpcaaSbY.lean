/- sub.related, Pos, Neg, Sub, walked. -/
import Derived.Test.YtafekidkikfpcaaSbX
namespace Go.Proofs.Ytafekidkikfpcaa
open Go Go.RowKit
open Tp (T Md)

theorem cls_start {w W : World} {d : Md} {t u : T} {a a' : Option Addr} {cap cap' : Nat} {k n k' n' : Int} {m m' : Nat} (hv : TV t k n m) (hv' : TV u k' n' m') (hty : TyAt (LT w.heap.size) w t a cap) (hty' : TyAt (LT w.heap.size) w u a' cap') (hr : Tp.right t = true) (hr' : Tp.right u = true) (hsz : Tp.size t ≤ 10000) (hsz' : Tp.size u ≤ 10000)
    (hW : w.alloc (.cells #[.int .i64 (mdv d), .int .i64 k, .int .i64 n, .slice a m cap, .int .i64 k', .int .i64 n', .slice a' m' cap'] 49) = W) :
    Cls w.heap.size (Tp.sd d t u) [⟨d, t, a, cap, u, a', cap'⟩] (.slice (some ⟨w.heap.size, 0, none⟩) 1 1) W ∧ Below w.heap.size w W := by
  obtain ⟨rfl, rfl, rfl⟩ := hv
  obtain ⟨rfl, rfl, rfl⟩ := hv'
  obtain ⟨hg, hb, hs⟩ := box_cl hW
  refine ⟨⟨⟨rfl, .inr ⟨_, 1, _, rfl, Nat.le_refl _, hg, Nat.le_refl _, by unfold maxLen; omega, rfl, rfl⟩⟩, fun e he => ?_, ?_, ?_⟩, hb⟩
  · obtain rfl := List.mem_singleton.1 he
    exact ⟨hty.below hb (fun _ h => h) (fun _ h => h), hty'.below hb (fun _ h => h) (fun _ h => h), hr, hr'⟩
  · show (Tp.sd d t u && true) = Tp.sd d t u
    rw [Bool.and_true]
  · show wtC (d, t, u) + 0 ≤ 20000
    unfold wtC; dsimp only; omega
set_option maxRecDepth 100000 in
set_option maxHeartbeats 4000000 in
theorem related_any (d : Md) {t u : T} {k0 n0 k9 n9 : Int} {m0 m9 : Nat} {a a' : Option Addr} {cap cap' : Nat} {w : World} (hv : TV t k0 n0 m0) (hv' : TV u k9 n9 m9) (hty : TyAt (LT w.heap.size) w t a cap) (hty' : TyAt (LT w.heap.size) w u a' cap') (hsz : Tp.size t ≤ 10000) (hsz' : Tp.size u ≤ 10000) :
    Calls Try.prog 28 #[.int .i64 (mdv d), .agg #[.int .i64 k0, .int .i64 n0, .slice a m0 cap], .agg #[.int .i64 k9, .int .i64 n9, .slice a' m9 cap']] w fun e w' => e = .returned (.bool (Tp.sb d t u)) ∧ Below w.heap.size w w' := by
  obtain ⟨W2, hW2⟩ : ∃ W2, (w.alloc (.cells #[.int .i64 k0, .int .i64 n0, .slice a m0 cap] 24)).alloc (.cells #[.int .i64 k9, .int .i64 n9, .slice a' m9 cap'] 24) = W2 := ⟨_, rfl⟩
  have hb2 : Below w.heap.size w W2 := by rw [← hW2]; exact ((Below.refl _ _).alloc (Nat.le_refl _) _).alloc (by simp) _
  have bx : BoxT W2 w.heap.size t k0 n0 m0 a cap := ⟨hv, by rw [← hW2]; exact box1 _ _ _ _ _, ty_later hty hb2⟩
  have bu : BoxT W2 (w.heap.size + 1) u k9 n9 m9 a' cap' := ⟨hv', by rw [← hW2]; exact box2 _ _ _ _ _, ty_later hty' hb2⟩
  have hct := fun x (h : Below W2.heap.size W2 x) => ck_any (w := x) (bx.later h).says (bx.later h).ty hsz
  have hcu := fun x (h : Below W2.heap.size W2 x) => ck_any (w := x) (bu.later h).says (bu.later h).ty hsz'
  have HCELL := Lib.hid (fun x (h : Below W2.heap.size W2 x) => (⟨(bx.later h).cells, (bu.later h).cells⟩ : _ ∧ _))
  have HTY := Lib.hid (fun x (h : Below W2.heap.size W2 x) => (⟨(bx.later h).ty, (bu.later h).ty⟩ : _ ∧ _))
  obtain ⟨⟨c0, c1, c2⟩, ⟨d0, d1, d2⟩⟩ := HCELL.out W2 (Below.refl _ _)
  unfold Tp.sb
  obtain ⟨r, hr⟩ : ∃ r, Tp.right t = r := ⟨_, rfl⟩
  obtain ⟨r', hr'⟩ : ∃ r, Tp.right u = r := ⟨_, rfl⟩
  rw [hr] at hct ⊢
  rw [hr'] at hcu ⊢
  obtain ⟨res, hres⟩ : ∃ r, Tp.sd d t u = r := ⟨_, rfl⟩
  rw [hres]
  have HR := Lib.hid hr; have HR' := Lib.hid hr'; have HRES := Lib.hid hres
  have h0 : errOf true = 0 := rfl
  have h1 : errOf false = 1 := rfl
  have HW2 := Lib.hid hW2; have HB2 := Lib.hid hb2; have HV := Lib.hid hv; have HV' := Lib.hid hv'; have HSZ := Lib.hid hsz; have HSZ' := Lib.hid hsz'
  clear hW2 hb2 bx bu hv hv' hty hty' hsz hsz' hr hr' hres
  go_enter Try.func28, Try.ntmps28
  go_upto_region 1 with fail
  rw [HW2.out]
  cases r with
  | false =>
    rw [h1] at hct
    have HCT := Lib.hid hct
    clear hct hcu h0 h1
    go_wp2_with (go_at_call 34; with_reducible refine (HCT.out _ (Below.refl _ _)).mono ?_; clear c0 c1 c2 d0 d1 d2; rintro e w3 ⟨rfl, hb⟩; have HB3 := Lib.hid hb; clear hb)
    go_ret
    exact ⟨ret_boolT (by simp), HB2.out.tr HB3.out (Nat.le_refl _)⟩
  | true =>
    rw [h0] at hct
    have HCT := Lib.hid hct
    cases r' with
    | false =>
      rw [h1] at hcu
      have HCU := Lib.hid hcu
      clear hct hcu h0 h1
      go_wp2_with (first | (go_at_call 34; with_reducible refine (HCT.out _ (Below.refl _ _)).mono ?_; clear c0 c1 c2 d0 d1 d2; rintro e w3 ⟨rfl, hb⟩; have HB3 := Lib.hid hb; clear hb; obtain ⟨⟨c0, c1, c2⟩, ⟨d0, d1, d2⟩⟩ := HCELL.out w3 HB3.out) | (go_at_call 34; with_reducible refine (HCU.out _ HB3.out).mono ?_; clear c0 c1 c2 d0 d1 d2; rintro e w4 ⟨rfl, hb⟩; have HB4 := Lib.hid (HB3.out.tr hb (Nat.le_refl _)); clear hb; obtain ⟨⟨c0, c1, c2⟩, ⟨d0, d1, d2⟩⟩ := HCELL.out w4 HB4.out))
      go_ret
      exact ⟨ret_boolT (by simp), HB2.out.tr HB4.out (Nat.le_refl _)⟩
    | true =>
      rw [h0] at hcu
      have HCU := Lib.hid hcu
      clear hct hcu h0 h1
      go_upto_region 3 with (first | (go_at_call 34; with_reducible refine (HCT.out _ (Below.refl _ _)).mono ?_; clear c0 c1 c2 d0 d1 d2; rintro e w3 ⟨rfl, hb⟩; have HB3 := Lib.hid hb; clear hb; obtain ⟨⟨c0, c1, c2⟩, ⟨d0, d1, d2⟩⟩ := HCELL.out w3 HB3.out) | (go_at_call 34; with_reducible refine (HCU.out _ HB3.out).mono ?_; clear c0 c1 c2 d0 d1 d2; rintro e w4 ⟨rfl, hb⟩; have HB4 := Lib.hid (HB3.out.tr hb (Nat.le_refl _)); clear hb; obtain ⟨⟨c0, c1, c2⟩, ⟨d0, d1, d2⟩⟩ := HCELL.out w4 HB4.out))
      obtain ⟨W5, hW5⟩ : ∃ W, w4.alloc (.cells #[.int .i64 (mdv d), .int .i64 k0, .int .i64 n0, .slice a m0 cap, .int .i64 k9, .int .i64 n9, .slice a' m9 cap'] 49) = W := ⟨_, rfl⟩
      obtain ⟨hst, hb5⟩ := cls_start HV.out HV'.out (HTY.out w4 HB4.out).1 (HTY.out w4 HB4.out).2 HR.out HR'.out HSZ.out HSZ'.out hW5
      have HB04 := Lib.hid (HB2.out.tr HB4.out (Nat.le_refl _))
      have HN5 := Lib.hid (show w4.heap.size < W5.heap.size by rw [← hW5]; simp)
      rw [HRES.out] at hst
      have HST := Lib.hid hst; have HB5 := Lib.hid hb5; have HW5 := Lib.hid hW5
      clear hst hb5 hW5 HRES HB2 HB3 HCT HCU HCELL HTY HR HR' HV HV' HSZ HSZ'
      go_wp2_with fail
      rw [HW5.out]
      clear c0 c1 c2 d0 d1 d2
      go_loopg [7] (ssz [(d, t, u)]) (fun gk v wr => ∃ R, Cls w4.heap.size res R v wr ∧ Below w4.heap.size w4 wr ∧ w4.heap.size < wr.heap.size ∧ gk = ssz (R.map EnC.key))
      case atStart => exact ⟨_, HST.out, HB5.out, HN5.out, rfl⟩
      case round =>
        obtain ⟨R, hC, hb, hn, rfl⟩ := hrel
        have HC := Lib.hid hC; have HB := Lib.hid hb; have HN4 := Lib.hid hn
        clear hC hb hn HST HB5 HN5 HW5
        cases R with
        | nil =>
          obtain ⟨av, cv, rfl⟩ := own_shapeT HC.out.own
          have HR := Lib.hid (show true = res from HC.out.same)
          go_wp2_with fail
          go_ret
          exact ⟨ret_boolT (by rw [← HR.out]; rfl), HB04.out.trans (HB.out.mono HB04.out.size)⟩
        | cons e R =>
          obtain ⟨g, cap3, rfl, hg1, hg2, hcp, hcm, hcl, hown⟩ := own_topC (v := u7) HC.out.own
          have hgood := HC.out.each e (by simp)
          obtain ⟨e, x, xa, xcap, y, ya, ycap⟩ := e
          obtain ⟨hxty, hyty, hrx, hry⟩ := id hgood
          obtain ⟨xk, xn, xm, hvx⟩ := TV.mk x
          obtain ⟨yk, yn, ym, hvy⟩ := TV.mk y
          obtain ⟨r, hr⟩ : ∃ z, R.length = z := ⟨_, rfl⟩
          have hz0 := hcl 0 _ rfl; rw [Nat.add_zero] at hz0; have hx0 := hcl 1 _ rfl; have hx1 := hcl 2 _ rfl; have hx2 := hcl 3 _ rfl; have hy0 := hcl 4 _ rfl; have hy1 := hcl 5 _ rfl; have hy2 := hcl 6 _ rfl
          dsimp only at hz0 hx0 hx1 hx2 hy0 hy1 hy2 hxty hyty hrx hry
          rw [hvx.1] at hx0; rw [hvx.2.1] at hx1; rw [hvx.2.2] at hx2; rw [hvy.1] at hy0; rw [hvy.2.1] at hy1; rw [hvy.2.2] at hy2
          rw [hr] at hz0 hx0 hx1 hx2 hy0 hy1 hy2 hcp hown ⊢
          have hR : r + 1 + xm ≤ 20000 := by
            have h1 := len_ssz (R.map EnC.key); have h2 := HC.out.small
            rw [List.map_cons, ssz_cons] at h2; rw [List.length_map, hr] at h1
            have h3 : wtC (EnC.key ⟨e, x, xa, xcap, y, ya, ycap⟩) = Tp.size x + Tp.size y - 1 := rfl
            have h4 := Tp.size_pos y; have h5 := Tp.length_le_sizes x.kids; have h6 := size_kids x
            rw [hvx.2.2] at h5
            omega
          have hpop := cl_pop g (r + 1) cap3 r (by omega) hcp
          have HXTY := Lib.hid hxty; have HYTY := Lib.hid hyty; have HOWN := Lib.hid hown; have HG1 := Lib.hid hg1; have HG2 := Lib.hid hg2; have HCP := Lib.hid hcp; have HRR := Lib.hid hR; have HR := Lib.hid hr; have HVX := Lib.hid hvx; have HVY := Lib.hid hvy; have HRX := Lib.hid hrx; have HRY := Lib.hid hry
          have hi0 : (0 : Int) ≤ (r : Int) := Int.natCast_nonneg r
          have hi1 : (r : Int) < (r : Int) + 1 := Int.lt_succ _
          have hi2 : (r : Int) < ((r + 1 : Nat) : Int) := by omega
          clear hcl hgood hxty hyty hown hg1 hr hvx hvy hrx hry hcm
          go_upto_region 8 with fail
          obtain ⟨W6, hW6⟩ : ∃ W, wr.alloc (.cells #[.int .i64 (mdv e), .int .i64 xk, .int .i64 xn, .slice xa xm xcap, .int .i64 yk, .int .i64 yn, .slice ya ym ycap] 49) = W := ⟨_, rfl⟩
          obtain ⟨hbx, hb6, hs6⟩ := box_cl hW6
          rw [hW6]
          have HBX := Lib.hid hbx; have HB6 := Lib.hid hb6
          have HS := Lib.hid (settled_any (a := xa) (c := xcap) (a' := ya) (c' := ycap) (w := W6) e HVX.out HVY.out)
          have HFT := Lib.hid (fun w' => fits_any (a := xa) (c := xcap) (a' := ya) (c' := ycap) (w := w') e HVX.out HVY.out)
          have HSD := Lib.hid (claim_settled (m := e) HRX.out HRY.out)
          have HND := Lib.hid (claim_node (m := e) HRX.out HRY.out)
          clear hbx hb6 hs6 hW6 hz0 hx0 hx1 hx2 hy0 hy1 hy2 hi0 hi1 hi2 hpop hcp hg2
          obtain ⟨c0, c1, c2, c3, c4, c5, c6⟩ := cells_cl HBX.out
          obtain ⟨st, hst⟩ : ∃ z, settled e x y = z := ⟨_, rfl⟩
          rw [hst] at HS
          have HST := Lib.hid hst; clear hst
          have HCELL := Lib.hid (fun x' (h : Below W6.heap.size W6 x') => cells_cl ((h.block _ (Array.getElem?_eq_some_iff.1 HBX.out).1).trans HBX.out))
          have HBA := Lib.hid (fun x' (h : Below W6.heap.size W6 x') => (show Below w4.heap.size wr x' from (HB6.out.tr h (Nat.le_refl _)).mono (Nat.le_of_lt HN4.out)))
          have HOW := Lib.hid (fun x' (h : Below W6.heap.size W6 x') => (show x'.ownsRow w4.heap.size 49 7 (.slice (some ⟨g, 0, none⟩) r cap3) r (stcCells R.reverse) from own_same HOWN.out (fun z hz => by injection hz with hz; subst hz; exact (HB6.out.tr h (Nat.le_refl _)).block _ HG2.out)))
          have HBd := Lib.hid (Below.refl W6.heap.size W6)
          cases st with
          | true =>
            have F := fun x' h => cls_drop (e := ⟨e, x, xa, xcap, y, ya, ycap⟩) (v' := .slice (some ⟨g, 0, none⟩) r cap3) (w' := x') HC.out (HSD.out HST.out) (HBA.out x' h) (by rw [HR.out]; exact HOW.out x' h)
            have FF := Lib.hid F; clear F
            go_wp2_with (go_at_call 37; with_reducible refine HS.out.mono ?_; clear c0 c1 c2 c3 c4 c5 c6; rintro e' xw ⟨rfl, hb⟩; have HBd := Lib.hid hb; clear hb)
            go_roundg (ssz (R.map EnC.key))
            case measure => exact (FF.out _ HBd.out).1
            case rel => exact ⟨R, (FF.out _ HBd.out).2, HB.out.trans (HBA.out _ HBd.out), by have := HN4.out; have := (HBA.out _ HBd.out).size; omega, rfl⟩
          | false =>
            obtain ⟨ft, hft⟩ : ∃ z, fits x y = z := ⟨_, rfl⟩
            rw [hft] at HFT HND
            have HFF := Lib.hid hft; clear hft
            cases ft with
            | false =>
              have F := Lib.hid (cls_no (e := ⟨e, x, xa, xcap, y, ya, ycap⟩) HC.out (by show Tp.sd e x y = false; rw [HND.out HST.out]; rfl))
              go_wp2_with (first | (go_at_call 37; with_reducible refine HS.out.mono ?_; clear c0 c1 c2 c3 c4 c5 c6; rintro e' xw ⟨rfl, hb⟩; have HBd := Lib.hid hb; clear hb; obtain ⟨c0, c1, c2, c3, c4, c5, c6⟩ := HCELL.out _ HBd.out) | (go_at_call 38; with_reducible refine (HFT.out _).mono ?_; clear c0 c1 c2 c3 c4 c5 c6; rintro e' xw ⟨rfl, hb⟩; have HBd := Lib.hid (HBd.out.tr hb (Nat.le_refl _)); clear hb))
              go_ret
              exact ⟨ret_boolT (by rw [F.out]; rfl), HB04.out.trans ((HB.out.trans (HBA.out _ HBd.out)).mono HB04.out.size)⟩
            | true =>
              have hadd := fun x' (h : Below W6.heap.size W6 x') => addKids_any w4.heap.size e x y xk xn xm xa xcap yk yn ym ya ycap R (.slice (some ⟨g, 0, none⟩) r cap3) x' HVX.out HVY.out (by have := HN4.out; have := (HBA.out _ h).size; omega) (HXTY.out.below (HBA.out _ h) (fun _ h => h) (fun _ h => h)) (HYTY.out.below (HBA.out _ h) (fun _ h => h) (fun _ h => h)) HRX.out HRY.out HFF.out (by rw [HR.out]; exact HOW.out x' h) (by rw [HR.out]; have := HRR.out; omega)
              have HADD := Lib.hid hadd; clear hadd
              go_wp2_with (first | (go_at_call 37; with_reducible refine HS.out.mono ?_; clear c0 c1 c2 c3 c4 c5 c6; rintro e' xw ⟨rfl, hb⟩; have HBd := Lib.hid hb; clear hb; obtain ⟨c0, c1, c2, c3, c4, c5, c6⟩ := HCELL.out _ HBd.out) | (go_at_call 38; with_reducible refine (HFT.out _).mono ?_; clear c0 c1 c2 c3 c4 c5 c6; rintro e' xw ⟨rfl, hb⟩; have HBd := Lib.hid (HBd.out.tr hb (Nat.le_refl _)); clear hb; obtain ⟨c0, c1, c2, c3, c4, c5, c6⟩ := HCELL.out _ HBd.out) | (go_at_call 39; with_reducible refine (HADD.out _ HBd.out).mono ?_; clear c0 c1 c2 c3 c4 c5 c6; rintro e' x7 ⟨v', E, rfl, hb, hk⟩; have HB7 := Lib.hid hb; have HK7 := Lib.hid hk; clear hb hk))
              have hb7 : Below w4.heap.size wr x7 := (HBA.out _ HBd.out).trans HB7.out
              have F := cls_next (e := ⟨e, x, xa, xcap, y, ya, ycap⟩) (E := E) (v' := v') (w' := x7) HC.out HFF.out HST.out (by rw [HK7.out.laid, ← HVX.out.2.2]) HK7.out.each hb7 HK7.out.own
              go_roundg (ssz ((E ++ R).map EnC.key))
              case measure => exact F.1
              case rel => exact ⟨_, F.2, HB.out.trans hb7, by have := HN4.out; have := hb7.size; omega, rfl⟩
/-- The three answers. -/
theorem sb_any (d : Md) {t u : T} {k0 n0 k9 n9 : Int} {m0 m9 : Nat} {a a' : Option Addr} {cap cap' : Nat} {w W2 : World} (hW2 : (w.alloc (.cells #[.int .i64 k0, .int .i64 n0, .slice a m0 cap] 24)).alloc (.cells #[.int .i64 k9, .int .i64 n9, .slice a' m9 cap'] 24) = W2) (hv : TV t k0 n0 m0) (hv' : TV u k9 n9 m9) (hty : TyAt (LT w.heap.size) w t a cap) (hty' : TyAt (LT w.heap.size) w u a' cap') (hsz : Tp.size t ≤ 10000) (hsz' : Tp.size u ≤ 10000) :
    Calls Try.prog 28 #[.int .i64 (mdv d), .agg #[.int .i64 k0, .int .i64 n0, .slice a m0 cap], .agg #[.int .i64 k9, .int .i64 n9, .slice a' m9 cap']] W2 (fun e w' => e = .returned (.bool (Tp.sb d t u)) ∧ Below w.heap.size w w') ∧
    W2.cell? ⟨w.heap.size, 0, none⟩ = some (.int .i64 k0) ∧ W2.cell? ⟨w.heap.size, 1, none⟩ = some (.int .i64 n0) ∧ W2.cell? ⟨w.heap.size, 2, none⟩ = some (.slice a m0 cap) ∧ W2.cell? ⟨w.heap.size + 1, 0, none⟩ = some (.int .i64 k9) ∧ W2.cell? ⟨w.heap.size + 1, 1, none⟩ = some (.int .i64 n9) ∧ W2.cell? ⟨w.heap.size + 1, 2, none⟩ = some (.slice a' m9 cap') := by
  have hb2 : Below w.heap.size w W2 := by rw [← hW2]; exact ((Below.refl _ _).alloc (Nat.le_refl _) _).alloc (by simp) _
  have bx : BoxT W2 w.heap.size t k0 n0 m0 a cap := ⟨hv, by rw [← hW2]; exact box1 _ _ _ _ _, ty_later hty hb2⟩
  have bu : BoxT W2 (w.heap.size + 1) u k9 n9 m9 a' cap' := ⟨hv', by rw [← hW2]; exact box2 _ _ _ _ _, ty_later hty' hb2⟩
  exact ⟨(related_any d bx.says bu.says bx.ty bu.ty hsz hsz').mono (fun e w' h => ⟨h.1, hb2.tr h.2 (Nat.le_refl _)⟩), bx.cells.1, bx.cells.2.1, bx.cells.2.2, bu.cells.1, bu.cells.2.1, bu.cells.2.2⟩
set_option maxRecDepth 100000 in
theorem pos_any {t u : T} {k0 n0 k9 n9 : Int} {m0 m9 : Nat} {a a' : Option Addr} {cap cap' : Nat} {w : World} (hv : TV t k0 n0 m0) (hv' : TV u k9 n9 m9) (hty : TyAt (LT w.heap.size) w t a cap) (hty' : TyAt (LT w.heap.size) w u a' cap') (hsz : Tp.size t ≤ 10000) (hsz' : Tp.size u ≤ 10000) :
    Calls Try.prog 12 #[.agg #[.int .i64 k0, .int .i64 n0, .slice a m0 cap], .agg #[.int .i64 k9, .int .i64 n9, .slice a' m9 cap']] w fun e w' => e = .returned (.bool (Tp.sb .p t u)) ∧ Below w.heap.size w w' := by
  obtain ⟨W2, hW2⟩ : ∃ W2, (w.alloc (.cells #[.int .i64 k0, .int .i64 n0, .slice a m0 cap] 24)).alloc (.cells #[.int .i64 k9, .int .i64 n9, .slice a' m9 cap'] 24) = W2 := ⟨_, rfl⟩
  obtain ⟨hc, c0, c1, c2, d0, d1, d2⟩ := sb_any .p hW2 hv hv' hty hty' hsz hsz'
  unfold mdv at hc
  have HC := Lib.hid hc; have HW2 := Lib.hid hW2
  clear hc hW2 hv hv' hty hty' hsz hsz'
  go_enter Try.func12, Try.ntmps12
  go_upto_region 1 with fail
  rw [HW2.out]
  go_wp2_with (go_at_call 28; with_reducible refine HC.out.mono ?_; clear c0 c1 c2 d0 d1 d2; rintro e w3 ⟨rfl, hb⟩)
  go_ret
  exact ⟨rfl, hb⟩
set_option maxRecDepth 100000 in
theorem neg_any {t u : T} {k0 n0 k9 n9 : Int} {m0 m9 : Nat} {a a' : Option Addr} {cap cap' : Nat} {w : World} (hv : TV t k0 n0 m0) (hv' : TV u k9 n9 m9) (hty : TyAt (LT w.heap.size) w t a cap) (hty' : TyAt (LT w.heap.size) w u a' cap') (hsz : Tp.size t ≤ 10000) (hsz' : Tp.size u ≤ 10000) :
    Calls Try.prog 14 #[.agg #[.int .i64 k0, .int .i64 n0, .slice a m0 cap], .agg #[.int .i64 k9, .int .i64 n9, .slice a' m9 cap']] w fun e w' => e = .returned (.bool (Tp.sb .n t u)) ∧ Below w.heap.size w w' := by
  obtain ⟨W2, hW2⟩ : ∃ W2, (w.alloc (.cells #[.int .i64 k0, .int .i64 n0, .slice a m0 cap] 24)).alloc (.cells #[.int .i64 k9, .int .i64 n9, .slice a' m9 cap'] 24) = W2 := ⟨_, rfl⟩
  obtain ⟨hc, c0, c1, c2, d0, d1, d2⟩ := sb_any .n hW2 hv hv' hty hty' hsz hsz'
  unfold mdv at hc
  have HC := Lib.hid hc; have HW2 := Lib.hid hW2
  clear hc hW2 hv hv' hty hty' hsz hsz'
  go_enter Try.func14, Try.ntmps14
  go_upto_region 1 with fail
  rw [HW2.out]
  go_wp2_with (go_at_call 28; with_reducible refine HC.out.mono ?_; clear c0 c1 c2 d0 d1 d2; rintro e w3 ⟨rfl, hb⟩)
  go_ret
  exact ⟨rfl, hb⟩
set_option maxRecDepth 100000 in
theorem sub_any {t u : T} {k0 n0 k9 n9 : Int} {m0 m9 : Nat} {a a' : Option Addr} {cap cap' : Nat} {w : World} (hv : TV t k0 n0 m0) (hv' : TV u k9 n9 m9) (hty : TyAt (LT w.heap.size) w t a cap) (hty' : TyAt (LT w.heap.size) w u a' cap') (hsz : Tp.size t ≤ 10000) (hsz' : Tp.size u ≤ 10000) :
    Calls Try.prog 15 #[.agg #[.int .i64 k0, .int .i64 n0, .slice a m0 cap], .agg #[.int .i64 k9, .int .i64 n9, .slice a' m9 cap']] w fun e w' => e = .returned (.bool (Tp.sb .s t u)) ∧ Below w.heap.size w w' := by
  obtain ⟨W2, hW2⟩ : ∃ W2, (w.alloc (.cells #[.int .i64 k0, .int .i64 n0, .slice a m0 cap] 24)).alloc (.cells #[.int .i64 k9, .int .i64 n9, .slice a' m9 cap'] 24) = W2 := ⟨_, rfl⟩
  obtain ⟨hc, c0, c1, c2, d0, d1, d2⟩ := sb_any .s hW2 hv hv' hty hty' hsz hsz'
  unfold mdv at hc
  have HC := Lib.hid hc; have HW2 := Lib.hid hW2
  clear hc hW2 hv hv' hty hty' hsz hsz'
  go_enter Try.func15, Try.ntmps15
  go_upto_region 1 with fail
  rw [HW2.out]
  go_wp2_with (go_at_call 28; with_reducible refine HC.out.mono ?_; clear c0 c1 c2 d0 d1 d2; rintro e w3 ⟨rfl, hb⟩)
  go_ret
  exact ⟨rfl, hb⟩
end Go.Proofs.Ytafekidkikfpcaa
