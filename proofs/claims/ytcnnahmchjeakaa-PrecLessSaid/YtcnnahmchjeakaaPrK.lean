/- The law PrecLess: its walk. -/
import Derived.Test.YtcnnahmchjeakaaPrN
namespace Go.Proofs.Ytcnnahmchjeakaa
open Go Go.RowKit
open Tp (T)

theorem one_right {t : T} (h : (!decide (600 < Tp.sizes [t]) && Tp.rights [t]) = true) : Tp.right t = true ∧ Tp.size t ≤ 600 := by
  by_cases hc : 600 < Tp.sizes [t]
  · rw [decide_eq_true hc] at h; simp at h
  · rw [decide_eq_false hc] at h
    simp only [Bool.not_false, Bool.true_and, Tp.rights, Bool.and_eq_true] at h
    simp only [Tp.sizes] at hc
    exact ⟨h.1, by omega⟩
set_option maxRecDepth 100000 in
set_option maxHeartbeats 8000000 in
theorem lless_any (t : T) (a : Option Addr) (cap : Nat) (bs : List Bool) (ba : Option Addr) (bn bc : Nat) (w : World) (hty : TyAt (LT w.heap.size) w t a cap) (hbs : BoolsAt w.heap.size w bs ba bn bc) :
    Calls Try.prog 8 #[tv t a cap, .slice ba bn bc] w fun e w' => e = .returned (.bool true) ∧ Below w.heap.size w w' := by
  obtain ⟨k0, n0, m0, hv⟩ := TV.mk t
  rw [tv_of hv]
  obtain ⟨W2, hW2⟩ : ∃ W2, w.alloc (.cells #[.int .i64 k0, .int .i64 n0, .slice a m0 cap] 24) = W2 := ⟨_, rfl⟩
  obtain ⟨bx, hb2⟩ := box_new hv hty hW2
  obtain ⟨rr, hrr⟩ : ∃ r, (!decide (600 < Tp.sizes [t]) && Tp.rights [t]) = r := ⟨_, rfl⟩
  have hri := lright_any [t] (some ⟨W2.heap.size, 0, none⟩) 1 _ (by simp) (row_one bx.ty bx.says.1 bx.says.2.1 bx.says.2.2)
  rw [hrr] at hri
  have HRI := Lib.hid hri; have HRR := Lib.hid hrr; have HB2 := Lib.hid hb2; have HW2 := Lib.hid hW2; have BX := Lib.hid bx; have HBS := Lib.hid hbs
  clear hri hrr hb2 hW2 hty hv hbs
  go_enter Try.func8, Try.ntmps8
  go_upto_region 1 with fail
  rw [HW2.out]
  obtain ⟨c0, c1, c2⟩ := bx.cells
  clear bx
  cases rr with
  | false =>
    go_wp2_with (go_at_call 18; refine HRI.out.mono ?_; clear c0 c1 c2; rintro e w4 ⟨rfl, hb⟩; have HB4 := Lib.hid (Go.RowKit.Below.tr ((Below.refl W2.heap.size W2).alloc (Nat.le_refl _) _) hb (Nat.le_refl _)); clear hb)
    go_ret
    exact ⟨rfl, HB2.out.tr HB4.out (Nat.le_refl _)⟩
  | true =>
    by_cases h7 : 700 < bn
    · have h7' : ((bn : Int) > 700) := by omega
      go_wp2_with (go_at_call 18; refine HRI.out.mono ?_; clear c0 c1 c2; rintro e w4 ⟨rfl, hb⟩; have HB4 := Lib.hid (Go.RowKit.Below.tr ((Below.refl W2.heap.size W2).alloc (Nat.le_refl _) _) hb (Nat.le_refl _)); clear hb)
      go_ret
      exact ⟨rfl, HB2.out.tr HB4.out (Nat.le_refl _)⟩
    · have h7' : ¬ ((bn : Int) > 700) := by omega
      obtain ⟨hrt, hsz⟩ := one_right HRR.out
      have HST := Lib.hid (show Tp.size t ≤ 10000 by omega)
      have hll := Tp.less_law bs hrt
      have HLL := Lib.hid hll
      clear hll hrt hsz
      go_upto_region 3 with (go_at_call 18; refine HRI.out.mono ?_; clear c0 c1 c2; rintro e w4 ⟨rfl, hb⟩; have HB4 := Lib.hid (Go.RowKit.Below.tr ((Below.refl W2.heap.size W2).alloc (Nat.le_refl _) _) hb (Nat.le_refl _)); clear hb)
      clear h7 h7'
      have bx4 := BX.out.later HB4.out
      have hcl := less_any w.heap.size (Tp.size t) t bs k0 n0 m0 a cap ba bn bc w4 bx4.says (Nat.le_refl _) HST.out (Nat.le_trans HB2.out.size HB4.out.size) bx4.ty (HBS.out.later (HB2.out.trans (HB4.out.mono HB2.out.size)))
      obtain ⟨c0, c1, c2⟩ := bx4.cells
      have BX4 := Lib.hid bx4
      have HCL := Lib.hid hcl
      clear bx4 hcl
      go_wp2_with fail
      refine HCL.out.mono ?_
      clear c0 c1 c2
      rintro e w5 ⟨k1, n1, m1, a1, p1, b1, bn1, bc1, hv1, rfl, ty1, -, hb⟩
      obtain ⟨W6, hW6⟩ : ∃ W5, w5.alloc (.cells #[.int .i64 k1, .int .i64 n1, .slice a1 m1 p1] 24) = W5 := ⟨_, rfl⟩
      obtain ⟨bu, hb6⟩ := box_new hv1 (ty_same (fun _ _ => rfl) (fun _ h => h.2) ty1) hW6
      have hbb := hb.tr hb6 (Nat.le_refl _)
      have bx6 := BX4.out.later hbb
      have HB6 := Lib.hid ((HB2.out.tr HB4.out (Nat.le_refl _)).tr hbb (Nat.le_refl _)); have HW6 := Lib.hid hW6
      obtain ⟨u, hu⟩ : ∃ u, (Tp.less t bs).1 = u := ⟨_, rfl⟩
      have hll := HLL.out
      rw [hu] at bu hll
      obtain ⟨l1, l2, l3⟩ := hll
      have hsu : Tp.size u ≤ 10000 := Nat.le_trans l3 HST.out
      have HTU := Lib.hid (fun x (h : Below W6.heap.size W6 x) => bl_any (w := x) (bx6.later h).says (bu.later h).says (bx6.later h).ty (bu.later h).ty HST.out hsu)
      have HUT := Lib.hid (fun x (h : Below W6.heap.size W6 x) => bl_any (w := x) (bu.later h).says (bx6.later h).says (bu.later h).ty (bx6.later h).ty hsu HST.out)
      have HSM := Lib.hid (fun x (h : Below W6.heap.size W6 x) => ks_any (w := x) (bx6.later h).says (bu.later h).says (bx6.later h).ty (bu.later h).ty)
      have HZU := Lib.hid (fun x (h : Below W6.heap.size W6 x) => sz_any (w := x) (bu.later h).says (bu.later h).ty hsu)
      have HZT := Lib.hid (fun x (h : Below W6.heap.size W6 x) => sz_any (w := x) (bx6.later h).says (bx6.later h).ty HST.out)
      have HWAK := Lib.hid (fun x (_ : Below W6.heap.size W6 x) => wakes9_any x)
      have HCELL := Lib.hid (fun x (h : Below W6.heap.size W6 x) => (⟨(bx6.later h).cells, (bu.later h).cells⟩ : _ ∧ _))
      have HLE := Lib.hid (fun x (h : Below W6.heap.size W6 x) => h.size)
      obtain ⟨sm, hsm⟩ : ∃ z, Tp.same t u = z := ⟨_, rfl⟩
      obtain ⟨zu, hzu⟩ : ∃ z, Tp.size u = z := ⟨_, rfl⟩
      obtain ⟨zt, hzt⟩ : ∃ z, Tp.size t = z := ⟨_, rfl⟩
      rw [hsm] at l2 HSM
      rw [hzu] at l3 HZU; rw [hzt] at l3 HZT
      rw [l1] at HTU; rw [l2] at HUT
      have hzl : (zu : Int) ≤ (zt : Int) := by omega
      clear hv1 ty1 hb hW6 hb6 hbb bx6 bu hu l1 l2 l3 hsu hsm hzu hzt
      go_upto_region 4 with fail
      rw [HW6.out]
      have HBd := Lib.hid (Below.refl W6.heap.size W6).drew
      obtain ⟨⟨c0, c1, c2⟩, ⟨d0, d1, d2⟩⟩ := HCELL.out _ HBd.out
      refine wp_region_seq [(0, false), (0, false), (0, true), (0, false), (0, false), (0, false), (1, false), (1, false), (0, true), (0, true), (0, false), (0, false), (0, false), (0, false), (1, false), (0, true), (0, true), (0, false), (0, false), (0, false), (0, true), (0, false), (0, false)] (by kernel_rfl) (by kernel_rfl) (by kernel_rfl) (fun _ _ _ d _ h => by cases d <;> exact h) ?_
      repeat
        first
        | (first | with_reducible refine sp0 (fun K hK => ?_) | with_reducible refine sp1 (fun K hK => ?_) | with_reducible refine sp2 (fun K hK => ?_) | with_reducible refine sp3 (fun K hK => ?_) | with_reducible refine sp4 (fun K hK => ?_)
           go_simp
           first
           | (with_reducible refine hK _ _ ?_; clear hK K)
           | (with_reducible apply Exists.intro
              refine ⟨fun x hx => ?_, hK _ _ ?_⟩
              first
                | (with_reducible exact rfl)
                | (have y0 := keepc hx c0; have y1 := keepc hx c1; have y2 := keepc hx c2; have y3 := keepc hx d0; have y4 := keepc hx d1; have y5 := keepc hx d2; go_simp; done)
                | (have y0 := keepc hx c0; have y1 := keepc hx c1; have y2 := keepc hx c2; have y3 := keepc hx d0; have y4 := keepc hx d1; have y5 := keepc hx d2; go_simp; with_reducible exact rfl)
              clear hK K))
        | (first | with_reducible refine sk0 ?_ (fun K hK => ?_) | with_reducible refine sk1 ?_ (fun K hK => ?_) | with_reducible refine sk2 ?_ (fun K hK => ?_) | with_reducible refine sk3 ?_ (fun K hK => ?_) | with_reducible refine sk4 ?_ (fun K hK => ?_)
           rfl
           go_simp
           with_reducible refine hK _ _ ?_
           clear hK K)
      first | with_reducible refine sc0 (fun K hK => ?_) | with_reducible refine sc1 (fun K hK => ?_) | with_reducible refine sc2 (fun K hK => ?_) | with_reducible refine sc3 (fun K hK => ?_) | with_reducible refine sc4 (fun K hK => ?_)
      go_simp
      refine (HTU.out _ HBd.out).mono ?_
      clear c0 c1 c2 d0 d1 d2
      rintro e x1 ⟨rfl, hb9⟩
      refine ⟨hb9, hK _ _ ?_⟩
      clear hK K
      have HX1 := Lib.hid (HBd.out.trans (hb9.mono (HLE.out _ HBd.out)))
      clear hb9
      obtain ⟨⟨c0, c1, c2⟩, ⟨d0, d1, d2⟩⟩ := HCELL.out x1 HX1.out
      repeat
        first
        | (first | with_reducible refine sp0 (fun K hK => ?_) | with_reducible refine sp1 (fun K hK => ?_) | with_reducible refine sp2 (fun K hK => ?_) | with_reducible refine sp3 (fun K hK => ?_) | with_reducible refine sp4 (fun K hK => ?_)
           go_simp
           first
           | (with_reducible refine hK _ _ ?_; clear hK K)
           | (with_reducible apply Exists.intro
              refine ⟨fun x hx => ?_, hK _ _ ?_⟩
              first
                | (with_reducible exact rfl)
                | (have y0 := keepc hx c0; have y1 := keepc hx c1; have y2 := keepc hx c2; have y3 := keepc hx d0; have y4 := keepc hx d1; have y5 := keepc hx d2; go_simp; done)
                | (have y0 := keepc hx c0; have y1 := keepc hx c1; have y2 := keepc hx c2; have y3 := keepc hx d0; have y4 := keepc hx d1; have y5 := keepc hx d2; go_simp; with_reducible exact rfl)
              clear hK K))
        | (first | with_reducible refine sk0 ?_ (fun K hK => ?_) | with_reducible refine sk1 ?_ (fun K hK => ?_) | with_reducible refine sk2 ?_ (fun K hK => ?_) | with_reducible refine sk3 ?_ (fun K hK => ?_) | with_reducible refine sk4 ?_ (fun K hK => ?_)
           rfl
           go_simp
           with_reducible refine hK _ _ ?_
           clear hK K)
      first | with_reducible refine sc0 (fun K hK => ?_) | with_reducible refine sc1 (fun K hK => ?_) | with_reducible refine sc2 (fun K hK => ?_) | with_reducible refine sc3 (fun K hK => ?_) | with_reducible refine sc4 (fun K hK => ?_)
      go_simp
      refine (HUT.out _ HX1.out).mono ?_
      clear c0 c1 c2 d0 d1 d2
      rintro e x2 ⟨rfl, hb9⟩
      refine ⟨hb9, hK _ _ ?_⟩
      clear hK K
      have HX2 := Lib.hid (HX1.out.trans (hb9.mono (HLE.out _ HX1.out)))
      clear hb9
      obtain ⟨⟨c0, c1, c2⟩, ⟨d0, d1, d2⟩⟩ := HCELL.out x2 HX2.out
      repeat
        first
        | (first | with_reducible refine sp0 (fun K hK => ?_) | with_reducible refine sp1 (fun K hK => ?_) | with_reducible refine sp2 (fun K hK => ?_) | with_reducible refine sp3 (fun K hK => ?_) | with_reducible refine sp4 (fun K hK => ?_)
           go_simp
           first
           | (with_reducible refine hK _ _ ?_; clear hK K)
           | (with_reducible apply Exists.intro
              refine ⟨fun x hx => ?_, hK _ _ ?_⟩
              first
                | (with_reducible exact rfl)
                | (have y0 := keepc hx c0; have y1 := keepc hx c1; have y2 := keepc hx c2; have y3 := keepc hx d0; have y4 := keepc hx d1; have y5 := keepc hx d2; go_simp; done)
                | (have y0 := keepc hx c0; have y1 := keepc hx c1; have y2 := keepc hx c2; have y3 := keepc hx d0; have y4 := keepc hx d1; have y5 := keepc hx d2; go_simp; with_reducible exact rfl)
              clear hK K))
        | (first | with_reducible refine sk0 ?_ (fun K hK => ?_) | with_reducible refine sk1 ?_ (fun K hK => ?_) | with_reducible refine sk2 ?_ (fun K hK => ?_) | with_reducible refine sk3 ?_ (fun K hK => ?_) | with_reducible refine sk4 ?_ (fun K hK => ?_)
           rfl
           go_simp
           with_reducible refine hK _ _ ?_
           clear hK K)
      first | with_reducible refine sc0 (fun K hK => ?_) | with_reducible refine sc1 (fun K hK => ?_) | with_reducible refine sc2 (fun K hK => ?_) | with_reducible refine sc3 (fun K hK => ?_) | with_reducible refine sc4 (fun K hK => ?_)
      go_simp
      refine (HSM.out _ HX2.out).mono ?_
      clear c0 c1 c2 d0 d1 d2
      rintro e x3 ⟨rfl, hb9⟩
      refine ⟨hb9, hK _ _ ?_⟩
      clear hK K
      have HX3 := Lib.hid (HX2.out.trans (hb9.mono (HLE.out _ HX2.out)))
      clear hb9
      obtain ⟨⟨c0, c1, c2⟩, ⟨d0, d1, d2⟩⟩ := HCELL.out x3 HX3.out
      repeat
        first
        | (first | with_reducible refine sp0 (fun K hK => ?_) | with_reducible refine sp1 (fun K hK => ?_) | with_reducible refine sp2 (fun K hK => ?_) | with_reducible refine sp3 (fun K hK => ?_) | with_reducible refine sp4 (fun K hK => ?_)
           go_simp
           first
           | (with_reducible refine hK _ _ ?_; clear hK K)
           | (with_reducible apply Exists.intro
              refine ⟨fun x hx => ?_, hK _ _ ?_⟩
              first
                | (with_reducible exact rfl)
                | (have y0 := keepc hx c0; have y1 := keepc hx c1; have y2 := keepc hx c2; have y3 := keepc hx d0; have y4 := keepc hx d1; have y5 := keepc hx d2; go_simp; done)
                | (have y0 := keepc hx c0; have y1 := keepc hx c1; have y2 := keepc hx c2; have y3 := keepc hx d0; have y4 := keepc hx d1; have y5 := keepc hx d2; go_simp; with_reducible exact rfl)
              clear hK K))
        | (first | with_reducible refine sk0 ?_ (fun K hK => ?_) | with_reducible refine sk1 ?_ (fun K hK => ?_) | with_reducible refine sk2 ?_ (fun K hK => ?_) | with_reducible refine sk3 ?_ (fun K hK => ?_) | with_reducible refine sk4 ?_ (fun K hK => ?_)
           rfl
           go_simp
           with_reducible refine hK _ _ ?_
           clear hK K)
      first | with_reducible refine sc0 (fun K hK => ?_) | with_reducible refine sc1 (fun K hK => ?_) | with_reducible refine sc2 (fun K hK => ?_) | with_reducible refine sc3 (fun K hK => ?_) | with_reducible refine sc4 (fun K hK => ?_)
      go_simp
      refine (HZU.out _ HX3.out).mono ?_
      clear c0 c1 c2 d0 d1 d2
      rintro e x4 ⟨rfl, hb9⟩
      refine ⟨hb9, hK _ _ ?_⟩
      clear hK K
      have HX4 := Lib.hid (HX3.out.trans (hb9.mono (HLE.out _ HX3.out)))
      clear hb9
      obtain ⟨⟨c0, c1, c2⟩, ⟨d0, d1, d2⟩⟩ := HCELL.out x4 HX4.out
      repeat
        first
        | (first | with_reducible refine sp0 (fun K hK => ?_) | with_reducible refine sp1 (fun K hK => ?_) | with_reducible refine sp2 (fun K hK => ?_) | with_reducible refine sp3 (fun K hK => ?_) | with_reducible refine sp4 (fun K hK => ?_)
           go_simp
           first
           | (with_reducible refine hK _ _ ?_; clear hK K)
           | (with_reducible apply Exists.intro
              refine ⟨fun x hx => ?_, hK _ _ ?_⟩
              first
                | (with_reducible exact rfl)
                | (have y0 := keepc hx c0; have y1 := keepc hx c1; have y2 := keepc hx c2; have y3 := keepc hx d0; have y4 := keepc hx d1; have y5 := keepc hx d2; go_simp; done)
                | (have y0 := keepc hx c0; have y1 := keepc hx c1; have y2 := keepc hx c2; have y3 := keepc hx d0; have y4 := keepc hx d1; have y5 := keepc hx d2; go_simp; with_reducible exact rfl)
              clear hK K))
        | (first | with_reducible refine sk0 ?_ (fun K hK => ?_) | with_reducible refine sk1 ?_ (fun K hK => ?_) | with_reducible refine sk2 ?_ (fun K hK => ?_) | with_reducible refine sk3 ?_ (fun K hK => ?_) | with_reducible refine sk4 ?_ (fun K hK => ?_)
           rfl
           go_simp
           with_reducible refine hK _ _ ?_
           clear hK K)
      first | with_reducible refine sc0 (fun K hK => ?_) | with_reducible refine sc1 (fun K hK => ?_) | with_reducible refine sc2 (fun K hK => ?_) | with_reducible refine sc3 (fun K hK => ?_) | with_reducible refine sc4 (fun K hK => ?_)
      go_simp
      refine (HZT.out _ HX4.out).mono ?_
      clear c0 c1 c2 d0 d1 d2
      rintro e x5 ⟨rfl, hb9⟩
      refine ⟨hb9, hK _ _ ?_⟩
      clear hK K
      have HX5 := Lib.hid (HX4.out.trans (hb9.mono (HLE.out _ HX4.out)))
      clear hb9
      obtain ⟨⟨c0, c1, c2⟩, ⟨d0, d1, d2⟩⟩ := HCELL.out x5 HX5.out
      repeat
        first
        | (first | with_reducible refine sp0 (fun K hK => ?_) | with_reducible refine sp1 (fun K hK => ?_) | with_reducible refine sp2 (fun K hK => ?_) | with_reducible refine sp3 (fun K hK => ?_) | with_reducible refine sp4 (fun K hK => ?_)
           go_simp
           first
           | (with_reducible refine hK _ _ ?_; clear hK K)
           | (with_reducible apply Exists.intro
              refine ⟨fun x hx => ?_, hK _ _ ?_⟩
              first
                | (with_reducible exact rfl)
                | (have y0 := keepc hx c0; have y1 := keepc hx c1; have y2 := keepc hx c2; have y3 := keepc hx d0; have y4 := keepc hx d1; have y5 := keepc hx d2; go_simp; done)
                | (have y0 := keepc hx c0; have y1 := keepc hx c1; have y2 := keepc hx c2; have y3 := keepc hx d0; have y4 := keepc hx d1; have y5 := keepc hx d2; go_simp; with_reducible exact rfl)
              clear hK K))
        | (first | with_reducible refine sk0 ?_ (fun K hK => ?_) | with_reducible refine sk1 ?_ (fun K hK => ?_) | with_reducible refine sk2 ?_ (fun K hK => ?_) | with_reducible refine sk3 ?_ (fun K hK => ?_) | with_reducible refine sk4 ?_ (fun K hK => ?_)
           rfl
           go_simp
           with_reducible refine hK _ _ ?_
           clear hK K)
      first | with_reducible refine sc0 (fun K hK => ?_) | with_reducible refine sc1 (fun K hK => ?_) | with_reducible refine sc2 (fun K hK => ?_) | with_reducible refine sc3 (fun K hK => ?_) | with_reducible refine sc4 (fun K hK => ?_)
      go_simp
      refine (HWAK.out _ HX5.out).mono ?_
      clear c0 c1 c2 d0 d1 d2
      rintro e x6 ⟨rfl, hb9⟩
      refine ⟨hb9, hK _ _ ?_⟩
      clear hK K
      have HX6 := Lib.hid (HX5.out.trans (hb9.mono (HLE.out _ HX5.out)))
      clear hb9
      repeat
        first
        | (first | with_reducible refine sp0 (fun K hK => ?_) | with_reducible refine sp1 (fun K hK => ?_) | with_reducible refine sp2 (fun K hK => ?_) | with_reducible refine sp3 (fun K hK => ?_) | with_reducible refine sp4 (fun K hK => ?_)
           go_simp
           first
           | (with_reducible refine hK _ _ ?_; clear hK K)
           | (with_reducible apply Exists.intro
              refine ⟨fun x hx => ?_, hK _ _ ?_⟩
              first
                | (with_reducible exact rfl)
              clear hK K))
        | (first | with_reducible refine sk0 ?_ (fun K hK => ?_) | with_reducible refine sk1 ?_ (fun K hK => ?_) | with_reducible refine sk2 ?_ (fun K hK => ?_) | with_reducible refine sk3 ?_ (fun K hK => ?_) | with_reducible refine sk4 ?_ (fun K hK => ?_)
           rfl
           go_simp
           with_reducible refine hK _ _ ?_
           clear hK K)
      with_reducible refine seq_nil ?_
      go_wp2_with fail
      go_ret
      exact ⟨rfl, HB6.out.tr HX6.out (Nat.le_refl _)⟩
end Go.Proofs.Ytcnnahmchjeakaa
