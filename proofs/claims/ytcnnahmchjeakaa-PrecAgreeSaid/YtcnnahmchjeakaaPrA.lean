/- The law PrecAgree: its walk. -/
import Derived.Test.YtcnnahmchjeakaaPrH
namespace Go.Proofs.Ytcnnahmchjeakaa
open Go Go.RowKit
open Tp (T)

namespace Tp
mutual
theorem fill_size : ∀ a b : T, size (fill a b) ≤ size a + size b
  | .mk k n l, .mk k' n' l' => by
    by_cases h : k = 5
    · rw [fill_dyn (show (T.mk k n l).kind = 5 from h)]; omega
    · by_cases hk : k = k'
      · rw [fill_eq (show ¬ (T.mk k n l).kind = 5 from h) (show (T.mk k n l).kind = (T.mk k' n' l').kind from hk)]
        have := fills_size l l'
        simp only [size, T.kids]
        omega
      · rw [fill_ne (show ¬ (T.mk k n l).kind = 5 from h) (show ¬ (T.mk k n l).kind = (T.mk k' n' l').kind from hk)]; omega
theorem fills_size : ∀ a b : List T, sizes (fills a b) ≤ sizes a + sizes b
  | [], [] => by simp [fills, sizes]
  | [], _ :: _ => by simp [fills, sizes]
  | _ :: _, [] => by simp [fills, sizes]
  | a :: r, b :: s => by
    have h1 := fill_size a b
    have h2 := fills_size r s
    simp only [fills, sizes]
    omega
end
end Tp
theorem fill9 {t u : T} (ht : Tp.right t = true) (hu : Tp.right u = true) (wt : Tp.without 6 t = true) (wu : Tp.without 6 u = true) : Tp.bl (Tp.fill t u) t = true ∧ Tp.bl (Tp.fill t u) u = Tp.ok t u := by
  obtain ⟨h1, h2, h3⟩ := Tp.fill_facts t u ht hu wt wu
  refine ⟨by rw [bl_right h1 ht, h2], ?_⟩
  rw [bl_right h1 hu, h3]
  unfold Tp.ok; rw [ht, hu]; rfl

set_option maxRecDepth 100000 in
set_option maxHeartbeats 8000000 in
theorem lagree9_any (t : T) (a : Option Addr) (cap : Nat) (u : T) (b : Option Addr) (cap' : Nat) (w : World) (hty : TyAt (LT w.heap.size) w t a cap) (hty' : TyAt (LT w.heap.size) w u b cap') :
    Calls Try.prog 6 #[tv t a cap, tv u b cap'] w fun e w' => e = .returned (.bool true) ∧ Below w.heap.size w w' := by
  obtain ⟨k0, n0, m0, hv⟩ := TV.mk t
  obtain ⟨k9, n9, m9, hv'⟩ := TV.mk u
  rw [tv_of hv, tv_of hv']
  obtain ⟨W3, hW3⟩ : ∃ W2, (w.alloc (.cells #[.int .i64 k0, .int .i64 n0, .slice a m0 cap] 24)).alloc (.cells #[.int .i64 k9, .int .i64 n9, .slice b m9 cap'] 24) = W2 := ⟨_, rfl⟩
  have hb3 : Below w.heap.size w W3 := by rw [← hW3]; exact ((Below.refl _ _).alloc (Nat.le_refl _) _).alloc (by simp) _
  have bx : BoxT W3 w.heap.size t k0 n0 m0 a cap := ⟨hv, by rw [← hW3]; exact box1 _ _ _ _ _, ty_later hty hb3⟩
  have bu : BoxT W3 (w.heap.size + 1) u k9 n9 m9 b cap' := ⟨hv', by rw [← hW3]; exact box2 _ _ _ _ _, ty_later hty' hb3⟩
  obtain ⟨rr, hrr⟩ : ∃ r, (!decide (600 < Tp.sizes [t, u]) && Tp.rights [t, u]) = r := ⟨_, rfl⟩
  have hri := lright_any [t, u] (some ⟨W3.heap.size, 0, none⟩) 2 _ (by simp) (row_two bx.ty bu.ty hv.1 hv.2.1 hv.2.2 hv'.1 hv'.2.1 hv'.2.2)
  rw [hrr] at hri
  obtain ⟨wt, hwt⟩ : ∃ r, Tp.without 6 t = r := ⟨_, rfl⟩
  obtain ⟨wu, hwu⟩ : ∃ r, Tp.without 6 u = r := ⟨_, rfl⟩
  have HWT := Lib.hid (fun x (h : Below W3.heap.size W3 x) => wo_any (w := x) 6 (bx.later h).says (bx.later h).ty)
  have HWU := Lib.hid (fun x (h : Below W3.heap.size W3 x) => wo_any (w := x) 6 (bu.later h).says (bu.later h).ty)
  rw [hwt] at HWT; rw [hwu] at HWU
  have HRI := Lib.hid hri; have HRR := Lib.hid hrr; have HB3 := Lib.hid hb3; have HW3 := Lib.hid hW3; have BX := Lib.hid bx; have BU := Lib.hid bu; have HWT' := Lib.hid hwt; have HWU' := Lib.hid hwu
  have HCEL3 := Lib.hid (fun x (h : Below W3.heap.size W3 x) => (⟨(bx.later h).cells, (bu.later h).cells⟩ : _ ∧ _))
  clear hri hrr hb3 hW3 hty hty' hv hv' hwt hwu
  go_enter Try.func6, Try.ntmps6
  go_upto_region 1 with fail
  rw [HW3.out]
  obtain ⟨c0, c1, c2⟩ := bx.cells
  obtain ⟨d0, d1, d2⟩ := bu.cells
  clear bx bu
  cases rr with
  | false =>
    go_wp2_with (go_at_call 18; refine HRI.out.mono ?_; clear c0 c1 c2 d0 d1 d2; rintro e w4 ⟨rfl, hb⟩; have HB4 := Lib.hid (Go.RowKit.Below.tr ((Below.refl W3.heap.size W3).alloc (Nat.le_refl _) _) hb (Nat.le_refl _)); clear hb)
    go_ret
    exact ⟨rfl, HB3.out.tr HB4.out (Nat.le_refl _)⟩
  | true =>
    cases wt with
    | false =>
      go_wp2_with (first | (go_at_call 18; refine HRI.out.mono ?_; clear c0 c1 c2 d0 d1 d2; rintro e w4 ⟨rfl, hb⟩; have HB4 := Lib.hid (Go.RowKit.Below.tr ((Below.refl W3.heap.size W3).alloc (Nat.le_refl _) _) hb (Nat.le_refl _)); clear hb; obtain ⟨⟨c0, c1, c2⟩, ⟨d0, d1, d2⟩⟩ := HCEL3.out _ HB4.out) | (go_at_call 20; with_reducible refine (HWT.out _ HB4.out).mono ?_; clear c0 c1 c2 d0 d1 d2; rintro e w5 ⟨rfl, hb⟩; have HB5 := Lib.hid (HB4.out.tr hb (Nat.le_refl _)); clear hb; obtain ⟨⟨c0, c1, c2⟩, ⟨d0, d1, d2⟩⟩ := HCEL3.out _ HB5.out))
      go_ret
      exact ⟨rfl, HB3.out.tr HB5.out (Nat.le_refl _)⟩
    | true =>
      cases wu with
      | false =>
        go_wp2_with (first | (go_at_call 18; refine HRI.out.mono ?_; clear c0 c1 c2 d0 d1 d2; rintro e w4 ⟨rfl, hb⟩; have HB4 := Lib.hid (Go.RowKit.Below.tr ((Below.refl W3.heap.size W3).alloc (Nat.le_refl _) _) hb (Nat.le_refl _)); clear hb; obtain ⟨⟨c0, c1, c2⟩, ⟨d0, d1, d2⟩⟩ := HCEL3.out _ HB4.out) | (go_at_call 20; with_reducible refine (HWT.out _ HB4.out).mono ?_; clear c0 c1 c2 d0 d1 d2; rintro e w5 ⟨rfl, hb⟩; have HB5 := Lib.hid (HB4.out.tr hb (Nat.le_refl _)); clear hb; obtain ⟨⟨c0, c1, c2⟩, ⟨d0, d1, d2⟩⟩ := HCEL3.out _ HB5.out) | (go_at_call 20; with_reducible refine (HWU.out _ HB5.out).mono ?_; clear c0 c1 c2 d0 d1 d2; rintro e w6 ⟨rfl, hb⟩; have HB6 := Lib.hid (HB5.out.tr hb (Nat.le_refl _)); clear hb))
        go_ret
        exact ⟨rfl, HB3.out.tr HB6.out (Nat.le_refl _)⟩
      | true =>
        go_upto_region 3 with (first | (go_at_call 18; refine HRI.out.mono ?_; clear c0 c1 c2 d0 d1 d2; rintro e w4 ⟨rfl, hb⟩; have HB4 := Lib.hid (Go.RowKit.Below.tr ((Below.refl W3.heap.size W3).alloc (Nat.le_refl _) _) hb (Nat.le_refl _)); clear hb; obtain ⟨⟨c0, c1, c2⟩, ⟨d0, d1, d2⟩⟩ := HCEL3.out _ HB4.out) | (go_at_call 20; with_reducible refine (HWT.out _ HB4.out).mono ?_; clear c0 c1 c2 d0 d1 d2; rintro e w5 ⟨rfl, hb⟩; have HB5 := Lib.hid (HB4.out.tr hb (Nat.le_refl _)); clear hb; obtain ⟨⟨c0, c1, c2⟩, ⟨d0, d1, d2⟩⟩ := HCEL3.out _ HB5.out) | (go_at_call 20; with_reducible refine (HWU.out _ HB5.out).mono ?_; clear c0 c1 c2 d0 d1 d2; rintro e w6 ⟨rfl, hb⟩; have HB6 := Lib.hid (HB5.out.tr hb (Nat.le_refl _)); clear hb))
        obtain ⟨hrt, hru, hsz⟩ := pair_right HRR.out
        have HST := Lib.hid (show Tp.size t ≤ 10000 by omega); have HSU := Lib.hid (show Tp.size u ≤ 10000 by omega)
        have HF9 := Lib.hid (fill9 hrt hru HWT'.out HWU'.out)
        have HSC := Lib.hid (show Tp.size (Tp.fill t u) ≤ 10000 by have := Tp.fill_size t u; omega)
        have bx6 := BX.out.later HB6.out; have bu6 := BU.out.later HB6.out
        have HBb := Lib.hid (HB3.out.tr HB6.out (Nat.le_refl _))
        have HCF := Lib.hid (fill_any w6.heap.size (Tp.size t) t u k0 n0 m0 a cap k9 n9 m9 b cap' w6 bx6.says bu6.says (Nat.le_refl _) HST.out hrt hru (Nat.le_refl _) bx6.ty bu6.ty)
        have BX6 := Lib.hid bx6; have BU6 := Lib.hid bu6
        clear hrt hru hsz
        obtain ⟨c0, c1, c2⟩ := bx6.cells
        obtain ⟨d0, d1, d2⟩ := bu6.cells
        clear bx6 bu6
        go_wp2_with fail
        refine HCF.out.mono ?_
        clear c0 c1 c2 d0 d1 d2
        rintro e w7 ⟨k1, n1, m1, a1, p1, hv1, rfl, ty1, hb⟩
        obtain ⟨W8, hW8⟩ : ∃ W5, w7.alloc (.cells #[.int .i64 k1, .int .i64 n1, .slice a1 m1 p1] 24) = W5 := ⟨_, rfl⟩
        obtain ⟨bm, hb8⟩ := box_new hv1 (ty_same (fun _ _ => rfl) (fun _ h => h.2) ty1) hW8
        have hbb := hb.tr hb8 (Nat.le_refl _)
        have bx8 := BX6.out.later hbb; have bu8 := BU6.out.later hbb; have HB8 := Lib.hid (HBb.out.tr hbb (Nat.le_refl _)); have HW8 := Lib.hid hW8
        have HAG := Lib.hid (fun x (h : Below W8.heap.size W8 x) => ag_any (w := x) (bx8.later h).says (bu8.later h).says (bx8.later h).ty (bu8.later h).ty HST.out HSU.out)
        have HCT := Lib.hid (fun x (h : Below W8.heap.size W8 x) => bl_any (w := x) (bm.later h).says (bx8.later h).says (bm.later h).ty (bx8.later h).ty HSC.out HST.out)
        have HCU := Lib.hid (fun x (h : Below W8.heap.size W8 x) => bl_any (w := x) (bm.later h).says (bu8.later h).says (bm.later h).ty (bu8.later h).ty HSC.out HSU.out)
        have HWAK := Lib.hid (fun x (_ : Below W8.heap.size W8 x) => wakes9_any x)
        have HCELL := Lib.hid (fun x (h : Below W8.heap.size W8 x) => (⟨(bx8.later h).cells, (bu8.later h).cells, (bm.later h).cells⟩ : _ ∧ _ ∧ _))
        have HLE := Lib.hid (fun x (h : Below W8.heap.size W8 x) => h.size)
        obtain ⟨o, ho⟩ : ∃ b, Tp.ok t u = b := ⟨_, rfl⟩
        have hf9 := HF9.out
        rw [ho] at hf9 HAG
        rw [hf9.1] at HCT; rw [hf9.2] at HCU
        clear hb ty1 hv1 hW8 bm hb8 hbb bx8 bu8 ho hf9
        go_upto_region 4 with fail
        rw [HW8.out]
        have HBd := Lib.hid (Below.refl W8.heap.size W8).drew
        obtain ⟨⟨c0, c1, c2⟩, ⟨d0, d1, d2⟩, ⟨e0, e1, e2⟩⟩ := HCELL.out _ HBd.out
        cases o
        all_goals
          refine wp_region_seq [(0, false), (0, false), (1, false), (1, false), (0, true), (0, true), (0, false), (0, false), (0, false), (0, true), (0, false), (0, false), (0, false), (0, false), (0, false), (0, true), (0, false), (0, false), (0, true), (0, false), (0, false)] (by kernel_rfl) (by kernel_rfl) (by kernel_rfl) (fun _ _ _ d _ h => by cases d <;> exact h) ?_
          repeat
            first
            | (first | with_reducible refine sp0 (fun K hK => ?_) | with_reducible refine sp1 (fun K hK => ?_) | with_reducible refine sp2 (fun K hK => ?_) | with_reducible refine sp3 (fun K hK => ?_) | with_reducible refine sp4 (fun K hK => ?_)
               go_simp
               first
               | (with_reducible refine hK _ _ ?_; clear hK K)
               | (with_reducible apply Exists.intro
                  refine ⟨fun x hx => ?_, hK _ _ ?_⟩
                  first
                    | (with_reducible exact rfl)
                    | (have y0 := keepc hx c0; have y1 := keepc hx c1; have y2 := keepc hx c2; have y3 := keepc hx d0; have y4 := keepc hx d1; have y5 := keepc hx d2; have y6 := keepc hx e0; have y7 := keepc hx e1; have y8 := keepc hx e2; go_simp; done)
                    | (have y0 := keepc hx c0; have y1 := keepc hx c1; have y2 := keepc hx c2; have y3 := keepc hx d0; have y4 := keepc hx d1; have y5 := keepc hx d2; have y6 := keepc hx e0; have y7 := keepc hx e1; have y8 := keepc hx e2; go_simp; with_reducible exact rfl)
                  clear hK K))
            | (first | with_reducible refine sk0 ?_ (fun K hK => ?_) | with_reducible refine sk1 ?_ (fun K hK => ?_) | with_reducible refine sk2 ?_ (fun K hK => ?_) | with_reducible refine sk3 ?_ (fun K hK => ?_) | with_reducible refine sk4 ?_ (fun K hK => ?_)
               rfl
               go_simp
               with_reducible refine hK _ _ ?_
               clear hK K)
          first | with_reducible refine sc0 (fun K hK => ?_) | with_reducible refine sc1 (fun K hK => ?_) | with_reducible refine sc2 (fun K hK => ?_) | with_reducible refine sc3 (fun K hK => ?_) | with_reducible refine sc4 (fun K hK => ?_)
          go_simp
          refine (HAG.out _ HBd.out).mono ?_
          clear c0 c1 c2 d0 d1 d2 e0 e1 e2
          rintro e x1 ⟨rfl, hb9⟩
          refine ⟨hb9, hK _ _ ?_⟩
          clear hK K
          have HX1 := Lib.hid (HBd.out.trans (hb9.mono (HLE.out _ HBd.out)))
          clear hb9
          obtain ⟨⟨c0, c1, c2⟩, ⟨d0, d1, d2⟩, ⟨e0, e1, e2⟩⟩ := HCELL.out x1 HX1.out
          repeat
            first
            | (first | with_reducible refine sp0 (fun K hK => ?_) | with_reducible refine sp1 (fun K hK => ?_) | with_reducible refine sp2 (fun K hK => ?_) | with_reducible refine sp3 (fun K hK => ?_) | with_reducible refine sp4 (fun K hK => ?_)
               go_simp
               first
               | (with_reducible refine hK _ _ ?_; clear hK K)
               | (with_reducible apply Exists.intro
                  refine ⟨fun x hx => ?_, hK _ _ ?_⟩
                  first
                    | (with_reducible exact rfl)
                    | (have y0 := keepc hx c0; have y1 := keepc hx c1; have y2 := keepc hx c2; have y3 := keepc hx d0; have y4 := keepc hx d1; have y5 := keepc hx d2; have y6 := keepc hx e0; have y7 := keepc hx e1; have y8 := keepc hx e2; go_simp; done)
                    | (have y0 := keepc hx c0; have y1 := keepc hx c1; have y2 := keepc hx c2; have y3 := keepc hx d0; have y4 := keepc hx d1; have y5 := keepc hx d2; have y6 := keepc hx e0; have y7 := keepc hx e1; have y8 := keepc hx e2; go_simp; with_reducible exact rfl)
                  clear hK K))
            | (first | with_reducible refine sk0 ?_ (fun K hK => ?_) | with_reducible refine sk1 ?_ (fun K hK => ?_) | with_reducible refine sk2 ?_ (fun K hK => ?_) | with_reducible refine sk3 ?_ (fun K hK => ?_) | with_reducible refine sk4 ?_ (fun K hK => ?_)
               rfl
               go_simp
               with_reducible refine hK _ _ ?_
               clear hK K)
          first | with_reducible refine sc0 (fun K hK => ?_) | with_reducible refine sc1 (fun K hK => ?_) | with_reducible refine sc2 (fun K hK => ?_) | with_reducible refine sc3 (fun K hK => ?_) | with_reducible refine sc4 (fun K hK => ?_)
          go_simp
          refine (HCT.out _ HX1.out).mono ?_
          clear c0 c1 c2 d0 d1 d2 e0 e1 e2
          rintro e x2 ⟨rfl, hb9⟩
          refine ⟨hb9, hK _ _ ?_⟩
          clear hK K
          have HX2 := Lib.hid (HX1.out.trans (hb9.mono (HLE.out _ HX1.out)))
          clear hb9
          obtain ⟨⟨c0, c1, c2⟩, ⟨d0, d1, d2⟩, ⟨e0, e1, e2⟩⟩ := HCELL.out x2 HX2.out
          repeat
            first
            | (first | with_reducible refine sp0 (fun K hK => ?_) | with_reducible refine sp1 (fun K hK => ?_) | with_reducible refine sp2 (fun K hK => ?_) | with_reducible refine sp3 (fun K hK => ?_) | with_reducible refine sp4 (fun K hK => ?_)
               go_simp
               first
               | (with_reducible refine hK _ _ ?_; clear hK K)
               | (with_reducible apply Exists.intro
                  refine ⟨fun x hx => ?_, hK _ _ ?_⟩
                  first
                    | (with_reducible exact rfl)
                    | (have y0 := keepc hx c0; have y1 := keepc hx c1; have y2 := keepc hx c2; have y3 := keepc hx d0; have y4 := keepc hx d1; have y5 := keepc hx d2; have y6 := keepc hx e0; have y7 := keepc hx e1; have y8 := keepc hx e2; go_simp; done)
                    | (have y0 := keepc hx c0; have y1 := keepc hx c1; have y2 := keepc hx c2; have y3 := keepc hx d0; have y4 := keepc hx d1; have y5 := keepc hx d2; have y6 := keepc hx e0; have y7 := keepc hx e1; have y8 := keepc hx e2; go_simp; with_reducible exact rfl)
                  clear hK K))
            | (first | with_reducible refine sk0 ?_ (fun K hK => ?_) | with_reducible refine sk1 ?_ (fun K hK => ?_) | with_reducible refine sk2 ?_ (fun K hK => ?_) | with_reducible refine sk3 ?_ (fun K hK => ?_) | with_reducible refine sk4 ?_ (fun K hK => ?_)
               rfl
               go_simp
               with_reducible refine hK _ _ ?_
               clear hK K)
          first | with_reducible refine sc0 (fun K hK => ?_) | with_reducible refine sc1 (fun K hK => ?_) | with_reducible refine sc2 (fun K hK => ?_) | with_reducible refine sc3 (fun K hK => ?_) | with_reducible refine sc4 (fun K hK => ?_)
          go_simp
          refine (HCU.out _ HX2.out).mono ?_
          clear c0 c1 c2 d0 d1 d2 e0 e1 e2
          rintro e x3 ⟨rfl, hb9⟩
          refine ⟨hb9, hK _ _ ?_⟩
          clear hK K
          have HX3 := Lib.hid (HX2.out.trans (hb9.mono (HLE.out _ HX2.out)))
          clear hb9
          obtain ⟨⟨c0, c1, c2⟩, ⟨d0, d1, d2⟩, ⟨e0, e1, e2⟩⟩ := HCELL.out x3 HX3.out
          repeat
            first
            | (first | with_reducible refine sp0 (fun K hK => ?_) | with_reducible refine sp1 (fun K hK => ?_) | with_reducible refine sp2 (fun K hK => ?_) | with_reducible refine sp3 (fun K hK => ?_) | with_reducible refine sp4 (fun K hK => ?_)
               go_simp
               first
               | (with_reducible refine hK _ _ ?_; clear hK K)
               | (with_reducible apply Exists.intro
                  refine ⟨fun x hx => ?_, hK _ _ ?_⟩
                  first
                    | (with_reducible exact rfl)
                    | (have y0 := keepc hx c0; have y1 := keepc hx c1; have y2 := keepc hx c2; have y3 := keepc hx d0; have y4 := keepc hx d1; have y5 := keepc hx d2; have y6 := keepc hx e0; have y7 := keepc hx e1; have y8 := keepc hx e2; go_simp; done)
                    | (have y0 := keepc hx c0; have y1 := keepc hx c1; have y2 := keepc hx c2; have y3 := keepc hx d0; have y4 := keepc hx d1; have y5 := keepc hx d2; have y6 := keepc hx e0; have y7 := keepc hx e1; have y8 := keepc hx e2; go_simp; with_reducible exact rfl)
                  clear hK K))
            | (first | with_reducible refine sk0 ?_ (fun K hK => ?_) | with_reducible refine sk1 ?_ (fun K hK => ?_) | with_reducible refine sk2 ?_ (fun K hK => ?_) | with_reducible refine sk3 ?_ (fun K hK => ?_) | with_reducible refine sk4 ?_ (fun K hK => ?_)
               rfl
               go_simp
               with_reducible refine hK _ _ ?_
               clear hK K)
          first | with_reducible refine sc0 (fun K hK => ?_) | with_reducible refine sc1 (fun K hK => ?_) | with_reducible refine sc2 (fun K hK => ?_) | with_reducible refine sc3 (fun K hK => ?_) | with_reducible refine sc4 (fun K hK => ?_)
          go_simp
          refine (HCT.out _ HX3.out).mono ?_
          clear c0 c1 c2 d0 d1 d2 e0 e1 e2
          rintro e x4 ⟨rfl, hb9⟩
          refine ⟨hb9, hK _ _ ?_⟩
          clear hK K
          have HX4 := Lib.hid (HX3.out.trans (hb9.mono (HLE.out _ HX3.out)))
          clear hb9
          obtain ⟨⟨c0, c1, c2⟩, ⟨d0, d1, d2⟩, ⟨e0, e1, e2⟩⟩ := HCELL.out x4 HX4.out
          repeat
            first
            | (first | with_reducible refine sp0 (fun K hK => ?_) | with_reducible refine sp1 (fun K hK => ?_) | with_reducible refine sp2 (fun K hK => ?_) | with_reducible refine sp3 (fun K hK => ?_) | with_reducible refine sp4 (fun K hK => ?_)
               go_simp
               first
               | (with_reducible refine hK _ _ ?_; clear hK K)
               | (with_reducible apply Exists.intro
                  refine ⟨fun x hx => ?_, hK _ _ ?_⟩
                  first
                    | (with_reducible exact rfl)
                    | (have y0 := keepc hx c0; have y1 := keepc hx c1; have y2 := keepc hx c2; have y3 := keepc hx d0; have y4 := keepc hx d1; have y5 := keepc hx d2; have y6 := keepc hx e0; have y7 := keepc hx e1; have y8 := keepc hx e2; go_simp; done)
                    | (have y0 := keepc hx c0; have y1 := keepc hx c1; have y2 := keepc hx c2; have y3 := keepc hx d0; have y4 := keepc hx d1; have y5 := keepc hx d2; have y6 := keepc hx e0; have y7 := keepc hx e1; have y8 := keepc hx e2; go_simp; with_reducible exact rfl)
                  clear hK K))
            | (first | with_reducible refine sk0 ?_ (fun K hK => ?_) | with_reducible refine sk1 ?_ (fun K hK => ?_) | with_reducible refine sk2 ?_ (fun K hK => ?_) | with_reducible refine sk3 ?_ (fun K hK => ?_) | with_reducible refine sk4 ?_ (fun K hK => ?_)
               rfl
               go_simp
               with_reducible refine hK _ _ ?_
               clear hK K)
          first | with_reducible refine sc0 (fun K hK => ?_) | with_reducible refine sc1 (fun K hK => ?_) | with_reducible refine sc2 (fun K hK => ?_) | with_reducible refine sc3 (fun K hK => ?_) | with_reducible refine sc4 (fun K hK => ?_)
          go_simp
          refine (HWAK.out _ HX4.out).mono ?_
          clear c0 c1 c2 d0 d1 d2 e0 e1 e2
          rintro e x5 ⟨rfl, hb9⟩
          refine ⟨hb9, hK _ _ ?_⟩
          clear hK K
          have HX5 := Lib.hid (HX4.out.trans (hb9.mono (HLE.out _ HX4.out)))
          clear hb9
          repeat
            first
            | (first | with_reducible refine sp0 (fun K hK => ?_) | with_reducible refine sp1 (fun K hK => ?_) | with_reducible refine sp2 (fun K hK => ?_) | with_reducible refine sp3 (fun K hK => ?_) | with_reducible refine sp4 (fun K hK => ?_)
               go_simp
               first
               | (with_reducible refine hK _ _ ?_; clear hK K)
               | (with_reducible apply Exists.intro
                  refine ⟨fun x hx => ?_, hK _ _ ?_⟩
                  first
                    | (with_reducible exact rfl)
                  clear hK K))
            | (first | with_reducible refine sk0 ?_ (fun K hK => ?_) | with_reducible refine sk1 ?_ (fun K hK => ?_) | with_reducible refine sk2 ?_ (fun K hK => ?_) | with_reducible refine sk3 ?_ (fun K hK => ?_) | with_reducible refine sk4 ?_ (fun K hK => ?_)
               rfl
               go_simp
               with_reducible refine hK _ _ ?_
               clear hK K)
          with_reducible refine seq_nil ?_
          go_wp2_with fail
          go_ret
          exact ⟨rfl, HB8.out.tr HX5.out (Nat.le_refl _)⟩
end Go.Proofs.Ytcnnahmchjeakaa
